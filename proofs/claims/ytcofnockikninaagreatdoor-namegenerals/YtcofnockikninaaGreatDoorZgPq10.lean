/- Parts of the walk. -/
import Derived.Test.YtcofnockikninaaGreatDoorZgOA
import Derived.Deep.MidRow
import Derived.BigRegion
set_option maxRecDepth 100000
set_option maxHeartbeats 8000000
namespace Go.Proofs.YtcofnockikninaaGreatDoor
open Go.RowKit
def textP (t : Bs) : Bool := !decide (t = []) && decide (t.length ≤ 64) && Lib.validD t
def textT (t : Bs) : Nat := if (t.all fun c => prnN c.toNat) = true then 19 else 12
def pairDV (a : Bs × Bs) : DV := .mk 0 16 true [] [oidV a.1, .mk 0 (textT a.2 : Int) false a.2 []]
def attrDV (a : Bs × Bs) : DV := .mk 0 17 true [] [pairDV a]
def dnV (d : List (Bs × Bs)) : Told DV :=
 if 16 < d.length then .no 30 else
 if (d.all fun a => (oidVP a.1).isSome) = false then .no 30 else
 if (d.all fun a => textP a.2) = false then .no 31 else .yes (.mk 0 16 true [] (d.map attrDV))
theorem grown_setCells (w : World) (B : Nat) : ∀ (vs : List Value) (o : Nat) (w2 : World), w.grownBy w2 (some B) → w.grownBy (w2.setCells B o vs) (some B)
 | [], _, _, h => h
 | v :: r, o, _, h => grown_setCells w B r (o + 1) _ (grown_setCell h ⟨B, o, none⟩ v rfl)
theorem setCells_res (B : Nat) : ∀ (vs : List Value) (o : Nat) (w : World) (cs : Array Value) (t : TypeId), w.heap[B]? = some (.cells cs t (0, 0)) → ∃ cs', (w.setCells B o vs).heap[B]? = some (.cells cs' t (0, 0)) ∧ cs'.size = cs.size
 | [], _, _, cs, _, h => ⟨cs, h, rfl⟩
 | v :: r, o, w, cs, t, h => by
  obtain ⟨cs', h1, h2⟩ := setCells_res B r (o + 1) _ _ t (heap_setCell_same w B o cs t v h)
  exact ⟨cs', h1, by rw [h2]; simp⟩
structure DRow (S : Nat → Prop) (w : World) (B n : Nat) (vs : List DV) : Prop where
 res : ∃ cs : Array Value, w.heap[B]? = some (.cells cs 25 (0, 0)) ∧ cs.size = n * 5
 at_ : ∀ (j : Nat) (v : DV), vs[j]? = some v → ∃ ds, CellsAt w B (j * 5) ds ∧ ValAt S w ds v
theorem DRow.lt {S : Nat → Prop} {w : World} {B n : Nat} {vs : List DV} (h : DRow S w B n vs) : B < w.heap.size := by
 obtain ⟨cs, h1, _⟩ := h.res
 exact (Array.getElem?_eq_some_iff.1 h1).1
theorem DRow.below {S : Nat → Prop} {w w' : World} {B n : Nat} {vs : List DV} (h : DRow S w B n vs) (hb : Below w.heap.size w w') : DRow S w' B n vs := by
 refine ⟨?_, fun j v hj => ?_⟩
 ·obtain ⟨cs, h1, h2⟩ := h.res
  exact ⟨cs, by rw [hb.block B h.lt]; exact h1, h2⟩
 ·obtain ⟨ds, h1, h2⟩ := h.at_ j v hj
  exact ⟨ds, h1.below hb, h2.below hb⟩
theorem DRow.mono {S S' : Nat → Prop} {w : World} {B n : Nat} {vs : List DV} (h : DRow S w B n vs) (hS : ∀ b, S b → b < w.heap.size → S' b) : DRow S' w B n vs :=
 ⟨h.res, fun j v hj => by obtain ⟨ds, h1, h2⟩ := h.at_ j v hj; exact ⟨ds, h1, h2.mono hS⟩⟩
theorem DRow.kept {S : Nat → Prop} {w w' : World} {B n C : Nat} {vs : List DV} (h : DRow S w B n vs) (hg : w.grownBy w' (some C)) (hne : B ≠ C) (hS : ¬ S C) : DRow S w' B n vs := by
 refine ⟨?_, fun j v hj => ?_⟩
 ·obtain ⟨cs, h1, h2⟩ := h.res
  exact ⟨cs, by rw [hg.block B h.lt (fun e => hne (by simpa using e))]; exact h1, h2⟩
 ·obtain ⟨ds, h1, h2⟩ := h.at_ j v hj
  exact ⟨ds, h1.kept hg (fun e => hne (by simpa using e)), h2.kept hg (fun g e hs => by simp only [Option.some.injEq] at e; subst e; exact hS hs)⟩
theorem DRow.there {S : Nat → Prop} {w : World} {B n : Nat} {vs : List DV} (h : DRow S w B n vs) (k : Nat) (hk : k < n) : w.there B (k * 5) 5 := fun j hj => by
 obtain ⟨cs, h1, h2⟩ := h.res
 refine ⟨?_, frozen_of_row w B _ cs 25 h1⟩
 rw [cell_of_row w B _ cs 25 (0, 0) h1, Array.getElem?_eq_getElem (by omega)]
 rfl
theorem DRow.set {S : Nat → Prop} {w : World} {B n k : Nat} {vs : List DV} {ds : List Value} {v : DV} (h : DRow S w B n vs) (hk : vs.length = k) (hn : k < n) (hds : ds.length = 5) (hv : ValAt S w ds v) (hS : ¬ S B) : DRow S (w.setCells B (k * 5) ds) B n (vs ++ [v]) := by
 have hg : w.grownBy (w.setCells B (k * 5) ds) (some B) := grown_setCells w B ds (k * 5) w (World.grownBy.refl _ _)
 have hkept : ∀ {cs : List Value} {u : DV}, ValAt S w cs u → ValAt S (w.setCells B (k * 5) ds) cs u := fun hu => hu.kept hg (fun g e hs => by simp only [Option.some.injEq] at e; subst e; exact hS hs)
 refine ⟨?_, fun j u hj => ?_⟩
 ·obtain ⟨cs, h1, h2⟩ := h.res
  obtain ⟨cs', h3, h4⟩ := setCells_res B ds (k * 5) w cs 25 h1
  exact ⟨cs', h3, by rw [h4]; exact h2⟩
 ·by_cases hjk : j < k
  ·rw [List.getElem?_append_left (by omega)] at hj
   obtain ⟨cs, h1, h2⟩ := h.at_ j u hj
   obtain ⟨m, h2'⟩ := h2
   have hl := h2'.len
   exact ⟨cs, World.rangeAt_setCells_apart (w := w) h1 B (k * 5) ds (Or.inr (Or.inl (by omega))), hkept ⟨m, h2'⟩⟩
  ·have hjl : j < (vs ++ [v]).length := (List.getElem?_eq_some_iff.1 hj).1
   have e : j = k := by rw [List.length_append, List.length_singleton] at hjl; omega
   subst e
   rw [List.getElem?_append_right (by omega), hk, Nat.sub_self] at hj
   simp only [List.getElem?_cons_zero, Option.some.injEq] at hj
   subst hj
   exact ⟨ds, World.rangeAt_setCells_same w B (j * 5) ds (by rw [hds]; exact h.there j hn), hkept hv⟩
theorem dv_info : ∃ i, Tryz.prog.info? 25 = some i ∧ i.zero = some (.agg #[.int .i64 0, .int .i64 0, .bool false, .slice none 0 0, .slice none 0 0]) ∧ i.size = 5 ∧ i.bytes = 72 := by
 have h : (Tryz.prog.info? 25).map (fun i => (i.zero, i.size, i.bytes)) = some (some (.agg #[.int .i64 0, .int .i64 0, .bool false, .slice none 0 0, .slice none 0 0]), 5, 72) := by kernel_rfl
 obtain ⟨i, hi, h2⟩ := Option.map_eq_some_iff.1 h
 simp only [Prod.mk.injEq] at h2
 exact ⟨i, hi, h2.1, h2.2.1, h2.2.2⟩
theorem made_five (w : World) (n : Nat) (hn : n ≤ 1000) : ∃ W, (Instr.makeSlice 23 (.int .i64 (n : Int)) (.int .i64 (n : Int))).run Tryz.prog w = .ok (.slice (some ⟨w.heap.size, 0, none⟩) n n) W ∧ (∀ S, DRow S W w.heap.size n []) ∧ Below w.heap.size w W := by
 obtain ⟨i, hi, hz, hsz, hby⟩ := dv_info
 refine ⟨_, run_make (P := Tryz.prog) w 23 25 i _ Tryz.underlying23 hi hz .i64 .i64 n n (by omega) (by omega) (by rw [hby]; omega) (by omega), fun S => ⟨⟨_, heap_alloc_new w _, ?_⟩, fun j v hj => by simp at hj⟩, (Below.refl _ _).alloc (Nat.le_refl _) _⟩
 rw [hsz, Int.toNat_natCast]
 simp [madeCells]
theorem made_val {S : Nat → Prop} {w : World} {B n c : Nat} {t : Int} {vs : List DV} (h : DRow S w B n vs) (hn : vs.length = n) (hc : n ≤ c) (hb : n ≤ 9223372036854775807) (hS : S B) : ValAt S w (dcells 0 t true (.slice none 0 0) (.slice (some ⟨B, 0, none⟩) n c)) (.mk 0 t true [] vs) := by
 have hall : ∃ m, ∀ (j : Nat) (v : DV), vs[j]? = some v → ∃ ds, CellsAt w B (j * 5) ds ∧ VAt m S w ds v := by
  have key : ∀ (k : Nat), k ≤ vs.length → ∃ m, ∀ (j : Nat) (v : DV), j < k → vs[j]? = some v → ∃ ds, CellsAt w B (j * 5) ds ∧ VAt m S w ds v := fun k => by
   induction k with
   | zero => exact fun _ => ⟨0, fun j v hj => absurd hj (by omega)⟩
   | succ k ih =>
    intro hk
    obtain ⟨m, hm⟩ := ih (by omega)
    obtain ⟨v, hv⟩ : ∃ v, vs[k]? = some v := ⟨_, List.getElem?_eq_getElem (by omega)⟩
    obtain ⟨ds, h1, m2, h2⟩ := h.at_ k v hv
    refine ⟨max m m2, fun j u hj hu => ?_⟩
    by_cases hjk : j < k
    ·obtain ⟨es, e1, e2⟩ := hm j u hjk hu
     exact ⟨es, e1, e2.more (Nat.le_max_left _ _)⟩
    ·have e : j = k := by omega
     subst e
     rw [hv] at hu
     cases hu
     exact ⟨ds, h1, h2.more (Nat.le_max_right _ _)⟩
  obtain ⟨m, hm⟩ := key vs.length (Nat.le_refl _)
  exact ⟨m, fun j v hj => hm j v (List.getElem?_eq_some_iff.1 hj).1 hj⟩
 obtain ⟨m, hm⟩ := hall
 refine ⟨m + 1, .slice none 0 0, some ⟨B, 0, none⟩, c, ?_, bytes_nil w, fun h => absurd rfl h, ⟨by simp [DV.bytes], by simp only [DV.kids]; omega⟩, by simp only [DV.kids]; omega, fun e => (by cases e), fun _ => ⟨B, 0, rfl, hS, fun i k hik => ?_⟩⟩
 ·simp only [DV.kids, hn]
  rfl
 ·obtain ⟨ds, h1, h2⟩ := hm i k hik
  exact ⟨ds, by rw [Nat.zero_add]; exact h1, h2⟩
namespace N
open K
theorem istext_c (w : World) (hR : Rdy w) (s : ByteArray) (hs : s.size ≤ 1000000) : Calls Tryz.prog 56 #[.string s] w fun e w' => e = .returned (.bool (textP (bs s))) ∧ Below w.heap.size w w' := by
 obtain ⟨N, hN⟩ := exq s.size
 obtain ⟨E, hE⟩ := exq (decide (bs s = []))
 obtain ⟨L, hL⟩ := exq (decide (N ≤ 64))
 obtain ⟨V, hV⟩ := exq (Lib.validD (bs s))
 have HT : Hid (textP (bs s) = (!E && L && V)) := by
  show _ = _
  unfold textP
  rw [hE, bs_len, hN, hL, hV]
 have he : (s.toList == ([] : Bs)) = E := by rw [nil_str]; exact hE
 have hl : decide ((N : Int) ≤ 64) = L := by rw [← hL, decide_eq_decide]; omega
 have Hv := h_ (Tryz.utf8_ValidString s w (by omega) hR.tabs)
 rw [show Lib.validD s.data.toList = V from hV] at Hv
 have Hb := h_ (Below.refl w.heap.size w)
 clear hE hV hR
 cases E with
 | true =>
  go_enter Tryz.func56, Tryz.ntmps56
  go_wp2
  go_ret
  exact ⟨by rw [u_ HT]; rfl, u_ Hb⟩
 | false =>
  cases L with
  | false =>
   have l2 : ¬ N ≤ 64 := of_decide_eq_false hL
   go_enter Tryz.func56, Tryz.ntmps56
   go_wp2
   go_ret
   exact ⟨by rw [u_ HT]; rfl, u_ Hb⟩
  | true =>
   have l2 : N ≤ 64 := of_decide_eq_true hL
   go_enter Tryz.func56, Tryz.ntmps56
   go_wp2_with fail
   refine Hv.mono ?_
   rintro e w2 ⟨rfl, hb⟩
   have HB := h_ hb
   clear hb
   go_wp2
   go_ret
   exact ⟨by rw [u_ HT]; cases V <;> rfl, u_ HB⟩
theorem texttag_c (w : World) (s : ByteArray) (hs : s.size ≤ 1000000) : Calls Tryz.prog 57 #[.string s] w fun e w' => e = .returned (.int .i64 (textT (bs s) : Int)) ∧ Below w.heap.size w w' := by
 obtain ⟨V, hV⟩ := exq ((bs s).all fun c => prnN c.toNat)
 have Hev := h_ (every_c 89 _ questPrn s (by omega) w)
 rw [hV] at Hev
 have HT : Hid (textT (bs s) = if V = true then 19 else 12) := by show _ = _; unfold textT; rw [hV]
 clear hV
 cases V <;>
 ·go_enter Tryz.func57, Tryz.ntmps57
  go_wp2_with fail
  refine Hev.mono ?_
  rintro e w2 ⟨rfl, hb⟩
  have HB := h_ hb
  clear hb
  go_wp2
  go_ret
  exact ⟨by rw [u_ HT]; rfl, u_ HB⟩
theorem made_c (w : World) (t : Int) (sp : Option Addr) (n c : Nat) : Calls Tryz.prog 61 #[.int .i64 t, .slice sp n c] w fun e w' => e = .returned (.agg #[.int .i64 0, .int .i64 t, .bool true, .slice none 0 0, .slice sp n c]) ∧ Below w.heap.size w w' := by
 obtain ⟨w1, R, hw1, eR, hR0⟩ := blkN (Below.refl w.heap.size w) #[.int .i64 0, .int .i64 0, .bool false, .slice none 0 0, .slice none 0 0] 25
 have HR := h_ hR0
 have H6 : Hid ((#[.int .i64 0, .int .i64 t, .bool true, .slice none 0 0, .slice sp n c] : Array Value).all (·.oneCell') = true) := by show _ = true; simp [Value.oneCell']
 clear hR0
 go_enter Tryz.func61, Tryz.ntmps61
 go_upto_region 1 with fail
 go_wp2_with (refine wpList_store_row rfl 25 _ _ rfl R _ rfl rfl 25 _ HR.res value5 rfl (u_ H6) ?_)
 exact bodyPost_ret (results_cell_row Tryz.results61 _ _ R 25 #[.int .i64 0, .int .i64 t, .bool true, .slice none 0 0, .slice sp n c] (0, 0) _ rfl (HR.set #[.int .i64 0, .int .i64 t, .bool true, .slice none 0 0, .slice sp n c]).res Tryz.underlying25 rfl value5) rfl ⟨rfl, (HR.set #[.int .i64 0, .int .i64 t, .bool true, .slice none 0 0, .slice sp n c]).b⟩
end N
def sameP (a b : List (Bs × Bs)) : Bool := decide (a = b)
theorem dnc_at {w : World} {sp : Option Addr} {n c : Nat} {d : List (Bs × Bs)} (h : DnAt w (.slice sp n c) d) {k : Nat} (hk : k < d.length) : ∃ (a : Bs × Bs) (bb oo : Nat), d[k]? = some a ∧ sp = some ⟨bb, oo, none⟩ ∧ w.cell? ⟨bb, oo + k * 2, none⟩ = some (.string (N.st a.1)) ∧ w.cell? ⟨bb, oo + k * 2 + 1, none⟩ = some (.string (N.st a.2)) := by
 obtain ⟨sp', c', e, _, _, h3⟩ := h
 simp only [Value.slice.injEq] at e
 obtain ⟨rfl, _, _⟩ := e
 obtain ⟨b, o, e2, hc⟩ := h3 (fun e => by rw [e] at hk; simp at hk)
 obtain ⟨a, ha⟩ : ∃ a, d[k]? = some a := ⟨_, List.getElem?_eq_getElem hk⟩
 exact ⟨a, b, o, ha, e2, (hc k a ha).1, (hc k a ha).2⟩
namespace N
open K
theorem equal_c (w : World) (sa sb : Option Addr) (n m ca cb : Nat) (da db : List (Bs × Bs)) (ha : DnAt w (.slice sa n ca) da) (hb : DnAt w (.slice sb m cb) db) (hn : da.length = n) (hm : db.length = m) (hn9 : n ≤ 1000000000) (hm9 : m ≤ 1000000000) :
  Calls Tryz.prog 62 #[.slice sa n ca, .slice sb m cb] w fun e w' => e = .returned (.bool (sameP da db)) ∧ Below w.heap.size w w' := by
 obtain ⟨ANS, hA⟩ := exq (sameP da db)
 rw [hA]
 have HA := h_ hA
 have Ha : Hid (∀ wr, Below w.heap.size w wr → DnAt wr (.slice sa n ca) da) := fun wr h => ha.below h
 have Hb : Hid (∀ wr, Below w.heap.size w wr → DnAt wr (.slice sb m cb) db) := fun wr h => hb.below h
 have Hn := h_ hn
 have Hm := h_ hm
 clear hA ha hb hn hm
 by_cases hnm : n = m
 ·subst hnm
  have g1 : ((n : Int) != (n : Int)) = false := by simp
  go_enter Tryz.func62, Tryz.ntmps62
  go_wp2
  clear g1
  go_loopw [13] (fun ii wr => ∃ k : Nat, k ≤ n ∧ ii = .int .i64 (k : Int) ∧ Hid (da.take k = db.take k) ∧ Hid (Below w.heap.size w wr)) (fun ii _ => n - (intOf ii).toNat)
  case atStart => exact ⟨0, by omega, rfl, rfl, Below.refl _ _⟩
  case round =>
   obtain ⟨k, hk, rfl, HE, HB⟩ := hrel
   by_cases hlt : k < n
   ·obtain ⟨a, ba, oa, hda, rfl, ha1, ha2⟩ := dnc_at (u_ Ha wr (u_ HB)) (k := k) (by have := u_ Hn; omega)
    obtain ⟨b, bb, ob, hdb, rfl, hb1, hb2⟩ := dnc_at (u_ Hb wr (u_ HB)) (k := k) (by have := u_ Hm; omega)
    obtain ⟨f1, f1n⟩ := ltVV k n
    have k0 : (0 : Int) ≤ (k : Int) := by omega
    have k1 : (k : Int) < (n : Int) := by omega
    obtain ⟨P, hP⟩ := exq (decide (a.1 = b.1))
    obtain ⟨Q, hQ⟩ := exq (decide (a.2 = b.2))
    obtain ⟨t1, ht1⟩ := exq (st a.1)
    obtain ⟨t2, ht2⟩ := exq (st a.2)
    obtain ⟨u1, hu1⟩ := exq (st b.1)
    obtain ⟨u2, hu2⟩ := exq (st b.2)
    rw [ht1] at ha1
    rw [ht2] at ha2
    rw [hu1] at hb1
    rw [hu2] at hb2
    have e1 : (t1.toList == u1.toList) = P := by rw [eql_str, ← ht1, ← hu1, bs_st, bs_st]; exact hP
    have e2 : (t2.toList == u2.toList) = Q := by rw [eql_str, ← ht2, ← hu2, bs_st, bs_st]; exact hQ
    have HPQ : Hid ((P = true → Q = true → da.take (k + 1) = db.take (k + 1)) ∧ ((P = false ∨ Q = false) → ANS = false)) := by
     refine ⟨fun h1 h2 => ?_, fun h => ?_⟩
     ·have hab : a = b := by
       cases a; cases b
       rw [h1] at hP
       rw [h2] at hQ
       simp only at hP hQ
       rw [of_decide_eq_true hP, of_decide_eq_true hQ]
      rw [List.take_add_one, List.take_add_one, u_ HE, hda, hdb, hab]
     ·rw [← u_ HA]
      refine decide_eq_false fun he => ?_
      rw [he, hdb, Option.some.injEq] at hda
      subst hda
      rcases h with h | h
      ·rw [h] at hP; simp at hP
      ·rw [h] at hQ; simp at hQ
    clear hP hQ ht1 ht2 hu1 hu2 hda hdb
    cases P <;> cases Q
    case true.true =>
     have HE2 := h_ (HPQ.1 rfl rfl)
     clear HPQ
     go_wp2
     go_region
     go_wp2
     go_roundw
     case rel =>
      first
       | exact ⟨k + 1, by omega, by go_num, HE2, HB.drew⟩
       | ((repeat apply Exists.intro); exact ⟨⟨k + 1, by omega, by go_num, HE2, HB.drew⟩, rfl⟩)
     case measure => simp [intOf]; omega
    all_goals
     have HF := h_ (HPQ.2 (by simp))
     clear HPQ
     go_wp2
     go_region
     go_wp2
     go_ret
     exact ⟨by rw [u_ HF]; rfl, HB.drew⟩
   ·obtain ⟨f1, f1n⟩ := ltVVf k n
    have HF : Hid (ANS = true) := by
     show _ = _
     rw [← u_ HA]
     refine decide_eq_true ?_
     have h := u_ HE
     rw [List.take_of_length_le (by have := u_ Hn; omega), List.take_of_length_le (by have := u_ Hm; omega)] at h
     exact h
    go_wp2
    go_ret
    exact ⟨by rw [u_ HF]; rfl, u_ HB⟩
 ·have g1 : ((n : Int) != (m : Int)) = true := by simp; omega
  have g2 : ((n : Int) == (m : Int)) = false := by simp; omega
  have HF : Hid (ANS = false) := by
   show _ = _
   rw [← u_ HA]
   refine decide_eq_false fun he => hnm ?_
   rw [← u_ Hn, ← u_ Hm, he]
  have HB := h_ (Below.refl w.heap.size w)
  clear hnm
  go_enter Tryz.func62, Tryz.ntmps62
  go_wp2
  go_ret
  exact ⟨by rw [u_ HF]; rfl, u_ HB⟩
theorem samedn_c (w : World) (sa sb : Option Addr) (n m ca cb : Nat) (da db : List (Bs × Bs)) (ha : DnAt w (.slice sa n ca) da) (hb : DnAt w (.slice sb m cb) db) (hn : da.length = n) (hm : db.length = m) (hn9 : n ≤ 1000000000) (hm9 : m ≤ 1000000000) :
  Calls Tryz.prog 28 #[.slice sa n ca, .slice sb m cb] w fun e w' => e = .returned (.bool (sameP da db)) ∧ Below w.heap.size w w' := by
 have He := h_ (equal_c w sa sb n m ca cb da db ha hb hn hm hn9 hm9)
 clear ha hb hn hm
 go_enter Tryz.func28, Tryz.ntmps28
 go_wp2_with fail
 refine He.mono ?_
 rintro e w2 ⟨rfl, hb⟩
 have HB := h_ hb
 clear hb
 go_wp2
 go_ret
 exact ⟨rfl, u_ HB⟩
end N
def cellsA (d : List (Bs × Bs)) : List Value := d.flatMap fun a => [.string (N.st a.1), .string (N.st a.2)]
theorem cellsA_len (d : List (Bs × Bs)) : (cellsA d).length = d.length * 2 := by
 induction d with
 | nil => rfl
 | cons a d ih =>
  have e : cellsA (a :: d) = [.string (N.st a.1), .string (N.st a.2)] ++ cellsA d := by unfold cellsA; simp
  rw [e, List.length_append, ih, List.length_cons]
  simp
  omega
theorem cellsA_app (d e : List (Bs × Bs)) : cellsA (d ++ e) = cellsA d ++ cellsA e := by unfold cellsA; simp
theorem cellsA_one (d : List (Bs × Bs)) : ∀ u ∈ cellsA d, u.oneCell' = true := fun u hu => by
 unfold cellsA at hu
 obtain ⟨a, _, h⟩ := List.mem_flatMap.1 hu
 simp only [List.mem_cons, List.not_mem_nil, or_false] at h
 rcases h with rfl | rfl <;> rfl
theorem cellsA_at : ∀ (d : List (Bs × Bs)) (i : Nat) (a : Bs × Bs), d[i]? = some a → (cellsA d)[i * 2]? = some (.string (N.st a.1)) ∧ (cellsA d)[i * 2 + 1]? = some (.string (N.st a.2))
 | [], i, a, h => by simp at h
 | x :: d, 0, a, h => by
  simp only [List.getElem?_cons_zero, Option.some.injEq] at h
  subst h
  exact ⟨rfl, rfl⟩
 | x :: d, i + 1, a, h => by
  have ih := cellsA_at d i a (by simpa using h)
  have e : cellsA (x :: d) = .string (N.st x.1) :: .string (N.st x.2) :: cellsA d := by unfold cellsA; simp
  rw [e, show (i + 1) * 2 = i * 2 + 1 + 1 by omega]
  exact ih
theorem cellsA_back : ∀ (d : List (Bs × Bs)) (j : Nat) (u : Value), (cellsA d)[j]? = some u → ∃ i a, d[i]? = some a ∧ ((j = i * 2 ∧ u = .string (N.st a.1)) ∨ (j = i * 2 + 1 ∧ u = .string (N.st a.2)))
 | [], j, u, h => by simp [cellsA] at h
 | x :: d, j, u, h => by
  have e : cellsA (x :: d) = .string (N.st x.1) :: .string (N.st x.2) :: cellsA d := by unfold cellsA; simp
  rw [e] at h
  match j, h with
  | 0, h => exact ⟨0, x, rfl, Or.inl ⟨rfl, by simpa using h.symm⟩⟩
  | 1, h => exact ⟨0, x, rfl, Or.inr ⟨rfl, by simpa using h.symm⟩⟩
  | j + 2, h =>
   obtain ⟨i, a, h1, h2⟩ := cellsA_back d j u (by simpa using h)
   refine ⟨i + 1, a, by simpa using h1, ?_⟩
   rcases h2 with h2 | h2
   ·exact Or.inl ⟨by omega, h2.2⟩
   ·exact Or.inr ⟨by omega, h2.2⟩
structure ARow (wb w : World) (v : Value) (d : List (Bs × Bs)) : Prop where
 own : w.ownsRow wb.heap.size 103 2 v d.length (cellsA d)
 b : Below wb.heap.size wb w
theorem arow_nil (w : World) : ARow w w (.slice none 0 0) [] := ⟨World.ownsRow_nil w _ 103 2, Below.refl _ _⟩
theorem ARow.call {wb w w' : World} {v : Value} {d : List (Bs × Bs)} (h : ARow wb w v d) (hb : Below w.heap.size w w') : ARow wb w' v d := by
 refine ⟨⟨h.own.1, ?_⟩, h.b.trans (hb.mono h.b.size)⟩
 rcases h.own.2 with h2 | ⟨g, cap, cur, hv, hB, hg, r⟩
 ·exact Or.inl h2
 ·exact Or.inr ⟨g, cap, cur, hv, hB, by rw [hb.block g (Array.getElem?_eq_some_iff.1 hg).1]; exact hg, r⟩
theorem ARow.form {wb w : World} {v : Value} {d : List (Bs × Bs)} (h : ARow wb w v d) : ∃ sp c, v = .slice sp d.length c := by
 rcases h.own.2 with ⟨rfl, e⟩ | ⟨g, cap, cur, rfl, _⟩
 ·exact ⟨none, 0, by rw [e]⟩
 ·exact ⟨_, _, rfl⟩
theorem ARow.dn {wb w : World} {v : Value} {d : List (Bs × Bs)} (h : ARow wb w v d) : DnAt w v d := by
 rcases h.own.2 with ⟨rfl, e⟩ | ⟨g, cap, cur, rfl, _, hg, hn, _⟩
 ·refine ⟨none, 0, by rw [e], by omega, fun _ => rfl, fun hd => absurd (List.eq_nil_of_length_eq_zero e) hd⟩
 ·refine ⟨_, _, rfl, hn, fun e => (by cases e), fun _ => ⟨g, 0, rfl, fun i a hi => ?_⟩⟩
  obtain ⟨h1, h2⟩ := cellsA_at d i a hi
  have k1 := World.ownsRow.cells h.own (g := g) rfl _ _ h1
  have k2 := World.ownsRow.cells h.own (g := g) rfl _ _ h2
  rw [Addr.add_mid] at k1 k2
  rw [Nat.zero_add] at k1 k2 ⊢
  exact ⟨k1, k2⟩
theorem attr_info : ∃ i, Tryz.prog.info? 103 = some i ∧ i.zero = some (.agg #[.string ByteArray.empty, .string ByteArray.empty]) ∧ i.size = 2 ∧ i.bytes = 32 := by
 have h : (Tryz.prog.info? 103).map (fun i => (i.zero, i.size, i.bytes)) = some (some (.agg #[.string ByteArray.empty, .string ByteArray.empty]), 2, 32) := by kernel_rfl
 obtain ⟨i, hi, h2⟩ := Option.map_eq_some_iff.1 h
 simp only [Prod.mk.injEq] at h2
 exact ⟨i, hi, h2.1, h2.2.1, h2.2.2⟩
theorem run_append_attrs (wb w : World) (v x : Value) (d e : List (Bs × Bs)) (hd : ARow wb w v d) (hx : DnAt w x e) (he : e ≠ []) (hl : d.length + e.length ≤ 1000000) (ty : TypeId) :
  ∃ v' w', (Builtin.append_ #[53, 53] ty #[v, x]).run Tryz.prog w = .ok v' w' ∧ ARow wb w' v' (d ++ e) ∧ w.grownBy w' v.ownBlock := by
 obtain ⟨i, hi, hz, hsz, hby⟩ := attr_info
 obtain ⟨sp, c, rfl, _, _, h3⟩ := hx
 obtain ⟨b, o, rfl, hc⟩ := h3 he
 have hn : ∀ j u, (cellsA e)[j]? = some u → w.cell? ((⟨b, o, none⟩ : Addr).add j) = some u := fun j u hu => by
  rw [Addr.add_mid]
  obtain ⟨i, a, h1, h2⟩ := cellsA_back e j u hu
  obtain ⟨k1, k2⟩ := hc i a h1
  rcases h2 with ⟨rfl, rfl⟩ | ⟨rfl, rfl⟩
  ·exact k1
  ·rw [← Nat.add_assoc]; exact k2
 obtain ⟨v', w', hr, h2, h3, _⟩ := run_append_own (P := Tryz.prog) w wb.heap.size 53 ty 103 i _ 2 32 Tryz.underlying53 hi hz hsz hby rfl (by omega) v d.length (cellsA d) hd.own ⟨b, o, none⟩ e.length c (cellsA e) (cellsA_len e) hn (cellsA_one e) (by simp only [maxLen]; omega) (by omega) hd.b.size
 refine ⟨v', w', hr, ⟨?_, ?_⟩, h3⟩
 ·rw [cellsA_app, List.length_append]; exact h2
 ·exact hd.b.grown h3 hd.b.size (fun g hg => (World.ownsRow.lt hd.own g hg).1)
theorem wpList_append_attrs {wb w : World} {ops : Array Oper} {rest : List Oper} {o : Oper} {a : Act} {Q : Exit → Act → World → Prop} (hgd : o.guard = none) (s x : Operand)
  (ho : o.op = .call { callee := .builtin .append, args := #[s, x], argTypes := #[53, 53] }) (v y : Value) (d e : List (Bs × Bs)) (hs : a.eval s = v) (hd : ARow wb w v d)
  (hx : a.eval x = y) (hy : DnAt w y e) (he : e ≠ []) (hl : d.length + e.length ≤ 1000000)
  (h : ∀ v' w', ARow wb w' v' (d ++ e) → w.grownBy w' v.ownBlock → wpList Tryz.prog ops Q rest (a.put o.dst v') w') : wpList Tryz.prog ops Q (o :: rest) a w := by
 obtain ⟨v', w', hr, h2, h3⟩ := run_append_attrs wb w v y d e hd hy he hl o.type
 refine wpList_plain hgd fun _ hK => ?_
 unfold Oper.wp execOp
 simp only [ho, resolve, invoke, builtin, Sem.run_bind, Sem.run_pure, Result.andThen_ok, List.map_toArray, List.map_cons, List.map_nil, hs, hx, hr]
 exact hK _ _ (h v' w' h2 h3)
theorem one_attr (w : World) (a b : ByteArray) : DnAt (w.alloc (.cells #[.string a, .string b] 103)) (.slice (some ⟨w.heap.size, 0, none⟩) 1 1) [(N.bs a, N.bs b)] := by
 refine ⟨_, 1, rfl, Nat.le_refl _, fun e => (by cases e), fun _ => ⟨w.heap.size, 0, rfl, fun i x hi => ?_⟩⟩
 match i, hi with
 | 0, hi =>
  simp only [List.getElem?_cons_zero, Option.some.injEq] at hi
  subst hi
  simp only [N.st_bs]
  exact ⟨cell_of_row _ _ _ _ 103 (0, 0) (heap_alloc_new w _) |>.trans rfl, cell_of_row _ _ _ _ 103 (0, 0) (heap_alloc_new w _) |>.trans rfl⟩
 | i + 1, hi => simp at hi
theorem ARow.text {wb w : World} {g n c k : Nat} {d : List (Bs × Bs)} {a : Bs × Bs} (h : ARow wb w (.slice (some ⟨g, 0, none⟩) n c) d) (hk : d[k]? = some a) (t : ByteArray) :
  (w.cell? ⟨g, k * 2 + 1, none⟩ = some (.string (N.st a.2)) ∧ w.frozen? ⟨g, k * 2 + 1, none⟩ = false) ∧ DnAt (w.setCell ⟨g, k * 2 + 1, none⟩ (.string t)) (.slice (some ⟨g, 0, none⟩) n c) (d.set k (a.1, N.bs t)) ∧ Below wb.heap.size wb (w.setCell ⟨g, k * 2 + 1, none⟩ (.string t)) := by
 have hkl : k < d.length := (List.getElem?_eq_some_iff.1 hk).1
 have hdn := h.dn
 obtain ⟨sp, c', e, h1, h2, h3⟩ := hdn
 simp only [Value.slice.injEq] at e
 obtain ⟨rfl, rfl, rfl⟩ := e
 obtain ⟨b, o, e2, hc⟩ := h3 (fun e => by rw [e] at hkl; simp at hkl)
 simp only [Option.some.injEq, Addr.mk.injEq, and_true] at e2
 obtain ⟨rfl, rfl⟩ := e2
 simp only [Nat.zero_add] at hc
 rcases h.own.2 with ⟨e, _⟩ | ⟨g', cap, cur, e, hge, hg, _⟩
 ·cases e
 simp only [Value.slice.injEq, Option.some.injEq, Addr.mk.injEq, and_true] at e
 obtain ⟨rfl, _⟩ := e
 refine ⟨⟨(hc k a hk).2, frozen_of_row w g _ cur 103 hg⟩, ⟨_, c, by rw [List.length_set], by rw [List.length_set]; exact h1, h2, fun _ => ⟨g, 0, rfl, fun i x hi => ?_⟩⟩, h.b.setCell (p := ⟨g, k * 2 + 1, none⟩) hge _⟩
 rw [Nat.zero_add]
 have far : ∀ j, j ≠ k * 2 + 1 → (w.setCell ⟨g, k * 2 + 1, none⟩ (.string t)).cell? ⟨g, j, none⟩ = w.cell? ⟨g, j, none⟩ := fun j hj => World.cell?_setCell_other _ _ _ _ (fun e => hj (by simp only [Addr.mk.injEq] at e; exact e.2.1.symm))
 by_cases hik : i = k
 ·subst hik
  rw [List.getElem?_set_self hkl, Option.some.injEq] at hi
  subst hi
  refine ⟨by rw [far _ (by omega)]; exact (hc i a hk).1, ?_⟩
  simp only [N.st_bs]
  exact World.cell?_setCell_same _ _ _ (hc i a hk).2
 ·rw [List.getElem?_set_ne (fun e => hik e.symm)] at hi
  exact ⟨by rw [far _ (by omega)]; exact (hc i x hi).1, by rw [far _ (by omega)]; exact (hc i x hi).2⟩
def sumA : List (Bs × Bs) → Nat
 | [] => 0
 | a :: d => a.1.length + a.2.length + sumA d
theorem sumA_snoc : ∀ (d : List (Bs × Bs)) (a : Bs × Bs), sumA (d ++ [a]) = sumA d + (a.1.length + a.2.length)
 | [], a => by simp [sumA]
 | x :: d, a => by rw [List.cons_append]; simp only [sumA]; rw [sumA_snoc d a]; omega
theorem sumA_take : ∀ (d : List (Bs × Bs)) (k : Nat), sumA (d.take k) ≤ sumA d
 | [], k => by simp [sumA]
 | x :: d, 0 => by simp [sumA]
 | x :: d, k + 1 => by rw [List.take_succ_cons]; simp only [sumA]; have := sumA_take d k; omega
theorem sumA_mem : ∀ {d : List (Bs × Bs)} {a : Bs × Bs}, a ∈ d → a.1.length + a.2.length ≤ sumA d
 | [], _, h => by cases h
 | x :: d, a, h => by
  simp only [sumA]
  rcases List.mem_cons.1 h with rfl | h
  ·omega
  ·have := sumA_mem h; omega
def shortP (g : Gen) : Bool := decide (g.text.length + g.dir.length + sumA g.dir ≤ 3000)
theorem short_open {g : Gen} (h : shortP g = true) : g.text.length ≤ 3000 ∧ g.dir.length ≤ 3000 ∧ ∀ a ∈ g.dir, a.1.length ≤ 3000 ∧ a.2.length ≤ 3000 := by
 have h1 : g.text.length + g.dir.length + sumA g.dir ≤ 3000 := of_decide_eq_true h
 exact ⟨by omega, by omega, fun a ha => by have := sumA_mem ha; omega⟩
namespace N
open K
theorem short_c (w : World) (cs : List Value) (g : Gen) (hg : GenAt w cs g) (ht : g.text.length ≤ 281474976710656) (hdl : g.dir.length ≤ 281474976710656) (hl : ∀ a ∈ g.dir, a.1.length ≤ 281474976710656 ∧ a.2.length ≤ 281474976710656) :
  Calls Tryz.prog 21 #[.agg cs.toArray] w fun e w' => e = .returned (.bool (shortP g)) ∧ Below w.heap.size w w' := by
 obtain ⟨s, sp, c, rfl, hst, hdn⟩ := hg.form
 obtain ⟨k, hk⟩ := exq g.kind
 obtain ⟨n, hn⟩ := exq g.dir.length
 obtain ⟨L, hL⟩ := exq s.size
 obtain ⟨d, hd⟩ := exq g.dir
 have hLt : g.text.length = L := by rw [← hst, bs_len]; exact hL
 obtain ⟨ANS, hAN⟩ := exq (shortP g)
 have HS : Hid (decide (L + n + sumA d ≤ 3000) = ANS) := by show _ = _; rw [← hAN]; unfold shortP; rw [hLt, hn, hd]
 rw [hAN, hk, hn]
 rw [hn] at hdn hdl
 rw [hd] at hdn hl
 rw [hLt] at ht
 have Hd : Hid (∀ wr, Below w.heap.size w wr → DnAt wr (.slice sp n c) d) := fun wr hb => hdn.below hb
 have Hn : Hid (d.length = n) := by show _ = _; rw [← hd]; exact hn
 have Hl := h_ hl
 obtain ⟨w1, X, hw1, eX, hA⟩ := blkN (Below.refl w.heap.size w) #[.int .i64 k, .string s, .slice sp n c] 56
 obtain ⟨k0, k1, k2⟩ := three_at hA
 have HA := h_ hA
 unfold gcells
 obtain ⟨M0, hM0⟩ := exq (L + n)
 have eM0 : (L : Int) + (n : Int) = (M0 : Int) := by omega
 have bM0 : M0 ≤ 562949953421312 := by omega
 have HM0 := h_ hM0
 clear hA hdn hst hg hk hn hAN hLt hd hl hM0
 go_enter Tryz.func21, Tryz.ntmps21
 go_wp2
 clear k0 k1 k2 eM0
 go_loopw [3, 16] (fun nn ii wr => ∃ (i m : Nat), i ≤ n ∧ (i = 0 ∨ m ≤ 3000) ∧ m ≤ 562949953421312 ∧ nn = .int .i64 (m : Int) ∧ ii = .int .i64 (i : Int) ∧ Hid (m = M0 + sumA (d.take i)) ∧ Hid (Below w.heap.size w wr)) (fun _ ii _ => n - (intOf ii).toNat)
 case atStart => exact ⟨0, M0, by omega, Or.inl rfl, by omega, rfl, rfl, by show _ = _; rw [List.take_zero]; rfl, HA.b⟩
 case round =>
  obtain ⟨i, m, hi, hm3, hm, rfl, rfl, Hm, HB⟩ := hrel
  by_cases hlt : i < n
  ·obtain ⟨a, bb, oo, hda, rfl, h1, h2⟩ := dnc_at (u_ Hd wr (u_ HB)) (k := i) (by have := u_ Hn; omega)
   obtain ⟨f1, f1n⟩ := ltVV i n
   have j0 : (0 : Int) ≤ (i : Int) := by omega
   have j1 : (i : Int) < (n : Int) := by omega
   obtain ⟨t1, ht1⟩ := exq (st a.1)
   obtain ⟨t2, ht2⟩ := exq (st a.2)
   rw [ht1] at h1
   rw [ht2] at h2
   obtain ⟨z1, hz1⟩ := exq t1.size
   obtain ⟨z2, hz2⟩ := exq t2.size
   have hl2 := u_ Hl a (List.mem_of_getElem? hda)
   have e1 : a.1.length = z1 := by rw [← hz1, ← ht1, st_size]
   have e2 : a.2.length = z2 := by rw [← hz2, ← ht2, st_size]
   rw [e1, e2] at hl2
   obtain ⟨m1, hm1⟩ := exq (z1 + z2)
   obtain ⟨m2, hm2⟩ := exq (m + m1)
   have g1 : (z1 : Int) + (z2 : Int) = (m1 : Int) := by omega
   have g2 : (m : Int) + (m1 : Int) = (m2 : Int) := by omega
   have bz1 := hl2.1
   have bz2 := hl2.2
   have bm1 : m1 ≤ 562949953421312 := by omega
   have Hm2 : Hid (m2 = M0 + sumA (d.take (i + 1))) := by
    show _ = _
    rw [List.take_add_one, hda]
    show _ = M0 + sumA (d.take i ++ [a])
    rw [sumA_snoc, e1, e2]
    have := u_ Hm
    omega
   obtain ⟨w3, hw3⟩ := exq (wr.alloc (.cells #[.string t1, .string t2] 103))
   obtain ⟨A, eA⟩ := exq wr.heap.size
   have hB := Blk.new (u_ HB) #[.string t1, .string t2] 103
   rw [hw3, eA] at hB
   have a0 : w3.cell? ⟨A, 0, none⟩ = some (.string t1) := hB.cell 0 _ rfl
   have a1 : w3.cell? ⟨A, 1, none⟩ = some (.string t2) := hB.cell 1 _ rfl
   have HB3 := h_ hB.b
   clear hB ht1 ht2 hda e1 e2 hm1 hm2 hl2 Hm hm3
   by_cases h3 : 3000 < m2
   ·obtain ⟨y1, y1n⟩ := ltLV 3000 3000 m2
    have HF : Hid (ANS = false) := by
     show _ = _
     rw [← u_ HS]
     refine decide_eq_false ?_
     have h4 := sumA_take d (i + 1)
     have h5 := u_ Hm2
     have h6 := u_ HM0
     omega
    go_wp2
    go_ret
    exact ⟨by rw [u_ HF]; rfl, u_ HB3⟩
   ·obtain ⟨y1, y1n⟩ := ltLVf 3000 3000 m2
    go_wp2
    go_roundw
    case rel =>
     first
      | exact ⟨i + 1, m2, by omega, Or.inr (by omega), by omega, by go_num, by go_num, Hm2, HB3⟩
      | ((repeat apply Exists.intro); exact ⟨⟨i + 1, m2, by omega, Or.inr (by omega), by omega, by go_num, by go_num, Hm2, HB3⟩, rfl⟩)
    case measure => simp [intOf]; omega
  ·obtain ⟨f1, f1n⟩ := ltVVf i n
   have HF : Hid (decide (m ≤ 3000) = ANS) := by
    show _ = _
    rw [← u_ HS, decide_eq_decide]
    have h5 := u_ Hm
    rw [List.take_of_length_le (by have := u_ Hn; omega)] at h5
    have h6 := u_ HM0
    omega
   have y1 : decide ((m : Int) ≤ 3000) = ANS := by rw [← u_ HF, decide_eq_decide]; omega
   clear Hm hm3
   go_wp2
   go_ret
   exact ⟨rfl, u_ HB⟩
end N
theorem valid_same : ∀ (k : Nat) (l : Bs), l.length ≤ k → Lib.validD l = K.validB l := fun k => by
 induction k with
 | zero =>
  intro l hl
  rw [List.eq_nil_of_length_eq_zero (by omega : l.length = 0)]
  rfl
 | succ k ih =>
  intro l hl
  match l, hl with
  | [], _ => rfl
  | c :: r, hl =>
   rw [List.length_cons] at hl
   have hdrop : ∀ n, 1 ≤ n → Lib.validD ((c :: r).drop n) = K.validB ((c :: r).drop n) := fun n hn => ih _ (by rw [List.length_drop, List.length_cons]; omega)
   rw [K.valid_step (c :: r) (by simp)]
   by_cases hc : c.toNat < 128
   ·rw [Lib.validD_cons c r hc, K.rune_ascii hc, if_neg (by omega)]
    exact hdrop 1 (by omega)
   ·have h0 : 128 ≤ ((c :: r).getD 0 0).toNat := by show 128 ≤ c.toNat; omega
    rw [Lib.validD_lead (c :: r) (by simp) h0]
    have hf := K.first_lead ⟨c.toNat, c.toNat_lt⟩ (by show 128 ≤ c.toNat; omega)
    simp only at hf
    have e0 : (c :: r).getD 0 0 = c := rfl
    have e1 : (c :: r).getD 1 0 = r.getD 0 0 := rfl
    have e2 : (c :: r).getD 2 0 = r.getD 1 0 := rfl
    have e3 : (c :: r).getD 3 0 = r.getD 2 0 := rfl
    rw [e0, e1, e2, e3, hf.1, List.length_cons]
    have hlead : K.leadN c.toNat = 1 ∨ K.leadN c.toNat = 2 ∨ K.leadN c.toNat = 3 ∨ K.leadN c.toNat = 4 := by unfold K.leadN; split; simp; split; simp; split <;> simp
    rcases hlead with h | h | h | h
    ·rw [K.rune_bad (by omega) h, h]
     rfl
    ·obtain ⟨l1, l2⟩ := hf.2.1 (by rw [h]; omega)
     rw [l1, l2, h, K.rune_two h]
     have lo : K.leadLo c.toNat = 128 := by
      have : 194 ≤ c.toNat ∧ c.toNat ≤ 223 := by unfold K.leadN at h; split at h; assumption; split at h; omega; split at h <;> omega
      unfold K.leadLo; rw [if_neg (by omega), if_neg (by omega)]
     have hi : K.leadHi c.toNat = 191 := by
      have : 194 ≤ c.toNat ∧ c.toNat ≤ 223 := by unfold K.leadN at h; split at h; assumption; split at h; omega; split at h <;> omega
      unfold K.leadHi; rw [if_neg (by omega), if_neg (by omega)]
     rw [lo, hi]
     unfold Lib.checkN
     rw [if_pos rfl]
     by_cases hg : 1 ≤ r.length ∧ 128 ≤ (r.getD 0 0).toNat ∧ (r.getD 0 0).toNat ≤ 191
     ·rw [if_neg (by omega), if_pos hg, if_neg (by omega)]
      exact hdrop 2 (by omega)
     ·rw [if_pos (by omega), if_neg hg, if_pos rfl]
    ·obtain ⟨l1, l2⟩ := hf.2.1 (by rw [h]; omega)
     rw [l1, l2, h, K.rune_three h]
     unfold Lib.checkN
     rw [if_neg (by omega), if_pos rfl]
     by_cases hg : 2 ≤ r.length ∧ K.leadLo c.toNat ≤ (r.getD 0 0).toNat ∧ (r.getD 0 0).toNat ≤ K.leadHi c.toNat ∧ 128 ≤ (r.getD 1 0).toNat ∧ (r.getD 1 0).toNat ≤ 191
     ·rw [if_neg (by omega), if_pos hg, if_neg (by omega)]
      exact hdrop 3 (by omega)
     ·rw [if_pos (by omega), if_neg hg, if_pos rfl]
    ·obtain ⟨l1, l2⟩ := hf.2.1 (by rw [h]; omega)
     rw [l1, l2, h, K.rune_four h]
     unfold Lib.checkN
     rw [if_neg (by omega), if_neg (by omega), if_pos rfl]
     by_cases hg : 3 ≤ r.length ∧ K.leadLo c.toNat ≤ (r.getD 0 0).toNat ∧ (r.getD 0 0).toNat ≤ K.leadHi c.toNat ∧ 128 ≤ (r.getD 1 0).toNat ∧ (r.getD 1 0).toNat ≤ 191 ∧ 128 ≤ (r.getD 2 0).toNat ∧ (r.getD 2 0).toNat ≤ 191
     ·rw [if_neg (by omega), if_pos hg, if_neg (by omega)]
      exact hdrop 4 (by omega)
     ·rw [if_pos (by omega), if_neg hg, if_pos rfl]
theorem valid_utf8 (l : Bs) : Lib.validD l = utf8P l.length l := valid_same l.length l (Nat.le_refl _)
theorem lowB_lenN : ∀ (k f n : Nat), n < 256 ^ k → (lowB f n).length ≤ k
 | 0, f, n, h => by
  have : n = 0 := by simpa using h
  subst this
  cases f <;> simp [lowB]
 | k + 1, 0, n, h => by simp [lowB]
 | k + 1, f + 1, n, h => by
  unfold lowB
  split
  ·simp
  ·rw [List.length_cons]
   have := lowB_lenN k f (n / 256) (by rw [Nat.pow_succ] at h; omega)
   omega
theorem lenB_len {n : Nat} (h : n < 65536) : (lenB n).length ≤ 3 := by
 unfold lenB
 split
 ·simp
 ·rw [List.length_cons, List.length_reverse]
  have := lowB_lenN 2 n n (by omega)
  omega
theorem tagB_len {t : Nat} (h : t < 31) (m : Bool) : (tagB 0 t m).length = 1 := by unfold tagB; rw [if_pos h]; rfl
theorem write_leaf {f t : Nat} {b : Bs} (ht : t < 31) (hf : formD 0 t false b = 0) (hb : b.length < 60000) : ∃ x, writeP formD (f + 1) (.mk 0 (t : Int) false b []) = .yes x ∧ x.length ≤ b.length + 4 := by
 refine ⟨tagB 0 t false ++ lenB b.length ++ b, ?_, ?_⟩
 ·simp only [writeP, Int.toNat_natCast, Int.toNat_zero, hf, allP]
  rw [if_neg (by omega), if_neg (by omega), if_neg (by simp)]
  simp [fallsP]
 ·rw [List.length_append, List.length_append, tagB_len ht]
  have := lenB_len (n := b.length) (by omega)
  omega
theorem write_kids {f : Nat} {t : Nat} {ks : List DV} {bs : List Bs} (ht : t = 16 ∨ (t = 17 ∧ fallsP bs = false)) (h : allP (writeP formD f) ks = .yes bs) (hl : bs.flatten.length < 60000) : ∃ x, writeP formD (f + 1) (.mk 0 (t : Int) true [] ks) = .yes x ∧ x.length ≤ bs.flatten.length + 4 := by
 have hf : formD 0 t true [] = 0 := by
  unfold formD
  rcases ht with rfl | ⟨rfl, _⟩ <;> decide
 refine ⟨tagB 0 t true ++ lenB bs.flatten.length ++ bs.flatten, ?_, ?_⟩
 ·simp only [writeP, Int.toNat_natCast, Int.toNat_zero, hf, h]
  rw [if_neg (by omega), if_neg (by omega), if_neg (by simp)]
  rw [if_neg]
  ·simp
  ·rcases ht with rfl | ⟨rfl, hfa⟩
   ·simp
   ·rw [hfa]; simp
 ·rw [List.length_append, List.length_append, tagB_len (by omega)]
  have := lenB_len (n := bs.flatten.length) (by omega)
  omega
theorem text_form {t : Bs} (h : textP t = true) : formD 0 (textT t) false t = 0 ∧ t.length ≤ 64 := by
 unfold textP at h
 simp only [Bool.and_eq_true, Bool.not_eq_true', decide_eq_false_iff_not, decide_eq_true_eq] at h
 refine ⟨?_, h.1.2⟩
 unfold textT
 split
 ·rename_i hp
  have hr : rightP 19 t = true := by
   unfold rightP
   simp only [Nat.reduceEqDiff, if_false, or_self, if_true]
   rw [List.all_eq_true] at hp ⊢
   intro c hc
   have := hp c hc
   unfold prnN at this
   simp only [Bool.and_eq_true, decide_eq_true_eq] at this
   rw [← this.2]
   simp
  unfold formD
  rw [if_neg (by simp), if_neg (by decide), if_neg (by rw [hr]; simp)]
 ·have hr : rightP 12 t = true := by
   unfold rightP
   simp only [Nat.reduceEqDiff, if_false, or_self, if_true]
   rw [← valid_utf8]
   exact h.2
  unfold formD
  rw [if_neg (by simp), if_neg (by decide), if_neg (by rw [hr]; simp)]
theorem attr_write {f : Nat} {a : Bs × Bs} (ho : (oidVP a.1).isSome = true) (ht : textP a.2 = true) : ∃ x, writeP formD (f + 3) (attrDV a) = .yes x ∧ x.length ≤ 210 := by
 obtain ⟨gs, hg⟩ := Option.isSome_iff_exists.1 ho
 obtain ⟨g1, g2, g3, _⟩ := oidVP_open hg
 have hbl : (bytesG gs).length ≤ 114 := (oid_there hg).2
 have hfo : formD 0 6 false (bytesG gs) = 0 := by
  have hr : rightP 6 (bytesG gs) = true := by simpa [rightP] using oidP_bytes g2
  unfold formD
  rw [if_neg (by simp), if_neg (by decide), if_neg (by rw [hr]; simp)]
 obtain ⟨x1, h1, l1⟩ := write_leaf (f := f) (t := 6) (by omega) hfo (by omega)
 obtain ⟨hft, hlt⟩ := text_form ht
 have htt : textT a.2 < 31 := by unfold textT; split <;> omega
 obtain ⟨x2, h2, l2⟩ := write_leaf (f := f) htt hft (by omega)
 have hp : allP (writeP formD (f + 1)) [oidV a.1, .mk 0 (textT a.2 : Int) false a.2 []] = .yes [x1, x2] := by
  rw [oidV_yes hg]
  unfold oidDV
  simp only [allP]
  rw [show (6 : Int) = ((6 : Nat) : Int) from rfl, h1, h2]
 obtain ⟨x3, h3, l3⟩ := write_kids (t := 16) (Or.inl rfl) hp (by simp; omega)
 have hs : allP (writeP formD (f + 2)) [pairDV a] = .yes [x3] := by
  simp only [allP]
  unfold pairDV
  rw [show (16 : Int) = ((16 : Nat) : Int) from rfl, h3]
 simp only [List.flatten_cons, List.flatten_nil, List.append_nil, List.length_append] at l3
 obtain ⟨x4, h4, l4⟩ := write_kids (t := 17) (Or.inr ⟨rfl, rfl⟩) hs (by simp; omega)
 simp only [List.flatten_cons, List.flatten_nil, List.append_nil] at l4
 exact ⟨x4, h4, by omega⟩
theorem dn_right {d : List (Bs × Bs)} (h16 : d.length ≤ 16) (ho : ∀ x ∈ d, (oidVP x.1).isSome = true) (ht : ∀ x ∈ d, textP x.2 = true) : rightV (.mk 0 16 true [] (d.map attrDV)) = true := by
 have hall : ∀ l : List (Bs × Bs), (∀ x ∈ l, x ∈ d) → ∃ bs, allP (writeP formD 16) (l.map attrDV) = .yes bs ∧ bs.flatten.length ≤ 210 * l.length := fun l => by
  induction l with
  | nil => exact fun _ => ⟨[], rfl, by simp⟩
  | cons a l ih =>
   intro hl
   obtain ⟨bs, h1, h2⟩ := ih (fun x hx => hl x (List.mem_cons_of_mem _ hx))
   obtain ⟨x, h3, h4⟩ := attr_write (f := 13) (ho a (hl a List.mem_cons_self)) (ht a (hl a List.mem_cons_self))
   refine ⟨x :: bs, ?_, ?_⟩
   ·rw [List.map_cons]
    simp only [allP]
    rw [show writeP formD 16 (attrDV a) = .yes x from h3]
    simp only
    rw [h1]
   ·rw [List.flatten_cons, List.length_append, List.length_cons]
    omega
 obtain ⟨bs, h1, h2⟩ := hall d (fun x hx => hx)
 obtain ⟨x, h3, h4⟩ := write_kids (t := 16) (Or.inl rfl) h1 (by omega)
 unfold rightV writeTop
 rw [show (16 : Int) = ((16 : Nat) : Int) from rfl, h3]
 simp only
 rw [if_neg (by omega)]
theorem dnV_yes' {d : List (Bs × Bs)} (h16 : d.length ≤ 16) (ho : ∀ x ∈ d, (oidVP x.1).isSome = true) (ht : ∀ x ∈ d, textP x.2 = true) : dnV d = .yes (.mk 0 16 true [] (d.map attrDV)) := by
 unfold dnV
 rw [if_neg (by omega), if_neg, if_neg]
 ·intro hf
  rw [List.all_eq_false] at hf
  obtain ⟨x, hx, hn⟩ := hf
  exact hn (ht x hx)
 ·intro hf
  rw [List.all_eq_false] at hf
  obtain ⟨x, hx, hn⟩ := hf
  exact hn (ho x hx)
def attrP (s : DV) : Option ((Bs × Bs) × Int) :=
 if s.cls = 0 ∧ s.tag = 17 then
  match s.kids with
  | [p] => if p.cls = 0 ∧ p.tag = 16 then
    match p.kids with
    | [o, t] => match oidT o with
     | some x => if t.cls = 0 ∧ (t.tag = 19 ∨ t.tag = 12) then some ((x, t.bytes), t.tag) else none
     | none => none
    | _ => none
   else none
  | _ => none
 else none
def attrsP : List DV → Option (List ((Bs × Bs) × Int))
 | [] => some []
 | k :: ks => match attrP k with
  | none => none
  | some a => match attrsP ks with
   | none => none
   | some l => some (a :: l)
def namedA (x : (Bs × Bs) × Int) : Bool := textP x.1.2 && decide (x.2 = (textT x.1.2 : Int))
def parseP (v : DV) : Told (List (Bs × Bs)) :=
 if v.cls = 0 ∧ v.tag = 16 ∧ v.kids.length ≤ 16 ∧ rightV v = true then
  match attrsP v.kids with
  | none => .no 30
  | some l => if l.all namedA = true then .yes (l.map (·.1)) else .no 31
 else .no 30
theorem attrP_open {s : DV} {a : Bs × Bs} {g : Int} (h : attrP s = some (a, g)) : ∃ p o t, s.cls = 0 ∧ s.tag = 17 ∧ s.kids = [p] ∧ p.cls = 0 ∧ p.tag = 16 ∧ p.kids = [o, t] ∧ oidT o = some a.1 ∧ t.cls = 0 ∧ (t.tag = 19 ∨ t.tag = 12) ∧ t.bytes = a.2 ∧ t.tag = g := by
 unfold attrP at h
 split at h
 ·rename_i h1
  split at h
  ·rename_i p hp
   split at h
   ·rename_i h2
    split at h
    ·rename_i o t hk
     split at h
     ·rename_i x hx
      split at h
      ·rename_i h3
       simp only [Option.some.injEq, Prod.mk.injEq] at h
       obtain ⟨rfl, rfl⟩ := h
       exact ⟨p, o, t, h1.1, h1.2, hp, h2.1, h2.2, hk, hx, h3.1, h3.2, rfl, rfl⟩
      ·cases h
     ·cases h
    ·cases h
   ·cases h
  ·cases h
 ·cases h
theorem allP_mem {g : DV → Told Bs} : ∀ {ks : List DV} {bs : List Bs}, allP g ks = .yes bs → ∀ k ∈ ks, ∃ b, g k = .yes b
 | [], _, _, k, hk => by cases hk
 | v :: l, bs, h, k, hk => by
  unfold allP at h
  cases hv : g v with
  | no e => rw [hv] at h; cases h
  | yes b =>
   rw [hv] at h
   simp only at h
   cases hl : allP g l with
   | no e => rw [hl] at h; cases h
   | yes bs2 =>
    rcases List.mem_cons.1 hk with rfl | hk
    ·exact ⟨b, hv⟩
    ·exact allP_mem hl k hk
theorem form_made {t : Nat} {m : Bool} {b : Bs} (hm : madeT t = true) (h : formD 0 t m b = 0) : m = true := by
 unfold formD at h
 rw [if_neg (by simp)] at h
 split at h
 ·cases h
 ·rename_i h1
  cases m
  ·exact absurd (Or.inr (by rw [hm]; simp)) h1
  ·rfl
theorem made_open {f : Nat} {v : DV} {x : Bs} {t : Nat} (h : writeP formD (f + 1) v = .yes x) (hc : v.cls = 0) (ht : v.tag = (t : Int)) (hm : madeT t = true) : v = .mk 0 (t : Int) true [] v.kids ∧ ∀ k ∈ v.kids, ∃ y, writeP formD f k = .yes y := by
 obtain ⟨c, g, m, b, ks⟩ := v
 simp only [DV.cls] at hc
 simp only [DV.tag] at ht
 subst hc
 subst ht
 obtain ⟨_, _, _, _, h5, h6, _, bs, h8, _⟩ := write_open h
 rw [Int.toNat_zero, Int.toNat_natCast] at h5
 have hm2 := form_made hm h5
 subst hm2
 rw [h6 rfl]
 exact ⟨rfl, fun k hk => allP_mem h8 k hk⟩
theorem attr_back {f : Nat} {s : DV} {a : Bs × Bs} {g : Int} {x : Bs} (h : attrP s = some (a, g)) (hw : writeP formD (f + 3) s = .yes x) (hn : namedA (a, g) = true) : s = attrDV a ∧ (oidVP a.1).isSome = true ∧ textP a.2 = true := by
 obtain ⟨p, o, t, h1, h2, h3, h4, h5, h6, h7, h8, h9, h10, h11⟩ := attrP_open h
 unfold namedA at hn
 simp only [Bool.and_eq_true, decide_eq_true_eq] at hn
 obtain ⟨e1, k1⟩ := made_open (t := 17) hw h1 h2 (by decide)
 obtain ⟨y, hy⟩ := k1 p (by rw [h3]; exact List.mem_cons_self)
 obtain ⟨e2, k2⟩ := made_open (t := 16) hy h4 h5 (by decide)
 obtain ⟨z, hz⟩ := k2 t (by rw [h6]; simp)
 obtain ⟨gs, hg, hgo⟩ := oid_back h7
 have et : t = .mk 0 (textT a.2 : Int) false a.2 [] := by
  obtain ⟨c, tg, m, b, ks⟩ := t
  simp only [DV.cls, DV.tag, DV.bytes] at h8 h9 h10 h11
  subst h8
  subst h10
  obtain ⟨_, _, _, _, k5, _, k7, _⟩ := write_open hz
  have htg : tg = (textT a.2 : Int) := h11.trans hn.2
  rw [htg, Int.toNat_zero, Int.toNat_natCast] at k5
  have hpl : plainT (textT a.2) = true ∧ madeT (textT a.2) = false := by unfold textT; split <;> decide
  obtain ⟨hm, _⟩ := form_plain hpl.1 hpl.2 k5
  subst hm
  rw [k7 rfl, htg]
 refine ⟨?_, by rw [hg]; rfl, hn.1⟩
 rw [e1, h3, e2, h6, et]
 unfold attrDV pairDV
 rw [oidV_yes hg, hgo]
 rfl
theorem attrs_back {f : Nat} : ∀ {ks : List DV} {l : List ((Bs × Bs) × Int)}, attrsP ks = some l → (∀ k ∈ ks, ∃ y, writeP formD (f + 3) k = .yes y) → l.all namedA = true → ks = (l.map (·.1)).map attrDV ∧ (∀ a ∈ l.map (·.1), (oidVP a.1).isSome = true ∧ textP a.2 = true)
 | [], l, h, _, _ => by
  simp only [attrsP, Option.some.injEq] at h
  subst h
  exact ⟨rfl, fun a ha => by cases ha⟩
 | k :: ks, l, h, hw, hn => by
  unfold attrsP at h
  cases hk : attrP k with
  | none => rw [hk] at h; cases h
  | some a =>
   rw [hk] at h
   simp only at h
   cases hl : attrsP ks with
   | none => rw [hl] at h; cases h
   | some l2 =>
    rw [hl] at h
    simp only [Option.some.injEq] at h
    subst h
    rw [List.all_cons, Bool.and_eq_true] at hn
    obtain ⟨y, hy⟩ := hw k List.mem_cons_self
    obtain ⟨e1, e2, e3⟩ := attr_back (a := a.1) (g := a.2) hk hy hn.1
    obtain ⟨i1, i2⟩ := attrs_back hl (fun x hx => hw x (List.mem_cons_of_mem _ hx)) hn.2
    refine ⟨by rw [e1, i1]; rfl, fun b hb => ?_⟩
    rw [List.map_cons] at hb
    rcases List.mem_cons.1 hb with rfl | hb
    ·exact ⟨e2, e3⟩
    ·exact i2 b hb
theorem attrsP_len : ∀ {ks : List DV} {l : List ((Bs × Bs) × Int)}, attrsP ks = some l → l.length = ks.length
 | [], l, h => by simp only [attrsP, Option.some.injEq] at h; subst h; rfl
 | k :: ks, l, h => by
  unfold attrsP at h
  split at h
  ·cases h
  ·split at h
   ·cases h
   ·rename_i l2 h2
    simp only [Option.some.injEq] at h
    subst h
    rw [List.length_cons, List.length_cons, attrsP_len h2]
theorem parse_back {v : DV} {d : List (Bs × Bs)} (h : parseP v = .yes d) : dnV d = .yes v := by
 unfold parseP at h
 split at h
 ·rename_i h1
  obtain ⟨hc, ht, hk, hr⟩ := h1
  split at h
  ·cases h
  ·rename_i l hl
   split at h
   ·rename_i hn
    injection h with h
    subst h
    unfold rightV writeTop at hr
    cases hw : writeP formD 17 v with
    | no e => rw [hw] at hr; cases hr
    | yes x =>
     obtain ⟨e1, k1⟩ := made_open (t := 16) hw hc ht (by decide)
     obtain ⟨e2, e3⟩ := attrs_back (f := 13) hl k1 hn
     rw [dnV_yes' (by rw [List.length_map, attrsP_len hl]; exact hk) (fun x hx => (e3 x hx).1) (fun x hx => (e3 x hx).2), ← e2]
     exact congrArg Told.yes e1.symm
   ·cases h
 ·cases h
theorem attrP_attr {a : Bs × Bs} (ho : (oidVP a.1).isSome = true) : attrP (attrDV a) = some (a, (textT a.2 : Int)) := by
 obtain ⟨gs, hg⟩ := Option.isSome_iff_exists.1 ho
 have hT : oidT (oidV a.1) = some a.1 := by rw [oidV_yes hg]; exact (oid_there hg).1
 have htt : ((textT a.2 : Nat) : Int) = 19 ∨ ((textT a.2 : Nat) : Int) = 12 := by unfold textT; split <;> simp
 unfold attrP
 rw [if_pos ⟨rfl, rfl⟩]
 show (if (pairDV a).cls = 0 ∧ (pairDV a).tag = 16 then _ else none) = _
 rw [if_pos ⟨rfl, rfl⟩]
 show (match oidT (oidV a.1) with | some x => if (DV.mk 0 (textT a.2 : Int) false a.2 []).cls = 0 ∧ ((DV.mk 0 (textT a.2 : Int) false a.2 []).tag = 19 ∨ (DV.mk 0 (textT a.2 : Int) false a.2 []).tag = 12) then some ((x, a.2), (textT a.2 : Int)) else none | none => none) = _
 rw [hT]
 simp only
 rw [if_pos ⟨rfl, htt⟩]
theorem attrsP_attrs : ∀ (d : List (Bs × Bs)), (∀ x ∈ d, (oidVP x.1).isSome = true) → attrsP (d.map attrDV) = some (d.map fun a => (a, (textT a.2 : Int)))
 | [], _ => rfl
 | a :: d, h => by
  rw [List.map_cons]
  unfold attrsP
  rw [attrP_attr (h a List.mem_cons_self), attrsP_attrs d (fun x hx => h x (List.mem_cons_of_mem _ hx))]
  rfl
theorem parse_there {d : List (Bs × Bs)} {v : DV} (h : dnV d = .yes v) : parseP v = .yes d := by
 unfold dnV at h
 split at h
 ·cases h
 ·rename_i h1
  split at h
  ·cases h
  ·rename_i h2
   split at h
   ·cases h
   ·rename_i h3
    injection h with h
    subst h
    have a2 : (d.all fun a => (oidVP a.1).isSome) = true := by
     cases h : (d.all fun a => (oidVP a.1).isSome) with
     | true => rfl
     | false => exact absurd h h2
    have a3 : (d.all fun a => textP a.2) = true := by
     cases h : (d.all fun a => textP a.2) with
     | true => rfl
     | false => exact absurd h h3
    rw [List.all_eq_true] at a2 a3
    unfold parseP
    rw [if_pos ⟨rfl, rfl, by simp only [DV.kids, List.length_map]; omega, dn_right (by omega) a2 a3⟩]
    simp only [DV.kids]
    rw [attrsP_attrs d a2]
    simp only
    rw [if_pos]
    ·rw [List.map_map]
     congr 1
     exact List.map_id d
    ·rw [List.all_eq_true]
     intro x hx
     obtain ⟨a, ha, rfl⟩ := List.mem_map.1 hx
     unfold namedA
     rw [a3 a ha]
     simp
end Go.Proofs.YtcofnockikninaaGreatDoor
