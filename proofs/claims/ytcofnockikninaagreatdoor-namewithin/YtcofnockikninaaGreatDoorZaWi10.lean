/- Parts of the walk. -/
import Derived.Test.YtcofnockikninaaGreatDoorZaOA
import Derived.Deep.MidRow
import Derived.BigRegion
set_option maxRecDepth 100000
set_option maxHeartbeats 8000000
namespace Go.Proofs.YtcofnockikninaaGreatDoor
open Go.RowKit
def textP (t : Bs) : Bool := !decide (t = []) && decide (t.length ≤ 64) && Lib.validD t
def textT (t : Bs) : Nat := if (t.all fun c => prnN c.toNat) = true then 19 else 12
def pairDV (a : Bs × Bs) : DV := .mk 0 16 true [] [oidV a.1, .mk 0 (textT a.2 : Int) false a.2 []]
def attrDV (a : Bs × Bs) : DV := .mk 0 17 true [] [pairDV a]
def dnV (d : List (Bs × Bs)) : Told DV :=
 if 16 < d.length then .no 30 else
 if (d.all fun a => (oidVP a.1).isSome) = false then .no 30 else
 if (d.all fun a => textP a.2) = false then .no 31 else .yes (.mk 0 16 true [] (d.map attrDV))
theorem grown_setCells (w : World) (B : Nat) : ∀ (vs : List Value) (o : Nat) (w2 : World), w.grownBy w2 (some B) → w.grownBy (w2.setCells B o vs) (some B)
 | [], _, _, h => h
 | v :: r, o, _, h => grown_setCells w B r (o + 1) _ (grown_setCell h ⟨B, o, none⟩ v rfl)
theorem setCells_res (B : Nat) : ∀ (vs : List Value) (o : Nat) (w : World) (cs : Array Value) (t : TypeId), w.heap[B]? = some (.cells cs t (0, 0)) → ∃ cs', (w.setCells B o vs).heap[B]? = some (.cells cs' t (0, 0)) ∧ cs'.size = cs.size
 | [], _, _, cs, _, h => ⟨cs, h, rfl⟩
 | v :: r, o, w, cs, t, h => by
  obtain ⟨cs', h1, h2⟩ := setCells_res B r (o + 1) _ _ t (heap_setCell_same w B o cs t v h)
  exact ⟨cs', h1, by rw [h2]; simp⟩
structure DRow (S : Nat → Prop) (w : World) (B n : Nat) (vs : List DV) : Prop where
 res : ∃ cs : Array Value, w.heap[B]? = some (.cells cs 25 (0, 0)) ∧ cs.size = n * 5
 at_ : ∀ (j : Nat) (v : DV), vs[j]? = some v → ∃ ds, CellsAt w B (j * 5) ds ∧ ValAt S w ds v
theorem DRow.lt {S : Nat → Prop} {w : World} {B n : Nat} {vs : List DV} (h : DRow S w B n vs) : B < w.heap.size := by
 obtain ⟨cs, h1, _⟩ := h.res
 exact (Array.getElem?_eq_some_iff.1 h1).1
theorem DRow.below {S : Nat → Prop} {w w' : World} {B n : Nat} {vs : List DV} (h : DRow S w B n vs) (hb : Below w.heap.size w w') : DRow S w' B n vs := by
 refine ⟨?_, fun j v hj => ?_⟩
 ·obtain ⟨cs, h1, h2⟩ := h.res
  exact ⟨cs, by rw [hb.block B h.lt]; exact h1, h2⟩
 ·obtain ⟨ds, h1, h2⟩ := h.at_ j v hj
  exact ⟨ds, h1.below hb, h2.below hb⟩
theorem DRow.mono {S S' : Nat → Prop} {w : World} {B n : Nat} {vs : List DV} (h : DRow S w B n vs) (hS : ∀ b, S b → b < w.heap.size → S' b) : DRow S' w B n vs :=
 ⟨h.res, fun j v hj => by obtain ⟨ds, h1, h2⟩ := h.at_ j v hj; exact ⟨ds, h1, h2.mono hS⟩⟩
theorem DRow.kept {S : Nat → Prop} {w w' : World} {B n C : Nat} {vs : List DV} (h : DRow S w B n vs) (hg : w.grownBy w' (some C)) (hne : B ≠ C) (hS : ¬ S C) : DRow S w' B n vs := by
 refine ⟨?_, fun j v hj => ?_⟩
 ·obtain ⟨cs, h1, h2⟩ := h.res
  exact ⟨cs, by rw [hg.block B h.lt (fun e => hne (by simpa using e))]; exact h1, h2⟩
 ·obtain ⟨ds, h1, h2⟩ := h.at_ j v hj
  exact ⟨ds, h1.kept hg (fun e => hne (by simpa using e)), h2.kept hg (fun g e hs => by simp only [Option.some.injEq] at e; subst e; exact hS hs)⟩
theorem DRow.there {S : Nat → Prop} {w : World} {B n : Nat} {vs : List DV} (h : DRow S w B n vs) (k : Nat) (hk : k < n) : w.there B (k * 5) 5 := fun j hj => by
 obtain ⟨cs, h1, h2⟩ := h.res
 refine ⟨?_, frozen_of_row w B _ cs 25 h1⟩
 rw [cell_of_row w B _ cs 25 (0, 0) h1, Array.getElem?_eq_getElem (by omega)]
 rfl
theorem DRow.set {S : Nat → Prop} {w : World} {B n k : Nat} {vs : List DV} {ds : List Value} {v : DV} (h : DRow S w B n vs) (hk : vs.length = k) (hn : k < n) (hds : ds.length = 5) (hv : ValAt S w ds v) (hS : ¬ S B) : DRow S (w.setCells B (k * 5) ds) B n (vs ++ [v]) := by
 have hg : w.grownBy (w.setCells B (k * 5) ds) (some B) := grown_setCells w B ds (k * 5) w (World.grownBy.refl _ _)
 have hkept : ∀ {cs : List Value} {u : DV}, ValAt S w cs u → ValAt S (w.setCells B (k * 5) ds) cs u := fun hu => hu.kept hg (fun g e hs => by simp only [Option.some.injEq] at e; subst e; exact hS hs)
 refine ⟨?_, fun j u hj => ?_⟩
 ·obtain ⟨cs, h1, h2⟩ := h.res
  obtain ⟨cs', h3, h4⟩ := setCells_res B ds (k * 5) w cs 25 h1
  exact ⟨cs', h3, by rw [h4]; exact h2⟩
 ·by_cases hjk : j < k
  ·rw [List.getElem?_append_left (by omega)] at hj
   obtain ⟨cs, h1, h2⟩ := h.at_ j u hj
   obtain ⟨m, h2'⟩ := h2
   have hl := h2'.len
   exact ⟨cs, World.rangeAt_setCells_apart (w := w) h1 B (k * 5) ds (Or.inr (Or.inl (by omega))), hkept ⟨m, h2'⟩⟩
  ·have hjl : j < (vs ++ [v]).length := (List.getElem?_eq_some_iff.1 hj).1
   have e : j = k := by rw [List.length_append, List.length_singleton] at hjl; omega
   subst e
   rw [List.getElem?_append_right (by omega), hk, Nat.sub_self] at hj
   simp only [List.getElem?_cons_zero, Option.some.injEq] at hj
   subst hj
   exact ⟨ds, World.rangeAt_setCells_same w B (j * 5) ds (by rw [hds]; exact h.there j hn), hkept hv⟩
theorem dv_info : ∃ i, Tryz.prog.info? 25 = some i ∧ i.zero = some (.agg #[.int .i64 0, .int .i64 0, .bool false, .slice none 0 0, .slice none 0 0]) ∧ i.size = 5 ∧ i.bytes = 72 := by
 have h : (Tryz.prog.info? 25).map (fun i => (i.zero, i.size, i.bytes)) = some (some (.agg #[.int .i64 0, .int .i64 0, .bool false, .slice none 0 0, .slice none 0 0]), 5, 72) := by kernel_rfl
 obtain ⟨i, hi, h2⟩ := Option.map_eq_some_iff.1 h
 simp only [Prod.mk.injEq] at h2
 exact ⟨i, hi, h2.1, h2.2.1, h2.2.2⟩
theorem made_five (w : World) (n : Nat) (hn : n ≤ 1000) : ∃ W, (Instr.makeSlice 23 (.int .i64 (n : Int)) (.int .i64 (n : Int))).run Tryz.prog w = .ok (.slice (some ⟨w.heap.size, 0, none⟩) n n) W ∧ (∀ S, DRow S W w.heap.size n []) ∧ Below w.heap.size w W := by
 obtain ⟨i, hi, hz, hsz, hby⟩ := dv_info
 refine ⟨_, run_make (P := Tryz.prog) w 23 25 i _ Tryz.underlying23 hi hz .i64 .i64 n n (by omega) (by omega) (by rw [hby]; omega) (by omega), fun S => ⟨⟨_, heap_alloc_new w _, ?_⟩, fun j v hj => by simp at hj⟩, (Below.refl _ _).alloc (Nat.le_refl _) _⟩
 rw [hsz, Int.toNat_natCast]
 simp [madeCells]
theorem made_val {S : Nat → Prop} {w : World} {B n c : Nat} {t : Int} {vs : List DV} (h : DRow S w B n vs) (hn : vs.length = n) (hc : n ≤ c) (hb : n ≤ 9223372036854775807) (hS : S B) : ValAt S w (dcells 0 t true (.slice none 0 0) (.slice (some ⟨B, 0, none⟩) n c)) (.mk 0 t true [] vs) := by
 have hall : ∃ m, ∀ (j : Nat) (v : DV), vs[j]? = some v → ∃ ds, CellsAt w B (j * 5) ds ∧ VAt m S w ds v := by
  have key : ∀ (k : Nat), k ≤ vs.length → ∃ m, ∀ (j : Nat) (v : DV), j < k → vs[j]? = some v → ∃ ds, CellsAt w B (j * 5) ds ∧ VAt m S w ds v := fun k => by
   induction k with
   | zero => exact fun _ => ⟨0, fun j v hj => absurd hj (by omega)⟩
   | succ k ih =>
    intro hk
    obtain ⟨m, hm⟩ := ih (by omega)
    obtain ⟨v, hv⟩ : ∃ v, vs[k]? = some v := ⟨_, List.getElem?_eq_getElem (by omega)⟩
    obtain ⟨ds, h1, m2, h2⟩ := h.at_ k v hv
    refine ⟨max m m2, fun j u hj hu => ?_⟩
    by_cases hjk : j < k
    ·obtain ⟨es, e1, e2⟩ := hm j u hjk hu
     exact ⟨es, e1, e2.more (Nat.le_max_left _ _)⟩
    ·have e : j = k := by omega
     subst e
     rw [hv] at hu
     cases hu
     exact ⟨ds, h1, h2.more (Nat.le_max_right _ _)⟩
  obtain ⟨m, hm⟩ := key vs.length (Nat.le_refl _)
  exact ⟨m, fun j v hj => hm j v (List.getElem?_eq_some_iff.1 hj).1 hj⟩
 obtain ⟨m, hm⟩ := hall
 refine ⟨m + 1, .slice none 0 0, some ⟨B, 0, none⟩, c, ?_, bytes_nil w, fun h => absurd rfl h, ⟨by simp [DV.bytes], by simp only [DV.kids]; omega⟩, by simp only [DV.kids]; omega, fun e => (by cases e), fun _ => ⟨B, 0, rfl, hS, fun i k hik => ?_⟩⟩
 ·simp only [DV.kids, hn]
  rfl
 ·obtain ⟨ds, h1, h2⟩ := hm i k hik
  exact ⟨ds, by rw [Nat.zero_add]; exact h1, h2⟩
namespace N
open K
theorem istext_c (w : World) (hR : Rdy w) (s : ByteArray) (hs : s.size ≤ 1000000) : Calls Tryz.prog 56 #[.string s] w fun e w' => e = .returned (.bool (textP (bs s))) ∧ Below w.heap.size w w' := by
 obtain ⟨N, hN⟩ := exq s.size
 obtain ⟨E, hE⟩ := exq (decide (bs s = []))
 obtain ⟨L, hL⟩ := exq (decide (N ≤ 64))
 obtain ⟨V, hV⟩ := exq (Lib.validD (bs s))
 have HT : Hid (textP (bs s) = (!E && L && V)) := by
  show _ = _
  unfold textP
  rw [hE, bs_len, hN, hL, hV]
 have he : (s.toList == ([] : Bs)) = E := by rw [nil_str]; exact hE
 have hl : decide ((N : Int) ≤ 64) = L := by rw [← hL, decide_eq_decide]; omega
 have Hv := h_ (Tryz.utf8_ValidString s w (by omega) hR.tabs)
 rw [show Lib.validD s.data.toList = V from hV] at Hv
 have Hb := h_ (Below.refl w.heap.size w)
 clear hE hV hR
 cases E with
 | true =>
  go_enter Tryz.func56, Tryz.ntmps56
  go_wp2
  go_ret
  exact ⟨by rw [u_ HT]; rfl, u_ Hb⟩
 | false =>
  cases L with
  | false =>
   have l2 : ¬ N ≤ 64 := of_decide_eq_false hL
   go_enter Tryz.func56, Tryz.ntmps56
   go_wp2
   go_ret
   exact ⟨by rw [u_ HT]; rfl, u_ Hb⟩
  | true =>
   have l2 : N ≤ 64 := of_decide_eq_true hL
   go_enter Tryz.func56, Tryz.ntmps56
   go_wp2_with fail
   refine Hv.mono ?_
   rintro e w2 ⟨rfl, hb⟩
   have HB := h_ hb
   clear hb
   go_wp2
   go_ret
   exact ⟨by rw [u_ HT]; cases V <;> rfl, u_ HB⟩
theorem texttag_c (w : World) (s : ByteArray) (hs : s.size ≤ 1000000) : Calls Tryz.prog 57 #[.string s] w fun e w' => e = .returned (.int .i64 (textT (bs s) : Int)) ∧ Below w.heap.size w w' := by
 obtain ⟨V, hV⟩ := exq ((bs s).all fun c => prnN c.toNat)
 have Hev := h_ (every_c 89 _ questPrn s (by omega) w)
 rw [hV] at Hev
 have HT : Hid (textT (bs s) = if V = true then 19 else 12) := by show _ = _; unfold textT; rw [hV]
 clear hV
 cases V <;>
 ·go_enter Tryz.func57, Tryz.ntmps57
  go_wp2_with fail
  refine Hev.mono ?_
  rintro e w2 ⟨rfl, hb⟩
  have HB := h_ hb
  clear hb
  go_wp2
  go_ret
  exact ⟨by rw [u_ HT]; rfl, u_ HB⟩
theorem made_c (w : World) (t : Int) (sp : Option Addr) (n c : Nat) : Calls Tryz.prog 61 #[.int .i64 t, .slice sp n c] w fun e w' => e = .returned (.agg #[.int .i64 0, .int .i64 t, .bool true, .slice none 0 0, .slice sp n c]) ∧ Below w.heap.size w w' := by
 obtain ⟨w1, R, hw1, eR, hR0⟩ := blkN (Below.refl w.heap.size w) #[.int .i64 0, .int .i64 0, .bool false, .slice none 0 0, .slice none 0 0] 25
 have HR := h_ hR0
 have H6 : Hid ((#[.int .i64 0, .int .i64 t, .bool true, .slice none 0 0, .slice sp n c] : Array Value).all (·.oneCell') = true) := by show _ = true; simp [Value.oneCell']
 clear hR0
 go_enter Tryz.func61, Tryz.ntmps61
 go_upto_region 1 with fail
 go_wp2_with (refine wpList_store_row rfl 25 _ _ rfl R _ rfl rfl 25 _ HR.res value5 rfl (u_ H6) ?_)
 exact bodyPost_ret (results_cell_row Tryz.results61 _ _ R 25 #[.int .i64 0, .int .i64 t, .bool true, .slice none 0 0, .slice sp n c] (0, 0) _ rfl (HR.set #[.int .i64 0, .int .i64 t, .bool true, .slice none 0 0, .slice sp n c]).res Tryz.underlying25 rfl value5) rfl ⟨rfl, (HR.set #[.int .i64 0, .int .i64 t, .bool true, .slice none 0 0, .slice sp n c]).b⟩
end N
def sameP (a b : List (Bs × Bs)) : Bool := decide (a = b)
def dirP (d l : List (Bs × Bs)) : Bool := decide (l.length ≤ d.length) && sameP (d.take l.length) l
theorem dnc_at {w : World} {sp : Option Addr} {n c : Nat} {d : List (Bs × Bs)} (h : DnAt w (.slice sp n c) d) {k : Nat} (hk : k < d.length) : ∃ (a : Bs × Bs) (bb oo : Nat), d[k]? = some a ∧ sp = some ⟨bb, oo, none⟩ ∧ w.cell? ⟨bb, oo + k * 2, none⟩ = some (.string (N.st a.1)) ∧ w.cell? ⟨bb, oo + k * 2 + 1, none⟩ = some (.string (N.st a.2)) := by
 obtain ⟨sp', c', e, _, _, h3⟩ := h
 simp only [Value.slice.injEq] at e
 obtain ⟨rfl, _, _⟩ := e
 obtain ⟨b, o, e2, hc⟩ := h3 (fun e => by rw [e] at hk; simp at hk)
 obtain ⟨a, ha⟩ : ∃ a, d[k]? = some a := ⟨_, List.getElem?_eq_getElem hk⟩
 exact ⟨a, b, o, ha, e2, (hc k a ha).1, (hc k a ha).2⟩
namespace N
open K
theorem equal_c (w : World) (sa sb : Option Addr) (n m ca cb : Nat) (da db : List (Bs × Bs)) (ha : DnAt w (.slice sa n ca) da) (hb : DnAt w (.slice sb m cb) db) (hn : da.length = n) (hm : db.length = m) (hn9 : n ≤ 1000000000) (hm9 : m ≤ 1000000000) :
  Calls Tryz.prog 62 #[.slice sa n ca, .slice sb m cb] w fun e w' => e = .returned (.bool (sameP da db)) ∧ Below w.heap.size w w' := by
 obtain ⟨ANS, hA⟩ := exq (sameP da db)
 rw [hA]
 have HA := h_ hA
 have Ha : Hid (∀ wr, Below w.heap.size w wr → DnAt wr (.slice sa n ca) da) := fun wr h => ha.below h
 have Hb : Hid (∀ wr, Below w.heap.size w wr → DnAt wr (.slice sb m cb) db) := fun wr h => hb.below h
 have Hn := h_ hn
 have Hm := h_ hm
 clear hA ha hb hn hm
 by_cases hnm : n = m
 ·subst hnm
  have g1 : ((n : Int) != (n : Int)) = false := by simp
  go_enter Tryz.func62, Tryz.ntmps62
  go_wp2
  clear g1
  go_loopw [13] (fun ii wr => ∃ k : Nat, k ≤ n ∧ ii = .int .i64 (k : Int) ∧ Hid (da.take k = db.take k) ∧ Hid (Below w.heap.size w wr)) (fun ii _ => n - (intOf ii).toNat)
  case atStart => exact ⟨0, by omega, rfl, rfl, Below.refl _ _⟩
  case round =>
   obtain ⟨k, hk, rfl, HE, HB⟩ := hrel
   by_cases hlt : k < n
   ·obtain ⟨a, ba, oa, hda, rfl, ha1, ha2⟩ := dnc_at (u_ Ha wr (u_ HB)) (k := k) (by have := u_ Hn; omega)
    obtain ⟨b, bb, ob, hdb, rfl, hb1, hb2⟩ := dnc_at (u_ Hb wr (u_ HB)) (k := k) (by have := u_ Hm; omega)
    obtain ⟨f1, f1n⟩ := ltVV k n
    have k0 : (0 : Int) ≤ (k : Int) := by omega
    have k1 : (k : Int) < (n : Int) := by omega
    obtain ⟨P, hP⟩ := exq (decide (a.1 = b.1))
    obtain ⟨Q, hQ⟩ := exq (decide (a.2 = b.2))
    obtain ⟨t1, ht1⟩ := exq (st a.1)
    obtain ⟨t2, ht2⟩ := exq (st a.2)
    obtain ⟨u1, hu1⟩ := exq (st b.1)
    obtain ⟨u2, hu2⟩ := exq (st b.2)
    rw [ht1] at ha1
    rw [ht2] at ha2
    rw [hu1] at hb1
    rw [hu2] at hb2
    have e1 : (t1.toList == u1.toList) = P := by rw [eql_str, ← ht1, ← hu1, bs_st, bs_st]; exact hP
    have e2 : (t2.toList == u2.toList) = Q := by rw [eql_str, ← ht2, ← hu2, bs_st, bs_st]; exact hQ
    have HPQ : Hid ((P = true → Q = true → da.take (k + 1) = db.take (k + 1)) ∧ ((P = false ∨ Q = false) → ANS = false)) := by
     refine ⟨fun h1 h2 => ?_, fun h => ?_⟩
     ·have hab : a = b := by
       cases a; cases b
       rw [h1] at hP
       rw [h2] at hQ
       simp only at hP hQ
       rw [of_decide_eq_true hP, of_decide_eq_true hQ]
      rw [List.take_add_one, List.take_add_one, u_ HE, hda, hdb, hab]
     ·rw [← u_ HA]
      refine decide_eq_false fun he => ?_
      rw [he, hdb, Option.some.injEq] at hda
      subst hda
      rcases h with h | h
      ·rw [h] at hP; simp at hP
      ·rw [h] at hQ; simp at hQ
    clear hP hQ ht1 ht2 hu1 hu2 hda hdb
    cases P <;> cases Q
    case true.true =>
     have HE2 := h_ (HPQ.1 rfl rfl)
     clear HPQ
     go_wp2
     go_region
     go_wp2
     go_roundw
     case rel =>
      first
       | exact ⟨k + 1, by omega, by go_num, HE2, HB.drew⟩
       | ((repeat apply Exists.intro); exact ⟨⟨k + 1, by omega, by go_num, HE2, HB.drew⟩, rfl⟩)
     case measure => simp [intOf]; omega
    all_goals
     have HF := h_ (HPQ.2 (by simp))
     clear HPQ
     go_wp2
     go_region
     go_wp2
     go_ret
     exact ⟨by rw [u_ HF]; rfl, HB.drew⟩
   ·obtain ⟨f1, f1n⟩ := ltVVf k n
    have HF : Hid (ANS = true) := by
     show _ = _
     rw [← u_ HA]
     refine decide_eq_true ?_
     have h := u_ HE
     rw [List.take_of_length_le (by have := u_ Hn; omega), List.take_of_length_le (by have := u_ Hm; omega)] at h
     exact h
    go_wp2
    go_ret
    exact ⟨by rw [u_ HF]; rfl, u_ HB⟩
 ·have g1 : ((n : Int) != (m : Int)) = true := by simp; omega
  have g2 : ((n : Int) == (m : Int)) = false := by simp; omega
  have HF : Hid (ANS = false) := by
   show _ = _
   rw [← u_ HA]
   refine decide_eq_false fun he => hnm ?_
   rw [← u_ Hn, ← u_ Hm, he]
  have HB := h_ (Below.refl w.heap.size w)
  clear hnm
  go_enter Tryz.func62, Tryz.ntmps62
  go_wp2
  go_ret
  exact ⟨by rw [u_ HF]; rfl, u_ HB⟩
theorem samedn_c (w : World) (sa sb : Option Addr) (n m ca cb : Nat) (da db : List (Bs × Bs)) (ha : DnAt w (.slice sa n ca) da) (hb : DnAt w (.slice sb m cb) db) (hn : da.length = n) (hm : db.length = m) (hn9 : n ≤ 1000000000) (hm9 : m ≤ 1000000000) :
  Calls Tryz.prog 28 #[.slice sa n ca, .slice sb m cb] w fun e w' => e = .returned (.bool (sameP da db)) ∧ Below w.heap.size w w' := by
 have He := h_ (equal_c w sa sb n m ca cb da db ha hb hn hm hn9 hm9)
 clear ha hb hn hm
 go_enter Tryz.func28, Tryz.ntmps28
 go_wp2_with fail
 refine He.mono ?_
 rintro e w2 ⟨rfl, hb⟩
 have HB := h_ hb
 clear hb
 go_wp2
 go_ret
 exact ⟨rfl, u_ HB⟩
theorem under_dn : Tryz.prog.underlying 53 = some (.slice (Tryz.prog.elem 53)) := by kernel_rfl
theorem elem_dn : Tryz.prog.elem 53 = 103 := by kernel_rfl
theorem size_attr (w : World) : (Go.sizeOf 103).run Tryz.prog w = .ok 2 w := by
 have h : (Tryz.prog.info? 103).map (·.size) = some 2 := by kernel_rfl
 obtain ⟨i, hi, h2⟩ := Option.map_eq_some_iff.1 h
 simp [Go.sizeOf, typeInfo, hi, h2]
theorem slice_dn {w0 : World} {sp : Option Addr} {n c : Nat} {d : List (Bs × Bs)} (hd : DnAt w0 (.slice sp n c) d) (hn : d.length = n) (m : Nat) (h : m ≤ n) : ∃ sq, (∀ w, (Instr.sliceAt 53 (.slice sp n c) none (some (.int .i64 (m : Int))) none).run Tryz.prog w = .ok (.slice sq m c) w) ∧ DnAt w0 (.slice sq m c) (d.take m) := by
 obtain ⟨sp', c', e, h1, h2, h3⟩ := hd
 simp only [Value.slice.injEq] at e
 obtain ⟨rfl, e2, rfl⟩ := e
 have hmc : m ≤ c := by omega
 have hl : (d.take m).length = m := by rw [List.length_take]; omega
 refine ⟨if c = 0 then sp else sp.map (·.add 0), fun w => ?_, ?_⟩
 ·rw [run_sliceAt_slice w 53 _ _ _ _ under_dn, run_slice_h w 53 sp n c under_dn .i64 (m : Int) (by omega) (by omega), elem_dn, size_attr, Result.andThen_ok]
  simp [sliced]
 ·refine ⟨_, c, by rw [hl], by rw [hl]; exact hmc, fun hs => ?_, fun hne => ?_⟩
  ·by_cases hc : c = 0
   ·exact hc
   ·rw [if_neg hc] at hs
    cases sp with
    | none => exact h2 rfl
    | some x => cases hs
  ·have hdne : d ≠ [] := fun e => by rw [e] at hne; simp at hne
   obtain ⟨b, o, e3, hc⟩ := h3 hdne
   subst e3
   have hm0 : 0 < m := Nat.pos_of_ne_zero fun e => hne (by rw [e, List.take_zero])
   refine ⟨b, o, ?_, fun i a hi => ?_⟩
   ·rw [if_neg (by omega), Option.map_some, Addr.add_mid, Nat.add_zero]
   ·have him : i < m := by have := (List.getElem?_eq_some_iff.1 hi).1; omega
    rw [List.getElem?_take_of_lt him] at hi
    exact hc i a hi
theorem dirw_c (w : World) (sa sb : Option Addr) (n m ca cb : Nat) (da db : List (Bs × Bs)) (ha : DnAt w (.slice sa n ca) da) (hb : DnAt w (.slice sb m cb) db) (hn : da.length = n) (hm : db.length = m) (hm9 : m ≤ 1000000000) :
  Calls Tryz.prog 71 #[.slice sa n ca, .slice sb m cb] w fun e w' => e = .returned (.bool (dirP da db)) ∧ Below w.heap.size w w' := by
 by_cases hle : m ≤ n
 ·obtain ⟨sq, hsl, hdq⟩ := slice_dn ha hn m hle
  have Hs := h_ (samedn_c w sq sb m m ca cb (da.take m) db hdq hb (by rw [List.length_take]; omega) hm hm9 hm9)
  have HT : Hid (dirP da db = sameP (da.take m) db) := by show _ = _; unfold dirP; rw [hm, decide_eq_true (by omega), Bool.true_and]
  obtain ⟨g1, g1n⟩ := leVV m n
  clear ha hb hn hm hdq
  go_enter Tryz.func71, Tryz.ntmps71
  go_wp2_with fail
  refine Hs.mono ?_
  rintro e w2 ⟨rfl, hb⟩
  have HB := h_ hb
  clear hb
  go_wp2
  go_ret
  exact ⟨by rw [u_ HT]; rfl, u_ HB⟩
 ·have HT : Hid (dirP da db = false) := by show _ = _; unfold dirP; rw [hm, decide_eq_false (by omega), Bool.false_and]
  obtain ⟨g1, g1n⟩ := leVVf m n
  have HB := h_ (Below.refl w.heap.size w)
  clear ha hb hn hm
  go_enter Tryz.func71, Tryz.ntmps71
  go_wp2
  go_ret
  exact ⟨by rw [u_ HT]; rfl, u_ HB⟩
end N
def cellsA (d : List (Bs × Bs)) : List Value := d.flatMap fun a => [.string (N.st a.1), .string (N.st a.2)]
theorem cellsA_len (d : List (Bs × Bs)) : (cellsA d).length = d.length * 2 := by
 induction d with
 | nil => rfl
 | cons a d ih =>
  have e : cellsA (a :: d) = [.string (N.st a.1), .string (N.st a.2)] ++ cellsA d := by unfold cellsA; simp
  rw [e, List.length_append, ih, List.length_cons]
  simp
  omega
theorem cellsA_app (d e : List (Bs × Bs)) : cellsA (d ++ e) = cellsA d ++ cellsA e := by unfold cellsA; simp
theorem cellsA_one (d : List (Bs × Bs)) : ∀ u ∈ cellsA d, u.oneCell' = true := fun u hu => by
 unfold cellsA at hu
 obtain ⟨a, _, h⟩ := List.mem_flatMap.1 hu
 simp only [List.mem_cons, List.not_mem_nil, or_false] at h
 rcases h with rfl | rfl <;> rfl
theorem cellsA_at : ∀ (d : List (Bs × Bs)) (i : Nat) (a : Bs × Bs), d[i]? = some a → (cellsA d)[i * 2]? = some (.string (N.st a.1)) ∧ (cellsA d)[i * 2 + 1]? = some (.string (N.st a.2))
 | [], i, a, h => by simp at h
 | x :: d, 0, a, h => by
  simp only [List.getElem?_cons_zero, Option.some.injEq] at h
  subst h
  exact ⟨rfl, rfl⟩
 | x :: d, i + 1, a, h => by
  have ih := cellsA_at d i a (by simpa using h)
  have e : cellsA (x :: d) = .string (N.st x.1) :: .string (N.st x.2) :: cellsA d := by unfold cellsA; simp
  rw [e, show (i + 1) * 2 = i * 2 + 1 + 1 by omega]
  exact ih
theorem cellsA_back : ∀ (d : List (Bs × Bs)) (j : Nat) (u : Value), (cellsA d)[j]? = some u → ∃ i a, d[i]? = some a ∧ ((j = i * 2 ∧ u = .string (N.st a.1)) ∨ (j = i * 2 + 1 ∧ u = .string (N.st a.2)))
 | [], j, u, h => by simp [cellsA] at h
 | x :: d, j, u, h => by
  have e : cellsA (x :: d) = .string (N.st x.1) :: .string (N.st x.2) :: cellsA d := by unfold cellsA; simp
  rw [e] at h
  match j, h with
  | 0, h => exact ⟨0, x, rfl, Or.inl ⟨rfl, by simpa using h.symm⟩⟩
  | 1, h => exact ⟨0, x, rfl, Or.inr ⟨rfl, by simpa using h.symm⟩⟩
  | j + 2, h =>
   obtain ⟨i, a, h1, h2⟩ := cellsA_back d j u (by simpa using h)
   refine ⟨i + 1, a, by simpa using h1, ?_⟩
   rcases h2 with h2 | h2
   ·exact Or.inl ⟨by omega, h2.2⟩
   ·exact Or.inr ⟨by omega, h2.2⟩
structure ARow (wb w : World) (v : Value) (d : List (Bs × Bs)) : Prop where
 own : w.ownsRow wb.heap.size 103 2 v d.length (cellsA d)
 b : Below wb.heap.size wb w
theorem ARow.call {wb w w' : World} {v : Value} {d : List (Bs × Bs)} (h : ARow wb w v d) (hb : Below w.heap.size w w') : ARow wb w' v d := by
 refine ⟨⟨h.own.1, ?_⟩, h.b.trans (hb.mono h.b.size)⟩
 rcases h.own.2 with h2 | ⟨g, cap, cur, hv, hB, hg, r⟩
 ·exact Or.inl h2
 ·exact Or.inr ⟨g, cap, cur, hv, hB, by rw [hb.block g (Array.getElem?_eq_some_iff.1 hg).1]; exact hg, r⟩
theorem ARow.form {wb w : World} {v : Value} {d : List (Bs × Bs)} (h : ARow wb w v d) : ∃ sp c, v = .slice sp d.length c := by
 rcases h.own.2 with ⟨rfl, e⟩ | ⟨g, cap, cur, rfl, _⟩
 ·exact ⟨none, 0, by rw [e]⟩
 ·exact ⟨_, _, rfl⟩
theorem ARow.dn {wb w : World} {v : Value} {d : List (Bs × Bs)} (h : ARow wb w v d) : DnAt w v d := by
 rcases h.own.2 with ⟨rfl, e⟩ | ⟨g, cap, cur, rfl, _, hg, hn, _⟩
 ·refine ⟨none, 0, by rw [e], by omega, fun _ => rfl, fun hd => absurd (List.eq_nil_of_length_eq_zero e) hd⟩
 ·refine ⟨_, _, rfl, hn, fun e => (by cases e), fun _ => ⟨g, 0, rfl, fun i a hi => ?_⟩⟩
  obtain ⟨h1, h2⟩ := cellsA_at d i a hi
  have k1 := World.ownsRow.cells h.own (g := g) rfl _ _ h1
  have k2 := World.ownsRow.cells h.own (g := g) rfl _ _ h2
  rw [Addr.add_mid] at k1 k2
  rw [Nat.zero_add] at k1 k2 ⊢
  exact ⟨k1, k2⟩
theorem ARow.text {wb w : World} {g n c k : Nat} {d : List (Bs × Bs)} {a : Bs × Bs} (h : ARow wb w (.slice (some ⟨g, 0, none⟩) n c) d) (hk : d[k]? = some a) (t : ByteArray) :
  (w.cell? ⟨g, k * 2 + 1, none⟩ = some (.string (N.st a.2)) ∧ w.frozen? ⟨g, k * 2 + 1, none⟩ = false) ∧ DnAt (w.setCell ⟨g, k * 2 + 1, none⟩ (.string t)) (.slice (some ⟨g, 0, none⟩) n c) (d.set k (a.1, N.bs t)) ∧ Below wb.heap.size wb (w.setCell ⟨g, k * 2 + 1, none⟩ (.string t)) := by
 have hkl : k < d.length := (List.getElem?_eq_some_iff.1 hk).1
 have hdn := h.dn
 obtain ⟨sp, c', e, h1, h2, h3⟩ := hdn
 simp only [Value.slice.injEq] at e
 obtain ⟨rfl, rfl, rfl⟩ := e
 obtain ⟨b, o, e2, hc⟩ := h3 (fun e => by rw [e] at hkl; simp at hkl)
 simp only [Option.some.injEq, Addr.mk.injEq, and_true] at e2
 obtain ⟨rfl, rfl⟩ := e2
 simp only [Nat.zero_add] at hc
 rcases h.own.2 with ⟨e, _⟩ | ⟨g', cap, cur, e, hge, hg, _⟩
 ·cases e
 simp only [Value.slice.injEq, Option.some.injEq, Addr.mk.injEq, and_true] at e
 obtain ⟨rfl, _⟩ := e
 refine ⟨⟨(hc k a hk).2, frozen_of_row w g _ cur 103 hg⟩, ⟨_, c, by rw [List.length_set], by rw [List.length_set]; exact h1, h2, fun _ => ⟨g, 0, rfl, fun i x hi => ?_⟩⟩, h.b.setCell (p := ⟨g, k * 2 + 1, none⟩) hge _⟩
 rw [Nat.zero_add]
 have far : ∀ j, j ≠ k * 2 + 1 → (w.setCell ⟨g, k * 2 + 1, none⟩ (.string t)).cell? ⟨g, j, none⟩ = w.cell? ⟨g, j, none⟩ := fun j hj => World.cell?_setCell_other _ _ _ _ (fun e => hj (by simp only [Addr.mk.injEq] at e; exact e.2.1.symm))
 by_cases hik : i = k
 ·subst hik
  rw [List.getElem?_set_self hkl, Option.some.injEq] at hi
  subst hi
  refine ⟨by rw [far _ (by omega)]; exact (hc i a hk).1, ?_⟩
  simp only [N.st_bs]
  exact World.cell?_setCell_same _ _ _ (hc i a hk).2
 ·rw [List.getElem?_set_ne (fun e => hik e.symm)] at hi
  exact ⟨by rw [far _ (by omega)]; exact (hc i x hi).1, by rw [far _ (by omega)]; exact (hc i x hi).2⟩
def sumA : List (Bs × Bs) → Nat
 | [] => 0
 | a :: d => a.1.length + a.2.length + sumA d
theorem sumA_snoc : ∀ (d : List (Bs × Bs)) (a : Bs × Bs), sumA (d ++ [a]) = sumA d + (a.1.length + a.2.length)
 | [], a => by simp [sumA]
 | x :: d, a => by rw [List.cons_append]; simp only [sumA]; rw [sumA_snoc d a]; omega
theorem sumA_take : ∀ (d : List (Bs × Bs)) (k : Nat), sumA (d.take k) ≤ sumA d
 | [], k => by simp [sumA]
 | x :: d, 0 => by simp [sumA]
 | x :: d, k + 1 => by rw [List.take_succ_cons]; simp only [sumA]; have := sumA_take d k; omega
theorem sumA_mem : ∀ {d : List (Bs × Bs)} {a : Bs × Bs}, a ∈ d → a.1.length + a.2.length ≤ sumA d
 | [], _, h => by cases h
 | x :: d, a, h => by
  simp only [sumA]
  rcases List.mem_cons.1 h with rfl | h
  ·omega
  ·have := sumA_mem h; omega
def shortP (g : Gen) : Bool := decide (g.text.length + g.dir.length + sumA g.dir ≤ 3000)
theorem short_open {g : Gen} (h : shortP g = true) : g.text.length ≤ 3000 ∧ g.dir.length ≤ 3000 ∧ ∀ a ∈ g.dir, a.1.length ≤ 3000 ∧ a.2.length ≤ 3000 := by
 have h1 : g.text.length + g.dir.length + sumA g.dir ≤ 3000 := of_decide_eq_true h
 exact ⟨by omega, by omega, fun a ha => by have := sumA_mem ha; omega⟩
namespace N
open K
theorem short_c (w : World) (cs : List Value) (g : Gen) (hg : GenAt w cs g) (ht : g.text.length ≤ 281474976710656) (hdl : g.dir.length ≤ 281474976710656) (hl : ∀ a ∈ g.dir, a.1.length ≤ 281474976710656 ∧ a.2.length ≤ 281474976710656) :
  Calls Tryz.prog 21 #[.agg cs.toArray] w fun e w' => e = .returned (.bool (shortP g)) ∧ Below w.heap.size w w' := by
 obtain ⟨s, sp, c, rfl, hst, hdn⟩ := hg.form
 obtain ⟨k, hk⟩ := exq g.kind
 obtain ⟨n, hn⟩ := exq g.dir.length
 obtain ⟨L, hL⟩ := exq s.size
 obtain ⟨d, hd⟩ := exq g.dir
 have hLt : g.text.length = L := by rw [← hst, bs_len]; exact hL
 obtain ⟨ANS, hAN⟩ := exq (shortP g)
 have HS : Hid (decide (L + n + sumA d ≤ 3000) = ANS) := by show _ = _; rw [← hAN]; unfold shortP; rw [hLt, hn, hd]
 rw [hAN, hk, hn]
 rw [hn] at hdn hdl
 rw [hd] at hdn hl
 rw [hLt] at ht
 have Hd : Hid (∀ wr, Below w.heap.size w wr → DnAt wr (.slice sp n c) d) := fun wr hb => hdn.below hb
 have Hn : Hid (d.length = n) := by show _ = _; rw [← hd]; exact hn
 have Hl := h_ hl
 obtain ⟨w1, X, hw1, eX, hA⟩ := blkN (Below.refl w.heap.size w) #[.int .i64 k, .string s, .slice sp n c] 56
 obtain ⟨k0, k1, k2⟩ := three_at hA
 have HA := h_ hA
 unfold gcells
 obtain ⟨M0, hM0⟩ := exq (L + n)
 have eM0 : (L : Int) + (n : Int) = (M0 : Int) := by omega
 have bM0 : M0 ≤ 562949953421312 := by omega
 have HM0 := h_ hM0
 clear hA hdn hst hg hk hn hAN hLt hd hl hM0
 go_enter Tryz.func21, Tryz.ntmps21
 go_wp2
 clear k0 k1 k2 eM0
 go_loopw [3, 16] (fun nn ii wr => ∃ (i m : Nat), i ≤ n ∧ (i = 0 ∨ m ≤ 3000) ∧ m ≤ 562949953421312 ∧ nn = .int .i64 (m : Int) ∧ ii = .int .i64 (i : Int) ∧ Hid (m = M0 + sumA (d.take i)) ∧ Hid (Below w.heap.size w wr)) (fun _ ii _ => n - (intOf ii).toNat)
 case atStart => exact ⟨0, M0, by omega, Or.inl rfl, by omega, rfl, rfl, by show _ = _; rw [List.take_zero]; rfl, HA.b⟩
 case round =>
  obtain ⟨i, m, hi, hm3, hm, rfl, rfl, Hm, HB⟩ := hrel
  by_cases hlt : i < n
  ·obtain ⟨a, bb, oo, hda, rfl, h1, h2⟩ := dnc_at (u_ Hd wr (u_ HB)) (k := i) (by have := u_ Hn; omega)
   obtain ⟨f1, f1n⟩ := ltVV i n
   have j0 : (0 : Int) ≤ (i : Int) := by omega
   have j1 : (i : Int) < (n : Int) := by omega
   obtain ⟨t1, ht1⟩ := exq (st a.1)
   obtain ⟨t2, ht2⟩ := exq (st a.2)
   rw [ht1] at h1
   rw [ht2] at h2
   obtain ⟨z1, hz1⟩ := exq t1.size
   obtain ⟨z2, hz2⟩ := exq t2.size
   have hl2 := u_ Hl a (List.mem_of_getElem? hda)
   have e1 : a.1.length = z1 := by rw [← hz1, ← ht1, st_size]
   have e2 : a.2.length = z2 := by rw [← hz2, ← ht2, st_size]
   rw [e1, e2] at hl2
   obtain ⟨m1, hm1⟩ := exq (z1 + z2)
   obtain ⟨m2, hm2⟩ := exq (m + m1)
   have g1 : (z1 : Int) + (z2 : Int) = (m1 : Int) := by omega
   have g2 : (m : Int) + (m1 : Int) = (m2 : Int) := by omega
   have bz1 := hl2.1
   have bz2 := hl2.2
   have bm1 : m1 ≤ 562949953421312 := by omega
   have Hm2 : Hid (m2 = M0 + sumA (d.take (i + 1))) := by
    show _ = _
    rw [List.take_add_one, hda]
    show _ = M0 + sumA (d.take i ++ [a])
    rw [sumA_snoc, e1, e2]
    have := u_ Hm
    omega
   obtain ⟨w3, hw3⟩ := exq (wr.alloc (.cells #[.string t1, .string t2] 103))
   obtain ⟨A, eA⟩ := exq wr.heap.size
   have hB := Blk.new (u_ HB) #[.string t1, .string t2] 103
   rw [hw3, eA] at hB
   have a0 : w3.cell? ⟨A, 0, none⟩ = some (.string t1) := hB.cell 0 _ rfl
   have a1 : w3.cell? ⟨A, 1, none⟩ = some (.string t2) := hB.cell 1 _ rfl
   have HB3 := h_ hB.b
   clear hB ht1 ht2 hda e1 e2 hm1 hm2 hl2 Hm hm3
   by_cases h3 : 3000 < m2
   ·obtain ⟨y1, y1n⟩ := ltLV 3000 3000 m2
    have HF : Hid (ANS = false) := by
     show _ = _
     rw [← u_ HS]
     refine decide_eq_false ?_
     have h4 := sumA_take d (i + 1)
     have h5 := u_ Hm2
     have h6 := u_ HM0
     omega
    go_wp2
    go_ret
    exact ⟨by rw [u_ HF]; rfl, u_ HB3⟩
   ·obtain ⟨y1, y1n⟩ := ltLVf 3000 3000 m2
    go_wp2
    go_roundw
    case rel =>
     first
      | exact ⟨i + 1, m2, by omega, Or.inr (by omega), by omega, by go_num, by go_num, Hm2, HB3⟩
      | ((repeat apply Exists.intro); exact ⟨⟨i + 1, m2, by omega, Or.inr (by omega), by omega, by go_num, by go_num, Hm2, HB3⟩, rfl⟩)
    case measure => simp [intOf]; omega
  ·obtain ⟨f1, f1n⟩ := ltVVf i n
   have HF : Hid (decide (m ≤ 3000) = ANS) := by
    show _ = _
    rw [← u_ HS, decide_eq_decide]
    have h5 := u_ Hm
    rw [List.take_of_length_le (by have := u_ Hn; omega)] at h5
    have h6 := u_ HM0
    omega
   have y1 : decide ((m : Int) ≤ 3000) = ANS := by rw [← u_ HF, decide_eq_decide]; omega
   clear Hm hm3
   go_wp2
   go_ret
   exact ⟨rfl, u_ HB⟩
end N
structure QRow (wb w : World) (v : Value) (d : List (Bs × Bs)) : Prop where
 own : w.ownsRow wb.heap.size 110 2 v d.length (cellsA d)
 b : Below wb.heap.size wb w
theorem qrow_nil (w : World) : QRow w w (.slice none 0 0) [] := ⟨World.ownsRow_nil w _ 110 2, Below.refl _ _⟩
theorem QRow.call {wb w w' : World} {v : Value} {d : List (Bs × Bs)} (h : QRow wb w v d) (hb : Below w.heap.size w w') : QRow wb w' v d := by
 refine ⟨⟨h.own.1, ?_⟩, h.b.trans (hb.mono h.b.size)⟩
 rcases h.own.2 with h2 | ⟨g, cap, cur, hv, hB, hg, r⟩
 ·exact Or.inl h2
 ·exact Or.inr ⟨g, cap, cur, hv, hB, by rw [hb.block g (Array.getElem?_eq_some_iff.1 hg).1]; exact hg, r⟩
theorem QRow.form {wb w : World} {v : Value} {d : List (Bs × Bs)} (h : QRow wb w v d) : ∃ sp c, v = .slice sp d.length c := by
 rcases h.own.2 with ⟨rfl, e⟩ | ⟨g, cap, cur, rfl, _⟩
 ·exact ⟨none, 0, by rw [e]⟩
 ·exact ⟨_, _, rfl⟩
theorem QRow.dn {wb w : World} {v : Value} {d : List (Bs × Bs)} (h : QRow wb w v d) : DnAt w v d := by
 rcases h.own.2 with ⟨rfl, e⟩ | ⟨g, cap, cur, rfl, _, hg, hn, _⟩
 ·refine ⟨none, 0, by rw [e], by omega, fun _ => rfl, fun hd => absurd (List.eq_nil_of_length_eq_zero e) hd⟩
 ·refine ⟨_, _, rfl, hn, fun e => (by cases e), fun _ => ⟨g, 0, rfl, fun i a hi => ?_⟩⟩
  obtain ⟨h1, h2⟩ := cellsA_at d i a hi
  have k1 := World.ownsRow.cells h.own (g := g) rfl _ _ h1
  have k2 := World.ownsRow.cells h.own (g := g) rfl _ _ h2
  rw [Addr.add_mid] at k1 k2
  rw [Nat.zero_add] at k1 k2 ⊢
  exact ⟨k1, k2⟩
theorem qattr_info : ∃ i, Tryz.prog.info? 110 = some i ∧ i.zero = some (.agg #[.string ByteArray.empty, .string ByteArray.empty]) ∧ i.size = 2 ∧ i.bytes = 32 := by
 have h : (Tryz.prog.info? 110).map (fun i => (i.zero, i.size, i.bytes)) = some (some (.agg #[.string ByteArray.empty, .string ByteArray.empty]), 2, 32) := by kernel_rfl
 obtain ⟨i, hi, h2⟩ := Option.map_eq_some_iff.1 h
 simp only [Prod.mk.injEq] at h2
 exact ⟨i, hi, h2.1, h2.2.1, h2.2.2⟩
theorem run_append_qattrs (wb w : World) (v x : Value) (d e : List (Bs × Bs)) (hd : QRow wb w v d) (hx : DnAt w x e) (he : e ≠ []) (hl : d.length + e.length ≤ 1000000) (ty : TypeId) :
  ∃ v' w', (Builtin.append_ #[59, 59] ty #[v, x]).run Tryz.prog w = .ok v' w' ∧ QRow wb w' v' (d ++ e) ∧ w.grownBy w' v.ownBlock := by
 obtain ⟨i, hi, hz, hsz, hby⟩ := qattr_info
 obtain ⟨sp, c, rfl, _, _, h3⟩ := hx
 obtain ⟨b, o, rfl, hc⟩ := h3 he
 have hn : ∀ j u, (cellsA e)[j]? = some u → w.cell? ((⟨b, o, none⟩ : Addr).add j) = some u := fun j u hu => by
  rw [Addr.add_mid]
  obtain ⟨i, a, h1, h2⟩ := cellsA_back e j u hu
  obtain ⟨k1, k2⟩ := hc i a h1
  rcases h2 with ⟨rfl, rfl⟩ | ⟨rfl, rfl⟩
  ·exact k1
  ·rw [← Nat.add_assoc]; exact k2
 obtain ⟨v', w', hr, h2, h3, _⟩ := run_append_own (P := Tryz.prog) w wb.heap.size 59 ty 110 i _ 2 32 Tryz.underlying59 hi hz hsz hby rfl (by omega) v d.length (cellsA d) hd.own ⟨b, o, none⟩ e.length c (cellsA e) (cellsA_len e) hn (cellsA_one e) (by simp only [maxLen]; omega) (by omega) hd.b.size
 refine ⟨v', w', hr, ⟨?_, ?_⟩, h3⟩
 ·rw [cellsA_app, List.length_append]; exact h2
 ·exact hd.b.grown h3 hd.b.size (fun g hg => (World.ownsRow.lt hd.own g hg).1)
theorem wpList_append_qattrs {wb w : World} {ops : Array Oper} {rest : List Oper} {o : Oper} {a : Act} {Q : Exit → Act → World → Prop} (hgd : o.guard = none) (s x : Operand)
  (ho : o.op = .call { callee := .builtin .append, args := #[s, x], argTypes := #[59, 59] }) (v y : Value) (d e : List (Bs × Bs)) (hs : a.eval s = v) (hd : QRow wb w v d)
  (hx : a.eval x = y) (hy : DnAt w y e) (he : e ≠ []) (hl : d.length + e.length ≤ 1000000)
  (h : ∀ v' w', QRow wb w' v' (d ++ e) → w.grownBy w' v.ownBlock → wpList Tryz.prog ops Q rest (a.put o.dst v') w') : wpList Tryz.prog ops Q (o :: rest) a w := by
 obtain ⟨v', w', hr, h2, h3⟩ := run_append_qattrs wb w v y d e hd hy he hl o.type
 refine wpList_plain hgd fun _ hK => ?_
 unfold Oper.wp execOp
 simp only [ho, resolve, invoke, builtin, Sem.run_bind, Sem.run_pure, Result.andThen_ok, List.map_toArray, List.map_cons, List.map_nil, hs, hx, hr]
 exact hK _ _ (h v' w' h2 h3)
theorem one_qattr (w : World) (a b : ByteArray) : DnAt (w.alloc (.cells #[.string a, .string b] 110)) (.slice (some ⟨w.heap.size, 0, none⟩) 1 1) [(N.bs a, N.bs b)] := by
 refine ⟨_, 1, rfl, Nat.le_refl _, fun e => (by cases e), fun _ => ⟨w.heap.size, 0, rfl, fun i x hi => ?_⟩⟩
 match i, hi with
 | 0, hi =>
  simp only [List.getElem?_cons_zero, Option.some.injEq] at hi
  subst hi
  simp only [N.st_bs]
  exact ⟨cell_of_row _ _ _ _ 110 (0, 0) (heap_alloc_new w _) |>.trans rfl, cell_of_row _ _ _ _ 110 (0, 0) (heap_alloc_new w _) |>.trans rfl⟩
 | i + 1, hi => simp at hi
namespace Q
open N K
theorem attrs_c (w : World) (sp : Option Addr) (n c : Nat) (d : List (Bs × Bs)) (hd : DnAt w (.slice sp n c) d) (hn : d.length = n) (hn9 : n ≤ 10000) :
  Calls Tryz.prog 26 #[.slice sp n c] w fun e w' => ∃ sq k, e = .returned (.slice sq n k) ∧ DnAt w' (.slice sq n k) d ∧ Below w.heap.size w w' := by
 have Hd : Hid (∀ wr, Below w.heap.size w wr → DnAt wr (.slice sp n c) d) := fun wr hb => hd.below hb
 have Hn := h_ hn
 clear hd hn
 go_enter Tryz.func26, Tryz.ntmps26
 go_wp2
 go_loopw [3, 8] (fun oo ii wr => ∃ (i k : Nat) (sq : Option Addr), i ≤ n ∧ oo = .slice sq i k ∧ ii = .int .i64 (i : Int) ∧ Hid (QRow w wr (.slice sq i k) (d.take i))) (fun _ ii _ => n - (intOf ii).toNat)
 case atStart => exact ⟨0, 0, none, by omega, rfl, rfl, qrow_nil w⟩
 case round =>
  obtain ⟨i, k, sq, hi, rfl, rfl, HA⟩ := hrel
  by_cases hlt : i < n
  ·obtain ⟨a, bb, oo, hda, rfl, h1, h2⟩ := dnc_at (u_ Hd wr HA.b) (k := i) (by have := u_ Hn; omega)
   obtain ⟨f1, f1n⟩ := ltVV i n
   have k0 : (0 : Int) ≤ (i : Int) := by omega
   have k1 : (i : Int) < (n : Int) := by omega
   obtain ⟨t1, ht1⟩ := exq (st a.1)
   obtain ⟨t2, ht2⟩ := exq (st a.2)
   rw [ht1] at h1
   rw [ht2] at h2
   obtain ⟨w3, hw3⟩ := exq (wr.alloc (.cells #[.string t1, .string t2] 103))
   obtain ⟨A, eA⟩ := exq wr.heap.size
   have hB := Blk.new HA.b #[.string t1, .string t2] 103
   have hb3 := allocB hw3
   rw [hw3, eA] at hB
   have a0 : w3.cell? ⟨A, 0, none⟩ = some (.string t1) := hB.cell 0 _ rfl
   have a1 : w3.cell? ⟨A, 1, none⟩ = some (.string t2) := hB.cell 1 _ rfl
   have HA3 := h_ ((HA.call hb3).call ((Below.refl w3.heap.size w3).alloc (Nat.le_refl _) (.cells #[.string t1, .string t2] 110)))
   have Hone := h_ (one_qattr w3 t1 t2)
   have HBa : Hid ([(bs t1, bs t2)] = [a]) := by show _ = _; rw [← ht1, ← ht2, bs_st, bs_st]
   have Htk : Hid (d.take (i + 1) = d.take i ++ [a]) := by show _ = _; rw [List.take_add_one, hda]; rfl
   have Hdl : Hid ((d.take i).length = i ∧ (d.take (i + 1)).length = i + 1) := by have := u_ Hn; exact ⟨by rw [List.length_take]; omega, by rw [List.length_take]; omega⟩
   clear hB hb3 ht1 ht2 hda HA
   go_wp2_with (at_builtin; refine wpList_append_qattrs rfl _ _ rfl (.slice sq i k) (.slice (some ⟨w3.heap.size, 0, none⟩) 1 1) (d.take i) [a] rfl (u_ HA3) rfl (by rw [← u_ HBa]; exact u_ Hone) (by simp) (by rw [Hdl.1]; simp only [List.length_singleton]; omega) ?_
                intro v3 W3 hR3 _
                rw [← u_ Htk] at hR3
                obtain ⟨p3, q3, rfl⟩ := hR3.form
                rw [Hdl.2] at hR3 ⊢
                have HR3 := h_ hR3
                clear hR3)
   go_roundw
   case rel =>
    first
     | exact ⟨i + 1, q3, p3, by omega, rfl, by go_num, HR3⟩
     | ((repeat apply Exists.intro); exact ⟨⟨i + 1, q3, p3, by omega, rfl, by go_num, HR3⟩, rfl⟩)
   case measure => simp [intOf]; omega
  ·obtain ⟨f1, f1n⟩ := ltVVf i n
   have hie : i = n := by omega
   rw [hie] at HA ⊢
   have hall : d.take n = d := List.take_of_length_le (by have := u_ Hn; omega)
   rw [hall] at HA
   have f2 : decide ((n : Int) < (n : Int)) = false := by simp
   clear f1 f1n hie hall hlt hi
   go_wp2
   go_ret
   exact ⟨_, _, rfl, HA.dn, HA.b⟩
end Q
namespace Q
open N K
theorem qgen3 : (Tryz.prog.info? 71).map (·.size) = some 3 := by kernel_rfl
theorem other3 (w : World) {X R : Nat} (h : X ≠ R) (j : Nat) (x y z : Value) : (((w.setCell ⟨R, 0, none⟩ x).setCell ⟨R, 1, none⟩ y).setCell ⟨R, 2, none⟩ z).cell? ⟨X, j, none⟩ = w.cell? ⟨X, j, none⟩ := by
 rw [World.cell?_setCell_far _ _ _ _ (fun e => h e.symm), World.cell?_setCell_far _ _ _ _ (fun e => h e.symm), World.cell?_setCell_far _ _ _ _ (fun e => h e.symm)]
theorem dn_put3 {w w3 : World} {R : Nat} {a : Int} {b : ByteArray} {p : Option Addr} {n c : Nat} {T : TypeId} {v : Value} {d : List (Bs × Bs)} (hd : DnAt w3 v d) (hR : Blk w w3 R #[.int .i64 a, .string b, .slice p n c] T) (x y z : Value) : DnAt (((w3.setCell ⟨R, 0, none⟩ x).setCell ⟨R, 1, none⟩ y).setCell ⟨R, 2, none⟩ z) v d := by
 obtain ⟨sp, cp, e, h1, h2, h3⟩ := hd
 refine ⟨sp, cp, e, h1, h2, fun hne => ?_⟩
 obtain ⟨bb, oo, e2, hc⟩ := h3 hne
 have hbR : bb ≠ R := by
  rintro rfl
  cases d with
  | nil => exact hne rfl
  | cons q d =>
   obtain ⟨c1, c2⟩ := hc 0 q rfl
   rw [cell_of_row _ _ _ _ _ _ hR.res] at c1 c2
   rcases (by omega : oo = 0 ∨ oo = 1 ∨ oo = 2 ∨ 3 ≤ oo) with rfl | rfl | rfl | h
   ·simp at c1
   ·simp at c2
   ·simp at c1
   ·rw [Array.getElem?_eq_none (by simp; omega)] at c1; cases c1
 refine ⟨bb, oo, e2, fun i q hi => ?_⟩
 rw [other3 _ hbR, other3 _ hbR]
 exact hc i q hi
theorem general_c (w : World) (cs : List Value) (g : Gen) (hg : GenAt w cs g) (hdl : g.dir.length ≤ 10000) :
  Calls Tryz.prog 32 #[.agg cs.toArray] w fun e w' => ∃ ds : List Value, e = .returned (.agg ds.toArray) ∧ GenAt w' ds g ∧ Below w.heap.size w w' := by
 obtain ⟨s, sp, c, rfl, hst, hdn⟩ := hg.form
 obtain ⟨k, hk⟩ := exq g.kind
 obtain ⟨n, hn⟩ := exq g.dir.length
 rw [hk, hn]
 rw [hn] at hdn hdl
 obtain ⟨w1, X, hw1, eX, hA⟩ := blkN (Below.refl w.heap.size w) #[.int .i64 k, .string s, .slice sp n c] 56
 have hR0 := Blk.new hA.b #[.int .i64 0, .string { data := #[] }, .slice none 0 0] 71
 have hA1 := hA.lit (.cells #[.int .i64 0, .string { data := #[] }, .slice none 0 0] 71)
 obtain ⟨w2, hw2⟩ : ∃ w2, w1.alloc (.cells #[.int .i64 0, .string { data := #[] }, .slice none 0 0] 71) = w2 := ⟨_, rfl⟩
 obtain ⟨R, eR⟩ := exq w1.heap.size
 have hXR : X ≠ R := by have := hA.lt; omega
 rw [hw2, eR] at hR0
 rw [hw2] at hA1
 obtain ⟨k0, k1, k2⟩ := three_at hA1
 have HA := h_ hA1
 have HR := h_ hR0
 have HD : Hid (DnAt w2 (.slice sp n c) g.dir) := hdn.below hR0.b
 have Hk := h_ hk
 have Hn := h_ hn
 have Hst := h_ hst
 have HX : Hid (w.heap.size ≤ X) := by show _ ≤ _; omega
 unfold gcells
 clear hA hA1 hR0 hdn hst hk hn hg
 go_enter Tryz.func32, Tryz.ntmps32
 go_wp2
 clear hw1 hw2 eR eX
 have Hat := h_ (attrs_c w2.drew sp n c g.dir (HD.below (Below.refl _ _).drew) (u_ Hn) hdl)
 go_region_held3 (fun w' => w'.cell? ⟨X, 0, none⟩ = some (.int .i64 k) ∧ w'.cell? ⟨X, 1, none⟩ = some (.string s) ∧ w'.cell? ⟨X, 2, none⟩ = some (.slice sp n c)) (go_keep)
  ((first
    | (go_at_call 26
       refine Hat.mono ?_
       rintro e w3 ⟨sq, kq, rfl, hdq, hb3⟩
       have Hb3 : Hid (Below w2.heap.size w2 w3) := (Below.refl w2.heap.size w2).drew.trans hb3
       have HDq := h_ hdq
       have HA3 := h_ (HA.call (u_ Hb3))
       have HR3 := h_ (HR.call (u_ Hb3))
       obtain ⟨a0, a1, a2⟩ := three_at (u_ HA3)
       obtain ⟨r0, r1, r2⟩ := three_at (u_ HR3)
       have b0 := (other3 w3 hXR 0 (.int .i64 k) (.string s) (.slice sq n kq)).trans a0
       have b1 := (other3 w3 hXR 1 (.int .i64 k) (.string s) (.slice sq n kq)).trans a1
       have b2 := (other3 w3 hXR 2 (.int .i64 k) (.string s) (.slice sq n kq)).trans a2
       have z0 := HR3.frozen 0
       have z1 := HR3.frozen 1
       have z2 := HR3.frozen 2
       clear hdq hb3)))
 have HR4 := h_ (HR3.put3 (.int .i64 k) (.string s) (.slice sq n kq))
 have HD4 := h_ (dn_put3 (u_ HDq) (u_ HR3) (.int .i64 k) (.string s) (.slice sq n kq))
 clear a0 a1 a2 r0 r1 r2 b0 b1 b2 z0 z1 z2
 go_wp2
 exact bodyPost_ret (results_cell_row Tryz.results32 _ _ R 71 #[.int .i64 k, .string s, .slice sq n kq] (0, 0) _ rfl HR4.res Tryz.underlying71 rfl qgen3) rfl ⟨[.int .i64 k, .string s, .slice sq n kq], rfl, ⟨s, sq, kq, by rw [u_ Hk, u_ Hn]; rfl, u_ Hst, by rw [u_ Hn]; exact u_ HD4⟩, HR4.b⟩
end Q
end Go.Proofs.YtcofnockikninaaGreatDoor
