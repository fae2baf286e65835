/-
  DNs' values: plain words; rows of values that are filled; the walks of the landed isText, textTag, made.
-/
import Derived.Test.YtcofnockikninabGreatDoorOA
import Derived.Deep.MidRow
namespace Go.Proofs.YtcofnockikninabGreatDoor
open Go.RowKit
def textP (t : Bs) : Bool := !decide (t = []) && decide (t.length ≤ 64) && Lib.validD t
def textT (t : Bs) : Nat := if (t.all fun c => prnN c.toNat) = true then 19 else 12
def pairDV (a : Bs × Bs) : DV := .mk 0 16 true [] [oidV a.1, .mk 0 (textT a.2 : Int) false a.2 []]
def attrDV (a : Bs × Bs) : DV := .mk 0 17 true [] [pairDV a]
/-- A DN's value, or the first error. -/
def dnV (d : List (Bs × Bs)) : Told DV :=
  if 16 < d.length then .no 30 else
  if (d.all fun a => (oidVP a.1).isSome) = false then .no 30 else
  if (d.all fun a => textP a.2) = false then .no 31 else .yes (.mk 0 16 true [] (d.map attrDV))
theorem grown_setCells (w : World) (B : Nat) : ∀ (vs : List Value) (o : Nat) (w2 : World), w.grownBy w2 (some B) → w.grownBy (w2.setCells B o vs) (some B)
  | [], _, _, h => h
  | v :: r, o, _, h => grown_setCells w B r (o + 1) _ (grown_setCell h ⟨B, o, none⟩ v rfl)
theorem setCells_res (B : Nat) : ∀ (vs : List Value) (o : Nat) (w : World) (cs : Array Value) (t : TypeId), w.heap[B]? = some (.cells cs t (0, 0)) → ∃ cs', (w.setCells B o vs).heap[B]? = some (.cells cs' t (0, 0)) ∧ cs'.size = cs.size
  | [], _, _, cs, _, h => ⟨cs, h, rfl⟩
  | v :: r, o, w, cs, t, h => by
    obtain ⟨cs', h1, h2⟩ := setCells_res B r (o + 1) _ _ t (heap_setCell_same w B o cs t v h)
    exact ⟨cs', h1, by rw [h2]; simp⟩
/-- A row of n values in a block of its own, of which the first are laid, in blocks of S alone. -/
structure DRow (S : Nat → Prop) (w : World) (B n : Nat) (vs : List DV) : Prop where
  res : ∃ cs : Array Value, w.heap[B]? = some (.cells cs 36 (0, 0)) ∧ cs.size = n * 5
  at_ : ∀ (j : Nat) (v : DV), vs[j]? = some v → ∃ ds, CellsAt w B (j * 5) ds ∧ ValAt S w ds v
theorem DRow.lt {S : Nat → Prop} {w : World} {B n : Nat} {vs : List DV} (h : DRow S w B n vs) : B < w.heap.size := by
  obtain ⟨cs, h1, _⟩ := h.res
  exact (Array.getElem?_eq_some_iff.1 h1).1
theorem DRow.below {S : Nat → Prop} {w w' : World} {B n : Nat} {vs : List DV} (h : DRow S w B n vs) (hb : Below w.heap.size w w') : DRow S w' B n vs := by
  refine ⟨?_, fun j v hj => ?_⟩
  · obtain ⟨cs, h1, h2⟩ := h.res
    exact ⟨cs, by rw [hb.block B h.lt]; exact h1, h2⟩
  · obtain ⟨ds, h1, h2⟩ := h.at_ j v hj
    exact ⟨ds, h1.below hb, h2.below hb⟩
theorem DRow.mono {S S' : Nat → Prop} {w : World} {B n : Nat} {vs : List DV} (h : DRow S w B n vs) (hS : ∀ b, S b → b < w.heap.size → S' b) : DRow S' w B n vs :=
  ⟨h.res, fun j v hj => by obtain ⟨ds, h1, h2⟩ := h.at_ j v hj; exact ⟨ds, h1, h2.mono hS⟩⟩
theorem DRow.kept {S : Nat → Prop} {w w' : World} {B n C : Nat} {vs : List DV} (h : DRow S w B n vs) (hg : w.grownBy w' (some C)) (hne : B ≠ C) (hS : ¬ S C) : DRow S w' B n vs := by
  refine ⟨?_, fun j v hj => ?_⟩
  · obtain ⟨cs, h1, h2⟩ := h.res
    exact ⟨cs, by rw [hg.block B h.lt (fun e => hne (by simpa using e))]; exact h1, h2⟩
  · obtain ⟨ds, h1, h2⟩ := h.at_ j v hj
    exact ⟨ds, h1.kept hg (fun e => hne (by simpa using e)), h2.kept hg (fun g e hs => by simp only [Option.some.injEq] at e; subst e; exact hS hs)⟩
theorem DRow.there {S : Nat → Prop} {w : World} {B n : Nat} {vs : List DV} (h : DRow S w B n vs) (k : Nat) (hk : k < n) : w.there B (k * 5) 5 := fun j hj => by
  obtain ⟨cs, h1, h2⟩ := h.res
  refine ⟨?_, frozen_of_row w B _ cs 36 h1⟩
  rw [cell_of_row w B _ cs 36 (0, 0) h1, Array.getElem?_eq_getElem (by omega)]
  rfl
/-- One value more. -/
theorem DRow.set {S : Nat → Prop} {w : World} {B n k : Nat} {vs : List DV} {ds : List Value} {v : DV} (h : DRow S w B n vs) (hk : vs.length = k) (hn : k < n) (hds : ds.length = 5) (hv : ValAt S w ds v) (hS : ¬ S B) : DRow S (w.setCells B (k * 5) ds) B n (vs ++ [v]) := by
  have hg : w.grownBy (w.setCells B (k * 5) ds) (some B) := grown_setCells w B ds (k * 5) w (World.grownBy.refl _ _)
  have hkept : ∀ {cs : List Value} {u : DV}, ValAt S w cs u → ValAt S (w.setCells B (k * 5) ds) cs u := fun hu => hu.kept hg (fun g e hs => by simp only [Option.some.injEq] at e; subst e; exact hS hs)
  refine ⟨?_, fun j u hj => ?_⟩
  · obtain ⟨cs, h1, h2⟩ := h.res
    obtain ⟨cs', h3, h4⟩ := setCells_res B ds (k * 5) w cs 36 h1
    exact ⟨cs', h3, by rw [h4]; exact h2⟩
  · by_cases hjk : j < k
    · rw [List.getElem?_append_left (by omega)] at hj
      obtain ⟨cs, h1, h2⟩ := h.at_ j u hj
      obtain ⟨m, h2'⟩ := h2
      have hl := h2'.len
      exact ⟨cs, World.rangeAt_setCells_apart (w := w) h1 B (k * 5) ds (Or.inr (Or.inl (by omega))), hkept ⟨m, h2'⟩⟩
    · have hjl : j < (vs ++ [v]).length := (List.getElem?_eq_some_iff.1 hj).1
      have e : j = k := by rw [List.length_append, List.length_singleton] at hjl; omega
      subst e
      rw [List.getElem?_append_right (by omega), hk, Nat.sub_self] at hj
      simp only [List.getElem?_cons_zero, Option.some.injEq] at hj
      subst hj
      exact ⟨ds, World.rangeAt_setCells_same w B (j * 5) ds (by rw [hds]; exact h.there j hn), hkept hv⟩
theorem dv_info : ∃ i, Tryz.prog.info? 36 = some i ∧ i.zero = some (.agg #[.int .i64 0, .int .i64 0, .bool false, .slice none 0 0, .slice none 0 0]) ∧ i.size = 5 ∧ i.bytes = 72 := by
  have h : (Tryz.prog.info? 36).map (fun i => (i.zero, i.size, i.bytes)) = some (some (.agg #[.int .i64 0, .int .i64 0, .bool false, .slice none 0 0, .slice none 0 0]), 5, 72) := by kernel_rfl
  obtain ⟨i, hi, h2⟩ := Option.map_eq_some_iff.1 h
  simp only [Prod.mk.injEq] at h2
  exact ⟨i, hi, h2.1, h2.2.1, h2.2.2⟩
/-- make([]Value, n). -/
theorem made_five (w : World) (n : Nat) (hn : n ≤ 1000) : ∃ W, (Instr.makeSlice 34 (.int .i64 (n : Int)) (.int .i64 (n : Int))).run Tryz.prog w = .ok (.slice (some ⟨w.heap.size, 0, none⟩) n n) W ∧ (∀ S, DRow S W w.heap.size n []) ∧ Below w.heap.size w W := by
  obtain ⟨i, hi, hz, hsz, hby⟩ := dv_info
  refine ⟨_, run_make (P := Tryz.prog) w 34 36 i _ Tryz.underlying34 hi hz .i64 .i64 n n (by omega) (by omega) (by rw [hby]; omega) (by omega), fun S => ⟨⟨_, heap_alloc_new w _, ?_⟩, fun j v hj => by simp at hj⟩, (Below.refl _ _).alloc (Nat.le_refl _) _⟩
  rw [hsz, Int.toNat_natCast]
  simp [madeCells]
/-- A value that is put together of kids in a row. -/
theorem made_val {S : Nat → Prop} {w : World} {B n c : Nat} {t : Int} {vs : List DV} (h : DRow S w B n vs) (hn : vs.length = n) (hc : n ≤ c) (hb : n ≤ 9223372036854775807) (hS : S B) : ValAt S w (dcells 0 t true (.slice none 0 0) (.slice (some ⟨B, 0, none⟩) n c)) (.mk 0 t true [] vs) := by
  have hall : ∃ m, ∀ (j : Nat) (v : DV), vs[j]? = some v → ∃ ds, CellsAt w B (j * 5) ds ∧ VAt m S w ds v := by
    have key : ∀ (k : Nat), k ≤ vs.length → ∃ m, ∀ (j : Nat) (v : DV), j < k → vs[j]? = some v → ∃ ds, CellsAt w B (j * 5) ds ∧ VAt m S w ds v := fun k => by
      induction k with
      | zero => exact fun _ => ⟨0, fun j v hj => absurd hj (by omega)⟩
      | succ k ih =>
        intro hk
        obtain ⟨m, hm⟩ := ih (by omega)
        obtain ⟨v, hv⟩ : ∃ v, vs[k]? = some v := ⟨_, List.getElem?_eq_getElem (by omega)⟩
        obtain ⟨ds, h1, m2, h2⟩ := h.at_ k v hv
        refine ⟨max m m2, fun j u hj hu => ?_⟩
        by_cases hjk : j < k
        · obtain ⟨es, e1, e2⟩ := hm j u hjk hu
          exact ⟨es, e1, e2.more (Nat.le_max_left _ _)⟩
        · have e : j = k := by omega
          subst e
          rw [hv] at hu
          cases hu
          exact ⟨ds, h1, h2.more (Nat.le_max_right _ _)⟩
    obtain ⟨m, hm⟩ := key vs.length (Nat.le_refl _)
    exact ⟨m, fun j v hj => hm j v (List.getElem?_eq_some_iff.1 hj).1 hj⟩
  obtain ⟨m, hm⟩ := hall
  refine ⟨m + 1, .slice none 0 0, some ⟨B, 0, none⟩, c, ?_, bytes_nil w, fun h => absurd rfl h, ⟨by simp [DV.bytes], by simp only [DV.kids]; omega⟩, by simp only [DV.kids]; omega, fun e => (by cases e), fun _ => ⟨B, 0, rfl, hS, fun i k hik => ?_⟩⟩
  · simp only [DV.kids, hn]
    rfl
  · obtain ⟨ds, h1, h2⟩ := hm i k hik
    exact ⟨ds, by rw [Nat.zero_add]; exact h1, h2⟩
namespace N
open K
set_option maxRecDepth 100000 in
theorem istext_c (w : World) (hR : Rdy w) (s : ByteArray) (hs : s.size ≤ 1000000) : Calls Tryz.prog 38 #[.string s] w fun e w' => e = .returned (.bool (textP (bs s))) ∧ Below w.heap.size w w' := by
  obtain ⟨N, hN⟩ : ∃ N, s.size = N := ⟨_, rfl⟩
  obtain ⟨E, hE⟩ : ∃ E, decide (bs s = []) = E := ⟨_, rfl⟩
  obtain ⟨L, hL⟩ : ∃ L, decide (N ≤ 64) = L := ⟨_, rfl⟩
  obtain ⟨V, hV⟩ : ∃ V, Lib.validD (bs s) = V := ⟨_, rfl⟩
  have HT : Hid (textP (bs s) = (!E && L && V)) := by
    show _ = _
    unfold textP
    rw [hE, bs_len, hN, hL, hV]
  have he : (s.toList == ([] : Bs)) = E := by rw [nil_str]; exact hE
  have hl : decide ((N : Int) ≤ 64) = L := by rw [← hL, decide_eq_decide]; omega
  have Hv := hide (Tryz.utf8_ValidString s w (by omega) hR.tabs)
  rw [show Lib.validD s.data.toList = V from hV] at Hv
  have Hb := hide (Below.refl w.heap.size w)
  clear hE hV hR
  cases E with
  | true =>
    go_enter Tryz.func38, Tryz.ntmps38
    go_wp2
    go_ret
    exact ⟨by rw [unhide HT]; rfl, unhide Hb⟩
  | false =>
    cases L with
    | false =>
      have l2 : ¬ N ≤ 64 := of_decide_eq_false hL
      go_enter Tryz.func38, Tryz.ntmps38
      go_wp2
      go_ret
      exact ⟨by rw [unhide HT]; rfl, unhide Hb⟩
    | true =>
      have l2 : N ≤ 64 := of_decide_eq_true hL
      go_enter Tryz.func38, Tryz.ntmps38
      go_wp2_with fail
      refine (unhide Hv).mono ?_
      rintro e w2 ⟨rfl, hb⟩
      have HB := hide hb
      clear hb
      go_wp2
      go_ret
      exact ⟨by rw [unhide HT]; cases V <;> rfl, unhide HB⟩
set_option maxRecDepth 100000 in
theorem texttag_c (w : World) (s : ByteArray) (hs : s.size ≤ 1000000) : Calls Tryz.prog 39 #[.string s] w fun e w' => e = .returned (.int .i64 (textT (bs s) : Int)) ∧ Below w.heap.size w w' := by
  obtain ⟨V, hV⟩ : ∃ V, ((bs s).all fun c => prnN c.toNat) = V := ⟨_, rfl⟩
  have Hev := hide (every_c 61 _ questPrn s (by omega) w)
  rw [hV] at Hev
  have HT : Hid (textT (bs s) = if V = true then 19 else 12) := by show _ = _; unfold textT; rw [hV]
  clear hV
  cases V <;>
  · go_enter Tryz.func39, Tryz.ntmps39
    go_wp2_with fail
    refine (unhide Hev).mono ?_
    rintro e w2 ⟨rfl, hb⟩
    have HB := hide hb
    clear hb
    go_wp2
    go_ret
    exact ⟨by rw [unhide HT]; rfl, unhide HB⟩
set_option maxRecDepth 100000 in
theorem made_c (w : World) (t : Int) (sp : Option Addr) (n c : Nat) : Calls Tryz.prog 40 #[.int .i64 t, .slice sp n c] w fun e w' => e = .returned (.agg #[.int .i64 0, .int .i64 t, .bool true, .slice none 0 0, .slice sp n c]) ∧ Below w.heap.size w w' := by
  have hR0 := Blk.new (Below.refl w.heap.size w) #[.int .i64 0, .int .i64 0, .bool false, .slice none 0 0, .slice none 0 0] 36
  obtain ⟨w1, hw1⟩ : ∃ w1, w.alloc (.cells #[.int .i64 0, .int .i64 0, .bool false, .slice none 0 0, .slice none 0 0] 36) = w1 := ⟨_, rfl⟩
  obtain ⟨R, eR⟩ : ∃ R, w.heap.size = R := ⟨_, rfl⟩
  rw [hw1, eR] at hR0
  have HR := hide hR0
  have H6 : Hid ((#[.int .i64 0, .int .i64 t, .bool true, .slice none 0 0, .slice sp n c] : Array Value).all (·.oneCell') = true) := by show _ = true; simp [Value.oneCell']
  clear hR0
  go_enter Tryz.func40, Tryz.ntmps40
  go_upto_region 1 with fail
  go_wp2_with (refine wpList_store_row rfl 36 _ _ rfl R _ rfl rfl 36 _ (unhide HR).res value5 rfl (unhide H6) ?_)
  exact bodyPost_ret (results_cell_row Tryz.results40 _ _ R 36 #[.int .i64 0, .int .i64 t, .bool true, .slice none 0 0, .slice sp n c] (0, 0) _ rfl ((unhide HR).set #[.int .i64 0, .int .i64 t, .bool true, .slice none 0 0, .slice sp n c]).res Tryz.underlying36 rfl value5) rfl ⟨rfl, ((unhide HR).set #[.int .i64 0, .int .i64 t, .bool true, .slice none 0 0, .slice sp n c]).b⟩
end N
end Go.Proofs.YtcofnockikninabGreatDoor
