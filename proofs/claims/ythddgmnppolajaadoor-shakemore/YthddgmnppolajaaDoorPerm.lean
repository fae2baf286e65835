/-
  The walk of Permute: the permutation of the state; nothing that was there has turned.
-/
import Derived.Test.YthddgmnppolajaaDoorRound
import Derived.Test.YthddgmnppolajaaDoorBytes
import Derived.Deep.RegionHeld3
namespace Go.Proofs.YthddgmnppolajaaDoor
open Go.RowKit
/-- The table of the rounds' numbers lies in block 0. -/
def NumAt (w : World) : Prop := ∃ t fr, w.heap[0]? = some (.cells (nums.map wv).toArray t fr)
theorem NumAt.lt {w : World} (h : NumAt w) : 0 < w.heap.size := by
  obtain ⟨t, fr, h⟩ := h
  exact (Array.getElem?_eq_some_iff.1 h).1
theorem NumAt.below {a b : World} (h : NumAt a) (hb : Below a.heap.size a b) : NumAt b := by
  obtain ⟨t, fr, h⟩ := h
  exact ⟨t, fr, by rw [hb.block 0 (Array.getElem?_eq_some_iff.1 h).1]; exact h⟩
theorem NumAt.grown {a b : World} {g : Nat} (h : NumAt a) (hb : a.grownBy b (some g)) (hg : 0 < g) : NumAt b := by
  obtain ⟨t, fr, h⟩ := h
  exact ⟨t, fr, by rw [hb.block 0 (Array.getElem?_eq_some_iff.1 h).1 (by simp; omega)]; exact h⟩
theorem NumAt.cell {w : World} (h : NumAt w) (i : Nat) (hi : i < 24) : w.cell? ⟨0, i, none⟩ = some (.int .u64 (lv (nums.getD i 0))) := by
  obtain ⟨t, fr, h⟩ := h
  rw [cell_of_row w 0 i _ t fr h]
  have hl : i < nums.length := hi
  rw [List.getElem?_toArray, List.getElem?_map, List.getElem?_eq_getElem hl, List.getD_eq_getElem?_getD, List.getElem?_eq_getElem hl]
  rfl
def zero28 : Array Value := (List.replicate 25 (Value.int .u64 0)).toArray
/-- The three blocks of the walk: the state, the result's variable, the other state. -/
structure PermAt (B : Nat) (st : List UInt64) (w wr : World) : Prop where
  s : LaneAt wr B st
  r : wr.heap[B + 1]? = some (.cells zero28 28 (0, 0))
  n : ∃ o : List UInt64, o.length = 25 ∧ LaneAt wr (B + 1 + 1) o
  t : NumAt wr
  b : Below B w wr
  z : B ≤ wr.heap.size
  p : 0 < B
theorem PermAt.first {B : Nat} {st : List UInt64} {w wr w1 : World} {l : List UInt64} (h : PermAt B st w wr) (hl : l.length = 25) (hL : LaneAt w1 (B + 1 + 1) l) (hG : wr.grownBy w1 (some (B + 1 + 1))) : PermAt B st w w1 ∧ LaneAt w1 (B + 1 + 1) l :=
  ⟨⟨h.s.grown hG (by omega), by rw [hG.block _ (Array.getElem?_eq_some_iff.1 h.r).1 (by simp)]; exact h.r, ⟨l, hl, hL⟩, h.t.grown hG (by omega), h.b.grown hG h.z (fun k e => by cases e; omega), Nat.le_trans h.z hG.size, h.p⟩, hL⟩
theorem PermAt.second {B : Nat} {st st' l : List UInt64} {w wr w1 : World} (h : PermAt B st w wr) (hl : l.length = 25) (hn : LaneAt wr (B + 1 + 1) l) (hL : LaneAt w1 B st') (hG : wr.grownBy w1 (some B)) : PermAt B st' w w1 :=
  ⟨hL, by rw [hG.block _ (Array.getElem?_eq_some_iff.1 h.r).1 (by simp)]; exact h.r, ⟨l, hl, hn.grown hG (by omega)⟩, h.t.grown hG h.p, h.b.grown hG h.z (fun k e => by cases e; omega), Nat.le_trans h.z hG.size, h.p⟩
theorem fold_two (st : List UInt64) (j : Nat) (h : j + 1 < 24) : (nums.take (j + 1 + 1)).foldl rndOf st = rndOf (rndOf ((nums.take j).foldl rndOf st) (nums.getD j 0)) (nums.getD (j + 1) 0) := by
  have h1 : j + 1 < nums.length := h
  have h0 : j < nums.length := by omega
  rw [List.take_succ_eq_append_getElem h1, List.take_succ_eq_append_getElem h0, List.foldl_append, List.foldl_append, List.getD_eq_getElem?_getD, List.getD_eq_getElem?_getD, List.getElem?_eq_getElem h0, List.getElem?_eq_getElem h1]
  rfl
theorem fold_all (st : List UInt64) : (nums.take 24).foldl rndOf st = permOf st := by
  rw [show nums.take 24 = nums from List.take_of_length_le (Nat.le_refl _)]; rfl
theorem one_lanes (l : List UInt64) : (l.map wv).toArray.all (·.oneCell') = true := by
  rw [Array.all_eq_true]
  intro i hi
  simp [wv]
  rfl
theorem below_setRow' {w a : World} {B g : Nat} (h : Below B w a) (hg : B ≤ g) (cs : Array Value) : Below B w (a.setRow g cs) :=
  h.trans ⟨rfl, rfl, rfl, by rw [setRow_size]; exact Nat.le_refl _, fun k hk => setRow_other _ _ _ _ (by omega)⟩
theorem three (w : World) (A B C : Obj) : (((w.alloc A).alloc B).alloc C).heap[w.heap.size]? = some A ∧ (((w.alloc A).alloc B).alloc C).heap[w.heap.size + 1]? = some B ∧ (((w.alloc A).alloc B).alloc C).heap[w.heap.size + 1 + 1]? = some C := by
  refine ⟨?_, ?_, ?_⟩
  · rw [heap_alloc_old _ _ (by simp; omega), heap_alloc_old _ _ (by simp)]; exact heap_alloc_new _ _
  · rw [heap_alloc_old _ _ (by simp), show w.heap.size + 1 = (w.alloc A).heap.size by simp]; exact heap_alloc_new _ _
  · rw [show w.heap.size + 1 + 1 = ((w.alloc A).alloc B).heap.size by simp]; exact heap_alloc_new _ _
theorem PermAt.start {w : World} {st : List UInt64} {cs : Array Value} (hcs : (st.map wv).toArray = cs) (hT : NumAt w) : PermAt w.heap.size st w (((w.alloc (.cells cs 28)).alloc (.cells zero28 28)).alloc (.cells zero28 28)) := by
  obtain ⟨h1, h2, h3⟩ := three w (.cells cs 28) (.cells zero28 28) (.cells zero28 28)
  have hb : Below w.heap.size w (((w.alloc (.cells cs 28)).alloc (.cells zero28 28)).alloc (.cells zero28 28)) := (((Below.refl w.heap.size w).alloc (Nat.le_refl _) _).alloc (by simp) _).alloc (by simp; omega) _
  refine ⟨?_, h2, ⟨List.replicate 25 0, rfl, ?_⟩, hT.below hb, hb, hb.size, hT.lt⟩
  · unfold LaneAt; rw [h1, hcs]
  · unfold LaneAt; rw [h3]; rfl
set_option maxRecDepth 100000 in
set_option maxHeartbeats 1000000 in
theorem perm_any (st : List UInt64) (hst : st.length = 25) (cs : Array Value) (hcs : (st.map wv).toArray = cs) (w : World) (hT : NumAt w) :
    Calls Tryd.prog 14 #[.agg cs] w fun e w' => e = .returned (.agg ((permOf st).map wv).toArray) ∧ Below w.heap.size w w' := by
  have Hcs := hide hcs
  have HT := hide hT
  clear hcs hT
  have hz : (List.replicate 25 (Value.int .u64 0)).toArray = zero28 := rfl
  go_enter Tryd.func14, Tryd.ntmps14
  go_wp2
  go_loopw [4] (fun i wr => ∃ j : Nat, j ≤ 24 ∧ j % 2 = 0 ∧ i = .int .i64 (j : Int) ∧ PermAt w.heap.size ((nums.take j).foldl rndOf st) w wr) (fun i _ => 24 - (intOf i).toNat)
  case atStart => exact ⟨0, by omega, rfl, rfl, PermAt.start (unhide Hcs) (unhide HT)⟩
  case round =>
    obtain ⟨j, hj, hev, rfl, hP⟩ := hrel
    by_cases hlt : j < 24
    · have hj1 : j + 1 < 24 := by omega
      have hf := fold_two st j hj1
      have hcl := length_roundsOf (nums.take j) st hst
      generalize (nums.take j).foldl rndOf st = cur at hP hf hcl
      have n0 := hP.t.cell j hlt
      generalize nums.getD j 0 = a at n0 hf
      generalize hb : nums.getD (j + 1) 0 = b at hf
      have HP := hide hP
      have Hf := hide hf
      obtain ⟨o, ho, hn⟩ := hP.n
      have j0 : (0 : Int) ≤ (j : Int) := by omega
      have j1 : (j : Int) < 24 := by omega
      have j2 : (j : Int) + 1 < 24 := by omega
      clear hP hf
      go_wp2_with fail
      refine (round_any (w.heap.size + 1 + 1) w.heap.size (by omega) cur hcl o ho a wr (unhide HP).s hn).mono ?_
      rintro e w1 ⟨rfl, hL1, hG1⟩
      obtain ⟨hP1, hN1⟩ := (unhide HP).first (length_rndOf cur a) hL1 hG1
      have n1 := hP1.t.cell (j + 1) hj1
      rw [show nums.getD (j + 1) 0 = b from hb] at n1
      have HP1 := hide hP1
      have HN1 := hide hN1
      clear hP1 hN1 hL1 hG1 HP hn n0
      go_wp2_with fail
      refine (round_any w.heap.size (w.heap.size + 1 + 1) (by omega) (rndOf cur a) (length_rndOf cur a) cur hcl b w1 (unhide HN1) (unhide HP1).s).mono ?_
      rintro e w2 ⟨rfl, hL2, hG2⟩
      have HP2 := hide ((unhide HP1).second (length_rndOf cur a) (unhide HN1) hL2 hG2)
      clear hL2 hG2 HP1 HN1 n1
      go_wp2
      go_roundw
      case rel =>
        have hr : PermAt w.heap.size ((nums.take (j + 1 + 1)).foldl rndOf st) w w2 := by rw [unhide Hf]; exact unhide HP2
        first
          | exact ⟨j + 1 + 1, by omega, by omega, by go_num, hr⟩
          | ((repeat apply Exists.intro); exact ⟨⟨j + 1 + 1, by omega, by omega, by go_num, hr⟩, rfl⟩)
      case measure => simp [intOf]; omega
    · obtain rfl : j = 24 := by omega
      rw [fold_all] at hP
      have hpl := length_permOf st hst
      have HP := hide hP
      obtain ⟨mm, hmm⟩ : ∃ mm, ((permOf st).map wv).toArray = mm := ⟨_, rfl⟩
      have hS : wr.heap[w.heap.size]? = some (.cells mm 28 (0, 0)) := by rw [← hmm]; exact hP.s
      have hmz : mm.size = 25 := by rw [← hmm]; simp [hpl]
      have hm1 : mm.all (·.oneCell') = true := by rw [← hmm]; exact one_lanes _
      have HS := hide hS
      have Hm1 := hide hm1
      have Hmm := hide hmm
      clear hP hS hm1 hmm
      go_wp2_with (first | (refine wpList_load_row rfl 28 _ rfl w.heap.size rfl 28 mm (0, 0) _ (unhide HS) Tryd.underlying28 rfl (by rw [hmz]; kernel_rfl) ?_) | (refine wpList_store_row rfl 28 _ _ rfl (w.heap.size + 1) mm rfl rfl 28 _ (unhide HP).r (by rw [hmz]; kernel_rfl) (by rw [hmz]; rfl) (unhide Hm1) ?_))
      refine bodyPost_ret (results_cell_row Tryd.results14 _ _ (w.heap.size + 1) 28 mm (0, 0) _ rfl ?_ Tryd.underlying28 rfl (by rw [hmz]; kernel_rfl)) rfl ⟨by rw [unhide Hmm], ?_⟩
      · exact setRow_heap _ _ _ _ _ _ (unhide HP).r
      · exact below_setRow' (unhide HP).b (by omega) _
end Go.Proofs.YthddgmnppolajaaDoor
