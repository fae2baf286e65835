/-
  The walk of roots: the 256 powers of 1753 in the order of the groups.
-/
import Derived.Test.YtfjolaekenmefabCodeC
import Derived.BigQuiet
import Derived.Laws.CopyOwn
import Derived.Deep.WholeRow
namespace Go.Proofs.Ytfjolaekenmefab
open Go.RowKit
/-- What stands when, of the level k, the groups ahead of u have their root. -/
structure RootsTo (k u : Nat) (l : List Int) : Prop where
  poly : Poly l
  e : ∀ i, i < 256 → (i % 2 ^ (8 - k) = 0 ∨ (i % 2 ^ (7 - k) = 0 ∧ i < u * 2 ^ (8 - k))) → coef l i = (rootN i : Int)
theorem rootN_bound (i : Nat) : (0 : Int) ≤ (rootN i : Int) ∧ (rootN i : Int) < 8380417 := by
  have := rootN_lt i
  omega
theorem roots_start : RootsTo 0 0 (zeros.set 0 1) := ⟨poly_power 0, fun i hi h => by
  have h0 : i = 0 := by
    rcases h with h | h
    · rw [show 2 ^ (8 - 0) = 256 from rfl] at h; omega
    · omega
  subst h0
  rw [coef_set _ _ _ (by rw [zeros, List.length_replicate]; omega), if_pos rfl, rootN_zero]
  rfl⟩
theorem RootsTo.step {k u : Nat} {l : List Int} (h : RootsTo k u l) (hk : k < 8) (hu : u < 2 ^ k) (x : Int) (hx : coef l (u * 2 ^ (8 - k)) = x) (v : Int) (hv : v = x * ((1753 ^ 2 ^ k % 8380417 : Nat) : Int) % 8380417) : RootsTo k (u + 1) (l.set (u * 2 ^ (8 - k) + 2 ^ (7 - k)) v) := by
  have hw := whole_eq hk
  have hpl := place_le (Nat.le_of_lt hk) hu
  have hp := half_pos k
  have hx' : x = (rootN (u * 2 ^ (8 - k)) : Int) := by rw [← hx]; exact h.e _ (by omega) (Or.inl (Nat.mul_mod_left _ _))
  have hv' : v = (rootN (u * 2 ^ (8 - k) + 2 ^ (7 - k)) : Int) := by
    have hn := root_next_dec k hk u hu
    rw [hv, hx']
    generalize 1753 ^ 2 ^ k % 8380417 = P at hn ⊢
    have e : ((rootN (u * 2 ^ (8 - k)) : Int) * (P : Int)) = ((rootN (u * 2 ^ (8 - k)) * P : Nat) : Int) := by simp
    rw [e]
    omega
  have hb := rootN_bound (u * 2 ^ (8 - k) + 2 ^ (7 - k))
  refine ⟨poly_set h.poly _ _ (by omega) (by omega), fun i hi hc => ?_⟩
  rw [coef_set _ _ _ (by rw [h.poly.1]; omega)]
  split
  · rename_i e; rw [e]; exact hv'
  · rename_i e
    refine h.e i hi ?_
    rcases hc with hc | ⟨hc, hlt⟩
    · exact Or.inl hc
    · rcases Nat.lt_or_ge i (u * 2 ^ (8 - k)) with h1 | h1
      · exact Or.inr ⟨hc, h1⟩
      · refine Or.inl ?_
        rw [Nat.add_mul, Nat.one_mul] at hlt
        obtain ⟨j, rfl⟩ : ∃ j, i = u * 2 ^ (8 - k) + j := ⟨i - u * 2 ^ (8 - k), by omega⟩
        have hj : j % 2 ^ (7 - k) = 0 := by
          rw [hw, show u * (2 * 2 ^ (7 - k)) = 2 * u * 2 ^ (7 - k) by rw [Nat.mul_comm 2 u, Nat.mul_assoc], Nat.add_comm, Nat.add_mul_mod_self_right] at hc
          exact hc
        have hj0 : j = 0 := by
          rcases Nat.lt_or_ge j (2 ^ (7 - k)) with h2 | h2
          · rw [Nat.mod_eq_of_lt h2] at hj; exact hj
          · have h3 : (j - 2 ^ (7 - k)) % 2 ^ (7 - k) = 0 := by rw [← Nat.mod_eq_sub_mod h2]; exact hj
            rw [Nat.mod_eq_of_lt (by omega)] at h3
            omega
        subst hj0
        rw [Nat.add_zero]; exact Nat.mul_mod_left _ _
theorem RootsTo.next {k : Nat} {l : List Int} (h : RootsTo k (2 ^ k) l) (hk : k < 8) : RootsTo (k + 1) 0 l := ⟨h.poly, fun i hi hc => by
  refine h.e i hi ?_
  rcases hc with hc | ⟨_, hc⟩
  · rw [show 8 - (k + 1) = 7 - k by omega] at hc
    exact Or.inr ⟨hc, by rw [pow_mul (Nat.le_of_lt hk)]; exact hi⟩
  · omega⟩
/-- The roots. -/
def rootsL : List Int := (List.range 256).map fun i => (rootN i : Int)
theorem coef_roots (i : Nat) (hi : i < 256) : coef rootsL i = (rootN i : Int) := by
  unfold coef rootsL
  rw [List.getD_eq_getElem?_getD, List.getElem?_map, List.getElem?_range hi]
  rfl
theorem len_roots : rootsL.length = 256 := by simp [rootsL]
theorem RootsTo.done {l : List Int} (h : RootsTo 8 0 l) : l = rootsL := by
  apply List.ext_getElem (by rw [h.poly.1, len_roots])
  intro i h1 h2
  have hi : i < 256 := by rw [← h.poly.1]; exact h1
  have e := h.e i hi (Or.inl (by rw [show 2 ^ (8 - 8) = 1 from rfl, Nat.mod_one]))
  rw [← coef_roots i hi] at e
  simpa [coef, List.getD_eq_getElem?_getD, h1, h2] using e
/-- 256 numbers in a variable. -/
def TabAt (w : World) (B : Nat) (l : List Int) : Prop := w.heap[B]? = some (.cells (l.map nv).toArray 35 (0, 0))
theorem TabAt.cell {w : World} {B : Nat} {l : List Int} (h : TabAt w B l) (i : Nat) (hi : i < l.length) : w.cell? ⟨B, i, none⟩ = some (.int .i64 (coef l i)) := by
  rw [cell_of_row w B i _ 35 (0, 0) h]
  simp [nv, coef, List.getD_eq_getElem?_getD, hi]
theorem TabAt.frozen {w : World} {B : Nat} {l : List Int} (h : TabAt w B l) (i : Nat) : w.frozen? ⟨B, i, none⟩ = false := frozen_of_row w B i _ 35 h
theorem TabAt.set {w : World} {B : Nat} {l : List Int} (h : TabAt w B l) (i : Nat) (x : Int) : TabAt (w.setCell ⟨B, i, none⟩ (.int .i64 x)) B (l.set i x) := by
  unfold TabAt
  rw [heap_setCell_same w B i _ 35 _ h, List.setIfInBounds_toArray, List.map_set]
  rfl
theorem TabAt.other {w : World} {B : Nat} {l : List Int} (h : TabAt w B l) (a : Addr) (v : Value) (hne : B ≠ a.block) : TabAt (w.setCell a v) B l := by
  unfold TabAt
  rw [heap_setCell_other _ _ _ _ hne]; exact h
structure RootsIn (w : World) (k u : Nat) (l : List Int) (wr : World) : Prop where
  res : TabAt wr w.heap.size zeros
  out : TabAt wr (w.heap.size + 1) l
  to : RootsTo k u l
  b : Below w.heap.size w wr
theorem info35 : (Try.prog.info? 35).map (fun i => (i.zero, i.size)) = some (some (.agg (zeros.map nv).toArray), 256) := by kernel_rfl
theorem built35 : Try.prog.built 35 [(0, .int .i64 1)] = some ((zeros.set 0 1).map nv).toArray := by kernel_rfl
theorem size35 : (Try.prog.info? 35).map (·.size) = some 256 := by kernel_rfl
theorem half_dec : ∀ k, k < 8 → 128 / 2 ^ k = 2 ^ (7 - k) ∧ 128 / 2 ^ k / 2 = 128 / 2 ^ (k + 1) := by decide
theorem one_row (l : List Int) : (l.map nv).toArray.all (·.oneCell') = true := all_oneCell_toArray fun v hv => by obtain ⟨x, _, rfl⟩ := List.mem_map.1 hv; rfl
theorem size_row (l : List Int) (h : l.length = 256) : (l.map nv).toArray.size = 256 := by simp [h]
theorem two_new (w : World) (A B : Obj) : ((w.alloc A).alloc B).heap[w.heap.size]? = some A ∧ ((w.alloc A).alloc B).heap[w.heap.size + 1]? = some B := by
  have e1 : (w.alloc A).heap.size = w.heap.size + 1 := by simp
  refine ⟨?_, ?_⟩
  · rw [heap_alloc_old _ _ (by omega)]; exact heap_alloc_new _ _
  · rw [← e1]; exact heap_alloc_new _ _
theorem set_row (l : List Int) (i : Nat) (x : Int) : ((l.set i x).map nv).toArray = (l.map nv).toArray.setIfInBounds i (.int .i64 x) := by
  rw [List.setIfInBounds_toArray, List.map_set]; rfl
theorem RootsIn.step {w wr : World} {k u : Nat} {l : List Int} (h : RootsIn w k u l wr) (hk : k < 8) (hu : u < 2 ^ k) (x : Int) (hx : coef l (u * 2 ^ (8 - k)) = x) (v : Int) (hv : v = x * ((1753 ^ 2 ^ k % 8380417 : Nat) : Int) % 8380417) :
    RootsIn w k (u + 1) (l.set (u * 2 ^ (8 - k) + 2 ^ (7 - k)) v) (wr.setCell ⟨w.heap.size + 1, u * 2 ^ (8 - k) + 2 ^ (7 - k), none⟩ (.int .i64 v)) :=
  ⟨h.res.other _ _ (by show _ ≠ w.heap.size + 1; omega), h.out.set _ _, h.to.step hk hu x hx v hv, h.b.setCell (by show _ ≤ w.heap.size + 1; omega) _⟩
set_option maxRecDepth 100000 in
set_option maxHeartbeats 2000000 in
theorem roots_any (w : World) :
    Calls Try.prog 20 #[] w fun e w' => e = .returned (.agg (rootsL.map nv).toArray) ∧ Below w.heap.size w w' := by
  have hzv := (zero_of_info info35).1
  have sZ := size_row zeros (by rw [zeros, List.length_replicate])
  have sO := size_row (zeros.set 0 1) (len_zset _ _)
  have HI : Hid (RootsIn w 0 0 (zeros.set 0 1) (((w.alloc (.cells (zeros.map nv).toArray 35)).alloc (.cells (zeros.map nv).toArray 35)).setRow (w.heap.size + 1) ((zeros.set 0 1).map nv).toArray)) := by
    have h := two_new w (.cells (zeros.map nv).toArray 35) (.cells (zeros.map nv).toArray 35)
    refine ⟨?_, ?_, roots_start, below_setRow (((Below.refl _ _).alloc (Nat.le_refl _) _).alloc (by simp) _) (by omega) _⟩
    · unfold TabAt; rw [setRow_other _ _ _ _ (by omega)]; exact h.1
    · exact setRow_heap _ _ _ _ _ _ h.2
  have H2 := hide (two_new w (.cells (zeros.map nv).toArray 35) (.cells (zeros.map nv).toArray 35)).2
  have HO := hide (one_row (zeros.set 0 1))
  rw [set_row zeros 0 1] at HI sO HO
  generalize (zeros.map nv).toArray = Z at hzv HI sZ H2 HO sO
  have hne : ¬ Z = #[] := by intro e; rw [e] at sZ; simp at sZ
  go_enter Try.func20, Try.ntmps20
  go_wp2_with (refine wpList_store_row rfl 35 _ _ rfl (w.heap.size + 1) (Z.setIfInBounds 0 (.int .i64 1)) rfl rfl 35 Z (unhide H2) (by rw [sO]; exact size35) (by rw [sO, sZ]) (unhide HO) ?_)
  generalize ((w.alloc (.cells Z 35)).alloc (.cells Z 35)).setRow (w.heap.size + 1) (Z.setIfInBounds 0 (.int .i64 1)) = W0 at HI ⊢
  clear H2 HO hzv sZ sO hne
  go_loopw [2, 3] (fun pw hf wr => ∃ (k h P : Nat) (l : List Int), k ≤ 8 ∧ h ≤ 128 ∧ Hid (h = 128 / 2 ^ k) ∧ hf = .int .i64 (h : Int) ∧ P < 8380417 ∧ Hid (P = 1753 ^ 2 ^ k % 8380417) ∧ pw = .int .i64 (P : Int) ∧ Hid (RootsIn w k 0 l wr)) (fun _ hf _ => (intOf hf).toNat)
  case atStart => exact ⟨0, 128, 1753, _, by omega, by omega, rfl, rfl, by omega, rfl, rfl, HI⟩
  case round =>
    clear HI
    obtain ⟨k, h, P, l, hk, hh, Hh, rfl, hP, HP, rfl, HR⟩ := hrel
    by_cases hlt : k < 8
    · have hd := half_dec k hlt
      have hp := half_pos k
      have hw := whole_eq hlt
      have hh2 : h = 2 ^ (7 - k) := (unhide Hh).trans hd.1
      have Hn : Hid (h / 2 = 128 / 2 ^ (k + 1)) := by show h / 2 = _; rw [unhide Hh]; exact hd.2
      have h0 : (0 : Int) < (h : Int) := by omega
      have d0 : decide (0 < h) = true := by simp; omega
      have HE := hide (show 2 ^ (8 - k) = 2 * h by omega)
      have HE2 := hide (show 2 ^ (7 - k) = h from hh2.symm)
      have HK := hide hlt
      have h1 : (h : Int) ≤ 128 := by omega
      clear hd hw hp hh2 hlt
      go_wp2
      go_loopw [4] (fun st wr => ∃ (u s : Nat) (l : List Int), Hid (u ≤ 2 ^ k) ∧ s ≤ 256 ∧ Hid (s = u * 2 ^ (8 - k)) ∧ st = .int .i64 (s : Int) ∧ Hid (RootsIn w k u l wr)) (fun st _ => 256 - (intOf st).toNat)
      case atStart => exact ⟨0, 0, l, Nat.zero_le _, by omega, by show 0 = 0 * _; omega, rfl, HR⟩
      case round =>
        clear HR
        obtain ⟨u, s, l, Hu, hs, Hs, rfl, HR⟩ := hrel
        by_cases hs2 : s < 256
        · have hu : u < 2 ^ k := by
            rcases Nat.lt_or_ge u (2 ^ k) with h | h
            · exact h
            · have := Nat.mul_le_mul_right (2 ^ (8 - k)) h
              rw [pow_mul hk, ← unhide Hs] at this
              omega
          have hpl := place_le hk hu
          rw [← unhide Hs, unhide HE] at hpl
          have hlen := (unhide HR).to.poly.1
          have e1 := (unhide HR).out.cell s (by omega)
          have bx := (unhide HR).to.poly.bound s
          have e2 := (unhide HR).out.cell (s + h) (by omega)
          have f2 := (unhide HR).out.frozen (s + h)
          have HS : Hid (∀ v, v = coef l s * (P : Int) % 8380417 → RootsIn w k (u + 1) (l.set (s + h) v) (wr.setCell ⟨w.heap.size + 1, s + h, none⟩ (.int .i64 v))) := fun v hv => by
            have := (unhide HR).step (unhide HK) hu (coef l s) (by rw [unhide Hs]) v (by rw [hv, unhide HP])
            rwa [unhide HE2, ← unhide Hs] at this
          have Hu2 : Hid (u + 1 ≤ 2 ^ k) := hu
          have Hs2 : Hid (s + 2 * h = (u + 1) * 2 ^ (8 - k)) := by show _ = _; rw [Nat.add_mul, ← unhide Hs, unhide HE]; omega
          generalize coef l (s + h) = z at e2
          generalize coef l s = x at e1 bx HS
          obtain ⟨x0, x1⟩ := bx
          have s0 : (0 : Int) ≤ (s : Int) := by omega
          have s1 : (s : Int) < 256 := by omega
          have s2 : (s : Int) + (h : Int) < 256 := by omega
          have s3 : (0 : Int) ≤ (s : Int) + (h : Int) := by omega
          have s4 : ((s : Int) + (h : Int)).toNat = s + h := by omega
          have P0 : (0 : Int) ≤ (P : Int) := by omega
          have P1 : (P : Int) < 8380417 := by omega
          clear HR Hu Hs hlen hu
          go_wp2_with fail
          refine (times_any x P x0 (by omega) P0 P1 wr).mono ?_
          rintro e w3 ⟨rfl, rfl⟩
          have HS2 := hide (unhide HS _ rfl)
          clear HS
          generalize x * (P : Int) % 8380417 = v at HS2 ⊢
          go_wp2
          go_roundw
          case rel =>
            first
              | exact ⟨u + 1, s + 2 * h, _, Hu2, by omega, Hs2, by go_num, HS2⟩
              | ((repeat apply Exists.intro); exact ⟨⟨u + 1, s + 2 * h, _, Hu2, by omega, Hs2, by go_num, HS2⟩, rfl⟩)
          case measure => simp [intOf]; omega
        · obtain rfl : s = 256 := by omega
          have hu : u = 2 ^ k := by
            have h2 := unhide Hs
            have hpm := pow_mul hk
            have hpos : 0 < 2 ^ (8 - k) := Nat.pow_pos (by omega)
            exact Nat.eq_of_mul_eq_mul_right hpos (by rw [← h2, hpm])
          subst hu
          have HN := hide ((unhide HR).to.next (unhide HK))
          have HR2 : Hid (RootsIn w (k + 1) 0 l wr) := ⟨(unhide HR).res, (unhide HR).out, unhide HN, (unhide HR).b⟩
          have HP2 : Hid (P * P % 8380417 = 1753 ^ 2 ^ (k + 1) % 8380417) := by show _ = _; rw [unhide HP]; exact power_next_dec k (unhide HK)
          have P0 : (0 : Int) ≤ (P : Int) := by omega
          have P1 : (P : Int) < 8380417 := by omega
          have hk2 : k + 1 ≤ 8 := unhide HK
          clear HR HN Hs Hu HP Hh hs hs2
          go_wp2_with fail
          refine (times_any P P P0 (by omega) P0 P1 wr).mono ?_
          rintro e w3 ⟨rfl, rfl⟩
          have hPP : (P : Int) * (P : Int) % 8380417 = ((P * P % 8380417 : Nat) : Int) := by simp
          rw [hPP]
          have hPl : P * P % 8380417 < 8380417 := Nat.mod_lt _ (by omega)
          generalize P * P % 8380417 = P2 at HP2 hPl ⊢
          clear hPP
          go_wp2
          go_roundw
          case rel =>
            first
              | exact ⟨k + 1, h / 2, P2, l, hk2, by omega, Hn, by go_num, hPl, HP2, rfl, HR2⟩
              | ((repeat apply Exists.intro); exact ⟨⟨k + 1, h / 2, P2, l, hk2, by omega, Hn, by go_num, hPl, HP2, rfl, HR2⟩, rfl⟩)
          case measure => simp [intOf]; omega
    · obtain rfl : k = 8 := by omega
      obtain rfl : h = 0 := by rw [unhide Hh]
      have hl := (unhide HR).to.done
      subst hl
      have Hres := hide (unhide HR).res
      have Hout := hide (unhide HR).out
      have Hb := hide (unhide HR).b
      have sZ := size_row zeros (by rw [zeros, List.length_replicate])
      have sR := size_row rootsL len_roots
      have H1 := hide (one_row rootsL)
      obtain ⟨A, hA⟩ : ∃ A, (rootsL.map nv).toArray = A := ⟨_, rfl⟩
      obtain ⟨Z, hZ⟩ : ∃ Z, (zeros.map nv).toArray = Z := ⟨_, rfl⟩
      have Hres' : Hid (wr.heap[w.heap.size]? = some (.cells Z 35 (0, 0))) := by rw [← hZ]; exact Hres
      have Hout' : Hid (wr.heap[w.heap.size + 1]? = some (.cells A 35 (0, 0))) := by rw [← hA]; exact Hout
      rw [hA] at sR H1
      rw [hZ] at sZ
      have HA := hide hA
      clear HR Hres Hout hA hZ hlt HP Hh
      go_wp2_with (first | (refine wpList_load_row rfl 35 _ rfl (w.heap.size + 1) rfl 35 A (0, 0) _ (unhide Hout') Try.underlying35 rfl (by rw [sR]; exact size35) ?_) | (refine wpList_store_row rfl 35 _ _ rfl w.heap.size A rfl rfl 35 Z (unhide Hres') (by rw [sR]; exact size35) (by rw [sR, sZ]) (unhide H1) ?_))
      refine bodyPost_ret (results_cell_row Try.results20 _ _ w.heap.size 35 A (0, 0) _ rfl ?_ Try.underlying35 rfl (by rw [sR]; exact size35)) rfl ⟨by rw [unhide HA], ?_⟩
      · exact setRow_heap _ _ _ _ _ _ (unhide Hres')
      · exact below_setRow (unhide Hb) (Nat.le_refl _) _
end Go.Proofs.Ytfjolaekenmefab
