/-
  The walk of There: the transform by butterflies is the values at the points.
-/
import Derived.Test.YtfjolaekenmefabCodeD
namespace Go.Proofs.Ytfjolaekenmefab
open Go.RowKit
theorem RowAt.below {a b : World} {B : Nat} {rest : List Value} {l : List Int} (h : RowAt a B rest l) (hb : Below a.heap.size a b) : RowAt b B rest l := by
  unfold RowAt
  rw [hb.block B h.lt]; exact h
theorem TabAt.grown {a b : World} {B g : Nat} {l : List Int} (h : TabAt a B l) (hg : a.grownBy b (some g)) (hne : B ≠ g) : TabAt b B l := by
  unfold TabAt
  rw [hg.block B (Array.getElem?_eq_some_iff.1 h).1 (by simpa using hne)]; exact h
theorem TabAt.drew {w : World} {B : Nat} {l : List Int} (h : TabAt w B l) : TabAt w.drew B l := h
theorem pow_small {m : Nat} (hm : m < 8) : 2 ^ m ≤ 128 := Nat.pow_le_pow_right (by omega) (show m ≤ 7 by omega)
/-- What stands meanwhile. -/
structure ThereIn (w : World) (B R : Nat) (rest : List Value) (a : List Int) (m s : Nat) (l : List Int) (wr : World) : Prop where
  row : RowAt wr B rest l
  tab : TabAt wr R rootsL
  mid : Mid a m s l
  b : Below w.heap.size w wr
theorem ThereIn.drew {w : World} {B R : Nat} {rest : List Value} {a : List Int} {m s : Nat} {l : List Int} {wr : World} (h : ThereIn w B R rest a m s l wr) : ThereIn w B R rest a m s l wr.drew := ⟨h.row, h.tab, h.mid, h.b.drew⟩
theorem ThereIn.step {w : World} {B R : Nat} {rest : List Value} {a : List Int} {m s : Nat} {l l' : List Int} {wr w' : World} (h : ThereIn w B R rest a m s l wr) (hm : m < 8) (hs : s < 2 ^ m) (hR : R ≠ B) (hB : w.heap.size ≤ B)
    (h1 : RowAt w' B rest l') (h2 : PartOf (s * 2 ^ (8 - m)) (2 ^ (7 - m)) (rootN (2 ^ m + s) : Int) l l') (h3 : wr.grownBy w' (some B)) : ThereIn w B R rest a m (s + 1) l' w' :=
  ⟨h1, h.tab.grown h3 hR, h.mid.step hm hs h2, h.b.grown h3 h.b.size (fun k hk => by cases hk; exact hB)⟩
/-- A part of a row. -/
theorem slice_row (B cap l n len : Nat) (x y : Int) (hx : x = (l : Int)) (hy : y = (l : Int) + (n : Int)) (hn : 0 < n) (h : l + n ≤ cap) (w : World) :
    (Instr.sliceAt 22 (.slice (some ⟨B, 0, none⟩) len cap) (some (.int .i64 x)) (some (.int .i64 y)) none).run Try.prog w = .ok (.slice (some ⟨B, l, none⟩) n (cap - l)) w := by
  subst hx
  subst hy
  obtain ⟨i, hi, _, hsz, _⟩ := info3
  have hu : Try.prog.underlying 22 = some (.slice (Try.prog.elem 22)) := by kernel_rfl
  have he : Try.prog.elem 22 = 3 := by kernel_rfl
  rw [run_sliceAt_slice w 22 _ _ _ _ hu, run_slice_lh w 22 _ len cap hu .i64 .i64 (l : Int) ((l : Int) + (n : Int)) (by omega) (by omega) (by omega), he]
  have hz : (Go.sizeOf 3).run Try.prog w = .ok 1 w := by simp [Go.sizeOf, typeInfo, hi, hsz]
  rw [hz]
  have e1 : ((l : Int)).toNat = l := by omega
  have e2 : ((l : Int) + (n : Int)).toNat = l + n := by omega
  have hne : ¬ cap = l := by omega
  rw [Result.andThen_ok, e1, e2, sliced, if_neg hne, Nat.add_sub_cancel_left]
  simp [Addr.add]
  intro h0
  omega
set_option maxRecDepth 100000 in
set_option maxHeartbeats 4000000 in
theorem there_any (w : World) (x : Value) (a : List Int) (hx : IntsAt w x a) (ha : Poly a) : Gives w 8 #[x] (IsThere a) := by
  have hva := (validB_iff a).2 ha
  have HX := hide hx
  have Ha := hide ha
  have hzv := (zero_of_info info35).1
  have sZ := size_row zeros (by rw [zeros, List.length_replicate])
  have sR := size_row rootsL len_roots
  have H1 := hide (one_row rootsL)
  obtain ⟨A, hA⟩ : ∃ A, (rootsL.map nv).toArray = A := ⟨_, rfl⟩
  obtain ⟨Z, hZ⟩ : ∃ Z, (zeros.map nv).toArray = Z := ⟨_, rfl⟩
  have HA := hide hA
  rw [hA] at sR H1
  rw [hZ] at sZ hzv
  clear hx ha hZ hA
  go_enter Try.func8, Try.ntmps8
  go_wp2_with fail
  refine (rvalid_any w _ a (unhide HX) (by have := (unhide Ha).1; omega)).mono ?_
  rw [hva]
  rintro e w0 ⟨rfl, rfl⟩
  go_wp2_with fail
  refine (clone_any w0 _ a (unhide HX) (unhide Ha)).mono ?_
  rintro e w1 ⟨v1, rfl, hO1, hb1⟩
  obtain ⟨B, rest, cap, rfl, hB, hcap, hcm, hR1⟩ := hO1.row (unhide Ha).1
  have HR1 := hide hR1
  have HB1 := hide hb1
  clear hO1 hR1 hb1
  go_wp2_with fail
  refine (roots_any w1).mono ?_
  rw [unhide HA]
  rintro e w2 ⟨rfl, hb2⟩
  have hBlt : B < w2.heap.size := Nat.lt_of_lt_of_le (unhide HR1).lt hb2.size
  have HB2 := hide ((unhide HB1).trans (hb2.mono (unhide HB1).size))
  have hb3 : Below w2.heap.size w2 ((w2.alloc (.cells Z 35)).setRow w2.heap.size A) := below_setRow ((Below.refl _ _).alloc (Nat.le_refl _) _) (Nat.le_refl _) _
  have HI : Hid (ThereIn w0 B w2.heap.size rest a 0 0 a ((w2.alloc (.cells Z 35)).setRow w2.heap.size A)) := by
    refine ⟨((unhide HR1).below hb2).below hb3, ?_, mid_start (unhide Ha), (unhide HB2).trans (hb3.mono (unhide HB2).size)⟩
    unfold TabAt
    rw [unhide HA]
    exact setRow_heap _ _ _ _ _ _ (heap_alloc_new w2 _)
  have HN := hide (heap_alloc_new w2 (.cells Z 35))
  clear hb2 hb3 HB2 HR1 HB1
  go_wp2_with (refine wpList_store_row rfl 35 _ _ rfl w2.heap.size A rfl rfl 35 Z (unhide HN) (by rw [sR]; exact size35) (by rw [sR, sZ]) (unhide H1) ?_)
  generalize (w2.alloc (.cells Z 35)).setRow w2.heap.size A = W0 at HI ⊢
  obtain ⟨R, hR⟩ : ∃ R, w2.heap.size = R := ⟨_, rfl⟩
  rw [hR] at HI hBlt ⊢
  clear HN H1 hzv sZ sR hR
  go_loopw [6, 7] (fun gr hf wr => ∃ (m h g : Nat) (l : List Int), m ≤ 8 ∧ h ≤ 128 ∧ Hid (h = 128 / 2 ^ m) ∧ hf = .int .i64 (h : Int) ∧ g ≤ 256 ∧ Hid (g = 2 ^ m) ∧ gr = .int .i64 (g : Int) ∧ Hid (ThereIn w0 B R rest a m 0 l wr)) (fun _ hf _ => (intOf hf).toNat)
  case atStart => exact ⟨0, 128, 1, a, by omega, by omega, rfl, rfl, by omega, rfl, rfl, HI⟩
  case round =>
    clear HI
    obtain ⟨m, h, g, l, hm, hh, Hh, rfl, hg, Hg, rfl, HI⟩ := hrel
    by_cases hlt : m < 8
    · have hd := half_dec m hlt
      have hp := half_pos m
      have hw := whole_eq hlt
      have hh2 : h = 2 ^ (7 - m) := (unhide Hh).trans hd.1
      have Hn : Hid (h / 2 = 128 / 2 ^ (m + 1)) := by show h / 2 = _; rw [unhide Hh]; exact hd.2
      have h0 : (0 : Int) < (h : Int) := by omega
      have d0 : decide (0 < h) = true := by simp; omega
      have HE := hide (show 2 ^ (8 - m) = 2 * h by omega)
      have HE2 := hide (show 2 ^ (7 - m) = h from hh2.symm)
      have HK := hide hlt
      have h1 : (h : Int) ≤ 128 := by omega
      have Hg2 : Hid (g = 2 ^ m + 0) := Hg
      clear hd hw hp hh2 hlt
      go_wp2
      go_loopw [6, 8] (fun gr st wr => ∃ (s t g : Nat) (l : List Int), Hid (s ≤ 2 ^ m) ∧ t ≤ 256 ∧ Hid (t = s * 2 ^ (8 - m)) ∧ st = .int .i64 (t : Int) ∧ g ≤ 256 ∧ Hid (g = 2 ^ m + s) ∧ gr = .int .i64 (g : Int) ∧ Hid (ThereIn w0 B R rest a m s l wr)) (fun _ st _ => 256 - (intOf st).toNat)
      case atStart => exact ⟨0, 0, g, l, Nat.zero_le _, by omega, by show 0 = 0 * _; omega, rfl, hg, Hg2, rfl, HI⟩
      case round =>
        clear HI Hg2 Hg hg
        obtain ⟨s, t, g, l, Hs, ht, Ht, rfl, hg, Hg, rfl, HI⟩ := hrel
        by_cases ht2 : t < 256
        · have hs : s < 2 ^ m := by
            rcases Nat.lt_or_ge s (2 ^ m) with h | h
            · exact h
            · have := Nat.mul_le_mul_right (2 ^ (8 - m)) h
              rw [pow_mul hm, ← unhide Ht] at this
              omega
          have hpl := place_le hm hs
          rw [← unhide Ht, unhide HE] at hpl
          have hg2 : g < 256 := by have := pow_small (unhide HK); have := unhide Hg; omega
          have e1 := (unhide HI).tab.cell g (by rw [len_roots]; omega)
          rw [coef_roots g hg2] at e1
          have br := rootN_bound g
          have HS : Hid (∀ l' w', RowAt w' B rest l' → PartOf t h (rootN g : Int) l l' → wr.drew.grownBy w' (some B) → ThereIn w0 B R rest a m (s + 1) l' w') := fun l' w' q1 q2 q3 => by
            rw [unhide Ht, ← unhide HE2, unhide Hg] at q2
            exact (unhide HI).drew.step (unhide HK) hs (by omega) hB q1 q2 q3
          have Hs2 : Hid (s + 1 ≤ 2 ^ m) := hs
          have Ht2 : Hid (t + 2 * h = (s + 1) * 2 ^ (8 - m)) := by show _ = _; rw [Nat.add_mul, ← unhide Ht, unhide HE]; omega
          have Hg2 : Hid (g + 1 = 2 ^ m + (s + 1)) := by have := unhide Hg; show _ = _; omega
          generalize (rootN g : Int) = r at e1 br HS
          obtain ⟨r0, r1⟩ := br
          have s0 : (0 : Int) ≤ (t : Int) := by omega
          have s1 : (t : Int) < 256 := by omega
          have s2 : (t : Int) + (h : Int) ≤ 256 := by omega
          have s3 : (t : Int) + 2 * (h : Int) ≤ 256 := by omega
          have s4 : (t : Int) + 2 * (h : Int) ≤ (cap : Int) := by omega
          have g0 : (0 : Int) ≤ (g : Int) := by omega
          have g1 : (g : Int) < 256 := by omega
          have w1 : IntKind.i64.wrap ((t : Int) + (h : Int)) = (t : Int) + (h : Int) := IntWalk.i64_in _ (by omega)
          have w2 : IntKind.i64.wrap (2 * (h : Int)) = 2 * (h : Int) := IntWalk.i64_in _ (by omega)
          have w3 : IntKind.i64.wrap ((t : Int) + 2 * (h : Int)) = (t : Int) + 2 * (h : Int) := IntWalk.i64_in _ (by omega)
          have l1 := slice_row B cap t h 256 (t : Int) ((t : Int) + (h : Int)) rfl rfl (by omega) (by omega)
          have l2 := slice_row B cap (t + h) h 256 ((t : Int) + (h : Int)) ((t : Int) + 2 * (h : Int)) (by omega) (by omega) (by omega) (by omega)
          clear Hs Ht hs Hg
          go_wp2
          have HRow := hide (unhide HI).row.drew
          have HPol := hide (unhide HI).mid.poly
          have hRB : R ≠ B := by omega
          clear HI
          go_region_held3 (fun w' => w'.cell? ⟨R, g, none⟩ = some (.int .i64 r)) (go_keep) ((go_at_call 21; refine (part_any _ B t h _ _ r rest l (unhide HRow) (unhide HPol) hpl r0 r1).mono ?_; rintro e w3 ⟨rfl, l', hR', hP', hg'⟩; have e3 : w3.cell? ⟨R, g, none⟩ = some (.int .i64 r) := hg'.cell (by exact e1) (by simpa using hRB); have HS3 := hide (unhide HS l' w3 hR' hP' hg'); clear hR' hP' hg'))
          go_wp2
          go_roundw
          case rel =>
            first
              | exact ⟨s + 1, t + 2 * h, g + 1, _, Hs2, by omega, Ht2, by go_num, by omega, Hg2, by go_num, HS3⟩
              | ((repeat apply Exists.intro); exact ⟨⟨s + 1, t + 2 * h, g + 1, _, Hs2, by omega, Ht2, by go_num, by omega, Hg2, by go_num, HS3⟩, rfl⟩)
          case measure => simp [intOf]; omega
        · obtain rfl : t = 256 := by omega
          have hs : s = 2 ^ m := by
            have h2 := unhide Ht
            have hpm := pow_mul hm
            have hpos : 0 < 2 ^ (8 - m) := Nat.pow_pos (by omega)
            exact Nat.eq_of_mul_eq_mul_right hpos (by rw [← h2, hpm])
          subst hs
          have HI2 : Hid (ThereIn w0 B R rest a (m + 1) 0 l wr) := ⟨(unhide HI).row, (unhide HI).tab, (unhide HI).mid.next (unhide HK), (unhide HI).b⟩
          have Hg2 : Hid (g = 2 ^ (m + 1)) := by have := unhide Hg; show _ = _; rw [Nat.pow_succ]; omega
          have hm2 : m + 1 ≤ 8 := unhide HK
          clear HI Hg Ht Hs Hh ht ht2
          go_wp2
          go_roundw
          case rel =>
            first
              | exact ⟨m + 1, h / 2, g, l, hm2, by omega, Hn, by go_num, hg, Hg2, rfl, HI2⟩
              | ((repeat apply Exists.intro); exact ⟨⟨m + 1, h / 2, g, l, hm2, by omega, Hn, by go_num, hg, Hg2, rfl, HI2⟩, rfl⟩)
          case measure => simp [intOf]; omega
    · obtain rfl : m = 8 := by omega
      obtain rfl : h = 0 := by rw [unhide Hh]
      have HO := hide ((unhide HI).row.own hB 256 cap (unhide HI).mid.poly.1 hcap hcm)
      have HT := hide (unhide HI).mid.there
      have HB := hide (unhide HI).b
      clear HI Hh Hg hlt
      go_wp2
      go_ret2
      exact ⟨_, l, rfl, unhide HO, unhide HT, unhide HB⟩
end Go.Proofs.Ytfjolaekenmefab
