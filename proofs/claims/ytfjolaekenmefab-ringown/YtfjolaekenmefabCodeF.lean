/-
  The walk of Back: the polynomial whose values at the points these are.
-/
import Derived.Test.YtfjolaekenmefabCodeE
namespace Go.Proofs.Ytfjolaekenmefab
open Go.RowKit
/-- What stands between two levels; and inside one. -/
structure BackIn (w : World) (B R : Nat) (rest : List Value) (a : List Int) (M : Nat) (l : List Int) (wr : World) : Prop where
  row : RowAt wr B rest l
  tab : TabAt wr R rootsL
  up : Up a M l
  b : Below w.heap.size w wr
structure BackMid (w : World) (B R : Nat) (rest : List Value) (a old : List Int) (m s : Nat) (l : List Int) (wr : World) : Prop where
  row : RowAt wr B rest l
  tab : TabAt wr R rootsL
  mid : UpMid a old m s l
  b : Below w.heap.size w wr
theorem BackMid.drew {w : World} {B R : Nat} {rest : List Value} {a old : List Int} {m s : Nat} {l : List Int} {wr : World} (h : BackMid w B R rest a old m s l wr) : BackMid w B R rest a old m s l wr.drew := ⟨h.row, h.tab, h.mid, h.b.drew⟩
theorem BackMid.step {w : World} {B R : Nat} {rest : List Value} {a old : List Int} {m s : Nat} {l l' : List Int} {wr w' : World} (h : BackMid w B R rest a old m s l wr) (hm : m < 8) (hR : R ≠ B) (hB : w.heap.size ≤ B)
    (h1 : RowAt w' B rest l') (h2 : JoinOf (s * 2 ^ (8 - m)) (2 ^ (7 - m)) (rootN (2 ^ (m + 1) - 1 - s) : Int) l l') (h3 : wr.grownBy w' (some B)) : BackMid w B R rest a old m (s + 1) l' w' :=
  ⟨h1, h.tab.grown h3 hR, h.mid.step hm h2, h.b.grown h3 h.b.size (fun k hk => by cases hk; exact hB)⟩
/-- What stands while each number is shared. -/
structure ShareIn (w : World) (B : Nat) (rest : List Value) (l : List Int) (k : Nat) (l2 : List Int) (wr : World) : Prop where
  row : RowAt wr B rest l2
  poly : Poly l2
  done : ∀ t, t < k → Eqv (coef l2 t) (coef l t * 8347681)
  left : ∀ t, k ≤ t → coef l2 t = coef l t
  b : Below w.heap.size w wr
theorem ShareIn.step {w : World} {B : Nat} {rest : List Value} {l : List Int} {k : Nat} {l2 : List Int} {wr : World} (h : ShareIn w B rest l k l2 wr) (hk : k < 256) (hB : w.heap.size ≤ B) (v : Int) (h0 : 0 ≤ v) (h1 : v < 8380417) (hv : Eqv v (coef l k * 8347681)) : ShareIn w B rest l (k + 1) (l2.set k v) (wr.setCell ⟨B, k, none⟩ (.int .i64 v)) :=
  ⟨h.row.set k (by rw [h.poly.1]; exact hk) v, poly_set h.poly k v h0 h1, fun t ht => by
    rw [coef_set l2 k v (by rw [h.poly.1]; exact hk)]
    split
    · rename_i e; rw [e]; exact hv
    · exact h.done t (by omega), fun t ht => by
    rw [coef_set l2 k v (by rw [h.poly.1]; exact hk), if_neg (by omega)]; exact h.left t (by omega), h.b.setCell (p := ⟨B, k, none⟩) hB _⟩
set_option maxRecDepth 100000 in
set_option maxHeartbeats 4000000 in
theorem back_any (w : World) (x : Value) (a : List Int) (hx : IntsAt w x a) (ha : Poly a) : Gives w 15 #[x] (fun out => Poly out ∧ IsThere out a) := by
  have hva := (validB_iff a).2 ha
  have HX := hide hx
  have Ha := hide ha
  have hzv := (zero_of_info info35).1
  have sZ := size_row zeros (by rw [zeros, List.length_replicate])
  have sR := size_row rootsL len_roots
  have H1 := hide (one_row rootsL)
  obtain ⟨A, hA⟩ : ∃ A, (rootsL.map nv).toArray = A := ⟨_, rfl⟩
  obtain ⟨Z, hZ⟩ : ∃ Z, (zeros.map nv).toArray = Z := ⟨_, rfl⟩
  have HA := hide hA
  rw [hA] at sR H1
  rw [hZ] at sZ hzv
  clear hx ha hZ hA
  go_enter Try.func15, Try.ntmps15
  go_wp2_with fail
  refine (rvalid_any w _ a (unhide HX) (by have := (unhide Ha).1; omega)).mono ?_
  rw [hva]
  rintro e w0 ⟨rfl, rfl⟩
  go_wp2_with fail
  refine (clone_any w0 _ a (unhide HX) (unhide Ha)).mono ?_
  rintro e w1 ⟨v1, rfl, hO1, hb1⟩
  obtain ⟨B, rest, cap, rfl, hB, hcap, hcm, hR1⟩ := hO1.row (unhide Ha).1
  have HR1 := hide hR1
  have HB1 := hide hb1
  clear hO1 hR1 hb1
  go_wp2_with fail
  refine (roots_any w1).mono ?_
  rw [unhide HA]
  rintro e w2 ⟨rfl, hb2⟩
  have hBlt : B < w2.heap.size := Nat.lt_of_lt_of_le (unhide HR1).lt hb2.size
  have HB2 := hide ((unhide HB1).trans (hb2.mono (unhide HB1).size))
  have hb3 : Below w2.heap.size w2 ((w2.alloc (.cells Z 35)).setRow w2.heap.size A) := below_setRow ((Below.refl _ _).alloc (Nat.le_refl _) _) (Nat.le_refl _) _
  have HI : Hid (BackIn w0 B w2.heap.size rest a 8 a ((w2.alloc (.cells Z 35)).setRow w2.heap.size A)) := by
    refine ⟨((unhide HR1).below hb2).below hb3, ?_, up_start (unhide Ha), (unhide HB2).trans (hb3.mono (unhide HB2).size)⟩
    unfold TabAt
    rw [unhide HA]
    exact setRow_heap _ _ _ _ _ _ (heap_alloc_new w2 _)
  have HN := hide (heap_alloc_new w2 (.cells Z 35))
  clear hb2 hb3 HB2 HR1 HB1
  go_wp2_with (refine wpList_store_row rfl 35 _ _ rfl w2.heap.size A rfl rfl 35 Z (unhide HN) (by rw [sR]; exact size35) (by rw [sR, sZ]) (unhide H1) ?_)
  generalize (w2.alloc (.cells Z 35)).setRow w2.heap.size A = W0 at HI ⊢
  obtain ⟨R, hR⟩ : ∃ R, w2.heap.size = R := ⟨_, rfl⟩
  rw [hR] at HI hBlt ⊢
  clear HN H1 hzv sZ sR hR
  go_loopw [6, 7] (fun gr hf wr => ∃ (M h g : Nat) (l : List Int), M ≤ 8 ∧ 1 ≤ h ∧ h ≤ 256 ∧ Hid (h = 2 ^ (8 - M)) ∧ hf = .int .i64 (h : Int) ∧ g < 256 ∧ Hid (g + 1 = 2 ^ M) ∧ gr = .int .i64 (g : Int) ∧ Hid (BackIn w0 B R rest a M l wr)) (fun _ hf _ => 256 - (intOf hf).toNat)
  case atStart => exact ⟨8, 1, 255, a, by omega, by omega, by omega, rfl, rfl, by omega, rfl, rfl, HI⟩
  case round =>
    clear HI
    obtain ⟨M, h, g, l, hM, hh0, hh, Hh, rfl, hg, Hg, rfl, HI⟩ := hrel
    by_cases hlt : 0 < M
    · obtain ⟨m, rfl⟩ : ∃ m, M = m + 1 := ⟨M - 1, by omega⟩
      have hm : m < 8 := by omega
      have hw := whole_eq hm
      have hh2 : h = 2 ^ (7 - m) := by rw [unhide Hh, show 8 - (m + 1) = 7 - m by omega]
      have Hn : Hid (h * 2 = 2 ^ (8 - m)) := by show h * 2 = _; rw [hw, ← hh2]; omega
      have hsm := pow_small (show 7 - m < 8 by omega)
      have h0 : (h : Int) < 256 := by omega
      have h3 : (0 : Int) < (h : Int) := by omega
      have d0 : decide (h < 256) = true := by simp; omega
      have HE := hide (show 2 ^ (8 - m) = 2 * h by omega)
      have HE2 := hide (show 2 ^ (7 - m) = h from hh2.symm)
      have HK := hide hm
      have h1 : (h : Int) ≤ 128 := by omega
      have hh1 : h ≤ 128 := by omega
      have Hg2 : Hid (g + 1 + 0 = 2 ^ (m + 1)) := Hg
      have HI2 : Hid (BackMid w0 B R rest a l m 0 l wr) := ⟨(unhide HI).row, (unhide HI).tab, upMid_start (unhide HI).up, (unhide HI).b⟩
      clear hw hh2 hlt HI Hg hsm hm
      go_wp2
      go_loopw [6, 8] (fun gr st wr => ∃ (s t g : Nat) (l2 : List Int), Hid (s ≤ 2 ^ m) ∧ t ≤ 256 ∧ Hid (t = s * 2 ^ (8 - m)) ∧ st = .int .i64 (t : Int) ∧ g < 256 ∧ Hid (g + 1 + s = 2 ^ (m + 1)) ∧ gr = .int .i64 (g : Int) ∧ Hid (BackMid w0 B R rest a l m s l2 wr)) (fun _ st _ => 256 - (intOf st).toNat)
      case atStart => exact ⟨0, 0, g, l, Nat.zero_le _, by omega, by show 0 = 0 * _; omega, rfl, hg, Hg2, rfl, HI2⟩
      case round =>
        clear HI2 Hg2 hg
        obtain ⟨s, t, g, l2, Hs, ht, Ht, rfl, hg, Hg, rfl, HI⟩ := hrel
        by_cases ht2 : t < 256
        · have hs : s < 2 ^ m := by
            rcases Nat.lt_or_ge s (2 ^ m) with h | h
            · exact h
            · have := Nat.mul_le_mul_right (2 ^ (8 - m)) h
              rw [pow_mul (Nat.le_of_lt (unhide HK)), ← unhide Ht] at this
              omega
          have hpl := place_le (Nat.le_of_lt (unhide HK)) hs
          rw [← unhide Ht, unhide HE] at hpl
          have hgp : 0 < g := by have := unhide Hg; rw [Nat.pow_succ] at this; have := Nat.pow_pos (n := m) (show 0 < 2 by omega); omega
          have e1 := (unhide HI).tab.cell g (by rw [len_roots]; omega)
          rw [coef_roots g hg] at e1
          have br := rootN_bound g
          have HS : Hid (∀ l' w', RowAt w' B rest l' → JoinOf t h (rootN g : Int) l2 l' → wr.drew.grownBy w' (some B) → BackMid w0 B R rest a l m (s + 1) l' w') := fun l' w' q1 q2 q3 => by
            rw [unhide Ht, ← unhide HE2, show g = 2 ^ (m + 1) - 1 - s by have := unhide Hg; omega] at q2
            exact (unhide HI).drew.step (unhide HK) (by omega) hB q1 q2 q3
          have Hs2 : Hid (s + 1 ≤ 2 ^ m) := hs
          have Ht2 : Hid (t + 2 * h = (s + 1) * 2 ^ (8 - m)) := by show _ = _; rw [Nat.add_mul, ← unhide Ht, unhide HE]; omega
          have Hg2 : Hid (g - 1 + 1 + (s + 1) = 2 ^ (m + 1)) := by have := unhide Hg; show _ = _; omega
          generalize (rootN g : Int) = r at e1 br HS
          obtain ⟨r0, r1⟩ := br
          have s0 : (0 : Int) ≤ (t : Int) := by omega
          have s1 : (t : Int) < 256 := by omega
          have s2 : (t : Int) + (h : Int) ≤ 256 := by omega
          have s3 : (t : Int) + 2 * (h : Int) ≤ 256 := by omega
          have g0 : (0 : Int) ≤ (g : Int) := by omega
          have g1 : (g : Int) < 256 := by omega
          have w1 : IntKind.i64.wrap ((t : Int) + (h : Int)) = (t : Int) + (h : Int) := IntWalk.i64_in _ (by omega)
          have w2 : IntKind.i64.wrap (2 * (h : Int)) = 2 * (h : Int) := IntWalk.i64_in _ (by omega)
          have w3 : IntKind.i64.wrap ((t : Int) + 2 * (h : Int)) = (t : Int) + 2 * (h : Int) := IntWalk.i64_in _ (by omega)
          have l1 := slice_row B cap t h 256 (t : Int) ((t : Int) + (h : Int)) rfl rfl (by omega) (by omega)
          have l2 := slice_row B cap (t + h) h 256 ((t : Int) + (h : Int)) ((t : Int) + 2 * (h : Int)) (by omega) (by omega) (by omega) (by omega)
          clear Hs Ht hs Hg
          go_wp2
          have HRow := hide (unhide HI).row.drew
          have HPol := hide (unhide HI).mid.poly
          have hRB : R ≠ B := by omega
          clear HI
          go_region_held3 (fun w' => w'.cell? ⟨R, g, none⟩ = some (.int .i64 r)) (go_keep) ((go_at_call 23; refine (join_any _ B t h _ _ r rest _ (unhide HRow) (unhide HPol) hpl r0 r1).mono ?_; rintro e w3 ⟨rfl, l', hR', hP', hg'⟩; have e3 : w3.cell? ⟨R, g, none⟩ = some (.int .i64 r) := hg'.cell (by exact e1) (by simpa using hRB); have HS3 := hide (unhide HS l' w3 hR' hP' hg'); clear hR' hP' hg'))
          go_wp2
          go_roundw
          case rel =>
            first
              | exact ⟨s + 1, t + 2 * h, g - 1, _, Hs2, by omega, Ht2, by go_num, by omega, Hg2, by go_num, HS3⟩
              | ((repeat apply Exists.intro); exact ⟨⟨s + 1, t + 2 * h, g - 1, _, Hs2, by omega, Ht2, by go_num, by omega, Hg2, by go_num, HS3⟩, rfl⟩)
          case measure => simp [intOf]; omega
        · obtain rfl : t = 256 := by omega
          have hs : s = 2 ^ m := by
            have h2 := unhide Ht
            have hpm := pow_mul (Nat.le_of_lt (unhide HK))
            have hpos : 0 < 2 ^ (8 - m) := Nat.pow_pos (by omega)
            exact Nat.eq_of_mul_eq_mul_right hpos (by rw [← h2, hpm])
          subst hs
          have HI2 : Hid (BackIn w0 B R rest a m l2 wr) := ⟨(unhide HI).row, (unhide HI).tab, (unhide HI).mid.next (unhide HK), (unhide HI).b⟩
          have Hg2 : Hid (g + 1 = 2 ^ m) := by have := unhide Hg; rw [Nat.pow_succ] at this; show _ = _; omega
          have hm2 : m ≤ 8 := Nat.le_of_lt (unhide HK)
          clear HI Hg Ht Hs Hh ht ht2
          go_wp2
          go_roundw
          case rel =>
            first
              | exact ⟨m, h * 2, g, l2, hm2, by omega, by omega, Hn, by go_num, hg, Hg2, rfl, HI2⟩
              | ((repeat apply Exists.intro); exact ⟨⟨m, h * 2, g, l2, hm2, by omega, by omega, Hn, by go_num, hg, Hg2, rfl, HI2⟩, rfl⟩)
          case measure => simp [intOf]; omega
    · obtain rfl : M = 0 := by omega
      obtain rfl : h = 256 := by rw [unhide Hh]
      have HU := hide (unhide HI).up
      have HS0 : Hid (ShareIn w0 B rest l 0 l wr) := ⟨(unhide HI).row, (unhide HI).up.poly, fun t ht => by omega, fun _ _ => rfl, (unhide HI).b⟩
      clear HI Hh Hg hlt
      go_wp2
      go_loopw [50] (fun i wr => ∃ (k : Nat) (l2 : List Int), k ≤ 256 ∧ i = .int .i64 (k : Int) ∧ ShareIn w0 B rest l k l2 wr) (fun i _ => 256 - (intOf i).toNat)
      case atStart => exact ⟨0, l, by omega, rfl, unhide HS0⟩
      case round =>
        obtain ⟨k, l2, hk, rfl, hI⟩ := hrel
        clear HS0
        by_cases hlt : k < 256
        · have e1 := hI.row.cell k (by rw [hI.poly.1]; exact hlt)
          have f1 := hI.row.frozen k
          rw [hI.left k (Nat.le_refl _)] at e1
          have b1 := (unhide HU).poly.bound k
          have HS := hide (hI.step hlt hB (coef l k * 8347681 % 8380417) (by omega) (by omega) (eqv_emod _))
          generalize coef l k = y at e1 b1 HS
          have k0 : (0 : Int) ≤ (k : Int) := by omega
          have k1 : (k : Int) < 256 := by omega
          clear hI
          go_wp2_with fail
          refine (times_any y 8347681 b1.1 (by omega) (by omega) (by omega) wr).mono ?_
          rintro e w3 ⟨rfl, rfl⟩
          generalize y * 8347681 % 8380417 = v at HS ⊢
          go_wp2
          go_roundw
          case rel =>
            first
              | exact ⟨k + 1, _, by omega, by go_num, unhide HS⟩
              | ((repeat apply Exists.intro); exact ⟨⟨k + 1, _, by omega, by go_num, unhide HS⟩, rfl⟩)
          case measure => simp [intOf]; omega
        · obtain rfl : k = 256 := by omega
          have HO := hide (hI.row.own hB 256 cap hI.poly.1 hcap hcm)
          have HT := hide ((unhide HU).back hI.poly hI.done (unhide Ha))
          have HB := hide hI.b
          clear hI
          go_wp2
          go_ret2
          exact ⟨_, l2, rfl, unhide HO, unhide HT, unhide HB⟩
end Go.Proofs.Ytfjolaekenmefab
