/-
  The walks of the reference's points, its transform, Center and Norm.
-/
import Derived.Test.YtfjolaekenmefaaRefM
namespace Go.Proofs.Ytfjolaekenmefaa
open Go.RowKit
def rTo (s k : Nat) : Nat := (List.range k).foldl (fun r j => 2 * r + s / 2 ^ j % 2) 0
theorem rTo_succ (s k : Nat) : rTo s (k + 1) = 2 * rTo s k + s / 2 ^ k % 2 := by
  unfold rTo
  rw [List.range_succ, List.foldl_append]
  rfl
theorem rTo_lt (s k : Nat) : rTo s k < 2 ^ k := by
  induction k with
  | zero => show 0 < 1; omega
  | succ k ih => rw [rTo_succ, Nat.pow_succ]; omega
theorem rTo_bound (s k : Nat) (h : k ≤ 8) : rTo s k < 256 := Nat.lt_of_lt_of_le (rTo_lt s k) (Nat.pow_le_pow_right (by omega) h)
theorem half_succ (s k : Nat) : s / 2 ^ k / 2 = s / 2 ^ (k + 1) := by rw [Nat.div_div_eq_div_mul, Nat.pow_succ]
theorem pow_step (k : Nat) : 1753 ^ k % 8380417 * 1753 % 8380417 = 1753 ^ (k + 1) % 8380417 := by
  rw [Nat.pow_succ, Nat.mod_mul_mod]
set_option maxRecDepth 100000 in
set_option maxHeartbeats 1000000 in
theorem point_any (s : Nat) (hs : s < 256) (w : World) : Calls Try.prog 37 #[.int .i64 (s : Int)] w fun e w' => e = .returned (.int .i64 (pt s)) ∧ w' = w := by
  go_enter Try.func37, Try.ntmps37
  go_wp2
  go_loopw [0, 3, 4] (fun i r c wr => ∃ k x y : Nat, k ≤ 8 ∧ c = .int .i64 (k : Int) ∧ Hid (x = s / 2 ^ k) ∧ x < 256 ∧ i = .int .i64 (x : Int) ∧ Hid (y = rTo s k) ∧ y < 256 ∧ r = .int .i64 (y : Int) ∧ Hid (w = wr)) (fun _ _ c _ => 8 - (intOf c).toNat)
  case atStart => exact ⟨0, s, 0, by omega, rfl, by show s = s / 1; omega, hs, rfl, rfl, by omega, rfl, rfl⟩
  case round =>
    obtain ⟨k, x, y, hk, rfl, hx, hxl, rfl, hy, hyl, rfl, hw⟩ := hrel
    have hw' := unhide hw
    clear hw
    subst hw'
    by_cases hlt : k < 8
    · have hx2 : Hid (x / 2 = s / 2 ^ (k + 1)) := by show x / 2 = _; rw [unhide hx, half_succ]
      have hy2 : Hid (2 * y + x % 2 = rTo s (k + 1)) := by show 2 * y + x % 2 = _; rw [rTo_succ, unhide hx, unhide hy]
      have hyb : 2 * y + x % 2 < 256 := by have := unhide hy2; rw [this]; exact rTo_bound s _ (by omega)
      have k1 : (k : Int) < 8 := by omega
      have x0 : (0 : Int) ≤ (x : Int) := by omega
      have y0 : (0 : Int) ≤ (y : Int) := by omega
      have x1 : (x : Int) < 256 := by omega
      have y1 : (y : Int) < 256 := by omega
      clear hx hy
      go_wp2
      go_roundw
      case rel =>
        first
          | exact ⟨k + 1, x / 2, 2 * y + x % 2, by omega, by go_num, hx2, by omega, by go_num, hy2, hyb, by go_num, trivial⟩
          | exact ⟨k + 1, x / 2, 2 * y + x % 2, by omega, by go_num, hx2, by omega, by go_num, hy2, hyb, by go_num, rfl⟩
      case measure => simp [intOf]; omega
    · obtain rfl : k = 8 := by omega
      have hp := point_dec s hs
      have hf : flipN s = y := (show flipN s = rTo s 8 from rfl).trans (unhide hy).symm
      rw [hf] at hp
      have Hp := hide hp
      clear hp hf hx hy
      go_wp2
      go_loopw [5, 6] (fun p c wr => ∃ j z : Nat, j ≤ 2 * y + 1 ∧ c = .int .i64 (j : Int) ∧ Hid (z = 1753 ^ j % 8380417) ∧ z < 8380417 ∧ p = .int .i64 (z : Int) ∧ Hid (w = wr)) (fun _ c _ => 2 * y + 1 - (intOf c).toNat)
      case atStart => exact ⟨0, 1, by omega, rfl, by show 1 = 1753 ^ 0 % 8380417; decide, by omega, rfl, rfl⟩
      case round =>
        obtain ⟨j, z, hj, rfl, hz, hzl, rfl, hw⟩ := hrel
        have hw' := unhide hw
        clear hw
        subst hw'
        have y0 : (0 : Int) ≤ (y : Int) := by omega
        have y1 : (y : Int) < 256 := by omega
        by_cases hjl : j < 2 * y + 1
        · have hz2 : Hid (z * 1753 % 8380417 = 1753 ^ (j + 1) % 8380417) := by show z * 1753 % 8380417 = _; rw [unhide hz, pow_step]
          have j1 : (j : Int) < 2 * (y : Int) + 1 := by omega
          have z0 : (0 : Int) ≤ (z : Int) := by omega
          have z1 : (z : Int) < 8380417 := by omega
          clear hz
          go_wp2
          go_roundw
          case rel =>
            first
              | exact ⟨j + 1, z * 1753 % 8380417, by omega, by go_num, hz2, by omega, by go_num, trivial⟩
              | exact ⟨j + 1, z * 1753 % 8380417, by omega, by go_num, hz2, by omega, by go_num, rfl⟩
          case measure => simp [intOf]; omega
        · obtain rfl : j = 2 * y + 1 := by omega
          have hd : decide (((2 * y + 1 : Nat) : Int) < 2 * (y : Int) + 1) = false := by simp
          have Hz : Hid ((z : Int) = pt s) := by show (z : Int) = pt s; rw [pt, ← unhide Hp, ← unhide hz]
          clear hz
          go_wp2
          go_ret
          exact ⟨by rw [← unhide Hz]; rfl, rfl⟩
theorem hor_down (p : Int) (a : List Int) (m : Nat) (hm : m < 256) : hor p (fun t => coef a (t + m)) (256 - m) = coef a m + p * hor p (fun t => coef a (t + (m + 1))) (256 - (m + 1)) := by
  rw [show 256 - m = 256 - (m + 1) + 1 by omega, hor]
  have e : (fun t => coef a (t + 1 + m)) = fun t => coef a (t + (m + 1)) := by funext t; rw [show t + 1 + m = t + (m + 1) by omega]
  rw [e, Nat.zero_add]
theorem mulp_bound {x y z : Int} (hx0 : 0 ≤ x) (hx : x < 8380417) (hy0 : 0 ≤ y) (hy : y < 8380417) (hz0 : 0 ≤ z) (hz : z < 8380417) : 0 ≤ x * y + z ∧ x * y + z ≤ 70231380713472 := by
  have := prod_bound hx0 hx hy0 hy
  omega
theorem pt_bound (s : Nat) : 0 ≤ pt s ∧ pt s < 8380417 := by
  have := rho_lt 8 s
  unfold pt ptN
  omega
set_option maxRecDepth 100000 in
set_option maxHeartbeats 2000000 in
theorem refThere_any (w : World) (x : Value) (a : List Int) (hx : IntsAt w x a) (ha : Poly a) :
    Calls Try.prog 23 #[x] w fun e w' => ∃ v out, e = .returned v ∧ OwnI w' w.heap.size v out ∧ IsThere a out ∧ Below w.heap.size w w' := by
  obtain ⟨b1, o1, c1, rfl, hc1, hl1, h1⟩ := hx.polyCell ha
  obtain ⟨W, hmk, hO, hbel⟩ := made256 w
  have HM : Hid (Meanwhile w w.heap.size 0 (fun t => ev (pt t) a) zeros W) := ⟨hO, poly_zeros, fun t ht => by omega, hbel⟩
  have H1 := hide h1
  have Ha := hide ha
  clear hx h1 hO hbel ha
  go_enter Try.func23, Try.ntmps23
  go_wp2
  clear hmk
  generalize hB : w.heap.size = B at HM ⊢
  go_loopw [4] (fun i wr => ∃ (k : Nat) (out : List Int), k ≤ 256 ∧ i = .int .i64 (k : Int) ∧ Meanwhile w B k (fun t => ev (pt t) a) out wr) (fun i _ => 256 - (intOf i).toNat)
  case atStart => exact ⟨0, zeros, by omega, rfl, unhide HM⟩
  case round =>
    obtain ⟨k, out, hk, rfl, hM⟩ := hrel
    clear HM
    by_cases hlt : k < 256
    · have k0 : (0 : Int) ≤ (k : Int) := by omega
      have k1 : (k : Int) < 256 := by omega
      have HM := hide hM
      have HK := hide hlt
      clear hM hlt
      go_wp2_with fail
      refine (point_any k (unhide HK) wr).mono ?_
      rintro e w1 ⟨rfl, rfl⟩
      have hp := pt_bound k
      obtain ⟨P, hP⟩ : ∃ P, pt k = P := ⟨_, rfl⟩
      rw [hP] at hp ⊢
      have HP := hide hP
      clear hP
      go_wp2
      go_loopw [6, 7] (fun v c wr2 => ∃ (m : Nat) (z : Int), m ≤ 256 ∧ c = .int .i64 ((m : Int) - 1) ∧ v = .int .i64 z ∧ 0 ≤ z ∧ z < 8380417 ∧ Hid (Eqv z (hor P (fun t => coef a (t + m)) (256 - m))) ∧ Hid (w1 = wr2)) (fun _ c _ => (intOf c + 1).toNat)
      case atStart => exact ⟨256, 0, by omega, rfl, rfl, by omega, by omega, Eqv.refl _, rfl⟩
      case round =>
        obtain ⟨m, z, hm, rfl, rfl, hz0, hz1, hE, hw⟩ := hrel
        have hw' := unhide hw
        clear hw
        subst hw'
        by_cases hm0 : 0 < m
        · obtain ⟨m, rfl⟩ : ∃ m', m = m' + 1 := ⟨m - 1, by omega⟩
          have em : (((m + 1 : Nat) : Int) - 1) = (m : Int) := by omega
          rw [em]
          have hE2 : Hid (Eqv ((z * P + coef a m) % 8380417) (hor P (fun t => coef a (t + m)) (256 - m))) := by
            show Eqv _ _
            rw [hor_down P a m (by omega)]
            refine (eqv_emod _).trans ?_
            refine Eqv.trans ?_ ((Eqv.refl (coef a m)).add ((Eqv.refl P).mul (unhide hE)))
            exact ⟨0, by grind⟩
          have e1 : w1.cell? ⟨b1, o1 + m, none⟩ = some (.int .i64 (coef a m)) := by rw [(unhide HM).b.cell hl1]; exact unhide H1 m (by omega)
          have ba := (unhide Ha).bound m
          have mb := mulp_bound hz0 hz1 hp.1 hp.2 ba.1 ba.2
          have pb := prod_bound hz0 hz1 hp.1 hp.2
          generalize coef a m = za at e1 hE2 mb ba
          generalize hq : z * P = q at hE2 mb pb
          obtain ⟨m0, m1⟩ := mb
          obtain ⟨p0, p1⟩ := pb
          obtain ⟨a0, a1⟩ := ba
          have n0 : (0 : Int) ≤ (m : Int) := by omega
          have n1 : (m : Int) < 256 := by omega
          clear hE em
          go_wp2
          go_roundw
          case rel =>
            first
              | exact ⟨m, (q + za) % 8380417, by omega, rfl, rfl, by omega, by omega, hE2, trivial⟩
              | exact ⟨m, (q + za) % 8380417, by omega, rfl, rfl, by omega, by omega, hE2, rfl⟩
          case measure => simp [intOf]
        · obtain rfl : m = 0 := by omega
          have hd : decide ((0 : Int) ≤ ((0 : Nat) : Int) - 1) = false := by decide
          have HS := hide ((unhide HM).step (unhide HK) (Nat.le_of_eq hB) z hz0 hz1 (by
            show Eqv z (ev (pt k) a)
            rw [unhide HP]; exact unhide hE))
          have f3 := (unhide HM).o.frozen k
          have e3 := (unhide HM).o.cell k (by rw [(unhide HM).p.1]; exact unhide HK)
          generalize coef out k = zo at e3
          clear HM hE
          go_wp2
          go_roundw
          case rel =>
            first
              | exact ⟨k + 1, _, by have := unhide HK; omega, by go_num, unhide HS⟩
              | ((repeat apply Exists.intro); exact ⟨⟨k + 1, _, by have := unhide HK; omega, by go_num, unhide HS⟩, rfl⟩)
          case measure => (have := unhide HK; simp [intOf]; omega)
    · obtain rfl : k = 256 := by omega
      have HO := hide (hM.o.own (Nat.le_refl B) 256 hM.p.1 (by omega))
      have HA : Hid (IsThere a out) := ⟨hM.p, hM.e⟩
      have HB := hide hM.b
      clear hM
      go_wp2
      go_ret
      exact ⟨.slice (some ⟨B, 0, none⟩) 256 256, out, rfl, by rw [hB]; exact unhide HO, unhide HA, unhide HB⟩
/-- The number around 0. -/
def center (n : Int) : Int := if 4190208 < n.tmod 8380417 then n.tmod 8380417 - 8380417 else if n.tmod 8380417 < -4190208 then n.tmod 8380417 + 8380417 else n.tmod 8380417
theorem tmod_bound (n : Int) : -8380417 < n.tmod 8380417 ∧ n.tmod 8380417 < 8380417 := by
  have h1 := Int.tmod_lt_of_pos n (show (0 : Int) < 8380417 by omega)
  have h2 := Int.lt_tmod_of_pos n (show (0 : Int) < 8380417 by omega)
  omega
theorem tmod_eqv (n : Int) : Eqv (n.tmod 8380417) n := ⟨-(n.tdiv 8380417), by have := Int.mul_tdiv_add_tmod n 8380417; omega⟩
theorem center_bound (n : Int) : -4190208 ≤ center n ∧ center n ≤ 4190208 := by
  have := tmod_bound n
  unfold center
  split
  · omega
  · split <;> omega
theorem center_eqv (n : Int) : Eqv (center n) n := by
  refine Eqv.trans ?_ (tmod_eqv n)
  unfold center
  split
  · exact ⟨-1, by omega⟩
  · split
    · exact ⟨1, by omega⟩
    · exact Eqv.refl _
theorem center_unique {n x : Int} (h : Eqv x n) (h0 : -4190208 ≤ x) (h1 : x ≤ 4190208) : x = center n := by
  obtain ⟨k, hk⟩ := h.trans (center_eqv n).symm
  have := center_bound n
  omega
set_option maxRecDepth 100000 in
set_option maxHeartbeats 1000000 in
theorem center_any (n : Int) (w : World) : Calls Try.prog 25 #[.int .i64 n] w fun e w' => e = .returned (.int .i64 (center n)) ∧ w' = w := by
  have hb := tmod_bound n
  have hc : center n = if 4190208 < n.tmod 8380417 then n.tmod 8380417 - 8380417 else if n.tmod 8380417 < -4190208 then n.tmod 8380417 + 8380417 else n.tmod 8380417 := rfl
  generalize hm : n.tmod 8380417 = m at hb hc
  obtain ⟨m0, m1⟩ := hb
  have Hc := hide hc
  clear hc
  by_cases h1 : 4190208 < m
  · have d2 : decide (m - 8380417 < -4190208) = false := by simp; omega
    have Hv : Hid (m - 8380417 = center n) := by show _ = _; rw [unhide Hc, if_pos h1]
    clear Hc
    go_enter Try.func25, Try.ntmps25
    go_wp2
    go_ret
    exact ⟨by rw [← unhide Hv]; rfl, rfl⟩
  · have d1 : decide (4190208 < m) = false := by simp; omega
    by_cases h2 : m < -4190208
    · have Hv : Hid (m + 8380417 = center n) := by show _ = _; rw [unhide Hc, if_neg h1, if_pos h2]
      clear Hc
      go_enter Try.func25, Try.ntmps25
      go_wp2
      go_ret
      exact ⟨by rw [← unhide Hv]; rfl, rfl⟩
    · have d2 : decide (m < -4190208) = false := by simp; omega
      have Hv : Hid (m = center n) := by show _ = _; rw [unhide Hc, if_neg h1, if_neg h2]
      clear Hc
      go_enter Try.func25, Try.ntmps25
      go_wp2
      go_ret
      exact ⟨by rw [← unhide Hv]; rfl, rfl⟩
end Go.Proofs.Ytfjolaekenmefaa
