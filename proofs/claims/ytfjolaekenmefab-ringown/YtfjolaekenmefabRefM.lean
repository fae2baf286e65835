/-
  The walk of the reference's product.
-/
import Derived.Test.YtfjolaekenmefabRefS
namespace Go.Proofs.Ytfjolaekenmefab
open Go.RowKit
structure MulAt (w : World) (B : Nat) (a b out : List Int) (i j : Nat) (wr : World) : Prop where
  o : OutAt wr B out
  p : Part a b out i j
  b : Below w.heap.size w wr
theorem MulAt.drew {w : World} {B : Nat} {a b out : List Int} {i j : Nat} {wr : World} (h : MulAt w B a b out i j wr) : MulAt w B a b out i j wr.drew := ⟨h.o, h.p, h.b.drew⟩
theorem MulAt.low {w : World} {B : Nat} {a b out : List Int} {i j : Nat} {wr : World} (h : MulAt w B a b out i j wr) (hij : i + j < 256) (hB : w.heap.size ≤ B) (v : Int) (h0 : 0 ≤ v) (h1 : v < 8380417) (hv : Eqv v (coef out (i + j) + coef a i * coef b j)) : MulAt w B a b (out.set (i + j) v) i (j + 1) (wr.setCell ⟨B, i + j, none⟩ (.int .i64 v)) :=
  ⟨h.o.set _ v, part_low h.p hij v h0 h1 hv, h.b.setCell (p := ⟨B, i + j, none⟩) hB _⟩
theorem MulAt.high {w : World} {B : Nat} {a b out : List Int} {i j : Nat} {wr : World} (h : MulAt w B a b out i j wr) (hij : 256 ≤ i + j) (hlt : i + j < 512) (hB : w.heap.size ≤ B) (v : Int) (h0 : 0 ≤ v) (h1 : v < 8380417) (hv : Eqv v (coef out (i + j - 256) - coef a i * coef b j)) : MulAt w B a b (out.set (i + j - 256) v) i (j + 1) (wr.setCell ⟨B, i + j - 256, none⟩ (.int .i64 v)) :=
  ⟨h.o.set _ v, part_high h.p hij hlt v h0 h1 hv, h.b.setCell (p := ⟨B, i + j - 256, none⟩) hB _⟩
theorem prod_bound {x y : Int} (hx0 : 0 ≤ x) (hx : x < 8380417) (hy0 : 0 ≤ y) (hy : y < 8380417) : 0 ≤ x * y ∧ x * y ≤ 70231372333056 := by
  refine ⟨Int.mul_nonneg hx0 hy0, ?_⟩
  have h1 : x * y ≤ 8380416 * y := Int.mul_le_mul_of_nonneg_right (by omega) hy0
  omega
theorem neg_eqv (z p : Int) : Eqv ((z + 8380416 * (p % 8380417)) % 8380417) (z - p) := by
  refine (eqv_emod _).trans ?_
  have h : Eqv (z + 8380416 * (p % 8380417)) (z + 8380416 * p) := (Eqv.refl _).add ((Eqv.refl _).mul (eqv_emod p))
  exact h.trans ⟨p, by omega⟩
set_option maxRecDepth 100000 in
set_option maxHeartbeats 2000000 in
theorem refMul_any (w : World) (x y : Value) (a b : List Int) (hx : IntsAt w x a) (hy : IntsAt w y b) (ha : Poly a) (hb : Poly b) :
    Calls Try.prog 11 #[x, y] w fun e w' => ∃ v out, e = .returned v ∧ OwnI w' w.heap.size v out ∧ IsMul a b out ∧ Below w.heap.size w w' := by
  obtain ⟨b1, o1, c1, rfl, hc1, hl1, h1⟩ := hx.polyCell ha
  obtain ⟨b2, o2, c2, rfl, hc2, hl2, h2⟩ := hy.polyCell hb
  obtain ⟨W, hmk, hO, hbel⟩ := made256 w
  have HM : Hid (MulAt w w.heap.size a b zeros 0 0 W) := ⟨hO, part_start a b, hbel⟩
  have H1 := hide h1
  have H2 := hide h2
  have Ha := hide ha
  have Hb := hide hb
  clear hx hy h1 h2 hO hbel ha hb
  go_enter Try.func11, Try.ntmps11
  go_wp2
  clear hmk
  generalize hB : w.heap.size = B at HM ⊢
  go_loopw [6] (fun i wr => ∃ (k : Nat) (out : List Int), k ≤ 256 ∧ i = .int .i64 (k : Int) ∧ MulAt w B a b out k 0 wr) (fun i _ => 256 - (intOf i).toNat)
  case atStart => exact ⟨0, zeros, by omega, rfl, unhide HM⟩
  case round =>
    obtain ⟨k, out, hk, rfl, hM⟩ := hrel
    clear HM
    by_cases hlt : k < 256
    · have e1 : wr.cell? ⟨b1, o1 + k, none⟩ = some (.int .i64 (coef a k)) := by rw [hM.b.cell hl1]; exact unhide H1 k hlt
      have k0 : (0 : Int) ≤ (k : Int) := by omega
      have k1 : (k : Int) < 256 := by omega
      by_cases hz : coef a k = 0
      · have HS : Hid (MulAt w B a b out (k + 1) 0 wr) := ⟨hM.o, part_skip hM.p hz, hM.b⟩
        rw [hz] at e1
        clear hM hz
        go_wp2
        go_roundw
        case rel =>
          first
            | exact ⟨k + 1, out, by omega, by go_num, unhide HS⟩
            | ((repeat apply Exists.intro); exact ⟨⟨k + 1, out, by omega, by go_num, unhide HS⟩, rfl⟩)
        case measure => simp [intOf]; omega
      · have hne : (coef a k == 0) = false := by simp; exact hz
        have HM := hide hM
        have ba := (unhide Ha).bound k
        have Ea : Hid (∀ t, t < 256 → w.cell? ⟨b1, o1 + k, none⟩ = some (.int .i64 (coef a k))) := fun _ _ => unhide H1 k hlt
        have HK := hide hlt
        generalize hza : coef a k = za at e1 hne ba Ea
        have Hza := hide hza
        clear hM hz hza
        go_wp2
        go_loopw [7] (fun i wr2 => ∃ (j : Nat) (out2 : List Int), j ≤ 256 ∧ i = .int .i64 (j : Int) ∧ MulAt w B a b out2 k j wr2) (fun i _ => 256 - (intOf i).toNat)
        case atStart => exact ⟨0, out, by omega, rfl, unhide HM⟩
        case round =>
          obtain ⟨j, out2, hj, rfl, hM⟩ := hrel
          clear HM e1
          by_cases hjl : j < 256
          · have e1 : wr.cell? ⟨b1, o1 + k, none⟩ = some (.int .i64 za) := by rw [hM.b.cell hl1]; exact unhide Ea 0 (by omega)
            have e2 : wr.cell? ⟨b2, o2 + j, none⟩ = some (.int .i64 (coef b j)) := by rw [hM.b.cell hl2]; exact unhide H2 j hjl
            have bb := (unhide Hb).bound j
            have j0 : (0 : Int) ≤ (j : Int) := by omega
            have j1 : (j : Int) < 256 := by omega
            have pb := prod_bound ba.1 ba.2 bb.1 bb.2
            by_cases hs : k + j < 256
            · have s1 : (k : Int) + (j : Int) < 256 := by omega
              have s0 : (0 : Int) ≤ (k : Int) + (j : Int) := by omega
              have s2 : ((k : Int) + (j : Int)).toNat = k + j := by omega
              have e3 := hM.o.cell (k + j) (by rw [hM.p.1.1]; exact hs)
              have f3 := hM.o.frozen (k + j)
              have bo := hM.p.1.bound (k + j)
              have HS := hide (hM.low hs (Nat.le_of_eq hB) ((coef out2 (k + j) + coef a k * coef b j) % 8380417) (by omega) (by omega) (eqv_emod _))
              rw [unhide Hza] at HS
              generalize coef b j = zb at e2 bb pb HS
              generalize coef out2 (k + j) = zo at e3 bo HS
              generalize hp : za * zb = p at pb HS
              obtain ⟨p0, p1⟩ := pb
              obtain ⟨r0, r1⟩ := bo
              have w1 : IntKind.i64.wrap p = p := IntWalk.i64_in _ (by omega)
              have w2 : (zo + p).tmod 8380417 = (zo + p) % 8380417 := Int.tmod_eq_emod_of_nonneg (by omega)
              clear hM
              go_wp2
              go_region
              go_wp2
              go_roundw
              case rel =>
                first
                  | exact ⟨j + 1, _, by omega, by go_num, (unhide HS).drew⟩
                  | ((repeat apply Exists.intro); exact ⟨⟨j + 1, _, by omega, by go_num, (unhide HS).drew⟩, rfl⟩)
              case measure => simp [intOf]; omega
            · have s1 : decide ((k : Int) + (j : Int) < 256) = false := by simp; omega
              have s0 : (0 : Int) ≤ (k : Int) + (j : Int) - 256 := by omega
              have s4 : (k : Int) + (j : Int) - 256 < 256 := by omega
              have s2 : ((k : Int) + (j : Int) - 256).toNat = k + j - 256 := by omega
              have s5 : (256 : Int) ≤ (k : Int) + (j : Int) := by omega
              have e3 := hM.o.cell (k + j - 256) (by rw [hM.p.1.1]; omega)
              have f3 := hM.o.frozen (k + j - 256)
              have bo := hM.p.1.bound (k + j - 256)
              have HS := hide (hM.high (by omega) (by omega) (Nat.le_of_eq hB) ((coef out2 (k + j - 256) + 8380416 * (coef a k * coef b j % 8380417)) % 8380417) (by omega) (by omega) (neg_eqv _ _))
              rw [unhide Hza] at HS
              generalize coef b j = zb at e2 bb pb HS
              generalize coef out2 (k + j - 256) = zo at e3 bo HS
              generalize hp : za * zb = p at pb HS
              obtain ⟨p0, p1⟩ := pb
              obtain ⟨r0, r1⟩ := bo
              have w1 : IntKind.i64.wrap p = p := IntWalk.i64_in _ (by omega)
              have w3 : p.tmod 8380417 = p % 8380417 := Int.tmod_eq_emod_of_nonneg (by omega)
              have m0 : 0 ≤ p % 8380417 := by omega
              have m1 : p % 8380417 < 8380417 := by omega
              generalize p % 8380417 = m at w3 m0 m1 HS
              have w2 : (zo + 8380416 * m).tmod 8380417 = (zo + 8380416 * m) % 8380417 := Int.tmod_eq_emod_of_nonneg (by omega)
              clear hM
              go_wp2
              go_region
              go_wp2
              go_roundw
              case rel =>
                first
                  | exact ⟨j + 1, _, by omega, by go_num, (unhide HS).drew⟩
                  | ((repeat apply Exists.intro); exact ⟨⟨j + 1, _, by omega, by go_num, (unhide HS).drew⟩, rfl⟩)
              case measure => simp [intOf]; omega
          · obtain rfl : j = 256 := by omega
            have HS : Hid (MulAt w B a b out2 (k + 1) 0 wr) := ⟨hM.o, part_row hM.p, hM.b⟩
            clear hM
            go_wp2
            go_roundw
            case rel =>
              first
                | exact ⟨k + 1, out2, by have := unhide HK; omega, by go_num, unhide HS⟩
                | ((repeat apply Exists.intro); exact ⟨⟨k + 1, out2, by have := unhide HK; omega, by go_num, unhide HS⟩, rfl⟩)
            case measure => (have := unhide HK; simp [intOf]; omega)
    · obtain rfl : k = 256 := by omega
      have HO := hide (hM.o.own (Nat.le_refl B) 256 hM.p.1.1 (by omega))
      have HA := hide (part_done hM.p)
      have HB := hide hM.b
      clear hM
      go_wp2
      go_ret
      exact ⟨.slice (some ⟨B, 0, none⟩) 256 256, out, rfl, by rw [hB]; exact unhide HO, unhide HA, unhide HB⟩
end Go.Proofs.Ytfjolaekenmefab
