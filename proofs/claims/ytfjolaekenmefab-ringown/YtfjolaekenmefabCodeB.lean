/-
  The walks of each and of what stands on it: Add, Sub, Point; and what they refuse.
-/
import Derived.Test.YtfjolaekenmefabCodeA
namespace Go.Proofs.Ytfjolaekenmefab
open Go.RowKit
set_option maxRecDepth 100000 in
theorem plus_any (x y : Int) (hx0 : 0 ≤ x) (hx : x < 8380417) (hy0 : 0 ≤ y) (hy : y < 8380417) (w : World) :
    Calls Try.prog 17 #[.int .i64 x, .int .i64 y] w fun e w' => e = .returned (.int .i64 ((x + y) % 8380417)) ∧ w' = w := by
  have w1 : IntKind.i64.wrap (x + y) = x + y := IntWalk.i64_in _ (by omega)
  have w2 : (x + y).tmod 8380417 = (x + y) % 8380417 := Int.tmod_eq_emod_of_nonneg (by omega)
  go_enter Try.func17, Try.ntmps17
  go_wp2
  go_ret
  exact ⟨rfl, rfl⟩
set_option maxRecDepth 100000 in
set_option maxHeartbeats 1000000 in
theorem each30_any (w : World) (x y : Value) (a b : List Int) (hx : IntsAt w x a) (hy : IntsAt w y b) (ha : Poly a) (hb : Poly b) :
    Gives w 16 #[x, y, .func (.func 17) #[] #[]] (fun out => Poly out ∧ ∀ t, t < 256 → Eqv (coef out t) (coef a t + coef b t)) := by
  have HX := hide hx
  have HY := hide hy
  have hva := (validB_iff a).2 ha
  have hvb := (validB_iff b).2 hb
  obtain ⟨b1, o1, c1, rfl, hc1, hl1, h1⟩ := hx.polyCell ha
  obtain ⟨b2, o2, c2, rfl, hc2, hl2, h2⟩ := hy.polyCell hb
  obtain ⟨W, hmk, hO, hbel⟩ := made256 w
  have HM : Hid (Meanwhile w w.heap.size 0 (fun t => coef a t + coef b t) zeros W) := ⟨hO, poly_zeros, fun t ht => by omega, hbel⟩
  have H1 := hide h1
  have H2 := hide h2
  have Ha := hide ha
  have Hb := hide hb
  clear hx hy h1 h2 hO hbel ha hb
  go_enter Try.func16, Try.ntmps16
  go_wp2_with fail
  refine (rvalid_any w _ a (unhide HX) (by have := (unhide Ha).1; omega)).mono ?_
  rw [hva]
  rintro e w1 ⟨rfl, rfl⟩
  go_wp2_with fail
  refine (rvalid_any w1 _ b (unhide HY) (by have := (unhide Hb).1; omega)).mono ?_
  rw [hvb]
  rintro e w2 ⟨rfl, rfl⟩
  go_wp2
  clear hmk hva hvb
  generalize hB : w2.heap.size = B at HM ⊢
  go_loopw [22] (fun i wr => ∃ (k : Nat) (out : List Int), k ≤ 256 ∧ i = .int .i64 (k : Int) ∧ Meanwhile w2 B k (fun t => coef a t + coef b t) out wr) (fun i _ => 256 - (intOf i).toNat)
  case atStart => exact ⟨0, zeros, by omega, rfl, unhide HM⟩
  case round =>
    obtain ⟨k, out, hk, rfl, hM⟩ := hrel
    clear HM
    by_cases hlt : k < 256
    · have e1 : wr.cell? ⟨b1, o1 + k, none⟩ = some (.int .i64 (coef a k)) := by rw [hM.b.cell hl1]; exact unhide H1 k hlt
      have e2 : wr.cell? ⟨b2, o2 + k, none⟩ = some (.int .i64 (coef b k)) := by rw [hM.b.cell hl2]; exact unhide H2 k hlt
      have f3 := hM.o.frozen k
      have e3 := hM.o.cell k (by rw [hM.p.1]; exact hlt)
      have ba := (unhide Ha).bound k
      have bb := (unhide Hb).bound k
      have HS := hide (hM.step hlt (Nat.le_of_eq hB) ((coef a k + coef b k) % 8380417) (by omega) (by omega) (eqv_emod _))
      generalize coef out k = zo at e3
      generalize coef a k = za at e1 ba HS
      generalize coef b k = zb at e2 bb HS
      obtain ⟨q1, q2⟩ := ba
      obtain ⟨q3, q4⟩ := bb
      have k0 : (0 : Int) ≤ (k : Int) := by omega
      have k1 : (k : Int) < 256 := by omega
      clear hM
      go_wp2_with fail
      refine (plus_any za zb q1 (by omega) q3 q4 wr).mono ?_
      rintro e w3 ⟨rfl, rfl⟩
      generalize (za + zb) % 8380417 = v at HS ⊢
      go_wp2
      go_roundw
      case rel =>
        first
          | exact ⟨k + 1, _, by omega, by go_num, unhide HS⟩
          | ((repeat apply Exists.intro); exact ⟨⟨k + 1, _, by omega, by go_num, unhide HS⟩, rfl⟩)
      case measure => simp [intOf]; omega
    · obtain rfl : k = 256 := by omega
      have HO := hide (hM.o.own (Nat.le_refl B) 256 hM.p.1 (by omega))
      have HA : Hid (Poly out ∧ ∀ t, t < 256 → Eqv (coef out t) (coef a t + coef b t)) := ⟨hM.p, hM.e⟩
      have HB := hide hM.b
      clear hM
      go_wp2
      go_ret2
      exact ⟨.slice (some ⟨B, 0, none⟩) 256 256, out, rfl, by rw [hB]; exact unhide HO, unhide HA, unhide HB⟩
set_option maxRecDepth 100000 in
set_option maxHeartbeats 1000000 in
theorem each32_any (w : World) (x y : Value) (a b : List Int) (hx : IntsAt w x a) (hy : IntsAt w y b) (ha : Poly a) (hb : Poly b) :
    Gives w 16 #[x, y, .func (.func 22) #[] #[]] (fun out => Poly out ∧ ∀ t, t < 256 → Eqv (coef out t) (coef a t * coef b t)) := by
  have HX := hide hx
  have HY := hide hy
  have hva := (validB_iff a).2 ha
  have hvb := (validB_iff b).2 hb
  obtain ⟨b1, o1, c1, rfl, hc1, hl1, h1⟩ := hx.polyCell ha
  obtain ⟨b2, o2, c2, rfl, hc2, hl2, h2⟩ := hy.polyCell hb
  obtain ⟨W, hmk, hO, hbel⟩ := made256 w
  have HM : Hid (Meanwhile w w.heap.size 0 (fun t => coef a t * coef b t) zeros W) := ⟨hO, poly_zeros, fun t ht => by omega, hbel⟩
  have H1 := hide h1
  have H2 := hide h2
  have Ha := hide ha
  have Hb := hide hb
  clear hx hy h1 h2 hO hbel ha hb
  go_enter Try.func16, Try.ntmps16
  go_wp2_with fail
  refine (rvalid_any w _ a (unhide HX) (by have := (unhide Ha).1; omega)).mono ?_
  rw [hva]
  rintro e w1 ⟨rfl, rfl⟩
  go_wp2_with fail
  refine (rvalid_any w1 _ b (unhide HY) (by have := (unhide Hb).1; omega)).mono ?_
  rw [hvb]
  rintro e w2 ⟨rfl, rfl⟩
  go_wp2
  clear hmk hva hvb
  generalize hB : w2.heap.size = B at HM ⊢
  go_loopw [22] (fun i wr => ∃ (k : Nat) (out : List Int), k ≤ 256 ∧ i = .int .i64 (k : Int) ∧ Meanwhile w2 B k (fun t => coef a t * coef b t) out wr) (fun i _ => 256 - (intOf i).toNat)
  case atStart => exact ⟨0, zeros, by omega, rfl, unhide HM⟩
  case round =>
    obtain ⟨k, out, hk, rfl, hM⟩ := hrel
    clear HM
    by_cases hlt : k < 256
    · have e1 : wr.cell? ⟨b1, o1 + k, none⟩ = some (.int .i64 (coef a k)) := by rw [hM.b.cell hl1]; exact unhide H1 k hlt
      have e2 : wr.cell? ⟨b2, o2 + k, none⟩ = some (.int .i64 (coef b k)) := by rw [hM.b.cell hl2]; exact unhide H2 k hlt
      have f3 := hM.o.frozen k
      have e3 := hM.o.cell k (by rw [hM.p.1]; exact hlt)
      have ba := (unhide Ha).bound k
      have bb := (unhide Hb).bound k
      have HS := hide (hM.step hlt (Nat.le_of_eq hB) ((coef a k * coef b k) % 8380417) (by omega) (by omega) (eqv_emod _))
      generalize coef out k = zo at e3
      generalize coef a k = za at e1 ba HS
      generalize coef b k = zb at e2 bb HS
      obtain ⟨q1, q2⟩ := ba
      obtain ⟨q3, q4⟩ := bb
      have k0 : (0 : Int) ≤ (k : Int) := by omega
      have k1 : (k : Int) < 256 := by omega
      clear hM
      go_wp2_with fail
      refine (times_any za zb q1 (by omega) q3 q4 wr).mono ?_
      rintro e w3 ⟨rfl, rfl⟩
      generalize (za * zb) % 8380417 = v at HS ⊢
      go_wp2
      go_roundw
      case rel =>
        first
          | exact ⟨k + 1, _, by omega, by go_num, unhide HS⟩
          | ((repeat apply Exists.intro); exact ⟨⟨k + 1, _, by omega, by go_num, unhide HS⟩, rfl⟩)
      case measure => simp [intOf]; omega
    · obtain rfl : k = 256 := by omega
      have HO := hide (hM.o.own (Nat.le_refl B) 256 hM.p.1 (by omega))
      have HA : Hid (Poly out ∧ ∀ t, t < 256 → Eqv (coef out t) (coef a t * coef b t)) := ⟨hM.p, hM.e⟩
      have HB := hide hM.b
      clear hM
      go_wp2
      go_ret2
      exact ⟨.slice (some ⟨B, 0, none⟩) 256 256, out, rfl, by rw [hB]; exact unhide HO, unhide HA, unhide HB⟩
set_option maxRecDepth 100000 in
theorem radd_any (w : World) (x y : Value) (a b : List Int) (hx : IntsAt w x a) (hy : IntsAt w y b) (ha : Poly a) (hb : Poly b) : Gives w 7 #[x, y] (IsAdd a b) := by
  have H := hide (each30_any w x y a b hx hy ha hb)
  clear hx hy
  go_enter Try.func7, Try.ntmps7
  go_wp2_with fail
  refine (unhide H).mono ?_
  rintro e w1 ⟨v, out, rfl, hO, hP, hb1⟩
  clear H
  go_wp2
  go_ret2
  exact ⟨v, out, rfl, hO, hP, hb1⟩
set_option maxRecDepth 100000 in
theorem rpoint_any (w : World) (x y : Value) (a b : List Int) (hx : IntsAt w x a) (hy : IntsAt w y b) (ha : Poly a) (hb : Poly b) : Gives w 14 #[x, y] (IsPoint a b) := by
  have H := hide (each32_any w x y a b hx hy ha hb)
  clear hx hy
  go_enter Try.func14, Try.ntmps14
  go_wp2_with fail
  refine (unhide H).mono ?_
  rintro e w1 ⟨v, out, rfl, hO, hP, hb1⟩
  clear H
  go_wp2
  go_ret2
  exact ⟨v, out, rfl, hO, hP, hb1⟩
end Go.Proofs.Ytfjolaekenmefab
