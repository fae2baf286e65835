/-
  The walks of the reference's sum and difference.
-/
import Derived.Test.YtfjolaekenmefabRefV
import Derived.BigRegion
import Derived.Deep.RegionWith
namespace Go.Proofs.Ytfjolaekenmefab
open Go.RowKit
theorem IntsAt.polyCell {w : World} {x : Value} {l : List Int} (h : IntsAt w x l) (hp : Poly l) : ∃ b o c, x = .slice (some ⟨b, o, none⟩) 256 c ∧ 256 ≤ c ∧ b < w.heap.size ∧ ∀ j, j < 256 → w.cell? ⟨b, o + j, none⟩ = some (.int .i64 (coef l j)) := by
  obtain ⟨b, o, c, h1, h2, h3⟩ := h.cell (by intro e; have := hp.1; rw [e] at this; simp at this)
  rw [hp.1] at h1 h2 h3
  exact ⟨b, o, c, h1, h2, World.block_lt_of_cell? w _ (h3 0 (by omega)), h3⟩
/-- What stands in out meanwhile: place by place as f says, ahead of k. -/
structure Meanwhile (w : World) (B k : Nat) (f : Nat → Int) (out : List Int) (wr : World) : Prop where
  o : OutAt wr B out
  p : Poly out
  e : ∀ t, t < k → Eqv (coef out t) (f t)
  b : Below w.heap.size w wr
theorem Meanwhile.step {w : World} {B k : Nat} {f : Nat → Int} {out : List Int} {wr : World} (h : Meanwhile w B k f out wr) (hk : k < 256) (hB : w.heap.size ≤ B) (v : Int) (h0 : 0 ≤ v) (h1 : v < 8380417) (hv : Eqv v (f k)) : Meanwhile w B (k + 1) f (out.set k v) (wr.setCell ⟨B, k, none⟩ (.int .i64 v)) :=
  ⟨h.o.set k v, poly_set h.p k v h0 h1, fun t ht => by
    rw [coef_set out k v (by rw [h.p.1]; exact hk)]
    split
    · rename_i e; rw [e]; exact hv
    · exact h.e t (by omega), h.b.setCell (p := ⟨B, k, none⟩) hB _⟩
theorem Meanwhile.drew {w : World} {B k : Nat} {f : Nat → Int} {out : List Int} {wr : World} (h : Meanwhile w B k f out wr) : Meanwhile w B k f out wr.drew := ⟨h.o, h.p, h.e, h.b.drew⟩
set_option maxRecDepth 100000 in
set_option maxHeartbeats 1000000 in
theorem refAdd_any (w : World) (x y : Value) (a b : List Int) (hx : IntsAt w x a) (hy : IntsAt w y b) (ha : Poly a) (hb : Poly b) :
    Calls Try.prog 10 #[x, y] w fun e w' => ∃ v out, e = .returned v ∧ OwnI w' w.heap.size v out ∧ IsAdd a b out ∧ Below w.heap.size w w' := by
  obtain ⟨b1, o1, c1, rfl, hc1, hl1, h1⟩ := hx.polyCell ha
  obtain ⟨b2, o2, c2, rfl, hc2, hl2, h2⟩ := hy.polyCell hb
  obtain ⟨W, hmk, hO, hbel⟩ := made256 w
  have HM : Hid (Meanwhile w w.heap.size 0 (fun t => coef a t + coef b t) zeros W) := ⟨hO, poly_zeros, fun t ht => by omega, hbel⟩
  have H1 := hide h1
  have H2 := hide h2
  have Ha := hide ha
  have Hb := hide hb
  clear hx hy h1 h2 hO hbel ha hb
  go_enter Try.func10, Try.ntmps10
  go_wp2
  clear hmk
  generalize hB : w.heap.size = B at HM ⊢
  go_loopw [6] (fun i wr => ∃ (k : Nat) (out : List Int), k ≤ 256 ∧ i = .int .i64 (k : Int) ∧ Meanwhile w B k (fun t => coef a t + coef b t) out wr) (fun i _ => 256 - (intOf i).toNat)
  case atStart => exact ⟨0, zeros, by omega, rfl, unhide HM⟩
  case round =>
    obtain ⟨k, out, hk, rfl, hM⟩ := hrel
    clear HM
    by_cases hlt : k < 256
    · have e1 : wr.cell? ⟨b1, o1 + k, none⟩ = some (.int .i64 (coef a k)) := by rw [hM.b.cell hl1]; exact unhide H1 k hlt
      have e2 : wr.cell? ⟨b2, o2 + k, none⟩ = some (.int .i64 (coef b k)) := by rw [hM.b.cell hl2]; exact unhide H2 k hlt
      have f3 := hM.o.frozen k
      have e3 := hM.o.cell k (by rw [hM.p.1]; exact hlt)
      have ba := (unhide Ha).bound k
      have bb := (unhide Hb).bound k
      have HS := hide (hM.step hlt (Nat.le_of_eq hB) ((coef a k + coef b k) % 8380417) (by omega) (by omega) (eqv_emod _))
      generalize coef out k = zo at e3
      generalize coef a k = za at e1 ba HS
      generalize coef b k = zb at e2 bb HS
      obtain ⟨q1, q2⟩ := ba
      obtain ⟨q3, q4⟩ := bb
      have w1 : IntKind.i64.wrap (za + zb) = za + zb := IntWalk.i64_in _ (by omega)
      have w2 : (za + zb).tmod 8380417 = (za + zb) % 8380417 := Int.tmod_eq_emod_of_nonneg (by omega)
      have k0 : (0 : Int) ≤ (k : Int) := by omega
      have k1 : (k : Int) < 256 := by omega
      clear hM
      go_wp2
      go_region
      go_wp2
      go_roundw
      case rel =>
        first
          | exact ⟨k + 1, _, by omega, by go_num, (unhide HS).drew⟩
          | ((repeat apply Exists.intro); exact ⟨⟨k + 1, _, by omega, by go_num, (unhide HS).drew⟩, rfl⟩)
      case measure => simp [intOf]; omega
    · obtain rfl : k = 256 := by omega
      have HO := hide (hM.o.own (Nat.le_refl B) 256 hM.p.1 (by omega))
      have HA : Hid (IsAdd a b out) := ⟨hM.p, hM.e⟩
      have HB := hide hM.b
      clear hM
      go_wp2
      go_ret
      exact ⟨.slice (some ⟨B, 0, none⟩) 256 256, out, rfl, by rw [hB]; exact unhide HO, unhide HA, unhide HB⟩
end Go.Proofs.Ytfjolaekenmefab
