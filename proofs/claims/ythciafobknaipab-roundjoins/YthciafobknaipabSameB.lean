/-
  The walk of Same, of two slices that hold the same bytes.
-/
import Derived.Test.YthciafobknaipabOpen
namespace Go.Proofs.Ythciafobknaipab
open Go.RowKit
set_option maxRecDepth 100000 in
set_option maxHeartbeats 1000000 in
theorem bsame_eq (w : World) (x y : Value) (l : List Nat) (hx : ValsAt w x (bvals l)) (hy : ValsAt w y (bvals l)) (hl : l.length ≤ 1099511627776) :
    Calls Try.prog 8 #[x, y] w fun e w' => e = .returned (.bool true) ∧ Below w.heap.size w w' := by
  obtain ⟨sp, c, rfl, _, _, hc⟩ := bytes_open hx
  obtain ⟨sp2, c2, rfl, _, _, hc2⟩ := bytes_open hy
  have H1 := hide hc
  have H2 := hide hc2
  clear hc hc2 hx hy
  go_enter Try.func8, Try.ntmps8
  go_wp2
  go_loopw [5] (fun i wr => ∃ k : Nat, k ≤ l.length ∧ i = .int .i64 k ∧ wr.heap = w.heap ∧ Below w.heap.size w wr) (fun i _ => l.length - (intOf i).toNat)
  case atStart => exact ⟨0, by omega, rfl, rfl, Below.refl _ _⟩
  case round =>
    obtain ⟨k, hk, rfl, hh, hB⟩ := hrel
    by_cases hlt : k < l.length
    · have hne : l ≠ [] := by intro e; rw [e] at hlt; simp at hlt
      obtain ⟨b, o, rfl, _, hcell⟩ := unhide H1 hne
      obtain ⟨b2, o2, rfl, _, hcell2⟩ := unhide H2 hne
      have c1 : wr.cell? ⟨b, o + k, none⟩ = some (.int .u8 ((l.getD k 0 : Nat) : Int)) := by rw [← hcell k hlt]; unfold World.cell?; rw [hh]
      have c2' : wr.cell? ⟨b2, o2 + k, none⟩ = some (.int .u8 ((l.getD k 0 : Nat) : Int)) := by rw [← hcell2 k hlt]; unfold World.cell?; rw [hh]
      generalize ((l.getD k 0 : Nat) : Int) = q at c1 c2'
      have HB := hide hB
      have Hh := hide hh
      clear hB hh hcell hcell2
      have k0 : (0 : Int) ≤ (k : Int) := by omega
      have k1 : (k : Int) < (l.length : Int) := by omega
      go_wp2
      go_region_held3 (fun w' => w'.cell? ⟨b, o + k, none⟩ = some (.int .u8 q) ∧ w'.cell? ⟨b2, o2 + k, none⟩ = some (.int .u8 q)) (go_keep) (fail)
      go_wp2
      go_roundw
      case rel =>
        first
          | exact ⟨k + 1, by omega, by go_num, unhide Hh, (unhide HB).drew⟩
          | ((repeat apply Exists.intro); exact ⟨⟨k + 1, by omega, by go_num, unhide Hh, (unhide HB).drew⟩, rfl⟩)
      case measure => simp [intOf]; omega
    · go_wp2
      go_ret
      exact ⟨rfl, hB⟩
end Go.Proofs.Ythciafobknaipab
