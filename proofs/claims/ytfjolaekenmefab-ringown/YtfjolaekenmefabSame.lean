/-
  The walk of Same, of two slices that hold the same numbers.
-/
import Derived.Test.YtfjolaekenmefabInts
import Derived.Deep.RegionHeld3
namespace Go.Proofs.Ytfjolaekenmefab
open Go.RowKit
set_option maxRecDepth 100000 in
set_option maxHeartbeats 1000000 in
theorem same_eq (w : World) (x y : Value) (l : List Int) (hx : IntsAt w x l) (hy : IntsAt w y l) (hl : l.length ≤ 1099511627776) :
    Calls Try.prog 9 #[x, y] w fun e w' => e = .returned (.bool true) ∧ Below w.heap.size w w' := by
  by_cases he : l = []
  · subst he
    obtain ⟨sp, c, rfl, _⟩ := hx
    obtain ⟨sp2, c2, rfl, _⟩ := hy
    go_enter Try.func9, Try.ntmps9
    go_wp2
    go_loopw [5] (fun i wr => i = .int .i64 0 ∧ wr = w) (fun _ _ => 0)
    case atStart => exact ⟨rfl, rfl⟩
    case round =>
      obtain ⟨rfl, rfl⟩ := hrel
      go_wp2
      go_ret
      exact ⟨rfl, Below.refl _ _⟩
  · obtain ⟨b, o, c, rfl, hc, hcell⟩ := hx.cell he
    obtain ⟨b2, o2, c2, rfl, hc2, hcell2⟩ := hy.cell he
    have H1 := hide hcell
    have H2 := hide hcell2
    clear hcell hcell2 hx hy
    go_enter Try.func9, Try.ntmps9
    go_wp2
    go_loopw [5] (fun i wr => ∃ k : Nat, k ≤ l.length ∧ i = .int .i64 k ∧ wr.heap = w.heap ∧ Below w.heap.size w wr) (fun i _ => l.length - (intOf i).toNat)
    case atStart => exact ⟨0, by omega, rfl, rfl, Below.refl _ _⟩
    case round =>
      obtain ⟨k, hk, rfl, hh, hB⟩ := hrel
      by_cases hlt : k < l.length
      · have c1 : wr.cell? ⟨b, o + k, none⟩ = some (.int .i64 (l.getD k 0)) := by rw [← unhide H1 k hlt]; unfold World.cell?; rw [hh]
        have c2' : wr.cell? ⟨b2, o2 + k, none⟩ = some (.int .i64 (l.getD k 0)) := by rw [← unhide H2 k hlt]; unfold World.cell?; rw [hh]
        generalize l.getD k 0 = q at c1 c2'
        have HB := hide hB
        have Hh := hide hh
        clear hB hh
        have k0 : (0 : Int) ≤ (k : Int) := by omega
        have k1 : (k : Int) < (l.length : Int) := by omega
        go_wp2
        go_region_held3 (fun w' => w'.cell? ⟨b, o + k, none⟩ = some (.int .i64 q) ∧ w'.cell? ⟨b2, o2 + k, none⟩ = some (.int .i64 q)) (go_keep) (fail)
        go_wp2
        go_roundw
        case rel =>
          first
            | exact ⟨k + 1, by omega, by go_num, unhide Hh, (unhide HB).drew⟩
            | ((repeat apply Exists.intro); exact ⟨⟨k + 1, by omega, by go_num, unhide Hh, (unhide HB).drew⟩, rfl⟩)
        case measure => simp [intOf]; omega
      · go_wp2
        go_ret
        exact ⟨rfl, hB⟩
end Go.Proofs.Ytfjolaekenmefab
