/-
  The walks of Same (of two slices that hold the same bytes) and of the anchor: the two sums that the document tells, reckoned by the kernel.
-/
import Derived.Test.YtodcpcdhkghgnaaDoorSum
import Derived.Lib.SlBytesConst
namespace Go.Proofs.YtodcpcdhkghgnaaDoor
open Go.RowKit
set_option maxRecDepth 100000 in
theorem sha_nil : (shaOf []).getD 0 0 = 227 ∧ (shaOf []).getD 31 0 = 85 ∧ (shaOf []).length = 32 := by decide +kernel
set_option maxRecDepth 100000 in
theorem sha_abc : (shaOf [97, 98, 99]).getD 0 0 = 186 ∧ (shaOf [97, 98, 99]).getD 31 0 = 173 ∧ (shaOf [97, 98, 99]).length = 32 := by decide +kernel
theorem BytesAt.cell {w : World} {x : Value} {l : List UInt8} (h : BytesAt w x l) (hl : l ≠ []) : ∃ b o c, x = .slice (some ⟨b, o, none⟩) l.length c ∧ l.length ≤ c ∧ ∀ j, j < l.length → w.cell? ⟨b, o + j, none⟩ = some (.int .u8 (ib (l.getD j 0))) := by
  obtain ⟨sp, c, rfl, h1, _, h3⟩ := h
  obtain ⟨b, o, rfl, hr⟩ := h3 hl
  exact ⟨b, o, c, rfl, h1, fun j hj => hr j _ (by simp [bv, List.getD_eq_getElem?_getD, hj])⟩
set_option maxRecDepth 100000 in
set_option maxHeartbeats 1000000 in
theorem same_eq (w : World) (x y : Value) (l : List UInt8) (hx : BytesAt w x l) (hy : BytesAt w y l) (hl : l.length ≤ 1099511627776) :
    Calls Tryd.prog 9 #[x, y] w fun e w' => e = .returned (.bool true) ∧ Below w.heap.size w w' := by
  by_cases he : l = []
  · subst he
    obtain ⟨sp, c, rfl, _⟩ := hx
    obtain ⟨sp2, c2, rfl, _⟩ := hy
    go_enter Tryd.func9, Tryd.ntmps9
    go_wp2
    go_loopw [5] (fun i wr => i = .int .i64 0 ∧ wr = w) (fun _ _ => 0)
    case atStart => exact ⟨rfl, rfl⟩
    case round =>
      obtain ⟨rfl, rfl⟩ := hrel
      go_wp2
      go_ret
      exact ⟨rfl, Below.refl _ _⟩
  · obtain ⟨b, o, c, rfl, hc, hcell⟩ := hx.cell he
    obtain ⟨b2, o2, c2, rfl, hc2, hcell2⟩ := hy.cell he
    have H1 := hide hcell
    have H2 := hide hcell2
    clear hcell hcell2 hx hy
    go_enter Tryd.func9, Tryd.ntmps9
    go_wp2
    go_loopw [5] (fun i wr => ∃ k : Nat, k ≤ l.length ∧ i = .int .i64 k ∧ wr.heap = w.heap ∧ Below w.heap.size w wr) (fun i _ => l.length - (intOf i).toNat)
    case atStart => exact ⟨0, by omega, rfl, rfl, Below.refl _ _⟩
    case round =>
      obtain ⟨k, hk, rfl, hh, hB⟩ := hrel
      by_cases hlt : k < l.length
      · have c1 : wr.cell? ⟨b, o + k, none⟩ = some (.int .u8 (ib (l.getD k 0))) := by rw [← unhide H1 k hlt]; unfold World.cell?; rw [hh]
        have c2' : wr.cell? ⟨b2, o2 + k, none⟩ = some (.int .u8 (ib (l.getD k 0))) := by rw [← unhide H2 k hlt]; unfold World.cell?; rw [hh]
        generalize l.getD k 0 = q at c1 c2'
        have HB := hide hB
        have Hh := hide hh
        clear hB hh
        have k0 : (0 : Int) ≤ (k : Int) := by omega
        have k1 : (k : Int) < (l.length : Int) := by omega
        go_wp2
        go_region_held3 (fun w' => w'.cell? ⟨b, o + k, none⟩ = some (.int .u8 (ib q)) ∧ w'.cell? ⟨b2, o2 + k, none⟩ = some (.int .u8 (ib q))) (go_keep) (fail)
        go_wp2
        go_roundw
        case rel =>
          first
            | exact ⟨k + 1, by omega, by go_num, unhide Hh, (unhide HB).drew⟩
            | ((repeat apply Exists.intro); exact ⟨⟨k + 1, by omega, by go_num, unhide Hh, (unhide HB).drew⟩, rfl⟩)
        case measure => simp [intOf]; omega
      · go_wp2
        go_ret
        exact ⟨rfl, hB⟩
theorem bytes_marked (w : World) (l : List UInt8) (t : TypeId) (fr : Nat × Nat) : BytesAt (w.alloc (.cells (l.map bv).toArray t fr)) (.slice (some ⟨w.heap.size, 0, none⟩) l.length l.length) l :=
  ⟨_, _, rfl, Nat.le_refl _, fun h => (by cases h), fun _ => ⟨w.heap.size, 0, rfl, fun j v hv => by
    rw [cell_of_row _ _ _ _ t fr (heap_alloc_new w _), Nat.zero_add]; simpa using hv⟩⟩
theorem bytes_nil (w : World) : BytesAt w (.slice none 0 0) [] := ⟨none, 0, rfl, Nat.le_refl _, fun _ => rfl, fun h => absurd rfl h⟩
set_option maxRecDepth 100000 in
set_option maxHeartbeats 1000000 in
theorem anchor_any (w : World) (hr : Ready w) :
    Calls Tryd.prog 8 #[] w fun e w' => e = .returned (.bool true) ∧ Below w.heap.size w w' := by
  have kc := fun (w : World) (C : Array Value) (n c : Nat) => Lib.run_convert_bytes_const (P := Tryd.prog) w 22 5 C n c Tryd.underlying22 Tryd.underlying5
  have Hr := hide hr
  clear hr
  go_enter Tryd.func8, Tryd.ntmps8
  go_wp2_with fail
  refine (sum_any w (unhide Hr) _ [] (bytes_nil w) (by simp)).mono ?_
  rintro e w1 ⟨v1, rfl, hO1, hb1⟩
  have Hr1 := hide ((unhide Hr).below hb1)
  have HO1 := hide hO1
  have Hb1 := hide hb1
  clear hO1 hb1
  go_wp2_with fail
  have hb2 : Below w1.heap.size w1 (w1.alloc (.cells (([97, 98, 99] : List UInt8).map bv).toArray 5 (3, 4))) := (Below.refl _ _).alloc (Nat.le_refl _) _
  refine (sum_any (w1.alloc (.cells (([97, 98, 99] : List UInt8).map bv).toArray 5 (3, 4))) ((unhide Hr1).below hb2) _ [97, 98, 99] (bytes_marked w1 [97, 98, 99] 5 (3, 4)) (by simp)).mono ?_
  rintro e w3 ⟨v2, rfl, hO2, hb3⟩
  have hw3 : Below w1.heap.size w1 w3 := hb2.trans (hb3.mono hb2.size)
  have x1 := ((unhide HO1).bytes.below hw3).cell (by intro e; have := sha_nil.2.2; rw [e] at this; cases this)
  have x2 := hO2.bytes.cell (by intro e; have := sha_abc.2.2; rw [e] at this; cases this)
  have HB := hide ((unhide Hb1).trans (hw3.mono (unhide Hb1).size))
  clear hO2 hb3 hw3 hb2 HO1 Hb1 Hr1
  rw [sha_nil.2.2] at x1
  rw [sha_abc.2.2] at x2
  obtain ⟨b1, o1, c1, rfl, hc1, h1⟩ := x1
  obtain ⟨b2, o2, c2, rfl, hc2, h2⟩ := x2
  have a0 : w3.cell? ⟨b1, o1, none⟩ = some (.int .u8 227) := by have := h1 0 (by omega); rw [sha_nil.1] at this; exact this
  have a1 : w3.cell? ⟨b1, o1 + 31, none⟩ = some (.int .u8 85) := by have := h1 31 (by omega); rw [sha_nil.2.1] at this; exact this
  have a2 : w3.cell? ⟨b2, o2, none⟩ = some (.int .u8 186) := by have := h2 0 (by omega); rw [sha_abc.1] at this; exact this
  have a3 : w3.cell? ⟨b2, o2 + 31, none⟩ = some (.int .u8 173) := by have := h2 31 (by omega); rw [sha_abc.2.1] at this; exact this
  clear h1 h2
  go_wp2
  go_ret
  exact ⟨rfl, unhide HB⟩
end Go.Proofs.YtodcpcdhkghgnaaDoor
