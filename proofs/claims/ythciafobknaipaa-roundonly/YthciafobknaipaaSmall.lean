/-
  What the reference's Pack and Unpack refuse.
-/
import Derived.Test.YthciafobknaipaaRefUnpack
import Derived.Test.YthciafobknaipaaSameI
import Derived.Test.YthciafobknaipaaSameB
namespace Go.Proofs.Ythciafobknaipaa
open Go.RowKit
set_option maxRecDepth 100000 in
set_option maxHeartbeats 2000000 in
theorem refPack_no (w : World) (x : Value) (l : List Int) (n : Int) (hx : ValsAt w x (ivals l)) (hl : l.length ≤ 1000) (hn : ¬ (1 ≤ n ∧ n ≤ 24 ∧ Fits n.toNat l)) :
    Refuses w 21 #[x, .int .i64 n] := by
  obtain ⟨sp, c, rfl, _, _, hc⟩ := ints_open hx
  have Hc := hide hc
  clear hx hc
  by_cases h1 : n < 1
  · clear hn
    go_enter Try.func21, Try.ntmps21
    go_wp2
    go_ret2
    exact ⟨_, rfl, vals_nil _, Below.refl _ _⟩
  · have m1 : decide (n < 1) = false := by simp; omega
    by_cases h2 : 24 < n
    · clear hn
      go_enter Try.func21, Try.ntmps21
      go_wp2
      go_ret2
      exact ⟨_, rfl, vals_nil _, Below.refl _ _⟩
    · have m2 : decide (24 < n) = false := by simp; omega
      obtain ⟨N, rfl⟩ : ∃ N : Nat, n = (N : Int) := ⟨n.toNat, by omega⟩
      have m3 : decide (24 < N) = false := by simp; omega
      have m4 : decide (N < 1) = false := by simp; omega
      have hnf : ¬ Fits N l := fun h => hn ⟨by omega, by omega, h⟩
      have Hn := hide hnf
      have hpn : (2 : Int) ^ N ≤ 16777216 := by
        have := Nat.pow_le_pow_right (show 0 < 2 by omega) (show N ≤ 24 by omega)
        rw [← pow_int]
        omega
      have hpp : (0 : Int) < 2 ^ N := by rw [← pow_int]; have := Nat.pow_pos (n := N) (show 0 < 2 by omega); omega
      have hw : IntKind.i64.wrap ((2 : Int) ^ N) = 2 ^ N := IntWalk.i64_in _ (by omega)
      clear hn hnf
      go_enter Try.func21, Try.ntmps21
      go_wp2
      go_loopw [6] (fun i wr => ∃ (k : Nat), k ≤ l.length ∧ i = .int .i64 (k : Int) ∧ Below w.heap.size w wr ∧ Hid (∀ j, j < k → 0 ≤ l.getD j 0 ∧ l.getD j 0 < 2 ^ N)) (fun i _ => l.length - (intOf i).toNat)
      case atStart => exact ⟨0, by omega, rfl, Below.refl _ _, fun j hj => by omega⟩
      case round =>
        obtain ⟨i, hi, rfl, hB, hF⟩ := hrel
        have ib : (i : Int) ≤ 1000 := by omega
        by_cases hlt : i < l.length
        · obtain ⟨b, o, rfl, hb, hcell⟩ := unhide Hc (by intro e; rw [e] at hlt; simp at hlt)
          have e2 : wr.cell? ⟨b, o + i, none⟩ = some (.int .i64 (l.getD i 0)) := by rw [hB.cell hb]; exact hcell i hlt
          have hF2 : Hid (0 ≤ l.getD i 0 → l.getD i 0 < 2 ^ N → ∀ j, j < i + 1 → 0 ≤ l.getD j 0 ∧ l.getD j 0 < 2 ^ N) := fun a c j hj => by
            rcases Nat.lt_or_ge j i with h | h
            · exact unhide hF j h
            · obtain rfl : j = i := by omega
              exact ⟨a, c⟩
          generalize l.getD i 0 = y at e2 hF2
          have i0 : (0 : Int) ≤ (i : Int) := by omega
          have i1 : (i : Int) < (l.length : Int) := by omega
          have HB := hide hB
          clear hcell hB hF
          by_cases hy0 : y < 0
          · have d0 : decide (y < 0) = true := by simp; omega
            clear hF2
            go_wp2
            go_region
            go_wp2
            go_ret2
            exact ⟨_, rfl, vals_nil _, (unhide HB).drew⟩
          · have d0 : decide (y < 0) = false := by simp; omega
            by_cases hy1 : 2 ^ N ≤ y
            · clear hF2
              go_wp2
              go_region_held3 (fun w' => w'.cell? ⟨b, o + i, none⟩ = some (.int .i64 y)) (go_keep) (fail)
              go_wp2
              go_ret2
              exact ⟨_, rfl, vals_nil _, (unhide HB).drew⟩
            · have d1 : decide ((2 : Int) ^ N ≤ y) = false := by simp; omega
              have hF3 := hide (unhide hF2 (by omega) (by omega))
              clear hF2
              go_wp2
              go_region_held3 (fun w' => w'.cell? ⟨b, o + i, none⟩ = some (.int .i64 y)) (go_keep) (fail)
              go_wp2
              go_roundw
              case rel =>
                first
                  | exact ⟨i + 1, by omega, by go_num, (unhide HB).drew, hF3⟩
                  | ((repeat apply Exists.intro); exact ⟨⟨i + 1, by omega, by go_num, (unhide HB).drew, hF3⟩, rfl⟩)
              case measure => simp [intOf]; omega
        · exfalso
          obtain rfl : i = l.length := by omega
          refine unhide Hn fun z hz => ?_
          obtain ⟨j, hj, rfl⟩ := List.getElem_of_mem hz
          have := unhide hF j hj
          rwa [List.getD_eq_getElem?_getD, List.getElem?_eq_getElem hj] at this
set_option maxRecDepth 100000 in
set_option maxHeartbeats 2000000 in
theorem refUnpack_no (w : World) (x : Value) (bs : List Nat) (n : Int) (hx : ValsAt w x (bvals bs)) (hn : ¬ (1 ≤ n ∧ n ≤ 24)) : Refuses w 25 #[x, .int .i64 n] := by
  obtain ⟨sp, c, rfl, _⟩ := bytes_open hx
  clear hx
  by_cases h1 : n < 1
  · clear hn
    go_enter Try.func25, Try.ntmps25
    go_wp2
    go_ret2
    exact ⟨_, rfl, vals_nil _, Below.refl _ _⟩
  · have m1 : decide (n < 1) = false := by simp; omega
    have h2 : 24 < n := by omega
    clear hn
    go_enter Try.func25, Try.ntmps25
    go_wp2
    go_ret2
    exact ⟨_, rfl, vals_nil _, Below.refl _ _⟩
end Go.Proofs.Ythciafobknaipaa
