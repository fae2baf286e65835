/-
  The walks of the landed code: rising, marked.
-/
import Derived.Test.YthciafobknaipaaRefUnH
import Derived.Test.YthciafobknaipaaCodeD
namespace Go.Proofs.Ythciafobknaipaa
open Go.RowKit
/-- Each above the one ahead of it. -/
def Rising (p : List Nat) : Prop := ∀ t, 1 ≤ t → t < p.length → p.getD (t - 1) 0 < p.getD t 0
set_option maxRecDepth 100000 in
set_option maxHeartbeats 2000000 in
theorem rising_any (w : World) (y : Value) (p : List Nat) (hy : ValsAt w y (bvals p)) (hl : p.length ≤ 1000) :
    Calls Try.prog 38 #[y] w fun e w' => ((Rising p ∧ e = .returned (.bool true)) ∨ (¬ Rising p ∧ e = .returned (.bool false))) ∧ Below w.heap.size w w' := by
  obtain ⟨sp, c, rfl, _, _, hc⟩ := bytes_open hy
  have Hc := hide hc
  clear hy hc
  go_enter Try.func38, Try.ntmps38
  go_wp2
  go_loopw [3] (fun ii wr => ∃ i : Nat, 1 ≤ i ∧ i ≤ 1000 ∧ ii = .int .i64 (i : Int) ∧ Below w.heap.size w wr ∧ Hid (∀ t, 1 ≤ t → t < i → t < p.length → p.getD (t - 1) 0 < p.getD t 0)) (fun ii _ => 1001 - (intOf ii).toNat)
  case atStart => exact ⟨1, by omega, by omega, rfl, Below.refl _ _, fun t h1 h2 => by omega⟩
  case round =>
    obtain ⟨i, hi1, hi2, rfl, hB, HF⟩ := hrel
    have ib : (i : Int) ≤ 1000 := by omega
    by_cases hlt : i < p.length
    · obtain ⟨b, o, rfl, hb, hcell⟩ := unhide Hc (by intro e; rw [e] at hlt; simp at hlt)
      obtain ⟨j, hj⟩ : ∃ j, i = j + 1 := ⟨i - 1, by omega⟩
      have e1 : wr.cell? ⟨b, o + j, none⟩ = some (.int .u8 ((p.getD j 0 : Nat) : Int)) := by rw [hB.cell hb]; exact hcell j (by omega)
      have e2 : wr.cell? ⟨b, o + i, none⟩ = some (.int .u8 ((p.getD i 0 : Nat) : Int)) := by rw [hB.cell hb]; exact hcell i hlt
      have i0 : (0 : Int) ≤ (i : Int) := by omega
      have i1 : (i : Int) < (p.length : Int) := by omega
      have j0 : (0 : Int) ≤ (j : Int) := by omega
      have j1 : (j : Int) < (p.length : Int) := by omega
      have ks : (i : Int) - 1 = (j : Int) := by omega
      have Hj : Hid (i - 1 = j) := by show _ = _; omega
      have HB := hide hB
      clear hj
      by_cases hr : p.getD j 0 < p.getD i 0
      · have HF2 : Hid (∀ t, 1 ≤ t → t < i + 1 → t < p.length → p.getD (t - 1) 0 < p.getD t 0) := fun t h1 h2 h3 => by
          rcases Nat.lt_or_ge t i with h | h
          · exact unhide HF t h1 h h3
          · obtain rfl : t = i := by omega
            rw [unhide Hj]; exact hr
        generalize p.getD i 0 = q2 at e2 hr
        generalize p.getD j 0 = q1 at e1 hr
        have dr : decide ((q2 : Int) ≤ (q1 : Int)) = false := by simp; omega
        have dr' : decide (q2 ≤ q1) = false := by simp; omega
        clear hcell hB HF
        go_wp2
        go_region
        go_wp2
        go_roundw
        case rel =>
          first
            | exact ⟨i + 1, by omega, by omega, by go_num, (unhide HB).drew, HF2⟩
            | ((repeat apply Exists.intro); exact ⟨⟨i + 1, by omega, by omega, by go_num, (unhide HB).drew, HF2⟩, rfl⟩)
        case measure => simp [intOf]; omega
      · have HNO : Hid (¬ Rising p) := fun h => hr (by have := h i hi1 hlt; rw [unhide Hj] at this; exact this)
        generalize p.getD i 0 = q2 at e2 hr
        generalize p.getD j 0 = q1 at e1 hr
        have dr : decide ((q2 : Int) ≤ (q1 : Int)) = true := by simp; omega
        have dr' : decide (q2 ≤ q1) = true := by simp; omega
        clear hcell hB HF
        go_wp2
        go_region
        go_wp2
        go_ret
        exact ⟨Or.inr ⟨unhide HNO, rfl⟩, (unhide HB).drew⟩
    · have HR : Hid (Rising p) := fun t h1 h2 => unhide HF t h1 (by omega) h2
      have dl : decide ((i : Int) < (p.length : Int)) = false := by simp; omega
      have dl' : decide (i < p.length) = false := by simp; omega
      have HB := hide hB
      clear hB HF
      go_wp2
      go_ret
      exact ⟨Or.inl ⟨unhide HR, rfl⟩, unhide HB⟩
set_option maxRecDepth 100000 in
set_option maxHeartbeats 2000000 in
theorem marked_any (w : World) (y : Value) (b : List Nat) (m f d : Nat) (p : List Nat) (hy : ValsAt w y (bvals p)) (hpl : p.length = d) (hp : ∀ t, t < d → p.getD t 0 = b.getD (f + t) 0) (h8 : ∀ t, t < d → b.getD (f + t) 0 < 256) (hem : f + d ≤ m) (hl : d ≤ 1000) :
    Calls Try.prog 39 #[y] w fun e' w' => e' = .returned (.slice (some ⟨w.heap.size, 0, none⟩) 256 256) ∧ RowAt 4 w' w.heap.size [] (tvals (listB b m f (f + d))) ∧ Below w.heap.size w w' := by
  obtain ⟨sp, c, rfl, _, _, hc⟩ := bytes_open hy
  rw [hpl] at hc ⊢
  have Hc := hide hc
  have Hp := hide hp
  have H8 := hide h8
  have Hpl := hide hpl
  obtain ⟨W, hmk, hrow, hbel⟩ := made_vals Et rfl w .i64 .i64 256 256 256 rfl rfl (by omega)
  have HR : Hid (RowAt 4 W w.heap.size [] (tvals (listB b m f (f + 0)))) := by
    show RowAt _ _ _ _ _
    rw [listB_none b m f (f + 0) (by omega)]
    have e : tvals (List.replicate 256 false) = List.replicate 256 (.bool false) := by unfold tvals; rw [List.map_replicate]
    rw [e]; exact hrow
  have HB := hide hbel
  clear hy hc hp h8 hpl hrow hbel
  go_enter Try.func39, Try.ntmps39
  go_wp2
  clear hmk
  go_loopw [9] (fun ii wr => ∃ i : Nat, i ≤ d ∧ ii = .int .i64 (i : Int) ∧ Hid (RowAt 4 wr w.heap.size [] (tvals (listB b m f (f + i)))) ∧ Hid (Below w.heap.size w wr)) (fun ii _ => d - (intOf ii).toNat)
  case atStart => exact ⟨0, by omega, rfl, HR, HB⟩
  case round =>
    clear HR HB
    obtain ⟨i, hi, rfl, HR, HB⟩ := hrel
    have ib : (i : Int) ≤ 1000 := by omega
    by_cases hlt : i < d
    · obtain ⟨pb, po, rfl, hb, hcell⟩ := unhide Hc (by intro e; have := unhide Hpl; rw [e] at this; simp at this; omega)
      have e2 : wr.cell? ⟨pb, po + i, none⟩ = some (.int .u8 ((b.getD (f + i) 0 : Nat) : Int)) := by rw [(unhide HB).cell hb, ← unhide Hp i hlt]; exact hcell i hlt
      have hz := unhide H8 i hlt
      have c3 := (unhide HR).cell (b.getD (f + i) 0) (by rw [len_tvals, len_listB]; exact hz)
      have f3 := (unhide HR).frozen (b.getD (f + i) 0)
      have hr := (unhide HR).set (b.getD (f + i) 0) (by rw [len_tvals, len_listB]; exact hz) (.bool true)
      rw [tvals_set, listB_step b m f (f + i) (by omega) (by omega)] at hr
      have hb2 := (unhide HB).setCell (p := ⟨w.heap.size, b.getD (f + i) 0, none⟩) (Nat.le_refl _) (.bool true)
      have HR2 := hide hr
      have HB2 := hide hb2
      generalize (tvals (listB b m f (f + i))).getD (b.getD (f + i) 0) undef = old at c3
      generalize b.getD (f + i) 0 = z at e2 c3 f3 HR2 HB2 hz
      have i0 : (0 : Int) ≤ (i : Int) := by omega
      have i1 : (i : Int) < (d : Int) := by omega
      have z0 : (0 : Int) ≤ (z : Int) := by omega
      have z1 : (z : Int) < 256 := by omega
      clear hcell hr hb2 HR HB hb
      go_wp2
      go_roundw
      case rel =>
        first
          | exact ⟨i + 1, by omega, by go_num, HR2, HB2⟩
          | ((repeat apply Exists.intro); exact ⟨⟨i + 1, by omega, by go_num, HR2, HB2⟩, rfl⟩)
      case measure => simp [intOf]; omega
    · obtain rfl : i = d := by omega
      go_wp2
      go_ret
      exact ⟨rfl, unhide HR, unhide HB⟩
end Go.Proofs.Ythciafobknaipaa
