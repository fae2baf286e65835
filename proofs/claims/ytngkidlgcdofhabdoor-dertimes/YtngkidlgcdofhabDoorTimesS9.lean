/-
  The walk of the statement DerTimes: short times.
-/
import Derived.Test.YtngkidlgcdofhabDoorTpre9
namespace Go.Proofs.YtngkidlgcdofhabDoor
open Go.RowKit
set_option maxRecDepth 100000 in
set_option maxHeartbeats 100000000 in
theorem times_short {R : World → Prop} (C : Der R) (w0 : World) (hR : R w0) (l0 l1 l2 l3 l4 l5 : Int) :
    Calls Tryd.prog 4 #[.agg #[.int .i64 l0, .int .i64 l1, .int .i64 l2, .int .i64 l3, .int .i64 l4, .int .i64 l5], .bool true] w0 fun e w' => e = .returned (.bool true) ∧ Below w0.heap.size w0 w' := by
  obtain ⟨f, hf0, hf1, hf2, hf3, hf4, hf5⟩ : ∃ f : Nat → Nat, f 0 = l0.toNat ∧ f 1 = l1.toNat ∧ f 2 = l2.toNat ∧ f 3 = l3.toNat ∧ f 4 = l4.toNat ∧ f 5 = l5.toNat := ⟨fun j => ([l0, l1, l2, l3, l4, l5].getD j 0).toNat, rfl, rfl, rfl, rfl, rfl, rfl⟩
  have H0 : Hid (0 ≤ l0 → l0 = (f 0 : Int)) := fun h => by omega
  have H1 : Hid (0 ≤ l1 → l1 = (f 1 : Int)) := fun h => by omega
  have H2 : Hid (0 ≤ l2 → l2 = (f 2 : Int)) := fun h => by omega
  have H3 : Hid (0 ≤ l3 → l3 = (f 3 : Int)) := fun h => by omega
  have H4 : Hid (0 ≤ l4 → l4 = (f 4 : Int)) := fun h => by omega
  have H5 : Hid (0 ≤ l5 → l5 = (f 5 : Int)) := fun h => by omega
  obtain ⟨w1, hw1⟩ : ∃ w1, w0.alloc (.cells #[.int .i64 l0, .int .i64 l1, .int .i64 l2, .int .i64 l3, .int .i64 l4, .int .i64 l5] 33) = w1 := ⟨_, rfl⟩
  have hb1 : Below w0.heap.size w0 w1 := by rw [← hw1]; exact (Below.refl _ _).alloc (Nat.le_refl _) _
  have hc1 : CellsAt w1 w0.heap.size 0 [.int .i64 l0, .int .i64 l1, .int .i64 l2, .int .i64 l3, .int .i64 l4, .int .i64 l5] := by rw [← hw1]; exact cells_new w0 _ 33
  have HC := hide C
  have HR : Hid (∀ w, Below w0.heap.size w0 w → R w) := fun w hb => C.below _ _ hR hb
  have Hb1 := hide hb1
  have Hanc := hide (anchor_any C w1 (unhide HR w1 hb1))
  obtain ⟨A, hA⟩ : ∃ A, w0.heap.size = A := ⟨_, rfl⟩
  rw [hA] at hc1
  have HK : Hid (∀ w, Below w1.heap.size w1 w → w.cell? ⟨A, 0, none⟩ = some (.int .i64 l0) ∧ w.cell? ⟨A, 1, none⟩ = some (.int .i64 l1) ∧ w.cell? ⟨A, 2, none⟩ = some (.int .i64 l2) ∧ w.cell? ⟨A, 3, none⟩ = some (.int .i64 l3) ∧ w.cell? ⟨A, 4, none⟩ = some (.int .i64 l4) ∧ w.cell? ⟨A, 5, none⟩ = some (.int .i64 l5)) := fun w hb => ⟨(hc1.below hb) 0 _ rfl, (hc1.below hb) 1 _ rfl, (hc1.below hb) 2 _ rfl, (hc1.below hb) 3 _ rfl, (hc1.below hb) 4 _ rfl, (hc1.below hb) 5 _ rfl⟩
  clear C hR hb1 hf0 hf1 hf2 hf3 hf4 hf5 hc1
  go_enter Tryd.func4, Tryd.ntmps4
  go_wp2_with fail
  refine (unhide Hanc).mono ?_
  rintro e w2 ⟨rfl, hb2⟩
  have Hb12 := hide hb2
  have Hb2 := hide ((unhide Hb1).trans (hb2.mono (unhide Hb1).size))
  obtain ⟨a0, a1, a2, a3, a4, a5⟩ := unhide HK w2 hb2
  have HW0 : Hid (Row w2 w2 (.slice none 0 0) (tb true f 0)) := ⟨ownb_nil _ _, Below.refl _ _⟩
  clear hb2 Hanc hw1 hA
  go_wp2
  clear a0 a1 a2 a3 a4 a5
  go_loopw [5, 18] (fun vv ii wr => ∃ (i N : Nat) (s : Option Addr) (cp : Nat), i ≤ 6 ∧ ii = .int .i64 (i : Int) ∧ vv = .slice s N cp ∧ Hid ((0 < i → 0 ≤ l0 ∧ l0 ≤ 99) ∧ (1 < i → 0 ≤ l1 ∧ l1 ≤ 99) ∧ (2 < i → 0 ≤ l2 ∧ l2 ≤ 99) ∧ (3 < i → 0 ≤ l3 ∧ l3 ≤ 99) ∧ (4 < i → 0 ≤ l4 ∧ l4 ≤ 99) ∧ (5 < i → 0 ≤ l5 ∧ l5 ≤ 99)) ∧ Hid (Row w2 wr (.slice s N cp) (tb true f i))) (fun _ ii _ => 6 - (intOf ii).toNat)
  case atStart => exact ⟨0, 0, none, 0, by omega, rfl, rfl, ⟨by omega, by omega, by omega, by omega, by omega, by omega⟩, HW0⟩
  case round =>
    obtain ⟨i, N, s, cp, hi, rfl, rfl, HG, HRo⟩ := hrel
    clear HW0
    have Hll : Hid ((tb true f i).length ≤ 24) := by show _ ≤ _; have := tb_len_le true f i; omega
    rcases (by omega : i = 0 ∨ i = 1 ∨ i = 2 ∨ i = 3 ∨ i = 4 ∨ i = 5 ∨ i = 6) with rfl | rfl | rfl | rfl | rfl | rfl | rfl
    · have Hb3 := hide ((unhide Hb2).trans ((unhide HRo).b.mono (unhide Hb2).size))
      have hix := fun w => (index_six l0 l1 l2 l3 l4 l5 w).1
      by_cases n0 : l0 < 0
      · have f0 : decide (l0 < 0) = true := by simp; omega
        clear HRo HG
        go_wp2
        go_ret
        exact ⟨rfl, unhide Hb3⟩
      have f0 : decide (l0 < 0) = false := by simp; omega
      by_cases n1 : 99 < l0
      · have f1 : decide (99 < l0) = true := by simp; omega
        clear HRo HG
        go_wp2
        go_ret
        exact ⟨rfl, unhide Hb3⟩
      have f1 : decide (99 < l0) = false := by simp; omega
      have hl := unhide H0 (by omega)
      have HG2 : Hid (0 ≤ l0 ∧ l0 ≤ 99) := ⟨by omega, by omega⟩
      obtain ⟨m, hm⟩ : ∃ m, f 0 = m := ⟨_, rfl⟩
      have Hstep : Hid (tb true f 1 = tb true f 0 ++ piece true 0 m) := by show _ = _; rw [← hm]; rfl
      have Hlm := hide hl
      rw [hm] at Hlm
      have hm2 : m ≤ 99 := by have := unhide Hlm; omega
      obtain ⟨x10, hx10⟩ : ∃ x, m / 10 = x := ⟨_, rfl⟩
      obtain ⟨y, hy⟩ : ∃ y, x10 % 10 = y := ⟨_, rfl⟩
      obtain ⟨z, hz⟩ : ∃ z, m % 10 = z := ⟨_, rfl⟩
      have i10 : l0 / 10 = (x10 : Int) := by have := unhide Hlm; omega
      have iy : (x10 : Int) % 10 = (y : Int) := by omega
      have iz : l0 % 10 = (z : Int) := by have := unhide Hlm; omega
      have xb : (x10 : Int) ≤ 9999 := by omega
      obtain ⟨Dy, hDy⟩ : ∃ Dy : Nat, 48 + y = Dy := ⟨_, rfl⟩
      have wy : IntKind.u8.wrap (48 + (y : Int)) = (Dy : Int) := by rw [← hDy]; exact dig_wrap (by omega)
      have vy : ((dig y).toNat : Int) = (Dy : Int) := by rw [← hDy]; exact dig_int (by omega)
      have bby : (y : Int) ≤ 9 := by omega
      obtain ⟨Dz, hDz⟩ : ∃ Dz : Nat, 48 + z = Dz := ⟨_, rfl⟩
      have wz : IntKind.u8.wrap (48 + (z : Int)) = (Dz : Int) := by rw [← hDz]; exact dig_wrap (by omega)
      have vz : ((dig z).toNat : Int) = (Dz : Int) := by rw [← hDz]; exact dig_int (by omega)
      have bbz : (z : Int) ≤ 9 := by omega
      have Hp : Hid (piece true 0 m = [dig y, dig z]) := by show _ = _; rw [← hy, ← hz, ← hx10]; rfl
      have HY1 : Hid (BytesAt (wr.alloc (.cells #[.int .u8 (Dy : Int), .int .u8 (Dz : Int)] 5)) (.slice (some ⟨wr.heap.size, 0, none⟩) 2 2) [dig y, dig z]) := by
        have := bytes_new wr [dig y, dig z]
        simp only [List.map_cons, List.map_nil, bv, vy, vz] at this
        exact this
      have HRo2 := hide ((unhide HRo).lit (.cells #[.int .u8 (Dy : Int), .int .u8 (Dz : Int)] 5))
      have Hl1 : Hid ((tb true f 0).length + [dig y, dig z].length ≤ 1073741824) := by show _ ≤ _; have := unhide Hll; simp; omega
      clear hl n0 n1 hm hx10 hy hz vy vz hDy hDz HRo
      go_wp2_with (first
        | (at_builtin; refine wpList_append_row rfl _ _ rfl (.slice s N cp) (.slice (some ⟨wr.heap.size, 0, none⟩) 2 2) (tb true f 0) [dig y, dig z] rfl (unhide HRo2) rfl (unhide HY1) (unhide Hl1) ?_
           intro v5 w5 hR5
           rw [← unhide Hp, ← unhide Hstep] at hR5
           obtain ⟨s5, c5, rfl⟩ := hR5.own.form
           obtain ⟨N5, hN5⟩ : ∃ N5, (tb true f 1).length = N5 := ⟨_, rfl⟩
           rw [hN5] at hR5
           rw [hN5]
           have HR5 := hide hR5
           clear hR5 hN5))
      have HG3 : Hid ((0 < 1 → 0 ≤ l0 ∧ l0 ≤ 99) ∧ (1 < 1 → 0 ≤ l1 ∧ l1 ≤ 99) ∧ (2 < 1 → 0 ≤ l2 ∧ l2 ≤ 99) ∧ (3 < 1 → 0 ≤ l3 ∧ l3 ≤ 99) ∧ (4 < 1 → 0 ≤ l4 ∧ l4 ≤ 99) ∧ (5 < 1 → 0 ≤ l5 ∧ l5 ≤ 99)) := ⟨fun _ => unhide HG2, fun h => by omega, fun h => by omega, fun h => by omega, fun h => by omega, fun h => by omega⟩
      go_roundw
      case rel =>
        first
          | exact ⟨1, N5, s5, c5, by omega, by go_num, rfl, HG3, HR5⟩
          | ((repeat apply Exists.intro); exact ⟨⟨1, N5, s5, c5, by omega, by go_num, rfl, HG3, HR5⟩, rfl⟩)
      case measure => simp [intOf]
    · have Hb3 := hide ((unhide Hb2).trans ((unhide HRo).b.mono (unhide Hb2).size))
      have hix := fun w => (index_six l0 l1 l2 l3 l4 l5 w).2.1
      by_cases n0 : l1 < 0
      · have f0 : decide (l1 < 0) = true := by simp; omega
        clear HRo HG
        go_wp2
        go_ret
        exact ⟨rfl, unhide Hb3⟩
      have f0 : decide (l1 < 0) = false := by simp; omega
      by_cases n1 : 99 < l1
      · have f1 : decide (99 < l1) = true := by simp; omega
        clear HRo HG
        go_wp2
        go_ret
        exact ⟨rfl, unhide Hb3⟩
      have f1 : decide (99 < l1) = false := by simp; omega
      have hl := unhide H1 (by omega)
      have HG2 : Hid (0 ≤ l1 ∧ l1 ≤ 99) := ⟨by omega, by omega⟩
      obtain ⟨m, hm⟩ : ∃ m, f 1 = m := ⟨_, rfl⟩
      have Hstep : Hid (tb true f 2 = tb true f 1 ++ piece true 1 m) := by show _ = _; rw [← hm]; rfl
      have Hlm := hide hl
      rw [hm] at Hlm
      have hm2 : m ≤ 99 := by have := unhide Hlm; omega
      obtain ⟨x10, hx10⟩ : ∃ x, m / 10 = x := ⟨_, rfl⟩
      obtain ⟨y, hy⟩ : ∃ y, x10 % 10 = y := ⟨_, rfl⟩
      obtain ⟨z, hz⟩ : ∃ z, m % 10 = z := ⟨_, rfl⟩
      have i10 : l1 / 10 = (x10 : Int) := by have := unhide Hlm; omega
      have iy : (x10 : Int) % 10 = (y : Int) := by omega
      have iz : l1 % 10 = (z : Int) := by have := unhide Hlm; omega
      have xb : (x10 : Int) ≤ 9999 := by omega
      obtain ⟨Dy, hDy⟩ : ∃ Dy : Nat, 48 + y = Dy := ⟨_, rfl⟩
      have wy : IntKind.u8.wrap (48 + (y : Int)) = (Dy : Int) := by rw [← hDy]; exact dig_wrap (by omega)
      have vy : ((dig y).toNat : Int) = (Dy : Int) := by rw [← hDy]; exact dig_int (by omega)
      have bby : (y : Int) ≤ 9 := by omega
      obtain ⟨Dz, hDz⟩ : ∃ Dz : Nat, 48 + z = Dz := ⟨_, rfl⟩
      have wz : IntKind.u8.wrap (48 + (z : Int)) = (Dz : Int) := by rw [← hDz]; exact dig_wrap (by omega)
      have vz : ((dig z).toNat : Int) = (Dz : Int) := by rw [← hDz]; exact dig_int (by omega)
      have bbz : (z : Int) ≤ 9 := by omega
      have Hp : Hid (piece true 1 m = [dig y, dig z]) := by show _ = _; rw [← hy, ← hz, ← hx10]; rfl
      have HY1 : Hid (BytesAt (wr.alloc (.cells #[.int .u8 (Dy : Int), .int .u8 (Dz : Int)] 5)) (.slice (some ⟨wr.heap.size, 0, none⟩) 2 2) [dig y, dig z]) := by
        have := bytes_new wr [dig y, dig z]
        simp only [List.map_cons, List.map_nil, bv, vy, vz] at this
        exact this
      have HRo2 := hide ((unhide HRo).lit (.cells #[.int .u8 (Dy : Int), .int .u8 (Dz : Int)] 5))
      have Hl1 : Hid ((tb true f 1).length + [dig y, dig z].length ≤ 1073741824) := by show _ ≤ _; have := unhide Hll; simp; omega
      clear hl n0 n1 hm hx10 hy hz vy vz hDy hDz HRo
      go_wp2_with (first
        | (at_builtin; refine wpList_append_row rfl _ _ rfl (.slice s N cp) (.slice (some ⟨wr.heap.size, 0, none⟩) 2 2) (tb true f 1) [dig y, dig z] rfl (unhide HRo2) rfl (unhide HY1) (unhide Hl1) ?_
           intro v5 w5 hR5
           rw [← unhide Hp, ← unhide Hstep] at hR5
           obtain ⟨s5, c5, rfl⟩ := hR5.own.form
           obtain ⟨N5, hN5⟩ : ∃ N5, (tb true f 2).length = N5 := ⟨_, rfl⟩
           rw [hN5] at hR5
           rw [hN5]
           have HR5 := hide hR5
           clear hR5 hN5))
      have HG3 : Hid ((0 < 2 → 0 ≤ l0 ∧ l0 ≤ 99) ∧ (1 < 2 → 0 ≤ l1 ∧ l1 ≤ 99) ∧ (2 < 2 → 0 ≤ l2 ∧ l2 ≤ 99) ∧ (3 < 2 → 0 ≤ l3 ∧ l3 ≤ 99) ∧ (4 < 2 → 0 ≤ l4 ∧ l4 ≤ 99) ∧ (5 < 2 → 0 ≤ l5 ∧ l5 ≤ 99)) := ⟨fun _ => (unhide HG).1 (by omega), fun _ => unhide HG2, fun h => by omega, fun h => by omega, fun h => by omega, fun h => by omega⟩
      go_roundw
      case rel =>
        first
          | exact ⟨2, N5, s5, c5, by omega, by go_num, rfl, HG3, HR5⟩
          | ((repeat apply Exists.intro); exact ⟨⟨2, N5, s5, c5, by omega, by go_num, rfl, HG3, HR5⟩, rfl⟩)
      case measure => simp [intOf]
    · have Hb3 := hide ((unhide Hb2).trans ((unhide HRo).b.mono (unhide Hb2).size))
      have hix := fun w => (index_six l0 l1 l2 l3 l4 l5 w).2.2.1
      by_cases n0 : l2 < 0
      · have f0 : decide (l2 < 0) = true := by simp; omega
        clear HRo HG
        go_wp2
        go_ret
        exact ⟨rfl, unhide Hb3⟩
      have f0 : decide (l2 < 0) = false := by simp; omega
      by_cases n1 : 99 < l2
      · have f1 : decide (99 < l2) = true := by simp; omega
        clear HRo HG
        go_wp2
        go_ret
        exact ⟨rfl, unhide Hb3⟩
      have f1 : decide (99 < l2) = false := by simp; omega
      have hl := unhide H2 (by omega)
      have HG2 : Hid (0 ≤ l2 ∧ l2 ≤ 99) := ⟨by omega, by omega⟩
      obtain ⟨m, hm⟩ : ∃ m, f 2 = m := ⟨_, rfl⟩
      have Hstep : Hid (tb true f 3 = tb true f 2 ++ piece true 2 m) := by show _ = _; rw [← hm]; rfl
      have Hlm := hide hl
      rw [hm] at Hlm
      have hm2 : m ≤ 99 := by have := unhide Hlm; omega
      obtain ⟨x10, hx10⟩ : ∃ x, m / 10 = x := ⟨_, rfl⟩
      obtain ⟨y, hy⟩ : ∃ y, x10 % 10 = y := ⟨_, rfl⟩
      obtain ⟨z, hz⟩ : ∃ z, m % 10 = z := ⟨_, rfl⟩
      have i10 : l2 / 10 = (x10 : Int) := by have := unhide Hlm; omega
      have iy : (x10 : Int) % 10 = (y : Int) := by omega
      have iz : l2 % 10 = (z : Int) := by have := unhide Hlm; omega
      have xb : (x10 : Int) ≤ 9999 := by omega
      obtain ⟨Dy, hDy⟩ : ∃ Dy : Nat, 48 + y = Dy := ⟨_, rfl⟩
      have wy : IntKind.u8.wrap (48 + (y : Int)) = (Dy : Int) := by rw [← hDy]; exact dig_wrap (by omega)
      have vy : ((dig y).toNat : Int) = (Dy : Int) := by rw [← hDy]; exact dig_int (by omega)
      have bby : (y : Int) ≤ 9 := by omega
      obtain ⟨Dz, hDz⟩ : ∃ Dz : Nat, 48 + z = Dz := ⟨_, rfl⟩
      have wz : IntKind.u8.wrap (48 + (z : Int)) = (Dz : Int) := by rw [← hDz]; exact dig_wrap (by omega)
      have vz : ((dig z).toNat : Int) = (Dz : Int) := by rw [← hDz]; exact dig_int (by omega)
      have bbz : (z : Int) ≤ 9 := by omega
      have Hp : Hid (piece true 2 m = [dig y, dig z]) := by show _ = _; rw [← hy, ← hz, ← hx10]; rfl
      have HY1 : Hid (BytesAt (wr.alloc (.cells #[.int .u8 (Dy : Int), .int .u8 (Dz : Int)] 5)) (.slice (some ⟨wr.heap.size, 0, none⟩) 2 2) [dig y, dig z]) := by
        have := bytes_new wr [dig y, dig z]
        simp only [List.map_cons, List.map_nil, bv, vy, vz] at this
        exact this
      have HRo2 := hide ((unhide HRo).lit (.cells #[.int .u8 (Dy : Int), .int .u8 (Dz : Int)] 5))
      have Hl1 : Hid ((tb true f 2).length + [dig y, dig z].length ≤ 1073741824) := by show _ ≤ _; have := unhide Hll; simp; omega
      clear hl n0 n1 hm hx10 hy hz vy vz hDy hDz HRo
      go_wp2_with (first
        | (at_builtin; refine wpList_append_row rfl _ _ rfl (.slice s N cp) (.slice (some ⟨wr.heap.size, 0, none⟩) 2 2) (tb true f 2) [dig y, dig z] rfl (unhide HRo2) rfl (unhide HY1) (unhide Hl1) ?_
           intro v5 w5 hR5
           rw [← unhide Hp, ← unhide Hstep] at hR5
           obtain ⟨s5, c5, rfl⟩ := hR5.own.form
           obtain ⟨N5, hN5⟩ : ∃ N5, (tb true f 3).length = N5 := ⟨_, rfl⟩
           rw [hN5] at hR5
           rw [hN5]
           have HR5 := hide hR5
           clear hR5 hN5))
      have HG3 : Hid ((0 < 3 → 0 ≤ l0 ∧ l0 ≤ 99) ∧ (1 < 3 → 0 ≤ l1 ∧ l1 ≤ 99) ∧ (2 < 3 → 0 ≤ l2 ∧ l2 ≤ 99) ∧ (3 < 3 → 0 ≤ l3 ∧ l3 ≤ 99) ∧ (4 < 3 → 0 ≤ l4 ∧ l4 ≤ 99) ∧ (5 < 3 → 0 ≤ l5 ∧ l5 ≤ 99)) := ⟨fun _ => (unhide HG).1 (by omega), fun _ => (unhide HG).2.1 (by omega), fun _ => unhide HG2, fun h => by omega, fun h => by omega, fun h => by omega⟩
      go_roundw
      case rel =>
        first
          | exact ⟨3, N5, s5, c5, by omega, by go_num, rfl, HG3, HR5⟩
          | ((repeat apply Exists.intro); exact ⟨⟨3, N5, s5, c5, by omega, by go_num, rfl, HG3, HR5⟩, rfl⟩)
      case measure => simp [intOf]
    · have Hb3 := hide ((unhide Hb2).trans ((unhide HRo).b.mono (unhide Hb2).size))
      have hix := fun w => (index_six l0 l1 l2 l3 l4 l5 w).2.2.2.1
      by_cases n0 : l3 < 0
      · have f0 : decide (l3 < 0) = true := by simp; omega
        clear HRo HG
        go_wp2
        go_ret
        exact ⟨rfl, unhide Hb3⟩
      have f0 : decide (l3 < 0) = false := by simp; omega
      by_cases n1 : 99 < l3
      · have f1 : decide (99 < l3) = true := by simp; omega
        clear HRo HG
        go_wp2
        go_ret
        exact ⟨rfl, unhide Hb3⟩
      have f1 : decide (99 < l3) = false := by simp; omega
      have hl := unhide H3 (by omega)
      have HG2 : Hid (0 ≤ l3 ∧ l3 ≤ 99) := ⟨by omega, by omega⟩
      obtain ⟨m, hm⟩ : ∃ m, f 3 = m := ⟨_, rfl⟩
      have Hstep : Hid (tb true f 4 = tb true f 3 ++ piece true 3 m) := by show _ = _; rw [← hm]; rfl
      have Hlm := hide hl
      rw [hm] at Hlm
      have hm2 : m ≤ 99 := by have := unhide Hlm; omega
      obtain ⟨x10, hx10⟩ : ∃ x, m / 10 = x := ⟨_, rfl⟩
      obtain ⟨y, hy⟩ : ∃ y, x10 % 10 = y := ⟨_, rfl⟩
      obtain ⟨z, hz⟩ : ∃ z, m % 10 = z := ⟨_, rfl⟩
      have i10 : l3 / 10 = (x10 : Int) := by have := unhide Hlm; omega
      have iy : (x10 : Int) % 10 = (y : Int) := by omega
      have iz : l3 % 10 = (z : Int) := by have := unhide Hlm; omega
      have xb : (x10 : Int) ≤ 9999 := by omega
      obtain ⟨Dy, hDy⟩ : ∃ Dy : Nat, 48 + y = Dy := ⟨_, rfl⟩
      have wy : IntKind.u8.wrap (48 + (y : Int)) = (Dy : Int) := by rw [← hDy]; exact dig_wrap (by omega)
      have vy : ((dig y).toNat : Int) = (Dy : Int) := by rw [← hDy]; exact dig_int (by omega)
      have bby : (y : Int) ≤ 9 := by omega
      obtain ⟨Dz, hDz⟩ : ∃ Dz : Nat, 48 + z = Dz := ⟨_, rfl⟩
      have wz : IntKind.u8.wrap (48 + (z : Int)) = (Dz : Int) := by rw [← hDz]; exact dig_wrap (by omega)
      have vz : ((dig z).toNat : Int) = (Dz : Int) := by rw [← hDz]; exact dig_int (by omega)
      have bbz : (z : Int) ≤ 9 := by omega
      have Hp : Hid (piece true 3 m = [dig y, dig z]) := by show _ = _; rw [← hy, ← hz, ← hx10]; rfl
      have HY1 : Hid (BytesAt (wr.alloc (.cells #[.int .u8 (Dy : Int), .int .u8 (Dz : Int)] 5)) (.slice (some ⟨wr.heap.size, 0, none⟩) 2 2) [dig y, dig z]) := by
        have := bytes_new wr [dig y, dig z]
        simp only [List.map_cons, List.map_nil, bv, vy, vz] at this
        exact this
      have HRo2 := hide ((unhide HRo).lit (.cells #[.int .u8 (Dy : Int), .int .u8 (Dz : Int)] 5))
      have Hl1 : Hid ((tb true f 3).length + [dig y, dig z].length ≤ 1073741824) := by show _ ≤ _; have := unhide Hll; simp; omega
      clear hl n0 n1 hm hx10 hy hz vy vz hDy hDz HRo
      go_wp2_with (first
        | (at_builtin; refine wpList_append_row rfl _ _ rfl (.slice s N cp) (.slice (some ⟨wr.heap.size, 0, none⟩) 2 2) (tb true f 3) [dig y, dig z] rfl (unhide HRo2) rfl (unhide HY1) (unhide Hl1) ?_
           intro v5 w5 hR5
           rw [← unhide Hp, ← unhide Hstep] at hR5
           obtain ⟨s5, c5, rfl⟩ := hR5.own.form
           obtain ⟨N5, hN5⟩ : ∃ N5, (tb true f 4).length = N5 := ⟨_, rfl⟩
           rw [hN5] at hR5
           rw [hN5]
           have HR5 := hide hR5
           clear hR5 hN5))
      have HG3 : Hid ((0 < 4 → 0 ≤ l0 ∧ l0 ≤ 99) ∧ (1 < 4 → 0 ≤ l1 ∧ l1 ≤ 99) ∧ (2 < 4 → 0 ≤ l2 ∧ l2 ≤ 99) ∧ (3 < 4 → 0 ≤ l3 ∧ l3 ≤ 99) ∧ (4 < 4 → 0 ≤ l4 ∧ l4 ≤ 99) ∧ (5 < 4 → 0 ≤ l5 ∧ l5 ≤ 99)) := ⟨fun _ => (unhide HG).1 (by omega), fun _ => (unhide HG).2.1 (by omega), fun _ => (unhide HG).2.2.1 (by omega), fun _ => unhide HG2, fun h => by omega, fun h => by omega⟩
      go_roundw
      case rel =>
        first
          | exact ⟨4, N5, s5, c5, by omega, by go_num, rfl, HG3, HR5⟩
          | ((repeat apply Exists.intro); exact ⟨⟨4, N5, s5, c5, by omega, by go_num, rfl, HG3, HR5⟩, rfl⟩)
      case measure => simp [intOf]
    · have Hb3 := hide ((unhide Hb2).trans ((unhide HRo).b.mono (unhide Hb2).size))
      have hix := fun w => (index_six l0 l1 l2 l3 l4 l5 w).2.2.2.2.1
      by_cases n0 : l4 < 0
      · have f0 : decide (l4 < 0) = true := by simp; omega
        clear HRo HG
        go_wp2
        go_ret
        exact ⟨rfl, unhide Hb3⟩
      have f0 : decide (l4 < 0) = false := by simp; omega
      by_cases n1 : 99 < l4
      · have f1 : decide (99 < l4) = true := by simp; omega
        clear HRo HG
        go_wp2
        go_ret
        exact ⟨rfl, unhide Hb3⟩
      have f1 : decide (99 < l4) = false := by simp; omega
      have hl := unhide H4 (by omega)
      have HG2 : Hid (0 ≤ l4 ∧ l4 ≤ 99) := ⟨by omega, by omega⟩
      obtain ⟨m, hm⟩ : ∃ m, f 4 = m := ⟨_, rfl⟩
      have Hstep : Hid (tb true f 5 = tb true f 4 ++ piece true 4 m) := by show _ = _; rw [← hm]; rfl
      have Hlm := hide hl
      rw [hm] at Hlm
      have hm2 : m ≤ 99 := by have := unhide Hlm; omega
      obtain ⟨x10, hx10⟩ : ∃ x, m / 10 = x := ⟨_, rfl⟩
      obtain ⟨y, hy⟩ : ∃ y, x10 % 10 = y := ⟨_, rfl⟩
      obtain ⟨z, hz⟩ : ∃ z, m % 10 = z := ⟨_, rfl⟩
      have i10 : l4 / 10 = (x10 : Int) := by have := unhide Hlm; omega
      have iy : (x10 : Int) % 10 = (y : Int) := by omega
      have iz : l4 % 10 = (z : Int) := by have := unhide Hlm; omega
      have xb : (x10 : Int) ≤ 9999 := by omega
      obtain ⟨Dy, hDy⟩ : ∃ Dy : Nat, 48 + y = Dy := ⟨_, rfl⟩
      have wy : IntKind.u8.wrap (48 + (y : Int)) = (Dy : Int) := by rw [← hDy]; exact dig_wrap (by omega)
      have vy : ((dig y).toNat : Int) = (Dy : Int) := by rw [← hDy]; exact dig_int (by omega)
      have bby : (y : Int) ≤ 9 := by omega
      obtain ⟨Dz, hDz⟩ : ∃ Dz : Nat, 48 + z = Dz := ⟨_, rfl⟩
      have wz : IntKind.u8.wrap (48 + (z : Int)) = (Dz : Int) := by rw [← hDz]; exact dig_wrap (by omega)
      have vz : ((dig z).toNat : Int) = (Dz : Int) := by rw [← hDz]; exact dig_int (by omega)
      have bbz : (z : Int) ≤ 9 := by omega
      have Hp : Hid (piece true 4 m = [dig y, dig z]) := by show _ = _; rw [← hy, ← hz, ← hx10]; rfl
      have HY1 : Hid (BytesAt (wr.alloc (.cells #[.int .u8 (Dy : Int), .int .u8 (Dz : Int)] 5)) (.slice (some ⟨wr.heap.size, 0, none⟩) 2 2) [dig y, dig z]) := by
        have := bytes_new wr [dig y, dig z]
        simp only [List.map_cons, List.map_nil, bv, vy, vz] at this
        exact this
      have HRo2 := hide ((unhide HRo).lit (.cells #[.int .u8 (Dy : Int), .int .u8 (Dz : Int)] 5))
      have Hl1 : Hid ((tb true f 4).length + [dig y, dig z].length ≤ 1073741824) := by show _ ≤ _; have := unhide Hll; simp; omega
      clear hl n0 n1 hm hx10 hy hz vy vz hDy hDz HRo
      go_wp2_with (first
        | (at_builtin; refine wpList_append_row rfl _ _ rfl (.slice s N cp) (.slice (some ⟨wr.heap.size, 0, none⟩) 2 2) (tb true f 4) [dig y, dig z] rfl (unhide HRo2) rfl (unhide HY1) (unhide Hl1) ?_
           intro v5 w5 hR5
           rw [← unhide Hp, ← unhide Hstep] at hR5
           obtain ⟨s5, c5, rfl⟩ := hR5.own.form
           obtain ⟨N5, hN5⟩ : ∃ N5, (tb true f 5).length = N5 := ⟨_, rfl⟩
           rw [hN5] at hR5
           rw [hN5]
           have HR5 := hide hR5
           clear hR5 hN5))
      have HG3 : Hid ((0 < 5 → 0 ≤ l0 ∧ l0 ≤ 99) ∧ (1 < 5 → 0 ≤ l1 ∧ l1 ≤ 99) ∧ (2 < 5 → 0 ≤ l2 ∧ l2 ≤ 99) ∧ (3 < 5 → 0 ≤ l3 ∧ l3 ≤ 99) ∧ (4 < 5 → 0 ≤ l4 ∧ l4 ≤ 99) ∧ (5 < 5 → 0 ≤ l5 ∧ l5 ≤ 99)) := ⟨fun _ => (unhide HG).1 (by omega), fun _ => (unhide HG).2.1 (by omega), fun _ => (unhide HG).2.2.1 (by omega), fun _ => (unhide HG).2.2.2.1 (by omega), fun _ => unhide HG2, fun h => by omega⟩
      go_roundw
      case rel =>
        first
          | exact ⟨5, N5, s5, c5, by omega, by go_num, rfl, HG3, HR5⟩
          | ((repeat apply Exists.intro); exact ⟨⟨5, N5, s5, c5, by omega, by go_num, rfl, HG3, HR5⟩, rfl⟩)
      case measure => simp [intOf]
    · have Hb3 := hide ((unhide Hb2).trans ((unhide HRo).b.mono (unhide Hb2).size))
      have hix := fun w => (index_six l0 l1 l2 l3 l4 l5 w).2.2.2.2.2
      by_cases n0 : l5 < 0
      · have f0 : decide (l5 < 0) = true := by simp; omega
        clear HRo HG
        go_wp2
        go_ret
        exact ⟨rfl, unhide Hb3⟩
      have f0 : decide (l5 < 0) = false := by simp; omega
      by_cases n1 : 99 < l5
      · have f1 : decide (99 < l5) = true := by simp; omega
        clear HRo HG
        go_wp2
        go_ret
        exact ⟨rfl, unhide Hb3⟩
      have f1 : decide (99 < l5) = false := by simp; omega
      have hl := unhide H5 (by omega)
      have HG2 : Hid (0 ≤ l5 ∧ l5 ≤ 99) := ⟨by omega, by omega⟩
      obtain ⟨m, hm⟩ : ∃ m, f 5 = m := ⟨_, rfl⟩
      have Hstep : Hid (tb true f 6 = tb true f 5 ++ piece true 5 m) := by show _ = _; rw [← hm]; rfl
      have Hlm := hide hl
      rw [hm] at Hlm
      have hm2 : m ≤ 99 := by have := unhide Hlm; omega
      obtain ⟨x10, hx10⟩ : ∃ x, m / 10 = x := ⟨_, rfl⟩
      obtain ⟨y, hy⟩ : ∃ y, x10 % 10 = y := ⟨_, rfl⟩
      obtain ⟨z, hz⟩ : ∃ z, m % 10 = z := ⟨_, rfl⟩
      have i10 : l5 / 10 = (x10 : Int) := by have := unhide Hlm; omega
      have iy : (x10 : Int) % 10 = (y : Int) := by omega
      have iz : l5 % 10 = (z : Int) := by have := unhide Hlm; omega
      have xb : (x10 : Int) ≤ 9999 := by omega
      obtain ⟨Dy, hDy⟩ : ∃ Dy : Nat, 48 + y = Dy := ⟨_, rfl⟩
      have wy : IntKind.u8.wrap (48 + (y : Int)) = (Dy : Int) := by rw [← hDy]; exact dig_wrap (by omega)
      have vy : ((dig y).toNat : Int) = (Dy : Int) := by rw [← hDy]; exact dig_int (by omega)
      have bby : (y : Int) ≤ 9 := by omega
      obtain ⟨Dz, hDz⟩ : ∃ Dz : Nat, 48 + z = Dz := ⟨_, rfl⟩
      have wz : IntKind.u8.wrap (48 + (z : Int)) = (Dz : Int) := by rw [← hDz]; exact dig_wrap (by omega)
      have vz : ((dig z).toNat : Int) = (Dz : Int) := by rw [← hDz]; exact dig_int (by omega)
      have bbz : (z : Int) ≤ 9 := by omega
      have Hp : Hid (piece true 5 m = [dig y, dig z]) := by show _ = _; rw [← hy, ← hz, ← hx10]; rfl
      have HY1 : Hid (BytesAt (wr.alloc (.cells #[.int .u8 (Dy : Int), .int .u8 (Dz : Int)] 5)) (.slice (some ⟨wr.heap.size, 0, none⟩) 2 2) [dig y, dig z]) := by
        have := bytes_new wr [dig y, dig z]
        simp only [List.map_cons, List.map_nil, bv, vy, vz] at this
        exact this
      have HRo2 := hide ((unhide HRo).lit (.cells #[.int .u8 (Dy : Int), .int .u8 (Dz : Int)] 5))
      have Hl1 : Hid ((tb true f 5).length + [dig y, dig z].length ≤ 1073741824) := by show _ ≤ _; have := unhide Hll; simp; omega
      clear hl n0 n1 hm hx10 hy hz vy vz hDy hDz HRo
      go_wp2_with (first
        | (at_builtin; refine wpList_append_row rfl _ _ rfl (.slice s N cp) (.slice (some ⟨wr.heap.size, 0, none⟩) 2 2) (tb true f 5) [dig y, dig z] rfl (unhide HRo2) rfl (unhide HY1) (unhide Hl1) ?_
           intro v5 w5 hR5
           rw [← unhide Hp, ← unhide Hstep] at hR5
           obtain ⟨s5, c5, rfl⟩ := hR5.own.form
           obtain ⟨N5, hN5⟩ : ∃ N5, (tb true f 6).length = N5 := ⟨_, rfl⟩
           rw [hN5] at hR5
           rw [hN5]
           have HR5 := hide hR5
           clear hR5 hN5))
      have HG3 : Hid ((0 < 6 → 0 ≤ l0 ∧ l0 ≤ 99) ∧ (1 < 6 → 0 ≤ l1 ∧ l1 ≤ 99) ∧ (2 < 6 → 0 ≤ l2 ∧ l2 ≤ 99) ∧ (3 < 6 → 0 ≤ l3 ∧ l3 ≤ 99) ∧ (4 < 6 → 0 ≤ l4 ∧ l4 ≤ 99) ∧ (5 < 6 → 0 ≤ l5 ∧ l5 ≤ 99)) := ⟨fun _ => (unhide HG).1 (by omega), fun _ => (unhide HG).2.1 (by omega), fun _ => (unhide HG).2.2.1 (by omega), fun _ => (unhide HG).2.2.2.1 (by omega), fun _ => (unhide HG).2.2.2.2.1 (by omega), fun _ => unhide HG2⟩
      go_roundw
      case rel =>
        first
          | exact ⟨6, N5, s5, c5, by omega, by go_num, rfl, HG3, HR5⟩
          | ((repeat apply Exists.intro); exact ⟨⟨6, N5, s5, c5, by omega, by go_num, rfl, HG3, HR5⟩, rfl⟩)
      case measure => simp [intOf]
    · have g := unhide HG
      have g0 := g.1 (by omega)
      obtain ⟨m0, hm0⟩ : ∃ m, f 0 = m := ⟨_, rfl⟩
      have e0 := unhide H0 g0.1
      rw [hm0] at e0
      subst e0
      have g1 := g.2.1 (by omega)
      obtain ⟨m1, hm1⟩ : ∃ m, f 1 = m := ⟨_, rfl⟩
      have e1 := unhide H1 g1.1
      rw [hm1] at e1
      subst e1
      have g2 := g.2.2.1 (by omega)
      obtain ⟨m2, hm2⟩ : ∃ m, f 2 = m := ⟨_, rfl⟩
      have e2 := unhide H2 g2.1
      rw [hm2] at e2
      subst e2
      have g3 := g.2.2.2.1 (by omega)
      obtain ⟨m3, hm3⟩ : ∃ m, f 3 = m := ⟨_, rfl⟩
      have e3 := unhide H3 g3.1
      rw [hm3] at e3
      subst e3
      have g4 := g.2.2.2.2.1 (by omega)
      obtain ⟨m4, hm4⟩ : ∃ m, f 4 = m := ⟨_, rfl⟩
      have e4 := unhide H4 g4.1
      rw [hm4] at e4
      subst e4
      have g5 := g.2.2.2.2.2 (by omega)
      obtain ⟨m5, hm5⟩ : ∃ m, f 5 = m := ⟨_, rfl⟩
      have e5 := unhide H5 g5.1
      rw [hm5] at e5
      subst e5
      have Htm := hide (time_short f (fun i hi => by rcases (by omega : i = 0 ∨ i = 1 ∨ i = 2 ∨ i = 3 ∨ i = 4 ∨ i = 5) with rfl | rfl | rfl | rfl | rfl | rfl <;> omega))
      rw [hm0, hm1, hm2, hm3, hm4, hm5] at Htm
      have Hb3 := hide ((unhide Hb2).trans ((unhide HRo).b.mono (unhide Hb2).size))
      have HK2 : Hid (∀ w, Below w2.heap.size w2 w → w.cell? ⟨A, 0, none⟩ = some (.int .i64 (m0 : Int)) ∧ w.cell? ⟨A, 1, none⟩ = some (.int .i64 (m1 : Int)) ∧ w.cell? ⟨A, 2, none⟩ = some (.int .i64 (m2 : Int)) ∧ w.cell? ⟨A, 3, none⟩ = some (.int .i64 (m3 : Int)) ∧ w.cell? ⟨A, 4, none⟩ = some (.int .i64 (m4 : Int)) ∧ w.cell? ⟨A, 5, none⟩ = some (.int .i64 (m5 : Int))) := fun w hb => unhide HK w ((unhide Hb12).trans (hb.mono (unhide Hb12).size))
      obtain ⟨a0, a1, a2, a3, a4, a5⟩ := unhide HK2 wr (unhide HRo).b
      have HZ : Hid (BytesAt (wr.alloc (.cells #[.int .u8 90] 5)) (.slice (some ⟨wr.heap.size, 0, none⟩) 1 1) [90]) := bytes_new wr [90]
      have HRo2 := hide ((unhide HRo).lit (.cells #[.int .u8 90] 5))
      have Hl1 : Hid ((tb true f 6).length + ([90] : Bs).length ≤ 1073741824) := by show _ ≤ _; have := unhide Hll; simp; omega
      have M0 : m0 ≤ 99 := by omega
      have M1 : m1 ≤ 99 := by omega
      have M2 : m2 ≤ 99 := by omega
      have M3 : m3 ≤ 99 := by omega
      have M4 : m4 ≤ 99 := by omega
      have M5 : m5 ≤ 99 := by omega
      clear g g0 g1 g2 g3 g4 g5 hm0 hm1 hm2 hm3 hm4 hm5 H0 H1 H2 H3 H4 H5 HG HRo Hll HK hi
      obtain ⟨Y1, hY1⟩ : ∃ Y1, m0 + 1900 = Y1 := ⟨_, rfl⟩
      have iY1 : (m0 : Int) + 1900 = (Y1 : Int) := by omega
      by_cases h50 : m0 < 50
      · obtain ⟨Y, hY⟩ : ∃ Y, Y1 + 100 = Y := ⟨_, rfl⟩
        have iY : (Y1 : Int) + 100 = (Y : Int) := by omega
        have k1 : decide ((Y1 : Int) < 1950) = true := by simp; omega
        have k1n : decide (Y1 < 1950) = true := by simp; omega
        have yb : (Y1 : Int) ≤ 10000 := by omega
        have Yb : Y ≤ 100000 := by omega
        go_wp2_with (first
          | (at_builtin; refine wpList_append_row rfl _ _ rfl (.slice s N cp) (.slice (some ⟨wr.heap.size, 0, none⟩) 1 1) (tb true f 6) [90] rfl (unhide HRo2) rfl (unhide HZ) (unhide Hl1) ?_
             intro v5 w5 hR5
             obtain ⟨s5, c5, rfl⟩ := hR5.own.form
             have e5 := (unhide Htm).2
             rw [e5] at hR5
             rw [e5]
             have HR5 := hide hR5
             obtain ⟨a0, a1, a2, a3, a4, a5⟩ := unhide HK2 w5 hR5.b
             clear hR5 e5))
        have HYr : Hid (yearOf true m0 = Y) := by show _ = _; unfold yearOf; rw [if_pos rfl, if_pos (by omega)]; omega
        rw [unhide HYr] at Htm
        have Hdy := hide (fun w => days_any Y m1 (by omega) (by omega) w)
        obtain ⟨D, hD⟩ : ∃ D, daysP Y m1 = D := ⟨_, rfl⟩
        simp only [hD] at Hdy
        rcases (by omega : (m1 < 1) ∨ (1 ≤ m1 ∧ 12 < m1) ∨ (1 ≤ m1 ∧ m1 ≤ 12 ∧ m2 < 1) ∨ (1 ≤ m1 ∧ m1 ≤ 12 ∧ 1 ≤ m2 ∧ D < m2) ∨ (1 ≤ m1 ∧ m1 ≤ 12 ∧ 1 ≤ m2 ∧ m2 ≤ D ∧ 23 < m3) ∨ (1 ≤ m1 ∧ m1 ≤ 12 ∧ 1 ≤ m2 ∧ m2 ≤ D ∧ m3 ≤ 23 ∧ 59 < m4) ∨ (1 ≤ m1 ∧ m1 ≤ 12 ∧ 1 ≤ m2 ∧ m2 ≤ D ∧ m3 ≤ 23 ∧ m4 ≤ 59 ∧ 59 < m5) ∨ (1 ≤ m1 ∧ m1 ≤ 12 ∧ 1 ≤ m2 ∧ m2 ≤ D ∧ m3 ≤ 23 ∧ m4 ≤ 59 ∧ m5 ≤ 59)) with hc | hc | hc | hc | hc | hc | hc | hc
        · have t0 : decide ((1 : Int) ≤ (m1 : Int)) = false := by simp; omega
          have t0n : decide (1 ≤ m1) = false := by simp; omega
          have Hcal : Hid (calP Y m1 m2 m3 m4 m5 = false) := by show _ = _; unfold calP; rw [hD]; simp; omega
          have Hrd0 : Hid (readP formD ([23, 13] ++ (tb true f 6 ++ [90])) = .no 24) := by
            show _ = _
            have h1 := read_plain (t := 23) (by omega) (tb true f 6 ++ [90]) (by rw [(unhide Htm).2]; omega)
            have h2 := form_time true (tb true f 6 ++ [90])
            simp only [if_true] at h2
            rw [(unhide Htm).1, unhide Hcal] at h2
            simp only [Bool.false_eq_true, if_false] at h2
            rw [(unhide Htm).2, h2] at h1
            exact h1
          clear hc hD Hcal
          go_region
          all_goals
            have hx6 : BytesAt w5.drew (.slice s5 13 c5) (tb true f 6 ++ [90]) := (unhide HR5).bytes.drew
            have Hb5 := hide (((unhide Hb2).trans ((unhide HR5).b.mono (unhide Hb2).size)).drew)
            have hb7 : Below w5.drew.heap.size w5.drew (w5.drew.alloc (.cells #[.int .u8 23, .int .u8 13] 5)) := (Below.refl _ _).alloc (Nat.le_refl _) _
            have Hjn := hide (join_any _ _ _ [23, 13] (tb true f 6 ++ [90]) (bytes_new w5.drew [23, 13]) (hx6.below hb7) (by rw [(unhide Htm).2]; simp))
            have Hb7 := hide ((unhide Hb5).trans (hb7.mono (unhide Hb5).size))
            clear hx6 hb7 a0 a1 a2 a3 a4 a5
            go_wp2_with fail
            refine (unhide Hjn).mono ?_
            rintro e w8 ⟨x8, rfl, hR8⟩
            have Hb8 := hide ((unhide Hb7).trans (hR8.b.mono (unhide Hb7).size))
            have Hrd := hide ((unhide HC).read w8 _ _ (unhide HR w8 (unhide Hb8)) hR8.bytes (by rw [List.length_append, (unhide Htm).2]; simp))
            rw [unhide Hrd0] at Hrd
            simp only [errOf, valOf] at Hrd
            clear hR8 Hjn
            go_wp2_with fail
            refine (unhide Hrd).mono ?_
            rintro e w9 ⟨cs9, rfl, ⟨n9, hv9⟩, hb9⟩
            obtain ⟨r1, t1, r2, t2, rfl⟩ := hv9.form
            unfold dcells
            have Hb9 := hide ((unhide Hb8).trans (hb9.mono (unhide Hb8).size))
            clear hb9 hv9 Hrd
            go_wp2
            go_ret
            exact ⟨rfl, (unhide Hb9).alloc (unhide Hb9).size _⟩
        · have t0 : decide ((1 : Int) ≤ (m1 : Int)) = true := by simp; omega
          have t0n : decide (1 ≤ m1) = true := by simp; omega
          have t1 : decide ((m1 : Int) ≤ 12) = false := by simp; omega
          have t1n : decide (m1 ≤ 12) = false := by simp; omega
          have Hcal : Hid (calP Y m1 m2 m3 m4 m5 = false) := by show _ = _; unfold calP; rw [hD]; simp; omega
          have Hrd0 : Hid (readP formD ([23, 13] ++ (tb true f 6 ++ [90])) = .no 24) := by
            show _ = _
            have h1 := read_plain (t := 23) (by omega) (tb true f 6 ++ [90]) (by rw [(unhide Htm).2]; omega)
            have h2 := form_time true (tb true f 6 ++ [90])
            simp only [if_true] at h2
            rw [(unhide Htm).1, unhide Hcal] at h2
            simp only [Bool.false_eq_true, if_false] at h2
            rw [(unhide Htm).2, h2] at h1
            exact h1
          clear hc hD Hcal
          go_region
          all_goals
            have hx6 : BytesAt w5.drew (.slice s5 13 c5) (tb true f 6 ++ [90]) := (unhide HR5).bytes.drew
            have Hb5 := hide (((unhide Hb2).trans ((unhide HR5).b.mono (unhide Hb2).size)).drew)
            have hb7 : Below w5.drew.heap.size w5.drew (w5.drew.alloc (.cells #[.int .u8 23, .int .u8 13] 5)) := (Below.refl _ _).alloc (Nat.le_refl _) _
            have Hjn := hide (join_any _ _ _ [23, 13] (tb true f 6 ++ [90]) (bytes_new w5.drew [23, 13]) (hx6.below hb7) (by rw [(unhide Htm).2]; simp))
            have Hb7 := hide ((unhide Hb5).trans (hb7.mono (unhide Hb5).size))
            clear hx6 hb7 a0 a1 a2 a3 a4 a5
            go_wp2_with fail
            refine (unhide Hjn).mono ?_
            rintro e w8 ⟨x8, rfl, hR8⟩
            have Hb8 := hide ((unhide Hb7).trans (hR8.b.mono (unhide Hb7).size))
            have Hrd := hide ((unhide HC).read w8 _ _ (unhide HR w8 (unhide Hb8)) hR8.bytes (by rw [List.length_append, (unhide Htm).2]; simp))
            rw [unhide Hrd0] at Hrd
            simp only [errOf, valOf] at Hrd
            clear hR8 Hjn
            go_wp2_with fail
            refine (unhide Hrd).mono ?_
            rintro e w9 ⟨cs9, rfl, ⟨n9, hv9⟩, hb9⟩
            obtain ⟨r1, t1, r2, t2, rfl⟩ := hv9.form
            unfold dcells
            have Hb9 := hide ((unhide Hb8).trans (hb9.mono (unhide Hb8).size))
            clear hb9 hv9 Hrd
            go_wp2
            go_ret
            exact ⟨rfl, (unhide Hb9).alloc (unhide Hb9).size _⟩
        · have t0 : decide ((1 : Int) ≤ (m1 : Int)) = true := by simp; omega
          have t0n : decide (1 ≤ m1) = true := by simp; omega
          have t1 : decide ((m1 : Int) ≤ 12) = true := by simp; omega
          have t1n : decide (m1 ≤ 12) = true := by simp; omega
          have t2 : decide ((1 : Int) ≤ (m2 : Int)) = false := by simp; omega
          have t2n : decide (1 ≤ m2) = false := by simp; omega
          have Hcal : Hid (calP Y m1 m2 m3 m4 m5 = false) := by show _ = _; unfold calP; rw [hD]; simp; omega
          have Hrd0 : Hid (readP formD ([23, 13] ++ (tb true f 6 ++ [90])) = .no 24) := by
            show _ = _
            have h1 := read_plain (t := 23) (by omega) (tb true f 6 ++ [90]) (by rw [(unhide Htm).2]; omega)
            have h2 := form_time true (tb true f 6 ++ [90])
            simp only [if_true] at h2
            rw [(unhide Htm).1, unhide Hcal] at h2
            simp only [Bool.false_eq_true, if_false] at h2
            rw [(unhide Htm).2, h2] at h1
            exact h1
          clear hc hD Hcal
          go_region
          all_goals
            have hx6 : BytesAt w5.drew (.slice s5 13 c5) (tb true f 6 ++ [90]) := (unhide HR5).bytes.drew
            have Hb5 := hide (((unhide Hb2).trans ((unhide HR5).b.mono (unhide Hb2).size)).drew)
            have hb7 : Below w5.drew.heap.size w5.drew (w5.drew.alloc (.cells #[.int .u8 23, .int .u8 13] 5)) := (Below.refl _ _).alloc (Nat.le_refl _) _
            have Hjn := hide (join_any _ _ _ [23, 13] (tb true f 6 ++ [90]) (bytes_new w5.drew [23, 13]) (hx6.below hb7) (by rw [(unhide Htm).2]; simp))
            have Hb7 := hide ((unhide Hb5).trans (hb7.mono (unhide Hb5).size))
            clear hx6 hb7 a0 a1 a2 a3 a4 a5
            go_wp2_with fail
            refine (unhide Hjn).mono ?_
            rintro e w8 ⟨x8, rfl, hR8⟩
            have Hb8 := hide ((unhide Hb7).trans (hR8.b.mono (unhide Hb7).size))
            have Hrd := hide ((unhide HC).read w8 _ _ (unhide HR w8 (unhide Hb8)) hR8.bytes (by rw [List.length_append, (unhide Htm).2]; simp))
            rw [unhide Hrd0] at Hrd
            simp only [errOf, valOf] at Hrd
            clear hR8 Hjn
            go_wp2_with fail
            refine (unhide Hrd).mono ?_
            rintro e w9 ⟨cs9, rfl, ⟨n9, hv9⟩, hb9⟩
            obtain ⟨r1, t1, r2, t2, rfl⟩ := hv9.form
            unfold dcells
            have Hb9 := hide ((unhide Hb8).trans (hb9.mono (unhide Hb8).size))
            clear hb9 hv9 Hrd
            go_wp2
            go_ret
            exact ⟨rfl, (unhide Hb9).alloc (unhide Hb9).size _⟩
        · have t0 : decide ((1 : Int) ≤ (m1 : Int)) = true := by simp; omega
          have t0n : decide (1 ≤ m1) = true := by simp; omega
          have t1 : decide ((m1 : Int) ≤ 12) = true := by simp; omega
          have t1n : decide (m1 ≤ 12) = true := by simp; omega
          have t2 : decide ((1 : Int) ≤ (m2 : Int)) = true := by simp; omega
          have t2n : decide (1 ≤ m2) = true := by simp; omega
          have t3 : decide ((m2 : Int) ≤ (D : Int)) = false := by simp; omega
          have t3n : decide (m2 ≤ D) = false := by simp; omega
          have Hcal : Hid (calP Y m1 m2 m3 m4 m5 = false) := by show _ = _; unfold calP; rw [hD]; simp; omega
          have Hrd0 : Hid (readP formD ([23, 13] ++ (tb true f 6 ++ [90])) = .no 24) := by
            show _ = _
            have h1 := read_plain (t := 23) (by omega) (tb true f 6 ++ [90]) (by rw [(unhide Htm).2]; omega)
            have h2 := form_time true (tb true f 6 ++ [90])
            simp only [if_true] at h2
            rw [(unhide Htm).1, unhide Hcal] at h2
            simp only [Bool.false_eq_true, if_false] at h2
            rw [(unhide Htm).2, h2] at h1
            exact h1
          clear hc hD Hcal
          (first | go_region_with (go_at_call 11; refine (unhide Hdy _).mono ?_; rintro e w6 ⟨rfl, rfl⟩) | fail)
          all_goals
            have hx6 : BytesAt w5.drew (.slice s5 13 c5) (tb true f 6 ++ [90]) := (unhide HR5).bytes.drew
            have Hb5 := hide (((unhide Hb2).trans ((unhide HR5).b.mono (unhide Hb2).size)).drew)
            have hb7 : Below w5.drew.heap.size w5.drew (w5.drew.alloc (.cells #[.int .u8 23, .int .u8 13] 5)) := (Below.refl _ _).alloc (Nat.le_refl _) _
            have Hjn := hide (join_any _ _ _ [23, 13] (tb true f 6 ++ [90]) (bytes_new w5.drew [23, 13]) (hx6.below hb7) (by rw [(unhide Htm).2]; simp))
            have Hb7 := hide ((unhide Hb5).trans (hb7.mono (unhide Hb5).size))
            clear hx6 hb7 a0 a1 a2 a3 a4 a5
            go_wp2_with fail
            refine (unhide Hjn).mono ?_
            rintro e w8 ⟨x8, rfl, hR8⟩
            have Hb8 := hide ((unhide Hb7).trans (hR8.b.mono (unhide Hb7).size))
            have Hrd := hide ((unhide HC).read w8 _ _ (unhide HR w8 (unhide Hb8)) hR8.bytes (by rw [List.length_append, (unhide Htm).2]; simp))
            rw [unhide Hrd0] at Hrd
            simp only [errOf, valOf] at Hrd
            clear hR8 Hjn
            go_wp2_with fail
            refine (unhide Hrd).mono ?_
            rintro e w9 ⟨cs9, rfl, ⟨n9, hv9⟩, hb9⟩
            obtain ⟨r1, t1, r2, t2, rfl⟩ := hv9.form
            unfold dcells
            have Hb9 := hide ((unhide Hb8).trans (hb9.mono (unhide Hb8).size))
            clear hb9 hv9 Hrd
            go_wp2
            go_ret
            exact ⟨rfl, (unhide Hb9).alloc (unhide Hb9).size _⟩
        · have t0 : decide ((1 : Int) ≤ (m1 : Int)) = true := by simp; omega
          have t0n : decide (1 ≤ m1) = true := by simp; omega
          have t1 : decide ((m1 : Int) ≤ 12) = true := by simp; omega
          have t1n : decide (m1 ≤ 12) = true := by simp; omega
          have t2 : decide ((1 : Int) ≤ (m2 : Int)) = true := by simp; omega
          have t2n : decide (1 ≤ m2) = true := by simp; omega
          have t3 : decide ((m2 : Int) ≤ (D : Int)) = true := by simp; omega
          have t3n : decide (m2 ≤ D) = true := by simp; omega
          have t4 : decide ((m3 : Int) < 24) = false := by simp; omega
          have t4n : decide (m3 < 24) = false := by simp; omega
          have Hcal : Hid (calP Y m1 m2 m3 m4 m5 = false) := by show _ = _; unfold calP; rw [hD]; simp; omega
          have Hrd0 : Hid (readP formD ([23, 13] ++ (tb true f 6 ++ [90])) = .no 24) := by
            show _ = _
            have h1 := read_plain (t := 23) (by omega) (tb true f 6 ++ [90]) (by rw [(unhide Htm).2]; omega)
            have h2 := form_time true (tb true f 6 ++ [90])
            simp only [if_true] at h2
            rw [(unhide Htm).1, unhide Hcal] at h2
            simp only [Bool.false_eq_true, if_false] at h2
            rw [(unhide Htm).2, h2] at h1
            exact h1
          clear hc hD Hcal
          (first | go_region_with (go_at_call 11; refine (unhide Hdy _).mono ?_; rintro e w6 ⟨rfl, rfl⟩) | fail)
          all_goals
            have hx6 : BytesAt w5.drew (.slice s5 13 c5) (tb true f 6 ++ [90]) := (unhide HR5).bytes.drew
            have Hb5 := hide (((unhide Hb2).trans ((unhide HR5).b.mono (unhide Hb2).size)).drew)
            have hb7 : Below w5.drew.heap.size w5.drew (w5.drew.alloc (.cells #[.int .u8 23, .int .u8 13] 5)) := (Below.refl _ _).alloc (Nat.le_refl _) _
            have Hjn := hide (join_any _ _ _ [23, 13] (tb true f 6 ++ [90]) (bytes_new w5.drew [23, 13]) (hx6.below hb7) (by rw [(unhide Htm).2]; simp))
            have Hb7 := hide ((unhide Hb5).trans (hb7.mono (unhide Hb5).size))
            clear hx6 hb7 a0 a1 a2 a3 a4 a5
            go_wp2_with fail
            refine (unhide Hjn).mono ?_
            rintro e w8 ⟨x8, rfl, hR8⟩
            have Hb8 := hide ((unhide Hb7).trans (hR8.b.mono (unhide Hb7).size))
            have Hrd := hide ((unhide HC).read w8 _ _ (unhide HR w8 (unhide Hb8)) hR8.bytes (by rw [List.length_append, (unhide Htm).2]; simp))
            rw [unhide Hrd0] at Hrd
            simp only [errOf, valOf] at Hrd
            clear hR8 Hjn
            go_wp2_with fail
            refine (unhide Hrd).mono ?_
            rintro e w9 ⟨cs9, rfl, ⟨n9, hv9⟩, hb9⟩
            obtain ⟨r1, t1, r2, t2, rfl⟩ := hv9.form
            unfold dcells
            have Hb9 := hide ((unhide Hb8).trans (hb9.mono (unhide Hb8).size))
            clear hb9 hv9 Hrd
            go_wp2
            go_ret
            exact ⟨rfl, (unhide Hb9).alloc (unhide Hb9).size _⟩
        · have t0 : decide ((1 : Int) ≤ (m1 : Int)) = true := by simp; omega
          have t0n : decide (1 ≤ m1) = true := by simp; omega
          have t1 : decide ((m1 : Int) ≤ 12) = true := by simp; omega
          have t1n : decide (m1 ≤ 12) = true := by simp; omega
          have t2 : decide ((1 : Int) ≤ (m2 : Int)) = true := by simp; omega
          have t2n : decide (1 ≤ m2) = true := by simp; omega
          have t3 : decide ((m2 : Int) ≤ (D : Int)) = true := by simp; omega
          have t3n : decide (m2 ≤ D) = true := by simp; omega
          have t4 : decide ((m3 : Int) < 24) = true := by simp; omega
          have t4n : decide (m3 < 24) = true := by simp; omega
          have t5 : decide ((m4 : Int) < 60) = false := by simp; omega
          have t5n : decide (m4 < 60) = false := by simp; omega
          have Hcal : Hid (calP Y m1 m2 m3 m4 m5 = false) := by show _ = _; unfold calP; rw [hD]; simp; omega
          have Hrd0 : Hid (readP formD ([23, 13] ++ (tb true f 6 ++ [90])) = .no 24) := by
            show _ = _
            have h1 := read_plain (t := 23) (by omega) (tb true f 6 ++ [90]) (by rw [(unhide Htm).2]; omega)
            have h2 := form_time true (tb true f 6 ++ [90])
            simp only [if_true] at h2
            rw [(unhide Htm).1, unhide Hcal] at h2
            simp only [Bool.false_eq_true, if_false] at h2
            rw [(unhide Htm).2, h2] at h1
            exact h1
          clear hc hD Hcal
          (first | go_region_with (go_at_call 11; refine (unhide Hdy _).mono ?_; rintro e w6 ⟨rfl, rfl⟩) | fail)
          all_goals
            have hx6 : BytesAt w5.drew (.slice s5 13 c5) (tb true f 6 ++ [90]) := (unhide HR5).bytes.drew
            have Hb5 := hide (((unhide Hb2).trans ((unhide HR5).b.mono (unhide Hb2).size)).drew)
            have hb7 : Below w5.drew.heap.size w5.drew (w5.drew.alloc (.cells #[.int .u8 23, .int .u8 13] 5)) := (Below.refl _ _).alloc (Nat.le_refl _) _
            have Hjn := hide (join_any _ _ _ [23, 13] (tb true f 6 ++ [90]) (bytes_new w5.drew [23, 13]) (hx6.below hb7) (by rw [(unhide Htm).2]; simp))
            have Hb7 := hide ((unhide Hb5).trans (hb7.mono (unhide Hb5).size))
            clear hx6 hb7 a0 a1 a2 a3 a4 a5
            go_wp2_with fail
            refine (unhide Hjn).mono ?_
            rintro e w8 ⟨x8, rfl, hR8⟩
            have Hb8 := hide ((unhide Hb7).trans (hR8.b.mono (unhide Hb7).size))
            have Hrd := hide ((unhide HC).read w8 _ _ (unhide HR w8 (unhide Hb8)) hR8.bytes (by rw [List.length_append, (unhide Htm).2]; simp))
            rw [unhide Hrd0] at Hrd
            simp only [errOf, valOf] at Hrd
            clear hR8 Hjn
            go_wp2_with fail
            refine (unhide Hrd).mono ?_
            rintro e w9 ⟨cs9, rfl, ⟨n9, hv9⟩, hb9⟩
            obtain ⟨r1, t1, r2, t2, rfl⟩ := hv9.form
            unfold dcells
            have Hb9 := hide ((unhide Hb8).trans (hb9.mono (unhide Hb8).size))
            clear hb9 hv9 Hrd
            go_wp2
            go_ret
            exact ⟨rfl, (unhide Hb9).alloc (unhide Hb9).size _⟩
        · have t0 : decide ((1 : Int) ≤ (m1 : Int)) = true := by simp; omega
          have t0n : decide (1 ≤ m1) = true := by simp; omega
          have t1 : decide ((m1 : Int) ≤ 12) = true := by simp; omega
          have t1n : decide (m1 ≤ 12) = true := by simp; omega
          have t2 : decide ((1 : Int) ≤ (m2 : Int)) = true := by simp; omega
          have t2n : decide (1 ≤ m2) = true := by simp; omega
          have t3 : decide ((m2 : Int) ≤ (D : Int)) = true := by simp; omega
          have t3n : decide (m2 ≤ D) = true := by simp; omega
          have t4 : decide ((m3 : Int) < 24) = true := by simp; omega
          have t4n : decide (m3 < 24) = true := by simp; omega
          have t5 : decide ((m4 : Int) < 60) = true := by simp; omega
          have t5n : decide (m4 < 60) = true := by simp; omega
          have t6 : decide ((m5 : Int) < 60) = false := by simp; omega
          have t6n : decide (m5 < 60) = false := by simp; omega
          have Hcal : Hid (calP Y m1 m2 m3 m4 m5 = false) := by show _ = _; unfold calP; rw [hD]; simp; omega
          have Hrd0 : Hid (readP formD ([23, 13] ++ (tb true f 6 ++ [90])) = .no 24) := by
            show _ = _
            have h1 := read_plain (t := 23) (by omega) (tb true f 6 ++ [90]) (by rw [(unhide Htm).2]; omega)
            have h2 := form_time true (tb true f 6 ++ [90])
            simp only [if_true] at h2
            rw [(unhide Htm).1, unhide Hcal] at h2
            simp only [Bool.false_eq_true, if_false] at h2
            rw [(unhide Htm).2, h2] at h1
            exact h1
          clear hc hD Hcal
          (first | go_region_with (go_at_call 11; refine (unhide Hdy _).mono ?_; rintro e w6 ⟨rfl, rfl⟩) | fail)
          all_goals
            have hx6 : BytesAt w5.drew (.slice s5 13 c5) (tb true f 6 ++ [90]) := (unhide HR5).bytes.drew
            have Hb5 := hide (((unhide Hb2).trans ((unhide HR5).b.mono (unhide Hb2).size)).drew)
            have hb7 : Below w5.drew.heap.size w5.drew (w5.drew.alloc (.cells #[.int .u8 23, .int .u8 13] 5)) := (Below.refl _ _).alloc (Nat.le_refl _) _
            have Hjn := hide (join_any _ _ _ [23, 13] (tb true f 6 ++ [90]) (bytes_new w5.drew [23, 13]) (hx6.below hb7) (by rw [(unhide Htm).2]; simp))
            have Hb7 := hide ((unhide Hb5).trans (hb7.mono (unhide Hb5).size))
            clear hx6 hb7 a0 a1 a2 a3 a4 a5
            go_wp2_with fail
            refine (unhide Hjn).mono ?_
            rintro e w8 ⟨x8, rfl, hR8⟩
            have Hb8 := hide ((unhide Hb7).trans (hR8.b.mono (unhide Hb7).size))
            have Hrd := hide ((unhide HC).read w8 _ _ (unhide HR w8 (unhide Hb8)) hR8.bytes (by rw [List.length_append, (unhide Htm).2]; simp))
            rw [unhide Hrd0] at Hrd
            simp only [errOf, valOf] at Hrd
            clear hR8 Hjn
            go_wp2_with fail
            refine (unhide Hrd).mono ?_
            rintro e w9 ⟨cs9, rfl, ⟨n9, hv9⟩, hb9⟩
            obtain ⟨r1, t1, r2, t2, rfl⟩ := hv9.form
            unfold dcells
            have Hb9 := hide ((unhide Hb8).trans (hb9.mono (unhide Hb8).size))
            clear hb9 hv9 Hrd
            go_wp2
            go_ret
            exact ⟨rfl, (unhide Hb9).alloc (unhide Hb9).size _⟩
        · have t0 : decide ((1 : Int) ≤ (m1 : Int)) = true := by simp; omega
          have t0n : decide (1 ≤ m1) = true := by simp; omega
          have t1 : decide ((m1 : Int) ≤ 12) = true := by simp; omega
          have t1n : decide (m1 ≤ 12) = true := by simp; omega
          have t2 : decide ((1 : Int) ≤ (m2 : Int)) = true := by simp; omega
          have t2n : decide (1 ≤ m2) = true := by simp; omega
          have t3 : decide ((m2 : Int) ≤ (D : Int)) = true := by simp; omega
          have t3n : decide (m2 ≤ D) = true := by simp; omega
          have t4 : decide ((m3 : Int) < 24) = true := by simp; omega
          have t4n : decide (m3 < 24) = true := by simp; omega
          have t5 : decide ((m4 : Int) < 60) = true := by simp; omega
          have t5n : decide (m4 < 60) = true := by simp; omega
          have t6 : decide ((m5 : Int) < 60) = true := by simp; omega
          have t6n : decide (m5 < 60) = true := by simp; omega
          have Hcal : Hid (calP Y m1 m2 m3 m4 m5 = true) := by show _ = _; unfold calP; rw [hD]; simp; omega
          have Hrd0 : Hid (readP formD ([23, 13] ++ (tb true f 6 ++ [90])) = .yes (.mk 0 23 false (tb true f 6 ++ [90]) [])) := by
            show _ = _
            have h1 := read_plain (t := 23) (by omega) (tb true f 6 ++ [90]) (by rw [(unhide Htm).2]; omega)
            have h2 := form_time true (tb true f 6 ++ [90])
            simp only [if_true] at h2
            rw [(unhide Htm).1, unhide Hcal] at h2
            simp only [if_true] at h2
            rw [(unhide Htm).2, h2] at h1
            exact h1
          clear hc hD Hcal
          go_region_held3 (fun w' => w'.cell? ⟨A, 1, none⟩ = some (.int .i64 (m1 : Int)) ∧ w'.cell? ⟨A, 2, none⟩ = some (.int .i64 (m2 : Int)) ∧ w'.cell? ⟨A, 3, none⟩ = some (.int .i64 (m3 : Int)) ∧ w'.cell? ⟨A, 4, none⟩ = some (.int .i64 (m4 : Int)) ∧ w'.cell? ⟨A, 5, none⟩ = some (.int .i64 (m5 : Int))) (go_keep) ((go_at_call 11; refine (unhide Hdy _).mono ?_; rintro e w6 ⟨rfl, rfl⟩))
          all_goals
            have hx6 : BytesAt w5.drew (.slice s5 13 c5) (tb true f 6 ++ [90]) := (unhide HR5).bytes.drew
            have Hb5 := hide (((unhide Hb2).trans ((unhide HR5).b.mono (unhide Hb2).size)).drew)
            have hb7 : Below w5.drew.heap.size w5.drew (w5.drew.alloc (.cells #[.int .u8 23, .int .u8 13] 5)) := (Below.refl _ _).alloc (Nat.le_refl _) _
            have Hjn := hide (join_any _ _ _ [23, 13] (tb true f 6 ++ [90]) (bytes_new w5.drew [23, 13]) (hx6.below hb7) (by rw [(unhide Htm).2]; simp))
            have Hb7 := hide ((unhide Hb5).trans (hb7.mono (unhide Hb5).size))
            clear hx6 hb7 a0 a1 a2 a3 a4 a5
            go_wp2_with fail
            refine (unhide Hjn).mono ?_
            rintro e w8 ⟨x8, rfl, hR8⟩
            have Hb8 := hide ((unhide Hb7).trans (hR8.b.mono (unhide Hb7).size))
            have Hrd := hide ((unhide HC).read w8 _ _ (unhide HR w8 (unhide Hb8)) hR8.bytes (by rw [List.length_append, (unhide Htm).2]; simp))
            rw [unhide Hrd0] at Hrd
            simp only [errOf, valOf] at Hrd
            clear hR8 Hjn
            go_wp2_with fail
            refine (unhide Hrd).mono ?_
            rintro e w9 ⟨cs9, rfl, ⟨n9, hv9⟩, hb9⟩
            obtain ⟨r1, t1, r2, t2, rfl⟩ := hv9.form
            unfold dcells
            have Hb9 := hide ((unhide Hb8).trans (hb9.mono (unhide Hb8).size))
            clear hb9 hv9 Hrd
            go_wp2
            go_ret
            exact ⟨rfl, (unhide Hb9).alloc (unhide Hb9).size _⟩
      · have k1 : decide ((Y1 : Int) < 1950) = false := by simp; omega
        have k1n : decide (Y1 < 1950) = false := by simp; omega
        have yb : (Y1 : Int) ≤ 10000 := by omega
        have Yb : Y1 ≤ 100000 := by omega
        go_wp2_with (first
          | (at_builtin; refine wpList_append_row rfl _ _ rfl (.slice s N cp) (.slice (some ⟨wr.heap.size, 0, none⟩) 1 1) (tb true f 6) [90] rfl (unhide HRo2) rfl (unhide HZ) (unhide Hl1) ?_
             intro v5 w5 hR5
             obtain ⟨s5, c5, rfl⟩ := hR5.own.form
             have e5 := (unhide Htm).2
             rw [e5] at hR5
             rw [e5]
             have HR5 := hide hR5
             obtain ⟨a0, a1, a2, a3, a4, a5⟩ := unhide HK2 w5 hR5.b
             clear hR5 e5))
        have HYr : Hid (yearOf true m0 = Y1) := by show _ = _; unfold yearOf; rw [if_pos rfl, if_neg (by omega)]; omega
        rw [unhide HYr] at Htm
        have Hdy := hide (fun w => days_any Y1 m1 (by omega) (by omega) w)
        obtain ⟨D, hD⟩ : ∃ D, daysP Y1 m1 = D := ⟨_, rfl⟩
        simp only [hD] at Hdy
        rcases (by omega : (m1 < 1) ∨ (1 ≤ m1 ∧ 12 < m1) ∨ (1 ≤ m1 ∧ m1 ≤ 12 ∧ m2 < 1) ∨ (1 ≤ m1 ∧ m1 ≤ 12 ∧ 1 ≤ m2 ∧ D < m2) ∨ (1 ≤ m1 ∧ m1 ≤ 12 ∧ 1 ≤ m2 ∧ m2 ≤ D ∧ 23 < m3) ∨ (1 ≤ m1 ∧ m1 ≤ 12 ∧ 1 ≤ m2 ∧ m2 ≤ D ∧ m3 ≤ 23 ∧ 59 < m4) ∨ (1 ≤ m1 ∧ m1 ≤ 12 ∧ 1 ≤ m2 ∧ m2 ≤ D ∧ m3 ≤ 23 ∧ m4 ≤ 59 ∧ 59 < m5) ∨ (1 ≤ m1 ∧ m1 ≤ 12 ∧ 1 ≤ m2 ∧ m2 ≤ D ∧ m3 ≤ 23 ∧ m4 ≤ 59 ∧ m5 ≤ 59)) with hc | hc | hc | hc | hc | hc | hc | hc
        · have t0 : decide ((1 : Int) ≤ (m1 : Int)) = false := by simp; omega
          have t0n : decide (1 ≤ m1) = false := by simp; omega
          have Hcal : Hid (calP Y1 m1 m2 m3 m4 m5 = false) := by show _ = _; unfold calP; rw [hD]; simp; omega
          have Hrd0 : Hid (readP formD ([23, 13] ++ (tb true f 6 ++ [90])) = .no 24) := by
            show _ = _
            have h1 := read_plain (t := 23) (by omega) (tb true f 6 ++ [90]) (by rw [(unhide Htm).2]; omega)
            have h2 := form_time true (tb true f 6 ++ [90])
            simp only [if_true] at h2
            rw [(unhide Htm).1, unhide Hcal] at h2
            simp only [Bool.false_eq_true, if_false] at h2
            rw [(unhide Htm).2, h2] at h1
            exact h1
          clear hc hD Hcal
          go_region
          all_goals
            have hx6 : BytesAt w5.drew (.slice s5 13 c5) (tb true f 6 ++ [90]) := (unhide HR5).bytes.drew
            have Hb5 := hide (((unhide Hb2).trans ((unhide HR5).b.mono (unhide Hb2).size)).drew)
            have hb7 : Below w5.drew.heap.size w5.drew (w5.drew.alloc (.cells #[.int .u8 23, .int .u8 13] 5)) := (Below.refl _ _).alloc (Nat.le_refl _) _
            have Hjn := hide (join_any _ _ _ [23, 13] (tb true f 6 ++ [90]) (bytes_new w5.drew [23, 13]) (hx6.below hb7) (by rw [(unhide Htm).2]; simp))
            have Hb7 := hide ((unhide Hb5).trans (hb7.mono (unhide Hb5).size))
            clear hx6 hb7 a0 a1 a2 a3 a4 a5
            go_wp2_with fail
            refine (unhide Hjn).mono ?_
            rintro e w8 ⟨x8, rfl, hR8⟩
            have Hb8 := hide ((unhide Hb7).trans (hR8.b.mono (unhide Hb7).size))
            have Hrd := hide ((unhide HC).read w8 _ _ (unhide HR w8 (unhide Hb8)) hR8.bytes (by rw [List.length_append, (unhide Htm).2]; simp))
            rw [unhide Hrd0] at Hrd
            simp only [errOf, valOf] at Hrd
            clear hR8 Hjn
            go_wp2_with fail
            refine (unhide Hrd).mono ?_
            rintro e w9 ⟨cs9, rfl, ⟨n9, hv9⟩, hb9⟩
            obtain ⟨r1, t1, r2, t2, rfl⟩ := hv9.form
            unfold dcells
            have Hb9 := hide ((unhide Hb8).trans (hb9.mono (unhide Hb8).size))
            clear hb9 hv9 Hrd
            go_wp2
            go_ret
            exact ⟨rfl, (unhide Hb9).alloc (unhide Hb9).size _⟩
        · have t0 : decide ((1 : Int) ≤ (m1 : Int)) = true := by simp; omega
          have t0n : decide (1 ≤ m1) = true := by simp; omega
          have t1 : decide ((m1 : Int) ≤ 12) = false := by simp; omega
          have t1n : decide (m1 ≤ 12) = false := by simp; omega
          have Hcal : Hid (calP Y1 m1 m2 m3 m4 m5 = false) := by show _ = _; unfold calP; rw [hD]; simp; omega
          have Hrd0 : Hid (readP formD ([23, 13] ++ (tb true f 6 ++ [90])) = .no 24) := by
            show _ = _
            have h1 := read_plain (t := 23) (by omega) (tb true f 6 ++ [90]) (by rw [(unhide Htm).2]; omega)
            have h2 := form_time true (tb true f 6 ++ [90])
            simp only [if_true] at h2
            rw [(unhide Htm).1, unhide Hcal] at h2
            simp only [Bool.false_eq_true, if_false] at h2
            rw [(unhide Htm).2, h2] at h1
            exact h1
          clear hc hD Hcal
          go_region
          all_goals
            have hx6 : BytesAt w5.drew (.slice s5 13 c5) (tb true f 6 ++ [90]) := (unhide HR5).bytes.drew
            have Hb5 := hide (((unhide Hb2).trans ((unhide HR5).b.mono (unhide Hb2).size)).drew)
            have hb7 : Below w5.drew.heap.size w5.drew (w5.drew.alloc (.cells #[.int .u8 23, .int .u8 13] 5)) := (Below.refl _ _).alloc (Nat.le_refl _) _
            have Hjn := hide (join_any _ _ _ [23, 13] (tb true f 6 ++ [90]) (bytes_new w5.drew [23, 13]) (hx6.below hb7) (by rw [(unhide Htm).2]; simp))
            have Hb7 := hide ((unhide Hb5).trans (hb7.mono (unhide Hb5).size))
            clear hx6 hb7 a0 a1 a2 a3 a4 a5
            go_wp2_with fail
            refine (unhide Hjn).mono ?_
            rintro e w8 ⟨x8, rfl, hR8⟩
            have Hb8 := hide ((unhide Hb7).trans (hR8.b.mono (unhide Hb7).size))
            have Hrd := hide ((unhide HC).read w8 _ _ (unhide HR w8 (unhide Hb8)) hR8.bytes (by rw [List.length_append, (unhide Htm).2]; simp))
            rw [unhide Hrd0] at Hrd
            simp only [errOf, valOf] at Hrd
            clear hR8 Hjn
            go_wp2_with fail
            refine (unhide Hrd).mono ?_
            rintro e w9 ⟨cs9, rfl, ⟨n9, hv9⟩, hb9⟩
            obtain ⟨r1, t1, r2, t2, rfl⟩ := hv9.form
            unfold dcells
            have Hb9 := hide ((unhide Hb8).trans (hb9.mono (unhide Hb8).size))
            clear hb9 hv9 Hrd
            go_wp2
            go_ret
            exact ⟨rfl, (unhide Hb9).alloc (unhide Hb9).size _⟩
        · have t0 : decide ((1 : Int) ≤ (m1 : Int)) = true := by simp; omega
          have t0n : decide (1 ≤ m1) = true := by simp; omega
          have t1 : decide ((m1 : Int) ≤ 12) = true := by simp; omega
          have t1n : decide (m1 ≤ 12) = true := by simp; omega
          have t2 : decide ((1 : Int) ≤ (m2 : Int)) = false := by simp; omega
          have t2n : decide (1 ≤ m2) = false := by simp; omega
          have Hcal : Hid (calP Y1 m1 m2 m3 m4 m5 = false) := by show _ = _; unfold calP; rw [hD]; simp; omega
          have Hrd0 : Hid (readP formD ([23, 13] ++ (tb true f 6 ++ [90])) = .no 24) := by
            show _ = _
            have h1 := read_plain (t := 23) (by omega) (tb true f 6 ++ [90]) (by rw [(unhide Htm).2]; omega)
            have h2 := form_time true (tb true f 6 ++ [90])
            simp only [if_true] at h2
            rw [(unhide Htm).1, unhide Hcal] at h2
            simp only [Bool.false_eq_true, if_false] at h2
            rw [(unhide Htm).2, h2] at h1
            exact h1
          clear hc hD Hcal
          go_region
          all_goals
            have hx6 : BytesAt w5.drew (.slice s5 13 c5) (tb true f 6 ++ [90]) := (unhide HR5).bytes.drew
            have Hb5 := hide (((unhide Hb2).trans ((unhide HR5).b.mono (unhide Hb2).size)).drew)
            have hb7 : Below w5.drew.heap.size w5.drew (w5.drew.alloc (.cells #[.int .u8 23, .int .u8 13] 5)) := (Below.refl _ _).alloc (Nat.le_refl _) _
            have Hjn := hide (join_any _ _ _ [23, 13] (tb true f 6 ++ [90]) (bytes_new w5.drew [23, 13]) (hx6.below hb7) (by rw [(unhide Htm).2]; simp))
            have Hb7 := hide ((unhide Hb5).trans (hb7.mono (unhide Hb5).size))
            clear hx6 hb7 a0 a1 a2 a3 a4 a5
            go_wp2_with fail
            refine (unhide Hjn).mono ?_
            rintro e w8 ⟨x8, rfl, hR8⟩
            have Hb8 := hide ((unhide Hb7).trans (hR8.b.mono (unhide Hb7).size))
            have Hrd := hide ((unhide HC).read w8 _ _ (unhide HR w8 (unhide Hb8)) hR8.bytes (by rw [List.length_append, (unhide Htm).2]; simp))
            rw [unhide Hrd0] at Hrd
            simp only [errOf, valOf] at Hrd
            clear hR8 Hjn
            go_wp2_with fail
            refine (unhide Hrd).mono ?_
            rintro e w9 ⟨cs9, rfl, ⟨n9, hv9⟩, hb9⟩
            obtain ⟨r1, t1, r2, t2, rfl⟩ := hv9.form
            unfold dcells
            have Hb9 := hide ((unhide Hb8).trans (hb9.mono (unhide Hb8).size))
            clear hb9 hv9 Hrd
            go_wp2
            go_ret
            exact ⟨rfl, (unhide Hb9).alloc (unhide Hb9).size _⟩
        · have t0 : decide ((1 : Int) ≤ (m1 : Int)) = true := by simp; omega
          have t0n : decide (1 ≤ m1) = true := by simp; omega
          have t1 : decide ((m1 : Int) ≤ 12) = true := by simp; omega
          have t1n : decide (m1 ≤ 12) = true := by simp; omega
          have t2 : decide ((1 : Int) ≤ (m2 : Int)) = true := by simp; omega
          have t2n : decide (1 ≤ m2) = true := by simp; omega
          have t3 : decide ((m2 : Int) ≤ (D : Int)) = false := by simp; omega
          have t3n : decide (m2 ≤ D) = false := by simp; omega
          have Hcal : Hid (calP Y1 m1 m2 m3 m4 m5 = false) := by show _ = _; unfold calP; rw [hD]; simp; omega
          have Hrd0 : Hid (readP formD ([23, 13] ++ (tb true f 6 ++ [90])) = .no 24) := by
            show _ = _
            have h1 := read_plain (t := 23) (by omega) (tb true f 6 ++ [90]) (by rw [(unhide Htm).2]; omega)
            have h2 := form_time true (tb true f 6 ++ [90])
            simp only [if_true] at h2
            rw [(unhide Htm).1, unhide Hcal] at h2
            simp only [Bool.false_eq_true, if_false] at h2
            rw [(unhide Htm).2, h2] at h1
            exact h1
          clear hc hD Hcal
          (first | go_region_with (go_at_call 11; refine (unhide Hdy _).mono ?_; rintro e w6 ⟨rfl, rfl⟩) | fail)
          all_goals
            have hx6 : BytesAt w5.drew (.slice s5 13 c5) (tb true f 6 ++ [90]) := (unhide HR5).bytes.drew
            have Hb5 := hide (((unhide Hb2).trans ((unhide HR5).b.mono (unhide Hb2).size)).drew)
            have hb7 : Below w5.drew.heap.size w5.drew (w5.drew.alloc (.cells #[.int .u8 23, .int .u8 13] 5)) := (Below.refl _ _).alloc (Nat.le_refl _) _
            have Hjn := hide (join_any _ _ _ [23, 13] (tb true f 6 ++ [90]) (bytes_new w5.drew [23, 13]) (hx6.below hb7) (by rw [(unhide Htm).2]; simp))
            have Hb7 := hide ((unhide Hb5).trans (hb7.mono (unhide Hb5).size))
            clear hx6 hb7 a0 a1 a2 a3 a4 a5
            go_wp2_with fail
            refine (unhide Hjn).mono ?_
            rintro e w8 ⟨x8, rfl, hR8⟩
            have Hb8 := hide ((unhide Hb7).trans (hR8.b.mono (unhide Hb7).size))
            have Hrd := hide ((unhide HC).read w8 _ _ (unhide HR w8 (unhide Hb8)) hR8.bytes (by rw [List.length_append, (unhide Htm).2]; simp))
            rw [unhide Hrd0] at Hrd
            simp only [errOf, valOf] at Hrd
            clear hR8 Hjn
            go_wp2_with fail
            refine (unhide Hrd).mono ?_
            rintro e w9 ⟨cs9, rfl, ⟨n9, hv9⟩, hb9⟩
            obtain ⟨r1, t1, r2, t2, rfl⟩ := hv9.form
            unfold dcells
            have Hb9 := hide ((unhide Hb8).trans (hb9.mono (unhide Hb8).size))
            clear hb9 hv9 Hrd
            go_wp2
            go_ret
            exact ⟨rfl, (unhide Hb9).alloc (unhide Hb9).size _⟩
        · have t0 : decide ((1 : Int) ≤ (m1 : Int)) = true := by simp; omega
          have t0n : decide (1 ≤ m1) = true := by simp; omega
          have t1 : decide ((m1 : Int) ≤ 12) = true := by simp; omega
          have t1n : decide (m1 ≤ 12) = true := by simp; omega
          have t2 : decide ((1 : Int) ≤ (m2 : Int)) = true := by simp; omega
          have t2n : decide (1 ≤ m2) = true := by simp; omega
          have t3 : decide ((m2 : Int) ≤ (D : Int)) = true := by simp; omega
          have t3n : decide (m2 ≤ D) = true := by simp; omega
          have t4 : decide ((m3 : Int) < 24) = false := by simp; omega
          have t4n : decide (m3 < 24) = false := by simp; omega
          have Hcal : Hid (calP Y1 m1 m2 m3 m4 m5 = false) := by show _ = _; unfold calP; rw [hD]; simp; omega
          have Hrd0 : Hid (readP formD ([23, 13] ++ (tb true f 6 ++ [90])) = .no 24) := by
            show _ = _
            have h1 := read_plain (t := 23) (by omega) (tb true f 6 ++ [90]) (by rw [(unhide Htm).2]; omega)
            have h2 := form_time true (tb true f 6 ++ [90])
            simp only [if_true] at h2
            rw [(unhide Htm).1, unhide Hcal] at h2
            simp only [Bool.false_eq_true, if_false] at h2
            rw [(unhide Htm).2, h2] at h1
            exact h1
          clear hc hD Hcal
          (first | go_region_with (go_at_call 11; refine (unhide Hdy _).mono ?_; rintro e w6 ⟨rfl, rfl⟩) | fail)
          all_goals
            have hx6 : BytesAt w5.drew (.slice s5 13 c5) (tb true f 6 ++ [90]) := (unhide HR5).bytes.drew
            have Hb5 := hide (((unhide Hb2).trans ((unhide HR5).b.mono (unhide Hb2).size)).drew)
            have hb7 : Below w5.drew.heap.size w5.drew (w5.drew.alloc (.cells #[.int .u8 23, .int .u8 13] 5)) := (Below.refl _ _).alloc (Nat.le_refl _) _
            have Hjn := hide (join_any _ _ _ [23, 13] (tb true f 6 ++ [90]) (bytes_new w5.drew [23, 13]) (hx6.below hb7) (by rw [(unhide Htm).2]; simp))
            have Hb7 := hide ((unhide Hb5).trans (hb7.mono (unhide Hb5).size))
            clear hx6 hb7 a0 a1 a2 a3 a4 a5
            go_wp2_with fail
            refine (unhide Hjn).mono ?_
            rintro e w8 ⟨x8, rfl, hR8⟩
            have Hb8 := hide ((unhide Hb7).trans (hR8.b.mono (unhide Hb7).size))
            have Hrd := hide ((unhide HC).read w8 _ _ (unhide HR w8 (unhide Hb8)) hR8.bytes (by rw [List.length_append, (unhide Htm).2]; simp))
            rw [unhide Hrd0] at Hrd
            simp only [errOf, valOf] at Hrd
            clear hR8 Hjn
            go_wp2_with fail
            refine (unhide Hrd).mono ?_
            rintro e w9 ⟨cs9, rfl, ⟨n9, hv9⟩, hb9⟩
            obtain ⟨r1, t1, r2, t2, rfl⟩ := hv9.form
            unfold dcells
            have Hb9 := hide ((unhide Hb8).trans (hb9.mono (unhide Hb8).size))
            clear hb9 hv9 Hrd
            go_wp2
            go_ret
            exact ⟨rfl, (unhide Hb9).alloc (unhide Hb9).size _⟩
        · have t0 : decide ((1 : Int) ≤ (m1 : Int)) = true := by simp; omega
          have t0n : decide (1 ≤ m1) = true := by simp; omega
          have t1 : decide ((m1 : Int) ≤ 12) = true := by simp; omega
          have t1n : decide (m1 ≤ 12) = true := by simp; omega
          have t2 : decide ((1 : Int) ≤ (m2 : Int)) = true := by simp; omega
          have t2n : decide (1 ≤ m2) = true := by simp; omega
          have t3 : decide ((m2 : Int) ≤ (D : Int)) = true := by simp; omega
          have t3n : decide (m2 ≤ D) = true := by simp; omega
          have t4 : decide ((m3 : Int) < 24) = true := by simp; omega
          have t4n : decide (m3 < 24) = true := by simp; omega
          have t5 : decide ((m4 : Int) < 60) = false := by simp; omega
          have t5n : decide (m4 < 60) = false := by simp; omega
          have Hcal : Hid (calP Y1 m1 m2 m3 m4 m5 = false) := by show _ = _; unfold calP; rw [hD]; simp; omega
          have Hrd0 : Hid (readP formD ([23, 13] ++ (tb true f 6 ++ [90])) = .no 24) := by
            show _ = _
            have h1 := read_plain (t := 23) (by omega) (tb true f 6 ++ [90]) (by rw [(unhide Htm).2]; omega)
            have h2 := form_time true (tb true f 6 ++ [90])
            simp only [if_true] at h2
            rw [(unhide Htm).1, unhide Hcal] at h2
            simp only [Bool.false_eq_true, if_false] at h2
            rw [(unhide Htm).2, h2] at h1
            exact h1
          clear hc hD Hcal
          (first | go_region_with (go_at_call 11; refine (unhide Hdy _).mono ?_; rintro e w6 ⟨rfl, rfl⟩) | fail)
          all_goals
            have hx6 : BytesAt w5.drew (.slice s5 13 c5) (tb true f 6 ++ [90]) := (unhide HR5).bytes.drew
            have Hb5 := hide (((unhide Hb2).trans ((unhide HR5).b.mono (unhide Hb2).size)).drew)
            have hb7 : Below w5.drew.heap.size w5.drew (w5.drew.alloc (.cells #[.int .u8 23, .int .u8 13] 5)) := (Below.refl _ _).alloc (Nat.le_refl _) _
            have Hjn := hide (join_any _ _ _ [23, 13] (tb true f 6 ++ [90]) (bytes_new w5.drew [23, 13]) (hx6.below hb7) (by rw [(unhide Htm).2]; simp))
            have Hb7 := hide ((unhide Hb5).trans (hb7.mono (unhide Hb5).size))
            clear hx6 hb7 a0 a1 a2 a3 a4 a5
            go_wp2_with fail
            refine (unhide Hjn).mono ?_
            rintro e w8 ⟨x8, rfl, hR8⟩
            have Hb8 := hide ((unhide Hb7).trans (hR8.b.mono (unhide Hb7).size))
            have Hrd := hide ((unhide HC).read w8 _ _ (unhide HR w8 (unhide Hb8)) hR8.bytes (by rw [List.length_append, (unhide Htm).2]; simp))
            rw [unhide Hrd0] at Hrd
            simp only [errOf, valOf] at Hrd
            clear hR8 Hjn
            go_wp2_with fail
            refine (unhide Hrd).mono ?_
            rintro e w9 ⟨cs9, rfl, ⟨n9, hv9⟩, hb9⟩
            obtain ⟨r1, t1, r2, t2, rfl⟩ := hv9.form
            unfold dcells
            have Hb9 := hide ((unhide Hb8).trans (hb9.mono (unhide Hb8).size))
            clear hb9 hv9 Hrd
            go_wp2
            go_ret
            exact ⟨rfl, (unhide Hb9).alloc (unhide Hb9).size _⟩
        · have t0 : decide ((1 : Int) ≤ (m1 : Int)) = true := by simp; omega
          have t0n : decide (1 ≤ m1) = true := by simp; omega
          have t1 : decide ((m1 : Int) ≤ 12) = true := by simp; omega
          have t1n : decide (m1 ≤ 12) = true := by simp; omega
          have t2 : decide ((1 : Int) ≤ (m2 : Int)) = true := by simp; omega
          have t2n : decide (1 ≤ m2) = true := by simp; omega
          have t3 : decide ((m2 : Int) ≤ (D : Int)) = true := by simp; omega
          have t3n : decide (m2 ≤ D) = true := by simp; omega
          have t4 : decide ((m3 : Int) < 24) = true := by simp; omega
          have t4n : decide (m3 < 24) = true := by simp; omega
          have t5 : decide ((m4 : Int) < 60) = true := by simp; omega
          have t5n : decide (m4 < 60) = true := by simp; omega
          have t6 : decide ((m5 : Int) < 60) = false := by simp; omega
          have t6n : decide (m5 < 60) = false := by simp; omega
          have Hcal : Hid (calP Y1 m1 m2 m3 m4 m5 = false) := by show _ = _; unfold calP; rw [hD]; simp; omega
          have Hrd0 : Hid (readP formD ([23, 13] ++ (tb true f 6 ++ [90])) = .no 24) := by
            show _ = _
            have h1 := read_plain (t := 23) (by omega) (tb true f 6 ++ [90]) (by rw [(unhide Htm).2]; omega)
            have h2 := form_time true (tb true f 6 ++ [90])
            simp only [if_true] at h2
            rw [(unhide Htm).1, unhide Hcal] at h2
            simp only [Bool.false_eq_true, if_false] at h2
            rw [(unhide Htm).2, h2] at h1
            exact h1
          clear hc hD Hcal
          (first | go_region_with (go_at_call 11; refine (unhide Hdy _).mono ?_; rintro e w6 ⟨rfl, rfl⟩) | fail)
          all_goals
            have hx6 : BytesAt w5.drew (.slice s5 13 c5) (tb true f 6 ++ [90]) := (unhide HR5).bytes.drew
            have Hb5 := hide (((unhide Hb2).trans ((unhide HR5).b.mono (unhide Hb2).size)).drew)
            have hb7 : Below w5.drew.heap.size w5.drew (w5.drew.alloc (.cells #[.int .u8 23, .int .u8 13] 5)) := (Below.refl _ _).alloc (Nat.le_refl _) _
            have Hjn := hide (join_any _ _ _ [23, 13] (tb true f 6 ++ [90]) (bytes_new w5.drew [23, 13]) (hx6.below hb7) (by rw [(unhide Htm).2]; simp))
            have Hb7 := hide ((unhide Hb5).trans (hb7.mono (unhide Hb5).size))
            clear hx6 hb7 a0 a1 a2 a3 a4 a5
            go_wp2_with fail
            refine (unhide Hjn).mono ?_
            rintro e w8 ⟨x8, rfl, hR8⟩
            have Hb8 := hide ((unhide Hb7).trans (hR8.b.mono (unhide Hb7).size))
            have Hrd := hide ((unhide HC).read w8 _ _ (unhide HR w8 (unhide Hb8)) hR8.bytes (by rw [List.length_append, (unhide Htm).2]; simp))
            rw [unhide Hrd0] at Hrd
            simp only [errOf, valOf] at Hrd
            clear hR8 Hjn
            go_wp2_with fail
            refine (unhide Hrd).mono ?_
            rintro e w9 ⟨cs9, rfl, ⟨n9, hv9⟩, hb9⟩
            obtain ⟨r1, t1, r2, t2, rfl⟩ := hv9.form
            unfold dcells
            have Hb9 := hide ((unhide Hb8).trans (hb9.mono (unhide Hb8).size))
            clear hb9 hv9 Hrd
            go_wp2
            go_ret
            exact ⟨rfl, (unhide Hb9).alloc (unhide Hb9).size _⟩
        · have t0 : decide ((1 : Int) ≤ (m1 : Int)) = true := by simp; omega
          have t0n : decide (1 ≤ m1) = true := by simp; omega
          have t1 : decide ((m1 : Int) ≤ 12) = true := by simp; omega
          have t1n : decide (m1 ≤ 12) = true := by simp; omega
          have t2 : decide ((1 : Int) ≤ (m2 : Int)) = true := by simp; omega
          have t2n : decide (1 ≤ m2) = true := by simp; omega
          have t3 : decide ((m2 : Int) ≤ (D : Int)) = true := by simp; omega
          have t3n : decide (m2 ≤ D) = true := by simp; omega
          have t4 : decide ((m3 : Int) < 24) = true := by simp; omega
          have t4n : decide (m3 < 24) = true := by simp; omega
          have t5 : decide ((m4 : Int) < 60) = true := by simp; omega
          have t5n : decide (m4 < 60) = true := by simp; omega
          have t6 : decide ((m5 : Int) < 60) = true := by simp; omega
          have t6n : decide (m5 < 60) = true := by simp; omega
          have Hcal : Hid (calP Y1 m1 m2 m3 m4 m5 = true) := by show _ = _; unfold calP; rw [hD]; simp; omega
          have Hrd0 : Hid (readP formD ([23, 13] ++ (tb true f 6 ++ [90])) = .yes (.mk 0 23 false (tb true f 6 ++ [90]) [])) := by
            show _ = _
            have h1 := read_plain (t := 23) (by omega) (tb true f 6 ++ [90]) (by rw [(unhide Htm).2]; omega)
            have h2 := form_time true (tb true f 6 ++ [90])
            simp only [if_true] at h2
            rw [(unhide Htm).1, unhide Hcal] at h2
            simp only [if_true] at h2
            rw [(unhide Htm).2, h2] at h1
            exact h1
          clear hc hD Hcal
          go_region_held3 (fun w' => w'.cell? ⟨A, 1, none⟩ = some (.int .i64 (m1 : Int)) ∧ w'.cell? ⟨A, 2, none⟩ = some (.int .i64 (m2 : Int)) ∧ w'.cell? ⟨A, 3, none⟩ = some (.int .i64 (m3 : Int)) ∧ w'.cell? ⟨A, 4, none⟩ = some (.int .i64 (m4 : Int)) ∧ w'.cell? ⟨A, 5, none⟩ = some (.int .i64 (m5 : Int))) (go_keep) ((go_at_call 11; refine (unhide Hdy _).mono ?_; rintro e w6 ⟨rfl, rfl⟩))
          all_goals
            have hx6 : BytesAt w5.drew (.slice s5 13 c5) (tb true f 6 ++ [90]) := (unhide HR5).bytes.drew
            have Hb5 := hide (((unhide Hb2).trans ((unhide HR5).b.mono (unhide Hb2).size)).drew)
            have hb7 : Below w5.drew.heap.size w5.drew (w5.drew.alloc (.cells #[.int .u8 23, .int .u8 13] 5)) := (Below.refl _ _).alloc (Nat.le_refl _) _
            have Hjn := hide (join_any _ _ _ [23, 13] (tb true f 6 ++ [90]) (bytes_new w5.drew [23, 13]) (hx6.below hb7) (by rw [(unhide Htm).2]; simp))
            have Hb7 := hide ((unhide Hb5).trans (hb7.mono (unhide Hb5).size))
            clear hx6 hb7 a0 a1 a2 a3 a4 a5
            go_wp2_with fail
            refine (unhide Hjn).mono ?_
            rintro e w8 ⟨x8, rfl, hR8⟩
            have Hb8 := hide ((unhide Hb7).trans (hR8.b.mono (unhide Hb7).size))
            have Hrd := hide ((unhide HC).read w8 _ _ (unhide HR w8 (unhide Hb8)) hR8.bytes (by rw [List.length_append, (unhide Htm).2]; simp))
            rw [unhide Hrd0] at Hrd
            simp only [errOf, valOf] at Hrd
            clear hR8 Hjn
            go_wp2_with fail
            refine (unhide Hrd).mono ?_
            rintro e w9 ⟨cs9, rfl, ⟨n9, hv9⟩, hb9⟩
            obtain ⟨r1, t1, r2, t2, rfl⟩ := hv9.form
            unfold dcells
            have Hb9 := hide ((unhide Hb8).trans (hb9.mono (unhide Hb8).size))
            clear hb9 hv9 Hrd
            go_wp2
            go_ret
            exact ⟨rfl, (unhide Hb9).alloc (unhide Hb9).size _⟩
end Go.Proofs.YtngkidlgcdofhabDoor
