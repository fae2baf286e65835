/-
  The walks of the landed putLength and putTag.
-/
import Derived.Test.YtngkidlgcdofhabDoorKl
import Derived.OwnWalk
namespace Go.Proofs.YtngkidlgcdofhabDoor
open Go.RowKit
namespace K
/-- One byte, just laid. -/
theorem one_lit (w : World) (β : UInt8) {z : Nat} (h : β.toNat = z) : BytesAt (w.alloc (.cells #[.int .u8 (z : Int)] 5)) (.slice (some ⟨w.heap.size, 0, none⟩) 1 1) [β] := by
  subst h
  exact bytes_new w [β]
theorem byte_let (q : Nat) : (UInt8.ofNat q).toNat = q % 256 := by rw [UInt8.toNat_ofNat']
theorem lowB_at : ∀ (k n i : Nat), i < (lowB k n).length → (lowB k n).getD i 0 = UInt8.ofNat (n / 256 ^ i)
  | 0, n, i, h => by simp [lowB] at h
  | k + 1, n, i, h => by
    by_cases h0 : n = 0
    · rw [h0] at h
      simp [lowB] at h
    · have e : lowB (k + 1) n = UInt8.ofNat n :: lowB k (n / 256) := by show (if n = 0 then _ else _) = _; rw [if_neg h0]
      rw [e] at h ⊢
      match i with
      | 0 => simp
      | i + 1 =>
        rw [List.getD_cons_succ, lowB_at k (n / 256) i (by simpa using h), Nat.pow_succ, Nat.mul_comm, Nat.div_div_eq_div_mul]
theorem rev_at {l : Bs} {j : Nat} (h : j < l.length) : l.reverse.take (j + 1) = l.reverse.take j ++ [l.getD (l.length - 1 - j) 0] := by
  have h' : j < l.reverse.length := by rw [List.length_reverse]; exact h
  rw [List.take_add_one, List.getElem?_eq_getElem h', List.getElem_reverse, List.getD_eq_getElem?_getD, List.getElem?_eq_getElem (by omega)]
  rfl
set_option maxRecDepth 100000 in
set_option maxHeartbeats 8000000 in
theorem plen_c (wb w : World) (v : Value) (l : Bs) (n : Nat) (hR : Row wb w v l) (hl : l.length ≤ 20000000) (hn : n < 16777216) :
    Calls Tryd.prog 30 #[v, .int .i64 (n : Int)] w fun e w' => ∃ v', e = .returned v' ∧ Row wb w' v' (l ++ lenB n) := by
  obtain ⟨sp, c, rfl⟩ := hR.own.form
  obtain ⟨N, hN⟩ : ∃ N, l.length = N := ⟨_, rfl⟩
  have HN := hide hN
  by_cases h128 : n < 128
  · have d1 : decide ((n : Int) < 128) = true := by simp; omega
    have d1n : decide (n < 128) = true := by simp; omega
    have u8 : IntKind.u8.wrap (n : Int) = (n : Int) := by rw [IntKind.wrap_u8']; omega
    have HLn : Hid (lenB n = [UInt8.ofNat n]) := by show _ = _; unfold lenB; rw [if_pos h128]
    have HY : Hid (BytesAt (w.alloc (.cells #[.int .u8 (n : Int)] 5)) (.slice (some ⟨w.heap.size, 0, none⟩) 1 1) [UInt8.ofNat n]) := one_lit w _ (by rw [byte_let]; omega)
    have HR := hide (hR.lit (.cells #[.int .u8 (n : Int)] 5))
    rw [hN] at HR hl ⊢
    have Hll : Hid (l.length + [UInt8.ofNat n].length ≤ 1073741824) := by show _ ≤ _; rw [unhide HN]; simp; omega
    clear hR hN h128
    go_enter Tryd.func30, Tryd.ntmps30
    go_wp2_with (at_builtin; refine wpList_append_row rfl _ _ rfl (.slice sp N c) (.slice (some ⟨w.heap.size, 0, none⟩) 1 1) l [UInt8.ofNat n] rfl (unhide HR) rfl (unhide HY) (unhide Hll) ?_
                 intro v1 W1 hR1
                 have HR1 := hide hR1
                 clear hR1)
    go_ret
    exact ⟨_, rfl, by rw [unhide HLn]; exact unhide HR1⟩
  have d1 : decide ((n : Int) < 128) = false := by simp; omega
  have d1n : decide (n < 128) = false := by simp; omega
  have Hbl := hide (blen_c n (by omega) hn w)
  have HLn : Hid (lenB n = UInt8.ofNat (128 + (lowB n n).length) :: (lowB n n).reverse) := by show _ = _; unfold lenB; rw [if_neg h128]
  have hC := lowB_len4 (n := n) (by omega) (by omega)
  obtain ⟨C, hCe⟩ : ∃ C, (lowB n n).length = C := ⟨_, rfl⟩
  rw [hCe] at hC
  have hC3 : C ≤ 3 := by
    have a := lowB_big n n (Nat.le_refl _) (fun e => by rw [e] at hCe; simp at hCe; omega)
    rw [hCe] at a
    rcases Nat.lt_or_ge C 4 with h | h
    · omega
    · have := Nat.pow_le_pow_right (show 0 < 256 by omega) (show 3 ≤ C - 1 by omega)
      omega
  have HC := hide hCe
  obtain ⟨Z, hZ⟩ : ∃ Z, 128 + C = Z := ⟨_, rfl⟩
  have eZ : (128 : Int) + (C : Int) = (Z : Int) := by omega
  have uZ : IntKind.i64.wrap (Z : Int) = (Z : Int) := IntWalk.i64_in _ (by omega)
  have uZ8 : IntKind.u8.wrap (Z : Int) = (Z : Int) := by rw [IntKind.wrap_u8']; omega
  have un64 : IntKind.u64.wrap (n : Int) = (n : Int) := by show (n : Int) % 18446744073709551616 = _; omega
  have HY : Hid (BytesAt (w.alloc (.cells #[.int .u8 (Z : Int)] 5)) (.slice (some ⟨w.heap.size, 0, none⟩) 1 1) [UInt8.ofNat Z]) := one_lit w _ (by rw [byte_let]; omega)
  have HR := hide (hR.lit (.cells #[.int .u8 (Z : Int)] 5))
  have HLz : Hid (lenB n = [UInt8.ofNat Z] ++ (lowB n n).reverse) := by show _ = _; rw [unhide HLn, unhide HC, hZ]; rfl
  rw [hN] at HR hl ⊢
  have Hll : Hid (l.length + [UInt8.ofNat Z].length ≤ 1073741824) := by show _ ≤ _; rw [unhide HN]; simp; omega
  clear hR hN h128 HLn hZ hCe
  go_enter Tryd.func30, Tryd.ntmps30
  go_wp2_with fail
  refine (unhide Hbl).mono ?_
  rintro e w1 ⟨L, rfl, h24, hL, hw1⟩
  have := hw1.symm
  subst this
  rw [unhide HC] at hL
  obtain ⟨L7, hL7⟩ : ∃ L7, L + 7 = L7 := ⟨_, rfl⟩
  rw [hL7] at hL
  have eL7 : (L : Int) + 7 = (L7 : Int) := by omega
  have uL7 : IntKind.i64.wrap (L7 : Int) = (L7 : Int) := IntWalk.i64_in _ (by omega)
  have eC : (L7 : Int) / 8 = (C : Int) := by omega
  have uC : IntKind.i64.wrap (C : Int) = (C : Int) := IntWalk.i64_in _ (by omega)
  clear hL hL7 hw1 Hbl
  go_wp2_with (at_builtin; refine wpList_append_row rfl _ _ rfl (.slice sp N c) (.slice (some ⟨w.heap.size, 0, none⟩) 1 1) l [UInt8.ofNat Z] rfl (unhide HR) rfl (unhide HY) (unhide Hll) ?_
               intro v1 W1 hR1
               obtain ⟨p1, q1, rfl⟩ := hR1.own.form
               rw [show (l ++ [UInt8.ofNat Z]).length = N + 1 by rw [List.length_append, unhide HN]; rfl] at hR1 ⊢
               have HR1 := hide hR1
               clear hR1)
  go_loopw [0, 6] (fun bb ii wr => ∃ (j : Nat) (kk : Int) (sv : Option Addr) (M cv : Nat), j ≤ C ∧ kk = (C : Int) - 1 - (j : Int) ∧ bb = .slice sv M cv ∧ ii = .int .i64 kk ∧ M = N + 1 + j ∧ Hid (Row wb wr (.slice sv M cv) (l ++ [UInt8.ofNat Z] ++ (lowB n n).reverse.take j))) (fun _ ii _ => ((intOf ii) + 1).toNat)
  case atStart => exact ⟨0, _, p1, _, q1, by omega, rfl, rfl, by first | rfl | (congr 1; omega) | simp, rfl, by rw [List.take_zero, List.append_nil]; exact unhide HR1⟩
  case round =>
    obtain ⟨j, kk, sv, M, cv, hj, hkk, rfl, rfl, hM, HRr⟩ := hrel
    by_cases hlt : j < C
    · have HE : Hid ((lowB n n).reverse.take (j + 1) = (lowB n n).reverse.take j ++ [UInt8.ofNat (n / 256 ^ (C - 1 - j))]) := by
        show _ = _
        rw [rev_at (by rw [unhide HC]; exact hlt), unhide HC, lowB_at n n _ (by rw [unhide HC]; omega)]
      have Hll2 : Hid (∀ y : UInt8, (l ++ [UInt8.ofNat Z] ++ (lowB n n).reverse.take j).length + [y].length ≤ 1073741824) := fun y => by
        simp only [List.length_append, List.length_take, List.length_reverse, unhide HN, List.length_singleton]
        omega
      have HM := hide hM
      clear HR1 HR HY Hll
      rcases (by omega : kk = 0 ∨ kk = 1 ∨ kk = 2) with e | e | e
      · subst e
        obtain ⟨q, hq⟩ : ∃ q, n / 1 = q := ⟨_, rfl⟩
        obtain ⟨z, hz⟩ : ∃ z, q % 256 = z := ⟨_, rfl⟩
        have hqn : n = q := by omega
        have uq : IntKind.i64.wrap (q : Int) = (q : Int) := IntWalk.i64_in _ (by omega)
        have uz : IntKind.u8.wrap (n : Int) = (z : Int) := by rw [IntKind.wrap_u8']; omega
        have eJ : C - 1 - j = 0 := by omega
        rw [eJ] at HE
        have HY2 : Hid (BytesAt (wr.alloc (.cells #[.int .u8 (z : Int)] 5)) (.slice (some ⟨wr.heap.size, 0, none⟩) 1 1) [UInt8.ofNat (n / 256 ^ 0)]) := one_lit wr _ (by rw [byte_let]; omega)
        have HR2 := hide ((unhide HRr).lit (.cells #[.int .u8 (z : Int)] 5))
        have Hkk := hide hkk
        clear hq hz HRr eJ hM hkk hqn
        have HM3 : Hid ((l ++ [UInt8.ofNat Z] ++ (lowB n n).reverse.take j ++ [UInt8.ofNat (n / 256 ^ 0)]).length = N + 1 + (j + 1)) := by
          show _ = _
          have h1 : j ≤ (lowB n n).length := by rw [unhide HC]; omega
          simp only [List.length_append, List.length_take, List.length_reverse, unhide HN, List.length_singleton, Nat.min_eq_left h1]
          omega
        go_wp2_with (at_builtin; refine wpList_append_row rfl _ _ rfl (.slice sv M cv) (.slice (some ⟨wr.heap.size, 0, none⟩) 1 1) _ [UInt8.ofNat (n / 256 ^ 0)] rfl (unhide HR2) rfl (unhide HY2) (unhide Hll2 _) ?_
                     intro v3 W3 hR3
                     obtain ⟨p3, q3, rfl⟩ := hR3.own.form
                     rw [unhide HM3] at hR3 ⊢
                     have HR3 := hide hR3
                     clear hR3)
        have HR4 : Hid (Row wb W3 (.slice p3 (N + 1 + (j + 1)) q3) (l ++ [UInt8.ofNat Z] ++ (lowB n n).reverse.take (j + 1))) := by
          have h1 := unhide HR3
          rw [List.append_assoc, ← unhide HE] at h1
          exact h1
        clear HR3 HE HM3
        go_roundw
        case rel =>
          first
            | exact ⟨j + 1, -1, p3, _, q3, by omega, by have := unhide Hkk; omega, rfl, rfl, rfl, HR4⟩
            | exact ⟨⟨j + 1, -1, p3, _, q3, by omega, by have := unhide Hkk; omega, rfl, rfl, rfl, HR4⟩, rfl⟩
        case measure => simp [intOf]
      · subst e
        obtain ⟨q, hq⟩ : ∃ q, n / 256 = q := ⟨_, rfl⟩
        obtain ⟨z, hz⟩ : ∃ z, q % 256 = z := ⟨_, rfl⟩
        have eq : (n : Int) / 256 = (q : Int) := by omega
        have uq : IntKind.i64.wrap (q : Int) = (q : Int) := IntWalk.i64_in _ (by omega)
        have uz : IntKind.u8.wrap (q : Int) = (z : Int) := by rw [IntKind.wrap_u8']; omega
        have eJ : C - 1 - j = 1 := by omega
        rw [eJ] at HE
        have HY2 : Hid (BytesAt (wr.alloc (.cells #[.int .u8 (z : Int)] 5)) (.slice (some ⟨wr.heap.size, 0, none⟩) 1 1) [UInt8.ofNat (n / 256 ^ 1)]) := one_lit wr _ (by rw [byte_let]; omega)
        have HR2 := hide ((unhide HRr).lit (.cells #[.int .u8 (z : Int)] 5))
        have Hkk := hide hkk
        clear hq hz HRr eJ hM hkk
        have HM3 : Hid ((l ++ [UInt8.ofNat Z] ++ (lowB n n).reverse.take j ++ [UInt8.ofNat (n / 256 ^ 1)]).length = N + 1 + (j + 1)) := by
          show _ = _
          have h1 : j ≤ (lowB n n).length := by rw [unhide HC]; omega
          simp only [List.length_append, List.length_take, List.length_reverse, unhide HN, List.length_singleton, Nat.min_eq_left h1]
          omega
        go_wp2_with (at_builtin; refine wpList_append_row rfl _ _ rfl (.slice sv M cv) (.slice (some ⟨wr.heap.size, 0, none⟩) 1 1) _ [UInt8.ofNat (n / 256 ^ 1)] rfl (unhide HR2) rfl (unhide HY2) (unhide Hll2 _) ?_
                     intro v3 W3 hR3
                     obtain ⟨p3, q3, rfl⟩ := hR3.own.form
                     rw [unhide HM3] at hR3 ⊢
                     have HR3 := hide hR3
                     clear hR3)
        have HR4 : Hid (Row wb W3 (.slice p3 (N + 1 + (j + 1)) q3) (l ++ [UInt8.ofNat Z] ++ (lowB n n).reverse.take (j + 1))) := by
          have h1 := unhide HR3
          rw [List.append_assoc, ← unhide HE] at h1
          exact h1
        clear HR3 HE HM3
        go_roundw
        case rel =>
          first
            | exact ⟨j + 1, 0, p3, _, q3, by omega, by have := unhide Hkk; omega, rfl, rfl, rfl, HR4⟩
            | exact ⟨⟨j + 1, 0, p3, _, q3, by omega, by have := unhide Hkk; omega, rfl, rfl, rfl, HR4⟩, rfl⟩
        case measure => simp [intOf]
      · subst e
        obtain ⟨q, hq⟩ : ∃ q, n / 65536 = q := ⟨_, rfl⟩
        obtain ⟨z, hz⟩ : ∃ z, q % 256 = z := ⟨_, rfl⟩
        have eq : (n : Int) / 65536 = (q : Int) := by omega
        have uq : IntKind.i64.wrap (q : Int) = (q : Int) := IntWalk.i64_in _ (by omega)
        have uz : IntKind.u8.wrap (q : Int) = (z : Int) := by rw [IntKind.wrap_u8']; omega
        have eJ : C - 1 - j = 2 := by omega
        rw [eJ] at HE
        have HY2 : Hid (BytesAt (wr.alloc (.cells #[.int .u8 (z : Int)] 5)) (.slice (some ⟨wr.heap.size, 0, none⟩) 1 1) [UInt8.ofNat (n / 256 ^ 2)]) := one_lit wr _ (by rw [byte_let]; omega)
        have HR2 := hide ((unhide HRr).lit (.cells #[.int .u8 (z : Int)] 5))
        have Hkk := hide hkk
        clear hq hz HRr eJ hM hkk
        have HM3 : Hid ((l ++ [UInt8.ofNat Z] ++ (lowB n n).reverse.take j ++ [UInt8.ofNat (n / 256 ^ 2)]).length = N + 1 + (j + 1)) := by
          show _ = _
          have h1 : j ≤ (lowB n n).length := by rw [unhide HC]; omega
          simp only [List.length_append, List.length_take, List.length_reverse, unhide HN, List.length_singleton, Nat.min_eq_left h1]
          omega
        go_wp2_with (at_builtin; refine wpList_append_row rfl _ _ rfl (.slice sv M cv) (.slice (some ⟨wr.heap.size, 0, none⟩) 1 1) _ [UInt8.ofNat (n / 256 ^ 2)] rfl (unhide HR2) rfl (unhide HY2) (unhide Hll2 _) ?_
                     intro v3 W3 hR3
                     obtain ⟨p3, q3, rfl⟩ := hR3.own.form
                     rw [unhide HM3] at hR3 ⊢
                     have HR3 := hide hR3
                     clear hR3)
        have HR4 : Hid (Row wb W3 (.slice p3 (N + 1 + (j + 1)) q3) (l ++ [UInt8.ofNat Z] ++ (lowB n n).reverse.take (j + 1))) := by
          have h1 := unhide HR3
          rw [List.append_assoc, ← unhide HE] at h1
          exact h1
        clear HR3 HE HM3
        go_roundw
        case rel =>
          first
            | exact ⟨j + 1, 1, p3, _, q3, by omega, by have := unhide Hkk; omega, rfl, rfl, rfl, HR4⟩
            | exact ⟨⟨j + 1, 1, p3, _, q3, by omega, by have := unhide Hkk; omega, rfl, rfl, rfl, HR4⟩, rfl⟩
        case measure => simp [intOf]
    · obtain rfl : j = C := by omega
      have hk1 : kk = -1 := by omega
      subst hk1
      have HT : Hid (Row wb wr (.slice sv M cv) (l ++ lenB n)) := by
        have h1 := unhide HRr
        rw [List.take_of_length_le (by rw [List.length_reverse, unhide HC]; exact Nat.le_refl _), List.append_assoc, ← unhide HLz] at h1
        exact h1
      clear HRr
      go_wp2
      go_ret
      exact ⟨_, rfl, unhide HT⟩
end K
end Go.Proofs.YtngkidlgcdofhabDoor
