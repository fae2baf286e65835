/-
  The walks of the landed putTag and head.
-/
import Derived.Test.YtngkidlgcdofhabDoorKm
namespace Go.Proofs.YtngkidlgcdofhabDoor
open Go.RowKit
namespace K
/-- The groups of a tag, behind those that are put while k is above so much. -/
def tgTo (k t : Nat) : Bs := (if k ≤ 1 ∧ 16384 ≤ t then [UInt8.ofNat (128 + t / 16384)] else []) ++ (if k ≤ 0 ∧ 128 ≤ t then [UInt8.ofNat (128 + t / 128 % 128)] else [])
def tgs (t : Nat) : Bs := tgTo 0 t ++ [UInt8.ofNat (t % 128)]
theorem or128 : ∀ z : Fin 256, bits .or .u8 ((z.val : Nat) : Int) 128 = ((128 + z.val % 128 : Nat) : Int) := by decide +kernel
theorem tg_le (k t : Nat) : (tgTo k t).length ≤ 2 := by
  unfold tgTo
  split <;> split <;> simp
theorem tg_step2 (t : Nat) : tgTo 1 t = tgTo 2 t ++ (if 16384 ≤ t then [UInt8.ofNat (128 + t / 16384)] else []) := by
  unfold tgTo
  by_cases h : 16384 ≤ t <;> simp [h]
theorem tg_step1 (t : Nat) : tgTo 0 t = tgTo 1 t ++ (if 128 ≤ t then [UInt8.ofNat (128 + t / 128 % 128)] else []) := by
  unfold tgTo
  by_cases h : 16384 ≤ t <;> by_cases h2 : 128 ≤ t <;> simp [h, h2]
theorem tg_two (t : Nat) : tgTo 2 t = [] := by unfold tgTo; simp
set_option maxRecDepth 100000 in
set_option maxHeartbeats 8000000 in
theorem ptag_c (wb w : World) (v : Value) (l : Bs) (t : Nat) (hR : Row wb w v l) (hl : l.length ≤ 100) (ht : t < 2097152) :
    Calls Tryd.prog 29 #[v, .int .i64 (t : Int)] w fun e w' => ∃ v', e = .returned v' ∧ Row wb w' v' (l ++ tgs t) := by
  obtain ⟨sp, c, rfl⟩ := hR.own.form
  obtain ⟨N, hN⟩ : ∃ N, l.length = N := ⟨_, rfl⟩
  have HN := hide hN
  rw [hN] at hR hl ⊢
  have HR := hide hR
  clear hR hN
  go_enter Tryd.func29, Tryd.ntmps29
  go_wp2
  go_loopw [0, 5] (fun bb ii wr => ∃ (k : Nat) (kk : Int) (sv : Option Addr) (M cv : Nat), k ≤ 2 ∧ kk = (k : Int) ∧ bb = .slice sv M cv ∧ ii = .int .i64 kk ∧ Hid (M = (l ++ tgTo k t).length) ∧ Hid (Row wb wr (.slice sv M cv) (l ++ tgTo k t))) (fun _ ii _ => (intOf ii).toNat)
  case atStart => exact ⟨2, 2, sp, N, c, by omega, rfl, rfl, rfl, by rw [tg_two, List.append_nil]; exact (unhide HN).symm, by rw [tg_two, List.append_nil]; exact unhide HR⟩
  case round =>
    obtain ⟨k, kk, sv, M, cv, hk, hkk, rfl, rfl, HM, HRr⟩ := hrel
    clear HR
    rcases (by omega : k = 0 ∨ k = 1 ∨ k = 2) with e | e | e
    · subst e
      obtain rfl : kk = 0 := by omega
      obtain ⟨z, hz⟩ : ∃ z, t % 256 = z := ⟨_, rfl⟩
      obtain ⟨y, hy⟩ : ∃ y, z % 128 = y := ⟨_, rfl⟩
      have uz : IntKind.u8.wrap (t : Int) = (z : Int) := by rw [IntKind.wrap_u8']; omega
      have hand : bits .andNot .u8 (z : Int) 128 = (y : Int) := by rw [← hy]; exact low7 ⟨z, by omega⟩
      have HY : Hid (BytesAt (wr.alloc (.cells #[.int .u8 (y : Int)] 5)) (.slice (some ⟨wr.heap.size, 0, none⟩) 1 1) [UInt8.ofNat (t % 128)]) := one_lit wr _ (by rw [byte_let]; omega)
      have HR2 := hide ((unhide HRr).lit (.cells #[.int .u8 (y : Int)] 5))
      have Hll : Hid ((l ++ tgTo 0 t).length + [UInt8.ofNat (t % 128)].length ≤ 1073741824) := by
        show _ ≤ _
        have := tg_le 0 t
        rw [List.length_append, unhide HN, List.length_singleton]
        omega
      clear hz hy hk hkk HRr HM
      go_wp2_with (at_builtin; refine wpList_append_row rfl _ _ rfl (.slice sv M cv) (.slice (some ⟨wr.heap.size, 0, none⟩) 1 1) (l ++ tgTo 0 t) [UInt8.ofNat (t % 128)] rfl (unhide HR2) rfl (unhide HY) (unhide Hll) ?_
                   intro v3 W3 hR3
                   have HR3 := hide hR3
                   clear hR3)
      go_ret
      exact ⟨_, rfl, by have := unhide HR3; rw [List.append_assoc] at this; exact this⟩
    · subst e
      obtain rfl : kk = 1 := by omega
      by_cases hb : 128 ≤ t
      · have d1 : decide ((128 : Int) ≤ (t : Int)) = true := by simp; omega
        have d1n : decide (128 ≤ t) = true := by simp; omega
        obtain ⟨q, hq⟩ : ∃ q, t / 128 = q := ⟨_, rfl⟩
        obtain ⟨z, hz⟩ : ∃ z, q % 256 = z := ⟨_, rfl⟩
        obtain ⟨y, hy⟩ : ∃ y, 128 + z % 128 = y := ⟨_, rfl⟩
        have eq : (t : Int) / 128 = (q : Int) := by omega
        have uq : IntKind.i64.wrap (q : Int) = (q : Int) := IntWalk.i64_in _ (by omega)
        have uz : IntKind.u8.wrap (q : Int) = (z : Int) := by rw [IntKind.wrap_u8']; omega
        have hor : bits .or .u8 (z : Int) 128 = (y : Int) := by rw [← hy]; exact or128 ⟨z, by omega⟩
        have HE : Hid (tgTo 0 t = tgTo 1 t ++ [UInt8.ofNat (128 + t / 128 % 128)]) := by show _ = _; rw [tg_step1, if_pos hb]
        have HY : Hid (BytesAt (wr.alloc (.cells #[.int .u8 (y : Int)] 5)) (.slice (some ⟨wr.heap.size, 0, none⟩) 1 1) [UInt8.ofNat (128 + t / 128 % 128)]) := one_lit wr _ (by rw [byte_let]; omega)
        have HR2 := hide ((unhide HRr).lit (.cells #[.int .u8 (y : Int)] 5))
        have Hll : Hid ((l ++ tgTo 1 t).length + [UInt8.ofNat (128 + t / 128 % 128)].length ≤ 1073741824) := by
          show _ ≤ _
          have := tg_le 1 t
          rw [List.length_append, unhide HN, List.length_singleton]
          omega
        have HM3 : Hid ((l ++ tgTo 1 t ++ [UInt8.ofNat (128 + t / 128 % 128)]).length = (l ++ tgTo 0 t).length) := by show _ = _; rw [unhide HE, List.append_assoc]
        obtain ⟨M3, hM3⟩ : ∃ M3, (l ++ tgTo 0 t).length = M3 := ⟨_, rfl⟩
        rw [hM3] at HM3
        have HM4 := hide hM3
        clear hz hy hk hkk HRr HM hq hM3 hb
        go_wp2_with (at_builtin; refine wpList_append_row rfl _ _ rfl (.slice sv M cv) (.slice (some ⟨wr.heap.size, 0, none⟩) 1 1) (l ++ tgTo 1 t) [UInt8.ofNat (128 + t / 128 % 128)] rfl (unhide HR2) rfl (unhide HY) (unhide Hll) ?_
                     intro v3 W3 hR3
                     obtain ⟨p3, q3, rfl⟩ := hR3.own.form
                     rw [unhide HM3] at hR3 ⊢
                     have HR3 := hide hR3
                     clear hR3)
        have HR4 : Hid (Row wb W3 (.slice p3 M3 q3) (l ++ tgTo 0 t)) := by
          have h1 := unhide HR3
          rw [List.append_assoc, ← unhide HE] at h1
          exact h1
        have HM5 : Hid (M3 = (l ++ tgTo 0 t).length) := (unhide HM4).symm
        clear HR3 HE HM3 HM4
        go_roundw
        case rel =>
          first
            | exact ⟨0, 0, p3, M3, q3, by omega, by omega, rfl, rfl, HM5, HR4⟩
            | exact ⟨⟨0, 0, p3, M3, q3, by omega, by omega, rfl, rfl, HM5, HR4⟩, rfl⟩
        case measure => simp [intOf]
      · have d1 : decide ((128 : Int) ≤ (t : Int)) = false := by simp; omega
        have d1n : decide (128 ≤ t) = false := by simp; omega
        have hE : tgTo 0 t = tgTo 1 t := by rw [tg_step1, if_neg hb, List.append_nil]
        have HM5 : Hid (M = (l ++ tgTo 0 t).length) := by rw [hE]; exact HM
        have HR4 : Hid (Row wb wr (.slice sv M cv) (l ++ tgTo 0 t)) := by rw [hE]; exact HRr
        clear hE HM HRr hk hkk hb
        go_wp2
        go_roundw
        case rel =>
          first
            | exact ⟨0, 0, sv, M, cv, by omega, by omega, rfl, rfl, HM5, HR4⟩
            | exact ⟨⟨0, 0, sv, M, cv, by omega, by omega, rfl, rfl, HM5, HR4⟩, rfl⟩
        case measure => simp [intOf]
    · subst e
      obtain rfl : kk = 2 := by omega
      by_cases hb : 16384 ≤ t
      · have d1 : decide ((16384 : Int) ≤ (t : Int)) = true := by simp; omega
        have d1n : decide (16384 ≤ t) = true := by simp; omega
        obtain ⟨q, hq⟩ : ∃ q, t / 16384 = q := ⟨_, rfl⟩
        obtain ⟨z, hz⟩ : ∃ z, q % 256 = z := ⟨_, rfl⟩
        obtain ⟨y, hy⟩ : ∃ y, 128 + z % 128 = y := ⟨_, rfl⟩
        have eq : (t : Int) / 16384 = (q : Int) := by omega
        have uq : IntKind.i64.wrap (q : Int) = (q : Int) := IntWalk.i64_in _ (by omega)
        have uz : IntKind.u8.wrap (q : Int) = (z : Int) := by rw [IntKind.wrap_u8']; omega
        have hor : bits .or .u8 (z : Int) 128 = (y : Int) := by rw [← hy]; exact or128 ⟨z, by omega⟩
        have HE : Hid (tgTo 1 t = tgTo 2 t ++ [UInt8.ofNat (128 + t / 16384)]) := by show _ = _; rw [tg_step2, if_pos hb]
        have HY : Hid (BytesAt (wr.alloc (.cells #[.int .u8 (y : Int)] 5)) (.slice (some ⟨wr.heap.size, 0, none⟩) 1 1) [UInt8.ofNat (128 + t / 16384)]) := one_lit wr _ (by rw [byte_let]; omega)
        have HR2 := hide ((unhide HRr).lit (.cells #[.int .u8 (y : Int)] 5))
        have Hll : Hid ((l ++ tgTo 2 t).length + [UInt8.ofNat (128 + t / 16384)].length ≤ 1073741824) := by
          show _ ≤ _
          have := tg_le 2 t
          rw [List.length_append, unhide HN, List.length_singleton]
          omega
        have HM3 : Hid ((l ++ tgTo 2 t ++ [UInt8.ofNat (128 + t / 16384)]).length = (l ++ tgTo 1 t).length) := by show _ = _; rw [unhide HE, List.append_assoc]
        obtain ⟨M3, hM3⟩ : ∃ M3, (l ++ tgTo 1 t).length = M3 := ⟨_, rfl⟩
        rw [hM3] at HM3
        have HM4 := hide hM3
        clear hz hy hk hkk HRr HM hq hM3 hb
        go_wp2_with (at_builtin; refine wpList_append_row rfl _ _ rfl (.slice sv M cv) (.slice (some ⟨wr.heap.size, 0, none⟩) 1 1) (l ++ tgTo 2 t) [UInt8.ofNat (128 + t / 16384)] rfl (unhide HR2) rfl (unhide HY) (unhide Hll) ?_
                     intro v3 W3 hR3
                     obtain ⟨p3, q3, rfl⟩ := hR3.own.form
                     rw [unhide HM3] at hR3 ⊢
                     have HR3 := hide hR3
                     clear hR3)
        have HR4 : Hid (Row wb W3 (.slice p3 M3 q3) (l ++ tgTo 1 t)) := by
          have h1 := unhide HR3
          rw [List.append_assoc, ← unhide HE] at h1
          exact h1
        have HM5 : Hid (M3 = (l ++ tgTo 1 t).length) := (unhide HM4).symm
        clear HR3 HE HM3 HM4
        go_roundw
        case rel =>
          first
            | exact ⟨1, 1, p3, M3, q3, by omega, by omega, rfl, rfl, HM5, HR4⟩
            | exact ⟨⟨1, 1, p3, M3, q3, by omega, by omega, rfl, rfl, HM5, HR4⟩, rfl⟩
        case measure => simp [intOf]
      · have d1 : decide ((16384 : Int) ≤ (t : Int)) = false := by simp; omega
        have d1n : decide (16384 ≤ t) = false := by simp; omega
        have hE : tgTo 1 t = tgTo 2 t := by rw [tg_step2, if_neg hb, List.append_nil]
        have HM5 : Hid (M = (l ++ tgTo 1 t).length) := by rw [hE]; exact HM
        have HR4 : Hid (Row wb wr (.slice sv M cv) (l ++ tgTo 1 t)) := by rw [hE]; exact HRr
        clear hE HM HRr hk hkk hb
        go_wp2
        go_roundw
        case rel =>
          first
            | exact ⟨1, 1, sv, M, cv, by omega, by omega, rfl, rfl, HM5, HR4⟩
            | exact ⟨⟨1, 1, sv, M, cv, by omega, by omega, rfl, rfl, HM5, HR4⟩, rfl⟩
        case measure => simp [intOf]
end K
end Go.Proofs.YtngkidlgcdofhabDoor
