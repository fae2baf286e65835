/- Parts of the walk. -/
import Derived.Test.YtcofnockikninaaGreatDoorZaGc10
import Derived.Test.YtcofnockikninaaGreatDoorZaRA
set_option maxRecDepth 100000
set_option maxHeartbeats 4000000
namespace Go.Proofs.YtcofnockikninaaGreatDoor
open Go.RowKit
theorem prn_all : ∀ n : Fin 256, prnN n.val = printP (UInt8.ofNat n.val) := by decide +kernel
theorem prn_print (c : UInt8) : prnN c.toNat = printP c := by
 have h := prn_all ⟨c.toNat, c.toNat_lt⟩
 simp only [UInt8.ofNat_toNat] at h
 exact h
namespace Q
open N K
theorem qkind_c (w : World) (s : ByteArray) (hs : s.size ≤ 1000000) : Calls Tryz.prog 60 #[.string s] w fun e w' => e = .returned (.int .i64 (textT (bs s) : Int)) ∧ w' = w := by
 obtain ⟨b, hb⟩ := exq (bs s)
 obtain ⟨N, hN⟩ := exq s.size
 have HbN : Hid (b.length = N) := by show _ = _; rw [← hb, bs_len, hN]
 rw [hb]
 have HX : Hid (∀ k, k < N → ∃ p : Nat, (b.getD k 0).toNat = p ∧ ∀ W, (Instr.index 9 (.string s) (.int .i64 (k : Int))).run Tryz.prog W = .ok (.int .u8 (p : Int)) W) := fun k hk =>
  ⟨_, rfl, fun W => index_str s k (by omega) _ (by rw [hb]) W⟩
 have HT : Hid ((∀ c ∈ b, printP c = true) → textT b = 19) := fun h => by
  unfold textT
  rw [if_pos]
  rw [List.all_eq_true]
  exact fun c hc => by rw [prn_print]; exact h c hc
 have HF : Hid ((∃ c ∈ b, printP c = false) → textT b = 12) := fun h => by
  obtain ⟨c, hc, hp⟩ := h
  unfold textT
  rw [if_neg]
  rw [List.all_eq_true]
  exact fun h => by have := h c hc; rw [prn_print, hp] at this; cases this
 obtain ⟨T, hT⟩ := exq (textT b)
 rw [hT] at HT HF ⊢
 rw [hN] at hs
 clear hb hT
 go_enter Tryz.func60, Tryz.ntmps60
 go_wp2
 go_loopw [3] (fun ii wr => ∃ k : Nat, k ≤ N ∧ ii = .int .i64 (k : Int) ∧ Hid (∀ c ∈ b.take k, printP c = true) ∧ Hid (wr = w)) (fun ii _ => N - (intOf ii).toNat)
 case atStart => exact ⟨0, by omega, rfl, fun c hc => by simp at hc, rfl⟩
 case round =>
  obtain ⟨k, hk, rfl, HP, HW⟩ := hrel
  by_cases hlt : k < N
  ·obtain ⟨p, hp, hix⟩ := u_ HX k hlt
   obtain ⟨f1, f1n⟩ := ltVV k N
   have k0 : (0 : Int) ≤ (k : Int) := by omega
   have hkl : k < b.length := by have := u_ HbN; omega
   have Hc : Hid (Calls Tryz.prog 91 #[.int .u8 (p : Int)] wr fun e w' => e = .returned (.bool (printP (b.getD k 0))) ∧ w' = wr) := by
    have h := print_any (b.getD k 0) wr
    unfold bv at h
    rw [hp] at h
    exact h
   obtain ⟨U, hU⟩ := exq (printP (b.getD k 0))
   rw [hU] at Hc
   have HU := h_ hU
   have Hmem := h_ (getD_mem hkl)
   have Htk : Hid (b.take (k + 1) = b.take k ++ [b.getD k 0]) := take_snocQ hkl
   clear hp hU hkl
   cases U with
   | true =>
    have HP2 : Hid (∀ c ∈ b.take (k + 1), printP c = true) := fun c hc => by
     rw [u_ Htk, List.mem_append, List.mem_singleton] at hc
     rcases hc with hc | rfl
     ·exact u_ HP c hc
     ·exact u_ HU
    go_wp2_with (go_at_call 91; refine Hc.mono ?_; rintro e w' ⟨rfl, hw⟩; obtain rfl := hw)
    go_roundw
    case rel =>
     first
      | exact ⟨k + 1, by omega, by go_num, HP2, HW⟩
      | ((repeat apply Exists.intro); exact ⟨⟨k + 1, by omega, by go_num, HP2, HW⟩, rfl⟩)
    case measure => simp [intOf]; omega
   | false =>
    have HF2 := h_ (u_ HF ⟨_, u_ Hmem, u_ HU⟩)
    go_wp2_with (go_at_call 91; refine Hc.mono ?_; rintro e w' ⟨rfl, hw⟩; obtain rfl := hw)
    go_ret
    exact ⟨by rw [u_ HF2]; rfl, u_ HW⟩
  ·obtain ⟨f1, f1n⟩ := ltVVf k N
   have HT2 : Hid (T = 19) := u_ HT (fun c hc => u_ HP c (by rw [List.take_of_length_le (by have := u_ HbN; omega)]; exact hc))
   go_wp2
   go_ret
   exact ⟨by rw [u_ HT2]; rfl, u_ HW⟩
theorem qtexty_c (w : World) (s : ByteArray) (hs : s.size ≤ 1000000) : Calls Tryz.prog 59 #[.string s] w fun e w' => e = .returned (.bool (textP (bs s))) ∧ Below w.heap.size w w' := by
 obtain ⟨N, hN⟩ := exq s.size
 obtain ⟨V, hV⟩ := exq (Lib.validD (bs s))
 have HB := h_ (Below.refl w.heap.size w)
 by_cases h1 : 1 ≤ N
 ·obtain ⟨a1, a1n⟩ := leLV 1 1 N
  have hne : bs s ≠ [] := fun e => by have := bs_len s; rw [e, hN] at this; simp at this; omega
  by_cases h2 : N ≤ 64
  ·obtain ⟨a2, a2n⟩ := leVL N 64 64
   have HT : Hid (textP (bs s) = V) := by show _ = _; unfold textP; rw [decide_eq_false hne, bs_len, hN, decide_eq_true h2, hV]; rfl
   obtain ⟨cp, w2, hcv, hby, hb⟩ := conv_bytes w s
   obtain ⟨BB, hBB⟩ := exq w.heap.size
   rw [hBB, hN] at hcv hby
   have Hb2 := h_ hb
   have Hu : Hid (Calls Tryz.prog 90 #[.slice (some ⟨BB, 0, none⟩) N cp] w2 fun e w' => e = .returned (.bool V) ∧ w' = w2) := by
    have h := utf8s_any w2 _ (bs s) hby (by rw [bs_len]; omega)
    rw [← valid_utf8, hV] at h
    exact h
   clear hne hV hby hb
   go_enter Tryz.func59, Tryz.ntmps59
   go_wp2_with fail
   refine Hu.mono ?_
   rintro e w' ⟨rfl, hw⟩
   obtain rfl := hw
   go_wp2
   go_ret
   exact ⟨by rw [u_ HT]; cases V <;> rfl, u_ Hb2⟩
  ·obtain ⟨a2, a2n⟩ := leVLf N 64 64
   have HT : Hid (textP (bs s) = false) := by show _ = _; unfold textP; rw [bs_len, hN, decide_eq_false h2]; simp
   clear hne hV
   go_enter Tryz.func59, Tryz.ntmps59
   go_wp2
   go_ret
   exact ⟨by rw [u_ HT]; rfl, u_ HB⟩
 ·obtain ⟨a1, a1n⟩ := leLVf 1 1 N
  have HT : Hid (textP (bs s) = false) := by
   show _ = _
   unfold textP
   rw [decide_eq_true (List.eq_nil_of_length_eq_zero (by rw [bs_len]; omega))]
   rfl
  clear hV
  go_enter Tryz.func59, Tryz.ntmps59
  go_wp2
  go_ret
  exact ⟨by rw [u_ HT]; rfl, u_ HB⟩
end Q
end Go.Proofs.YtcofnockikninaaGreatDoor
