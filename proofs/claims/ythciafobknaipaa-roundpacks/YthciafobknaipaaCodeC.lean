/-
  The walk of the landed Unpack.
-/
import Derived.Test.YthciafobknaipaaCodeB
namespace Go.Proofs.Ythciafobknaipaa
open Go.RowKit
set_option maxRecDepth 100000 in
theorem noUnpack_any (w : World) (x : Value) (b : List Nat) (n : Int) (hx : ValsAt w x (bvals b)) (hn : ¬ (1 ≤ n ∧ n ≤ 24)) : Refuses w 23 #[x, .int .i64 n] := by
  obtain ⟨sp, c, rfl, _⟩ := bytes_open hx
  have Hwi := hide (width_any n)
  have d : decide (1 ≤ n ∧ n ≤ 24) = false := by simp; omega
  rw [d] at Hwi
  clear hx hn d
  go_enter Try.func23, Try.ntmps23
  go_wp2_with fail
  refine (unhide Hwi w).mono ?_
  rintro e w1 ⟨rfl, rfl⟩
  go_wp2
  go_ret2
  exact ⟨_, rfl, vals_nil _, Below.refl _ _⟩
theorem held_num (M K j n : Nat) (h : n * (j + 1) ≤ K) : M % 2 ^ K / (2 ^ n) ^ j % 2 ^ n = M / (2 ^ n) ^ j % 2 ^ n := by
  obtain ⟨d, rfl⟩ : ∃ d, K = n * j + (d + n) := ⟨K - n * (j + 1), by rw [Nat.mul_add] at h ⊢; omega⟩
  rw [← Nat.pow_mul, Nat.pow_add 2 (n * j), Nat.mod_mul_right_div_self, Nat.pow_add 2 d n, Nat.mod_mul_left_mod]
theorem held_more (X j n : Nat) : X / (2 ^ n) ^ j / 2 ^ n = X / (2 ^ n) ^ (j + 1) := by rw [Nat.div_div_eq_div_mul, Nat.pow_succ]
theorem held_inb (M k n j h : Nat) (hk : 8 * k = n * j + h) : M % 2 ^ (8 * (k + 1)) / (2 ^ n) ^ j = M % 2 ^ (8 * k) / (2 ^ n) ^ j + M / 256 ^ k % 256 * 2 ^ h := by
  rw [Nat.mul_add 8, Nat.pow_add, Nat.mod_mul, two56]
  have e : 2 ^ (8 * k) * (M / 2 ^ (8 * k) % 2 ^ (8 * 1)) = (2 ^ n) ^ j * (M / 2 ^ (8 * k) % 256 * 2 ^ h) := by
    rw [show 2 ^ (8 * 1) = 256 from rfl]
    generalize M / 2 ^ (8 * k) % 256 = z
    rw [hk, Nat.pow_add, ← Nat.pow_mul, Nat.mul_assoc, Nat.mul_comm z]
  rw [e, Nat.add_mul_div_left _ _ (Nat.pow_pos (Nat.pow_pos (by omega)))]
theorem held_ltb (M K j n h : Nat) (hk : K = n * j + h) : M % 2 ^ K / (2 ^ n) ^ j < 2 ^ h := by
  apply Nat.div_lt_of_lt_mul
  rw [← Nat.pow_mul, ← Nat.pow_add, ← hk]
  exact Nat.mod_lt _ (Nat.pow_pos (by omega))
theorem and_held (H n : Nat) (hH : H < 4294967296) (hn : n ≤ 24) : bits .and .u32 (H : Int) (2 ^ n - 1) = ((H % 2 ^ n : Nat) : Int) := by
  have h1 : 2 ^ n ≤ 2 ^ 24 := Nat.pow_le_pow_right (by omega) hn
  have h2 : 0 < 2 ^ n := Nat.pow_pos (by omega)
  have e : (2 : Int) ^ n - 1 = ((2 ^ n - 1 : Nat) : Int) := by
    have : ((2 ^ n : Nat) : Int) = 2 ^ n := by simp
    omega
  rw [e, u32_and_nat _ _ hH (by omega), Nat.and_two_pow_sub_one_eq_mod]
/-- What stands while the numbers are laid. -/
structure UkIn (w : World) (n M j : Nat) (v : Value) (wr : World) : Prop where
  own : OwnV 3 wr w.heap.size v (ivals ((digs (2 ^ n) M j).map Int.ofNat))
  b : Below w.heap.size w wr
set_option maxRecDepth 100000 in
set_option maxHeartbeats 4000000 in
theorem unpack_any (w : World) (x : Value) (l : List Nat) (n : Nat) (hx : ValsAt w x (bvals l)) (h8 : ∀ c ∈ l, c < 256) (hl : l.length ≤ 3000) (n1 : 1 ≤ n) (n24 : n ≤ 24) : Gives w 23 #[x, .int .i64 (n : Int)] 3 (ivals ((unpackN n l).map Int.ofNat)) := by
  obtain ⟨sp, c, rfl, _, _, hc⟩ := bytes_open hx
  have Hc := hide hc
  have H8 := hide h8
  have Hwi := hide (width_any n)
  have d : decide (1 ≤ (n : Int) ∧ (n : Int) ≤ 24) = true := by simp; omega
  rw [d] at Hwi
  obtain ⟨K, hK⟩ : ∃ K, l.length * 8 / n = K := ⟨_, rfl⟩
  have hKb : K ≤ 24000 := by
    rw [← hK]
    exact Nat.le_trans (Nat.div_le_self _ _) (by omega)
  have HK := hide hK
  have d1 : ((l.length : Int) * 8).tdiv (n : Int) = (K : Int) := by
    rw [Int.tdiv_eq_ediv_of_nonneg (by omega), ← hK]
    simp
  have hP : 2 ^ n ≤ 16777216 := Nat.pow_le_pow_right (show 0 < 2 by omega) n24
  have hP0 : 0 < 2 ^ n := Nat.pow_pos (by omega)
  have hPi : ((2 ^ n : Nat) : Int) = 2 ^ n := by simp
  have hp1 : (2 : Int) ^ n ≤ 16777216 := by omega
  have hp0 : (0 : Int) < 2 ^ n := by omega
  have hw1 : IntKind.u32.wrap ((2 : Int) ^ n) = 2 ^ n := by rw [IntKind.wrap_u32']; omega
  have hw2 : IntKind.u32.wrap ((2 : Int) ^ n - 1) = 2 ^ n - 1 := by rw [IntKind.wrap_u32']; omega
  have HPi := hide hPi
  have nb0 : (0 : Int) < (n : Int) := by omega
  have nb1 : (n : Int) ≤ 24 := by omega
  clear hx hc h8 d hK hPi
  go_enter Try.func23, Try.ntmps23
  go_wp2_with fail
  refine (unhide Hwi w).mono ?_
  rintro e w1 ⟨rfl, rfl⟩
  obtain ⟨W, hmk, hown, hbel⟩ := made_room Ei w1 .i64 .i64 K (K : Int) rfl (by omega)
  have HI : Hid (UkIn w1 n (num 256 l) 0 (.slice (some ⟨w1.heap.size, 0, none⟩) 0 K) W) := ⟨by
    have e : ivals ((digs (2 ^ n) (num 256 l) 0).map Int.ofNat) = [] := by simp [digs, ivals]
    rw [e]; exact hown, hbel⟩
  have Kb : (K : Int) ≤ 24000 := by omega
  have Kb0 : (0 : Int) ≤ (K : Int) := by omega
  clear hown hbel
  go_wp2
  clear hmk d1
  go_loopw [6, 7, 8, 22] (fun out held have_ ii wr => ∃ (k j h H : Nat), k ≤ l.length ∧ ii = .int .i64 (k : Int) ∧ h < n ∧ have_ = .int .i64 (h : Int) ∧ Hid (8 * k = n * j + h) ∧ held = .int .u32 (H : Int) ∧ H < 8388608 ∧ Hid (H = num 256 l % 2 ^ (8 * k) / (2 ^ n) ^ j) ∧ Hid (UkIn w1 n (num 256 l) j out wr)) (fun _ _ _ ii _ => l.length - (intOf ii).toNat)
  case atStart => exact ⟨0, 0, 0, 0, by omega, rfl, by omega, rfl, by show 8 * 0 = _; simp, rfl, by omega, by show 0 = _; simp [Nat.mod_one], HI⟩
  case round =>
    clear HI
    obtain ⟨k, j, h, H, hk, rfl, h7, rfl, Hk, rfl, hH, HH, HI⟩ := hrel
    have kb : (k : Int) ≤ 3000 := by omega
    have hb7 : (h : Int) ≤ 23 := by omega
    by_cases hlt : k < l.length
    · obtain ⟨b, o, rfl, hb, hcell⟩ := unhide Hc (by intro e; rw [e] at hlt; simp at hlt)
      have e2 : wr.cell? ⟨b, o + k, none⟩ = some (.int .u8 ((l.getD k 0 : Nat) : Int)) := by rw [(unhide HI).b.cell hb]; exact hcell k hlt
      have hY8 : l.getD k 0 < 256 := by rw [List.getD_eq_getElem?_getD, List.getElem?_eq_getElem hlt]; exact unhide H8 _ (List.getElem_mem hlt)
      have hin := held_inb (num 256 l) k n j h (unhide Hk)
      rw [← unhide HH, num_get (by omega) (unhide H8)] at hin
      have hHlt := held_ltb (num 256 l) (8 * k) j n h (unhide Hk)
      rw [← unhide HH] at hHlt
      obtain ⟨Y, hY⟩ : ∃ Y, l.getD k 0 = Y := ⟨_, rfl⟩
      rw [hY] at e2 hin hY8
      have hh2 : 2 ^ h ≤ 8388608 := Nat.pow_le_pow_right (show 0 < 2 by omega) (show h ≤ 23 by omega)
      have hYh : Y * 2 ^ h ≤ 255 * 8388608 := Nat.mul_le_mul (by omega) hh2
      have hor := or_held H Y h hHlt (by omega)
      have hsh : ((Y : Int) * 2 ^ h) = ((Y * 2 ^ h : Nat) : Int) := by simp
      obtain ⟨Z, hZ⟩ : ∃ Z, Y * 2 ^ h = Z := ⟨_, rfl⟩
      rw [hZ] at hor hsh hin hYh
      have i0 : (0 : Int) ≤ (k : Int) := by omega
      have i1 : (k : Int) < (l.length : Int) := by omega
      have HIn := hide hin
      have hHZ : H + Z < 2147483648 := by omega
      clear hcell hY hHlt hZ hin
      go_wp2
      clear e2 hor hsh
      go_loopw [6, 7, 8] (fun out held have_ wr => ∃ (j h H : Nat), h ≤ 31 ∧ have_ = .int .i64 (h : Int) ∧ Hid (8 * (k + 1) = n * j + h) ∧ held = .int .u32 (H : Int) ∧ H < 2147483648 ∧ Hid (H = num 256 l % 2 ^ (8 * (k + 1)) / (2 ^ n) ^ j) ∧ Hid (UkIn w1 n (num 256 l) j out wr)) (fun _ _ have_ _ => (intOf have_).toNat)
      case atStart => exact ⟨j, h + 8, H + Z, by omega, rfl, by show _ = _; have := unhide Hk; omega, rfl, hHZ, (unhide HIn).symm, HI⟩
      case round =>
        clear HI HIn HH Hk hH hHZ hYh
        obtain ⟨j, h, H, h31, rfl, Hk, rfl, hH, HH, HI⟩ := hrel
        have hb31 : (h : Int) ≤ 31 := by omega
        have hHb : (H : Int) < 2147483648 := by omega
        by_cases h8 : n ≤ h
        · have hby := held_num (num 256 l) (8 * (k + 1)) j n (by rw [unhide Hk, Nat.mul_add]; omega)
          rw [← unhide HH] at hby
          have hnx := held_more (num 256 l % 2 ^ (8 * (k + 1))) j n
          rw [← unhide HH] at hnx
          have d8 : decide ((n : Int) ≤ (h : Int)) = true := by simp; omega
          have d8' : decide (n ≤ h) = true := by simp; omega
          have cvb := and_held H n (by omega) n24
          have cvs : (H : Int) / 2 ^ n = ((H / 2 ^ n : Nat) : Int) := by simp
          have hzb : H % 2 ^ n < 16777216 := Nat.lt_of_lt_of_le (Nat.mod_lt _ hP0) hP
          have hHd : H / 2 ^ n < 2147483648 := Nat.lt_of_le_of_lt (Nat.div_le_self _ _) hH
          obtain ⟨z, hz⟩ : ∃ z, H % 2 ^ n = z := ⟨_, rfl⟩
          obtain ⟨G, hG⟩ : ∃ G, H / 2 ^ n = G := ⟨_, rfl⟩
          rw [hz] at cvb hby hzb
          rw [hG] at cvs hHd hnx
          have HO := hide ((unhide HI).own.alloc (.cells #[.int .i64 (z : Int)] 3))
          have HV := hide (vals_new wr [.int .i64 (z : Int)] 3)
          have hbA : Below w1.heap.size w1 (wr.alloc (.cells #[.int .i64 (z : Int)] 3)) := (unhide HI).b.alloc (unhide HI).b.size _
          have HbA := hide hbA
          have hjb : j ≤ 24000 := by
            have h1 := unhide Hk
            have h2 : 1 * j ≤ n * j := Nat.mul_le_mul_right j n1
            omega
          have Hl := hide (show (ivals ((digs (2 ^ n) (num 256 l) j).map Int.ofNat)).length + [Value.int .i64 (z : Int)].length ≤ 1073741824 by rw [len_ivals, List.length_map, length_digs]; simp; omega)
          have Hs := hide hbA.size
          have HN : Hid (ivals ((digs (2 ^ n) (num 256 l) (j + 1)).map Int.ofNat) = ivals ((digs (2 ^ n) (num 256 l) j).map Int.ofNat) ++ [.int .i64 (z : Int)]) := by
            show _ = _
            rw [digs_succ, ← hby]; simp [ivals]
          have Hnx := hide hnx
          have zb : (z : Int) < 16777216 := by omega
          clear hby hnx hbA hjb HI hz hG hzb
          go_wp2_with (at_builtin; refine wpList_append_vals Ei rfl _ _ rfl w1.heap.size _ _ (ivals ((digs (2 ^ n) (num 256 l) j).map Int.ofNat)) [.int .i64 (z : Int)] rfl (unhide HO) rfl (unhide HV) (by simp [Value.oneCell']) (unhide Hs) (unhide Hl) ?_
                       intro v2 w3 hO2 hg2 _
                       rw [← unhide HN] at hO2
                       have HI2 : Hid (UkIn w1 n (num 256 l) (j + 1) v2 w3) := ⟨hO2, own_below (unhide HO) hg2 (unhide HbA) (unhide Hs)⟩
                       clear hO2 hg2)
          exact ⟨⟨j + 1, h - n, G, by omega, by rw [Int.ofNat_sub h8], by show _ = _; rw [unhide Hk, Nat.mul_add]; omega, rfl, hHd, unhide Hnx, HI2⟩, by simp [intOf]; omega⟩
        · have d8 : decide ((n : Int) ≤ (h : Int)) = false := by simp; omega
          have d8' : decide (n ≤ h) = false := by simp; omega
          have hH7 : H < 8388608 := by
            have := held_ltb (num 256 l) (8 * (k + 1)) j n h (unhide Hk)
            rw [← unhide HH] at this
            exact Nat.lt_of_lt_of_le this (Nat.pow_le_pow_right (show 0 < 2 by omega) (show h ≤ 23 by omega))
          go_wp2
          go_roundw
          case rel =>
            first
              | exact ⟨k + 1, j, h, H, by omega, by go_num, by omega, rfl, Hk, rfl, hH7, HH, HI⟩
              | ((repeat apply Exists.intro); exact ⟨⟨k + 1, j, h, H, by omega, by go_num, by omega, rfl, Hk, rfl, hH7, HH, HI⟩, rfl⟩)
          case measure => simp [intOf]; omega
    · obtain rfl : k = l.length := by omega
      have hj : l.length * 8 / n = j := by
        have := unhide Hk
        rw [Nat.mul_comm, this]
        rw [Nat.mul_add_div (by omega), Nat.div_eq_of_lt h7, Nat.add_zero]
      have HO : Hid (OwnV 3 wr w1.heap.size u6 (ivals ((unpackN n l).map Int.ofNat))) := by
        show OwnV _ _ _ _ _
        unfold unpackN
        rw [hj]
        exact (unhide HI).own
      have HB := hide (unhide HI).b
      clear hj HI HH Hk
      go_wp2
      go_ret2
      exact ⟨_, rfl, unhide HO, unhide HB⟩
end Go.Proofs.Ythciafobknaipaa
