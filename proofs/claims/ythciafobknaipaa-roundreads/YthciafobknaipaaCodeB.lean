/-
  The walks of the landed code: width, within, Pack.
-/
import Derived.Test.YthciafobknaipaaOpen
import Derived.Laws.MakeOwn
import Derived.Laws.BitsAllLaws
namespace Go.Proofs.Ythciafobknaipaa
open Go.RowKit
theorem width_any (n : Int) (w : World) : Calls Try.prog 33 #[.int .i64 n] w fun e w' => e = .returned (.bool (decide (1 ≤ n ∧ n ≤ 24))) ∧ w' = w := by
  by_cases h1 : 1 ≤ n
  · by_cases h2 : n ≤ 24
    · have d2 : decide (n ≤ 24) = true := by simp; omega
      go_enter Try.func33, Try.ntmps33
      go_wp2
      go_ret
      exact ⟨by simp [h1, h2], rfl⟩
    · have d2 : decide (n ≤ 24) = false := by simp; omega
      go_enter Try.func33, Try.ntmps33
      go_wp2
      go_ret
      exact ⟨by simp, rfl⟩
  · have d1 : decide (1 ≤ n) = false := by simp; omega
    go_enter Try.func33, Try.ntmps33
    go_wp2
    go_ret
    exact ⟨by simp, rfl⟩
set_option maxRecDepth 100000 in
set_option maxHeartbeats 2000000 in
theorem within_any (w : World) (x : Value) (l : List Int) (n : Nat) (hx : ValsAt w x (ivals l)) (hl : l.length ≤ 1000) (n1 : 1 ≤ n) (n24 : n ≤ 24) :
    Calls Try.prog 34 #[x, .int .i64 (n : Int)] w fun e w' => ((Fits n l ∧ e = .returned (.bool true)) ∨ (¬ Fits n l ∧ e = .returned (.bool false))) ∧ w'.heap = w.heap ∧ Below w.heap.size w w' := by
  obtain ⟨sp, c, rfl, _, _, hc⟩ := ints_open hx
  have Hc := hide hc
  have hpn : (2 : Int) ^ n ≤ 16777216 := by
    have := Nat.pow_le_pow_right (show 0 < 2 by omega) n24
    have e : ((2 ^ n : Nat) : Int) = 2 ^ n := by simp
    omega
  have hpp : (0 : Int) < 2 ^ n := by
    have := Nat.pow_pos (n := n) (show 0 < 2 by omega)
    have e : ((2 ^ n : Nat) : Int) = 2 ^ n := by simp
    omega
  have hw : IntKind.i64.wrap ((2 : Int) ^ n) = 2 ^ n := IntWalk.i64_in _ (by omega)
  clear hx hc
  go_enter Try.func34, Try.ntmps34
  go_wp2
  go_loopw [9] (fun i wr => ∃ (k : Nat), k ≤ l.length ∧ i = .int .i64 (k : Int) ∧ wr.heap = w.heap ∧ Below w.heap.size w wr ∧ Hid (∀ j, j < k → 0 ≤ l.getD j 0 ∧ l.getD j 0 < 2 ^ n)) (fun i _ => l.length - (intOf i).toNat)
  case atStart => exact ⟨0, by omega, rfl, rfl, Below.refl _ _, fun j hj => by omega⟩
  case round =>
    obtain ⟨i, hi, rfl, hh, hB, hF⟩ := hrel
    have ib : (i : Int) ≤ 1000 := by omega
    by_cases hlt : i < l.length
    · obtain ⟨b, o, rfl, hb, hcell⟩ := unhide Hc (by intro e; rw [e] at hlt; simp at hlt)
      have e2 : wr.cell? ⟨b, o + i, none⟩ = some (.int .i64 (l.getD i 0)) := by rw [hB.cell hb]; exact hcell i hlt
      have hm : l.getD i 0 ∈ l := by rw [List.getD_eq_getElem?_getD, List.getElem?_eq_getElem hlt]; exact List.getElem_mem hlt
      have hno : Hid (¬ (0 ≤ l.getD i 0 ∧ l.getD i 0 < 2 ^ n) → ¬ Fits n l) := fun h f => h (f _ hm)
      have hF2 : Hid (0 ≤ l.getD i 0 → l.getD i 0 < 2 ^ n → ∀ j, j < i + 1 → 0 ≤ l.getD j 0 ∧ l.getD j 0 < 2 ^ n) := fun a c j hj => by
        rcases Nat.lt_or_ge j i with h | h
        · exact unhide hF j h
        · obtain rfl : j = i := by omega
          exact ⟨a, c⟩
      generalize l.getD i 0 = y at e2 hF2 hno
      have i0 : (0 : Int) ≤ (i : Int) := by omega
      have i1 : (i : Int) < (l.length : Int) := by omega
      have HB := hide hB
      have Hh := hide hh
      clear hcell hB hF hh hm
      by_cases hy0 : y < 0
      · have d0 : decide (y < 0) = true := by simp; omega
        have HNO := hide (unhide hno (by omega))
        clear hF2 hno
        go_wp2
        go_ret
        exact ⟨Or.inr ⟨unhide HNO, rfl⟩, unhide Hh, unhide HB⟩
      · have d0 : decide (y < 0) = false := by simp; omega
        by_cases hy1 : 2 ^ n ≤ y
        · have d1 : decide ((2 : Int) ^ n ≤ y) = true := by simp; omega
          have HNO := hide (unhide hno (by omega))
          clear hF2 hno
          go_wp2
          go_ret
          exact ⟨Or.inr ⟨unhide HNO, rfl⟩, unhide Hh, unhide HB⟩
        · have d1 : decide ((2 : Int) ^ n ≤ y) = false := by simp; omega
          have hF3 := hide (unhide hF2 (by omega) (by omega))
          clear hF2 hno
          go_wp2
          go_roundw
          case rel =>
            first
              | exact ⟨i + 1, by omega, by go_num, unhide Hh, unhide HB, hF3⟩
              | ((repeat apply Exists.intro); exact ⟨⟨i + 1, by omega, by go_num, unhide Hh, unhide HB, hF3⟩, rfl⟩)
          case measure => simp [intOf]; omega
    · obtain rfl : i = l.length := by omega
      have HF : Hid (Fits n l) := fun z hz => by
        obtain ⟨j, hj, rfl⟩ := List.getElem_of_mem hz
        have := unhide hF j hj
        rwa [List.getD_eq_getElem?_getD, List.getElem?_eq_getElem hj] at this
      have HB := hide hB
      have Hh := hide hh
      clear hB hF hh
      go_wp2
      go_ret
      exact ⟨Or.inl ⟨unhide HF, rfl⟩, unhide Hh, unhide HB⟩
set_option maxRecDepth 100000 in
set_option maxHeartbeats 2000000 in
theorem noPack_any (w : World) (x : Value) (l : List Int) (n : Int) (hx : ValsAt w x (ivals l)) (hl : l.length ≤ 1000) (hn : ¬ (1 ≤ n ∧ n ≤ 24 ∧ Fits n.toNat l)) : Refuses w 20 #[x, .int .i64 n] := by
  have HX := hide hx
  obtain ⟨sp, c, rfl, _⟩ := ints_open hx
  have Hwi := hide (width_any n)
  clear hx
  by_cases h : 1 ≤ n ∧ n ≤ 24
  · obtain ⟨N, rfl⟩ : ∃ N : Nat, n = (N : Int) := ⟨n.toNat, by omega⟩
    have hnf : ¬ Fits N l := fun f => hn ⟨h.1, h.2, by simpa using f⟩
    have Hn := hide hnf
    have d : decide (1 ≤ (N : Int) ∧ (N : Int) ≤ 24) = true := by simp; omega
    rw [d] at Hwi
    obtain ⟨n1, n24⟩ := h
    clear hn hnf d
    go_enter Try.func20, Try.ntmps20
    go_wp2_with fail
    refine (unhide Hwi w).mono ?_
    rintro e w1 ⟨rfl, rfl⟩
    go_wp2_with fail
    refine (within_any w1 _ l N (unhide HX) hl (by omega) (by omega)).mono ?_
    rintro e w2 ⟨hor, hh, hb⟩
    rcases hor with ⟨hF, rfl⟩ | ⟨_, rfl⟩
    · exact absurd hF (unhide Hn)
    · have HB := hide hb
      clear hb hh
      go_wp2
      go_ret2
      exact ⟨_, rfl, vals_nil _, unhide HB⟩
  · have d : decide (1 ≤ n ∧ n ≤ 24) = false := by simp; omega
    rw [d] at Hwi
    clear hn d h
    go_enter Try.func20, Try.ntmps20
    go_wp2_with fail
    refine (unhide Hwi w).mono ?_
    rintro e w1 ⟨rfl, rfl⟩
    go_wp2
    go_ret2
    exact ⟨_, rfl, vals_nil _, Below.refl _ _⟩
/-- A make of nothing with room. -/
theorem made_room {P : Program} {t e : TypeId} {z : Value} {by_ : Nat} (E : Elem P t e z by_) (w : World) (k1 k2 : IntKind) (n : Nat) (x : Int) (hx : x = (n : Int)) (hn : n ≤ 1073741824) :
    ∃ W, (Instr.makeSlice t (.int k1 0) (.int k2 x)).run P w = .ok (.slice (some ⟨w.heap.size, 0, none⟩) 0 n) W ∧ OwnV e W w.heap.size (.slice (some ⟨w.heap.size, 0, none⟩) 0 n) [] ∧ Below w.heap.size w W := by
  subst hx
  obtain ⟨hu, ⟨i, hi, h0, hsz, hby⟩, _, hsmall⟩ := E
  have hbn : i.bytes * n ≤ 281474976710656 := by
    rw [hby]
    have := Nat.mul_le_mul hsmall hn
    omega
  obtain ⟨W, hr, ho, hg⟩ := run_make_own (P := P) w w.heap.size t e i z 1 hu hi h0 hsz k1 k2 n hbn (by simp only [maxLen]; omega) (Nat.le_refl _)
  exact ⟨W, hr, ho, (Below.refl _ _).grown hg (Nat.le_refl _) (fun k hk => by cases hk)⟩
theorem held_byte (N M j : Nat) (h : 8 * (j + 1) ≤ M) : N % 2 ^ M / 256 ^ j % 256 = N / 256 ^ j % 256 := by
  obtain ⟨d, rfl⟩ : ∃ d, M = 8 * j + (d + 8) := ⟨M - 8 * (j + 1), by omega⟩
  rw [two56, Nat.pow_add 2 (8 * j), Nat.mod_mul_right_div_self, Nat.pow_add 2 d 8, Nat.mod_mul_left_mod]
theorem held_next (X j : Nat) : X / 256 ^ j / 256 = X / 256 ^ (j + 1) := by rw [Nat.div_div_eq_div_mul, Nat.pow_succ]
theorem held_in (N k n j h : Nat) (hk : k * n = 8 * j + h) : N % 2 ^ ((k + 1) * n) / 256 ^ j = N % 2 ^ (k * n) / 256 ^ j + N / 2 ^ (k * n) % 2 ^ n * 2 ^ h := by
  rw [Nat.add_mul, Nat.one_mul, Nat.pow_add, Nat.mod_mul]
  have e : 2 ^ (k * n) * (N / 2 ^ (k * n) % 2 ^ n) = 256 ^ j * (N / 2 ^ (k * n) % 2 ^ n * 2 ^ h) := by
    rw [two56]
    generalize N / 2 ^ (k * n) % 2 ^ n = z
    rw [hk, Nat.pow_add, Nat.mul_assoc, Nat.mul_comm z]
  rw [e, Nat.add_mul_div_left _ _ (Nat.pow_pos (by omega))]
theorem held_lt (N M j h : Nat) (hk : M = 8 * j + h) : N % 2 ^ M / 256 ^ j < 2 ^ h := by
  apply Nat.div_lt_of_lt_mul
  rw [two56, ← Nat.pow_add, ← hk]
  exact Nat.mod_lt _ (Nat.pow_pos (by omega))
theorem num_at {l : List Int} {n : Nat} (hf : Fits n l) (k : Nat) (hk : k < l.length) : ((num (2 ^ n) (nats l) / 2 ^ (k * n) % 2 ^ n : Nat) : Int) = l.getD k 0 := by
  have h : ∀ x ∈ nats l, x < 2 ^ n := fun x hx => by
    obtain ⟨y, hy, rfl⟩ := List.mem_map.1 hx
    have := hf y hy
    have h2 : ((2 ^ n : Nat) : Int) = 2 ^ n := by simp
    omega
  have := num_get (Nat.pow_pos (n := n) (show 0 < 2 by omega)) h k
  rw [← Nat.pow_mul, Nat.mul_comm n k] at this
  rw [this]
  have hm := hf (l.getD k 0) (by rw [List.getD_eq_getElem?_getD, List.getElem?_eq_getElem hk]; exact List.getElem_mem hk)
  simp only [nats, List.getD_eq_getElem?_getD, List.getElem?_map, List.getElem?_eq_getElem hk, Option.map_some, Option.getD_some] at hm ⊢
  omega
theorem num_under {l : List Int} {n : Nat} (hf : Fits n l) : num (2 ^ n) (nats l) < 2 ^ (l.length * n) := by
  have h : ∀ x ∈ nats l, x < 2 ^ n := fun x hx => by
    obtain ⟨y, hy, rfl⟩ := List.mem_map.1 hx
    have := hf y hy
    have h2 : ((2 ^ n : Nat) : Int) = 2 ^ n := by simp
    omega
  have := num_lt h
  rw [← Nat.pow_mul, Nat.mul_comm, show (nats l).length = l.length by simp [nats]] at this
  exact this
theorem or_held (H Y h : Nat) (hH : H < 2 ^ h) (hb : H + Y * 2 ^ h < 4294967296) : bits .or .u32 (H : Int) ((Y * 2 ^ h : Nat) : Int) = ((H + Y * 2 ^ h : Nat) : Int) := by
  rw [u32_or_nat _ _ (by omega) (by omega), Nat.or_comm, Nat.mul_comm, ← Nat.two_pow_add_eq_or_of_lt hH, Nat.add_comm]
/-- What stands while the bytes are laid. -/
structure PkIn (w : World) (N j : Nat) (v : Value) (wr : World) : Prop where
  own : OwnV 5 wr w.heap.size v (bvals (digs 256 N j))
  b : Below w.heap.size w wr
theorem PkIn.drew {w : World} {N j : Nat} {v : Value} {wr : World} (h : PkIn w N j v wr) : PkIn w N j v wr.drew := ⟨h.own.drew, h.b.drew⟩
set_option maxRecDepth 100000 in
set_option maxHeartbeats 4000000 in
theorem pack_any (w : World) (x : Value) (l : List Int) (n : Nat) (hx : ValsAt w x (ivals l)) (hl : l.length ≤ 1000) (n1 : 1 ≤ n) (n24 : n ≤ 24) (hf : Fits n l) : Gives w 20 #[x, .int .i64 (n : Int)] 5 (bvals (packN n (nats l))) := by
  have HX := hide hx
  obtain ⟨sp, c, rfl, _, _, hc⟩ := ints_open hx
  have Hc := hide hc
  have Hf := hide hf
  have Hwi := hide (width_any n)
  have d : decide (1 ≤ (n : Int) ∧ (n : Int) ≤ 24) = true := by simp; omega
  rw [d] at Hwi
  obtain ⟨L, hL⟩ : ∃ L, l.length * n = L := ⟨_, rfl⟩
  have hLb : L ≤ 24000 := by rw [← hL]; exact Nat.mul_le_mul hl n24
  have HL := hide hL
  have e1 : (l.length : Int) * (n : Int) = (L : Int) := by rw [← hL]; simp
  have d1 : (((L : Int) + 7)).tdiv 8 = (((L + 7) / 8 : Nat) : Int) := by rw [Int.tdiv_eq_ediv_of_nonneg (by omega)]; omega
  clear hx hc hf hL d
  go_enter Try.func20, Try.ntmps20
  go_wp2_with fail
  refine (unhide Hwi w).mono ?_
  rintro e w1 ⟨rfl, rfl⟩
  go_wp2_with fail
  refine (within_any w1 _ l n (unhide HX) hl (by omega) (by omega)).mono ?_
  rintro e w2 ⟨hor, hh, hb⟩
  rcases hor with ⟨_, rfl⟩ | ⟨hF, rfl⟩
  · obtain ⟨W, hmk, hown, hbel⟩ := made_room Eb w2 .i64 .i64 ((L + 7) / 8) (((L + 7) / 8 : Nat) : Int) rfl (by omega)
    have hbw : Below w1.heap.size w1 W := hb.trans (hbel.mono hb.size)
    have HI : Hid (PkIn w1 (num (2 ^ n) (nats l)) 0 (.slice (some ⟨w2.heap.size, 0, none⟩) 0 ((L + 7) / 8)) W) := ⟨by
      have e : bvals (digs 256 (num (2 ^ n) (nats l)) 0) = [] := by simp [digs, bvals]
      rw [e]; exact hown.mono hb.size, hbw⟩
    generalize hK : (L + 7) / 8 = K at hmk HI d1
    have HK := hide hK
    have Kb : (K : Int) ≤ 4000 := by omega
    have Kb0 : (0 : Int) ≤ (K : Int) := by omega
    clear hown hbel hbw hK hh hb
    go_wp2
    clear hmk d1 e1
    go_loopw [6, 7, 8, 29] (fun out held have_ ii wr => ∃ (k j h H : Nat), k ≤ l.length ∧ ii = .int .i64 (k : Int) ∧ h ≤ 7 ∧ have_ = .int .i64 (h : Int) ∧ Hid (k * n = 8 * j + h) ∧ held = .int .u32 (H : Int) ∧ H < 128 ∧ Hid (H = num (2 ^ n) (nats l) % 2 ^ (k * n) / 256 ^ j) ∧ Hid (PkIn w1 (num (2 ^ n) (nats l)) j out wr)) (fun _ _ _ ii _ => l.length - (intOf ii).toNat)
    case atStart => exact ⟨0, 0, 0, 0, by omega, rfl, by omega, rfl, by show 0 * n = _; simp, rfl, by omega, by show 0 = _; simp [Nat.mod_one], HI⟩
    case round =>
      clear HI
      obtain ⟨k, j, h, H, hk, rfl, h7, rfl, Hk, rfl, hH, HH, HI⟩ := hrel
      have kb : (k : Int) ≤ 1000 := by omega
      have hb7 : (h : Int) ≤ 7 := by omega
      by_cases hlt : k < l.length
      · obtain ⟨b, o, rfl, hb, hcell⟩ := unhide Hc (by intro e; rw [e] at hlt; simp at hlt)
        have e2 : wr.cell? ⟨b, o + k, none⟩ = some (.int .i64 (l.getD k 0)) := by rw [(unhide HI).b.cell hb]; exact hcell k hlt
        rw [← num_at (unhide Hf) k hlt] at e2
        have hin := held_in (num (2 ^ n) (nats l)) k n j h (unhide Hk)
        rw [← unhide HH] at hin
        have hHlt := held_lt (num (2 ^ n) (nats l)) (k * n) j h (unhide Hk)
        rw [← unhide HH] at hHlt
        have hYlt : num (2 ^ n) (nats l) / 2 ^ (k * n) % 2 ^ n < 2 ^ n := Nat.mod_lt _ (Nat.pow_pos (by omega))
        obtain ⟨Y, hY⟩ : ∃ Y, num (2 ^ n) (nats l) / 2 ^ (k * n) % 2 ^ n = Y := ⟨_, rfl⟩
        rw [hY] at e2 hin hYlt
        have hn2 : 2 ^ n ≤ 16777216 := Nat.pow_le_pow_right (show 0 < 2 by omega) n24
        have hh2 : 2 ^ h ≤ 128 := Nat.pow_le_pow_right (show 0 < 2 by omega) h7
        have hYh : Y * 2 ^ h ≤ 16777215 * 128 := Nat.mul_le_mul (by omega) hh2
        have hor := or_held H Y h hHlt (by omega)
        have hsh : ((Y : Int) * 2 ^ h) = ((Y * 2 ^ h : Nat) : Int) := by simp
        obtain ⟨Z, hZ⟩ : ∃ Z, Y * 2 ^ h = Z := ⟨_, rfl⟩
        rw [hZ] at hor hsh hin hYh
        have i0 : (0 : Int) ≤ (k : Int) := by omega
        have i1 : (k : Int) < (l.length : Int) := by omega
        clear hcell hY hHlt hZ
        have HIn := hide hin
        have hnb : (n : Int) ≤ 24 := by omega
        have hHZ : H + Z < 2147483648 := by
          have := held_lt (num (2 ^ n) (nats l)) ((k + 1) * n) j (h + n) (by rw [Nat.add_mul, Nat.one_mul, unhide Hk]; omega)
          rw [hin] at this
          exact Nat.lt_of_lt_of_le this (Nat.pow_le_pow_right (show 0 < 2 by omega) (show h + n ≤ 31 by omega))
        clear hin
        go_wp2
        clear e2 hor hsh
        go_loopw [6, 7, 8] (fun out held have_ wr => ∃ (j h H : Nat), h ≤ 31 ∧ have_ = .int .i64 (h : Int) ∧ Hid ((k + 1) * n = 8 * j + h) ∧ held = .int .u32 (H : Int) ∧ H < 2147483648 ∧ Hid (H = num (2 ^ n) (nats l) % 2 ^ ((k + 1) * n) / 256 ^ j) ∧ Hid (PkIn w1 (num (2 ^ n) (nats l)) j out wr)) (fun _ _ have_ _ => (intOf have_).toNat)
        case atStart => exact ⟨j, h + n, H + Z, by omega, rfl, by show _ = _; rw [Nat.add_mul, Nat.one_mul, unhide Hk]; omega, rfl, hHZ, (unhide HIn).symm, HI⟩
        case round =>
          clear HI HIn HH Hk hH hHZ hYh
          obtain ⟨j, h, H, h31, rfl, Hk, rfl, hH, HH, HI⟩ := hrel
          have hb31 : (h : Int) ≤ 31 := by omega
          have hHb : (H : Int) < 2147483648 := by omega
          by_cases h8 : 8 ≤ h
          · have hby := held_byte (num (2 ^ n) (nats l)) ((k + 1) * n) j (by rw [unhide Hk]; omega)
            rw [← unhide HH] at hby
            have hnx := held_next (num (2 ^ n) (nats l) % 2 ^ ((k + 1) * n)) j
            rw [← unhide HH] at hnx
            have d8 : decide (8 ≤ (h : Int)) = true := by simp; omega
            have cvb : IntKind.u8.wrap (H : Int) = ((H % 256 : Nat) : Int) := by rw [IntKind.wrap_u8']; omega
            have cvs : (H : Int) / 256 = ((H / 256 : Nat) : Int) := by omega
            have hHd : H / 256 < 2147483648 := by omega
            obtain ⟨z, hz⟩ : ∃ z, H % 256 = z := ⟨_, rfl⟩
            obtain ⟨G, hG⟩ : ∃ G, H / 256 = G := ⟨_, rfl⟩
            rw [hz] at cvb hby
            rw [hG] at cvs hHd hnx
            have HO := hide ((unhide HI).own.alloc (.cells #[.int .u8 (z : Int)] 5))
            have HV := hide (vals_new wr [.int .u8 (z : Int)] 5)
            have hbA : Below w1.heap.size w1 (wr.alloc (.cells #[.int .u8 (z : Int)] 5)) := (unhide HI).b.alloc (unhide HI).b.size _
            have HbA := hide hbA
            have hjb : j ≤ 24000 := by
              have h1 := unhide Hk
              have h2 : (k + 1) * n ≤ 1000 * 24 := Nat.mul_le_mul (by omega) n24
              omega
            have Hl := hide (show (bvals (digs 256 (num (2 ^ n) (nats l)) j)).length + [Value.int .u8 (z : Int)].length ≤ 1073741824 by rw [len_bvals, length_digs]; simp; omega)
            have Hs := hide hbA.size
            have HN : Hid (bvals (digs 256 (num (2 ^ n) (nats l)) (j + 1)) = bvals (digs 256 (num (2 ^ n) (nats l)) j) ++ [.int .u8 (z : Int)]) := by
              show _ = _
              rw [digs_succ, ← hby]; simp [bvals]
            have Hnx := hide hnx
            clear hby hnx hbA hjb HI hz hG
            go_wp2_with (at_builtin; refine wpList_append_vals Eb rfl _ _ rfl w1.heap.size _ _ (bvals (digs 256 (num (2 ^ n) (nats l)) j)) [.int .u8 (z : Int)] rfl (unhide HO) rfl (unhide HV) (by simp [Value.oneCell']) (unhide Hs) (unhide Hl) ?_
                         intro v2 w3 hO2 hg2 _
                         rw [← unhide HN] at hO2
                         have HI2 : Hid (PkIn w1 (num (2 ^ n) (nats l)) (j + 1) v2 w3) := ⟨hO2, own_below (unhide HO) hg2 (unhide HbA) (unhide Hs)⟩
                         clear hO2 hg2)
            exact ⟨⟨j + 1, h - 8, G, by omega, by rw [Int.ofNat_sub h8]; rfl, by show _ = _; rw [unhide Hk]; omega, rfl, hHd, unhide Hnx, HI2⟩, by simp [intOf]; omega⟩
          · have d8 : decide (8 ≤ (h : Int)) = false := by simp; omega
            have d8' : decide (8 ≤ h) = false := by simp; omega
            have hH7 : H < 128 := by
              have := held_lt (num (2 ^ n) (nats l)) ((k + 1) * n) j h (unhide Hk)
              rw [← unhide HH] at this
              exact Nat.lt_of_lt_of_le this (Nat.pow_le_pow_right (show 0 < 2 by omega) (show h ≤ 7 by omega))
            go_wp2
            go_roundw
            case rel =>
              first
                | exact ⟨k + 1, j, h, H, by omega, by go_num, by omega, rfl, Hk, rfl, hH7, HH, HI⟩
                | ((repeat apply Exists.intro); exact ⟨⟨k + 1, j, h, H, by omega, by go_num, by omega, rfl, Hk, rfl, hH7, HH, HI⟩, rfl⟩)
            case measure => simp [intOf]; omega
      · obtain rfl : k = l.length := by omega
        have hNb := num_under (unhide Hf)
        have hHN : H = num (2 ^ n) (nats l) / 256 ^ j := by
          have := unhide HH
          rwa [Nat.mod_eq_of_lt hNb] at this
        have hkk := unhide Hk
        have hLL := unhide HL
        have hpk : packN n (nats l) = digs 256 (num (2 ^ n) (nats l)) ((8 * j + h + 7) / 8) := by
          unfold packN
          rw [show (nats l).length = l.length by simp [nats], hkk]
        have hjb : j ≤ 24000 := by omega
        by_cases h0 : 0 < h
        · have d0 : decide (0 < (h : Int)) = true := by simp; omega
          have d0' : decide (0 < h) = true := by simp; omega
          have cvb : IntKind.u8.wrap (H : Int) = (H : Int) := by rw [IntKind.wrap_u8']; omega
          have HO := hide ((unhide HI).own.alloc (.cells #[.int .u8 (H : Int)] 5))
          have HV := hide (vals_new wr [.int .u8 (H : Int)] 5)
          have hbA : Below w1.heap.size w1 (wr.alloc (.cells #[.int .u8 (H : Int)] 5)) := (unhide HI).b.alloc (unhide HI).b.size _
          have HbA := hide hbA
          have Hl := hide (show (bvals (digs 256 (num (2 ^ n) (nats l)) j)).length + [Value.int .u8 (H : Int)].length ≤ 1073741824 by rw [len_bvals, length_digs]; simp; omega)
          have Hs := hide hbA.size
          have HN : Hid (bvals (packN n (nats l)) = bvals (digs 256 (num (2 ^ n) (nats l)) j) ++ [.int .u8 (H : Int)]) := by
            show _ = _
            rw [hpk, show (8 * j + h + 7) / 8 = j + 1 by omega, digs_succ, ← hHN, Nat.mod_eq_of_lt (by omega)]; simp [bvals]
          clear hNb hHN hkk hLL hpk hjb HI hbA HH Hk
          go_wp2_with (at_builtin; refine wpList_append_vals Eb rfl _ _ rfl w1.heap.size _ _ (bvals (digs 256 (num (2 ^ n) (nats l)) j)) [.int .u8 (H : Int)] rfl (unhide HO) rfl (unhide HV) (by simp [Value.oneCell']) (unhide Hs) (unhide Hl) ?_
                       intro v2 w3 hO2 hg2 _
                       rw [← unhide HN] at hO2
                       have HO2 := hide hO2
                       have HB2 := hide (own_below (unhide HO) hg2 (unhide HbA) (unhide Hs))
                       clear hO2 hg2)
          go_ret2
          exact ⟨_, rfl, unhide HO2, unhide HB2⟩
        · have d0 : decide (0 < (h : Int)) = false := by simp; omega
          have d0' : decide (0 < h) = false := by simp; omega
          have HO : Hid (OwnV 5 wr w1.heap.size u6 (bvals (packN n (nats l)))) := by
            show OwnV _ _ _ _ _
            rw [hpk, show (8 * j + h + 7) / 8 = j by omega]
            exact (unhide HI).own
          have HB := hide (unhide HI).b
          clear hNb hHN hkk hLL hpk hjb HI HH Hk
          go_wp2
          go_ret2
          exact ⟨_, rfl, unhide HO, unhide HB⟩
  · exact absurd (unhide Hf) hF
end Go.Proofs.Ythciafobknaipaa
