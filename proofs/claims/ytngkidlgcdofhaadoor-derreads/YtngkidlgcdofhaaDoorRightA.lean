/-
  The walk of the reference's right: the tags whose bytes are looked at one by one (1, 2, 10, 3, 4, 5).
-/
import Derived.Test.YtngkidlgcdofhaaDoorTold9
import Derived.BigRegion
namespace Go.Proofs.YtngkidlgcdofhaaDoor
open Go.RowKit
theorem u8_dec (c : UInt8) (n : Nat) (h : n < 256) : decide (c = UInt8.ofNat n) = decide (c.toNat = n) := by
  have e : (UInt8.ofNat n).toNat = n := by rw [UInt8.toNat_ofNat']; omega
  by_cases hc : c.toNat = n
  · rw [decide_eq_true hc, decide_eq_true (UInt8.toNat_inj.1 (by rw [e]; exact hc))]
  · rw [decide_eq_false hc, decide_eq_false (fun h2 => hc (by rw [h2]; exact e))]
theorem right1 (b : Bs) : rightP 1 b = (decide (b.length = 1) && (decide ((b.getD 0 0).toNat = 0) || decide ((b.getD 0 0).toNat = 255))) := by
  unfold rightP
  rw [if_pos rfl, ← u8_dec _ 0 (by omega), ← u8_dec _ 255 (by omega)]
  rfl
theorem right2 {t : Nat} (ht : t = 2 ∨ t = 10) (b : Bs) : rightP t b = (decide (b.length = 1) || (decide (1 < b.length) && (!decide ((b.getD 0 0).toNat = 0) || decide (128 ≤ (b.getD 1 0).toNat)) && (!decide ((b.getD 0 0).toNat = 255) || decide ((b.getD 1 0).toNat < 128)))) := by
  unfold rightP
  rw [if_neg (by omega), if_pos ht, ← u8_dec _ 0 (by omega), ← u8_dec _ 255 (by omega)]
  rfl
theorem right3 (b : Bs) : rightP 3 b = (if b.length = 0 ∨ 7 < (b.getD 0 0).toNat then false else if b.length = 1 then decide ((b.getD 0 0).toNat = 0) else decide ((b.getD (b.length - 1) 0).toNat % 2 ^ (b.getD 0 0).toNat = 0)) := by
  unfold rightP
  rw [if_neg (by omega), if_neg (by omega), if_pos rfl, ← u8_dec _ 0 (by omega)]
  rfl
theorem right5 (b : Bs) : rightP 5 b = decide (b.length = 0) := by
  unfold rightP
  rw [if_neg (by omega), if_neg (by omega), if_neg (by omega), if_pos rfl]
theorem right4 (b : Bs) : rightP 4 b = true := by
  unfold rightP
  rw [if_neg (by omega), if_neg (by omega), if_neg (by omega), if_neg (by omega), if_neg (by omega), if_neg (by omega), if_neg (by omega), if_neg (by omega), if_neg (by omega), if_neg (by omega)]
/-- The byte at a place, as a letter. -/
theorem byte_at {w : World} {sp : Option Addr} {N c : Nat} {b : Bs} (h : BytesAt w (.slice sp N c) b) (hN : b.length = N) (k : Nat) (hk : k < N) : ∃ ba oa p, sp = some ⟨ba, oa, none⟩ ∧ (b.getD k 0).toNat = p ∧ p < 256 ∧ w.cell? ⟨ba, oa + k, none⟩ = some (.int .u8 (p : Int)) := by
  obtain ⟨s, c', e, _, _, hc⟩ := bytes_open h
  simp only [Value.slice.injEq] at e
  obtain ⟨rfl, _, _⟩ := e
  obtain ⟨ba, oa, e2, _, hcell⟩ := hc (fun e => by rw [e] at hN; simp at hN; omega)
  exact ⟨ba, oa, _, e2, rfl, (b.getD k 0).toNat_lt, hcell k (by omega)⟩
set_option maxRecDepth 100000 in
set_option maxHeartbeats 4000000 in
theorem right_1 (w : World) (x : Value) (b : Bs) (hx : BytesAt w x b) :
    Calls Tryd.prog 37 #[.int .i64 1, x] w fun e w' => e = .returned (.bool (rightP 1 b)) ∧ Below w.heap.size w w' := by
  have HR := hide (right1 b)
  obtain ⟨sp, c, rfl, _, _, _⟩ := bytes_open hx
  obtain ⟨N, hN⟩ : ∃ N, b.length = N := ⟨_, rfl⟩
  rw [hN] at hx HR ⊢
  have Hb := hide (Below.refl w.heap.size w)
  by_cases h1 : N = 1
  · obtain ⟨ba, oa, p, rfl, hp, hpb, hc⟩ := byte_at hx hN 0 (by omega)
    rw [Nat.add_zero] at hc
    rw [hp] at HR
    subst h1
    clear hx hN hp
    rcases (by omega : p = 0 ∨ p = 255 ∨ (p ≠ 0 ∧ p ≠ 255)) with rfl | rfl | hpp
    · have HT : Hid (rightP 1 b = true) := by show _ = _; rw [unhide HR]; rfl
      clear HR
      go_enter Tryd.func37, Tryd.ntmps37
      go_wp2
      go_ret
      exact ⟨by rw [unhide HT]; rfl, unhide Hb⟩
    · have HT : Hid (rightP 1 b = true) := by show _ = _; rw [unhide HR]; rfl
      clear HR
      go_enter Tryd.func37, Tryd.ntmps37
      go_wp2
      go_ret
      exact ⟨by rw [unhide HT]; rfl, unhide Hb⟩
    · have HT : Hid (rightP 1 b = false) := by show _ = _; rw [unhide HR]; simp; omega
      have d1 : ((p : Int) == 0) = false := by simp; omega
      have d2 : ((p : Int) == 255) = false := by simp; omega
      clear HR
      go_enter Tryd.func37, Tryd.ntmps37
      go_wp2
      go_ret
      exact ⟨by rw [unhide HT]; rfl, unhide Hb⟩
  · have HT : Hid (rightP 1 b = false) := by show _ = _; rw [unhide HR]; simp; omega
    have d1 : ((N : Int) == 1) = false := by simp; omega
    clear HR hx hN
    go_enter Tryd.func37, Tryd.ntmps37
    go_wp2
    go_ret
    exact ⟨by rw [unhide HT]; rfl, unhide Hb⟩
set_option maxRecDepth 100000 in
set_option maxHeartbeats 8000000 in
theorem right_2 (t : Nat) (ht : t = 2 ∨ t = 10) (w : World) (x : Value) (b : Bs) (hx : BytesAt w x b) :
    Calls Tryd.prog 37 #[.int .i64 (t : Int), x] w fun e w' => e = .returned (.bool (rightP t b)) ∧ Below w.heap.size w w' := by
  have HR := hide (right2 ht b)
  obtain ⟨sp, c, rfl, _, _, _⟩ := bytes_open hx
  obtain ⟨N, hN⟩ : ∃ N, b.length = N := ⟨_, rfl⟩
  rw [hN] at hx HR ⊢
  have Hb := hide (Below.refl w.heap.size w)
  rcases (by omega : N = 1 ∨ N = 0 ∨ 1 < N) with h1 | h1 | h1
  · subst h1
    have HT : Hid (rightP t b = true) := by show _ = _; rw [unhide HR]; rfl
    clear HR hx hN
    rcases ht with rfl | rfl <;>
    · go_enter Tryd.func37, Tryd.ntmps37
      go_wp2
      go_ret
      exact ⟨by rw [unhide HT]; rfl, unhide Hb⟩
  · subst h1
    have HT : Hid (rightP t b = false) := by show _ = _; rw [unhide HR]; rfl
    clear HR hx hN
    rcases ht with rfl | rfl <;>
    · go_enter Tryd.func37, Tryd.ntmps37
      go_wp2
      go_ret
      exact ⟨by rw [unhide HT]; rfl, unhide Hb⟩
  · obtain ⟨ba, oa, p, rfl, hp, hpb, hc⟩ := byte_at hx hN 0 (by omega)
    rw [Nat.add_zero] at hc
    obtain ⟨ba', oa', q, e, hq, hqb, hc2⟩ := byte_at hx hN 1 (by omega)
    simp only [Option.some.injEq, Addr.mk.injEq, and_true] at e
    obtain ⟨rfl, rfl⟩ := e
    rw [hp, hq] at HR
    have n1 : ((N : Int) == 1) = false := by simp; omega
    have n2 : decide ((1 : Int) < (N : Int)) = true := by simp; omega
    have n2n : decide (1 < N) = true := by simp; omega
    have n3 : (0 : Int) < (N : Int) := by omega
    have n4 : (1 : Int) < (N : Int) := by omega
    rw [n2n, decide_eq_false (by omega : ¬ N = 1)] at HR
    clear hx hN hp hq
    rcases (by omega : (p ≠ 0 ∧ p ≠ 255) ∨ (p = 0 ∧ 128 ≤ q) ∨ (p = 0 ∧ q < 128) ∨ (p = 255 ∧ 128 ≤ q) ∨ (p = 255 ∧ q < 128)) with h | h | h | h | h
    · have HT : Hid (rightP t b = true) := by show _ = _; rw [unhide HR]; simp [h.1, h.2]
      have d1 : ((p : Int) == 0) = false := by simp; omega
      have d1' : ((p : Int) != 0) = true := by simp; omega
      have d2 : ((p : Int) == 255) = false := by simp; omega
      have d2' : ((p : Int) != 255) = true := by simp; omega
      clear HR
      rcases ht with rfl | rfl <;>
      · go_enter Tryd.func37, Tryd.ntmps37
        go_wp2
        go_ret
        exact ⟨by rw [unhide HT]; rfl, unhide Hb⟩
    · obtain ⟨rfl, hq⟩ := h
      have HT : Hid (rightP t b = true) := by show _ = _; rw [unhide HR]; simp; omega
      have d1 : decide ((128 : Int) ≤ (q : Int)) = true := by simp; omega
      have d1n : decide (128 ≤ q) = true := by simp; omega
      clear HR
      rcases ht with rfl | rfl <;>
      · go_enter Tryd.func37, Tryd.ntmps37
        go_wp2
        go_ret
        exact ⟨by rw [unhide HT]; rfl, unhide Hb⟩
    · obtain ⟨rfl, hq⟩ := h
      have HT : Hid (rightP t b = false) := by show _ = _; rw [unhide HR]; simp; omega
      have d1 : decide ((128 : Int) ≤ (q : Int)) = false := by simp; omega
      have d1n : decide (128 ≤ q) = false := by simp; omega
      clear HR
      rcases ht with rfl | rfl <;>
      · go_enter Tryd.func37, Tryd.ntmps37
        go_wp2
        go_ret
        exact ⟨by rw [unhide HT]; rfl, unhide Hb⟩
    · obtain ⟨rfl, hq⟩ := h
      have HT : Hid (rightP t b = false) := by show _ = _; rw [unhide HR]; simp; omega
      have d1 : decide ((q : Int) < 128) = false := by simp; omega
      have d1n : decide (q < 128) = false := by simp; omega
      clear HR
      rcases ht with rfl | rfl <;>
      · go_enter Tryd.func37, Tryd.ntmps37
        go_wp2
        go_ret
        exact ⟨by rw [unhide HT]; rfl, unhide Hb⟩
    · obtain ⟨rfl, hq⟩ := h
      have HT : Hid (rightP t b = true) := by show _ = _; rw [unhide HR]; simp; omega
      have d1 : decide ((q : Int) < 128) = true := by simp; omega
      have d1n : decide (q < 128) = true := by simp; omega
      clear HR
      rcases ht with rfl | rfl <;>
      · go_enter Tryd.func37, Tryd.ntmps37
        go_wp2
        go_ret
        exact ⟨by rw [unhide HT]; rfl, unhide Hb⟩
set_option maxRecDepth 100000 in
set_option maxHeartbeats 8000000 in
theorem right_3 (w : World) (x : Value) (b : Bs) (hx : BytesAt w x b) (hl : b.length ≤ 100000) :
    Calls Tryd.prog 37 #[.int .i64 3, x] w fun e w' => e = .returned (.bool (rightP 3 b)) ∧ Below w.heap.size w w' := by
  have HR := hide (right3 b)
  obtain ⟨sp, c, rfl, _, _, _⟩ := bytes_open hx
  obtain ⟨N, hN⟩ : ∃ N, b.length = N := ⟨_, rfl⟩
  rw [hN] at hx HR hl ⊢
  have Hb := hide (Below.refl w.heap.size w)
  by_cases h0 : N = 0
  · subst h0
    have HT : Hid (rightP 3 b = false) := by show _ = _; rw [unhide HR]; rfl
    clear HR hx hN
    go_enter Tryd.func37, Tryd.ntmps37
    go_wp2
    go_ret
    exact ⟨by rw [unhide HT]; rfl, unhide Hb⟩
  obtain ⟨ba, oa, p, rfl, hp, hpb, hc⟩ := byte_at hx hN 0 (by omega)
  rw [Nat.add_zero] at hc
  rw [hp] at HR
  have n0 : ((N : Int) == 0) = false := by simp; omega
  have n3 : (0 : Int) < (N : Int) := by omega
  by_cases h7 : 7 < p
  · have HT : Hid (rightP 3 b = false) := by show _ = _; rw [unhide HR, if_pos (Or.inr h7)]
    have d1 : decide ((7 : Int) < (p : Int)) = true := by simp; omega
    have d1n : decide (7 < p) = true := by simp; omega
    clear HR hx hN hp
    go_enter Tryd.func37, Tryd.ntmps37
    go_wp2
    go_ret
    exact ⟨by rw [unhide HT]; rfl, unhide Hb⟩
  have d1 : decide ((7 : Int) < (p : Int)) = false := by simp; omega
  have d1n : decide (7 < p) = false := by simp; omega
  by_cases h1 : N = 1
  · subst h1
    have HT : Hid (rightP 3 b = decide (p = 0)) := by show _ = _; rw [unhide HR, if_neg (by omega), if_pos rfl]
    clear HR hx hN hp
    by_cases hp0 : p = 0
    · subst hp0
      go_enter Tryd.func37, Tryd.ntmps37
      go_wp2
      go_ret
      exact ⟨by rw [unhide HT]; rfl, unhide Hb⟩
    · have d2 : ((p : Int) == 0) = false := by simp; omega
      go_enter Tryd.func37, Tryd.ntmps37
      go_wp2
      go_ret
      exact ⟨by rw [unhide HT, decide_eq_false hp0]; rfl, unhide Hb⟩
  have n1 : ((N : Int) == 1) = false := by simp; omega
  obtain ⟨K, hK⟩ : ∃ K, N - 1 = K := ⟨_, rfl⟩
  obtain ⟨ba', oa', q, e, hq, hqb, hc2⟩ := byte_at hx hN K (by omega)
  simp only [Option.some.injEq, Addr.mk.injEq, and_true] at e
  obtain ⟨rfl, rfl⟩ := e
  have HT : Hid (rightP 3 b = decide (q % 2 ^ p = 0)) := by show _ = _; rw [unhide HR, if_neg (by omega), if_neg h1, hK, hq]
  have eK : (N : Int) - 1 = (K : Int) := by omega
  have K0 : (0 : Int) ≤ (K : Int) := by omega
  have K1 : (K : Int) < (N : Int) := by omega
  have uK : IntKind.i64.wrap (K : Int) = (K : Int) := IntWalk.i64_in _ (by omega)
  have uq : IntKind.i64.wrap (q : Int) = (q : Int) := IntWalk.i64_in _ (by omega)
  clear HR hx hN hp hq hK h1 h0
  rcases (by omega : p = 0 ∨ p = 1 ∨ p = 2 ∨ p = 3 ∨ p = 4 ∨ p = 5 ∨ p = 6 ∨ p = 7) with rfl | rfl | rfl | rfl | rfl | rfl | rfl | rfl
  · have HT2 : Hid (rightP 3 b = true) := by show _ = _; rw [unhide HT]; simp; omega
    clear HT
    go_enter Tryd.func37, Tryd.ntmps37
    go_wp2
    go_region
    go_wp2
    go_ret
    exact ⟨by rw [unhide HT2]; rfl, (unhide Hb).drew⟩
  · have HT2 : Hid (rightP 3 b = decide (q % 2 = 0)) := unhide HT
    obtain ⟨r, hr⟩ : ∃ r, q % 2 = r := ⟨_, rfl⟩
    rw [hr] at HT2
    have er : (q : Int) % 2 = (r : Int) := by omega
    have ur : IntKind.i64.wrap (r : Int) = (r : Int) := IntWalk.i64_in _ (by omega)
    clear HT hr
    by_cases hr0 : r = 0
    · subst hr0
      go_enter Tryd.func37, Tryd.ntmps37
      go_wp2
      go_region
      go_wp2
      go_ret
      exact ⟨by rw [unhide HT2]; rfl, (unhide Hb).drew⟩
    · have d5 : ((r : Int) == 0) = false := by simp; omega
      go_enter Tryd.func37, Tryd.ntmps37
      go_wp2
      go_region
      go_wp2
      go_ret
      exact ⟨by rw [unhide HT2, decide_eq_false hr0]; rfl, (unhide Hb).drew⟩
  · have HT2 : Hid (rightP 3 b = decide (q % 4 = 0)) := unhide HT
    obtain ⟨r, hr⟩ : ∃ r, q % 4 = r := ⟨_, rfl⟩
    rw [hr] at HT2
    have er : (q : Int) % 4 = (r : Int) := by omega
    have ur : IntKind.i64.wrap (r : Int) = (r : Int) := IntWalk.i64_in _ (by omega)
    clear HT hr
    by_cases hr0 : r = 0
    · subst hr0
      go_enter Tryd.func37, Tryd.ntmps37
      go_wp2
      go_region
      go_wp2
      go_ret
      exact ⟨by rw [unhide HT2]; rfl, (unhide Hb).drew⟩
    · have d5 : ((r : Int) == 0) = false := by simp; omega
      go_enter Tryd.func37, Tryd.ntmps37
      go_wp2
      go_region
      go_wp2
      go_ret
      exact ⟨by rw [unhide HT2, decide_eq_false hr0]; rfl, (unhide Hb).drew⟩
  · have HT2 : Hid (rightP 3 b = decide (q % 8 = 0)) := unhide HT
    obtain ⟨r, hr⟩ : ∃ r, q % 8 = r := ⟨_, rfl⟩
    rw [hr] at HT2
    have er : (q : Int) % 8 = (r : Int) := by omega
    have ur : IntKind.i64.wrap (r : Int) = (r : Int) := IntWalk.i64_in _ (by omega)
    clear HT hr
    by_cases hr0 : r = 0
    · subst hr0
      go_enter Tryd.func37, Tryd.ntmps37
      go_wp2
      go_region
      go_wp2
      go_ret
      exact ⟨by rw [unhide HT2]; rfl, (unhide Hb).drew⟩
    · have d5 : ((r : Int) == 0) = false := by simp; omega
      go_enter Tryd.func37, Tryd.ntmps37
      go_wp2
      go_region
      go_wp2
      go_ret
      exact ⟨by rw [unhide HT2, decide_eq_false hr0]; rfl, (unhide Hb).drew⟩
  · have HT2 : Hid (rightP 3 b = decide (q % 16 = 0)) := unhide HT
    obtain ⟨r, hr⟩ : ∃ r, q % 16 = r := ⟨_, rfl⟩
    rw [hr] at HT2
    have er : (q : Int) % 16 = (r : Int) := by omega
    have ur : IntKind.i64.wrap (r : Int) = (r : Int) := IntWalk.i64_in _ (by omega)
    clear HT hr
    by_cases hr0 : r = 0
    · subst hr0
      go_enter Tryd.func37, Tryd.ntmps37
      go_wp2
      go_region
      go_wp2
      go_ret
      exact ⟨by rw [unhide HT2]; rfl, (unhide Hb).drew⟩
    · have d5 : ((r : Int) == 0) = false := by simp; omega
      go_enter Tryd.func37, Tryd.ntmps37
      go_wp2
      go_region
      go_wp2
      go_ret
      exact ⟨by rw [unhide HT2, decide_eq_false hr0]; rfl, (unhide Hb).drew⟩
  · have HT2 : Hid (rightP 3 b = decide (q % 32 = 0)) := unhide HT
    obtain ⟨r, hr⟩ : ∃ r, q % 32 = r := ⟨_, rfl⟩
    rw [hr] at HT2
    have er : (q : Int) % 32 = (r : Int) := by omega
    have ur : IntKind.i64.wrap (r : Int) = (r : Int) := IntWalk.i64_in _ (by omega)
    clear HT hr
    by_cases hr0 : r = 0
    · subst hr0
      go_enter Tryd.func37, Tryd.ntmps37
      go_wp2
      go_region
      go_wp2
      go_ret
      exact ⟨by rw [unhide HT2]; rfl, (unhide Hb).drew⟩
    · have d5 : ((r : Int) == 0) = false := by simp; omega
      go_enter Tryd.func37, Tryd.ntmps37
      go_wp2
      go_region
      go_wp2
      go_ret
      exact ⟨by rw [unhide HT2, decide_eq_false hr0]; rfl, (unhide Hb).drew⟩
  · have HT2 : Hid (rightP 3 b = decide (q % 64 = 0)) := unhide HT
    obtain ⟨r, hr⟩ : ∃ r, q % 64 = r := ⟨_, rfl⟩
    rw [hr] at HT2
    have er : (q : Int) % 64 = (r : Int) := by omega
    have ur : IntKind.i64.wrap (r : Int) = (r : Int) := IntWalk.i64_in _ (by omega)
    clear HT hr
    by_cases hr0 : r = 0
    · subst hr0
      go_enter Tryd.func37, Tryd.ntmps37
      go_wp2
      go_region
      go_wp2
      go_ret
      exact ⟨by rw [unhide HT2]; rfl, (unhide Hb).drew⟩
    · have d5 : ((r : Int) == 0) = false := by simp; omega
      go_enter Tryd.func37, Tryd.ntmps37
      go_wp2
      go_region
      go_wp2
      go_ret
      exact ⟨by rw [unhide HT2, decide_eq_false hr0]; rfl, (unhide Hb).drew⟩
  · have HT2 : Hid (rightP 3 b = decide (q % 128 = 0)) := unhide HT
    obtain ⟨r, hr⟩ : ∃ r, q % 128 = r := ⟨_, rfl⟩
    rw [hr] at HT2
    have er : (q : Int) % 128 = (r : Int) := by omega
    have ur : IntKind.i64.wrap (r : Int) = (r : Int) := IntWalk.i64_in _ (by omega)
    clear HT hr
    by_cases hr0 : r = 0
    · subst hr0
      go_enter Tryd.func37, Tryd.ntmps37
      go_wp2
      go_region
      go_wp2
      go_ret
      exact ⟨by rw [unhide HT2]; rfl, (unhide Hb).drew⟩
    · have d5 : ((r : Int) == 0) = false := by simp; omega
      go_enter Tryd.func37, Tryd.ntmps37
      go_wp2
      go_region
      go_wp2
      go_ret
      exact ⟨by rw [unhide HT2, decide_eq_false hr0]; rfl, (unhide Hb).drew⟩
set_option maxRecDepth 100000 in
set_option maxHeartbeats 4000000 in
theorem right_4 (w : World) (x : Value) (b : Bs) (hx : BytesAt w x b) :
    Calls Tryd.prog 37 #[.int .i64 4, x] w fun e w' => e = .returned (.bool (rightP 4 b)) ∧ Below w.heap.size w w' := by
  have HR := hide (right4 b)
  obtain ⟨sp, c, rfl, _, _, _⟩ := bytes_open hx
  have Hb := hide (Below.refl w.heap.size w)
  clear hx
  go_enter Tryd.func37, Tryd.ntmps37
  go_wp2
  go_ret
  exact ⟨by rw [unhide HR]; rfl, unhide Hb⟩
set_option maxRecDepth 100000 in
set_option maxHeartbeats 4000000 in
theorem right_5 (w : World) (x : Value) (b : Bs) (hx : BytesAt w x b) :
    Calls Tryd.prog 37 #[.int .i64 5, x] w fun e w' => e = .returned (.bool (rightP 5 b)) ∧ Below w.heap.size w w' := by
  have HR := hide (right5 b)
  obtain ⟨sp, c, rfl, _, _, _⟩ := bytes_open hx
  obtain ⟨N, hN⟩ : ∃ N, b.length = N := ⟨_, rfl⟩
  rw [hN] at HR ⊢
  have Hb := hide (Below.refl w.heap.size w)
  clear hx hN
  by_cases h0 : N = 0
  · subst h0
    go_enter Tryd.func37, Tryd.ntmps37
    go_wp2
    go_ret
    exact ⟨by rw [unhide HR]; rfl, unhide Hb⟩
  · have d1 : ((N : Int) == 0) = false := by simp; omega
    go_enter Tryd.func37, Tryd.ntmps37
    go_wp2
    go_ret
    exact ⟨by rw [unhide HR, decide_eq_false h0]; rfl, unhide Hb⟩
end Go.Proofs.YtngkidlgcdofhaaDoor
