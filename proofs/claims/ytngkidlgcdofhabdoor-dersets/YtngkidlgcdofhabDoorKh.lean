/-
  The walks of the landed readTag and readLength.
-/
import Derived.Test.YtngkidlgcdofhabDoorKp
import Derived.Test.YtngkidlgcdofhabDoorCut9
import Derived.BigQuiet
namespace Go.Proofs.YtngkidlgcdofhabDoor
open Go.RowKit
namespace K
/-- What lies behind k bytes of a slice, and the slice expression that gives it. -/
theorem tail_at (sp : Option Addr) (c : Nat) {n : Nat} {t : Bs} (hn : t.length = n) (k : Nat) (kz : Int) (hkz : kz = (k : Int)) (hk : k ≤ n) :
    ∃ sp' c' m, m + k = n ∧ (∀ W, (Instr.sliceAt 23 (.slice sp n c) (some (.int .i64 kz)) none none).run Tryd.prog W = .ok (.slice sp' m c') W) ∧ (∀ W, BytesAt W (.slice sp n c) t → BytesAt W (.slice sp' m c') (t.drop k)) ∧ (t.drop k).length = m := by
  subst hn
  subst hkz
  exact ⟨_, _, _, by omega, fun W => slice_rest sp t.length c k hk W, fun W h => bytes_rest h k hk, by rw [List.length_drop]⟩
theorem or_add (a q n : Nat) (h : q < 2 ^ n) : (a * 2 ^ n) ||| q = a * 2 ^ n + q := by
  rw [Nat.mul_comm]
  exact (Nat.two_pow_add_eq_or_of_lt h a).symm
theorem or_i64 (a b : Nat) (ha : a < 9223372036854775808) (hb : b < 9223372036854775808) : bits .or .i64 (a : Int) (b : Int) = ((a ||| b : Nat) : Int) := by
  have hx : a ||| b < 2 ^ 63 := Nat.or_lt_two_pow (by omega) (by omega)
  have e : ∀ n : Nat, n < 9223372036854775808 → (BitVec.ofInt 64 (n : Int)).toNat = n := fun n hn => by rw [BitVec.toNat_ofInt]; omega
  show IntKind.i64.wrap ((BitVec.ofInt 64 (a : Int) ||| BitVec.ofInt 64 (b : Int)).toNat : Int) = _
  rw [BitVec.toNat_or, e a ha, e b hb]
  exact IntWalk.i64_in _ (by omega)
theorem low7 : ∀ p : Fin 256, bits .andNot .u8 ((p.val : Nat) : Int) 128 = ((p.val % 128 : Nat) : Int) := by decide +kernel
/-- A tag in bytes of its own. -/
def ltagP (l : Bs) : Told (Nat × Bs) := match longP 0 0 l with
  | .no e => .no e
  | .yes (t, r) => if t < 31 then .no 21 else .yes (t, r)
/-- What is told of a number that is read: the number, what is left, the error. -/
def NumTold (x : Value) (b : Bs) (told : Told (Nat × Bs)) (tv : Nat) (rest : Value) (er : Nat) : Prop := match told with
  | .no e => er = e ∧ rest = .slice none 0 0
  | .yes (t, r) => er = 0 ∧ tv = t ∧ ∃ sp c, rest = .slice sp r.length c ∧ ∀ W, BytesAt W x b → BytesAt W rest r
theorem long_cons (i acc : Nat) (c : UInt8) (l : Bs) : longP i acc (c :: l) = if (i = 0 ∧ c = 128) ∨ i = 3 then .no 21 else if c.toNat < 128 then .yes (128 * acc + c.toNat % 128, l) else longP (i + 1) (128 * acc + c.toNat % 128) l := rfl
theorem drop_cons {b : Bs} {k : Nat} (hk : k < b.length) : b.drop k = b.getD k 0 :: b.drop (k + 1) := by
  rw [List.drop_eq_getElem_cons hk, List.getD_eq_getElem?_getD, List.getElem?_eq_getElem hk]
  rfl
theorem u8_lit (c : UInt8) (n : Nat) (h : n < 256) : c = UInt8.ofNat n ↔ c.toNat = n := by
  have := u8_dec c n h
  constructor
  · intro e
    rw [decide_eq_true e] at this
    exact of_decide_eq_true this.symm
  · intro e
    rw [decide_eq_true e] at this
    exact of_decide_eq_true this
set_option maxRecDepth 100000 in
set_option maxHeartbeats 8000000 in
theorem rtag_c (w : World) (x : Value) (b : Bs) (hx : BytesAt w x b) (hl : b.length ≤ 1000000) :
    Calls Tryd.prog 31 #[x] w fun e w' => ∃ (tv : Nat) (rest : Value) (er : Nat), e = .returned (.tuple #[.int .i64 (tv : Int), rest, .int .i64 (er : Int)]) ∧ NumTold x b (ltagP b) tv rest er ∧ Below w.heap.size w w' := by
  obtain ⟨sp, c, rfl, _, _, _⟩ := bytes_open hx
  obtain ⟨N, hN⟩ : ∃ N, b.length = N := ⟨_, rfl⟩
  have HN := hide hN
  rw [hN] at hx hl ⊢
  have HX := hide hx
  have Hb := hide (Below.refl w.heap.size w)
  clear hx hN
  go_enter Tryd.func31, Tryd.ntmps31
  go_wp2
  go_loopw [2, 9] (fun aa ii wr => ∃ k acc : Nat, k ≤ N ∧ k ≤ 3 ∧ aa = .int .i64 (acc : Int) ∧ ii = .int .i64 (k : Int) ∧ wr = w ∧ acc ≤ 2097151 ∧ Hid (acc < 128 ^ k ∧ longP 0 0 b = longP k acc (b.drop k))) (fun _ ii _ => N - (intOf ii).toNat)
  case atStart => exact ⟨0, 0, by omega, by omega, rfl, rfl, rfl, by omega, by simp, by rw [List.drop_zero]⟩
  case round =>
    obtain ⟨k, acc, hk, hk3, rfl, rfl, hwr, hacc, HE⟩ := hrel
    have := hwr.symm
    subst this
    by_cases hlt : k < N
    · obtain ⟨ba, oa, p, rfl, hp, hpb, hc⟩ := byte_at (unhide HX) (unhide HN) k hlt
      have Hkl : Hid (k < b.length) := by show _ < _; rw [unhide HN]; exact hlt
      have HL : Hid (longP 0 0 b = if (k = 0 ∧ p = 128) ∨ k = 3 then .no 21 else if p < 128 then .yes (128 * acc + p % 128, b.drop (k + 1)) else longP (k + 1) (128 * acc + p % 128) (b.drop (k + 1))) := by
        show _ = _
        rw [(unhide HE).2, drop_cons (unhide Hkl), long_cons, hp]
        have e : ((b.getD k 0) = 128) = (p = 128) := by rw [← hp]; exact propext (u8_lit _ 128 (by omega))
        simp only [e]
      have d1 : decide ((k : Int) < (N : Int)) = true := by simp; omega
      have d1n : decide (k < N) = true := by simp; omega
      have k0 : (0 : Int) ≤ (k : Int) := by omega
      have k1 : (k : Int) < (N : Int) := by omega
      clear hp
      by_cases h3 : k = 3
      · have e3 : ((k : Int) == 3) = true := by simp; omega
        have z0 : ((k : Int) == 0) = false := by simp; omega
        have HT : Hid (ltagP b = .no 21) := by show _ = _; unfold ltagP; rw [unhide HL, if_pos (Or.inr h3)]
        clear HL HE h3
        go_wp2
        go_ret3
        exact ⟨0, _, 21, rfl, by rw [unhide HT]; exact ⟨rfl, rfl⟩, unhide Hb⟩
      have e3 : ((k : Int) == 3) = false := by simp; omega
      by_cases h0 : k = 0 ∧ p = 128
      · have z0 : ((k : Int) == 0) = true := by simp; omega
        have z1 : ((p : Int) == 128) = true := by simp; omega
        have HT : Hid (ltagP b = .no 21) := by show _ = _; unfold ltagP; rw [unhide HL, if_pos (Or.inl h0)]
        clear HL HE h0
        go_wp2
        go_ret3
        exact ⟨0, _, 21, rfl, by rw [unhide HT]; exact ⟨rfl, rfl⟩, unhide Hb⟩
      have HL2 : Hid (longP 0 0 b = if p < 128 then .yes (128 * acc + p % 128, b.drop (k + 1)) else longP (k + 1) (128 * acc + p % 128) (b.drop (k + 1))) := by
        show _ = _
        rw [unhide HL, if_neg (by omega)]
      have hacc2 : acc < 16384 := by
        have h1 := (unhide HE).1
        have h2 := Nat.pow_le_pow_right (show 0 < 128 by omega) (show k ≤ 2 by omega)
        omega
      obtain ⟨q, hq⟩ : ∃ q, p % 128 = q := ⟨_, rfl⟩
      obtain ⟨a2, ha2⟩ : ∃ a2, acc * 128 = a2 := ⟨_, rfl⟩
      obtain ⟨a3, ha3⟩ : ∃ a3, a2 + q = a3 := ⟨_, rfl⟩
      have hand : bits .andNot .u8 (p : Int) 128 = (q : Int) := by rw [← hq]; exact low7 ⟨p, hpb⟩
      have e2 : (acc : Int) * 128 = (a2 : Int) := by omega
      have u2 : IntKind.i64.wrap (a2 : Int) = (a2 : Int) := IntWalk.i64_in _ (by omega)
      have uq : IntKind.i64.wrap (q : Int) = (q : Int) := IntWalk.i64_in _ (by omega)
      have hor : bits .or .i64 (a2 : Int) (q : Int) = (a3 : Int) := by
        rw [or_i64 a2 q (by omega) (by omega), ← ha2, ← ha3, show acc * 128 = acc * 2 ^ 7 from rfl, or_add acc q 7 (by omega)]
        omega
      rw [show 128 * acc + p % 128 = a3 by omega] at HL2
      have HE2 : Hid (a3 < 128 ^ (k + 1)) := by
        show _ < _
        have h1 := (unhide HE).1
        rw [Nat.pow_succ]
        omega
      have ha3b : a3 ≤ 2097151 := by omega
      have hcc : (k = 0 ∧ p ≠ 128) ∨ k ≠ 0 := by omega
      clear hq ha2 ha3 HL HE hacc2 h0
      by_cases hs : p < 128
      · have s1 : decide ((p : Int) < 128) = true := by simp; omega
        have s1n : decide (p < 128) = true := by simp; omega
        have s2 : ((p : Int) == 128) = false := by simp; omega
        have HL3 : Hid (longP 0 0 b = .yes (a3, b.drop (k + 1))) := by show _ = _; rw [unhide HL2, if_pos hs]
        by_cases h31 : a3 < 31
        · have HT : Hid (ltagP b = .no 21) := by show _ = _; unfold ltagP; rw [unhide HL3]; show (if a3 < 31 then _ else _) = _; rw [if_pos h31]
          have t1 : decide ((a3 : Int) < 31) = true := by simp; omega
          have t1n : decide (a3 < 31) = true := by simp; omega
          clear HL2 HL3 HE2 hcc
          by_cases hk0 : k = 0
          · have z0 : ((k : Int) == 0) = true := by simp; omega
            clear hk0
            go_wp2
            go_ret3
            exact ⟨0, _, 21, rfl, by rw [unhide HT]; exact ⟨rfl, rfl⟩, unhide Hb⟩
          · have z0 : ((k : Int) == 0) = false := by simp; omega
            go_wp2
            go_ret3
            exact ⟨0, _, 21, rfl, by rw [unhide HT]; exact ⟨rfl, rfl⟩, unhide Hb⟩
        · have HT : Hid (ltagP b = .yes (a3, b.drop (k + 1))) := by show _ = _; unfold ltagP; rw [unhide HL3]; show (if a3 < 31 then _ else _) = _; rw [if_neg h31]
          have t1 : decide ((a3 : Int) < 31) = false := by simp; omega
          have t1n : decide (a3 < 31) = false := by simp; omega
          obtain ⟨K, hK⟩ : ∃ K, k + 1 = K := ⟨_, rfl⟩
          obtain ⟨sp', c', m, hm, hs', hx', hl'⟩ := tail_at (some ⟨ba, oa, none⟩) c (unhide HN) (k + 1) (K : Int) (by rw [hK]) (by omega)
          have eK : (k : Int) + 1 = (K : Int) := by omega
          have uK : IntKind.i64.wrap (K : Int) = (K : Int) := IntWalk.i64_in _ (by omega)
          have HX' := hide hx'
          have HL' := hide hl'
          clear HL2 HL3 HE2 hcc hx' hl' hK
          by_cases hk0 : k = 0
          · have z0 : ((k : Int) == 0) = true := by simp; omega
            clear hk0
            go_wp2
            go_region
            go_wp2
            go_ret3
            exact ⟨a3, .slice sp' m c', 0, rfl, by rw [unhide HT]; exact ⟨rfl, rfl, sp', c', by rw [unhide HL'], unhide HX'⟩, (unhide Hb).drew⟩
          · have z0 : ((k : Int) == 0) = false := by simp; omega
            go_wp2
            go_region
            go_wp2
            go_ret3
            exact ⟨a3, .slice sp' m c', 0, rfl, by rw [unhide HT]; exact ⟨rfl, rfl, sp', c', by rw [unhide HL'], unhide HX'⟩, (unhide Hb).drew⟩
      · have s1 : decide ((p : Int) < 128) = false := by simp; omega
        have s1n : decide (p < 128) = false := by simp; omega
        have HE3 : Hid (a3 < 128 ^ (k + 1) ∧ longP 0 0 b = longP (k + 1) a3 (b.drop (k + 1))) := ⟨unhide HE2, by rw [unhide HL2, if_neg hs]⟩
        clear HL2 HE2
        by_cases hk0 : k = 0
        · have z2 : ((p : Int) == 128) = false := by simp; omega
          have z0 : ((k : Int) == 0) = true := by simp; omega
          clear hcc hk0
          go_wp2
          go_roundw
          case rel =>
            first
              | exact ⟨k + 1, a3, by omega, by omega, rfl, by go_num, rfl, ha3b, HE3⟩
              | exact ⟨k + 1, a3, by omega, by omega, rfl, by go_num, trivial, ha3b, HE3⟩
              | ((repeat apply Exists.intro); exact ⟨⟨k + 1, a3, by omega, by omega, rfl, by go_num, rfl, ha3b, HE3⟩, rfl⟩)
              | ((repeat apply Exists.intro); exact ⟨⟨k + 1, a3, by omega, by omega, rfl, by go_num, trivial, ha3b, HE3⟩, rfl⟩)
          case measure => simp [intOf]; omega
        · have z0 : ((k : Int) == 0) = false := by simp; omega
          clear hcc
          go_wp2
          go_roundw
          case rel =>
            first
              | exact ⟨k + 1, a3, by omega, by omega, rfl, by go_num, rfl, ha3b, HE3⟩
              | exact ⟨k + 1, a3, by omega, by omega, rfl, by go_num, trivial, ha3b, HE3⟩
              | ((repeat apply Exists.intro); exact ⟨⟨k + 1, a3, by omega, by omega, rfl, by go_num, rfl, ha3b, HE3⟩, rfl⟩)
              | ((repeat apply Exists.intro); exact ⟨⟨k + 1, a3, by omega, by omega, rfl, by go_num, trivial, ha3b, HE3⟩, rfl⟩)
          case measure => simp [intOf]; omega
    · obtain rfl : k = N := by omega
      have d1 : decide ((k : Int) < (k : Int)) = false := by simp
      have HT : Hid (ltagP b = .no 20) := by
        show _ = _
        unfold ltagP
        rw [(unhide HE).2, List.drop_of_length_le (by rw [unhide HN]; exact Nat.le_refl _)]
        rfl
      clear HE
      go_wp2
      go_ret3
      exact ⟨0, _, 20, rfl, by rw [unhide HT]; exact ⟨rfl, rfl⟩, unhide Hb⟩
end K
end Go.Proofs.YtngkidlgcdofhabDoor
