/-
  The walks of the landed readTag and readLength.
-/
import Derived.Test.YtngkidlgcdofhaaDoorKp
import Derived.Test.YtngkidlgcdofhaaDoorCut9
import Derived.BigQuiet
namespace Go.Proofs.YtngkidlgcdofhaaDoor
open Go.RowKit
namespace K
/-- What lies behind k bytes of a slice, and the slice expression that gives it. -/
theorem tail_at (sp : Option Addr) (c : Nat) {n : Nat} {t : Bs} (hn : t.length = n) (k : Nat) (kz : Int) (hkz : kz = (k : Int)) (hk : k ≤ n) :
    ∃ sp' c' m, m + k = n ∧ (∀ W, (Instr.sliceAt 22 (.slice sp n c) (some (.int .i64 kz)) none none).run Tryd.prog W = .ok (.slice sp' m c') W) ∧ (∀ W, BytesAt W (.slice sp n c) t → BytesAt W (.slice sp' m c') (t.drop k)) ∧ (t.drop k).length = m := by
  subst hn
  subst hkz
  exact ⟨_, _, _, by omega, fun W => slice_rest sp t.length c k hk W, fun W h => bytes_rest h k hk, by rw [List.length_drop]⟩
theorem or_add (a q n : Nat) (h : q < 2 ^ n) : (a * 2 ^ n) ||| q = a * 2 ^ n + q := by
  rw [Nat.mul_comm]
  exact (Nat.two_pow_add_eq_or_of_lt h a).symm
theorem or_i64 (a b : Nat) (ha : a < 9223372036854775808) (hb : b < 9223372036854775808) : bits .or .i64 (a : Int) (b : Int) = ((a ||| b : Nat) : Int) := by
  have hx : a ||| b < 2 ^ 63 := Nat.or_lt_two_pow (by omega) (by omega)
  have e : ∀ n : Nat, n < 9223372036854775808 → (BitVec.ofInt 64 (n : Int)).toNat = n := fun n hn => by rw [BitVec.toNat_ofInt]; omega
  show IntKind.i64.wrap ((BitVec.ofInt 64 (a : Int) ||| BitVec.ofInt 64 (b : Int)).toNat : Int) = _
  rw [BitVec.toNat_or, e a ha, e b hb]
  exact IntWalk.i64_in _ (by omega)
theorem low7 : ∀ p : Fin 256, bits .andNot .u8 ((p.val : Nat) : Int) 128 = ((p.val % 128 : Nat) : Int) := by decide +kernel
/-- A tag in bytes of its own. -/
def ltagP (l : Bs) : Told (Nat × Bs) := match longP 0 0 l with
  | .no e => .no e
  | .yes (t, r) => if t < 31 then .no 21 else .yes (t, r)
/-- What is told of a number that is read: the number, what is left, the error. -/
def NumTold (x : Value) (b : Bs) (told : Told (Nat × Bs)) (tv : Nat) (rest : Value) (er : Nat) : Prop := match told with
  | .no e => er = e ∧ rest = .slice none 0 0
  | .yes (t, r) => er = 0 ∧ tv = t ∧ ∃ sp c, rest = .slice sp r.length c ∧ ∀ W, BytesAt W x b → BytesAt W rest r
theorem long_cons (i acc : Nat) (c : UInt8) (l : Bs) : longP i acc (c :: l) = if (i = 0 ∧ c = 128) ∨ i = 3 then .no 21 else if c.toNat < 128 then .yes (128 * acc + c.toNat % 128, l) else longP (i + 1) (128 * acc + c.toNat % 128) l := rfl
theorem drop_cons {b : Bs} {k : Nat} (hk : k < b.length) : b.drop k = b.getD k 0 :: b.drop (k + 1) := by
  rw [List.drop_eq_getElem_cons hk, List.getD_eq_getElem?_getD, List.getElem?_eq_getElem hk]
  rfl
theorem u8_lit (c : UInt8) (n : Nat) (h : n < 256) : c = UInt8.ofNat n ↔ c.toNat = n := by
  have := u8_dec c n h
  constructor
  · intro e
    rw [decide_eq_true e] at this
    exact of_decide_eq_true this.symm
  · intro e
    rw [decide_eq_true e] at this
    exact of_decide_eq_true this
set_option maxRecDepth 100000 in
set_option maxHeartbeats 8000000 in
theorem rtag_c (w : World) (x : Value) (b : Bs) (hx : BytesAt w x b) (hl : b.length ≤ 1000000) :
    Calls Tryd.prog 36 #[x] w fun e w' => ∃ (tv : Nat) (rest : Value) (er : Nat), e = .returned (.tuple #[.int .i64 (tv : Int), rest, .int .i64 (er : Int)]) ∧ NumTold x b (ltagP b) tv rest er ∧ Below w.heap.size w w' := by
  obtain ⟨sp, c, rfl, _, _, _⟩ := bytes_open hx
  obtain ⟨N, hN⟩ : ∃ N, b.length = N := ⟨_, rfl⟩
  have HN := hide hN
  rw [hN] at hx hl ⊢
  have HX := hide hx
  have Hb := hide (Below.refl w.heap.size w)
  clear hx hN
  go_enter Tryd.func36, Tryd.ntmps36
  go_wp2
  go_loopw [2, 9] (fun aa ii wr => ∃ k acc : Nat, k ≤ N ∧ k ≤ 3 ∧ aa = .int .i64 (acc : Int) ∧ ii = .int .i64 (k : Int) ∧ wr = w ∧ acc ≤ 2097151 ∧ Hid (acc < 128 ^ k ∧ longP 0 0 b = longP k acc (b.drop k))) (fun _ ii _ => N - (intOf ii).toNat)
  case atStart => exact ⟨0, 0, by omega, by omega, rfl, rfl, rfl, by omega, by simp, by rw [List.drop_zero]⟩
  case round =>
    obtain ⟨k, acc, hk, hk3, rfl, rfl, hwr, hacc, HE⟩ := hrel
    have := hwr.symm
    subst this
    by_cases hlt : k < N
    · obtain ⟨ba, oa, p, rfl, hp, hpb, hc⟩ := byte_at (unhide HX) (unhide HN) k hlt
      have Hkl : Hid (k < b.length) := by show _ < _; rw [unhide HN]; exact hlt
      have HL : Hid (longP 0 0 b = if (k = 0 ∧ p = 128) ∨ k = 3 then .no 21 else if p < 128 then .yes (128 * acc + p % 128, b.drop (k + 1)) else longP (k + 1) (128 * acc + p % 128) (b.drop (k + 1))) := by
        show _ = _
        rw [(unhide HE).2, drop_cons (unhide Hkl), long_cons, hp]
        have e : ((b.getD k 0) = 128) = (p = 128) := by rw [← hp]; exact propext (u8_lit _ 128 (by omega))
        simp only [e]
      have d1 : decide ((k : Int) < (N : Int)) = true := by simp; omega
      have d1n : decide (k < N) = true := by simp; omega
      have k0 : (0 : Int) ≤ (k : Int) := by omega
      have k1 : (k : Int) < (N : Int) := by omega
      clear hp
      by_cases h3 : k = 3
      · have e3 : ((k : Int) == 3) = true := by simp; omega
        have z0 : ((k : Int) == 0) = false := by simp; omega
        have HT : Hid (ltagP b = .no 21) := by show _ = _; unfold ltagP; rw [unhide HL, if_pos (Or.inr h3)]
        clear HL HE h3
        go_wp2
        go_ret3
        exact ⟨0, _, 21, rfl, by rw [unhide HT]; exact ⟨rfl, rfl⟩, unhide Hb⟩
      have e3 : ((k : Int) == 3) = false := by simp; omega
      by_cases h0 : k = 0 ∧ p = 128
      · have z0 : ((k : Int) == 0) = true := by simp; omega
        have z1 : ((p : Int) == 128) = true := by simp; omega
        have HT : Hid (ltagP b = .no 21) := by show _ = _; unfold ltagP; rw [unhide HL, if_pos (Or.inl h0)]
        clear HL HE h0
        go_wp2
        go_ret3
        exact ⟨0, _, 21, rfl, by rw [unhide HT]; exact ⟨rfl, rfl⟩, unhide Hb⟩
      have HL2 : Hid (longP 0 0 b = if p < 128 then .yes (128 * acc + p % 128, b.drop (k + 1)) else longP (k + 1) (128 * acc + p % 128) (b.drop (k + 1))) := by
        show _ = _
        rw [unhide HL, if_neg (by omega)]
      have hacc2 : acc < 16384 := by
        have h1 := (unhide HE).1
        have h2 := Nat.pow_le_pow_right (show 0 < 128 by omega) (show k ≤ 2 by omega)
        omega
      obtain ⟨q, hq⟩ : ∃ q, p % 128 = q := ⟨_, rfl⟩
      obtain ⟨a2, ha2⟩ : ∃ a2, acc * 128 = a2 := ⟨_, rfl⟩
      obtain ⟨a3, ha3⟩ : ∃ a3, a2 + q = a3 := ⟨_, rfl⟩
      have hand : bits .andNot .u8 (p : Int) 128 = (q : Int) := by rw [← hq]; exact low7 ⟨p, hpb⟩
      have e2 : (acc : Int) * 128 = (a2 : Int) := by omega
      have u2 : IntKind.i64.wrap (a2 : Int) = (a2 : Int) := IntWalk.i64_in _ (by omega)
      have uq : IntKind.i64.wrap (q : Int) = (q : Int) := IntWalk.i64_in _ (by omega)
      have hor : bits .or .i64 (a2 : Int) (q : Int) = (a3 : Int) := by
        rw [or_i64 a2 q (by omega) (by omega), ← ha2, ← ha3, show acc * 128 = acc * 2 ^ 7 from rfl, or_add acc q 7 (by omega)]
        omega
      rw [show 128 * acc + p % 128 = a3 by omega] at HL2
      have HE2 : Hid (a3 < 128 ^ (k + 1)) := by
        show _ < _
        have h1 := (unhide HE).1
        rw [Nat.pow_succ]
        omega
      have ha3b : a3 ≤ 2097151 := by omega
      have hcc : (k = 0 ∧ p ≠ 128) ∨ k ≠ 0 := by omega
      clear hq ha2 ha3 HL HE hacc2 h0
      by_cases hs : p < 128
      · have s1 : decide ((p : Int) < 128) = true := by simp; omega
        have s1n : decide (p < 128) = true := by simp; omega
        have s2 : ((p : Int) == 128) = false := by simp; omega
        have HL3 : Hid (longP 0 0 b = .yes (a3, b.drop (k + 1))) := by show _ = _; rw [unhide HL2, if_pos hs]
        by_cases h31 : a3 < 31
        · have HT : Hid (ltagP b = .no 21) := by show _ = _; unfold ltagP; rw [unhide HL3]; show (if a3 < 31 then _ else _) = _; rw [if_pos h31]
          have t1 : decide ((a3 : Int) < 31) = true := by simp; omega
          have t1n : decide (a3 < 31) = true := by simp; omega
          clear HL2 HL3 HE2 hcc
          by_cases hk0 : k = 0
          · have z0 : ((k : Int) == 0) = true := by simp; omega
            clear hk0
            go_wp2
            go_ret3
            exact ⟨0, _, 21, rfl, by rw [unhide HT]; exact ⟨rfl, rfl⟩, unhide Hb⟩
          · have z0 : ((k : Int) == 0) = false := by simp; omega
            go_wp2
            go_ret3
            exact ⟨0, _, 21, rfl, by rw [unhide HT]; exact ⟨rfl, rfl⟩, unhide Hb⟩
        · have HT : Hid (ltagP b = .yes (a3, b.drop (k + 1))) := by show _ = _; unfold ltagP; rw [unhide HL3]; show (if a3 < 31 then _ else _) = _; rw [if_neg h31]
          have t1 : decide ((a3 : Int) < 31) = false := by simp; omega
          have t1n : decide (a3 < 31) = false := by simp; omega
          obtain ⟨K, hK⟩ : ∃ K, k + 1 = K := ⟨_, rfl⟩
          obtain ⟨sp', c', m, hm, hs', hx', hl'⟩ := tail_at (some ⟨ba, oa, none⟩) c (unhide HN) (k + 1) (K : Int) (by rw [hK]) (by omega)
          have eK : (k : Int) + 1 = (K : Int) := by omega
          have uK : IntKind.i64.wrap (K : Int) = (K : Int) := IntWalk.i64_in _ (by omega)
          have HX' := hide hx'
          have HL' := hide hl'
          clear HL2 HL3 HE2 hcc hx' hl' hK
          by_cases hk0 : k = 0
          · have z0 : ((k : Int) == 0) = true := by simp; omega
            clear hk0
            go_wp2
            go_region
            go_wp2
            go_ret3
            exact ⟨a3, .slice sp' m c', 0, rfl, by rw [unhide HT]; exact ⟨rfl, rfl, sp', c', by rw [unhide HL'], unhide HX'⟩, (unhide Hb).drew⟩
          · have z0 : ((k : Int) == 0) = false := by simp; omega
            go_wp2
            go_region
            go_wp2
            go_ret3
            exact ⟨a3, .slice sp' m c', 0, rfl, by rw [unhide HT]; exact ⟨rfl, rfl, sp', c', by rw [unhide HL'], unhide HX'⟩, (unhide Hb).drew⟩
      · have s1 : decide ((p : Int) < 128) = false := by simp; omega
        have s1n : decide (p < 128) = false := by simp; omega
        have HE3 : Hid (a3 < 128 ^ (k + 1) ∧ longP 0 0 b = longP (k + 1) a3 (b.drop (k + 1))) := ⟨unhide HE2, by rw [unhide HL2, if_neg hs]⟩
        clear HL2 HE2
        by_cases hk0 : k = 0
        · have z2 : ((p : Int) == 128) = false := by simp; omega
          have z0 : ((k : Int) == 0) = true := by simp; omega
          clear hcc hk0
          go_wp2
          go_roundw
          case rel =>
            first
              | exact ⟨k + 1, a3, by omega, by omega, rfl, by go_num, rfl, ha3b, HE3⟩
              | exact ⟨k + 1, a3, by omega, by omega, rfl, by go_num, trivial, ha3b, HE3⟩
              | ((repeat apply Exists.intro); exact ⟨⟨k + 1, a3, by omega, by omega, rfl, by go_num, rfl, ha3b, HE3⟩, rfl⟩)
              | ((repeat apply Exists.intro); exact ⟨⟨k + 1, a3, by omega, by omega, rfl, by go_num, trivial, ha3b, HE3⟩, rfl⟩)
          case measure => simp [intOf]; omega
        · have z0 : ((k : Int) == 0) = false := by simp; omega
          clear hcc
          go_wp2
          go_roundw
          case rel =>
            first
              | exact ⟨k + 1, a3, by omega, by omega, rfl, by go_num, rfl, ha3b, HE3⟩
              | exact ⟨k + 1, a3, by omega, by omega, rfl, by go_num, trivial, ha3b, HE3⟩
              | ((repeat apply Exists.intro); exact ⟨⟨k + 1, a3, by omega, by omega, rfl, by go_num, rfl, ha3b, HE3⟩, rfl⟩)
              | ((repeat apply Exists.intro); exact ⟨⟨k + 1, a3, by omega, by omega, rfl, by go_num, trivial, ha3b, HE3⟩, rfl⟩)
          case measure => simp [intOf]; omega
    · obtain rfl : k = N := by omega
      have d1 : decide ((k : Int) < (k : Int)) = false := by simp
      have HT : Hid (ltagP b = .no 20) := by
        show _ = _
        unfold ltagP
        rw [(unhide HE).2, List.drop_of_length_le (by rw [unhide HN]; exact Nat.le_refl _)]
        rfl
      clear HE
      go_wp2
      go_ret3
      exact ⟨0, _, 20, rfl, by rw [unhide HT]; exact ⟨rfl, rfl⟩, unhide Hb⟩
end K
end Go.Proofs.YtngkidlgcdofhaaDoor
/-
  The walk of the landed readLength.
-/
namespace Go.Proofs.YtngkidlgcdofhaaDoor
open Go.RowKit
namespace K
theorem num_snoc (l : Bs) (c : UInt8) : numB (l ++ [c]) = 256 * numB l + c.toNat := by simp [numB]
theorem num_lt : ∀ (k : Nat) (l : Bs), k ≤ l.length → numB (l.take k) < 256 ^ k
  | 0, l, _ => by simp [numB]
  | k + 1, l, h => by
    have e : l.take (k + 1) = l.take k ++ [l.getD k 0] := by
      rw [List.take_add_one, List.getElem?_eq_getElem h, List.getD_eq_getElem?_getD, List.getElem?_eq_getElem h]; rfl
    have := num_lt k l (by omega)
    have h2 := (l.getD k 0).toNat_lt
    rw [e, num_snoc, Nat.pow_succ]
    omega
/-- A number's first byte is nought just if it could have fewer. -/
theorem num_first (l : Bs) : ∀ k, k + 1 ≤ l.length → ((l.getD 0 0).toNat = 0 ↔ numB (l.take (k + 1)) < 256 ^ k)
  | 0, h => by
    match l, h with
    | a :: r, _ => simp [numB]
  | k + 1, h => by
    have ih := num_first l k (by omega)
    have e : l.take (k + 1 + 1) = l.take (k + 1) ++ [l.getD (k + 1) 0] := by
      rw [List.take_add_one, List.getElem?_eq_getElem h, List.getD_eq_getElem?_getD, List.getElem?_eq_getElem h]; rfl
    have h2 := (l.getD (k + 1) 0).toNat_lt
    rw [e, num_snoc, ih, Nat.pow_succ]
    omega
theorem len_cons (c : UInt8) (l : Bs) : lenP (c :: l) = if c.toNat < 128 then .yes (c.toNat, l) else if c.toNat = 128 ∨ 132 < c.toNat then .no 22 else if l.length < c.toNat - 128 then .no 20 else if numB (l.take (c.toNat - 128)) < 128 ∨ numB (l.take (c.toNat - 128)) < 256 ^ (c.toNat - 129) then .no 22 else .yes (numB (l.take (c.toNat - 128)), l.drop (c.toNat - 128)) := rfl
set_option maxRecDepth 100000 in
set_option maxHeartbeats 8000000 in
theorem rlen_c (w : World) (x : Value) (b : Bs) (hx : BytesAt w x b) (hl : b.length ≤ 1000000) :
    Calls Tryd.prog 26 #[x] w fun e w' => ∃ (tv : Nat) (rest : Value) (er : Nat), e = .returned (.tuple #[.int .i64 (tv : Int), rest, .int .i64 (er : Int)]) ∧ NumTold x b (lenP b) tv rest er ∧ tv ≤ 4294967295 ∧ Below w.heap.size w w' := by
  obtain ⟨sp, c, rfl, hcap, _, _⟩ := bytes_open hx
  obtain ⟨N, hN⟩ : ∃ N, b.length = N := ⟨_, rfl⟩
  have HN := hide hN
  have Hb := hide (Below.refl w.heap.size w)
  rw [hN] at hx hl hcap ⊢
  by_cases h0 : N = 0
  · subst h0
    have HT : Hid (lenP b = .no 20) := by show _ = _; rw [List.eq_nil_of_length_eq_zero hN]; rfl
    clear hx hN
    go_enter Tryd.func26, Tryd.ntmps26
    go_wp2
    go_ret3
    exact ⟨0, _, 20, rfl, by rw [unhide HT]; exact ⟨rfl, rfl⟩, by omega, unhide Hb⟩
  obtain ⟨ba, oa, p, rfl, hp, hpb, hc⟩ := byte_at hx hN 0 (by omega)
  rw [Nat.add_zero] at hc
  have z0 : ((N : Int) == 0) = false := by simp; omega
  have z1 : (0 : Int) < (N : Int) := by omega
  have z2 : 0 < N := by omega
  obtain ⟨sp1, c1, m1, hm1, hs1, hx1, hl1⟩ := tail_at (some ⟨ba, oa, none⟩) c hN 1 1 rfl (by omega)
  have HC : Hid (b = UInt8.ofNat p :: b.drop 1) := by
    show _ = _
    have := drop_cons (b := b) (k := 0) (by omega)
    rw [List.drop_zero] at this
    rw [← hp, UInt8.ofNat_toNat]
    exact this
  have hpu : (UInt8.ofNat p).toNat = p := by rw [UInt8.toNat_ofNat']; omega
  have HL : Hid (lenP b = if p < 128 then .yes (p, b.drop 1) else if p = 128 ∨ 132 < p then .no 22 else if m1 < p - 128 then .no 20 else if numB ((b.drop 1).take (p - 128)) < 128 ∨ numB ((b.drop 1).take (p - 128)) < 256 ^ (p - 129) then .no 22 else .yes (numB ((b.drop 1).take (p - 128)), (b.drop 1).drop (p - 128))) := by
    show _ = _
    have e := len_cons (UInt8.ofNat p) (b.drop 1)
    rw [hpu, hl1] at e
    rw [← e]
    exact congrArg lenP (unhide HC)
  have HX1 := hide (hx1 w hx)
  have HXf := hide hx1
  have HL1 := hide hl1
  clear hx hN hp hx1 hl1 HC hpu h0
  by_cases hs : p < 128
  · have HT : Hid (lenP b = .yes (p, b.drop 1)) := by show _ = _; rw [unhide HL, if_pos hs]
    have d1 : decide ((p : Int) < 128) = true := by simp; omega
    have d1n : decide (p < 128) = true := by simp; omega
    have up : IntKind.i64.wrap (p : Int) = (p : Int) := IntWalk.i64_in _ (by omega)
    clear HL
    go_enter Tryd.func26, Tryd.ntmps26
    go_wp2
    go_region
    go_wp2
    go_ret3
    exact ⟨p, .slice sp1 m1 c1, 0, rfl, by rw [unhide HT]; exact ⟨rfl, rfl, sp1, c1, by rw [unhide HL1], unhide HXf⟩, by omega, (unhide Hb).drew⟩
  have d1 : decide ((p : Int) < 128) = false := by simp; omega
  have d1n : decide (p < 128) = false := by simp; omega
  obtain ⟨C, hC⟩ : ∃ C, p - 128 = C := ⟨_, rfl⟩
  have eC : (p : Int) - 128 = (C : Int) := by omega
  have uC8 : IntKind.u8.wrap (C : Int) = (C : Int) := by rw [IntKind.wrap_u8']; omega
  have uC : IntKind.i64.wrap (C : Int) = (C : Int) := IntWalk.i64_in _ (by omega)
  by_cases h4 : p = 128 ∨ 132 < p
  · have HT : Hid (lenP b = .no 22) := by show _ = _; rw [unhide HL, if_neg hs, if_pos h4]
    by_cases hC0 : C = 0
    · have e0 : ((C : Int) == 0) = true := by simp; omega
      clear HL hC hC0 h4 hs
      go_enter Tryd.func26, Tryd.ntmps26
      go_wp2
      go_ret3
      exact ⟨0, _, 22, rfl, by rw [unhide HT]; exact ⟨rfl, rfl⟩, by omega, unhide Hb⟩
    · have e0 : ((C : Int) == 0) = false := by simp; omega
      have e4 : decide ((4 : Int) < (C : Int)) = true := by simp; omega
      have e4n : decide (4 < C) = true := by simp; omega
      clear HL hC hC0 h4 hs
      go_enter Tryd.func26, Tryd.ntmps26
      go_wp2
      go_ret3
      exact ⟨0, _, 22, rfl, by rw [unhide HT]; exact ⟨rfl, rfl⟩, by omega, unhide Hb⟩
  have hC1 : 1 ≤ C ∧ C ≤ 4 := by omega
  have e0 : ((C : Int) == 0) = false := by simp; omega
  have e4 : decide ((4 : Int) < (C : Int)) = false := by simp; omega
  have e4n : decide (4 < C) = false := by simp; omega
  have HL4 : Hid (lenP b = if m1 < C then .no 20 else if numB ((b.drop 1).take C) < 128 ∨ numB ((b.drop 1).take C) < 256 ^ (C - 1) then .no 22 else .yes (numB ((b.drop 1).take C), (b.drop 1).drop C)) := by
    show _ = _
    rw [unhide HL, if_neg hs, if_neg h4, hC, show p - 129 = C - 1 by omega]
  clear HL h4 hs hC
  by_cases hm : m1 < C
  · have HT : Hid (lenP b = .no 20) := by show _ = _; rw [unhide HL4, if_pos hm]
    have d5 : decide ((m1 : Int) < (C : Int)) = true := by simp; omega
    have d5n : decide (m1 < C) = true := by simp; omega
    clear HL4
    go_enter Tryd.func26, Tryd.ntmps26
    go_wp2
    go_ret3
    exact ⟨0, _, 20, rfl, by rw [unhide HT]; exact ⟨rfl, rfl⟩, by omega, unhide Hb⟩
  have d5 : decide ((m1 : Int) < (C : Int)) = false := by simp; omega
  have d5n : decide (m1 < C) = false := by simp; omega
  obtain ⟨ba', oa', f0, ee, hf0, hf0b, hcf⟩ := byte_at (unhide HX1) (unhide HL1) 0 (by omega)
  subst ee
  rw [Nat.add_zero] at hcf
  have HF : Hid (f0 = 0 ↔ numB ((b.drop 1).take C) < 256 ^ (C - 1)) := by
    have h1 := num_first (b.drop 1) (C - 1) (by rw [unhide HL1]; omega)
    rw [hf0, show C - 1 + 1 = C by omega] at h1
    exact h1
  obtain ⟨sp2, c2, m2, hm2, hs2, hx2, hl2⟩ := tail_at (some ⟨ba', oa', none⟩) c1 (unhide HL1) C (C : Int) rfl (by omega)
  have HX2 := hide hx2
  have HL2 := hide hl2
  have hcap1 : m1 ≤ c1 := by
    obtain ⟨_, _, e, h, _, _⟩ := bytes_open (unhide HX1)
    simp only [Value.slice.injEq] at e
    rw [← e.2.2, unhide HL1] at h
    exact h
  have hfr := slice_front (some ⟨ba', oa', none⟩) m1 c1 C (by omega)
  have m0 : (0 : Int) < (m1 : Int) := by omega
  have m0n : 0 < m1 := by omega
  have HCell : Hid (∀ k, k < m1 → w.cell? ⟨ba', oa' + k, none⟩ = some (.int .u8 (((b.drop 1).getD k 0).toNat : Int))) := fun k hk => by
    obtain ⟨_, _, e, _, _, hcc⟩ := bytes_open (unhide HX1)
    simp only [Value.slice.injEq] at e
    obtain ⟨e1, _, _⟩ := e
    subst e1
    obtain ⟨_, _, e2, _, hcell⟩ := hcc (fun e => by have := unhide HL1; rw [e] at this; simp at this; omega)
    simp only [Option.some.injEq, Addr.mk.injEq, and_true] at e2
    obtain ⟨rfl, rfl⟩ := e2
    exact hcell k (by rw [unhide HL1]; exact hk)
  clear hx2 hl2 hf0
  go_enter Tryd.func26, Tryd.ntmps26
  go_wp2
  go_loopw [2, 42] (fun aa ii wr => ∃ k acc : Nat, k ≤ C ∧ aa = .int .i64 (acc : Int) ∧ ii = .int .i64 (k : Int) ∧ wr = w ∧ Hid (acc = numB ((b.drop 1).take k))) (fun _ ii _ => C - (intOf ii).toNat)
  case atStart => exact ⟨0, 0, by omega, rfl, rfl, rfl, rfl⟩
  case round =>
    obtain ⟨k, acc, hk, rfl, rfl, hwr, HE⟩ := hrel
    have := hwr.symm
    subst this
    have hacc : acc < 256 ^ k := by rw [unhide HE]; exact num_lt k _ (by rw [unhide HL1]; omega)
    by_cases hlt : k < C
    · have hacc2 : acc < 16777216 := by
        have h2 := Nat.pow_le_pow_right (show 0 < 256 by omega) (show k ≤ 3 by omega)
        omega
      have ck := unhide HCell k (by omega)
      have HE2 : Hid (256 * acc + ((b.drop 1).getD k 0).toNat = numB ((b.drop 1).take (k + 1))) := by
        show _ = _
        have h : k < (b.drop 1).length := by rw [unhide HL1]; omega
        have e : (b.drop 1).take (k + 1) = (b.drop 1).take k ++ [(b.drop 1).getD k 0] := by
          rw [List.take_add_one, List.getElem?_eq_getElem h, List.getD_eq_getElem?_getD, List.getElem?_eq_getElem h]; rfl
        rw [e, num_snoc, ← unhide HE]
      have hqb := ((b.drop 1).getD k 0).toNat_lt
      obtain ⟨q, hq⟩ : ∃ q, ((b.drop 1).getD k 0).toNat = q := ⟨_, rfl⟩
      rw [hq] at ck HE2 hqb
      obtain ⟨a2, ha2⟩ : ∃ a2, acc * 256 = a2 := ⟨_, rfl⟩
      obtain ⟨a3, ha3⟩ : ∃ a3, a2 + q = a3 := ⟨_, rfl⟩
      have e2 : (acc : Int) * 256 = (a2 : Int) := by omega
      have u2 : IntKind.i64.wrap (a2 : Int) = (a2 : Int) := IntWalk.i64_in _ (by omega)
      have uq : IntKind.i64.wrap (q : Int) = (q : Int) := IntWalk.i64_in _ (by omega)
      have hor : bits .or .i64 (a2 : Int) (q : Int) = (a3 : Int) := by
        rw [or_i64 a2 q (by omega) (by omega), ← ha2, ← ha3, show acc * 256 = acc * 2 ^ 8 from rfl, or_add acc q 8 (by omega)]
        omega
      rw [show 256 * acc + q = a3 by omega] at HE2
      have d6 : decide ((k : Int) < (C : Int)) = true := by simp; omega
      have d6n : decide (k < C) = true := by simp; omega
      have k0 : (0 : Int) ≤ (k : Int) := by omega
      have k1 : (k : Int) < (C : Int) := by omega
      clear hq ha2 ha3 HE hacc hacc2
      go_wp2
      go_roundw
      case rel =>
        first
          | exact ⟨k + 1, a3, by omega, rfl, by go_num, rfl, HE2⟩
          | exact ⟨k + 1, a3, by omega, rfl, by go_num, trivial, HE2⟩
          | ((repeat apply Exists.intro); exact ⟨⟨k + 1, a3, by omega, rfl, by go_num, rfl, HE2⟩, rfl⟩)
          | ((repeat apply Exists.intro); exact ⟨⟨k + 1, a3, by omega, rfl, by go_num, trivial, HE2⟩, rfl⟩)
      case measure => simp [intOf]; omega
    · have hkC : k = C := by omega
      have HE' : Hid (acc = numB ((b.drop 1).take C)) := by rw [← hkC]; exact HE
      have d6 : decide ((k : Int) < (C : Int)) = false := by simp; omega
      have d6n : decide (k < C) = false := by simp; omega
      have hacc2 : acc ≤ 4294967295 := by
        have h2 := Nat.pow_le_pow_right (show 0 < 256 by omega) (show k ≤ 4 by omega)
        omega
      have HT0 : Hid (lenP b = if acc < 128 ∨ f0 = 0 then .no 22 else .yes (acc, (b.drop 1).drop C)) := by
        show _ = _
        rw [unhide HL4, if_neg hm, ← unhide HE']
        have := unhide HF
        rw [← unhide HE'] at this
        simp only [this]
      clear hkC HE HE' HL4 HF hacc
      by_cases hf : f0 = 0
      · have HT : Hid (lenP b = .no 22) := by show _ = _; rw [unhide HT0, if_pos (Or.inr hf)]
        have f1 : ((f0 : Int) == 0) = true := by simp; omega
        clear hf HT0
        go_wp2
        go_ret3
        exact ⟨0, _, 22, rfl, by rw [unhide HT]; exact ⟨rfl, rfl⟩, by omega, unhide Hb⟩
      have f1 : ((f0 : Int) == 0) = false := by simp; omega
      by_cases ha : acc < 128
      · have HT : Hid (lenP b = .no 22) := by show _ = _; rw [unhide HT0, if_pos (Or.inl ha)]
        have g1 : decide ((acc : Int) < 128) = true := by simp; omega
        have g1n : decide (acc < 128) = true := by simp; omega
        clear HT0
        go_wp2
        go_ret3
        exact ⟨0, _, 22, rfl, by rw [unhide HT]; exact ⟨rfl, rfl⟩, by omega, unhide Hb⟩
      · have HT : Hid (lenP b = .yes (acc, (b.drop 1).drop C)) := by show _ = _; rw [unhide HT0, if_neg (by omega)]
        have g1 : decide ((acc : Int) < 128) = false := by simp; omega
        have g1n : decide (acc < 128) = false := by simp; omega
        clear HT0
        go_wp2
        go_region
        go_wp2
        go_ret3
        exact ⟨acc, .slice sp2 m2 c2, 0, rfl, by rw [unhide HT]; exact ⟨rfl, rfl, sp2, c2, by rw [unhide HL2], fun W h => unhide HX2 W (unhide HXf W h)⟩, hacc2, (unhide Hb).drew⟩
end K
end Go.Proofs.YtngkidlgcdofhaaDoor
