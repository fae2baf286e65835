/-
  The walks of the landed readTag and readLength.
-/
import Derived.Test.YtcofnockikninabGreatDoorKp
import Derived.Test.YtcofnockikninabGreatDoorCut9
import Derived.BigQuiet
namespace Go.Proofs.YtcofnockikninabGreatDoor
open Go.RowKit
namespace K
/-- What lies behind k bytes of a slice, and the slice expression that gives it. -/
theorem tail_at (sp : Option Addr) (c : Nat) {n : Nat} {t : Bs} (hn : t.length = n) (k : Nat) (kz : Int) (hkz : kz = (k : Int)) (hk : k ≤ n) :
    ∃ sp' c' m, m + k = n ∧ (∀ W, (Instr.sliceAt 22 (.slice sp n c) (some (.int .i64 kz)) none none).run Tryz.prog W = .ok (.slice sp' m c') W) ∧ (∀ W, BytesAt W (.slice sp n c) t → BytesAt W (.slice sp' m c') (t.drop k)) ∧ (t.drop k).length = m := by
  subst hn
  subst hkz
  exact ⟨_, _, _, by omega, fun W => slice_rest sp t.length c k hk W, fun W h => bytes_rest h k hk, by rw [List.length_drop]⟩
theorem or_add (a q n : Nat) (h : q < 2 ^ n) : (a * 2 ^ n) ||| q = a * 2 ^ n + q := by
  rw [Nat.mul_comm]
  exact (Nat.two_pow_add_eq_or_of_lt h a).symm
theorem or_i64 (a b : Nat) (ha : a < 9223372036854775808) (hb : b < 9223372036854775808) : bits .or .i64 (a : Int) (b : Int) = ((a ||| b : Nat) : Int) := by
  have hx : a ||| b < 2 ^ 63 := Nat.or_lt_two_pow (by omega) (by omega)
  have e : ∀ n : Nat, n < 9223372036854775808 → (BitVec.ofInt 64 (n : Int)).toNat = n := fun n hn => by rw [BitVec.toNat_ofInt]; omega
  show IntKind.i64.wrap ((BitVec.ofInt 64 (a : Int) ||| BitVec.ofInt 64 (b : Int)).toNat : Int) = _
  rw [BitVec.toNat_or, e a ha, e b hb]
  exact IntWalk.i64_in _ (by omega)
theorem low7 : ∀ p : Fin 256, bits .andNot .u8 ((p.val : Nat) : Int) 128 = ((p.val % 128 : Nat) : Int) := by decide +kernel
/-- A tag in bytes of its own. -/
def ltagP (l : Bs) : Told (Nat × Bs) := match longP 0 0 l with
  | .no e => .no e
  | .yes (t, r) => if t < 31 then .no 21 else .yes (t, r)
/-- What is told of a number that is read: the number, what is left, the error. -/
def NumTold (x : Value) (b : Bs) (told : Told (Nat × Bs)) (tv : Nat) (rest : Value) (er : Nat) : Prop := match told with
  | .no e => er = e ∧ rest = .slice none 0 0
  | .yes (t, r) => er = 0 ∧ tv = t ∧ ∃ sp c, rest = .slice sp r.length c ∧ ∀ W, BytesAt W x b → BytesAt W rest r
theorem long_cons (i acc : Nat) (c : UInt8) (l : Bs) : longP i acc (c :: l) = if (i = 0 ∧ c = 128) ∨ i = 3 then .no 21 else if c.toNat < 128 then .yes (128 * acc + c.toNat % 128, l) else longP (i + 1) (128 * acc + c.toNat % 128) l := rfl
theorem drop_cons {b : Bs} {k : Nat} (hk : k < b.length) : b.drop k = b.getD k 0 :: b.drop (k + 1) := by
  rw [List.drop_eq_getElem_cons hk, List.getD_eq_getElem?_getD, List.getElem?_eq_getElem hk]
  rfl
theorem u8_lit (c : UInt8) (n : Nat) (h : n < 256) : c = UInt8.ofNat n ↔ c.toNat = n := by
  have := u8_dec c n h
  constructor
  · intro e
    rw [decide_eq_true e] at this
    exact of_decide_eq_true this.symm
  · intro e
    rw [decide_eq_true e] at this
    exact of_decide_eq_true this
end K
end Go.Proofs.YtcofnockikninabGreatDoor
/-
  The walk of the landed readLength.
-/
namespace Go.Proofs.YtcofnockikninabGreatDoor
open Go.RowKit
namespace K
theorem num_snoc (l : Bs) (c : UInt8) : numB (l ++ [c]) = 256 * numB l + c.toNat := by simp [numB]
theorem num_lt : ∀ (k : Nat) (l : Bs), k ≤ l.length → numB (l.take k) < 256 ^ k
  | 0, l, _ => by simp [numB]
  | k + 1, l, h => by
    have e : l.take (k + 1) = l.take k ++ [l.getD k 0] := by
      rw [List.take_add_one, List.getElem?_eq_getElem h, List.getD_eq_getElem?_getD, List.getElem?_eq_getElem h]; rfl
    have := num_lt k l (by omega)
    have h2 := (l.getD k 0).toNat_lt
    rw [e, num_snoc, Nat.pow_succ]
    omega
/-- A number's first byte is nought just if it could have fewer. -/
theorem num_first (l : Bs) : ∀ k, k + 1 ≤ l.length → ((l.getD 0 0).toNat = 0 ↔ numB (l.take (k + 1)) < 256 ^ k)
  | 0, h => by
    match l, h with
    | a :: r, _ => simp [numB]
  | k + 1, h => by
    have ih := num_first l k (by omega)
    have e : l.take (k + 1 + 1) = l.take (k + 1) ++ [l.getD (k + 1) 0] := by
      rw [List.take_add_one, List.getElem?_eq_getElem h, List.getD_eq_getElem?_getD, List.getElem?_eq_getElem h]; rfl
    have h2 := (l.getD (k + 1) 0).toNat_lt
    rw [e, num_snoc, ih, Nat.pow_succ]
    omega
theorem len_cons (c : UInt8) (l : Bs) : lenP (c :: l) = if c.toNat < 128 then .yes (c.toNat, l) else if c.toNat = 128 ∨ 132 < c.toNat then .no 22 else if l.length < c.toNat - 128 then .no 20 else if numB (l.take (c.toNat - 128)) < 128 ∨ numB (l.take (c.toNat - 128)) < 256 ^ (c.toNat - 129) then .no 22 else .yes (numB (l.take (c.toNat - 128)), l.drop (c.toNat - 128)) := rfl
end K
end Go.Proofs.YtcofnockikninabGreatDoor
