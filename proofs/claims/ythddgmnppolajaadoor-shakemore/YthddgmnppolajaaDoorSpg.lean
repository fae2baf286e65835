/-
  Plain words on the sponge: bytes xored to a state, told bytes, the message's end, what is told; the padded message part by part comes to the same. No program is named here.
-/
import Derived.Test.YthddgmnppolajaaDoorKec
namespace Go.Proofs.YthddgmnppolajaaDoor
/-- The state's byte k. -/
def byteOf (st : List UInt64) (k : Nat) : UInt8 := (st.getD (k / 8) 0 >>> UInt64.ofNat (8 * (k % 8))).toUInt8
/-- A byte xored to the state's byte k. -/
def mixB (st : List UInt64) (k : Nat) (c : UInt8) : List UInt64 := st.set (k / 8) (st.getD (k / 8) 0 ^^^ c.toUInt64 <<< UInt64.ofNat (8 * (k % 8)))
/-- The state, and how many of its first bytes were written since it was permuted. -/
structure SP where
  st : List UInt64
  pos : Nat
def sp0 : SP := ⟨List.replicate 25 0, 0⟩
/-- One byte more. -/
def sp1 (rate : Nat) (p : SP) (c : UInt8) : SP := if p.pos + 1 = rate then ⟨permOf (mixB p.st p.pos c), 0⟩ else ⟨mixB p.st p.pos c, p.pos + 1⟩
def soak (rate : Nat) (p : SP) (bs : List UInt8) : SP := bs.foldl (sp1 rate) p
/-- The message's end. -/
def sealOf (rate : Nat) (p : SP) : List UInt64 := permOf (mixB (mixB p.st p.pos 0x1f) (rate - 1) 0x80)
def startOf (rate : Nat) (msg : List UInt8) : List UInt64 := sealOf rate (soak rate sp0 msg)
/-- Permuted so many times. -/
def permN (q : Nat) (st : List UInt64) : List UInt64 := q.repeat permOf st
/-- The byte j that a sealed state tells. -/
def tellB (rate : Nat) (st : List UInt64) (j : Nat) : UInt8 := byteOf (permN (j / rate) st) (j % rate)
/-- n bytes, from the byte i on. -/
def tells (rate : Nat) (st : List UInt64) (i n : Nat) : List UInt8 := (List.range n).map fun j => tellB rate st (i + j)
def shakeOf (rate : Nat) (msg : List UInt8) (n : Nat) : List UInt8 := tells rate (startOf rate msg) 0 n
theorem length_tells (rate : Nat) (st : List UInt64) (i n : Nat) : (tells rate st i n).length = n := by simp [tells]
theorem length_shakeOf (rate : Nat) (msg : List UInt8) (n : Nat) : (shakeOf rate msg n).length = n := length_tells _ _ _ _
theorem tells_append (rate : Nat) (st : List UInt64) (i n m : Nat) : tells rate st i n ++ tells rate st (i + n) m = tells rate st i (n + m) := by
  unfold tells
  rw [List.range_add, List.map_append, List.map_map]
  congr 1
  apply List.map_congr_left
  intro j _
  show _ = tellB rate st (i + (n + j))
  rw [Nat.add_assoc]
theorem tells_succ (rate : Nat) (st : List UInt64) (i n : Nat) : tells rate st i (n + 1) = tells rate st i n ++ [tellB rate st (i + n)] := by
  rw [← tells_append]; rfl
theorem tells_take (rate : Nat) (st : List UInt64) (i n m : Nat) (h : n ≤ m) : (tells rate st i m).take n = tells rate st i n := by
  rw [show m = n + (m - n) by omega, ← tells_append, List.take_left' (length_tells _ _ _ _)]
theorem length_mixB (st : List UInt64) (k : Nat) (c : UInt8) : (mixB st k c).length = st.length := by simp [mixB]
theorem permN_succ (q : Nat) (st : List UInt64) : permN (q + 1) st = permOf (permN q st) := by rw [permN, permN, Nat.repeat]
theorem length_permN (q : Nat) (st : List UInt64) (h : st.length = 25) : (permN q st).length = 25 := by
  induction q with
  | zero => exact h
  | succ q ih => rw [permN_succ]; exact length_permOf _ ih
theorem sp1_len (rate : Nat) (p : SP) (c : UInt8) (h : p.st.length = 25) : (sp1 rate p c).st.length = 25 := by
  unfold sp1
  split
  · exact length_permOf _ (by rw [length_mixB]; exact h)
  · exact (length_mixB _ _ _).trans h
theorem soak_len (rate : Nat) (p : SP) (bs : List UInt8) (h : p.st.length = 25) : (soak rate p bs).st.length = 25 := by
  induction bs generalizing p with
  | nil => exact h
  | cons c r ih => exact ih _ (sp1_len rate p c h)
theorem sp1_pos (rate : Nat) (p : SP) (c : UInt8) (h : p.pos < rate) : (sp1 rate p c).pos < rate := by
  unfold sp1
  split
  · show 0 < rate; omega
  · show p.pos + 1 < rate; omega
theorem soak_pos (rate : Nat) (p : SP) (bs : List UInt8) (h : p.pos < rate) : (soak rate p bs).pos < rate := by
  induction bs generalizing p with
  | nil => exact h
  | cons c r ih => exact ih _ (sp1_pos rate p c h)
theorem soak_append (rate : Nat) (p : SP) (a b : List UInt8) : soak rate p (a ++ b) = soak rate (soak rate p a) b := by simp [soak, List.foldl_append]
theorem length_sealOf (rate : Nat) (p : SP) (h : p.st.length = 25) : (sealOf rate p).length = 25 := length_permOf _ (by rw [length_mixB, length_mixB]; exact h)
theorem sp0_len : sp0.st.length = 25 := rfl
theorem length_startOf (rate : Nat) (msg : List UInt8) : (startOf rate msg).length = 25 := length_sealOf _ _ (soak_len _ _ _ sp0_len)
theorem toUInt64_xor (a b : UInt8) : (a ^^^ b).toUInt64 = a.toUInt64 ^^^ b.toUInt64 := by
  apply UInt64.toNat_inj.1
  rw [UInt64.toNat_xor, UInt8.toNat_toUInt64, UInt8.toNat_toUInt64, UInt8.toNat_toUInt64, UInt8.toNat_xor]
theorem shl_xor (a b : UInt64) (n : UInt64) : (a ^^^ b) <<< n = a <<< n ^^^ b <<< n := by
  apply bit_ext
  intro i hi
  simp only [UInt64.toBitVec_xor, UInt64.toBitVec_shiftLeft, BitVec.shiftLeft_eq', BitVec.getLsbD_shiftLeft, BitVec.getLsbD_xor]
  generalize decide (i < 64) = a
  generalize decide (i < (n.toBitVec % 64#64).toNat) = b
  cases a <;> cases b <;> simp
theorem mixB_zero (st : List UInt64) (k : Nat) : mixB st k 0 = st := by
  unfold mixB
  rw [show (0 : UInt8).toUInt64 = 0 from rfl, UInt64.zero_shiftLeft, UInt64.xor_zero]
  apply List.ext_getElem?
  intro i
  rw [List.getElem?_set]
  split
  · rename_i h
    subst h
    split
    · rename_i h2
      rw [List.getD_eq_getElem?_getD, List.getElem?_eq_getElem h2]; rfl
    · rename_i h2
      rw [List.getElem?_eq_none (by omega)]
  · rfl
theorem mixB_twice (st : List UInt64) (k : Nat) (h : k / 8 < st.length) (a b : UInt8) : mixB (mixB st k a) k b = mixB st k (a ^^^ b) := by
  unfold mixB
  rw [List.set_set, List.getD_eq_getElem?_getD, List.getElem?_set_self h, Option.getD_some, toUInt64_xor, shl_xor, UInt64.xor_assoc]
/-- Bytes xored one behind the other. -/
def mixAll (st : List UInt64) (k : Nat) : List UInt8 → List UInt64
  | [] => st
  | c :: r => mixAll (mixB st k c) (k + 1) r
theorem mixAll_append (st : List UInt64) (k : Nat) (a b : List UInt8) : mixAll st k (a ++ b) = mixAll (mixAll st k a) (k + a.length) b := by
  induction a generalizing st k with
  | nil => rfl
  | cons c r ih => show mixAll (mixB st k c) (k + 1) (r ++ b) = _; rw [ih]; show _ = mixAll (mixAll (mixB st k c) (k + 1) r) (k + (r.length + 1)) b; congr 1; omega
theorem length_mixAll (st : List UInt64) (k : Nat) (a : List UInt8) : (mixAll st k a).length = st.length := by
  induction a generalizing st k with
  | nil => rfl
  | cons c r ih => exact (ih _ _).trans (length_mixB _ _ _)
theorem soak_part (rate : Nat) (st : List UInt64) (k : Nat) (bs : List UInt8) (h : k + bs.length < rate) : soak rate ⟨st, k⟩ bs = ⟨mixAll st k bs, k + bs.length⟩ := by
  induction bs generalizing st k with
  | nil => rfl
  | cons c r ih =>
    simp only [List.length_cons] at h
    show soak rate (sp1 rate ⟨st, k⟩ c) r = _
    have e : sp1 rate ⟨st, k⟩ c = ⟨mixB st k c, k + 1⟩ := if_neg (by show ¬ k + 1 = rate; omega)
    rw [e, ih _ _ (by omega)]
    show SP.mk (mixAll (mixB st k c) (k + 1) r) (k + 1 + r.length) = ⟨mixAll (mixB st k c) (k + 1) r, k + (r.length + 1)⟩
    congr 1; omega
theorem soak_fill (rate : Nat) (st : List UInt64) (k : Nat) (bs : List UInt8) (hne : bs ≠ []) (h : k + bs.length = rate) : soak rate ⟨st, k⟩ bs = ⟨permOf (mixAll st k bs), 0⟩ := by
  obtain ⟨r, c, rfl⟩ : ∃ r c, bs = r ++ [c] := ⟨bs.dropLast, bs.getLast hne, (List.dropLast_concat_getLast hne).symm⟩
  simp only [List.length_append, List.length_singleton] at h
  rw [soak_append, soak_part rate st k r (by omega), mixAll_append]
  show sp1 rate ⟨_, _⟩ c = _
  exact if_pos (by show k + r.length + 1 = rate; omega)
/-- A part of the rate's length. -/
theorem soak_block (rate : Nat) (st : List UInt64) (bs : List UInt8) (h0 : 0 < rate) (h : bs.length = rate) : soak rate ⟨st, 0⟩ bs = ⟨permOf (mixAll st 0 bs), 0⟩ :=
  soak_fill rate st 0 bs (by rintro rfl; simp at h; omega) (by omega)
theorem mixAll_zeros (st : List UInt64) (k n : Nat) : mixAll st k (List.replicate n 0) = st := by
  induction n generalizing k with
  | zero => rfl
  | succ n ih => rw [List.replicate_succ]; show mixAll (mixB st k 0) (k + 1) _ = st; rw [mixB_zero, ih]
/-- How many noughts. -/
def zerosOf (rate len : Nat) : Nat := (rate - (len + 1) % rate) % rate
/-- The message with its end. -/
def paddedOf (rate : Nat) (msg : List UInt8) : List UInt8 :=
  if zerosOf rate msg.length = 0 then msg ++ [0x9f] else msg ++ 0x1f :: (List.replicate (zerosOf rate msg.length - 1) 0 ++ [0x80])
theorem length_paddedOf (rate : Nat) (msg : List UInt8) : (paddedOf rate msg).length = msg.length + 1 + zerosOf rate msg.length := by
  unfold paddedOf
  split
  · rename_i h; rw [h]; simp
  · rename_i h; simp; omega
theorem paddedOf_whole (rate : Nat) (h0 : 0 < rate) (msg : List UInt8) : (paddedOf rate msg).length % rate = 0 := by
  rw [length_paddedOf, zerosOf]
  have h := Nat.mod_lt (msg.length + 1) h0
  by_cases hz : (msg.length + 1) % rate = 0
  · rw [hz, Nat.sub_zero, Nat.mod_self, Nat.add_zero]; exact hz
  · rw [Nat.mod_eq_of_lt (show rate - (msg.length + 1) % rate < rate by omega), Nat.add_mod, Nat.mod_eq_of_lt (show rate - (msg.length + 1) % rate < rate by omega), show (msg.length + 1) % rate + (rate - (msg.length + 1) % rate) = rate by omega, Nat.mod_self]
theorem soak_pos_eq (rate : Nat) (p : SP) (bs : List UInt8) (h : p.pos < rate) : (soak rate p bs).pos = (p.pos + bs.length) % rate := by
  induction bs generalizing p with
  | nil => exact (Nat.mod_eq_of_lt h).symm
  | cons c r ih =>
    show (soak rate (sp1 rate p c) r).pos = _
    rw [ih _ (sp1_pos rate p c h)]
    simp only [List.length_cons]
    unfold sp1
    split
    · rename_i e
      show (0 + r.length) % rate = _
      rw [show p.pos + (r.length + 1) = r.length + rate by omega, Nat.add_mod_right, Nat.zero_add]
    · show (p.pos + 1 + r.length) % rate = _
      congr 1; omega
/-- THE PADDED MESSAGE, PART BY PART, COMES TO THE SEALED STATE. -/
theorem soak_padded (rate : Nat) (h0 : 1 < rate) (h8 : rate ≤ 200) (msg : List UInt8) : soak rate sp0 (paddedOf rate msg) = ⟨startOf rate msg, 0⟩ := by
  have hp := soak_pos_eq rate sp0 msg (show 0 < rate by omega)
  have hl := soak_len rate sp0 msg sp0_len
  rw [show sp0.pos = 0 from rfl, Nat.zero_add] at hp
  have hlt := Nat.mod_lt msg.length (show 0 < rate by omega)
  have hz : zerosOf rate msg.length = rate - 1 - msg.length % rate := by
    unfold zerosOf
    rw [Nat.add_mod, Nat.mod_eq_of_lt h0]
    by_cases he : msg.length % rate + 1 = rate
    · rw [he, Nat.mod_self, Nat.sub_zero, Nat.mod_self]; omega
    · rw [Nat.mod_eq_of_lt (show msg.length % rate + 1 < rate by omega), Nat.mod_eq_of_lt (by omega)]; omega
  unfold startOf sealOf
  generalize hs : soak rate sp0 msg = p at hp hl
  obtain ⟨st, k⟩ := p
  have hp : k = msg.length % rate := hp
  have hl : st.length = 25 := hl
  unfold paddedOf
  split
  · rename_i h
    rw [soak_append, hs, soak_fill rate st k [0x9f] (by simp) (by simp; omega)]
    show SP.mk (permOf (mixB st k 0x9f)) 0 = ⟨permOf (mixB (mixB st k 0x1f) (rate - 1) 0x80), 0⟩
    rw [show rate - 1 = k by omega, mixB_twice st k (by omega) 0x1f 0x80]
    rfl
  · rename_i h
    rw [soak_append, hs, soak_fill rate st k _ (by simp) (by simp; omega)]
    show SP.mk (permOf (mixAll (mixB st k 0x1f) (k + 1) (List.replicate (zerosOf rate msg.length - 1) 0 ++ [0x80]))) 0 = _
    rw [mixAll_append, mixAll_zeros, List.length_replicate, show k + 1 + (zerosOf rate msg.length - 1) = rate - 1 by omega]
    rfl
end Go.Proofs.YthddgmnppolajaaDoor
