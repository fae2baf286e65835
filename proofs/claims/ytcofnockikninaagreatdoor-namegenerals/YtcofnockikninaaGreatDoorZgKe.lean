/- Parts of the walk. -/
import Derived.Test.YtcofnockikninaaGreatDoorZgNum9
import Derived.Lib.ValidAsc
import Derived.Shelf.Unicode.DecodeSlow
import Derived.Deep.LoopGhost
import Derived.Deep.DeepMust
import Derived.Deep.DeepBigQuietO
import Derived.Shelf.Unicode.WordAny
set_option maxRecDepth 100000
set_option maxHeartbeats 4000000
namespace Go.Proofs.YtcofnockikninaaGreatDoor
open Go.RowKit
namespace K
def wordN (b : Bs) : Nat := Lib.leNat (b.take 8)
theorem take8 {b : Bs} (h : 8 ≤ b.length) : b.take 8 = [b.getD 0 0, b.getD 1 0, b.getD 2 0, b.getD 3 0, b.getD 4 0, b.getD 5 0, b.getD 6 0, b.getD 7 0] := by
 match b, h with
 | a :: b :: c :: d :: e :: f :: g :: h :: r, _ => rfl
theorem word_low {b : Bs} (h : 8 ≤ b.length) : wordN b < 18446744073709551616 := by
 unfold wordN
 have := Lib.leNat_lt (b.take 8)
 rw [List.length_take, Nat.min_eq_left h] at this
 exact this
theorem word_asc {b : Bs} (h : 8 ≤ b.length) (hz : wordN b &&& 9259542123273814144 = 0) : ∀ c ∈ b.take 8, c.toNat < 128 := by
 have hl : (b.take 8).length = 8 := by rw [List.length_take, Nat.min_eq_left h]
 have h1 := Lib.leNat_mask (b.take 8)
 rw [hl, show Lib.maskN 8 = 9259542123273814144 by decide] at h1
 exact h1.1 hz
def validB (l : Bs) : Bool := utf8P l.length l
theorem runeP_cons (c : UInt8) (r : Bs) : runeP (c :: r) = if 240 ≤ c.toNat ∧ c.toNat < 248 then contP 4 65536 (c.toNat % 8) r else if 224 ≤ c.toNat ∧ c.toNat < 240 then contP 3 2048 (c.toNat % 16) r else if 192 ≤ c.toNat ∧ c.toNat < 224 then contP 2 128 (c.toNat % 32) r else if 128 ≤ c.toNat then 0 else 1 := rfl
theorem rune_le (l : Bs) : runeP l ≤ l.length := by
 match l with
 | [] => simp [runeP]
 | c :: r =>
  rw [runeP_cons, List.length_cons]
  have key : ∀ n low v, 0 < n → contP n low v r ≤ r.length + 1 := fun n low v hn => by
   unfold contP
   split
   ·omega
   split
   ·omega
   split
   ·omega
   ·omega
  split
  ·exact key _ _ _ (by omega)
  split
  ·exact key _ _ _ (by omega)
  split
  ·exact key _ _ _ (by omega)
  split
  ·omega
  ·omega
theorem utf_fuel : ∀ (k : Nat) (l : Bs), l.length ≤ k → utf8P k l = utf8P l.length l := fun k => by
 induction k using Nat.strongRecOn with
 | ind k ih =>
  intro l hl
  match k, l, hl with
  | 0, [], _ => rfl
  | k + 1, [], _ => simp [utf8P]
  | k + 1, c :: r, hl =>
   rw [List.length_cons] at hl
   show utf8P (k + 1) (c :: r) = utf8P (r.length + 1) (c :: r)
   unfold utf8P
   by_cases h0 : runeP (c :: r) = 0
   ·rw [if_pos h0, if_pos h0]
   ·rw [if_neg h0, if_neg h0]
    have hd : ((c :: r).drop (runeP (c :: r))).length ≤ r.length := by rw [List.length_drop, List.length_cons]; omega
    rw [ih k (by omega) _ (by omega)]
    by_cases he : r.length = k
    ·rw [he, ih k (by omega) _ (by omega)]
    ·rw [ih r.length (by omega) _ hd]
theorem valid_step (l : Bs) (h : l ≠ []) : validB l = if runeP l = 0 then false else validB (l.drop (runeP l)) := by
 match l with
 | c :: r =>
  show utf8P (r.length + 1) (c :: r) = _
  unfold utf8P
  split
  ·rfl
  ·rename_i h0
   unfold validB
   rw [utf_fuel _ _ (by rw [List.length_drop, List.length_cons]; omega)]
theorem rune_ascii {c : UInt8} {r : Bs} (h : c.toNat < 128) : runeP (c :: r) = 1 := by
 rw [runeP_cons]
 rw [if_neg (by omega), if_neg (by omega), if_neg (by omega), if_neg (by omega)]
theorem valid_skip : ∀ (k : Nat) (l : Bs), k ≤ l.length → (∀ c ∈ l.take k, c.toNat < 128) → validB (l.drop k) = validB l
 | 0, l, _, _ => by rw [List.drop_zero]
 | k + 1, [], h, _ => by simp at h
 | k + 1, c :: r, h, ha => by
  rw [List.drop_succ_cons, valid_skip k r (by simpa using h) (fun x hx => ha x (by rw [List.take_succ_cons]; exact List.mem_cons_of_mem _ hx)), valid_step (c :: r) (by simp), rune_ascii (ha c (by simp))]
  simp
theorem asc_add {l : Bs} {a b : Nat} (h1 : ∀ c ∈ l.take a, c.toNat < 128) (h2 : ∀ c ∈ (l.drop a).take b, c.toNat < 128) : ∀ c ∈ l.take (a + b), c.toNat < 128 := fun c hc => by
 rw [List.take_add, List.mem_append] at hc
 rcases hc with hc | hc
 ·exact h1 c hc
 ·exact h2 c hc
theorem or_mask (a b m : Nat) : (a ||| b) &&& m = 0 ↔ a &&& m = 0 ∧ b &&& m = 0 := Lib.or_mask a b m
def leadN (c : Nat) : Nat := if 194 ≤ c ∧ c ≤ 223 then 2 else if 224 ≤ c ∧ c ≤ 239 then 3 else if 240 ≤ c ∧ c ≤ 244 then 4 else 1
def leadLo (c : Nat) : Nat := if c = 224 then 160 else if c = 240 then 144 else 128
def leadHi (c : Nat) : Nat := if c = 237 then 159 else if c = 244 then 143 else 191
theorem first_lead : ∀ c : Fin 256, 128 ≤ c.val → Lib.firstT c.val % 8 = leadN c.val ∧ (leadN c.val ≠ 1 → Lib.accLo (Lib.firstT c.val / 16) = leadLo c.val ∧ Lib.accHi (Lib.firstT c.val / 16) = leadHi c.val) ∧ Lib.firstT c.val / 16 < 16 ∧ Lib.firstT c.val < 256 := by decide +kernel
theorem rune_bad {c : UInt8} {r : Bs} (h : 128 ≤ c.toNat) (h1 : leadN c.toNat = 1) : runeP (c :: r) = 0 := by
 have hlt := c.toNat_lt
 have hc : c.toNat < 194 ∨ 244 < c.toNat := by
  unfold leadN at h1
  split at h1
  ·omega
  split at h1
  ·omega
  split at h1
  ·omega
  ·omega
 rw [runeP_cons]
 split
 ·unfold contP
  split
  ·rfl
  split
  ·rfl
  ·rename_i hlen hall
   rw [if_pos]
   right; left
   match r, hlen with
   | a :: b :: d :: r, _ =>
    simp only [List.take_succ_cons, List.take_zero, List.foldl_cons, List.foldl_nil]
    omega
   | [a, b], hl => simp at hl
   | [a], hl => simp at hl
   | [], hl => simp at hl
 split
 ·omega
 split
 ·unfold contP
  split
  ·rfl
  split
  ·rfl
  ·rename_i hlen hall
   rw [if_pos]
   left
   match r, hlen with
   | a :: r, _ =>
    simp only [List.take_succ_cons, List.take_zero, List.foldl_cons, List.foldl_nil]
    omega
   | [], hl => simp at hl
 rfl
theorem rune_two {c : UInt8} {r : Bs} (h1 : leadN c.toNat = 2) : runeP (c :: r) = if 1 ≤ r.length ∧ 128 ≤ (r.getD 0 0).toNat ∧ (r.getD 0 0).toNat ≤ 191 then 2 else 0 := by
 have hc : 194 ≤ c.toNat ∧ c.toNat ≤ 223 := by
  unfold leadN at h1
  split at h1
  ·assumption
  split at h1
  ·omega
  split at h1 <;> omega
 rw [runeP_cons]
 rw [if_neg (by omega), if_neg (by omega), if_pos (by omega)]
 unfold contP
 match r with
 | [] => simp
 | a :: r =>
  have ha := a.toNat_lt
  rw [if_neg (by simp)]
  simp only [show 2 - 1 = 1 from rfl, List.take_succ_cons, List.take_zero, List.foldl_cons, List.foldl_nil, List.all_cons, List.all_nil, Bool.and_true, List.getD_cons_zero, List.length_cons]
  by_cases hb : 128 ≤ a.toNat ∧ a.toNat < 192
  ·rw [if_neg (by simp; omega), if_neg (by omega), if_pos (by omega)]
  ·rw [if_pos (by simp; omega), if_neg (by omega)]
theorem rune_three {c : UInt8} {r : Bs} (h1 : leadN c.toNat = 3) : runeP (c :: r) = if 2 ≤ r.length ∧ leadLo c.toNat ≤ (r.getD 0 0).toNat ∧ (r.getD 0 0).toNat ≤ leadHi c.toNat ∧ 128 ≤ (r.getD 1 0).toNat ∧ (r.getD 1 0).toNat ≤ 191 then 3 else 0 := by
 have hc : 224 ≤ c.toNat ∧ c.toNat ≤ 239 := by
  unfold leadN at h1
  split at h1
  ·omega
  split at h1
  ·assumption
  split at h1 <;> omega
 obtain ⟨n, hn⟩ := exq c.toNat
 rw [runeP_cons]
 rw [if_neg (by omega), if_pos (by omega)]
 unfold contP
 rw [hn] at hc ⊢
 match r with
 | [] => simp
 | [a] => simp
 | a :: b :: r =>
  have ha := a.toNat_lt
  have hb := b.toNat_lt
  rw [if_neg (by simp)]
  simp only [show 3 - 1 = 2 from rfl, List.take_succ_cons, List.take_zero, List.foldl_cons, List.foldl_nil, List.all_cons, List.all_nil, Bool.and_true, List.getD_cons_zero, List.getD_cons_succ, List.length_cons]
  obtain ⟨p, hp⟩ := exq a.toNat
  obtain ⟨q, hq⟩ := exq b.toNat
  rw [hp, hq]
  rw [hp] at ha
  rw [hq] at hb
  by_cases hb : (128 ≤ p ∧ p < 192) ∧ 128 ≤ q ∧ q < 192
  ·rw [if_neg (by simp; omega)]
   unfold leadLo leadHi
   split
   ·rename_i hv
    rw [if_neg]
    (repeat' split) <;> omega
   ·rename_i hv
    rw [if_pos]
    (repeat' split) <;> omega
  ·rw [if_pos (by simp; omega), if_neg]
   unfold leadLo leadHi
   (repeat' split) <;> omega
theorem rune_four {c : UInt8} {r : Bs} (h1 : leadN c.toNat = 4) : runeP (c :: r) = if 3 ≤ r.length ∧ leadLo c.toNat ≤ (r.getD 0 0).toNat ∧ (r.getD 0 0).toNat ≤ leadHi c.toNat ∧ 128 ≤ (r.getD 1 0).toNat ∧ (r.getD 1 0).toNat ≤ 191 ∧ 128 ≤ (r.getD 2 0).toNat ∧ (r.getD 2 0).toNat ≤ 191 then 4 else 0 := by
 have hc : 240 ≤ c.toNat ∧ c.toNat ≤ 244 := by
  unfold leadN at h1
  split at h1
  ·omega
  split at h1
  ·omega
  split at h1
  ·assumption
  ·omega
 obtain ⟨n, hn⟩ := exq c.toNat
 rw [runeP_cons]
 rw [if_pos (by omega)]
 unfold contP
 rw [hn] at hc ⊢
 match r with
 | [] => simp
 | [a] => simp
 | [a, b] => simp
 | a :: b :: d :: r =>
  rw [if_neg (by simp)]
  simp only [show 4 - 1 = 3 from rfl, List.take_succ_cons, List.take_zero, List.foldl_cons, List.foldl_nil, List.all_cons, List.all_nil, Bool.and_true, List.getD_cons_zero, List.getD_cons_succ, List.length_cons]
  obtain ⟨p, hp⟩ := exq a.toNat
  obtain ⟨q, hq⟩ := exq b.toNat
  obtain ⟨s, hs⟩ := exq d.toNat
  rw [hp, hq, hs]
  by_cases hb : (128 ≤ p ∧ p < 192) ∧ (128 ≤ q ∧ q < 192) ∧ 128 ≤ s ∧ s < 192
  ·rw [if_neg (by simp; omega)]
   unfold leadLo leadHi
   split
   ·rename_i hv
    rw [if_neg]
    (repeat' split) <;> omega
   ·rename_i hv
    rw [if_pos]
    (repeat' split) <;> omega
  ·rw [if_pos (by simp; omega), if_neg]
   unfold leadLo leadHi
   (repeat' split) <;> omega
end K
namespace K
theorem word_c (w : World) (x : Value) (b : Bs) (hx : BytesAt w x b) (hl : 8 ≤ b.length) :
  Calls Tryz.prog 191 #[x] w fun e w' => e = .returned (.int .u64 (wordN b : Int)) ∧ ∃ q, w' = w.drewN q := by
 obtain ⟨sp, c, rfl, _, _, hc⟩ := bytes_open hx
 obtain ⟨ba, oa, rfl, _, hcell⟩ := hc (fun e => by rw [e] at hl; simp at hl)
 obtain ⟨N, hN⟩ := exq b.length
 have m0 := hcell 0 (by omega)
 have m1 := hcell 1 (by omega)
 have m2 := hcell 2 (by omega)
 have m3 := hcell 3 (by omega)
 have m4 := hcell 4 (by omega)
 have m5 := hcell 5 (by omega)
 have m6 := hcell 6 (by omega)
 have m7 := hcell 7 (by omega)
 rw [Nat.add_zero] at m0
 have h0 := (b.getD 0 0).toNat_lt
 have h1 := (b.getD 1 0).toNat_lt
 have h2 := (b.getD 2 0).toNat_lt
 have h3 := (b.getD 3 0).toNat_lt
 have h4 := (b.getD 4 0).toNat_lt
 have h5 := (b.getD 5 0).toNat_lt
 have h6 := (b.getD 6 0).toNat_lt
 have h7 := (b.getD 7 0).toNat_lt
 have hv : ((wordN b : Nat) : Int) = ((b.getD 0 0).toNat : Int) + ((b.getD 1 0).toNat : Int) * 256 + ((b.getD 2 0).toNat : Int) * 65536 + ((b.getD 3 0).toNat : Int) * 16777216 + ((b.getD 4 0).toNat : Int) * 4294967296 + ((b.getD 5 0).toNat : Int) * 1099511627776 + ((b.getD 6 0).toNat : Int) * 281474976710656 + ((b.getD 7 0).toNat : Int) * 72057594037927936 := by
  unfold wordN
  rw [take8 hl]
  simp only [Lib.leNat]
  push_cast
  omega
 rw [hv]
 rw [hN] at hl ⊢
 clear hv hx hc hcell hN
 generalize (b.getD 0 0).toNat = x0 at *
 generalize (b.getD 1 0).toNat = x1 at *
 generalize (b.getD 2 0).toNat = x2 at *
 generalize (b.getD 3 0).toNat = x3 at *
 generalize (b.getD 4 0).toNat = x4 at *
 generalize (b.getD 5 0).toNat = x5 at *
 generalize (b.getD 6 0).toNat = x6 at *
 generalize (b.getD 7 0).toNat = x7 at *
 have q0 : (0 : Int) < (N : Int) := by omega
 have p0 : 0 < N := by omega
 have q1 : (1 : Int) < (N : Int) := by omega
 have q2 : (2 : Int) < (N : Int) := by omega
 have q3 : (3 : Int) < (N : Int) := by omega
 have q4 : (4 : Int) < (N : Int) := by omega
 have q5 : (5 : Int) < (N : Int) := by omega
 have q6 : (6 : Int) < (N : Int) := by omega
 have q7 : (7 : Int) < (N : Int) := by omega
 go_enter Tryz.func191, Tryz.ntmps191
 go_wp2
 go_region_held3 (fun w' => w'.cell? ⟨ba, oa, none⟩ = some (.int .u8 (x0 : Int)) ∧ w'.cell? ⟨ba, oa + 1, none⟩ = some (.int .u8 (x1 : Int)) ∧ w'.cell? ⟨ba, oa + 2, none⟩ = some (.int .u8 (x2 : Int)) ∧ w'.cell? ⟨ba, oa + 3, none⟩ = some (.int .u8 (x3 : Int)) ∧ w'.cell? ⟨ba, oa + 4, none⟩ = some (.int .u8 (x4 : Int)) ∧ w'.cell? ⟨ba, oa + 5, none⟩ = some (.int .u8 (x5 : Int)) ∧ w'.cell? ⟨ba, oa + 6, none⟩ = some (.int .u8 (x6 : Int)) ∧ w'.cell? ⟨ba, oa + 7, none⟩ = some (.int .u8 (x7 : Int))) (go_keep) (fail)
 go_wp2
 go_ret
 refine ⟨?_, 1, rfl⟩
 simp (disch := omega) only [u64_wrap_id, u64_or8, u64_or16, u64_or24, u64_or32, u64_or40, u64_or48, u64_or56]
 rfl
end K
end Go.Proofs.YtcofnockikninaaGreatDoor
