/- Parts of the walk. -/
import Derived.Test.YtcofnockikninaaGreatDoorZgNum9
import Derived.Test.YtcofnockikninaaGreatDoorZgDright
set_option maxRecDepth 100000
set_option maxHeartbeats 4000000
namespace Go.Proofs.YtcofnockikninaaGreatDoor
open Go.RowKit
theorem take_eq_succ {a b : Bs} {k : Nat} (h : a.take k = b.take k) (ha : k < a.length) (hb : k < b.length) (he : (a.getD k 0).toNat = (b.getD k 0).toNat) : a.take (k + 1) = b.take (k + 1) := by
 have e : a[k] = b[k] := by
  apply UInt8.toNat_inj.1
  simpa [List.getD_eq_getElem?_getD, ha, hb] using he
 rw [List.take_add_one, List.take_add_one, h, List.getElem?_eq_getElem ha, List.getElem?_eq_getElem hb, e]
theorem same_any (w : World) (x y : Value) (a b : Bs) (hx : BytesAt w x a) (hy : BytesAt w y b) (hl : a.length ≤ 1099511627776) :
  Calls Tryz.prog 45 #[x, y] w fun e w' => e = .returned (.bool (decide (a = b))) ∧ Below w.heap.size w w' := by
 obtain ⟨sp, c, rfl, _, _, hc⟩ := bytes_open hx
 obtain ⟨sp2, c2, rfl, _, _, hc2⟩ := bytes_open hy
 have H1 := h_ hc
 have H2 := h_ hc2
 clear hc hc2 hx hy
 go_enter Tryz.func45, Tryz.ntmps45
 by_cases hab : a.length = b.length
 ·obtain ⟨N, hN⟩ := exq a.length
  have hN2 : b.length = N := by omega
  have hNb : N ≤ 1099511627776 := by rw [← hN]; exact hl
  rw [hN] at H1
  rw [hN2] at H2
  rw [hN, hN2]
  have HN := h_ hN
  have HN2 := h_ hN2
  clear hN hN2 hab
  go_wp2
  go_loopw [5] (fun i wr => ∃ k : Nat, k ≤ N ∧ i = .int .i64 k ∧ wr.heap = w.heap ∧ Hid (a.take k = b.take k) ∧ Below w.heap.size w wr) (fun i _ => N - (intOf i).toNat)
  case atStart => exact ⟨0, by omega, rfl, rfl, rfl, Below.refl _ _⟩
  case round =>
   obtain ⟨k, hk, rfl, hh, HE, hB⟩ := hrel
   by_cases hlt : k < N
   ·have hna : a ≠ [] := by intro e; have := u_ HN; rw [e] at this; simp at this; omega
    have hnb : b ≠ [] := by intro e; have := u_ HN2; rw [e] at this; simp at this; omega
    obtain ⟨ba, oa, rfl, _, hcell⟩ := u_ H1 hna
    obtain ⟨bb, ob, rfl, _, hcell2⟩ := u_ H2 hnb
    have c1 : wr.cell? ⟨ba, oa + k, none⟩ = some (.int .u8 ((a.getD k 0).toNat : Int)) := by rw [← hcell k hlt]; unfold World.cell?; rw [hh]
    have c2' : wr.cell? ⟨bb, ob + k, none⟩ = some (.int .u8 ((b.getD k 0).toNat : Int)) := by rw [← hcell2 k hlt]; unfold World.cell?; rw [hh]
    have Ht : Hid ((a.getD k 0).toNat = (b.getD k 0).toNat → a.take (k + 1) = b.take (k + 1)) := fun e => take_eq_succ (u_ HE) (by have := u_ HN; omega) (by have := u_ HN2; omega) e
    have Hf : Hid ((a.getD k 0).toNat ≠ (b.getD k 0).toNat → a ≠ b) := fun e e2 => e (by rw [e2])
    obtain ⟨p, hp⟩ := exq ((a.getD k 0).toNat)
    obtain ⟨q, hq⟩ := exq ((b.getD k 0).toNat)
    rw [hp] at c1 Ht Hf
    rw [hq] at c2' Ht Hf
    have HB := h_ hB
    have Hh := h_ hh
    clear hB hh hcell hcell2 hp hq hna hnb
    have k0 : (0 : Int) ≤ (k : Int) := by omega
    have k1 : (k : Int) < (N : Int) := by omega
    by_cases hpq : p = q
    ·have Ht2 := h_ (u_ Ht hpq)
     have de : ((p : Int) == (q : Int)) = true := by simp [hpq]
     subst hpq
     clear Ht Hf
     go_wp2
     go_region_held3 (fun w' => w'.cell? ⟨ba, oa + k, none⟩ = some (.int .u8 p) ∧ w'.cell? ⟨bb, ob + k, none⟩ = some (.int .u8 p)) (go_keep) (fail)
     go_wp2
     go_roundw
     case rel =>
      first
       | exact ⟨k + 1, by omega, by go_num, u_ Hh, Ht2, HB.drew⟩
       | ((repeat apply Exists.intro); exact ⟨⟨k + 1, by omega, by go_num, u_ Hh, Ht2, HB.drew⟩, rfl⟩)
     case measure => simp [intOf]; omega
    ·have Hf2 := h_ (u_ Hf hpq)
     have de : ((p : Int) == (q : Int)) = false := by simp; omega
     clear Ht Hf hpq
     go_wp2
     go_region_held3 (fun w' => w'.cell? ⟨ba, oa + k, none⟩ = some (.int .u8 p) ∧ w'.cell? ⟨bb, ob + k, none⟩ = some (.int .u8 q)) (go_keep) (fail)
     go_wp2
     go_ret
     exact ⟨by simp [u_ Hf2], HB.drew⟩
   ·have Hf : Hid (a = b) := by
     show _ = _
     have h1 := u_ HE
     rwa [List.take_of_length_le (by have := u_ HN; omega), List.take_of_length_le (by have := u_ HN2; omega)] at h1
    go_wp2
    go_ret
    exact ⟨by simp [u_ Hf], hB⟩
 ·have Hf : Hid (a ≠ b) := fun e => hab (by rw [e])
  have de : ((a.length : Int) == (b.length : Int)) = false := by simp; omega
  go_wp2
  go_ret
  exact ⟨by simp [u_ Hf], Below.refl _ _⟩
theorem less_app (c : Bs) : ∀ a b : Bs, lessP (c ++ a) (c ++ b) = lessP a b := by
 induction c with
 | nil => intro a b; rfl
 | cons x c ih => intro a b; show (if x = x then lessP (c ++ a) (c ++ b) else decide (x < x)) = _; rw [if_pos rfl]; exact ih a b
theorem less_diff {a b : Bs} {k : Nat} (h : a.take k = b.take k) (ha : k < a.length) (hb : k < b.length) (hne : (a.getD k 0).toNat ≠ (b.getD k 0).toNat) : lessP a b = decide ((a.getD k 0).toNat < (b.getD k 0).toNat) := by
 have ea : a = a.take k ++ (a.getD k 0 :: a.drop (k + 1)) := by
  rw [List.getD_eq_getElem?_getD, List.getElem?_eq_getElem ha, Option.getD_some, ← List.drop_eq_getElem_cons ha, List.take_append_drop]
 have eb : b = b.take k ++ (b.getD k 0 :: b.drop (k + 1)) := by
  rw [List.getD_eq_getElem?_getD, List.getElem?_eq_getElem hb, Option.getD_some, ← List.drop_eq_getElem_cons hb, List.take_append_drop]
 have : lessP a b = lessP (a.take k ++ (a.getD k 0 :: a.drop (k + 1))) (a.take k ++ (b.getD k 0 :: b.drop (k + 1))) := by rw [← ea, h, ← eb]
 rw [this, less_app]
 show (if a.getD k 0 = b.getD k 0 then lessP (a.drop (k + 1)) (b.drop (k + 1)) else decide (a.getD k 0 < b.getD k 0)) = _
 rw [if_neg (fun e => hne (by rw [e]))]
 rfl
theorem less_end {a b : Bs} {k : Nat} (h : a.take k = b.take k) (hk : k = a.length ∨ k = b.length) (ha : k ≤ a.length) (hb : k ≤ b.length) : lessP a b = decide (a.length < b.length) := by
 have e : lessP a b = lessP (a.take k ++ a.drop k) (a.take k ++ b.drop k) := by rw [List.take_append_drop, h, List.take_append_drop]
 rw [e, less_app]
 have la : (a.drop k).length = a.length - k := List.length_drop
 have lb : (b.drop k).length = b.length - k := List.length_drop
 cases ha' : a.drop k with
 | nil =>
  rw [ha'] at la
  cases hb' : b.drop k with
  | nil => rw [hb'] at lb; simp at la lb; unfold lessP; symm; simp; omega
  | cons y m => rw [hb'] at lb; simp at la lb; unfold lessP; symm; simp; omega
 | cons x l =>
  rw [ha'] at la
  cases hb' : b.drop k with
  | nil => rw [hb'] at lb; simp at la lb; unfold lessP; symm; simp; omega
  | cons y m => rw [hb'] at lb; simp at la lb; omega
theorem less_any (w : World) (x y : Value) (a b : Bs) (hx : BytesAt w x a) (hy : BytesAt w y b) (hl : a.length ≤ 1099511627776) (hl2 : b.length ≤ 1099511627776) :
  Calls Tryz.prog 132 #[x, y] w fun e w' => e = .returned (.bool (lessP a b)) ∧ Below w.heap.size w w' := by
 obtain ⟨sp, c, rfl, _, _, hc⟩ := bytes_open hx
 obtain ⟨sp2, c2, rfl, _, _, hc2⟩ := bytes_open hy
 have H1 := h_ hc
 have H2 := h_ hc2
 clear hc hc2 hx hy
 go_enter Tryz.func132, Tryz.ntmps132
 have Hd : Hid (∀ k, a.take k = b.take k → k < a.length → k < b.length → (a.getD k 0).toNat ≠ (b.getD k 0).toNat → lessP a b = decide ((a.getD k 0).toNat < (b.getD k 0).toNat)) := fun k h ha hb hne => less_diff h ha hb hne
 have He : Hid (∀ k, a.take k = b.take k → k = a.length ∨ k = b.length → k ≤ a.length → k ≤ b.length → lessP a b = decide (a.length < b.length)) := fun k h hk ha hb => less_end h hk ha hb
 have Ht : Hid (∀ k, a.take k = b.take k → k < a.length → k < b.length → (a.getD k 0).toNat = (b.getD k 0).toNat → a.take (k + 1) = b.take (k + 1)) := fun k h ha hb e => take_eq_succ h ha hb e
 have Hna : Hid (∀ k, k < a.length → a ≠ []) := fun k hk e => by rw [e] at hk; simp at hk
 have Hnb : Hid (∀ k, k < b.length → b ≠ []) := fun k hk e => by rw [e] at hk; simp at hk
 obtain ⟨N, hN⟩ := exq a.length
 obtain ⟨M, hM⟩ := exq b.length
 simp only [hN, hM] at H1 H2 Hd He Ht Hna Hnb hl hl2 ⊢
 clear hN hM
 go_wp2
 go_loopw [5] (fun i wr => ∃ k : Nat, k ≤ N ∧ k ≤ M ∧ i = .int .i64 k ∧ wr.heap = w.heap ∧ Hid (a.take k = b.take k) ∧ Below w.heap.size w wr) (fun i _ => N - (intOf i).toNat)
 case atStart => exact ⟨0, by omega, by omega, rfl, rfl, rfl, Below.refl _ _⟩
 case round =>
  obtain ⟨k, hk, hk2, rfl, hh, HE, hB⟩ := hrel
  by_cases hlt : k < N
  ·by_cases hlt2 : k < M
   ·obtain ⟨ba, oa, rfl, _, hcell⟩ := u_ H1 (u_ Hna k hlt)
    obtain ⟨bb, ob, rfl, _, hcell2⟩ := u_ H2 (u_ Hnb k hlt2)
    have c1 : wr.cell? ⟨ba, oa + k, none⟩ = some (.int .u8 ((a.getD k 0).toNat : Int)) := by rw [← hcell k hlt]; unfold World.cell?; rw [hh]
    have c2' : wr.cell? ⟨bb, ob + k, none⟩ = some (.int .u8 ((b.getD k 0).toNat : Int)) := by rw [← hcell2 k hlt2]; unfold World.cell?; rw [hh]
    have Hd2 := h_ (u_ Hd k (u_ HE) hlt hlt2)
    have Ht2 := h_ (u_ Ht k (u_ HE) hlt hlt2)
    obtain ⟨p, hp⟩ := exq ((a.getD k 0).toNat)
    obtain ⟨q, hq⟩ := exq ((b.getD k 0).toNat)
    rw [hp] at c1 Ht2 Hd2
    rw [hq] at c2' Ht2 Hd2
    have HB := h_ hB
    have Hh := h_ hh
    have k0 : (0 : Int) ≤ (k : Int) := by omega
    have k1 : (k : Int) < (N : Int) := by omega
    have k2 : (k : Int) < (M : Int) := by omega
    obtain ⟨d1, d1n⟩ := ltVV k N
    obtain ⟨d2, d2n⟩ := ltVV k M
    clear hB hh hcell hcell2 hp hq Hd He Ht Hna Hnb HE
    by_cases hpq : p = q
    ·have Ht3 := h_ (u_ Ht2 hpq)
     have de : ((p : Int) == (q : Int)) = true := by simp [hpq]
     subst hpq
     clear Ht2 Hd2
     go_wp2
     go_region_held3 (fun w' => w'.cell? ⟨ba, oa + k, none⟩ = some (.int .u8 p) ∧ w'.cell? ⟨bb, ob + k, none⟩ = some (.int .u8 p)) (go_keep) (fail)
     go_wp2
     go_roundw
     case rel =>
      first
       | exact ⟨k + 1, by omega, by omega, by go_num, u_ Hh, Ht3, HB.drew⟩
       | ((repeat apply Exists.intro); exact ⟨⟨k + 1, by omega, by omega, by go_num, u_ Hh, Ht3, HB.drew⟩, rfl⟩)
     case measure => simp [intOf]; omega
    ·have Hd3 := h_ (u_ Hd2 hpq)
     have de : ((p : Int) == (q : Int)) = false := by simp; omega
     clear Ht2 Hd2 hpq
     go_wp2
     go_region_held3 (fun w' => w'.cell? ⟨ba, oa + k, none⟩ = some (.int .u8 p) ∧ w'.cell? ⟨bb, ob + k, none⟩ = some (.int .u8 q)) (go_keep) (fail)
     go_wp2
     go_region_held3 (fun w' => w'.cell? ⟨ba, oa + k, none⟩ = some (.int .u8 p) ∧ w'.cell? ⟨bb, ob + k, none⟩ = some (.int .u8 q)) (go_keep) (fail)
     go_wp2
     go_ret
     exact ⟨by rw [u_ Hd3]; simp, HB.drew.drew⟩
   ·obtain ⟨d1, d1n⟩ := ltVV k N
    obtain ⟨d2, d2n⟩ := ltVVf k M
    have Hf := h_ (u_ He k (u_ HE) (by omega) hk hk2)
    have HB := h_ hB
    clear Hd He Ht Hna Hnb HE hB hh
    go_wp2
    go_ret
    exact ⟨by rw [u_ Hf]; simp, u_ HB⟩
  ·obtain ⟨d1, d1n⟩ := ltVVf k N
   have Hf := h_ (u_ He k (u_ HE) (by omega) hk hk2)
   have HB := h_ hB
   clear Hd He Ht Hna Hnb HE hB hh
   go_wp2
   go_ret
   exact ⟨by rw [u_ Hf]; simp, u_ HB⟩
def contV (v : Nat) (r : Bs) (k : Nat) : Nat := (r.take k).foldl (fun a c => 64 * a + c.toNat % 64) v
def contOk (r : Bs) (k : Nat) : Bool := (r.take k).all fun c => decide (128 ≤ c.toNat) && decide (c.toNat < 192)
theorem take_succ_getD {r : Bs} {k : Nat} (h : k < r.length) : r.take (k + 1) = r.take k ++ [r.getD k 0] := by
 rw [List.take_add_one, List.getElem?_eq_getElem h, List.getD_eq_getElem?_getD, List.getElem?_eq_getElem h]
 rfl
theorem contV_succ (v : Nat) {r : Bs} {k : Nat} (h : k < r.length) : contV v r (k + 1) = 64 * contV v r k + (r.getD k 0).toNat % 64 := by
 unfold contV
 rw [take_succ_getD h, List.foldl_append]
 rfl
theorem contOk_succ {r : Bs} {k : Nat} (h : k < r.length) : contOk r (k + 1) = (contOk r k && (decide (128 ≤ (r.getD k 0).toNat) && decide ((r.getD k 0).toNat < 192))) := by
 unfold contOk
 rw [take_succ_getD h, List.all_append]
 simp
theorem contV_le (v : Nat) (r : Bs) : ∀ k, contV v r k + 1 ≤ (v + 1) * 64 ^ k
 | 0 => by simp [contV]
 | k + 1 => by
  have ih := contV_le v r k
  by_cases h : k < r.length
  ·rw [contV_succ v h, Nat.pow_succ]
   have := Nat.mul_le_mul_right 64 ih
   rw [Nat.mul_assoc] at this
   omega
  ·have e : contV v r (k + 1) = contV v r k := by unfold contV; rw [List.take_of_length_le (by omega), List.take_of_length_le (by omega)]
   rw [e, Nat.pow_succ, ← Nat.mul_assoc]
   omega
theorem contV_small {v : Nat} (hv : v ≤ 31) (r : Bs) {k : Nat} (hk : k ≤ 3) : contV v r k ≤ 8388608 := by
 have h := contV_le v r k
 have h2 : 64 ^ k ≤ 64 ^ 3 := Nat.pow_le_pow_right (by omega) hk
 have h3 : (v + 1) * 64 ^ k ≤ 32 * 64 ^ 3 := Nat.mul_le_mul (by omega) h2
 omega
theorem contP_eq (n low v : Nat) (r : Bs) : contP n low v r = if r.length < n - 1 then 0 else if contOk r (n - 1) = false then 0 else if contV v r (n - 1) < low ∨ 1114111 < contV v r (n - 1) ∨ (55296 ≤ contV v r (n - 1) ∧ contV v r (n - 1) < 57344) then 0 else n := rfl
theorem contOk_mono {r : Bs} {k m : Nat} (h : contOk r k = false) (hk : k ≤ m) : contOk r m = false := by
 unfold contOk at h ⊢
 rw [List.all_eq_false] at h ⊢
 obtain ⟨x, hx, hc⟩ := h
 exact ⟨x, (List.take_subset_take_left r hk) hx, hc⟩
theorem drop_getD {b : Bs} {at_ : Nat} (h : at_ < b.length) : b.drop at_ = b.getD at_ 0 :: b.drop (at_ + 1) := by
 rw [List.getD_eq_getElem?_getD, List.getElem?_eq_getElem h, Option.getD_some, ← List.drop_eq_getElem_cons h]
theorem getD_drop (b : Bs) (i j : Nat) : (b.drop i).getD j 0 = b.getD (i + j) 0 := by
 rw [List.getD_eq_getElem?_getD, List.getD_eq_getElem?_getD, List.getElem?_drop]
theorem utf8_any (w : World) (x : Value) (b : Bs) (hx : BytesAt w x b) (s : Nat) (hs : s < b.length) (hl : b.length ≤ 1073741824) :
  Calls Tryz.prog 111 #[x, .int .i64 (s : Int)] w fun e w' => e = .returned (.int .i64 (runeP (b.drop s) : Int)) ∧ w' = w := by
 obtain ⟨sp, c, rfl, _, _, hc⟩ := bytes_open hx
 obtain ⟨ba, oa, rfl, _, hcell⟩ := hc (fun e => by rw [e] at hs; simp at hs)
 have Hrune : Hid (runeP (b.drop s) = if 240 ≤ (b.getD s 0).toNat ∧ (b.getD s 0).toNat < 248 then contP 4 65536 ((b.getD s 0).toNat % 8) (b.drop (s + 1)) else
  if 224 ≤ (b.getD s 0).toNat ∧ (b.getD s 0).toNat < 240 then contP 3 2048 ((b.getD s 0).toNat % 16) (b.drop (s + 1)) else
  if 192 ≤ (b.getD s 0).toNat ∧ (b.getD s 0).toNat < 224 then contP 2 128 ((b.getD s 0).toNat % 32) (b.drop (s + 1)) else
  if 128 ≤ (b.getD s 0).toNat then 0 else 1) := by show _ = _; rw [drop_getD hs]; rfl
 have Hcell : Hid (∀ k, k < b.length → w.cell? ⟨ba, oa + k, none⟩ = some (.int .u8 ((b.getD k 0).toNat : Int))) := hcell
 have c0 := hcell s hs
 have Hrd : Hid (∀ i, 1 ≤ i → s + i < b.length → i - 1 < (b.drop (s + 1)).length ∧ (b.drop (s + 1)).getD (i - 1) 0 = b.getD (s + i) 0) := fun i h1 h2 => by
  refine ⟨by rw [List.length_drop]; omega, ?_⟩
  rw [getD_drop, show s + 1 + (i - 1) = s + i by omega]
 have Hrl : Hid ((b.drop (s + 1)).length = b.length - (s + 1)) := List.length_drop
 have hpb := (b.getD s 0).toNat_lt
 obtain ⟨p, hp⟩ := exq ((b.getD s 0).toNat)
 rw [hp] at c0 Hrune hpb
 obtain ⟨N, hN⟩ := exq b.length
 simp only [hN] at hs hl Hcell Hrd Hrl ⊢
 obtain ⟨r, hr⟩ := exq (b.drop (s + 1))
 rw [hr] at Hrune Hrd Hrl
 obtain ⟨R, hR⟩ := exq (runeP (b.drop s))
 rw [hR] at Hrune ⊢
 have HNb := h_ hN
 clear hp hN hr hR hc hcell hx
 have s0 : (0 : Int) ≤ (s : Int) := by omega
 have s1 : (s : Int) < (N : Int) := by omega
 rcases (by omega : (248 ≤ p) ∨ (240 ≤ p ∧ p < 248) ∨ (224 ≤ p ∧ p < 240) ∨ (192 ≤ p ∧ p < 224) ∨ (128 ≤ p ∧ p < 192) ∨ (p < 128)) with hr | hr | hr | hr | hr | hr
 ·obtain ⟨a1, a1n⟩ := leLV 240 240 p
  obtain ⟨a2, a2n⟩ := ltVLf p 248 248
  obtain ⟨b1, b1n⟩ := leLV 224 224 p
  obtain ⟨b2, b2n⟩ := ltVLf p 240 240
  obtain ⟨c1, c1n⟩ := leLV 192 192 p
  obtain ⟨c2, c2n⟩ := ltVLf p 224 224
  obtain ⟨d1, d1n⟩ := leLV 128 128 p
  have HR : Hid (R = 0) := by show _ = _; rw [u_ Hrune, if_neg (by omega), if_neg (by omega), if_neg (by omega), if_pos (by omega)]
  clear Hrune Hcell Hrd Hrl HNb hr
  go_enter Tryz.func111, Tryz.ntmps111
  go_wp2
  go_ret
  exact ⟨by rw [u_ HR]; rfl, rfl⟩
 ·obtain ⟨a1, a1n⟩ := leLV 240 240 p
  obtain ⟨a2, a2n⟩ := ltVL p 248 248
  obtain ⟨b1, b1n⟩ := leLV 224 224 p
  obtain ⟨b2, b2n⟩ := ltVLf p 240 240
  obtain ⟨c1, c1n⟩ := leLV 192 192 p
  obtain ⟨c2, c2n⟩ := ltVLf p 224 224
  obtain ⟨d1, d1n⟩ := leLV 128 128 p
  obtain ⟨v0, hv0⟩ := exq (p % 8)
  have vi : (p : Int) % 8 = (v0 : Int) := by omega
  have hv31 : v0 ≤ 31 := by omega
  have HR : Hid (R = contP 4 65536 v0 r) := by show _ = _; rw [u_ Hrune, if_pos (by omega), hv0]
  have sb : (s : Int) ≤ 1073741824 := by omega
  clear Hrune hv0
  by_cases hfit : s + 4 ≤ N
  case neg =>
   have e1 : decide ((N : Int) < (s : Int) + 4) = true := by simp; omega
   have HR2 : Hid (R = 0) := by show _ = _; rw [u_ HR, contP_eq, if_pos (by rw [u_ Hrl]; omega)]
   clear HR Hcell Hrd Hrl HNb hr hfit
   go_enter Tryz.func111, Tryz.ntmps111
   go_wp2
   go_ret
   exact ⟨by rw [u_ HR2]; rfl, rfl⟩
  have e1 : decide ((N : Int) < (s : Int) + 4) = false := by simp; omega
  have HR2 : Hid (R = if contOk r 3 = false then 0 else if contV v0 r 3 < 65536 ∨ 1114111 < contV v0 r 3 ∨ (55296 ≤ contV v0 r 3 ∧ contV v0 r 3 < 57344) then 0 else 4) := by show _ = _; rw [u_ HR, contP_eq, if_neg (by rw [u_ Hrl]; omega)]
  have Hv : Hid (∀ k, k ≤ 3 → contV v0 r k ≤ 8388608) := fun k hk => contV_small hv31 r hk
  have H00 : Hid (contV v0 r 0 = v0 ∧ contOk r 0 = true) := ⟨rfl, rfl⟩
  clear HR Hrl HNb hr
  go_enter Tryz.func111, Tryz.ntmps111
  go_wp2
  go_loopw [8, 9] (fun vv ii wr => ∃ (i V : Nat), 1 ≤ i ∧ i ≤ 4 ∧ ii = .int .i64 (i : Int) ∧ vv = .int .i64 (V : Int) ∧ wr = w ∧ Hid (contV v0 r (i - 1) = V ∧ contOk r (i - 1) = true)) (fun _ ii _ => 4 - (intOf ii).toNat)
  case atStart => exact ⟨1, v0, by omega, by omega, rfl, by rw [vi], rfl, H00⟩
  case round =>
   obtain ⟨i, V, hi1, hi2, rfl, rfl, rfl, HV⟩ := hrel
   have Vb : V ≤ 8388608 := by have := u_ Hv (i - 1) (by omega); rw [HV.1] at this; exact this
   have Vbi : (V : Int) ≤ 8388608 := by omega
   by_cases hlt : i < 4
   ·obtain ⟨j, hj⟩ := exq (s + i)
    have cj := u_ Hcell j (by omega)
    obtain ⟨hrl, hrg⟩ := u_ Hrd i hi1 (by omega)
    rw [hj] at hrg
    have HS := h_ (contV_succ v0 hrl)
    have HO := h_ (contOk_succ hrl)
    rw [hrg, show i - 1 + 1 = i by omega, HV.1] at HS
    rw [hrg, show i - 1 + 1 = i by omega, HV.2] at HO
    have hqb := (b.getD j 0).toNat_lt
    obtain ⟨q, hq⟩ := exq ((b.getD j 0).toNat)
    rw [hq] at cj HS HO hqb
    have hji : (s : Int) + (i : Int) = (j : Int) := by omega
    have j0 : (0 : Int) ≤ (j : Int) := by omega
    have j1 : (j : Int) < (N : Int) := by omega
    obtain ⟨l1, l1n⟩ := ltVL i 4 4
    have ib : (i : Int) ≤ 4 := by omega
    clear hq hrl hrg hj HV
    by_cases hq1 : q < 128
    ·obtain ⟨f1, f1n⟩ := ltVL q 128 128
     have HR3 : Hid (R = 0) := by show _ = _; rw [u_ HR2, if_pos (contOk_mono (k := i) (by rw [u_ HO]; simp; omega) (by omega))]
     clear HR2 HS HO Hv Hcell Hrd hq1 H00
     go_wp2
     go_ret
     exact ⟨by rw [u_ HR3]; rfl, rfl⟩
    obtain ⟨f1, f1n⟩ := ltVLf q 128 128
    by_cases hq2 : 192 ≤ q
    ·obtain ⟨f2, f2n⟩ := leLV 192 192 q
     have HR3 : Hid (R = 0) := by show _ = _; rw [u_ HR2, if_pos (contOk_mono (k := i) (by rw [u_ HO]; simp; omega) (by omega))]
     clear HR2 HS HO Hv Hcell Hrd hq1 hq2 H00
     go_wp2
     go_ret
     exact ⟨by rw [u_ HR3]; rfl, rfl⟩
    obtain ⟨f2, f2n⟩ := leLVf 192 192 q
    obtain ⟨m, hm⟩ := exq (q % 64)
    have mi : (q : Int) % 64 = (m : Int) := by omega
    have mb : (m : Int) ≤ 63 := by omega
    have HV2 : Hid (contV v0 r (i + 1 - 1) = 64 * V + m ∧ contOk r (i + 1 - 1) = true) := by
     rw [Nat.add_sub_cancel]
     exact ⟨by rw [u_ HS, hm], by rw [u_ HO]; simp; omega⟩
    clear HR2 HS HO Hv Hcell Hrd hq1 hq2 hm H00
    go_wp2
    go_roundw
    case rel =>
     first
      | exact ⟨i + 1, 64 * V + m, by omega, by omega, by go_num, by go_num, trivial, HV2⟩
      | exact ⟨i + 1, 64 * V + m, by omega, by omega, by go_num, by go_num, rfl, HV2⟩
      | ((repeat apply Exists.intro); exact ⟨⟨i + 1, 64 * V + m, by omega, by omega, by go_num, by go_num, trivial, HV2⟩, rfl⟩)
      | ((repeat apply Exists.intro); exact ⟨⟨i + 1, 64 * V + m, by omega, by omega, by go_num, by go_num, rfl, HV2⟩, rfl⟩)
    case measure => simp [intOf]; omega
   ·obtain rfl : i = 4 := by omega
    have HR3 : Hid (R = if V < 65536 ∨ 1114111 < V ∨ (55296 ≤ V ∧ V < 57344) then 0 else 4) := by
     show _ = _
     rw [u_ HR2, show (3 : Nat) = 4 - 1 by omega, HV.1, HV.2, if_neg (by simp)]
    clear HR2 HV Hv Hcell Hrd H00
    rcases (by omega : (V < 65536) ∨ (65536 ≤ V ∧ 1114111 < V) ∨ (65536 ≤ V ∧ V ≤ 1114111 ∧ V < 55296) ∨ (65536 ≤ V ∧ V ≤ 1114111 ∧ 55296 ≤ V ∧ V < 57344) ∨ (65536 ≤ V ∧ V ≤ 1114111 ∧ 57344 ≤ V)) with hv | hv | hv | hv | hv
    ·obtain ⟨g0, g0n⟩ := ltVL V 65536 65536
     have HR4 : Hid (R = 0) := by show _ = _; rw [u_ HR3, if_pos (by omega)]
     clear HR3 hv
     go_wp2
     go_ret
     exact ⟨by rw [u_ HR4]; rfl, rfl⟩
    ·obtain ⟨g0, g0n⟩ := ltVLf V 65536 65536
     obtain ⟨g1, g1n⟩ := ltLV 1114111 1114111 V
     have HR4 : Hid (R = 0) := by show _ = _; rw [u_ HR3, if_pos (by omega)]
     clear HR3 hv
     go_wp2
     go_ret
     exact ⟨by rw [u_ HR4]; rfl, rfl⟩
    ·obtain ⟨g0, g0n⟩ := ltVLf V 65536 65536
     obtain ⟨g1, g1n⟩ := ltLVf 1114111 1114111 V
     obtain ⟨g2, g2n⟩ := leLVf 55296 55296 V
     have HR4 : Hid (R = 4) := by show _ = _; rw [u_ HR3, if_neg (by omega)]
     clear HR3 hv
     go_wp2
     go_ret
     exact ⟨by rw [u_ HR4]; rfl, rfl⟩
    ·obtain ⟨g0, g0n⟩ := ltVLf V 65536 65536
     obtain ⟨g1, g1n⟩ := ltLVf 1114111 1114111 V
     obtain ⟨g2, g2n⟩ := leLV 55296 55296 V
     obtain ⟨g3, g3n⟩ := ltVL V 57344 57344
     have HR4 : Hid (R = 0) := by show _ = _; rw [u_ HR3, if_pos (by omega)]
     clear HR3 hv
     go_wp2
     go_ret
     exact ⟨by rw [u_ HR4]; rfl, rfl⟩
    ·obtain ⟨g0, g0n⟩ := ltVLf V 65536 65536
     obtain ⟨g1, g1n⟩ := ltLVf 1114111 1114111 V
     obtain ⟨g2, g2n⟩ := leLV 55296 55296 V
     obtain ⟨g3, g3n⟩ := ltVLf V 57344 57344
     have HR4 : Hid (R = 4) := by show _ = _; rw [u_ HR3, if_neg (by omega)]
     clear HR3 hv
     go_wp2
     go_ret
     exact ⟨by rw [u_ HR4]; rfl, rfl⟩
 ·obtain ⟨a1, a1n⟩ := leLVf 240 240 p
  obtain ⟨a2, a2n⟩ := ltVL p 248 248
  obtain ⟨b1, b1n⟩ := leLV 224 224 p
  obtain ⟨b2, b2n⟩ := ltVL p 240 240
  obtain ⟨c1, c1n⟩ := leLV 192 192 p
  obtain ⟨c2, c2n⟩ := ltVLf p 224 224
  obtain ⟨d1, d1n⟩ := leLV 128 128 p
  obtain ⟨v0, hv0⟩ := exq (p % 16)
  have vi : (p : Int) % 16 = (v0 : Int) := by omega
  have hv31 : v0 ≤ 31 := by omega
  have HR : Hid (R = contP 3 2048 v0 r) := by show _ = _; rw [u_ Hrune, if_neg (by omega), if_pos (by omega), hv0]
  have sb : (s : Int) ≤ 1073741824 := by omega
  clear Hrune hv0
  by_cases hfit : s + 3 ≤ N
  case neg =>
   have e1 : decide ((N : Int) < (s : Int) + 3) = true := by simp; omega
   have HR2 : Hid (R = 0) := by show _ = _; rw [u_ HR, contP_eq, if_pos (by rw [u_ Hrl]; omega)]
   clear HR Hcell Hrd Hrl HNb hr hfit
   go_enter Tryz.func111, Tryz.ntmps111
   go_wp2
   go_ret
   exact ⟨by rw [u_ HR2]; rfl, rfl⟩
  have e1 : decide ((N : Int) < (s : Int) + 3) = false := by simp; omega
  have HR2 : Hid (R = if contOk r 2 = false then 0 else if contV v0 r 2 < 2048 ∨ 1114111 < contV v0 r 2 ∨ (55296 ≤ contV v0 r 2 ∧ contV v0 r 2 < 57344) then 0 else 3) := by show _ = _; rw [u_ HR, contP_eq, if_neg (by rw [u_ Hrl]; omega)]
  have Hv : Hid (∀ k, k ≤ 3 → contV v0 r k ≤ 8388608) := fun k hk => contV_small hv31 r hk
  have H00 : Hid (contV v0 r 0 = v0 ∧ contOk r 0 = true) := ⟨rfl, rfl⟩
  clear HR Hrl HNb hr
  go_enter Tryz.func111, Tryz.ntmps111
  go_wp2
  go_loopw [8, 9] (fun vv ii wr => ∃ (i V : Nat), 1 ≤ i ∧ i ≤ 3 ∧ ii = .int .i64 (i : Int) ∧ vv = .int .i64 (V : Int) ∧ wr = w ∧ Hid (contV v0 r (i - 1) = V ∧ contOk r (i - 1) = true)) (fun _ ii _ => 3 - (intOf ii).toNat)
  case atStart => exact ⟨1, v0, by omega, by omega, rfl, by rw [vi], rfl, H00⟩
  case round =>
   obtain ⟨i, V, hi1, hi2, rfl, rfl, rfl, HV⟩ := hrel
   have Vb : V ≤ 8388608 := by have := u_ Hv (i - 1) (by omega); rw [HV.1] at this; exact this
   have Vbi : (V : Int) ≤ 8388608 := by omega
   by_cases hlt : i < 3
   ·obtain ⟨j, hj⟩ := exq (s + i)
    have cj := u_ Hcell j (by omega)
    obtain ⟨hrl, hrg⟩ := u_ Hrd i hi1 (by omega)
    rw [hj] at hrg
    have HS := h_ (contV_succ v0 hrl)
    have HO := h_ (contOk_succ hrl)
    rw [hrg, show i - 1 + 1 = i by omega, HV.1] at HS
    rw [hrg, show i - 1 + 1 = i by omega, HV.2] at HO
    have hqb := (b.getD j 0).toNat_lt
    obtain ⟨q, hq⟩ := exq ((b.getD j 0).toNat)
    rw [hq] at cj HS HO hqb
    have hji : (s : Int) + (i : Int) = (j : Int) := by omega
    have j0 : (0 : Int) ≤ (j : Int) := by omega
    have j1 : (j : Int) < (N : Int) := by omega
    obtain ⟨l1, l1n⟩ := ltVL i 3 3
    have ib : (i : Int) ≤ 4 := by omega
    clear hq hrl hrg hj HV
    by_cases hq1 : q < 128
    ·obtain ⟨f1, f1n⟩ := ltVL q 128 128
     have HR3 : Hid (R = 0) := by show _ = _; rw [u_ HR2, if_pos (contOk_mono (k := i) (by rw [u_ HO]; simp; omega) (by omega))]
     clear HR2 HS HO Hv Hcell Hrd hq1 H00
     go_wp2
     go_ret
     exact ⟨by rw [u_ HR3]; rfl, rfl⟩
    obtain ⟨f1, f1n⟩ := ltVLf q 128 128
    by_cases hq2 : 192 ≤ q
    ·obtain ⟨f2, f2n⟩ := leLV 192 192 q
     have HR3 : Hid (R = 0) := by show _ = _; rw [u_ HR2, if_pos (contOk_mono (k := i) (by rw [u_ HO]; simp; omega) (by omega))]
     clear HR2 HS HO Hv Hcell Hrd hq1 hq2 H00
     go_wp2
     go_ret
     exact ⟨by rw [u_ HR3]; rfl, rfl⟩
    obtain ⟨f2, f2n⟩ := leLVf 192 192 q
    obtain ⟨m, hm⟩ := exq (q % 64)
    have mi : (q : Int) % 64 = (m : Int) := by omega
    have mb : (m : Int) ≤ 63 := by omega
    have HV2 : Hid (contV v0 r (i + 1 - 1) = 64 * V + m ∧ contOk r (i + 1 - 1) = true) := by
     rw [Nat.add_sub_cancel]
     exact ⟨by rw [u_ HS, hm], by rw [u_ HO]; simp; omega⟩
    clear HR2 HS HO Hv Hcell Hrd hq1 hq2 hm H00
    go_wp2
    go_roundw
    case rel =>
     first
      | exact ⟨i + 1, 64 * V + m, by omega, by omega, by go_num, by go_num, trivial, HV2⟩
      | exact ⟨i + 1, 64 * V + m, by omega, by omega, by go_num, by go_num, rfl, HV2⟩
      | ((repeat apply Exists.intro); exact ⟨⟨i + 1, 64 * V + m, by omega, by omega, by go_num, by go_num, trivial, HV2⟩, rfl⟩)
      | ((repeat apply Exists.intro); exact ⟨⟨i + 1, 64 * V + m, by omega, by omega, by go_num, by go_num, rfl, HV2⟩, rfl⟩)
    case measure => simp [intOf]; omega
   ·obtain rfl : i = 3 := by omega
    have HR3 : Hid (R = if V < 2048 ∨ 1114111 < V ∨ (55296 ≤ V ∧ V < 57344) then 0 else 3) := by
     show _ = _
     rw [u_ HR2, show (2 : Nat) = 3 - 1 by omega, HV.1, HV.2, if_neg (by simp)]
    clear HR2 HV Hv Hcell Hrd H00
    rcases (by omega : (V < 2048) ∨ (2048 ≤ V ∧ 1114111 < V) ∨ (2048 ≤ V ∧ V ≤ 1114111 ∧ V < 55296) ∨ (2048 ≤ V ∧ V ≤ 1114111 ∧ 55296 ≤ V ∧ V < 57344) ∨ (2048 ≤ V ∧ V ≤ 1114111 ∧ 57344 ≤ V)) with hv | hv | hv | hv | hv
    ·obtain ⟨g0, g0n⟩ := ltVL V 2048 2048
     have HR4 : Hid (R = 0) := by show _ = _; rw [u_ HR3, if_pos (by omega)]
     clear HR3 hv
     go_wp2
     go_ret
     exact ⟨by rw [u_ HR4]; rfl, rfl⟩
    ·obtain ⟨g0, g0n⟩ := ltVLf V 2048 2048
     obtain ⟨g1, g1n⟩ := ltLV 1114111 1114111 V
     have HR4 : Hid (R = 0) := by show _ = _; rw [u_ HR3, if_pos (by omega)]
     clear HR3 hv
     go_wp2
     go_ret
     exact ⟨by rw [u_ HR4]; rfl, rfl⟩
    ·obtain ⟨g0, g0n⟩ := ltVLf V 2048 2048
     obtain ⟨g1, g1n⟩ := ltLVf 1114111 1114111 V
     obtain ⟨g2, g2n⟩ := leLVf 55296 55296 V
     have HR4 : Hid (R = 3) := by show _ = _; rw [u_ HR3, if_neg (by omega)]
     clear HR3 hv
     go_wp2
     go_ret
     exact ⟨by rw [u_ HR4]; rfl, rfl⟩
    ·obtain ⟨g0, g0n⟩ := ltVLf V 2048 2048
     obtain ⟨g1, g1n⟩ := ltLVf 1114111 1114111 V
     obtain ⟨g2, g2n⟩ := leLV 55296 55296 V
     obtain ⟨g3, g3n⟩ := ltVL V 57344 57344
     have HR4 : Hid (R = 0) := by show _ = _; rw [u_ HR3, if_pos (by omega)]
     clear HR3 hv
     go_wp2
     go_ret
     exact ⟨by rw [u_ HR4]; rfl, rfl⟩
    ·obtain ⟨g0, g0n⟩ := ltVLf V 2048 2048
     obtain ⟨g1, g1n⟩ := ltLVf 1114111 1114111 V
     obtain ⟨g2, g2n⟩ := leLV 55296 55296 V
     obtain ⟨g3, g3n⟩ := ltVLf V 57344 57344
     have HR4 : Hid (R = 3) := by show _ = _; rw [u_ HR3, if_neg (by omega)]
     clear HR3 hv
     go_wp2
     go_ret
     exact ⟨by rw [u_ HR4]; rfl, rfl⟩
 ·obtain ⟨a1, a1n⟩ := leLVf 240 240 p
  obtain ⟨a2, a2n⟩ := ltVL p 248 248
  obtain ⟨b1, b1n⟩ := leLVf 224 224 p
  obtain ⟨b2, b2n⟩ := ltVL p 240 240
  obtain ⟨c1, c1n⟩ := leLV 192 192 p
  obtain ⟨c2, c2n⟩ := ltVL p 224 224
  obtain ⟨d1, d1n⟩ := leLV 128 128 p
  obtain ⟨v0, hv0⟩ := exq (p % 32)
  have vi : (p : Int) % 32 = (v0 : Int) := by omega
  have hv31 : v0 ≤ 31 := by omega
  have HR : Hid (R = contP 2 128 v0 r) := by show _ = _; rw [u_ Hrune, if_neg (by omega), if_neg (by omega), if_pos (by omega), hv0]
  have sb : (s : Int) ≤ 1073741824 := by omega
  clear Hrune hv0
  by_cases hfit : s + 2 ≤ N
  case neg =>
   have e1 : decide ((N : Int) < (s : Int) + 2) = true := by simp; omega
   have HR2 : Hid (R = 0) := by show _ = _; rw [u_ HR, contP_eq, if_pos (by rw [u_ Hrl]; omega)]
   clear HR Hcell Hrd Hrl HNb hr hfit
   go_enter Tryz.func111, Tryz.ntmps111
   go_wp2
   go_ret
   exact ⟨by rw [u_ HR2]; rfl, rfl⟩
  have e1 : decide ((N : Int) < (s : Int) + 2) = false := by simp; omega
  have HR2 : Hid (R = if contOk r 1 = false then 0 else if contV v0 r 1 < 128 ∨ 1114111 < contV v0 r 1 ∨ (55296 ≤ contV v0 r 1 ∧ contV v0 r 1 < 57344) then 0 else 2) := by show _ = _; rw [u_ HR, contP_eq, if_neg (by rw [u_ Hrl]; omega)]
  have Hv : Hid (∀ k, k ≤ 3 → contV v0 r k ≤ 8388608) := fun k hk => contV_small hv31 r hk
  have H00 : Hid (contV v0 r 0 = v0 ∧ contOk r 0 = true) := ⟨rfl, rfl⟩
  clear HR Hrl HNb hr
  go_enter Tryz.func111, Tryz.ntmps111
  go_wp2
  go_loopw [8, 9] (fun vv ii wr => ∃ (i V : Nat), 1 ≤ i ∧ i ≤ 2 ∧ ii = .int .i64 (i : Int) ∧ vv = .int .i64 (V : Int) ∧ wr = w ∧ Hid (contV v0 r (i - 1) = V ∧ contOk r (i - 1) = true)) (fun _ ii _ => 2 - (intOf ii).toNat)
  case atStart => exact ⟨1, v0, by omega, by omega, rfl, by rw [vi], rfl, H00⟩
  case round =>
   obtain ⟨i, V, hi1, hi2, rfl, rfl, rfl, HV⟩ := hrel
   have Vb : V ≤ 8388608 := by have := u_ Hv (i - 1) (by omega); rw [HV.1] at this; exact this
   have Vbi : (V : Int) ≤ 8388608 := by omega
   by_cases hlt : i < 2
   ·obtain ⟨j, hj⟩ := exq (s + i)
    have cj := u_ Hcell j (by omega)
    obtain ⟨hrl, hrg⟩ := u_ Hrd i hi1 (by omega)
    rw [hj] at hrg
    have HS := h_ (contV_succ v0 hrl)
    have HO := h_ (contOk_succ hrl)
    rw [hrg, show i - 1 + 1 = i by omega, HV.1] at HS
    rw [hrg, show i - 1 + 1 = i by omega, HV.2] at HO
    have hqb := (b.getD j 0).toNat_lt
    obtain ⟨q, hq⟩ := exq ((b.getD j 0).toNat)
    rw [hq] at cj HS HO hqb
    have hji : (s : Int) + (i : Int) = (j : Int) := by omega
    have j0 : (0 : Int) ≤ (j : Int) := by omega
    have j1 : (j : Int) < (N : Int) := by omega
    obtain ⟨l1, l1n⟩ := ltVL i 2 2
    have ib : (i : Int) ≤ 4 := by omega
    clear hq hrl hrg hj HV
    by_cases hq1 : q < 128
    ·obtain ⟨f1, f1n⟩ := ltVL q 128 128
     have HR3 : Hid (R = 0) := by show _ = _; rw [u_ HR2, if_pos (contOk_mono (k := i) (by rw [u_ HO]; simp; omega) (by omega))]
     clear HR2 HS HO Hv Hcell Hrd hq1 H00
     go_wp2
     go_ret
     exact ⟨by rw [u_ HR3]; rfl, rfl⟩
    obtain ⟨f1, f1n⟩ := ltVLf q 128 128
    by_cases hq2 : 192 ≤ q
    ·obtain ⟨f2, f2n⟩ := leLV 192 192 q
     have HR3 : Hid (R = 0) := by show _ = _; rw [u_ HR2, if_pos (contOk_mono (k := i) (by rw [u_ HO]; simp; omega) (by omega))]
     clear HR2 HS HO Hv Hcell Hrd hq1 hq2 H00
     go_wp2
     go_ret
     exact ⟨by rw [u_ HR3]; rfl, rfl⟩
    obtain ⟨f2, f2n⟩ := leLVf 192 192 q
    obtain ⟨m, hm⟩ := exq (q % 64)
    have mi : (q : Int) % 64 = (m : Int) := by omega
    have mb : (m : Int) ≤ 63 := by omega
    have HV2 : Hid (contV v0 r (i + 1 - 1) = 64 * V + m ∧ contOk r (i + 1 - 1) = true) := by
     rw [Nat.add_sub_cancel]
     exact ⟨by rw [u_ HS, hm], by rw [u_ HO]; simp; omega⟩
    clear HR2 HS HO Hv Hcell Hrd hq1 hq2 hm H00
    go_wp2
    go_roundw
    case rel =>
     first
      | exact ⟨i + 1, 64 * V + m, by omega, by omega, by go_num, by go_num, trivial, HV2⟩
      | exact ⟨i + 1, 64 * V + m, by omega, by omega, by go_num, by go_num, rfl, HV2⟩
      | ((repeat apply Exists.intro); exact ⟨⟨i + 1, 64 * V + m, by omega, by omega, by go_num, by go_num, trivial, HV2⟩, rfl⟩)
      | ((repeat apply Exists.intro); exact ⟨⟨i + 1, 64 * V + m, by omega, by omega, by go_num, by go_num, rfl, HV2⟩, rfl⟩)
    case measure => simp [intOf]; omega
   ·obtain rfl : i = 2 := by omega
    have HR3 : Hid (R = if V < 128 ∨ 1114111 < V ∨ (55296 ≤ V ∧ V < 57344) then 0 else 2) := by
     show _ = _
     rw [u_ HR2, show (1 : Nat) = 2 - 1 by omega, HV.1, HV.2, if_neg (by simp)]
    clear HR2 HV Hv Hcell Hrd H00
    rcases (by omega : (V < 128) ∨ (128 ≤ V ∧ 1114111 < V) ∨ (128 ≤ V ∧ V ≤ 1114111 ∧ V < 55296) ∨ (128 ≤ V ∧ V ≤ 1114111 ∧ 55296 ≤ V ∧ V < 57344) ∨ (128 ≤ V ∧ V ≤ 1114111 ∧ 57344 ≤ V)) with hv | hv | hv | hv | hv
    ·obtain ⟨g0, g0n⟩ := ltVL V 128 128
     have HR4 : Hid (R = 0) := by show _ = _; rw [u_ HR3, if_pos (by omega)]
     clear HR3 hv
     go_wp2
     go_ret
     exact ⟨by rw [u_ HR4]; rfl, rfl⟩
    ·obtain ⟨g0, g0n⟩ := ltVLf V 128 128
     obtain ⟨g1, g1n⟩ := ltLV 1114111 1114111 V
     have HR4 : Hid (R = 0) := by show _ = _; rw [u_ HR3, if_pos (by omega)]
     clear HR3 hv
     go_wp2
     go_ret
     exact ⟨by rw [u_ HR4]; rfl, rfl⟩
    ·obtain ⟨g0, g0n⟩ := ltVLf V 128 128
     obtain ⟨g1, g1n⟩ := ltLVf 1114111 1114111 V
     obtain ⟨g2, g2n⟩ := leLVf 55296 55296 V
     have HR4 : Hid (R = 2) := by show _ = _; rw [u_ HR3, if_neg (by omega)]
     clear HR3 hv
     go_wp2
     go_ret
     exact ⟨by rw [u_ HR4]; rfl, rfl⟩
    ·obtain ⟨g0, g0n⟩ := ltVLf V 128 128
     obtain ⟨g1, g1n⟩ := ltLVf 1114111 1114111 V
     obtain ⟨g2, g2n⟩ := leLV 55296 55296 V
     obtain ⟨g3, g3n⟩ := ltVL V 57344 57344
     have HR4 : Hid (R = 0) := by show _ = _; rw [u_ HR3, if_pos (by omega)]
     clear HR3 hv
     go_wp2
     go_ret
     exact ⟨by rw [u_ HR4]; rfl, rfl⟩
    ·obtain ⟨g0, g0n⟩ := ltVLf V 128 128
     obtain ⟨g1, g1n⟩ := ltLVf 1114111 1114111 V
     obtain ⟨g2, g2n⟩ := leLV 55296 55296 V
     obtain ⟨g3, g3n⟩ := ltVLf V 57344 57344
     have HR4 : Hid (R = 2) := by show _ = _; rw [u_ HR3, if_neg (by omega)]
     clear HR3 hv
     go_wp2
     go_ret
     exact ⟨by rw [u_ HR4]; rfl, rfl⟩
 ·obtain ⟨a1, a1n⟩ := leLVf 240 240 p
  obtain ⟨a2, a2n⟩ := ltVL p 248 248
  obtain ⟨b1, b1n⟩ := leLVf 224 224 p
  obtain ⟨b2, b2n⟩ := ltVL p 240 240
  obtain ⟨c1, c1n⟩ := leLVf 192 192 p
  obtain ⟨c2, c2n⟩ := ltVL p 224 224
  obtain ⟨d1, d1n⟩ := leLV 128 128 p
  have HR : Hid (R = 0) := by show _ = _; rw [u_ Hrune, if_neg (by omega), if_neg (by omega), if_neg (by omega), if_pos (by omega)]
  clear Hrune Hcell Hrd Hrl HNb hr
  go_enter Tryz.func111, Tryz.ntmps111
  go_wp2
  go_ret
  exact ⟨by rw [u_ HR]; rfl, rfl⟩
 ·obtain ⟨a1, a1n⟩ := leLVf 240 240 p
  obtain ⟨a2, a2n⟩ := ltVL p 248 248
  obtain ⟨b1, b1n⟩ := leLVf 224 224 p
  obtain ⟨b2, b2n⟩ := ltVL p 240 240
  obtain ⟨c1, c1n⟩ := leLVf 192 192 p
  obtain ⟨c2, c2n⟩ := ltVL p 224 224
  obtain ⟨d1, d1n⟩ := leLVf 128 128 p
  have HR : Hid (R = 1) := by show _ = _; rw [u_ Hrune, if_neg (by omega), if_neg (by omega), if_neg (by omega), if_neg (by omega)]
  have e1 : decide ((N : Int) < (s : Int) + 1) = false := by simp; omega
  have e2 : decide ((p : Int) < 0) = false := by simp
  obtain ⟨e3, e3n⟩ := ltLVf 1114111 1114111 p
  obtain ⟨e4, e4n⟩ := leLVf 55296 55296 p
  have sb : (s : Int) ≤ 1073741824 := by omega
  clear Hrune Hcell Hrd Hrl HNb hr
  go_enter Tryz.func111, Tryz.ntmps111
  go_wp2
  go_loopw [8, 9] (fun vv ii wr => vv = .int .i64 (p : Int) ∧ ii = .int .i64 1 ∧ wr = w) (fun _ _ _ => 0)
  case atStart => exact ⟨rfl, rfl, rfl⟩
  case round =>
   obtain ⟨rfl, rfl, rfl⟩ := hrel
   go_wp2
   go_ret
   exact ⟨by rw [u_ HR]; rfl, rfl⟩
theorem rune_le (l : Bs) : runeP l ≤ l.length := by
 cases l with
 | nil => simp [runeP]
 | cons c r =>
  have key : ∀ n low v, n ≤ 4 → contP n low v r ≤ r.length + 1 := fun n low v _ => by
   rw [contP_eq]
   split
   ·omega
   split
   ·omega
   split <;> omega
  unfold runeP
  simp only [List.length_cons]
  split
  ·exact key 4 _ _ (by omega)
  split
  ·exact key 3 _ _ (by omega)
  split
  ·exact key 2 _ _ (by omega)
  split <;> omega
theorem utf8_fuel : ∀ (k m : Nat) (l : Bs), l.length ≤ k → l.length ≤ m → utf8P k l = utf8P m l
 | 0, m, l, hk, hm => by
  have e : l = [] := List.eq_nil_of_length_eq_zero (by omega)
  subst e
  cases m <;> rfl
 | k + 1, 0, l, hk, hm => by
  have e : l = [] := List.eq_nil_of_length_eq_zero (by omega)
  subst e
  rfl
 | k + 1, m + 1, l, hk, hm => by
  cases l with
  | nil => rfl
  | cons c r =>
   unfold utf8P
   split
   ·rfl
   ·rename_i h0
    have hd : ((c :: r).drop (runeP (c :: r))).length ≤ r.length := by rw [List.length_drop, List.length_cons]; omega
    simp only [List.length_cons] at hk hm
    exact utf8_fuel k m _ (by omega) (by omega)
theorem utf8P_cons (k : Nat) (c : UInt8) (r : Bs) : utf8P (k + 1) (c :: r) = if runeP (c :: r) = 0 then false else utf8P k ((c :: r).drop (runeP (c :: r))) := rfl
theorem utf8_step {b : Bs} {s : Nat} (hs : s < b.length) : utf8P b.length (b.drop s) = if runeP (b.drop s) = 0 then false else utf8P b.length (b.drop (s + runeP (b.drop s))) := by
 obtain ⟨k, hk⟩ : ∃ k, b.length = k + 1 := ⟨b.length - 1, by omega⟩
 have e : utf8P b.length (b.drop s) = utf8P (k + 1) (b.drop s) := by rw [hk]
 rw [e]
 have hne : b.drop s ≠ [] := by simp; omega
 obtain ⟨c, r, hcr⟩ : ∃ c r, b.drop s = c :: r := by cases h : b.drop s with | nil => exact absurd h hne | cons c r => exact ⟨c, r, rfl⟩
 have hl : (b.drop s).length = b.length - s := List.length_drop
 rw [hcr] at hl ⊢
 rw [utf8P_cons]
 split
 ·rfl
 ·rename_i h0
  rw [← List.drop_drop, hcr]
  apply utf8_fuel
  ·rw [List.length_drop]; simp only [List.length_cons] at hl ⊢; omega
  ·rw [List.length_drop]; simp only [List.length_cons] at hl ⊢; omega
theorem utf8s_any (w : World) (x : Value) (b : Bs) (hx : BytesAt w x b) (hl : b.length ≤ 1073741824) :
  Calls Tryz.prog 90 #[x] w fun e w' => e = .returned (.bool (utf8P b.length b)) ∧ w' = w := by
 have HX := h_ hx
 obtain ⟨sp, c, rfl, _, _, _⟩ := bytes_open hx
 have Hst : Hid (∀ s, s < b.length → utf8P b.length (b.drop s) = if runeP (b.drop s) = 0 then false else utf8P b.length (b.drop (s + runeP (b.drop s)))) := fun s hs => utf8_step hs
 have Hu : Hid (∀ s, s < b.length → Calls Tryz.prog 111 #[.slice sp b.length c, .int .i64 (s : Int)] w fun e w' => e = .returned (.int .i64 (runeP (b.drop s) : Int)) ∧ w' = w) := fun s hs => utf8_any w _ b (u_ HX) s hs hl
 have Hle : Hid (∀ s, s < b.length → s + runeP (b.drop s) ≤ b.length) := fun s hs => by have := rune_le (b.drop s); rw [List.length_drop] at this; omega
 have He : Hid (utf8P b.length (b.drop b.length) = true) := by show _ = _; rw [List.drop_length]; cases b.length <;> rfl
 have H0 : Hid (utf8P b.length (b.drop 0) = utf8P b.length b) := by show _ = _; rw [List.drop_zero]
 obtain ⟨U, hU⟩ := exq (utf8P b.length b)
 rw [hU] at H0 ⊢
 obtain ⟨N, hN⟩ := exq b.length
 simp only [hN] at hl Hst Hu Hle He H0 ⊢
 clear hU hN hx HX
 go_enter Tryz.func90, Tryz.ntmps90
 go_wp2
 go_loopw [3] (fun ii wr => ∃ s : Nat, s ≤ N ∧ ii = .int .i64 (s : Int) ∧ wr = w ∧ Hid (utf8P N (b.drop s) = U)) (fun ii _ => N - (intOf ii).toNat)
 case atStart => exact ⟨0, by omega, rfl, rfl, H0⟩
 case round =>
  obtain ⟨s, hs, rfl, rfl, HU⟩ := hrel
  by_cases hlt : s < N
  ·obtain ⟨d1, d1n⟩ := ltVV s N
   have Hc := h_ (u_ Hu s hlt)
   have Hs2 := h_ (u_ Hst s hlt)
   have hle := u_ Hle s hlt
   obtain ⟨n, hn⟩ := exq (runeP (b.drop s))
   rw [hn] at Hc Hs2 hle
   clear hn Hst Hu Hle
   go_wp2_with fail
   refine Hc.mono ?_
   rintro e w1 ⟨rfl, rfl⟩
   by_cases hn0 : n = 0
   ·subst hn0
    have HU2 : Hid (U = false) := by show _ = _; rw [← u_ HU, u_ Hs2, if_pos rfl]
    clear HU Hs2
    go_wp2
    go_ret
    exact ⟨by rw [u_ HU2]; rfl, rfl⟩
   ·have e0 : ((n : Int) == 0) = false := by simp; omega
    have HU2 : Hid (utf8P N (b.drop (s + n)) = U) := by show _ = _; rw [← u_ HU, u_ Hs2, if_neg hn0]
    have nb : (n : Int) ≤ 1073741824 := by omega
    have sb : (s : Int) ≤ 1073741824 := by omega
    clear HU Hs2
    go_wp2
    go_roundw
    case rel =>
     first
      | exact ⟨s + n, by omega, by go_num, trivial, HU2⟩
      | exact ⟨s + n, by omega, by go_num, rfl, HU2⟩
      | ((repeat apply Exists.intro); exact ⟨⟨s + n, by omega, by go_num, trivial, HU2⟩, rfl⟩)
      | ((repeat apply Exists.intro); exact ⟨⟨s + n, by omega, by go_num, rfl, HU2⟩, rfl⟩)
    case measure => simp [intOf]; omega
  ·obtain rfl : s = N := by omega
   have d1 : decide ((s : Int) < (s : Int)) = false := by simp
   have HU2 : Hid (U = true) := by show _ = _; rw [← u_ HU, u_ He]
   clear HU
   go_wp2
   go_ret
   exact ⟨by rw [u_ HU2]; rfl, rfl⟩
theorem days_any (y m : Nat) (hy : y ≤ 100000) (hm : m ≤ 100000) (w : World) : Calls Tryz.prog 54 #[.int .i64 (y : Int), .int .i64 (m : Int)] w fun e w' => e = .returned (.int .i64 (daysP y m : Int)) ∧ w' = w := by
 by_cases h2 : m = 2
 ·subst h2
  obtain ⟨a, ha⟩ := exq (y % 4)
  obtain ⟨b, hb⟩ := exq (y % 100)
  obtain ⟨c, hc⟩ := exq (y % 400)
  have Hd : Hid (daysP y 2 = if (a = 0 ∧ ¬ b = 0) ∨ c = 0 then 29 else 28) := by show _ = _; unfold daysP; rw [if_pos rfl, ha, hb, hc]
  have r4 : (y : Int) % 4 = (a : Int) := by omega
  have r100 : (y : Int) % 100 = (b : Int) := by omega
  have r400 : (y : Int) % 400 = (c : Int) := by omega
  clear ha hb hc hm
  rcases Nat.eq_zero_or_pos a with ha | ha <;> rcases Nat.eq_zero_or_pos b with hb | hb <;> rcases Nat.eq_zero_or_pos c with hc | hc
  ·have Hd2 : Hid (daysP y 2 = 29) := by show _ = _; rw [u_ Hd, if_pos (by omega)]
   clear Hd
   have d1 : ((a : Int) == 0) = true := by simp; omega
   have d2 : ((b : Int) == 0) = true := by simp; omega
   have d3 : ((c : Int) == 0) = true := by simp; omega
   go_enter Tryz.func54, Tryz.ntmps54
   go_wp2 <;> (go_ret; exact ⟨by rw [u_ Hd2]; rfl, rfl⟩)
  ·have Hd2 : Hid (daysP y 2 = 28) := by show _ = _; rw [u_ Hd, if_neg (by omega)]
   clear Hd
   have d1 : ((a : Int) == 0) = true := by simp; omega
   have d2 : ((b : Int) == 0) = true := by simp; omega
   have d3 : ((c : Int) == 0) = false := by simp; omega
   go_enter Tryz.func54, Tryz.ntmps54
   go_wp2 <;> (go_ret; exact ⟨by rw [u_ Hd2]; rfl, rfl⟩)
  ·have Hd2 : Hid (daysP y 2 = 29) := by show _ = _; rw [u_ Hd, if_pos (by omega)]
   clear Hd
   have d1 : ((a : Int) == 0) = true := by simp; omega
   have d2 : ((b : Int) == 0) = false := by simp; omega
   have d3 : ((c : Int) == 0) = true := by simp; omega
   go_enter Tryz.func54, Tryz.ntmps54
   go_wp2 <;> (go_ret; exact ⟨by rw [u_ Hd2]; rfl, rfl⟩)
  ·have Hd2 : Hid (daysP y 2 = 29) := by show _ = _; rw [u_ Hd, if_pos (by omega)]
   clear Hd
   have d1 : ((a : Int) == 0) = true := by simp; omega
   have d2 : ((b : Int) == 0) = false := by simp; omega
   have d3 : ((c : Int) == 0) = false := by simp; omega
   go_enter Tryz.func54, Tryz.ntmps54
   go_wp2 <;> (go_ret; exact ⟨by rw [u_ Hd2]; rfl, rfl⟩)
  ·have Hd2 : Hid (daysP y 2 = 29) := by show _ = _; rw [u_ Hd, if_pos (by omega)]
   clear Hd
   have d1 : ((a : Int) == 0) = false := by simp; omega
   have d2 : ((b : Int) == 0) = true := by simp; omega
   have d3 : ((c : Int) == 0) = true := by simp; omega
   go_enter Tryz.func54, Tryz.ntmps54
   go_wp2 <;> (go_ret; exact ⟨by rw [u_ Hd2]; rfl, rfl⟩)
  ·have Hd2 : Hid (daysP y 2 = 28) := by show _ = _; rw [u_ Hd, if_neg (by omega)]
   clear Hd
   have d1 : ((a : Int) == 0) = false := by simp; omega
   have d2 : ((b : Int) == 0) = true := by simp; omega
   have d3 : ((c : Int) == 0) = false := by simp; omega
   go_enter Tryz.func54, Tryz.ntmps54
   go_wp2 <;> (go_ret; exact ⟨by rw [u_ Hd2]; rfl, rfl⟩)
  ·have Hd2 : Hid (daysP y 2 = 29) := by show _ = _; rw [u_ Hd, if_pos (by omega)]
   clear Hd
   have d1 : ((a : Int) == 0) = false := by simp; omega
   have d2 : ((b : Int) == 0) = false := by simp; omega
   have d3 : ((c : Int) == 0) = true := by simp; omega
   go_enter Tryz.func54, Tryz.ntmps54
   go_wp2 <;> (go_ret; exact ⟨by rw [u_ Hd2]; rfl, rfl⟩)
  ·have Hd2 : Hid (daysP y 2 = 28) := by show _ = _; rw [u_ Hd, if_neg (by omega)]
   clear Hd
   have d1 : ((a : Int) == 0) = false := by simp; omega
   have d2 : ((b : Int) == 0) = false := by simp; omega
   have d3 : ((c : Int) == 0) = false := by simp; omega
   go_enter Tryz.func54, Tryz.ntmps54
   go_wp2 <;> (go_ret; exact ⟨by rw [u_ Hd2]; rfl, rfl⟩)
 ·have e2 : ((m : Int) == 2) = false := by simp; omega
  by_cases h4 : m = 4 ∨ m = 6 ∨ m = 9 ∨ m = 11
  ·rcases h4 with rfl | rfl | rfl | rfl
   all_goals
    go_enter Tryz.func54, Tryz.ntmps54
    go_wp2
    go_ret
    exact ⟨rfl, rfl⟩
  ·have Hd2 : Hid (daysP y m = 31) := by show _ = _; unfold daysP; rw [if_neg h2, if_neg h4]
   have e4 : ((m : Int) == 4) = false := by simp; omega
   have e6 : ((m : Int) == 6) = false := by simp; omega
   have e9 : ((m : Int) == 9) = false := by simp; omega
   have e11 : ((m : Int) == 11) = false := by simp; omega
   clear h2 h4 hm
   go_enter Tryz.func54, Tryz.ntmps54
   go_wp2
   go_ret
   exact ⟨by rw [u_ Hd2]; rfl, rfl⟩
theorem print_in {c : UInt8} (h : (97 ≤ c.toNat ∧ c.toNat ≤ 122) ∨ (65 ≤ c.toNat ∧ c.toNat ≤ 90) ∨ (48 ≤ c.toNat ∧ c.toNat ≤ 57)) : printP c = true := by
 unfold printP isDig
 rcases h with ⟨h1, h2⟩ | ⟨h1, h2⟩ | ⟨h1, h2⟩ <;> simp [h1, h2]
theorem print_out {c : UInt8} (h1 : ¬ (97 ≤ c.toNat ∧ c.toNat ≤ 122)) (h2 : ¬ (65 ≤ c.toNat ∧ c.toNat ≤ 90)) (h3 : ¬ (48 ≤ c.toNat ∧ c.toNat ≤ 57)) : printP c = signs.contains c := by
 unfold printP isDig
 rw [← Bool.decide_and, ← Bool.decide_and, ← Bool.decide_and, decide_eq_false h1, decide_eq_false h2, decide_eq_false h3]
 rfl
def noSign (c : UInt8) (k : Nat) : Prop := ∀ j, j < k → (signs.getD j 0).toNat ≠ c.toNat
theorem noSign_end {c : UInt8} (h : noSign c 12) : signs.contains c = false := by
 rw [List.contains_eq_any_beq, List.any_eq_false]
 intro x hx e
 have e : c = x := by simpa using e
 subst e
 obtain ⟨j, hj, rfl⟩ := List.mem_iff_getElem.1 hx
 exact h j hj (by rw [List.getD_eq_getElem?_getD, List.getElem?_eq_getElem hj]; rfl)
theorem sign_hit {c : UInt8} {k : Nat} (hk : k < 12) (h : (signs.getD k 0).toNat = c.toNat) : signs.contains c = true := by
 have e : signs.getD k 0 = c := UInt8.toNat_inj.1 h
 rw [← e, List.getD_eq_getElem?_getD, List.getElem?_eq_getElem (show k < signs.length from hk)]
 exact List.contains_iff_mem.2 (List.getElem_mem _)
theorem sign_at (k : Nat) (hk : k < 12) (w : World) : (Instr.index 9 (.string { data := #[32, 39, 40, 41, 43, 44, 45, 46, 47, 58, 61, 63] }) (.int .i64 (k : Int))).run Tryz.prog w = .ok (.int .u8 ((signs.getD k 0).toNat : Int)) w := by
 rcases (by omega : k = 0 ∨ k = 1 ∨ k = 2 ∨ k = 3 ∨ k = 4 ∨ k = 5 ∨ k = 6 ∨ k = 7 ∨ k = 8 ∨ k = 9 ∨ k = 10 ∨ k = 11) with rfl | rfl | rfl | rfl | rfl | rfl | rfl | rfl | rfl | rfl | rfl | rfl <;> kernel_rfl
theorem print_any (c : UInt8) (w : World) : Calls Tryz.prog 91 #[bv c] w fun e w' => e = .returned (.bool (printP c)) ∧ w' = w := by
 have Hp := h_ (print_in (c := c))
 have Ho := h_ (print_out (c := c))
 have Hs : Hid (∀ k, k < 12 → (signs.getD k 0).toNat = c.toNat → signs.contains c = true) := fun k hk h => sign_hit hk h
 have He := h_ (noSign_end (c := c))
 have Hn : Hid (∀ k, k ≤ 12 → noSign c k → (signs.getD k 0).toNat ≠ c.toNat → noSign c (k + 1)) := fun k _ h hne j hj => by
  rcases Nat.lt_succ_iff_lt_or_eq.1 hj with h1 | rfl
  ·exact h j h1
  ·exact hne
 have H0 : Hid (noSign c 0) := fun j hj => by omega
 unfold bv
 have hpb := c.toNat_lt
 obtain ⟨p, hp⟩ := exq c.toNat
 rw [hp] at Hp Ho Hs Hn hpb ⊢
 clear hp
 rcases (by omega : (p < 48) ∨ (48 ≤ p ∧ p ≤ 57) ∨ (58 ≤ p ∧ p ≤ 64) ∨ (65 ≤ p ∧ p ≤ 90) ∨ (91 ≤ p ∧ p ≤ 96) ∨ (97 ≤ p ∧ p ≤ 122) ∨ (123 ≤ p)) with hr | hr | hr | hr | hr | hr | hr
 ·obtain ⟨a1, a1n⟩ := leLVf 97 97 p
  obtain ⟨a2, a2n⟩ := leVL p 122 122
  obtain ⟨b1, b1n⟩ := leLVf 65 65 p
  obtain ⟨b2, b2n⟩ := leVL p 90 90
  obtain ⟨d1, d1n⟩ := leLVf 48 48 p
  obtain ⟨d2, d2n⟩ := leVL p 57 57
  have Hy := h_ (u_ Ho (by omega) (by omega) (by omega))
  clear Hp Ho
  go_enter Tryz.func91, Tryz.ntmps91
  go_wp2
  go_loopw [4] (fun i wr => ∃ k : Nat, k ≤ 12 ∧ i = .int .i64 k ∧ wr = w ∧ Hid (noSign c k)) (fun i _ => 12 - (intOf i).toNat)
  case atStart => exact ⟨0, by omega, rfl, rfl, H0⟩
  case round =>
   obtain ⟨k, hk, rfl, rfl, HS⟩ := hrel
   by_cases hlt : k < 12
   ·have hix := fun w => sign_at k hlt w
    have Hs2 := h_ (u_ Hs k hlt)
    have Hn2 := h_ (u_ Hn k (by omega) (u_ HS))
    have hqb := (signs.getD k 0).toNat_lt
    obtain ⟨q, hq⟩ := exq ((signs.getD k 0).toNat)
    simp only [hq] at hix Hs2 Hn2 hqb
    obtain ⟨k1, k1n⟩ := ltVL k 12 12
    have kb : (k : Int) ≤ 12 := by omega
    clear hq Hs Hn He HS
    by_cases hc : q = p
    ·have e1 : ((q : Int) == (p : Int)) = true := by simp; omega
     have Hy2 : Hid (printP c = true) := by show _ = _; rw [u_ Hy]; exact u_ Hs2 hc
     clear Hs2 Hn2 Hy hc
     go_wp2
     go_ret
     exact ⟨by rw [u_ Hy2]; rfl, rfl⟩
    ·have e1 : ((q : Int) == (p : Int)) = false := by simp; omega
     have HS2 := h_ (u_ Hn2 hc)
     clear Hs2 Hn2 Hy hc
     go_wp2
     go_roundw
     case rel =>
      first
       | exact ⟨k + 1, by omega, by go_num, trivial, HS2⟩
       | exact ⟨k + 1, by omega, by go_num, rfl, HS2⟩
       | ((repeat apply Exists.intro); exact ⟨⟨k + 1, by omega, by go_num, trivial, HS2⟩, rfl⟩)
       | ((repeat apply Exists.intro); exact ⟨⟨k + 1, by omega, by go_num, rfl, HS2⟩, rfl⟩)
     case measure => simp [intOf]; omega
   ·obtain rfl : k = 12 := by omega
    have Hy2 : Hid (printP c = false) := by show _ = _; rw [u_ Hy]; exact u_ He (u_ HS)
    clear Hs Hn He HS Hy
    go_wp2
    go_ret
    exact ⟨by rw [u_ Hy2]; rfl, rfl⟩
 ·obtain ⟨a1, a1n⟩ := leLVf 97 97 p
  obtain ⟨a2, a2n⟩ := leVL p 122 122
  obtain ⟨b1, b1n⟩ := leLVf 65 65 p
  obtain ⟨b2, b2n⟩ := leVL p 90 90
  obtain ⟨d1, d1n⟩ := leLV 48 48 p
  obtain ⟨d2, d2n⟩ := leVL p 57 57
  have Hy := h_ (u_ Hp (by omega))
  clear Hp Ho Hs Hn He H0 hr hpb
  go_enter Tryz.func91, Tryz.ntmps91
  go_wp2
  go_ret
  exact ⟨by rw [u_ Hy]; rfl, rfl⟩
 ·obtain ⟨a1, a1n⟩ := leLVf 97 97 p
  obtain ⟨a2, a2n⟩ := leVL p 122 122
  obtain ⟨b1, b1n⟩ := leLVf 65 65 p
  obtain ⟨b2, b2n⟩ := leVL p 90 90
  obtain ⟨d1, d1n⟩ := leLV 48 48 p
  obtain ⟨d2, d2n⟩ := leVLf p 57 57
  have Hy := h_ (u_ Ho (by omega) (by omega) (by omega))
  clear Hp Ho
  go_enter Tryz.func91, Tryz.ntmps91
  go_wp2
  go_loopw [4] (fun i wr => ∃ k : Nat, k ≤ 12 ∧ i = .int .i64 k ∧ wr = w ∧ Hid (noSign c k)) (fun i _ => 12 - (intOf i).toNat)
  case atStart => exact ⟨0, by omega, rfl, rfl, H0⟩
  case round =>
   obtain ⟨k, hk, rfl, rfl, HS⟩ := hrel
   by_cases hlt : k < 12
   ·have hix := fun w => sign_at k hlt w
    have Hs2 := h_ (u_ Hs k hlt)
    have Hn2 := h_ (u_ Hn k (by omega) (u_ HS))
    have hqb := (signs.getD k 0).toNat_lt
    obtain ⟨q, hq⟩ := exq ((signs.getD k 0).toNat)
    simp only [hq] at hix Hs2 Hn2 hqb
    obtain ⟨k1, k1n⟩ := ltVL k 12 12
    have kb : (k : Int) ≤ 12 := by omega
    clear hq Hs Hn He HS
    by_cases hc : q = p
    ·have e1 : ((q : Int) == (p : Int)) = true := by simp; omega
     have Hy2 : Hid (printP c = true) := by show _ = _; rw [u_ Hy]; exact u_ Hs2 hc
     clear Hs2 Hn2 Hy hc
     go_wp2
     go_ret
     exact ⟨by rw [u_ Hy2]; rfl, rfl⟩
    ·have e1 : ((q : Int) == (p : Int)) = false := by simp; omega
     have HS2 := h_ (u_ Hn2 hc)
     clear Hs2 Hn2 Hy hc
     go_wp2
     go_roundw
     case rel =>
      first
       | exact ⟨k + 1, by omega, by go_num, trivial, HS2⟩
       | exact ⟨k + 1, by omega, by go_num, rfl, HS2⟩
       | ((repeat apply Exists.intro); exact ⟨⟨k + 1, by omega, by go_num, trivial, HS2⟩, rfl⟩)
       | ((repeat apply Exists.intro); exact ⟨⟨k + 1, by omega, by go_num, rfl, HS2⟩, rfl⟩)
     case measure => simp [intOf]; omega
   ·obtain rfl : k = 12 := by omega
    have Hy2 : Hid (printP c = false) := by show _ = _; rw [u_ Hy]; exact u_ He (u_ HS)
    clear Hs Hn He HS Hy
    go_wp2
    go_ret
    exact ⟨by rw [u_ Hy2]; rfl, rfl⟩
 ·obtain ⟨a1, a1n⟩ := leLVf 97 97 p
  obtain ⟨a2, a2n⟩ := leVL p 122 122
  obtain ⟨b1, b1n⟩ := leLV 65 65 p
  obtain ⟨b2, b2n⟩ := leVL p 90 90
  obtain ⟨d1, d1n⟩ := leLV 48 48 p
  obtain ⟨d2, d2n⟩ := leVLf p 57 57
  have Hy := h_ (u_ Hp (by omega))
  clear Hp Ho Hs Hn He H0 hr hpb
  go_enter Tryz.func91, Tryz.ntmps91
  go_wp2
  go_ret
  exact ⟨by rw [u_ Hy]; rfl, rfl⟩
 ·obtain ⟨a1, a1n⟩ := leLVf 97 97 p
  obtain ⟨a2, a2n⟩ := leVL p 122 122
  obtain ⟨b1, b1n⟩ := leLV 65 65 p
  obtain ⟨b2, b2n⟩ := leVLf p 90 90
  obtain ⟨d1, d1n⟩ := leLV 48 48 p
  obtain ⟨d2, d2n⟩ := leVLf p 57 57
  have Hy := h_ (u_ Ho (by omega) (by omega) (by omega))
  clear Hp Ho
  go_enter Tryz.func91, Tryz.ntmps91
  go_wp2
  go_loopw [4] (fun i wr => ∃ k : Nat, k ≤ 12 ∧ i = .int .i64 k ∧ wr = w ∧ Hid (noSign c k)) (fun i _ => 12 - (intOf i).toNat)
  case atStart => exact ⟨0, by omega, rfl, rfl, H0⟩
  case round =>
   obtain ⟨k, hk, rfl, rfl, HS⟩ := hrel
   by_cases hlt : k < 12
   ·have hix := fun w => sign_at k hlt w
    have Hs2 := h_ (u_ Hs k hlt)
    have Hn2 := h_ (u_ Hn k (by omega) (u_ HS))
    have hqb := (signs.getD k 0).toNat_lt
    obtain ⟨q, hq⟩ := exq ((signs.getD k 0).toNat)
    simp only [hq] at hix Hs2 Hn2 hqb
    obtain ⟨k1, k1n⟩ := ltVL k 12 12
    have kb : (k : Int) ≤ 12 := by omega
    clear hq Hs Hn He HS
    by_cases hc : q = p
    ·have e1 : ((q : Int) == (p : Int)) = true := by simp; omega
     have Hy2 : Hid (printP c = true) := by show _ = _; rw [u_ Hy]; exact u_ Hs2 hc
     clear Hs2 Hn2 Hy hc
     go_wp2
     go_ret
     exact ⟨by rw [u_ Hy2]; rfl, rfl⟩
    ·have e1 : ((q : Int) == (p : Int)) = false := by simp; omega
     have HS2 := h_ (u_ Hn2 hc)
     clear Hs2 Hn2 Hy hc
     go_wp2
     go_roundw
     case rel =>
      first
       | exact ⟨k + 1, by omega, by go_num, trivial, HS2⟩
       | exact ⟨k + 1, by omega, by go_num, rfl, HS2⟩
       | ((repeat apply Exists.intro); exact ⟨⟨k + 1, by omega, by go_num, trivial, HS2⟩, rfl⟩)
       | ((repeat apply Exists.intro); exact ⟨⟨k + 1, by omega, by go_num, rfl, HS2⟩, rfl⟩)
     case measure => simp [intOf]; omega
   ·obtain rfl : k = 12 := by omega
    have Hy2 : Hid (printP c = false) := by show _ = _; rw [u_ Hy]; exact u_ He (u_ HS)
    clear Hs Hn He HS Hy
    go_wp2
    go_ret
    exact ⟨by rw [u_ Hy2]; rfl, rfl⟩
 ·obtain ⟨a1, a1n⟩ := leLV 97 97 p
  obtain ⟨a2, a2n⟩ := leVL p 122 122
  obtain ⟨b1, b1n⟩ := leLV 65 65 p
  obtain ⟨b2, b2n⟩ := leVLf p 90 90
  obtain ⟨d1, d1n⟩ := leLV 48 48 p
  obtain ⟨d2, d2n⟩ := leVLf p 57 57
  have Hy := h_ (u_ Hp (by omega))
  clear Hp Ho Hs Hn He H0 hr hpb
  go_enter Tryz.func91, Tryz.ntmps91
  go_wp2
  go_ret
  exact ⟨by rw [u_ Hy]; rfl, rfl⟩
 ·obtain ⟨a1, a1n⟩ := leLV 97 97 p
  obtain ⟨a2, a2n⟩ := leVLf p 122 122
  obtain ⟨b1, b1n⟩ := leLV 65 65 p
  obtain ⟨b2, b2n⟩ := leVLf p 90 90
  obtain ⟨d1, d1n⟩ := leLV 48 48 p
  obtain ⟨d2, d2n⟩ := leVLf p 57 57
  have Hy := h_ (u_ Ho (by omega) (by omega) (by omega))
  clear Hp Ho
  go_enter Tryz.func91, Tryz.ntmps91
  go_wp2
  go_loopw [4] (fun i wr => ∃ k : Nat, k ≤ 12 ∧ i = .int .i64 k ∧ wr = w ∧ Hid (noSign c k)) (fun i _ => 12 - (intOf i).toNat)
  case atStart => exact ⟨0, by omega, rfl, rfl, H0⟩
  case round =>
   obtain ⟨k, hk, rfl, rfl, HS⟩ := hrel
   by_cases hlt : k < 12
   ·have hix := fun w => sign_at k hlt w
    have Hs2 := h_ (u_ Hs k hlt)
    have Hn2 := h_ (u_ Hn k (by omega) (u_ HS))
    have hqb := (signs.getD k 0).toNat_lt
    obtain ⟨q, hq⟩ := exq ((signs.getD k 0).toNat)
    simp only [hq] at hix Hs2 Hn2 hqb
    obtain ⟨k1, k1n⟩ := ltVL k 12 12
    have kb : (k : Int) ≤ 12 := by omega
    clear hq Hs Hn He HS
    by_cases hc : q = p
    ·have e1 : ((q : Int) == (p : Int)) = true := by simp; omega
     have Hy2 : Hid (printP c = true) := by show _ = _; rw [u_ Hy]; exact u_ Hs2 hc
     clear Hs2 Hn2 Hy hc
     go_wp2
     go_ret
     exact ⟨by rw [u_ Hy2]; rfl, rfl⟩
    ·have e1 : ((q : Int) == (p : Int)) = false := by simp; omega
     have HS2 := h_ (u_ Hn2 hc)
     clear Hs2 Hn2 Hy hc
     go_wp2
     go_roundw
     case rel =>
      first
       | exact ⟨k + 1, by omega, by go_num, trivial, HS2⟩
       | exact ⟨k + 1, by omega, by go_num, rfl, HS2⟩
       | ((repeat apply Exists.intro); exact ⟨⟨k + 1, by omega, by go_num, trivial, HS2⟩, rfl⟩)
       | ((repeat apply Exists.intro); exact ⟨⟨k + 1, by omega, by go_num, rfl, HS2⟩, rfl⟩)
     case measure => simp [intOf]; omega
   ·obtain rfl : k = 12 := by omega
    have Hy2 : Hid (printP c = false) := by show _ = _; rw [u_ Hy]; exact u_ He (u_ HS)
    clear Hs Hn He HS Hy
    go_wp2
    go_ret
    exact ⟨by rw [u_ Hy2]; rfl, rfl⟩
theorem ownb_empty (w : World) : OwnB (w.alloc (.cells #[] 5)) w.heap.size (.slice (some ⟨w.heap.size, 0, none⟩) 0 0) [] := ⟨rfl, Or.inr ⟨w.heap.size, 0, #[], rfl, Nat.le_refl _, heap_alloc_new w _, Nat.le_refl _, Nat.zero_le _, rfl, rfl⟩⟩
end Go.Proofs.YtcofnockikninaaGreatDoor
