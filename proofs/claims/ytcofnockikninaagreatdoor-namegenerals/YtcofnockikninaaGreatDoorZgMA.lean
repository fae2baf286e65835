/- Parts of the walk. -/
import Derived.Test.YtcofnockikninaaGreatDoorZgNum9
import Derived.Test.YtcofnockikninaaGreatDoorZgMH
import Derived.Lib.BitFns
import Derived.OwnWalk
set_option maxRecDepth 100000
set_option maxHeartbeats 8000000
namespace Go.Proofs.YtcofnockikninaaGreatDoor
open Go.RowKit
namespace K
theorem fallsP_two (a b : Bs) (l : List Bs) : fallsP (a :: b :: l) = (lessP b a || fallsP (b :: l)) := rfl
theorem falls_snoc (x : Bs) : ∀ l : List Bs, fallsP (l ++ [x]) = (fallsP l || match l.getLast? with | none => false | some y => lessP x y)
 | [] => rfl
 | [a] => by simp [fallsP]
 | a :: b :: l => by
  have ih := falls_snoc x (b :: l)
  rw [List.cons_append, List.cons_append, fallsP_two, fallsP_two, ← List.cons_append, ih, List.getLast?_cons_cons, Bool.or_assoc]
theorem falls_next (l : List Bs) (y x : Bs) : fallsP ((l ++ [y]) ++ [x]) = (fallsP (l ++ [y]) || lessP x y) := by
 rw [falls_snoc, List.getLast?_append]
 rfl
def prepA (d : List Bs) : Told (List Bs) → Told (List Bs)
 | .no e => .no e
 | .yes bs => .yes (d ++ bs)
theorem prepA_nil (t : Told (List Bs)) : prepA [] t = t := by cases t <;> rfl
theorem all_end (g : DV → Told Bs) : allP g [] = .yes [] := by unfold allP; rfl
theorem all_cons (g : DV → Told Bs) (v : DV) (l : List DV) : allP g (v :: l) = match g v with
  | .no e => .no e
  | .yes b => match allP g l with
   | .no e => .no e
   | .yes bs => .yes (b :: bs) := by
 conv => lhs; unfold allP
 rfl
theorem drop_at {ks : List DV} {i : Nat} {k : DV} (h : ks[i]? = some k) : ks.drop i = k :: ks.drop (i + 1) := by
 obtain ⟨hi, rfl⟩ := List.getElem?_eq_some_iff.1 h
 exact List.drop_eq_getElem_cons hi
theorem all_no {g : DV → Told Bs} {ks : List DV} {i : Nat} {k : DV} {e : Nat} (dn : List Bs) (h : ks[i]? = some k) (hg : g k = .no e) : prepA dn (allP g (ks.drop i)) = .no e := by
 rw [drop_at h, all_cons, hg]
 rfl
theorem all_yes {g : DV → Told Bs} {ks : List DV} {i : Nat} {k : DV} {x : Bs} (dn : List Bs) (h : ks[i]? = some k) (hg : g k = .yes x) : prepA dn (allP g (ks.drop i)) = prepA (dn ++ [x]) (allP g (ks.drop (i + 1))) := by
 rw [drop_at h, all_cons, hg]
 simp only []
 cases allP g (ks.drop (i + 1)) with
 | no e => rfl
 | yes bs => simp [prepA]
theorem all_done {g : DV → Told Bs} {ks : List DV} (dn : List Bs) : prepA dn (allP g (ks.drop ks.length)) = .yes dn := by
 rw [List.drop_length, all_end]
 show Told.yes (dn ++ []) = _
 rw [List.append_nil]
theorem write_unf (f : Nat) (c t : Int) (m : Bool) (b : Bs) (ks : List DV) : writeP formD (f + 1) (.mk c t m b ks) =
  if c < 0 ∨ 3 < c ∨ t < 0 ∨ 2097152 ≤ t then .no 21 else
  if formD c.toNat t.toNat m b = 21 then .no 21 else
  if formD c.toNat t.toNat m b ≠ 0 ∨ (m = true ∧ 0 < b.length) ∨ (m = false ∧ 0 < ks.length) then .no 24 else
  match allP (writeP formD f) ks with
  | .no e => .no e
  | .yes bs => if (fallsP bs && decide (c = 0) && decide (t = 17)) = true then .no 25 else .yes (tagB c.toNat t.toNat m ++ lenB (b ++ bs.flatten).length ++ (b ++ bs.flatten)) := by
 conv => lhs; unfold writeP
 rfl
theorem lenB_le {n : Nat} (h : n < 4294967296) : (lenB n).length ≤ 5 := by
 unfold lenB
 split
 ·simp
 ·rename_i h1
  have := (lowB_len4 (n := n) (by omega) h).2
  rw [List.length_cons, List.length_reverse]
  omega
mutual
theorem out_le : ∀ (f : Nat) (v : DV) (w : Bs), weight v ≤ 1000000 → writeP formD f v = .yes w → w.length ≤ 9 * weight v
 | 0, v, w, _, h => by simp [writeP] at h
 | f + 1, .mk c t m b ks, w, hw, h => by
  obtain ⟨_, _, _, _, _, _, _, bs, hbs, _, rfl⟩ := write_open h
  simp only [weight] at hw
  have h1 := outs_le f ks bs (by omega) hbs
  have h2 := len_tagB_le c.toNat t.toNat m
  have h3 := lenB_le (n := (b ++ bs.flatten).length) (by rw [List.length_append]; omega)
  simp only [weight, List.length_append] at h3 ⊢
  omega
theorem outs_le : ∀ (f : Nat) (ks : List DV) (bs : List Bs), weights ks ≤ 1000000 → allP (writeP formD f) ks = .yes bs → bs.flatten.length ≤ 9 * weights ks
 | f, [], bs, _, h => by rw [all_end] at h; cases h; simp [weights]
 | f, v :: l, bs, hw, h => by
  rw [all_cons] at h
  simp only [weights] at hw ⊢
  split at h
  ·cases h
  ·rename_i b hb
   split at h
   ·cases h
   ·rename_i bs' hbs
    cases h
    have h1 := out_le f v b (by omega) hb
    have h2 := outs_le f l bs' (by omega) hbs
    simp only [List.flatten_cons, List.length_append]
    omega
end
theorem some_le (f : Nat) : ∀ (ks : List DV) (i : Nat) (dn : List Bs), weights ks ≤ 1000000 → allP (writeP formD f) (ks.take i) = .yes dn → dn.flatten.length ≤ 9000000 := fun ks i dn hw h => by
 have h1 : weights (ks.take i) ≤ weights ks := by
  clear h hw
  induction ks generalizing i with
  | nil => simp
  | cons v l ih =>
   cases i with
   | zero => simp [weights]
   | succ i => simp only [List.take_succ_cons, weights]; have := ih i; omega
 have := outs_le f _ _ (by omega) h
 omega
theorem all_snoc {g : DV → Told Bs} {ks : List DV} {i : Nat} {k : DV} {x : Bs} {dn : List Bs} (h : allP g (ks.take i) = .yes dn) (hk : ks[i]? = some k) (hg : g k = .yes x) : allP g (ks.take (i + 1)) = .yes (dn ++ [x]) := by
 have key : ∀ (l : List DV) (dn : List Bs), allP g l = .yes dn → allP g (l ++ [k]) = .yes (dn ++ [x]) := fun l => by
  induction l with
  | nil => intro dn h; rw [all_end] at h; cases h; rw [List.nil_append, all_cons, hg, all_end]; rfl
  | cons v l ih =>
   intro dn h
   rw [all_cons] at h
   rw [List.cons_append, all_cons]
   split at h
   ·cases h
   ·rename_i b hb
    split at h
    ·cases h
    ·rename_i bs hbs
     cases h
     rw [ih bs hbs]
     rfl
 rw [List.take_add_one, hk]
 exact key _ _ h
end K
namespace K
theorem low_len {n k : Nat} (h1 : 256 ^ k ≤ n) (h2 : n < 256 ^ (k + 1)) : (lowB n n).length = k + 1 := by
 have hp : 0 < 256 ^ k := Nat.pow_pos (by omega)
 have a := lowV_lt (lowB n n)
 rw [lowV_low n n (Nat.le_refl _)] at a
 have hne : lowB n n ≠ [] := fun e => by rw [e] at a; simp at a; omega
 have b := lowB_big n n (Nat.le_refl _) hne
 have hl : 0 < (lowB n n).length := List.length_pos_iff.2 hne
 have c1 : k < (lowB n n).length := by
  rcases Nat.lt_or_ge k (lowB n n).length with h | h
  ·exact h
  ·have := Nat.pow_le_pow_right (show 0 < 256 by omega) h
   omega
 have c2 : (lowB n n).length - 1 < k + 1 := by
  rcases Nat.lt_or_ge ((lowB n n).length - 1) (k + 1) with h | h
  ·exact h
  ·have := Nat.pow_le_pow_right (show 0 < 256 by omega) h
   omega
 omega
theorem len8_fin : ∀ k : Fin 256, ∃ z : Fin 9, Lib.len8 ((k.val : Nat) : Int) = ((z.val : Nat) : Int) ∧ (k.val ≠ 0 → z.val ≠ 0) := by decide +kernel
theorem len8_let (k : Nat) (h : k < 256) (h1 : 1 ≤ k) : ∃ z : Nat, Lib.len8 (k : Int) = (z : Int) ∧ 1 ≤ z ∧ z ≤ 8 := by
 obtain ⟨z, h2, h3⟩ := len8_fin ⟨k, h⟩
 have := h3 (by show k ≠ 0; omega)
 exact ⟨z.val, h2, by omega, by omega⟩
theorem blens_c (n : Nat) (h1 : 128 ≤ n) (h2 : n < 16777216) (w : World) : Calls Tryz.prog 159 #[.int .u64 (n : Int)] w fun e w' => ∃ L : Nat, e = .returned (.int .i64 (L : Int)) ∧ L ≤ 24 ∧ (L + 7) / 8 = (lowB n n).length ∧ w' = w := by
 obtain ⟨d32, d32n⟩ := leLVf 4294967296 4294967296 n
 rcases (by omega : n < 256 ∨ (256 ≤ n ∧ n < 65536) ∨ 65536 ≤ n) with h | ⟨h, h'⟩ | h
 ·obtain ⟨d16, d16n⟩ := leLVf 65536 65536 n
  obtain ⟨d8, d8n⟩ := leLVf 256 256 n
  have hl := low_len (n := n) (k := 0) (by omega) (by omega)
  obtain ⟨z, hz, z1, z8⟩ := len8_let n (by omega) (by omega)
  have u8 : IntKind.u8.wrap (n : Int) = (n : Int) := by rw [IntKind.wrap_u8']; omega
  have uz : IntKind.i64.wrap (z : Int) = (z : Int) := IntWalk.i64_in _ (by omega)
  have n0 : (0 : Int) ≤ (n : Int) := by omega
  have n255 : (n : Int) ≤ 255 := by omega
  have HL := h_ hl
  clear h h1 h2 hl
  go_enter Tryz.func159, Tryz.ntmps159
  go_wp2
  go_ret
  exact ⟨z, by first | rfl | simp, by omega, by rw [u_ HL]; omega, rfl⟩
 ·obtain ⟨q, hq⟩ := exq (n / 256)
  obtain ⟨d16, d16n⟩ := leLVf 65536 65536 n
  obtain ⟨d8, d8n⟩ := leLV 256 256 n
  have hl := low_len (n := n) (k := 1) (by omega) (by omega)
  obtain ⟨z, hz, z1, z8⟩ := len8_let q (by omega) (by omega)
  have eq : (n : Int) / 256 = (q : Int) := by omega
  have uq64 : IntKind.u64.wrap (q : Int) = (q : Int) := by show (q : Int) % 18446744073709551616 = _; omega
  have u8 : IntKind.u8.wrap (q : Int) = (q : Int) := by rw [IntKind.wrap_u8']; omega
  obtain ⟨z2, hz2⟩ := exq (8 + z)
  have ez : (8 : Int) + (z : Int) = (z2 : Int) := by omega
  have uz : IntKind.i64.wrap (z : Int) = (z : Int) := IntWalk.i64_in _ (by omega)
  have uz2 : IntKind.i64.wrap (z2 : Int) = (z2 : Int) := IntWalk.i64_in _ (by omega)
  have n0 : (0 : Int) ≤ (q : Int) := by omega
  have n255 : (q : Int) ≤ 255 := by omega
  have HL := h_ hl
  have Hz2 : Hid (z2 ≤ 16 ∧ (z2 + 7) / 8 = 2) := ⟨by omega, by omega⟩
  clear h h' h1 h2 hl hq hz2
  go_enter Tryz.func159, Tryz.ntmps159
  go_wp2
  go_ret
  exact ⟨z2, by first | rfl | simp, by have := Hz2.1; omega, by rw [u_ HL]; exact Hz2.2, rfl⟩
 ·obtain ⟨q, hq⟩ := exq (n / 65536)
  obtain ⟨d16, d16n⟩ := leLV 65536 65536 n
  obtain ⟨d8, d8n⟩ := leLVf 256 256 q
  have hl := low_len (n := n) (k := 2) (by omega) (by omega)
  obtain ⟨z, hz, z1, z8⟩ := len8_let q (by omega) (by omega)
  have eq : (n : Int) / 65536 = (q : Int) := by omega
  have uq64 : IntKind.u64.wrap (q : Int) = (q : Int) := by show (q : Int) % 18446744073709551616 = _; omega
  have u8 : IntKind.u8.wrap (q : Int) = (q : Int) := by rw [IntKind.wrap_u8']; omega
  obtain ⟨z2, hz2⟩ := exq (16 + z)
  have ez : (16 : Int) + (z : Int) = (z2 : Int) := by omega
  have uz : IntKind.i64.wrap (z : Int) = (z : Int) := IntWalk.i64_in _ (by omega)
  have uz2 : IntKind.i64.wrap (z2 : Int) = (z2 : Int) := IntWalk.i64_in _ (by omega)
  have n0 : (0 : Int) ≤ (q : Int) := by omega
  have n255 : (q : Int) ≤ 255 := by omega
  have HL := h_ hl
  have Hz2 : Hid (z2 ≤ 24 ∧ (z2 + 7) / 8 = 3) := ⟨by omega, by omega⟩
  clear h h1 h2 hl hq hz2
  go_enter Tryz.func159, Tryz.ntmps159
  go_wp2
  go_ret
  exact ⟨z2, by first | rfl | simp, Hz2.1, by rw [u_ HL]; exact Hz2.2, rfl⟩
theorem blen_c (n : Nat) (h1 : 128 ≤ n) (h2 : n < 16777216) (w : World) : Calls Tryz.prog 183 #[.int .u64 (n : Int)] w fun e w' => ∃ L : Nat, e = .returned (.int .i64 (L : Int)) ∧ L ≤ 24 ∧ (L + 7) / 8 = (lowB n n).length ∧ w' = w := by
 have H := h_ (blens_c n h1 h2 w)
 clear h1 h2
 go_enter Tryz.func183, Tryz.ntmps183
 go_wp2_with fail
 refine H.mono ?_
 rintro e w1 ⟨L, rfl, h24, hL, rfl⟩
 have HL := h_ hL
 clear hL H
 go_wp2
 go_ret
 exact ⟨L, rfl, h24, u_ HL, rfl⟩
end K
namespace K
theorem one_lit (w : World) (β : UInt8) {z : Nat} (h : β.toNat = z) : BytesAt (w.alloc (.cells #[.int .u8 (z : Int)] 5)) (.slice (some ⟨w.heap.size, 0, none⟩) 1 1) [β] := by
 subst h
 exact bytes_new w [β]
theorem byte_let (q : Nat) : (UInt8.ofNat q).toNat = q % 256 := by rw [UInt8.toNat_ofNat']
theorem lowB_at : ∀ (k n i : Nat), i < (lowB k n).length → (lowB k n).getD i 0 = UInt8.ofNat (n / 256 ^ i)
 | 0, n, i, h => by simp [lowB] at h
 | k + 1, n, i, h => by
  by_cases h0 : n = 0
  ·rw [h0] at h
   simp [lowB] at h
  ·have e : lowB (k + 1) n = UInt8.ofNat n :: lowB k (n / 256) := by show (if n = 0 then _ else _) = _; rw [if_neg h0]
   rw [e] at h ⊢
   match i with
   | 0 => simp
   | i + 1 =>
    rw [List.getD_cons_succ, lowB_at k (n / 256) i (by simpa using h), Nat.pow_succ, Nat.mul_comm, Nat.div_div_eq_div_mul]
theorem rev_at {l : Bs} {j : Nat} (h : j < l.length) : l.reverse.take (j + 1) = l.reverse.take j ++ [l.getD (l.length - 1 - j) 0] := by
 have h' : j < l.reverse.length := by rw [List.length_reverse]; exact h
 rw [List.take_add_one, List.getElem?_eq_getElem h', List.getElem_reverse, List.getD_eq_getElem?_getD, List.getElem?_eq_getElem (by omega)]
 rfl
theorem plen_c (wb w : World) (v : Value) (l : Bs) (n : Nat) (hR : Row wb w v l) (hl : l.length ≤ 20000000) (hn : n < 16777216) :
  Calls Tryz.prog 157 #[v, .int .i64 (n : Int)] w fun e w' => ∃ v', e = .returned v' ∧ Row wb w' v' (l ++ lenB n) := by
 obtain ⟨sp, c, rfl⟩ := hR.own.form
 obtain ⟨N, hN⟩ := exq l.length
 have HN := h_ hN
 by_cases h128 : n < 128
 ·obtain ⟨d1, d1n⟩ := ltVL n 128 128
  have u8 : IntKind.u8.wrap (n : Int) = (n : Int) := by rw [IntKind.wrap_u8']; omega
  have HLn : Hid (lenB n = [UInt8.ofNat n]) := by show _ = _; unfold lenB; rw [if_pos h128]
  have HY : Hid (BytesAt (w.alloc (.cells #[.int .u8 (n : Int)] 5)) (.slice (some ⟨w.heap.size, 0, none⟩) 1 1) [UInt8.ofNat n]) := one_lit w _ (by rw [byte_let]; omega)
  have HR := h_ (hR.lit (.cells #[.int .u8 (n : Int)] 5))
  rw [hN] at HR hl ⊢
  have Hll : Hid (l.length + [UInt8.ofNat n].length ≤ 1073741824) := by show _ ≤ _; rw [u_ HN]; simp; omega
  clear hR hN h128
  go_enter Tryz.func157, Tryz.ntmps157
  go_wp2_with (at_builtin; refine wpList_append_row rfl _ _ rfl (.slice sp N c) (.slice (some ⟨w.heap.size, 0, none⟩) 1 1) l [UInt8.ofNat n] rfl (u_ HR) rfl (u_ HY) (u_ Hll) ?_
               intro v1 W1 hR1
               have HR1 := h_ hR1
               clear hR1)
  go_ret
  exact ⟨_, rfl, by rw [u_ HLn]; exact u_ HR1⟩
 obtain ⟨d1, d1n⟩ := ltVLf n 128 128
 have Hbl := h_ (blen_c n (by omega) hn w)
 have HLn : Hid (lenB n = UInt8.ofNat (128 + (lowB n n).length) :: (lowB n n).reverse) := by show _ = _; unfold lenB; rw [if_neg h128]
 have hC := lowB_len4 (n := n) (by omega) (by omega)
 obtain ⟨C, hCe⟩ := exq ((lowB n n).length)
 rw [hCe] at hC
 have hC3 : C ≤ 3 := by
  have a := lowB_big n n (Nat.le_refl _) (fun e => by rw [e] at hCe; simp at hCe; omega)
  rw [hCe] at a
  rcases Nat.lt_or_ge C 4 with h | h
  ·omega
  ·have := Nat.pow_le_pow_right (show 0 < 256 by omega) (show 3 ≤ C - 1 by omega)
   omega
 have HC := h_ hCe
 obtain ⟨Z, hZ⟩ := exq (128 + C)
 have eZ : (128 : Int) + (C : Int) = (Z : Int) := by omega
 have uZ : IntKind.i64.wrap (Z : Int) = (Z : Int) := IntWalk.i64_in _ (by omega)
 have uZ8 : IntKind.u8.wrap (Z : Int) = (Z : Int) := by rw [IntKind.wrap_u8']; omega
 have un64 : IntKind.u64.wrap (n : Int) = (n : Int) := by show (n : Int) % 18446744073709551616 = _; omega
 have HY : Hid (BytesAt (w.alloc (.cells #[.int .u8 (Z : Int)] 5)) (.slice (some ⟨w.heap.size, 0, none⟩) 1 1) [UInt8.ofNat Z]) := one_lit w _ (by rw [byte_let]; omega)
 have HR := h_ (hR.lit (.cells #[.int .u8 (Z : Int)] 5))
 have HLz : Hid (lenB n = [UInt8.ofNat Z] ++ (lowB n n).reverse) := by show _ = _; rw [u_ HLn, u_ HC, hZ]; rfl
 rw [hN] at HR hl ⊢
 have Hll : Hid (l.length + [UInt8.ofNat Z].length ≤ 1073741824) := by show _ ≤ _; rw [u_ HN]; simp; omega
 clear hR hN h128 HLn hZ hCe
 go_enter Tryz.func157, Tryz.ntmps157
 go_wp2_with fail
 refine Hbl.mono ?_
 rintro e w1 ⟨L, rfl, h24, hL, hw1⟩
 have := hw1.symm
 subst this
 rw [u_ HC] at hL
 obtain ⟨L7, hL7⟩ := exq (L + 7)
 rw [hL7] at hL
 have eL7 : (L : Int) + 7 = (L7 : Int) := by omega
 have uL7 : IntKind.i64.wrap (L7 : Int) = (L7 : Int) := IntWalk.i64_in _ (by omega)
 have eC : (L7 : Int) / 8 = (C : Int) := by omega
 have uC : IntKind.i64.wrap (C : Int) = (C : Int) := IntWalk.i64_in _ (by omega)
 clear hL hL7 hw1 Hbl
 go_wp2_with (at_builtin; refine wpList_append_row rfl _ _ rfl (.slice sp N c) (.slice (some ⟨w.heap.size, 0, none⟩) 1 1) l [UInt8.ofNat Z] rfl (u_ HR) rfl (u_ HY) (u_ Hll) ?_
              intro v1 W1 hR1
              obtain ⟨p1, q1, rfl⟩ := hR1.own.form
              rw [show (l ++ [UInt8.ofNat Z]).length = N + 1 by rw [List.length_append, u_ HN]; rfl] at hR1 ⊢
              have HR1 := h_ hR1
              clear hR1)
 go_loopw [0, 6] (fun bb ii wr => ∃ (j : Nat) (kk : Int) (sv : Option Addr) (M cv : Nat), j ≤ C ∧ kk = (C : Int) - 1 - (j : Int) ∧ bb = .slice sv M cv ∧ ii = .int .i64 kk ∧ M = N + 1 + j ∧ Hid (Row wb wr (.slice sv M cv) (l ++ [UInt8.ofNat Z] ++ (lowB n n).reverse.take j))) (fun _ ii _ => ((intOf ii) + 1).toNat)
 case atStart => exact ⟨0, _, p1, _, q1, by omega, rfl, rfl, by first | rfl | (congr 1; omega) | simp, rfl, by rw [List.take_zero, List.append_nil]; exact u_ HR1⟩
 case round =>
  obtain ⟨j, kk, sv, M, cv, hj, hkk, rfl, rfl, hM, HRr⟩ := hrel
  by_cases hlt : j < C
  ·have HE : Hid ((lowB n n).reverse.take (j + 1) = (lowB n n).reverse.take j ++ [UInt8.ofNat (n / 256 ^ (C - 1 - j))]) := by
    show _ = _
    rw [rev_at (by rw [u_ HC]; exact hlt), u_ HC, lowB_at n n _ (by rw [u_ HC]; omega)]
   have Hll2 : Hid (∀ y : UInt8, (l ++ [UInt8.ofNat Z] ++ (lowB n n).reverse.take j).length + [y].length ≤ 1073741824) := fun y => by
    simp only [List.length_append, List.length_take, List.length_reverse, u_ HN, List.length_singleton]
    omega
   have HM := h_ hM
   clear HR1 HR HY Hll
   rcases (by omega : kk = 0 ∨ kk = 1 ∨ kk = 2) with e | e | e
   ·subst e
    obtain ⟨q, hq⟩ := exq (n / 1)
    obtain ⟨z, hz⟩ := exq (q % 256)
    have hqn : n = q := by omega
    have uq : IntKind.i64.wrap (q : Int) = (q : Int) := IntWalk.i64_in _ (by omega)
    have uz : IntKind.u8.wrap (n : Int) = (z : Int) := by rw [IntKind.wrap_u8']; omega
    have eJ : C - 1 - j = 0 := by omega
    rw [eJ] at HE
    have HY2 : Hid (BytesAt (wr.alloc (.cells #[.int .u8 (z : Int)] 5)) (.slice (some ⟨wr.heap.size, 0, none⟩) 1 1) [UInt8.ofNat (n / 256 ^ 0)]) := one_lit wr _ (by rw [byte_let]; omega)
    have HR2 := h_ (HRr.lit (.cells #[.int .u8 (z : Int)] 5))
    have Hkk := h_ hkk
    clear hq hz HRr eJ hM hkk hqn
    have HM3 : Hid ((l ++ [UInt8.ofNat Z] ++ (lowB n n).reverse.take j ++ [UInt8.ofNat (n / 256 ^ 0)]).length = N + 1 + (j + 1)) := by
     show _ = _
     have h1 : j ≤ (lowB n n).length := by rw [u_ HC]; omega
     simp only [List.length_append, List.length_take, List.length_reverse, u_ HN, List.length_singleton, Nat.min_eq_left h1]
     omega
    go_wp2_with (at_builtin; refine wpList_append_row rfl _ _ rfl (.slice sv M cv) (.slice (some ⟨wr.heap.size, 0, none⟩) 1 1) _ [UInt8.ofNat (n / 256 ^ 0)] rfl (u_ HR2) rfl (u_ HY2) (u_ Hll2 _) ?_
                 intro v3 W3 hR3
                 obtain ⟨p3, q3, rfl⟩ := hR3.own.form
                 rw [u_ HM3] at hR3 ⊢
                 have HR3 := h_ hR3
                 clear hR3)
    have HR4 : Hid (Row wb W3 (.slice p3 (N + 1 + (j + 1)) q3) (l ++ [UInt8.ofNat Z] ++ (lowB n n).reverse.take (j + 1))) := by
     have h1 := u_ HR3
     rw [List.append_assoc, ← u_ HE] at h1
     exact h1
    clear HR3 HE HM3
    go_roundw
    case rel =>
     first
      | exact ⟨j + 1, -1, p3, _, q3, by omega, by have := u_ Hkk; omega, rfl, rfl, rfl, HR4⟩
      | exact ⟨⟨j + 1, -1, p3, _, q3, by omega, by have := u_ Hkk; omega, rfl, rfl, rfl, HR4⟩, rfl⟩
    case measure => simp [intOf]
   ·subst e
    obtain ⟨q, hq⟩ := exq (n / 256)
    obtain ⟨z, hz⟩ := exq (q % 256)
    have eq : (n : Int) / 256 = (q : Int) := by omega
    have uq : IntKind.i64.wrap (q : Int) = (q : Int) := IntWalk.i64_in _ (by omega)
    have uz : IntKind.u8.wrap (q : Int) = (z : Int) := by rw [IntKind.wrap_u8']; omega
    have eJ : C - 1 - j = 1 := by omega
    rw [eJ] at HE
    have HY2 : Hid (BytesAt (wr.alloc (.cells #[.int .u8 (z : Int)] 5)) (.slice (some ⟨wr.heap.size, 0, none⟩) 1 1) [UInt8.ofNat (n / 256 ^ 1)]) := one_lit wr _ (by rw [byte_let]; omega)
    have HR2 := h_ (HRr.lit (.cells #[.int .u8 (z : Int)] 5))
    have Hkk := h_ hkk
    clear hq hz HRr eJ hM hkk
    have HM3 : Hid ((l ++ [UInt8.ofNat Z] ++ (lowB n n).reverse.take j ++ [UInt8.ofNat (n / 256 ^ 1)]).length = N + 1 + (j + 1)) := by
     show _ = _
     have h1 : j ≤ (lowB n n).length := by rw [u_ HC]; omega
     simp only [List.length_append, List.length_take, List.length_reverse, u_ HN, List.length_singleton, Nat.min_eq_left h1]
     omega
    go_wp2_with (at_builtin; refine wpList_append_row rfl _ _ rfl (.slice sv M cv) (.slice (some ⟨wr.heap.size, 0, none⟩) 1 1) _ [UInt8.ofNat (n / 256 ^ 1)] rfl (u_ HR2) rfl (u_ HY2) (u_ Hll2 _) ?_
                 intro v3 W3 hR3
                 obtain ⟨p3, q3, rfl⟩ := hR3.own.form
                 rw [u_ HM3] at hR3 ⊢
                 have HR3 := h_ hR3
                 clear hR3)
    have HR4 : Hid (Row wb W3 (.slice p3 (N + 1 + (j + 1)) q3) (l ++ [UInt8.ofNat Z] ++ (lowB n n).reverse.take (j + 1))) := by
     have h1 := u_ HR3
     rw [List.append_assoc, ← u_ HE] at h1
     exact h1
    clear HR3 HE HM3
    go_roundw
    case rel =>
     first
      | exact ⟨j + 1, 0, p3, _, q3, by omega, by have := u_ Hkk; omega, rfl, rfl, rfl, HR4⟩
      | exact ⟨⟨j + 1, 0, p3, _, q3, by omega, by have := u_ Hkk; omega, rfl, rfl, rfl, HR4⟩, rfl⟩
    case measure => simp [intOf]
   ·subst e
    obtain ⟨q, hq⟩ := exq (n / 65536)
    obtain ⟨z, hz⟩ := exq (q % 256)
    have eq : (n : Int) / 65536 = (q : Int) := by omega
    have uq : IntKind.i64.wrap (q : Int) = (q : Int) := IntWalk.i64_in _ (by omega)
    have uz : IntKind.u8.wrap (q : Int) = (z : Int) := by rw [IntKind.wrap_u8']; omega
    have eJ : C - 1 - j = 2 := by omega
    rw [eJ] at HE
    have HY2 : Hid (BytesAt (wr.alloc (.cells #[.int .u8 (z : Int)] 5)) (.slice (some ⟨wr.heap.size, 0, none⟩) 1 1) [UInt8.ofNat (n / 256 ^ 2)]) := one_lit wr _ (by rw [byte_let]; omega)
    have HR2 := h_ (HRr.lit (.cells #[.int .u8 (z : Int)] 5))
    have Hkk := h_ hkk
    clear hq hz HRr eJ hM hkk
    have HM3 : Hid ((l ++ [UInt8.ofNat Z] ++ (lowB n n).reverse.take j ++ [UInt8.ofNat (n / 256 ^ 2)]).length = N + 1 + (j + 1)) := by
     show _ = _
     have h1 : j ≤ (lowB n n).length := by rw [u_ HC]; omega
     simp only [List.length_append, List.length_take, List.length_reverse, u_ HN, List.length_singleton, Nat.min_eq_left h1]
     omega
    go_wp2_with (at_builtin; refine wpList_append_row rfl _ _ rfl (.slice sv M cv) (.slice (some ⟨wr.heap.size, 0, none⟩) 1 1) _ [UInt8.ofNat (n / 256 ^ 2)] rfl (u_ HR2) rfl (u_ HY2) (u_ Hll2 _) ?_
                 intro v3 W3 hR3
                 obtain ⟨p3, q3, rfl⟩ := hR3.own.form
                 rw [u_ HM3] at hR3 ⊢
                 have HR3 := h_ hR3
                 clear hR3)
    have HR4 : Hid (Row wb W3 (.slice p3 (N + 1 + (j + 1)) q3) (l ++ [UInt8.ofNat Z] ++ (lowB n n).reverse.take (j + 1))) := by
     have h1 := u_ HR3
     rw [List.append_assoc, ← u_ HE] at h1
     exact h1
    clear HR3 HE HM3
    go_roundw
    case rel =>
     first
      | exact ⟨j + 1, 1, p3, _, q3, by omega, by have := u_ Hkk; omega, rfl, rfl, rfl, HR4⟩
      | exact ⟨⟨j + 1, 1, p3, _, q3, by omega, by have := u_ Hkk; omega, rfl, rfl, rfl, HR4⟩, rfl⟩
    case measure => simp [intOf]
  ·obtain rfl : j = C := by omega
   have hk1 : kk = -1 := by omega
   subst hk1
   have HT : Hid (Row wb wr (.slice sv M cv) (l ++ lenB n)) := by
    have h1 := u_ HRr
    rw [List.take_of_length_le (by rw [List.length_reverse, u_ HC]; exact Nat.le_refl _), List.append_assoc, ← u_ HLz] at h1
    exact h1
   clear HRr
   go_wp2
   go_ret
   exact ⟨_, rfl, u_ HT⟩
end K
namespace K
def tgTo (k t : Nat) : Bs := (if k ≤ 1 ∧ 16384 ≤ t then [UInt8.ofNat (128 + t / 16384)] else []) ++ (if k ≤ 0 ∧ 128 ≤ t then [UInt8.ofNat (128 + t / 128 % 128)] else [])
def tgs (t : Nat) : Bs := tgTo 0 t ++ [UInt8.ofNat (t % 128)]
theorem or128 : ∀ z : Fin 256, bits .or .u8 ((z.val : Nat) : Int) 128 = ((128 + z.val % 128 : Nat) : Int) := by decide +kernel
theorem tg_le (k t : Nat) : (tgTo k t).length ≤ 2 := by
 unfold tgTo
 split <;> split <;> simp
theorem tg_step2 (t : Nat) : tgTo 1 t = tgTo 2 t ++ (if 16384 ≤ t then [UInt8.ofNat (128 + t / 16384)] else []) := by
 unfold tgTo
 by_cases h : 16384 ≤ t <;> simp [h]
theorem tg_step1 (t : Nat) : tgTo 0 t = tgTo 1 t ++ (if 128 ≤ t then [UInt8.ofNat (128 + t / 128 % 128)] else []) := by
 unfold tgTo
 by_cases h : 16384 ≤ t <;> by_cases h2 : 128 ≤ t <;> simp [h, h2]
theorem tg_two (t : Nat) : tgTo 2 t = [] := by unfold tgTo; simp
theorem ptag_c (wb w : World) (v : Value) (l : Bs) (t : Nat) (hR : Row wb w v l) (hl : l.length ≤ 100) (ht : t < 2097152) :
  Calls Tryz.prog 156 #[v, .int .i64 (t : Int)] w fun e w' => ∃ v', e = .returned v' ∧ Row wb w' v' (l ++ tgs t) := by
 obtain ⟨sp, c, rfl⟩ := hR.own.form
 obtain ⟨N, hN⟩ := exq l.length
 have HN := h_ hN
 rw [hN] at hR hl ⊢
 have HR := h_ hR
 clear hR hN
 go_enter Tryz.func156, Tryz.ntmps156
 go_wp2
 go_loopw [0, 5] (fun bb ii wr => ∃ (k : Nat) (kk : Int) (sv : Option Addr) (M cv : Nat), k ≤ 2 ∧ kk = (k : Int) ∧ bb = .slice sv M cv ∧ ii = .int .i64 kk ∧ Hid (M = (l ++ tgTo k t).length) ∧ Hid (Row wb wr (.slice sv M cv) (l ++ tgTo k t))) (fun _ ii _ => (intOf ii).toNat)
 case atStart => exact ⟨2, 2, sp, N, c, by omega, rfl, rfl, rfl, by rw [tg_two, List.append_nil]; exact HN.symm, by rw [tg_two, List.append_nil]; exact u_ HR⟩
 case round =>
  obtain ⟨k, kk, sv, M, cv, hk, hkk, rfl, rfl, HM, HRr⟩ := hrel
  clear HR
  rcases (by omega : k = 0 ∨ k = 1 ∨ k = 2) with e | e | e
  ·subst e
   obtain rfl : kk = 0 := by omega
   obtain ⟨z, hz⟩ := exq (t % 256)
   obtain ⟨y, hy⟩ := exq (z % 128)
   have uz : IntKind.u8.wrap (t : Int) = (z : Int) := by rw [IntKind.wrap_u8']; omega
   have hand : bits .andNot .u8 (z : Int) 128 = (y : Int) := by rw [← hy]; exact low7 ⟨z, by omega⟩
   have HY : Hid (BytesAt (wr.alloc (.cells #[.int .u8 (y : Int)] 5)) (.slice (some ⟨wr.heap.size, 0, none⟩) 1 1) [UInt8.ofNat (t % 128)]) := one_lit wr _ (by rw [byte_let]; omega)
   have HR2 := h_ (HRr.lit (.cells #[.int .u8 (y : Int)] 5))
   have Hll : Hid ((l ++ tgTo 0 t).length + [UInt8.ofNat (t % 128)].length ≤ 1073741824) := by
    show _ ≤ _
    have := tg_le 0 t
    rw [List.length_append, u_ HN, List.length_singleton]
    omega
   clear hz hy hk hkk HRr HM
   go_wp2_with (at_builtin; refine wpList_append_row rfl _ _ rfl (.slice sv M cv) (.slice (some ⟨wr.heap.size, 0, none⟩) 1 1) (l ++ tgTo 0 t) [UInt8.ofNat (t % 128)] rfl (u_ HR2) rfl (u_ HY) (u_ Hll) ?_
                intro v3 W3 hR3
                have HR3 := h_ hR3
                clear hR3)
   go_ret
   exact ⟨_, rfl, by have := u_ HR3; rw [List.append_assoc] at this; exact this⟩
  ·subst e
   obtain rfl : kk = 1 := by omega
   by_cases hb : 128 ≤ t
   ·obtain ⟨d1, d1n⟩ := leLV 128 128 t
    obtain ⟨q, hq⟩ := exq (t / 128)
    obtain ⟨z, hz⟩ := exq (q % 256)
    obtain ⟨y, hy⟩ := exq (128 + z % 128)
    have eq : (t : Int) / 128 = (q : Int) := by omega
    have uq : IntKind.i64.wrap (q : Int) = (q : Int) := IntWalk.i64_in _ (by omega)
    have uz : IntKind.u8.wrap (q : Int) = (z : Int) := by rw [IntKind.wrap_u8']; omega
    have hor : bits .or .u8 (z : Int) 128 = (y : Int) := by rw [← hy]; exact or128 ⟨z, by omega⟩
    have HE : Hid (tgTo 0 t = tgTo 1 t ++ [UInt8.ofNat (128 + t / 128 % 128)]) := by show _ = _; rw [tg_step1, if_pos hb]
    have HY : Hid (BytesAt (wr.alloc (.cells #[.int .u8 (y : Int)] 5)) (.slice (some ⟨wr.heap.size, 0, none⟩) 1 1) [UInt8.ofNat (128 + t / 128 % 128)]) := one_lit wr _ (by rw [byte_let]; omega)
    have HR2 := h_ (HRr.lit (.cells #[.int .u8 (y : Int)] 5))
    have Hll : Hid ((l ++ tgTo 1 t).length + [UInt8.ofNat (128 + t / 128 % 128)].length ≤ 1073741824) := by
     show _ ≤ _
     have := tg_le 1 t
     rw [List.length_append, u_ HN, List.length_singleton]
     omega
    have HM3 : Hid ((l ++ tgTo 1 t ++ [UInt8.ofNat (128 + t / 128 % 128)]).length = (l ++ tgTo 0 t).length) := by show _ = _; rw [u_ HE, List.append_assoc]
    obtain ⟨M3, hM3⟩ := exq ((l ++ tgTo 0 t).length)
    rw [hM3] at HM3
    have HM4 := h_ hM3
    clear hz hy hk hkk HRr HM hq hM3 hb
    go_wp2_with (at_builtin; refine wpList_append_row rfl _ _ rfl (.slice sv M cv) (.slice (some ⟨wr.heap.size, 0, none⟩) 1 1) (l ++ tgTo 1 t) [UInt8.ofNat (128 + t / 128 % 128)] rfl (u_ HR2) rfl (u_ HY) (u_ Hll) ?_
                 intro v3 W3 hR3
                 obtain ⟨p3, q3, rfl⟩ := hR3.own.form
                 rw [u_ HM3] at hR3 ⊢
                 have HR3 := h_ hR3
                 clear hR3)
    have HR4 : Hid (Row wb W3 (.slice p3 M3 q3) (l ++ tgTo 0 t)) := by
     have h1 := u_ HR3
     rw [List.append_assoc, ← u_ HE] at h1
     exact h1
    have HM5 : Hid (M3 = (l ++ tgTo 0 t).length) := HM4.symm
    clear HR3 HE HM3 HM4
    go_roundw
    case rel =>
     first
      | exact ⟨0, 0, p3, M3, q3, by omega, by omega, rfl, rfl, HM5, HR4⟩
      | exact ⟨⟨0, 0, p3, M3, q3, by omega, by omega, rfl, rfl, HM5, HR4⟩, rfl⟩
    case measure => simp [intOf]
   ·obtain ⟨d1, d1n⟩ := leLVf 128 128 t
    have hE : tgTo 0 t = tgTo 1 t := by rw [tg_step1, if_neg hb, List.append_nil]
    have HM5 : Hid (M = (l ++ tgTo 0 t).length) := by rw [hE]; exact HM
    have HR4 : Hid (Row wb wr (.slice sv M cv) (l ++ tgTo 0 t)) := by rw [hE]; exact HRr
    clear hE HM HRr hk hkk hb
    go_wp2
    go_roundw
    case rel =>
     first
      | exact ⟨0, 0, sv, M, cv, by omega, by omega, rfl, rfl, HM5, HR4⟩
      | exact ⟨⟨0, 0, sv, M, cv, by omega, by omega, rfl, rfl, HM5, HR4⟩, rfl⟩
    case measure => simp [intOf]
  ·subst e
   obtain rfl : kk = 2 := by omega
   by_cases hb : 16384 ≤ t
   ·obtain ⟨d1, d1n⟩ := leLV 16384 16384 t
    obtain ⟨q, hq⟩ := exq (t / 16384)
    obtain ⟨z, hz⟩ := exq (q % 256)
    obtain ⟨y, hy⟩ := exq (128 + z % 128)
    have eq : (t : Int) / 16384 = (q : Int) := by omega
    have uq : IntKind.i64.wrap (q : Int) = (q : Int) := IntWalk.i64_in _ (by omega)
    have uz : IntKind.u8.wrap (q : Int) = (z : Int) := by rw [IntKind.wrap_u8']; omega
    have hor : bits .or .u8 (z : Int) 128 = (y : Int) := by rw [← hy]; exact or128 ⟨z, by omega⟩
    have HE : Hid (tgTo 1 t = tgTo 2 t ++ [UInt8.ofNat (128 + t / 16384)]) := by show _ = _; rw [tg_step2, if_pos hb]
    have HY : Hid (BytesAt (wr.alloc (.cells #[.int .u8 (y : Int)] 5)) (.slice (some ⟨wr.heap.size, 0, none⟩) 1 1) [UInt8.ofNat (128 + t / 16384)]) := one_lit wr _ (by rw [byte_let]; omega)
    have HR2 := h_ (HRr.lit (.cells #[.int .u8 (y : Int)] 5))
    have Hll : Hid ((l ++ tgTo 2 t).length + [UInt8.ofNat (128 + t / 16384)].length ≤ 1073741824) := by
     show _ ≤ _
     have := tg_le 2 t
     rw [List.length_append, u_ HN, List.length_singleton]
     omega
    have HM3 : Hid ((l ++ tgTo 2 t ++ [UInt8.ofNat (128 + t / 16384)]).length = (l ++ tgTo 1 t).length) := by show _ = _; rw [u_ HE, List.append_assoc]
    obtain ⟨M3, hM3⟩ := exq ((l ++ tgTo 1 t).length)
    rw [hM3] at HM3
    have HM4 := h_ hM3
    clear hz hy hk hkk HRr HM hq hM3 hb
    go_wp2_with (at_builtin; refine wpList_append_row rfl _ _ rfl (.slice sv M cv) (.slice (some ⟨wr.heap.size, 0, none⟩) 1 1) (l ++ tgTo 2 t) [UInt8.ofNat (128 + t / 16384)] rfl (u_ HR2) rfl (u_ HY) (u_ Hll) ?_
                 intro v3 W3 hR3
                 obtain ⟨p3, q3, rfl⟩ := hR3.own.form
                 rw [u_ HM3] at hR3 ⊢
                 have HR3 := h_ hR3
                 clear hR3)
    have HR4 : Hid (Row wb W3 (.slice p3 M3 q3) (l ++ tgTo 1 t)) := by
     have h1 := u_ HR3
     rw [List.append_assoc, ← u_ HE] at h1
     exact h1
    have HM5 : Hid (M3 = (l ++ tgTo 1 t).length) := HM4.symm
    clear HR3 HE HM3 HM4
    go_roundw
    case rel =>
     first
      | exact ⟨1, 1, p3, M3, q3, by omega, by omega, rfl, rfl, HM5, HR4⟩
      | exact ⟨⟨1, 1, p3, M3, q3, by omega, by omega, rfl, rfl, HM5, HR4⟩, rfl⟩
    case measure => simp [intOf]
   ·obtain ⟨d1, d1n⟩ := leLVf 16384 16384 t
    have hE : tgTo 1 t = tgTo 2 t := by rw [tg_step2, if_neg hb, List.append_nil]
    have HM5 : Hid (M = (l ++ tgTo 1 t).length) := by rw [hE]; exact HM
    have HR4 : Hid (Row wb wr (.slice sv M cv) (l ++ tgTo 1 t)) := by rw [hE]; exact HRr
    clear hE HM HRr hk hkk hb
    go_wp2
    go_roundw
    case rel =>
     first
      | exact ⟨1, 1, sv, M, cv, by omega, by omega, rfl, rfl, HM5, HR4⟩
      | exact ⟨⟨1, 1, sv, M, cv, by omega, by omega, rfl, rfl, HM5, HR4⟩, rfl⟩
    case measure => simp [intOf]
end K
end Go.Proofs.YtcofnockikninaaGreatDoor
