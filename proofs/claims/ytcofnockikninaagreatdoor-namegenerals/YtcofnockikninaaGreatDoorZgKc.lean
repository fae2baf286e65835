/- Parts of the walk. -/
import Derived.Test.YtcofnockikninaaGreatDoorZgNum9
import Derived.Test.YtcofnockikninaaGreatDoorZgMH
import Derived.Test.YtcofnockikninaaGreatDoorZgPF
set_option maxRecDepth 100000
set_option maxHeartbeats 16000000
namespace Go.Proofs.YtcofnockikninaaGreatDoor
open Go.RowKit
namespace K
def dK (b : Bs) (i : Nat) : Nat := digsP ((b.drop (2 * i)).take 2)
def momP (Y : Nat) (b : Bs) : Bool := (b.take 10).all isDig && calP Y (dK b 0) (dK b 1) (dK b 2) (dK b 3) (dK b 4) && decide ((b.getD 10 0).toNat = 90)
theorem time_cut (y : Nat) (b : Bs) (h : b.length = y + 11) : timeP y b = ((b.take y).all isDig && momP (yearK y b) (b.drop y)) := by
 have e1 : (b.take (y + 10)).all isDig = ((b.take y).all isDig && ((b.drop y).take 10).all isDig) := by rw [List.take_add, List.all_append]
 have e2 : decide (b.getD (y + 10) 0 = 90) = decide (((b.drop y).getD 10 0).toNat = 90) := by
  rw [List.getD_eq_getElem?_getD, List.getD_eq_getElem?_getD, List.getElem?_drop]
  exact u8_dec _ 90 (by omega)
 have e3 : ∀ i, partK y b (i + 1) = dK (b.drop y) i := fun i => by
  unfold partK dK atK lenK
  rw [if_neg (by omega), if_neg (by omega), List.drop_drop, Nat.add_sub_cancel]
 unfold timeP momP
 rw [decide_eq_true h, e1, e2, e3 0, e3 1, e3 2, e3 3, e3 4]
 cases (b.take y).all isDig <;> cases ((b.drop y).take 10).all isDig <;> cases decide (((b.drop y).getD 10 0).toNat = 90) <;> simp
def allD (b : Bs) : Bool := b.all isDig
theorem digs_le4 {b : Bs} {k : Nat} (hk : k ≤ b.length) (h4 : b.length ≤ 4) (h : (b.take k).all isDig = true) : digsP (b.take k) ≤ 9999 := by
 have h1 := digs_lt b k hk h
 have h3 := Nat.pow_le_pow_right (show 0 < 10 by omega) (Nat.le_trans hk h4)
 omega
theorem take_snoc {b : Bs} {i : Nat} (hi : i < b.length) : b.take (i + 1) = b.take i ++ [b.getD i 0] := by
 rw [List.take_add_one, List.getElem?_eq_getElem hi, List.getD_eq_getElem?_getD, List.getElem?_eq_getElem hi]; rfl
theorem digits_c (w : World) (x : Value) (b : Bs) (hx : BytesAt w x b) (hl : b.length ≤ 4) :
  Calls Tryz.prog 197 #[x] w fun e w' => ∃ n : Nat, e = .returned (.tuple #[.int .i64 (n : Int), .bool (allD b)]) ∧ n ≤ 9999 ∧ (allD b = true → n = digsP b) ∧ (allD b = false → n = 0) ∧ w' = w := by
 obtain ⟨sp, c, rfl, _, _, _⟩ := bytes_open hx
 obtain ⟨N, hN⟩ := exq b.length
 have HN := h_ hN
 rw [hN] at hx hl ⊢
 have HX := h_ hx
 clear hx hN
 go_enter Tryz.func197, Tryz.ntmps197
 go_wp2
 go_loopw [4, 9] (fun nn ii wr => ∃ k n : Nat, k ≤ N ∧ nn = .int .i64 (n : Int) ∧ ii = .int .i64 (k : Int) ∧ wr = w ∧ n ≤ 9999 ∧ Hid ((b.take k).all isDig = true ∧ n = digsP (b.take k))) (fun _ ii _ => N - (intOf ii).toNat)
 case atStart => exact ⟨0, 0, by omega, rfl, rfl, rfl, by omega, rfl, rfl⟩
 case round =>
  obtain ⟨k, n, hk, rfl, rfl, hwr, hn, HE⟩ := hrel
  have := hwr.symm
  subst this
  by_cases hlt : k < N
  ·obtain ⟨ba, oa, p, rfl, hp, hpb, hc⟩ := byte_at (u_ HX) (u_ HN) k hlt
   have Hp := h_ hp
   have Hkl : Hid (k < b.length) := by show _ < _; rw [u_ HN]; exact hlt
   obtain ⟨d1, d1n⟩ := ltVV k N
   have k0 : (0 : Int) ≤ (k : Int) := by omega
   have k1 : (k : Int) < (N : Int) := by omega
   clear hp
   by_cases h48 : p < 48
   ·have HT : Hid (allD b = false) := all_not (u_ Hkl) (by unfold isDig; rw [u_ Hp]; simp; omega)
    obtain ⟨d2, d2n⟩ := ltVL p 48 48
    clear HE
    go_wp2
    go_ret2
    exact ⟨0, by rw [u_ HT]; rfl, by omega, by rw [u_ HT]; simp, fun _ => rfl, rfl⟩
   obtain ⟨d2, d2n⟩ := ltVLf p 48 48
   by_cases h57 : 57 < p
   ·have HT : Hid (allD b = false) := all_not (u_ Hkl) (by unfold isDig; rw [u_ Hp]; simp; omega)
    obtain ⟨d3, d3n⟩ := ltLV 57 57 p
    clear HE
    go_wp2
    go_ret2
    exact ⟨0, by rw [u_ HT]; rfl, by omega, by rw [u_ HT]; simp, fun _ => rfl, rfl⟩
   obtain ⟨d3, d3n⟩ := ltLVf 57 57 p
   obtain ⟨q, hq⟩ := exq (p - 48)
   obtain ⟨n2, hn2⟩ := exq (10 * n)
   obtain ⟨n3, hn3⟩ := exq (n2 + q)
   have HE2 : Hid ((b.take (k + 1)).all isDig = true ∧ n3 = digsP (b.take (k + 1))) := by
    refine ⟨?_, ?_⟩
    ·rw [take_snoc (u_ Hkl), List.all_append, HE.1]
     simp only [List.all_cons, List.all_nil, Bool.and_true, Bool.true_and]
     unfold isDig
     rw [u_ Hp]
     simp
     omega
    ·rw [take_snoc (u_ Hkl), digs_snoc, ← HE.2, u_ Hp]
     omega
   have hn3' : n3 ≤ 9999 := by
    rw [HE2.2]
    exact digs_le4 (by have := u_ Hkl; omega) (by rw [u_ HN]; exact hl) HE2.1
   have e1 : (p : Int) - 48 = (q : Int) := by omega
   have e2 : (10 : Int) * (n : Int) = (n2 : Int) := by omega
   have e3 : (n2 : Int) + (q : Int) = (n3 : Int) := by omega
   have u0 : IntKind.u8.wrap (q : Int) = (q : Int) := by rw [IntKind.wrap_u8']; omega
   have u1 : IntKind.i64.wrap (q : Int) = (q : Int) := IntWalk.i64_in _ (by omega)
   have u2 : IntKind.i64.wrap (n2 : Int) = (n2 : Int) := IntWalk.i64_in _ (by omega)
   have u3 : IntKind.i64.wrap (n3 : Int) = (n3 : Int) := IntWalk.i64_in _ (by omega)
   clear HE hq hn2 hn3 Hkl
   go_wp2
   go_roundw
   case rel =>
    first
     | exact ⟨k + 1, n3, by omega, rfl, by go_num, rfl, hn3', HE2⟩
     | exact ⟨k + 1, n3, by omega, rfl, by go_num, trivial, hn3', HE2⟩
     | ((repeat apply Exists.intro); exact ⟨⟨k + 1, n3, by omega, rfl, by go_num, rfl, hn3', HE2⟩, rfl⟩)
     | ((repeat apply Exists.intro); exact ⟨⟨k + 1, n3, by omega, rfl, by go_num, trivial, hn3', HE2⟩, rfl⟩)
   case measure => simp [intOf]; omega
  ·obtain rfl : k = N := by omega
   have d1 : decide ((k : Int) < (k : Int)) = false := by simp
   have HT : Hid (allD b = true ∧ n = digsP b) := by
    have := u_ HE
    rw [List.take_of_length_le (by rw [u_ HN]; exact Nat.le_refl _)] at this
    exact this
   clear HE
   go_wp2
   go_ret2
   exact ⟨n, by rw [HT.1]; rfl, hn, fun _ => HT.2, by rw [HT.1]; simp, rfl⟩
theorem days_c (y m : Nat) (hy : y ≤ 100000) (hm : m ≤ 12) (w : World) : Calls Tryz.prog 203 #[.int .i64 (y : Int), .int .i64 (m : Int)] w fun e w' => e = .returned (.int .i64 (daysP y m : Int)) ∧ w' = w := by
 by_cases h2 : m = 2
 ·subst h2
  obtain ⟨a, ha⟩ := exq (y % 4)
  obtain ⟨b, hb⟩ := exq (y % 100)
  obtain ⟨c, hc⟩ := exq (y % 400)
  have Hd : Hid (daysP y 2 = if (a = 0 ∧ ¬ b = 0) ∨ c = 0 then 29 else 28) := by show _ = _; unfold daysP; rw [if_pos rfl, ha, hb, hc]
  have r4 : (y : Int) % 4 = (a : Int) := by omega
  have r100 : (y : Int) % 100 = (b : Int) := by omega
  have r400 : (y : Int) % 400 = (c : Int) := by omega
  have rel : a ≠ 0 → c ≠ 0 := by omega
  clear ha hb hc hm
  rcases (by omega : a ≠ 0 ∨ (a = 0 ∧ b ≠ 0) ∨ (a = 0 ∧ b = 0 ∧ c = 0) ∨ (a = 0 ∧ b = 0 ∧ c ≠ 0)) with h | ⟨h, h'⟩ | ⟨h, h', h''⟩ | ⟨h, h', h''⟩
  ·have Hd2 : Hid (daysP y 2 = 28) := by show _ = _; rw [u_ Hd, if_neg (by omega)]
   have d1 : ((a : Int) == 0) = false := by simp; omega
   clear Hd rel
   go_enter Tryz.func203, Tryz.ntmps203
   go_wp2
   go_ret
   exact ⟨by rw [u_ Hd2]; rfl, rfl⟩
  ·have Hd2 : Hid (daysP y 2 = 29) := by show _ = _; rw [u_ Hd, if_pos (by omega)]
   have d1 : ((a : Int) == 0) = true := by simp; omega
   have d2 : ((b : Int) == 0) = false := by simp; omega
   have d2' : ((b : Int) != 0) = true := by simp; omega
   clear Hd rel
   go_enter Tryz.func203, Tryz.ntmps203
   go_wp2
   go_ret
   exact ⟨by rw [u_ Hd2]; rfl, rfl⟩
  ·have Hd2 : Hid (daysP y 2 = 29) := by show _ = _; rw [u_ Hd, if_pos (by omega)]
   have d1 : ((a : Int) == 0) = true := by simp; omega
   have d2 : ((b : Int) == 0) = true := by simp; omega
   have d2' : ((b : Int) != 0) = false := by simp; omega
   have d3 : ((c : Int) == 0) = true := by simp; omega
   clear Hd rel
   go_enter Tryz.func203, Tryz.ntmps203
   go_wp2
   go_ret
   exact ⟨by rw [u_ Hd2]; rfl, rfl⟩
  ·have Hd2 : Hid (daysP y 2 = 28) := by show _ = _; rw [u_ Hd, if_neg (by omega)]
   have d1 : ((a : Int) == 0) = true := by simp; omega
   have d2 : ((b : Int) == 0) = true := by simp; omega
   have d2' : ((b : Int) != 0) = false := by simp; omega
   have d3 : ((c : Int) == 0) = false := by simp; omega
   clear Hd rel
   go_enter Tryz.func203, Tryz.ntmps203
   go_wp2
   go_ret
   exact ⟨by rw [u_ Hd2]; rfl, rfl⟩
 ·by_cases h30 : m = 4 ∨ m = 6 ∨ m = 9 ∨ m = 11
  ·have Hd2 : Hid (daysP y m = 30) := by show _ = _; unfold daysP; rw [if_neg h2, if_pos h30]
   clear h2 hm
   rcases h30 with rfl | rfl | rfl | rfl <;>
   ·go_enter Tryz.func203, Tryz.ntmps203
    go_wp2
    go_ret
    exact ⟨by rw [u_ Hd2]; rfl, rfl⟩
  ·have Hd2 : Hid (daysP y m = 31) := by show _ = _; unfold daysP; rw [if_neg h2, if_neg h30]
   have d1 : ((m : Int) == 4) = false := by simp; omega
   have d2 : ((m : Int) == 6) = false := by simp; omega
   have d3 : ((m : Int) == 9) = false := by simp; omega
   have d4 : ((m : Int) == 11) = false := by simp; omega
   have d5 : ((m : Int) == 2) = false := by simp; omega
   clear h2 hm h30
   go_enter Tryz.func203, Tryz.ntmps203
   go_wp2
   go_ret
   exact ⟨by rw [u_ Hd2]; rfl, rfl⟩
def five (f : Nat → Nat) : List Value := (List.range 5).map fun k => .int .i64 (f k : Int)
theorem five_len (f : Nat → Nat) : (five f).length = 5 := by simp [five]
theorem five_get (f : Nat → Nat) {k : Nat} (hk : k < 5) : (five f).getD k undef = .int .i64 (f k : Int) := by
 rw [List.getD_eq_getElem?_getD, List.getElem?_eq_getElem (by rw [five_len]; exact hk)]
 simp [five]
theorem five_set (f g : Nat → Nat) {k : Nat} (h : ∀ j, j ≠ k → g j = f j) : (five f).set k (.int .i64 (g k : Int)) = five g := by
 refine List.ext_getElem (by simp [five]) fun j h1 h2 => ?_
 rw [List.getElem_set]
 split
 ·rename_i e
  subst e
  simp [five]
 ·rename_i e
  simp [five, h j (fun e2 => e e2.symm)]
theorem row_five {w : World} {O : Nat} {f : Nat → Nat} (h : RowAt 210 w O [] (five f)) {k : Nat} (hk : k < 5) : w.cell? ⟨O, k, none⟩ = some (.int .i64 (f k : Int)) := by
 rw [h.cell k (by rw [five_len]; exact hk), five_get f hk]
theorem row_put {w : World} {O : Nat} {f : Nat → Nat} (h : RowAt 210 w O [] (five f)) {k : Nat} (hk : k < 5) (g : Nat → Nat) (hg : ∀ j, j ≠ k → g j = f j) : RowAt 210 (w.setCell ⟨O, k, none⟩ (.int .i64 (g k : Int))) O [] (five g) := by
 have := h.set k (by rw [five_len]; exact hk) (.int .i64 (g k : Int))
 rwa [five_set f g hg] at this
theorem below_set {N : Nat} {a b : World} (h : Below N a b) (hN : N ≤ b.heap.size) (O : Nat) (hO : N ≤ O) (k : Nat) (v : Value) : Below N a (b.setCell ⟨O, k, none⟩ v) :=
 h.grown (grown_setCell (World.grownBy.refl _ (some O)) ⟨O, k, none⟩ v rfl) hN (fun g hg => by cases hg; exact hO)
def fiveTo (b : Bs) (i k : Nat) : Nat := if k < i then dK b k else 0
theorem all_two {b : Bs} {i : Nat} : (b.take (2 * (i + 1))).all isDig = ((b.take (2 * i)).all isDig && ((b.drop (2 * i)).take 2).all isDig) := by
 rw [show 2 * (i + 1) = 2 * i + 2 by omega, List.take_add, List.all_append]
theorem all_bad {b : Bs} {i : Nat} (hi : i < 5) (h : ((b.drop (2 * i)).take 2).all isDig = false) : (b.take 10).all isDig = false := by
 rw [List.all_eq_false] at h ⊢
 obtain ⟨c, hc, hd⟩ := h
 refine ⟨c, ?_, hd⟩
 rw [show 10 = 2 * i + (10 - 2 * i) by omega, List.take_add]
 refine List.mem_append_right _ ?_
 exact List.mem_of_mem_take (i := 2) (by rw [List.take_take, Nat.min_eq_left (by omega)]; exact hc)
theorem moment_c (w : World) (x : Value) (b : Bs) (Y : Nat) (hx : BytesAt w x b) (hlen : b.length = 11) (hY : Y ≤ 100000) :
  Calls Tryz.prog 198 #[.int .i64 (Y : Int), x] w fun e w' => e = .returned (.bool (momP Y b)) ∧ Below w.heap.size w w' := by
 obtain ⟨sp, c, rfl, hcap, _, hc⟩ := bytes_open hx
 have HBy := h_ hx
 have HL := h_ hlen
 obtain ⟨ba, oa, hsp, _, hcell⟩ := hc (fun e => by rw [e] at hlen; simp at hlen)
 have Hcell : Hid (∀ k wr, k < 11 → Below w.heap.size w wr → wr.cell? ⟨ba, oa + k, none⟩ = some (.int .u8 ((b.getD k 0).toNat : Int))) := fun k wr hk hb => by rw [hb.cell (p := ⟨ba, oa + k, none⟩) (World.block_lt_of_cell? w _ (hcell k (by omega)))]; exact hcell k (by omega)
 subst hsp
 rw [hlen] at hcap HBy ⊢
 obtain ⟨w1, hw1⟩ := exq (w.alloc (.cells #[.int .i64 0, .int .i64 0, .int .i64 0, .int .i64 0, .int .i64 0] 210))
 obtain ⟨O, hO⟩ := exq w.heap.size
 have Hb : Hid (Below w.heap.size w w1) := by rw [← hw1]; exact (Below.refl _ _).alloc (Nat.le_refl _) _
 have HRo : Hid (RowAt 210 w1 O [] (five (fiveTo b 0))) := by
  show _ = _
  rw [← hw1, ← hO, show five (fiveTo b 0) = [.int .i64 0, .int .i64 0, .int .i64 0, .int .i64 0, .int .i64 0] by simp [five, fiveTo, List.range, List.range.loop]]
  exact heap_alloc_new w _
 have HO := h_ hO
 clear hx hc hcell hlen
 go_enter Tryz.func198, Tryz.ntmps198
 go_wp2
 clear hO
 go_loopw [11] (fun ii wr => ∃ i : Nat, i ≤ 5 ∧ ii = .int .i64 (i : Int) ∧ Hid ((b.take (2 * i)).all isDig = true) ∧ Hid (RowAt 210 wr O [] (five (fiveTo b i))) ∧ Hid (Below w.heap.size w wr)) (fun ii _ => 5 - (intOf ii).toNat)
 case atStart => exact ⟨0, by omega, rfl, by rfl, HRo, Hb⟩
 case round =>
  obtain ⟨i, hi, rfl, HD, HR, HB⟩ := hrel
  clear HRo Hb hw1
  by_cases hlt : i < 5
  ·obtain ⟨d1, d1n⟩ := ltVL i 5 5
   have i0 : (0 : Int) ≤ (i : Int) := by omega
   have i1 : (i : Int) < 5 := by omega
   obtain ⟨F, hF⟩ := exq (2 * i)
   obtain ⟨E, hE⟩ := exq (F + 2)
   have eF : (2 : Int) * (i : Int) = (F : Int) := by omega
   have eE : (F : Int) + 2 = (E : Int) := by omega
   have uF : IntKind.i64.wrap (F : Int) = (F : Int) := IntWalk.i64_in _ (by omega)
   have uE : IntKind.i64.wrap (E : Int) = (E : Int) := IntWalk.i64_in _ (by omega)
   obtain ⟨y, hy⟩ : ∃ y, y = Value.slice (cutAt (some ⟨ba, oa, none⟩) c F) (E - F) (c - F) := ⟨_, rfl⟩
   have hsl : ∀ W, (Instr.sliceAt 22 (.slice (some ⟨ba, oa, none⟩) 11 c) (some (.int .i64 (F : Int))) (some (.int .i64 (E : Int))) none).run Tryz.prog W = .ok y W := fun W => by rw [hy]; exact slice_mid _ _ _ _ _ (by omega) (by omega) W
   have Hpart : Hid (BytesAt wr y ((b.drop (2 * i)).take 2)) := by
    have h1 := bytes_part (show BytesAt wr (.slice (some ⟨ba, oa, none⟩) b.length c) b by rw [u_ HL]; exact HBy.below (u_ HB)) F E (by omega) (by rw [u_ HL]; omega)
    rw [hy, hF]
    rw [show E - F = 2 by omega] at h1 ⊢
    exact h1
   have Hdg := h_ (digits_c wr y _ (u_ Hpart) (by rw [List.length_take]; omega))
   obtain ⟨u, hu⟩ := exq (allD ((b.drop (2 * i)).take 2))
   have Hu := h_ hu
   rw [hu] at Hdg
   have HF := h_ hF
   clear hy hu hF hE Hpart
   go_wp2_with fail
   refine Hdg.mono ?_
   rintro e w2 ⟨n, rfl, hn, hn1, hn2, rfl⟩
   have Hn1 := h_ hn1
   clear hn1 hn2 Hdg
   cases u with
   | false =>
    have HT : Hid (momP Y b = false) := by show _ = _; unfold momP; rw [all_bad hlt (show ((b.drop (2 * i)).take 2).all isDig = false from u_ Hu)]; rfl
    go_wp2
    go_ret
    exact ⟨by rw [u_ HT]; rfl, u_ HB⟩
   | true =>
    have hnd : n = dK b i := u_ Hn1 rfl
    have HD2 : Hid ((b.take (2 * (i + 1))).all isDig = true) := by show _ = _; rw [all_two, u_ HD, show ((b.drop (2 * i)).take 2).all isDig = true from u_ Hu]; rfl
    have ck : w2.cell? ⟨O, i, none⟩ = some (.int .i64 (fiveTo b i i : Int)) := row_five (u_ HR) hlt
    have fk : w2.frozen? ⟨O, i, none⟩ = false := HR.frozen i
    have HR2 : Hid (RowAt 210 (w2.setCell ⟨O, i, none⟩ (.int .i64 (n : Int))) O [] (five (fiveTo b (i + 1)))) := by
     have h1 := row_put (u_ HR) hlt (fiveTo b (i + 1)) (fun j hj => by
      unfold fiveTo
      by_cases h : j < i
      ·rw [if_pos (by omega), if_pos h]
      ·rw [if_neg (by omega), if_neg h])
     have e : fiveTo b (i + 1) i = n := by unfold fiveTo; rw [if_pos (by omega), hnd]
     rw [e] at h1
     exact h1
    have HB2 : Hid (Below w.heap.size w (w2.setCell ⟨O, i, none⟩ (.int .i64 (n : Int)))) := below_set (u_ HB) HB.size O (by rw [u_ HO]; exact Nat.le_refl _) i _
    clear hnd HD HR HB Hn1 Hu HF
    go_wp2
    go_roundw
    case rel =>
     first
      | exact ⟨i + 1, by omega, by go_num, HD2, HR2, HB2⟩
      | ((repeat apply Exists.intro); exact ⟨⟨i + 1, by omega, by go_num, HD2, HR2, HB2⟩, rfl⟩)
    case measure => simp [intOf]; omega
  ·obtain rfl : i = 5 := by omega
   have c0 := row_five (k := 0) (u_ HR) (by omega)
   have c1 := row_five (k := 1) (u_ HR) (by omega)
   have c2 := row_five (k := 2) (u_ HR) (by omega)
   have c3 := row_five (k := 3) (u_ HR) (by omega)
   have c4 := row_five (k := 4) (u_ HR) (by omega)
   have c10 := u_ Hcell 10 wr (by omega) (u_ HB)
   simp only [fiveTo, if_pos (show 0 < 5 by omega), if_pos (show 1 < 5 by omega), if_pos (show 2 < 5 by omega), if_pos (show 3 < 5 by omega), if_pos (show 4 < 5 by omega)] at c0 c1 c2 c3 c4
   have hd : ∀ k, k < 5 → dK b k ≤ 9999 := fun k hk => by
    unfold dK
    have h1 := all_win (i := 10) (a := 2 * k) (n := 2) (u_ HD)
    have h2 := digs_le4 (b := ((b.take 10).drop (2 * k)).take 2) (k := 2) (by rw [List.length_take, List.length_drop, List.length_take, u_ HL]; omega) (by rw [List.length_take]; omega) (by rw [List.take_take]; exact h1)
    rw [List.take_take, List.drop_take, List.take_take, show min (min 2 2) (10 - 2 * k) = 2 by omega] at h2
    exact h2
   have hm := hd 0 (by omega)
   have hdd := hd 1 (by omega)
   have hh := hd 2 (by omega)
   have hmi := hd 3 (by omega)
   have hs := hd 4 (by omega)
   have HT0 : Hid (momP Y b = (calP Y (dK b 0) (dK b 1) (dK b 2) (dK b 3) (dK b 4) && decide ((b.getD 10 0).toNat = 90))) := by show _ = _; unfold momP; rw [u_ HD]; rfl
   obtain ⟨m, hm'⟩ : ∃ m, dK b 0 = m := ⟨_, rfl⟩
   obtain ⟨d, hd'⟩ : ∃ d, dK b 1 = d := ⟨_, rfl⟩
   obtain ⟨h, hh'⟩ : ∃ h, dK b 2 = h := ⟨_, rfl⟩
   obtain ⟨mi, hmi'⟩ : ∃ mi, dK b 3 = mi := ⟨_, rfl⟩
   obtain ⟨s, hs'⟩ : ∃ s, dK b 4 = s := ⟨_, rfl⟩
   obtain ⟨z, hz⟩ := exq ((b.getD 10 0).toNat)
   rw [hm'] at c0 hm HT0
   rw [hd'] at c1 hdd HT0
   rw [hh'] at c2 hh HT0
   rw [hmi'] at c3 hmi HT0
   rw [hs'] at c4 hs HT0
   rw [hz] at c10 HT0
   clear hd hm' hd' hh' hmi' hs' hz HD HR Hcell HBy HL HO
   by_cases h0 : 1 ≤ m
   case neg =>
    obtain ⟨em1, fm1⟩ := leLVf 1 1 m
    have HT : Hid (momP Y b = false) := by
     show _ = _
     rw [u_ HT0]
     unfold calP
     skip
     simp
     omega
    clear HT0
    go_wp2
    go_region
    go_wp2
    go_ret
    exact ⟨by rw [u_ HT]; rfl, HB.drew⟩
   by_cases h1 : m ≤ 12
   case neg =>
    obtain ⟨em1, fm1⟩ := leLV 1 1 m
    obtain ⟨em12, fm12⟩ := leVLf m 12 12
    have HT : Hid (momP Y b = false) := by
     show _ = _
     rw [u_ HT0]
     unfold calP
     skip
     simp
     omega
    clear HT0
    go_wp2
    go_region
    go_wp2
    go_ret
    exact ⟨by rw [u_ HT]; rfl, HB.drew⟩
   by_cases h2 : 1 ≤ d
   case neg =>
    obtain ⟨em1, fm1⟩ := leLV 1 1 m
    obtain ⟨em12, fm12⟩ := leVL m 12 12
    obtain ⟨ed1, fd1⟩ := leLVf 1 1 d
    have HT : Hid (momP Y b = false) := by
     show _ = _
     rw [u_ HT0]
     unfold calP
     skip
     simp
     omega
    clear HT0
    go_wp2
    go_region
    go_wp2
    go_ret
    exact ⟨by rw [u_ HT]; rfl, HB.drew⟩
   have Hdy := h_ (days_c Y m hY (by omega) wr.drew)
   obtain ⟨D, hDD⟩ := exq (daysP Y m)
   have hD31 : D ≤ 31 := by rw [← hDD]; unfold daysP; split <;> (try split) <;> omega
   rw [hDD] at Hdy
   by_cases h3 : d ≤ D
   case neg =>
    obtain ⟨em1, fm1⟩ := leLV 1 1 m
    obtain ⟨em12, fm12⟩ := leVL m 12 12
    obtain ⟨ed1, fd1⟩ := leLV 1 1 d
    obtain ⟨edD, fdD⟩ := leVVf d D
    have HT : Hid (momP Y b = false) := by
     show _ = _
     rw [u_ HT0]
     unfold calP
     rw [hDD]
     simp
     omega
    clear HT0 hDD
    go_wp2
    go_region
    go_wp2_with fail
    refine Hdy.mono ?_
    rintro e w2 ⟨rfl, rfl⟩
    go_wp2
    go_ret
    exact ⟨by rw [u_ HT]; rfl, HB.drew⟩
   by_cases h4 : h < 24
   case neg =>
    obtain ⟨em1, fm1⟩ := leLV 1 1 m
    obtain ⟨em12, fm12⟩ := leVL m 12 12
    obtain ⟨ed1, fd1⟩ := leLV 1 1 d
    obtain ⟨edD, fdD⟩ := leVV d D
    obtain ⟨eh24, fh24⟩ := ltVLf h 24 24
    have HT : Hid (momP Y b = false) := by
     show _ = _
     rw [u_ HT0]
     unfold calP
     rw [hDD]
     simp
     omega
    clear HT0 hDD
    go_wp2
    go_region
    go_wp2_with fail
    refine Hdy.mono ?_
    rintro e w2 ⟨rfl, rfl⟩
    go_wp2
    go_ret
    exact ⟨by rw [u_ HT]; rfl, HB.drew⟩
   by_cases h5 : mi < 60
   case neg =>
    obtain ⟨em1, fm1⟩ := leLV 1 1 m
    obtain ⟨em12, fm12⟩ := leVL m 12 12
    obtain ⟨ed1, fd1⟩ := leLV 1 1 d
    obtain ⟨edD, fdD⟩ := leVV d D
    obtain ⟨eh24, fh24⟩ := ltVL h 24 24
    obtain ⟨emi60, fmi60⟩ := ltVLf mi 60 60
    have HT : Hid (momP Y b = false) := by
     show _ = _
     rw [u_ HT0]
     unfold calP
     rw [hDD]
     simp
     omega
    clear HT0 hDD
    go_wp2
    go_region
    go_wp2_with fail
    refine Hdy.mono ?_
    rintro e w2 ⟨rfl, rfl⟩
    go_wp2
    go_ret
    exact ⟨by rw [u_ HT]; rfl, HB.drew⟩
   by_cases h6 : s < 60
   case neg =>
    obtain ⟨em1, fm1⟩ := leLV 1 1 m
    obtain ⟨em12, fm12⟩ := leVL m 12 12
    obtain ⟨ed1, fd1⟩ := leLV 1 1 d
    obtain ⟨edD, fdD⟩ := leVV d D
    obtain ⟨eh24, fh24⟩ := ltVL h 24 24
    obtain ⟨emi60, fmi60⟩ := ltVL mi 60 60
    obtain ⟨es60, fs60⟩ := ltVLf s 60 60
    have HT : Hid (momP Y b = false) := by
     show _ = _
     rw [u_ HT0]
     unfold calP
     rw [hDD]
     simp
     omega
    clear HT0 hDD
    go_wp2
    go_region
    go_wp2_with fail
    refine Hdy.mono ?_
    rintro e w2 ⟨rfl, rfl⟩
    go_wp2
    go_ret
    exact ⟨by rw [u_ HT]; rfl, HB.drew⟩
   by_cases h7 : z = 90
   case neg =>
    obtain ⟨em1, fm1⟩ := leLV 1 1 m
    obtain ⟨em12, fm12⟩ := leVL m 12 12
    obtain ⟨ed1, fd1⟩ := leLV 1 1 d
    obtain ⟨edD, fdD⟩ := leVV d D
    obtain ⟨eh24, fh24⟩ := ltVL h 24 24
    obtain ⟨emi60, fmi60⟩ := ltVL mi 60 60
    obtain ⟨es60, fs60⟩ := ltVL s 60 60
    have ez90 : ((z : Int) == 90) = false := by simp; omega
    have HT : Hid (momP Y b = false) := by
     show _ = _
     rw [u_ HT0]
     unfold calP
     rw [hDD]
     simp
     omega
    clear HT0 hDD
    go_wp2
    go_region
    go_wp2_with fail
    refine Hdy.mono ?_
    rintro e w2 ⟨rfl, rfl⟩
    go_wp2
    go_ret
    exact ⟨by rw [u_ HT]; rfl, HB.drew⟩
   obtain ⟨em1, fm1⟩ := leLV 1 1 m
   obtain ⟨em12, fm12⟩ := leVL m 12 12
   obtain ⟨ed1, fd1⟩ := leLV 1 1 d
   obtain ⟨edD, fdD⟩ := leVV d D
   obtain ⟨eh24, fh24⟩ := ltVL h 24 24
   obtain ⟨emi60, fmi60⟩ := ltVL mi 60 60
   obtain ⟨es60, fs60⟩ := ltVL s 60 60
   have ez90 : ((z : Int) == 90) = true := by simp; omega
   have HT : Hid (momP Y b = true) := by
    show _ = _
    rw [u_ HT0]
    unfold calP
    rw [hDD]
    simp
    omega
   clear HT0 hDD
   go_wp2
   go_region
   go_wp2_with fail
   refine Hdy.mono ?_
   rintro e w2 ⟨rfl, rfl⟩
   go_wp2
   go_ret
   exact ⟨by rw [u_ HT]; rfl, HB.drew⟩
theorem short_year {b : Bs} : yearK 2 b = if digsP (b.take 2) < 50 then digsP (b.take 2) + 2000 else digsP (b.take 2) + 1900 := by
 unfold yearK partK atK lenK
 simp
theorem long_year {b : Bs} : yearK 4 b = digsP (b.take 4) := by
 unfold yearK partK atK lenK
 simp
theorem short_c (R : World → Prop) : BFn R 181 (rightP 23) := fun w x b _ hx hl => by
 have hr : rightP 23 b = timeP 2 b := by unfold rightP; simp
 rw [hr]
 obtain ⟨sp, c, rfl, hcap, _, _⟩ := bytes_open hx
 by_cases hlen : b.length = 13
 case neg =>
  have HT : Hid (timeP 2 b = false) := by show _ = _; unfold timeP; rw [decide_eq_false hlen]; rfl
  have Hb := h_ (Below.refl w.heap.size w)
  obtain ⟨N, hN⟩ := exq b.length
  rw [hN] at hlen ⊢
  have d1 : ((N : Int) == 13) = false := by simp; omega
  have d1' : ((N : Int) != 13) = true := by simp; omega
  clear hx hN hlen hl hr
  go_enter Tryz.func181, Tryz.ntmps181
  go_wp2
  go_ret
  exact ⟨by rw [u_ HT]; rfl, u_ Hb⟩
 have HC : Hid (timeP 2 b = (allD (b.take 2) && momP (yearK 2 b) (b.drop 2))) := time_cut 2 b hlen
 have hb2 := bytes_front hx 2 (by omega)
 have hb3 := bytes_rest hx 2 (by omega)
 rw [hlen] at hcap hb3 ⊢
 have hf := slice_front sp 13 c 2 (by omega)
 have hrs := slice_rest sp 13 c 2 (by omega)
 simp only [Int.cast_ofNat_Int] at hf hrs
 have HY := h_ (short_year (b := b))
 have Hdg := h_ (digits_c w _ _ hb2 (by rw [List.length_take]; omega))
 obtain ⟨u, hu⟩ := exq (allD (b.take 2))
 rw [hu] at Hdg HC
 obtain ⟨y, hy⟩ := exq (Value.slice (cutAt sp c 2) (13 - 2) (c - 2))
 rw [hy] at hrs hb3
 have HB3 := h_ hb3
 have Hl3 : Hid ((b.drop 2).length = 11) := by show _ = _; rw [List.length_drop, hlen]
 have Hb := h_ (Below.refl w.heap.size w)
 clear hx hl hb2 hb3 hy hr hu hlen
 go_enter Tryz.func181, Tryz.ntmps181
 go_wp2_with fail
 refine Hdg.mono ?_
 rintro e w2 ⟨n, rfl, hn, hn1, hn2, rfl⟩
 clear Hdg
 cases u with
 | false =>
  obtain rfl := hn2 rfl
  have HT : Hid (timeP 2 b = false) := by show _ = _; rw [u_ HC]; rfl
  clear hn1 hn2 HC HY
  go_wp2
  go_ret
  exact ⟨by rw [u_ HT]; rfl, u_ Hb⟩
 | true =>
  have hn' := hn1 rfl
  rw [← hn'] at HY
  clear hn1 hn2 hn'
  by_cases h50 : n < 50
  ·obtain ⟨d1, d1n⟩ := ltVL n 50 50
   obtain ⟨n2, hn2⟩ := exq (n + 100)
   obtain ⟨Y, hY⟩ := exq (1900 + n2)
   have e2 : (n : Int) + 100 = (n2 : Int) := by omega
   have eY : (1900 : Int) + (n2 : Int) = (Y : Int) := by omega
   have u2 : IntKind.i64.wrap (n2 : Int) = (n2 : Int) := IntWalk.i64_in _ (by omega)
   have uY : IntKind.i64.wrap (Y : Int) = (Y : Int) := IntWalk.i64_in _ (by omega)
   have Hm := h_ (moment_c w2 y (b.drop 2) Y (u_ HB3) (u_ Hl3) (by omega))
   have HT : Hid (timeP 2 b = momP Y (b.drop 2)) := by show _ = _; rw [u_ HC, u_ HY, if_pos h50, show n + 2000 = Y by omega]; rfl
   clear hn2 hY HC HY
   go_wp2_with fail
   refine Hm.mono ?_
   rintro e w3 ⟨rfl, hb⟩
   have Hb3 := h_ hb
   clear hb Hm
   go_wp2
   go_ret
   exact ⟨by rw [u_ HT]; rfl, u_ Hb3⟩
  ·obtain ⟨d1, d1n⟩ := ltVLf n 50 50
   obtain ⟨Y, hY⟩ := exq (1900 + n)
   have eY : (1900 : Int) + (n : Int) = (Y : Int) := by omega
   have uY : IntKind.i64.wrap (Y : Int) = (Y : Int) := IntWalk.i64_in _ (by omega)
   have Hm := h_ (moment_c w2 y (b.drop 2) Y (u_ HB3) (u_ Hl3) (by omega))
   have HT : Hid (timeP 2 b = momP Y (b.drop 2)) := by show _ = _; rw [u_ HC, u_ HY, if_neg h50, show n + 1900 = Y by omega]; rfl
   clear hY HC HY
   go_wp2_with fail
   refine Hm.mono ?_
   rintro e w3 ⟨rfl, hb⟩
   have Hb3 := h_ hb
   clear hb Hm
   go_wp2
   go_ret
   exact ⟨by rw [u_ HT]; rfl, u_ Hb3⟩
theorem long_c (R : World → Prop) : BFn R 182 (rightP 24) := fun w x b _ hx hl => by
 have hr : rightP 24 b = timeP 4 b := by unfold rightP; simp
 rw [hr]
 obtain ⟨sp, c, rfl, hcap, _, _⟩ := bytes_open hx
 by_cases hlen : b.length = 15
 case neg =>
  have HT : Hid (timeP 4 b = false) := by show _ = _; unfold timeP; rw [decide_eq_false hlen]; rfl
  have Hb := h_ (Below.refl w.heap.size w)
  obtain ⟨N, hN⟩ := exq b.length
  rw [hN] at hlen ⊢
  have d1 : ((N : Int) == 15) = false := by simp; omega
  have d1' : ((N : Int) != 15) = true := by simp; omega
  clear hx hN hlen hl hr
  go_enter Tryz.func182, Tryz.ntmps182
  go_wp2
  go_ret
  exact ⟨by rw [u_ HT]; rfl, u_ Hb⟩
 have HC : Hid (timeP 4 b = (allD (b.take 4) && momP (yearK 4 b) (b.drop 4))) := time_cut 4 b hlen
 have hb2 := bytes_front hx 4 (by omega)
 have hb3 := bytes_rest hx 4 (by omega)
 rw [hlen] at hcap hb3 ⊢
 have hf := slice_front sp 15 c 4 (by omega)
 have hrs := slice_rest sp 15 c 4 (by omega)
 simp only [Int.cast_ofNat_Int] at hf hrs
 have HY := h_ (long_year (b := b))
 have Hdg := h_ (digits_c w _ _ hb2 (by rw [List.length_take]; omega))
 obtain ⟨u, hu⟩ := exq (allD (b.take 4))
 rw [hu] at Hdg HC
 obtain ⟨y, hy⟩ := exq (Value.slice (cutAt sp c 4) (15 - 4) (c - 4))
 rw [hy] at hrs hb3
 have HB3 := h_ hb3
 have Hl3 : Hid ((b.drop 4).length = 11) := by show _ = _; rw [List.length_drop, hlen]
 have Hb := h_ (Below.refl w.heap.size w)
 clear hx hl hb2 hb3 hy hr hu hlen
 go_enter Tryz.func182, Tryz.ntmps182
 go_wp2_with fail
 refine Hdg.mono ?_
 rintro e w2 ⟨n, rfl, hn, hn1, hn2, rfl⟩
 clear Hdg
 cases u with
 | false =>
  have HT : Hid (timeP 4 b = false) := by show _ = _; rw [u_ HC]; rfl
  clear hn1 hn2 HC HY
  go_wp2
  go_ret
  exact ⟨by rw [u_ HT]; rfl, u_ Hb⟩
 | true =>
  have hn' := hn1 rfl
  rw [← hn'] at HY
  clear hn1 hn2 hn'
  have Hm := h_ (moment_c w2 y (b.drop 4) n (u_ HB3) (u_ Hl3) (by omega))
  have HT : Hid (timeP 4 b = momP n (b.drop 4)) := by show _ = _; rw [u_ HC, u_ HY]; rfl
  clear HC HY
  go_wp2_with fail
  refine Hm.mono ?_
  rintro e w3 ⟨rfl, hb⟩
  have Hb3 := h_ hb
  clear hb Hm
  go_wp2
  go_ret
  exact ⟨by rw [u_ HT]; rfl, u_ Hb3⟩
end K
end Go.Proofs.YtcofnockikninaaGreatDoor
