/-
  Plain words on reading kids and writing them, for the landed code.
-/
import Derived.Test.YtcofnockikninabGreatDoorTold9
import Derived.Test.YtcofnockikninabGreatDoorNum9
import Derived.Test.YtcofnockikninabGreatDoorMH
import Derived.Lib.BitFns
import Derived.OwnWalk
namespace Go.Proofs.YtcofnockikninabGreatDoor
open Go.RowKit
namespace K
theorem fallsP_two (a b : Bs) (l : List Bs) : fallsP (a :: b :: l) = (lessP b a || fallsP (b :: l)) := rfl
/-- One more. -/
theorem falls_snoc (x : Bs) : ∀ l : List Bs, fallsP (l ++ [x]) = (fallsP l || match l.getLast? with | none => false | some y => lessP x y)
  | [] => rfl
  | [a] => by simp [fallsP]
  | a :: b :: l => by
    have ih := falls_snoc x (b :: l)
    rw [List.cons_append, List.cons_append, fallsP_two, fallsP_two, ← List.cons_append, ih, List.getLast?_cons_cons, Bool.or_assoc]
theorem falls_first (x : Bs) : fallsP ([] ++ [x]) = false := rfl
theorem falls_next (l : List Bs) (y x : Bs) : fallsP ((l ++ [y]) ++ [x]) = (fallsP (l ++ [y]) || lessP x y) := by
  rw [falls_snoc, List.getLast?_append]
  rfl
/-- Kids that were read, and what is told of the rest. -/
def prepK (d : List (DV × Bs)) : Told (List (DV × Bs)) → Told (List (DV × Bs))
  | .no e => .no e
  | .yes ks => .yes (d ++ ks)
theorem prep_nil (t : Told (List (DV × Bs))) : prepK [] t = t := by cases t <;> rfl
theorem kids_end (g : Bs → Told (DV × Bs)) (m : Nat) : kidsP g m [] = .yes [] := by unfold kidsP; rfl
theorem kids_cons (g : Bs → Told (DV × Bs)) (m : Nat) (c : UInt8) (l : Bs) : kidsP g (m + 1) (c :: l) = match g (c :: l) with
    | .no e => .no e
    | .yes (v, r) => match kidsP g m r with
      | .no e => .no e
      | .yes ks => .yes ((v, (c :: l).take ((c :: l).length - r.length)) :: ks) := rfl
theorem kids_no {g : Bs → Told (DV × Bs)} {m : Nat} {l : Bs} {e : Nat} (d : List (DV × Bs)) (hl : l ≠ []) (hm : l.length ≤ m) (h : g l = .no e) : prepK d (kidsP g m l) = .no e := by
  cases l with
  | nil => exact absurd rfl hl
  | cons c l =>
    cases m with
    | zero => simp at hm
    | succ m => rw [kids_cons, h]; rfl
theorem kids_yes {g : Bs → Told (DV × Bs)} {m : Nat} {l r : Bs} {v : DV} (d : List (DV × Bs)) (hl : l ≠ []) (hm : l.length ≤ m) (h : g l = .yes (v, r)) : prepK d (kidsP g m l) = prepK (d ++ [(v, l.take (l.length - r.length))]) (kidsP g (m - 1) r) := by
  cases l with
  | nil => exact absurd rfl hl
  | cons c l =>
    cases m with
    | zero => simp at hm
    | succ m =>
      rw [kids_cons, h]
      simp only [Nat.add_sub_cancel]
      cases kidsP g m r with
      | no e => rfl
      | yes ks => simp [prepK]
/-- A value, its tag and length read. -/
theorem value_open1 {f : Nat} {l : Bs} {e : Nat} (h : tagP l = .no e) : valueP formD (f + 1) l = .no e := by unfold valueP; rw [h]
theorem value_open2 {f : Nat} {l l1 : Bs} {c t : Nat} {m : Bool} {e : Nat} (h : tagP l = .yes (c, t, m, l1)) (h2 : lenP l1 = .no e) : valueP formD (f + 1) l = .no e := by unfold valueP; rw [h]; simp only []; rw [h2]
theorem value_open3 {f : Nat} {l l1 l2 : Bs} {c t n : Nat} {m : Bool} (h : tagP l = .yes (c, t, m, l1)) (h2 : lenP l1 = .yes (n, l2)) : valueP formD (f + 1) l =
    if l2.length < n then .no 20 else
        if formD c t m (if m then [] else l2.take n) ≠ 0 then .no (formD c t m (if m then [] else l2.take n)) else
        if m = false then .yes (.mk c t false (l2.take n) [], l2.drop n) else
        match kidsP (valueP formD f) n (l2.take n) with
        | .no e => .no e
        | .yes ks => if (fallsP (ks.map (·.2)) && decide (c = 0) && decide (t = 17)) = true then .no 25 else .yes (.mk c t true [] (ks.map (·.1)), l2.drop n) := by
  conv => lhs; unfold valueP
  rw [h]
  simp only []
  rw [h2]
  rfl
def prepA (d : List Bs) : Told (List Bs) → Told (List Bs)
  | .no e => .no e
  | .yes bs => .yes (d ++ bs)
theorem prepA_nil (t : Told (List Bs)) : prepA [] t = t := by cases t <;> rfl
theorem all_end (g : DV → Told Bs) : allP g [] = .yes [] := by unfold allP; rfl
theorem all_cons (g : DV → Told Bs) (v : DV) (l : List DV) : allP g (v :: l) = match g v with
    | .no e => .no e
    | .yes b => match allP g l with
      | .no e => .no e
      | .yes bs => .yes (b :: bs) := by
  conv => lhs; unfold allP
  rfl
theorem drop_at {ks : List DV} {i : Nat} {k : DV} (h : ks[i]? = some k) : ks.drop i = k :: ks.drop (i + 1) := by
  obtain ⟨hi, rfl⟩ := List.getElem?_eq_some_iff.1 h
  exact List.drop_eq_getElem_cons hi
theorem all_no {g : DV → Told Bs} {ks : List DV} {i : Nat} {k : DV} {e : Nat} (dn : List Bs) (h : ks[i]? = some k) (hg : g k = .no e) : prepA dn (allP g (ks.drop i)) = .no e := by
  rw [drop_at h, all_cons, hg]
  rfl
theorem all_yes {g : DV → Told Bs} {ks : List DV} {i : Nat} {k : DV} {x : Bs} (dn : List Bs) (h : ks[i]? = some k) (hg : g k = .yes x) : prepA dn (allP g (ks.drop i)) = prepA (dn ++ [x]) (allP g (ks.drop (i + 1))) := by
  rw [drop_at h, all_cons, hg]
  simp only []
  cases allP g (ks.drop (i + 1)) with
  | no e => rfl
  | yes bs => simp [prepA]
theorem all_done {g : DV → Told Bs} {ks : List DV} (dn : List Bs) : prepA dn (allP g (ks.drop ks.length)) = .yes dn := by
  rw [List.drop_length, all_end]
  show Told.yes (dn ++ []) = _
  rw [List.append_nil]
theorem write_unf (f : Nat) (c t : Int) (m : Bool) (b : Bs) (ks : List DV) : writeP formD (f + 1) (.mk c t m b ks) =
    if c < 0 ∨ 3 < c ∨ t < 0 ∨ 2097152 ≤ t then .no 21 else
    if formD c.toNat t.toNat m b = 21 then .no 21 else
    if formD c.toNat t.toNat m b ≠ 0 ∨ (m = true ∧ 0 < b.length) ∨ (m = false ∧ 0 < ks.length) then .no 24 else
    match allP (writeP formD f) ks with
    | .no e => .no e
    | .yes bs => if (fallsP bs && decide (c = 0) && decide (t = 17)) = true then .no 25 else .yes (tagB c.toNat t.toNat m ++ lenB (b ++ bs.flatten).length ++ (b ++ bs.flatten)) := by
  conv => lhs; unfold writeP
  rfl
theorem lenB_le {n : Nat} (h : n < 4294967296) : (lenB n).length ≤ 5 := by
  unfold lenB
  split
  · simp
  · rename_i h1
    have := (lowB_len4 (n := n) (by omega) h).2
    rw [List.length_cons, List.length_reverse]
    omega
mutual
/-- What is written is at most nine times as long as the value is heavy. -/
theorem out_le : ∀ (f : Nat) (v : DV) (w : Bs), weight v ≤ 1000000 → writeP formD f v = .yes w → w.length ≤ 9 * weight v
  | 0, v, w, _, h => by simp [writeP] at h
  | f + 1, .mk c t m b ks, w, hw, h => by
    obtain ⟨_, _, _, _, _, _, _, bs, hbs, _, rfl⟩ := write_open h
    simp only [weight] at hw
    have h1 := outs_le f ks bs (by omega) hbs
    have h2 := len_tagB_le c.toNat t.toNat m
    have h3 := lenB_le (n := (b ++ bs.flatten).length) (by rw [List.length_append]; omega)
    simp only [weight, List.length_append] at h3 ⊢
    omega
theorem outs_le : ∀ (f : Nat) (ks : List DV) (bs : List Bs), weights ks ≤ 1000000 → allP (writeP formD f) ks = .yes bs → bs.flatten.length ≤ 9 * weights ks
  | f, [], bs, _, h => by rw [all_end] at h; cases h; simp [weights]
  | f, v :: l, bs, hw, h => by
    rw [all_cons] at h
    simp only [weights] at hw ⊢
    split at h
    · cases h
    · rename_i b hb
      split at h
      · cases h
      · rename_i bs' hbs
        cases h
        have h1 := out_le f v b (by omega) hb
        have h2 := outs_le f l bs' (by omega) hbs
        simp only [List.flatten_cons, List.length_append]
        omega
end
/-- The kids that were written so far. -/
theorem some_le (f : Nat) : ∀ (ks : List DV) (i : Nat) (dn : List Bs), weights ks ≤ 1000000 → allP (writeP formD f) (ks.take i) = .yes dn → dn.flatten.length ≤ 9000000 := fun ks i dn hw h => by
  have h1 : weights (ks.take i) ≤ weights ks := by
    clear h hw
    induction ks generalizing i with
    | nil => simp
    | cons v l ih =>
      cases i with
      | zero => simp [weights]
      | succ i => simp only [List.take_succ_cons, weights]; have := ih i; omega
  have := outs_le f _ _ (by omega) h
  omega
theorem all_snoc {g : DV → Told Bs} {ks : List DV} {i : Nat} {k : DV} {x : Bs} {dn : List Bs} (h : allP g (ks.take i) = .yes dn) (hk : ks[i]? = some k) (hg : g k = .yes x) : allP g (ks.take (i + 1)) = .yes (dn ++ [x]) := by
  have key : ∀ (l : List DV) (dn : List Bs), allP g l = .yes dn → allP g (l ++ [k]) = .yes (dn ++ [x]) := fun l => by
    induction l with
    | nil => intro dn h; rw [all_end] at h; cases h; rw [List.nil_append, all_cons, hg, all_end]; rfl
    | cons v l ih =>
      intro dn h
      rw [all_cons] at h
      rw [List.cons_append, all_cons]
      split at h
      · cases h
      · rename_i b hb
        split at h
        · cases h
        · rename_i bs hbs
          cases h
          rw [ih bs hbs]
          rfl
  rw [List.take_add_one, hk]
  exact key _ _ h
end K
end Go.Proofs.YtcofnockikninabGreatDoor
/-
  The walks of bits.Len, and of the landed putLength and putTag.
-/
namespace Go.Proofs.YtcofnockikninabGreatDoor
open Go.RowKit
namespace K
/-- How many bytes a number has. -/
theorem low_len {n k : Nat} (h1 : 256 ^ k ≤ n) (h2 : n < 256 ^ (k + 1)) : (lowB n n).length = k + 1 := by
  have hp : 0 < 256 ^ k := Nat.pow_pos (by omega)
  have a := lowV_lt (lowB n n)
  rw [lowV_low n n (Nat.le_refl _)] at a
  have hne : lowB n n ≠ [] := fun e => by rw [e] at a; simp at a; omega
  have b := lowB_big n n (Nat.le_refl _) hne
  have hl : 0 < (lowB n n).length := List.length_pos_iff.2 hne
  have c1 : k < (lowB n n).length := by
    rcases Nat.lt_or_ge k (lowB n n).length with h | h
    · exact h
    · have := Nat.pow_le_pow_right (show 0 < 256 by omega) h
      omega
  have c2 : (lowB n n).length - 1 < k + 1 := by
    rcases Nat.lt_or_ge ((lowB n n).length - 1) (k + 1) with h | h
    · exact h
    · have := Nat.pow_le_pow_right (show 0 < 256 by omega) h
      omega
  omega
theorem len8_fin : ∀ k : Fin 256, ∃ z : Fin 9, Lib.len8 ((k.val : Nat) : Int) = ((z.val : Nat) : Int) ∧ (k.val ≠ 0 → z.val ≠ 0) := by decide +kernel
theorem len8_let (k : Nat) (h : k < 256) (h1 : 1 ≤ k) : ∃ z : Nat, Lib.len8 (k : Int) = (z : Int) ∧ 1 ≤ z ∧ z ≤ 8 := by
  obtain ⟨z, h2, h3⟩ := len8_fin ⟨k, h⟩
  have := h3 (by show k ≠ 0; omega)
  exact ⟨z.val, h2, by omega, by omega⟩
set_option maxRecDepth 100000 in
set_option maxHeartbeats 8000000 in
theorem blens_c (n : Nat) (h1 : 128 ≤ n) (h2 : n < 16777216) (w : World) : Calls Tryz.prog 110 #[.int .u64 (n : Int)] w fun e w' => ∃ L : Nat, e = .returned (.int .i64 (L : Int)) ∧ L ≤ 24 ∧ (L + 7) / 8 = (lowB n n).length ∧ w' = w := by
  have d32 : decide ((4294967296 : Int) ≤ (n : Int)) = false := by simp; omega
  have d32n : decide (4294967296 ≤ n) = false := by simp; omega
  rcases (by omega : n < 256 ∨ (256 ≤ n ∧ n < 65536) ∨ 65536 ≤ n) with h | ⟨h, h'⟩ | h
  · have d16 : decide ((65536 : Int) ≤ (n : Int)) = false := by simp; omega
    have d16n : decide (65536 ≤ n) = false := by simp; omega
    have d8 : decide ((256 : Int) ≤ (n : Int)) = false := by simp; omega
    have d8n : decide (256 ≤ n) = false := by simp; omega
    have hl := low_len (n := n) (k := 0) (by omega) (by omega)
    obtain ⟨z, hz, z1, z8⟩ := len8_let n (by omega) (by omega)
    have u8 : IntKind.u8.wrap (n : Int) = (n : Int) := by rw [IntKind.wrap_u8']; omega
    have uz : IntKind.i64.wrap (z : Int) = (z : Int) := IntWalk.i64_in _ (by omega)
    have n0 : (0 : Int) ≤ (n : Int) := by omega
    have n255 : (n : Int) ≤ 255 := by omega
    have HL := hide hl
    clear h h1 h2 hl
    go_enter Tryz.func110, Tryz.ntmps110
    go_wp2
    go_ret
    exact ⟨z, by first | rfl | simp, by omega, by rw [unhide HL]; omega, rfl⟩
  · obtain ⟨q, hq⟩ : ∃ q, n / 256 = q := ⟨_, rfl⟩
    have d16 : decide ((65536 : Int) ≤ (n : Int)) = false := by simp; omega
    have d16n : decide (65536 ≤ n) = false := by simp; omega
    have d8 : decide ((256 : Int) ≤ (n : Int)) = true := by simp; omega
    have d8n : decide (256 ≤ n) = true := by simp; omega
    have hl := low_len (n := n) (k := 1) (by omega) (by omega)
    obtain ⟨z, hz, z1, z8⟩ := len8_let q (by omega) (by omega)
    have eq : (n : Int) / 256 = (q : Int) := by omega
    have uq64 : IntKind.u64.wrap (q : Int) = (q : Int) := by show (q : Int) % 18446744073709551616 = _; omega
    have u8 : IntKind.u8.wrap (q : Int) = (q : Int) := by rw [IntKind.wrap_u8']; omega
    obtain ⟨z2, hz2⟩ : ∃ z2, 8 + z = z2 := ⟨_, rfl⟩
    have ez : (8 : Int) + (z : Int) = (z2 : Int) := by omega
    have uz : IntKind.i64.wrap (z : Int) = (z : Int) := IntWalk.i64_in _ (by omega)
    have uz2 : IntKind.i64.wrap (z2 : Int) = (z2 : Int) := IntWalk.i64_in _ (by omega)
    have n0 : (0 : Int) ≤ (q : Int) := by omega
    have n255 : (q : Int) ≤ 255 := by omega
    have HL := hide hl
    have Hz2 : Hid (z2 ≤ 16 ∧ (z2 + 7) / 8 = 2) := ⟨by omega, by omega⟩
    clear h h' h1 h2 hl hq hz2
    go_enter Tryz.func110, Tryz.ntmps110
    go_wp2
    go_ret
    exact ⟨z2, by first | rfl | simp, by have := (unhide Hz2).1; omega, by rw [unhide HL]; exact (unhide Hz2).2, rfl⟩
  · obtain ⟨q, hq⟩ : ∃ q, n / 65536 = q := ⟨_, rfl⟩
    have d16 : decide ((65536 : Int) ≤ (n : Int)) = true := by simp; omega
    have d16n : decide (65536 ≤ n) = true := by simp; omega
    have d8 : decide ((256 : Int) ≤ (q : Int)) = false := by simp; omega
    have d8n : decide (256 ≤ q) = false := by simp; omega
    have hl := low_len (n := n) (k := 2) (by omega) (by omega)
    obtain ⟨z, hz, z1, z8⟩ := len8_let q (by omega) (by omega)
    have eq : (n : Int) / 65536 = (q : Int) := by omega
    have uq64 : IntKind.u64.wrap (q : Int) = (q : Int) := by show (q : Int) % 18446744073709551616 = _; omega
    have u8 : IntKind.u8.wrap (q : Int) = (q : Int) := by rw [IntKind.wrap_u8']; omega
    obtain ⟨z2, hz2⟩ : ∃ z2, 16 + z = z2 := ⟨_, rfl⟩
    have ez : (16 : Int) + (z : Int) = (z2 : Int) := by omega
    have uz : IntKind.i64.wrap (z : Int) = (z : Int) := IntWalk.i64_in _ (by omega)
    have uz2 : IntKind.i64.wrap (z2 : Int) = (z2 : Int) := IntWalk.i64_in _ (by omega)
    have n0 : (0 : Int) ≤ (q : Int) := by omega
    have n255 : (q : Int) ≤ 255 := by omega
    have HL := hide hl
    have Hz2 : Hid (z2 ≤ 24 ∧ (z2 + 7) / 8 = 3) := ⟨by omega, by omega⟩
    clear h h1 h2 hl hq hz2
    go_enter Tryz.func110, Tryz.ntmps110
    go_wp2
    go_ret
    exact ⟨z2, by first | rfl | simp, (unhide Hz2).1, by rw [unhide HL]; exact (unhide Hz2).2, rfl⟩
set_option maxRecDepth 100000 in
theorem blen_c (n : Nat) (h1 : 128 ≤ n) (h2 : n < 16777216) (w : World) : Calls Tryz.prog 132 #[.int .u64 (n : Int)] w fun e w' => ∃ L : Nat, e = .returned (.int .i64 (L : Int)) ∧ L ≤ 24 ∧ (L + 7) / 8 = (lowB n n).length ∧ w' = w := by
  have H := hide (blens_c n h1 h2 w)
  clear h1 h2
  go_enter Tryz.func132, Tryz.ntmps132
  go_wp2_with fail
  refine (unhide H).mono ?_
  rintro e w1 ⟨L, rfl, h24, hL, rfl⟩
  have HL := hide hL
  clear hL H
  go_wp2
  go_ret
  exact ⟨L, rfl, h24, unhide HL, rfl⟩
end K
end Go.Proofs.YtcofnockikninabGreatDoor
/-
  The walks of the landed putLength and putTag.
-/
namespace Go.Proofs.YtcofnockikninabGreatDoor
open Go.RowKit
namespace K
/-- One byte, just laid. -/
theorem one_lit (w : World) (β : UInt8) {z : Nat} (h : β.toNat = z) : BytesAt (w.alloc (.cells #[.int .u8 (z : Int)] 5)) (.slice (some ⟨w.heap.size, 0, none⟩) 1 1) [β] := by
  subst h
  exact bytes_new w [β]
theorem byte_let (q : Nat) : (UInt8.ofNat q).toNat = q % 256 := by rw [UInt8.toNat_ofNat']
theorem lowB_at : ∀ (k n i : Nat), i < (lowB k n).length → (lowB k n).getD i 0 = UInt8.ofNat (n / 256 ^ i)
  | 0, n, i, h => by simp [lowB] at h
  | k + 1, n, i, h => by
    by_cases h0 : n = 0
    · rw [h0] at h
      simp [lowB] at h
    · have e : lowB (k + 1) n = UInt8.ofNat n :: lowB k (n / 256) := by show (if n = 0 then _ else _) = _; rw [if_neg h0]
      rw [e] at h ⊢
      match i with
      | 0 => simp
      | i + 1 =>
        rw [List.getD_cons_succ, lowB_at k (n / 256) i (by simpa using h), Nat.pow_succ, Nat.mul_comm, Nat.div_div_eq_div_mul]
theorem rev_at {l : Bs} {j : Nat} (h : j < l.length) : l.reverse.take (j + 1) = l.reverse.take j ++ [l.getD (l.length - 1 - j) 0] := by
  have h' : j < l.reverse.length := by rw [List.length_reverse]; exact h
  rw [List.take_add_one, List.getElem?_eq_getElem h', List.getElem_reverse, List.getD_eq_getElem?_getD, List.getElem?_eq_getElem (by omega)]
  rfl
set_option maxRecDepth 100000 in
set_option maxHeartbeats 8000000 in
theorem plen_c (wb w : World) (v : Value) (l : Bs) (n : Nat) (hR : Row wb w v l) (hl : l.length ≤ 20000000) (hn : n < 16777216) :
    Calls Tryz.prog 108 #[v, .int .i64 (n : Int)] w fun e w' => ∃ v', e = .returned v' ∧ Row wb w' v' (l ++ lenB n) := by
  obtain ⟨sp, c, rfl⟩ := hR.own.form
  obtain ⟨N, hN⟩ : ∃ N, l.length = N := ⟨_, rfl⟩
  have HN := hide hN
  by_cases h128 : n < 128
  · have d1 : decide ((n : Int) < 128) = true := by simp; omega
    have d1n : decide (n < 128) = true := by simp; omega
    have u8 : IntKind.u8.wrap (n : Int) = (n : Int) := by rw [IntKind.wrap_u8']; omega
    have HLn : Hid (lenB n = [UInt8.ofNat n]) := by show _ = _; unfold lenB; rw [if_pos h128]
    have HY : Hid (BytesAt (w.alloc (.cells #[.int .u8 (n : Int)] 5)) (.slice (some ⟨w.heap.size, 0, none⟩) 1 1) [UInt8.ofNat n]) := one_lit w _ (by rw [byte_let]; omega)
    have HR := hide (hR.lit (.cells #[.int .u8 (n : Int)] 5))
    rw [hN] at HR hl ⊢
    have Hll : Hid (l.length + [UInt8.ofNat n].length ≤ 1073741824) := by show _ ≤ _; rw [unhide HN]; simp; omega
    clear hR hN h128
    go_enter Tryz.func108, Tryz.ntmps108
    go_wp2_with (at_builtin; refine wpList_append_row rfl _ _ rfl (.slice sp N c) (.slice (some ⟨w.heap.size, 0, none⟩) 1 1) l [UInt8.ofNat n] rfl (unhide HR) rfl (unhide HY) (unhide Hll) ?_
                 intro v1 W1 hR1
                 have HR1 := hide hR1
                 clear hR1)
    go_ret
    exact ⟨_, rfl, by rw [unhide HLn]; exact unhide HR1⟩
  have d1 : decide ((n : Int) < 128) = false := by simp; omega
  have d1n : decide (n < 128) = false := by simp; omega
  have Hbl := hide (blen_c n (by omega) hn w)
  have HLn : Hid (lenB n = UInt8.ofNat (128 + (lowB n n).length) :: (lowB n n).reverse) := by show _ = _; unfold lenB; rw [if_neg h128]
  have hC := lowB_len4 (n := n) (by omega) (by omega)
  obtain ⟨C, hCe⟩ : ∃ C, (lowB n n).length = C := ⟨_, rfl⟩
  rw [hCe] at hC
  have hC3 : C ≤ 3 := by
    have a := lowB_big n n (Nat.le_refl _) (fun e => by rw [e] at hCe; simp at hCe; omega)
    rw [hCe] at a
    rcases Nat.lt_or_ge C 4 with h | h
    · omega
    · have := Nat.pow_le_pow_right (show 0 < 256 by omega) (show 3 ≤ C - 1 by omega)
      omega
  have HC := hide hCe
  obtain ⟨Z, hZ⟩ : ∃ Z, 128 + C = Z := ⟨_, rfl⟩
  have eZ : (128 : Int) + (C : Int) = (Z : Int) := by omega
  have uZ : IntKind.i64.wrap (Z : Int) = (Z : Int) := IntWalk.i64_in _ (by omega)
  have uZ8 : IntKind.u8.wrap (Z : Int) = (Z : Int) := by rw [IntKind.wrap_u8']; omega
  have un64 : IntKind.u64.wrap (n : Int) = (n : Int) := by show (n : Int) % 18446744073709551616 = _; omega
  have HY : Hid (BytesAt (w.alloc (.cells #[.int .u8 (Z : Int)] 5)) (.slice (some ⟨w.heap.size, 0, none⟩) 1 1) [UInt8.ofNat Z]) := one_lit w _ (by rw [byte_let]; omega)
  have HR := hide (hR.lit (.cells #[.int .u8 (Z : Int)] 5))
  have HLz : Hid (lenB n = [UInt8.ofNat Z] ++ (lowB n n).reverse) := by show _ = _; rw [unhide HLn, unhide HC, hZ]; rfl
  rw [hN] at HR hl ⊢
  have Hll : Hid (l.length + [UInt8.ofNat Z].length ≤ 1073741824) := by show _ ≤ _; rw [unhide HN]; simp; omega
  clear hR hN h128 HLn hZ hCe
  go_enter Tryz.func108, Tryz.ntmps108
  go_wp2_with fail
  refine (unhide Hbl).mono ?_
  rintro e w1 ⟨L, rfl, h24, hL, hw1⟩
  have := hw1.symm
  subst this
  rw [unhide HC] at hL
  obtain ⟨L7, hL7⟩ : ∃ L7, L + 7 = L7 := ⟨_, rfl⟩
  rw [hL7] at hL
  have eL7 : (L : Int) + 7 = (L7 : Int) := by omega
  have uL7 : IntKind.i64.wrap (L7 : Int) = (L7 : Int) := IntWalk.i64_in _ (by omega)
  have eC : (L7 : Int) / 8 = (C : Int) := by omega
  have uC : IntKind.i64.wrap (C : Int) = (C : Int) := IntWalk.i64_in _ (by omega)
  clear hL hL7 hw1 Hbl
  go_wp2_with (at_builtin; refine wpList_append_row rfl _ _ rfl (.slice sp N c) (.slice (some ⟨w.heap.size, 0, none⟩) 1 1) l [UInt8.ofNat Z] rfl (unhide HR) rfl (unhide HY) (unhide Hll) ?_
               intro v1 W1 hR1
               obtain ⟨p1, q1, rfl⟩ := hR1.own.form
               rw [show (l ++ [UInt8.ofNat Z]).length = N + 1 by rw [List.length_append, unhide HN]; rfl] at hR1 ⊢
               have HR1 := hide hR1
               clear hR1)
  go_loopw [0, 6] (fun bb ii wr => ∃ (j : Nat) (kk : Int) (sv : Option Addr) (M cv : Nat), j ≤ C ∧ kk = (C : Int) - 1 - (j : Int) ∧ bb = .slice sv M cv ∧ ii = .int .i64 kk ∧ M = N + 1 + j ∧ Hid (Row wb wr (.slice sv M cv) (l ++ [UInt8.ofNat Z] ++ (lowB n n).reverse.take j))) (fun _ ii _ => ((intOf ii) + 1).toNat)
  case atStart => exact ⟨0, _, p1, _, q1, by omega, rfl, rfl, by first | rfl | (congr 1; omega) | simp, rfl, by rw [List.take_zero, List.append_nil]; exact unhide HR1⟩
  case round =>
    obtain ⟨j, kk, sv, M, cv, hj, hkk, rfl, rfl, hM, HRr⟩ := hrel
    by_cases hlt : j < C
    · have HE : Hid ((lowB n n).reverse.take (j + 1) = (lowB n n).reverse.take j ++ [UInt8.ofNat (n / 256 ^ (C - 1 - j))]) := by
        show _ = _
        rw [rev_at (by rw [unhide HC]; exact hlt), unhide HC, lowB_at n n _ (by rw [unhide HC]; omega)]
      have Hll2 : Hid (∀ y : UInt8, (l ++ [UInt8.ofNat Z] ++ (lowB n n).reverse.take j).length + [y].length ≤ 1073741824) := fun y => by
        simp only [List.length_append, List.length_take, List.length_reverse, unhide HN, List.length_singleton]
        omega
      have HM := hide hM
      clear HR1 HR HY Hll
      rcases (by omega : kk = 0 ∨ kk = 1 ∨ kk = 2) with e | e | e
      · subst e
        obtain ⟨q, hq⟩ : ∃ q, n / 1 = q := ⟨_, rfl⟩
        obtain ⟨z, hz⟩ : ∃ z, q % 256 = z := ⟨_, rfl⟩
        have hqn : n = q := by omega
        have uq : IntKind.i64.wrap (q : Int) = (q : Int) := IntWalk.i64_in _ (by omega)
        have uz : IntKind.u8.wrap (n : Int) = (z : Int) := by rw [IntKind.wrap_u8']; omega
        have eJ : C - 1 - j = 0 := by omega
        rw [eJ] at HE
        have HY2 : Hid (BytesAt (wr.alloc (.cells #[.int .u8 (z : Int)] 5)) (.slice (some ⟨wr.heap.size, 0, none⟩) 1 1) [UInt8.ofNat (n / 256 ^ 0)]) := one_lit wr _ (by rw [byte_let]; omega)
        have HR2 := hide ((unhide HRr).lit (.cells #[.int .u8 (z : Int)] 5))
        have Hkk := hide hkk
        clear hq hz HRr eJ hM hkk hqn
        have HM3 : Hid ((l ++ [UInt8.ofNat Z] ++ (lowB n n).reverse.take j ++ [UInt8.ofNat (n / 256 ^ 0)]).length = N + 1 + (j + 1)) := by
          show _ = _
          have h1 : j ≤ (lowB n n).length := by rw [unhide HC]; omega
          simp only [List.length_append, List.length_take, List.length_reverse, unhide HN, List.length_singleton, Nat.min_eq_left h1]
          omega
        go_wp2_with (at_builtin; refine wpList_append_row rfl _ _ rfl (.slice sv M cv) (.slice (some ⟨wr.heap.size, 0, none⟩) 1 1) _ [UInt8.ofNat (n / 256 ^ 0)] rfl (unhide HR2) rfl (unhide HY2) (unhide Hll2 _) ?_
                     intro v3 W3 hR3
                     obtain ⟨p3, q3, rfl⟩ := hR3.own.form
                     rw [unhide HM3] at hR3 ⊢
                     have HR3 := hide hR3
                     clear hR3)
        have HR4 : Hid (Row wb W3 (.slice p3 (N + 1 + (j + 1)) q3) (l ++ [UInt8.ofNat Z] ++ (lowB n n).reverse.take (j + 1))) := by
          have h1 := unhide HR3
          rw [List.append_assoc, ← unhide HE] at h1
          exact h1
        clear HR3 HE HM3
        go_roundw
        case rel =>
          first
            | exact ⟨j + 1, -1, p3, _, q3, by omega, by have := unhide Hkk; omega, rfl, rfl, rfl, HR4⟩
            | exact ⟨⟨j + 1, -1, p3, _, q3, by omega, by have := unhide Hkk; omega, rfl, rfl, rfl, HR4⟩, rfl⟩
        case measure => simp [intOf]
      · subst e
        obtain ⟨q, hq⟩ : ∃ q, n / 256 = q := ⟨_, rfl⟩
        obtain ⟨z, hz⟩ : ∃ z, q % 256 = z := ⟨_, rfl⟩
        have eq : (n : Int) / 256 = (q : Int) := by omega
        have uq : IntKind.i64.wrap (q : Int) = (q : Int) := IntWalk.i64_in _ (by omega)
        have uz : IntKind.u8.wrap (q : Int) = (z : Int) := by rw [IntKind.wrap_u8']; omega
        have eJ : C - 1 - j = 1 := by omega
        rw [eJ] at HE
        have HY2 : Hid (BytesAt (wr.alloc (.cells #[.int .u8 (z : Int)] 5)) (.slice (some ⟨wr.heap.size, 0, none⟩) 1 1) [UInt8.ofNat (n / 256 ^ 1)]) := one_lit wr _ (by rw [byte_let]; omega)
        have HR2 := hide ((unhide HRr).lit (.cells #[.int .u8 (z : Int)] 5))
        have Hkk := hide hkk
        clear hq hz HRr eJ hM hkk
        have HM3 : Hid ((l ++ [UInt8.ofNat Z] ++ (lowB n n).reverse.take j ++ [UInt8.ofNat (n / 256 ^ 1)]).length = N + 1 + (j + 1)) := by
          show _ = _
          have h1 : j ≤ (lowB n n).length := by rw [unhide HC]; omega
          simp only [List.length_append, List.length_take, List.length_reverse, unhide HN, List.length_singleton, Nat.min_eq_left h1]
          omega
        go_wp2_with (at_builtin; refine wpList_append_row rfl _ _ rfl (.slice sv M cv) (.slice (some ⟨wr.heap.size, 0, none⟩) 1 1) _ [UInt8.ofNat (n / 256 ^ 1)] rfl (unhide HR2) rfl (unhide HY2) (unhide Hll2 _) ?_
                     intro v3 W3 hR3
                     obtain ⟨p3, q3, rfl⟩ := hR3.own.form
                     rw [unhide HM3] at hR3 ⊢
                     have HR3 := hide hR3
                     clear hR3)
        have HR4 : Hid (Row wb W3 (.slice p3 (N + 1 + (j + 1)) q3) (l ++ [UInt8.ofNat Z] ++ (lowB n n).reverse.take (j + 1))) := by
          have h1 := unhide HR3
          rw [List.append_assoc, ← unhide HE] at h1
          exact h1
        clear HR3 HE HM3
        go_roundw
        case rel =>
          first
            | exact ⟨j + 1, 0, p3, _, q3, by omega, by have := unhide Hkk; omega, rfl, rfl, rfl, HR4⟩
            | exact ⟨⟨j + 1, 0, p3, _, q3, by omega, by have := unhide Hkk; omega, rfl, rfl, rfl, HR4⟩, rfl⟩
        case measure => simp [intOf]
      · subst e
        obtain ⟨q, hq⟩ : ∃ q, n / 65536 = q := ⟨_, rfl⟩
        obtain ⟨z, hz⟩ : ∃ z, q % 256 = z := ⟨_, rfl⟩
        have eq : (n : Int) / 65536 = (q : Int) := by omega
        have uq : IntKind.i64.wrap (q : Int) = (q : Int) := IntWalk.i64_in _ (by omega)
        have uz : IntKind.u8.wrap (q : Int) = (z : Int) := by rw [IntKind.wrap_u8']; omega
        have eJ : C - 1 - j = 2 := by omega
        rw [eJ] at HE
        have HY2 : Hid (BytesAt (wr.alloc (.cells #[.int .u8 (z : Int)] 5)) (.slice (some ⟨wr.heap.size, 0, none⟩) 1 1) [UInt8.ofNat (n / 256 ^ 2)]) := one_lit wr _ (by rw [byte_let]; omega)
        have HR2 := hide ((unhide HRr).lit (.cells #[.int .u8 (z : Int)] 5))
        have Hkk := hide hkk
        clear hq hz HRr eJ hM hkk
        have HM3 : Hid ((l ++ [UInt8.ofNat Z] ++ (lowB n n).reverse.take j ++ [UInt8.ofNat (n / 256 ^ 2)]).length = N + 1 + (j + 1)) := by
          show _ = _
          have h1 : j ≤ (lowB n n).length := by rw [unhide HC]; omega
          simp only [List.length_append, List.length_take, List.length_reverse, unhide HN, List.length_singleton, Nat.min_eq_left h1]
          omega
        go_wp2_with (at_builtin; refine wpList_append_row rfl _ _ rfl (.slice sv M cv) (.slice (some ⟨wr.heap.size, 0, none⟩) 1 1) _ [UInt8.ofNat (n / 256 ^ 2)] rfl (unhide HR2) rfl (unhide HY2) (unhide Hll2 _) ?_
                     intro v3 W3 hR3
                     obtain ⟨p3, q3, rfl⟩ := hR3.own.form
                     rw [unhide HM3] at hR3 ⊢
                     have HR3 := hide hR3
                     clear hR3)
        have HR4 : Hid (Row wb W3 (.slice p3 (N + 1 + (j + 1)) q3) (l ++ [UInt8.ofNat Z] ++ (lowB n n).reverse.take (j + 1))) := by
          have h1 := unhide HR3
          rw [List.append_assoc, ← unhide HE] at h1
          exact h1
        clear HR3 HE HM3
        go_roundw
        case rel =>
          first
            | exact ⟨j + 1, 1, p3, _, q3, by omega, by have := unhide Hkk; omega, rfl, rfl, rfl, HR4⟩
            | exact ⟨⟨j + 1, 1, p3, _, q3, by omega, by have := unhide Hkk; omega, rfl, rfl, rfl, HR4⟩, rfl⟩
        case measure => simp [intOf]
    · obtain rfl : j = C := by omega
      have hk1 : kk = -1 := by omega
      subst hk1
      have HT : Hid (Row wb wr (.slice sv M cv) (l ++ lenB n)) := by
        have h1 := unhide HRr
        rw [List.take_of_length_le (by rw [List.length_reverse, unhide HC]; exact Nat.le_refl _), List.append_assoc, ← unhide HLz] at h1
        exact h1
      clear HRr
      go_wp2
      go_ret
      exact ⟨_, rfl, unhide HT⟩
end K
end Go.Proofs.YtcofnockikninabGreatDoor
/-
  The walks of the landed putTag and head.
-/
namespace Go.Proofs.YtcofnockikninabGreatDoor
open Go.RowKit
namespace K
/-- The groups of a tag, behind those that are put while k is above so much. -/
def tgTo (k t : Nat) : Bs := (if k ≤ 1 ∧ 16384 ≤ t then [UInt8.ofNat (128 + t / 16384)] else []) ++ (if k ≤ 0 ∧ 128 ≤ t then [UInt8.ofNat (128 + t / 128 % 128)] else [])
def tgs (t : Nat) : Bs := tgTo 0 t ++ [UInt8.ofNat (t % 128)]
theorem or128 : ∀ z : Fin 256, bits .or .u8 ((z.val : Nat) : Int) 128 = ((128 + z.val % 128 : Nat) : Int) := by decide +kernel
theorem tg_le (k t : Nat) : (tgTo k t).length ≤ 2 := by
  unfold tgTo
  split <;> split <;> simp
theorem tg_step2 (t : Nat) : tgTo 1 t = tgTo 2 t ++ (if 16384 ≤ t then [UInt8.ofNat (128 + t / 16384)] else []) := by
  unfold tgTo
  by_cases h : 16384 ≤ t <;> simp [h]
theorem tg_step1 (t : Nat) : tgTo 0 t = tgTo 1 t ++ (if 128 ≤ t then [UInt8.ofNat (128 + t / 128 % 128)] else []) := by
  unfold tgTo
  by_cases h : 16384 ≤ t <;> by_cases h2 : 128 ≤ t <;> simp [h, h2]
theorem tg_two (t : Nat) : tgTo 2 t = [] := by unfold tgTo; simp
set_option maxRecDepth 100000 in
set_option maxHeartbeats 8000000 in
theorem ptag_c (wb w : World) (v : Value) (l : Bs) (t : Nat) (hR : Row wb w v l) (hl : l.length ≤ 100) (ht : t < 2097152) :
    Calls Tryz.prog 107 #[v, .int .i64 (t : Int)] w fun e w' => ∃ v', e = .returned v' ∧ Row wb w' v' (l ++ tgs t) := by
  obtain ⟨sp, c, rfl⟩ := hR.own.form
  obtain ⟨N, hN⟩ : ∃ N, l.length = N := ⟨_, rfl⟩
  have HN := hide hN
  rw [hN] at hR hl ⊢
  have HR := hide hR
  clear hR hN
  go_enter Tryz.func107, Tryz.ntmps107
  go_wp2
  go_loopw [0, 5] (fun bb ii wr => ∃ (k : Nat) (kk : Int) (sv : Option Addr) (M cv : Nat), k ≤ 2 ∧ kk = (k : Int) ∧ bb = .slice sv M cv ∧ ii = .int .i64 kk ∧ Hid (M = (l ++ tgTo k t).length) ∧ Hid (Row wb wr (.slice sv M cv) (l ++ tgTo k t))) (fun _ ii _ => (intOf ii).toNat)
  case atStart => exact ⟨2, 2, sp, N, c, by omega, rfl, rfl, rfl, by rw [tg_two, List.append_nil]; exact (unhide HN).symm, by rw [tg_two, List.append_nil]; exact unhide HR⟩
  case round =>
    obtain ⟨k, kk, sv, M, cv, hk, hkk, rfl, rfl, HM, HRr⟩ := hrel
    clear HR
    rcases (by omega : k = 0 ∨ k = 1 ∨ k = 2) with e | e | e
    · subst e
      obtain rfl : kk = 0 := by omega
      obtain ⟨z, hz⟩ : ∃ z, t % 256 = z := ⟨_, rfl⟩
      obtain ⟨y, hy⟩ : ∃ y, z % 128 = y := ⟨_, rfl⟩
      have uz : IntKind.u8.wrap (t : Int) = (z : Int) := by rw [IntKind.wrap_u8']; omega
      have hand : bits .andNot .u8 (z : Int) 128 = (y : Int) := by rw [← hy]; exact low7 ⟨z, by omega⟩
      have HY : Hid (BytesAt (wr.alloc (.cells #[.int .u8 (y : Int)] 5)) (.slice (some ⟨wr.heap.size, 0, none⟩) 1 1) [UInt8.ofNat (t % 128)]) := one_lit wr _ (by rw [byte_let]; omega)
      have HR2 := hide ((unhide HRr).lit (.cells #[.int .u8 (y : Int)] 5))
      have Hll : Hid ((l ++ tgTo 0 t).length + [UInt8.ofNat (t % 128)].length ≤ 1073741824) := by
        show _ ≤ _
        have := tg_le 0 t
        rw [List.length_append, unhide HN, List.length_singleton]
        omega
      clear hz hy hk hkk HRr HM
      go_wp2_with (at_builtin; refine wpList_append_row rfl _ _ rfl (.slice sv M cv) (.slice (some ⟨wr.heap.size, 0, none⟩) 1 1) (l ++ tgTo 0 t) [UInt8.ofNat (t % 128)] rfl (unhide HR2) rfl (unhide HY) (unhide Hll) ?_
                   intro v3 W3 hR3
                   have HR3 := hide hR3
                   clear hR3)
      go_ret
      exact ⟨_, rfl, by have := unhide HR3; rw [List.append_assoc] at this; exact this⟩
    · subst e
      obtain rfl : kk = 1 := by omega
      by_cases hb : 128 ≤ t
      · have d1 : decide ((128 : Int) ≤ (t : Int)) = true := by simp; omega
        have d1n : decide (128 ≤ t) = true := by simp; omega
        obtain ⟨q, hq⟩ : ∃ q, t / 128 = q := ⟨_, rfl⟩
        obtain ⟨z, hz⟩ : ∃ z, q % 256 = z := ⟨_, rfl⟩
        obtain ⟨y, hy⟩ : ∃ y, 128 + z % 128 = y := ⟨_, rfl⟩
        have eq : (t : Int) / 128 = (q : Int) := by omega
        have uq : IntKind.i64.wrap (q : Int) = (q : Int) := IntWalk.i64_in _ (by omega)
        have uz : IntKind.u8.wrap (q : Int) = (z : Int) := by rw [IntKind.wrap_u8']; omega
        have hor : bits .or .u8 (z : Int) 128 = (y : Int) := by rw [← hy]; exact or128 ⟨z, by omega⟩
        have HE : Hid (tgTo 0 t = tgTo 1 t ++ [UInt8.ofNat (128 + t / 128 % 128)]) := by show _ = _; rw [tg_step1, if_pos hb]
        have HY : Hid (BytesAt (wr.alloc (.cells #[.int .u8 (y : Int)] 5)) (.slice (some ⟨wr.heap.size, 0, none⟩) 1 1) [UInt8.ofNat (128 + t / 128 % 128)]) := one_lit wr _ (by rw [byte_let]; omega)
        have HR2 := hide ((unhide HRr).lit (.cells #[.int .u8 (y : Int)] 5))
        have Hll : Hid ((l ++ tgTo 1 t).length + [UInt8.ofNat (128 + t / 128 % 128)].length ≤ 1073741824) := by
          show _ ≤ _
          have := tg_le 1 t
          rw [List.length_append, unhide HN, List.length_singleton]
          omega
        have HM3 : Hid ((l ++ tgTo 1 t ++ [UInt8.ofNat (128 + t / 128 % 128)]).length = (l ++ tgTo 0 t).length) := by show _ = _; rw [unhide HE, List.append_assoc]
        obtain ⟨M3, hM3⟩ : ∃ M3, (l ++ tgTo 0 t).length = M3 := ⟨_, rfl⟩
        rw [hM3] at HM3
        have HM4 := hide hM3
        clear hz hy hk hkk HRr HM hq hM3 hb
        go_wp2_with (at_builtin; refine wpList_append_row rfl _ _ rfl (.slice sv M cv) (.slice (some ⟨wr.heap.size, 0, none⟩) 1 1) (l ++ tgTo 1 t) [UInt8.ofNat (128 + t / 128 % 128)] rfl (unhide HR2) rfl (unhide HY) (unhide Hll) ?_
                     intro v3 W3 hR3
                     obtain ⟨p3, q3, rfl⟩ := hR3.own.form
                     rw [unhide HM3] at hR3 ⊢
                     have HR3 := hide hR3
                     clear hR3)
        have HR4 : Hid (Row wb W3 (.slice p3 M3 q3) (l ++ tgTo 0 t)) := by
          have h1 := unhide HR3
          rw [List.append_assoc, ← unhide HE] at h1
          exact h1
        have HM5 : Hid (M3 = (l ++ tgTo 0 t).length) := (unhide HM4).symm
        clear HR3 HE HM3 HM4
        go_roundw
        case rel =>
          first
            | exact ⟨0, 0, p3, M3, q3, by omega, by omega, rfl, rfl, HM5, HR4⟩
            | exact ⟨⟨0, 0, p3, M3, q3, by omega, by omega, rfl, rfl, HM5, HR4⟩, rfl⟩
        case measure => simp [intOf]
      · have d1 : decide ((128 : Int) ≤ (t : Int)) = false := by simp; omega
        have d1n : decide (128 ≤ t) = false := by simp; omega
        have hE : tgTo 0 t = tgTo 1 t := by rw [tg_step1, if_neg hb, List.append_nil]
        have HM5 : Hid (M = (l ++ tgTo 0 t).length) := by rw [hE]; exact HM
        have HR4 : Hid (Row wb wr (.slice sv M cv) (l ++ tgTo 0 t)) := by rw [hE]; exact HRr
        clear hE HM HRr hk hkk hb
        go_wp2
        go_roundw
        case rel =>
          first
            | exact ⟨0, 0, sv, M, cv, by omega, by omega, rfl, rfl, HM5, HR4⟩
            | exact ⟨⟨0, 0, sv, M, cv, by omega, by omega, rfl, rfl, HM5, HR4⟩, rfl⟩
        case measure => simp [intOf]
    · subst e
      obtain rfl : kk = 2 := by omega
      by_cases hb : 16384 ≤ t
      · have d1 : decide ((16384 : Int) ≤ (t : Int)) = true := by simp; omega
        have d1n : decide (16384 ≤ t) = true := by simp; omega
        obtain ⟨q, hq⟩ : ∃ q, t / 16384 = q := ⟨_, rfl⟩
        obtain ⟨z, hz⟩ : ∃ z, q % 256 = z := ⟨_, rfl⟩
        obtain ⟨y, hy⟩ : ∃ y, 128 + z % 128 = y := ⟨_, rfl⟩
        have eq : (t : Int) / 16384 = (q : Int) := by omega
        have uq : IntKind.i64.wrap (q : Int) = (q : Int) := IntWalk.i64_in _ (by omega)
        have uz : IntKind.u8.wrap (q : Int) = (z : Int) := by rw [IntKind.wrap_u8']; omega
        have hor : bits .or .u8 (z : Int) 128 = (y : Int) := by rw [← hy]; exact or128 ⟨z, by omega⟩
        have HE : Hid (tgTo 1 t = tgTo 2 t ++ [UInt8.ofNat (128 + t / 16384)]) := by show _ = _; rw [tg_step2, if_pos hb]
        have HY : Hid (BytesAt (wr.alloc (.cells #[.int .u8 (y : Int)] 5)) (.slice (some ⟨wr.heap.size, 0, none⟩) 1 1) [UInt8.ofNat (128 + t / 16384)]) := one_lit wr _ (by rw [byte_let]; omega)
        have HR2 := hide ((unhide HRr).lit (.cells #[.int .u8 (y : Int)] 5))
        have Hll : Hid ((l ++ tgTo 2 t).length + [UInt8.ofNat (128 + t / 16384)].length ≤ 1073741824) := by
          show _ ≤ _
          have := tg_le 2 t
          rw [List.length_append, unhide HN, List.length_singleton]
          omega
        have HM3 : Hid ((l ++ tgTo 2 t ++ [UInt8.ofNat (128 + t / 16384)]).length = (l ++ tgTo 1 t).length) := by show _ = _; rw [unhide HE, List.append_assoc]
        obtain ⟨M3, hM3⟩ : ∃ M3, (l ++ tgTo 1 t).length = M3 := ⟨_, rfl⟩
        rw [hM3] at HM3
        have HM4 := hide hM3
        clear hz hy hk hkk HRr HM hq hM3 hb
        go_wp2_with (at_builtin; refine wpList_append_row rfl _ _ rfl (.slice sv M cv) (.slice (some ⟨wr.heap.size, 0, none⟩) 1 1) (l ++ tgTo 2 t) [UInt8.ofNat (128 + t / 16384)] rfl (unhide HR2) rfl (unhide HY) (unhide Hll) ?_
                     intro v3 W3 hR3
                     obtain ⟨p3, q3, rfl⟩ := hR3.own.form
                     rw [unhide HM3] at hR3 ⊢
                     have HR3 := hide hR3
                     clear hR3)
        have HR4 : Hid (Row wb W3 (.slice p3 M3 q3) (l ++ tgTo 1 t)) := by
          have h1 := unhide HR3
          rw [List.append_assoc, ← unhide HE] at h1
          exact h1
        have HM5 : Hid (M3 = (l ++ tgTo 1 t).length) := (unhide HM4).symm
        clear HR3 HE HM3 HM4
        go_roundw
        case rel =>
          first
            | exact ⟨1, 1, p3, M3, q3, by omega, by omega, rfl, rfl, HM5, HR4⟩
            | exact ⟨⟨1, 1, p3, M3, q3, by omega, by omega, rfl, rfl, HM5, HR4⟩, rfl⟩
        case measure => simp [intOf]
      · have d1 : decide ((16384 : Int) ≤ (t : Int)) = false := by simp; omega
        have d1n : decide (16384 ≤ t) = false := by simp; omega
        have hE : tgTo 1 t = tgTo 2 t := by rw [tg_step2, if_neg hb, List.append_nil]
        have HM5 : Hid (M = (l ++ tgTo 1 t).length) := by rw [hE]; exact HM
        have HR4 : Hid (Row wb wr (.slice sv M cv) (l ++ tgTo 1 t)) := by rw [hE]; exact HRr
        clear hE HM HRr hk hkk hb
        go_wp2
        go_roundw
        case rel =>
          first
            | exact ⟨1, 1, sv, M, cv, by omega, by omega, rfl, rfl, HM5, HR4⟩
            | exact ⟨⟨1, 1, sv, M, cv, by omega, by omega, rfl, rfl, HM5, HR4⟩, rfl⟩
        case measure => simp [intOf]
end K
end Go.Proofs.YtcofnockikninabGreatDoor
