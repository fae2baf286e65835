/-
  The walk of less: whether the one list of bytes is below the other.
-/
import Derived.Test.YtngkidlgcdofhaaDoorSame9
import Derived.Test.YtngkidlgcdofhaaDoorDright
import Derived.Test.YtngkidlgcdofhaaDoorRightB
import Derived.Test.YtngkidlgcdofhaaDoorUtf9
import Derived.Test.YtngkidlgcdofhaaDoorTime2
import Derived.Test.YtngkidlgcdofhaaDoorTime4
import Derived.Test.YtngkidlgcdofhaaDoorForm9
namespace Go.Proofs.YtngkidlgcdofhaaDoor
open Go.RowKit
theorem less_app (c : Bs) : ∀ a b : Bs, lessP (c ++ a) (c ++ b) = lessP a b := by
  induction c with
  | nil => intro a b; rfl
  | cons x c ih => intro a b; show (if x = x then lessP (c ++ a) (c ++ b) else decide (x < x)) = _; rw [if_pos rfl]; exact ih a b
theorem less_diff {a b : Bs} {k : Nat} (h : a.take k = b.take k) (ha : k < a.length) (hb : k < b.length) (hne : (a.getD k 0).toNat ≠ (b.getD k 0).toNat) : lessP a b = decide ((a.getD k 0).toNat < (b.getD k 0).toNat) := by
  have ea : a = a.take k ++ (a.getD k 0 :: a.drop (k + 1)) := by
    rw [List.getD_eq_getElem?_getD, List.getElem?_eq_getElem ha, Option.getD_some, ← List.drop_eq_getElem_cons ha, List.take_append_drop]
  have eb : b = b.take k ++ (b.getD k 0 :: b.drop (k + 1)) := by
    rw [List.getD_eq_getElem?_getD, List.getElem?_eq_getElem hb, Option.getD_some, ← List.drop_eq_getElem_cons hb, List.take_append_drop]
  have : lessP a b = lessP (a.take k ++ (a.getD k 0 :: a.drop (k + 1))) (a.take k ++ (b.getD k 0 :: b.drop (k + 1))) := by rw [← ea, h, ← eb]
  rw [this, less_app]
  show (if a.getD k 0 = b.getD k 0 then lessP (a.drop (k + 1)) (b.drop (k + 1)) else decide (a.getD k 0 < b.getD k 0)) = _
  rw [if_neg (fun e => hne (by rw [e]))]
  rfl
theorem less_end {a b : Bs} {k : Nat} (h : a.take k = b.take k) (hk : k = a.length ∨ k = b.length) (ha : k ≤ a.length) (hb : k ≤ b.length) : lessP a b = decide (a.length < b.length) := by
  have e : lessP a b = lessP (a.take k ++ a.drop k) (a.take k ++ b.drop k) := by rw [List.take_append_drop, h, List.take_append_drop]
  rw [e, less_app]
  have la : (a.drop k).length = a.length - k := List.length_drop
  have lb : (b.drop k).length = b.length - k := List.length_drop
  cases ha' : a.drop k with
  | nil =>
    rw [ha'] at la
    cases hb' : b.drop k with
    | nil => rw [hb'] at lb; simp at la lb; unfold lessP; symm; simp; omega
    | cons y m => rw [hb'] at lb; simp at la lb; unfold lessP; symm; simp; omega
  | cons x l =>
    rw [ha'] at la
    cases hb' : b.drop k with
    | nil => rw [hb'] at lb; simp at la lb; unfold lessP; symm; simp; omega
    | cons y m => rw [hb'] at lb; simp at la lb; omega
set_option maxRecDepth 100000 in
set_option maxHeartbeats 1000000 in
theorem less_any (w : World) (x y : Value) (a b : Bs) (hx : BytesAt w x a) (hy : BytesAt w y b) (hl : a.length ≤ 1099511627776) (hl2 : b.length ≤ 1099511627776) :
    Calls Tryd.prog 31 #[x, y] w fun e w' => e = .returned (.bool (lessP a b)) ∧ Below w.heap.size w w' := by
  obtain ⟨sp, c, rfl, _, _, hc⟩ := bytes_open hx
  obtain ⟨sp2, c2, rfl, _, _, hc2⟩ := bytes_open hy
  have H1 := hide hc
  have H2 := hide hc2
  clear hc hc2 hx hy
  go_enter Tryd.func31, Tryd.ntmps31
  have Hd : Hid (∀ k, a.take k = b.take k → k < a.length → k < b.length → (a.getD k 0).toNat ≠ (b.getD k 0).toNat → lessP a b = decide ((a.getD k 0).toNat < (b.getD k 0).toNat)) := fun k h ha hb hne => less_diff h ha hb hne
  have He : Hid (∀ k, a.take k = b.take k → k = a.length ∨ k = b.length → k ≤ a.length → k ≤ b.length → lessP a b = decide (a.length < b.length)) := fun k h hk ha hb => less_end h hk ha hb
  have Ht : Hid (∀ k, a.take k = b.take k → k < a.length → k < b.length → (a.getD k 0).toNat = (b.getD k 0).toNat → a.take (k + 1) = b.take (k + 1)) := fun k h ha hb e => take_eq_succ h ha hb e
  have Hna : Hid (∀ k, k < a.length → a ≠ []) := fun k hk e => by rw [e] at hk; simp at hk
  have Hnb : Hid (∀ k, k < b.length → b ≠ []) := fun k hk e => by rw [e] at hk; simp at hk
  obtain ⟨N, hN⟩ : ∃ N, a.length = N := ⟨_, rfl⟩
  obtain ⟨M, hM⟩ : ∃ M, b.length = M := ⟨_, rfl⟩
  simp only [hN, hM] at H1 H2 Hd He Ht Hna Hnb hl hl2 ⊢
  clear hN hM
  go_wp2
  go_loopw [5] (fun i wr => ∃ k : Nat, k ≤ N ∧ k ≤ M ∧ i = .int .i64 k ∧ wr.heap = w.heap ∧ Hid (a.take k = b.take k) ∧ Below w.heap.size w wr) (fun i _ => N - (intOf i).toNat)
  case atStart => exact ⟨0, by omega, by omega, rfl, rfl, rfl, Below.refl _ _⟩
  case round =>
    obtain ⟨k, hk, hk2, rfl, hh, HE, hB⟩ := hrel
    by_cases hlt : k < N
    · by_cases hlt2 : k < M
      · obtain ⟨ba, oa, rfl, _, hcell⟩ := unhide H1 (unhide Hna k hlt)
        obtain ⟨bb, ob, rfl, _, hcell2⟩ := unhide H2 (unhide Hnb k hlt2)
        have c1 : wr.cell? ⟨ba, oa + k, none⟩ = some (.int .u8 ((a.getD k 0).toNat : Int)) := by rw [← hcell k hlt]; unfold World.cell?; rw [hh]
        have c2' : wr.cell? ⟨bb, ob + k, none⟩ = some (.int .u8 ((b.getD k 0).toNat : Int)) := by rw [← hcell2 k hlt2]; unfold World.cell?; rw [hh]
        have Hd2 := hide (unhide Hd k (unhide HE) hlt hlt2)
        have Ht2 := hide (unhide Ht k (unhide HE) hlt hlt2)
        obtain ⟨p, hp⟩ : ∃ p, (a.getD k 0).toNat = p := ⟨_, rfl⟩
        obtain ⟨q, hq⟩ : ∃ q, (b.getD k 0).toNat = q := ⟨_, rfl⟩
        rw [hp] at c1 Ht2 Hd2
        rw [hq] at c2' Ht2 Hd2
        have HB := hide hB
        have Hh := hide hh
        have k0 : (0 : Int) ≤ (k : Int) := by omega
        have k1 : (k : Int) < (N : Int) := by omega
        have k2 : (k : Int) < (M : Int) := by omega
        have d1 : decide ((k : Int) < (N : Int)) = true := by simp; omega
        have d1n : decide (k < N) = true := by simp; omega
        have d2 : decide ((k : Int) < (M : Int)) = true := by simp; omega
        have d2n : decide (k < M) = true := by simp; omega
        clear hB hh hcell hcell2 hp hq Hd He Ht Hna Hnb HE
        by_cases hpq : p = q
        · have Ht3 := hide (unhide Ht2 hpq)
          have de : ((p : Int) == (q : Int)) = true := by simp [hpq]
          subst hpq
          clear Ht2 Hd2
          go_wp2
          go_region_held3 (fun w' => w'.cell? ⟨ba, oa + k, none⟩ = some (.int .u8 p) ∧ w'.cell? ⟨bb, ob + k, none⟩ = some (.int .u8 p)) (go_keep) (fail)
          go_wp2
          go_roundw
          case rel =>
            first
              | exact ⟨k + 1, by omega, by omega, by go_num, unhide Hh, Ht3, (unhide HB).drew⟩
              | ((repeat apply Exists.intro); exact ⟨⟨k + 1, by omega, by omega, by go_num, unhide Hh, Ht3, (unhide HB).drew⟩, rfl⟩)
          case measure => simp [intOf]; omega
        · have Hd3 := hide (unhide Hd2 hpq)
          have de : ((p : Int) == (q : Int)) = false := by simp; omega
          clear Ht2 Hd2 hpq
          go_wp2
          go_region_held3 (fun w' => w'.cell? ⟨ba, oa + k, none⟩ = some (.int .u8 p) ∧ w'.cell? ⟨bb, ob + k, none⟩ = some (.int .u8 q)) (go_keep) (fail)
          go_wp2
          go_region_held3 (fun w' => w'.cell? ⟨ba, oa + k, none⟩ = some (.int .u8 p) ∧ w'.cell? ⟨bb, ob + k, none⟩ = some (.int .u8 q)) (go_keep) (fail)
          go_wp2
          go_ret
          exact ⟨by rw [unhide Hd3]; simp, (unhide HB).drew.drew⟩
      · have d1 : decide ((k : Int) < (N : Int)) = true := by simp; omega
        have d1n : decide (k < N) = true := by simp; omega
        have d2 : decide ((k : Int) < (M : Int)) = false := by simp; omega
        have d2n : decide (k < M) = false := by simp; omega
        have Hf := hide (unhide He k (unhide HE) (by omega) hk hk2)
        have HB := hide hB
        clear Hd He Ht Hna Hnb HE hB hh
        go_wp2
        go_ret
        exact ⟨by rw [unhide Hf]; simp, unhide HB⟩
    · have d1 : decide ((k : Int) < (N : Int)) = false := by simp; omega
      have d1n : decide (k < N) = false := by simp; omega
      have Hf := hide (unhide He k (unhide HE) (by omega) hk hk2)
      have HB := hide hB
      clear Hd He Ht Hna Hnb HE hB hh
      go_wp2
      go_ret
      exact ⟨by rw [unhide Hf]; simp, unhide HB⟩
end Go.Proofs.YtngkidlgcdofhaaDoor
/-
  The walk of the reference's right: texts and times (12, 23, 24); all tags.
-/
namespace Go.Proofs.YtngkidlgcdofhaaDoor
open Go.RowKit
theorem right12 (b : Bs) : rightP 12 b = utf8P b.length b := by
  unfold rightP
  rw [if_neg (by omega), if_neg (by omega), if_neg (by omega), if_neg (by omega), if_neg (by omega), if_pos rfl]
theorem right23 (b : Bs) : rightP 23 b = timeP 2 b := by
  unfold rightP
  rw [if_neg (by omega), if_neg (by omega), if_neg (by omega), if_neg (by omega), if_neg (by omega), if_neg (by omega), if_neg (by omega), if_neg (by omega), if_pos rfl]
theorem right24 (b : Bs) : rightP 24 b = timeP 4 b := by
  unfold rightP
  rw [if_neg (by omega), if_neg (by omega), if_neg (by omega), if_neg (by omega), if_neg (by omega), if_neg (by omega), if_neg (by omega), if_neg (by omega), if_neg (by omega), if_pos rfl]
theorem six_lit (q : Nat → Nat) : (six q).toArray = #[.int .i64 (q 0 : Int), .int .i64 (q 1 : Int), .int .i64 (q 2 : Int), .int .i64 (q 3 : Int), .int .i64 (q 4 : Int), .int .i64 (q 5 : Int)] := rfl
set_option maxRecDepth 100000 in
set_option maxHeartbeats 4000000 in
theorem right_12 (w : World) (x : Value) (b : Bs) (hx : BytesAt w x b) (hl : b.length ≤ 100000) :
    Calls Tryd.prog 37 #[.int .i64 12, x] w fun e w' => e = .returned (.bool (rightP 12 b)) ∧ Below w.heap.size w w' := by
  have HU := hide (utf8s_any w x b hx (by omega))
  rw [← right12] at HU
  obtain ⟨sp, c, rfl, _, _, _⟩ := bytes_open hx
  obtain ⟨N, hN⟩ : ∃ N, b.length = N := ⟨_, rfl⟩
  obtain ⟨r, hr⟩ : ∃ r, rightP 12 b = r := ⟨_, rfl⟩
  rw [hN, hr] at HU ⊢
  have Hb := hide (Below.refl w.heap.size w)
  clear hx hN hr hl
  go_enter Tryd.func37, Tryd.ntmps37
  go_wp2_with fail
  refine (unhide HU).mono ?_
  rintro e w1 ⟨rfl, rfl⟩
  go_wp2
  go_ret
  exact ⟨rfl, unhide Hb⟩
set_option maxRecDepth 100000 in
set_option maxHeartbeats 4000000 in
theorem right_23 (w : World) (x : Value) (b : Bs) (hx : BytesAt w x b) (hl : b.length ≤ 100000) :
    Calls Tryd.prog 37 #[.int .i64 23, x] w fun e w' => e = .returned (.bool (rightP 23 b)) ∧ Below w.heap.size w w' := by
  have HU := hide (time_2 w x b hx (by omega))
  rw [← right23] at HU
  obtain ⟨sp, c, rfl, _, _, _⟩ := bytes_open hx
  obtain ⟨N, hN⟩ : ∃ N, b.length = N := ⟨_, rfl⟩
  obtain ⟨r, hr⟩ : ∃ r, rightP 23 b = r := ⟨_, rfl⟩
  rw [hN, hr] at HU ⊢
  clear hx hN hr hl
  go_enter Tryd.func37, Tryd.ntmps37
  go_wp2_with fail
  refine (unhide HU).mono ?_
  rintro e w1 ⟨q, rfl, _, hb⟩
  rw [six_lit]
  have Hb := hide hb
  clear hb HU
  go_wp2
  go_ret
  exact ⟨rfl, (unhide Hb).alloc (unhide Hb).size _⟩
set_option maxRecDepth 100000 in
set_option maxHeartbeats 4000000 in
theorem right_24 (w : World) (x : Value) (b : Bs) (hx : BytesAt w x b) (hl : b.length ≤ 100000) :
    Calls Tryd.prog 37 #[.int .i64 24, x] w fun e w' => e = .returned (.bool (rightP 24 b)) ∧ Below w.heap.size w w' := by
  have HU := hide (time_4 w x b hx (by omega))
  rw [← right24] at HU
  obtain ⟨sp, c, rfl, _, _, _⟩ := bytes_open hx
  obtain ⟨N, hN⟩ : ∃ N, b.length = N := ⟨_, rfl⟩
  obtain ⟨r, hr⟩ : ∃ r, rightP 24 b = r := ⟨_, rfl⟩
  rw [hN, hr] at HU ⊢
  clear hx hN hr hl
  go_enter Tryd.func37, Tryd.ntmps37
  go_wp2_with fail
  refine (unhide HU).mono ?_
  rintro e w1 ⟨q, rfl, _, hb⟩
  rw [six_lit]
  have Hb := hide hb
  clear hb HU
  go_wp2
  go_ret
  exact ⟨rfl, (unhide Hb).alloc (unhide Hb).size _⟩
/-- The reference's right tells what the plain words say. -/
theorem rights : Rights := fun w t x b ht hx hl => by
  have h : t = 1 ∨ t = 2 ∨ t = 3 ∨ t = 4 ∨ t = 5 ∨ t = 6 ∨ t = 10 ∨ t = 12 ∨ t = 19 ∨ t = 22 ∨ t = 23 ∨ t = 24 := by
    simp only [plainT, Bool.or_eq_true, Bool.and_eq_true, decide_eq_true_eq] at ht
    omega
  rcases h with rfl | rfl | rfl | rfl | rfl | rfl | rfl | rfl | rfl | rfl | rfl | rfl
  · exact right_1 w x b hx
  · exact right_2 2 (Or.inl rfl) w x b hx
  · exact right_3 w x b hx hl
  · exact right_4 w x b hx
  · exact right_5 w x b hx
  · exact right_6 w x b hx hl
  · exact right_2 10 (Or.inr rfl) w x b hx
  · exact right_12 w x b hx hl
  · exact right_19 w x b hx hl
  · exact right_22 w x b hx hl
  · exact right_23 w x b hx hl
  · exact right_24 w x b hx hl
end Go.Proofs.YtngkidlgcdofhaaDoor
