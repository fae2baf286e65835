/-
  The landed plate keeps the record.
  Small words on bytes and numbers (layer 14).
  The walks of the landed wal's small functions: readNumber, partsOf, isSet, and of slices.IndexFunc, ContainsFunc, Clone.
  The walks of slices.IndexFunc, ContainsFunc (of isSet) and Clone, as the landed wal reaches them.
  The walk of the landed addNumber: onto nothing, and onto a row of 64 bytes that has room.
  The walks of the landed addNumber (onto nothing), withLength and head.sector.
-/
import Derived.Test.YtfpndphfibfdiaaQ8
import Derived.Test.YtfpndphfibfdiaaQ1
import Derived.Test.YtfpndphfibfdiaaQ0
import Derived.Test.YtfpndphfibfdiaaQ2
import Derived.Test.YtfpndphfibfdiaaQ3
import Derived.BigQuiet
namespace Go.Proofs.Ytfpndphfibfdiaa
open Go.RowKit
theorem plate_kept : Plate PAt where
  ptr := fun h => by obtain ⟨B, _, _, _, rfl, _⟩ := h; exact ⟨_, rfl⟩
  ok := fun h => by obtain ⟨_, _, _, _, _, hf, _⟩ := h; exact hf.ok
  old := fun h k hk => by
    obtain ⟨B, T, M, lv, _, hf, hS, hR⟩ := h
    rcases hk with hk | hk
    · rcases (hS k).1 hk with rfl | rfl | rfl | h
      · exact heap_lt hf.str
      · exact hf.there.lt
      · exact hf.safe.lt
      · exact (hf.own.lt k h).2
    · exact (hR k hk).elim
  apart := fun h k _ hk => by obtain ⟨_, _, _, _, _, _, _, hR⟩ := h; exact hR k hk
  kept := fun h hb hT => by
    obtain ⟨B, T, M, lv, rfl, hf, hS, hR⟩ := h
    refine ⟨B, T, M, lv, rfl, hf.aside hb fun k hk => ?_, hS, hR⟩
    have h1 := (hT k hk).1
    rw [hS] at h1
    exact ⟨fun e => h1 (Or.inl e), fun e => h1 (Or.inr (Or.inl e)), fun e => h1 (Or.inr (Or.inr (Or.inl e))), fun e => h1 (Or.inr (Or.inr (Or.inr e)))⟩
  new_yes := new_yes
  new_no := new_no
  sectors := sectors_c
  loose := loose_c
  write := fun a x b h hx hxs hbl hll _ _ => write_c a x b h hx hxs hbl hll
  read := fun a h _ _ _ => read_c a h
  sync := sync_c
  arm := arm_c
  revive := revive_c
end Go.Proofs.Ytfpndphfibfdiaa
namespace Go.Proofs.Ytfpndphfibfdiaa
open Go.RowKit
theorem bigB_cons : ∀ (n k : Nat), bigB n (k + 1) = UInt8.ofNat (n / 256 ^ k) :: bigB n k
  | n, 0 => by show bigB (n / 256) 0 ++ [UInt8.ofNat n] = [UInt8.ofNat (n / 256 ^ 0)]; simp [bigB]
  | n, k + 1 => by
    have ih := bigB_cons (n / 256) k
    show bigB (n / 256) (k + 1) ++ [UInt8.ofNat n] = UInt8.ofNat (n / 256 ^ (k + 1)) :: (bigB (n / 256) k ++ [UInt8.ofNat n])
    rw [ih, List.cons_append, Nat.div_div_eq_div_mul, Nat.pow_succ, Nat.mul_comm (256 ^ k) 256]
/-- An empty literal. -/
theorem ownb_empty (w : World) : OwnB (w.alloc (.cells #[] 5)) w.heap.size (.slice (some ⟨w.heap.size, 0, none⟩) 0 0) [] := ⟨rfl, Or.inr ⟨w.heap.size, 0, #[], rfl, Nat.le_refl _, heap_alloc_new w _, Nat.le_refl _, Nat.zero_le _, rfl, rfl⟩⟩
theorem num_take {b : Bs} {i : Nat} (hi : i < b.length) : numB (b.take (i + 1)) = 256 * numB (b.take i) + (b.getD i 0).toNat := by
  rw [List.take_add_one, List.getElem?_eq_getElem hi]
  show numB (b.take i ++ [b[i]]) = _
  rw [num_snoc, List.getD_eq_getElem?_getD, List.getElem?_eq_getElem hi]
  rfl
theorem num_small (b : Bs) (i : Nat) (h : b.length ≤ 6) : numB (b.take i) < 281474976710656 := by
  have h1 := num_lt (b.take i)
  have h2 : (b.take i).length ≤ 6 := by rw [List.length_take]; omega
  have h3 : 256 ^ (b.take i).length ≤ 256 ^ 6 := Nat.pow_le_pow_right (by omega) h2
  omega
end Go.Proofs.Ytfpndphfibfdiaa
namespace Go.Proofs.Ytfpndphfibfdiaa
open Go.RowKit
theorem below_drewNb {B : Nat} {a w : World} (h : Below B a w) (n : Nat) : Below B a (w.drewN n) := h.trans ⟨rfl, rfl, rfl, Nat.le_refl _, fun _ _ => rfl⟩
theorem ofInt_i64 (a : Nat) (ha : a < 9223372036854775808) : (BitVec.ofInt 64 (a : Int)).toNat = a := by
  rw [BitVec.ofInt_natCast, BitVec.toNat_ofNat]; exact Nat.mod_eq_of_lt (by omega)
theorem i64_or_nat (a b : Nat) (ha : a < 4294967296) (hb : b < 4294967296) : bits .or .i64 (a : Int) (b : Int) = ((a ||| b : Nat) : Int) := by
  have hx : a ||| b < 2 ^ 32 := Nat.or_lt_two_pow (by omega) (by omega)
  show IntKind.i64.wrap ((BitVec.ofInt 64 (a : Int) ||| BitVec.ofInt 64 (b : Int)).toNat : Int) = _
  rw [BitVec.toNat_or, ofInt_i64 a (by omega), ofInt_i64 b (by omega), IntKind.wrap_i64]
  omega
theorem or_byte (m p : Nat) (hp : p < 256) : m * 256 ||| p = 256 * m + p := by
  have := Nat.two_pow_add_eq_or_of_lt (i := 8) (b := p) (by omega) m
  rw [show (2 : Nat) ^ 8 = 256 from rfl] at this
  rw [Nat.mul_comm m 256]
  exact this.symm
theorem num_small4 (b : Bs) (i : Nat) (h : b.length ≤ 4) : numB (b.take i) < 4294967296 := by
  have h1 := num_lt (b.take i)
  have h2 : (b.take i).length ≤ 4 := by rw [List.length_take]; omega
  have h3 : 256 ^ (b.take i).length ≤ 256 ^ 4 := Nat.pow_le_pow_right (by omega) h2
  omega
set_option maxRecDepth 100000 in
set_option maxHeartbeats 1000000 in
theorem wnum_s (w : World) (x : Value) (b : Bs) (hx : BytesAt w x b) (hl : b.length ≤ 4) : Calls Try.prog 47 #[x] w fun e w' => e = .returned (.int .i64 (numB b : Int)) ∧ w' = w := by
  obtain ⟨sp, c, rfl, _, _, hc⟩ := bytes_open hx
  obtain ⟨N, hN⟩ : ∃ N, b.length = N := ⟨_, rfl⟩
  rw [hN] at hc ⊢
  have H1 := hide hc
  have HN := hide hN
  have hN6 : N ≤ 4 := by omega
  have HS := hide (fun i => num_small4 b i hl)
  obtain ⟨ANS, hA⟩ : ∃ y, numB b = y := ⟨_, rfl⟩
  rw [hA]
  have HA := hide hA
  clear hc hx hN hl hA
  go_enter Try.func47, Try.ntmps47
  go_wp2
  go_loopw [3, 5, 8] (fun nn _ ii wr => ∃ i m : Nat, i ≤ N ∧ m < 4294967296 ∧ nn = .int .i64 (m : Int) ∧ ii = .int .i64 (i : Int) ∧ wr.heap = w.heap ∧ Hid (m = numB (b.take i)) ∧ Hid (wr = w)) (fun _ _ ii _ => N - (intOf ii).toNat)
  case atStart => exact ⟨0, 0, by omega, by omega, rfl, rfl, rfl, rfl, rfl⟩
  case round =>
    obtain ⟨i, m, hi, hm, rfl, rfl, hh, Hm, Hb⟩ := hrel
    by_cases hlt : i < N
    · have hnb : b ≠ [] := by intro e; have := unhide HN; rw [e] at this; simp at this; omega
      obtain ⟨bb, oo, rfl, _, hcell⟩ := unhide H1 hnb
      have c1 : wr.cell? ⟨bb, oo + i, none⟩ = some (.int .u8 ((b.getD i 0).toNat : Int)) := by rw [← hcell i hlt]; unfold World.cell?; rw [hh]
      have hnx := num_take (b := b) (i := i) (by have := unhide HN; omega)
      have hsm := unhide HS (i + 1)
      rw [hnx, ← unhide Hm] at hsm
      have hlt256 := (b.getD i 0).toNat_lt
      obtain ⟨p, hp⟩ : ∃ p, (b.getD i 0).toNat = p := ⟨_, rfl⟩
      rw [hp] at c1 hnx hsm hlt256
      obtain ⟨m1, hm1⟩ : ∃ m1, m * 256 = m1 := ⟨_, rfl⟩
      obtain ⟨m2, hm2⟩ : ∃ m2, 256 * m + p = m2 := ⟨_, rfl⟩
      have e1 : (m : Int) * 256 = (m1 : Int) := by omega
      have b1 : m1 < 4294967296 := by omega
      have e2 : bits .or .i64 (m1 : Int) (p : Int) = (m2 : Int) := by
        rw [i64_or_nat m1 p b1 (by omega), ← hm1, or_byte m p hlt256, hm2]
      have b2 : m2 < 4294967296 := by omega
      have Hm2 : Hid (m2 = numB (b.take (i + 1))) := by show _ = _; rw [hnx, ← unhide Hm, hm2]
      have f1 : decide ((i : Int) < (N : Int)) = true := by simp; omega
      have f1n : decide (i < N) = true := by simp; omega
      have j0 : (0 : Int) ≤ (i : Int) := by omega
      have j1 : (i : Int) < (N : Int) := by omega
      clear hnb hcell hnx hsm hp hm1 hm2 Hm
      go_wp2
      refine ⟨⟨i + 1, m2, by omega, b2, ?_, ?_, hh, Hm2, Hb⟩, ?_⟩
      · simp
      · simp
      · simp [intOf]; omega
    · obtain rfl : i = N := by omega
      have f1 : decide ((i : Int) < (i : Int)) = false := by simp
      obtain rfl : m = ANS := by rw [unhide Hm, ← unhide HA, List.take_of_length_le (by have := unhide HN; omega)]
      clear Hm
      go_wp2
      go_ret
      exact ⟨rfl, unhide Hb⟩
/-- A part of a sector, read as a number. -/
theorem quiet_wnum {wr : World} {x : Value} {b : Bs} {k : Nat} (hx : BytesAt wr x b) (hl : b.length ≤ 4) (hk : numB b = k) (n : Nat) : Calls Try.prog 47 #[x] (wr.drewN n) fun e w' => e = .returned (.int .i64 (k : Int)) ∧ ∃ q, w' = (wr.drewN n).drewN q := by
  have h := wnum_s (wr.drewN n) x b (hx.below (below_drewNb (Below.refl _ _) n)) hl
  rw [hk] at h
  exact h.mono fun e w' h => ⟨h.1, 0, h.2⟩
set_option maxRecDepth 100000 in
theorem wparts_s (w : World) (n : Nat) (hn : n ≤ 4294967296) : Calls Try.prog 31 #[.int .i64 (n : Int)] w fun e w' => e = .returned (.int .i64 (needs n : Int)) ∧ w' = w := by
  obtain ⟨q, hq⟩ : ∃ q, needs n = q := ⟨_, rfl⟩
  have hq' : q = (n + 51) / 48 := by rw [← hq]; rfl
  rw [hq]
  obtain ⟨a, ha⟩ : ∃ a, 4 + n + 47 = a := ⟨_, rfl⟩
  obtain ⟨a1, ha1⟩ : ∃ a1, 4 + n = a1 := ⟨_, rfl⟩
  obtain ⟨a2, ha2⟩ : ∃ a2, a1 + 48 = a2 := ⟨_, rfl⟩
  have e1 : (4 : Int) + (n : Int) = (a1 : Int) := by omega
  have e2 : (a1 : Int) + 48 = (a2 : Int) := by omega
  have e3 : (a2 : Int) - 1 = (a : Int) := by omega
  have e4 : (a : Int).tdiv 48 = (q : Int) := by rw [Int.tdiv_eq_ediv_of_nonneg (by omega)]; omega
  have e5 : (a : Int) / 48 = (q : Int) := by omega
  have hab : a ≤ 4294967396 := by omega
  clear hq hq' ha ha1 ha2
  go_enter Try.func31, Try.ntmps31
  go_wp2
  go_ret
  exact ⟨rfl, rfl⟩
set_option maxRecDepth 100000 in
theorem isset_s (w : World) (x : Nat) : Calls Try.prog 53 #[.int .u8 (x : Int)] w fun e w' => e = .returned (.bool (decide (x ≠ 0))) ∧ w' = w := by
  obtain ⟨D, hD⟩ : ∃ D, decide (x ≠ 0) = D := ⟨_, rfl⟩
  have e1 : ((x : Int) != 0) = D := by rw [← hD]; by_cases h : x = 0 <;> simp [h]
  rw [hD]
  clear hD
  go_enter Try.func53, Try.ntmps53
  go_wp2
  go_ret
  exact ⟨rfl, rfl⟩
end Go.Proofs.Ytfpndphfibfdiaa
namespace Go.Proofs.Ytfpndphfibfdiaa
open Go.RowKit
/-- Is a byte other than nought there? -/
def anySet (b : Bs) : Bool := b.any (· != 0)
theorem any_zeros (n : Nat) : anySet (List.replicate n 0) = false := by
  unfold anySet
  rw [List.any_eq_false]
  intro x hx
  rw [List.eq_of_mem_replicate hx]
  decide
theorem not_any {b : Bs} (h : anySet b = false) : b = List.replicate b.length 0 := by
  unfold anySet at h
  rw [List.any_eq_false] at h
  refine List.eq_replicate_iff.2 ⟨rfl, fun x hx => ?_⟩
  have := h x hx
  simpa using this
theorem any_at {b : Bs} {i : Nat} (h : ∀ j, j < i → b.getD j 0 = 0) (hi : i = b.length) : anySet b = false := by
  unfold anySet
  rw [List.any_eq_false]
  intro x hx
  obtain ⟨j, hj, e⟩ := List.getElem_of_mem hx
  have := h j (by omega)
  rw [List.getD_eq_getElem?_getD, List.getElem?_eq_getElem hj, e] at this
  simpa using this
theorem any_here {b : Bs} {i : Nat} (hi : i < b.length) (h : (b.getD i 0).toNat ≠ 0) : anySet b = true := by
  unfold anySet
  rw [List.any_eq_true]
  refine ⟨b[i], List.getElem_mem hi, ?_⟩
  rw [List.getD_eq_getElem?_getD, List.getElem?_eq_getElem hi] at h
  simp only [Option.getD_some] at h
  simp only [bne_iff_ne, ne_eq]
  intro e
  rw [e] at h
  exact h rfl
set_option maxRecDepth 100000 in
set_option maxHeartbeats 1000000 in
theorem indexf_s (w : World) (x : Value) (b : Bs) (hx : BytesAt w x b) (hl : b.length ≤ 1000000) : Calls Try.prog 54 #[x, .func (.func 53) #[] #[]] w fun e w' => (∃ r : Int, e = .returned (.int .i64 r) ∧ decide (0 ≤ r) = anySet b) ∧ w' = w := by
  obtain ⟨sp, c, rfl, _, _, hc⟩ := bytes_open hx
  obtain ⟨N, hN⟩ : ∃ N, b.length = N := ⟨_, rfl⟩
  rw [hN] at hc hl ⊢
  have H1 := hide hc
  have HN := hide hN
  clear hc hx hN
  go_enter Try.func54, Try.ntmps54
  go_wp2
  go_loopw [5, 8] (fun _ ii wr => ∃ i : Nat, i ≤ N ∧ ii = .int .i64 (i : Int) ∧ wr.heap = w.heap ∧ Hid (∀ j, j < i → b.getD j 0 = 0) ∧ Hid (wr = w)) (fun _ ii _ => N - (intOf ii).toNat)
  case atStart => exact ⟨0, by omega, rfl, rfl, fun j hj => absurd hj (by omega), rfl⟩
  case round =>
    obtain ⟨i, hi, rfl, hh, Hz, Hb⟩ := hrel
    by_cases hlt : i < N
    · have hnb : b ≠ [] := by intro e; have := unhide HN; rw [e] at this; simp at this; omega
      obtain ⟨bb, oo, rfl, _, hcell⟩ := unhide H1 hnb
      have c1 : wr.cell? ⟨bb, oo + i, none⟩ = some (.int .u8 ((b.getD i 0).toNat : Int)) := by rw [← hcell i hlt]; unfold World.cell?; rw [hh]
      obtain ⟨p, hp⟩ : ∃ p, (b.getD i 0).toNat = p := ⟨_, rfl⟩
      rw [hp] at c1
      have f1 : decide ((i : Int) < (N : Int)) = true := by simp; omega
      have f1n : decide (i < N) = true := by simp; omega
      have j0 : (0 : Int) ≤ (i : Int) := by omega
      have j1 : (i : Int) < (N : Int) := by omega
      have Hs := hide (isset_s wr p)
      by_cases hpz : p = 0
      · have d1 : decide (p ≠ 0) = false := by simp [hpz]
        rw [d1] at Hs
        have Hz2 : Hid (∀ j, j < i + 1 → b.getD j 0 = 0) := fun j hj => by
          by_cases hji : j < i
          · exact unhide Hz j hji
          · obtain rfl : j = i := by omega
            exact UInt8.toNat_inj.1 (by rw [hp, hpz]; rfl)
        clear hnb hcell hp Hz d1 hpz
        go_wp2_with fail
        refine (unhide Hs).mono ?_
        rintro e w2 ⟨rfl, hw⟩
        subst hw
        go_wp2
        refine ⟨⟨i + 1, by omega, ?_, hh, Hz2, Hb⟩, ?_⟩
        · simp
        · simp [intOf]; omega
      · have d1 : decide (p ≠ 0) = true := by simp [hpz]
        rw [d1] at Hs
        have HA : Hid (decide ((0 : Int) ≤ (i : Int)) = anySet b) := by
          show _ = _
          rw [any_here (i := i) (by have := unhide HN; omega) (by rw [hp]; exact hpz)]
          simp
        clear hnb hcell hp Hz d1 hpz
        go_wp2_with fail
        refine (unhide Hs).mono ?_
        rintro e w2 ⟨rfl, hw⟩
        subst hw
        go_wp2
        go_ret
        exact ⟨⟨_, rfl, unhide HA⟩, unhide Hb⟩
    · obtain rfl : i = N := by omega
      have f1 : decide ((i : Int) < (i : Int)) = false := by simp
      have HA : Hid (decide ((0 : Int) ≤ -1) = anySet b) := by
        show _ = _
        rw [any_at (unhide Hz) (unhide HN).symm]
        decide
      clear Hz
      go_wp2
      go_ret
      exact ⟨⟨_, rfl, unhide HA⟩, unhide Hb⟩
set_option maxRecDepth 100000 in
theorem contains_s (w : World) (x : Value) (b : Bs) (hx : BytesAt w x b) (hl : b.length ≤ 1000000) : Calls Try.prog 52 #[x, .func (.func 53) #[] #[]] w fun e w' => e = .returned (.bool (anySet b)) ∧ w' = w := by
  have Hi := hide (indexf_s w x b hx hl)
  obtain ⟨D, hD⟩ : ∃ D, anySet b = D := ⟨_, rfl⟩
  rw [hD] at Hi ⊢
  clear hx hl hD
  go_enter Try.func52, Try.ntmps52
  go_wp2_with fail
  refine (unhide Hi).mono ?_
  rintro e w2 ⟨⟨r, rfl, hr⟩, hw⟩
  subst hw
  subst hr
  clear Hi
  go_wp2
  go_ret
  exact ⟨rfl, rfl⟩
theorem free_own {w : World} {B : Nat} {v : Value} {l : Bs} (h : OwnB w B v l) : FreeAt w v l.length := by
  intro g o c m hv j hj
  subst hv
  rcases h.2 with ⟨h0, _⟩ | ⟨g', cap', cur, hv, _, hg, _⟩
  · cases h0
  · simp only [Value.slice.injEq, Option.some.injEq, Addr.mk.injEq] at hv
    obtain ⟨⟨rfl, rfl, _⟩, _, _⟩ := hv
    exact frozen_of_row w _ _ _ 5 hg
set_option maxRecDepth 100000 in
set_option maxHeartbeats 1000000 in
theorem bclone_c (w : World) (x : Value) (b : Bs) (hx : BytesAt w x b) (hl : b.length ≤ 1073741824) : GivesB w 34 #[x] b := by
  obtain ⟨sp, c, rfl, hlc, hn, _⟩ := bytes_open hx
  cases sp with
  | none =>
    have hc0 := hn rfl
    obtain rfl : b = [] := List.eq_nil_of_length_eq_zero (by omega)
    subst hc0
    have heq : ∀ w, (binOp .eql 30 (.slice none 0 0) (.slice none 0 0)).run Try.prog w = .ok (.bool true) w := fun w => by kernel_rfl
    clear hx hn
    go_enter Try.func34, Try.ntmps34
    go_wp2
    go_ret
    exact ⟨_, rfl, ownb_nil _ _, Below.refl _ _⟩
  | some ad =>
    have heq : ∀ w, (binOp .eql 30 (.slice (some ad) b.length c) (.slice none 0 0)).run Try.prog w = .ok (.bool false) w := fun w => by kernel_rfl
    have hbA : Below w.heap.size w (w.alloc (.cells #[] 5)) := (Below.refl _ _).alloc (Nat.le_refl _) _
    have HOA := hide (ownb_empty w)
    have HXA := hide (hx.below hbA)
    have HbA := hide hbA
    have Hs := hide hbA.size
    have Hl1 := hide (show ([] : Bs).length + b.length ≤ 1073741824 by simp; omega)
    obtain ⟨N, hN⟩ : ∃ N, b.length = N := ⟨_, rfl⟩
    rw [hN] at heq HXA ⊢
    clear hx hbA hl hlc hn hN
    go_enter Try.func34, Try.ntmps34
    go_wp2_with (at_builtin; refine wpList_append_bytes rfl _ _ rfl w.heap.size (.slice (some ⟨w.heap.size, 0, none⟩) 0 0) (.slice (some ad) N c) [] b rfl (unhide HOA) rfl (unhide HXA) (unhide Hs) (unhide Hl1) ?_
                 intro v2 w2 hO2 hg2 _
                 rw [List.nil_append] at hO2
                 have hb2 := ownb_below (unhide HOA) hg2 (unhide HbA) (unhide Hs)
                 have HO2 := hide hO2
                 have HB2 := hide hb2
                 clear hO2 hg2 hb2)
    go_ret
    exact ⟨_, rfl, unhide HO2, unhide HB2⟩
end Go.Proofs.Ytfpndphfibfdiaa
namespace Go.Proofs.Ytfpndphfibfdiaa
open Go.RowKit
theorem big_at (n : Nat) : ∀ (size i : Nat), i < size → (bigB n size)[i]? = some (UInt8.ofNat (n / 256 ^ (size - 1 - i)))
  | 0, i, h => by omega
  | size + 1, 0, _ => by rw [bigB_cons]; simp
  | size + 1, i + 1, h => by
    rw [bigB_cons, List.getElem?_cons_succ, big_at n size i (by omega)]
    congr 4
    omega
theorem big_step (n size i : Nat) (h : i < size) : (bigB n size).take (i + 1) = (bigB n size).take i ++ [UInt8.ofNat (n / 256 ^ (size - 1 - i))] := by
  rw [List.take_add_one, big_at n size i h]; rfl
/-- The first bytes of a row of 64, noughts behind them. -/
def RoomAt (w : World) (g : Nat) (l : Bs) : Prop := RowAt 5 w g (List.replicate (64 - l.length) (.int .u8 0)) (l.map bv) ∧ l.length ≤ 64
theorem RoomAt.below {a b : World} {g : Nat} {l : Bs} (h : RoomAt a g l) (hb : Below a.heap.size a b) : RoomAt b g l := ⟨h.1.below hb, h.2⟩
theorem RoomAt.lt {w : World} {g : Nat} {l : Bs} (h : RoomAt w g l) : g < w.heap.size := h.1.lt
theorem room_append {w : World} {g : Nat} {l m : Bs} {y : Value} (h : RoomAt w g l) (hy : BytesAt w y m) (hne : m ≠ []) (hfit : l.length + m.length ≤ 64) (ty : TypeId) :
    ∃ w', (Builtin.append_ #[30, 30] ty #[.slice (some ⟨g, 0, none⟩) l.length 64, y]).run Try.prog w = .ok (.slice (some ⟨g, 0, none⟩) (l.length + m.length) 64) w' ∧ RoomAt w' g (l ++ m) ∧ w.grownBy w' (some g) := by
  obtain ⟨hu, ⟨i, hi, _, hsz, _⟩, _, _⟩ := Eb
  obtain ⟨b, o, c, rfl, _, _, hcell⟩ := ValsAt.cell hy (by simpa using hne)
  have hr := run_append_room (P := Try.prog) w 30 ty 5 i hu hi g l.length 64 _ h.1 ⟨b, o, none⟩ m.length c (m.map bv) (by rw [List.length_map, hsz, Nat.mul_one]) (fun j u hu => by
      have hj := (List.getElem?_eq_some_iff.1 hu).1
      have := hcell j hj
      rw [List.getD_eq_getElem?_getD, hu] at this
      rw [Addr.add_mid]
      exact this) (one_bytes m) hfit (by
      rw [hsz, List.size_toArray, List.length_append, List.length_map, List.length_replicate, List.length_map]
      omega)
  rw [List.length_map] at hr ⊢
  refine ⟨_, hr, ⟨?_, by rw [List.length_append]; exact hfit⟩, ⟨rfl, rfl, rfl, by simp, fun k _ hk => setRow_other w g k _ (fun e => hk (by simp [e]))⟩⟩
  unfold RowAt
  rw [setRow_heap w g _ _ 5 _ h.1]
  congr 3
  rw [hsz, Nat.mul_one, List.toList_toArray, List.map_append, List.length_append]
  have e1 : (List.map bv l ++ List.replicate (64 - l.length) (Value.int .u8 0)).take l.length = List.map bv l := by
    rw [List.take_append_of_le_length (by rw [List.length_map]; omega), List.take_of_length_le (by rw [List.length_map]; omega)]
  have e2 : (List.map bv l ++ List.replicate (64 - l.length) (Value.int .u8 0)).drop (l.length + m.length) = List.replicate (64 - (l.length + m.length)) (Value.int .u8 0) := by
    rw [List.drop_append, List.length_map, List.drop_of_length_le (by rw [List.length_map]; omega), List.nil_append, List.drop_replicate]
    congr 1
    omega
  rw [e1, e2]
theorem wpList_append_room14 {w : World} {ops : Array Oper} {rest : List Oper} {o : Oper} {a : Act} {Q : Exit → Act → World → Prop} (hgd : o.guard = none) (s x : Operand)
    (ho : o.op = .call { callee := .builtin .append, args := #[s, x], argTypes := #[30, 30] }) (g k : Nat) (y : Value) (l m : Bs) (hs : a.eval s = .slice (some ⟨g, 0, none⟩) k 64) (hk : l.length = k) (hr : RoomAt w g l)
    (hx : a.eval x = y) (hy : BytesAt w y m) (hne : m ≠ []) (hlen : k + m.length ≤ 64)
    (h : ∀ w', RoomAt w' g (l ++ m) → w.grownBy w' (some g) → wpList Try.prog ops Q rest (a.put o.dst (.slice (some ⟨g, 0, none⟩) (k + m.length) 64)) w') : wpList Try.prog ops Q (o :: rest) a w := by
  subst hk
  refine wpList_plain hgd fun K hK' => ?_
  obtain ⟨w', hrun, r1, r2⟩ := room_append hr hy hne hlen o.type
  unfold Oper.wp
  simp [execOp, ho, resolve, invoke, builtin, hs, hx, hrun, Result.andThen]
  exact hK' _ _ (h w' r1 r2)
theorem byte_of (n d q : Nat) (h : n / 256 ^ d = q) : IntKind.u8.wrap (q : Int) = ((UInt8.ofNat (n / 256 ^ d)).toNat : Int) := by
  rw [IntKind.wrap_u8', UInt8.toNat_ofNat', h]; omega
theorem pow_sh (d : Nat) : (2 : Nat) ^ (8 * d) = 256 ^ d := by rw [Nat.pow_mul]
theorem one_byte (W : World) (x : UInt8) : BytesAt (W.alloc (.cells #[.int .u8 (x.toNat : Int)] 5)) (.slice (some ⟨W.heap.size, 0, none⟩) 1 1) [x] := bytes_new W [x]
set_option maxRecDepth 100000 in
set_option maxHeartbeats 2000000 in
theorem addn_room (w : World) (g : Nat) (l : Bs) (K n size : Nat) (hK : l.length = K) (hr : RoomAt w g l) (hn : n ≤ 4611686018427387904) (hs : size ≤ 8) (hf : K + size ≤ 64) :
    Calls Try.prog 50 #[.slice (some ⟨g, 0, none⟩) K 64, .int .i64 (n : Int), .int .i64 (size : Int)] w fun e w' => e = .returned (.slice (some ⟨g, 0, none⟩) (K + size) 64) ∧ RoomAt w' g (l ++ bigB n size) ∧ Aside (fun k => k = g) w w' := by
  have HR0 := hide hr
  have HK := hide hK
  clear hr hK
  go_enter Try.func50, Try.ntmps50
  go_wp2
  go_loopw [0, 7, 9] (fun bb _ ii wr => ∃ i : Nat, i ≤ size ∧ bb = .slice (some ⟨g, 0, none⟩) (K + i) 64 ∧ ii = .int .i64 (i : Int) ∧ Hid (RoomAt wr g (l ++ (bigB n size).take i)) ∧ Hid (Aside (fun k => k = g) w wr)) (fun _ _ ii _ => size - (intOf ii).toNat)
  case atStart => exact ⟨0, by omega, rfl, rfl, by show RoomAt _ _ _; rw [List.take_zero, List.append_nil]; exact unhide HR0, Aside.refl _ _⟩
  case round =>
    clear HR0
    obtain ⟨i, hi, rfl, rfl, HR, HA⟩ := hrel
    by_cases hlt : i < size
    · have f1 : decide ((i : Int) < (size : Int)) = true := by simp; omega
      have f1n : decide (i < size) = true := by simp; omega
      obtain ⟨d, hd⟩ : ∃ d, size - 1 - i = d := ⟨_, rfl⟩
      obtain ⟨sh, hsh⟩ : ∃ sh, 8 * d = sh := ⟨_, rfl⟩
      obtain ⟨q, hq⟩ : ∃ q, n / 256 ^ d = q := ⟨_, rfl⟩
      obtain ⟨s1, hs1⟩ : ∃ s1, size - 1 = s1 := ⟨_, rfl⟩
      have e0 : (size : Int) - 1 = (s1 : Int) := by omega
      have e1 : (s1 : Int) - (i : Int) = (d : Int) := by omega
      have e2 : (8 : Int) * (d : Int) = (sh : Int) := by omega
      have hqb : q ≤ 4611686018427387904 := by rw [← hq]; exact Nat.le_trans (Nat.div_le_self _ _) hn
      have e3 : (n : Int) / 2 ^ sh = (q : Int) := by
        rw [← hq, ← pow_sh, hsh]
        simp
      have e4 := byte_of n d q hq
      obtain ⟨x, hx⟩ : ∃ x, UInt8.ofNat (n / 256 ^ d) = x := ⟨_, rfl⟩
      rw [hx] at e4
      have HST := hide (big_step n size i hlt)
      rw [hd, hx] at HST
      have HY := hide (one_byte wr x)
      have HR1 := hide ((unhide HR).below ((Below.refl _ _).alloc (Nat.le_refl _) (.cells #[.int .u8 (x.toNat : Int)] 5)))
      have HL : Hid ((l ++ (bigB n size).take i).length = K + i) := by show _ = _; rw [List.length_append, unhide HK, List.length_take, big_len]; omega
      have hsh8 : sh ≤ 56 := by omega
      have HA1 : Hid (Aside (fun k => k = g) w (wr.alloc (.cells #[.int .u8 (x.toNat : Int)] 5))) := (unhide HA).alloc _
      clear hd hsh hq hx hs1 HR HA
      go_wp2_with (at_builtin; refine wpList_append_room14 rfl _ _ rfl g (K + i) (.slice (some ⟨wr.heap.size, 0, none⟩) 1 1) (l ++ (bigB n size).take i) [x] rfl (unhide HL) (unhide HR1) rfl (unhide HY) (by simp) (by simp; omega) ?_
                   intro w3 hR3 hg3
                   rw [List.append_assoc, ← unhide HST] at hR3
                   have HR3 := hide hR3
                   have HA3 : Hid (Aside (fun k => k = g) w w3) := (unhide HA1).trans (Aside.of_grown hg3 (S := fun k => k = g) fun k hk => (Option.some.inj hk).symm) fun _ _ h => h
                   clear hR3 hg3)
      refine ⟨⟨i + 1, by omega, ?_, ?_, HR3, HA3⟩, ?_⟩
      · rfl
      · simp
      · simp [intOf]; omega
    · obtain rfl : i = size := by omega
      have f1 : decide ((i : Int) < (i : Int)) = false := by simp
      have HE : Hid (RoomAt wr g (l ++ bigB n i)) := by
        have h := unhide HR
        rw [List.take_of_length_le (by rw [big_len]; omega)] at h
        exact h
      clear HR
      go_wp2
      go_ret
      exact ⟨rfl, unhide HE, unhide HA⟩
end Go.Proofs.Ytfpndphfibfdiaa
namespace Go.Proofs.Ytfpndphfibfdiaa
open Go.RowKit
set_option maxRecDepth 100000 in
set_option maxHeartbeats 2000000 in
theorem addn_own (w : World) (n size : Nat) (hn : n ≤ 4611686018427387904) (hs : size ≤ 8) : GivesB w 50 #[.slice none 0 0, .int .i64 (n : Int), .int .i64 (size : Int)] (bigB n size) := by
  go_enter Try.func50, Try.ntmps50
  go_wp2
  go_loopw [0, 7, 9] (fun bb _ ii wr => ∃ (i c : Nat) (sp : Option Addr), i ≤ size ∧ bb = .slice sp i c ∧ ii = .int .i64 (i : Int) ∧ Hid (Row w wr (.slice sp i c) ((bigB n size).take i))) (fun _ _ ii _ => size - (intOf ii).toNat)
  case atStart => exact ⟨0, 0, none, by omega, rfl, rfl, ownb_nil _ _, Below.refl _ _⟩
  case round =>
    obtain ⟨i, c, sp, hi, rfl, rfl, HR⟩ := hrel
    by_cases hlt : i < size
    · have f1 : decide ((i : Int) < (size : Int)) = true := by simp; omega
      have f1n : decide (i < size) = true := by simp; omega
      obtain ⟨d, hd⟩ : ∃ d, size - 1 - i = d := ⟨_, rfl⟩
      obtain ⟨sh, hsh⟩ : ∃ sh, 8 * d = sh := ⟨_, rfl⟩
      obtain ⟨q, hq⟩ : ∃ q, n / 256 ^ d = q := ⟨_, rfl⟩
      obtain ⟨s1, hs1⟩ : ∃ s1, size - 1 = s1 := ⟨_, rfl⟩
      have e0 : (size : Int) - 1 = (s1 : Int) := by omega
      have e1 : (s1 : Int) - (i : Int) = (d : Int) := by omega
      have e2 : (8 : Int) * (d : Int) = (sh : Int) := by omega
      have hqb : q ≤ 4611686018427387904 := by rw [← hq]; exact Nat.le_trans (Nat.div_le_self _ _) hn
      have e3 : (n : Int) / 2 ^ sh = (q : Int) := by
        rw [← hq, ← pow_sh, hsh]
        simp
      have e4 := byte_of n d q hq
      obtain ⟨x, hx⟩ : ∃ x, UInt8.ofNat (n / 256 ^ d) = x := ⟨_, rfl⟩
      rw [hx] at e4
      have HST := hide (big_step n size i hlt)
      rw [hd, hx] at HST
      have HY := hide (one_byte wr x)
      have HR1 := hide ((unhide HR).lit (.cells #[.int .u8 (x.toNat : Int)] 5))
      have HL : Hid (((bigB n size).take i).length = i) := by show _ = _; rw [List.length_take, big_len]; omega
      have hsh8 : sh ≤ 56 := by omega
      clear hd hsh hq hx hs1 HR
      go_wp2_with (at_builtin; refine wpList_append_row rfl _ _ rfl (.slice sp i c) (.slice (some ⟨wr.heap.size, 0, none⟩) 1 1) ((bigB n size).take i) [x] rfl (unhide HR1) rfl (unhide HY) (by rw [unhide HL]; simp; omega) ?_
                   intro v3 w3 hR3
                   rw [← unhide HST] at hR3
                   obtain ⟨s3, c3, ev3⟩ := hR3.own.form
                   rw [List.length_take, big_len, Nat.min_eq_left hlt] at ev3
                   subst ev3
                   have HR3 := hide hR3
                   clear hR3)
      refine ⟨⟨i + 1, c3, s3, by omega, ?_, ?_, HR3⟩, ?_⟩
      · rfl
      · simp
      · simp [intOf]; omega
    · obtain rfl : i = size := by omega
      have f1 : decide ((i : Int) < (i : Int)) = false := by simp
      have HE : Hid (Row w wr (.slice sp i c) (bigB n i)) := by
        have h := unhide HR
        rw [List.take_of_length_le (by rw [big_len]; omega)] at h
        exact h
      clear HR
      go_wp2
      go_ret
      exact ⟨_, rfl, unhide HE⟩
set_option maxRecDepth 100000 in
set_option maxHeartbeats 2000000 in
theorem wlen_c (w : World) (x : Value) (b : Bs) (hx : BytesAt w x b) (hl : b.length ≤ 65536) : GivesB w 42 #[x] (bigB b.length 4 ++ b) := by
  obtain ⟨sx, cx, rfl, _⟩ := bytes_open hx
  have HX := hide hx
  have HA := hide (addn_own w b.length 4 (by omega) (by omega))
  obtain ⟨N, hN⟩ : ∃ N, b.length = N := ⟨_, rfl⟩
  rw [hN] at HA HX hl ⊢
  have HN := hide hN
  clear hx hN
  go_enter Try.func42, Try.ntmps42
  go_wp2_with fail
  refine (unhide HA).mono ?_
  rintro e w2 ⟨v2, rfl, h2⟩
  obtain ⟨s2, c2, e2⟩ := h2.own.form
  rw [big_len] at e2
  subst e2
  have HR2 := hide h2
  have HX2 := hide ((unhide HX).below h2.b)
  clear h2 HA HX
  go_wp2_with (at_builtin; refine wpList_append_row rfl _ _ rfl (.slice s2 4 c2) (.slice sx N cx) (bigB N 4) b rfl (unhide HR2) rfl (unhide HX2) (by rw [big_len, unhide HN]; omega) ?_
               intro v3 w3 hR3)
  go_ret
  exact ⟨_, rfl, hR3⟩
/-- A head, as a value. -/
def hdV (g o n p l : Nat) : Value := .agg #[.int .i64 (g : Int), .int .i64 (o : Int), .int .i64 (n : Int), .int .i64 (p : Int), .int .i64 (l : Int)]
def hdC (g o n p l : Nat) : List Value := [.int .i64 (g : Int), .int .i64 (o : Int), .int .i64 (n : Int), .int .i64 (p : Int), .int .i64 (l : Int)]
/-- A struct in its block. -/
def AggAt (w : World) (K : Nat) (cs : List Value) : Prop := K < w.heap.size ∧ w.rangeAt K 0 cs
theorem AggAt.below {a b : World} {K : Nat} {cs : List Value} (k : AggAt a K cs) (hb : Below a.heap.size a b) : AggAt b K cs :=
  ⟨Nat.lt_of_lt_of_le k.1 hb.size, fun j v hv => by rw [hb.cell (p := ⟨K, 0 + j, none⟩) k.1]; exact k.2 j v hv⟩
theorem AggAt.aside {S : Set_} {a b : World} {K : Nat} {cs : List Value} (k : AggAt a K cs) (hb : Aside S a b) (hK : ¬ S K) : AggAt b K cs :=
  ⟨Nat.lt_of_lt_of_le k.1 hb.size, fun j v hv => cell_aside (k.2 j v hv) hb hK⟩
theorem AggAt.c {w : World} {K : Nat} {cs : List Value} (k : AggAt w K cs) (j : Nat) (v : Value) (hv : cs[j]? = some v) : w.cell? ⟨K, j, none⟩ = some v := by
  have := k.2 j v hv
  rwa [Nat.zero_add] at this
theorem agg_new (w : World) (cs : List Value) (t : TypeId) : AggAt (w.alloc (.cells cs.toArray t)) w.heap.size cs := by
  refine ⟨by simp, fun j v hv => ?_⟩
  rw [cell_of_row _ _ _ _ t (0, 0) (heap_alloc_new w _), Nat.zero_add]
  simpa using hv
theorem made64 (w : World) : ∃ W, (Instr.makeSlice 30 (.int .i64 0) (.int .i64 64)).run Try.prog w = .ok (.slice (some ⟨w.heap.size, 0, none⟩) 0 64) W ∧ RoomAt W w.heap.size [] ∧ Below w.heap.size w W := by
  obtain ⟨hu, ⟨i, hi, h0, hsz, hby⟩, _, _⟩ := Eb
  have hr := run_make (P := Try.prog) w 30 5 i (.int .u8 0) hu hi h0 .i64 .i64 0 64 (by omega) (by omega) (by rw [hby]; omega) (by omega)
  rw [hsz] at hr
  have e1 : madeCells (Value.int .u8 0).cells (Int.toNat 64 * 1) = (List.replicate 64 (Value.int .u8 0)).toArray := by
    rw [show (Value.int .u8 0).cells = #[Value.int .u8 0] from rfl, show Int.toNat 64 * 1 = 64 from rfl]
    generalize 64 = N
    apply Array.ext
    · simp [madeCells]
    · intro j h1 h2
      simp [madeCells, Nat.mod_one]
  rw [e1, show Int.toNat 0 = 0 from rfl, show Int.toNat 64 = 64 from rfl] at hr
  refine ⟨w.alloc (.cells (List.replicate 64 (.int .u8 0)).toArray 5), hr, ⟨?_, by simp⟩, (Below.refl _ _).alloc (Nat.le_refl _) _⟩
  unfold RowAt
  rw [heap_alloc_new]
  rfl
theorem slice64 (g n : Nat) (w : World) : (Instr.sliceAt 30 (.slice (some ⟨g, 0, none⟩) n 64) none (some (.int .i64 64)) none).run Try.prog w = .ok (.slice (some ⟨g, 0, none⟩) 64 64) w := slice_front (some ⟨g, 0, none⟩) n 64 64 (by omega) w
/-- All of the row, its noughts too. -/
theorem RoomAt.whole {w : World} {g B : Nat} {l : Bs} (h : RoomAt w g l) (hB : B ≤ g) : OwnB w B (.slice (some ⟨g, 0, none⟩) 64 64) (l ++ List.replicate (64 - l.length) 0) := by
  have h2 := h.2
  have hr : RowAt 5 w g [] ((l ++ List.replicate (64 - l.length) 0).map bv) := by
    have h1 := h.1
    unfold RowAt at h1 ⊢
    rw [List.append_nil, List.map_append, List.map_replicate]
    exact h1
  exact hr.own hB 64 64 (by rw [List.length_map, List.length_append, List.length_replicate]; omega) rfl (by simp only [maxLen]; omega)
set_option maxRecDepth 100000 in
set_option maxHeartbeats 4000000 in
theorem wsector_c (w : World) (g o n p l : Nat) (x : Value) (b : Bs) (hx : BytesAt w x b) (hb0 : b ≠ []) (hb : b.length ≤ 48) (hg : g ≤ 4294967296) (ho : o ≤ 4294967296) (hn : n ≤ 4294967296) (hp : p ≤ 4294967296) (hl : l ≤ 4294967296) :
    GivesB w 43 #[hdV g o n p l, x] (headS g o n p l ++ (b ++ List.replicate (48 - b.length) 0)) := by
  obtain ⟨sx, cx, rfl, _⟩ := bytes_open hx
  have hA := agg_new w (hdC g o n p l) 78
  have hbA : Below w.heap.size w (w.alloc (.cells (hdC g o n p l).toArray 78)) := (Below.refl _ _).alloc (Nat.le_refl _) _
  obtain ⟨w1, hw1⟩ : ∃ y, w.alloc (.cells (hdC g o n p l).toArray 78) = y := ⟨_, rfl⟩
  rw [hw1] at hA hbA
  obtain ⟨w2, hmk, hR2, hb2⟩ := made64 w1
  have hw1s : w1.heap.size = w.heap.size + 1 := by rw [← hw1]; simp
  unfold hdC at hw1
  have HA2 := hide (hA.below hb2)
  have HR2 := hide hR2
  have HB2 : Hid (Below w.heap.size w w2) := hbA.trans (hb2.mono hbA.size)
  have HX := hide hx
  have HS1 := hide hw1s
  obtain ⟨G, hG⟩ : ∃ y, w1.heap.size = y := ⟨_, rfl⟩
  rw [hG] at hmk HR2 HS1
  have HBN : Hid (b.length ≤ 48) := hb
  obtain ⟨N, hN⟩ : ∃ N, b.length = N := ⟨_, rfl⟩
  rw [hN] at hb HX ⊢
  have HN := hide hN
  have HB0 := hide hb0
  clear hx hA hbA hR2 hb2 hw1s hG hN hb0
  unfold hdV
  go_enter Try.func43, Try.ntmps43
  have c0 := (unhide HA2).c 0 _ rfl
  have HA3_0 : Hid (Aside (fun k => k = G) w2 w2) := Aside.refl _ _
  have HRm0 : Hid (RoomAt w2 G ([] : Bs)) := HR2
  clear HR2
  have Hc := hide (addn_room w2 G ([] : Bs) 0 g 4 rfl (unhide HRm0) (by omega) (by omega) (by omega))
  simp only [Nat.reduceAdd] at Hc
  go_wp2_with fail
  refine (unhide Hc).mono ?_
  rintro e u0 ⟨rfl, hr_, ha_⟩
  have HRm1 := hide hr_
  have HA3_1 : Hid (Aside (fun k => k = G) w2 u0) := (unhide HA3_0).trans ha_ fun _ _ h => h
  have c1 := ((unhide HA2).aside (unhide HA3_1) (by have := unhide HS1; omega)).c 1 _ rfl
  clear hr_ ha_ Hc c0 HRm0 HA3_0 hmk
  have Hc := hide (addn_room u0 G (([] : Bs) ++ bigB g 4) 4 o 4 (by simp [big_len]) (unhide HRm1) (by omega) (by omega) (by omega))
  simp only [Nat.reduceAdd] at Hc
  go_wp2_with fail
  refine (unhide Hc).mono ?_
  rintro e u1 ⟨rfl, hr_, ha_⟩
  have HRm2 := hide hr_
  have HA3_2 : Hid (Aside (fun k => k = G) w2 u1) := (unhide HA3_1).trans ha_ fun _ _ h => h
  have c2 := ((unhide HA2).aside (unhide HA3_2) (by have := unhide HS1; omega)).c 2 _ rfl
  clear hr_ ha_ Hc c1 HRm1 HA3_1
  have Hc := hide (addn_room u1 G ((([] : Bs) ++ bigB g 4) ++ bigB o 4) 8 n 4 (by simp [big_len]) (unhide HRm2) (by omega) (by omega) (by omega))
  simp only [Nat.reduceAdd] at Hc
  go_wp2_with fail
  refine (unhide Hc).mono ?_
  rintro e u2 ⟨rfl, hr_, ha_⟩
  have HRm3 := hide hr_
  have HA3_3 : Hid (Aside (fun k => k = G) w2 u2) := (unhide HA3_2).trans ha_ fun _ _ h => h
  have c3 := ((unhide HA2).aside (unhide HA3_3) (by have := unhide HS1; omega)).c 3 _ rfl
  clear hr_ ha_ Hc c2 HRm2 HA3_2
  have Hc := hide (addn_room u2 G (((([] : Bs) ++ bigB g 4) ++ bigB o 4) ++ bigB n 4) 12 p 2 (by simp [big_len]) (unhide HRm3) (by omega) (by omega) (by omega))
  simp only [Nat.reduceAdd] at Hc
  go_wp2_with fail
  refine (unhide Hc).mono ?_
  rintro e u3 ⟨rfl, hr_, ha_⟩
  have HRm4 := hide hr_
  have HA3_4 : Hid (Aside (fun k => k = G) w2 u3) := (unhide HA3_3).trans ha_ fun _ _ h => h
  have c4 := ((unhide HA2).aside (unhide HA3_4) (by have := unhide HS1; omega)).c 4 _ rfl
  clear hr_ ha_ Hc c3 HRm3 HA3_3
  have Hc := hide (addn_room u3 G ((((([] : Bs) ++ bigB g 4) ++ bigB o 4) ++ bigB n 4) ++ bigB p 2) 14 l 2 (by simp [big_len]) (unhide HRm4) (by omega) (by omega) (by omega))
  simp only [Nat.reduceAdd] at Hc
  go_wp2_with fail
  refine (unhide Hc).mono ?_
  rintro e u4 ⟨rfl, hr_, ha_⟩
  have HRm5 := hide hr_
  have HA3_5 : Hid (Aside (fun k => k = G) w2 u4) := (unhide HA3_4).trans ha_ fun _ _ h => h
  clear hr_ ha_ Hc c4 HRm4 HA3_4
  have hLen : ((((((([] : Bs) ++ bigB g 4) ++ bigB o 4) ++ bigB n 4) ++ bigB p 2) ++ bigB l 2)).length = 16 := by simp [big_len]
  have HB5 : Hid (Below w.heap.size w u4) := (unhide HB2).trans ((unhide HA3_5).below (unhide HB2).size fun k hk => by have := unhide HS1; omega)
  have HX5 := hide ((unhide HX).below (unhide HB5))
  have hsl := slice64 G
  have HLen := hide hLen
  clear hLen
  go_wp2_with (at_builtin; refine wpList_append_room14 rfl _ _ rfl G 16 (.slice sx N cx) (((((([] : Bs) ++ bigB g 4) ++ bigB o 4) ++ bigB n 4) ++ bigB p 2) ++ bigB l 2) b rfl (unhide HLen) (unhide HRm5) rfl (unhide HX5) (unhide HB0) (by rw [unhide HN]; omega) ?_
               intro w9 hr9 hg9
               rw [unhide HN]
               have HR9 := hide hr9
               have HB9 : Hid (Below w.heap.size w w9) := (unhide HB5).trans ((Aside.of_grown hg9 (S := fun k => k = G) fun k hk => (Option.some.inj hk).symm).below (unhide HB5).size fun k hk => by have := unhide HS1; omega)
               clear hr9 hg9)
  go_ret
  refine ⟨_, rfl, ?_, unhide HB9⟩
  have h := (unhide HR9).whole (B := w.heap.size) (by have := unhide HS1; omega)
  rw [List.length_append, unhide HLen, unhide HN] at h
  have e : (((((([] : Bs) ++ bigB g 4) ++ bigB o 4) ++ bigB n 4) ++ bigB p 2) ++ bigB l 2) ++ b ++ List.replicate (64 - (16 + N)) 0 = headS g o n p l ++ (b ++ List.replicate (48 - N) 0) := by
    unfold headS
    rw [show 64 - (16 + N) = 48 - N by omega]
    simp only [List.append_assoc, List.nil_append]
  rw [e] at h
  exact h
end Go.Proofs.Ytfpndphfibfdiaa
