/-
  Small words on bytes and numbers (layer 14).
  Parts of slices of bytes: the value that a slice expression gives, and what it holds.
  The walks of the landed wal's small functions: readNumber, partsOf, isSet, and of slices.IndexFunc, ContainsFunc, Clone.
  The walks of slices.IndexFunc, ContainsFunc (of isSet) and Clone, as the landed wal reaches them.
  The walk of the landed addNumber: onto nothing, and onto a row of 64 bytes that has room.
  Rows of cells in a block of their own: read, written over.
  The walks of the reference's Join, Big, Needs and number (layers 1 and 14).
  Slices of slices of bytes: read, cut.
-/
import Derived.Test.YtbjgknoipbekoaaGreatQ1
import Derived.Test.YtbjgknoipbekoaaGreatQ0
import Derived.BigQuiet
import Derived.Test.YtbjgknoipbekoaaGreatQ2
namespace Go.Proofs.YtbjgknoipbekoaaGreat
open Go.RowKit
theorem bigB_cons : ∀ (n k : Nat), bigB n (k + 1) = UInt8.ofNat (n / 256 ^ k) :: bigB n k
  | n, 0 => by show bigB (n / 256) 0 ++ [UInt8.ofNat n] = [UInt8.ofNat (n / 256 ^ 0)]; simp [bigB]
  | n, k + 1 => by
    have ih := bigB_cons (n / 256) k
    show bigB (n / 256) (k + 1) ++ [UInt8.ofNat n] = UInt8.ofNat (n / 256 ^ (k + 1)) :: (bigB (n / 256) k ++ [UInt8.ofNat n])
    rw [ih, List.cons_append, Nat.div_div_eq_div_mul, Nat.pow_succ, Nat.mul_comm (256 ^ k) 256]
/-- An empty literal. -/
theorem ownb_empty (w : World) : OwnB (w.alloc (.cells #[] 5)) w.heap.size (.slice (some ⟨w.heap.size, 0, none⟩) 0 0) [] := ⟨rfl, Or.inr ⟨w.heap.size, 0, #[], rfl, Nat.le_refl _, heap_alloc_new w _, Nat.le_refl _, Nat.zero_le _, rfl, rfl⟩⟩
theorem num_take {b : Bs} {i : Nat} (hi : i < b.length) : numB (b.take (i + 1)) = 256 * numB (b.take i) + (b.getD i 0).toNat := by
  rw [List.take_add_one, List.getElem?_eq_getElem hi]
  show numB (b.take i ++ [b[i]]) = _
  rw [num_snoc, List.getD_eq_getElem?_getD, List.getElem?_eq_getElem hi]
  rfl
end Go.Proofs.YtbjgknoipbekoaaGreat
namespace Go.Proofs.YtbjgknoipbekoaaGreat
open Go.RowKit
theorem under_b : Tryz.prog.underlying 23 = some (.slice (Tryz.prog.elem 23)) := by kernel_rfl
theorem elem_b : Tryz.prog.elem 23 = 5 := by kernel_rfl
theorem size5 (w : World) : (Go.sizeOf 5).run Tryz.prog w = .ok 1 w := by
  obtain ⟨_, ⟨i, hi, _, hsz, _⟩, _, _⟩ := Eb
  simp [Go.sizeOf, typeInfo, hi, hsz]
/-- The front of a slice of bytes. -/
theorem slice_front (sp : Option Addr) (n c k : Nat) (hk : k ≤ c) (w : World) : (Instr.sliceAt 23 (.slice sp n c) none (some (.int .i64 (k : Int))) none).run Tryz.prog w = .ok (.slice sp k c) w := by
  rw [run_sliceAt_slice w 23 _ _ _ _ under_b, run_slice_h w 23 sp n c under_b .i64 (k : Int) (by omega) (by omega), elem_b, size5, Result.andThen_ok]
  simp only [sliced, Int.toNat_natCast, Nat.sub_zero, Nat.zero_mul]
  split
  · rfl
  · cases sp <;> simp [Addr.add]
def cutAt (sp : Option Addr) (c f : Nat) : Option Addr := if c = f then sp else sp.map (·.add f)
theorem slice_mid (sp : Option Addr) (K c f e : Nat) (hf : f ≤ e) (he : e ≤ c) (w : World) : (Instr.sliceAt 23 (.slice sp K c) (some (.int .i64 (f : Int))) (some (.int .i64 (e : Int))) none).run Tryz.prog w = .ok (.slice (cutAt sp c f) (e - f) (c - f)) w := by
  rw [run_sliceAt_slice w 23 _ _ _ _ under_b, run_slice_lh w 23 sp K c under_b .i64 .i64 (f : Int) (e : Int) (by omega) (by omega) (by omega), elem_b, size5, Result.andThen_ok]
  simp only [sliced, Int.toNat_natCast, Nat.mul_one]
  rfl
theorem slice_rest (sp : Option Addr) (K c f : Nat) (hf : f ≤ K) (w : World) : (Instr.sliceAt 23 (.slice sp K c) (some (.int .i64 (f : Int))) none none).run Tryz.prog w = .ok (.slice (cutAt sp c f) (K - f) (c - f)) w := by
  rw [run_sliceAt_slice w 23 _ _ _ _ under_b, run_slice_l w 23 sp K c under_b .i64 (f : Int) (by omega) (by omega), elem_b, size5, Result.andThen_ok]
  simp only [sliced, Int.toNat_natCast, Nat.mul_one]
  rfl
theorem bytes_part {w : World} {sp : Option Addr} {c : Nat} {b : Bs} (h : BytesAt w (.slice sp b.length c) b) (f e : Nat) (hf : f ≤ e) (he : e ≤ b.length) : BytesAt w (.slice (cutAt sp c f) (e - f) (c - f)) ((b.drop f).take (e - f)) := by
  obtain ⟨sp', c', ex, h1, h2, h3⟩ := h
  simp only [Value.slice.injEq] at ex
  obtain ⟨rfl, _, rfl⟩ := ex
  rw [List.length_map] at h1
  have hl : (((b.drop f).take (e - f)).map bv).length = e - f := by rw [List.length_map, List.length_take, List.length_drop]; omega
  refine ⟨_, _, by rw [hl], by omega, fun h => ?_, fun hne => ?_⟩
  · unfold cutAt at h
    split at h
    · omega
    · have : sp = none := by cases sp with
        | none => rfl
        | some a => simp at h
      rw [h2 this]; omega
  · have hpos : 0 < e - f := by
      rcases Nat.eq_zero_or_pos (e - f) with h0 | h0
      · exact absurd (List.eq_nil_of_length_eq_zero (hl.trans h0)) hne
      · exact h0
    obtain ⟨bb, o, rfl, hr⟩ := h3 (by intro e0; have := congrArg List.length e0; rw [List.length_map] at this; simp at this; rw [this] at he; simp at he; omega)
    unfold cutAt
    rw [if_neg (by omega)]
    refine ⟨bb, o + f, by simp [Addr.add_mid], fun j v hv => ?_⟩
    have hj : j < e - f := by have := (List.getElem?_eq_some_iff.1 hv).1; omega
    have := hr (f + j) v (by
      rw [← hv]
      rw [List.getElem?_map, List.getElem?_map, List.getElem?_take, if_pos hj, List.getElem?_drop])
    rwa [← Nat.add_assoc] at this
theorem bytes_rest {w : World} {sp : Option Addr} {c : Nat} {b : Bs} (h : BytesAt w (.slice sp b.length c) b) (f : Nat) (hf : f ≤ b.length) : BytesAt w (.slice (cutAt sp c f) (b.length - f) (c - f)) (b.drop f) := by
  have := bytes_part h f b.length hf (Nat.le_refl _)
  rwa [List.take_of_length_le (by rw [List.length_drop]; omega)] at this
theorem bytes_front {w : World} {sp : Option Addr} {c : Nat} {b : Bs} (h : BytesAt w (.slice sp b.length c) b) (e : Nat) (he : e ≤ b.length) : BytesAt w (.slice sp e c) (b.take e) := by
  obtain ⟨sp', c', ex, h1, h2, h3⟩ := h
  simp only [Value.slice.injEq] at ex
  obtain ⟨rfl, _, rfl⟩ := ex
  rw [List.length_map] at h1
  have hl : ((b.take e).map bv).length = e := by rw [List.length_map, List.length_take]; omega
  refine ⟨sp, c, by rw [hl], by omega, h2, fun hne => ?_⟩
  obtain ⟨bb, o, e2, hr⟩ := h3 (by intro e0; exact hne (by have : b = [] := by simpa using e0
                                                           rw [this]; simp))
  refine ⟨bb, o, e2, fun j v hv => hr j v ?_⟩
  have hj : j < e := by have := (List.getElem?_eq_some_iff.1 hv).1; omega
  rw [← hv, List.getElem?_map, List.getElem?_map, List.getElem?_take, if_pos hj]
end Go.Proofs.YtbjgknoipbekoaaGreat
namespace Go.Proofs.YtbjgknoipbekoaaGreat
open Go.RowKit
theorem below_drewNb {B : Nat} {a w : World} (h : Below B a w) (n : Nat) : Below B a (w.drewN n) := h.trans ⟨rfl, rfl, rfl, Nat.le_refl _, fun _ _ => rfl⟩
theorem ofInt_i64 (a : Nat) (ha : a < 9223372036854775808) : (BitVec.ofInt 64 (a : Int)).toNat = a := by
  rw [BitVec.ofInt_natCast, BitVec.toNat_ofNat]; exact Nat.mod_eq_of_lt (by omega)
theorem i64_or_nat (a b : Nat) (ha : a < 4294967296) (hb : b < 4294967296) : bits .or .i64 (a : Int) (b : Int) = ((a ||| b : Nat) : Int) := by
  have hx : a ||| b < 2 ^ 32 := Nat.or_lt_two_pow (by omega) (by omega)
  show IntKind.i64.wrap ((BitVec.ofInt 64 (a : Int) ||| BitVec.ofInt 64 (b : Int)).toNat : Int) = _
  rw [BitVec.toNat_or, ofInt_i64 a (by omega), ofInt_i64 b (by omega), IntKind.wrap_i64]
  omega
theorem or_byte (m p : Nat) (hp : p < 256) : m * 256 ||| p = 256 * m + p := by
  have := Nat.two_pow_add_eq_or_of_lt (i := 8) (b := p) (by omega) m
  rw [show (2 : Nat) ^ 8 = 256 from rfl] at this
  rw [Nat.mul_comm m 256]
  exact this.symm
theorem num_small4 (b : Bs) (i : Nat) (h : b.length ≤ 4) : numB (b.take i) < 4294967296 := by
  have h1 := num_lt (b.take i)
  have h2 : (b.take i).length ≤ 4 := by rw [List.length_take]; omega
  have h3 : 256 ^ (b.take i).length ≤ 256 ^ 4 := Nat.pow_le_pow_right (by omega) h2
  omega
set_option maxRecDepth 100000 in
set_option maxHeartbeats 1000000 in
theorem wnum_s (w : World) (x : Value) (b : Bs) (hx : BytesAt w x b) (hl : b.length ≤ 4) : Calls Tryz.prog 128 #[x] w fun e w' => e = .returned (.int .i64 (numB b : Int)) ∧ w' = w := by
  obtain ⟨sp, c, rfl, _, _, hc⟩ := bytes_open hx
  obtain ⟨N, hN⟩ : ∃ N, b.length = N := ⟨_, rfl⟩
  rw [hN] at hc ⊢
  have H1 := hide hc
  have HN := hide hN
  have hN6 : N ≤ 4 := by omega
  have HS := hide (fun i => num_small4 b i hl)
  obtain ⟨ANS, hA⟩ : ∃ y, numB b = y := ⟨_, rfl⟩
  rw [hA]
  have HA := hide hA
  clear hc hx hN hl hA
  go_enter Tryz.func128, Tryz.ntmps128
  go_wp2
  go_loopw [3, 5, 8] (fun nn _ ii wr => ∃ i m : Nat, i ≤ N ∧ m < 4294967296 ∧ nn = .int .i64 (m : Int) ∧ ii = .int .i64 (i : Int) ∧ wr.heap = w.heap ∧ Hid (m = numB (b.take i)) ∧ Hid (wr = w)) (fun _ _ ii _ => N - (intOf ii).toNat)
  case atStart => exact ⟨0, 0, by omega, by omega, rfl, rfl, rfl, rfl, rfl⟩
  case round =>
    obtain ⟨i, m, hi, hm, rfl, rfl, hh, Hm, Hb⟩ := hrel
    by_cases hlt : i < N
    · have hnb : b ≠ [] := by intro e; have := unhide HN; rw [e] at this; simp at this; omega
      obtain ⟨bb, oo, rfl, _, hcell⟩ := unhide H1 hnb
      have c1 : wr.cell? ⟨bb, oo + i, none⟩ = some (.int .u8 ((b.getD i 0).toNat : Int)) := by rw [← hcell i hlt]; unfold World.cell?; rw [hh]
      have hnx := num_take (b := b) (i := i) (by have := unhide HN; omega)
      have hsm := unhide HS (i + 1)
      rw [hnx, ← unhide Hm] at hsm
      have hlt256 := (b.getD i 0).toNat_lt
      obtain ⟨p, hp⟩ : ∃ p, (b.getD i 0).toNat = p := ⟨_, rfl⟩
      rw [hp] at c1 hnx hsm hlt256
      obtain ⟨m1, hm1⟩ : ∃ m1, m * 256 = m1 := ⟨_, rfl⟩
      obtain ⟨m2, hm2⟩ : ∃ m2, 256 * m + p = m2 := ⟨_, rfl⟩
      have e1 : (m : Int) * 256 = (m1 : Int) := by omega
      have b1 : m1 < 4294967296 := by omega
      have e2 : bits .or .i64 (m1 : Int) (p : Int) = (m2 : Int) := by
        rw [i64_or_nat m1 p b1 (by omega), ← hm1, or_byte m p hlt256, hm2]
      have b2 : m2 < 4294967296 := by omega
      have Hm2 : Hid (m2 = numB (b.take (i + 1))) := by show _ = _; rw [hnx, ← unhide Hm, hm2]
      have f1 : decide ((i : Int) < (N : Int)) = true := by simp; omega
      have f1n : decide (i < N) = true := by simp; omega
      have j0 : (0 : Int) ≤ (i : Int) := by omega
      have j1 : (i : Int) < (N : Int) := by omega
      clear hnb hcell hnx hsm hp hm1 hm2 Hm
      go_wp2
      refine ⟨⟨i + 1, m2, by omega, b2, ?_, ?_, hh, Hm2, Hb⟩, ?_⟩
      · simp
      · simp
      · simp [intOf]; omega
    · obtain rfl : i = N := by omega
      have f1 : decide ((i : Int) < (i : Int)) = false := by simp
      obtain rfl : m = ANS := by rw [unhide Hm, ← unhide HA, List.take_of_length_le (by have := unhide HN; omega)]
      clear Hm
      go_wp2
      go_ret
      exact ⟨rfl, unhide Hb⟩
set_option maxRecDepth 100000 in
theorem wparts_s (w : World) (n : Nat) (hn : n ≤ 4294967296) : Calls Tryz.prog 72 #[.int .i64 (n : Int)] w fun e w' => e = .returned (.int .i64 (needs n : Int)) ∧ w' = w := by
  obtain ⟨q, hq⟩ : ∃ q, needs n = q := ⟨_, rfl⟩
  have hq' : q = (n + 51) / 48 := by rw [← hq]; rfl
  rw [hq]
  obtain ⟨a, ha⟩ : ∃ a, 4 + n + 47 = a := ⟨_, rfl⟩
  obtain ⟨a1, ha1⟩ : ∃ a1, 4 + n = a1 := ⟨_, rfl⟩
  obtain ⟨a2, ha2⟩ : ∃ a2, a1 + 48 = a2 := ⟨_, rfl⟩
  have e1 : (4 : Int) + (n : Int) = (a1 : Int) := by omega
  have e2 : (a1 : Int) + 48 = (a2 : Int) := by omega
  have e3 : (a2 : Int) - 1 = (a : Int) := by omega
  have e4 : (a : Int).tdiv 48 = (q : Int) := by rw [Int.tdiv_eq_ediv_of_nonneg (by omega)]; omega
  have e5 : (a : Int) / 48 = (q : Int) := by omega
  have hab : a ≤ 4294967396 := by omega
  clear hq hq' ha ha1 ha2
  go_enter Tryz.func72, Tryz.ntmps72
  go_wp2
  go_ret
  exact ⟨rfl, rfl⟩
set_option maxRecDepth 100000 in
theorem isset_s (w : World) (x : Nat) : Calls Tryz.prog 132 #[.int .u8 (x : Int)] w fun e w' => e = .returned (.bool (decide (x ≠ 0))) ∧ w' = w := by
  obtain ⟨D, hD⟩ : ∃ D, decide (x ≠ 0) = D := ⟨_, rfl⟩
  have e1 : ((x : Int) != 0) = D := by rw [← hD]; by_cases h : x = 0 <;> simp [h]
  rw [hD]
  clear hD
  go_enter Tryz.func132, Tryz.ntmps132
  go_wp2
  go_ret
  exact ⟨rfl, rfl⟩
end Go.Proofs.YtbjgknoipbekoaaGreat
namespace Go.Proofs.YtbjgknoipbekoaaGreat
open Go.RowKit
/-- Is a byte other than nought there? -/
def anySet (b : Bs) : Bool := b.any (· != 0)
theorem any_zeros (n : Nat) : anySet (List.replicate n 0) = false := by
  unfold anySet
  rw [List.any_eq_false]
  intro x hx
  rw [List.eq_of_mem_replicate hx]
  decide
theorem not_any {b : Bs} (h : anySet b = false) : b = List.replicate b.length 0 := by
  unfold anySet at h
  rw [List.any_eq_false] at h
  refine List.eq_replicate_iff.2 ⟨rfl, fun x hx => ?_⟩
  have := h x hx
  simpa using this
theorem any_at {b : Bs} {i : Nat} (h : ∀ j, j < i → b.getD j 0 = 0) (hi : i = b.length) : anySet b = false := by
  unfold anySet
  rw [List.any_eq_false]
  intro x hx
  obtain ⟨j, hj, e⟩ := List.getElem_of_mem hx
  have := h j (by omega)
  rw [List.getD_eq_getElem?_getD, List.getElem?_eq_getElem hj, e] at this
  simpa using this
theorem any_here {b : Bs} {i : Nat} (hi : i < b.length) (h : (b.getD i 0).toNat ≠ 0) : anySet b = true := by
  unfold anySet
  rw [List.any_eq_true]
  refine ⟨b[i], List.getElem_mem hi, ?_⟩
  rw [List.getD_eq_getElem?_getD, List.getElem?_eq_getElem hi] at h
  simp only [Option.getD_some] at h
  simp only [bne_iff_ne, ne_eq]
  intro e
  rw [e] at h
  exact h rfl
set_option maxRecDepth 100000 in
set_option maxHeartbeats 1000000 in
theorem indexf_s (w : World) (x : Value) (b : Bs) (hx : BytesAt w x b) (hl : b.length ≤ 1000000) : Calls Tryz.prog 133 #[x, .func (.func 132) #[] #[]] w fun e w' => (∃ r : Int, e = .returned (.int .i64 r) ∧ decide (0 ≤ r) = anySet b) ∧ w' = w := by
  obtain ⟨sp, c, rfl, _, _, hc⟩ := bytes_open hx
  obtain ⟨N, hN⟩ : ∃ N, b.length = N := ⟨_, rfl⟩
  rw [hN] at hc hl ⊢
  have H1 := hide hc
  have HN := hide hN
  clear hc hx hN
  go_enter Tryz.func133, Tryz.ntmps133
  go_wp2
  go_loopw [5, 8] (fun _ ii wr => ∃ i : Nat, i ≤ N ∧ ii = .int .i64 (i : Int) ∧ wr.heap = w.heap ∧ Hid (∀ j, j < i → b.getD j 0 = 0) ∧ Hid (wr = w)) (fun _ ii _ => N - (intOf ii).toNat)
  case atStart => exact ⟨0, by omega, rfl, rfl, fun j hj => absurd hj (by omega), rfl⟩
  case round =>
    obtain ⟨i, hi, rfl, hh, Hz, Hb⟩ := hrel
    by_cases hlt : i < N
    · have hnb : b ≠ [] := by intro e; have := unhide HN; rw [e] at this; simp at this; omega
      obtain ⟨bb, oo, rfl, _, hcell⟩ := unhide H1 hnb
      have c1 : wr.cell? ⟨bb, oo + i, none⟩ = some (.int .u8 ((b.getD i 0).toNat : Int)) := by rw [← hcell i hlt]; unfold World.cell?; rw [hh]
      obtain ⟨p, hp⟩ : ∃ p, (b.getD i 0).toNat = p := ⟨_, rfl⟩
      rw [hp] at c1
      have f1 : decide ((i : Int) < (N : Int)) = true := by simp; omega
      have f1n : decide (i < N) = true := by simp; omega
      have j0 : (0 : Int) ≤ (i : Int) := by omega
      have j1 : (i : Int) < (N : Int) := by omega
      have Hs := hide (isset_s wr p)
      by_cases hpz : p = 0
      · have d1 : decide (p ≠ 0) = false := by simp [hpz]
        rw [d1] at Hs
        have Hz2 : Hid (∀ j, j < i + 1 → b.getD j 0 = 0) := fun j hj => by
          by_cases hji : j < i
          · exact unhide Hz j hji
          · obtain rfl : j = i := by omega
            exact UInt8.toNat_inj.1 (by rw [hp, hpz]; rfl)
        clear hnb hcell hp Hz d1 hpz
        go_wp2_with fail
        refine (unhide Hs).mono ?_
        rintro e w2 ⟨rfl, hw⟩
        subst hw
        go_wp2
        refine ⟨⟨i + 1, by omega, ?_, hh, Hz2, Hb⟩, ?_⟩
        · simp
        · simp [intOf]; omega
      · have d1 : decide (p ≠ 0) = true := by simp [hpz]
        rw [d1] at Hs
        have HA : Hid (decide ((0 : Int) ≤ (i : Int)) = anySet b) := by
          show _ = _
          rw [any_here (i := i) (by have := unhide HN; omega) (by rw [hp]; exact hpz)]
          simp
        clear hnb hcell hp Hz d1 hpz
        go_wp2_with fail
        refine (unhide Hs).mono ?_
        rintro e w2 ⟨rfl, hw⟩
        subst hw
        go_wp2
        go_ret
        exact ⟨⟨_, rfl, unhide HA⟩, unhide Hb⟩
    · obtain rfl : i = N := by omega
      have f1 : decide ((i : Int) < (i : Int)) = false := by simp
      have HA : Hid (decide ((0 : Int) ≤ -1) = anySet b) := by
        show _ = _
        rw [any_at (unhide Hz) (unhide HN).symm]
        decide
      clear Hz
      go_wp2
      go_ret
      exact ⟨⟨_, rfl, unhide HA⟩, unhide Hb⟩
set_option maxRecDepth 100000 in
theorem contains_s (w : World) (x : Value) (b : Bs) (hx : BytesAt w x b) (hl : b.length ≤ 1000000) : Calls Tryz.prog 131 #[x, .func (.func 132) #[] #[]] w fun e w' => e = .returned (.bool (anySet b)) ∧ w' = w := by
  have Hi := hide (indexf_s w x b hx hl)
  obtain ⟨D, hD⟩ : ∃ D, anySet b = D := ⟨_, rfl⟩
  rw [hD] at Hi ⊢
  clear hx hl hD
  go_enter Tryz.func131, Tryz.ntmps131
  go_wp2_with fail
  refine (unhide Hi).mono ?_
  rintro e w2 ⟨⟨r, rfl, hr⟩, hw⟩
  subst hw
  subst hr
  clear Hi
  go_wp2
  go_ret
  exact ⟨rfl, rfl⟩
theorem free_own {w : World} {B : Nat} {v : Value} {l : Bs} (h : OwnB w B v l) : FreeAt w v l.length := by
  intro g o c m hv j hj
  subst hv
  rcases h.2 with ⟨h0, _⟩ | ⟨g', cap', cur, hv, _, hg, _⟩
  · cases h0
  · simp only [Value.slice.injEq, Option.some.injEq, Addr.mk.injEq] at hv
    obtain ⟨⟨rfl, rfl, _⟩, _, _⟩ := hv
    exact frozen_of_row w _ _ _ 5 hg
set_option maxRecDepth 100000 in
set_option maxHeartbeats 1000000 in
theorem bclone_c (w : World) (x : Value) (b : Bs) (hx : BytesAt w x b) (hl : b.length ≤ 1073741824) : GivesB w 51 #[x] b := by
  obtain ⟨sp, c, rfl, hlc, hn, _⟩ := bytes_open hx
  cases sp with
  | none =>
    have hc0 := hn rfl
    obtain rfl : b = [] := List.eq_nil_of_length_eq_zero (by omega)
    subst hc0
    have heq : ∀ w, (binOp .eql 23 (.slice none 0 0) (.slice none 0 0)).run Tryz.prog w = .ok (.bool true) w := fun w => by kernel_rfl
    clear hx hn
    go_enter Tryz.func51, Tryz.ntmps51
    go_wp2
    go_ret
    exact ⟨_, rfl, ownb_nil _ _, Below.refl _ _⟩
  | some ad =>
    have heq : ∀ w, (binOp .eql 23 (.slice (some ad) b.length c) (.slice none 0 0)).run Tryz.prog w = .ok (.bool false) w := fun w => by kernel_rfl
    have hbA : Below w.heap.size w (w.alloc (.cells #[] 5)) := (Below.refl _ _).alloc (Nat.le_refl _) _
    have HOA := hide (ownb_empty w)
    have HXA := hide (hx.below hbA)
    have HbA := hide hbA
    have Hs := hide hbA.size
    have Hl1 := hide (show ([] : Bs).length + b.length ≤ 1073741824 by simp; omega)
    obtain ⟨N, hN⟩ : ∃ N, b.length = N := ⟨_, rfl⟩
    rw [hN] at heq HXA ⊢
    clear hx hbA hl hlc hn hN
    go_enter Tryz.func51, Tryz.ntmps51
    go_wp2_with (at_builtin; refine wpList_append_bytes rfl _ _ rfl w.heap.size (.slice (some ⟨w.heap.size, 0, none⟩) 0 0) (.slice (some ad) N c) [] b rfl (unhide HOA) rfl (unhide HXA) (unhide Hs) (unhide Hl1) ?_
                 intro v2 w2 hO2 hg2 _
                 rw [List.nil_append] at hO2
                 have hb2 := ownb_below (unhide HOA) hg2 (unhide HbA) (unhide Hs)
                 have HO2 := hide hO2
                 have HB2 := hide hb2
                 clear hO2 hg2 hb2)
    go_ret
    exact ⟨_, rfl, unhide HO2, unhide HB2⟩
end Go.Proofs.YtbjgknoipbekoaaGreat
namespace Go.Proofs.YtbjgknoipbekoaaGreat
open Go.RowKit
theorem big_at (n : Nat) : ∀ (size i : Nat), i < size → (bigB n size)[i]? = some (UInt8.ofNat (n / 256 ^ (size - 1 - i)))
  | 0, i, h => by omega
  | size + 1, 0, _ => by rw [bigB_cons]; simp
  | size + 1, i + 1, h => by
    rw [bigB_cons, List.getElem?_cons_succ, big_at n size i (by omega)]
    congr 4
    omega
theorem big_step (n size i : Nat) (h : i < size) : (bigB n size).take (i + 1) = (bigB n size).take i ++ [UInt8.ofNat (n / 256 ^ (size - 1 - i))] := by
  rw [List.take_add_one, big_at n size i h]; rfl
/-- The first bytes of a row of 64, noughts behind them. -/
def RoomAt (w : World) (g : Nat) (l : Bs) : Prop := RowAt 5 w g (List.replicate (64 - l.length) (.int .u8 0)) (l.map bv) ∧ l.length ≤ 64
theorem RoomAt.below {a b : World} {g : Nat} {l : Bs} (h : RoomAt a g l) (hb : Below a.heap.size a b) : RoomAt b g l := ⟨h.1.below hb, h.2⟩
theorem RoomAt.lt {w : World} {g : Nat} {l : Bs} (h : RoomAt w g l) : g < w.heap.size := h.1.lt
set_option maxRecDepth 100000 in
theorem room_append {w : World} {g : Nat} {l m : Bs} {y : Value} (h : RoomAt w g l) (hy : BytesAt w y m) (hne : m ≠ []) (hfit : l.length + m.length ≤ 64) (ty : TypeId) :
    ∃ w', (Builtin.append_ #[23, 23] ty #[.slice (some ⟨g, 0, none⟩) l.length 64, y]).run Tryz.prog w = .ok (.slice (some ⟨g, 0, none⟩) (l.length + m.length) 64) w' ∧ RoomAt w' g (l ++ m) ∧ w.grownBy w' (some g) := by
  obtain ⟨hu, ⟨i, hi, _, hsz, _⟩, _, _⟩ := Eb
  obtain ⟨b, o, c, rfl, _, _, hcell⟩ := ValsAt.cell hy (by simpa using hne)
  have hr := run_append_room (P := Tryz.prog) w 23 ty 5 i hu hi g l.length 64 _ h.1 ⟨b, o, none⟩ m.length c (m.map bv) (by rw [List.length_map, hsz, Nat.mul_one]) (fun j u hu => by
      have hj := (List.getElem?_eq_some_iff.1 hu).1
      have := hcell j hj
      rw [List.getD_eq_getElem?_getD, hu] at this
      rw [Addr.add_mid]
      exact this) (one_bytes m) hfit (by
      rw [hsz, List.size_toArray, List.length_append, List.length_map, List.length_replicate, List.length_map]
      omega)
  rw [List.length_map] at hr ⊢
  refine ⟨_, hr, ⟨?_, by rw [List.length_append]; exact hfit⟩, ⟨rfl, rfl, rfl, by simp, fun k _ hk => setRow_other w g k _ (fun e => hk (by simp [e]))⟩⟩
  unfold RowAt
  rw [setRow_heap w g _ _ 5 _ h.1]
  congr 3
  rw [hsz, Nat.mul_one, List.toList_toArray, List.map_append, List.length_append]
  have e1 : (List.map bv l ++ List.replicate (64 - l.length) (Value.int .u8 0)).take l.length = List.map bv l := by
    rw [List.take_append_of_le_length (by rw [List.length_map]; omega), List.take_of_length_le (by rw [List.length_map]; omega)]
  have e2 : (List.map bv l ++ List.replicate (64 - l.length) (Value.int .u8 0)).drop (l.length + m.length) = List.replicate (64 - (l.length + m.length)) (Value.int .u8 0) := by
    rw [List.drop_append, List.length_map, List.drop_of_length_le (by rw [List.length_map]; omega), List.nil_append, List.drop_replicate]
    congr 1
    omega
  rw [e1, e2]
theorem wpList_append_room14 {w : World} {ops : Array Oper} {rest : List Oper} {o : Oper} {a : Act} {Q : Exit → Act → World → Prop} (hgd : o.guard = none) (s x : Operand)
    (ho : o.op = .call { callee := .builtin .append, args := #[s, x], argTypes := #[23, 23] }) (g k : Nat) (y : Value) (l m : Bs) (hs : a.eval s = .slice (some ⟨g, 0, none⟩) k 64) (hk : l.length = k) (hr : RoomAt w g l)
    (hx : a.eval x = y) (hy : BytesAt w y m) (hne : m ≠ []) (hlen : k + m.length ≤ 64)
    (h : ∀ w', RoomAt w' g (l ++ m) → w.grownBy w' (some g) → wpList Tryz.prog ops Q rest (a.put o.dst (.slice (some ⟨g, 0, none⟩) (k + m.length) 64)) w') : wpList Tryz.prog ops Q (o :: rest) a w := by
  subst hk
  refine wpList_plain hgd fun K hK' => ?_
  obtain ⟨w', hrun, r1, r2⟩ := room_append hr hy hne hlen o.type
  unfold Oper.wp
  simp [execOp, ho, resolve, invoke, builtin, hs, hx, hrun, Result.andThen]
  exact hK' _ _ (h w' r1 r2)
theorem byte_of (n d q : Nat) (h : n / 256 ^ d = q) : IntKind.u8.wrap (q : Int) = ((UInt8.ofNat (n / 256 ^ d)).toNat : Int) := by
  rw [IntKind.wrap_u8', UInt8.toNat_ofNat', h]; omega
theorem pow_sh (d : Nat) : (2 : Nat) ^ (8 * d) = 256 ^ d := by rw [Nat.pow_mul]
theorem one_byte (W : World) (x : UInt8) : BytesAt (W.alloc (.cells #[.int .u8 (x.toNat : Int)] 5)) (.slice (some ⟨W.heap.size, 0, none⟩) 1 1) [x] := bytes_new W [x]
set_option maxRecDepth 100000 in
set_option maxHeartbeats 2000000 in
theorem addn_room (w : World) (g : Nat) (l : Bs) (K n size : Nat) (hK : l.length = K) (hr : RoomAt w g l) (hn : n ≤ 4611686018427387904) (hs : size ≤ 8) (hf : K + size ≤ 64) :
    Calls Tryz.prog 105 #[.slice (some ⟨g, 0, none⟩) K 64, .int .i64 (n : Int), .int .i64 (size : Int)] w fun e w' => e = .returned (.slice (some ⟨g, 0, none⟩) (K + size) 64) ∧ RoomAt w' g (l ++ bigB n size) ∧ Aside (fun k => k = g) w w' := by
  have HR0 := hide hr
  have HK := hide hK
  clear hr hK
  go_enter Tryz.func105, Tryz.ntmps105
  go_wp2
  go_loopw [0, 7, 9] (fun bb _ ii wr => ∃ i : Nat, i ≤ size ∧ bb = .slice (some ⟨g, 0, none⟩) (K + i) 64 ∧ ii = .int .i64 (i : Int) ∧ Hid (RoomAt wr g (l ++ (bigB n size).take i)) ∧ Hid (Aside (fun k => k = g) w wr)) (fun _ _ ii _ => size - (intOf ii).toNat)
  case atStart => exact ⟨0, by omega, rfl, rfl, by show RoomAt _ _ _; rw [List.take_zero, List.append_nil]; exact unhide HR0, Aside.refl _ _⟩
  case round =>
    clear HR0
    obtain ⟨i, hi, rfl, rfl, HR, HA⟩ := hrel
    by_cases hlt : i < size
    · have f1 : decide ((i : Int) < (size : Int)) = true := by simp; omega
      have f1n : decide (i < size) = true := by simp; omega
      obtain ⟨d, hd⟩ : ∃ d, size - 1 - i = d := ⟨_, rfl⟩
      obtain ⟨sh, hsh⟩ : ∃ sh, 8 * d = sh := ⟨_, rfl⟩
      obtain ⟨q, hq⟩ : ∃ q, n / 256 ^ d = q := ⟨_, rfl⟩
      obtain ⟨s1, hs1⟩ : ∃ s1, size - 1 = s1 := ⟨_, rfl⟩
      have e0 : (size : Int) - 1 = (s1 : Int) := by omega
      have e1 : (s1 : Int) - (i : Int) = (d : Int) := by omega
      have e2 : (8 : Int) * (d : Int) = (sh : Int) := by omega
      have hqb : q ≤ 4611686018427387904 := by rw [← hq]; exact Nat.le_trans (Nat.div_le_self _ _) hn
      have e3 : (n : Int) / 2 ^ sh = (q : Int) := by
        rw [← hq, ← pow_sh, hsh]
        simp
      have e4 := byte_of n d q hq
      obtain ⟨x, hx⟩ : ∃ x, UInt8.ofNat (n / 256 ^ d) = x := ⟨_, rfl⟩
      rw [hx] at e4
      have HST := hide (big_step n size i hlt)
      rw [hd, hx] at HST
      have HY := hide (one_byte wr x)
      have HR1 := hide ((unhide HR).below ((Below.refl _ _).alloc (Nat.le_refl _) (.cells #[.int .u8 (x.toNat : Int)] 5)))
      have HL : Hid ((l ++ (bigB n size).take i).length = K + i) := by show _ = _; rw [List.length_append, unhide HK, List.length_take, big_len]; omega
      have hsh8 : sh ≤ 56 := by omega
      have HA1 : Hid (Aside (fun k => k = g) w (wr.alloc (.cells #[.int .u8 (x.toNat : Int)] 5))) := (unhide HA).alloc _
      clear hd hsh hq hx hs1 HR HA
      go_wp2_with (at_builtin; refine wpList_append_room14 rfl _ _ rfl g (K + i) (.slice (some ⟨wr.heap.size, 0, none⟩) 1 1) (l ++ (bigB n size).take i) [x] rfl (unhide HL) (unhide HR1) rfl (unhide HY) (by simp) (by simp; omega) ?_
                   intro w3 hR3 hg3
                   rw [List.append_assoc, ← unhide HST] at hR3
                   have HR3 := hide hR3
                   have HA3 : Hid (Aside (fun k => k = g) w w3) := (unhide HA1).trans (Aside.of_grown hg3 (S := fun k => k = g) fun k hk => (Option.some.inj hk).symm) fun _ _ h => h
                   clear hR3 hg3)
      refine ⟨⟨i + 1, by omega, ?_, ?_, HR3, HA3⟩, ?_⟩
      · rfl
      · simp
      · simp [intOf]; omega
    · obtain rfl : i = size := by omega
      have f1 : decide ((i : Int) < (i : Int)) = false := by simp
      have HE : Hid (RoomAt wr g (l ++ bigB n i)) := by
        have h := unhide HR
        rw [List.take_of_length_le (by rw [big_len]; omega)] at h
        exact h
      clear HR
      go_wp2
      go_ret
      exact ⟨rfl, unhide HE, unhide HA⟩
end Go.Proofs.YtbjgknoipbekoaaGreat
namespace Go.Proofs.YtbjgknoipbekoaaGreat
open Go.RowKit
theorem row_put {w : World} {R : Nat} {cs : List Value} {T : TypeId} (h : w.heap[R]? = some (.cells cs.toArray T (0, 0))) (k : Nat) (hk : k < cs.length) (v : Value) : (w.setCell ⟨R, k, none⟩ v).heap[R]? = some (.cells (cs.set k v).toArray T (0, 0)) := by
  have h1 : RowAt T w R [] cs := by unfold RowAt; rw [List.append_nil]; exact h
  have h2 := h1.set k hk v
  unfold RowAt at h2
  rwa [List.append_nil] at h2
theorem row_cell {w : World} {R : Nat} {cs : List Value} {T : TypeId} (h : w.heap[R]? = some (.cells cs.toArray T (0, 0))) (k : Nat) (v : Value) (hv : cs[k]? = some v) : w.cell? ⟨R, k, none⟩ = some v := by
  rw [cell_of_row w R k _ T (0, 0) h, List.getElem?_toArray]; exact hv
theorem row_frozen {w : World} {R : Nat} {cs : List Value} {T : TypeId} (h : w.heap[R]? = some (.cells cs.toArray T (0, 0))) (k : Nat) : w.frozen? ⟨R, k, none⟩ = false := frozen_of_row w R k _ T h
theorem five_row {w : World} {R : Nat} {a b c d e : Value} {T : TypeId} (h : w.heap[R]? = some (.cells [a, b, c, d, e].toArray T (0, 0))) : w.cell? ⟨R, 0, none⟩ = some a ∧ w.cell? ⟨R, 1, none⟩ = some b ∧ w.cell? ⟨R, 2, none⟩ = some c ∧ w.cell? ⟨R, 3, none⟩ = some d ∧ w.cell? ⟨R, 4, none⟩ = some e :=
  ⟨row_cell h 0 _ rfl, row_cell h 1 _ rfl, row_cell h 2 _ rfl, row_cell h 3 _ rfl, row_cell h 4 _ rfl⟩
theorem setCell_grown {w : World} (R k : Nat) (v : Value) : w.grownBy (w.setCell ⟨R, k, none⟩ v) (some R) := grown_setCell (World.grownBy.refl _ _) _ _ rfl
end Go.Proofs.YtbjgknoipbekoaaGreat
namespace Go.Proofs.YtbjgknoipbekoaaGreat
open Go.RowKit
end Go.Proofs.YtbjgknoipbekoaaGreat
namespace Go.Proofs.YtbjgknoipbekoaaGreat
open Go.RowKit
/-- A slice of slices of bytes, to be read. -/
def BLists (w : World) (x : Value) (l : List Bs) : Prop := ∃ vs : List Value, vs.length = l.length ∧ ValsAt w x vs ∧ ∀ (i : Nat) (v : Value) (b : Bs), vs[i]? = some v → l[i]? = some b → BytesAt w v b
theorem BLists.below {a b : World} {x : Value} {l : List Bs} (h : BLists a x l) (hb : Below a.heap.size a b) : BLists b x l := by
  obtain ⟨vs, h1, h2, h3⟩ := h
  exact ⟨vs, h1, h2.below hb, fun i v c e1 e2 => (h3 i v c e1 e2).below hb⟩
theorem Ebb : Elem Tryz.prog 44 23 (.slice none 0 0) 24 := elem_of Tryz.underlying44 (by kernel_rfl) rfl (by omega)
/-- A slice of slices of bytes, all of it in blocks from B on, to be read. -/
structure FreshL (B : Nat) (w : World) (x : Value) (vs : List Value) (l : List Bs) : Prop where
  row : ValsAt w x vs
  new : ∀ k, x.ownBlock = some k → B ≤ k
  len : vs.length = l.length
  each : ∀ (i : Nat) (v : Value) (b : Bs), vs[i]? = some v → l[i]? = some b → BytesAt w v b ∧ ∀ k, v.ownBlock = some k → B ≤ k
theorem FreshL.lists {B : Nat} {w : World} {x : Value} {vs : List Value} {l : List Bs} (h : FreshL B w x vs l) : BLists w x l := ⟨vs, h.len, h.row, fun i v b h1 h2 => (h.each i v b h1 h2).1⟩
theorem BLists.form {w : World} {x : Value} {l : List Bs} (h : BLists w x l) : ∃ s c, x = .slice s l.length c := by
  obtain ⟨vs, h1, h2, _⟩ := h
  obtain ⟨s, c, e⟩ := h2.form
  rw [h1] at e
  exact ⟨s, c, e⟩
/-- One of them. -/
theorem BLists.at {w : World} {s : Option Addr} {n c : Nat} {l : List Bs} (h : BLists w (.slice s n c) l) {i : Nat} {b : Bs} (hb : l[i]? = some b) : ∃ g o v, s = some ⟨g, o, none⟩ ∧ w.cell? ⟨g, o + i, none⟩ = some v ∧ BytesAt w v b := by
  obtain ⟨vs, h1, h2, h3⟩ := h
  have hi := (List.getElem?_eq_some_iff.1 hb).1
  obtain ⟨sp, c', e, _, _, hc⟩ := h2
  simp only [Value.slice.injEq] at e
  obtain ⟨rfl, _, _⟩ := e
  obtain ⟨g, o, rfl, hcell⟩ := hc (by intro e; rw [e] at h1; simp at h1; omega)
  have hv : vs[i]? = some (vs[i]'(by omega)) := List.getElem?_eq_getElem (by omega)
  exact ⟨g, o, _, rfl, hcell i _ hv, h3 i _ b hv hb⟩
/-- What a slice expression leaves of a slice of slices. -/
theorem slice_restbb (sp : Option Addr) (K c f : Nat) (hf : f ≤ K) (w : World) : (Instr.sliceAt 44 (.slice sp K c) (some (.int .i64 (f : Int))) none none).run Tryz.prog w = .ok (.slice (cutAt sp c f) (K - f) (c - f)) w := by
  have hu : Tryz.prog.underlying 44 = some (.slice (Tryz.prog.elem 44)) := by kernel_rfl
  have he : Tryz.prog.elem 44 = 23 := by kernel_rfl
  have hs : ∀ w, (Go.sizeOf 23).run Tryz.prog w = .ok 1 w := fun w => by
    obtain ⟨_, ⟨i, hi, _, hsz, _⟩, _, _⟩ := Ebb
    simp [Go.sizeOf, typeInfo, hi, hsz]
  rw [run_sliceAt_slice w 44 _ _ _ _ hu, run_slice_l w 44 sp K c hu .i64 (f : Int) (by omega) (by omega), he, hs, Result.andThen_ok]
  simp only [sliced, Int.toNat_natCast, Nat.mul_one]
  rfl
theorem vals_rest {w : World} {sp : Option Addr} {n c : Nat} {cs : List Value} (h : ValsAt w (.slice sp n c) cs) (f : Nat) (hf : f ≤ n) : ValsAt w (.slice (cutAt sp c f) (n - f) (c - f)) (cs.drop f) := by
  obtain ⟨sp', c', e, h1, h2, h3⟩ := h
  simp only [Value.slice.injEq] at e
  obtain ⟨rfl, hn, rfl⟩ := e
  subst hn
  refine ⟨cutAt sp c f, c - f, by rw [List.length_drop], by rw [List.length_drop]; omega, fun e => ?_, fun hne => ?_⟩
  · unfold cutAt at e
    split at e
    · have := h2 e; omega
    · cases sp with
      | none => have := h2 rfl; omega
      | some a => simp at e
  · have hl : f < cs.length := by
      rcases Nat.lt_or_ge f cs.length with h | h
      · exact h
      · exact absurd (List.drop_of_length_le h) hne
    obtain ⟨b, o, rfl, hc⟩ := h3 (by intro e; rw [e] at hl; simp at hl)
    refine ⟨b, o + f, ?_, fun j v hv => ?_⟩
    · unfold cutAt
      rw [if_neg (by omega), Option.map_some, Addr.add_mid]
    · rw [List.getElem?_drop] at hv
      have := hc (f + j) v hv
      rwa [show o + (f + j) = o + f + j by omega] at this
theorem BLists.rest {w : World} {sp : Option Addr} {n c : Nat} {l : List Bs} (h : BLists w (.slice sp n c) l) (f : Nat) (hf : f ≤ n) : BLists w (.slice (cutAt sp c f) (n - f) (c - f)) (l.drop f) := by
  obtain ⟨vs, h1, h2, h3⟩ := h
  exact ⟨vs.drop f, by simp [h1], vals_rest h2 f hf, fun i v b e1 e2 => h3 (f + i) v b (by rwa [List.getElem?_drop] at e1) (by rwa [List.getElem?_drop] at e2)⟩
/-- The front of a slice of slices. -/
theorem slice_frontbb (sp : Option Addr) (K c f : Nat) (hf : f ≤ c) (w : World) : (Instr.sliceAt 44 (.slice sp K c) none (some (.int .i64 (f : Int))) none).run Tryz.prog w = .ok (.slice sp f c) w := by
  have hu : Tryz.prog.underlying 44 = some (.slice (Tryz.prog.elem 44)) := by kernel_rfl
  have he : Tryz.prog.elem 44 = 23 := by kernel_rfl
  have hs : ∀ w, (Go.sizeOf 23).run Tryz.prog w = .ok 1 w := fun w => by
    obtain ⟨_, ⟨i, hi, _, hsz, _⟩, _, _⟩ := Ebb
    simp [Go.sizeOf, typeInfo, hi, hsz]
  rw [run_sliceAt_slice w 44 _ _ _ _ hu, run_slice_h w 44 sp K c hu .i64 (f : Int) (by omega) (by omega), he, hs, Result.andThen_ok]
  simp only [sliced, Int.toNat_natCast, Nat.sub_zero, Nat.zero_mul]
  split
  · rfl
  · cases sp <;> simp [Addr.add]
theorem BLists.cap {w : World} {s : Option Addr} {n c : Nat} {l : List Bs} (h : BLists w (.slice s n c) l) : n = l.length ∧ l.length ≤ c := by
  obtain ⟨vs, h1, ⟨sp, c', e, h2, _⟩, _⟩ := h
  simp only [Value.slice.injEq] at e
  omega
end Go.Proofs.YtbjgknoipbekoaaGreat
