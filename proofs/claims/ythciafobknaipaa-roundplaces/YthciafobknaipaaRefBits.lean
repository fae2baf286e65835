/-
  The walk of the reference's Bits.
-/
import Derived.Test.YthciafobknaipaaOpen
namespace Go.Proofs.Ythciafobknaipaa
open Go.RowKit
/-- The first J bits of the numbers. -/
def bitsV (l : List Int) (n J : Nat) : List Value := ivals ((digs 2 (num (2 ^ n) (nats l)) J).map Int.ofNat)
theorem len_bitsV (l : List Int) (n J : Nat) : (bitsV l n J).length = J := by simp [bitsV, ivals, length_digs]
theorem bits_next {l : List Int} {n i k : Nat} (hf : Fits n l) (hk : k < n) (X : Nat) (hX : X = (l.getD i 0).toNat / 2 ^ k) : bitsV l n (i * n + k + 1) = bitsV l n (i * n + k) ++ [.int .i64 ((X % 2 : Nat) : Int)] := by
  have hn : ∀ x ∈ nats l, x < 2 ^ n := fun x hx => by
    obtain ⟨y, hy, rfl⟩ := List.mem_map.1 hx
    have := hf y hy
    have h2 : ((2 ^ n : Nat) : Int) = 2 ^ n := by simp
    omega
  have hb : num (2 ^ n) (nats l) / 2 ^ (i * n + k) % 2 = X % 2 := by
    rw [← bit_at _ _ _ _ hk, num_get (Nat.pow_pos (by omega)) hn, hX]
    have : (nats l).getD i 0 = (l.getD i 0).toNat := by
      unfold nats
      rw [List.getD_eq_getElem?_getD, List.getD_eq_getElem?_getD, List.getElem?_map]
      cases l[i]? <;> rfl
    rw [this]
  unfold bitsV
  rw [digs_succ, hb]
  simp [ivals]
/-- What stands while the bits are told. -/
structure BitsIn (w : World) (l : List Int) (n J : Nat) (v : Value) (wr : World) : Prop where
  own : OwnV 3 wr w.heap.size v (bitsV l n J)
  b : Below w.heap.size w wr
set_option maxRecDepth 100000 in
set_option maxHeartbeats 2000000 in
theorem refBits_any (w : World) (x : Value) (l : List Int) (n : Nat) (hx : ValsAt w x (ivals l)) (hl : l.length ≤ 1000) (n1 : 1 ≤ n) (n24 : n ≤ 24) (hf : Fits n l) :
    Calls Try.prog 35 #[x, .int .i64 (n : Int)] w fun e w' => ∃ v, e = .returned v ∧ OwnV 3 w' w.heap.size v (bitsV l n (l.length * n)) ∧ Below w.heap.size w w' := by
  obtain ⟨sp, c, rfl, _, _, hc⟩ := ints_open hx
  have Hc := hide hc
  have Hf := hide hf
  have HI : Hid (BitsIn w l n 0 (.slice none 0 0) w) := ⟨own_nil 3 w _, Below.refl _ _⟩
  clear hx hc hf
  go_enter Try.func35, Try.ntmps35
  go_wp2
  go_loopw [5, 6] (fun o i wr => ∃ (k : Nat), k ≤ l.length ∧ i = .int .i64 (k : Int) ∧ Hid (BitsIn w l n (k * n) o wr)) (fun _ i _ => l.length - (intOf i).toNat)
  case atStart => exact ⟨0, by omega, rfl, by rw [Nat.zero_mul]; exact HI⟩
  case round =>
    clear HI
    obtain ⟨i, hi, rfl, HI⟩ := hrel
    have ib : (i : Int) ≤ 1000 := by omega
    by_cases hlt : i < l.length
    · obtain ⟨b, o, rfl, hb, hcell⟩ := unhide Hc (by intro e; rw [e] at hlt; simp at hlt)
      have e1 := hcell i hlt
      have e2 : wr.cell? ⟨b, o + i, none⟩ = some (.int .i64 (l.getD i 0)) := by rw [(unhide HI).b.cell hb]; exact e1
      have hfi := unhide Hf (l.getD i 0) (by rw [List.getD_eq_getElem?_getD, List.getElem?_eq_getElem hlt]; exact List.getElem_mem hlt)
      obtain ⟨Y, hY⟩ : ∃ Y : Nat, (l.getD i 0) = (Y : Int) := ⟨(l.getD i 0).toNat, by omega⟩
      rw [hY] at e2 hfi
      have HY := hide hY
      have hYb : Y < 2 ^ 24 := by
        have h3 : (2 : Int) ^ n ≤ 2 ^ 24 := by
          have := Nat.pow_le_pow_right (show 0 < 2 by omega) n24
          have h4 : ((2 ^ n : Nat) : Int) ≤ ((2 ^ 24 : Nat) : Int) := by omega
          simpa using h4
        omega
      have i0 : (0 : Int) ≤ (i : Int) := by omega
      have i1 : (i : Int) < (l.length : Int) := by omega
      have HJ : Hid (BitsIn w l n (i * n + 0) u5 wr) := HI
      clear hcell e1 hY hfi HI
      go_wp2
      go_loopw [5, 7, 8] (fun o v kk wr => ∃ (k X : Nat), k ≤ n ∧ kk = .int .i64 (k : Int) ∧ X < 16777216 ∧ Hid (X = Y / 2 ^ k) ∧ v = .int .i64 (X : Int) ∧ Hid (BitsIn w l n (i * n + k) o wr)) (fun _ _ kk _ => n - (intOf kk).toNat)
      case atStart => exact ⟨0, Y, by omega, rfl, hYb, by show Y = Y / 2 ^ 0; rw [Nat.pow_zero, Nat.div_one], rfl, HJ⟩
      case round =>
        clear HJ
        obtain ⟨k, X, hk, rfl, hX, HX, rfl, HI⟩ := hrel
        by_cases hkn : k < n
        · have hnext := bits_next (i := i) (unhide Hf) hkn X (by rw [unhide HY]; exact unhide HX)
          have HN := hide hnext
          have t1 : ((X : Int)).tmod 2 = ((X % 2 : Nat) : Int) := by rw [Int.tmod_eq_emod_of_nonneg (by omega)]; omega
          have t2 : ((X : Int)).tdiv 2 = ((X / 2 : Nat) : Int) := by rw [Int.tdiv_eq_ediv_of_nonneg (by omega)]; omega
          have HX2 : Hid (X / 2 = Y / 2 ^ (k + 1)) := by show X / 2 = _; rw [unhide HX, Nat.div_div_eq_div_mul, Nat.pow_succ]
          have hX2 : X / 2 < 16777216 := by omega
          obtain ⟨z, hz⟩ : ∃ z, X % 2 = z := ⟨_, rfl⟩
          obtain ⟨X2, hX2e⟩ : ∃ z, X / 2 = z := ⟨_, rfl⟩
          rw [hz] at t1 HN
          rw [hX2e] at t2 HX2 hX2
          have hlen : i * n + k ≤ 24000 := by
            have := Nat.mul_le_mul (show i ≤ 999 by omega) n24
            omega
          have HO := hide ((unhide HI).own.alloc (.cells #[.int .i64 (z : Int)] 3))
          have HV := hide (vals_new wr [.int .i64 (z : Int)] 3)
          have hbA : Below w.heap.size w (wr.alloc (.cells #[.int .i64 (z : Int)] 3)) := (unhide HI).b.alloc (unhide HI).b.size _
          have HbA := hide hbA
          have Hl := hide (show (bitsV l n (i * n + k)).length + [Value.int .i64 (z : Int)].length ≤ 1073741824 by rw [len_bitsV]; simp; omega)
          have hs : w.heap.size ≤ (wr.alloc (.cells #[.int .i64 (z : Int)] 3)).heap.size := hbA.size
          have Hs := hide hs
          have k1 : (k : Int) < (n : Int) := by omega
          clear hnext hz hX2e hbA hs HI HX hlen
          go_wp2_with (at_builtin; refine wpList_append_vals Ei rfl _ _ rfl w.heap.size _ _ (bitsV l n (i * n + k)) [.int .i64 (z : Int)] rfl (unhide HO) rfl (unhide HV) (by simp [Value.oneCell']) (unhide Hs) (unhide Hl) ?_
                       intro v2 w2 hO2 hg2 _
                       rw [← unhide HN] at hO2
                       have HI2 : Hid (BitsIn w l n (i * n + k + 1) v2 w2) := ⟨hO2, own_below (unhide HO) hg2 (unhide HbA) (unhide Hs)⟩
                       clear hO2 hg2)
          go_roundw
          case rel =>
            first
              | exact ⟨k + 1, X2, by omega, by go_num, hX2, HX2, rfl, HI2⟩
              | ((repeat apply Exists.intro); exact ⟨⟨k + 1, X2, by omega, by go_num, hX2, HX2, rfl, HI2⟩, rfl⟩)
          case measure => simp [intOf]; omega
        · obtain rfl : k = n := by omega
          have HI2 : Hid (BitsIn w l k ((i + 1) * k) u5 wr) := by rw [Nat.add_mul, Nat.one_mul]; exact HI
          clear HI HX
          go_wp2
          go_roundw
          case rel =>
            first
              | exact ⟨i + 1, by omega, by go_num, HI2⟩
              | ((repeat apply Exists.intro); exact ⟨⟨i + 1, by omega, by go_num, HI2⟩, rfl⟩)
          case measure => simp [intOf]; omega
    · obtain rfl : i = l.length := by omega
      go_wp2
      go_ret
      exact ⟨_, rfl, (unhide HI).own, (unhide HI).b⟩
end Go.Proofs.Ythciafobknaipaa
