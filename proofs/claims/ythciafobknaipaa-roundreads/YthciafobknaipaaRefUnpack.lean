/-
  The walk of the reference's Unpack.
-/
import Derived.Test.YthciafobknaipaaRefPack
namespace Go.Proofs.Ythciafobknaipaa
open Go.RowKit
/-- What stands when the numbers ahead of i are read, and of the number i all bits from t on. -/
def unTo (M n K i t : Nat) : List Nat := (List.range K).map fun j => if j < i then M / (2 ^ n) ^ j % 2 ^ n else if j = i then M / 2 ^ (i * n + t) % 2 ^ (n - t) else 0
theorem len_unTo (M n K i t : Nat) : (unTo M n K i t).length = K := by simp [unTo]
theorem unTo_start (M n K : Nat) : unTo M n K 0 n = List.replicate K 0 := by
  unfold unTo
  apply List.ext_getElem
  · simp
  · intro j h1 h2
    simp [Nat.mod_one]
theorem unTo_here (M n K i t : Nat) (hi : i < K) : (unTo M n K i t).getD i 0 = M / 2 ^ (i * n + t) % 2 ^ (n - t) := by simp [unTo, List.getD_eq_getElem?_getD, hi]
theorem unTo_step (M n K i t : Nat) (_ht : t < n) (v : Nat) (hv : v = M / 2 ^ (i * n + t) % 2 ^ (n - t)) : (unTo M n K i (t + 1)).set i v = unTo M n K i t := by
  apply List.ext_getElem
  · simp [unTo]
  · intro j h1 h2
    rw [List.getElem_set]
    simp only [unTo, List.getElem_map, List.getElem_range]
    split
    · rename_i e; subst e; rw [if_neg (by omega), if_pos rfl]; exact hv
    · rename_i e
      split
      · rfl
      · rw [if_neg (fun h => e h.symm), if_neg (fun h => e h.symm)]
theorem unTo_next (M n K i : Nat) : unTo M n K i 0 = unTo M n K (i + 1) n := by
  unfold unTo
  apply List.map_congr_left
  intro j _
  by_cases h : j < i
  · rw [if_pos h, if_pos (by omega)]
  · by_cases h2 : j = i
    · subst h2
      rw [if_neg h, if_pos rfl, if_pos (by omega), Nat.add_zero, Nat.sub_zero, ← Nat.pow_mul, Nat.mul_comm]
    · rw [if_neg h, if_neg h2, if_neg (by omega)]
      split
      · rw [Nat.sub_self, Nat.pow_zero, Nat.mod_one]
      · rfl
theorem unTo_done (M n K : Nat) : unTo M n K K n = digs (2 ^ n) M K := by
  unfold unTo digs
  apply List.map_congr_left
  intro j hj
  rw [List.mem_range] at hj
  rw [if_pos hj]
theorem unTo_read (M n i t : Nat) (ht : t < n) : M / 2 ^ (i * n + t) % 2 ^ (n - t) = 2 * (M / 2 ^ (i * n + (t + 1)) % 2 ^ (n - (t + 1))) + M / 2 ^ (i * n + t) % 2 := by
  have := read_down M (i * n + t) (n - (t + 1))
  rw [show n - (t + 1) + 1 = n - t by omega, Nat.add_assoc] at this
  exact this
theorem ivals_set (l : List Nat) (i v : Nat) : (ivals (l.map Int.ofNat)).set i (.int .i64 (v : Int)) = ivals ((l.set i v).map Int.ofNat) := by unfold ivals; rw [List.map_set, List.map_set]; rfl
theorem shr_read (p q k : Nat) (hp : p < 16777216) (hq : q < 256) : wrap64 (2 * (p : Int) + (wrap64 ((q : Int) / 2 ^ k)).tmod 2) = ((2 * p + q / 2 ^ k % 2 : Nat) : Int) := by
  have e : ((q : Int) / 2 ^ k) = ((q / 2 ^ k : Nat) : Int) := by rw [Int.natCast_ediv, pow_int]
  have hle : q / 2 ^ k ≤ q := Nat.div_le_self _ _
  rw [e]
  generalize q / 2 ^ k = m at hle
  have w1 : wrap64 (m : Int) = (m : Int) := by unfold wrap64; omega
  rw [w1, Int.tmod_eq_emod_of_nonneg (by omega)]
  unfold wrap64
  omega
structure UnIn (w : World) (B : Nat) (x : Value) (bs : List Nat) (n K i t : Nat) (wr : World) : Prop where
  row : RowAt 3 wr B [] (ivals ((unTo (num 256 bs) n K i t).map Int.ofNat))
  b : Below w.heap.size w wr
theorem UnIn.drew {w : World} {B : Nat} {x : Value} {bs : List Nat} {n K i t : Nat} {wr : World} (h : UnIn w B x bs n K i t wr) : UnIn w B x bs n K i t wr.drew := ⟨h.row, h.b.drew⟩
theorem at_small {i n K t len : Nat} (hi : i < K) (ht : t < n) (hK : K = len * 8 / n) : i * n + t < len * 8 := by
  have h1 : (i + 1) * n ≤ K * n := Nat.mul_le_mul_right n hi
  have h2 : K * n ≤ len * 8 := by rw [hK]; exact Nat.div_mul_le_self _ _
  rw [Nat.add_mul] at h1
  omega
set_option maxRecDepth 100000 in
set_option maxHeartbeats 2000000 in
theorem refUnpack_any (w : World) (x : Value) (bs : List Nat) (n : Nat) (hx : ValsAt w x (bvals bs)) (hb8 : ∀ c ∈ bs, c < 256) (hl : bs.length ≤ 3000) (n1 : 1 ≤ n) (n24 : n ≤ 24) :
    Gives w 25 #[x, .int .i64 (n : Int)] 3 (ivals ((unpackN n bs).map Int.ofNat)) := by
  obtain ⟨sp, c, rfl, _, _, hc⟩ := bytes_open hx
  have Hc := hide hc
  have H8 := hide hb8
  have m1 : decide ((n : Int) < 1) = false := by simp; omega
  have m2 : decide (24 < (n : Int)) = false := by simp; omega
  have m3 : decide (24 < n) = false := by simp; omega
  have m4 : ¬ (n : Int) = 0 := by omega
  obtain ⟨K, hK⟩ : ∃ K, bs.length * 8 / n = K := ⟨_, rfl⟩
  have hKb : K ≤ 24000 := by rw [← hK]; exact Nat.le_trans (Nat.div_le_self _ _) (by omega)
  have d1 : ((bs.length : Int) * 8).tdiv (n : Int) = (K : Int) := by
    rw [Int.tdiv_eq_ediv_of_nonneg (by omega), ← hK, Int.natCast_ediv, Int.natCast_mul]; rfl
  obtain ⟨W, hmk, hrow, hbel⟩ := made_vals Ei rfl w .i64 .i64 K (K : Int) (K : Int) rfl rfl (by omega)
  have HI : Hid (UnIn w w.heap.size (.slice sp bs.length c) bs n K 0 n W) := by
    refine ⟨?_, hbel⟩
    rw [unTo_start]
    have e : ivals ((List.replicate K 0).map Int.ofNat) = List.replicate K (.int .i64 0) := by simp [ivals]
    rw [e]; exact hrow
  have HK := hide hK
  have kb : (K : Int) ≤ 24000 := by omega
  have kb0 : (0 : Int) ≤ (K : Int) := by omega
  clear hx hc hb8 hrow hbel hK
  go_enter Try.func25, Try.ntmps25
  go_wp2
  clear hmk d1
  generalize hB : w.heap.size = B at HI ⊢
  go_loopw [7] (fun i wr => ∃ (k : Nat), k ≤ K ∧ i = .int .i64 (k : Int) ∧ Hid (UnIn w B (.slice sp bs.length c) bs n K k n wr)) (fun i _ => K - (intOf i).toNat)
  case atStart => exact ⟨0, by omega, rfl, HI⟩
  case round =>
    clear HI
    obtain ⟨i, hi, rfl, HI⟩ := hrel
    by_cases hlt : i < K
    · have i1 : (i : Int) < (K : Int) := by omega
      have nb : (n : Int) ≤ 24 := by omega
      have nb1 : (1 : Int) ≤ (n : Int) := by omega
      go_wp2
      go_loopw [8, 9] (fun kk at_ wr => ∃ (t : Nat), t ≤ n ∧ kk = .int .i64 ((t : Int) - 1) ∧ Hid (UnIn w B (.slice sp bs.length c) bs n K i t wr)) (fun kk _ _ => (intOf kk + 1).toNat)
      case atStart => exact ⟨n, by omega, rfl, HI⟩
      case round =>
        clear HI
        obtain ⟨t, ht, rfl, HI⟩ := hrel
        by_cases ht0 : 0 < t
        · obtain ⟨t, rfl⟩ : ∃ s, t = s + 1 := ⟨t - 1, by omega⟩
          have et : (((t + 1 : Nat) : Int) - 1) = (t : Int) := by omega
          rw [et]
          obtain ⟨A, hA⟩ : ∃ A, i * n + t = A := ⟨_, rfl⟩
          have hAs := at_small hlt ht (unhide HK).symm
          rw [hA] at hAs
          have hAi : (i : Int) * (n : Int) + (t : Int) = (A : Int) := by rw [← hA]; simp
          have hj : A / 8 < bs.length := by omega
          obtain ⟨b, o, rfl, hb, hcell⟩ := unhide Hc (by intro e; rw [e] at hj; simp at hj)
          have c1 : wr.cell? ⟨b, o + A / 8, none⟩ = some (.int .u8 ((bs.getD (A / 8) 0 : Nat) : Int)) := by rw [(unhide HI).b.cell hb]; exact hcell _ hj
          have hbit : bs.getD (A / 8) 0 / 2 ^ (A % 8) % 2 = num 256 bs / 2 ^ A % 2 := by rw [← num_get (by omega) (unhide H8), byte_bit]
          have c2 := (unhide HI).row.cell i (by rw [len_ivals, List.length_map, len_unTo]; exact hlt)
          have f2 := (unhide HI).row.frozen i
          have hget : (ivals ((unTo (num 256 bs) n K i (t + 1)).map Int.ofNat)).getD i undef = .int .i64 ((num 256 bs / 2 ^ (i * n + (t + 1)) % 2 ^ (n - (t + 1)) : Nat) : Int) := by
            simp [ivals, unTo, List.getD_eq_getElem?_getD, hlt]
          rw [hget] at c2
          have hread := unTo_read (num 256 bs) n i t (by omega)
          have HS : Hid (∀ v : Nat, v = num 256 bs / 2 ^ (i * n + t) % 2 ^ (n - t) → UnIn w B (.slice (some ⟨b, o, none⟩) bs.length c) bs n K i t (wr.setCell ⟨B, i, none⟩ (.int .i64 (v : Int)))) := fun v hv => by
            have hr := (unhide HI).row.set i (by rw [len_ivals, List.length_map, len_unTo]; exact hlt) (.int .i64 (v : Int))
            rw [ivals_set, unTo_step _ _ _ _ _ (by omega) v hv] at hr
            exact ⟨hr, (unhide HI).b.setCell (p := ⟨B, i, none⟩) (Nat.le_of_eq hB) _⟩
          rw [hA] at hread HS
          obtain ⟨p, hp⟩ : ∃ p, num 256 bs / 2 ^ (i * n + (t + 1)) % 2 ^ (n - (t + 1)) = p := ⟨_, rfl⟩
          rw [hp] at hread c2
          have hpb : p < 16777216 := by
            rw [← hp]
            exact Nat.lt_of_lt_of_le (Nat.mod_lt _ (Nat.pow_pos (by omega))) (Nat.pow_le_pow_right (n := 2) (j := 24) (by omega) (by omega))
          have hc8 : bs.getD (A / 8) 0 < 256 := by
            rw [List.getD_eq_getElem?_getD, List.getElem?_eq_getElem hj]; exact unhide H8 _ (List.getElem_mem hj)
          generalize bs.getD (A / 8) 0 = q at c1 hbit hc8
          have d1 : ((A : Int)).tdiv 8 = ((A / 8 : Nat) : Int) := by rw [Int.tdiv_eq_ediv_of_nonneg (by omega)]; omega
          have d2 : ((A : Int)).tmod 8 = ((A % 8 : Nat) : Int) := by rw [Int.tmod_eq_emod_of_nonneg (by omega)]; omega
          obtain ⟨j, hj'⟩ : ∃ j, A / 8 = j := ⟨_, rfl⟩
          obtain ⟨k, hk'⟩ : ∃ k, A % 8 = k := ⟨_, rfl⟩
          have hk8 : k < 8 := by omega
          rw [hj'] at c1 d1 hj
          rw [hk'] at hbit d2
          have i0 : (0 : Int) ≤ (i : Int) := by omega
          have t0 : (0 : Int) ≤ (t : Int) := by omega
          have t1 : (t : Int) < 24 := by omega
          have j0 : (0 : Int) ≤ (j : Int) := by omega
          have j1 : (j : Int) < (bs.length : Int) := by omega
          have a1 : (A : Int) ≤ 24000 := by omega
          have w1 : IntKind.i64.wrap ((i : Int) * (n : Int)) = (i : Int) * (n : Int) := by
            have : (i : Int) * (n : Int) ≤ (A : Int) := by omega
            have h0 : (0 : Int) ≤ (i : Int) * (n : Int) := Int.mul_nonneg (by omega) (by omega)
            exact IntWalk.i64_in _ (by omega)
          clear HI hcell hget hp hj' hk' et
          have hv := shr_read p q k hpb hc8
          rw [hbit, ← hread] at hv
          have HS2 := hide (unhide HS _ rfl)
          rw [← hv] at HS2
          clear hv HS hread hbit
          go_wp2
          go_region
          go_wp2
          go_roundw
          case rel =>
            first
              | exact ⟨t, by omega, by go_num, (unhide HS2).drew⟩
              | ((repeat apply Exists.intro); exact ⟨⟨t, by omega, by go_num, (unhide HS2).drew⟩, rfl⟩)
          case measure => simp [intOf]
        · obtain rfl : t = 0 := by omega
          have hd : decide ((0 : Int) ≤ ((0 : Nat) : Int) - 1) = false := by decide
          have HI2 : Hid (UnIn w B (.slice sp bs.length c) bs n K (i + 1) n wr) := ⟨by rw [← unTo_next]; exact (unhide HI).row, (unhide HI).b⟩
          clear HI
          go_wp2
          go_roundw
          case rel =>
            first
              | exact ⟨i + 1, by omega, by go_num, HI2⟩
              | ((repeat apply Exists.intro); exact ⟨⟨i + 1, by omega, by go_num, HI2⟩, rfl⟩)
          case measure => simp [intOf]; omega
    · obtain rfl : i = K := by omega
      have hr := (unhide HI).row
      rw [unTo_done] at hr
      have HO : Hid (OwnV 3 wr w.heap.size (.slice (some ⟨B, 0, none⟩) i i) (ivals ((unpackN n bs).map Int.ofNat))) := by
        have e : unpackN n bs = digs (2 ^ n) (num 256 bs) i := by unfold unpackN; rw [unhide HK]
        rw [e]
        exact hr.own (Nat.le_of_eq hB) i i (by rw [len_ivals, List.length_map, length_digs]) (by simp) (by simp only [maxLen]; omega)
      have HB := hide (unhide HI).b
      clear HI hr
      go_wp2
      go_ret2
      exact ⟨_, rfl, unhide HO, unhide HB⟩
end Go.Proofs.Ythciafobknaipaa
