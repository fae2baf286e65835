/-
  The walk of the reference's Pack.
-/
import Derived.Test.YthciafobknaipaaRefBits
namespace Go.Proofs.Ythciafobknaipaa
open Go.RowKit
theorem pow_int (n : Nat) : ((2 ^ n : Nat) : Int) = 2 ^ n := by simp
/-- The bytes of the first i bits. -/
def bytesTo (N i K : Nat) : List Nat := (List.range K).map (byteTo N i)
theorem len_bytesTo (N i K : Nat) : (bytesTo N i K).length = K := by simp [bytesTo]
theorem bytesTo_get (N i K j : Nat) (hj : j < K) : (bytesTo N i K).getD j 0 = byteTo N i j := by simp [bytesTo, List.getD_eq_getElem?_getD, hj]
theorem bytesTo_zero (N K : Nat) : bytesTo N 0 K = List.replicate K 0 := by
  unfold bytesTo
  apply List.ext_getElem
  · simp
  · intro j h1 h2; simp [byteTo_zero]
theorem bytesTo_step (N i K : Nat) : (bytesTo N i K).set (i / 8) (byteTo N (i + 1) (i / 8)) = bytesTo N (i + 1) K := by
  apply List.ext_getElem
  · simp [bytesTo]
  · intro j h1 h2
    rw [List.getElem_set]
    simp only [bytesTo, List.getElem_map, List.getElem_range]
    split
    · rename_i e; rw [← e]
    · rename_i e; exact (byteTo_other N i j (fun h => e h.symm)).symm
theorem bytesTo_all {N i : Nat} (h : N < 2 ^ i) (K : Nat) : bytesTo N i K = digs 256 N K := by
  unfold bytesTo digs
  exact List.map_congr_left fun j _ => byteTo_all h j
theorem bvals_set (l : List Nat) (i v : Nat) : (bvals l).set i (.int .u8 (v : Int)) = bvals (l.set i v) := by unfold bvals; rw [List.map_set]
theorem nats_lt {l : List Int} {n : Nat} (hf : Fits n l) : ∀ x ∈ nats l, x < 2 ^ n := fun x hx => by
  obtain ⟨y, hy, rfl⟩ := List.mem_map.1 hx
  have := hf y hy
  have h2 : ((2 ^ n : Nat) : Int) = 2 ^ n := by simp
  omega
theorem num_bound {l : List Int} {n : Nat} (hf : Fits n l) : num (2 ^ n) (nats l) < 2 ^ (l.length * n) := by
  have := num_lt (nats_lt hf)
  rw [← Nat.pow_mul, Nat.mul_comm, show (nats l).length = l.length by simp [nats]] at this
  exact this
/-- What stands while the bytes are laid. -/
structure PackIn (w : World) (B : Nat) (vb : Value) (l : List Int) (n K i : Nat) (wr : World) : Prop where
  row : RowAt 5 wr B [] (bvals (bytesTo (num (2 ^ n) (nats l)) i K))
  bits : ValsAt wr vb (bitsV l n (l.length * n))
  apart : vb.ownBlock ≠ some B
  b : Below w.heap.size w wr
theorem PackIn.drew {w : World} {B : Nat} {vb : Value} {l : List Int} {n K i : Nat} {wr : World} (h : PackIn w B vb l n K i wr) : PackIn w B vb l n K i wr.drew := ⟨h.row, h.bits.drew, h.apart, h.b.drew⟩
theorem or_dec : ∀ k : Nat, k < 8 → ∀ z : Nat, z < 2 → ∀ q : Nat, q < 256 → q < 2 ^ k → bits .or .u8 (q : Int) (wrap64 ((z : Int) * 2 ^ k) % 256) = ((q + z * 2 ^ k : Nat) : Int) := by decide +kernel
theorem getD_mem {l : List Int} {i : Nat} (h : i < l.length) : l.getD i 0 ∈ l := by
  rw [List.getD_eq_getElem?_getD, List.getElem?_eq_getElem h]; exact List.getElem_mem h
set_option maxRecDepth 100000 in
set_option maxHeartbeats 2000000 in
theorem refPack_any (w : World) (x : Value) (l : List Int) (n : Nat) (hx : ValsAt w x (ivals l)) (hl : l.length ≤ 1000) (n1 : 1 ≤ n) (n24 : n ≤ 24) (hf : Fits n l) :
    Gives w 21 #[x, .int .i64 (n : Int)] 5 (bvals (packN n (nats l))) := by
  have HX := hide hx
  obtain ⟨sp, c, rfl, _, _, hc⟩ := ints_open hx
  have Hc := hide hc
  have Hf := hide hf
  have m1 : decide ((n : Int) < 1) = false := by simp; omega
  have m2 : decide (24 < (n : Int)) = false := by simp; omega
  have m3 : decide (24 < n) = false := by simp; omega
  have hpn : (2 : Int) ^ n ≤ 16777216 := by
    have := Nat.pow_le_pow_right (show 0 < 2 by omega) n24
    rw [← pow_int]
    omega
  have hpp : (0 : Int) < 2 ^ n := by rw [← pow_int]; have := Nat.pow_pos (n := n) (show 0 < 2 by omega); omega
  have hw : IntKind.i64.wrap ((2 : Int) ^ n) = 2 ^ n := IntWalk.i64_in _ (by omega)
  clear hx hc hf
  go_enter Try.func21, Try.ntmps21
  go_wp2
  go_loopw [6] (fun i wr => ∃ (k : Nat), k ≤ l.length ∧ i = .int .i64 (k : Int) ∧ wr.heap = w.heap ∧ Below w.heap.size w wr) (fun i _ => l.length - (intOf i).toNat)
  case atStart => exact ⟨0, by omega, rfl, rfl, Below.refl _ _⟩
  case round =>
    obtain ⟨i, hi, rfl, hh, hB⟩ := hrel
    have ib : (i : Int) ≤ 1000 := by omega
    by_cases hlt : i < l.length
    · obtain ⟨b, o, rfl, hb, hcell⟩ := unhide Hc (by intro e; rw [e] at hlt; simp at hlt)
      have e2 : wr.cell? ⟨b, o + i, none⟩ = some (.int .i64 (l.getD i 0)) := by rw [hB.cell hb]; exact hcell i hlt
      have hfi := unhide Hf _ (getD_mem hlt)
      obtain ⟨f0, f1⟩ := hfi
      generalize l.getD i 0 = y at e2 f0 f1
      have i0 : (0 : Int) ≤ (i : Int) := by omega
      have i1 : (i : Int) < (l.length : Int) := by omega
      have d0 : decide (y < 0) = false := by simp; omega
      have HB := hide hB
      have Hh := hide hh
      clear hcell hB hh
      go_wp2
      go_region_held3 (fun w' => w'.cell? ⟨b, o + i, none⟩ = some (.int .i64 y)) (go_keep) (fail)
      go_wp2
      go_roundw
      case rel =>
        first
          | exact ⟨i + 1, by omega, by go_num, unhide Hh, (unhide HB).drew⟩
          | ((repeat apply Exists.intro); exact ⟨⟨i + 1, by omega, by go_num, unhide Hh, (unhide HB).drew⟩, rfl⟩)
      case measure => simp [intOf]; omega
    · obtain rfl : i = l.length := by omega
      have HX' := hide ((unhide HX).below (hB.mono (Nat.le_refl _)))
      have HB := hide hB
      clear hB hh
      go_wp2_with fail
      refine (refBits_any wr _ l n (unhide HX') hl n1 n24 (unhide Hf)).mono ?_
      rintro e w2 ⟨v2, rfl, hO2, hb2⟩
      obtain ⟨L, hL⟩ : ∃ L, l.length * n = L := ⟨_, rfl⟩
      have hLb : L ≤ 24000 := by rw [← hL]; exact Nat.mul_le_mul hl n24
      rw [hL] at hO2
      obtain ⟨sp2, c2, hv2⟩ := hO2.form
      rw [len_bitsV] at hv2
      subst hv2
      obtain ⟨W, hmk, hrow, hbel⟩ := made_vals Eb rfl w2 .i64 .i64 ((L + 7) / 8) (((L + 7) / 8 : Nat) : Int) (((L + 7) / 8 : Nat) : Int) rfl rfl (by omega)
      have hb3 : Below w.heap.size w w2 := (unhide HB).trans (hb2.mono (unhide HB).size)
      have HI : Hid (PackIn w w2.heap.size (.slice sp2 L c2) l n ((L + 7) / 8) 0 W) := by
        refine ⟨?_, by rw [hL]; exact hO2.vals.below hbel, fun e => by have := (World.ownsRow.lt hO2 _ e).2; omega, hb3.trans (hbel.mono hb3.size)⟩
        rw [bytesTo_zero]
        have e : bvals (List.replicate ((L + 7) / 8) 0) = List.replicate ((L + 7) / 8) (.int .u8 0) := by simp [bvals]
        rw [e]; exact hrow
      have hB : w.heap.size ≤ w2.heap.size := hb3.size
      have HK : Hid ((L + 7) / 8 = (L + 7) / 8) := rfl
      have d1 : (((L : Int) + 7)).tdiv 8 = (((L + 7) / 8 : Nat) : Int) := by rw [Int.tdiv_eq_ediv_of_nonneg (by omega)]; omega
      have HL := hide hL
      clear hO2 hb2 hrow hbel hb3 HB HX' hL
      generalize hK : (L + 7) / 8 = K at hmk HI d1
      have hK2 := hide hK
      have kb : (K : Int) ≤ 4000 := by omega
      have kb0 : (0 : Int) ≤ (K : Int) := by omega
      clear hK HK
      go_wp2
      clear hmk d1
      generalize w2.heap.size = B at HI hB ⊢
      go_loopw [9] (fun i wr => ∃ (k : Nat), k ≤ L ∧ i = .int .i64 (k : Int) ∧ Hid (PackIn w B (.slice sp2 L c2) l n K k wr)) (fun i _ => L - (intOf i).toNat)
      case atStart => exact ⟨0, by omega, rfl, HI⟩
      case round =>
        clear HI
        obtain ⟨i, hi, rfl, HI⟩ := hrel
        by_cases hil : i < L
        · have hne : (digs 2 (num (2 ^ n) (nats l)) (l.length * n)).map Int.ofNat ≠ [] := by
            intro e
            have := congrArg List.length e
            rw [List.length_map, length_digs, unhide HL] at this
            simp at this
            omega
          obtain ⟨sp3, c3, e3, _, _, hopen⟩ := ints_open (l := (digs 2 (num (2 ^ n) (nats l)) (l.length * n)).map Int.ofNat) (unhide HI).bits
          simp only [Value.slice.injEq] at e3
          obtain ⟨rfl, hLL, rfl⟩ := e3
          clear hLL
          obtain ⟨bb, bo, rfl, hbb, hcell⟩ := hopen hne
          have c1 : wr.cell? ⟨bb, bo + i, none⟩ = some (.int .i64 ((num (2 ^ n) (nats l) / 2 ^ i % 2 : Nat) : Int)) := by
            rw [hcell i (by rw [List.length_map, length_digs, unhide HL]; exact hil)]
            simp [digs, List.getD_eq_getElem?_getD, unhide HL, hil]
          have hj : i / 8 < K := by have := unhide hK2; omega
          have c2' := (unhide HI).row.cell (i / 8) (by rw [len_bvals, len_bytesTo]; exact hj)
          have f2 := (unhide HI).row.frozen (i / 8)
          have hget : (bvals (bytesTo (num (2 ^ n) (nats l)) i K)).getD (i / 8) undef = .int .u8 ((byteTo (num (2 ^ n) (nats l)) i (i / 8) : Nat) : Int) := by
            simp [bvals, bytesTo, List.getD_eq_getElem?_getD, hj]
          rw [hget] at c2'
          have hhere := byteTo_here (num (2 ^ n) (nats l)) i
          have HS : Hid (∀ v : Int, v = ((byteTo (num (2 ^ n) (nats l)) (i + 1) (i / 8) : Nat) : Int) → PackIn w B (.slice (some ⟨bb, bo, none⟩) L c2) l n K (i + 1) (wr.setCell ⟨B, i / 8, none⟩ (.int .u8 v))) := fun v hv => by
            subst hv
            have hr := (unhide HI).row.set (i / 8) (by rw [len_bvals, len_bytesTo]; exact hj) (.int .u8 ((byteTo (num (2 ^ n) (nats l)) (i + 1) (i / 8) : Nat) : Int))
            rw [bvals_set, bytesTo_step] at hr
            exact ⟨hr, (unhide HI).bits.grown (grown_setCell (World.grownBy.refl wr (some B)) ⟨B, i / 8, none⟩ _ rfl) (unhide HI).apart, (unhide HI).apart, (unhide HI).b.setCell (p := ⟨B, i / 8, none⟩) hB _⟩
          generalize byteTo (num (2 ^ n) (nats l)) (i + 1) (i / 8) = q' at hhere HS
          generalize byteTo (num (2 ^ n) (nats l)) i (i / 8) = q at hhere c2'
          have hz : num (2 ^ n) (nats l) / 2 ^ i % 2 < 2 := Nat.mod_lt _ (by omega)
          generalize num (2 ^ n) (nats l) / 2 ^ i % 2 = z at hhere c1 hz
          have d1 : ((i : Int)).tdiv 8 = ((i / 8 : Nat) : Int) := by rw [Int.tdiv_eq_ediv_of_nonneg (by omega)]; omega
          have d2 : ((i : Int)).tmod 8 = ((i % 8 : Nat) : Int) := by rw [Int.tmod_eq_emod_of_nonneg (by omega)]; omega
          have hk8 : i % 8 < 8 := by omega
          obtain ⟨j, hj'⟩ : ∃ j, i / 8 = j := ⟨_, rfl⟩
          obtain ⟨k, hk'⟩ : ∃ k, i % 8 = k := ⟨_, rfl⟩
          rw [hj'] at c2' f2 HS d1 hj
          rw [hk'] at hhere d2 hk8
          clear hj' hk'
          have i0 : (0 : Int) ≤ (i : Int) := by omega
          have i1 : (i : Int) < (L : Int) := by omega
          have j0 : (0 : Int) ≤ (j : Int) := by omega
          have j1 : (j : Int) < (K : Int) := by omega
          clear HI hcell hopen hget hne
          have hq8 : q < 256 := Nat.lt_of_lt_of_le hhere.1 (Nat.pow_le_pow_right (n := 2) (j := 8) (by omega) (by omega))
          have hor := or_dec k hk8 z hz q hq8 hhere.1
          rw [← hhere.2] at hor
          have HS2 := hide (unhide HS _ rfl)
          rw [← hor] at HS2
          clear hor HS hhere
          go_wp2
          go_region
          go_wp2
          go_roundw
          case rel =>
            first
              | exact ⟨i + 1, by omega, by go_num, (unhide HS2).drew⟩
              | ((repeat apply Exists.intro); exact ⟨⟨i + 1, by omega, by go_num, (unhide HS2).drew⟩, rfl⟩)
          case measure => simp [intOf]; omega
        · obtain rfl : i = L := by omega
          have hall := bytesTo_all (K := K) (by have := num_bound (unhide Hf); rw [unhide HL] at this; exact this)
          have hr := (unhide HI).row
          rw [hall] at hr
          have HO : Hid (OwnV 5 wr w.heap.size (.slice (some ⟨B, 0, none⟩) K K) (bvals (packN n (nats l)))) := by
            have e : packN n (nats l) = digs 256 (num (2 ^ n) (nats l)) K := by
              unfold packN
              rw [show (nats l).length = l.length by simp [nats], unhide HL, unhide hK2]
            rw [e]
            exact hr.own hB K K (by rw [len_bvals, length_digs]) (by simp) (by simp only [maxLen]; omega)
          have HB := hide (unhide HI).b
          clear HI hr hall
          go_wp2
          go_ret2
          exact ⟨_, rfl, unhide HO, unhide HB⟩
end Go.Proofs.Ythciafobknaipaa
