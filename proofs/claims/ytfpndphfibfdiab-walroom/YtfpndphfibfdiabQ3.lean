/-
  WalRoom, walked out of the records Plate and Wal.
-/
import Derived.Test.YtfpndphfibfdiabQ2
namespace Go.Proofs.Ytfpndphfibfdiab
open Go.RowKit
theorem usnoc : ∀ (rs : List (Bs × Nat)) (b : Bs) (o : Nat), usedR (rs ++ [(b, o)]) = usedR rs + needs b.length
  | [], b, o => by simp [usedR]
  | (c, p) :: rs, b, o => by
    have := usnoc rs b o
    show needs c.length + usedR (rs ++ [(b, o)]) = needs c.length + usedR rs + needs b.length
    omega
section
variable {PAt : Set_ → Set_ → World → Value → PS → Prop} {LAt : Set_ → Set_ → World → Value → Value → LS → Prop} (HP : Plate PAt) (HW : Wal PAt LAt)
set_option maxRecDepth 100000 in
set_option maxHeartbeats 8000000 in
include HP HW in
theorem room_true (w : World) (z f : Int) (hz1 : -9223372036854775808 ≤ z) (hz2 : z ≤ 9223372036854775807) (hf1 : -9223372036854775808 ≤ f) (hf2 : f ≤ 9223372036854775807) : Calls Try.prog 3 #[.int .i64 z, .int .i64 f] w fun e w' => e = .returned (.bool true) ∧ Below w.heap.size w w' := by
  have Ha0 := hide (anchor_c HP HW w)
  by_cases h1 : z < 1
  · have f1 : decide (z < 1) = true := decide_eq_true h1
    clear h1
    go_enter Try.func3, Try.ntmps3
    go_wp2_with fail
    refine (unhide Ha0).mono ?_
    rintro e w1 ⟨rfl, hb⟩
    have HB := hide hb
    clear hb Ha0
    go_wp2
    go_ret
    exact ⟨rfl, unhide HB⟩
  have f1 : decide (z < 1) = false := decide_eq_false h1
  by_cases h2 : 100 < z
  · have f2 : decide (100 < z) = true := decide_eq_true h2
    clear h1 h2
    go_enter Try.func3, Try.ntmps3
    go_wp2_with fail
    refine (unhide Ha0).mono ?_
    rintro e w1 ⟨rfl, hb⟩
    have HB := hide hb
    clear hb Ha0
    go_wp2
    go_ret
    exact ⟨rfl, unhide HB⟩
  have f2 : decide (100 < z) = false := decide_eq_false h2
  by_cases h3 : f < 0
  · have f3 : decide (f < 0) = true := decide_eq_true h3
    clear h1 h2 h3
    go_enter Try.func3, Try.ntmps3
    go_wp2_with fail
    refine (unhide Ha0).mono ?_
    rintro e w1 ⟨rfl, hb⟩
    have HB := hide hb
    clear hb Ha0
    go_wp2
    go_ret
    exact ⟨rfl, unhide HB⟩
  have f3 : decide (f < 0) = false := decide_eq_false h3
  by_cases h4 : 3000 < f
  · have f4 : decide (3000 < f) = true := decide_eq_true h4
    clear h1 h2 h3 h4
    go_enter Try.func3, Try.ntmps3
    go_wp2_with fail
    refine (unhide Ha0).mono ?_
    rintro e w1 ⟨rfl, hb⟩
    have HB := hide hb
    clear hb Ha0
    go_wp2
    go_ret
    exact ⟨rfl, unhide HB⟩
  have f4 : decide (3000 < f) = false := decide_eq_false h4
  obtain ⟨Z, rfl⟩ : ∃ Z : Nat, z = (Z : Int) := ⟨z.toNat, by omega⟩
  obtain ⟨F, rfl⟩ : ∃ F : Nat, f = (F : Int) := ⟨f.toNat, by omega⟩
  have hZ : 1 ≤ Z ∧ Z ≤ 100 := by omega
  have hF : F ≤ 3000 := by omega
  clear h1 h2 h3 h4 hz1 hz2 hf1 hf2
  obtain ⟨o1, HI0⟩ := open_new 128 0 Z 1 (by omega) (by omega) (by omega) (by omega)
  have hnd : (newS 128).down = false ∧ (newS 128).loose.length ≤ 100000 ∧ (newS 128).safe.length = 128 ∧ (newS 128).left < 0 := by decide
  obtain ⟨M, hM⟩ : ∃ y, needs F = y := ⟨_, rfl⟩
  have hM' : M = (F + 51) / 48 := by rw [← hM]; rfl
  obtain ⟨A1, hA1⟩ : ∃ y, F + 4 = y := ⟨_, rfl⟩
  obtain ⟨A2, hA2⟩ : ∃ y, A1 + 47 = y := ⟨_, rfl⟩
  have e1 : (F : Int) + 4 = (A1 : Int) := by omega
  have e2 : (A1 : Int) + 47 = (A2 : Int) := by omega
  have e3 : (A2 : Int).tdiv 48 = (M : Int) := by rw [Int.tdiv_eq_ediv_of_nonneg (by omega)]; omega
  have e4 : (A2 : Int) / 48 = (M : Int) := by omega
  have hMb : M ≤ 100 := by omega
  have hA2b : A2 ≤ 4000 := by omega
  by_cases hfull : Z < M
  · obtain ⟨x1, x2, x3⟩ := append_full (L := ⟨0, Z, 1, 1, [], false⟩) (s := newS 128) (b := List.replicate F 0) rfl (by simp; omega) (by rw [List.length_replicate, hM]; show Z < 0 + M; omega)
    obtain ⟨L1, hL1⟩ : ∃ y : LS, ⟨0, Z, 1, 1, [], false⟩ = y := ⟨_, rfl⟩
    obtain ⟨s1, hs1⟩ : ∃ y, newS 128 = y := ⟨_, rfl⟩
    have hLu : usedR L1.rs = 0 := by rw [← hL1]; rfl
    have hLz : L1.size = Z := by rw [← hL1]
    have hsh : L1.shut = false := by rw [← hL1]
    have hlf : s1.left < 0 := by rw [← hs1]; exact hnd.2.2.2
    have HI1 : LogI L1 s1 := by rw [← hL1, ← hs1]; exact HI0
    have He1 := hide x1
    have HL1 : Hid (appendL ⟨0, Z, 1, 1, [], false⟩ (newS 128) (List.replicate F 0) = L1) := by show _ = _; rw [x2, hL1]
    have HP1 : Hid (appendP ⟨0, Z, 1, 1, [], false⟩ (newS 128) (List.replicate F 0) = s1) := by show _ = _; rw [x3, hs1]
    have HI0' := hide HI0
    have Hnd := hide hnd
    have Ho1 := hide o1
    have g1 : decide ((M : Int) ≤ (Z : Int)) = false := by simp; omega
    have g1n : decide (M ≤ Z) = false := by simp; omega
    obtain ⟨D, hD⟩ : ∃ y, Z - 0 = y := ⟨_, rfl⟩
    obtain ⟨K, hK⟩ : ∃ y, 48 * D = y := ⟨_, rfl⟩
    obtain ⟨Rm, hRm⟩ : ∃ y, K - 4 = y := ⟨_, rfl⟩
    obtain ⟨Q, hQ⟩ : ∃ y, Rm + 1 = y := ⟨_, rfl⟩
    have eD : (Z : Int) - 0 = (D : Int) := by omega
    have eK : (48 : Int) * (D : Int) = (K : Int) := by omega
    have eR : (K : Int) - 4 = (Rm : Int) := by omega
    have eQ : (Rm : Int) + 1 = (Q : Int) := by omega
    have hRb : Rm ≤ 5000 := by omega
    have hQb : Q ≤ 5001 := by omega
    have hr1 : roomL L1 = (Rm : Int) ∧ usedR L1.rs ≤ L1.size ∧ L1.size ≤ 16384 := by
      refine ⟨?_, by rw [hLu, hLz]; omega, by rw [hLz]; omega⟩
      unfold roomL
      rw [hLu, hLz, if_neg (by omega), hD]
      omega
    obtain ⟨a1, a2, a3⟩ := append_full (L := L1) (s := s1) (b := List.replicate Q 0) hsh (by simp; omega) (by rw [hLu, hLz, List.length_replicate]; unfold needs; omega)
    obtain ⟨b1, HI2, b3, b4⟩ := append_yes (b := List.replicate Rm 0) HI1 hsh hlf (by simp; omega) (by rw [hLu, hLz, List.length_replicate]; unfold needs; omega)
    obtain ⟨L2, hL2⟩ : ∃ y, appendL L1 s1 (List.replicate Rm 0) = y := ⟨_, rfl⟩
    obtain ⟨s2, hs2⟩ : ∃ y, appendP L1 s1 (List.replicate Rm 0) = y := ⟨_, rfl⟩
    rw [hL2] at b3
    rw [hL2, hs2] at HI2
    have hLu2 : usedR L2.rs = Z := by
      rw [b3]
      show usedR (L1.rs ++ [(List.replicate Rm 0, L1.opening)]) = Z
      rw [usnoc, hLu, List.length_replicate]
      unfold needs
      omega
    have hLz2 : L2.size = Z := by rw [b3]; exact hLz
    have hsh2 : L2.shut = false := by rw [b3]
    have hr2 : roomL L2 = -1 ∧ usedR L2.rs ≤ L2.size ∧ L2.size ≤ 16384 := by
      refine ⟨?_, by rw [hLu2, hLz2]; omega, by rw [hLz2]; omega⟩
      unfold roomL
      rw [hLu2, hLz2, if_pos rfl]
    obtain ⟨c1, c2, c3⟩ := append_full (L := L2) (s := s2) (b := []) hsh2 (by simp) (by rw [hLu2, hLz2]; show _ < _ + needs 0; unfold needs; omega)
    have d1 : (0 == (Z : Int)) = false := by simp; omega
    have d2 : ((Rm : Int) == (Rm : Int)) = true := by simp
    have Hr1 := hide hr1
    have Hr2 := hide hr2
    have Ha := hide (And.intro a1 (And.intro a2 a3))
    have Hb := hide (And.intro b1 (And.intro hL2 hs2))
    have Hc := hide (And.intro c1 (And.intro c2 c3))
    have HI1' := hide HI1
    have HI2' := hide HI2
    clear hD hK hRm hQ hr1 a1 a2 a3 b1 b3 b4 hL2 hs2 hLu2 hLz2 hsh2 hr2 c1 c2 c3 HI1 HI2
    clear x1 x2 x3 hL1 hs1 hLu hLz hsh hlf HI0 hnd o1 hM hM' hA1 hA2 hfull
    go_enter Try.func3, Try.ntmps3
    go_wp2_with fail
    refine (unhide Ha0).mono ?_
    rintro e w1 ⟨rfl, hb⟩
    have Hn : Hid (Calls Try.prog 5 #[.int .i64 128] w1 fun e w' => ∃ p, e = .returned p ∧ ∃ S R, PAt S R w' p (newS 128) ∧ (∀ k, S k ∨ R k → w1.heap.size ≤ k) ∧ Below w1.heap.size w1 w') := HP.new_yes w1 128 (by omega) (by omega)
    have HB1 := hide hb
    clear hb Ha0
    go_wp2_with fail
    refine (unhide Hn).mono ?_
    rintro e w2 ⟨p, rfl, S, R, hp, hge, hb⟩
    obtain ⟨pa, rfl⟩ := HP.ptr hp
    have H2 : Hid (On PAt w w2 (.pointer (some pa)) S R (newS 128)) := ⟨hp, fun k hk => Nat.le_trans (unhide HB1).size (hge k hk), (unhide HB1).trans (hb.mono (unhide HB1).size)⟩
    clear hp hge hb Hn
    have Hop : Hid (Calls Try.prog 6 #[.pointer (some pa), .int .i64 0, .int .i64 (Z : Int), .int .i64 1] w2 fun e w' => ∃ la, e = .returned (.tuple #[.pointer (some la), .int .i64 0]) ∧ ∃ S2 R2, Lg PAt LAt w w' (.pointer (some pa)) (.pointer (some la)) S R S2 R2 (newS 128) (openL (newS 128) 0 Z 1) ∧ Below w2.heap.size w2 w' ∧ ∀ k, S2 k ∨ R2 k → w2.heap.size ≤ k) := by
      have h := (unhide H2).open_ HP HW 0 Z 1 (by omega) (by rw [(unhide Hnd).2.2.1]; omega) (by omega) (by omega) (unhide Hnd).1 (unhide Hnd).2.1
      rw [Nat.zero_add] at h
      exact h
    go_wp2_with fail
    refine (unhide Hop).mono ?_
    rintro e w3 ⟨la, rfl, S2, R2, h3, _, _⟩
    rw [unhide Ho1] at h3
    have HG3 := hide h3
    obtain ⟨w4, hm4, hO4, hb4⟩ := made_zeros w3 F (by omega)
    have Happ := hide (((unhide HG3).below HP HW hb4).app HW _ _ hO4.bytes (fun _ k hk => ((unhide HG3).new HP HW (by simp only [Value.ownBlock, Option.some.injEq] at hk; omega)).1) (by simp; omega) fun _ => unhide HI0')
    rw [unhide He1, unhide HP1, unhide HL1] at Happ
    clear h3 Hop H2 hO4 hb4
    go_wp2_with fail
    refine (unhide Happ).mono ?_
    rintro e w5 ⟨rfl, S4_, R4_, S5_, R5_, h5, _, _⟩
    have HG := hide h5
    clear h5 Happ hm4 HG3
    have Hrm := hide ((unhide HG).room_ HP HW (unhide Hr1).2.1 (unhide Hr1).2.2)
    rw [(unhide Hr1).1] at Hrm
    go_wp2_with fail
    refine (unhide Hrm).mono ?_
    rintro e wa ⟨rfl, ha, _⟩
    have HGa := hide ha
    obtain ⟨wb, hmb, hOb, hbb⟩ := made_zeros wa Q (by omega)
    have Happ := hide (((unhide HGa).below HP HW hbb).app HW _ _ hOb.bytes (fun _ k hk => ((unhide HGa).new HP HW (by simp only [Value.ownBlock, Option.some.injEq] at hk; omega)).1) (by simp; omega) fun _ => unhide HI1')
    rw [(unhide Ha).1, (unhide Ha).2.1, (unhide Ha).2.2] at Happ
    clear ha Hrm HG hOb hbb
    go_wp2_with fail
    refine (unhide Happ).mono ?_
    rintro e wc ⟨rfl, S4, R4, S5, R5, h4, _, _⟩
    have HGc := hide h4
    obtain ⟨wd, hmd, hOd, hbd⟩ := made_zeros wc Rm (by omega)
    have Happ := hide (((unhide HGc).below HP HW hbd).app HW _ _ hOd.bytes (fun _ k hk => ((unhide HGc).new HP HW (by simp only [Value.ownBlock, Option.some.injEq] at hk; omega)).1) (by simp; omega) fun _ => unhide HI1')
    rw [(unhide Hb).1, (unhide Hb).2.1, (unhide Hb).2.2] at Happ
    clear h4 hmb HGa hOd hbd
    go_wp2_with fail
    refine (unhide Happ).mono ?_
    rintro e we ⟨rfl, S6, R6, S7, R7, h6, _, _⟩
    have Hrm := hide (h6.room_ HP HW (unhide Hr2).2.1 (unhide Hr2).2.2)
    rw [(unhide Hr2).1] at Hrm
    clear Happ h6 hmd HGc
    go_wp2_with fail
    refine (unhide Hrm).mono ?_
    rintro e wf ⟨rfl, h8, _⟩
    have Happ := hide (h8.app HW (.slice none 0 0) [] (bytes_nil wf) (fun h => absurd rfl h) (by simp) fun _ => unhide HI2')
    rw [(unhide Hc).1, (unhide Hc).2.1, (unhide Hc).2.2] at Happ
    clear h8 Hrm
    go_wp2_with fail
    refine (unhide Happ).mono ?_
    rintro e wg ⟨rfl, S8, R8, S9, R9, h9, _, _⟩
    have HB := hide h9.b
    clear Happ h9
    go_wp2
    go_ret
    exact ⟨rfl, unhide HB⟩
  obtain ⟨x1, HI1, x2, hlf⟩ := append_yes (b := List.replicate F 0) HI0 rfl hnd.2.2.2 (by simp; omega) (by rw [List.length_replicate, hM]; show 0 + M ≤ Z; omega)
  obtain ⟨L1, hL1⟩ : ∃ y, appendL ⟨0, Z, 1, 1, [], false⟩ (newS 128) (List.replicate F 0) = y := ⟨_, rfl⟩
  obtain ⟨s1, hs1⟩ : ∃ y, appendP ⟨0, Z, 1, 1, [], false⟩ (newS 128) (List.replicate F 0) = y := ⟨_, rfl⟩
  rw [hL1] at x2
  rw [hL1, hs1] at HI1
  rw [hs1] at hlf
  have hLu : usedR L1.rs = M := by
    rw [x2]
    show needs (List.replicate F 0).length + 0 = M
    rw [List.length_replicate, hM]
    exact Nat.add_zero M
  have hLz : L1.size = Z := by rw [x2]
  have hsh : L1.shut = false := by rw [x2]
  have He1 := hide x1
  have HL1 := hide hL1
  have HP1 := hide hs1
  have HI0' := hide HI0
  have Hnd := hide hnd
  have Ho1 := hide o1
  have g1 : decide ((M : Int) ≤ (Z : Int)) = true := by simp; omega
  have g1n : decide (M ≤ Z) = true := by simp; omega
  by_cases hMZ : M = Z
  · have hr1 : roomL L1 = -1 ∧ usedR L1.rs ≤ L1.size ∧ L1.size ≤ 16384 := by
      refine ⟨?_, by rw [hLu, hLz]; omega, by rw [hLz]; omega⟩
      unfold roomL
      rw [hLu, hLz, if_pos hMZ]
    obtain ⟨c1, c2, c3⟩ := append_full (L := L1) (s := s1) (b := []) hsh (by simp) (by rw [hLu, hLz]; show _ < _ + needs 0; unfold needs; omega)
    have d1 : ((M : Int) == (Z : Int)) = true := by simp; omega
    have Hr1 := hide hr1
    have Hc := hide (And.intro c1 (And.intro c2 c3))
    have HI1' := hide HI1
    clear x1 x2 hL1 hs1 hLu hLz hsh hlf HI0 hnd o1 hM hM' hA1 hA2 hfull hr1 c1 c2 c3 HI1 hMZ
    go_enter Try.func3, Try.ntmps3
    go_wp2_with fail
    refine (unhide Ha0).mono ?_
    rintro e w1 ⟨rfl, hb⟩
    have Hn : Hid (Calls Try.prog 5 #[.int .i64 128] w1 fun e w' => ∃ p, e = .returned p ∧ ∃ S R, PAt S R w' p (newS 128) ∧ (∀ k, S k ∨ R k → w1.heap.size ≤ k) ∧ Below w1.heap.size w1 w') := HP.new_yes w1 128 (by omega) (by omega)
    have HB1 := hide hb
    clear hb Ha0
    go_wp2_with fail
    refine (unhide Hn).mono ?_
    rintro e w2 ⟨p, rfl, S, R, hp, hge, hb⟩
    obtain ⟨pa, rfl⟩ := HP.ptr hp
    have H2 : Hid (On PAt w w2 (.pointer (some pa)) S R (newS 128)) := ⟨hp, fun k hk => Nat.le_trans (unhide HB1).size (hge k hk), (unhide HB1).trans (hb.mono (unhide HB1).size)⟩
    clear hp hge hb Hn
    have Hop : Hid (Calls Try.prog 6 #[.pointer (some pa), .int .i64 0, .int .i64 (Z : Int), .int .i64 1] w2 fun e w' => ∃ la, e = .returned (.tuple #[.pointer (some la), .int .i64 0]) ∧ ∃ S2 R2, Lg PAt LAt w w' (.pointer (some pa)) (.pointer (some la)) S R S2 R2 (newS 128) (openL (newS 128) 0 Z 1) ∧ Below w2.heap.size w2 w' ∧ ∀ k, S2 k ∨ R2 k → w2.heap.size ≤ k) := by
      have h := (unhide H2).open_ HP HW 0 Z 1 (by omega) (by rw [(unhide Hnd).2.2.1]; omega) (by omega) (by omega) (unhide Hnd).1 (unhide Hnd).2.1
      rw [Nat.zero_add] at h
      exact h
    go_wp2_with fail
    refine (unhide Hop).mono ?_
    rintro e w3 ⟨la, rfl, S2, R2, h3, _, _⟩
    rw [unhide Ho1] at h3
    have HG3 := hide h3
    obtain ⟨w4, hm4, hO4, hb4⟩ := made_zeros w3 F (by omega)
    have Happ := hide (((unhide HG3).below HP HW hb4).app HW _ _ hO4.bytes (fun _ k hk => ((unhide HG3).new HP HW (by simp only [Value.ownBlock, Option.some.injEq] at hk; omega)).1) (by simp; omega) fun _ => unhide HI0')
    rw [unhide He1, unhide HP1, unhide HL1] at Happ
    clear h3 Hop H2 hO4 hb4
    go_wp2_with fail
    refine (unhide Happ).mono ?_
    rintro e w5 ⟨rfl, S4_, R4_, S5_, R5_, h5, _, _⟩
    have HG := hide h5
    clear h5 Happ hm4 HG3
    have Hrm := hide ((unhide HG).room_ HP HW (unhide Hr1).2.1 (unhide Hr1).2.2)
    rw [(unhide Hr1).1] at Hrm
    go_wp2_with fail
    refine (unhide Hrm).mono ?_
    rintro e wf ⟨rfl, h8, _⟩
    have Happ := hide (h8.app HW (.slice none 0 0) [] (bytes_nil wf) (fun h => absurd rfl h) (by simp) fun _ => unhide HI1')
    rw [(unhide Hc).1, (unhide Hc).2.1, (unhide Hc).2.2] at Happ
    clear h8 Hrm HG
    go_wp2_with fail
    refine (unhide Happ).mono ?_
    rintro e wg ⟨rfl, S8, R8, S9, R9, h9, _, _⟩
    have HB := hide h9.b
    clear Happ h9
    go_wp2
    go_ret
    exact ⟨rfl, unhide HB⟩
  obtain ⟨D, hD⟩ : ∃ y, Z - M = y := ⟨_, rfl⟩
  obtain ⟨K, hK⟩ : ∃ y, 48 * D = y := ⟨_, rfl⟩
  obtain ⟨Rm, hRm⟩ : ∃ y, K - 4 = y := ⟨_, rfl⟩
  obtain ⟨Q, hQ⟩ : ∃ y, Rm + 1 = y := ⟨_, rfl⟩
  have eD : (Z : Int) - (M : Int) = (D : Int) := by omega
  have eK : (48 : Int) * (D : Int) = (K : Int) := by omega
  have eR : (K : Int) - 4 = (Rm : Int) := by omega
  have eQ : (Rm : Int) + 1 = (Q : Int) := by omega
  have hRb : Rm ≤ 5000 := by omega
  have hQb : Q ≤ 5001 := by omega
  have hr1 : roomL L1 = (Rm : Int) ∧ usedR L1.rs ≤ L1.size ∧ L1.size ≤ 16384 := by
    refine ⟨?_, by rw [hLu, hLz]; omega, by rw [hLz]; omega⟩
    unfold roomL
    rw [hLu, hLz, if_neg (by omega), hD]
    omega
  obtain ⟨a1, a2, a3⟩ := append_full (L := L1) (s := s1) (b := List.replicate Q 0) hsh (by simp; omega) (by rw [hLu, hLz, List.length_replicate]; unfold needs; omega)
  obtain ⟨b1, HI2, b3, b4⟩ := append_yes (b := List.replicate Rm 0) HI1 hsh hlf (by simp; omega) (by rw [hLu, hLz, List.length_replicate]; unfold needs; omega)
  obtain ⟨L2, hL2⟩ : ∃ y, appendL L1 s1 (List.replicate Rm 0) = y := ⟨_, rfl⟩
  obtain ⟨s2, hs2⟩ : ∃ y, appendP L1 s1 (List.replicate Rm 0) = y := ⟨_, rfl⟩
  rw [hL2] at b3
  rw [hL2, hs2] at HI2
  have hLu2 : usedR L2.rs = Z := by
    rw [b3]
    show usedR (L1.rs ++ [(List.replicate Rm 0, L1.opening)]) = Z
    rw [usnoc, hLu, List.length_replicate]
    unfold needs
    omega
  have hLz2 : L2.size = Z := by rw [b3]; exact hLz
  have hsh2 : L2.shut = false := by rw [b3]
  have hr2 : roomL L2 = -1 ∧ usedR L2.rs ≤ L2.size ∧ L2.size ≤ 16384 := by
    refine ⟨?_, by rw [hLu2, hLz2]; omega, by rw [hLz2]; omega⟩
    unfold roomL
    rw [hLu2, hLz2, if_pos rfl]
  obtain ⟨c1, c2, c3⟩ := append_full (L := L2) (s := s2) (b := []) hsh2 (by simp) (by rw [hLu2, hLz2]; show _ < _ + needs 0; unfold needs; omega)
  have d1 : ((M : Int) == (Z : Int)) = false := by simp; omega
  have d2 : ((Rm : Int) == (Rm : Int)) = true := by simp
  have Hr1 := hide hr1
  have Hr2 := hide hr2
  have Ha := hide (And.intro a1 (And.intro a2 a3))
  have Hb := hide (And.intro b1 (And.intro hL2 hs2))
  have Hc := hide (And.intro c1 (And.intro c2 c3))
  have HI1' := hide HI1
  have HI2' := hide HI2
  clear hD hK hRm hQ hr1 a1 a2 a3 b1 b3 b4 hL2 hs2 hLu2 hLz2 hsh2 hr2 c1 c2 c3 HI1 HI2
  clear x1 x2 hL1 hs1 hLu hLz hsh hlf HI0 hnd o1 hM hM' hA1 hA2 hfull hMZ
  go_enter Try.func3, Try.ntmps3
  go_wp2_with fail
  refine (unhide Ha0).mono ?_
  rintro e w1 ⟨rfl, hb⟩
  have Hn : Hid (Calls Try.prog 5 #[.int .i64 128] w1 fun e w' => ∃ p, e = .returned p ∧ ∃ S R, PAt S R w' p (newS 128) ∧ (∀ k, S k ∨ R k → w1.heap.size ≤ k) ∧ Below w1.heap.size w1 w') := HP.new_yes w1 128 (by omega) (by omega)
  have HB1 := hide hb
  clear hb Ha0
  go_wp2_with fail
  refine (unhide Hn).mono ?_
  rintro e w2 ⟨p, rfl, S, R, hp, hge, hb⟩
  obtain ⟨pa, rfl⟩ := HP.ptr hp
  have H2 : Hid (On PAt w w2 (.pointer (some pa)) S R (newS 128)) := ⟨hp, fun k hk => Nat.le_trans (unhide HB1).size (hge k hk), (unhide HB1).trans (hb.mono (unhide HB1).size)⟩
  clear hp hge hb Hn
  have Hop : Hid (Calls Try.prog 6 #[.pointer (some pa), .int .i64 0, .int .i64 (Z : Int), .int .i64 1] w2 fun e w' => ∃ la, e = .returned (.tuple #[.pointer (some la), .int .i64 0]) ∧ ∃ S2 R2, Lg PAt LAt w w' (.pointer (some pa)) (.pointer (some la)) S R S2 R2 (newS 128) (openL (newS 128) 0 Z 1) ∧ Below w2.heap.size w2 w' ∧ ∀ k, S2 k ∨ R2 k → w2.heap.size ≤ k) := by
    have h := (unhide H2).open_ HP HW 0 Z 1 (by omega) (by rw [(unhide Hnd).2.2.1]; omega) (by omega) (by omega) (unhide Hnd).1 (unhide Hnd).2.1
    rw [Nat.zero_add] at h
    exact h
  go_wp2_with fail
  refine (unhide Hop).mono ?_
  rintro e w3 ⟨la, rfl, S2, R2, h3, _, _⟩
  rw [unhide Ho1] at h3
  have HG3 := hide h3
  obtain ⟨w4, hm4, hO4, hb4⟩ := made_zeros w3 F (by omega)
  have Happ := hide (((unhide HG3).below HP HW hb4).app HW _ _ hO4.bytes (fun _ k hk => ((unhide HG3).new HP HW (by simp only [Value.ownBlock, Option.some.injEq] at hk; omega)).1) (by simp; omega) fun _ => unhide HI0')
  rw [unhide He1, unhide HP1, unhide HL1] at Happ
  clear h3 Hop H2 hO4 hb4
  go_wp2_with fail
  refine (unhide Happ).mono ?_
  rintro e w5 ⟨rfl, S4_, R4_, S5_, R5_, h5, _, _⟩
  have HG := hide h5
  clear h5 Happ hm4 HG3
  have Hrm := hide ((unhide HG).room_ HP HW (unhide Hr1).2.1 (unhide Hr1).2.2)
  rw [(unhide Hr1).1] at Hrm
  go_wp2_with fail
  refine (unhide Hrm).mono ?_
  rintro e wa ⟨rfl, ha, _⟩
  have HGa := hide ha
  obtain ⟨wb, hmb, hOb, hbb⟩ := made_zeros wa Q (by omega)
  have Happ := hide (((unhide HGa).below HP HW hbb).app HW _ _ hOb.bytes (fun _ k hk => ((unhide HGa).new HP HW (by simp only [Value.ownBlock, Option.some.injEq] at hk; omega)).1) (by simp; omega) fun _ => unhide HI1')
  rw [(unhide Ha).1, (unhide Ha).2.1, (unhide Ha).2.2] at Happ
  clear ha Hrm HG hOb hbb
  go_wp2_with fail
  refine (unhide Happ).mono ?_
  rintro e wc ⟨rfl, S4, R4, S5, R5, h4, _, _⟩
  have HGc := hide h4
  obtain ⟨wd, hmd, hOd, hbd⟩ := made_zeros wc Rm (by omega)
  have Happ := hide (((unhide HGc).below HP HW hbd).app HW _ _ hOd.bytes (fun _ k hk => ((unhide HGc).new HP HW (by simp only [Value.ownBlock, Option.some.injEq] at hk; omega)).1) (by simp; omega) fun _ => unhide HI1')
  rw [(unhide Hb).1, (unhide Hb).2.1, (unhide Hb).2.2] at Happ
  clear h4 hmb HGa hOd hbd
  go_wp2_with fail
  refine (unhide Happ).mono ?_
  rintro e we ⟨rfl, S6, R6, S7, R7, h6, _, _⟩
  have Hrm := hide (h6.room_ HP HW (unhide Hr2).2.1 (unhide Hr2).2.2)
  rw [(unhide Hr2).1] at Hrm
  clear Happ h6 hmd HGc
  go_wp2_with fail
  refine (unhide Hrm).mono ?_
  rintro e wf ⟨rfl, h8, _⟩
  have Happ := hide (h8.app HW (.slice none 0 0) [] (bytes_nil wf) (fun h => absurd rfl h) (by simp) fun _ => unhide HI2')
  rw [(unhide Hc).1, (unhide Hc).2.1, (unhide Hc).2.2] at Happ
  clear h8 Hrm
  go_wp2_with fail
  refine (unhide Happ).mono ?_
  rintro e wg ⟨rfl, S8, R8, S9, R9, h9, _, _⟩
  have HB := hide h9.b
  clear Happ h9
  go_wp2
  go_ret
  exact ⟨rfl, unhide HB⟩
end
end Go.Proofs.Ytfpndphfibfdiab
