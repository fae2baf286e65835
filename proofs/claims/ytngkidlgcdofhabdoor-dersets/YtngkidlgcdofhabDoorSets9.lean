/-
  The walk of the statement DerSets.
-/
import Derived.Test.YtngkidlgcdofhabDoorSet9f
import Derived.Test.YtngkidlgcdofhabDoorKy
import Derived.Test.YtngkidlgcdofhabDoorSet9q
import Derived.Deep.RegionLaw
import Derived.Test.YtngkidlgcdofhabDoorAnc9
import Derived.Test.YtngkidlgcdofhabDoorSame9
import Derived.Deep.Cut
import Derived.BigQuiet
import Derived.WalkSmall
namespace Go.Proofs.YtngkidlgcdofhabDoor
open Go.RowKit
theorem below_drewNs : ∀ (q : Nat) (w : World), Below w.heap.size w (w.drewN q)
  | 0, _ => Below.refl _ _
  | q + 1, w => (below_drewNs q w).drew
theorem krow_drewN {w0 w : World} {v : Value} {ks : List (Value × Bs)} (h : KRow w0 w v ks) : ∀ q, KRow w0 (w.drewN q) v ks
  | 0 => h
  | q + 1 => (krow_drewN h q).later (Below.refl _ _).drew
set_option maxRecDepth 100000 in
set_option maxHeartbeats 8000000 in
theorem sets_true {R : World → Prop} (C : Der R) (w0 : World) (hR : R w0) (x : Value) (vs : List Value) (bs : List Bs) (hx : ValsAt w0 x vs) (hl : bs.length = vs.length) (hm : vs.length ≤ 9223372036854775807) (hb : ∀ (i : Nat) v b, vs[i]? = some v → bs[i]? = some b → BytesAt w0 v b ∧ b.length ≤ 9223372036854775807) :
    Calls Tryd.prog 6 #[x] w0 fun e w' => e = .returned (.bool true) ∧ Below w0.heap.size w0 w' := by
  have HC := hide C
  have HR : Hid (∀ w, Below w0.heap.size w0 w → R w) := fun w hb => C.below _ _ hR hb
  have Hanc := hide (anchor_any C w0 hR)
  have HX := hide hx
  have HBS := hide hb
  obtain ⟨sp, cp, rfl⟩ := hx.form
  obtain ⟨N, hN⟩ : ∃ N, vs.length = N := ⟨_, rfl⟩
  have HN := hide hN
  have HL := hide hl
  rw [hN] at hm
  simp only [hN] at HX ⊢
  clear C hR hx hb hN hl
  go_enter Tryd.func6, Tryd.ntmps6
  go_wp2_with fail
  refine (unhide Hanc).mono ?_
  rintro e w1 ⟨rfl, hb1⟩
  have Hb1 := hide hb1
  have HK0 := hide ((KRow.nil w0).later hb1)
  clear hb1 Hanc
  by_cases g20 : 20 < N
  · have f0 : decide ((20 : Int) < (N : Int)) = true := by simp; omega
    have f0n : decide (20 < N) = true := by simp; omega
    go_wp2
    go_ret
    exact ⟨rfl, unhide Hb1⟩
  have f0 : decide ((20 : Int) < (N : Int)) = false := by simp; omega
  have f0n : decide (20 < N) = false := by simp; omega
  go_wp2
  go_loopw [3, 25] (fun kv ii wr => ∃ (i : Nat) (ks : List (Value × Bs)) (sk : Option Addr) (ck : Nat), i ≤ N ∧ ii = .int .i64 (i : Int) ∧ kv = .slice sk i ck ∧ i ≤ ck ∧ Hid (ks.length = i) ∧ Hid (KRow w0 wr (.slice sk i ck) ks) ∧ Hid (chainP (ks.map (·.2)) = true)) (fun _ ii _ => N - (intOf ii).toNat)
  case atStart => exact ⟨0, [], none, 0, by omega, rfl, rfl, by omega, rfl, HK0, rfl⟩
  case round =>
    obtain ⟨i, ks, sk, ck, hi, rfl, rfl, hck, HLk, HK, HCh⟩ := hrel
    clear HK0 Hb1
    by_cases hlt : i < N
    · have d1 : decide ((i : Int) < (N : Int)) = true := by simp; omega
      have d1n : decide (i < N) = true := by simp; omega
      have i0 : (0 : Int) ≤ (i : Int) := by omega
      have i1 : (i : Int) < (N : Int) := by omega
      have HXr := hide ((unhide HX).below (unhide HK).below)
      obtain ⟨vi, hvi⟩ : ∃ vi, vs[i]? = some vi := ⟨_, List.getElem?_eq_getElem (by have := unhide HN; omega)⟩
      obtain ⟨bi, hbi⟩ : ∃ bi, bs[i]? = some bi := ⟨_, List.getElem?_eq_getElem (by have := unhide HN; have := unhide HL; omega)⟩
      obtain ⟨hby, hbl⟩ := unhide HBS i vi bi hvi hbi
      have Hby := hide hby
      obtain ⟨s1, c1, rfl, hc1, _, _⟩ := bytes_open hby
      obtain ⟨L, hL⟩ : ∃ L, bi.length = L := ⟨_, rfl⟩
      have HLb := hide hL
      rw [hL] at hvi hbl hc1 Hby
      obtain ⟨ba, oa, cc, hsp, _, _, hcell⟩ := (unhide HXr).cell (fun e => by have := unhide HN; rw [e] at this; simp at this; omega)
      have ci := hcell i (by have := unhide HN; omega)
      rw [List.getD_eq_getElem?_getD, hvi, Option.getD_some] at ci
      simp only [Value.slice.injEq] at hsp
      obtain ⟨rfl, hz1, rfl⟩ := hsp
      clear hz1 hcell hby hL hvi hbi HXr
      by_cases g100 : 100 < L
      · have f1 : decide ((100 : Int) < (L : Int)) = true := by simp; omega
        have f1n : decide (100 < L) = true := by simp; omega
        go_wp2
        go_ret
        exact ⟨rfl, (unhide HK).below⟩
      have f1 : decide ((100 : Int) < (L : Int)) = false := by simp; omega
      have f1n : decide (100 < L) = false := by simp; omega
      go_wp2
      clear ci d1 d1n f1 f1n
      go_loopw [6] (fun jj wr => ∃ j : Nat, j ≤ i ∧ jj = .int .i64 (j : Int) ∧ Hid (KRow w0 wr (.slice sk i ck) ks) ∧ Hid (∀ k ∈ (ks.map (·.2)).take j, befP k bi = true)) (fun jj _ => i - (intOf jj).toNat)
      case atStart => exact ⟨0, by omega, rfl, HK, by show ∀ _, _; simp⟩
      case round =>
        obtain ⟨j, hj, rfl, HK2, HBf⟩ := hrel
        by_cases hji : j < i
        case neg =>
          have p1 : decide ((j : Int) < (i : Int)) = false := by simp; omega
          have p1n : decide (j < i) = false := by simp; omega
          go_wp2
          go_big_quiet (fail)
          have HLast : Hid (∀ k, (ks.map (·.2))[j]? = some k → befP k bi = false) := fun k hk => by have h1 := (List.getElem?_eq_some_iff.1 hk).1; rw [List.length_map, unhide HLk] at h1; omega
          obtain ⟨W, hW⟩ : ∃ W, wr.drewN nq = W := ⟨_, rfl⟩
          have HK3 : Hid (KRow w0 W (.slice sk i ck) ks) := by rw [← hW]; exact krow_drewN (unhide HK2) nq
          rw [hW]
          have fr := fun w => front5 (sk) i ck j (by omega) w
          have rs := fun w => rest5 (sk) i ck j (by omega) w
          have HTr : Hid (∀ w, Below W.heap.size W w → Takes w (.slice (cut5 (sk) ck j) (i - j) (ck - j)) (i - j) ((ks.drop j).flatMap fun k => leafC k.1)) := fun w hb => ((unhide HK3).later hb).rest (unhide HLk) (by omega) j (by omega)
          have HTf : Hid (∀ w, Below W.heap.size W w → Takes w (.slice (sk) j ck) j ((ks.take j).flatMap fun k => leafC k.1)) := fun w hb => ((unhide HK3).later hb).front (unhide HLk) j (by omega)
          obtain ⟨sr, hsr⟩ : ∃ sr, cut5 (sk) ck j = sr := ⟨_, rfl⟩
          obtain ⟨M, hM⟩ : ∃ M, i - j = M := ⟨_, rfl⟩
          obtain ⟨cM, hcM⟩ : ∃ cM, ck - j = cM := ⟨_, rfl⟩
          rw [hsr, hM, hcM] at rs HTr
          have HM : Hid (j + 1 + M = i + 1 ∧ j + 1 + M ≤ 30 ∧ i < 20) := ⟨by omega, by omega, by omega⟩
          have HNew : Hid (∀ w v, OwnD 26 w W.heap.size v (i + 1) ((ks.take j).flatMap (fun k => leafC k.1) ++ leafC (.slice s1 L c1) ++ (ks.drop j).flatMap (fun k => leafC k.1)) → Below W.heap.size W w → KRow w0 w v (ks.take j ++ (.slice s1 L c1, bi) :: ks.drop j)) := fun w v ho hb => krow_ins (unhide HK3) ho hb (unhide HLk) (by omega) (unhide Hby) (by have := unhide HLb; omega)
          have HCn : Hid (chainP ((ks.take j ++ (Value.slice s1 L c1, bi) :: ks.drop j).map (·.2)) = true) := by
            show _ = _
            rw [List.map_append, List.map_cons, List.map_take, List.map_drop, ← ins_at bi _ j (unhide HBf) (unhide HLast)]
            exact chain_ins bi _ (unhide HCh)
          have HLn : Hid ((ks.take j ++ (Value.slice s1 L c1, bi) :: ks.drop j).length = i + 1) := by
            show _ = _
            have := unhide HLk
            rw [List.length_append, List.length_cons, List.length_take, List.length_drop]
            omega
          have OW3 := hide (own_empty W)
          have OW2 := hide (own_empty2 W (.slice s1 L c1) rfl)
          have OW1 := hide (own_empty1 W (.slice s1 L c1) rfl)
          clear hW hsr hM hcM HK2
          unfold leafC dcells at OW1 OW2
          go_wp2
          go_region_law (first
            | (refine step_append_many Edv rfl _ _ rfl W.heap.size _ 0 [] ((ks.take j).flatMap fun k => leafC k.1) (by simp [Act.eval]) (unhide OW3).1 (.slice (sk) j ck) j (by simp [Act.eval]) (unhide HTf _ (unhide OW3).2).src (unhide HTf _ (unhide OW3).2).lies (unhide OW3).2.size (by have := (unhide HM).2; omega) ?_
               intro v1 w2 hown1 hg1 hor1
               have hB := (unhide OW3).2.grown hg1 (unhide OW3).2.size (fun g e => ((unhide OW3).1.block g e).1)
               have HB := hide (hB.alloc hB.size (.cells (leafC (.slice s1 L c1)).toArray 26))
               have HT := hide (takes_leaf w2 (.slice s1 L c1) rfl)
               have HO := hide (hown1.below ((Below.refl w2.heap.size w2).alloc (Nat.le_refl _) (.cells (leafC (.slice s1 L c1)).toArray 26)))
               unfold leafC dcells at HB HT HO
               rw [Nat.zero_add, List.nil_append] at HO
               clear hown1 hg1 hor1 hB OW1 OW2 OW3)
            | (refine step_append_many Edv rfl _ _ rfl W.heap.size _ 0 [] ((ks.take j).flatMap fun k => leafC k.1) (by simp [Act.eval]) (unhide OW2).1 (.slice (sk) j ck) j (by simp [Act.eval]) (unhide HTf _ (unhide OW2).2.1).src (unhide HTf _ (unhide OW2).2.1).lies (unhide OW2).2.1.size (by have := (unhide HM).2; omega) ?_
               intro v1 w2 hown1 hg1 hor1
               have HB := hide ((unhide OW2).2.1.grown hg1 (unhide OW2).2.1.size (fun g e => ((unhide OW2).1.block g e).1))
               have HT := hide (takes_kept (unhide OW2).2.2 (by omega) hg1 (by simp [Value.ownBlock]))
               have HO := hide hown1
               rw [Nat.zero_add, List.nil_append] at HO
               clear hown1 hg1 hor1 OW1 OW2 OW3)
            | (refine step_append_many Edv rfl _ _ rfl W.heap.size _ 0 [] ((ks.take j).flatMap fun k => leafC k.1) (by simp [Act.eval]) (unhide OW1).1 (.slice (sk) j ck) j (by simp [Act.eval]) (unhide HTf _ (unhide OW1).2.1).src (unhide HTf _ (unhide OW1).2.1).lies (unhide OW1).2.1.size (by have := (unhide HM).2; omega) ?_
               intro v1 w2 hown1 hg1 hor1
               have HB := hide ((unhide OW1).2.1.grown hg1 (unhide OW1).2.1.size (fun g e => ((unhide OW1).1.block g e).1))
               have HT := hide (takes_kept (unhide OW1).2.2 (by omega) hg1 (by simp [Value.ownBlock]))
               have HO := hide hown1
               rw [Nat.zero_add, List.nil_append] at HO
               clear hown1 hg1 hor1 OW1 OW2 OW3)
            | (refine step_append_many Edv rfl _ _ rfl W.heap.size _ j _ (leafC (.slice s1 L c1)) (by simp [Act.eval]) (unhide HO) _ 1 (by simp [Act.eval]) (unhide HT).src (unhide HT).lies (unhide HB).size (by have := (unhide HM).2; omega) ?_
               intro v2 w3 hown2 hg2 hor2
               have HB2 := hide ((unhide HB).grown hg2 (unhide HB).size (fun g e => ((unhide HO).block g e).1))
               have HT2 := hide (unhide HTr _ (unhide HB2))
               have HO2 := hide hown2
               clear hown2 hg2 hor2 HO HT HB)
            | (refine step_append_many Edv rfl _ _ rfl W.heap.size _ (j + 1) _ ((ks.drop j).flatMap fun k => leafC k.1) (by simp [Act.eval]) (unhide HO2) _ M (by simp [Act.eval]) (unhide HT2).src (unhide HT2).lies (unhide HB2).size (by have := (unhide HM).2; omega) ?_
               intro v3 w4 hown3 hg3 hor3
               have HB3 := hide ((unhide HB2).grown hg3 (unhide HB2).size (fun g e => ((unhide HO2).block g e).1))
               rw [(unhide HM).1] at hown3
               obtain ⟨s3, c3, rfl, hc3, _⟩ := hown3.form
               have HK4 := hide (unhide HNew _ _ hown3 (unhide HB3))
               clear hown3 hg3 hor3 HO2 HT2 HB2 HB3))
          all_goals
            go_wp2
            go_roundw
            case measure => simp [intOf]; omega
            case rel =>
              first
                | exact ⟨i + 1, _, s3, c3, by omega, by go_num, rfl, hc3, HLn, HK4, HCn⟩
                | ((repeat apply Exists.intro); exact ⟨⟨i + 1, _, s3, c3, by omega, by go_num, rfl, hc3, HLn, HK4, HCn⟩, rfl⟩)
        have p1 : decide ((j : Int) < (i : Int)) = true := by simp; omega
        have p1n : decide (j < i) = true := by simp; omega
        have j0 : (0 : Int) ≤ (j : Int) := by omega
        have j1 : (j : Int) < (i : Int) := by omega
        obtain ⟨⟨vj, bj⟩, hkj⟩ : ∃ kj, ks[j]? = some kj := ⟨_, List.getElem?_eq_getElem (by have := unhide HLk; omega)⟩
        obtain ⟨g, c', hv, hg1, hg2, _, hcj⟩ := (unhide HK2).cells hkj
        simp only [Value.slice.injEq] at hv
        obtain ⟨rfl, hz2, rfl⟩ := hv
        clear hz2
        obtain ⟨hbj, hfj⟩ := (unhide HK2).holds hkj
        simp only at hcj hbj hfj
        obtain ⟨s2, c2, rfl, hc2, _, _⟩ := bytes_open hbj
        have hbi2 := (unhide Hby).below (unhide HK2).below
        have S1q : ∀ n, (convert 23 9 (.slice s2 bj.length c2)).run Tryd.prog (wr.drewN n) = .ok (.string (strOf bj)) (wr.drewN n) := fun n => str_of ((krow_drewN (unhide HK2) n).holds hkj).1
        have S2q : ∀ n, (convert 23 9 (.slice s1 L c1)).run Tryd.prog (wr.drewN n) = .ok (.string (strOf bi)) (wr.drewN n) := fun n => str_of ((unhide Hby).below (krow_drewN (unhide HK2) n).below)
        have cj : wr.cell? ⟨g, j * 5 + 3, none⟩ = some (.slice s2 bj.length c2) := hcj 3 _ rfl
        obtain ⟨L2, hL2⟩ : ∃ L2, bj.length = L2 := ⟨_, rfl⟩
        rw [hL2] at cj S1q hc2 hfj
        have HL2 := hide hL2
        have HBf2 : Hid (befP bj bi = true → ∀ k ∈ (ks.map (·.2)).take (j + 1), befP k bi = true) := fun h k hk => by
          rw [List.take_add_one, List.getElem?_map, hkj] at hk
          simp only [Option.map_some, Option.toList_some, List.mem_append, List.mem_singleton] at hk
          rcases hk with hk | rfl
          · exact unhide HBf k hk
          · exact h
        have Hkj := hide hkj
        have e1 := toList_strOf bj
        have e2 := toList_strOf bi
        obtain ⟨S1, hS1⟩ : ∃ S1, strOf bj = S1 := ⟨_, rfl⟩
        obtain ⟨S2, hS2⟩ : ∃ S2, strOf bi = S2 := ⟨_, rfl⟩
        rw [hS1] at S1q e1
        rw [hS2] at S2q e2
        have Hle : Hid (Op.bytesLess S1.toList S2.toList = lessP bj bi ∧ (S1.toList == S2.toList) = decide (bj = bi)) := by
          rw [e1, e2]
          exact ⟨bytesLess_eq _ _, by rw [Bool.eq_iff_iff]; simp⟩
        clear hS1 hS2 e1 e2 hL2 hkj hcj hbj hbi2
        by_cases hl1 : L2 < L
        · have HB1 : Hid (befP bj bi = true) := bef_iff.2 (Or.inl (by rw [unhide HL2, unhide HLb]; exact hl1))
          have p2 : decide ((L2 : Int) < (L : Int)) = true := by simp; omega
          have p2n : decide (L2 < L) = true := by simp; omega
          clear S1q S2q
          go_wp2
          go_big_quiet (fail)
          have HK3 := hide (krow_drewN (unhide HK2) nq)
          go_wp2
          go_roundw
          case measure => simp [intOf]; omega
          case rel =>
            first
              | exact ⟨j + 1, by omega, by go_num, HK3, unhide HBf2 (unhide HB1)⟩
              | ((repeat apply Exists.intro); exact ⟨⟨j + 1, by omega, by go_num, HK3, unhide HBf2 (unhide HB1)⟩, rfl⟩)
        have p2 : decide ((L2 : Int) < (L : Int)) = false := by simp; omega
        have p2n : decide (L2 < L) = false := by simp; omega
        by_cases hl2 : L2 = L
        case neg =>
          have HB1 : Hid (befP bj bi = false) := by show _ = _; rw [Bool.eq_false_iff]; intro h; rcases bef_iff.1 h with h | h <;> (rw [unhide HL2, unhide HLb] at h; omega)
          have p3 : ((L2 : Int) == (L : Int)) = false := by simp; omega
          clear S1q S2q
          go_wp2
          go_big_quiet (fail)
          have HLast : Hid (∀ k, (ks.map (·.2))[j]? = some k → befP k bi = false) := fun k hk => by rw [List.getElem?_map, unhide Hkj] at hk; simp only [Option.map_some, Option.some.injEq] at hk; rw [← hk]; exact unhide HB1
          obtain ⟨W, hW⟩ : ∃ W, wr.drewN nq = W := ⟨_, rfl⟩
          have HK3 : Hid (KRow w0 W (.slice (some ⟨g, 0, none⟩) i ck) ks) := by rw [← hW]; exact krow_drewN (unhide HK2) nq
          rw [hW]
          have fr := fun w => front5 (some ⟨g, 0, none⟩) i ck j (by omega) w
          have rs := fun w => rest5 (some ⟨g, 0, none⟩) i ck j (by omega) w
          have HTr : Hid (∀ w, Below W.heap.size W w → Takes w (.slice (cut5 (some ⟨g, 0, none⟩) ck j) (i - j) (ck - j)) (i - j) ((ks.drop j).flatMap fun k => leafC k.1)) := fun w hb => ((unhide HK3).later hb).rest (unhide HLk) (by omega) j (by omega)
          have HTf : Hid (∀ w, Below W.heap.size W w → Takes w (.slice (some ⟨g, 0, none⟩) j ck) j ((ks.take j).flatMap fun k => leafC k.1)) := fun w hb => ((unhide HK3).later hb).front (unhide HLk) j (by omega)
          obtain ⟨sr, hsr⟩ : ∃ sr, cut5 (some ⟨g, 0, none⟩) ck j = sr := ⟨_, rfl⟩
          obtain ⟨M, hM⟩ : ∃ M, i - j = M := ⟨_, rfl⟩
          obtain ⟨cM, hcM⟩ : ∃ cM, ck - j = cM := ⟨_, rfl⟩
          rw [hsr, hM, hcM] at rs HTr
          have HM : Hid (j + 1 + M = i + 1 ∧ j + 1 + M ≤ 30 ∧ i < 20) := ⟨by omega, by omega, by omega⟩
          have HNew : Hid (∀ w v, OwnD 26 w W.heap.size v (i + 1) ((ks.take j).flatMap (fun k => leafC k.1) ++ leafC (.slice s1 L c1) ++ (ks.drop j).flatMap (fun k => leafC k.1)) → Below W.heap.size W w → KRow w0 w v (ks.take j ++ (.slice s1 L c1, bi) :: ks.drop j)) := fun w v ho hb => krow_ins (unhide HK3) ho hb (unhide HLk) (by omega) (unhide Hby) (by have := unhide HLb; omega)
          have HCn : Hid (chainP ((ks.take j ++ (Value.slice s1 L c1, bi) :: ks.drop j).map (·.2)) = true) := by
            show _ = _
            rw [List.map_append, List.map_cons, List.map_take, List.map_drop, ← ins_at bi _ j (unhide HBf) (unhide HLast)]
            exact chain_ins bi _ (unhide HCh)
          have HLn : Hid ((ks.take j ++ (Value.slice s1 L c1, bi) :: ks.drop j).length = i + 1) := by
            show _ = _
            have := unhide HLk
            rw [List.length_append, List.length_cons, List.length_take, List.length_drop]
            omega
          have OW3 := hide (own_empty W)
          have OW2 := hide (own_empty2 W (.slice s1 L c1) rfl)
          have OW1 := hide (own_empty1 W (.slice s1 L c1) rfl)
          clear hW hsr hM hcM HK2
          unfold leafC dcells at OW1 OW2
          go_wp2
          go_region_law (first
            | (refine step_append_many Edv rfl _ _ rfl W.heap.size _ 0 [] ((ks.take j).flatMap fun k => leafC k.1) (by simp [Act.eval]) (unhide OW3).1 (.slice (some ⟨g, 0, none⟩) j ck) j (by simp [Act.eval]) (unhide HTf _ (unhide OW3).2).src (unhide HTf _ (unhide OW3).2).lies (unhide OW3).2.size (by have := (unhide HM).2; omega) ?_
               intro v1 w2 hown1 hg1 hor1
               have hB := (unhide OW3).2.grown hg1 (unhide OW3).2.size (fun g e => ((unhide OW3).1.block g e).1)
               have HB := hide (hB.alloc hB.size (.cells (leafC (.slice s1 L c1)).toArray 26))
               have HT := hide (takes_leaf w2 (.slice s1 L c1) rfl)
               have HO := hide (hown1.below ((Below.refl w2.heap.size w2).alloc (Nat.le_refl _) (.cells (leafC (.slice s1 L c1)).toArray 26)))
               unfold leafC dcells at HB HT HO
               rw [Nat.zero_add, List.nil_append] at HO
               clear hown1 hg1 hor1 hB OW1 OW2 OW3)
            | (refine step_append_many Edv rfl _ _ rfl W.heap.size _ 0 [] ((ks.take j).flatMap fun k => leafC k.1) (by simp [Act.eval]) (unhide OW2).1 (.slice (some ⟨g, 0, none⟩) j ck) j (by simp [Act.eval]) (unhide HTf _ (unhide OW2).2.1).src (unhide HTf _ (unhide OW2).2.1).lies (unhide OW2).2.1.size (by have := (unhide HM).2; omega) ?_
               intro v1 w2 hown1 hg1 hor1
               have HB := hide ((unhide OW2).2.1.grown hg1 (unhide OW2).2.1.size (fun g e => ((unhide OW2).1.block g e).1))
               have HT := hide (takes_kept (unhide OW2).2.2 (by omega) hg1 (by simp [Value.ownBlock]))
               have HO := hide hown1
               rw [Nat.zero_add, List.nil_append] at HO
               clear hown1 hg1 hor1 OW1 OW2 OW3)
            | (refine step_append_many Edv rfl _ _ rfl W.heap.size _ 0 [] ((ks.take j).flatMap fun k => leafC k.1) (by simp [Act.eval]) (unhide OW1).1 (.slice (some ⟨g, 0, none⟩) j ck) j (by simp [Act.eval]) (unhide HTf _ (unhide OW1).2.1).src (unhide HTf _ (unhide OW1).2.1).lies (unhide OW1).2.1.size (by have := (unhide HM).2; omega) ?_
               intro v1 w2 hown1 hg1 hor1
               have HB := hide ((unhide OW1).2.1.grown hg1 (unhide OW1).2.1.size (fun g e => ((unhide OW1).1.block g e).1))
               have HT := hide (takes_kept (unhide OW1).2.2 (by omega) hg1 (by simp [Value.ownBlock]))
               have HO := hide hown1
               rw [Nat.zero_add, List.nil_append] at HO
               clear hown1 hg1 hor1 OW1 OW2 OW3)
            | (refine step_append_many Edv rfl _ _ rfl W.heap.size _ j _ (leafC (.slice s1 L c1)) (by simp [Act.eval]) (unhide HO) _ 1 (by simp [Act.eval]) (unhide HT).src (unhide HT).lies (unhide HB).size (by have := (unhide HM).2; omega) ?_
               intro v2 w3 hown2 hg2 hor2
               have HB2 := hide ((unhide HB).grown hg2 (unhide HB).size (fun g e => ((unhide HO).block g e).1))
               have HT2 := hide (unhide HTr _ (unhide HB2))
               have HO2 := hide hown2
               clear hown2 hg2 hor2 HO HT HB)
            | (refine step_append_many Edv rfl _ _ rfl W.heap.size _ (j + 1) _ ((ks.drop j).flatMap fun k => leafC k.1) (by simp [Act.eval]) (unhide HO2) _ M (by simp [Act.eval]) (unhide HT2).src (unhide HT2).lies (unhide HB2).size (by have := (unhide HM).2; omega) ?_
               intro v3 w4 hown3 hg3 hor3
               have HB3 := hide ((unhide HB2).grown hg3 (unhide HB2).size (fun g e => ((unhide HO2).block g e).1))
               rw [(unhide HM).1] at hown3
               obtain ⟨s3, c3, rfl, hc3, _⟩ := hown3.form
               have HK4 := hide (unhide HNew _ _ hown3 (unhide HB3))
               clear hown3 hg3 hor3 HO2 HT2 HB2 HB3))
          all_goals
            go_wp2
            go_roundw
            case measure => simp [intOf]; omega
            case rel =>
              first
                | exact ⟨i + 1, _, s3, c3, by omega, by go_num, rfl, hc3, HLn, HK4, HCn⟩
                | ((repeat apply Exists.intro); exact ⟨⟨i + 1, _, s3, c3, by omega, by go_num, rfl, hc3, HLn, HK4, HCn⟩, rfl⟩)
        subst hl2
        have p3 : ((L2 : Int) == (L2 : Int)) = true := by simp
        rcases hq : lessP bj bi with _ | _
        case true =>
          have HB1 : Hid (befP bj bi = true) := bef_iff.2 (Or.inr ⟨by rw [unhide HL2, unhide HLb], less_asymm _ _ hq⟩)
          have q1 : Op.bytesLess S1.toList S2.toList = true := by rw [(unhide Hle).1]; exact hq
          go_wp2
          go_big_quiet (fail)
          have HK3 := hide (krow_drewN (unhide HK2) nq)
          go_wp2
          go_roundw
          case measure => simp [intOf]; omega
          case rel =>
            first
              | exact ⟨j + 1, by omega, by go_num, HK3, unhide HBf2 (unhide HB1)⟩
              | ((repeat apply Exists.intro); exact ⟨⟨j + 1, by omega, by go_num, HK3, unhide HBf2 (unhide HB1)⟩, rfl⟩)
        rcases hq2 : lessP bi bj with _ | _
        case false =>
          have HB1 : Hid (befP bj bi = true) := bef_iff.2 (Or.inr ⟨by rw [unhide HL2, unhide HLb], hq2⟩)
          have q1 : Op.bytesLess S1.toList S2.toList = false := by rw [(unhide Hle).1]; exact hq
          have q2 : (S1.toList == S2.toList) = true := by rw [(unhide Hle).2]; exact decide_eq_true (less_eq _ _ hq hq2)
          go_wp2
          go_big_quiet (fail)
          have HK3 := hide (krow_drewN (unhide HK2) nq)
          go_wp2
          go_roundw
          case measure => simp [intOf]; omega
          case rel =>
            first
              | exact ⟨j + 1, by omega, by go_num, HK3, unhide HBf2 (unhide HB1)⟩
              | ((repeat apply Exists.intro); exact ⟨⟨j + 1, by omega, by go_num, HK3, unhide HBf2 (unhide HB1)⟩, rfl⟩)
        have HB1 : Hid (befP bj bi = false) := by show _ = _; rw [Bool.eq_false_iff]; intro h; rcases bef_iff.1 h with h | h <;> (try rw [unhide HL2, unhide HLb] at h) <;> first | omega | (rw [hq2] at h; simp at h)
        have q1 : Op.bytesLess S1.toList S2.toList = false := by rw [(unhide Hle).1]; exact hq
        have q2 : (S1.toList == S2.toList) = false := by rw [(unhide Hle).2]; exact decide_eq_false (fun e => by rw [e, less_self] at hq2; cases hq2)
        go_wp2
        go_big_quiet (fail)
        have HLast : Hid (∀ k, (ks.map (·.2))[j]? = some k → befP k bi = false) := fun k hk => by rw [List.getElem?_map, unhide Hkj] at hk; simp only [Option.map_some, Option.some.injEq] at hk; rw [← hk]; exact unhide HB1
        obtain ⟨W, hW⟩ : ∃ W, wr.drewN nq = W := ⟨_, rfl⟩
        have HK3 : Hid (KRow w0 W (.slice (some ⟨g, 0, none⟩) i ck) ks) := by rw [← hW]; exact krow_drewN (unhide HK2) nq
        rw [hW]
        have fr := fun w => front5 (some ⟨g, 0, none⟩) i ck j (by omega) w
        have rs := fun w => rest5 (some ⟨g, 0, none⟩) i ck j (by omega) w
        have HTr : Hid (∀ w, Below W.heap.size W w → Takes w (.slice (cut5 (some ⟨g, 0, none⟩) ck j) (i - j) (ck - j)) (i - j) ((ks.drop j).flatMap fun k => leafC k.1)) := fun w hb => ((unhide HK3).later hb).rest (unhide HLk) (by omega) j (by omega)
        have HTf : Hid (∀ w, Below W.heap.size W w → Takes w (.slice (some ⟨g, 0, none⟩) j ck) j ((ks.take j).flatMap fun k => leafC k.1)) := fun w hb => ((unhide HK3).later hb).front (unhide HLk) j (by omega)
        obtain ⟨sr, hsr⟩ : ∃ sr, cut5 (some ⟨g, 0, none⟩) ck j = sr := ⟨_, rfl⟩
        obtain ⟨M, hM⟩ : ∃ M, i - j = M := ⟨_, rfl⟩
        obtain ⟨cM, hcM⟩ : ∃ cM, ck - j = cM := ⟨_, rfl⟩
        rw [hsr, hM, hcM] at rs HTr
        have HM : Hid (j + 1 + M = i + 1 ∧ j + 1 + M ≤ 30 ∧ i < 20) := ⟨by omega, by omega, by omega⟩
        have HNew : Hid (∀ w v, OwnD 26 w W.heap.size v (i + 1) ((ks.take j).flatMap (fun k => leafC k.1) ++ leafC (.slice s1 L2 c1) ++ (ks.drop j).flatMap (fun k => leafC k.1)) → Below W.heap.size W w → KRow w0 w v (ks.take j ++ (.slice s1 L2 c1, bi) :: ks.drop j)) := fun w v ho hb => krow_ins (unhide HK3) ho hb (unhide HLk) (by omega) (unhide Hby) (by have := unhide HLb; omega)
        have HCn : Hid (chainP ((ks.take j ++ (Value.slice s1 L2 c1, bi) :: ks.drop j).map (·.2)) = true) := by
          show _ = _
          rw [List.map_append, List.map_cons, List.map_take, List.map_drop, ← ins_at bi _ j (unhide HBf) (unhide HLast)]
          exact chain_ins bi _ (unhide HCh)
        have HLn : Hid ((ks.take j ++ (Value.slice s1 L2 c1, bi) :: ks.drop j).length = i + 1) := by
          show _ = _
          have := unhide HLk
          rw [List.length_append, List.length_cons, List.length_take, List.length_drop]
          omega
        have OW3 := hide (own_empty W)
        have OW2 := hide (own_empty2 W (.slice s1 L2 c1) rfl)
        have OW1 := hide (own_empty1 W (.slice s1 L2 c1) rfl)
        clear hW hsr hM hcM HK2
        unfold leafC dcells at OW1 OW2
        go_wp2
        go_region_law (first
          | (refine step_append_many Edv rfl _ _ rfl W.heap.size _ 0 [] ((ks.take j).flatMap fun k => leafC k.1) (by simp [Act.eval]) (unhide OW3).1 (.slice (some ⟨g, 0, none⟩) j ck) j (by simp [Act.eval]) (unhide HTf _ (unhide OW3).2).src (unhide HTf _ (unhide OW3).2).lies (unhide OW3).2.size (by have := (unhide HM).2; omega) ?_
             intro v1 w2 hown1 hg1 hor1
             have hB := (unhide OW3).2.grown hg1 (unhide OW3).2.size (fun g e => ((unhide OW3).1.block g e).1)
             have HB := hide (hB.alloc hB.size (.cells (leafC (.slice s1 L2 c1)).toArray 26))
             have HT := hide (takes_leaf w2 (.slice s1 L2 c1) rfl)
             have HO := hide (hown1.below ((Below.refl w2.heap.size w2).alloc (Nat.le_refl _) (.cells (leafC (.slice s1 L2 c1)).toArray 26)))
             unfold leafC dcells at HB HT HO
             rw [Nat.zero_add, List.nil_append] at HO
             clear hown1 hg1 hor1 hB OW1 OW2 OW3)
          | (refine step_append_many Edv rfl _ _ rfl W.heap.size _ 0 [] ((ks.take j).flatMap fun k => leafC k.1) (by simp [Act.eval]) (unhide OW2).1 (.slice (some ⟨g, 0, none⟩) j ck) j (by simp [Act.eval]) (unhide HTf _ (unhide OW2).2.1).src (unhide HTf _ (unhide OW2).2.1).lies (unhide OW2).2.1.size (by have := (unhide HM).2; omega) ?_
             intro v1 w2 hown1 hg1 hor1
             have HB := hide ((unhide OW2).2.1.grown hg1 (unhide OW2).2.1.size (fun g e => ((unhide OW2).1.block g e).1))
             have HT := hide (takes_kept (unhide OW2).2.2 (by omega) hg1 (by simp [Value.ownBlock]))
             have HO := hide hown1
             rw [Nat.zero_add, List.nil_append] at HO
             clear hown1 hg1 hor1 OW1 OW2 OW3)
          | (refine step_append_many Edv rfl _ _ rfl W.heap.size _ 0 [] ((ks.take j).flatMap fun k => leafC k.1) (by simp [Act.eval]) (unhide OW1).1 (.slice (some ⟨g, 0, none⟩) j ck) j (by simp [Act.eval]) (unhide HTf _ (unhide OW1).2.1).src (unhide HTf _ (unhide OW1).2.1).lies (unhide OW1).2.1.size (by have := (unhide HM).2; omega) ?_
             intro v1 w2 hown1 hg1 hor1
             have HB := hide ((unhide OW1).2.1.grown hg1 (unhide OW1).2.1.size (fun g e => ((unhide OW1).1.block g e).1))
             have HT := hide (takes_kept (unhide OW1).2.2 (by omega) hg1 (by simp [Value.ownBlock]))
             have HO := hide hown1
             rw [Nat.zero_add, List.nil_append] at HO
             clear hown1 hg1 hor1 OW1 OW2 OW3)
          | (refine step_append_many Edv rfl _ _ rfl W.heap.size _ j _ (leafC (.slice s1 L2 c1)) (by simp [Act.eval]) (unhide HO) _ 1 (by simp [Act.eval]) (unhide HT).src (unhide HT).lies (unhide HB).size (by have := (unhide HM).2; omega) ?_
             intro v2 w3 hown2 hg2 hor2
             have HB2 := hide ((unhide HB).grown hg2 (unhide HB).size (fun g e => ((unhide HO).block g e).1))
             have HT2 := hide (unhide HTr _ (unhide HB2))
             have HO2 := hide hown2
             clear hown2 hg2 hor2 HO HT HB)
          | (refine step_append_many Edv rfl _ _ rfl W.heap.size _ (j + 1) _ ((ks.drop j).flatMap fun k => leafC k.1) (by simp [Act.eval]) (unhide HO2) _ M (by simp [Act.eval]) (unhide HT2).src (unhide HT2).lies (unhide HB2).size (by have := (unhide HM).2; omega) ?_
             intro v3 w4 hown3 hg3 hor3
             have HB3 := hide ((unhide HB2).grown hg3 (unhide HB2).size (fun g e => ((unhide HO2).block g e).1))
             rw [(unhide HM).1] at hown3
             obtain ⟨s3, c3, rfl, hc3, _⟩ := hown3.form
             have HK4 := hide (unhide HNew _ _ hown3 (unhide HB3))
             clear hown3 hg3 hor3 HO2 HT2 HB2 HB3))
        all_goals
          go_wp2
          go_roundw
          case measure => simp [intOf]; omega
          case rel =>
            first
              | exact ⟨i + 1, _, s3, c3, by omega, by go_num, rfl, hc3, HLn, HK4, HCn⟩
              | ((repeat apply Exists.intro); exact ⟨⟨i + 1, _, s3, c3, by omega, by go_num, rfl, hc3, HLn, HK4, HCn⟩, rfl⟩)
    · obtain rfl : i = N := by omega
      have d1 : decide ((i : Int) < (i : Int)) = false := by simp
      have d1n : decide (i < i) = false := by simp
      have hl20 : ks.length ≤ 20 := by have := unhide HLk; omega
      obtain ⟨B, hB, hBl⟩ := (set_made (t := 17) (Or.inr rfl) hl20 (unhide HK).few).2 (fun h => by rw [unhide HCh] at h; simp at h)
      have hw := (unhide HC).write wr (fun _ => True) _ (setV 17 ks) (unhide HR wr (unhide HK).below) ((unhide HK).val (by omega) 17) (set_weight 17 hl20 (unhide HK).few)
      rw [hB] at hw
      simp only [errOf, bytesOf, dcells] at hw
      have Hw := hide hw
      have HB := hide hB
      clear hw hB hl20 hlt
      go_wp2_with fail
      refine (unhide Hw).mono ?_
      rintro e w2 ⟨x2, rfl, hox, hb2⟩
      have HK2 := hide ((unhide HK).later hb2)
      have hr := (unhide HC).read w2 x2 B (unhide HR w2 (unhide HK2).below) hox.bytes (by omega)
      rw [read_written (unhide HB)] at hr
      simp only [errOf, valOf] at hr
      obtain ⟨sx, cx, rfl, _, _, _⟩ := bytes_open hox.bytes
      obtain ⟨BL, hBL⟩ : ∃ BL, B.length = BL := ⟨_, rfl⟩
      rw [hBL] at hr
      simp only [hBL]
      have Hr := hide hr
      clear hr hox hb2 Hw HK hBL hBl
      go_wp2_with fail
      refine (unhide Hr).mono ?_
      rintro e w3 ⟨cs, rfl, hv3, hb3⟩
      have HK3 := hide ((unhide HK2).later hb3)
      obtain ⟨nv3, hv3⟩ := hv3
      obtain ⟨r1, q1, r2, q2, rfl⟩ := hv3.form
      have hz : dcells (setV 17 ks).cls (setV 17 ks).tag (setV 17 ks).made (.slice r1 (setV 17 ks).bytes.length q1) (.slice r2 (setV 17 ks).kids.length q2) = [.int .i64 0, .int .i64 17, .bool true, .slice r1 0 q1, .slice r2 i q2] := by
        simp only [dcells, setV, DV.cls, DV.tag, DV.made, DV.bytes, DV.kids, List.length_map, List.length_nil, unhide HLk]
      rw [hz]
      obtain ⟨A3, hA3⟩ : ∃ A3, w3.heap.size = A3 := ⟨_, rfl⟩
      clear hz hv3 hb3 Hr HK2 HB
      go_upto_region 20 with fail
      obtain ⟨w4, hw4⟩ : ∃ w4, w3.alloc (.cells #[.int .i64 0, .int .i64 17, .bool true, .slice r1 0 q1, .slice r2 i q2] 26) = w4 := ⟨_, rfl⟩
      have HK4 : Hid (KRow w0 w4 (.slice sk i ck) ks) := by rw [← hw4]; exact (unhide HK3).later ((Below.refl _ _).alloc (Nat.le_refl _) _)
      rw [hw4]
      clear hw4 HK3 hA3
      obtain ⟨w5, hmk, hown5, hb5⟩ := made_row w4 i (by omega)
      obtain ⟨A4, hA4⟩ : ∃ A4, w4.heap.size = A4 := ⟨_, rfl⟩
      rw [hA4] at hmk hown5
      have HO5 := hide hown5
      have HB5 := hide hb5
      have HA4 := hide hA4
      clear hown5 hb5 hA4
      go_wp2
      clear hmk
      go_loopw [11, 12] (fun tv zv wr => ∃ (m : Nat) (z : Int) (st : Option Addr) (ct : Nat), m ≤ i ∧ zv = .int .i64 z ∧ z = (i : Int) - 1 - m ∧ tv = .slice st m ct ∧ Hid (OwnD 26 wr w4.heap.size (.slice st m ct) m ((ks.reverse.take m).flatMap fun k => leafC k.1)) ∧ Hid (Below w4.heap.size w4 wr)) (fun _ zv _ => (intOf zv + 1).toNat)
      case atStart => exact ⟨0, _, _, _, by omega, by go_num, by omega, rfl, by rw [List.take_zero, List.flatMap_nil, unhide HA4]; exact HO5, HB5⟩
      case round =>
        obtain ⟨m, z, st, ct, hm2, rfl, hz, rfl, HO, HBw⟩ := hrel
        clear HO5 HB5
        by_cases hmi : m < i
        · obtain ⟨P, rfl⟩ : ∃ P : Nat, z = (P : Int) := ⟨z.toNat, by omega⟩
          have hP : P + 1 + m = i := by omega
          have t0 : decide ((0 : Int) ≤ (P : Int)) = true := by simp
          have P0 : (0 : Int) ≤ (P : Int) := by omega
          have P1 : (P : Int) < (i : Int) := by omega
          have HKr := hide ((unhide HK4).later (unhide HBw))
          obtain ⟨⟨vk, bk⟩, hk⟩ : ∃ kj, ks[P]? = some kj := ⟨_, List.getElem?_eq_getElem (by have := unhide HLk; omega)⟩
          obtain ⟨g, c', hv, hg1, hg2, _, hcj⟩ := (unhide HKr).cells hk
          simp only [Value.slice.injEq] at hv
          obtain ⟨rfl, hz2, rfl⟩ := hv
          obtain ⟨hbj, hfj⟩ := (unhide HKr).holds hk
          simp only at hcj hbj hfj
          obtain ⟨s2, c2, rfl, hc2, _, _⟩ := bytes_open hbj
          have hst := rev_step (unhide HLk) hP hk
          simp only at hst
          obtain ⟨L2, hL2⟩ : ∃ L2, bk.length = L2 := ⟨_, rfl⟩
          rw [hL2] at hcj hst
          have y0 : wr.cell? ⟨g, P * 5, none⟩ = some (.int .i64 0) := hcj 0 _ rfl
          have y1 : wr.cell? ⟨g, P * 5 + 1, none⟩ = some (.int .i64 4) := hcj 1 _ rfl
          have y2 : wr.cell? ⟨g, P * 5 + 2, none⟩ = some (.bool false) := hcj 2 _ rfl
          have y3 : wr.cell? ⟨g, P * 5 + 3, none⟩ = some (.slice s2 L2 c2) := hcj 3 _ rfl
          have y4 : wr.cell? ⟨g, P * 5 + 4, none⟩ = some (.slice none 0 0) := hcj 4 _ rfl
          have hBa := (unhide HBw).alloc (unhide HBw).size (.cells (leafC (.slice s2 L2 c2)).toArray 26)
          have HOa := hide ((unhide HO).below ((Below.refl wr.heap.size wr).alloc (Nat.le_refl _) (.cells (leafC (.slice s2 L2 c2)).toArray 26)))
          have HBa := hide hBa
          have Hst := hide hst
          have H1c := hide (leafC_one (x := .slice s2 L2 c2) rfl)
          have HCn := hide (cells_new wr (leafC (.slice s2 L2 c2)) 26)
          unfold leafC dcells at HOa HBa H1c HCn
          have Hm20 : Hid (m ≤ 1073741824) := by show _ ≤ _; omega
          have HP := hide hP
          clear hz hP hz2 hcj hbj hfj hc2 hst hL2 hBa hk hg1 hg2
          go_upto_region 23 with (at_builtin; refine K.wpList_append_five K.Edv rfl _ _ rfl w4.heap.size (.slice st m ct) m _ [.int .i64 0, .int .i64 4, .bool false, .slice s2 L2 c2, .slice none 0 0] rfl (unhide HOa) wr.heap.size 0 1 rfl rfl (unhide HCn) (unhide H1c) (unhide HBa).size (unhide Hm20) ?_
                                  intro v9 w9 hown9 hg9 hor9
                                  obtain ⟨s9, c9, rfl, _, _⟩ := hown9.form
                                  have HB9 := hide ((unhide HBa).grown hg9 (unhide HBa).size (fun g' e => ((unhide HOa).block g' e).1))
                                  have HO9 := hide hown9
                                  clear hown9 hg9 hor9)
          have HO10 : Hid (OwnD 26 w9 w4.heap.size (.slice s9 (m + 1) c9) (m + 1) ((ks.reverse.take (m + 1)).flatMap fun k => leafC k.1)) := by rw [unhide Hst]; exact HO9
          clear HO9 HOa HBa H1c HCn y0 y1 y2 y3 y4
          go_wp2
          go_roundw
          case measure => first | (simp [intOf]; done) | (simp [intOf]; omega)
          case rel =>
            first
              | exact ⟨m + 1, _, s9, c9, by omega, rfl, by have := unhide HP; omega, rfl, HO10, HB9⟩
              | exact ⟨⟨m + 1, _, s9, c9, by omega, rfl, by have := unhide HP; omega, rfl, HO10, HB9⟩, rfl⟩
              | exact ⟨m + 1, _, s9, c9, by omega, by go_num, by have := unhide HP; omega, rfl, HO10, HB9⟩
        · obtain rfl : m = i := by omega
          obtain rfl : z = -1 := by omega
          have HKt := hide (krow_rev (unhide HK4) (unhide HLk) (unhide HO) (unhide HBw))
          have HKr := hide ((unhide HK4).later (unhide HBw))
          clear HO hm2 hz hmi
          go_upto_region 25 with fail
          have hl20 : ks.length ≤ 20 := by have := unhide HLk; omega
          have Halike := hide (chain_alike (unhide HCh))
          have HW16 := hide ((set_made (t := 16) (Or.inl rfl) (ks := ks.reverse) (by rw [List.length_reverse]; exact hl20) (unhide HKt).few).2 (fun h => by omega))
          have HW17 := hide (set_made (t := 17) (Or.inr rfl) (ks := ks.reverse) (by rw [List.length_reverse]; exact hl20) (unhide HKt).few)
          have Hwr : Hid (∀ (t : Int) (w : World), Below wr.heap.size wr w → Calls Tryd.prog 9 #[.agg #[.int .i64 0, .int .i64 t, .bool true, .slice none 0 0, .slice st m ct]] w fun e w' => ∃ x, e = .returned (.tuple #[x, .int .i64 (errOf (writeTop formD (setV t ks.reverse)) : Int)]) ∧ OwnB w' w.heap.size x (bytesOf (writeTop formD (setV t ks.reverse))) ∧ Below w.heap.size w w') := fun t w hb => by
            have hk := (unhide HKt).later hb
            exact (unhide HC).write w (fun _ => True) _ (setV t ks.reverse) (unhide HR w hk.below) (hk.val (by rw [List.length_reverse]; omega) t) (set_weight t (by rw [List.length_reverse]; exact hl20) hk.few)
          by_cases h2 : m < 2
          · have al := alike_few (ks := ks) (by have := unhide HLk; omega)
            have Hch : Hid (chainP (ks.reverse.map (·.2)) = true) := by show _ = _; rw [List.map_reverse, unhide Halike, al]
            have e17 : errOf (writeTop formD (setV 17 ks.reverse)) = 0 := by
              obtain ⟨B, hB, _⟩ := (unhide HW17).2 (fun h => by rw [unhide Hch] at h; simp at h)
              rw [hB]; rfl
            have e16 : errOf (writeTop formD (setV 16 ks.reverse)) = 0 := by
              obtain ⟨B, hB, _⟩ := unhide HW16
              rw [hB]; rfl
            have t0 : decide ((m : Int) < 2) = true := by simp; omega
            have t0n : decide (m < 2) = true := by simp; omega
            have Hw17 := fun w hb => unhide Hwr 17 w hb
            have Hw16 := fun w hb => unhide Hwr 16 w hb
            simp only [e17] at Hw17
            simp only [e16] at Hw16
            have H17 := hide Hw17
            have H16 := hide Hw16
            have Hdr : Hid (Below wr.heap.size wr wr.drew) := (Below.refl _ _).drew
            clear Hw17 Hw16 e17 e16 al hl20
            go_region
            go_wp2_with fail
            refine (unhide H17 _ (unhide Hdr)).mono ?_
            rintro e w6 ⟨x6, rfl, ho6, hb6⟩
            obtain ⟨s6, c6, rfl, _, _, _⟩ := bytes_open ho6.bytes
            have Hd6 := hide ((unhide Hdr).trans (hb6.mono (unhide Hdr).size))
            clear ho6 hb6 H17
            go_wp2_with fail
            refine (unhide H16 _ (unhide Hd6)).mono ?_
            rintro e w7 ⟨x7, rfl, ho7, hb7⟩
            obtain ⟨s7, c7, rfl, _, _, _⟩ := bytes_open ho7.bytes
            have Hd7 := hide ((unhide Hd6).trans (hb7.mono (unhide Hd6).size))
            clear ho7 hb7 H16
            go_wp2
            go_ret
            exact ⟨rfl, (unhide HKr).below.trans ((unhide Hd7).mono (unhide HKr).below.size)⟩
          have t0 : decide ((m : Int) < 2) = false := by simp; omega
          have t0n : decide (m < 2) = false := by simp; omega
          obtain ⟨P, hP⟩ : ∃ P, m - 1 = P := ⟨_, rfl⟩
          have eP : (m : Int) - 1 = (P : Int) := by omega
          have uP : IntKind.i64.wrap (P : Int) = (P : Int) := IntWalk.i64_in _ (by omega)
          have P0 : (0 : Int) ≤ (P : Int) := by omega
          have P1 : (P : Int) < (m : Int) := by omega
          have M1 : (0 : Int) < (m : Int) := by omega
          obtain ⟨⟨v0, b0⟩, hk0⟩ : ∃ kj, ks[0]? = some kj := ⟨_, List.getElem?_eq_getElem (by have := unhide HLk; omega)⟩
          obtain ⟨⟨vl, bl⟩, hkl⟩ : ∃ kj, ks[m - 1]? = some kj := ⟨_, List.getElem?_eq_getElem (by have := unhide HLk; omega)⟩
          have al := alike_ends (unhide HLk) (by omega) hk0 hkl
          rw [hP] at hkl
          simp only at al
          obtain ⟨g, c', hv, _, _, _, hc0⟩ := (unhide HKr).cells hk0
          obtain ⟨g2, c3, hv2, _, _, _, hcl⟩ := (unhide HKr).cells hkl
          simp only [Value.slice.injEq] at hv
          obtain ⟨rfl, hz2, rfl⟩ := hv
          simp only [Value.slice.injEq, Option.some.injEq, Addr.mk.injEq] at hv2
          obtain ⟨⟨rfl, _⟩, hz3, rfl⟩ := hv2
          obtain ⟨hb0, hf0⟩ := (unhide HKr).holds hk0
          obtain ⟨hbl, hfl⟩ := (unhide HKr).holds hkl
          simp only at hc0 hcl hb0 hbl hf0 hfl
          obtain ⟨s0, cc0, rfl, _, _, _⟩ := bytes_open hb0
          obtain ⟨sl, ccl, rfl, _, _, _⟩ := bytes_open hbl
          have hsm : ∀ n, Calls Tryd.prog 13 #[.slice s0 b0.length cc0, .slice sl bl.length ccl] (wr.drewN n) fun e w' => e = .returned (.bool (decide (b0 = bl))) ∧ ∃ q, w' = (wr.drewN n).drewN q := fun n => same_quiet (wr.drewN n) _ _ b0 bl (hb0.below (below_drewNs n wr)) (hbl.below (below_drewNs n wr)) (by omega)
          have x0 : wr.cell? ⟨g, 3, none⟩ = some (.slice s0 b0.length cc0) := hc0 3 _ rfl
          have xl : wr.cell? ⟨g, P * 5 + 3, none⟩ = some (.slice sl bl.length ccl) := hcl 3 _ rfl
          obtain ⟨L0, hL0⟩ : ∃ L0, b0.length = L0 := ⟨_, rfl⟩
          obtain ⟨Ll, hLl⟩ : ∃ Ll, bl.length = Ll := ⟨_, rfl⟩
          obtain ⟨q, hq⟩ : ∃ q, decide (b0 = bl) = q := ⟨_, rfl⟩
          rw [hL0] at x0
          rw [hLl] at xl
          simp only [hL0, hLl, hq] at hsm
          rw [hq] at al
          have Hsm := hide hsm
          have Hch : Hid (chainP (ks.reverse.map (·.2)) = q) := by show _ = _; rw [List.map_reverse, unhide Halike, al]
          have e16 : errOf (writeTop formD (setV 16 ks.reverse)) = 0 := by
            obtain ⟨B, hB, _⟩ := unhide HW16
            rw [hB]; rfl
          have Hw16 := fun w hb => unhide Hwr 16 w hb
          simp only [e16] at Hw16
          have H16 := hide Hw16
          have Hdr0 : Hid (Below wr.heap.size wr wr.drew) := (Below.refl _ _).drew
          clear hsm hz2 hz3 hc0 hcl hb0 hbl hf0 hfl hL0 hLl hq al hk0 hkl hP e16 Hw16 hl20
          cases q with
          | true =>
            have e17 : errOf (writeTop formD (setV 17 ks.reverse)) = 0 := by
              obtain ⟨B, hB, _⟩ := (unhide HW17).2 (fun h => by rw [unhide Hch] at h; simp at h)
              rw [hB]; rfl
            have Hw17 := fun w hb => unhide Hwr 17 w hb
            simp only [e17] at Hw17
            have H17 := hide Hw17
            clear Hw17 e17
            go_big_quiet (first | (go_at_call 13; refine Calls.quiet_of (unhide Hsm _)) | fail)
            have Hdr : Hid (Below wr.heap.size wr (wr.drewN nq)) := below_drewNs nq wr
            go_wp2_with fail
            refine (unhide H17 _ (unhide Hdr)).mono ?_
            rintro e w6 ⟨x6, rfl, ho6, hb6⟩
            obtain ⟨s6, c6, rfl, _, _, _⟩ := bytes_open ho6.bytes
            have Hd6 := hide ((unhide Hdr).trans (hb6.mono (unhide Hdr).size))
            clear ho6 hb6 H17
            go_wp2_with fail
            refine (unhide H16 _ (unhide Hd6)).mono ?_
            rintro e w7 ⟨x7, rfl, ho7, hb7⟩
            obtain ⟨s7, c7, rfl, _, _, _⟩ := bytes_open ho7.bytes
            have Hd7 := hide ((unhide Hd6).trans (hb7.mono (unhide Hd6).size))
            clear ho7 hb7 H16
            go_wp2
            go_ret
            exact ⟨rfl, (unhide HKr).below.trans ((unhide Hd7).mono (unhide HKr).below.size)⟩
          | false =>
            have e17 : errOf (writeTop formD (setV 17 ks.reverse)) = 25 := by
              rw [(unhide HW17).1 ⟨rfl, unhide Hch⟩]; rfl
            have Hw17 := fun w hb => unhide Hwr 17 w hb
            simp only [e17] at Hw17
            have H17 := hide Hw17
            clear Hw17 e17
            go_big_quiet (first | (go_at_call 13; refine Calls.quiet_of (unhide Hsm _)) | fail)
            have Hdr : Hid (Below wr.heap.size wr (wr.drewN nq)) := below_drewNs nq wr
            go_wp2_with fail
            refine (unhide H17 _ (unhide Hdr)).mono ?_
            rintro e w6 ⟨x6, rfl, ho6, hb6⟩
            obtain ⟨s6, c6, rfl, _, _, _⟩ := bytes_open ho6.bytes
            have Hd6 := hide ((unhide Hdr).trans (hb6.mono (unhide Hdr).size))
            clear ho6 hb6 H17
            go_wp2_with fail
            refine (unhide H16 _ (unhide Hd6)).mono ?_
            rintro e w7 ⟨x7, rfl, ho7, hb7⟩
            obtain ⟨s7, c7, rfl, _, _, _⟩ := bytes_open ho7.bytes
            have Hd7 := hide ((unhide Hd6).trans (hb7.mono (unhide Hd6).size))
            clear ho7 hb7 H16
            go_wp2
            go_ret
            exact ⟨rfl, (unhide HKr).below.trans ((unhide Hd7).mono (unhide HKr).below.size)⟩
end Go.Proofs.YtngkidlgcdofhabDoor
