/-
  The statements' same: has the store just the document's pairs? Walked.
  The statements' plain and small, walked.
  StoreLasts: the reference's store in a variable; the turns that are handed in.
-/
import Derived.Test.YtbjgknoipbekoaaGreatQ27
import Derived.Test.YtbjgknoipbekoaaGreatQ25
import Derived.Test.YtbjgknoipbekoaaGreatQ26
import Derived.Test.YtbjgknoipbekoaaGreatQ3
namespace Go.Proofs.YtbjgknoipbekoaaGreat
open Go.RowKit
theorem getm_at : ∀ {ps : List (Bs × Bs)} {x : Bs × Bs}, SortedP ps → x ∈ ps → getP ps x.1 = some x.2
  | [], _, _, h => by cases h
  | y :: ys, x, hs, h => by
    unfold getP
    rcases List.mem_cons.1 h with rfl | h
    · rw [if_pos rfl]
    · have h1 := List.pairwise_cons.1 hs
      rw [if_neg (less_ne (h1.1 x h))]
      exact getm_at h1.2 h
theorem keysn_all (ps : List (Bs × Bs)) : keysP ps [] = ps.map (·.1) := by
  unfold keysP
  rw [List.filter_eq_self]
  intro a _
  rfl
/-- The reference's store as a value. -/
def rsV (h g u : Nat) (rv : Value) : Value := .agg #[.int .i64 (h : Int), .int .i64 (g : Int), .int .i64 (u : Int), rv]
section
variable {PAt : Set_ → Set_ → World → Value → PS → Prop} {SAt : Set_ → Set_ → World → Value → Value → SS → Prop} (HS : Store PAt SAt)
include HS in
set_option maxRecDepth 100000 in
set_option maxHeartbeats 8000000 in
theorem slsame_c {S R K : Set_} {w : World} {t p : Value} {G : SS} {rv : Value} {h g u : Nat} {rp : List (Bs × Bs)} (hS : SAt S R w t p G) (hs : SortedP G.pairs) (hr : RightP G.pairs) (hl : G.pairs.length ≤ 65536) (hx : PrsAt K w rv rp) (hrr : RightP rp) :
    Calls Tryz.prog 21 #[t, .agg #[.int .i64 (h : Int), .int .i64 (g : Int), .int .i64 (u : Int), rv]] w fun e w' => e = .returned (.bool (decide (G.pairs = rp))) ∧ Below w.heap.size w w' := by
  obtain ⟨ta, rfl⟩ := HS.ptr hS
  obtain ⟨sp, c, rfl, _⟩ := hx.form
  obtain ⟨N, hN⟩ : ∃ N, rp.length = N := ⟨_, rfl⟩
  obtain ⟨NK, hNK⟩ : ∃ N, G.pairs.length = N := ⟨_, rfl⟩
  obtain ⟨ANS, hA⟩ : ∃ y, decide (G.pairs = rp) = y := ⟨_, rfl⟩
  rw [hN] at hx ⊢
  rw [hNK] at hl
  rw [hA]
  have HN := hide hN
  have HNK := hide hNK
  have HA := hide hA
  have HSo := hide hs
  have HR := hide hr
  have HRR := hide hrr
  obtain ⟨w1, hw1⟩ : ∃ y, w.alloc (.cells #[.int .i64 (h : Int), .int .i64 (g : Int), .int .i64 (u : Int), .slice sp N c] 34) = y := ⟨_, rfl⟩
  have hb1 : Below w.heap.size w w1 := by rw [← hw1]; exact (Below.refl _ _).alloc (Nat.le_refl _) _
  have hc3 : w1.cell? ⟨w.heap.size, 3, none⟩ = some (.slice sp N c) := by
    rw [← hw1]
    have h := (MapKept.heap_alloc w (.cells #[.int .i64 (h : Int), .int .i64 (g : Int), .int .i64 (u : Int), .slice sp N c] 34)).1
    unfold World.cell?; rw [h]; rfl
  have hlt1 : w.heap.size < w1.heap.size := World.block_lt_of_cell? _ _ hc3
  have HS1 := hide (HS.kept hS (T := none_) (Aside.of_below hb1) fun _ hk => hk.elim)
  have HX1 := hide (hx.below hb1)
  have HB1 := hide hb1
  have HC3 := hide hc3
  clear hS hs hr hx hrr hN hNK hA hb1 hc3
  have Hk := hide (HS.keys (.slice none 0 0) [] (unhide HS1) (bytes_nil _) (by simp))
  rw [keysn_all] at Hk
  go_enter Tryz.func21, Tryz.ntmps21
  go_upto_region 2 with (first
    | (go_at_call 17; refine (unhide Hk).mono ?_; rintro e w2 ⟨v2, vs2, rfl, hl2, hb2⟩
       have hvs : vs2.length = NK := by rw [hl2.len, List.length_map]; exact unhide HNK
       obtain ⟨s2, c2, e2⟩ := hl2.row.form
       rw [hvs] at e2
       subst e2
       have HL2 := hide hl2
       have HS2 := hide (HS.kept (unhide HS1) (T := none_) (Aside.of_below hb2) fun _ hk => hk.elim)
       have HX2 := hide ((unhide HX1).below hb2)
       have HB2 := hide ((unhide HB1).trans (hb2.mono (unhide HB1).size))
       have c3 := cell_aside (S := none_) (unhide HC3) (Aside.of_below hb2) (fun h => h)
       clear hl2 hb2 hvs))
  clear HS1 HX1 HB1 HC3 Hk
  by_cases hne : NK = N
  · subst hne
    have de : ((NK : Int) != (NK : Int)) = false := by simp
    have de' : ((NK : Int) == (NK : Int)) = true := by simp
    go_wp2
    go_loopw [21] (fun ii wr => ∃ i : Nat, i ≤ NK ∧ ii = .int .i64 (i : Int) ∧ Hid (∀ j, j < i → G.pairs[j]? = rp[j]?) ∧ Hid (Below w2.heap.size w2 wr)) (fun ii _ => NK - (intOf ii).toNat)
    case atStart => exact ⟨0, by omega, rfl, fun j hj => absurd hj (by omega), Below.refl _ _⟩
    case round =>
      obtain ⟨i, hi, rfl, HI, HB⟩ := hrel
      by_cases hlt : i < NK
      · obtain ⟨pr, gp, op, q1, d1, q2, d2, hpr, hsp, _, hgp, h2⟩ := ((unhide HX2).below (unhide HB)).one (i := i) (by have := unhide HN; omega)
        subst hsp
        have hgi : i < G.pairs.length := by have := unhide HNK; omega
        obtain ⟨z, hz⟩ : ∃ z, G.pairs[i] = z := ⟨_, rfl⟩
        have hzi : G.pairs[i]? = some z := by rw [List.getElem?_eq_getElem hgi, hz]
        have hzm : z ∈ G.pairs := List.mem_of_getElem? hzi
        have hkey : (G.pairs.map (·.1))[i]? = some z.1 := by rw [List.getElem?_map, hzi]; rfl
        obtain ⟨g8, o8, s8, c8, hs8, k8, hb8⟩ := (unhide HL2).key hkey
        subst hs8
        have hRz := unhide HR z hzm
        have hRp := unhide HRR pr (List.mem_of_getElem? hpr)
        have HZ := hide hzi
        have HP := hide hpr
        have f1 : decide ((i : Int) < (NK : Int)) = true := by simp; omega
        have f1n : decide (i < NK) = true := by simp; omega
        have j0 : (0 : Int) ≤ (i : Int) := by omega
        have j1 : (i : Int) < (NK : Int) := by omega
        obtain ⟨KP, hKP⟩ : ∃ y, pr.1.length = y := ⟨_, rfl⟩
        obtain ⟨VP, hVP⟩ : ∃ y, pr.2.length = y := ⟨_, rfl⟩
        obtain ⟨KZ, hKZ⟩ : ∃ y, z.1.length = y := ⟨_, rfl⟩
        have p0 := h2.c0
        have p1 := h2.c1
        rw [hKP] at p0
        rw [hVP] at p1
        have k8w := cell_aside (S := none_) k8 (Aside.of_below (unhide HB)) (fun h => h)
        rw [hKZ] at k8w
        obtain ⟨w3, hw3⟩ : ∃ y, wr.alloc (.cells #[Value.slice q1 KP d1, Value.slice q2 VP d2] 78) = y := ⟨_, rfl⟩
        have hb3 : Below wr.heap.size wr w3 := by rw [← hw3]; exact (Below.refl _ _).alloc (Nat.le_refl _) _
        obtain ⟨m0, m1⟩ := cells_new2 wr (Value.slice q1 KP d1) (Value.slice q2 VP d2) 78
        rw [hw3] at m0 m1
        have hb23 := (unhide HB).trans (hb3.mono (unhide HB).size)
        have HQ1 : Hid (BytesAt w3 (.slice q1 KP d1) pr.1) := by have := h2.key.at_.below hb3; rw [hKP] at this; exact this
        have HQ2 : Hid (BytesAt w3 (.slice q2 VP d2) pr.2) := by have := h2.val.at_.below hb3; rw [hVP] at this; exact this
        have HQ8 : Hid (BytesAt w3 (.slice s8 KZ c8) z.1) := by have := hb8.below hb23; rw [hKZ] at this; exact this
        have k83 := cell_aside (S := none_) k8w (Aside.of_below hb3) (fun h => h)
        have HB3 := hide hb23
        have Hg := hide (HS.get (.slice q1 KP d1) pr.1 (HS.kept (unhide HS2) (T := none_) (Aside.of_below hb23) fun _ hk => hk.elim) (unhide HQ1) (by omega))
        have Hl1 : Hid (z.1.length ≤ 1099511627776) := by show _ ≤ _; omega
        have Hl2 : Hid (z.2.length ≤ 1099511627776) := by show _ ≤ _; omega
        have HM0 := hide m0
        have HM1 := hide m1
        have HK8 := hide k83
        have HGA : Hid (getP G.pairs z.1 = some z.2) := getm_at (unhide HSo) hzm
        clear h2 hz hzm hkey hb8 k8 k8w hRz hRp hKP hVP hKZ hb3 hb23 hgi hzi hpr k83
        by_cases heq : z.1 = pr.1
        · rw [← heq, unhide HGA] at Hg
          go_upto_region 8 with (first
            | (go_at_call 15; refine (unhide Hg).mono ?_; rintro e w4 ⟨v4, rfl, ho4, hb4⟩; obtain ⟨s4, c4, e4⟩ := ho4.form; subst e4
               have HO4 := hide ho4.bytes
               have HB4 := hide hb4
               clear ho4 hb4))
          obtain ⟨VZ, hVZ⟩ : ∃ y, z.2.length = y := ⟨_, rfl⟩
          have HO4' : Hid (BytesAt w4 (.slice s4 VZ c4) z.2) := by have := unhide HO4; simp only [Option.getD_some] at this; rw [hVZ] at this; exact this
          simp only [hVZ]
          have Hs1 := hide (quiet_same (w := w4) ((unhide HQ8).below (unhide HB4)) ((unhide HQ1).below (unhide HB4)) (unhide Hl1))
          have Hs2 := hide (quiet_same (w := w4) (unhide HO4') ((unhide HQ2).below (unhide HB4)) (unhide Hl2))
          rw [decide_eq_true heq] at Hs1
          have n0 := cell_aside (S := none_) (unhide HM0) (Aside.of_below (unhide HB4)) (fun h => h)
          have n1 := cell_aside (S := none_) (unhide HM1) (Aside.of_below (unhide HB4)) (fun h => h)
          have n8 := cell_aside (S := none_) (unhide HK8) (Aside.of_below (unhide HB4)) (fun h => h)
          have HBe := hide ((unhide HB3).trans ((unhide HB4).mono (unhide HB3).size))
          clear Hg HO4 hVZ p0 p1 m0 m1 HM0 HM1 HK8 HQ1 HQ2 HQ8 HB4 HB3 HB HO4'
          by_cases hv : z.2 = pr.2
          · rw [decide_eq_true hv] at Hs2
            have HI2 : Hid (∀ j, j < i + 1 → G.pairs[j]? = rp[j]?) := fun j hj => by
              by_cases hji : j < i
              · exact unhide HI j hji
              · have hij : i = j := by omega
                subst hij
                rw [unhide HZ, unhide HP]
                obtain ⟨z1, z2⟩ := z
                obtain ⟨r1, r2⟩ := pr
                simp only at heq hv
                rw [heq, hv]
            clear hv heq HI HZ HP HGA
            go_big_quiet (first | (go_at_call_of 19 (Value.slice s8 KZ c8); refine Calls.quiet_of (unhide Hs1 _)) | (go_at_call_of 19 (Value.slice s4 VZ c4); refine Calls.quiet_of (unhide Hs2 _)) | fail)
            have HBn := hide ((unhide HBe).trans ((below_drewNb (Below.refl _ _) nq).mono (unhide HBe).size))
            clear Hs1 Hs2 n0 n1 n8 HBe
            go_wp2
            exact ⟨⟨i + 1, by omega, by simp, HI2, HBn⟩, by simp [intOf]; omega⟩
          · rw [decide_eq_false hv] at Hs2
            have hf : ANS = false := by
              rw [← unhide HA]
              exact decide_eq_false fun h => hv (by
                have h1 := unhide HZ
                rw [h, unhide HP] at h1
                rw [Option.some.inj h1])
            subst hf
            clear hv heq HI HZ HP HGA
            go_big_quiet (first | (go_at_call_of 19 (Value.slice s8 KZ c8); refine Calls.quiet_of (unhide Hs1 _)) | (go_at_call_of 19 (Value.slice s4 VZ c4); refine Calls.quiet_of (unhide Hs2 _)) | fail)
            have HBn := hide ((unhide HBe).trans ((below_drewNb (Below.refl _ _) nq).mono (unhide HBe).size))
            clear Hs1 Hs2 n0 n1 n8 HBe
            go_wp2
            go_ret
            exact ⟨rfl, (unhide HB2).trans ((unhide HBn).mono (unhide HB2).size)⟩
        · have hf : ANS = false := by
            rw [← unhide HA]
            exact decide_eq_false fun h => heq (by
              have h1 := unhide HZ
              rw [h, unhide HP] at h1
              rw [Option.some.inj h1])
          subst hf
          obtain ⟨okb, hok⟩ : ∃ y, (getP G.pairs pr.1).isSome = y := ⟨_, rfl⟩
          obtain ⟨vb, hvb⟩ : ∃ y, (getP G.pairs pr.1).getD [] = y := ⟨_, rfl⟩
          rw [hok, hvb] at Hg
          clear hok hvb
          go_upto_region 8 with (first
            | (go_at_call 15; refine (unhide Hg).mono ?_; rintro e w4 ⟨v4, rfl, ho4, hb4⟩; obtain ⟨s4, c4, e4⟩ := ho4.form; subst e4
               have HO4 := hide ho4.bytes
               have HB4 := hide hb4
               clear ho4 hb4))
          obtain ⟨VZ, hVZ⟩ : ∃ y, vb.length = y := ⟨_, rfl⟩
          simp only [hVZ]
          have Hs1 := hide (quiet_same (w := w4) ((unhide HQ8).below (unhide HB4)) ((unhide HQ1).below (unhide HB4)) (unhide Hl1))
          rw [decide_eq_false heq] at Hs1
          have n0 := cell_aside (S := none_) (unhide HM0) (Aside.of_below (unhide HB4)) (fun h => h)
          have n8 := cell_aside (S := none_) (unhide HK8) (Aside.of_below (unhide HB4)) (fun h => h)
          have HBe := hide ((unhide HB3).trans ((unhide HB4).mono (unhide HB3).size))
          clear Hg HO4 hVZ p0 p1 m0 m1 HM0 HM1 HK8 HQ1 HQ2 HQ8 HB4 HB3 HB heq HI HZ HP HGA
          go_big_quiet (first | (go_at_call_of 19 (Value.slice s8 KZ c8); refine Calls.quiet_of (unhide Hs1 _)) | fail)
          have HBn := hide ((unhide HBe).trans ((below_drewNb (Below.refl _ _) nq).mono (unhide HBe).size))
          clear Hs1 n0 n8 HBe
          go_wp2
          go_ret
          exact ⟨rfl, (unhide HB2).trans ((unhide HBn).mono (unhide HB2).size)⟩
      · have hin : NK = i := by omega
        subst hin
        have f1 : decide ((NK : Int) < (NK : Int)) = false := by simp
        have f1n : decide (NK < NK) = false := by simp
        have hf : ANS = true := by
          rw [← unhide HA]
          refine decide_eq_true (List.ext_getElem? fun j => ?_)
          by_cases hj : j < NK
          · exact unhide HI j hj
          · rw [List.getElem?_eq_none (by have := unhide HNK; omega), List.getElem?_eq_none (by have := unhide HN; omega)]
        subst hf
        go_wp2
        go_ret
        exact ⟨rfl, (unhide HB2).trans ((unhide HB).mono (unhide HB2).size)⟩
  · have hf : ANS = false := by
      rw [← unhide HA]
      exact decide_eq_false fun h => hne (by rw [← unhide HN, ← unhide HNK, h])
    subst hf
    have de : ((NK : Int) == (N : Int)) = false := by simp; omega
    go_wp2
    go_ret
    exact ⟨rfl, unhide HB2⟩
end
end Go.Proofs.YtbjgknoipbekoaaGreat
namespace Go.Proofs.YtbjgknoipbekoaaGreat
open Go.RowKit
set_option maxRecDepth 100000 in
set_option maxHeartbeats 4000000 in
theorem plain_c {K : Set_} {w : World} {x : Value} {l : List Ch} (hx : ChsAt K w x l) (hn : l.length ≤ 1000000) :
    Calls Tryz.prog 13 #[x] w fun e w' => ∃ v, e = .returned v ∧ ChsAt (fun k => (K k ∨ w.heap.size ≤ k) ∧ k < w'.heap.size) w' v l ∧ Below w.heap.size w w' := by
  obtain ⟨sp, c, rfl, _⟩ := hx.form
  obtain ⟨N, hN⟩ : ∃ N, l.length = N := ⟨_, rfl⟩
  rw [hN] at hx hn ⊢
  have HN := hide hN
  have HX : Hid (ChsAt (fun k => K k ∧ k < w.heap.size) w (.slice sp N c) l) := hx.mono fun k hk h => ⟨h, hk⟩
  obtain ⟨K2, hK2⟩ : ∃ y : Set_, (fun k => K k ∧ k < w.heap.size) = y := ⟨_, rfl⟩
  have HKb : Hid (∀ k, K2 k → k < w.heap.size) := fun k hk => by rw [← hK2] at hk; exact hk.2
  have HKa : Hid (∀ k, K2 k → K k ∨ w.heap.size ≤ k) := fun k hk => by rw [← hK2] at hk; exact Or.inl hk.1
  rw [hK2] at HX
  clear hx hN hK2
  go_enter Tryz.func13, Tryz.ntmps13
  go_wp2
  go_loopw [3, 8] (fun ov ii wr => ∃ (i co : Nat) (so : Option Addr) (t : List (Ch × Value × Value)), i ≤ N ∧ ii = .int .i64 (i : Int) ∧ ov = .slice so i co ∧ Hid (t.length = i) ∧ Hid (RcRow K2 w.heap.size wr (.slice so i co) t) ∧ Hid (chsT t = l.take i) ∧ Hid (Below w.heap.size w wr)) (fun _ ii _ => N - (intOf ii).toNat)
  case atStart => exact ⟨0, 0, none, [], by omega, rfl, rfl, rfl, rcrow_nil _ _ _, rfl, Below.refl _ _⟩
  case round =>
    obtain ⟨i, co, so, t, hi, rfl, rfl, HTn, HT, HE, HB⟩ := hrel
    by_cases hlt : i < N
    · obtain ⟨ch, g, o, s1, c1, s2, c2, hop, rfl, hKg, hgl, h3⟩ := ((unhide HX).below (unhide HB)).one (i := i) (by have := unhide HN; omega)
      have f1 : decide ((i : Int) < (N : Int)) = true := by simp; omega
      have f1n : decide (i < N) = true := by simp; omega
      have j0 : (0 : Int) ≤ (i : Int) := by omega
      have j1 : (i : Int) < (N : Int) := by omega
      obtain ⟨KN, hKN⟩ : ∃ y, ch.key.length = y := ⟨_, rfl⟩
      obtain ⟨VN, hVN⟩ : ∃ y, ch.val.length = y := ⟨_, rfl⟩
      obtain ⟨gb, hgb⟩ : ∃ y, ch.gone = y := ⟨_, rfl⟩
      rw [hKN, hVN] at h3
      have k0 := h3.c0
      have k1 := h3.c1
      have k2 := h3.c2
      rw [hgb] at k2
      have HGB := hide hgb
      have HE2 : Hid (chsT (t ++ [(ch, Value.slice s1 KN c1, Value.slice s2 VN c2)]) = l.take (i + 1)) := by
        show _ = _
        unfold chsT
        rw [List.map_append]
        obtain ⟨hl, e⟩ := List.getElem?_eq_some_iff.1 hop
        rw [← List.take_append_getElem hl, e]
        have h := unhide HE
        unfold chsT at h
        rw [h]
        rfl
      obtain ⟨w1, hw1⟩ : ∃ y, wr.alloc (.cells #[Value.slice s1 KN c1, Value.slice s2 VN c2, .bool gb] 72) = y := ⟨_, rfl⟩
      obtain ⟨m0, m1, m2⟩ := cells_new3 wr (.slice s1 KN c1) (.slice s2 VN c2) (.bool gb) 72
      have hb1 : Below wr.heap.size wr w1 := by rw [← hw1]; exact (Below.refl _ _).alloc (Nat.le_refl _) _
      rw [hw1] at m0 m1 m2
      obtain ⟨W2, hW2⟩ : ∃ y, w1.alloc (.cells #[Value.slice s1 KN c1, Value.slice s2 VN c2, .bool gb] 74) = y := ⟨_, rfl⟩
      have hb2 : Below w1.heap.size w1 W2 := by rw [← hW2]; exact (Below.refl _ _).alloc (Nat.le_refl _) _
      have HC2 : Hid (W2.cell? ⟨w1.heap.size, 0, none⟩ = some (Value.slice s1 KN c1) ∧ W2.cell? ⟨w1.heap.size, 1, none⟩ = some (Value.slice s2 VN c2) ∧ W2.cell? ⟨w1.heap.size, 2, none⟩ = some (.bool ch.gone)) := by show _ ∧ _; rw [← hW2, unhide HGB]; exact cells_new3 _ _ _ _ _
      have hb12 := hb1.trans (hb2.mono hb1.size)
      have T2 := hide ((unhide HT).call hb12)
      have B2 := hide ((unhide HB).trans (hb12.mono (unhide HB).size))
      have HE3 := hide (h3.key.aside (S := none_) (Aside.of_below hb12) fun _ h => h.elim)
      have HE4 := hide (h3.val.aside (S := none_) (Aside.of_below hb12) fun _ h => h.elim)
      clear h3 hop hKN hVN hgb hb1 hb2 hb12 HE HT hKg
      go_wp2_with (first
        | (at_builtin; refine wpList_append_rch rfl _ _ rfl _ _ rfl (unhide T2) w1.heap.size 0 1 rfl (ch, Value.slice s1 KN c1, Value.slice s2 VN c2) (unhide HC2).1 (unhide HC2).2.1 (unhide HC2).2.2 rfl rfl (unhide B2).size (by have := unhide HTn; omega) (unhide HKb) (unhide HE3) (unhide HE4) ?_
           intro v7 W7 s7 c7 e7 hr7 hb7
           rw [unhide HTn] at e7
           subst e7
           have T7 := hide hr7
           have B7 := hide ((unhide B2).trans hb7)
           clear hr7 hb7))
      have HTn7 : Hid ((t ++ [(ch, Value.slice s1 KN c1, Value.slice s2 VN c2)]).length = i + 1) := by show _ = _; rw [List.length_append, unhide HTn]; rfl
      exact ⟨⟨i + 1, _, _, _, by omega, by simp, rfl, HTn7, T7, HE2, B7⟩, by simp [intOf]; omega⟩
    · have hin : N = i := by omega
      subst hin
      have f1 : decide ((N : Int) < (N : Int)) = false := by simp
      have f1n : decide (N < N) = false := by simp
      have HQ := hide ((unhide HT).at_ (K' := fun k => K k ∨ w.heap.size ≤ k) (unhide HKa) fun k hk => Or.inr hk)
      rw [unhide HE, List.take_of_length_le (by have := unhide HN; omega)] at HQ
      clear HT HE
      go_wp2
      go_ret
      exact ⟨_, rfl, (unhide HQ).mono fun k hk h => ⟨h, hk⟩, unhide HB⟩
/-- A slice of slices of changes, all of it in blocks of K. -/
structure ChssAt (K : Set_) (w : World) (x : Value) (ll : List (List Ch)) : Prop where
  form : ∃ sp c, x = .slice sp ll.length c ∧ ll.length ≤ c ∧ (sp = none → c = 0)
  at_ : ∀ (i : Nat) (l : List Ch), ll[i]? = some l → ∃ g o m cp v, x = .slice (some ⟨g, o, none⟩) m cp ∧ K g ∧ g < w.heap.size ∧ w.cell? ⟨g, o + i, none⟩ = some v ∧ ChsAt K w v l
theorem ChssAt.aside {K S : Set_} {a b : World} {x : Value} {l : List (List Ch)} (h : ChssAt K a x l) (hb : Aside S a b) (hK : ∀ k, S k → ¬ K k) : ChssAt K b x l := by
  refine ⟨h.form, fun i c hi => ?_⟩
  obtain ⟨g, o, m, cp, v, e, hg, hl, h1, h2⟩ := h.at_ i c hi
  exact ⟨g, o, m, cp, v, e, hg, Nat.lt_of_lt_of_le hl hb.size, cell_aside h1 hb fun hS => hK g hS hg, h2.aside hb hK⟩
theorem ChssAt.below {K : Set_} {a b : World} {x : Value} {l : List (List Ch)} (h : ChssAt K a x l) (hb : Below a.heap.size a b) : ChssAt K b x l := h.aside (S := none_) (Aside.of_below hb) fun _ h => h.elim
theorem ChssAt.one {K : Set_} {w : World} {sp : Option Addr} {n cp i : Nat} {ll : List (List Ch)} (h : ChssAt K w (.slice sp n cp) ll) (hi : i < ll.length) : ∃ l g o s1 c1, ll[i]? = some l ∧ sp = some ⟨g, o, none⟩ ∧ w.cell? ⟨g, o + i, none⟩ = some (.slice s1 l.length c1) ∧ ChsAt K w (.slice s1 l.length c1) l := by
  obtain ⟨g, o, m, cp', v, e, hg, hl, h1, h2⟩ := h.at_ i ll[i] (List.getElem?_eq_getElem hi)
  simp only [Value.slice.injEq] at e
  obtain ⟨rfl, _, _⟩ := e
  obtain ⟨s1, c1, e1, _⟩ := h2.form
  subst e1
  exact ⟨ll[i], g, o, s1, c1, List.getElem?_eq_getElem hi, rfl, h1, h2⟩
/-- Changes that a play goes through with. -/
def SmallC (c : Ch) : Prop := c.key.length ≤ 100 ∧ c.val.length ≤ 9000
def SmallL (l : List Ch) : Prop := l.length ≤ 12 ∧ ∀ c ∈ l, SmallC c
def SmallLL (ll : List (List Ch)) : Prop := ll.length ≤ 12 ∧ ∀ l ∈ ll, SmallL l
instance (c : Ch) : Decidable (SmallC c) := by unfold SmallC; exact inferInstance
instance (l : List Ch) : Decidable (SmallL l) := by unfold SmallL; exact inferInstance
instance (ll : List (List Ch)) : Decidable (SmallLL ll) := by unfold SmallLL; exact inferInstance
theorem all_step {α : Type} {P : α → Prop} {l : List α} {i : Nat} {c : α} (h : ∀ x ∈ l.take i, P x) (hi : l[i]? = some c) (hc : P c) : ∀ x ∈ l.take (i + 1), P x := by
  obtain ⟨hl, e⟩ := List.getElem?_eq_some_iff.1 hi
  rw [← List.take_append_getElem hl, e]
  intro x hx
  rcases List.mem_append.1 hx with hx | hx
  · exact h x hx
  · rw [List.mem_singleton] at hx
    subst hx
    exact hc
set_option maxRecDepth 100000 in
set_option maxHeartbeats 4000000 in
theorem small_c {K : Set_} {w : World} {x : Value} {ll : List (List Ch)} (hx : ChssAt K w x ll) :
    Calls Tryz.prog 8 #[x] w fun e w' => e = .returned (.bool (decide (SmallLL ll))) ∧ Below w.heap.size w w' := by
  obtain ⟨sp, c, rfl, _⟩ := hx.form
  obtain ⟨N, hN⟩ : ∃ N, ll.length = N := ⟨_, rfl⟩
  rw [hN] at hx ⊢
  have HN := hide hN
  have HX := hide hx
  obtain ⟨ANS, hA⟩ : ∃ y, decide (SmallLL ll) = y := ⟨_, rfl⟩
  rw [hA]
  have HA := hide hA
  clear hx hN hA
  by_cases hbig : 12 < N
  · have hf : ANS = false := by
      rw [← unhide HA]
      exact decide_eq_false fun h => by have := h.1; have := unhide HN; omega
    subst hf
    have d1 : decide ((12 : Int) < (N : Int)) = true := by simp; omega
    have d1n : decide (12 < N) = true := by simp; omega
    go_enter Tryz.func8, Tryz.ntmps8
    go_wp2
    go_ret
    exact ⟨rfl, Below.refl _ _⟩
  have d1 : decide ((12 : Int) < (N : Int)) = false := by simp; omega
  have d1n : decide (12 < N) = false := by simp; omega
  have hN12 : N ≤ 12 := by omega
  clear hbig
  go_enter Tryz.func8, Tryz.ntmps8
  go_wp2
  go_loopw [12] (fun ii wr => ∃ i : Nat, i ≤ N ∧ ii = .int .i64 (i : Int) ∧ Hid (∀ l ∈ ll.take i, SmallL l) ∧ Hid (Below w.heap.size w wr)) (fun ii _ => N - (intOf ii).toNat)
  case atStart => exact ⟨0, by omega, rfl, fun l hl => by simp at hl, Below.refl _ _⟩
  case round =>
    obtain ⟨i, hi, rfl, HS, HB⟩ := hrel
    by_cases hlt : i < N
    · obtain ⟨l, g, o, s1, c1, hop, rfl, hcell, hl1⟩ := ((unhide HX).below (unhide HB)).one (i := i) (by have := unhide HN; omega)
      have f1 : decide ((i : Int) < (N : Int)) = true := by simp; omega
      have f1n : decide (i < N) = true := by simp; omega
      have j0 : (0 : Int) ≤ (i : Int) := by omega
      have j1 : (i : Int) < (N : Int) := by omega
      obtain ⟨M, hM⟩ : ∃ y, l.length = y := ⟨_, rfl⟩
      rw [hM] at hcell hl1
      have HM := hide hM
      have HL := hide hl1
      have HOP := hide hop
      clear hM hl1 hop
      by_cases hm : 12 < M
      · have hf : ANS = false := by
          rw [← unhide HA]
          exact decide_eq_false fun h => by have := (h.2 l (List.mem_of_getElem? (unhide HOP))).1; have := unhide HM; omega
        subst hf
        have d2 : decide ((12 : Int) < (M : Int)) = true := by simp; omega
        have d2n : decide (12 < M) = true := by simp; omega
        go_wp2
        go_ret
        exact ⟨rfl, unhide HB⟩
      have d2 : decide ((12 : Int) < (M : Int)) = false := by simp; omega
      have d2n : decide (12 < M) = false := by simp; omega
      have hM12 : M ≤ 12 := by omega
      clear hm
      go_wp2
      rename World => wo
      go_loopw [21] (fun jj wr => ∃ j : Nat, j ≤ M ∧ jj = .int .i64 (j : Int) ∧ Hid (∀ c ∈ l.take j, SmallC c) ∧ Hid (Below wo.heap.size wo wr)) (fun jj _ => M - (intOf jj).toNat)
      case atStart => exact ⟨0, by omega, rfl, fun l hl => by simp at hl, Below.refl _ _⟩
      case round =>
        obtain ⟨j, hj, rfl, HS2, HB2⟩ := hrel
        by_cases hlt2 : j < M
        · obtain ⟨ch, g2, o2, q1, d1', q2, d2', hop2, rfl, _, hgl, h3⟩ := ((unhide HL).below (unhide HB2)).one (i := j) (by have := unhide HM; omega)
          have f2 : decide ((j : Int) < (M : Int)) = true := by simp; omega
          have f2n : decide (j < M) = true := by simp; omega
          have l0 : (0 : Int) ≤ (j : Int) := by omega
          have l1 : (j : Int) < (M : Int) := by omega
          have k0 := h3.c0
          have k1 := h3.c1
          have k2 := h3.c2
          obtain ⟨KN, hKN⟩ : ∃ y, ch.key.length = y := ⟨_, rfl⟩
          obtain ⟨VN, hVN⟩ : ∃ y, ch.val.length = y := ⟨_, rfl⟩
          obtain ⟨gb, hgb⟩ : ∃ y, ch.gone = y := ⟨_, rfl⟩
          rw [hKN] at k0
          rw [hVN] at k1
          rw [hgb] at k2
          have HKN := hide hKN
          have HVN := hide hVN
          have HOP2 := hide hop2
          obtain ⟨w1, hw1⟩ : ∃ y, wr.alloc (.cells #[Value.slice q1 KN d1', Value.slice q2 VN d2', .bool gb] 72) = y := ⟨_, rfl⟩
          obtain ⟨m0, m1, m2⟩ := cells_new3 wr (.slice q1 KN d1') (.slice q2 VN d2') (.bool gb) 72
          have HB3 : Hid (Below wo.heap.size wo w1) := by rw [← hw1]; exact (unhide HB2).alloc (unhide HB2).size _
          rw [hw1] at m0 m1 m2
          clear h3 hop2 hKN hVN hgb HB2
          by_cases hk : 100 < KN
          · have hf : ANS = false := by
              rw [← unhide HA]
              exact decide_eq_false fun h => by have := ((h.2 l (List.mem_of_getElem? (unhide HOP))).2 ch (List.mem_of_getElem? (unhide HOP2))).1; have := unhide HKN; omega
            subst hf
            have d3 : decide ((100 : Int) < (KN : Int)) = true := by simp; omega
            have d3n : decide (100 < KN) = true := by simp; omega
            go_wp2
            go_ret
            exact ⟨rfl, (unhide HB).trans ((unhide HB3).mono (unhide HB).size)⟩
          have d3 : decide ((100 : Int) < (KN : Int)) = false := by simp; omega
          have d3n : decide (100 < KN) = false := by simp; omega
          by_cases hv : 9000 < VN
          · have hf : ANS = false := by
              rw [← unhide HA]
              exact decide_eq_false fun h => by have := ((h.2 l (List.mem_of_getElem? (unhide HOP))).2 ch (List.mem_of_getElem? (unhide HOP2))).2; have := unhide HVN; omega
            subst hf
            have d4 : decide ((9000 : Int) < (VN : Int)) = true := by simp; omega
            have d4n : decide (9000 < VN) = true := by simp; omega
            go_wp2
            go_ret
            exact ⟨rfl, (unhide HB).trans ((unhide HB3).mono (unhide HB).size)⟩
          have d4 : decide ((9000 : Int) < (VN : Int)) = false := by simp; omega
          have d4n : decide (9000 < VN) = false := by simp; omega
          have HS3 := hide (all_step (unhide HS2) (unhide HOP2) ⟨by have := unhide HKN; omega, by have := unhide HVN; omega⟩)
          clear HS2
          go_wp2
          exact ⟨⟨j + 1, by omega, by simp, HS3, HB3⟩, by simp [intOf]; omega⟩
        · have hjM : M = j := by omega
          subst hjM
          have f2 : decide ((M : Int) < (M : Int)) = false := by simp
          have f2n : decide (M < M) = false := by simp
          have HS3 := hide (all_step (unhide HS) (unhide HOP) ⟨by have := unhide HM; omega, by have h := unhide HS2; rw [List.take_of_length_le (by have := unhide HM; omega)] at h; exact h⟩)
          have HB3 := hide ((unhide HB).trans ((unhide HB2).mono (unhide HB).size))
          clear HS HS2 HB2 HB
          go_wp2
          exact ⟨⟨i + 1, by omega, by simp, HS3, HB3⟩, by simp [intOf]; omega⟩
    · have hin : N = i := by omega
      subst hin
      have f1 : decide ((N : Int) < (N : Int)) = false := by simp
      have f1n : decide (N < N) = false := by simp
      have hf : ANS = true := by
        rw [← unhide HA]
        have h := unhide HS
        rw [List.take_of_length_le (by have := unhide HN; omega)] at h
        exact decide_eq_true ⟨by have := unhide HN; omega, h⟩
      subst hf
      go_wp2
      go_ret
      exact ⟨rfl, unhide HB⟩
end Go.Proofs.YtbjgknoipbekoaaGreat
namespace Go.Proofs.YtbjgknoipbekoaaGreat
open Go.RowKit
theorem lt_of_row {w : World} {A : Nat} {o : Obj} (h : w.heap[A]? = some o) : A < w.heap.size := (Array.getElem?_eq_some_iff.1 h).1
/-- A variable of the reference's stores, in the block A; its pairs lie outside of B and X. -/
structure RV (w0 w : World) (B X : Set_) (A : Nat) (ps : List (Bs × Bs)) (h g u : Nat) (rv : Value) : Prop where
  row : w.heap[A]? = some (.cells [.int .i64 (h : Int), .int .i64 (g : Int), .int .i64 (u : Int), rv].toArray 34 (0, 0))
  out : ¬ B A
  ge : w0.heap.size ≤ A
  prs : PrsAt (fun j => ¬ B j ∧ ¬ X j) w rv ps
theorem PrsAt.bn {B X : Set_} {w w' : World} {x : Value} {l : List (Bs × Bs)} (h : PrsAt (fun j => ¬ B j ∧ ¬ X j) w x l) (ha : Aside B w w') : PrsAt (fun j => ¬ BN B w w' j ∧ ¬ X j) w' x l :=
  ((h.mono (K' := fun j => (¬ B j ∧ ¬ X j) ∧ j < w.heap.size) fun k hk h => ⟨h, hk⟩).aside ha fun k hk h => h.1.1 hk).mono fun k _ h => ⟨fun hb => hb.1.elim h.1.1 fun h2 => by have := h.2; omega, h.1.2⟩
theorem bn_out {B : Set_} {w w' : World} {A : Nat} (h : ¬ B A) (hl : A < w.heap.size) : ¬ BN B w w' A := fun hb => hb.1.elim h fun h2 => by omega
section
variable {w0 w w' : World} {B X : Set_} {A : Nat} {ps : List (Bs × Bs)} {h g u : Nat} {rv : Value}
/-- Behind a call on the plate. -/
theorem RV.call (H : RV w0 w B X A ps h g u rv) (ha : Aside B w w') : RV w0 w' (BN B w w') X A ps h g u rv :=
  ⟨(ha.block A (lt_of_row H.row) H.out).trans H.row, bn_out H.out (lt_of_row H.row), H.ge, H.prs.bn ha⟩
theorem RV.below (H : RV w0 w B X A ps h g u rv) (hb : Below w.heap.size w w') : RV w0 w' B X A ps h g u rv :=
  ⟨(hb.block A (lt_of_row H.row)).trans H.row, H.out, H.ge, H.prs.below hb⟩
/-- Another variable was written. -/
theorem RV.other (H : RV w0 w B X A ps h g u rv) {V : Nat} (ha : Aside (fun j => j = V) w w') (hV : A ≠ V) (hX : X V) : RV w0 w' B X A ps h g u rv :=
  ⟨(ha.block A (lt_of_row H.row) hV).trans H.row, H.out, H.ge, H.prs.aside ha fun _ hk h => h.2 (hk ▸ hX)⟩
/-- Fewer blocks are kept free, or more that the pairs don't lie in. -/
theorem RV.turn (H : RV w0 w B X A ps h g u rv) {Y : Set_} (hY : ∀ j, j < w.heap.size → Y j → X j) : RV w0 w B Y A ps h g u rv :=
  ⟨H.row, H.out, H.ge, H.prs.mono fun k hk h => ⟨h.1, fun hy => h.2 (hY k hk hy)⟩⟩
theorem RV.cells (H : RV w0 w B X A ps h g u rv) : w.cell? ⟨A, 0, none⟩ = some (.int .i64 (h : Int)) ∧ w.cell? ⟨A, 1, none⟩ = some (.int .i64 (g : Int)) ∧ w.cell? ⟨A, 2, none⟩ = some (.int .i64 (u : Int)) ∧ w.cell? ⟨A, 3, none⟩ = some rv :=
  ⟨row_cell H.row 0 _ rfl, row_cell H.row 1 _ rfl, row_cell H.row 2 _ rfl, row_cell H.row 3 _ rfl⟩
/-- The generation is set. -/
theorem RV.gen (H : RV w0 w B X A ps h g u rv) (hX : X A) (g2 : Nat) : RV w0 (w.setCell ⟨A, 1, none⟩ (.int .i64 (g2 : Int))) B X A ps h g2 u rv :=
  ⟨row_put H.row 1 (by simp) _, H.out, H.ge, H.prs.aside (S := fun j => j = A) (Aside.of_grown (setCell_grown A 1 _) fun _ e => (Option.some.inj e).symm) fun k hk h => h.2 (hk ▸ hX)⟩
/-- The pairs are set. -/
theorem RV.pairs (H : RV w0 w B X A ps h g u rv) (hX : X A) {qs : List (Bs × Bs)} {qv : Value} (hq : PrsAt (fun j => ¬ B j ∧ ¬ X j) w qv qs) : RV w0 (w.setCell ⟨A, 3, none⟩ qv) B X A qs h g u qv :=
  ⟨row_put H.row 3 (by simp) _, H.out, H.ge, hq.aside (S := fun j => j = A) (Aside.of_grown (setCell_grown A 3 _) fun _ e => (Option.some.inj e).symm) fun k hk h => h.2 (hk ▸ hX)⟩
end
theorem set_aside (w : World) (A k : Nat) (v : Value) : Aside (fun j => j = A) w (w.setCell ⟨A, k, none⟩ v) := Aside.of_grown (setCell_grown A k v) fun _ e => (Option.some.inj e).symm
/-- The turn's own variable. -/
structure TV (B : Set_) (w : World) (A : Nat) (cs : List Value) : Prop where
  row : w.heap[A]? = some (.cells cs.toArray 53 (0, 0))
  out : ¬ B A
theorem TV.call {B : Set_} {w w' : World} {A : Nat} {cs : List Value} (H : TV B w A cs) (ha : Aside B w w') : TV (BN B w w') w' A cs := ⟨(ha.block A (lt_of_row H.row) H.out).trans H.row, bn_out H.out (lt_of_row H.row)⟩
theorem TV.below {B : Set_} {w w' : World} {A : Nat} {cs : List Value} (H : TV B w A cs) (hb : Below w.heap.size w w') : TV B w' A cs := ⟨(hb.block A (lt_of_row H.row)).trans H.row, H.out⟩
theorem TV.other {B : Set_} {w w' : World} {A V : Nat} {cs : List Value} (H : TV B w A cs) (ha : Aside (fun j => j = V) w w') (hV : A ≠ V) : TV B w' A cs := ⟨(ha.block A (lt_of_row H.row) hV).trans H.row, H.out⟩
theorem TV.cell {B : Set_} {w : World} {A : Nat} {cs : List Value} (H : TV B w A cs) (k : Nat) (v : Value) (hv : cs[k]? = some v) : w.cell? ⟨A, k, none⟩ = some v := row_cell H.row k v hv
/-- One turn. -/
structure TurnQ where
  lists : List (List Ch)
  arm : Int
  keep : List Bool
  again : Int
  hold : List Bool
/-- The slice of turns. -/
def TsAt (w : World) (x : Value) (ts : List TurnQ) : Prop :=
  ∃ sp c, x = .slice sp ts.length c ∧ (ts ≠ [] → ∃ b o, sp = some ⟨b, o, none⟩ ∧ ∀ (i : Nat) (t : TurnQ), ts[i]? = some t → (-9223372036854775808 ≤ t.arm ∧ t.arm ≤ 9223372036854775807) ∧ (-9223372036854775808 ≤ t.again ∧ t.again ≤ 9223372036854775807) ∧ ∃ lv kv hv, w.cell? ⟨b, o + i * 5, none⟩ = some lv ∧ w.cell? ⟨b, o + i * 5 + 1, none⟩ = some (.int .i64 t.arm) ∧ w.cell? ⟨b, o + i * 5 + 2, none⟩ = some kv ∧ w.cell? ⟨b, o + i * 5 + 3, none⟩ = some (.int .i64 t.again) ∧ w.cell? ⟨b, o + i * 5 + 4, none⟩ = some hv ∧ ChssAt (fun j => j < w.heap.size) w lv t.lists ∧ ValsAt w kv (t.keep.map .bool) ∧ ValsAt w hv (t.hold.map .bool))
theorem cell_low {w w' : World} {A k : Nat} {v : Value} (h : w.cell? ⟨A, k, none⟩ = some v) (hb : Below w.heap.size w w') : w'.cell? ⟨A, k, none⟩ = some v := cell_aside (S := none_) h (Aside.of_below hb) fun h => h
/-- What the calls of a turn want of it. -/
structure TurnV (w0 w : World) (g o : Nat) (t : TurnQ) (lv kv hv : Value) : Prop where
  arm : -9223372036854775808 ≤ t.arm ∧ t.arm ≤ 9223372036854775807
  again : -9223372036854775808 ≤ t.again ∧ t.again ≤ 9223372036854775807
  c0 : w.cell? ⟨g, o, none⟩ = some lv
  c1 : w.cell? ⟨g, o + 1, none⟩ = some (.int .i64 t.arm)
  c2 : w.cell? ⟨g, o + 2, none⟩ = some kv
  c3 : w.cell? ⟨g, o + 3, none⟩ = some (.int .i64 t.again)
  c4 : w.cell? ⟨g, o + 4, none⟩ = some hv
  lists : ChssAt (fun j => j < w0.heap.size) w0 lv t.lists
  keep : ValsAt w0 kv (t.keep.map .bool)
  hold : ValsAt w0 hv (t.hold.map .bool)
theorem TsAt.one {w0 w : World} {sp : Option Addr} {n c i : Nat} {ts : List TurnQ} (h : TsAt w0 (.slice sp n c) ts) (hb : Below w0.heap.size w0 w) (hi : i < ts.length) : ∃ t g o lv kv hv, ts[i]? = some t ∧ sp = some ⟨g, o, none⟩ ∧ TurnV w0 w g (o + i * 5) t lv kv hv := by
  obtain ⟨sp', c', e, h2⟩ := h
  simp only [Value.slice.injEq] at e
  obtain ⟨rfl, _, _⟩ := e
  obtain ⟨b, o, rfl, h3⟩ := h2 (by intro e; rw [e] at hi; simp at hi)
  obtain ⟨h4, h5, lv, kv, hv, e0, e1, e2, e3, e4, h6, h7, h8⟩ := h3 i ts[i] (List.getElem?_eq_getElem hi)
  have low : ∀ {k : Nat} {v : Value}, w0.cell? ⟨b, k, none⟩ = some v → w.cell? ⟨b, k, none⟩ = some v := fun h => cell_aside (S := none_) h (Aside.of_below hb) fun h => h
  exact ⟨ts[i], b, o, lv, kv, hv, List.getElem?_eq_getElem hi, rfl, ⟨h4, h5, low e0, low e1, low e2, low e3, low e4, h6, h7, h8⟩⟩
theorem vals_low {w0 w : World} {B : Set_} {v : Value} {l : List Bool} (h : ValsAt w0 v (l.map .bool)) (hI : InB w0 w B) : l ≠ [] → ∀ j, v.ownBlock = some j → ¬ B j := fun hne j hj hB => by
  have := ValsAt.old h (by simpa using hne) j hj
  have := (hI j hB).1
  omega
section
variable {PAt : Set_ → Set_ → World → Value → PS → Prop} {SAt : Set_ → Set_ → World → Value → Value → SS → Prop} (HP : Plate PAt) (HS : Store PAt SAt)
variable {n k : Nat} {w0 w w' : World} {p t : Value} {ps rp ap : List (Bs × Bs)} {B : Set_}
include HS in
theorem LifeAt.same (H : LifeAt PAt SAt n w0 w p t rp ap false k B) {K : Set_} {rv : Value} {qs : List (Bs × Bs)} (hx : PrsAt K w rv qs) (hq : RightP qs) (h g u : Nat) :
    Calls Tryz.prog 21 #[t, .agg #[.int .i64 (h : Int), .int .i64 (g : Int), .int .i64 (u : Int), rv]] w fun e w' => e = .returned (.bool (decide (rp = qs))) ∧ Below w.heap.size w w' := by
  obtain ⟨T, s, G, S, R, S2, R2, h1, h2, h3, h4, h5, h6, h7⟩ := H
  obtain ⟨l1, l2, l3, l4, l5, l6, l7⟩ := h2
  rcases l7 with ⟨_, m2, m3, m4, m5⟩ | ⟨e, _⟩
  · have := slsame_c HS (h := h) (g := g) (u := u) h1.st (by rw [m4]; exact l3) (by rw [m4]; exact l1) (by rw [m4]; exact l4) hx hq
    rw [m4] at this
    exact this
  · cases e
theorem LifeAt.evened (h : LifeAt PAt SAt n w0 w p t rp ap false k B) : LifeAt PAt SAt n w0 w p t rp rp false k B := by
  obtain ⟨T, s, G, S, R, S2, R2, h1, h2, h3, h4, h5, h6, h7⟩ := h
  obtain ⟨l1, l2, l3, l4, l5, l6, l7⟩ := h2
  rcases l7 with ⟨a1, a2, a3, a4, a5⟩ | ⟨e, _⟩
  · subst a3
    exact ⟨T, s, G, S, R, S2, R2, h1, ⟨l1, l2, l3, l4, l5, l6, Or.inl ⟨a1, a2, rfl, a4, a5⟩⟩, h3, h4, h5, h6, h7⟩
  · cases e
theorem RestAt.uncalm {calm : Bool} (h : RestAt PAt n w0 w p ps k calm B) {k' : Nat} (hk : k ≤ k') : RestAt PAt n w0 w p ps k' false B := by
  obtain ⟨T, s, S, R, h1, h2, h3, h4, h5, h6, h7⟩ := h
  exact ⟨T, s, S, R, h1, h2, by omega, h4, (fun e => by cases e), h6, h7⟩
end
theorem info_rs : (Tryz.prog.info? 34).map (·.size) = some 4 := by kernel_rfl
theorem rs_load {w : World} {A : Nat} {a b c d : Value} (h : w.heap[A]? = some (.cells #[a, b, c, d] 34 (0, 0))) : (loadVar 34 ⟨A, 0, none⟩).run Tryz.prog w = .ok (.agg #[a, b, c, d]) w := run_loadVar_row w A 34 34 #[a, b, c, d] (0, 0) _ h Tryz.underlying34 rfl info_rs
set_option maxRecDepth 100000 in
theorem rnew15_c (w : World) (n : Nat) (h2 : 2 ≤ n) (hn : n ≤ 100000) : Calls Tryz.prog 11 #[.int .i64 (n : Int)] w fun e w' => e = .returned (.agg #[.int .i64 (((n - 2) / 2 : Nat) : Int), .int .i64 ((1 : Nat) : Int), .int .i64 ((1 : Nat) : Int), .slice none 0 0]) ∧ Below w.heap.size w w' := by
  obtain ⟨m, hm⟩ : ∃ m, n - 2 = m := ⟨_, rfl⟩
  obtain ⟨h, hh⟩ : ∃ h, m / 2 = h := ⟨_, rfl⟩
  rw [hm, hh]
  have e1 : (n : Int) - 2 = (m : Int) := by omega
  have e2 : (m : Int) / 2 = (h : Int) := by omega
  have e3 : Int.tdiv (m : Int) 2 = (h : Int) := by rw [Int.tdiv_eq_ediv_of_nonneg (by omega)]; exact e2
  have b1 : m ≤ 100000 := by omega
  have b2 : h ≤ 100000 := by omega
  clear hm hh
  go_enter Tryz.func11, Tryz.ntmps11
  go_wp2
  obtain ⟨W, hW⟩ : ∃ y, w.alloc (.cells #[.int .i64 (h : Int), .int .i64 1, .int .i64 1, .slice none 0 0] 34) = y := ⟨_, rfl⟩
  have hb : Below w.heap.size w W := by rw [← hW]; exact (Below.refl _ _).alloc (Nat.le_refl _) _
  have hr : W.heap[w.heap.size]? = some (.cells #[.int .i64 (h : Int), .int .i64 1, .int .i64 1, .slice none 0 0] 34 (0, 0)) := by rw [← hW]; exact (MapKept.heap_alloc w _).1
  rw [hW]
  refine bodyPost_ret (results_cell1 Tryz.results11 _ _ w.heap.size _ rfl (rs_load hr)) rfl ?_
  exact ⟨rfl, hb⟩
/-- A row of four cells is written over. -/
def put4 (w : World) (A : Nat) (a b c d : Value) : World := (((w.setCell ⟨A, 0, none⟩ a).setCell ⟨A, 1, none⟩ b).setCell ⟨A, 2, none⟩ c).setCell ⟨A, 3, none⟩ d
theorem put4_row {w : World} {A : Nat} {T : TypeId} {a b c d a' b' c' d' : Value} (h : w.heap[A]? = some (.cells [a, b, c, d].toArray T (0, 0))) : (put4 w A a' b' c' d').heap[A]? = some (.cells [a', b', c', d'].toArray T (0, 0)) :=
  row_put (row_put (row_put (row_put h 0 (by simp) a') 1 (by simp) b') 2 (by simp) c') 3 (by simp) d'
theorem put4_aside (w : World) (A : Nat) (a b c d : Value) : Aside (fun j => j = A) w (put4 w A a b c d) :=
  (((set_aside w A 0 a).trans (set_aside _ A 1 b) fun _ _ h => h).trans (set_aside _ A 2 c) fun _ _ h => h).trans (set_aside _ A 3 d) fun _ _ h => h
theorem RV.put {w0 w : World} {B X : Set_} {A : Nat} {ps qs : List (Bs × Bs)} {h g u h' g' u' : Nat} {rv qv : Value} (H : RV w0 w B X A ps h g u rv) (hX : X A) (hq : PrsAt (fun j => ¬ B j ∧ ¬ X j) w qv qs) : RV w0 (put4 w A (.int .i64 (h' : Int)) (.int .i64 (g' : Int)) (.int .i64 (u' : Int)) qv) B X A qs h' g' u' qv :=
  ⟨put4_row H.row, H.out, H.ge, hq.aside (put4_aside w A _ _ _ _) fun _ hk h => h.2 (hk ▸ hX)⟩
/-- Two variables are set at once. -/
theorem both_put {PAt : Set_ → Set_ → World → Value → PS → Prop} {SAt : Set_ → Set_ → World → Value → Value → SS → Prop} (HP : Plate PAt) (HS : Store PAt SAt) {n k : Nat} {w0 w : World} {p t : Value} {rp ap : List (Bs × Bs)} {cut : Bool} {B X : Set_} {A6 A12 A8 : Nat} {ps ps' qs : List (Bs × Bs)} {h g u h2 g2 u2 h3 g3 u3 : Nat} {rv rv2 qv : Value} {cs : List Value}
    (hL : LifeAt PAt SAt n w0 w p t rp ap cut k B) (hR : RV w0 w B X A6 ps h g u rv) (hQ : RV w0 w B X A12 ps' h2 g2 u2 rv2) (hT : TV B w A8 cs) (hX6 : X A6) (hX12 : X A12) (hne : A6 ≠ A12) (h86 : A8 ≠ A6) (h812 : A8 ≠ A12) (hq : PrsAt (fun j => ¬ B j ∧ ¬ X j) w qv qs) :
    ∃ W, W = (put4 (put4 w A6 (.int .i64 (h3 : Int)) (.int .i64 (g3 : Int)) (.int .i64 (u3 : Int)) qv) A12 (.int .i64 (h3 : Int)) (.int .i64 (g3 : Int)) (.int .i64 (u3 : Int)) qv).drew ∧ LifeAt PAt SAt n w0 W p t rp ap cut k B ∧ RV w0 W B X A6 qs h3 g3 u3 qv ∧ RV w0 W B X A12 qs h3 g3 u3 qv ∧ TV B W A8 cs := by
  have a1 := put4_aside w A6 (.int .i64 (h3 : Int)) (.int .i64 (g3 : Int)) (.int .i64 (u3 : Int)) qv
  obtain ⟨w1, hw1⟩ : ∃ y, put4 w A6 (.int .i64 (h3 : Int)) (.int .i64 (g3 : Int)) (.int .i64 (u3 : Int)) qv = y := ⟨_, rfl⟩
  have r1 : RV w0 w1 B X A6 qs h3 g3 u3 qv := by rw [← hw1]; exact hR.put hX6 hq
  rw [hw1] at a1 ⊢
  have a2 := put4_aside w1 A12 (.int .i64 (h3 : Int)) (.int .i64 (g3 : Int)) (.int .i64 (u3 : Int)) qv
  have q1 := hQ.other a1 hne.symm hX6
  obtain ⟨w2, hw2⟩ : ∃ y, put4 w1 A12 (.int .i64 (h3 : Int)) (.int .i64 (g3 : Int)) (.int .i64 (u3 : Int)) qv = y := ⟨_, rfl⟩
  have q2 : RV w0 w2 B X A12 qs h3 g3 u3 qv := by rw [← hw2]; exact q1.put hX12 r1.prs
  rw [hw2] at a2 ⊢
  have hd : Below w2.heap.size w2 w2.drew := (Below.refl _ _).drew
  exact ⟨_, rfl, ((hL.aside HP HS a1 (fun j hj => hj ▸ hR.out) fun j hj => hj ▸ hR.ge).aside HP HS a2 (fun j hj => hj ▸ hQ.out) fun j hj => hj ▸ hQ.ge).below HP HS hd, (r1.other a2 hne hX12).below hd, q2.below hd, ((hT.other a1 h86).other a2 h812).below hd⟩
theorem rs_right {l : List Ch} (h : SmallL l) : ∀ c ∈ l, c.key.length ≤ 1099511627776 := fun c hc => by have := (h.2 c hc).1; omega
theorem keys_right {ps : List (Bs × Bs)} (h : RightP ps) : KeysL ps := fun x hx => by have := (h x hx).2.1; omega
/-- What With(pairs, plain(list)) gives, in a variable's pairs. -/
theorem with_plain {B X : Set_} {w0 w : World} {x y : Value} {ps : List (Bs × Bs)} {l : List Ch} (hI : InB w0 w B) (hX : ∀ j, X j → w0.heap.size ≤ j ∧ j < w.heap.size) (hp : PrsAt (fun j => ¬ B j ∧ ¬ X j) w x ps) (hc : ChsAt (fun q => q < w0.heap.size) w y l) (hl : SmallL l) (hr : RightP ps) (hn : ps.length ≤ 100000) :
    (Calls Tryz.prog 13 #[y] w fun e w1 => ∃ v, e = .returned v ∧ ChsAt (fun k => ¬ B k ∧ ¬ X k) w1 v l ∧ Below w.heap.size w w1) ∧
    ∀ w1 v, ChsAt (fun k => ¬ B k ∧ ¬ X k) w1 v l → Below w.heap.size w w1 → Calls Tryz.prog 25 #[x, v] w1 fun e w2 => ∃ q, e = .returned q ∧ PrsAt (fun k => ¬ B k ∧ ¬ X k) w2 q (withP ps l) ∧ Below w1.heap.size w1 w2 := by
  refine ⟨(plain_c hc (by have := hl.1; omega)).mono ?_, fun w1 v h1 hb => ?_⟩
  · rintro e w1 ⟨v, rfl, h1, h2⟩
    refine ⟨v, rfl, h1.mono fun k _ h => ?_, h2⟩
    rcases h.1 with h3 | h3
    · exact ⟨fun hB => by have := (hI k hB).1; omega, fun hx => by have := (hX k hx).1; omega⟩
    · exact ⟨fun hB => by have := (hI k hB).2; omega, fun hx => by have := (hX k hx).2; omega⟩
  · refine (rwith_c (hp.below hb) h1 (by have := hl.1; omega) (keys_right hr) (rs_right hl)).mono ?_
    rintro e w2 ⟨q, rfl, h2, h3⟩
    refine ⟨q, rfl, h2.mono fun k _ h => ?_, h3⟩
    rcases h.1 with h4 | h4
    · exact h4
    · have := hb.size
      exact ⟨fun hB => by have := (hI k hB).2; omega, fun hx => by have := (hX k hx).2; omega⟩
end Go.Proofs.YtbjgknoipbekoaaGreat
