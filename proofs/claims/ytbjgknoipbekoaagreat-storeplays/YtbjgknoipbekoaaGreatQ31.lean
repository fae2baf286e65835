/-
  The reference's Get and Keys, walked.
  StorePlays: a store beside the reference's on a plate, and a second one that is opened on it.
-/
import Derived.Test.YtbjgknoipbekoaaGreatQ30
import Derived.Test.YtbjgknoipbekoaaGreatQ3
import Derived.Test.YtbjgknoipbekoaaGreatQ28
namespace Go.Proofs.YtbjgknoipbekoaaGreat
open Go.RowKit
theorem get_step {ps : List (Bs × Bs)} {i : Nat} {x : Bs × Bs} {k : Bs} (h : ps[i]? = some x) : getP (ps.drop i) k = if x.1 = k then some x.2 else getP (ps.drop (i + 1)) k := by
  obtain ⟨hl, e⟩ := List.getElem?_eq_some_iff.1 h
  rw [List.drop_eq_getElem_cons hl, e]
  rfl
set_option maxRecDepth 100000 in
set_option maxHeartbeats 4000000 in
theorem rget_c {K : Set_} {w : World} {rv x : Value} {ps : List (Bs × Bs)} {key : Bs} {h g u : Nat} (hp : PrsAt K w rv ps) (hx : BytesAt w x key) (hn : ps.length ≤ 1000000) (hr : RightP ps) :
    Calls Tryz.prog 16 #[.agg #[.int .i64 (h : Int), .int .i64 (g : Int), .int .i64 (u : Int), rv], x] w fun e w' => ∃ v, e = .returned (.tuple #[v, .bool (getP ps key).isSome]) ∧ BytesAt w' v ((getP ps key).getD []) ∧ Below w.heap.size w w' := by
  obtain ⟨sp, c, rfl, _⟩ := hp.form
  obtain ⟨sx, cx, rfl, _⟩ := bytes_open hx
  obtain ⟨N, hN⟩ : ∃ N, ps.length = N := ⟨_, rfl⟩
  obtain ⟨KX, hKX⟩ : ∃ N, key.length = N := ⟨_, rfl⟩
  obtain ⟨ANS, hA⟩ : ∃ y, getP ps key = y := ⟨_, rfl⟩
  rw [hN] at hp hn ⊢
  rw [hKX] at hx ⊢
  rw [hA]
  obtain ⟨w1, hw1⟩ : ∃ y, w.alloc (.cells #[.int .i64 (h : Int), .int .i64 (g : Int), .int .i64 (u : Int), .slice sp N c] 34) = y := ⟨_, rfl⟩
  have hb1 : Below w.heap.size w w1 := by rw [← hw1]; exact (Below.refl _ _).alloc (Nat.le_refl _) _
  have HA2 : Hid (R4 w1 w.heap.size (.int .i64 (h : Int)) (.int .i64 (g : Int)) (.int .i64 (u : Int)) (.slice sp N c)) := by show R4 _ _ _ _ _ _; unfold R4; rw [← hw1]; exact (MapKept.heap_alloc w _).1
  have HP := hide (hp.below hb1)
  have HX := hide (hx.below hb1)
  have HB1 := hide hb1
  have HN := hide hN
  have HR := hide hr
  have HST : Hid (getP (ps.drop 0) key = ANS) := hA
  clear hp hx hr hN hKX hA hb1
  go_enter Tryz.func16, Tryz.ntmps16
  go_upto_region 1 with fail
  go_wp2
  go_loopw [6] (fun ii wr => ∃ i : Nat, i ≤ N ∧ ii = .int .i64 (i : Int) ∧ Hid (getP (ps.drop i) key = ANS) ∧ Hid (Below w1.heap.size w1 wr)) (fun ii _ => N - (intOf ii).toNat)
  case atStart => exact ⟨0, by omega, rfl, unhide HST, Below.refl _ _⟩
  case round =>
    obtain ⟨i, hi, rfl, HS, HB⟩ := hrel
    have r3 := ((unhide HA2).below (unhide HB)).cells.2.2.2
    by_cases hlt : i < N
    · obtain ⟨pr, gp, op, q1, d1, q2, d2, hpr, hsp, _, hgp, h2⟩ := ((unhide HP).below (unhide HB)).one (i := i) (by have := unhide HN; omega)
      subst hsp
      have hS := unhide HS
      rw [get_step hpr] at hS
      have HS2 := hide hS
      have hlp : pr.1.length ≤ 1099511627776 := by have := (unhide HR pr (List.mem_of_getElem? hpr)).2.1; omega
      have f1 : decide ((i : Int) < (N : Int)) = true := by simp; omega
      have f1n : decide (i < N) = true := by simp; omega
      have j0 : (0 : Int) ≤ (i : Int) := by omega
      have j1 : (i : Int) < (N : Int) := by omega
      obtain ⟨KP, hKP⟩ : ∃ y, pr.1.length = y := ⟨_, rfl⟩
      obtain ⟨VP, hVP⟩ : ∃ y, pr.2.length = y := ⟨_, rfl⟩
      have HK1 : Hid (BytesAt wr (.slice q1 KP d1) pr.1) := by have := h2.key.at_; rw [hKP] at this; exact this
      have HV1 : Hid (BytesAt wr (.slice q2 VP d2) pr.2) := by have := h2.val.at_; rw [hVP] at this; exact this
      have p0 := h2.c0
      have p1 := h2.c1
      rw [hKP] at p0
      rw [hVP] at p1
      have Hsa := hide (same_any wr _ _ pr.1 key (unhide HK1) ((unhide HX).below (unhide HB)) hlp)
      have HQ1 := hide p1
      clear h2 hpr hKP hVP hS HS hlp
      by_cases heq : pr.1 = key
      · rw [decide_eq_true heq] at Hsa
        have HE : Hid (ANS = some pr.2) := by show _ = _; rw [← unhide HS2, if_pos heq]
        clear heq HS2
        go_upto_region 5 with (first
          | (go_at_call 19; refine (unhide Hsa).mono ?_; rintro e w4 ⟨rfl, b4⟩
             have HB4 := hide ((unhide HB).trans (b4.mono (unhide HB).size))
             have r34 := ((unhide HA2).below (unhide HB4)).cells.2.2.2
             have p14 := cell_low (unhide HQ1) b4
             have HV4 := hide ((unhide HV1).below b4)
             clear b4))
        clear r3 p0 p1
        go_wp2
        go_ret2
        refine ⟨_, by rw [unhide HE]; rfl, ?_, (unhide HB1).trans ((unhide HB4).mono (unhide HB1).size)⟩
        rw [unhide HE]
        exact unhide HV4
      · rw [decide_eq_false heq] at Hsa
        have HE : Hid (getP (ps.drop (i + 1)) key = ANS) := by show _ = _; rw [← unhide HS2, if_neg heq]
        clear heq HS2
        go_wp2_with (first
          | (go_at_call 19; refine (unhide Hsa).mono ?_; rintro e w4 ⟨rfl, b4⟩
             have HB4 := hide ((unhide HB).trans (b4.mono (unhide HB).size))
             clear b4))
        exact ⟨⟨i + 1, by omega, by simp, HE, HB4⟩, by simp [intOf]; omega⟩
    · have hin : N = i := by omega
      subst hin
      have f1 : decide ((N : Int) < (N : Int)) = false := by simp
      have f1n : decide (N < N) = false := by simp
      have HE : Hid (ANS = none) := by
        show _ = _
        rw [← unhide HS, List.drop_of_length_le (by have := unhide HN; omega)]
        rfl
      clear HS
      go_wp2
      go_ret2
      refine ⟨_, by rw [unhide HE]; rfl, ?_, (unhide HB1).trans ((unhide HB).mono (unhide HB1).size)⟩
      rw [unhide HE]
      exact bytes_nil _
theorem keys_take {ps : List (Bs × Bs)} {i : Nat} {x : Bs × Bs} (pre : Bs) (h : ps[i]? = some x) : keysP (ps.take (i + 1)) pre = keysP (ps.take i) pre ++ (if pre.isPrefixOf x.1 then [x.1] else []) := by
  obtain ⟨hl, e⟩ := List.getElem?_eq_some_iff.1 h
  unfold keysP
  rw [← List.take_append_getElem hl, e, List.map_append, List.filter_append]
  congr 1
  simp only [List.map_cons, List.map_nil, List.filter_cons, List.filter_nil]
theorem pre_short {pre k : Bs} (h : k.length < pre.length) : pre.isPrefixOf k = false := by
  rw [Bool.eq_false_iff]
  intro he
  have := (List.isPrefixOf_iff_prefix.1 he).length_le
  omega
theorem pre_take {pre k : Bs} (h : pre.length ≤ k.length) : pre.isPrefixOf k = decide (k.take pre.length = pre) := by
  rw [Bool.eq_iff_iff, decide_eq_true_iff, List.isPrefixOf_iff_prefix]
  constructor
  · rintro ⟨t, rfl⟩
    exact List.take_left
  · intro e
    have h2 := List.take_append_drop pre.length k
    rw [e] at h2
    exact ⟨_, h2⟩
set_option maxRecDepth 100000 in
set_option maxHeartbeats 4000000 in
theorem rkeys_c {K : Set_} {w : World} {rv x : Value} {ps : List (Bs × Bs)} {pre : Bs} {h g u : Nat} (hp : PrsAt K w rv ps) (hx : BytesAt w x pre) (hn : ps.length ≤ 1000000) (hr : RightP ps) :
    Calls Tryz.prog 18 #[.agg #[.int .i64 (h : Int), .int .i64 (g : Int), .int .i64 (u : Int), rv], x] w fun e w' => ∃ v, e = .returned v ∧ BLists w' v (keysP ps pre) ∧ Below w.heap.size w w' := by
  obtain ⟨sp, c, rfl, _⟩ := hp.form
  obtain ⟨sx, cx, rfl, _⟩ := bytes_open hx
  obtain ⟨N, hN⟩ : ∃ N, ps.length = N := ⟨_, rfl⟩
  obtain ⟨KX, hKX⟩ : ∃ N, pre.length = N := ⟨_, rfl⟩
  rw [hN] at hp hn ⊢
  rw [hKX] at hx ⊢
  obtain ⟨w1, hw1⟩ : ∃ y, w.alloc (.cells #[.int .i64 (h : Int), .int .i64 (g : Int), .int .i64 (u : Int), .slice sp N c] 34) = y := ⟨_, rfl⟩
  have hb1 : Below w.heap.size w w1 := by rw [← hw1]; exact (Below.refl _ _).alloc (Nat.le_refl _) _
  have HA2 : Hid (R4 w1 w.heap.size (.int .i64 (h : Int)) (.int .i64 (g : Int)) (.int .i64 (u : Int)) (.slice sp N c)) := by show R4 _ _ _ _ _ _; unfold R4; rw [← hw1]; exact (MapKept.heap_alloc w _).1
  have HP := hide (hp.below hb1)
  have HX := hide (hx.below hb1)
  have HB1 := hide hb1
  have HN := hide hN
  have HKX := hide hKX
  have HR := hide hr
  clear hp hx hr hN hKX hb1
  go_enter Tryz.func18, Tryz.ntmps18
  go_upto_region 1 with fail
  go_wp2
  go_loopw [5, 6] (fun ov ii wr => ∃ (i m co : Nat) (so : Option Addr) (vs : List Value), i ≤ N ∧ m ≤ i ∧ ii = .int .i64 (i : Int) ∧ ov = .slice so m co ∧ Hid (vs.length = m) ∧ Hid ((keysP (ps.take i) pre).length = m) ∧ Hid (OwnV 23 wr w1.heap.size (.slice so m co) vs) ∧ Hid (∀ (j : Nat) (v : Value) (b : Bs), vs[j]? = some v → (keysP (ps.take i) pre)[j]? = some b → BytesAt w1 v b) ∧ Hid (Below w1.heap.size w1 wr)) (fun _ ii _ => N - (intOf ii).toNat)
  case atStart => exact ⟨0, 0, 0, none, [], by omega, by omega, rfl, rfl, rfl, rfl, own_nil _ _ _, (fun j v b h => by simp at h), Below.refl _ _⟩
  case round =>
    obtain ⟨i, m, co, so, vs, hi, hm, rfl, rfl, HVn, HKn, HO, HE, HB⟩ := hrel
    have r3 := ((unhide HA2).below (unhide HB)).cells.2.2.2
    by_cases hlt : i < N
    · obtain ⟨pr, gp, op, q1, d1, q2, d2, hpr, hsp, hKgp, hgp, h2w⟩ := (unhide HP).one (i := i) (by have := unhide HN; omega)
      subst hsp
      have h2 := h2w.aside (S := none_) (Aside.of_below (unhide HB)) (fun _ h => h.elim) hKgp
      have hKT := keys_take pre hpr
      have hlp : pr.1.length ≤ 32 := (unhide HR pr (List.mem_of_getElem? hpr)).2.1
      have f1 : decide ((i : Int) < (N : Int)) = true := by simp; omega
      have f1n : decide (i < N) = true := by simp; omega
      have j0 : (0 : Int) ≤ (i : Int) := by omega
      have j1 : (i : Int) < (N : Int) := by omega
      have HKT := hide hKT
      have HEl := hide h2.key
      have HKw : Hid (BytesAt w1 (.slice q1 pr.1.length d1) pr.1) := h2w.key.at_
      obtain ⟨KP, hKP⟩ : ∃ y, pr.1.length = y := ⟨_, rfl⟩
      have HKP := hide hKP
      have p0 := h2.c0
      rw [hKP] at p0 hlp HKw
      clear h2 h2w hpr hKP hKT hKgp
      by_cases hge : KX ≤ KP
      · have e1 : decide ((KX : Int) ≤ (KP : Int)) = true := by simp; omega
        have e1n : decide (KX ≤ KP) = true := by simp; omega
        have hfront := (unhide HEl).front KX (by have := unhide HKP; omega)
        have HF := hide hfront.at_
        have hcap : KX ≤ d1 := by obtain ⟨_, c', e, h1, _⟩ := id (unhide HEl).at_; simp only [Value.slice.injEq] at e; have := unhide HKP; have h9 : (pr.1.map bv).length = pr.1.length := List.length_map _; omega
        have s1 : ∀ w, (Instr.sliceAt 23 (.slice q1 KP d1) none (some (.int .i64 (KX : Int))) none).run Tryz.prog w = .ok (.slice q1 KX d1) w := fun w => slice_front q1 KP d1 KX hcap w
        have Hsa := hide (same_any wr _ _ (pr.1.take KX) pre (unhide HF) ((unhide HX).below (unhide HB)) (by rw [List.length_take]; omega))
        have HPre : Hid (pre.isPrefixOf pr.1 = decide (pr.1.take KX = pre)) := by show _ = _; rw [← unhide HKX]; exact pre_take (by have := unhide HKP; have := unhide HKX; omega)
        clear hfront hcap
        by_cases heq : pr.1.take KX = pre
        · rw [decide_eq_true heq] at Hsa HPre
          have HKs : Hid (keysP (ps.take (i + 1)) pre = keysP (ps.take i) pre ++ [pr.1]) := by show _ = _; rw [unhide HKT, unhide HPre]; rfl
          clear heq HPre HKT
          go_upto_region 7 with (first
            | (go_at_call 19; refine (unhide Hsa).mono ?_; rintro e w4 ⟨rfl, b4⟩
               have HB4 := hide ((unhide HB).trans (b4.mono (unhide HB).size))
               have HO4 := hide ((unhide HO).below b4)
               clear b4))
          obtain ⟨W5, hW5⟩ : ∃ y, w4.alloc (.cells #[Value.slice q1 KP d1] 23) = y := ⟨_, rfl⟩
          have hb5 : Below w4.heap.size w4 W5 := by rw [← hW5]; exact (Below.refl _ _).alloc (Nat.le_refl _) _
          have HV5 : Hid (ValsAt W5 (.slice (some ⟨w4.heap.size, 0, none⟩) 1 1) [Value.slice q1 KP d1]) := by show ValsAt _ _ _; rw [← hW5]; exact vals_new w4 [Value.slice q1 KP d1] 23
          have HO5 := hide ((unhide HO4).below hb5)
          have HB5 := hide ((unhide HB4).trans (hb5.mono (unhide HB4).size))
          clear hb5 HB4 HO4 p0 r3
          go_wp2_with (first
            | (at_builtin; refine wpList_append_vals Ebb rfl _ _ rfl w1.heap.size _ (.slice (some ⟨w4.heap.size, 0, none⟩) 1 1) vs [Value.slice q1 KP d1] rfl (unhide HO5) rfl (unhide HV5) (by simp [Value.oneCell']) (unhide HB5).size (by have := unhide HVn; simp; omega) ?_
               intro v6 W6 ho6 hg6 _
               obtain ⟨s6, c6, e6⟩ := ho6.form
               rw [List.length_append, unhide HVn, List.length_singleton] at e6
               subst e6
               have HO6 := hide ho6
               have HB6 := hide ((unhide HB5).trans (Aside.below (S := fun k => (Value.slice so m co).ownBlock = some k) (Aside.of_grown hg6 fun _ h => h) (unhide HB5).size fun k hk => (World.ownsRow.lt (unhide HO5) k hk).1))
               clear ho6 hg6))
          refine ⟨⟨i + 1, m + 1, _, _, vs ++ [Value.slice q1 KP d1], by omega, by omega, by simp, rfl, ?_, ?_, HO6, ?_, HB6⟩, by simp [intOf]; omega⟩
          · show _ = _
            rw [List.length_append, unhide HVn]; rfl
          · show _ = _
            rw [unhide HKs, List.length_append, unhide HKn]; rfl
          · intro j v b h1 h2
            rw [unhide HKs] at h2
            by_cases hj : j < m
            · rw [List.getElem?_append_left (by have := unhide HVn; omega)] at h1
              rw [List.getElem?_append_left (by have := unhide HKn; omega)] at h2
              exact unhide HE j v b h1 h2
            · rw [List.getElem?_append_right (by have := unhide HVn; omega)] at h1
              rw [List.getElem?_append_right (by have := unhide HKn; omega)] at h2
              rw [unhide HVn] at h1
              rw [unhide HKn] at h2
              have hz : j - m = 0 := by
                have := (List.getElem?_eq_some_iff.1 h1).1
                simp at this
                omega
              rw [hz] at h1 h2
              simp only [List.getElem?_cons_zero, Option.some.injEq] at h1 h2
              subst h1
              subst h2
              exact unhide HKw
        · rw [decide_eq_false heq] at Hsa HPre
          have HKs : Hid (keysP (ps.take (i + 1)) pre = keysP (ps.take i) pre) := by show _ = _; rw [unhide HKT, unhide HPre]; simp
          clear heq HPre HKT
          go_wp2_with (first
            | (go_at_call 19; refine (unhide Hsa).mono ?_; rintro e w4 ⟨rfl, b4⟩
               have HB4 := hide ((unhide HB).trans (b4.mono (unhide HB).size))
               have HO4 := hide ((unhide HO).below b4)
               clear b4))
          exact ⟨⟨i + 1, m, _, _, vs, by omega, by omega, by simp, rfl, HVn, by rw [unhide HKs]; exact HKn, HO4, by rw [unhide HKs]; exact HE, HB4⟩, by simp [intOf]; omega⟩
      · have e1 : decide ((KX : Int) ≤ (KP : Int)) = false := by simp; omega
        have e1n : decide (KX ≤ KP) = false := by simp; omega
        have HKs : Hid (keysP (ps.take (i + 1)) pre = keysP (ps.take i) pre) := by show _ = _; rw [unhide HKT, pre_short (by have := unhide HKP; have := unhide HKX; omega)]; simp
        clear HKT
        go_wp2
        exact ⟨⟨i + 1, m, _, _, vs, by omega, by omega, by simp, rfl, HVn, by rw [unhide HKs]; exact HKn, HO, by rw [unhide HKs]; exact HE, HB⟩, by simp [intOf]; omega⟩
    · have hin : N = i := by omega
      subst hin
      have f1 : decide ((N : Int) < (N : Int)) = false := by simp
      have f1n : decide (N < N) = false := by simp
      rw [List.take_of_length_le (by have := unhide HN; omega)] at HE HKn
      go_wp2
      go_ret
      refine ⟨_, rfl, ⟨vs, by rw [unhide HVn, unhide HKn], (unhide HO).vals, fun j v b h1 h2 => (unhide HE j v b h1 h2).below (unhide HB)⟩, (unhide HB1).trans ((unhide HB).mono (unhide HB1).size)⟩
end Go.Proofs.YtbjgknoipbekoaaGreat
namespace Go.Proofs.YtbjgknoipbekoaaGreat
open Go.RowKit
theorem ref_used (r : RS) (l : List Ch) : (refC r l).1.used ≤ max r.used r.half := by
  unfold refC
  split
  · exact Nat.le_max_left _ _
  · split
    · exact Nat.le_max_left _ _
    · split
      · rename_i h
        exact Nat.le_trans h.2 (Nat.le_max_right _ _)
      · split
        · exact Nat.le_max_left _ _
        · rename_i h
          show needs _ ≤ _
          omega
theorem ref_gen (r : RS) (l : List Ch) : r.gen ≤ (refC r l).1.gen ∧ (refC r l).1.gen ≤ r.gen + 1 := by
  unfold refC
  split
  · exact ⟨Nat.le_refl _, Nat.le_succ _⟩
  · split
    · exact ⟨Nat.le_refl _, Nat.le_succ _⟩
    · split
      · exact ⟨Nat.le_refl _, Nat.le_succ _⟩
      · split
        · exact ⟨Nat.le_refl _, Nat.le_succ _⟩
        · exact ⟨Nat.le_succ _, Nat.le_refl _⟩
section
variable {PAt : Set_ → Set_ → World → Value → PS → Prop} {SAt : Set_ → Set_ → World → Value → Value → SS → Prop} (HP : Plate PAt) (HS : Store PAt SAt)
variable {n k : Nat} {w0 w w' : World} {p t : Value} {r : RS} {B : Set_}
theorem SysAt.inb (h : SysAt PAt SAt n w0 w p t r k B) : InB w0 w B := by
  obtain ⟨T, s, G, S, R, S2, R2, h1, h2, h3, h4, h5, h6, h7⟩ := h
  exact h7
theorem SysAt.sorted (h : SysAt PAt SAt n w0 w p t r k B) : SortedP r.pairs := by
  obtain ⟨T, s, G, S, R, S2, R2, h1, h2, _⟩ := h
  rw [h2.pairs]
  exact h2.live.on.sorted
include HS in
theorem SysAt.keysx (h : SysAt PAt SAt n w0 w p t r k B) {x : Value} {pre : Bs} (hx : BytesAt w x pre) (hl : pre.length ≤ 1000000) : Calls Tryz.prog 17 #[t, x] w fun e w' => ∃ v vs, e = .returned v ∧ ListsAt w.heap.size w' v vs (keysP r.pairs pre) ∧ Below w.heap.size w w' := by
  obtain ⟨T, s, G, S, R, S2, R2, h1, h2, _⟩ := h
  rw [h2.pairs]
  exact HS.keys x pre h1.st hx hl
include HS in
theorem SysAt.gen (h : SysAt PAt SAt n w0 w p t r k B) : Calls Tryz.prog 20 #[t] w fun e w' => e = .returned (.int .i64 (r.gen : Int)) ∧ Below w.heap.size w w' := by
  obtain ⟨T, s, G, S, R, S2, R2, h1, h2, _⟩ := h
  rw [h2.gen]
  exact HS.gen h1.st
include HP in
theorem SysAt.loose (h : SysAt PAt SAt n w0 w p t r k B) : Calls Tryz.prog 22 #[p] w fun e w' => e = .returned (.int .i64 0) ∧ Below w.heap.size w w' := by
  obtain ⟨T, s, G, S, R, S2, R2, h1, h2, _⟩ := h
  have := HP.loose h1.p
  rw [h2.live.on.rest.loose] at this
  exact this
include HS in
theorem SysAt.same (H : SysAt PAt SAt n w0 w p t r k B) {K : Set_} {rv : Value} {qs : List (Bs × Bs)} (hx : PrsAt K w rv qs) (hq : RightP qs) (h g u : Nat) :
    Calls Tryz.prog 21 #[t, .agg #[.int .i64 (h : Int), .int .i64 (g : Int), .int .i64 (u : Int), rv]] w fun e w' => e = .returned (.bool (decide (r.pairs = qs))) ∧ Below w.heap.size w w' := by
  have hs := H.sorted
  obtain ⟨hr, hl⟩ := H.right
  obtain ⟨T, s, G, S, R, S2, R2, h1, h2, _⟩ := H
  rw [h2.pairs] at hs hr hl ⊢
  exact slsame_c HS h1.st hs hr hl hx hq
include HP HS in
/-- A second store is opened on the plate: both stand. -/
theorem SysAt.second (h : SysAt PAt SAt n w0 w p t r k B) (hk : k + 1 < 4294967296) :
    Calls Tryz.prog 10 #[p] w fun e w' => ∃ a, e = .returned (.tuple #[.pointer (some a), .int .i64 0]) ∧ SysAt PAt SAt n w0 w' p t r (k + 1) (BN B w w') ∧ SysAt PAt SAt n w0 w' p (.pointer (some a)) r (k + 1) (BN B w w') ∧ Aside B w w' := by
  obtain ⟨T, s, G, S, R, S2, R2, h1, h2, h3, h4, h5, h6, h7⟩ := h
  obtain ⟨G3, ho3, hG3, hB3⟩ := h2.again (by omega)
  refine (HS.open_ G.half T G.pairs h1.p (Or.inl ⟨_, _, h2.live.on⟩) (by omega) (by rw [h4]; exact h5)).mono ?_
  rw [ho3]
  rintro e w' ⟨v, rfl, S', R', S3, R3, q1, q2, q3, q4, q5, _, q7, q8, q9, q10⟩
  have hst := q5 G3 rfl
  obtain ⟨a, rfl⟩ := HS.ptr hst
  have hs := h1.b.size
  have hall : ∀ j, (S' j ∨ R' j) ∨ S3 j ∨ R3 j → B j ∨ w.heap.size ≤ j := fun j hj => by
    rcases hj with (hj | hj) | hj | hj
    · exact (q2 j hj).imp (fun h => h6 j (Or.inl (Or.inl h))) id
    · exact (q3 j hj).imp (fun h => h6 j (Or.inl (Or.inr h))) id
    · exact (q7 j hj).imp (fun h => h6 j (Or.inl (Or.inl h))) id
    · exact Or.inr (q8 j hj)
  have hge : ∀ j, B j ∨ w.heap.size ≤ j → w0.heap.size ≤ j := fun j hj => hj.elim (fun h => (h7 j h).1) fun h => by omega
  have g2 : Stg PAt SAt w0 w' p (.pointer (some a)) S' R' S3 R3 s G3 := ⟨hst, q1, q9, q10, fun j hj => hge j (hall j (Or.inl hj)), fun j hj => hge j (hall j (Or.inr hj)), h1.b.trans (q4.below hs fun j hj => h1.ge j (Or.inl hj))⟩
  have g1 : Stg PAt SAt w0 w' p t S' R' S2 R2 s G := h1.beside HS g2 q4 q2 q3
  have hI : InB w0 w' (BN B w w') := InB.bn h7 hs
  refine ⟨a, rfl, ⟨T, s, G, S', R', S2, R2, g1, h2, by omega, h4, h5, fun j hj => ⟨?_, hj.elim (HP.old g1.p j) (HS.old g1.st j)⟩, hI⟩, ⟨T + 1, s, G3, S', R', S3, R3, g2, hB3, by omega, h4, by rw [hG3]; exact h5, fun j hj => ⟨hall j hj, hj.elim (HP.old g2.p j) (HS.old g2.st j)⟩, hI⟩, q4.mono fun j _ hj => h6 j (Or.inl (Or.inl hj))⟩
  rcases hj with hj | hj
  · exact hall j (Or.inl hj)
  · exact Or.inl (h6 j (Or.inr hj))
end
end Go.Proofs.YtbjgknoipbekoaaGreat
