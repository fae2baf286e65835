/-
  The walks of the statements' same and few.
  The walk of the statements' tree: a tree over some leaves, and their hashes.
  The walk of the statements' anchor: the document's example.
  The walk of MerkleRoots.
-/
import Derived.Test.YtmhlafhbdpeglaaDoorQ2
import Derived.Test.YtmhlafhbdpeglaaDoorQ15
namespace Go.Proofs.YtmhlafhbdpeglaaDoor
open Go.RowKit
theorem LL.atb {w : World} {s : Option Addr} {n c : Nat} {l : List Bs} (h : LL w (.slice s n c) l) {i : Nat} {b : Bs} (hb : l[i]? = some b) : ∃ g o v, s = some ⟨g, o, none⟩ ∧ w.cell? ⟨g, o + i, none⟩ = some v ∧ BytesAt w v b := by
  have hi := (List.getElem?_eq_some_iff.1 hb).1
  obtain ⟨g, o, c', v, e, _, hc, hv⟩ := h.at i hi
  simp only [Value.slice.injEq] at e
  obtain ⟨rfl, _, _⟩ := e
  rw [List.getD_eq_getElem?_getD, hb] at hv
  exact ⟨g, o, v, rfl, hc, hv⟩
theorem take_same {la lb : List Bs} {i : Nat} (h : la.take i = lb.take i) {a b : Bs} (ha : la[i]? = some a) (hb : lb[i]? = some b) (e : a = b) : la.take (i + 1) = lb.take (i + 1) := by rw [List.take_add_one, List.take_add_one, h, ha, hb, e]
set_option maxRecDepth 100000 in
set_option maxHeartbeats 4000000 in
theorem lsame_c (w : World) (x y : Value) (la lb : List Bs) (hx : LL w x la) (hy : LL w y lb) (hl : ∀ b ∈ la, b.length ≤ 1099511627776) (hn : la.length ≤ 1000000) (hm : lb.length ≤ 1000000) :
    Calls Tryd.prog 17 #[x, y] w fun e w' => e = .returned (.bool (decide (la = lb))) ∧ Below w.heap.size w w' := by
  obtain ⟨sx, cx, rfl⟩ := hx.form
  obtain ⟨sy, cy, rfl⟩ := hy.form
  obtain ⟨n, hnn⟩ : ∃ n, la.length = n := ⟨_, rfl⟩
  obtain ⟨m, hmm⟩ : ∃ m, lb.length = m := ⟨_, rfl⟩
  have HX := hide hx
  have HY := hide hy
  have HL := hide hl
  have HN := hide hnn
  have HM := hide hmm
  rw [hnn] at HX hn ⊢
  rw [hmm] at HY hm ⊢
  by_cases hnm : n = m
  case neg =>
    have d1 : ((n : Int) != (m : Int)) = true := by simp; omega
    have e1 : decide (la = lb) = false := by
      apply decide_eq_false
      intro e
      rw [e] at hnn
      omega
    rw [e1]
    clear hx hy hl hnn hmm hnm e1
    go_enter Tryd.func17, Tryd.ntmps17
    go_wp2
    go_ret
    exact ⟨rfl, Below.refl _ _⟩
  subst hnm
  have d1 : ((n : Int) != (n : Int)) = false := by simp
  clear hx hy hl hnn hmm
  obtain ⟨D, hD⟩ : ∃ D, decide (la = lb) = D := ⟨_, rfl⟩
  rw [hD]
  have HD := hide hD
  clear hD
  go_enter Tryd.func17, Tryd.ntmps17
  go_wp2
  go_loopw [14] (fun ii wr => ∃ i : Nat, i ≤ n ∧ ii = .int .i64 (i : Int) ∧ Hid (la.take i = lb.take i) ∧ Hid (Below w.heap.size w wr)) (fun ii _ => n - (intOf ii).toNat)
  case atStart => exact ⟨0, by omega, rfl, rfl, Below.refl _ _⟩
  case round =>
    obtain ⟨i, hi, rfl, Ht, Hb⟩ := hrel
    by_cases hlt : i < n
    · have f1 : decide ((i : Int) < (n : Int)) = true := by simp; omega
      have f1n : decide (i < n) = true := by simp; omega
      have j0 : (0 : Int) ≤ (i : Int) := by omega
      have j1 : (i : Int) < (n : Int) := by omega
      obtain ⟨a, ha⟩ : ∃ a, la[i]? = some a := ⟨_, List.getElem?_eq_getElem (by have := unhide HN; omega)⟩
      obtain ⟨b, hb⟩ : ∃ a, lb[i]? = some a := ⟨_, List.getElem?_eq_getElem (by have := unhide HM; omega)⟩
      obtain ⟨g1, o1, v1, rfl, c1, b1⟩ := ((unhide HX).below (unhide Hb)).atb ha
      obtain ⟨g2, o2, v2, rfl, c2, b2⟩ := ((unhide HY).below (unhide Hb)).atb hb
      obtain ⟨s1, q1, rfl, _⟩ := bytes_open b1
      obtain ⟨s2, q2, rfl, _⟩ := bytes_open b2
      have Hs := hide (same_any wr _ _ a b b1 b2 (unhide HL a (List.mem_of_getElem? ha)))
      obtain ⟨A1, hA1⟩ : ∃ y, a.length = y := ⟨_, rfl⟩
      obtain ⟨A2, hA2⟩ : ∃ y, b.length = y := ⟨_, rfl⟩
      rw [hA1] at c1 Hs
      rw [hA2] at c2 Hs
      have Ha := hide ha
      have Hbb := hide hb
      clear b1 b2 hA1 hA2 ha hb
      by_cases hab : a = b
      · rw [decide_eq_true hab] at Hs
        have Hn := hide (take_same (unhide Ht) (unhide Ha) (unhide Hbb) hab)
        clear Ht hab
        go_wp2_with fail
        refine (unhide Hs).mono ?_
        rintro e w2 ⟨rfl, hb2⟩
        have Hb2 := hide ((unhide Hb).trans (hb2.mono (unhide Hb).size))
        clear hb2 Hs Hb c1 c2
        go_wp2
        refine ⟨⟨i + 1, by omega, ?_, Hn, Hb2⟩, ?_⟩
        · simp
        · simp [intOf]; omega
      · rw [decide_eq_false hab] at Hs
        have e1 : D = false := by
          rw [← unhide HD]
          apply decide_eq_false
          intro e
          have h1 := unhide Ha
          rw [e, unhide Hbb] at h1
          exact hab (Option.some.inj h1).symm
        subst e1
        clear hab Ht
        go_wp2_with fail
        refine (unhide Hs).mono ?_
        rintro e w2 ⟨rfl, hb2⟩
        have Hb2 := hide ((unhide Hb).trans (hb2.mono (unhide Hb).size))
        clear hb2 Hs Hb c1 c2
        go_wp2
        go_ret
        exact ⟨rfl, unhide Hb2⟩
    · obtain rfl : i = n := by omega
      have f1 : decide ((i : Int) < (i : Int)) = false := by simp
      have e1 : D = true := by
        rw [← unhide HD]
        apply decide_eq_true
        have h1 := unhide Ht
        rwa [List.take_of_length_le (by have := unhide HN; omega), List.take_of_length_le (by have := unhide HM; omega)] at h1
      subst e1
      clear Ht
      go_wp2
      go_ret
      exact ⟨rfl, unhide Hb⟩
/-- Few leaves, and small ones. -/
def fewB (ls : List Bs) : Bool := decide (ls.length ≤ 100) && decide (ls.flatten.length ≤ 10000)
set_option maxRecDepth 100000 in
set_option maxHeartbeats 1000000 in
theorem few_c (w : World) (x : Value) (ls : List Bs) (hx : LL w x ls) (hl : ∀ b ∈ ls, b.length ≤ 1099511627776000) : Calls Tryd.prog 10 #[x] w fun e w' => e = .returned (.bool (fewB ls)) ∧ w' = w := by
  obtain ⟨sp, c, rfl⟩ := hx.form
  have HX := hide hx
  have HL := hide hl
  clear hx hl
  obtain ⟨N, hN⟩ : ∃ N, ls.length = N := ⟨_, rfl⟩
  have HN := hide hN
  rw [hN]
  clear hN
  have n0 : (0 : Int) ≤ (N : Int) := by omega
  by_cases hb : N ≤ 100
  · have n1 : (N : Int) ≤ 100 := by omega
    have d1 : decide ((100 : Int) < (N : Int)) = false := by simp; omega
    have d1n : decide (100 < N) = false := by simp; omega
    have H0 : Hid ((ls.take 0).flatten.length = 0) := by show _ = _; simp
    go_enter Tryd.func10, Tryd.ntmps10
    go_wp2
    go_loop [3, 11] (fun nn ii => ∃ i q : Nat, i ≤ N ∧ q ≤ 10000 ∧ ii = .int .i64 (i : Int) ∧ nn = .int .i64 (q : Int) ∧ Hid ((ls.take i).flatten.length = q)) (fun _ ii => N - (intOf ii).toNat)
    case atStart => exact ⟨0, 0, by omega, by omega, rfl, rfl, H0⟩
    case round =>
      clear H0
      obtain ⟨i, q, hi, hq, rfl, rfl, Hi⟩ := hrel
      have i0 : (0 : Int) ≤ (i : Int) := by omega
      have i1 : (i : Int) ≤ 100 := by omega
      have q0 : (0 : Int) ≤ (q : Int) := by omega
      have q1 : (q : Int) ≤ 10000 := by omega
      by_cases hlt : i < N
      · have hlt' : i < ls.length := by have := unhide HN; omega
        obtain ⟨b, o, v, rfl, hc, hv⟩ := (unhide HX).atb (List.getElem?_eq_getElem hlt')
        obtain ⟨s2, c2, rfl, _⟩ := bytes_open hv
        have il : (i : Int) < (N : Int) := by omega
        have hbl := unhide HL _ (List.getElem_mem hlt')
        obtain ⟨m, hm⟩ : ∃ m, (ls[i]).length = m := ⟨_, rfl⟩
        have hnext : (ls.take (i + 1)).flatten.length = q + m := by
          rw [List.take_succ_eq_append_getElem hlt', List.flatten_append, List.length_append, unhide Hi]
          simp [hm]
        rw [hm] at hc hbl
        have m0 : (0 : Int) ≤ (m : Int) := by omega
        have m1 : (m : Int) ≤ 1099511627776000 := by omega
        obtain ⟨p, hp⟩ : ∃ p, q + m = p := ⟨_, rfl⟩
        rw [hp] at hnext
        have ep : (q : Int) + (m : Int) = (p : Int) := by omega
        have Hnext := hide hnext
        by_cases hbig : 10000 < p
        · have d2 : decide ((10000 : Int) < (p : Int)) = true := by simp; omega
          have d2n : decide (10000 < p) = true := by simp; omega
          have Hf : Hid (fewB ls = false) := by
            show _ = _
            unfold fewB
            have := flat_le ls (i + 1)
            rw [unhide Hnext] at this
            rw [decide_eq_false (show ¬ ls.flatten.length ≤ 10000 by omega), Bool.and_false]
          clear hv hm Hi hnext hp hbl
          go_wp2
          go_ret
          exact ⟨by rw [unhide Hf]; rfl, rfl⟩
        · have d2 : decide ((10000 : Int) < (p : Int)) = false := by simp; omega
          have d2n : decide (10000 < p) = false := by simp; omega
          clear hv hm Hi hnext hp hbl
          go_wp2
          go_round
          case rel => exact ⟨i + 1, p, by omega, by omega, by go_num, rfl, Hnext⟩
          case measure => simp [intOf]; omega
      · obtain rfl : i = N := by omega
        have di : decide ((i : Int) < (i : Int)) = false := by simp
        have Hf : Hid (fewB ls = true) := by
          show _ = _
          unfold fewB
          have h1 := unhide Hi
          rw [← unhide HN, List.take_length] at h1
          have h2 := unhide HN
          simp [h1, h2, hq, hb]
        clear Hi
        go_wp2
        go_ret
        exact ⟨by rw [unhide Hf]; rfl, rfl⟩
  · have d1 : decide ((100 : Int) < (N : Int)) = true := by simp; omega
    have d1n : decide (100 < N) = true := by simp; omega
    have Hf : Hid (fewB ls = false) := by
      show _ = _
      unfold fewB
      have h2 := unhide HN
      simp [h2, hb]
    go_enter Tryd.func10, Tryd.ntmps10
    go_wp2
    go_ret
    exact ⟨by rw [unhide Hf]; rfl, rfl⟩
end Go.Proofs.YtmhlafhbdpeglaaDoor
namespace Go.Proofs.YtmhlafhbdpeglaaDoor
open Go.RowKit
/-- A list of one's own that grows, off the blocks of S; so are its elements. -/
def GrO (S : Set_) (w : World) (base : Nat) (x : Value) (ls : List Bs) : Prop := ∃ vs : List Value, OwnV 28 w base x vs ∧ vs.length = ls.length ∧ (∀ k, x.ownBlock = some k → ¬ S k) ∧ ∀ i, i < ls.length → BytesAt w (vs.getD i undef) (ls.getD i []) ∧ (ls.getD i [] ≠ [] → Apart x (vs.getD i undef) ∧ ∀ k, (vs.getD i undef).ownBlock = some k → ¬ S k)
theorem GrO.grl {S : Set_} {w : World} {base : Nat} {x : Value} {ls : List Bs} (h : GrO S w base x ls) : GrL w base x ls := by
  obtain ⟨vs, h1, h2, _, h3⟩ := h
  exact ⟨vs, h1, h2, fun i hi => ⟨(h3 i hi).1, fun hne => ((h3 i hi).2 hne).1⟩⟩
theorem gro_nil (S : Set_) (w : World) (base : Nat) : GrO S w base (.slice none 0 0) [] := ⟨[], own_nil _ _ _, rfl, (fun k hk => by cases hk), fun i hi => by simp at hi⟩
theorem bytes_off {S : Set_} {a b : World} {x : Value} {l : Bs} (h : BytesAt a x l) (hb : Aside S a b) (hne : l ≠ [] → ∀ k, x.ownBlock = some k → ¬ S k) : BytesAt b x l := ValsAt.beside h hb fun h => hne (by simpa using h)
theorem GrO.aside {S U : Set_} {a b : World} {base : Nat} {x : Value} {ls : List Bs} (h : GrO S a base x ls) (hb : Aside U a b) (hU : ∀ k, U k → S k) : GrO S b base x ls := by
  obtain ⟨vs, h1, h2, h0, h3⟩ := h
  refine ⟨vs, h1.aside hb fun k hk hu => h0 k hk (hU k hu), h2, h0, fun i hi => ⟨bytes_off (h3 i hi).1 hb fun hne k hk hu => ((h3 i hi).2 hne).2 k hk (hU k hu), (h3 i hi).2⟩⟩
theorem GrO.below {S : Set_} {a b : World} {base : Nat} {x : Value} {ls : List Bs} (h : GrO S a base x ls) (hb : Below a.heap.size a b) : GrO S b base x ls := h.aside (U := none_) (Aside.of_below hb) fun _ hk => hk.elim
/-- The blocks of S are written, and S grows by new ones. -/
theorem GrO.moved {S S' : Set_} {a b : World} {base : Nat} {x : Value} {ls : List Bs} (h : GrO S a base x ls) (hb : Aside S a b) (hS : ∀ k, S' k → S k ∨ a.heap.size ≤ k) : GrO S' b base x ls := by
  obtain ⟨vs, h1, h2, h0, h3⟩ := h
  refine ⟨vs, h1.aside hb h0, h2, fun k hk hs => ?_, fun i hi => ⟨bytes_off (h3 i hi).1 hb fun hne => ((h3 i hi).2 hne).2, fun hne => ⟨((h3 i hi).2 hne).1, fun k hk hs => ?_⟩⟩⟩
  · rcases hS k hs with h | h
    · exact h0 k hk h
    · have := (World.ownsRow.lt h1 k hk).2; omega
  · rcases hS k hs with h | h
    · exact ((h3 i hi).2 hne).2 k hk h
    · have := ValsAt.old (h3 i hi).1 (by simpa using hne) k hk; omega
/-- One more at the end. -/
theorem run_gro {S : Set_} {w : World} {base : Nat} {v u : Value} {ls : List Bs} {b : Bs} (h : GrO S w base v ls) (hu : BytesAt w u b) (hap : b ≠ [] → Apart v u ∧ ∀ k, u.ownBlock = some k → ¬ S k) (ho : ∀ k, S k → k < w.heap.size) :
    ∃ vs, OwnV 28 w base v vs ∧ vs.length = ls.length ∧ ∀ v' w', OwnV 28 w' base v' (vs ++ [u]) → w.grownBy w' v.ownBlock → (v'.ownBlock = v.ownBlock ∨ v'.ownBlock = some w.heap.size) → GrO S w' base v' (ls ++ [b]) ∧ Aside (fun k => v.ownBlock = some k) w w' ∧ ∀ k, v.ownBlock = some k → ¬ S k := by
  obtain ⟨vs, h1, h2, h0, h3⟩ := h
  refine ⟨vs, h1, h2, fun v' w' ho' hg hor => ⟨?_, Aside.of_grown hg fun k hk => hk, h0⟩⟩
  obtain ⟨vs', g1, g2, g3⟩ := GrL.next (v := v) h2 (fun i hi => ⟨(h3 i hi).1, fun hne => ((h3 i hi).2 hne).1⟩) hu (fun hne => (hap hne).1) ho' hg hor
  have hv' : ∀ k, v'.ownBlock = some k → ¬ S k := fun k hk hs => by
    rcases hor with e | e
    · rw [e] at hk; exact h0 k hk hs
    · rw [e] at hk
      have := ho k hs
      simp only [Option.some.injEq] at hk
      omega
  have key : ∀ (y : Value) (c : Bs), BytesAt w y c → (c ≠ [] → Apart v y ∧ ∀ k, y.ownBlock = some k → ¬ S k) → BytesAt w' y c ∧ (c ≠ [] → Apart v' y ∧ ∀ k, y.ownBlock = some k → ¬ S k) := fun y c hy ha => by
    refine ⟨bytes_grown hy hg fun hne k hk => (ha hne).1 k hk, fun hne => ⟨fun k hk hq => ?_, (ha hne).2⟩⟩
    rcases hor with e | e
    · rw [e] at hk; exact (ha hne).1 k hk hq
    · rw [e] at hk
      have := ValsAt.old hy (by simpa using hne) k hq
      simp only [Option.some.injEq] at hk
      omega
  refine ⟨vs ++ [u], ho', by simp [h2], hv', fun i hi => ?_⟩
  rw [List.length_append, List.length_singleton] at hi
  by_cases hlt : i < ls.length
  · have e1 : (vs ++ [u]).getD i undef = vs.getD i undef := by simp [List.getD_eq_getElem?_getD, List.getElem?_append_left (show i < vs.length by omega)]
    have e2 : (ls ++ [b]).getD i [] = ls.getD i [] := by simp [List.getD_eq_getElem?_getD, List.getElem?_append_left hlt]
    rw [e1, e2]
    exact key _ _ (h3 i hlt).1 (h3 i hlt).2
  · obtain rfl : i = ls.length := by omega
    have e1 : (vs ++ [u]).getD ls.length undef = u := by rw [← h2]; simp [List.getD_eq_getElem?_getD]
    have e2 : (ls ++ [b]).getD ls.length [] = b := by simp [List.getD_eq_getElem?_getD]
    rw [e1, e2]
    exact key _ _ hu hap
/-- The hashes of leaves. -/
def leavesH (ls : List Bs) : Nat → Bs := fun i => leafH Sha.shaOf (ls.getD i [])
theorem len_leavesH (ls : List Bs) (i : Nat) : (leavesH ls i).length = 32 := Sha.length_shaOf _
/-- What is so between two leaves. -/
structure Grows (w wr : World) (t : Nat) (ls : List Bs) (i : Nat) (l : Value) (S : Set_) : Prop where
  tree : TreeAt S wr t (leavesH ls) i
  list : GrO S wr w.heap.size l ((ls.take i).map (leafH Sha.shaOf))
  set : ∀ k, S k → w.heap.size ≤ k
  b : Below w.heap.size w wr
theorem few_small {ls : List Bs} (h : fewB ls = true) : ls.length ≤ 100 ∧ ∀ b ∈ ls, b.length ≤ 10000 := by
  unfold fewB at h
  simp only [Bool.and_eq_true, decide_eq_true_eq] at h
  refine ⟨h.1, fun b hb => ?_⟩
  obtain ⟨i, hi, rfl⟩ := List.getElem_of_mem hb
  have h1 := flat_succ ls i hi
  have h2 := flat_le ls (i + 1)
  rw [h1, List.length_append, List.getD_eq_getElem?_getD, List.getElem?_eq_getElem hi] at h2
  simp only [Option.getD_some] at h2
  omega
set_option maxRecDepth 100000 in
set_option maxHeartbeats 4000000 in
theorem tree_any (w : World) (hr : Sha.Ready w) (x : Value) (ls : List Bs) (hx : LL w x ls) (hl : ls.length ≤ 100) (hsm : ∀ b ∈ ls, b.length ≤ 10000) :
    Calls Tryd.prog 11 #[x] w fun e w' => ∃ t l S, e = .returned (.tuple #[.pointer (some ⟨t, 0, none⟩), l]) ∧ TreeAt S w' t (leavesH ls) ls.length ∧ GrL w' w.heap.size l (ls.map (leafH Sha.shaOf)) ∧ (∀ k, S k → w.heap.size ≤ k) ∧ Below w.heap.size w w' := by
  obtain ⟨sp, c, rfl⟩ := hx.form
  have HX := hide hx
  have HR := hide hr
  have Hsm := hide hsm
  obtain ⟨N, hN⟩ : ∃ N, ls.length = N := ⟨_, rfl⟩
  have HN := hide hN
  rw [hN] at hl ⊢
  have n0 : (0 : Int) ≤ (N : Int) := by omega
  have n1 : (N : Int) ≤ 100 := by omega
  clear hx hr hsm hN
  go_enter Tryd.func11, Tryd.ntmps11
  go_wp2_with fail
  refine (mnew_c w).mono ?_
  rintro e w1 ⟨rfl, hw1⟩
  obtain ⟨t, ht⟩ : ∃ t, w.heap.size = t := ⟨_, rfl⟩
  have HG1 : Hid (Grows w w1 t ls 0 (.slice none 0 0) (fun k => k = t)) := by
    show Grows _ _ _ _ _ _ _
    rw [hw1, ← ht]
    exact ⟨tree_new w _, by rw [List.take_zero]; exact gro_nil _ _ _, fun k hk => by omega, (Below.refl _ _).alloc (Nat.le_refl _) _⟩
  have Ht := hide ht
  rw [ht]
  clear hw1 ht
  go_wp2
  go_loopw [5, 11] (fun l ii wr => ∃ (i : Nat) (S : Set_) (s : Option Addr) (c : Nat), i ≤ N ∧ ii = .int .i64 (i : Int) ∧ l = .slice s i c ∧ Hid (Grows w wr t ls i (.slice s i c) S)) (fun _ ii _ => N - (intOf ii).toNat)
  case atStart => exact ⟨0, _, _, _, by omega, rfl, rfl, HG1⟩
  case round =>
    clear HG1
    obtain ⟨i, S, s, cc, hi, rfl, rfl, HG⟩ := hrel
    rename World => wr
    have i0 : (0 : Int) ≤ (i : Int) := by omega
    have i1 : (i : Int) ≤ 100 := by omega
    by_cases hlt : i < N
    · have il : (i : Int) < (N : Int) := by omega
      have hlt' : i < ls.length := by have := unhide HN; omega
      obtain ⟨d, hd⟩ : ∃ d, ls[i]? = some d := ⟨_, List.getElem?_eq_getElem hlt'⟩
      obtain ⟨b, o, v, rfl, hc0, hv0⟩ := (unhide HX).atb hd
      have hc := cell_below hc0 (unhide HG).b
      have hv := hv0.below (unhide HG).b
      have HV0 := hide hv0
      have hgd : ls.getD i [] = d := by rw [List.getD_eq_getElem?_getD, hd]; rfl
      have htk : (ls.take (i + 1)).map (leafH Sha.shaOf) = (ls.take i).map (leafH Sha.shaOf) ++ [leafH Sha.shaOf d] := by rw [List.take_add_one, hd]; simp
      obtain ⟨s2, n2, c2, rfl⟩ := hv.forms
      have HV := hide hv
      have Hvl := hide (unhide Hsm _ (List.mem_of_getElem? hd))
      have Hgd := hide hgd
      have Htk := hide htk
      clear hv hv0 hc0 hgd hlt' hd htk
      go_wp2_with fail
      refine (tadd_c (N := i) (len_leavesH ls) (by omega) wr ((unhide HR).below (unhide HG).b) (unhide HG).tree (fun k hk => by have := (unhide HG).set k hk; have := (unhide HR).lt; omega) _ d (unhide HV) (by have := unhide Hvl; omega) (by unfold leavesH; rw [unhide Hgd])).mono ?_
      rintro e w1 ⟨rfl, S1, hT1, hS1, hA1⟩
      have hA1b : Below w.heap.size wr w1 := hA1.below (unhide HG).b.size (unhide HG).set
      have HT1 := hide hT1
      have HS1 : Hid (∀ k, S1 k → w.heap.size ≤ k) := fun k hk => by
        rcases hS1 k hk with h | h
        · exact (unhide HG).set k h
        · have := (unhide HG).b.size; omega
      have HB1 := hide ((unhide HG).b.trans hA1b)
      have HL1 := hide ((unhide HG).list.moved hA1 hS1)
      have HV1 := hide ((unhide HV0).below (unhide HB1))
      clear hT1 hS1 hA1 hA1b hc
      go_wp2_with fail
      refine (qleaf_c ref_hash w1 _ d (unhide HV1) (by have := unhide Hvl; omega)).mono ?_
      rintro e w2 ⟨v2, rfl, hR2⟩
      have hb3 : Below w1.heap.size w1 (w2.alloc (.cells #[v2] 28)) := hR2.b.alloc hR2.b.size _
      have hu3 : BytesAt (w2.alloc (.cells #[v2] 28)) v2 (leafH Sha.shaOf d) := hR2.bytes.below ((Below.refl _ _).alloc (Nat.le_refl _) _)
      have hl3 := (unhide HL1).below hb3
      have hap3 : leafH Sha.shaOf d ≠ [] → Apart (.slice s i cc) v2 ∧ ∀ k, v2.ownBlock = some k → ¬ S1 k := fun _ => ⟨fun k hk hq => by
        have := (unhide HL1).grl.lt k hk
        have := hR2.own.fresh k hq
        omega, fun k hk hs => by
        have := (unhide HT1).old k hs
        have := hR2.own.fresh k hk
        omega⟩
      obtain ⟨vs, hov, hvl, hnext⟩ := run_gro hl3 hu3 hap3 (fun k hk => Nat.lt_of_lt_of_le ((unhide HT1).old k hk) hb3.size)
      have HOV := hide hov
      have Hlit := hide (vals_new w2 [v2] 28)
      have Hone : Hid (∀ u ∈ [v2], u.oneCell' = true) := fun u hu => by rw [List.mem_singleton.1 hu]; exact one_cell_bytes hu3
      have Hln : Hid (vs.length + [v2].length ≤ 1073741824) := by show _ ≤ _; rw [hvl]; simp; omega
      have Hsz : Hid (w.heap.size ≤ (w2.alloc (.cells #[v2] 28)).heap.size) := Nat.le_trans (unhide HB1).size hb3.size
      have Hnext := hide hnext
      have HT3 := hide ((unhide HT1).below hb3)
      have HB3 := hide ((unhide HB1).trans (hb3.mono (unhide HB1).size))
      have HF3 := hide hl3.grl.fresh
      have Hvl3 : Hid (vs.length = i) := by show _ = _; rw [hvl, List.length_map, List.length_take]; have := unhide HN; omega
      obtain ⟨s4, n4, c4, rfl⟩ := hR2.bytes.forms
      clear hR2 hb3 hu3 hl3 hap3 hov hvl hnext HT1 HL1 HV1
      go_wp2_with (at_builtin; refine wpList_append_vals Ebb rfl _ _ rfl w.heap.size _ _ vs _ rfl (unhide HOV) rfl (unhide Hlit) (unhide Hone) (unhide Hsz) (unhide Hln) ?_
                   intro v5 w5 hO5 hg5 hor5
                   obtain ⟨s5, c5, hf5⟩ := hO5.form
                   rw [List.length_append, unhide Hvl3, List.length_singleton] at hf5
                   obtain ⟨hG5, hA5, hoff5⟩ := (unhide Hnext) v5 w5 hO5 hg5 hor5
                   subst hf5
                   have HG5 : Hid (Grows w w5 t ls (i + 1) (.slice s5 (i + 1) c5) S1) := hide ⟨(unhide HT3).aside hA5 (fun k hk hq => hoff5 k hq hk), (by rw [unhide Htk]; exact hG5), unhide HS1, (unhide HB3).grown hg5 (unhide HB3).size (unhide HF3)⟩
                   clear hO5 hg5 hor5 hG5 hA5 hoff5)
      go_roundw
      case rel =>
        first
          | exact ⟨i + 1, _, _, _, by omega, by go_num, rfl, HG5⟩
          | ((repeat apply Exists.intro); exact ⟨⟨i + 1, _, _, _, by omega, by go_num, rfl, HG5⟩, rfl⟩)
      case measure => simp [intOf]; omega
    · obtain rfl : i = N := by omega
      have di : decide ((i : Int) < (i : Int)) = false := by simp
      have HF : Hid (TreeAt S wr t (leavesH ls) i ∧ GrL wr t (.slice s i cc) (ls.map (leafH Sha.shaOf)) ∧ (∀ k, S k → t ≤ k) ∧ Below t w wr) := by
        have h := (unhide HG).list
        rw [← unhide HN, List.take_length, unhide HN, unhide Ht] at h
        have h2 := (unhide HG).set
        rw [unhide Ht] at h2
        have h3 := (unhide HG).b
        rw [unhide Ht] at h3
        exact ⟨(unhide HG).tree, h.grl, h2, h3⟩
      clear HG
      go_wp2
      try rw [unhide Ht]
      refine bodyPost_ret (v := .tuple #[.pointer (some ⟨t, 0, none⟩), .slice s i cc]) (by simp [results, Tryd.results11, go_sem]) rfl ⟨_, _, _, rfl, (unhide HF).1, (unhide HF).2.1, (unhide HF).2.2.1, (unhide HF).2.2.2⟩
theorem tree_c (w : World) (hr : Sha.Ready w) (x : Value) (ls : List Bs) (hx : LL w x ls) (hf : fewB ls = true) :
    Calls Tryd.prog 11 #[x] w fun e w' => ∃ t l S, e = .returned (.tuple #[.pointer (some ⟨t, 0, none⟩), l]) ∧ TreeAt S w' t (leavesH ls) ls.length ∧ GrL w' w.heap.size l (ls.map (leafH Sha.shaOf)) ∧ (∀ k, S k → w.heap.size ≤ k) ∧ Below w.heap.size w w' := tree_any w hr x ls hx (few_small hf).1 (few_small hf).2
end Go.Proofs.YtmhlafhbdpeglaaDoor
namespace Go.Proofs.YtmhlafhbdpeglaaDoor
open Go.RowKit
theorem GrL.hl {w : World} {base : Nat} {x : Value} {ls : List Bs} (h : GrL w base x (ls.map (leafH Sha.shaOf))) : HL w.heap.size w x (leavesH ls) 0 ls.length := by
  obtain ⟨vs, h1, h2, h3⟩ := h
  rw [List.length_map] at h2 h3
  refine ⟨vs, h1.vals, h2, fun i hi => ?_⟩
  have e : (ls.map (leafH Sha.shaOf)).getD i [] = leavesH ls (0 + i) := by
    unfold leavesH
    rw [Nat.zero_add, List.getD_eq_getElem?_getD, List.getD_eq_getElem?_getD, List.getElem?_map, List.getElem?_eq_getElem hi]
    rfl
  have h4 := (h3 i hi).1
  rw [e] at h4
  refine ⟨h4, fun k hk => ValsAt.old h4 (fun e0 => ?_) k hk⟩
  have h5 := len_leavesH ls (0 + i)
  rw [List.map_eq_nil_iff.1 e0] at h5
  simp at h5
theorem HL.before {B n m c : Nat} {w : World} {s : Option Addr} {g : Nat → Bs} {f : Nat} (h : HL B w (.slice s n c) g f n) (hm : m ≤ n) : HL B w (.slice s m c) g f m := h.front m hm
def lv3 : List Bs := [[1], [2], [3]]
theorem few3 : fewB lv3 = true := by decide
theorem path23 : pathP Sha.shaOf (leavesH lv3) 0 2 3 = [rootP Sha.shaOf (leavesH lv3) 0 2] := by
  have e : cutP 3 = 2 := by decide
  rw [path_right _ _ _ (by omega) (by rw [e]; omega), e, path_one]
  rfl
theorem bridge23 : (if (2 : Nat) = 0 ∨ (2 : Nat) = 3 then [] else bridgeP Sha.shaOf (leavesH lv3) 0 2 3 true) = [leavesH lv3 2] := by
  have e : cutP 3 = 2 := by decide
  rw [if_neg (by omega), bridge_left _ _ _ _ (by omega) (by rw [e]; omega), e, bridge_end, root_one]
  rfl
theorem ll_three (w : World) : ∃ w4, (((w.alloc (.cells #[.int .u8 1] 5)).alloc (.cells #[.int .u8 2] 5)).alloc (.cells #[.int .u8 3] 5)).alloc (.cells #[.slice (some ⟨w.heap.size, 0, none⟩) 1 1, .slice (some ⟨w.heap.size + 1, 0, none⟩) 1 1, .slice (some ⟨w.heap.size + 2, 0, none⟩) 1 1] 28) = w4 ∧ LL w4 (.slice (some ⟨w.heap.size + 3, 0, none⟩) 3 3) lv3 ∧ Below w.heap.size w w4 := by
  obtain ⟨w1, hw1⟩ : ∃ w1, w.alloc (.cells #[.int .u8 1] 5) = w1 := ⟨_, rfl⟩
  obtain ⟨w2, hw2⟩ : ∃ w2, w1.alloc (.cells #[.int .u8 2] 5) = w2 := ⟨_, rfl⟩
  obtain ⟨w3, hw3⟩ : ∃ w3, w2.alloc (.cells #[.int .u8 3] 5) = w3 := ⟨_, rfl⟩
  have b1 : Below w.heap.size w w1 := by rw [← hw1]; exact (Below.refl _ _).alloc (Nat.le_refl _) _
  have b2 : Below w1.heap.size w1 w2 := by rw [← hw2]; exact (Below.refl _ _).alloc (Nat.le_refl _) _
  have b3 : Below w2.heap.size w2 w3 := by rw [← hw3]; exact (Below.refl _ _).alloc (Nat.le_refl _) _
  have s1 : w1.heap.size = w.heap.size + 1 := by rw [← hw1]; simp
  have s2 : w2.heap.size = w.heap.size + 2 := by rw [← hw2]; simp [s1]
  have s3 : w3.heap.size = w.heap.size + 3 := by rw [← hw3]; simp [s2]
  have h1 : BytesAt w1 (.slice (some ⟨w.heap.size, 0, none⟩) 1 1) [1] := by rw [← hw1]; exact one_byte w 1
  have h2 : BytesAt w2 (.slice (some ⟨w.heap.size + 1, 0, none⟩) 1 1) [2] := by rw [← hw2, ← s1]; exact one_byte w1 2
  have h3 : BytesAt w3 (.slice (some ⟨w.heap.size + 2, 0, none⟩) 1 1) [3] := by rw [← hw3, ← s2]; exact one_byte w2 3
  rw [hw1, hw2, hw3]
  refine ⟨_, rfl, ?_, ?_⟩
  · have := ll_new3 w3 _ _ _ [1] [2] [3] 28 ((h1.below b2).below b3) (h2.below b3) h3
    rw [s3] at this
    exact this
  · have b4 : Below w3.heap.size w3 (w3.alloc (.cells #[.slice (some ⟨w.heap.size, 0, none⟩) 1 1, .slice (some ⟨w.heap.size + 1, 0, none⟩) 1 1, .slice (some ⟨w.heap.size + 2, 0, none⟩) 1 1] 28)) := (Below.refl _ _).alloc (Nat.le_refl _) _
    exact ((b1.trans (b2.mono b1.size)).trans (b3.mono (by omega))).trans (b4.mono (by omega))
theorem Row.len' {w w' : World} {v : Value} {l : Bs} (h : Row w w' v l) : ∃ s c, v = .slice s l.length c := h.own.form
set_option maxRecDepth 100000 in
set_option maxHeartbeats 8000000 in
theorem anchor_c (w : World) (hr : Sha.Ready w) : Says w 9 #[] true := by
  obtain ⟨w4, hw4, hL, hB⟩ := ll_three w
  have HL4 := hide hL
  have HB4 := hide hB
  have HR4 := hide (ready_on hr hB)
  clear hL hB hr
  go_enter Tryd.func9, Tryd.ntmps9
  go_wp2_with fail
  refine (tree_c w4 (unhide HR4) _ lv3 (unhide HL4) few3).mono ?_
  rintro e w5 ⟨t, l, S, rfl, hT, hG, _, hb5⟩
  have HT := hide hT
  obtain ⟨ls, lc, rfl⟩ : ∃ s c, l = .slice s 3 c := hG.form
  have hh : HL w5.heap.size w5 (.slice ls 3 lc) (leavesH lv3) 0 3 := hG.hl
  have HH := hide hh
  have HB5 := hide ((unhide HB4).trans (hb5.mono (unhide HB4).size))
  have HR5 := hide (ready_on (unhide HR4) hb5)
  have hp : YesL w5 16 #[.pointer (some ⟨t, 0, none⟩), .int .i64 2, .int .i64 3] [rootP Sha.shaOf (leavesH lv3) 0 2] := by
    have h := tpath_yes (S := S) (len_leavesH lv3) (by decide) w5 (unhide HR5) hT 2 3 (by omega) (by decide)
    rw [path23] at h
    exact h
  have Hp := hide hp
  clear hT hG hb5 hw4 hh hp
  go_wp2_with fail
  refine (unhide Hp).mono ?_
  rintro e w6 ⟨v6, rfl, hG6, hb6⟩
  obtain ⟨ps, pc, rfl⟩ : ∃ s c, v6 = .slice s 1 c := hG6.form
  have HG6 := hide hG6.lists
  have Hs6 := hide hb6.size
  have HB6 := hide ((unhide HB5).trans (hb6.mono (unhide HB5).size))
  have hq : YesL w6 19 #[.pointer (some ⟨t, 0, none⟩), .int .i64 2, .int .i64 3] [leavesH lv3 2] := by
    have h := tbridge_yes (S := S) (len_leavesH lv3) (by decide) w6 (ready_on (unhide HR5) hb6) ((unhide HT).below hb6) 2 3 (by omega) (by decide)
    rw [bridge23] at h
    exact h
  have Hq := hide hq
  have HH6 := hide ((unhide HH).below hb6)
  clear hG6 hb6 hq Hp HH
  go_wp2_with fail
  refine (unhide Hq).mono ?_
  rintro e w7 ⟨v7, rfl, hG7, hb7⟩
  obtain ⟨bs, bc, rfl⟩ : ∃ s c, v7 = .slice s 1 c := hG7.form
  have hB7 := (unhide HB6).trans (hb7.mono (unhide HB6).size)
  have hdr : Below w7.heap.size w7 w7.drew := (Below.refl _ _).drew
  have hH7 := (unhide HH6).below hb7
  have hP7 := (unhide HG6).below hb7
  obtain ⟨pb, po, pv, rfl, kp, hpv⟩ := hP7.atb (i := 0) rfl
  obtain ⟨bb, bo, bv', rfl, kb, hbv⟩ := hG7.lists.atb (i := 0) rfl
  obtain ⟨lb, lo, lv, rfl, _, kl, hlv, _⟩ := hH7.at 2 (by omega)
  rw [Nat.add_zero] at kp kb
  obtain ⟨s1, n1, c1, rfl⟩ := hpv.forms
  obtain ⟨s2, n2, c2, rfl⟩ := hbv.forms
  obtain ⟨s3, n3, c3, rfl⟩ := hlv.forms
  have hs1 : ∀ w, (Instr.sliceAt 22 (.slice (some ⟨lb, lo, none⟩) 3 lc) none (some (.int .i64 2)) none).run Tryd.prog w = .ok (.slice (some ⟨lb, lo, none⟩) 2 lc) w := slice_frontbb _ _ _ 2 (by obtain ⟨_, _, e, h⟩ := hH7.form; simp only [Value.slice.injEq] at e; omega)
  have Hro := hide (qroot_c (len_leavesH lv3) w5.heap.size 2 0 (by omega) w7.drew (some ⟨lb, lo, none⟩) lc (Nat.le_trans (unhide Hs6) hb7.size) ((hH7.before (by omega)).below hdr))
  have hro32 : (rootP Sha.shaOf (leavesH lv3) 0 2).length ≤ 1099511627776 := by rw [len_root Sha.length_shaOf _ _ fun i _ _ => len_leavesH lv3 i]; omega
  have hgl32 : (leavesH lv3 2).length ≤ 1099511627776 := by rw [len_leavesH]; omega
  have HP := hide (hpv.below hdr)
  have HBv := hide (hbv.below hdr)
  have HLv := hide (hlv.below hdr)
  have H7 := hide (hB7.drew)
  have Hr32 := hide hro32
  have Hg32 := hide hgl32
  rw [Nat.zero_add] at HLv
  clear hG7 hb7 hB7 hH7 hP7 hpv hbv hlv hro32 hgl32 hdr Hq HH6 HG6 HB6 Hs6
  go_wp2
  go_region_held3 (fun w' => w'.cell? ⟨pb, po, none⟩ = some (.slice s1 n1 c1) ∧ w'.cell? ⟨bb, bo, none⟩ = some (.slice s2 n2 c2) ∧ w'.cell? ⟨lb, lo + 2, none⟩ = some (.slice s3 n3 c3)) (go_keep)
    ((first
      | (go_at_call 15; refine (unhide Hro).mono ?_; rintro e w8 ⟨v8, rfl, hv8, hb8, _⟩; obtain ⟨s8, n8, c8, rfl⟩ := hv8.forms; have k1 := cell_below (show w7.drew.cell? _ = _ from kp) hb8; have k2 := cell_below (show w7.drew.cell? _ = _ from kb) hb8; have k3 := cell_below (show w7.drew.cell? _ = _ from kl) hb8; have HV8 := hide hv8; have HB8 := hide hb8; clear hv8 hb8)
      | (go_at_call_of 14 (Value.slice s1 n1 c1); refine (same_any w8 _ _ (rootP Sha.shaOf (leavesH lv3) 0 2) (rootP Sha.shaOf (leavesH lv3) 0 2) ((unhide HP).below (unhide HB8)) (unhide HV8) (unhide Hr32)).mono ?_; rintro e w9 ⟨rfl, hb9⟩; rw [decide_eq_true rfl]; have m1 := cell_below k1 hb9; have m2 := cell_below k2 hb9; have m3 := cell_below k3 hb9; have HB9 := hide ((unhide HB8).trans (hb9.mono (unhide HB8).size)); clear hb9)
      | (go_at_call_of 14 (Value.slice s2 n2 c2); refine (same_any w9 _ _ (leavesH lv3 2) (leavesH lv3 2) ((unhide HBv).below (unhide HB9)) ((unhide HLv).below (unhide HB9)) (unhide Hg32)).mono ?_; rintro e w10 ⟨rfl, hb10⟩; rw [decide_eq_true rfl]; have j1 := cell_below m1 hb10; have j2 := cell_below m2 hb10; have j3 := cell_below m3 hb10; have HB10 := hide ((unhide HB9).trans (hb10.mono (unhide HB9).size)); clear hb10)))
  have HF : Hid (Below w.heap.size w w10) := (unhide H7).trans ((unhide HB10).mono (unhide H7).size)
  go_wp2
  go_ret
  exact ⟨rfl, unhide HF⟩
end Go.Proofs.YtmhlafhbdpeglaaDoor
namespace Go.Proofs.YtmhlafhbdpeglaaDoor
open Go.RowKit
/-- A tree over leaves, and the list of their hashes. -/
structure Treed (w : World) (t : Nat) (l : Value) (ls : List Bs) (S : Set_) (B : Nat) : Prop where
  tree : TreeAt S w t (leavesH ls) ls.length
  hl : HL B w l (leavesH ls) 0 ls.length
  size : B ≤ w.heap.size
  ready : Sha.Ready w
theorem Treed.on {w w' : World} {t : Nat} {l : Value} {ls : List Bs} {S : Set_} {B : Nat} (h : Treed w t l ls S B) (hb : Below w.heap.size w w') : Treed w' t l ls S B := ⟨h.tree.below hb, h.hl.below hb, Nat.le_trans h.size hb.size, ready_on h.ready hb⟩
theorem tree_t (w : World) (hr : Sha.Ready w) (x : Value) (ls : List Bs) (hx : LL w x ls) (hf : fewB ls = true) :
    Calls Tryd.prog 11 #[x] w fun e w' => ∃ t s c S, e = .returned (.tuple #[.pointer (some ⟨t, 0, none⟩), .slice s ls.length c]) ∧ Treed w' t (.slice s ls.length c) ls S w'.heap.size ∧ (∀ k, S k → w.heap.size ≤ k) ∧ Below w.heap.size w w' := by
  refine (tree_c w hr x ls hx hf).mono ?_
  rintro e w' ⟨t, l, S, rfl, hT, hG, hS, hb⟩
  obtain ⟨s, c, e⟩ := hG.form
  rw [List.length_map] at e
  subst e
  exact ⟨t, s, c, S, rfl, ⟨hT, hG.hl, Nat.le_refl _, ready_on hr hb⟩, hS, hb⟩
/-- The first n hashes, cut off. -/
theorem HL.cut {B N c : Nat} {w : World} {s : Option Addr} {g : Nat → Bs} (h : HL B w (.slice s N c) g 0 N) (n : Nat) (hn : n ≤ N) : (∀ w, (Instr.sliceAt 22 (.slice s N c) none (some (.int .i64 (n : Int))) none).run Tryd.prog w = .ok (.slice s n c) w) ∧ HL B w (.slice s n c) g 0 n := by
  obtain ⟨_, _, e, hc⟩ := h.form
  simp only [Value.slice.injEq] at e
  obtain ⟨_, _, rfl⟩ := e
  exact ⟨slice_frontbb _ _ _ _ (by omega), h.front n hn⟩
set_option maxRecDepth 100000 in
set_option maxHeartbeats 8000000 in
/-- MERKLEROOTS. -/
theorem roots_true (w : World) (hr : Sha.Ready w) (x : Value) (ls : List Bs) (hx : LL w x ls) (hsm : ∀ b ∈ ls, b.length ≤ 1099511627776000) (n : Int) (hn : -9223372036854775808 ≤ n ∧ n ≤ 9223372036854775807) : Says w 3 #[x, .int .i64 n] true := by
  obtain ⟨sp, cp, rfl⟩ := hx.form
  obtain ⟨n1, n2⟩ := hn
  have Hn := hide (And.intro n1 n2)
  have HX := hide hx
  have HR := hide hr
  have Hsm := hide hsm
  clear hx hr hsm
  go_enter Tryd.func3, Tryd.ntmps3
  go_wp2_with fail
  refine (anchor_c w (unhide HR)).mono ?_
  rintro e w1 ⟨rfl, hb1⟩
  have HB1 := hide hb1
  have HX1 := hide ((unhide HX).below hb1)
  have HR1 := hide (ready_on (unhide HR) hb1)
  clear hb1
  go_wp2_with fail
  refine (few_c w1 _ ls (unhide HX1) (unhide Hsm)).mono ?_
  rintro e w1' ⟨rfl, hw1⟩
  subst hw1
  by_cases hf : fewB ls = true
  case neg =>
    have hff : fewB ls = false := by simpa using hf
    rw [hff]
    clear hf hff
    go_wp2
    go_ret
    exact ⟨rfl, unhide HB1⟩
  case pos =>
  rw [hf]
  have hN := (few_small hf).1
  go_wp2_with fail
  refine (tree_t w1' (unhide HR1) _ ls (unhide HX1) hf).mono ?_
  rintro e w2 ⟨t, ls', lc, S, rfl, hT, _, hb2⟩
  have HT2 := hide hT
  have HB2 := hide ((unhide HB1).trans (hb2.mono (unhide HB1).size))
  obtain ⟨N, hNN⟩ : ∃ N, ls.length = N := ⟨_, rfl⟩
  have HNN := hide hNN
  rw [hNN] at hN ⊢
  have n0 : (0 : Int) ≤ (N : Int) := by omega
  have n100 : (N : Int) ≤ 100 := by omega
  have dnn : ((N : Int) != (N : Int)) = false := by simp
  clear hT hb2 hf hNN
  by_cases hin : 0 ≤ n ∧ n ≤ (N : Int)
  · obtain ⟨m, rfl⟩ : ∃ m : Nat, n = (m : Int) := ⟨n.toNat, by omega⟩
    have hm : m ≤ N := by omega
    have hro : YesB w2 12 #[.pointer (some ⟨t, 0, none⟩), .int .i64 (m : Int)] (rootP Sha.shaOf (leavesH ls) 0 m) := troot_yes (len_leavesH ls) (by have := unhide HNN; omega) w2 (unhide HT2).ready (unhide HT2).tree m (by have := unhide HNN; omega)
    have Hro := hide hro
    have d1 : decide ((0 : Int) ≤ (m : Int)) = true := by simp
    have d2 : decide ((m : Int) ≤ (N : Int)) = true := by simp; omega
    have d2n : decide (m ≤ N) = true := by simp; omega
    clear hro
    go_wp2_with fail
    refine (unhide Hro).mono ?_
    rintro e w3 ⟨v3, rfl, hR3⟩
    obtain ⟨s3, n3, c3, rfl⟩ := hR3.bytes.forms
    have HT3 := hide ((unhide HT2).on hR3.b)
    have HB3 := hide ((unhide HB2).trans (hR3.b.mono (unhide HB2).size))
    have HV3 := hide hR3.bytes
    have hsz : Calls Tryd.prog 13 #[.pointer (some ⟨t, 0, none⟩)] w3 fun e w' => e = .returned (.int .i64 (N : Int)) ∧ w' = w3 := by
      have := tsize_c w3 (unhide HT3).tree (by have := unhide HNN; omega)
      rwa [unhide HNN] at this
    have Hsz := hide hsz
    have hcut : (∀ w, (Instr.sliceAt 22 (.slice ls' N lc) none (some (.int .i64 (m : Int))) none).run Tryd.prog w = .ok (.slice ls' m lc) w) ∧ HL w2.heap.size w3 (.slice ls' m lc) (leavesH ls) 0 m := by
      have h := (unhide HT3).hl
      rw [unhide HNN] at h
      exact h.cut m hm
    have hs1 := hcut.1
    have Hq := hide (qroot_c (len_leavesH ls) w2.heap.size m 0 (by omega) w3 ls' lc (unhide HT3).size hcut.2)
    have Hlen : Hid ((rootP Sha.shaOf (leavesH ls) 0 m).length ≤ 1099511627776) := by show _ ≤ _; rw [len_root Sha.length_shaOf _ _ fun i _ _ => len_leavesH ls i]; omega
    clear hR3 hsz hcut Hro
    go_wp2_with (first
      | (refine (unhide Hsz).mono ?_
         rintro e w4 ⟨rfl, hw4⟩
         subst hw4
         clear Hsz)
      | (refine (unhide Hq).mono ?_
         rintro e w5 ⟨v5, rfl, hv5, hb5, _⟩
         have HV5 := hide hv5
         have HV35 := hide ((unhide HV3).below hb5)
         have HB5 := hide ((unhide HB3).trans (hb5.mono (unhide HB3).size))
         clear hv5 hb5)
      | (refine (same_any _ _ _ (rootP Sha.shaOf (leavesH ls) 0 m) (rootP Sha.shaOf (leavesH ls) 0 m) (unhide HV35) (unhide HV5) (unhide Hlen)).mono ?_
         rintro e w6 ⟨rfl, hb6⟩
         rw [decide_eq_true rfl]
         have HB6 := hide ((unhide HB5).trans (hb6.mono (unhide HB5).size))
         clear hb6))
    go_ret
    exact ⟨rfl, unhide HB6⟩
  · have hno := troot_no (S := S) (t := t) (g := leavesH ls) (N := ls.length) (by have := unhide HNN; omega) w2 (unhide HT2).tree n (unhide Hn) (by have := unhide HNN; omega)
    have Hno := hide hno
    have hsz : Calls Tryd.prog 13 #[.pointer (some ⟨t, 0, none⟩)] w2 fun e w' => e = .returned (.int .i64 (N : Int)) ∧ w' = w2 := by
      have := tsize_c w2 (unhide HT2).tree (by have := unhide HNN; omega)
      rwa [unhide HNN] at this
    have Hsz := hide hsz
    clear hno hsz
    by_cases h0 : n < 0
    · have d1 : decide ((0 : Int) ≤ n) = false := by simp; omega
      go_wp2_with (first
        | (refine (unhide Hno).mono ?_
           rintro e w4 ⟨rfl, hw4⟩
           subst hw4
           clear Hno)
        | (refine (unhide Hsz).mono ?_
           rintro e w5 ⟨rfl, hw5⟩
           subst hw5
           clear Hsz))
      go_ret
      exact ⟨rfl, unhide HB2⟩
    · have d1 : decide ((0 : Int) ≤ n) = true := by simp; omega
      have d2 : decide (n ≤ (N : Int)) = false := by simp; omega
      go_wp2_with (first
        | (refine (unhide Hno).mono ?_
           rintro e w4 ⟨rfl, hw4⟩
           subst hw4
           clear Hno)
        | (refine (unhide Hsz).mono ?_
           rintro e w5 ⟨rfl, hw5⟩
           subst hw5
           clear Hsz))
      go_ret
      exact ⟨rfl, unhide HB2⟩
end Go.Proofs.YtmhlafhbdpeglaaDoor
