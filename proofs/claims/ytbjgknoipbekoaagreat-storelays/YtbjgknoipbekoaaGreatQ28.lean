/-
  The statements' plain and small, walked.
  What an argument's reading gives the walks: slices of slices of changes.
  Same and Less of the references, as calls that leave the world as it was but for draws.
-/
import Derived.Test.YtbjgknoipbekoaaGreatQ23
import Derived.Test.YtbjgknoipbekoaaGreatQ27
import Derived.Test.YtbjgknoipbekoaaGreatQ19
import Derived.Deep.Slices
import Derived.Test.YtbjgknoipbekoaaGreatQ16
namespace Go.Proofs.YtbjgknoipbekoaaGreat
open Go.RowKit
set_option maxRecDepth 100000 in
set_option maxHeartbeats 4000000 in
theorem plain_c {K : Set_} {w : World} {x : Value} {l : List Ch} (hx : ChsAt K w x l) (hn : l.length ≤ 1000000) :
    Calls Tryz.prog 13 #[x] w fun e w' => ∃ v, e = .returned v ∧ ChsAt (fun k => (K k ∨ w.heap.size ≤ k) ∧ k < w'.heap.size) w' v l ∧ Below w.heap.size w w' := by
  obtain ⟨sp, c, rfl, _⟩ := hx.form
  obtain ⟨N, hN⟩ : ∃ N, l.length = N := ⟨_, rfl⟩
  rw [hN] at hx hn ⊢
  have HN := hide hN
  have HX : Hid (ChsAt (fun k => K k ∧ k < w.heap.size) w (.slice sp N c) l) := hx.mono fun k hk h => ⟨h, hk⟩
  obtain ⟨K2, hK2⟩ : ∃ y : Set_, (fun k => K k ∧ k < w.heap.size) = y := ⟨_, rfl⟩
  have HKb : Hid (∀ k, K2 k → k < w.heap.size) := fun k hk => by rw [← hK2] at hk; exact hk.2
  have HKa : Hid (∀ k, K2 k → K k ∨ w.heap.size ≤ k) := fun k hk => by rw [← hK2] at hk; exact Or.inl hk.1
  rw [hK2] at HX
  clear hx hN hK2
  go_enter Tryz.func13, Tryz.ntmps13
  go_wp2
  go_loopw [3, 8] (fun ov ii wr => ∃ (i co : Nat) (so : Option Addr) (t : List (Ch × Value × Value)), i ≤ N ∧ ii = .int .i64 (i : Int) ∧ ov = .slice so i co ∧ Hid (t.length = i) ∧ Hid (RcRow K2 w.heap.size wr (.slice so i co) t) ∧ Hid (chsT t = l.take i) ∧ Hid (Below w.heap.size w wr)) (fun _ ii _ => N - (intOf ii).toNat)
  case atStart => exact ⟨0, 0, none, [], by omega, rfl, rfl, rfl, rcrow_nil _ _ _, rfl, Below.refl _ _⟩
  case round =>
    obtain ⟨i, co, so, t, hi, rfl, rfl, HTn, HT, HE, HB⟩ := hrel
    by_cases hlt : i < N
    · obtain ⟨ch, g, o, s1, c1, s2, c2, hop, rfl, hKg, hgl, h3⟩ := ((unhide HX).below (unhide HB)).one (i := i) (by have := unhide HN; omega)
      have f1 : decide ((i : Int) < (N : Int)) = true := by simp; omega
      have f1n : decide (i < N) = true := by simp; omega
      have j0 : (0 : Int) ≤ (i : Int) := by omega
      have j1 : (i : Int) < (N : Int) := by omega
      obtain ⟨KN, hKN⟩ : ∃ y, ch.key.length = y := ⟨_, rfl⟩
      obtain ⟨VN, hVN⟩ : ∃ y, ch.val.length = y := ⟨_, rfl⟩
      obtain ⟨gb, hgb⟩ : ∃ y, ch.gone = y := ⟨_, rfl⟩
      rw [hKN, hVN] at h3
      have k0 := h3.c0
      have k1 := h3.c1
      have k2 := h3.c2
      rw [hgb] at k2
      have HGB := hide hgb
      have HE2 : Hid (chsT (t ++ [(ch, Value.slice s1 KN c1, Value.slice s2 VN c2)]) = l.take (i + 1)) := by
        show _ = _
        unfold chsT
        rw [List.map_append]
        obtain ⟨hl, e⟩ := List.getElem?_eq_some_iff.1 hop
        rw [← List.take_append_getElem hl, e]
        have h := unhide HE
        unfold chsT at h
        rw [h]
        rfl
      obtain ⟨w1, hw1⟩ : ∃ y, wr.alloc (.cells #[Value.slice s1 KN c1, Value.slice s2 VN c2, .bool gb] 72) = y := ⟨_, rfl⟩
      obtain ⟨m0, m1, m2⟩ := cells_new3 wr (.slice s1 KN c1) (.slice s2 VN c2) (.bool gb) 72
      have hb1 : Below wr.heap.size wr w1 := by rw [← hw1]; exact (Below.refl _ _).alloc (Nat.le_refl _) _
      rw [hw1] at m0 m1 m2
      obtain ⟨W2, hW2⟩ : ∃ y, w1.alloc (.cells #[Value.slice s1 KN c1, Value.slice s2 VN c2, .bool gb] 74) = y := ⟨_, rfl⟩
      have hb2 : Below w1.heap.size w1 W2 := by rw [← hW2]; exact (Below.refl _ _).alloc (Nat.le_refl _) _
      have HC2 : Hid (W2.cell? ⟨w1.heap.size, 0, none⟩ = some (Value.slice s1 KN c1) ∧ W2.cell? ⟨w1.heap.size, 1, none⟩ = some (Value.slice s2 VN c2) ∧ W2.cell? ⟨w1.heap.size, 2, none⟩ = some (.bool ch.gone)) := by show _ ∧ _; rw [← hW2, unhide HGB]; exact cells_new3 _ _ _ _ _
      have hb12 := hb1.trans (hb2.mono hb1.size)
      have T2 := hide ((unhide HT).call hb12)
      have B2 := hide ((unhide HB).trans (hb12.mono (unhide HB).size))
      have HE3 := hide (h3.key.aside (S := none_) (Aside.of_below hb12) fun _ h => h.elim)
      have HE4 := hide (h3.val.aside (S := none_) (Aside.of_below hb12) fun _ h => h.elim)
      clear h3 hop hKN hVN hgb hb1 hb2 hb12 HE HT hKg
      go_wp2_with (first
        | (at_builtin; refine wpList_append_rch rfl _ _ rfl _ _ rfl (unhide T2) w1.heap.size 0 1 rfl (ch, Value.slice s1 KN c1, Value.slice s2 VN c2) (unhide HC2).1 (unhide HC2).2.1 (unhide HC2).2.2 rfl rfl (unhide B2).size (by have := unhide HTn; omega) (unhide HKb) (unhide HE3) (unhide HE4) ?_
           intro v7 W7 s7 c7 e7 hr7 hb7
           rw [unhide HTn] at e7
           subst e7
           have T7 := hide hr7
           have B7 := hide ((unhide B2).trans hb7)
           clear hr7 hb7))
      have HTn7 : Hid ((t ++ [(ch, Value.slice s1 KN c1, Value.slice s2 VN c2)]).length = i + 1) := by show _ = _; rw [List.length_append, unhide HTn]; rfl
      exact ⟨⟨i + 1, _, _, _, by omega, by simp, rfl, HTn7, T7, HE2, B7⟩, by simp [intOf]; omega⟩
    · have hin : N = i := by omega
      subst hin
      have f1 : decide ((N : Int) < (N : Int)) = false := by simp
      have f1n : decide (N < N) = false := by simp
      have HQ := hide ((unhide HT).at_ (K' := fun k => K k ∨ w.heap.size ≤ k) (unhide HKa) fun k hk => Or.inr hk)
      rw [unhide HE, List.take_of_length_le (by have := unhide HN; omega)] at HQ
      clear HT HE
      go_wp2
      go_ret
      exact ⟨_, rfl, (unhide HQ).mono fun k hk h => ⟨h, hk⟩, unhide HB⟩
/-- A slice of slices of changes, all of it in blocks of K. -/
structure ChssAt (K : Set_) (w : World) (x : Value) (ll : List (List Ch)) : Prop where
  form : ∃ sp c, x = .slice sp ll.length c ∧ ll.length ≤ c ∧ (sp = none → c = 0)
  at_ : ∀ (i : Nat) (l : List Ch), ll[i]? = some l → ∃ g o m cp v, x = .slice (some ⟨g, o, none⟩) m cp ∧ K g ∧ g < w.heap.size ∧ w.cell? ⟨g, o + i, none⟩ = some v ∧ ChsAt K w v l
theorem ChssAt.aside {K S : Set_} {a b : World} {x : Value} {l : List (List Ch)} (h : ChssAt K a x l) (hb : Aside S a b) (hK : ∀ k, S k → ¬ K k) : ChssAt K b x l := by
  refine ⟨h.form, fun i c hi => ?_⟩
  obtain ⟨g, o, m, cp, v, e, hg, hl, h1, h2⟩ := h.at_ i c hi
  exact ⟨g, o, m, cp, v, e, hg, Nat.lt_of_lt_of_le hl hb.size, cell_aside h1 hb fun hS => hK g hS hg, h2.aside hb hK⟩
theorem ChssAt.below {K : Set_} {a b : World} {x : Value} {l : List (List Ch)} (h : ChssAt K a x l) (hb : Below a.heap.size a b) : ChssAt K b x l := h.aside (S := none_) (Aside.of_below hb) fun _ h => h.elim
theorem ChssAt.one {K : Set_} {w : World} {sp : Option Addr} {n cp i : Nat} {ll : List (List Ch)} (h : ChssAt K w (.slice sp n cp) ll) (hi : i < ll.length) : ∃ l g o s1 c1, ll[i]? = some l ∧ sp = some ⟨g, o, none⟩ ∧ w.cell? ⟨g, o + i, none⟩ = some (.slice s1 l.length c1) ∧ ChsAt K w (.slice s1 l.length c1) l := by
  obtain ⟨g, o, m, cp', v, e, hg, hl, h1, h2⟩ := h.at_ i ll[i] (List.getElem?_eq_getElem hi)
  simp only [Value.slice.injEq] at e
  obtain ⟨rfl, _, _⟩ := e
  obtain ⟨s1, c1, e1, _⟩ := h2.form
  subst e1
  exact ⟨ll[i], g, o, s1, c1, List.getElem?_eq_getElem hi, rfl, h1, h2⟩
/-- Changes that a play goes through with. -/
def SmallC (c : Ch) : Prop := c.key.length ≤ 100 ∧ c.val.length ≤ 9000
def SmallL (l : List Ch) : Prop := l.length ≤ 12 ∧ ∀ c ∈ l, SmallC c
def SmallLL (ll : List (List Ch)) : Prop := ll.length ≤ 12 ∧ ∀ l ∈ ll, SmallL l
instance (c : Ch) : Decidable (SmallC c) := by unfold SmallC; exact inferInstance
instance (l : List Ch) : Decidable (SmallL l) := by unfold SmallL; exact inferInstance
instance (ll : List (List Ch)) : Decidable (SmallLL ll) := by unfold SmallLL; exact inferInstance
theorem all_step {α : Type} {P : α → Prop} {l : List α} {i : Nat} {c : α} (h : ∀ x ∈ l.take i, P x) (hi : l[i]? = some c) (hc : P c) : ∀ x ∈ l.take (i + 1), P x := by
  obtain ⟨hl, e⟩ := List.getElem?_eq_some_iff.1 hi
  rw [← List.take_append_getElem hl, e]
  intro x hx
  rcases List.mem_append.1 hx with hx | hx
  · exact h x hx
  · rw [List.mem_singleton] at hx
    subst hx
    exact hc
set_option maxRecDepth 100000 in
set_option maxHeartbeats 4000000 in
theorem small_c {K : Set_} {w : World} {x : Value} {ll : List (List Ch)} (hx : ChssAt K w x ll) :
    Calls Tryz.prog 8 #[x] w fun e w' => e = .returned (.bool (decide (SmallLL ll))) ∧ Below w.heap.size w w' := by
  obtain ⟨sp, c, rfl, _⟩ := hx.form
  obtain ⟨N, hN⟩ : ∃ N, ll.length = N := ⟨_, rfl⟩
  rw [hN] at hx ⊢
  have HN := hide hN
  have HX := hide hx
  obtain ⟨ANS, hA⟩ : ∃ y, decide (SmallLL ll) = y := ⟨_, rfl⟩
  rw [hA]
  have HA := hide hA
  clear hx hN hA
  by_cases hbig : 12 < N
  · have hf : ANS = false := by
      rw [← unhide HA]
      exact decide_eq_false fun h => by have := h.1; have := unhide HN; omega
    subst hf
    have d1 : decide ((12 : Int) < (N : Int)) = true := by simp; omega
    have d1n : decide (12 < N) = true := by simp; omega
    go_enter Tryz.func8, Tryz.ntmps8
    go_wp2
    go_ret
    exact ⟨rfl, Below.refl _ _⟩
  have d1 : decide ((12 : Int) < (N : Int)) = false := by simp; omega
  have d1n : decide (12 < N) = false := by simp; omega
  have hN12 : N ≤ 12 := by omega
  clear hbig
  go_enter Tryz.func8, Tryz.ntmps8
  go_wp2
  go_loopw [12] (fun ii wr => ∃ i : Nat, i ≤ N ∧ ii = .int .i64 (i : Int) ∧ Hid (∀ l ∈ ll.take i, SmallL l) ∧ Hid (Below w.heap.size w wr)) (fun ii _ => N - (intOf ii).toNat)
  case atStart => exact ⟨0, by omega, rfl, fun l hl => by simp at hl, Below.refl _ _⟩
  case round =>
    obtain ⟨i, hi, rfl, HS, HB⟩ := hrel
    by_cases hlt : i < N
    · obtain ⟨l, g, o, s1, c1, hop, rfl, hcell, hl1⟩ := ((unhide HX).below (unhide HB)).one (i := i) (by have := unhide HN; omega)
      have f1 : decide ((i : Int) < (N : Int)) = true := by simp; omega
      have f1n : decide (i < N) = true := by simp; omega
      have j0 : (0 : Int) ≤ (i : Int) := by omega
      have j1 : (i : Int) < (N : Int) := by omega
      obtain ⟨M, hM⟩ : ∃ y, l.length = y := ⟨_, rfl⟩
      rw [hM] at hcell hl1
      have HM := hide hM
      have HL := hide hl1
      have HOP := hide hop
      clear hM hl1 hop
      by_cases hm : 12 < M
      · have hf : ANS = false := by
          rw [← unhide HA]
          exact decide_eq_false fun h => by have := (h.2 l (List.mem_of_getElem? (unhide HOP))).1; have := unhide HM; omega
        subst hf
        have d2 : decide ((12 : Int) < (M : Int)) = true := by simp; omega
        have d2n : decide (12 < M) = true := by simp; omega
        go_wp2
        go_ret
        exact ⟨rfl, unhide HB⟩
      have d2 : decide ((12 : Int) < (M : Int)) = false := by simp; omega
      have d2n : decide (12 < M) = false := by simp; omega
      have hM12 : M ≤ 12 := by omega
      clear hm
      go_wp2
      rename World => wo
      go_loopw [21] (fun jj wr => ∃ j : Nat, j ≤ M ∧ jj = .int .i64 (j : Int) ∧ Hid (∀ c ∈ l.take j, SmallC c) ∧ Hid (Below wo.heap.size wo wr)) (fun jj _ => M - (intOf jj).toNat)
      case atStart => exact ⟨0, by omega, rfl, fun l hl => by simp at hl, Below.refl _ _⟩
      case round =>
        obtain ⟨j, hj, rfl, HS2, HB2⟩ := hrel
        by_cases hlt2 : j < M
        · obtain ⟨ch, g2, o2, q1, d1', q2, d2', hop2, rfl, _, hgl, h3⟩ := ((unhide HL).below (unhide HB2)).one (i := j) (by have := unhide HM; omega)
          have f2 : decide ((j : Int) < (M : Int)) = true := by simp; omega
          have f2n : decide (j < M) = true := by simp; omega
          have l0 : (0 : Int) ≤ (j : Int) := by omega
          have l1 : (j : Int) < (M : Int) := by omega
          have k0 := h3.c0
          have k1 := h3.c1
          have k2 := h3.c2
          obtain ⟨KN, hKN⟩ : ∃ y, ch.key.length = y := ⟨_, rfl⟩
          obtain ⟨VN, hVN⟩ : ∃ y, ch.val.length = y := ⟨_, rfl⟩
          obtain ⟨gb, hgb⟩ : ∃ y, ch.gone = y := ⟨_, rfl⟩
          rw [hKN] at k0
          rw [hVN] at k1
          rw [hgb] at k2
          have HKN := hide hKN
          have HVN := hide hVN
          have HOP2 := hide hop2
          obtain ⟨w1, hw1⟩ : ∃ y, wr.alloc (.cells #[Value.slice q1 KN d1', Value.slice q2 VN d2', .bool gb] 72) = y := ⟨_, rfl⟩
          obtain ⟨m0, m1, m2⟩ := cells_new3 wr (.slice q1 KN d1') (.slice q2 VN d2') (.bool gb) 72
          have HB3 : Hid (Below wo.heap.size wo w1) := by rw [← hw1]; exact (unhide HB2).alloc (unhide HB2).size _
          rw [hw1] at m0 m1 m2
          clear h3 hop2 hKN hVN hgb HB2
          by_cases hk : 100 < KN
          · have hf : ANS = false := by
              rw [← unhide HA]
              exact decide_eq_false fun h => by have := ((h.2 l (List.mem_of_getElem? (unhide HOP))).2 ch (List.mem_of_getElem? (unhide HOP2))).1; have := unhide HKN; omega
            subst hf
            have d3 : decide ((100 : Int) < (KN : Int)) = true := by simp; omega
            have d3n : decide (100 < KN) = true := by simp; omega
            go_wp2
            go_ret
            exact ⟨rfl, (unhide HB).trans ((unhide HB3).mono (unhide HB).size)⟩
          have d3 : decide ((100 : Int) < (KN : Int)) = false := by simp; omega
          have d3n : decide (100 < KN) = false := by simp; omega
          by_cases hv : 9000 < VN
          · have hf : ANS = false := by
              rw [← unhide HA]
              exact decide_eq_false fun h => by have := ((h.2 l (List.mem_of_getElem? (unhide HOP))).2 ch (List.mem_of_getElem? (unhide HOP2))).2; have := unhide HVN; omega
            subst hf
            have d4 : decide ((9000 : Int) < (VN : Int)) = true := by simp; omega
            have d4n : decide (9000 < VN) = true := by simp; omega
            go_wp2
            go_ret
            exact ⟨rfl, (unhide HB).trans ((unhide HB3).mono (unhide HB).size)⟩
          have d4 : decide ((9000 : Int) < (VN : Int)) = false := by simp; omega
          have d4n : decide (9000 < VN) = false := by simp; omega
          have HS3 := hide (all_step (unhide HS2) (unhide HOP2) ⟨by have := unhide HKN; omega, by have := unhide HVN; omega⟩)
          clear HS2
          go_wp2
          exact ⟨⟨j + 1, by omega, by simp, HS3, HB3⟩, by simp [intOf]; omega⟩
        · have hjM : M = j := by omega
          subst hjM
          have f2 : decide ((M : Int) < (M : Int)) = false := by simp
          have f2n : decide (M < M) = false := by simp
          have HS3 := hide (all_step (unhide HS) (unhide HOP) ⟨by have := unhide HM; omega, by have h := unhide HS2; rw [List.take_of_length_le (by have := unhide HM; omega)] at h; exact h⟩)
          have HB3 := hide ((unhide HB).trans ((unhide HB2).mono (unhide HB).size))
          clear HS HS2 HB2 HB
          go_wp2
          exact ⟨⟨i + 1, by omega, by simp, HS3, HB3⟩, by simp [intOf]; omega⟩
    · have hin : N = i := by omega
      subst hin
      have f1 : decide ((N : Int) < (N : Int)) = false := by simp
      have f1n : decide (N < N) = false := by simp
      have hf : ANS = true := by
        rw [← unhide HA]
        have h := unhide HS
        rw [List.take_of_length_le (by have := unhide HN; omega)] at h
        exact decide_eq_true ⟨by have := unhide HN; omega, h⟩
      subst hf
      go_wp2
      go_ret
      exact ⟨rfl, unhide HB⟩
end Go.Proofs.YtbjgknoipbekoaaGreat
namespace Go.Proofs.YtbjgknoipbekoaaGreat
open Go.ChangeShapes Go.WideShapes Go.ChangeAt Go.RowKit
theorem pick_list {α : Type} {Q : Value → α → Prop} : ∀ (vs : List Value), (∀ u ∈ vs, ∃ a, Q u a) → ∃ l : List α, l.length = vs.length ∧ ∀ (i : Nat) (u : Value) (a : α), vs[i]? = some u → l[i]? = some a → Q u a
  | [], _ => ⟨[], rfl, fun i u a h => by simp at h⟩
  | v :: vs, h => by
    obtain ⟨a, ha⟩ := h v List.mem_cons_self
    obtain ⟨l, hl, hq⟩ := pick_list vs fun u hu => h u (List.mem_cons_of_mem _ hu)
    refine ⟨a :: l, by simp [hl], fun i u b h1 h2 => ?_⟩
    cases i with
    | zero =>
      simp only [List.getElem?_cons_zero, Option.some.injEq] at h1 h2
      subst h1
      subst h2
      exact ha
    | succ i => exact hq i u b (by simpa using h1) (by simpa using h2)
/-- What a reading of a slice gives: its cells, and a reading of each. -/
theorem slice_of {T E : TypeId} (hu : Tryz.prog.underlying T = some (.slice E)) (ce : Tryz.prog.cellsOf E = 1) {H : Type} {enc : TypeId × Value → H} {W : World} {v : Value} {fuel : Nat} {x : DataW H × List MemPlace}
    (hf : DataW.trod enc Tryz.prog W 0 (fun _ => true) true fuel T [v] = some x) : ∃ vs : List Value, ValsAt W v vs ∧ vs.length ≤ 9223372036854775807 ∧ ∀ u ∈ vs, ∃ k y, DataW.trod enc Tryz.prog W 0 (fun _ => true) true k E [u] = some y := by
  rcases Go.Deep.open_slice hu hf with ⟨hcs, _⟩ | ⟨y, len, cap, m, k, D, Pl, hcs, _, hl, hm, hmm, _, hx⟩
  · obtain rfl : v = .slice none 0 0 := by simpa using hcs
    exact ⟨[], vals_nil _, by simp, fun u hu => by simp at hu⟩
  · obtain rfl : v = .slice (some y) len cap := by simpa using hcs
    have hmc : m = cap := by simpa using hmm
    subst hmc
    have each : ∀ i, i < len → ∃ u : Value, W.cell? (y.add i) = some u ∧ ∃ k z, DataW.trod enc Tryz.prog W 0 (fun _ => true) true k E [u] = some z := by
      intro i hi
      obtain ⟨cs', h1, h2⟩ := hx i (by omega)
      rw [ce] at h1
      obtain ⟨_, hlen, hcell⟩ := World.cells?_some h1
      obtain ⟨u, rfl⟩ : ∃ u, cs' = [u] := List.length_eq_one_iff.1 hlen
      refine ⟨u, ?_, _, _, h2⟩
      have h3 := hcell 0 (by omega)
      simpa [Addr.add] using h3
    haveI : Inhabited Value := ⟨undef⟩
    obtain ⟨f, hfl⟩ := Go.Deep.choose_lt each
    have hlv : ((List.range len).map f).length = len := by simp
    refine ⟨(List.range len).map f, ⟨some y, m, by rw [hlv], by rw [hlv]; exact hl, fun h => (by cases h), fun hne => ?_⟩, by rw [hlv]; simp only [maxLen] at hm; omega, fun u hu => ?_⟩
    · have hpos : 0 < len := by
        rcases Nat.eq_zero_or_pos len with h | h
        · subst h; simp at hne
        · exact h
      have c0 := (hfl 0 hpos).1
      obtain ⟨b, o, s⟩ := y
      have hs : s = none := by
        cases s with
        | none => rfl
        | some k => simp [Addr.add, World.cell?] at c0; split at c0 <;> simp at c0
      subst hs
      refine ⟨b, o, rfl, fun j v hv => ?_⟩
      have hj : j < len := by
        have := (List.getElem?_eq_some_iff.1 hv).1
        rw [hlv] at this; exact this
      have hc := (hfl j hj).1
      rw [Addr.add_mid] at hc
      rw [hc, ← hv]
      simp [hj]
    · obtain ⟨i, hi, rfl⟩ := List.getElem_of_mem hu
      rw [hlv] at hi
      have := (hfl i hi).2
      simpa using this
/-- WHAT A READING OF A SLICE OF SLICES OF CHANGES GIVES. -/
theorem chss_of {H : Type} {enc : TypeId × Value → H} {W : World} {v : Value} {fuel : Nat} {x : DataW H × List MemPlace}
    (hf : DataW.trod enc Tryz.prog W 0 (fun _ => true) true fuel 22 [v] = some x) : ∃ ll : List (List Ch), ChssAt (fun j => j < W.heap.size) W v ll := by
  obtain ⟨vs, h1, h2, h3⟩ := slice_of Tryz.underlying22 (by kernel_rfl) hf
  obtain ⟨ll, hl, hq⟩ := pick_list (Q := fun u (l : List Ch) => ChsAt (fun j => j < W.heap.size) W u l) vs fun u hu => by obtain ⟨k, y, hy⟩ := h3 u hu; obtain ⟨l, h4, _⟩ := chs_of hy; exact ⟨l, h4⟩
  obtain ⟨sp, c, e, e2, e3, _⟩ := id h1
  refine ⟨ll, ⟨sp, c, by rw [hl]; exact e, by rw [hl]; exact e2, e3⟩, fun i l hi => ?_⟩
  have hil : i < vs.length := by have := (List.getElem?_eq_some_iff.1 hi).1; omega
  obtain ⟨b, o, c', e4, _, hb, hcell⟩ := ValsAt.cell h1 (by intro e; rw [e] at hil; simp at hil)
  have hvi : vs[i]? = some (vs[i]) := List.getElem?_eq_getElem hil
  refine ⟨b, o, _, c', vs[i], e4, hb, hb, ?_, hq i _ l hvi hi⟩
  rw [hcell i hil, List.getD_eq_getElem?_getD, hvi]
  rfl
theorem chss_arg {H : Type} {enc : TypeId × Value → H} {W : World} {a : Option Addr} {len cap : Nat} {fuel : Nat} {x : DataW H × List MemPlace}
    (hf : DataW.trod enc Tryz.prog W 0 (fun _ => true) true fuel 22 (Value.slice a len cap).cells.toList = some x) : ∃ ll : List (List Ch), ChssAt (fun j => j < W.heap.size) W (.slice a len cap) ll :=
  chss_of (v := .slice a len cap) (by simpa [Value.cells] using hf)
end Go.Proofs.YtbjgknoipbekoaaGreat
namespace Go.Proofs.YtbjgknoipbekoaaGreat
open Go.RowKit
theorem qdrew {w wr : World} : (∃ q, wr = w.drewN q) → ∃ q, wr.drew = w.drewN q := fun ⟨q, h⟩ => ⟨q + 1, by rw [h]; rfl⟩
set_option maxRecDepth 100000 in
set_option maxHeartbeats 1000000 in
theorem same_quiet (w : World) (x y : Value) (a b : Bs) (hx : BytesAt w x a) (hy : BytesAt w y b) (hl : a.length ≤ 1099511627776) :
    Calls Tryz.prog 19 #[x, y] w fun e w' => e = .returned (.bool (decide (a = b))) ∧ ∃ q, w' = w.drewN q := by
  obtain ⟨sp, c, rfl, _, _, hc⟩ := bytes_open hx
  obtain ⟨sp2, c2, rfl, _, _, hc2⟩ := bytes_open hy
  have H1 := hide hc
  have H2 := hide hc2
  clear hc hc2 hx hy
  go_enter Tryz.func19, Tryz.ntmps19
  by_cases hab : a.length = b.length
  · obtain ⟨N, hN⟩ : ∃ N, a.length = N := ⟨_, rfl⟩
    have hN2 : b.length = N := by omega
    have hNb : N ≤ 1099511627776 := by rw [← hN]; exact hl
    rw [hN] at H1
    rw [hN2] at H2
    rw [hN, hN2]
    have HN := hide hN
    have HN2 := hide hN2
    clear hN hN2 hab
    go_wp2
    go_loopw [5] (fun i wr => ∃ k : Nat, k ≤ N ∧ i = .int .i64 k ∧ wr.heap = w.heap ∧ Hid (a.take k = b.take k) ∧ ∃ q, wr = w.drewN q) (fun i _ => N - (intOf i).toNat)
    case atStart => exact ⟨0, by omega, rfl, rfl, rfl, ⟨0, rfl⟩⟩
    case round =>
      obtain ⟨k, hk, rfl, hh, HE, hB⟩ := hrel
      by_cases hlt : k < N
      · have hna : a ≠ [] := by intro e; have := unhide HN; rw [e] at this; simp at this; omega
        have hnb : b ≠ [] := by intro e; have := unhide HN2; rw [e] at this; simp at this; omega
        obtain ⟨ba, oa, rfl, _, hcell⟩ := unhide H1 hna
        obtain ⟨bb, ob, rfl, _, hcell2⟩ := unhide H2 hnb
        have c1 : wr.cell? ⟨ba, oa + k, none⟩ = some (.int .u8 ((a.getD k 0).toNat : Int)) := by rw [← hcell k hlt]; unfold World.cell?; rw [hh]
        have c2' : wr.cell? ⟨bb, ob + k, none⟩ = some (.int .u8 ((b.getD k 0).toNat : Int)) := by rw [← hcell2 k hlt]; unfold World.cell?; rw [hh]
        have Ht : Hid ((a.getD k 0).toNat = (b.getD k 0).toNat → a.take (k + 1) = b.take (k + 1)) := fun e => take_eq_succ (unhide HE) (by have := unhide HN; omega) (by have := unhide HN2; omega) e
        have Hf : Hid ((a.getD k 0).toNat ≠ (b.getD k 0).toNat → a ≠ b) := fun e e2 => e (by rw [e2])
        obtain ⟨p, hp⟩ : ∃ p, (a.getD k 0).toNat = p := ⟨_, rfl⟩
        obtain ⟨q, hq⟩ : ∃ q, (b.getD k 0).toNat = q := ⟨_, rfl⟩
        rw [hp] at c1 Ht Hf
        rw [hq] at c2' Ht Hf
        have HB := hide hB
        have Hh := hide hh
        clear hB hh hcell hcell2 hp hq hna hnb
        have k0 : (0 : Int) ≤ (k : Int) := by omega
        have k1 : (k : Int) < (N : Int) := by omega
        by_cases hpq : p = q
        · have Ht2 := hide (unhide Ht hpq)
          have de : ((p : Int) == (q : Int)) = true := by simp [hpq]
          subst hpq
          clear Ht Hf
          go_wp2
          go_region_held3 (fun w' => w'.cell? ⟨ba, oa + k, none⟩ = some (.int .u8 p) ∧ w'.cell? ⟨bb, ob + k, none⟩ = some (.int .u8 p)) (go_keep) (fail)
          go_wp2
          go_roundw
          case rel =>
            first
              | exact ⟨k + 1, by omega, by go_num, unhide Hh, Ht2, qdrew (unhide HB)⟩
              | ((repeat apply Exists.intro); exact ⟨⟨k + 1, by omega, by go_num, unhide Hh, Ht2, qdrew (unhide HB)⟩, rfl⟩)
          case measure => simp [intOf]; omega
        · have Hf2 := hide (unhide Hf hpq)
          have de : ((p : Int) == (q : Int)) = false := by simp; omega
          clear Ht Hf hpq
          go_wp2
          go_region_held3 (fun w' => w'.cell? ⟨ba, oa + k, none⟩ = some (.int .u8 p) ∧ w'.cell? ⟨bb, ob + k, none⟩ = some (.int .u8 q)) (go_keep) (fail)
          go_wp2
          go_ret
          exact ⟨by simp [unhide Hf2], qdrew (unhide HB)⟩
      · have Hf : Hid (a = b) := by
          show _ = _
          have h1 := unhide HE
          rwa [List.take_of_length_le (by have := unhide HN; omega), List.take_of_length_le (by have := unhide HN2; omega)] at h1
        go_wp2
        go_ret
        exact ⟨by simp [unhide Hf], hB⟩
  · have Hf : Hid (a ≠ b) := fun e => hab (by rw [e])
    have de : ((a.length : Int) == (b.length : Int)) = false := by simp; omega
    go_wp2
    go_ret
    exact ⟨by simp [unhide Hf], ⟨0, rfl⟩⟩
theorem less_app (c : Bs) : ∀ a b : Bs, lessB (c ++ a) (c ++ b) = lessB a b := by
  induction c with
  | nil => intro a b; rfl
  | cons x c ih => intro a b; show (if x = x then lessB (c ++ a) (c ++ b) else decide (x.toNat < x.toNat)) = _; rw [if_pos rfl]; exact ih a b
theorem less_diff {a b : Bs} {k : Nat} (h : a.take k = b.take k) (ha : k < a.length) (hb : k < b.length) (hne : (a.getD k 0).toNat ≠ (b.getD k 0).toNat) : lessB a b = decide ((a.getD k 0).toNat < (b.getD k 0).toNat) := by
  have ea : a = a.take k ++ (a.getD k 0 :: a.drop (k + 1)) := by
    rw [List.getD_eq_getElem?_getD, List.getElem?_eq_getElem ha, Option.getD_some, ← List.drop_eq_getElem_cons ha, List.take_append_drop]
  have eb : b = b.take k ++ (b.getD k 0 :: b.drop (k + 1)) := by
    rw [List.getD_eq_getElem?_getD, List.getElem?_eq_getElem hb, Option.getD_some, ← List.drop_eq_getElem_cons hb, List.take_append_drop]
  have : lessB a b = lessB (a.take k ++ (a.getD k 0 :: a.drop (k + 1))) (a.take k ++ (b.getD k 0 :: b.drop (k + 1))) := by rw [← ea, h, ← eb]
  rw [this, less_app]
  show (if a.getD k 0 = b.getD k 0 then lessB (a.drop (k + 1)) (b.drop (k + 1)) else decide ((a.getD k 0).toNat < (b.getD k 0).toNat)) = _
  rw [if_neg (fun e => hne (by rw [e]))]
theorem less_end {a b : Bs} {k : Nat} (h : a.take k = b.take k) (hk : k = a.length ∨ k = b.length) (ha : k ≤ a.length) (hb : k ≤ b.length) : lessB a b = decide (a.length < b.length) := by
  have e : lessB a b = lessB (a.take k ++ a.drop k) (a.take k ++ b.drop k) := by rw [List.take_append_drop, h, List.take_append_drop]
  rw [e, less_app]
  have la : (a.drop k).length = a.length - k := List.length_drop
  have lb : (b.drop k).length = b.length - k := List.length_drop
  cases ha' : a.drop k with
  | nil =>
    rw [ha'] at la
    cases hb' : b.drop k with
    | nil => rw [hb'] at lb; simp at la lb; unfold lessB; symm; simp; omega
    | cons y m => rw [hb'] at lb; simp at la lb; unfold lessB; symm; simp; omega
  | cons x l =>
    rw [ha'] at la
    cases hb' : b.drop k with
    | nil => rw [hb'] at lb; simp at la lb; unfold lessB; symm; simp; omega
    | cons y m => rw [hb'] at lb; simp at la lb; omega
set_option maxRecDepth 100000 in
set_option maxHeartbeats 1000000 in
theorem less_quiet (w : World) (x y : Value) (a b : Bs) (hx : BytesAt w x a) (hy : BytesAt w y b) (hl : a.length ≤ 1099511627776) (hl2 : b.length ≤ 1099511627776) :
    Calls Tryz.prog 54 #[x, y] w fun e w' => e = .returned (.bool (lessB a b)) ∧ ∃ q, w' = w.drewN q := by
  obtain ⟨sp, c, rfl, _, _, hc⟩ := bytes_open hx
  obtain ⟨sp2, c2, rfl, _, _, hc2⟩ := bytes_open hy
  have H1 := hide hc
  have H2 := hide hc2
  clear hc hc2 hx hy
  go_enter Tryz.func54, Tryz.ntmps54
  have Hd : Hid (∀ k, a.take k = b.take k → k < a.length → k < b.length → (a.getD k 0).toNat ≠ (b.getD k 0).toNat → lessB a b = decide ((a.getD k 0).toNat < (b.getD k 0).toNat)) := fun k h ha hb hne => less_diff h ha hb hne
  have He : Hid (∀ k, a.take k = b.take k → k = a.length ∨ k = b.length → k ≤ a.length → k ≤ b.length → lessB a b = decide (a.length < b.length)) := fun k h hk ha hb => less_end h hk ha hb
  have Ht : Hid (∀ k, a.take k = b.take k → k < a.length → k < b.length → (a.getD k 0).toNat = (b.getD k 0).toNat → a.take (k + 1) = b.take (k + 1)) := fun k h ha hb e => take_eq_succ h ha hb e
  have Hna : Hid (∀ k, k < a.length → a ≠ []) := fun k hk e => by rw [e] at hk; simp at hk
  have Hnb : Hid (∀ k, k < b.length → b ≠ []) := fun k hk e => by rw [e] at hk; simp at hk
  obtain ⟨N, hN⟩ : ∃ N, a.length = N := ⟨_, rfl⟩
  obtain ⟨M, hM⟩ : ∃ M, b.length = M := ⟨_, rfl⟩
  simp only [hN, hM] at H1 H2 Hd He Ht Hna Hnb hl hl2 ⊢
  clear hN hM
  go_wp2
  go_loopw [5] (fun i wr => ∃ k : Nat, k ≤ N ∧ k ≤ M ∧ i = .int .i64 k ∧ wr.heap = w.heap ∧ Hid (a.take k = b.take k) ∧ ∃ q, wr = w.drewN q) (fun i _ => N - (intOf i).toNat)
  case atStart => exact ⟨0, by omega, by omega, rfl, rfl, rfl, ⟨0, rfl⟩⟩
  case round =>
    obtain ⟨k, hk, hk2, rfl, hh, HE, hB⟩ := hrel
    by_cases hlt : k < N
    · by_cases hlt2 : k < M
      · obtain ⟨ba, oa, rfl, _, hcell⟩ := unhide H1 (unhide Hna k hlt)
        obtain ⟨bb, ob, rfl, _, hcell2⟩ := unhide H2 (unhide Hnb k hlt2)
        have c1 : wr.cell? ⟨ba, oa + k, none⟩ = some (.int .u8 ((a.getD k 0).toNat : Int)) := by rw [← hcell k hlt]; unfold World.cell?; rw [hh]
        have c2' : wr.cell? ⟨bb, ob + k, none⟩ = some (.int .u8 ((b.getD k 0).toNat : Int)) := by rw [← hcell2 k hlt2]; unfold World.cell?; rw [hh]
        have Hd2 := hide (unhide Hd k (unhide HE) hlt hlt2)
        have Ht2 := hide (unhide Ht k (unhide HE) hlt hlt2)
        obtain ⟨p, hp⟩ : ∃ p, (a.getD k 0).toNat = p := ⟨_, rfl⟩
        obtain ⟨q, hq⟩ : ∃ q, (b.getD k 0).toNat = q := ⟨_, rfl⟩
        rw [hp] at c1 Ht2 Hd2
        rw [hq] at c2' Ht2 Hd2
        have HB := hide hB
        have Hh := hide hh
        have k0 : (0 : Int) ≤ (k : Int) := by omega
        have k1 : (k : Int) < (N : Int) := by omega
        have k2 : (k : Int) < (M : Int) := by omega
        have d1 : decide ((k : Int) < (N : Int)) = true := by simp; omega
        have d1n : decide (k < N) = true := by simp; omega
        have d2 : decide ((k : Int) < (M : Int)) = true := by simp; omega
        have d2n : decide (k < M) = true := by simp; omega
        clear hB hh hcell hcell2 hp hq Hd He Ht Hna Hnb HE
        by_cases hpq : p = q
        · have Ht3 := hide (unhide Ht2 hpq)
          have de : ((p : Int) == (q : Int)) = true := by simp [hpq]
          subst hpq
          clear Ht2 Hd2
          go_wp2
          go_region_held3 (fun w' => w'.cell? ⟨ba, oa + k, none⟩ = some (.int .u8 p) ∧ w'.cell? ⟨bb, ob + k, none⟩ = some (.int .u8 p)) (go_keep) (fail)
          go_wp2
          go_roundw
          case rel =>
            first
              | exact ⟨k + 1, by omega, by omega, by go_num, unhide Hh, Ht3, qdrew (unhide HB)⟩
              | ((repeat apply Exists.intro); exact ⟨⟨k + 1, by omega, by omega, by go_num, unhide Hh, Ht3, qdrew (unhide HB)⟩, rfl⟩)
          case measure => simp [intOf]; omega
        · have Hd3 := hide (unhide Hd2 hpq)
          have de : ((p : Int) == (q : Int)) = false := by simp; omega
          clear Ht2 Hd2 hpq
          go_wp2
          go_region_held3 (fun w' => w'.cell? ⟨ba, oa + k, none⟩ = some (.int .u8 p) ∧ w'.cell? ⟨bb, ob + k, none⟩ = some (.int .u8 q)) (go_keep) (fail)
          go_wp2
          go_region_held3 (fun w' => w'.cell? ⟨ba, oa + k, none⟩ = some (.int .u8 p) ∧ w'.cell? ⟨bb, ob + k, none⟩ = some (.int .u8 q)) (go_keep) (fail)
          go_wp2
          go_ret
          exact ⟨by rw [unhide Hd3]; simp, qdrew (qdrew (unhide HB))⟩
      · have d1 : decide ((k : Int) < (N : Int)) = true := by simp; omega
        have d1n : decide (k < N) = true := by simp; omega
        have d2 : decide ((k : Int) < (M : Int)) = false := by simp; omega
        have d2n : decide (k < M) = false := by simp; omega
        have Hf := hide (unhide He k (unhide HE) (by omega) hk hk2)
        have HB := hide hB
        clear Hd He Ht Hna Hnb HE hB hh
        go_wp2
        go_ret
        exact ⟨by rw [unhide Hf]; simp, unhide HB⟩
    · have d1 : decide ((k : Int) < (N : Int)) = false := by simp; omega
      have d1n : decide (k < N) = false := by simp; omega
      have Hf := hide (unhide He k (unhide HE) (by omega) hk hk2)
      have HB := hide hB
      clear Hd He Ht Hna Hnb HE hB hh
      go_wp2
      go_ret
      exact ⟨by rw [unhide Hf]; simp, unhide HB⟩
end Go.Proofs.YtbjgknoipbekoaaGreat
