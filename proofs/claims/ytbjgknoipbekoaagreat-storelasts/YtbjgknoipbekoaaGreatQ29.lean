/-
  What an argument's reading gives the walks: slices of slices of changes, turns.
-/
import Derived.Test.YtbjgknoipbekoaaGreatQ18
import Derived.Test.YtbjgknoipbekoaaGreatQ28
import Derived.Deep.Slices
namespace Go.Proofs.YtbjgknoipbekoaaGreat
open Go.ChangeShapes Go.WideShapes Go.ChangeAt Go.RowKit
/-- WHAT A READING OF A SLICE OF FLAGS GIVES. -/
theorem bools_of {H : Type} {enc : TypeId × Value → H} {W : World} {v : Value} {fuel : Nat} {x : DataW H × List MemPlace}
    (hf : DataW.trod enc Tryz.prog W 0 (fun _ => true) true fuel 51 [v] = some x) : ∃ l : List Bool, ValsAt W v (l.map .bool) := by
  rcases Go.Deep.open_bools Tryz.underlying51 Tryz.underlying4 (by kernel_rfl) hf with ⟨hcs, _⟩ | ⟨y, len, cap, Z, hcs, _, hl, hm, _, hcell⟩
  · obtain rfl : v = .slice none 0 0 := by simpa using hcs
    exact ⟨[], vals_nil _⟩
  · obtain rfl : v = .slice (some y) len cap := by simpa using hcs
    have hlv : (((List.range len).map Z).map Value.bool).length = len := by simp
    refine ⟨(List.range len).map Z, some y, cap, by rw [hlv], by rw [hlv]; exact hl, fun h => (by cases h), fun hne => ?_⟩
    have hpos : 0 < len := by
      rcases Nat.eq_zero_or_pos len with h | h
      · subst h; simp at hne
      · exact h
    have c0 := hcell 0 (by omega)
    obtain ⟨b, o, s⟩ := y
    have hs : s = none := by
      cases s with
      | none => rfl
      | some k => simp [Addr.add, World.cell?] at c0; split at c0 <;> simp at c0
    subst hs
    refine ⟨b, o, rfl, fun j v hv => ?_⟩
    have hj : j < len := by
      have := (List.getElem?_eq_some_iff.1 hv).1
      rw [hlv] at this; exact this
    have hc := hcell j (by omega)
    rw [Addr.add_mid] at hc
    rw [hc, ← hv]
    simp [hj]
theorem pick_list {α : Type} {Q : Value → α → Prop} : ∀ (vs : List Value), (∀ u ∈ vs, ∃ a, Q u a) → ∃ l : List α, l.length = vs.length ∧ ∀ (i : Nat) (u : Value) (a : α), vs[i]? = some u → l[i]? = some a → Q u a
  | [], _ => ⟨[], rfl, fun i u a h => by simp at h⟩
  | v :: vs, h => by
    obtain ⟨a, ha⟩ := h v List.mem_cons_self
    obtain ⟨l, hl, hq⟩ := pick_list vs fun u hu => h u (List.mem_cons_of_mem _ hu)
    refine ⟨a :: l, by simp [hl], fun i u b h1 h2 => ?_⟩
    cases i with
    | zero =>
      simp only [List.getElem?_cons_zero, Option.some.injEq] at h1 h2
      subst h1
      subst h2
      exact ha
    | succ i => exact hq i u b (by simpa using h1) (by simpa using h2)
/-- What a reading of a slice gives: its cells, and a reading of each. -/
theorem slice_of {T E : TypeId} (hu : Tryz.prog.underlying T = some (.slice E)) (ce : Tryz.prog.cellsOf E = 1) {H : Type} {enc : TypeId × Value → H} {W : World} {v : Value} {fuel : Nat} {x : DataW H × List MemPlace}
    (hf : DataW.trod enc Tryz.prog W 0 (fun _ => true) true fuel T [v] = some x) : ∃ vs : List Value, ValsAt W v vs ∧ vs.length ≤ 9223372036854775807 ∧ ∀ u ∈ vs, ∃ k y, DataW.trod enc Tryz.prog W 0 (fun _ => true) true k E [u] = some y := by
  rcases Go.Deep.open_slice hu hf with ⟨hcs, _⟩ | ⟨y, len, cap, m, k, D, Pl, hcs, _, hl, hm, hmm, _, hx⟩
  · obtain rfl : v = .slice none 0 0 := by simpa using hcs
    exact ⟨[], vals_nil _, by simp, fun u hu => by simp at hu⟩
  · obtain rfl : v = .slice (some y) len cap := by simpa using hcs
    have hmc : m = cap := by simpa using hmm
    subst hmc
    have each : ∀ i, i < len → ∃ u : Value, W.cell? (y.add i) = some u ∧ ∃ k z, DataW.trod enc Tryz.prog W 0 (fun _ => true) true k E [u] = some z := by
      intro i hi
      obtain ⟨cs', h1, h2⟩ := hx i (by omega)
      rw [ce] at h1
      obtain ⟨_, hlen, hcell⟩ := World.cells?_some h1
      obtain ⟨u, rfl⟩ : ∃ u, cs' = [u] := List.length_eq_one_iff.1 hlen
      refine ⟨u, ?_, _, _, h2⟩
      have h3 := hcell 0 (by omega)
      simpa [Addr.add] using h3
    haveI : Inhabited Value := ⟨undef⟩
    obtain ⟨f, hfl⟩ := Go.Deep.choose_lt each
    have hlv : ((List.range len).map f).length = len := by simp
    refine ⟨(List.range len).map f, ⟨some y, m, by rw [hlv], by rw [hlv]; exact hl, fun h => (by cases h), fun hne => ?_⟩, by rw [hlv]; simp only [maxLen] at hm; omega, fun u hu => ?_⟩
    · have hpos : 0 < len := by
        rcases Nat.eq_zero_or_pos len with h | h
        · subst h; simp at hne
        · exact h
      have c0 := (hfl 0 hpos).1
      obtain ⟨b, o, s⟩ := y
      have hs : s = none := by
        cases s with
        | none => rfl
        | some k => simp [Addr.add, World.cell?] at c0; split at c0 <;> simp at c0
      subst hs
      refine ⟨b, o, rfl, fun j v hv => ?_⟩
      have hj : j < len := by
        have := (List.getElem?_eq_some_iff.1 hv).1
        rw [hlv] at this; exact this
      have hc := (hfl j hj).1
      rw [Addr.add_mid] at hc
      rw [hc, ← hv]
      simp [hj]
    · obtain ⟨i, hi, rfl⟩ := List.getElem_of_mem hu
      rw [hlv] at hi
      have := (hfl i hi).2
      simpa using this
/-- WHAT A READING OF A SLICE OF SLICES OF CHANGES GIVES. -/
theorem chss_of {H : Type} {enc : TypeId × Value → H} {W : World} {v : Value} {fuel : Nat} {x : DataW H × List MemPlace}
    (hf : DataW.trod enc Tryz.prog W 0 (fun _ => true) true fuel 22 [v] = some x) : ∃ ll : List (List Ch), ChssAt (fun j => j < W.heap.size) W v ll := by
  obtain ⟨vs, h1, h2, h3⟩ := slice_of Tryz.underlying22 (by kernel_rfl) hf
  obtain ⟨ll, hl, hq⟩ := pick_list (Q := fun u (l : List Ch) => ChsAt (fun j => j < W.heap.size) W u l) vs fun u hu => by obtain ⟨k, y, hy⟩ := h3 u hu; obtain ⟨l, h4, _⟩ := chs_of hy; exact ⟨l, h4⟩
  obtain ⟨sp, c, e, e2, e3, _⟩ := id h1
  refine ⟨ll, ⟨sp, c, by rw [hl]; exact e, by rw [hl]; exact e2, e3⟩, fun i l hi => ?_⟩
  have hil : i < vs.length := by have := (List.getElem?_eq_some_iff.1 hi).1; omega
  obtain ⟨b, o, c', e4, _, hb, hcell⟩ := ValsAt.cell h1 (by intro e; rw [e] at hil; simp at hil)
  have hvi : vs[i]? = some (vs[i]) := List.getElem?_eq_getElem hil
  refine ⟨b, o, _, c', vs[i], e4, hb, hb, ?_, hq i _ l hvi hi⟩
  rw [hcell i hil, List.getD_eq_getElem?_getD, hvi]
  rfl
theorem chss_arg {H : Type} {enc : TypeId × Value → H} {W : World} {a : Option Addr} {len cap : Nat} {fuel : Nat} {x : DataW H × List MemPlace}
    (hf : DataW.trod enc Tryz.prog W 0 (fun _ => true) true fuel 22 (Value.slice a len cap).cells.toList = some x) : ∃ ll : List (List Ch), ChssAt (fun j => j < W.heap.size) W (.slice a len cap) ll :=
  chss_of (v := .slice a len cap) (by simpa [Value.cells] using hf)
set_option maxRecDepth 100000 in
/-- WHAT A READING OF A SLICE OF TURNS GIVES. -/
theorem turns15_arg {H : Type} {enc : TypeId × Value → H} {W : World} {a : Option Addr} {len cap : Nat} {fuel : Nat} {x : DataW H × List MemPlace}
    (hf : DataW.trod enc Tryz.prog W 0 (fun _ => true) true fuel 50 (Value.slice a len cap).cells.toList = some x) : ∃ l : List TurnQ, TsAt W (.slice a len cap) l := by
  rcases Go.Deep.open_slice Tryz.underlying50 hf with ⟨hcs, _⟩ | ⟨y, n, c, m, k, D, Pl, hcs, _, hl, hm, hmm, _, hx⟩
  · simp [Value.cells] at hcs
    obtain ⟨rfl, rfl, rfl⟩ := hcs
    exact ⟨[], none, 0, rfl, fun h => absurd rfl h⟩
  · simp [Value.cells] at hcs
    obtain ⟨rfl, rfl, rfl⟩ := hcs
    have hmc : m = cap := by simpa using hmm
    subst hmc
    have ce : Tryz.prog.cellsOf 53 = 5 := by kernel_rfl
    have each : ∀ i, i < len → ∃ q : TurnQ × Value × Value × Value, ((-9223372036854775808 ≤ q.1.arm ∧ q.1.arm ≤ 9223372036854775807) ∧ (-9223372036854775808 ≤ q.1.again ∧ q.1.again ≤ 9223372036854775807)) ∧ W.cell? (y.add (i * 5 + 0)) = some q.2.1 ∧ W.cell? (y.add (i * 5 + 1)) = some (.int .i64 q.1.arm) ∧ W.cell? (y.add (i * 5 + 2)) = some q.2.2.1 ∧ W.cell? (y.add (i * 5 + 3)) = some (.int .i64 q.1.again) ∧ W.cell? (y.add (i * 5 + 4)) = some q.2.2.2 ∧ ChssAt (fun j => j < W.heap.size) W q.2.1 q.1.lists ∧ ValsAt W q.2.2.1 (q.1.keep.map .bool) ∧ ValsAt W q.2.2.2 (q.1.hold.map .bool) := by
      intro i hi
      obtain ⟨cs', h1, h2⟩ := hx i (by omega)
      rw [ce] at h1
      obtain ⟨_, hlen, hcell⟩ := World.cells?_some h1
      obtain ⟨xs, k, hk, hxy, _, hxl, hfs⟩ := DataW.trod_struct Tryz.underlying53 h2
      match xs, hxl, cs', hlen with
      | [y0, y1, y2, y3, y4], _, [v0, v1, v2, v3, v4], _ =>
        have q3 : Tryz.prog.cellsOf 3 = 1 := by kernel_rfl
        have qb : Tryz.prog.cellsOf 22 = 1 := by kernel_rfl
        have qt : Tryz.prog.cellsOf 51 = 1 := by kernel_rfl
        have g0 : DataW.trod enc Tryz.prog W 0 (fun _ => true) true k 22 [v0] = some y0 := by
          have h : DataW.trod enc Tryz.prog W 0 (fun _ => true) true k 22 (([v0, v1, v2, v3, v4].drop 0).take (Tryz.prog.cellsOf 22)) = [y0, y1, y2, y3, y4][0]? := hfs 0 _ rfl
          rw [qb] at h
          exact h
        have g1 : DataW.trod enc Tryz.prog W 0 (fun _ => true) true k 3 [v1] = some y1 := by
          have h : DataW.trod enc Tryz.prog W 0 (fun _ => true) true k 3 (([v0, v1, v2, v3, v4].drop 1).take (Tryz.prog.cellsOf 3)) = [y0, y1, y2, y3, y4][1]? := hfs 1 _ rfl
          rw [q3] at h
          exact h
        have g2 : DataW.trod enc Tryz.prog W 0 (fun _ => true) true k 51 [v2] = some y2 := by
          have h : DataW.trod enc Tryz.prog W 0 (fun _ => true) true k 51 (([v0, v1, v2, v3, v4].drop 2).take (Tryz.prog.cellsOf 51)) = [y0, y1, y2, y3, y4][2]? := hfs 2 _ rfl
          rw [qt] at h
          exact h
        have g3 : DataW.trod enc Tryz.prog W 0 (fun _ => true) true k 3 [v3] = some y3 := by
          have h : DataW.trod enc Tryz.prog W 0 (fun _ => true) true k 3 (([v0, v1, v2, v3, v4].drop 3).take (Tryz.prog.cellsOf 3)) = [y0, y1, y2, y3, y4][3]? := hfs 3 _ rfl
          rw [q3] at h
          exact h
        have g4 : DataW.trod enc Tryz.prog W 0 (fun _ => true) true k 51 [v4] = some y4 := by
          have h : DataW.trod enc Tryz.prog W 0 (fun _ => true) true k 51 (([v0, v1, v2, v3, v4].drop 4).take (Tryz.prog.cellsOf 51)) = [y0, y1, y2, y3, y4][4]? := hfs 4 _ rfl
          rw [qt] at h
          exact h
        obtain ⟨z1, e1, _, w1⟩ := DataW.trod_int Tryz.underlying3 g1
        obtain ⟨z3, e3, _, w3⟩ := DataW.trod_int Tryz.underlying3 g3
        obtain ⟨l, hll⟩ := chss_of g0
        obtain ⟨kp, hkp⟩ := bools_of g2
        obtain ⟨hp, hhp⟩ := bools_of g4
        simp only [List.cons.injEq, and_true] at e1 e3
        subst e1
        subst e3
        have hb1 := bounds_i64 w1
        have hb3 := bounds_i64 w3
        have c0 := hcell 0 (by omega)
        have c1 := hcell 1 (by omega)
        have c2 := hcell 2 (by omega)
        have c3 := hcell 3 (by omega)
        have c4 := hcell 4 (by omega)
        rw [Go.Deep.add_add] at c0 c1 c2 c3 c4
        exact ⟨(⟨l, z1, kp, z3, hp⟩, v0, v2, v4), ⟨hb1, hb3⟩, c0, c1, c2, c3, c4, hll, hkp, hhp⟩
    haveI : Inhabited (TurnQ × Value × Value × Value) := ⟨(⟨[], 0, [], 0, []⟩, undef, undef, undef)⟩
    obtain ⟨f, hfl⟩ := Go.Deep.choose_lt each
    have hll : ((List.range len).map fun i => (f i).1).length = len := by simp
    refine ⟨(List.range len).map fun i => (f i).1, some y, m, by rw [hll], fun hne => ?_⟩
    have hpos : 0 < len := by
      rcases Nat.eq_zero_or_pos len with h | h
      · subst h; simp at hne
      · exact h
    have c0 := (hfl 0 hpos).2.1
    obtain ⟨b, o, s⟩ := y
    have hs : s = none := by
      cases s with
      | none => rfl
      | some k => simp [Addr.add, World.cell?] at c0; split at c0 <;> simp at c0
    subst hs
    refine ⟨b, o, rfl, fun i t hi => ?_⟩
    have hil : i < len := by
      have := (List.getElem?_eq_some_iff.1 hi).1
      rw [hll] at this; exact this
    rw [List.getElem?_map, List.getElem?_range hil] at hi
    simp only [Option.map_some, Option.some.injEq] at hi
    subst hi
    obtain ⟨⟨h1, h2⟩, h3, h4, h5, h6, h7, h8, h9, h10⟩ := hfl i hil
    rw [Addr.add_mid] at h3 h4 h5 h6 h7
    exact ⟨h1, h2, (f i).2.1, (f i).2.2.1, (f i).2.2.2, h3, by rw [Nat.add_assoc]; exact h4, by rw [Nat.add_assoc]; exact h5, by rw [Nat.add_assoc]; exact h6, by rw [Nat.add_assoc]; exact h7, h8, h9, h10⟩
end Go.Proofs.YtbjgknoipbekoaaGreat
