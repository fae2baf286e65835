/-
  What a reading of a slice of slices of numbers gives the walk.
-/
import Derived.Test.YthciafobknaipaaRow
import Derived.Test.YthciafobknaipaaPlaces
import Derived.Deep.Slices
import Derived.SizedLaws
namespace Go.Proofs.Ythciafobknaipaa
open Go.ChangeShapes Go.WideShapes Go.ChangeAt Go.RowKit
theorem piece_of {H : Type} {enc : TypeId × Value → H} {W : World} {fuel : Nat} {v : Value} {d : DataW H} {pl : List MemPlace}
    (hf : DataW.trod enc Try.prog W 0 (fun _ => true) true fuel 33 [v] = some (d, pl)) : ∃ l : List Int, ValsAt W v (ivals l) ∧ (l = [] ∨ ∃ e sp, d = .slice e sp ∧ l.length ≤ e.length + sp.length) := by
  have hf' := hf
  rcases open_ints Try.underlying33 Try.underlying3 (by kernel_rfl) hf with ⟨hcs, _⟩ | ⟨y, n, c, zs, hcs, _⟩
  · obtain rfl : v = .slice none 0 0 := by simpa using hcs
    exact ⟨[], vals_nil _, Or.inl rfl⟩
  · obtain rfl : v = .slice (some y) n c := by simpa using hcs
    obtain ⟨l, rfl, hb, hr⟩ := ints_arg hf'
    exact ⟨l, hb, hr⟩
theorem mem_all {H : Type} {e : TypeId} {d : DataW H} {n : Nat} (hn : n ∈ d.weights Try.prog e) : ∀ {l : List (DataW H)}, d ∈ l → n ∈ DataW.weightsAll Try.prog e l
  | a :: r, hd => by
    rw [DataW.weightsAll, List.mem_append]
    rcases List.mem_cons.1 hd with h | h
    · exact Or.inl (h ▸ hn)
    · exact Or.inr (mem_all hn h)
/-- EACH PIECE IS OF THE FORM's REACH. -/
theorem piece_reach {H : Type} {ts : List TypeId} {ds : List (DataW H)} (h : (DataW.weightsEach Try.prog ts ds).all (· ≤ reachBytes) = true) (ht : ts[0]? = some 43) {es sp e' sp' : List (DataW H)} (hd : ds[0]? = some (.slice es sp)) (hx : DataW.slice e' sp' ∈ es) : e'.length + sp'.length ≤ 4611686018427387904 := by
  have hb : Try.prog.bytesOf 3 = 8 := by kernel_rfl
  have key : (e'.length + sp'.length) * Try.prog.bytesOf 3 ≤ reachBytes := by
    refine of_decide_eq_true (List.all_eq_true.1 h _ (DataW.weights_mem_each (j := 0) (t := 43) ht hd _ ?_))
    rw [DataW.weights]
    simp only [Try.underlying43, List.mem_cons, List.mem_append]
    refine Or.inr (Or.inl (mem_all ?_ hx))
    simp [DataW.weights, Try.underlying33]
  rw [hb] at key
  have hr := reachBytes_lt
  omega
/-- WHAT A READING OF THE LISTS GIVES. -/
theorem lists_arg {H : Type} {enc : TypeId × Value → H} {W : World} {a : Option Addr} {len cap fuel : Nat} {d : DataW H} {pl : List MemPlace} {ts : List TypeId} {ds : List (DataW H)}
    (hf : DataW.trod enc Try.prog W 0 (fun _ => true) true fuel 43 (Value.slice a len cap).cells.toList = some (d, pl)) (h : (DataW.weightsEach Try.prog ts ds).all (· ≤ reachBytes) = true) (ht : ts[0]? = some 43) (hds : ds[0]? = some d) :
    ∃ L : List (List Int), IListsAt W (.slice a len cap) L ∧ ∀ l ∈ L, l.length ≤ 4611686018427387904 := by
  rcases Go.Deep.open_slice1 Try.underlying43 (by kernel_rfl) hf with ⟨hcs, _⟩ | ⟨y, n, c, m, n', V, D, Pl, hcs, _, hl, hm, hmm, hx, hall⟩
  · simp [Value.cells] at hcs
    obtain ⟨rfl, rfl, rfl⟩ := hcs
    exact ⟨[], ⟨[], rfl, vals_nil _, fun i hi => by simp at hi⟩, fun l h => by cases h⟩
  · simp [Value.cells] at hcs
    obtain ⟨rfl, rfl, rfl⟩ := hcs
    have hmc : m = cap := by simpa using hmm
    subst hmc
    have hd : d = .slice ((List.range len).map D) ((List.range (m - len)).map fun j => D (len + j)) := (Prod.ext_iff.1 hx).1
    have hp : ∀ i, i < len → ∃ q : Value × List Int, (∃ b o, (some y : Option Addr) = some ⟨b, o, none⟩ ∧ W.cell? ⟨b, o + i, none⟩ = some q.1) ∧ ValsAt W q.1 (ivals q.2) ∧ q.2.length ≤ 4611686018427387904 := fun i hi => by
      obtain ⟨h1, h2⟩ := hall i (by omega)
      obtain ⟨l, hb, hr⟩ := piece_of h2
      obtain ⟨b, o, sub⟩ := y
      have hs : sub = none := by simpa [Addr.add] using World.cell?_spot (hall 0 (by omega)).1
      subst hs
      rw [Addr.add_mid] at h1
      refine ⟨(_, l), ⟨b, o, rfl, h1⟩, hb, ?_⟩
      rcases hr with rfl | ⟨e, sp, he, hle⟩
      · simp
      · have := piece_reach h ht (es := (List.range len).map D) (sp := (List.range (m - len)).map fun j => D (len + j)) (e' := e) (sp' := sp) (by rw [hds, hd]) (List.mem_map.2 ⟨i, List.mem_range.2 hi, he⟩)
        show l.length ≤ _
        omega
    obtain ⟨f, hfl⟩ := Go.Deep.choose_lt (α := Value × List Int) hp
    have hlen : ((List.range len).map fun i => (f i).1).length = len := by simp
    refine ⟨(List.range len).map fun i => (f i).2, ⟨(List.range len).map fun i => (f i).1, by simp, ⟨some y, m, by rw [hlen], by rw [hlen]; exact hl, fun h => (by cases h), fun hne => ?_⟩, fun i hi => ?_⟩, fun l hlm => ?_⟩
    · have hpos : 0 < len := by
        rcases Nat.eq_zero_or_pos len with h | h
        · subst h; simp at hne
        · exact h
      obtain ⟨b, o, hy, _⟩ := (hfl 0 hpos).1
      refine ⟨b, o, hy, fun j v hv => ?_⟩
      have hj : j < len := by
        have := (List.getElem?_eq_some_iff.1 hv).1
        rw [hlen] at this; exact this
      obtain ⟨b2, o2, hy2, hc2⟩ := (hfl j hj).1
      rw [hy] at hy2
      simp only [Option.some.injEq, Addr.mk.injEq] at hy2
      obtain ⟨rfl, rfl, _⟩ := hy2
      rw [hc2, ← hv]
      simp [hj]
    · have hi' : i < len := by simpa using hi
      have e1 : ((List.range len).map fun i => (f i).1).getD i undef = (f i).1 := by simp [List.getD_eq_getElem?_getD, hi']
      have e2 : ((List.range len).map fun i => (f i).2).getD i [] = (f i).2 := by simp [List.getD_eq_getElem?_getD, hi']
      rw [e1, e2]
      exact (hfl i hi').2.1
    · obtain ⟨i, hi, rfl⟩ := List.mem_map.1 hlm
      exact (hfl i (List.mem_range.1 hi)).2.2
end Go.Proofs.Ythciafobknaipaa
