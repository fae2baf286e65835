/-
  Maps of ints to one-cell values in memory, as functions with their count; what the operations do to them.
-/
import Derived.Test.YtbblhogdfdpipaaAs17
import Derived.MapKept
import Derived.ChangeKeysEq
import Derived.Maps.OwnSet
import Derived.Maps.RangeRun
namespace Go.Proofs.Ytbblhogdfdpipaa
open Go.RowKit Go.MapKept
/-- A type of maps of ints to pointers. -/
structure MapT (T E : TypeId) : Prop where
  map : Try.prog.underlying T = some (.map 3 E)
  key : Try.prog.underlying 3 = some (.int .i64)
  zero : ∀ w, (zeroValue E).run Try.prog w = .ok (.pointer none) w
def ki (n : Int) : Value := .int .i64 n
theorem ki_inj {a b : Int} (h : ki a = ki b) : a = b := by simpa [ki] using h
/-- The entries of a map are those of f. -/
structure IEs (es : Array MapEntry) (f : Int → Option Value) : Prop where
  each : ∀ e ∈ es.toList, ∃ k, e.key = ki k ∧ f k = some e.val
  none : ∀ k, (∀ e ∈ es.toList, e.key ≠ ki k) → f k = none
/-- Block B holds a map of c entries: f. -/
def IMAt (w : World) (B : Nat) (f : Int → Option Value) (c : Nat) : Prop := ∃ es clock, w.heap[B]? = some (.map es clock) ∧ Stamped es clock ∧ IEs es f ∧ es.size = c
def updI (f : Int → Option Value) (k : Int) (o : Option Value) : Int → Option Value := fun j => if j = k then o else f j
theorem IEs.keys {es : Array MapEntry} {f : Int → Option Value} (h : IEs es f) : ∀ e ∈ es.toList, IsKey (.int .i64) e.key := by
  intro e he
  obtain ⟨k, hk, _⟩ := h.each e he
  rw [hk]; rfl
theorem IMAt.made (w : World) : IMAt (w.alloc (.map #[] 0)) w.heap.size (fun _ => none) 0 := ⟨#[], 0, (heap_alloc w _).1, stamped_empty 0, ⟨fun e he => by simp at he, fun _ _ => rfl⟩, rfl⟩
theorem IMAt.aside {S : Set_} {w w' : World} {B c : Nat} {f : Int → Option Value} (h : IMAt w B f c) (hb : Aside S w w') (hB : ¬ S B) : IMAt w' B f c := by
  obtain ⟨es, k, h1, h2, h3, h4⟩ := h
  exact ⟨es, k, by rw [hb.block B (Array.getElem?_eq_some_iff.1 h1).1 hB]; exact h1, h2, h3, h4⟩
theorem IMAt.lt {w : World} {B c : Nat} {f : Int → Option Value} (h : IMAt w B f c) : B < w.heap.size := by
  obtain ⟨es, k, h1, _⟩ := h
  exact (Array.getElem?_eq_some_iff.1 h1).1
theorem IMAt.congr {w : World} {B c : Nat} {f g : Int → Option Value} (h : IMAt w B f c) (e : ∀ k, f k = g k) : IMAt w B g c := by
  obtain rfl : f = g := funext e
  exact h
theorem IMAt.len {T E : TypeId} (M : MapT T E) {w : World} {B c : Nat} {f : Int → Option Value} (h : IMAt w B f c) (ty : TypeId) : (Builtin.len_ #[T] ty #[.map (some B)]).run Try.prog w = .ok (.int .i64 (c : Int)) w := by
  obtain ⟨es, k, h1, h2, h3, rfl⟩ := h
  simp [Builtin.len_, run_underlying M.map, MapKept.run_getObj_map h1, goInt]
/-- m[k], with whether it is there. -/
theorem IMAt.look {T E : TypeId} (M : MapT T E) {w : World} {B c : Nat} {f : Int → Option Value} (h : IMAt w B f c) (k : Int) : (Instr.lookup T (.map (some B)) (.int .i64 k) true).run Try.prog w = .ok (.tuple #[(f k).getD (.pointer none), .bool (f k).isSome]) w := by
  obtain ⟨es, c, h1, h2, h3, _⟩ := h
  have hk : IsKey (.int .i64) (ki k) := rfl
  rcases findNow_spec hk es.toList 0 h3.keys with ⟨g1, g2⟩ | ⟨j, e, g1, g2, g3⟩
  · rw [h3.none k g2]
    unfold ki at hk g1
    simp [Instr.lookup, run_underlying M.map, MapKept.run_getObj_map h1, run_checkKey M.key hk, run_findKey M.key g1, Result.andThen, M.zero]
  · obtain ⟨i, hi, hf⟩ := h3.each e (List.mem_of_getElem? g2)
    rw [hi] at g3
    have := ki_inj g3
    subst this
    rw [hf]
    unfold ki at hk g1
    simp [Instr.lookup, run_underlying M.map, MapKept.run_getObj_map h1, run_checkKey M.key hk, run_findKey M.key g1, Result.andThen]
theorem grown_aside {w w' : World} {B : Nat} (h : w.grownBy w' (some B)) : Aside (fun k => k = B) w w' := Aside.of_grown h fun _ e => (Option.some.inj e).symm
/-- m[k] = v. -/
theorem IMAt.update {T E : TypeId} (M : MapT T E) {w : World} {B n : Nat} {f : Int → Option Value} (h : IMAt w B f n) (k : Int) (v : Value) (hfk : f k = none) : ∃ w', (Instr.mapUpdate T (.map (some B)) (ki k) v).run Try.prog w = .ok () w' ∧ IMAt w' B (updI f k (some v)) (n + 1) ∧ w.grownBy w' (some B) ∧ w'.heap.size = w.heap.size := by
  obtain ⟨es, c, h1, h2, h3, h4⟩ := h
  have hk : IsKey (.int .i64) (ki k) := rfl
  rcases findNow_spec hk es.toList 0 h3.keys with ⟨g1, g2⟩ | ⟨j, e, g1, g2, g3⟩
  · have hg : w.grownBy { w with heap := w.heap.setIfInBounds B (.map (es.push ⟨ki k, v, c⟩) (c + 1)) } (some B) := ⟨rfl, rfl, rfl, by simp, fun i _ hi => (heap_set h1).2 i fun e => hi (by rw [e])⟩
    refine ⟨{ w with heap := w.heap.setIfInBounds B (.map (es.push ⟨ki k, v, c⟩) (c + 1)) }, ?_, ⟨_, _, (heap_set h1).1, stamped_push h2 g2, ⟨?_, ?_⟩, by rw [Array.size_push, h4]⟩, hg, by simp⟩
    · simp [Instr.mapUpdate, run_underlying M.map, MapKept.run_getObj_map h1, run_checkKey M.key hk, run_findKey M.key g1, MapKept.run_setObj_map _ h1, Result.andThen]
    · intro x hx
      simp only [Array.toList_push, List.mem_append, List.mem_singleton] at hx
      rcases hx with hx | rfl
      · obtain ⟨i, hi, hf⟩ := h3.each x hx
        have hne : i ≠ k := fun e => g2 x hx (by rw [hi, e])
        exact ⟨i, hi, by unfold updI; rw [if_neg hne]; exact hf⟩
      · exact ⟨k, rfl, by unfold updI; rw [if_pos rfl]⟩
    · intro i hi
      have hne : i ≠ k := fun e => hi ⟨ki k, v, c⟩ (by simp) (by rw [e])
      unfold updI
      rw [if_neg hne]
      exact h3.none i fun x hx => hi x (by simp [hx])
  · obtain ⟨i, hi, hf⟩ := h3.each e (List.mem_of_getElem? g2)
    rw [hi] at g3
    have := ki_inj g3
    subst this
    rw [hfk] at hf
    cases hf
/-- delete(m, k). -/
theorem IMAt.drop {T E : TypeId} (M : MapT T E) {w : World} {B n : Nat} {f : Int → Option Value} (h : IMAt w B f n) (k : Int) (ty : TypeId) : ∃ w', (Builtin.delete_ #[T, 3] ty #[.map (some B), .int .i64 k]).run Try.prog w = .ok (.tuple #[]) w' ∧ IMAt w' B (updI f k none) (if (f k).isSome then n - 1 else n) ∧ w.grownBy w' (some B) ∧ w'.heap.size = w.heap.size := by
  obtain ⟨es, c, h1, h2, h3, h4⟩ := h
  have hk : IsKey (.int .i64) (ki k) := rfl
  have hkk : (.int .i64 k : Value) = ki k := rfl
  rw [hkk]
  rcases findNow_spec hk es.toList 0 h3.keys with ⟨g1, g2⟩ | ⟨j, e, g1, g2, g3⟩
  · have hg : w.grownBy { w with heap := w.heap.setIfInBounds B (.map es c) } (some B) := ⟨rfl, rfl, rfl, by simp, fun i _ hi => (heap_set h1).2 i fun e => hi (by rw [e])⟩
    refine ⟨{ w with heap := w.heap.setIfInBounds B (.map es c) }, ?_, ⟨_, _, (heap_set h1).1, h2, ⟨?_, ?_⟩, by rw [h3.none k g2]; exact h4⟩, hg, by simp⟩
    · simp [Builtin.delete_, run_underlying M.map, MapKept.run_getObj_map h1, run_checkKey M.key hk, run_findKey M.key g1, MapKept.run_setObj_map _ h1, Result.andThen]
    · intro x hx
      obtain ⟨i, hi, hf⟩ := h3.each x hx
      have hne : i ≠ k := fun e => g2 x hx (by rw [hi, e])
      exact ⟨i, hi, by unfold updI; rw [if_neg hne]; exact hf⟩
    · intro i hi
      unfold updI
      split
      · rfl
      · exact h3.none i hi
  · have hjl : j < es.toList.length := (List.getElem?_eq_some_iff.1 g2).1
    have hjs : j < es.size := by simpa using hjl
    have ej : es.toList[j] = e := (List.getElem?_eq_some_iff.1 g2).2
    have hsub : (es.eraseIdxIfInBounds j).toList = es.toList.eraseIdx j := by
      unfold Array.eraseIdxIfInBounds
      rw [dif_pos hjs]
      simp
    have hn : es.toList.Pairwise (fun x y => x.key ≠ y.key) := ((stamped_iff es c).1 h2).2.2
    have hg : w.grownBy { w with heap := w.heap.setIfInBounds B (.map (es.eraseIdxIfInBounds j) c) } (some B) := ⟨rfl, rfl, rfl, by simp, fun i _ hi => (heap_set h1).2 i fun e => hi (by rw [e])⟩
    refine ⟨{ w with heap := w.heap.setIfInBounds B (.map (es.eraseIdxIfInBounds j) c) }, ?_, ⟨_, _, (heap_set h1).1, stamped_erase h2 j, ⟨?_, ?_⟩, ?_⟩, hg, by simp⟩
    · simp [Builtin.delete_, run_underlying M.map, MapKept.run_getObj_map h1, run_checkKey M.key hk, run_findKey M.key g1, MapKept.run_setObj_map _ h1, Result.andThen]
    · intro x hx
      rw [hsub] at hx
      obtain ⟨m, hmj, hm⟩ := List.mem_eraseIdx_iff_getElem?.1 hx
      have hml : m < es.toList.length := (List.getElem?_eq_some_iff.1 hm).1
      have em : es.toList[m] = x := (List.getElem?_eq_some_iff.1 hm).2
      have hkey : x.key ≠ e.key := by
        rcases Nat.lt_or_gt_of_ne hmj with hlt | hlt
        · have := List.pairwise_iff_getElem.1 hn m j hml hjl hlt
          rw [ej, em] at this
          exact this
        · have := List.pairwise_iff_getElem.1 hn j m hjl hml hlt
          rw [ej, em] at this
          exact this.symm
      obtain ⟨i, hi, hf⟩ := h3.each x (List.mem_of_getElem? hm)
      have hne : i ≠ k := fun e1 => hkey (by rw [hi, e1, g3])
      exact ⟨i, hi, by unfold updI; rw [if_neg hne]; exact hf⟩
    · intro i hi
      unfold updI
      split
      · rfl
      · rename_i hne
        refine h3.none i fun x hx e2 => ?_
        obtain ⟨m, hm, ex⟩ := List.getElem_of_mem hx
        by_cases hmj : m = j
        · subst hmj
          rw [ej] at ex
          subst ex
          rw [g3] at e2
          exact hne (ki_inj e2).symm
        · exact hi x (by rw [hsub]; exact List.mem_eraseIdx_iff_getElem?.2 ⟨m, hmj, by rw [List.getElem?_eq_getElem hm, ex]⟩) e2
    · obtain ⟨i, hi, hf⟩ := h3.each e (List.mem_of_getElem? g2)
      rw [hi] at g3
      have := ki_inj g3
      subst this
      rw [hf, Option.isSome_some, if_pos rfl]
      unfold Array.eraseIdxIfInBounds
      rw [dif_pos hjs, Array.size_eraseIdx, h4]
/-- A map that is gone through: which of its entries were met. -/
structure RngI (w : World) (B r : Nat) (es : Array MapEntry) (clock : Nat) (seen : Array Nat) : Prop where
  map : w.heap[B]? = some (.map es clock)
  it : ∃ c0, w.heap[r]? = some (.mapIter (some B) clock seen c0) ∧ clock ≤ c0
  st : Stamped es clock
theorem RngI.kept {w w' : World} {B r : Nat} {es : Array MapEntry} {clock : Nat} {seen : Array Nat} {S : Set_} (h : RngI w B r es clock seen) (hb : Aside S w w') (hB : ¬ S B) (hr : ¬ S r) : RngI w' B r es clock seen := by
  obtain ⟨h1, ⟨c0, h2, h3⟩, h4⟩ := h
  exact ⟨by rw [hb.block B (Array.getElem?_eq_some_iff.1 h1).1 hB]; exact h1, ⟨c0, by rw [hb.block r (Array.getElem?_eq_some_iff.1 h2).1 hr]; exact h2, h3⟩, h4⟩
theorem RngI.ne {w : World} {B r : Nat} {es : Array MapEntry} {clock : Nat} {seen : Array Nat} (h : RngI w B r es clock seen) : r ≠ B ∧ r < w.heap.size ∧ B < w.heap.size := by
  obtain ⟨h1, ⟨c0, h2, h3⟩, h4⟩ := h
  refine ⟨fun e => ?_, (Array.getElem?_eq_some_iff.1 h2).1, (Array.getElem?_eq_some_iff.1 h1).1⟩
  rw [e, h1] at h2
  cases h2
theorem range_i {T E : TypeId} (M : MapT T E) {w : World} {B c : Nat} {f : Int → Option Value} (h : IMAt w B f c) : ∃ es clock, IEs es f ∧ es.size = c ∧ (∃ w', (Instr.range T (.map (some B))).run Try.prog w = .ok (.pointer (some ⟨w.heap.size, 0, none⟩)) w' ∧ RngI w' B w.heap.size es clock #[] ∧ Below w.heap.size w w') := by
  obtain ⟨es, c, h1, h2, h3, h4⟩ := h
  have hB : B < w.heap.size := (Array.getElem?_eq_some_iff.1 h1).1
  refine ⟨es, c, h3, h4, _, run_range_map w T 3 E B es c M.map h1, ⟨?_, ⟨c, (heap_alloc w _).1, Nat.le_refl _⟩, h2⟩, (Below.refl _ _).alloc (Nat.le_refl _) _⟩
  rw [(heap_alloc w _).2 B hB]
  exact h1
/-- How many entries are left, by the world. -/
def leftIn (w : World) (B r : Nat) : Nat := match w.heap[B]?, w.heap[r]? with
  | some (.map es _), some (.mapIter _ _ seen _) => (leftOf es seen).size
  | _, _ => 0
theorem RngI.left {w : World} {B r : Nat} {es : Array MapEntry} {clock : Nat} {seen : Array Nat} (h : RngI w B r es clock seen) : leftIn w B r = (leftOf es seen).size := by
  obtain ⟨h1, ⟨c0, h2, _⟩, _⟩ := h
  unfold leftIn
  rw [h1, h2]
/-- One step. -/
theorem RngI.next {w : World} {B r : Nat} {es : Array MapEntry} {clock : Nat} {seen : Array Nat} (h : RngI w B r es clock seen) (ty : TypeId) :
    ((∀ e ∈ es.toList, seen.contains e.born = true) ∧ (Instr.next (.pointer (some ⟨r, 0, none⟩)) false ty).run Try.prog w = .ok (.tuple #[.bool false]) w) ∨
    ∃ e ∈ es.toList, seen.contains e.born = false ∧ ∃ w', (Instr.next (.pointer (some ⟨r, 0, none⟩)) false ty).run Try.prog w = .ok (.tuple #[.bool true, e.key, e.val]) w' ∧ RngI w' B r es clock (seen.push e.born) ∧ Aside (fun k => k = r) w w' ∧ w'.heap.size = w.heap.size ∧ (leftOf es (seen.push e.born)).size < (leftOf es seen).size ∧ (Instr.entry (.pointer (some ⟨r, 0, none⟩))).run Try.prog w' = .ok (.tuple #[e.key, e.val]) w' := by
  have hne := h.ne
  obtain ⟨h1, ⟨c0, h2, h3⟩, h4⟩ := h
  have hst := (stamped_iff es clock).1 h4
  rcases run_next_at (P := Try.prog) w ty r B clock c0 seen es clock h2 h1 hst.1 h3 with ⟨g1, g2⟩ | ⟨e, g1, w1, g2, g3⟩
  · exact Or.inl ⟨all_seen es seen g1, g2⟩
  · obtain ⟨hm, hs⟩ := mem_left g1
    have hr1 : w1.heap[r]? = some (.mapIter (some B) clock seen c0) := by rcases g2 with rfl | rfl <;> exact h2
    have hb1 : w1.heap[B]? = some (.map es clock) := by rcases g2 with rfl | rfl <;> exact h1
    have hset := MapKept.heap_set (o' := .mapIter (some B) clock (seen.push e.born) clock) hr1
    have hb2 : (ChangeMaps.setBlock w1 r (.mapIter (some B) clock (seen.push e.born) clock)).heap[B]? = some (.map es clock) := (hset.2 B fun e1 => hne.1 e1.symm).trans hb1
    refine Or.inr ⟨e, hm, hs, _, g3, ⟨hb2, ⟨clock, hset.1, Nat.le_refl _⟩, h4⟩, ?_, ?_, left_shrinks es seen e g1, run_entry_at _ r B clock seen es clock e hset.1 hb2 hm hst.2.1⟩
    · rcases g2 with rfl | rfl <;> exact ⟨rfl, rfl, rfl, by simp [ChangeMaps.setBlock], fun i _ hi => hset.2 i hi⟩
    · rcases g2 with rfl | rfl <;> simp [ChangeMaps.setBlock]
end Go.Proofs.Ytbblhogdfdpipaa
