/-
  Maps of strings to slices of bytes in memory, as functions; what the operations do to them.
  Plain words on stores (layer 15): keys in their order, pairs, changes one after the other.
  Plain words on stores (layer 15): changes in bytes, written and read; a mark.
-/
import Derived.Test.YtbjgknoipbekoaaGreatQ0
import Derived.MapKept
import Derived.ChangeKeysEq
import Derived.Maps.OwnSet
import Derived.Maps.RangeRun
import Derived.Test.YtbjgknoipbekoaaGreatQ1
namespace Go.Proofs.YtbjgknoipbekoaaGreat
open Go.RowKit Go.MapKept
/-- A string's value. -/
def ks (k : Bs) : Value := .string ⟨k.toArray⟩
theorem ks_inj {a b : Bs} (h : ks a = ks b) : a = b := by simpa [ks] using h
/-- An element of the map: its bytes, in a block of V. -/
structure ElS (V : Set_) (w : World) (v : Value) (b : Bs) : Prop where
  at_ : BytesAt w v b
  blk : b ≠ [] → ∀ j, v.ownBlock = some j → V j
theorem BytesAt.beside {S : Set_} {a b : World} {x : Value} {l : Bs} (h : BytesAt a x l) (hb : Aside S a b) (hx : l ≠ [] → ∀ k, x.ownBlock = some k → ¬ S k) : BytesAt b x l := ValsAt.beside h hb fun hne => hx (by simpa using hne)
theorem ElS.aside {V S : Set_} {a b : World} {v : Value} {l : Bs} (h : ElS V a v l) (hb : Aside S a b) (hV : ∀ k, S k → ¬ V k) : ElS V b v l := ⟨h.at_.beside hb fun hne k hk hS => hV k hS (h.blk hne k hk), h.blk⟩
theorem ElS.mono {V V' : Set_} {a : World} {v : Value} {l : Bs} (h : ElS V a v l) (hV : ∀ k, V k → V' k) : ElS V' a v l := ⟨h.at_, fun hne k hk => hV k (h.blk hne k hk)⟩
theorem ElS.nil (V : Set_) (w : World) : ElS V w (.slice none 0 0) [] := ⟨bytes_nil w, fun h => absurd rfl h⟩
/-- The entries of a map are those of f; the elements lie in blocks of V. -/
structure SEs (V : Set_) (w : World) (es : Array MapEntry) (f : Bs → Option Bs) : Prop where
  each : ∀ e ∈ es.toList, ∃ k b, e.key = ks k ∧ f k = some b ∧ ElS V w e.val b
  none : ∀ k, (∀ e ∈ es.toList, e.key ≠ ks k) → f k = none
/-- Block B holds a map of strings to slices of bytes: that of f. -/
def SMAt (V : Set_) (w : World) (B : Nat) (f : Bs → Option Bs) : Prop := ∃ es clock, w.heap[B]? = some (.map es clock) ∧ Stamped es clock ∧ SEs V w es f
def updS (f : Bs → Option Bs) (k : Bs) (o : Option Bs) : Bs → Option Bs := fun j => if j = k then o else f j
theorem SEs.keys {V : Set_} {w : World} {es : Array MapEntry} {f : Bs → Option Bs} (h : SEs V w es f) : ∀ e ∈ es.toList, IsKey .string e.key := by
  intro e he
  obtain ⟨k, b, hk, _⟩ := h.each e he
  rw [hk]; trivial
theorem SMAt.made (V : Set_) (w : World) : SMAt V (w.alloc (.map #[] 0)) w.heap.size (fun _ => none) := ⟨#[], 0, (heap_alloc w _).1, stamped_empty 0, ⟨fun e he => by simp at he, fun _ _ => rfl⟩⟩
theorem SEs.aside {V S : Set_} {w w' : World} {es : Array MapEntry} {f : Bs → Option Bs} (h : SEs V w es f) (hb : Aside S w w') (hV : ∀ k, S k → ¬ V k) : SEs V w' es f :=
  ⟨fun e he => by obtain ⟨k, b, h1, h2, h3⟩ := h.each e he; exact ⟨k, b, h1, h2, h3.aside hb hV⟩, h.none⟩
theorem SMAt.aside {V S : Set_} {w w' : World} {B : Nat} {f : Bs → Option Bs} (h : SMAt V w B f) (hb : Aside S w w') (hB : ¬ S B) (hV : ∀ k, S k → ¬ V k) : SMAt V w' B f := by
  obtain ⟨es, c, h1, h2, h3⟩ := h
  exact ⟨es, c, by rw [hb.block B (Array.getElem?_eq_some_iff.1 h1).1 hB]; exact h1, h2, h3.aside hb hV⟩
theorem SMAt.below {V : Set_} {w w' : World} {B : Nat} {f : Bs → Option Bs} (h : SMAt V w B f) (hb : Below w.heap.size w w') : SMAt V w' B f := h.aside (S := none_) (Aside.of_below hb) (fun h => h) fun _ h => h.elim
theorem SMAt.lt {V : Set_} {w : World} {B : Nat} {f : Bs → Option Bs} (h : SMAt V w B f) : B < w.heap.size := by
  obtain ⟨es, c, h1, _⟩ := h
  exact (Array.getElem?_eq_some_iff.1 h1).1
theorem SMAt.mono {V V' : Set_} {w : World} {B : Nat} {f : Bs → Option Bs} (h : SMAt V w B f) (hV : ∀ k, V k → V' k) : SMAt V' w B f := by
  obtain ⟨es, c, h1, h2, h3⟩ := h
  exact ⟨es, c, h1, h2, ⟨fun e he => by obtain ⟨k, b, a1, a2, a3⟩ := h3.each e he; exact ⟨k, b, a1, a2, a3.mono hV⟩, h3.none⟩⟩
theorem SMAt.congr {V : Set_} {w : World} {B : Nat} {f g : Bs → Option Bs} (h : SMAt V w B f) (e : ∀ k, f k = g k) : SMAt V w B g := by
  obtain rfl : f = g := funext e
  exact h
/-- m[k], with whether it is there. -/
theorem SMAt.look {V : Set_} {w : World} {B : Nat} {f : Bs → Option Bs} (h : SMAt V w B f) (k : Bs) (ok : Bool) : ∃ v, (Instr.lookup 92 (.map (some B)) (ks k) ok).run Tryz.prog w = .ok (if ok then .tuple #[v, .bool (f k).isSome] else v) w ∧ ElS V w v ((f k).getD []) := by
  obtain ⟨es, c, h1, h2, h3⟩ := h
  have hk : IsKey .string (ks k) := trivial
  have hz : (zeroValue 23).run Tryz.prog w = .ok (.slice none 0 0) w := by kernel_rfl
  rcases findNow_spec hk es.toList 0 h3.keys with ⟨g1, g2⟩ | ⟨j, e, g1, g2, g3⟩
  · rw [h3.none k g2]
    refine ⟨.slice none 0 0, ?_, ElS.nil V w⟩
    simp [Instr.lookup, run_underlying Tryz.underlying92, MapKept.run_getObj_map h1, run_checkKey Tryz.underlying9 hk, run_findKey Tryz.underlying9 g1, Result.andThen, hz]
  · obtain ⟨i, b, hi, hf, hv⟩ := h3.each e (List.mem_of_getElem? g2)
    rw [hi] at g3
    have := ks_inj g3
    subst this
    rw [hf]
    refine ⟨e.val, ?_, hv⟩
    simp [Instr.lookup, run_underlying Tryz.underlying92, MapKept.run_getObj_map h1, run_checkKey Tryz.underlying9 hk, run_findKey Tryz.underlying9 g1, Result.andThen]
theorem grown_aside {w w' : World} {B : Nat} (h : w.grownBy w' (some B)) : Aside (fun k => k = B) w w' := Aside.of_grown h fun _ e => (Option.some.inj e).symm
/-- m[k] = v. -/
theorem SMAt.update {V : Set_} {w : World} {B : Nat} {f : Bs → Option Bs} (h : SMAt V w B f) (k : Bs) {v : Value} {b : Bs} (hv : ElS V w v b) (hB : ¬ V B) : ∃ w', (Instr.mapUpdate 92 (.map (some B)) (ks k) v).run Tryz.prog w = .ok () w' ∧ SMAt V w' B (updS f k (some b)) ∧ w.grownBy w' (some B) ∧ w'.heap.size = w.heap.size := by
  obtain ⟨es, c, h1, h2, h3⟩ := h
  have hk : IsKey .string (ks k) := trivial
  have hVB : ∀ j, j = B → ¬ V j := fun j hj => hj ▸ hB
  rcases findNow_spec hk es.toList 0 h3.keys with ⟨g1, g2⟩ | ⟨j, e, g1, g2, g3⟩
  · have hg : w.grownBy { w with heap := w.heap.setIfInBounds B (.map (es.push ⟨ks k, v, c⟩) (c + 1)) } (some B) := ⟨rfl, rfl, rfl, by simp, fun i _ hi => (heap_set h1).2 i fun e => hi (by rw [e])⟩
    refine ⟨{ w with heap := w.heap.setIfInBounds B (.map (es.push ⟨ks k, v, c⟩) (c + 1)) }, ?_, ⟨_, _, (heap_set h1).1, stamped_push h2 g2, ?_, ?_⟩, hg, by simp⟩
    · simp [Instr.mapUpdate, run_underlying Tryz.underlying92, MapKept.run_getObj_map h1, run_checkKey Tryz.underlying9 hk, run_findKey Tryz.underlying9 g1, MapKept.run_setObj_map _ h1, Result.andThen]
    · intro x hx
      simp only [Array.toList_push, List.mem_append, List.mem_singleton] at hx
      rcases hx with hx | rfl
      · obtain ⟨i, a, hi, hf, hl⟩ := h3.each x hx
        have hne : i ≠ k := fun e => g2 x hx (by rw [hi, e])
        exact ⟨i, a, hi, by unfold updS; rw [if_neg hne]; exact hf, hl.aside (grown_aside hg) hVB⟩
      · exact ⟨k, b, rfl, by unfold updS; rw [if_pos rfl], hv.aside (grown_aside hg) hVB⟩
    · intro i hi
      have hne : i ≠ k := fun e => hi ⟨ks k, v, c⟩ (by simp) (by rw [e])
      unfold updS
      rw [if_neg hne]
      exact h3.none i fun x hx => hi x (by simp [hx])
  · have hj : es[j]? = some e := by simpa using g2
    have hlist : (es.modify j (fun e' => { e' with key := ks k, val := v })).toList = es.toList.set j { e with key := ks k, val := v } := by
      rw [Array.toList_modify, ChangeMaps.modify_eq_set _ _ _ _ g2]
    have hn : es.toList.Pairwise (fun x y => x.key ≠ y.key) := ((stamped_iff es c).1 h2).2.2
    have who : ∀ x ∈ es.toList.set j { e with key := ks k, val := v }, x = { e with key := ks k, val := v } ∨ (x ∈ es.toList ∧ x.key ≠ ks k) := by
      intro x hx
      obtain ⟨i, hi, ex⟩ := List.getElem_of_mem hx
      rw [List.getElem_set] at ex
      split at ex
      · exact Or.inl ex.symm
      · rename_i hne
        have hi' : i < es.toList.length := by simpa using hi
        have hjl : j < es.toList.length := (List.getElem?_eq_some_iff.1 g2).1
        have ej : es.toList[j] = e := (List.getElem?_eq_some_iff.1 g2).2
        refine Or.inr ⟨ex ▸ List.getElem_mem hi', ?_⟩
        rw [← g3]
        rcases Nat.lt_or_gt_of_ne hne with hlt | hlt
        · have := List.pairwise_iff_getElem.1 hn j i hjl hi' hlt
          rw [ej, ex] at this
          exact this.symm
        · have := List.pairwise_iff_getElem.1 hn i j hi' hjl hlt
          rw [ej, ex] at this
          exact this
    have hg : w.grownBy { w with heap := w.heap.setIfInBounds B (.map (es.modify j (fun e' => { e' with key := ks k, val := v })) c) } (some B) := ⟨rfl, rfl, rfl, by simp, fun i _ hi => (heap_set h1).2 i fun e => hi (by rw [e])⟩
    refine ⟨{ w with heap := w.heap.setIfInBounds B (.map (es.modify j (fun e' => { e' with key := ks k, val := v })) c) }, ?_, ⟨_, _, (heap_set h1).1, stamped_modify h2 _ _ (fun _ _ => rfl) (fun e' _ he' => by rw [hj] at he'; cases he'; exact g3.symm), ?_, ?_⟩, hg, by simp⟩
    · simp [Instr.mapUpdate, run_underlying Tryz.underlying92, MapKept.run_getObj_map h1, run_checkKey Tryz.underlying9 hk, run_findKey Tryz.underlying9 g1, hj, g3, run_keyThatStays hk, MapKept.run_setObj_map _ h1, Result.andThen]
    · intro x hx
      rw [hlist] at hx
      rcases who x hx with rfl | ⟨hx', hne'⟩
      · exact ⟨k, b, rfl, by unfold updS; rw [if_pos rfl], hv.aside (grown_aside hg) hVB⟩
      · obtain ⟨i, a, hi, hf, hl⟩ := h3.each x hx'
        have hne : i ≠ k := fun e => hne' (by rw [hi, e])
        exact ⟨i, a, hi, by unfold updS; rw [if_neg hne]; exact hf, hl.aside (grown_aside hg) hVB⟩
    · intro i hi
      have hne : i ≠ k := fun e1 => hi { e with key := ks k, val := v } (by rw [hlist]; exact List.mem_iff_getElem.2 ⟨j, by simpa using (List.getElem?_eq_some_iff.1 g2).1, by simp⟩) (by rw [e1])
      unfold updS
      rw [if_neg hne]
      refine h3.none i fun x hx e2 => ?_
      have hx2 : x ∈ (es.modify j (fun e' => { e' with key := ks k, val := v })).toList ∨ x = e := by
        rw [hlist]
        obtain ⟨m, hm, ex⟩ := List.getElem_of_mem hx
        by_cases hmj : m = j
        · subst hmj
          right
          rw [← ex]; exact (List.getElem?_eq_some_iff.1 g2).2
        · left
          exact List.mem_iff_getElem.2 ⟨m, by simpa using hm, by rw [List.getElem_set_ne (by omega)]; exact ex⟩
      rcases hx2 with h | rfl
      · exact hi x h e2
      · rw [g3] at e2
        exact hne (ks_inj e2).symm
/-- delete(m, k). -/
theorem SMAt.drop {V : Set_} {w : World} {B : Nat} {f : Bs → Option Bs} (h : SMAt V w B f) (k : Bs) (hB : ¬ V B) (ty : TypeId) : ∃ w', (Builtin.delete_ #[92, 9] ty #[.map (some B), ks k]).run Tryz.prog w = .ok (.tuple #[]) w' ∧ SMAt V w' B (updS f k none) ∧ w.grownBy w' (some B) ∧ w'.heap.size = w.heap.size := by
  obtain ⟨es, c, h1, h2, h3⟩ := h
  have hk : IsKey .string (ks k) := trivial
  have hVB : ∀ j, j = B → ¬ V j := fun j hj => hj ▸ hB
  rcases findNow_spec hk es.toList 0 h3.keys with ⟨g1, g2⟩ | ⟨j, e, g1, g2, g3⟩
  · have hg : w.grownBy { w with heap := w.heap.setIfInBounds B (.map es c) } (some B) := ⟨rfl, rfl, rfl, by simp, fun i _ hi => (heap_set h1).2 i fun e => hi (by rw [e])⟩
    refine ⟨{ w with heap := w.heap.setIfInBounds B (.map es c) }, ?_, ⟨_, _, (heap_set h1).1, h2, ?_, ?_⟩, hg, by simp⟩
    · simp [Builtin.delete_, run_underlying Tryz.underlying92, MapKept.run_getObj_map h1, run_checkKey Tryz.underlying9 hk, run_findKey Tryz.underlying9 g1, MapKept.run_setObj_map _ h1, Result.andThen]
    · intro x hx
      obtain ⟨i, a, hi, hf, hl⟩ := h3.each x hx
      have hne : i ≠ k := fun e => g2 x hx (by rw [hi, e])
      exact ⟨i, a, hi, by unfold updS; rw [if_neg hne]; exact hf, hl.aside (grown_aside hg) hVB⟩
    · intro i hi
      unfold updS
      split
      · rfl
      · exact h3.none i hi
  · have hjl : j < es.toList.length := (List.getElem?_eq_some_iff.1 g2).1
    have hjs : j < es.size := by simpa using hjl
    have ej : es.toList[j] = e := (List.getElem?_eq_some_iff.1 g2).2
    have hsub : (es.eraseIdxIfInBounds j).toList = es.toList.eraseIdx j := by
      unfold Array.eraseIdxIfInBounds
      rw [dif_pos hjs]
      simp
    have hn : es.toList.Pairwise (fun x y => x.key ≠ y.key) := ((stamped_iff es c).1 h2).2.2
    have hg : w.grownBy { w with heap := w.heap.setIfInBounds B (.map (es.eraseIdxIfInBounds j) c) } (some B) := ⟨rfl, rfl, rfl, by simp, fun i _ hi => (heap_set h1).2 i fun e => hi (by rw [e])⟩
    refine ⟨{ w with heap := w.heap.setIfInBounds B (.map (es.eraseIdxIfInBounds j) c) }, ?_, ⟨_, _, (heap_set h1).1, stamped_erase h2 j, ?_, ?_⟩, hg, by simp⟩
    · simp [Builtin.delete_, run_underlying Tryz.underlying92, MapKept.run_getObj_map h1, run_checkKey Tryz.underlying9 hk, run_findKey Tryz.underlying9 g1, MapKept.run_setObj_map _ h1, Result.andThen]
    · intro x hx
      rw [hsub] at hx
      obtain ⟨m, hmj, hm⟩ := List.mem_eraseIdx_iff_getElem?.1 hx
      have hml : m < es.toList.length := (List.getElem?_eq_some_iff.1 hm).1
      have em : es.toList[m] = x := (List.getElem?_eq_some_iff.1 hm).2
      have hkey : x.key ≠ e.key := by
        rcases Nat.lt_or_gt_of_ne hmj with hlt | hlt
        · have := List.pairwise_iff_getElem.1 hn m j hml hjl hlt
          rw [ej, em] at this
          exact this
        · have := List.pairwise_iff_getElem.1 hn j m hjl hml hlt
          rw [ej, em] at this
          exact this.symm
      obtain ⟨i, a, hi, hf, hl⟩ := h3.each x (List.mem_of_getElem? hm)
      have hne : i ≠ k := fun e1 => hkey (by rw [hi, e1, g3])
      exact ⟨i, a, hi, by unfold updS; rw [if_neg hne]; exact hf, hl.aside (grown_aside hg) hVB⟩
    · intro i hi
      unfold updS
      split
      · rfl
      · rename_i hne
        refine h3.none i fun x hx e2 => ?_
        obtain ⟨m, hm, ex⟩ := List.getElem_of_mem hx
        by_cases hmj : m = j
        · subst hmj
          rw [ej] at ex
          subst ex
          rw [g3] at e2
          exact hne (ks_inj e2).symm
        · exact hi x (by rw [hsub]; exact List.mem_eraseIdx_iff_getElem?.2 ⟨m, hmj, by rw [List.getElem?_eq_getElem hm, ex]⟩) e2
/-- A map that is gone through: which of its entries were met. -/
structure RngS (w : World) (B r : Nat) (es : Array MapEntry) (clock : Nat) (seen : Array Nat) : Prop where
  map : w.heap[B]? = some (.map es clock)
  it : ∃ c0, w.heap[r]? = some (.mapIter (some B) clock seen c0) ∧ clock ≤ c0
  st : Stamped es clock
theorem RngS.kept {w w' : World} {B r : Nat} {es : Array MapEntry} {clock : Nat} {seen : Array Nat} {S : Set_} (h : RngS w B r es clock seen) (hb : Aside S w w') (hB : ¬ S B) (hr : ¬ S r) : RngS w' B r es clock seen := by
  obtain ⟨h1, ⟨c0, h2, h3⟩, h4⟩ := h
  exact ⟨by rw [hb.block B (Array.getElem?_eq_some_iff.1 h1).1 hB]; exact h1, ⟨c0, by rw [hb.block r (Array.getElem?_eq_some_iff.1 h2).1 hr]; exact h2, h3⟩, h4⟩
theorem RngS.ne {w : World} {B r : Nat} {es : Array MapEntry} {clock : Nat} {seen : Array Nat} (h : RngS w B r es clock seen) : r ≠ B ∧ r < w.heap.size ∧ B < w.heap.size := by
  obtain ⟨h1, ⟨c0, h2, h3⟩, h4⟩ := h
  refine ⟨fun e => ?_, (Array.getElem?_eq_some_iff.1 h2).1, (Array.getElem?_eq_some_iff.1 h1).1⟩
  rw [e, h1] at h2
  cases h2
theorem range_s {V : Set_} {w : World} {B : Nat} {f : Bs → Option Bs} (h : SMAt V w B f) : ∃ es clock, SEs V w es f ∧ (∃ w', (Instr.range 92 (.map (some B))).run Tryz.prog w = .ok (.pointer (some ⟨w.heap.size, 0, none⟩)) w' ∧ RngS w' B w.heap.size es clock #[] ∧ Below w.heap.size w w') := by
  obtain ⟨es, c, h1, h2, h3⟩ := h
  have hB : B < w.heap.size := (Array.getElem?_eq_some_iff.1 h1).1
  refine ⟨es, c, h3, _, run_range_map w 92 9 23 B es c Tryz.underlying92 h1, ⟨?_, ⟨c, (heap_alloc w _).1, Nat.le_refl _⟩, h2⟩, (Below.refl _ _).alloc (Nat.le_refl _) _⟩
  rw [(heap_alloc w _).2 B hB]
  exact h1
/-- How many entries are left, by the world. -/
def leftIn (w : World) (B r : Nat) : Nat := match w.heap[B]?, w.heap[r]? with
  | some (.map es _), some (.mapIter _ _ seen _) => (leftOf es seen).size
  | _, _ => 0
theorem RngS.left {w : World} {B r : Nat} {es : Array MapEntry} {clock : Nat} {seen : Array Nat} (h : RngS w B r es clock seen) : leftIn w B r = (leftOf es seen).size := by
  obtain ⟨h1, ⟨c0, h2, _⟩, _⟩ := h
  unfold leftIn
  rw [h1, h2]
/-- One step. -/
theorem RngS.next {w : World} {B r : Nat} {es : Array MapEntry} {clock : Nat} {seen : Array Nat} (h : RngS w B r es clock seen) (ty : TypeId) :
    ((∀ e ∈ es.toList, seen.contains e.born = true) ∧ (Instr.next (.pointer (some ⟨r, 0, none⟩)) false ty).run Tryz.prog w = .ok (.tuple #[.bool false]) w) ∨
    ∃ e ∈ es.toList, seen.contains e.born = false ∧ ∃ w', (Instr.next (.pointer (some ⟨r, 0, none⟩)) false ty).run Tryz.prog w = .ok (.tuple #[.bool true, e.key, e.val]) w' ∧ RngS w' B r es clock (seen.push e.born) ∧ Aside (fun k => k = r) w w' ∧ w'.heap.size = w.heap.size ∧ (leftOf es (seen.push e.born)).size < (leftOf es seen).size ∧ (Instr.entry (.pointer (some ⟨r, 0, none⟩))).run Tryz.prog w' = .ok (.tuple #[e.key, e.val]) w' := by
  have hne := h.ne
  obtain ⟨h1, ⟨c0, h2, h3⟩, h4⟩ := h
  have hst := (stamped_iff es clock).1 h4
  rcases run_next_at (P := Tryz.prog) w ty r B clock c0 seen es clock h2 h1 hst.1 h3 with ⟨g1, g2⟩ | ⟨e, g1, w1, g2, g3⟩
  · exact Or.inl ⟨all_seen es seen g1, g2⟩
  · obtain ⟨hm, hs⟩ := mem_left g1
    have hr1 : w1.heap[r]? = some (.mapIter (some B) clock seen c0) := by rcases g2 with rfl | rfl <;> exact h2
    have hb1 : w1.heap[B]? = some (.map es clock) := by rcases g2 with rfl | rfl <;> exact h1
    have hset := MapKept.heap_set (o' := .mapIter (some B) clock (seen.push e.born) clock) hr1
    have hb2 : (ChangeMaps.setBlock w1 r (.mapIter (some B) clock (seen.push e.born) clock)).heap[B]? = some (.map es clock) := (hset.2 B fun e1 => hne.1 e1.symm).trans hb1
    refine Or.inr ⟨e, hm, hs, _, g3, ⟨hb2, ⟨clock, hset.1, Nat.le_refl _⟩, h4⟩, ?_, ?_, left_shrinks es seen e g1, run_entry_at _ r B clock seen es clock e hset.1 hb2 hm hst.2.1⟩
    · rcases g2 with rfl | rfl <;> exact ⟨rfl, rfl, rfl, by simp [ChangeMaps.setBlock], fun i _ hi => hset.2 i hi⟩
    · rcases g2 with rfl | rfl <;> simp [ChangeMaps.setBlock]
end Go.Proofs.YtbjgknoipbekoaaGreat
namespace Go.Proofs.YtbjgknoipbekoaaGreat
/-- A change. -/
structure Ch where
  key : Bs
  val : Bs
  gone : Bool
/-- Byte by byte. -/
def lessB : Bs → Bs → Bool
  | [], [] => false
  | [], _ :: _ => true
  | _ :: _, [] => false
  | a :: x, b :: y => if a = b then lessB x y else decide (a.toNat < b.toNat)
theorem less_irrefl : ∀ (x : Bs), lessB x x = false
  | [] => rfl
  | a :: x => by unfold lessB; rw [if_pos rfl]; exact less_irrefl x
theorem u8_ne {a b : UInt8} (h : a ≠ b) : a.toNat ≠ b.toNat := fun e => h (UInt8.toNat_inj.1 e)
theorem less_trans : ∀ {x y z : Bs}, lessB x y = true → lessB y z = true → lessB x z = true
  | [], [], _, h, _ => by cases h
  | [], _ :: _, [], _, h => by cases h
  | [], _ :: _, _ :: _, _, _ => rfl
  | _ :: _, [], _, h, _ => by cases h
  | _ :: _, _ :: _, [], _, h => by cases h
  | a :: x, b :: y, c :: z, h1, h2 => by
    unfold lessB at h1 h2 ⊢
    by_cases e1 : a = b
    · rw [if_pos e1] at h1
      subst e1
      by_cases e2 : a = c
      · rw [if_pos e2] at h2 ⊢
        exact less_trans h1 h2
      · rw [if_neg e2] at h2 ⊢
        exact h2
    · rw [if_neg e1] at h1
      have h1' := of_decide_eq_true h1
      by_cases e2 : b = c
      · subst e2
        rw [if_neg e1]
        exact h1
      · rw [if_neg e2] at h2
        have h2' := of_decide_eq_true h2
        have e3 : a ≠ c := fun e => by subst e; omega
        rw [if_neg e3]
        exact decide_eq_true (by omega)
theorem less_total : ∀ (x y : Bs), x ≠ y → lessB x y = false → lessB y x = true
  | [], [], h, _ => absurd rfl h
  | [], _ :: _, _, h => by cases h
  | _ :: _, [], _, _ => rfl
  | a :: x, b :: y, h, h1 => by
    unfold lessB at h1 ⊢
    by_cases e1 : a = b
    · subst e1
      rw [if_pos rfl] at h1 ⊢
      exact less_total x y (fun e => h (by rw [e])) h1
    · rw [if_neg e1] at h1
      rw [if_neg fun e => e1 e.symm]
      have h2 := of_decide_eq_false h1
      have := u8_ne e1
      exact decide_eq_true (by omega)
theorem less_ne {x y : Bs} (h : lessB x y = true) : x ≠ y := fun e => by rw [e, less_irrefl] at h; cases h
/-- The pairs behind one change, as the document's list is made. -/
def insP (c : Ch) : Bool → List (Bs × Bs) → List (Bs × Bs)
  | put, [] => if put = true then [] else [(c.key, c.val)]
  | put, x :: xs => (if put = false ∧ lessB x.1 c.key = false then [(c.key, c.val)] else []) ++ ((if x.1 = c.key then [] else [x]) ++ insP c (put || !lessB x.1 c.key) xs)
def withP (ps : List (Bs × Bs)) (l : List Ch) : List (Bs × Bs) := l.foldl (fun p c => insP c c.gone p) ps
theorem with_nil (ps : List (Bs × Bs)) : withP ps [] = ps := rfl
theorem with_snoc (ps : List (Bs × Bs)) (l : List Ch) (c : Ch) : withP ps (l ++ [c]) = insP c c.gone (withP ps l) := by unfold withP; rw [List.foldl_append]; rfl
theorem with_cons (ps : List (Bs × Bs)) (l : List Ch) (c : Ch) : withP ps (c :: l) = withP (insP c c.gone ps) l := rfl
/-- The value of a key. -/
def getP : List (Bs × Bs) → Bs → Option Bs
  | [], _ => none
  | x :: xs, k => if x.1 = k then some x.2 else getP xs k
/-- By their keys rising. -/
def SortedP (ps : List (Bs × Bs)) : Prop := ps.Pairwise fun x y => lessB x.1 y.1 = true
theorem get_none {ps : List (Bs × Bs)} {k : Bs} (h : ∀ x ∈ ps, x.1 ≠ k) : getP ps k = none := by
  induction ps with
  | nil => rfl
  | cons x ps ih =>
    unfold getP
    rw [if_neg (h x List.mem_cons_self)]
    exact ih fun y hy => h y (List.mem_cons_of_mem _ hy)
theorem ins_mem {c : Ch} : ∀ {put : Bool} {ps : List (Bs × Bs)} {x : Bs × Bs}, x ∈ insP c put ps → x = (c.key, c.val) ∨ (x ∈ ps ∧ x.1 ≠ c.key)
  | put, [], x, h => by
    unfold insP at h
    split at h
    · cases h
    · exact Or.inl (List.mem_singleton.1 h)
  | put, y :: ps, x, h => by
    unfold insP at h
    rcases List.mem_append.1 h with h | h
    · split at h
      · exact Or.inl (List.mem_singleton.1 h)
      · cases h
    · rcases List.mem_append.1 h with h | h
      · split at h
        · cases h
        · rename_i hne
          have := List.mem_singleton.1 h
          subst this
          exact Or.inr ⟨List.mem_cons_self, hne⟩
      · rcases ins_mem h with h | ⟨h, h2⟩
        · exact Or.inl h
        · exact Or.inr ⟨List.mem_cons_of_mem _ h, h2⟩
/-- Where it was put already, no more is put. -/
theorem ins_put {c : Ch} : ∀ {ps : List (Bs × Bs)} {x : Bs × Bs}, x ∈ insP c true ps → x ∈ ps ∧ x.1 ≠ c.key
  | [], x, h => by unfold insP at h; rw [if_pos rfl] at h; cases h
  | y :: ps, x, h => by
    unfold insP at h
    rw [if_neg (by simp), List.nil_append, Bool.true_or] at h
    rcases List.mem_append.1 h with h | h
    · split at h
      · cases h
      · rename_i hne
        have := List.mem_singleton.1 h
        subst this
        exact ⟨List.mem_cons_self, hne⟩
    · obtain ⟨h1, h2⟩ := ins_put h
      exact ⟨List.mem_cons_of_mem _ h1, h2⟩
theorem ins_get {c : Ch} : ∀ (put : Bool) (ps : List (Bs × Bs)), SortedP ps → ∀ k, getP (insP c put ps) k = if k = c.key then (if put = true then none else some c.val) else getP ps k
  | put, [], _, k => by
    unfold insP
    by_cases hk : k = c.key
    · subst hk
      cases put <;> simp [getP]
    · cases put
      · simp only [Bool.false_eq_true, if_false, if_neg hk]
        unfold getP
        rw [if_neg fun e => hk e.symm]
        rfl
      · simp [getP, hk]
  | put, x :: ps, hs, k => by
    have hs' : SortedP ps := (List.pairwise_cons.1 hs).2
    have hx := (List.pairwise_cons.1 hs).1
    unfold insP
    by_cases hb : put = false ∧ lessB x.1 c.key = false
    · rw [if_pos hb]
      obtain ⟨h1, h2⟩ := hb
      subst h1
      by_cases hk : k = c.key
      · subst hk
        simp [getP]
      · have ih := ins_get (c := c) true ps hs' k
        rw [if_neg hk] at ih ⊢
        rw [List.cons_append, List.nil_append]
        unfold getP
        rw [if_neg fun e => hk e.symm]
        simp only [h2, Bool.false_or, Bool.not_false]
        by_cases hxk : x.1 = c.key
        · rw [if_pos hxk, List.nil_append, ih, if_neg fun e => hk (by rw [← e, hxk])]
        · rw [if_neg hxk, List.cons_append, List.nil_append]
          show (if x.1 = k then some x.2 else getP (insP c true ps) k) = _
          rw [ih]
    · rw [if_neg hb, List.nil_append]
      have ih := ins_get (c := c) (put || !lessB x.1 c.key) ps hs' k
      by_cases hxk : x.1 = c.key
      · rw [if_pos hxk, List.nil_append, ih]
        have hl : lessB x.1 c.key = false := by rw [hxk, less_irrefl]
        have hp : put = true := by
          cases put with
          | true => rfl
          | false => exact absurd ⟨rfl, hl⟩ hb
        subst hp
        by_cases hk : k = c.key
        · rw [if_pos hk, if_pos hk]; simp
        · rw [if_neg hk, if_neg hk]
          conv => rhs; unfold getP
          rw [if_neg fun e => hk (by rw [← e, hxk])]
      · rw [if_neg hxk, List.cons_append, List.nil_append]
        show (if x.1 = k then some x.2 else getP (insP c (put || !lessB x.1 c.key) ps) k) = _
        rw [ih]
        by_cases hk : k = c.key
        · subst hk
          rw [if_neg hxk, if_pos rfl, if_pos rfl]
          cases put with
          | true => simp
          | false =>
            have hl : lessB x.1 c.key = true := by
              cases h : lessB x.1 c.key with
              | true => rfl
              | false => exact absurd ⟨rfl, h⟩ hb
            simp [hl]
        · rw [if_neg hk, if_neg hk]
          rfl
theorem ins_sorted {c : Ch} : ∀ (put : Bool) (ps : List (Bs × Bs)), SortedP ps → SortedP (insP c put ps)
  | put, [], _ => by
    unfold insP
    cases put
    · exact List.pairwise_singleton _ _
    · exact List.Pairwise.nil
  | put, x :: ps, hs => by
    have hs' : SortedP ps := (List.pairwise_cons.1 hs).2
    have hx := (List.pairwise_cons.1 hs).1
    unfold insP
    by_cases hb : put = false ∧ lessB x.1 c.key = false
    · rw [if_pos hb, List.cons_append, List.nil_append]
      obtain ⟨h1, h2⟩ := hb
      subst h1
      rw [h2]
      simp only [Bool.not_false, Bool.or_true]
      have ih := ins_sorted (c := c) true ps hs'
      by_cases hxk : x.1 = c.key
      · rw [if_pos hxk, List.nil_append]
        refine List.pairwise_cons.2 ⟨fun y hy => ?_, ih⟩
        have := hx y (ins_put hy).1
        rwa [hxk] at this
      · rw [if_neg hxk, List.cons_append, List.nil_append]
        have hkx := less_total x.1 c.key hxk h2
        refine List.pairwise_cons.2 ⟨fun y hy => ?_, List.pairwise_cons.2 ⟨fun y hy => hx y (ins_put hy).1, ih⟩⟩
        rcases List.mem_cons.1 hy with e | hy
        · rw [e]; exact hkx
        · exact less_trans hkx (hx y (ins_put hy).1)
    · rw [if_neg hb, List.nil_append]
      have ih := ins_sorted (c := c) (put || !lessB x.1 c.key) ps hs'
      by_cases hxk : x.1 = c.key
      · rw [if_pos hxk, List.nil_append]; exact ih
      · rw [if_neg hxk, List.cons_append, List.nil_append]
        refine List.pairwise_cons.2 ⟨fun y hy => ?_, ih⟩
        rcases ins_mem hy with e | ⟨h1, _⟩
        · rw [e]
          cases hp : put with
          | false =>
            cases hl : lessB x.1 c.key with
            | true => rfl
            | false => exact absurd ⟨hp, hl⟩ hb
          | true =>
            subst hp
            rw [Bool.true_or] at hy
            have := (ins_put hy).2
            rw [e] at this
            exact absurd rfl this
        · exact hx y h1
theorem with_sorted : ∀ (l : List Ch) (ps : List (Bs × Bs)), SortedP ps → SortedP (withP ps l)
  | [], _, h => h
  | _ :: l, _, h => with_sorted l _ (ins_sorted _ _ h)
/-- Pairs by their keys rising are told by what each key has. -/
theorem sorted_ext : ∀ {ps qs : List (Bs × Bs)}, SortedP ps → SortedP qs → (∀ k, getP ps k = getP qs k) → ps = qs
  | [], [], _, _, _ => rfl
  | [], y :: qs, _, _, h => by have := h y.1; simp [getP] at this
  | x :: ps, [], _, _, h => by have := h x.1; simp [getP] at this
  | x :: ps, y :: qs, hp, hq, h => by
    have hp' := List.pairwise_cons.1 hp
    have hq' := List.pairwise_cons.1 hq
    have key : x.1 = y.1 := by
      refine Decidable.byContradiction fun hne => ?_
      cases hl : lessB x.1 y.1 with
      | true =>
        have h1 := h x.1
        have h2 : getP (y :: qs) x.1 = none := get_none fun z hz e => by
          rcases List.mem_cons.1 hz with e1 | hz
          · rw [e1] at e; exact hne e.symm
          · have := less_trans hl (hq'.1 z hz)
            rw [e, less_irrefl] at this
            cases this
        rw [h2] at h1
        simp [getP] at h1
      | false =>
        have hl2 := less_total x.1 y.1 hne hl
        have h1 := h y.1
        have h2 : getP (x :: ps) y.1 = none := get_none fun z hz e => by
          rcases List.mem_cons.1 hz with e1 | hz
          · rw [e1] at e; exact hne e
          · have := less_trans hl2 (hp'.1 z hz)
            rw [e, less_irrefl] at this
            cases this
        rw [h2] at h1
        simp [getP] at h1
    have hv : x.2 = y.2 := by
      have h1 := h x.1
      unfold getP at h1
      rw [if_pos rfl, if_pos key.symm] at h1
      exact Option.some.inj h1
    have ht : ps = qs := sorted_ext hp'.2 hq'.2 fun k => by
      by_cases hk : x.1 = k
      · rw [get_none fun z hz e => less_ne (hp'.1 z hz) (hk.trans e.symm), get_none fun z hz e => less_ne (hq'.1 z hz) (key.symm.trans (hk.trans e.symm))]
      · have h1 := h k
        unfold getP at h1
        rw [if_neg hk, if_neg fun e => hk (key.trans e)] at h1
        exact h1
    rw [ht, show x = y from Prod.ext key hv]
/-- What a key has behind changes. -/
def lastP (k : Bs) (o : Option Bs) (l : List Ch) : Option Bs := l.foldl (fun o c => if k = c.key then (if c.gone = true then none else some c.val) else o) o
theorem with_get (k : Bs) : ∀ (l : List Ch) (ps : List (Bs × Bs)), SortedP ps → getP (withP ps l) k = lastP k (getP ps k) l
  | [], _, _ => rfl
  | c :: l, ps, h => by
    rw [with_cons, with_get k l _ (ins_sorted _ _ h), ins_get _ _ h]
    rfl
end Go.Proofs.YtbjgknoipbekoaaGreat
namespace Go.Proofs.YtbjgknoipbekoaaGreat
/-- A change in bytes. -/
def wr1 (c : Ch) : Bs := if c.gone = true then 0 :: UInt8.ofNat c.key.length :: c.key else 1 :: UInt8.ofNat c.key.length :: (c.key ++ (bigB c.val.length 4 ++ c.val))
def wrL (l : List Ch) : Bs := (l.map wr1).flatten
theorem wrL_nil : wrL [] = [] := rfl
theorem wrL_cons (c : Ch) (l : List Ch) : wrL (c :: l) = wr1 c ++ wrL l := rfl
theorem wrL_app (l m : List Ch) : wrL (l ++ m) = wrL l ++ wrL m := by unfold wrL; rw [List.map_append, List.flatten_append]
/-- Keys and values have their lengths. -/
def rightC (c : Ch) : Prop := 1 ≤ c.key.length ∧ c.key.length ≤ 32 ∧ (c.gone = false → c.val.length ≤ 8192)
instance (c : Ch) : Decidable (rightC c) := by unfold rightC; exact inferInstance
def RightL (l : List Ch) : Prop := ∀ c ∈ l, rightC c
instance (l : List Ch) : Decidable (RightL l) := by unfold RightL; exact inferInstance
/-- One change, read; and what is behind it. -/
def rd1 (b : Bs) : Option (Ch × Bs) :=
  match b with
  | t :: n :: r =>
    if n.toNat < 1 ∨ 32 < n.toNat ∨ r.length < n.toNat then none
    else if t = 0 then some (⟨r.take n.toNat, [], true⟩, r.drop n.toNat)
    else if t = 1 then
      if (r.drop n.toNat).length < 4 then none
      else if 8192 < numB ((r.drop n.toNat).take 4) ∨ ((r.drop n.toNat).drop 4).length < numB ((r.drop n.toNat).take 4) then none
      else some (⟨r.take n.toNat, ((r.drop n.toNat).drop 4).take (numB ((r.drop n.toNat).take 4)), false⟩, ((r.drop n.toNat).drop 4).drop (numB ((r.drop n.toNat).take 4)))
    else none
  | _ => none
/-- As it is read again: of a removal there is no value. -/
def normC (c : Ch) : Ch := if c.gone = true then ⟨c.key, [], true⟩ else c
theorem rd1_wr1 {c : Ch} (h : rightC c) (r : Bs) : rd1 (wr1 c ++ r) = some (normC c, r) := by
  obtain ⟨h1, h2, h3⟩ := h
  have hn : (UInt8.ofNat c.key.length).toNat = c.key.length := by rw [UInt8.toNat_ofNat']; omega
  unfold wr1 normC
  by_cases hg : c.gone = true
  · rw [if_pos hg, if_pos hg, List.cons_append, List.cons_append]
    unfold rd1
    simp only [hn]
    rw [if_neg (by rw [List.length_append]; omega), if_pos trivial, List.take_append_of_le_length (Nat.le_refl _), List.take_of_length_le (Nat.le_refl _), List.drop_append_of_le_length (Nat.le_refl _), List.drop_of_length_le (Nat.le_refl _), List.nil_append]
  · rw [if_neg hg, if_neg hg, List.cons_append, List.cons_append]
    have hg' : c.gone = false := by simpa using hg
    have hv := h3 hg'
    have hl4 := big_len c.val.length 4
    unfold rd1
    simp only [hn]
    have e1 : ((c.key ++ (bigB c.val.length 4 ++ c.val)) ++ r).take c.key.length = c.key := by rw [List.append_assoc, List.take_append_of_le_length (Nat.le_refl _), List.take_of_length_le (Nat.le_refl _)]
    have e2 : ((c.key ++ (bigB c.val.length 4 ++ c.val)) ++ r).drop c.key.length = bigB c.val.length 4 ++ (c.val ++ r) := by rw [List.append_assoc, List.drop_append_of_le_length (Nat.le_refl _), List.drop_of_length_le (Nat.le_refl _), List.nil_append, List.append_assoc]
    have e3 : (bigB c.val.length 4 ++ (c.val ++ r)).take 4 = bigB c.val.length 4 := by rw [List.take_append_of_le_length (by omega), List.take_of_length_le (by omega)]
    have e4 : (bigB c.val.length 4 ++ (c.val ++ r)).drop 4 = c.val ++ r := by rw [List.drop_append_of_le_length (by omega), List.drop_of_length_le (by omega), List.nil_append]
    rw [e1, e2, e3, e4, num_big 4 _ (by omega), if_neg (by simp only [List.length_append]; omega), if_neg (by decide), if_pos trivial, if_neg (by simp only [List.length_append]; omega), if_neg (by simp only [List.length_append]; omega)]
    rw [List.take_append_of_le_length (Nat.le_refl _), List.take_of_length_le (Nat.le_refl _), List.drop_append_of_le_length (Nat.le_refl _), List.drop_of_length_le (Nat.le_refl _), List.nil_append]
    congr 2
    cases c
    simp_all
/-- A list of changes, read. -/
def rdL : Nat → Bs → Option (List Ch)
  | 0, b => if b = [] then some [] else none
  | n + 1, b => if b = [] then some [] else match rd1 b with
    | none => none
    | some (c, r) => (rdL n r).map (c :: ·)
theorem wr1_pos (c : Ch) : 2 ≤ (wr1 c).length := by unfold wr1; split <;> simp
theorem rdL_wrL : ∀ (l : List Ch) (n : Nat), RightL l → l.length ≤ n → rdL n (wrL l) = some (l.map normC)
  | [], n, _, _ => by cases n <;> simp [rdL, wrL_nil]
  | c :: l, 0, _, h => by simp at h
  | c :: l, n + 1, hr, h => by
    have hp := wr1_pos c
    unfold rdL
    rw [wrL_cons, if_neg (by intro e; have := congrArg List.length e; rw [List.length_append, List.length_nil] at this; omega), rd1_wr1 (hr c List.mem_cons_self)]
    simp only
    rw [rdL_wrL l n (fun x hx => hr x (List.mem_cons_of_mem _ hx)) (by simp at h; omega)]
    rfl
theorem wrL_len (l : List Ch) : 2 * l.length ≤ (wrL l).length := by
  induction l with
  | nil => simp
  | cons c l ih =>
    rw [wrL_cons, List.length_append, List.length_cons]
    have := wr1_pos c
    omega
/-- The list of changes that bytes are, if any. -/
def chsOf (b : Bs) : Option (List Ch) := rdL b.length b
theorem chs_wr {l : List Ch} (h : RightL l) : chsOf (wrL l) = some (l.map normC) := rdL_wrL l _ h (by have := wrL_len l; omega)
theorem ins_norm (c : Ch) (ps : List (Bs × Bs)) : insP (normC c) (normC c).gone ps = insP c c.gone ps := by
  unfold normC
  split
  · rename_i hg
    rw [hg]
    have key : ∀ (ps : List (Bs × Bs)), insP ⟨c.key, [], true⟩ true ps = insP c true ps := by
      intro ps
      induction ps with
      | nil => rfl
      | cons x ps ih => unfold insP; simp only [Bool.true_or]; rw [ih]; simp
    exact key ps
  · rfl
theorem with_norm : ∀ (l : List Ch) (ps : List (Bs × Bs)), withP ps (l.map normC) = withP ps l
  | [], _ => rfl
  | c :: l, ps => by
    rw [List.map_cons, with_cons, with_cons, ins_norm]
    exact with_norm l _
/-- The changes that set all pairs. -/
def allP (ps : List (Bs × Bs)) : List Ch := ps.map fun x => ⟨x.1, x.2, false⟩
/-- Keys and values of pairs have their lengths. -/
def RightP (ps : List (Bs × Bs)) : Prop := ∀ x ∈ ps, 1 ≤ x.1.length ∧ x.1.length ≤ 32 ∧ x.2.length ≤ 8192
theorem all_right {ps : List (Bs × Bs)} (h : RightP ps) : RightL (allP ps) := fun c hc => by
  obtain ⟨x, hx, rfl⟩ := List.mem_map.1 hc
  obtain ⟨h1, h2, h3⟩ := h x hx
  exact ⟨h1, h2, fun _ => h3⟩
theorem all_norm (ps : List (Bs × Bs)) : (allP ps).map normC = allP ps := by
  unfold allP
  rw [List.map_map]
  rfl
theorem with_right {l : List Ch} (hl : RightL l) : ∀ {ps : List (Bs × Bs)}, RightP ps → RightP (withP ps l) := by
  induction l with
  | nil => exact fun h => h
  | cons c l ih =>
    intro ps hp
    rw [with_cons]
    refine ih (fun x hx => hl x (List.mem_cons_of_mem _ hx)) fun x hx => ?_
    obtain ⟨h1, h2, h3⟩ := hl c List.mem_cons_self
    cases hg : c.gone with
    | true => rw [hg] at hx; exact hp x (ins_put hx).1
    | false =>
      rcases ins_mem hx with e | ⟨h, _⟩
      · rw [e]; exact ⟨h1, h2, h3 hg⟩
      · exact hp x h
/-- What is set of nothing, pair by pair, is the pairs. -/
theorem with_all {ps : List (Bs × Bs)} (h : SortedP ps) : withP [] (allP ps) = ps := by
  refine sorted_ext (with_sorted _ _ List.Pairwise.nil) h fun k => ?_
  rw [with_get k _ _ List.Pairwise.nil]
  have key : ∀ (ps : List (Bs × Bs)) (o : Option Bs), SortedP ps → lastP k o (allP ps) = (getP ps k).or o := by
    intro ps
    induction ps with
    | nil => intro o _; rfl
    | cons x ps ih =>
      intro o hs
      have hs' := List.pairwise_cons.1 hs
      show lastP k (if k = x.1 then some x.2 else o) (allP ps) = _
      rw [ih _ hs'.2]
      have e : getP (x :: ps) k = if x.1 = k then some x.2 else getP ps k := rfl
      rw [e]
      by_cases hk : x.1 = k
      · rw [if_pos hk.symm, if_pos hk, get_none fun z hz e => less_ne (hs'.1 z hz) (hk.trans e.symm)]
        rfl
      · rw [if_neg fun e => hk e.symm, if_neg hk]
  rw [key ps _ h]
  cases getP ps k <;> rfl
/-- A mark. -/
def markB (g : Nat) : Bs := bigB g 4 ++ ((bigB g 4).map fun x => 255 - x) ++ List.replicate 56 0
theorem mark_len (g : Nat) : (markB g).length = 64 := by unfold markB; simp [big_len]
/-- The generation of which a sector is the mark; nought, if it is none. -/
def marksG (s : Bs) : Nat := if 1 ≤ numB (s.take 4) ∧ s = markB (numB (s.take 4)) then numB (s.take 4) else 0
theorem marks_mark {g : Nat} (h0 : 1 ≤ g) (h : g < 4294967296) : marksG (markB g) = g := by
  have e : (markB g).take 4 = bigB g 4 := by unfold markB; rw [List.append_assoc, List.take_append_of_le_length (by rw [big_len]; omega), List.take_of_length_le (by rw [big_len]; omega)]
  unfold marksG
  rw [e, num_big 4 _ (by omega), if_pos ⟨h0, rfl⟩]
end Go.Proofs.YtbjgknoipbekoaaGreat
