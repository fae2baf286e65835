/-
  Maps of sectors in memory, as functions; what the operations do to them.
-/
import Derived.Test.YtlmikagmcaicoaaRa13
import Derived.MapKept
import Derived.ChangeKeysEq
import Derived.Maps.OwnSet
namespace Go.Proofs.Ytlmikagmcaicoaa
open Go.RowKit Go.MapKept
/-- A sector's value. -/
def sv (b : Bs) : Value := .agg (b.map bv).toArray
/-- Block B holds a map whose elements, noughts where there is none, are those of f. -/
def MAt (w : World) (B : Nat) (f : Nat → Bs) : Prop := ∃ es clock, w.heap[B]? = some (.map es clock) ∧ Stamped es clock ∧ (∀ e ∈ es.toList, ∃ k : Nat, e.key = .int .i64 (k : Int) ∧ e.val = sv (f k) ∧ (f k).length = 64) ∧ (∀ k : Nat, (∀ e ∈ es.toList, e.key ≠ .int .i64 (k : Int)) → f k = zeros)
def upd (f : Nat → Bs) (k : Nat) (b : Bs) : Nat → Bs := fun j => if j = k then b else f j
theorem key_inj {a b : Nat} (h : Value.int .i64 (a : Int) = .int .i64 (b : Int)) : a = b := by simp only [Value.int.injEq, true_and] at h; omega
theorem MAt.keys {es : Array MapEntry} {f : Nat → Bs} (h : ∀ e ∈ es.toList, ∃ k : Nat, e.key = .int .i64 (k : Int) ∧ e.val = sv (f k) ∧ (f k).length = 64) : ∀ e ∈ es.toList, IsKey (.int .i64) e.key := by
  intro e he
  obtain ⟨k, hk, _⟩ := h e he
  rw [hk]; rfl
theorem MAt.made (w : World) : MAt (w.alloc (.map #[] 0)) w.heap.size (fun _ => zeros) := ⟨#[], 0, (heap_alloc w _).1, stamped_empty 0, fun e he => by simp at he, fun _ _ => rfl⟩
theorem MAt.aside {S : Set_} {w w' : World} {B : Nat} {f : Nat → Bs} (h : MAt w B f) (hb : Aside S w w') (hB : ¬ S B) : MAt w' B f := by
  obtain ⟨es, c, h1, h2⟩ := h
  exact ⟨es, c, by rw [hb.block B (Array.getElem?_eq_some_iff.1 h1).1 hB]; exact h1, h2⟩
theorem MAt.below {w w' : World} {B : Nat} {f : Nat → Bs} (h : MAt w B f) (hb : Below w.heap.size w w') : MAt w' B f := h.aside (S := none_) (Aside.of_below hb) fun h => h
theorem MAt.lt {w : World} {B : Nat} {f : Nat → Bs} (h : MAt w B f) : B < w.heap.size := by
  obtain ⟨es, c, h1, _⟩ := h
  exact (Array.getElem?_eq_some_iff.1 h1).1
theorem MAt.len {w : World} {B : Nat} {f : Nat → Bs} (h : MAt w B f) (k : Nat) : (f k).length = 64 := by
  obtain ⟨es, c, _, _, h3, h4⟩ := h
  by_cases hn : ∀ e ∈ es.toList, e.key ≠ .int .i64 (k : Int)
  · rw [h4 k hn]; exact zeros_len
  · have ⟨e, he⟩ := Classical.not_forall.1 hn
    have ⟨h1, h2⟩ := Classical.not_imp.1 he
    have h2' := Classical.not_not.1 h2
    obtain ⟨j, hj, _, hl⟩ := h3 e h1
    rw [h2'] at hj
    rw [key_inj hj]; exact hl
theorem MAt.congr {w : World} {B : Nat} {f g : Nat → Bs} (h : MAt w B f) (e : ∀ k, f k = g k) : MAt w B g := by
  obtain rfl : f = g := funext e
  exact h
theorem zero_sector (w : World) : (zeroValue 64).run Try.prog w = .ok (sv zeros) w := by kernel_rfl
/-- m[k]. -/
theorem MAt.look {w : World} {B : Nat} {f : Nat → Bs} (h : MAt w B f) (k : Nat) : (Instr.lookup 58 (.map (some B)) (.int .i64 (k : Int)) false).run Try.prog w = .ok (sv (f k)) w := by
  obtain ⟨es, c, h1, h2, h3, h4⟩ := h
  have hk : IsKey (.int .i64) (.int .i64 (k : Int)) := rfl
  rcases findNow_spec hk es.toList 0 (MAt.keys h3) with ⟨g1, g2⟩ | ⟨j, e, g1, g2, g3⟩
  · rw [h4 k g2]
    simp [Instr.lookup, run_underlying Try.underlying58, MapKept.run_getObj_map h1, run_checkKey Try.underlying3 hk, run_findKey Try.underlying3 g1, Result.andThen]
    rfl
  · obtain ⟨i, hi, hv, _⟩ := h3 e (List.mem_of_getElem? g2)
    rw [hi] at g3
    have := key_inj g3
    subst this
    simp [Instr.lookup, run_underlying Try.underlying58, MapKept.run_getObj_map h1, run_checkKey Try.underlying3 hk, run_findKey Try.underlying3 g1, Result.andThen, hv]
/-- m[k] = v. -/
theorem MAt.update {w : World} {B : Nat} {f : Nat → Bs} (h : MAt w B f) (k : Nat) (b : Bs) (hb : b.length = 64) : ∃ w', (Instr.mapUpdate 58 (.map (some B)) (.int .i64 (k : Int)) (sv b)).run Try.prog w = .ok () w' ∧ MAt w' B (upd f k b) ∧ w.grownBy w' (some B) := by
  obtain ⟨es, c, h1, h2, h3, h4⟩ := h
  have hk : IsKey (.int .i64) (.int .i64 (k : Int)) := rfl
  rcases findNow_spec hk es.toList 0 (MAt.keys h3) with ⟨g1, g2⟩ | ⟨j, e, g1, g2, g3⟩
  · refine ⟨{ w with heap := w.heap.setIfInBounds B (.map (es.push ⟨.int .i64 (k : Int), sv b, c⟩) (c + 1)) }, ?_, ⟨_, _, (heap_set h1).1, stamped_push h2 g2, ?_, ?_⟩, ⟨rfl, rfl, rfl, by simp, fun i _ hi => (heap_set h1).2 i fun e => hi (by rw [e])⟩⟩
    · simp [Instr.mapUpdate, run_underlying Try.underlying58, MapKept.run_getObj_map h1, run_checkKey Try.underlying3 hk, run_findKey Try.underlying3 g1, MapKept.run_setObj_map _ h1, Result.andThen]
    · intro x hx
      simp only [Array.toList_push, List.mem_append, List.mem_singleton] at hx
      rcases hx with hx | rfl
      · obtain ⟨i, hi, hv, hl⟩ := h3 x hx
        have hne : i ≠ k := fun e => g2 x hx (by rw [hi, e])
        exact ⟨i, hi, by unfold upd; rw [if_neg hne]; exact hv, by unfold upd; rw [if_neg hne]; exact hl⟩
      · exact ⟨k, rfl, by unfold upd; rw [if_pos rfl], by unfold upd; rw [if_pos rfl]; exact hb⟩
    · intro i hi
      have hne : i ≠ k := fun e => hi ⟨.int .i64 (k : Int), sv b, c⟩ (by simp) (by rw [e])
      unfold upd
      rw [if_neg hne]
      exact h4 i fun x hx => hi x (by simp [hx])
  · have hj : es[j]? = some e := by simpa using g2
    have hlist : (es.modify j (fun e' => { e' with key := .int .i64 (k : Int), val := sv b })).toList = es.toList.set j { e with key := .int .i64 (k : Int), val := sv b } := by
      rw [Array.toList_modify, ChangeMaps.modify_eq_set _ _ _ _ g2]
    have hn : es.toList.Pairwise (fun x y => x.key ≠ y.key) := ((stamped_iff es c).1 h2).2.2
    have who : ∀ x ∈ es.toList.set j { e with key := .int .i64 (k : Int), val := sv b }, x = { e with key := .int .i64 (k : Int), val := sv b } ∨ (x ∈ es.toList ∧ x.key ≠ .int .i64 (k : Int)) := by
      intro x hx
      obtain ⟨i, hi, ex⟩ := List.getElem_of_mem hx
      rw [List.getElem_set] at ex
      split at ex
      · exact Or.inl ex.symm
      · rename_i hne
        have hi' : i < es.toList.length := by simpa using hi
        have hjl : j < es.toList.length := (List.getElem?_eq_some_iff.1 g2).1
        have ej : es.toList[j] = e := (List.getElem?_eq_some_iff.1 g2).2
        refine Or.inr ⟨ex ▸ List.getElem_mem hi', ?_⟩
        rw [← g3]
        rcases Nat.lt_or_gt_of_ne hne with hlt | hlt
        · have := List.pairwise_iff_getElem.1 hn j i hjl hi' hlt
          rw [ej, ex] at this
          exact this.symm
        · have := List.pairwise_iff_getElem.1 hn i j hi' hjl hlt
          rw [ej, ex] at this
          exact this
    refine ⟨{ w with heap := w.heap.setIfInBounds B (.map (es.modify j (fun e' => { e' with key := .int .i64 (k : Int), val := sv b })) c) }, ?_, ⟨_, _, (heap_set h1).1, stamped_modify h2 _ _ (fun _ _ => rfl) (fun e' _ he' => by rw [hj] at he'; cases he'; exact g3.symm), ?_, ?_⟩, ⟨rfl, rfl, rfl, by simp, fun i _ hi => (heap_set h1).2 i fun e => hi (by rw [e])⟩⟩
    · simp [Instr.mapUpdate, run_underlying Try.underlying58, MapKept.run_getObj_map h1, run_checkKey Try.underlying3 hk, run_findKey Try.underlying3 g1, hj, g3, run_keyThatStays hk, MapKept.run_setObj_map _ h1, Result.andThen]
    · intro x hx
      rw [hlist] at hx
      rcases who x hx with rfl | ⟨hx', hne'⟩
      · exact ⟨k, rfl, by unfold upd; rw [if_pos rfl], by unfold upd; rw [if_pos rfl]; exact hb⟩
      · obtain ⟨i, hi, hv, hl⟩ := h3 x hx'
        have hne : i ≠ k := fun e => hne' (by rw [hi, e])
        exact ⟨i, hi, by unfold upd; rw [if_neg hne]; exact hv, by unfold upd; rw [if_neg hne]; exact hl⟩
    · intro i hi
      have hne : i ≠ k := fun e1 => hi { e with key := .int .i64 (k : Int), val := sv b } (by rw [hlist]; exact List.mem_iff_getElem.2 ⟨j, by simpa using (List.getElem?_eq_some_iff.1 g2).1, by simp⟩) (by rw [e1])
      unfold upd
      rw [if_neg hne]
      refine h4 i fun x hx e2 => ?_
      have hx2 : x ∈ (es.modify j (fun e' => { e' with key := .int .i64 (k : Int), val := sv b })).toList ∨ x = e := by
        rw [hlist]
        obtain ⟨m, hm, ex⟩ := List.getElem_of_mem hx
        by_cases hmj : m = j
        · subst hmj
          right
          rw [← ex]; exact (List.getElem?_eq_some_iff.1 g2).2
        · left
          exact List.mem_iff_getElem.2 ⟨m, by simpa using hm, by rw [List.getElem_set_ne (by omega)]; exact ex⟩
      rcases hx2 with h | rfl
      · exact hi x h e2
      · rw [g3] at e2
        exact hne (key_inj e2).symm
/-- delete(m, k). -/
theorem MAt.drop {w : World} {B : Nat} {f : Nat → Bs} (h : MAt w B f) (k : Nat) (ty : TypeId) : ∃ w', (Builtin.delete_ #[58, 3] ty #[.map (some B), .int .i64 (k : Int)]).run Try.prog w = .ok (.tuple #[]) w' ∧ MAt w' B (upd f k zeros) ∧ w.grownBy w' (some B) := by
  obtain ⟨es, c, h1, h2, h3, h4⟩ := h
  have hk : IsKey (.int .i64) (.int .i64 (k : Int)) := rfl
  rcases findNow_spec hk es.toList 0 (MAt.keys h3) with ⟨g1, g2⟩ | ⟨j, e, g1, g2, g3⟩
  · refine ⟨{ w with heap := w.heap.setIfInBounds B (.map es c) }, ?_, ⟨_, _, (heap_set h1).1, h2, ?_, ?_⟩, ⟨rfl, rfl, rfl, by simp, fun i _ hi => (heap_set h1).2 i fun e => hi (by rw [e])⟩⟩
    · simp [Builtin.delete_, run_underlying Try.underlying58, MapKept.run_getObj_map h1, run_checkKey Try.underlying3 hk, run_findKey Try.underlying3 g1, MapKept.run_setObj_map _ h1, Result.andThen]
    · intro x hx
      obtain ⟨i, hi, hv, hl⟩ := h3 x hx
      have hne : i ≠ k := fun e => g2 x hx (by rw [hi, e])
      exact ⟨i, hi, by unfold upd; rw [if_neg hne]; exact hv, by unfold upd; rw [if_neg hne]; exact hl⟩
    · intro i hi
      unfold upd
      split
      · rfl
      · exact h4 i hi
  · have hjl : j < es.toList.length := (List.getElem?_eq_some_iff.1 g2).1
    have hjs : j < es.size := by simpa using hjl
    have ej : es.toList[j] = e := (List.getElem?_eq_some_iff.1 g2).2
    have hsub : (es.eraseIdxIfInBounds j).toList = es.toList.eraseIdx j := by
      unfold Array.eraseIdxIfInBounds
      rw [dif_pos hjs]
      simp
    have hn : es.toList.Pairwise (fun x y => x.key ≠ y.key) := ((stamped_iff es c).1 h2).2.2
    refine ⟨{ w with heap := w.heap.setIfInBounds B (.map (es.eraseIdxIfInBounds j) c) }, ?_, ⟨_, _, (heap_set h1).1, stamped_erase h2 j, ?_, ?_⟩, ⟨rfl, rfl, rfl, by simp, fun i _ hi => (heap_set h1).2 i fun e => hi (by rw [e])⟩⟩
    · simp [Builtin.delete_, run_underlying Try.underlying58, MapKept.run_getObj_map h1, run_checkKey Try.underlying3 hk, run_findKey Try.underlying3 g1, MapKept.run_setObj_map _ h1, Result.andThen]
    · intro x hx
      rw [hsub] at hx
      obtain ⟨m, hmj, hm⟩ := List.mem_eraseIdx_iff_getElem?.1 hx
      have hml : m < es.toList.length := (List.getElem?_eq_some_iff.1 hm).1
      have em : es.toList[m] = x := (List.getElem?_eq_some_iff.1 hm).2
      have hkey : x.key ≠ e.key := by
        rcases Nat.lt_or_gt_of_ne hmj with hlt | hlt
        · have := List.pairwise_iff_getElem.1 hn m j hml hjl hlt
          rw [ej, em] at this
          exact this
        · have := List.pairwise_iff_getElem.1 hn j m hjl hml hlt
          rw [ej, em] at this
          exact this.symm
      obtain ⟨i, hi, hv, hl⟩ := h3 x (List.mem_of_getElem? hm)
      have hne : i ≠ k := fun e1 => hkey (by rw [hi, e1, g3])
      exact ⟨i, hi, by unfold upd; rw [if_neg hne]; exact hv, by unfold upd; rw [if_neg hne]; exact hl⟩
    · intro i hi
      unfold upd
      split
      · rfl
      · rename_i hne
        refine h4 i fun x hx e2 => ?_
        obtain ⟨m, hm, ex⟩ := List.getElem_of_mem hx
        by_cases hmj : m = j
        · subst hmj
          rw [ej] at ex
          subst ex
          rw [g3] at e2
          exact hne (key_inj e2).symm
        · exact hi x (by rw [hsub]; exact List.mem_eraseIdx_iff_getElem?.2 ⟨m, hmj, by rw [List.getElem?_eq_getElem hm, ex]⟩) e2
/-- Two sectors held against each other. -/
theorem items_eq (w : World) (d : Nat) (a b : Bs) : ∀ (is : List Nat), (∀ i ∈ is, i < a.length ∧ i < b.length) → (Op.eqItems (d + 1) 5 1 (a.map bv).toArray (b.map bv).toArray is).run Try.prog w = .ok (is.all fun i => a.getD i 0 == b.getD i 0) w
  | [], _ => by simp [Op.eqItems]
  | i :: is, h => by
    obtain ⟨ha, hb⟩ := h i List.mem_cons_self
    have ih := items_eq w d a b is fun j hj => h j (List.mem_cons_of_mem _ hj)
    have hp : ∀ (l : Bs), i < l.length → (part 5 (l.map bv).toArray (i * 1)).run Try.prog w = .ok (bv (l.getD i 0)) w := by
      intro l hl
      have hu : (isAgg 5).run Try.prog w = .ok false w := by kernel_rfl
      simp [part, Sem.run_bind, hu, List.getD_eq_getElem?_getD, hl]
    rw [Op.eqItems]
    simp only [Sem.run_bind, hp a ha, hp b hb, Result.andThen_ok, bv, run_equalIn_int w d 5 .u8 .u8 _ _ Try.underlying5, List.all_cons]
    have e : (((a.getD i 0).toNat : Int) == ((b.getD i 0).toNat : Int)) = (a.getD i 0 == b.getD i 0) := by
      rw [Bool.eq_iff_iff]
      simp only [beq_iff_eq]
      constructor
      · intro h; exact UInt8.toNat_inj.1 (by omega)
      · intro h; rw [h]
    rw [e]
    cases hc : (a.getD i 0 == b.getD i 0)
    · simp
    · simpa using ih
theorem sector_eq (w : World) (a b : Bs) (ha : a.length = 64) (hb : b.length = 64) : (Op.equal 64 (sv a) (sv b)).run Try.prog w = .ok (decide (a = b)) w := by
  obtain ⟨i, hi, _⟩ := Option.map_eq_some_iff.1 (show (Try.prog.info? 5).map (fun i => i.size) = some 1 by kernel_rfl)
  have hc : Try.prog.cellsOf 5 = 1 := by kernel_rfl
  unfold Op.equal sv
  rw [show Op.maxDepth = 9999 + 1 from rfl, run_equalIn_array w 9999 _ _ Try.underlying64 hi, hc, items_eq w 9998 a b (List.range 64) (fun i hi => by have := List.mem_range.1 hi; omega)]
  congr 1
  rw [Bool.eq_iff_iff, List.all_eq_true, decide_eq_true_iff]
  constructor
  · intro h
    apply List.ext_getElem (by omega)
    intro i h1 h2
    have := h i (List.mem_range.2 (by omega))
    simpa [List.getD_eq_getElem?_getD, h1, h2] using this
  · intro h i _
    simp [h]
end Go.Proofs.Ytlmikagmcaicoaa
