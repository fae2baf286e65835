/-
  Maps of sectors in memory, as functions; what the operations do to them.
  The landed plate: its content's put.
  The landed plate in memory; its small functions, step and New, walked.
  The landed plate's New and Read, walked.
  A write's value; what is laid when one is made.
-/
import Derived.Test.YtbjgknoipbekoaaGreatQ3
import Derived.MapKept
import Derived.ChangeKeysEq
import Derived.Maps.OwnSet
import Derived.Great.BuildSlice
import Derived.Deep.Cut
import Derived.Laws.CopyOwn
import Derived.Great.FillDense
namespace Go.Proofs.YtbjgknoipbekoaaGreat
open Go.RowKit Go.MapKept
/-- A sector's value. -/
def sv (b : Bs) : Value := .agg (b.map bv).toArray
/-- Block B holds a map whose elements, noughts where there is none, are those of f. -/
def MAt (w : World) (B : Nat) (f : Nat → Bs) : Prop := ∃ es clock, w.heap[B]? = some (.map es clock) ∧ Stamped es clock ∧ (∀ e ∈ es.toList, ∃ k : Nat, e.key = .int .i64 (k : Int) ∧ e.val = sv (f k) ∧ (f k).length = 64) ∧ (∀ k : Nat, (∀ e ∈ es.toList, e.key ≠ .int .i64 (k : Int)) → f k = zeros)
def upd (f : Nat → Bs) (k : Nat) (b : Bs) : Nat → Bs := fun j => if j = k then b else f j
theorem key_inj {a b : Nat} (h : Value.int .i64 (a : Int) = .int .i64 (b : Int)) : a = b := by simp only [Value.int.injEq, true_and] at h; omega
theorem MAt.keys {es : Array MapEntry} {f : Nat → Bs} (h : ∀ e ∈ es.toList, ∃ k : Nat, e.key = .int .i64 (k : Int) ∧ e.val = sv (f k) ∧ (f k).length = 64) : ∀ e ∈ es.toList, IsKey (.int .i64) e.key := by
  intro e he
  obtain ⟨k, hk, _⟩ := h e he
  rw [hk]; rfl
theorem MAt.made (w : World) : MAt (w.alloc (.map #[] 0)) w.heap.size (fun _ => zeros) := ⟨#[], 0, (heap_alloc w _).1, stamped_empty 0, fun e he => by simp at he, fun _ _ => rfl⟩
theorem MAt.aside {S : Set_} {w w' : World} {B : Nat} {f : Nat → Bs} (h : MAt w B f) (hb : Aside S w w') (hB : ¬ S B) : MAt w' B f := by
  obtain ⟨es, c, h1, h2⟩ := h
  exact ⟨es, c, by rw [hb.block B (Array.getElem?_eq_some_iff.1 h1).1 hB]; exact h1, h2⟩
theorem MAt.below {w w' : World} {B : Nat} {f : Nat → Bs} (h : MAt w B f) (hb : Below w.heap.size w w') : MAt w' B f := h.aside (S := none_) (Aside.of_below hb) fun h => h
theorem MAt.lt {w : World} {B : Nat} {f : Nat → Bs} (h : MAt w B f) : B < w.heap.size := by
  obtain ⟨es, c, h1, _⟩ := h
  exact (Array.getElem?_eq_some_iff.1 h1).1
theorem MAt.len {w : World} {B : Nat} {f : Nat → Bs} (h : MAt w B f) (k : Nat) : (f k).length = 64 := by
  obtain ⟨es, c, _, _, h3, h4⟩ := h
  by_cases hn : ∀ e ∈ es.toList, e.key ≠ .int .i64 (k : Int)
  · rw [h4 k hn]; exact zeros_len
  · have ⟨e, he⟩ := Classical.not_forall.1 hn
    have ⟨h1, h2⟩ := Classical.not_imp.1 he
    have h2' := Classical.not_not.1 h2
    obtain ⟨j, hj, _, hl⟩ := h3 e h1
    rw [h2'] at hj
    rw [key_inj hj]; exact hl
theorem MAt.congr {w : World} {B : Nat} {f g : Nat → Bs} (h : MAt w B f) (e : ∀ k, f k = g k) : MAt w B g := by
  obtain rfl : f = g := funext e
  exact h
/-- m[k]. -/
theorem MAt.look {w : World} {B : Nat} {f : Nat → Bs} (h : MAt w B f) (k : Nat) : (Instr.lookup 84 (.map (some B)) (.int .i64 (k : Int)) false).run Tryz.prog w = .ok (sv (f k)) w := by
  obtain ⟨es, c, h1, h2, h3, h4⟩ := h
  have hk : IsKey (.int .i64) (.int .i64 (k : Int)) := rfl
  rcases findNow_spec hk es.toList 0 (MAt.keys h3) with ⟨g1, g2⟩ | ⟨j, e, g1, g2, g3⟩
  · rw [h4 k g2]
    simp [Instr.lookup, run_underlying Tryz.underlying84, MapKept.run_getObj_map h1, run_checkKey Tryz.underlying3 hk, run_findKey Tryz.underlying3 g1, Result.andThen]
    rfl
  · obtain ⟨i, hi, hv, _⟩ := h3 e (List.mem_of_getElem? g2)
    rw [hi] at g3
    have := key_inj g3
    subst this
    simp [Instr.lookup, run_underlying Tryz.underlying84, MapKept.run_getObj_map h1, run_checkKey Tryz.underlying3 hk, run_findKey Tryz.underlying3 g1, Result.andThen, hv]
/-- m[k] = v. -/
theorem MAt.update {w : World} {B : Nat} {f : Nat → Bs} (h : MAt w B f) (k : Nat) (b : Bs) (hb : b.length = 64) : ∃ w', (Instr.mapUpdate 84 (.map (some B)) (.int .i64 (k : Int)) (sv b)).run Tryz.prog w = .ok () w' ∧ MAt w' B (upd f k b) ∧ w.grownBy w' (some B) := by
  obtain ⟨es, c, h1, h2, h3, h4⟩ := h
  have hk : IsKey (.int .i64) (.int .i64 (k : Int)) := rfl
  rcases findNow_spec hk es.toList 0 (MAt.keys h3) with ⟨g1, g2⟩ | ⟨j, e, g1, g2, g3⟩
  · refine ⟨{ w with heap := w.heap.setIfInBounds B (.map (es.push ⟨.int .i64 (k : Int), sv b, c⟩) (c + 1)) }, ?_, ⟨_, _, (heap_set h1).1, stamped_push h2 g2, ?_, ?_⟩, ⟨rfl, rfl, rfl, by simp, fun i _ hi => (heap_set h1).2 i fun e => hi (by rw [e])⟩⟩
    · simp [Instr.mapUpdate, run_underlying Tryz.underlying84, MapKept.run_getObj_map h1, run_checkKey Tryz.underlying3 hk, run_findKey Tryz.underlying3 g1, MapKept.run_setObj_map _ h1, Result.andThen]
    · intro x hx
      simp only [Array.toList_push, List.mem_append, List.mem_singleton] at hx
      rcases hx with hx | rfl
      · obtain ⟨i, hi, hv, hl⟩ := h3 x hx
        have hne : i ≠ k := fun e => g2 x hx (by rw [hi, e])
        exact ⟨i, hi, by unfold upd; rw [if_neg hne]; exact hv, by unfold upd; rw [if_neg hne]; exact hl⟩
      · exact ⟨k, rfl, by unfold upd; rw [if_pos rfl], by unfold upd; rw [if_pos rfl]; exact hb⟩
    · intro i hi
      have hne : i ≠ k := fun e => hi ⟨.int .i64 (k : Int), sv b, c⟩ (by simp) (by rw [e])
      unfold upd
      rw [if_neg hne]
      exact h4 i fun x hx => hi x (by simp [hx])
  · have hj : es[j]? = some e := by simpa using g2
    have hlist : (es.modify j (fun e' => { e' with key := .int .i64 (k : Int), val := sv b })).toList = es.toList.set j { e with key := .int .i64 (k : Int), val := sv b } := by
      rw [Array.toList_modify, ChangeMaps.modify_eq_set _ _ _ _ g2]
    have hn : es.toList.Pairwise (fun x y => x.key ≠ y.key) := ((stamped_iff es c).1 h2).2.2
    have who : ∀ x ∈ es.toList.set j { e with key := .int .i64 (k : Int), val := sv b }, x = { e with key := .int .i64 (k : Int), val := sv b } ∨ (x ∈ es.toList ∧ x.key ≠ .int .i64 (k : Int)) := by
      intro x hx
      obtain ⟨i, hi, ex⟩ := List.getElem_of_mem hx
      rw [List.getElem_set] at ex
      split at ex
      · exact Or.inl ex.symm
      · rename_i hne
        have hi' : i < es.toList.length := by simpa using hi
        have hjl : j < es.toList.length := (List.getElem?_eq_some_iff.1 g2).1
        have ej : es.toList[j] = e := (List.getElem?_eq_some_iff.1 g2).2
        refine Or.inr ⟨ex ▸ List.getElem_mem hi', ?_⟩
        rw [← g3]
        rcases Nat.lt_or_gt_of_ne hne with hlt | hlt
        · have := List.pairwise_iff_getElem.1 hn j i hjl hi' hlt
          rw [ej, ex] at this
          exact this.symm
        · have := List.pairwise_iff_getElem.1 hn i j hi' hjl hlt
          rw [ej, ex] at this
          exact this
    refine ⟨{ w with heap := w.heap.setIfInBounds B (.map (es.modify j (fun e' => { e' with key := .int .i64 (k : Int), val := sv b })) c) }, ?_, ⟨_, _, (heap_set h1).1, stamped_modify h2 _ _ (fun _ _ => rfl) (fun e' _ he' => by rw [hj] at he'; cases he'; exact g3.symm), ?_, ?_⟩, ⟨rfl, rfl, rfl, by simp, fun i _ hi => (heap_set h1).2 i fun e => hi (by rw [e])⟩⟩
    · simp [Instr.mapUpdate, run_underlying Tryz.underlying84, MapKept.run_getObj_map h1, run_checkKey Tryz.underlying3 hk, run_findKey Tryz.underlying3 g1, hj, g3, run_keyThatStays hk, MapKept.run_setObj_map _ h1, Result.andThen]
    · intro x hx
      rw [hlist] at hx
      rcases who x hx with rfl | ⟨hx', hne'⟩
      · exact ⟨k, rfl, by unfold upd; rw [if_pos rfl], by unfold upd; rw [if_pos rfl]; exact hb⟩
      · obtain ⟨i, hi, hv, hl⟩ := h3 x hx'
        have hne : i ≠ k := fun e => hne' (by rw [hi, e])
        exact ⟨i, hi, by unfold upd; rw [if_neg hne]; exact hv, by unfold upd; rw [if_neg hne]; exact hl⟩
    · intro i hi
      have hne : i ≠ k := fun e1 => hi { e with key := .int .i64 (k : Int), val := sv b } (by rw [hlist]; exact List.mem_iff_getElem.2 ⟨j, by simpa using (List.getElem?_eq_some_iff.1 g2).1, by simp⟩) (by rw [e1])
      unfold upd
      rw [if_neg hne]
      refine h4 i fun x hx e2 => ?_
      have hx2 : x ∈ (es.modify j (fun e' => { e' with key := .int .i64 (k : Int), val := sv b })).toList ∨ x = e := by
        rw [hlist]
        obtain ⟨m, hm, ex⟩ := List.getElem_of_mem hx
        by_cases hmj : m = j
        · subst hmj
          right
          rw [← ex]; exact (List.getElem?_eq_some_iff.1 g2).2
        · left
          exact List.mem_iff_getElem.2 ⟨m, by simpa using hm, by rw [List.getElem_set_ne (by omega)]; exact ex⟩
      rcases hx2 with h | rfl
      · exact hi x h e2
      · rw [g3] at e2
        exact hne (key_inj e2).symm
/-- delete(m, k). -/
theorem MAt.drop {w : World} {B : Nat} {f : Nat → Bs} (h : MAt w B f) (k : Nat) (ty : TypeId) : ∃ w', (Builtin.delete_ #[84, 3] ty #[.map (some B), .int .i64 (k : Int)]).run Tryz.prog w = .ok (.tuple #[]) w' ∧ MAt w' B (upd f k zeros) ∧ w.grownBy w' (some B) := by
  obtain ⟨es, c, h1, h2, h3, h4⟩ := h
  have hk : IsKey (.int .i64) (.int .i64 (k : Int)) := rfl
  rcases findNow_spec hk es.toList 0 (MAt.keys h3) with ⟨g1, g2⟩ | ⟨j, e, g1, g2, g3⟩
  · refine ⟨{ w with heap := w.heap.setIfInBounds B (.map es c) }, ?_, ⟨_, _, (heap_set h1).1, h2, ?_, ?_⟩, ⟨rfl, rfl, rfl, by simp, fun i _ hi => (heap_set h1).2 i fun e => hi (by rw [e])⟩⟩
    · simp [Builtin.delete_, run_underlying Tryz.underlying84, MapKept.run_getObj_map h1, run_checkKey Tryz.underlying3 hk, run_findKey Tryz.underlying3 g1, MapKept.run_setObj_map _ h1, Result.andThen]
    · intro x hx
      obtain ⟨i, hi, hv, hl⟩ := h3 x hx
      have hne : i ≠ k := fun e => g2 x hx (by rw [hi, e])
      exact ⟨i, hi, by unfold upd; rw [if_neg hne]; exact hv, by unfold upd; rw [if_neg hne]; exact hl⟩
    · intro i hi
      unfold upd
      split
      · rfl
      · exact h4 i hi
  · have hjl : j < es.toList.length := (List.getElem?_eq_some_iff.1 g2).1
    have hjs : j < es.size := by simpa using hjl
    have ej : es.toList[j] = e := (List.getElem?_eq_some_iff.1 g2).2
    have hsub : (es.eraseIdxIfInBounds j).toList = es.toList.eraseIdx j := by
      unfold Array.eraseIdxIfInBounds
      rw [dif_pos hjs]
      simp
    have hn : es.toList.Pairwise (fun x y => x.key ≠ y.key) := ((stamped_iff es c).1 h2).2.2
    refine ⟨{ w with heap := w.heap.setIfInBounds B (.map (es.eraseIdxIfInBounds j) c) }, ?_, ⟨_, _, (heap_set h1).1, stamped_erase h2 j, ?_, ?_⟩, ⟨rfl, rfl, rfl, by simp, fun i _ hi => (heap_set h1).2 i fun e => hi (by rw [e])⟩⟩
    · simp [Builtin.delete_, run_underlying Tryz.underlying84, MapKept.run_getObj_map h1, run_checkKey Tryz.underlying3 hk, run_findKey Tryz.underlying3 g1, MapKept.run_setObj_map _ h1, Result.andThen]
    · intro x hx
      rw [hsub] at hx
      obtain ⟨m, hmj, hm⟩ := List.mem_eraseIdx_iff_getElem?.1 hx
      have hml : m < es.toList.length := (List.getElem?_eq_some_iff.1 hm).1
      have em : es.toList[m] = x := (List.getElem?_eq_some_iff.1 hm).2
      have hkey : x.key ≠ e.key := by
        rcases Nat.lt_or_gt_of_ne hmj with hlt | hlt
        · have := List.pairwise_iff_getElem.1 hn m j hml hjl hlt
          rw [ej, em] at this
          exact this
        · have := List.pairwise_iff_getElem.1 hn j m hjl hml hlt
          rw [ej, em] at this
          exact this.symm
      obtain ⟨i, hi, hv, hl⟩ := h3 x (List.mem_of_getElem? hm)
      have hne : i ≠ k := fun e1 => hkey (by rw [hi, e1, g3])
      exact ⟨i, hi, by unfold upd; rw [if_neg hne]; exact hv, by unfold upd; rw [if_neg hne]; exact hl⟩
    · intro i hi
      unfold upd
      split
      · rfl
      · rename_i hne
        refine h4 i fun x hx e2 => ?_
        obtain ⟨m, hm, ex⟩ := List.getElem_of_mem hx
        by_cases hmj : m = j
        · subst hmj
          rw [ej] at ex
          subst ex
          rw [g3] at e2
          exact hne (key_inj e2).symm
        · exact hi x (by rw [hsub]; exact List.mem_eraseIdx_iff_getElem?.2 ⟨m, hmj, by rw [List.getElem?_eq_getElem hm, ex]⟩) e2
/-- Two sectors held against each other. -/
theorem items_eq (w : World) (d : Nat) (a b : Bs) : ∀ (is : List Nat), (∀ i ∈ is, i < a.length ∧ i < b.length) → (Op.eqItems (d + 1) 5 1 (a.map bv).toArray (b.map bv).toArray is).run Tryz.prog w = .ok (is.all fun i => a.getD i 0 == b.getD i 0) w
  | [], _ => by simp [Op.eqItems]
  | i :: is, h => by
    obtain ⟨ha, hb⟩ := h i List.mem_cons_self
    have ih := items_eq w d a b is fun j hj => h j (List.mem_cons_of_mem _ hj)
    have hp : ∀ (l : Bs), i < l.length → (part 5 (l.map bv).toArray (i * 1)).run Tryz.prog w = .ok (bv (l.getD i 0)) w := by
      intro l hl
      have hu : (isAgg 5).run Tryz.prog w = .ok false w := by kernel_rfl
      simp [part, Sem.run_bind, hu, List.getD_eq_getElem?_getD, hl]
    rw [Op.eqItems]
    simp only [Sem.run_bind, hp a ha, hp b hb, Result.andThen_ok, bv, run_equalIn_int w d 5 .u8 .u8 _ _ Tryz.underlying5, List.all_cons]
    have e : (((a.getD i 0).toNat : Int) == ((b.getD i 0).toNat : Int)) = (a.getD i 0 == b.getD i 0) := by
      rw [Bool.eq_iff_iff]
      simp only [beq_iff_eq]
      constructor
      · intro h; exact UInt8.toNat_inj.1 (by omega)
      · intro h; rw [h]
    rw [e]
    cases hc : (a.getD i 0 == b.getD i 0)
    · simp
    · simpa using ih
set_option maxRecDepth 100000 in
theorem sector_eq (w : World) (a b : Bs) (ha : a.length = 64) (hb : b.length = 64) : (Op.equal 107 (sv a) (sv b)).run Tryz.prog w = .ok (decide (a = b)) w := by
  obtain ⟨i, hi, _⟩ := Option.map_eq_some_iff.1 (show (Tryz.prog.info? 5).map (fun i => i.size) = some 1 by kernel_rfl)
  have hc : Tryz.prog.cellsOf 5 = 1 := by kernel_rfl
  unfold Op.equal sv
  rw [show Op.maxDepth = 9999 + 1 from rfl, run_equalIn_array w 9999 _ _ Tryz.underlying107 hi, hc, items_eq w 9998 a b (List.range 64) (fun i hi => by have := List.mem_range.1 hi; omega)]
  congr 1
  rw [Bool.eq_iff_iff, List.all_eq_true, decide_eq_true_iff]
  constructor
  · intro h
    apply List.ext_getElem (by omega)
    intro i h1 h2
    have := h i (List.mem_range.2 (by omega))
    simpa [List.getD_eq_getElem?_getD, h1, h2] using this
  · intro h i _
    simp [h]
end Go.Proofs.YtbjgknoipbekoaaGreat
namespace Go.Proofs.YtbjgknoipbekoaaGreat
open Go.RowKit
theorem size_sector : (Tryz.prog.info? 107).map (·.size) = some 64 := by kernel_rfl
theorem Aside.grown {S : Set_} {a b c : World} {B : Nat} (h : Aside S a b) (hg : b.grownBy c (some B)) (hB : a.heap.size ≤ B ∨ S B) : Aside S a c :=
  ⟨hg.os.trans h.os, hg.tape.trans h.tape, hg.output.trans h.output, Nat.le_trans h.size hg.size, fun k hk hn => (hg.block k (Nat.lt_of_lt_of_le hk h.size) fun e => by
    rcases hB with hB | hB
    · have := Option.some.inj e; omega
    · exact hn (Option.some.inj e ▸ hB)).trans (h.block k hk hn)⟩
theorem sector_lit (w : World) (b : Bs) (hb : b.length = 64) : (Op.equalIn 10000 107 (.agg (b.map bv).toArray) (.agg (Value.int IntKind.u8 0 :: Value.int IntKind.u8 0 :: Value.int IntKind.u8 0 :: Value.int IntKind.u8 0 :: Value.int IntKind.u8 0 :: Value.int IntKind.u8 0 :: Value.int IntKind.u8 0 :: Value.int IntKind.u8 0 :: Value.int IntKind.u8 0 :: Value.int IntKind.u8 0 :: Value.int IntKind.u8 0 :: Value.int IntKind.u8 0 :: Value.int IntKind.u8 0 :: Value.int IntKind.u8 0 :: Value.int IntKind.u8 0 :: Value.int IntKind.u8 0 :: Value.int IntKind.u8 0 :: Value.int IntKind.u8 0 :: Value.int IntKind.u8 0 :: Value.int IntKind.u8 0 :: Value.int IntKind.u8 0 :: Value.int IntKind.u8 0 :: Value.int IntKind.u8 0 :: Value.int IntKind.u8 0 :: Value.int IntKind.u8 0 :: Value.int IntKind.u8 0 :: Value.int IntKind.u8 0 :: Value.int IntKind.u8 0 :: Value.int IntKind.u8 0 :: Value.int IntKind.u8 0 :: Value.int IntKind.u8 0 :: Value.int IntKind.u8 0 :: Value.int IntKind.u8 0 :: Value.int IntKind.u8 0 :: Value.int IntKind.u8 0 :: Value.int IntKind.u8 0 :: Value.int IntKind.u8 0 :: Value.int IntKind.u8 0 :: Value.int IntKind.u8 0 :: Value.int IntKind.u8 0 :: Value.int IntKind.u8 0 :: Value.int IntKind.u8 0 :: Value.int IntKind.u8 0 :: Value.int IntKind.u8 0 :: Value.int IntKind.u8 0 :: Value.int IntKind.u8 0 :: Value.int IntKind.u8 0 :: Value.int IntKind.u8 0 :: Value.int IntKind.u8 0 :: Value.int IntKind.u8 0 :: Value.int IntKind.u8 0 :: Value.int IntKind.u8 0 :: Value.int IntKind.u8 0 :: Value.int IntKind.u8 0 :: Value.int IntKind.u8 0 :: Value.int IntKind.u8 0 :: Value.int IntKind.u8 0 :: Value.int IntKind.u8 0 :: Value.int IntKind.u8 0 :: Value.int IntKind.u8 0 :: Value.int IntKind.u8 0 :: Value.int IntKind.u8 0 :: Value.int IntKind.u8 0 :: Value.int IntKind.u8 0 :: []).toArray)).run Tryz.prog w = .ok (decide (b = zeros)) w := sector_eq w b zeros hb zeros_len
set_option maxRecDepth 100000 in
set_option maxHeartbeats 4000000 in
theorem put_c (w : World) (M : Nat) (f : Nat → Bs) (hm : MAt w M f) (k : Nat) (b : Bs) (hb : b.length = 64) :
    Calls Tryz.prog 53 #[.map (some M), .int .i64 (k : Int), sv b] w fun e w' => e = .returned (.tuple #[]) ∧ MAt w' M (upd f k b) ∧ Aside (fun j => j = M) w w' := by
  have hq := fun w => sector_lit w b hb
  have hX : (b.map bv).toArray.size = 64 := by simp [hb]
  have hm1 := hm.below ((Below.refl _ _).alloc (Nat.le_refl _) (.cells (b.map bv).toArray 107))
  have hA := heap_alloc_new w (.cells (b.map bv).toArray 107)
  have ha1 : Aside (fun j => j = M) w (w.alloc (.cells (b.map bv).toArray 107)) := Aside.of_below ((Below.refl _ _).alloc (Nat.le_refl _) _)
  obtain ⟨wd, hrd, hmd, hgd⟩ := hm1.drop k 0
  obtain ⟨wu, hru, hmu, hgu⟩ := hm1.update k b hb
  have HD := hide (ha1.grown hgd (Or.inr rfl))
  have HU := hide (ha1.grown hgu (Or.inr rfl))
  have HMD := hide hmd
  have HMU := hide hmu
  have HA1 := hide hA
  unfold sv at hru ⊢
  clear hmd hgd hmu hgu hm hm1 ha1 hA
  by_cases he : b = zeros
  · rw [decide_eq_true he] at hq
    subst he
    obtain ⟨X, hXX⟩ : ∃ x, (zeros.map bv).toArray = x := ⟨_, rfl⟩
    rw [hXX] at hq hX hrd HA1 ⊢
    obtain ⟨W, hW⟩ : ∃ x, w.alloc (.cells X 107) = x := ⟨_, rfl⟩
    rw [hW] at hrd HA1
    clear hru HU HMU hb hXX
    go_enter Tryz.func53, Tryz.ntmps53
    go_wp2_with (refine wpList_load_row rfl 107 _ rfl w.heap.size rfl 107 X (0, 0) _ (unhide HA1) Tryz.underlying107 rfl (by rw [hX]; exact size_sector) ?_)
    (try simp only [Exit.inBlock, Exit.then])
    refine bodyPost_ret (results_none rfl _ _ _) rfl ?_
    exact ⟨rfl, unhide HMD, unhide HD⟩
  · rw [decide_eq_false he] at hq
    obtain ⟨X, hXX⟩ : ∃ x, (b.map bv).toArray = x := ⟨_, rfl⟩
    rw [hXX] at hq hX hru HA1 ⊢
    obtain ⟨W, hW⟩ : ∃ x, w.alloc (.cells X 107) = x := ⟨_, rfl⟩
    rw [hW] at hru HA1
    clear hrd HD HMD hb he hXX
    go_enter Tryz.func53, Tryz.ntmps53
    go_wp2_with (refine wpList_load_row rfl 107 _ rfl w.heap.size rfl 107 X (0, 0) _ (unhide HA1) Tryz.underlying107 rfl (by rw [hX]; exact size_sector) ?_)
    (try simp only [Exit.inBlock, Exit.then])
    refine bodyPost_end (results_none rfl _ _ _) rfl ?_
    exact ⟨rfl, unhide HMU, unhide HU⟩
end Go.Proofs.YtbjgknoipbekoaaGreat
namespace Go.Proofs.YtbjgknoipbekoaaGreat
open Go.RowKit
/-- The cells of a row of writes. -/
def wcells (l : List (Nat × Bs)) : List Value := l.flatMap fun x => .int .i64 (x.1 : Int) :: x.2.map bv
theorem wcells_cons (x : Nat × Bs) (l : List (Nat × Bs)) : wcells (x :: l) = (.int .i64 (x.1 : Int) :: x.2.map bv) ++ wcells l := rfl
theorem wcells_app (l : List (Nat × Bs)) (x : Nat × Bs) : wcells (l ++ [x]) = wcells l ++ (.int .i64 (x.1 : Int) :: x.2.map bv) := by unfold wcells; simp
theorem wcells_at : ∀ {l : List (Nat × Bs)} {i : Nat} {x : Nat × Bs}, (∀ x ∈ l, x.2.length = 64) → l[i]? = some x → ∀ j < 65, (wcells l)[i * 65 + j]? = (.int .i64 (x.1 : Int) :: x.2.map bv : List Value)[j]?
  | [], i, x, _, h, _, _ => by simp at h
  | y :: l, 0, x, hl, h, j, hj => by
    simp only [List.getElem?_cons_zero, Option.some.injEq] at h
    subst h
    have hx := hl y List.mem_cons_self
    rw [wcells_cons, List.getElem?_append_left (by simp [hx]; omega)]
    simp
  | y :: l, i + 1, x, hl, h, j, hj => by
    have ih := wcells_at (l := l) (i := i) (x := x) (fun z hz => hl z (List.mem_cons_of_mem _ hz)) (by simpa using h) j hj
    have hx := hl y List.mem_cons_self
    rw [wcells_cons, List.getElem?_append_right (by simp [hx]; omega)]
    rw [show (i + 1) * 65 + j - (Value.int IntKind.i64 (y.1 : Int) :: y.2.map bv).length = i * 65 + j by simp [hx]; omega]
    exact ih
/-- The parts of a plate. -/
structure PForm (B T M : Nat) (w : World) (lv : Value) (s : PS) : Prop where
  str : w.heap[B]? = some (.cells [.int .i64 (s.safe.length : Int), .map (some T), .map (some M), lv, .int .i64 s.left, .bool s.down].toArray 87 (0, 0))
  there : MAt w T fun k => (applyL s.safe s.loose).getD k zeros
  safe : MAt w M fun k => s.safe.getD k zeros
  own : OwnN 109 65 w 0 lv s.loose.length (wcells s.loose)
  bt : B ≠ T
  bm : B ≠ M
  tm : T ≠ M
  lB : lv.ownBlock ≠ some B
  lT : lv.ownBlock ≠ some T
  lM : lv.ownBlock ≠ some M
  ok : s.Ok
/-- A plate in memory: the blocks of S. -/
def PAt (S R : Set_) (w : World) (p : Value) (s : PS) : Prop := ∃ B T M lv, p = .pointer (some ⟨B, 0, none⟩) ∧ PForm B T M w lv s ∧ (∀ k, S k ↔ (k = B ∨ k = T ∨ k = M ∨ lv.ownBlock = some k)) ∧ ∀ k, ¬ R k
theorem heap_lt {w : World} {B : Nat} {o : Obj} (h : w.heap[B]? = some o) : B < w.heap.size := (Array.getElem?_eq_some_iff.1 h).1
theorem PForm.aside {B T M : Nat} {S : Set_} {w w' : World} {lv : Value} {s : PS} (h : PForm B T M w lv s) (hb : Aside S w w') (hs : ∀ k, S k → k ≠ B ∧ k ≠ T ∧ k ≠ M ∧ lv.ownBlock ≠ some k) : PForm B T M w' lv s :=
  ⟨by rw [hb.block B (heap_lt h.str) fun hS => (hs B hS).1 rfl]; exact h.str, h.there.aside hb fun hS => (hs T hS).2.1 rfl, h.safe.aside hb fun hS => (hs M hS).2.2.1 rfl, h.own.aside hb fun k hk hS => (hs k hS).2.2.2 hk, h.bt, h.bm, h.tm, h.lB, h.lT, h.lM, h.ok⟩
theorem six_row {w : World} {R : Nat} {a b c d e f : Value} {T : TypeId} (h : w.heap[R]? = some (.cells [a, b, c, d, e, f].toArray T (0, 0))) : w.cell? ⟨R, 0, none⟩ = some a ∧ w.cell? ⟨R, 1, none⟩ = some b ∧ w.cell? ⟨R, 2, none⟩ = some c ∧ w.cell? ⟨R, 3, none⟩ = some d ∧ w.cell? ⟨R, 4, none⟩ = some e ∧ w.cell? ⟨R, 5, none⟩ = some f :=
  ⟨row_cell h 0 _ rfl, row_cell h 1 _ rfl, row_cell h 2 _ rfl, row_cell h 3 _ rfl, row_cell h 4 _ rfl, row_cell h 5 _ rfl⟩
set_option maxRecDepth 100000 in
theorem sectors_c {S R : Set_} {w : World} {p : Value} {s : PS} (h : PAt S R w p s) : Calls Tryz.prog 99 #[p] w fun e w' => e = .returned (.int .i64 (s.safe.length : Int)) ∧ Below w.heap.size w w' := by
  obtain ⟨B, T, M, lv, rfl, hf, _, _⟩ := h
  obtain ⟨k0, _⟩ := six_row hf.str
  obtain ⟨N, hN⟩ : ∃ x, s.safe.length = x := ⟨_, rfl⟩
  rw [hN] at k0 ⊢
  clear hf hN
  go_enter Tryz.func99, Tryz.ntmps99
  go_wp2
  go_ret
  exact ⟨rfl, Below.refl _ _⟩
set_option maxRecDepth 100000 in
theorem loose_c {S R : Set_} {w : World} {p : Value} {s : PS} (h : PAt S R w p s) : Calls Tryz.prog 22 #[p] w fun e w' => e = .returned (.int .i64 (s.loose.length : Int)) ∧ Below w.heap.size w w' := by
  obtain ⟨B, T, M, lv, rfl, hf, _, _⟩ := h
  obtain ⟨sp, c, rfl, _⟩ := hf.own.form
  obtain ⟨_, _, _, k3, _⟩ := six_row hf.str
  obtain ⟨N, hN⟩ : ∃ x, s.loose.length = x := ⟨_, rfl⟩
  rw [hN] at k3 ⊢
  clear hf hN
  go_enter Tryz.func22, Tryz.ntmps22
  go_wp2
  go_ret
  exact ⟨rfl, Below.refl _ _⟩
set_option maxRecDepth 100000 in
theorem has_c (w : World) (B N : Nat) (a : Int) (k0 : w.cell? ⟨B, 0, none⟩ = some (.int .i64 (N : Int))) : Calls Tryz.prog 56 #[.pointer (some ⟨B, 0, none⟩), .int .i64 a] w fun e w' => e = .returned (.bool (decide (0 ≤ a) && decide (a < (N : Int)))) ∧ w' = w := by
  by_cases h1 : 0 ≤ a
  · have d1 : decide (0 ≤ a) = true := decide_eq_true h1
    by_cases h2 : a < (N : Int)
    · have d2 : decide (a < (N : Int)) = true := decide_eq_true h2
      rw [d1, d2]
      go_enter Tryz.func56, Tryz.ntmps56
      go_wp2
      go_ret
      exact ⟨rfl, rfl⟩
    · have d2 : decide (a < (N : Int)) = false := decide_eq_false h2
      rw [d1, d2]
      go_enter Tryz.func56, Tryz.ntmps56
      go_wp2
      go_ret
      exact ⟨rfl, rfl⟩
  · have d1 : decide (0 ≤ a) = false := decide_eq_false h1
    rw [d1, Bool.false_and]
    go_enter Tryz.func56, Tryz.ntmps56
    go_wp2
    go_ret
    exact ⟨rfl, rfl⟩
/-- step, of a plate that is down. -/
def downTo (left : Int) (down : Bool) : Bool := if left = 0 then true else down
def leftTo (left : Int) (down : Bool) : Int := if down then left else if 0 < left then left - 1 else left
set_option maxRecDepth 100000 in
theorem pstep_c (w : World) (B : Nat) (n t m l : Value) (left : Int) (down : Bool) (h : w.heap[B]? = some (.cells [n, t, m, l, .int .i64 left, .bool down].toArray 87 (0, 0))) (h0 : -1 ≤ left) (h1 : left ≤ 9223372036854775807) :
    Calls Tryz.prog 106 #[.pointer (some ⟨B, 0, none⟩)] w fun e w' => e = .returned (.bool (!(downTo left down))) ∧ w'.heap[B]? = some (.cells [n, t, m, l, .int .i64 (leftTo left down), .bool (downTo left down)].toArray 87 (0, 0)) ∧ w.grownBy w' (some B) := by
  obtain ⟨_, _, _, _, k4, k5⟩ := six_row h
  have z5 := row_frozen h 5
  cases down with
  | true =>
    have e1 : downTo left true = true := by unfold downTo; split <;> rfl
    have e2 : leftTo left true = left := rfl
    rw [e1, e2]
    have hw1 := row_put h 5 (by simp) (.bool true)
    have q5 := row_cell hw1 5 (.bool true) rfl
    have HG := hide (setCell_grown (w := w) B 5 (.bool true))
    have H1 := hide hw1
    obtain ⟨w1, ew⟩ : ∃ x, w.setCell ⟨B, 5, none⟩ (.bool true) = x := ⟨_, rfl⟩
    rw [ew] at q5 H1 HG
    clear hw1 h e1 e2
    go_enter Tryz.func106, Tryz.ntmps106
    go_wp2
    go_ret
    exact ⟨rfl, unhide H1, unhide HG⟩
  | false =>
    by_cases hl : left = 0
    · subst hl
      have e1 : downTo 0 false = true := rfl
      have e2 : leftTo 0 false = 0 := rfl
      rw [e1, e2]
      have hw1 := row_put h 5 (by simp) (.bool true)
      have q5 := row_cell hw1 5 (.bool true) rfl
      have HG := hide (setCell_grown (w := w) B 5 (.bool true))
      have H1 := hide hw1
      obtain ⟨w1, ew⟩ : ∃ x, w.setCell ⟨B, 5, none⟩ (.bool true) = x := ⟨_, rfl⟩
      rw [ew] at q5 H1 HG
      clear hw1 h e1 e2
      go_enter Tryz.func106, Tryz.ntmps106
      go_wp2
      go_ret
      exact ⟨rfl, unhide H1, unhide HG⟩
    · have e1 : downTo left false = false := by unfold downTo; rw [if_neg hl]
      have b1 : (left == 0) = false := by simpa using hl
      have hw1 := row_put h 5 (by simp) (.bool false)
      have q5 := row_cell hw1 5 (.bool false) rfl
      have q4 := row_cell hw1 4 (.int .i64 left) rfl
      have y4 := row_frozen hw1 4
      have hg1 := setCell_grown (w := w) B 5 (.bool false)
      obtain ⟨w1, ew⟩ : ∃ x, w.setCell ⟨B, 5, none⟩ (.bool false) = x := ⟨_, rfl⟩
      rw [ew] at q5 hw1 hg1 q4 y4
      rw [e1]
      by_cases hp : 0 < left
      · have e2 : leftTo left false = left - 1 := by unfold leftTo; rw [if_neg (by simp), if_pos hp]
        have d1 : decide (0 < left) = true := decide_eq_true hp
        have hwr : IntKind.i64.wrap (left - 1) = left - 1 := IntWalk.i64_in _ (by omega)
        have hw2 := row_put hw1 4 (by simp) (.int .i64 (left - 1))
        have r5 := row_cell hw2 5 (.bool false) rfl
        have HG := hide (grown_trans hg1 (setCell_grown (w := w1) B 4 (.int .i64 (left - 1))))
        have H1 := hide hw2
        obtain ⟨w2, ew2⟩ : ∃ x, w1.setCell ⟨B, 4, none⟩ (.int .i64 (left - 1)) = x := ⟨_, rfl⟩
        rw [ew2] at r5 H1 HG
        rw [e2]
        clear hw1 hw2 h e1 e2 hg1 hl
        go_enter Tryz.func106, Tryz.ntmps106
        go_wp2
        go_ret
        exact ⟨rfl, unhide H1, unhide HG⟩
      · have e2 : leftTo left false = left := by unfold leftTo; rw [if_neg (by simp), if_neg hp]
        have d1 : decide (0 < left) = false := decide_eq_false hp
        have HG := hide hg1
        have H1 := hide hw1
        rw [e2]
        clear hw1 h e1 e2 hg1 hl
        go_enter Tryz.func106, Tryz.ntmps106
        go_wp2
        go_ret
        exact ⟨rfl, unhide H1, unhide HG⟩
/-- Another head, all else as it was. -/
theorem PForm.head {B T M : Nat} {w w' : World} {lv : Value} {s : PS} (h : PForm B T M w lv s) (hg : w.grownBy w' (some B)) (L : Int) (d : Bool) (hok : (⟨s.safe, s.loose, L, d⟩ : PS).Ok)
    (hs : w'.heap[B]? = some (.cells [.int .i64 (s.safe.length : Int), .map (some T), .map (some M), lv, .int .i64 L, .bool d].toArray 87 (0, 0))) : PForm B T M w' lv ⟨s.safe, s.loose, L, d⟩ := by
  have hb : Aside (fun k => k = B) w w' := Aside.of_grown hg fun k hk => (Option.some.inj hk).symm
  exact ⟨hs, h.there.aside hb fun e => h.bt e.symm, h.safe.aside hb fun e => h.bm e.symm, h.own.aside hb fun k hk e => h.lB (e ▸ hk), h.bt, h.bm, h.tm, h.lB, h.lT, h.lM, hok⟩
set_option maxRecDepth 100000 in
theorem arm_c {S R : Set_} {w : World} {p : Value} {s : PS} (n : Int) (h : PAt S R w p s) (hn1 : -9223372036854775808 ≤ n) (hn2 : n ≤ 9223372036854775807) :
    Calls Tryz.prog 23 #[p, .int .i64 n] w fun e w' => e = .returned (.tuple #[]) ∧ ∃ S' R', PAt S' R' w' p (armS s n) ∧ (∀ k, S' k → S k ∨ w.heap.size ≤ k) ∧ (∀ k, R' k → R k ∨ w.heap.size ≤ k) ∧ Aside S w w' := by
  obtain ⟨B, T, M, lv, rfl, hf, hS, hR⟩ := h
  obtain ⟨_, _, _, _, k4, _⟩ := six_row hf.str
  have z4 := row_frozen hf.str 4
  have HW : Hid (∃ S' R', PAt S' R' (w.setCell ⟨B, 4, none⟩ (.int .i64 (max n (-1)))) (.pointer (some ⟨B, 0, none⟩)) (armS s n) ∧ (∀ k, S' k → S k ∨ w.heap.size ≤ k) ∧ (∀ k, R' k → R k ∨ w.heap.size ≤ k) ∧ Aside S w (w.setCell ⟨B, 4, none⟩ (.int .i64 (max n (-1))))) :=
    ⟨S, R, ⟨B, T, M, lv, rfl, hf.head (setCell_grown B 4 _) (max n (-1)) s.down (hf.ok.arm hn2) (row_put hf.str 4 (by simp) _), hS, hR⟩, fun k hk => Or.inl hk, fun k hk => Or.inl hk, Aside.of_grown (setCell_grown B 4 _) fun k hk => (hS k).2 (Or.inl (Option.some.inj hk).symm)⟩
  clear hf hS hR
  by_cases hn : n < -1
  · have e : max n (-1) = -1 := by omega
    rw [e] at HW
    have d1 : decide (n < -1) = true := decide_eq_true hn
    have d2 : decide (n ≤ -1) = true := decide_eq_true (by omega)
    obtain ⟨w1, hw1⟩ : ∃ x, w.setCell ⟨B, 4, none⟩ (.int .i64 (-1)) = x := ⟨_, rfl⟩
    rw [hw1] at HW
    go_enter Tryz.func23, Tryz.ntmps23
    go_wp2
    (try simp only [Exit.inBlock, Exit.then])
    refine bodyPost_end (results_none rfl _ _ _) rfl ?_
    exact ⟨rfl, unhide HW⟩
  · have e : max n (-1) = n := by omega
    rw [e] at HW
    have d1 : decide (n < -1) = false := decide_eq_false hn
    have d2 : decide (-1 ≤ n) = true := decide_eq_true (by omega)
    obtain ⟨w1, hw1⟩ : ∃ x, w.setCell ⟨B, 4, none⟩ (.int .i64 n) = x := ⟨_, rfl⟩
    rw [hw1] at HW
    go_enter Tryz.func23, Tryz.ntmps23
    go_wp2
    (try simp only [Exit.inBlock, Exit.then])
    refine bodyPost_end (results_none rfl _ _ _) rfl ?_
    exact ⟨rfl, unhide HW⟩
end Go.Proofs.YtbjgknoipbekoaaGreat
namespace Go.Proofs.YtbjgknoipbekoaaGreat
open Go.RowKit
set_option maxRecDepth 100000 in
theorem new_no (w : World) (n : Int) (h : n < 8 ∨ 16384 < n) : Calls Tryz.prog 9 #[.int .i64 n] w fun e w' => e = .returned (.pointer none) ∧ Below w.heap.size w w' := by
  by_cases h1 : n < 8
  · have d1 : decide (n < 8) = true := decide_eq_true h1
    go_enter Tryz.func9, Tryz.ntmps9
    go_wp2
    go_ret
    exact ⟨rfl, Below.refl _ _⟩
  · have d1 : decide (n < 8) = false := decide_eq_false h1
    have h2 : 16384 < n := by omega
    have d2 : decide (16384 < n) = true := decide_eq_true h2
    go_enter Tryz.func9, Tryz.ntmps9
    go_wp2
    go_ret
    exact ⟨rfl, Below.refl _ _⟩
theorem getD_zeros (n k : Nat) : (List.replicate n zeros).getD k zeros = zeros := by
  rw [List.getD_eq_getElem?_getD, List.getElem?_replicate]
  split <;> rfl
set_option maxRecDepth 100000 in
set_option maxHeartbeats 4000000 in
theorem new_yes (w : World) (n : Nat) (h1 : 8 ≤ n) (h2 : n ≤ 16384) : Calls Tryz.prog 9 #[.int .i64 (n : Int)] w fun e w' => ∃ p, e = .returned p ∧ ∃ S R, PAt S R w' p (newS n) ∧ (∀ k, S k ∨ R k → w.heap.size ≤ k) ∧ Below w.heap.size w w' := by
  have d1 : decide ((n : Int) < 8) = false := decide_eq_false (by omega)
  have d2 : decide (16384 < (n : Int)) = false := decide_eq_false (by omega)
  have e1 : ¬ (n : Int) < 8 := by omega
  have e2 : ¬ 16384 < (n : Int) := by omega
  have hmm := @run_makeMap Tryz.prog
  have m1 := MAt.made w
  have s1 : (w.alloc (.map #[] 0)).heap.size = w.heap.size + 1 := by simp
  have b1 : Below w.heap.size w (w.alloc (.map #[] 0)) := (Below.refl _ _).alloc (Nat.le_refl _) _
  obtain ⟨w1, hw1⟩ : ∃ x, w.alloc (.map #[] 0) = x := ⟨_, rfl⟩
  rw [hw1] at m1 s1 b1
  have m2 := MAt.made w1
  have b2 : Below w1.heap.size w1 (w1.alloc (.map #[] 0)) := (Below.refl _ _).alloc (Nat.le_refl _) _
  have s2 : (w1.alloc (.map #[] 0)).heap.size = w.heap.size + 1 + 1 := by simp [s1]
  obtain ⟨w2, hw2⟩ : ∃ x, w1.alloc (.map #[] 0) = x := ⟨_, rfl⟩
  rw [hw2] at m2 s2 b2
  have hA := heap_alloc_new w2 (.cells [.int .i64 (n : Int), .map (some w.heap.size), .map (some (w.heap.size + 1)), .slice none 0 0, .int .i64 (-1), .bool false].toArray 87)
  have b3 : Below w2.heap.size w2 (w2.alloc (.cells [.int .i64 (n : Int), .map (some w.heap.size), .map (some (w.heap.size + 1)), .slice none 0 0, .int .i64 (-1), .bool false].toArray 87)) := (Below.refl _ _).alloc (Nat.le_refl _) _
  obtain ⟨w3, hw3⟩ : ∃ x, w2.alloc (.cells [.int .i64 (n : Int), .map (some w.heap.size), .map (some (w.heap.size + 1)), .slice none 0 0, .int .i64 (-1), .bool false].toArray 87) = x := ⟨_, rfl⟩
  rw [hw3] at hA b3
  have HW : Hid (∃ S R, PAt S R w3 (.pointer (some ⟨w2.heap.size, 0, none⟩)) (newS n) ∧ (∀ k, S k ∨ R k → w.heap.size ≤ k) ∧ Below w.heap.size w w3) := by
    rw [s1] at m2
    have hlen : (List.replicate n zeros).length = n := List.length_replicate
    refine ⟨fun k => k = w2.heap.size ∨ k = w.heap.size ∨ k = w.heap.size + 1 ∨ (Value.slice none 0 0).ownBlock = some k, none_, ⟨w2.heap.size, w.heap.size, w.heap.size + 1, .slice none 0 0, rfl, ⟨?_, ?_, ?_, ownn_nil _ _ _ _, by omega, by omega, by omega, by simp [Value.ownBlock], by simp [Value.ownBlock], by simp [Value.ownBlock], ok_new h2⟩, fun k => Iff.rfl, fun k h => h⟩, ?_, ?_⟩
    · show w3.heap[w2.heap.size]? = some (Obj.cells [.int .i64 ((List.replicate n zeros).length : Int), _, _, _, _, _].toArray _ _)
      rw [hlen]; exact hA
    · exact ((m1.below b2).below b3).congr fun k => (getD_zeros n k).symm
    · exact (m2.below b3).congr fun k => (getD_zeros n k).symm
    · rintro k ((h | h | h | h) | h)
      · omega
      · omega
      · omega
      · simp [Value.ownBlock] at h
      · exact h.elim
    · exact (b1.trans (b2.mono (by omega))).trans (b3.mono (by omega))
  rw [s2] at HW
  clear m1 m2 b1 b2 b3 hA h1
  go_enter Tryz.func9, Tryz.ntmps9
  go_wp2
  go_ret
  exact ⟨_, rfl, unhide HW⟩
theorem own_any {w : World} {O base : Nat} {b : Bs} {T : TypeId} (h : w.heap[O]? = some (.cells (b.map bv).toArray T (0, 0))) (hO : base ≤ O) (hb : b.length = 64) : OwnA w base (.slice (some ⟨O, 0, none⟩) 64 64) b :=
  ⟨T, by simp, Or.inr ⟨O, 64, (b.map bv).toArray, by simp [hb], hO, h, by simp [hb], by simp [maxLen], by simp [hb], by simp [hb, List.take_of_length_le]⟩⟩
set_option maxRecDepth 100000 in
set_option maxHeartbeats 4000000 in
theorem read_c {S R : Set_} {w : World} {p : Value} {s : PS} (a : Int) (h : PAt S R w p s) :
    Calls Tryz.prog 28 #[p, .int .i64 a] w fun e w' => ∃ v, e = .returned (.tuple #[v, .int .i64 (readE s a)]) ∧ OwnA w' w.heap.size v (readB s a) ∧ Below w.heap.size w w' := by
  obtain ⟨B, T, M, lv, rfl, hf, _, _⟩ := h
  obtain ⟨k0, k1, _, _, _, k5⟩ := six_row hf.str
  obtain ⟨N, hN⟩ : ∃ x, s.safe.length = x := ⟨_, rfl⟩
  rw [hN] at k0
  cases hd : s.down with
  | true =>
    rw [hd] at k5
    have e1 : readE s a = 50 := by unfold readE; rw [hd]; rfl
    have e2 : readB s a = [] := by unfold readB; rw [hd]; rfl
    rw [e1, e2]
    clear hf hd e1 e2 hN
    go_enter Tryz.func28, Tryz.ntmps28
    go_wp2
    go_ret2
    exact ⟨_, rfl, (ownb_nil _ _).any, Below.refl _ _⟩
  | false =>
    rw [hd] at k5
    have Hh := hide (has_c w B N a k0)
    have hra : rightAt s a = (decide (0 ≤ a) && decide (a < (N : Int))) := by unfold rightAt; rw [hN]
    cases hr : (decide (0 ≤ a) && decide (a < (N : Int))) with
    | false =>
      have e1 : readE s a = 51 := by unfold readE; rw [hd, hra, hr]; rfl
      have e2 : readB s a = [] := by unfold readB; rw [hd, hra, hr]; rfl
      rw [e1, e2]
      rw [hr] at Hh
      clear hf hd e1 e2 hN hra hr
      go_enter Tryz.func28, Tryz.ntmps28
      go_wp2_with fail
      refine (unhide Hh).mono ?_
      rintro e w1 ⟨rfl, rfl⟩
      go_wp2
      go_ret2
      exact ⟨_, rfl, (ownb_nil _ _).any, Below.refl _ _⟩
    | true =>
      have e1 : readE s a = 0 := by unfold readE; rw [hd, hra, hr]; rfl
      have e2 : readB s a = (applyL s.safe s.loose).getD a.toNat zeros := by
        unfold readB; rw [hd, hra, hr]
        simp only [Bool.false_eq_true, if_false, Bool.not_true]
        have hlt : a.toNat < (applyL s.safe s.loose).length := by
          rw [apply_len, hN]
          simp only [Bool.and_eq_true, decide_eq_true_eq] at hr
          omega
        rw [List.getD_eq_getElem?_getD, List.getD_eq_getElem?_getD, List.getElem?_eq_getElem hlt, Option.getD_some, Option.getD_some]
      obtain ⟨n, hn⟩ : ∃ n : Nat, a = (n : Int) := ⟨a.toNat, by simp only [Bool.and_eq_true, decide_eq_true_eq] at hr; omega⟩
      subst hn
      rw [Int.toNat_natCast] at e2
      have hlk := hf.there.look n
      have hbl := hf.there.len n
      rw [e1, e2]
      rw [hr] at Hh
      obtain ⟨b, hb⟩ : ∃ x, (applyL s.safe s.loose).getD n zeros = x := ⟨_, rfl⟩
      rw [hb] at hlk hbl ⊢
      unfold sv at hlk
      have hX : (b.map bv).toArray.size = 64 := by simp [hbl]
      have h1 := all_oneCell_toArray (one_bytes b)
      have Hend : Hid (∀ Z : Array Value, OwnA ((w.alloc (.cells Z 107)).setRow w.heap.size (b.map bv).toArray) w.heap.size (.slice (some ⟨w.heap.size, 0, none⟩) 64 64) b ∧ Below w.heap.size w ((w.alloc (.cells Z 107)).setRow w.heap.size (b.map bv).toArray)) := fun Z =>
        ⟨own_any (setRow_heap _ _ _ _ _ _ (heap_alloc_new w (.cells Z 107))) (Nat.le_refl _) hbl, below_setRow ((Below.refl _ _).alloc (Nat.le_refl _) _) (Nat.le_refl _) _⟩
      obtain ⟨X, hXX⟩ : ∃ x, (b.map bv).toArray = x := ⟨_, rfl⟩
      rw [hXX] at hlk hX h1 Hend
      clear hf hd e1 e2 hN hra hr hb hbl hXX
      go_enter Tryz.func28, Tryz.ntmps28
      go_wp2_with fail
      refine (unhide Hh).mono ?_
      rintro e w1 ⟨rfl, hw⟩
      have := hw.symm
      subst this
      clear Hh
      go_wp2_with (refine wpList_store_row rfl 107 _ _ rfl w.heap.size X rfl rfl 107 _ (heap_alloc_new _ _) (by rw [hX]; exact size_sector) (by rw [hX]; rfl) h1 ?_)
      go_ret2
      exact ⟨_, rfl, unhide Hend _⟩
end Go.Proofs.YtbjgknoipbekoaaGreat
namespace Go.Proofs.YtbjgknoipbekoaaGreat
open Go.RowKit
/-- The cells of one write. -/
def wone (n : Nat) (b : Bs) : List Value := .int .i64 (n : Int) :: b.map bv
theorem wone_len {n : Nat} {b : Bs} (h : b.length = 64) : (wone n b).length = 65 := by unfold wone; simp [h]
theorem wone_one (n : Nat) (b : Bs) : ∀ u ∈ wone n b, u.oneCell' = true := by
  intro u hu
  rcases List.mem_cons.1 hu with rfl | h
  · rfl
  · exact one_bytes b u h
theorem info_w : (Tryz.prog.info? 109).map (fun i => (i.zero, i.size)) = some (some (.agg (wone 0 zeros).toArray), 65) := by kernel_rfl
theorem size_w : (Tryz.prog.info? 109).map (·.size) = some 65 := by kernel_rfl
set_option maxRecDepth 100000 in
theorem built_w (n : Nat) (b : Bs) (hb : b.length = 64) : Tryz.prog.built 109 [(0, .int .i64 (n : Int)), (1, .agg (b.map bv).toArray)] = some (wone n b).toArray := by
  obtain ⟨f, hf1, hf2⟩ : ∃ f : Nat → Option (Nat × Nat), (∀ ps, Tryz.prog.built 109 ps = Instr.fill f (wone 0 zeros).toArray ps) ∧ f 0 = some (0, 1) ∧ f 1 = some (1, 64) := ⟨(#[(0, 1), (1, 64)][·]?), fun ps => rfl, rfl, rfl⟩
  rw [hf1]
  have e0 : (Value.int .i64 (n : Int)).cells = #[.int .i64 (n : Int)] := rfl
  have e1 : (Value.agg (b.map bv).toArray).cells = (b.map bv).toArray := rfl
  have hz : (wone 0 zeros).toArray.size = 65 := by simp [wone_len zeros_len]
  unfold Instr.fill
  rw [hf2.1]
  simp only [e0]
  rw [if_neg (by simp [hz])]
  unfold Instr.fill
  rw [hf2.2]
  simp only [e1]
  rw [if_neg (by simp [hb, wone_len zeros_len])]
  unfold Instr.fill
  congr 1
  apply Array.ext_getElem?
  intro k
  have h2 := (Great.foldl_set 1 (b.map bv) 0 ((wone 0 zeros).toArray.setIfInBounds 0 (.int .i64 (n : Int)))).2 k
  have e2 : Array.foldl (fun cs (x : Value × Nat) => cs.setIfInBounds (1 + x.2) x.1) (Array.foldl (fun cs (x : Value × Nat) => cs.setIfInBounds (0 + x.2) x.1) (wone 0 zeros).toArray (#[Value.int IntKind.i64 (n : Int)].zipIdx)) ((b.map bv).toArray.zipIdx) = List.foldl (fun cs (x : Value × Nat) => cs.setIfInBounds (1 + x.2) x.1) ((wone 0 zeros).toArray.setIfInBounds 0 (.int .i64 (n : Int))) ((b.map bv).zipIdx 0) := by
    simp
  refine (congrArg (fun a : Array Value => a[k]?) e2).trans (h2.trans ?_)
  simp only [Array.size_setIfInBounds, hz, List.length_map, hb, List.getElem?_toArray]
  by_cases h0 : k = 0
  · subst h0
    rw [if_neg (by omega)]
    simp [wone]
  · by_cases hk : k < 65
    · rw [if_pos (by omega)]
      unfold wone
      obtain ⟨j, rfl⟩ : ∃ j, k = j + 1 := ⟨k - 1, by omega⟩
      simp
    · rw [if_neg (by omega)]
      have h1 : (wone n b)[k]? = none := List.getElem?_eq_none (by rw [wone_len hb]; omega)
      rw [h1]
      exact Array.getElem?_eq_none (by rw [Array.size_setIfInBounds, hz]; omega)
theorem ElW : ElemN Tryz.prog 85 109 (.agg (wone 0 zeros).toArray) 65 72 := elemN_of Tryz.underlying85 (by kernel_rfl) (by simp [Value.cells, wone_len zeros_len]) (by omega) (by omega) (by omega)
theorem fill_one (X : Array Value) (hX : X.size = 65) (c : Array Value) (hc : c.size = 65) : Instr.fill (fun i => some (i * 65, 65)) c [(0, .agg X)] = some X := by
  have e1 : (Value.agg X).cells = X := rfl
  unfold Instr.fill
  dsimp only
  rw [e1, if_neg (by simp [hX, hc])]
  unfold Instr.fill
  congr 1
  apply Array.ext_getElem?
  intro k
  have h2 := (Great.foldl_set 0 X.toList 0 c).2 k
  have e2 : Array.foldl (fun cs (x : Value × Nat) => cs.setIfInBounds (0 * 65 + x.2) x.1) c X.zipIdx = List.foldl (fun cs (x : Value × Nat) => cs.setIfInBounds (0 + x.2) x.1) c (X.toList.zipIdx 0) := by
    rw [← Array.foldl_toList]
    simp
  refine (congrArg (fun a : Array Value => a[k]?) e2).trans (h2.trans ?_)
  by_cases hk : k < 65
  · rw [if_pos (by simp; omega)]; simp
  · rw [if_neg (by simp; omega), Array.getElem?_eq_none (by omega), Array.getElem?_eq_none (by omega)]
/-- A slice of one write. -/
theorem run_slice_w (w : World) (X : Array Value) (hX : X.size = 65) : (Instr.buildSlice 85 1 #[(0, .agg X)]).run Tryz.prog w = .ok (.slice (some ⟨w.heap.size, 0, none⟩) 1 1) (w.alloc (.cells X 109)) := by
  obtain ⟨i, hi, hz, hs, _⟩ := ElW.info
  refine run_buildSlice w 85 109 1 _ X i _ Tryz.underlying85 hi hz (by rw [hs]; decide) (by rw [hs]; decide) ?_
  rw [hs]
  exact fill_one X hX _ (by simp)
end Go.Proofs.YtbjgknoipbekoaaGreat
