/-
  Worlds that differ in some blocks alone; blocks of a call's own.
-/
import Derived.Test.YtbblhogdfdpipaaProg
import Derived.Test.YtbblhogdfdpipaaVals
import Derived.Deep.RegionHeld3
import Derived.BigRegion
import Derived.Deep.RegionWith
import Derived.Deep.RegionLaw
import Derived.Deep.Cut
import Derived.Laws.BitsAllLaws
import Derived.Laws.Runes
namespace Go.Proofs.Ytbblhogdfdpipaa
open Go.RowKit
/-- All blocks but those of S are as they were. -/
structure Aside (S : Nat → Prop) (w w' : World) : Prop where
  os : w'.os = w.os
  tape : w'.tape = w.tape
  output : w'.output = w.output
  size : w.heap.size ≤ w'.heap.size
  block : ∀ k, k < w.heap.size → ¬ S k → w'.heap[k]? = w.heap[k]?
abbrev Set_ := Nat → Prop
def none_ : Set_ := fun _ => False
/-- The blocks that have come since. -/
def grownSet (S : Set_) (a b : World) : Set_ := fun k => S k ∨ (a.heap.size ≤ k ∧ k < b.heap.size)
theorem Aside.refl (S : Set_) (w : World) : Aside S w w := ⟨rfl, rfl, rfl, Nat.le_refl _, fun _ _ _ => rfl⟩
theorem Aside.mono {S T : Set_} {a b : World} (h : Aside S a b) (hs : ∀ k, k < a.heap.size → S k → T k) : Aside T a b := ⟨h.os, h.tape, h.output, h.size, fun k hk hn => h.block k hk fun hS => hn (hs k hk hS)⟩
theorem Aside.trans {S T : Set_} {a b c : World} (h : Aside S a b) (k : Aside T b c) (hT : ∀ i, i < a.heap.size → T i → S i) : Aside S a c :=
  ⟨k.os.trans h.os, k.tape.trans h.tape, k.output.trans h.output, Nat.le_trans h.size k.size, fun i hi hn => (k.block i (Nat.lt_of_lt_of_le hi h.size) fun hc => hn (hT i hi hc)).trans (h.block i hi hn)⟩
theorem Aside.drew {S : Set_} {a b : World} (h : Aside S a b) : Aside S a b.drew := ⟨h.os, h.tape, h.output, h.size, h.block⟩
theorem Aside.of_below {S : Set_} {a b : World} (h : Below a.heap.size a b) : Aside S a b := ⟨h.os, h.tape, h.output, h.size, fun k hk _ => h.block k hk⟩
theorem Aside.of_grown {S : Set_} {a b : World} {row : Option Nat} (h : a.grownBy b row) (hr : ∀ k, row = some k → S k) : Aside S a b := ⟨h.os, h.tape, h.output, h.size, fun k hk hn => h.block k hk fun e => hn (hr k e.symm)⟩
theorem Aside.below {S : Set_} {a b : World} {B : Nat} (h : Aside S a b) (hB : B ≤ a.heap.size) (hs : ∀ k, S k → B ≤ k) : Below B a b := ⟨h.os, h.tape, h.output, h.size, fun k hk => h.block k (by omega) fun hS => by have := hs k hS; omega⟩
theorem Aside.alloc {S : Set_} {a b : World} (h : Aside S a b) (o : Obj) : Aside S a (b.alloc o) := h.trans (T := S) (Aside.of_below ((Below.refl _ _).alloc (Nat.le_refl _) _)) (fun _ _ h => h)
theorem Aside.setCell {S : Set_} {a b : World} (h : Aside S a b) (x : Addr) (v : Value) (hx : a.heap.size ≤ x.block ∨ S x.block) : Aside S a (b.setCell x v) := by
  refine ⟨h.os, h.tape, h.output, by rw [World.size_setCell]; exact h.size, fun k hk hn => ?_⟩
  have hne : k ≠ x.block := by
    intro e
    rcases hx with hx | hx
    · omega
    · exact hn (e ▸ hx)
  rw [heap_setCell_other _ _ _ _ hne]
  exact h.block k hk hn
theorem ValsAt.aside {S : Set_} {a b : World} {x : Value} {cs : List Value} (h : ValsAt a x cs) (hb : Aside S a b) (hx : ∀ k, x.ownBlock = some k → ¬ S k) : ValsAt b x cs := by
  obtain ⟨sp, c, rfl, h1, h2, h3⟩ := h
  refine ⟨sp, c, rfl, h1, h2, fun hl => ?_⟩
  obtain ⟨bb, o, rfl, hr⟩ := h3 hl
  refine ⟨bb, o, rfl, fun j v hv => ?_⟩
  have h0 := hr j v hv
  rw [World.cell?_of_block (hb.block bb (World.block_lt_of_cell? a _ h0) (hx bb (by simp [Value.ownBlock])))]; exact h0
theorem ValsAt.beside {S : Set_} {a b : World} {x : Value} {cs : List Value} (h : ValsAt a x cs) (hb : Aside S a b) (hx : cs ≠ [] → ∀ k, x.ownBlock = some k → ¬ S k) : ValsAt b x cs := by
  by_cases hne : cs = []
  · obtain ⟨sp, c, rfl, h1, h2, _⟩ := h
    exact ⟨sp, c, rfl, h1, h2, fun hl => absurd hne hl⟩
  · exact h.aside hb (hx hne)
theorem OwnV.aside {S : Set_} {e : TypeId} {a b : World} {B : Nat} {v : Value} {cs : List Value} (h : OwnV e a B v cs) (hb : Aside S a b) (hx : ∀ k, v.ownBlock = some k → ¬ S k) : OwnV e b B v cs := by
  obtain ⟨h1, h2⟩ := h
  refine ⟨h1, ?_⟩
  rcases h2 with h2 | ⟨n, cap, cur, hv, hn, hh, r⟩
  · exact Or.inl h2
  · exact Or.inr ⟨n, cap, cur, hv, hn, by rw [hb.block _ (Array.getElem?_eq_some_iff.1 hh).1 (hx n (by rw [hv]; rfl))]; exact hh, r⟩
theorem cell_aside {S : Set_} {a b : World} {A k : Nat} {v : Value} (h : a.cell? ⟨A, k, none⟩ = some v) (hb : Aside S a b) (hA : ¬ S A) : b.cell? ⟨A, k, none⟩ = some v := by
  rw [World.cell?_of_block (hb.block A (World.block_lt_of_cell? a _ h) hA)]; exact h
/-- THE ENDS OF A REGION BROUGHT TO ONE: F says how it ends, whatever the order. -/
theorem region_join {P : Program} {id : Nat} {ops : Array Oper} {b : Bool} {Q : Exit → Act → World → Prop} {a : Act} {w : World} (F : Act → Act → World → Prop) (h1 : ∀ Q0 : Exit → Act → World → Prop, (∀ a' w', F a a' w' → Q0 .normal a' w') → (Code.region id ops b).wp P Q0 a w) (h2 : ∀ a' w', F a a' w' → Q .normal a' w') : (Code.region id ops b).wp P Q a w :=
  Code.wp_mono (fun e a' w' (h : e = .normal ∧ F a a' w') => by obtain ⟨rfl, h⟩ := h; exact h2 a' w' h) (h1 (fun e a' w' => e = .normal ∧ F a a' w') fun a' w' h => ⟨rfl, h⟩)
end Go.Proofs.Ytbblhogdfdpipaa
