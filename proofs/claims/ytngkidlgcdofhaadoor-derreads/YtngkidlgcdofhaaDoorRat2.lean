/-
  The reader of the reference: what turns it, and what doesn't.
-/
import Derived.Test.YtngkidlgcdofhaaDoorRat9
import Derived.Test.YtngkidlgcdofhaaDoorSix9
import Derived.Test.YtngkidlgcdofhaaDoorMade9
namespace Go.Proofs.YtngkidlgcdofhaaDoor
open Go.RowKit
theorem RAt.lt {w : World} {K : Nat} {sb : Option Addr} {cb : Nat} {b : Bs} {s en : Nat} (h : RAt w K sb cb b s en) : K < w.heap.size := (Array.getElem?_eq_some_iff.1 h.row).1
theorem RAt.below {a b' : World} {K : Nat} {sb : Option Addr} {cb : Nat} {b : Bs} {s en : Nat} (h : RAt a K sb cb b s en) (hb : Below a.heap.size a b') : RAt b' K sb cb b s en :=
  ⟨by rw [hb.block K h.lt]; exact h.row, h.bytes.below hb, h.apart, h.le, h.fit, h.small⟩
/-- Writing into a block that is neither the reader's nor its bytes'. -/
theorem RAt.kept {a b' : World} {g K : Nat} {sb : Option Addr} {cb : Nat} {b : Bs} {s en : Nat} (h : RAt a K sb cb b s en) (hg : a.grownBy b' (some g)) (hK : K ≠ g) (hne : b ≠ [] → ∀ x, sb = some x → x.block ≠ g) : RAt b' K sb cb b s en := by
  refine ⟨by rw [hg.block K h.lt (fun e => hK (Option.some.inj e))]; exact h.row, ?_, h.apart, h.le, h.fit, h.small⟩
  by_cases hb : b = []
  · subst hb
    obtain ⟨sp, c, e, g1, g2, _⟩ := h.bytes
    exact ⟨sp, c, e, g1, g2, fun hn => absurd rfl hn⟩
  · refine ValsAt.grown h.bytes hg (fun e => ?_)
    cases sb with
    | none => cases e
    | some x => simp only [Value.ownBlock, Option.some.injEq] at e; exact hne hb x rfl e
/-- The bytes lie in memory that is there. -/
theorem RAt.old {w : World} {K : Nat} {sb : Option Addr} {cb : Nat} {b : Bs} {s en : Nat} (h : RAt w K sb cb b s en) (hb : b ≠ []) (x : Addr) (hx : sb = some x) : x.block < w.heap.size :=
  ValsAt.old h.bytes (by simpa using hb) x.block (by rw [hx]; rfl)
/-- New blocks turn nothing that was there. -/
theorem grown_alloc {a b : World} {row : Option Nat} (h : a.grownBy b row) (o : Obj) : a.grownBy (b.alloc o) row := grown_below h ((Below.refl _ _).alloc (Nat.le_refl _) _)
/-- Writing into a block that came later. -/
theorem grown_new {a b c : World} {row : Option Nat} {g : Nat} (h : a.grownBy b row) (k : b.grownBy c (some g)) (hg : a.heap.size ≤ g) : a.grownBy c row :=
  ⟨k.os.trans h.os, k.tape.trans h.tape, k.output.trans h.output, Nat.le_trans h.size k.size, fun i hi hne => (k.block i (Nat.lt_of_lt_of_le hi h.size) (fun e => by have := Option.some.inj e; omega)).trans (h.block i hi hne)⟩
/-- The value of an error: five noughts. -/
def dzero : Array Value := #[.int .i64 0, .int .i64 0, .bool false, .slice none 0 0, .slice none 0 0]
/-- An ending of tag or value: the result's block is written, the reader stays. -/
theorem rat_end {w W : World} {K A : Nat} {sb : Option Addr} {cb : Nat} {b : Bs} {s s' en : Nat} {t : TypeId} (cs old : Array Value) (h0 : RAt w K sb cb b s en) (h : RAt W K sb cb b s' en) (hg : w.grownBy W (some K)) (hA : w.heap.size = A) (hrow : W.heap[A]? = some (.cells old t (0, 0))) :
    RAt (W.setRow A cs) K sb cb b s' en ∧ w.grownBy (W.setRow A cs) (some K) ∧ (W.setRow A cs).heap[A]? = some (.cells cs t (0, 0)) := by
  have hgr := grown_setRow W A cs
  refine ⟨h.kept hgr (by have := h0.lt; omega) (fun hb x hx => by have := h0.old hb x hx; omega), grown_new hg hgr (by omega), setRow_heap W A old cs t (0, 0) hrow⟩
end Go.Proofs.YtngkidlgcdofhaaDoor
