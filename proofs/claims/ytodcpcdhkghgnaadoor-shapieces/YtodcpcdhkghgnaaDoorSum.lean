/-
  The walk of Sum: the sum of a message, in new memory; nothing that was there has turned.
-/
import Derived.Test.YtodcpcdhkghgnaaDoorObj
namespace Go.Proofs.YtodcpcdhkghgnaaDoor
open Go.RowKit
/-- The sum of a message. -/
def shaOf (l : List UInt8) : List UInt8 := digest (feed hs0 l)
/-- The two tables lie where the program lays them. -/
def Ready (w : World) : Prop := StartAt w ∧ TabAt w
theorem Ready.lt {w : World} (h : Ready w) : 1 < w.heap.size := by
  obtain ⟨tk, fr, hf⟩ := h.2
  exact (Array.getElem?_eq_some_iff.1 hf).1
theorem Ready.below {a b : World} (h : Ready a) (hb : Below a.heap.size a b) : Ready b := by
  refine ⟨?_, h.2.below hb⟩
  obtain ⟨tk, fr, hf⟩ := h.1
  exact ⟨tk, fr, by rw [hb.block 0 (Array.getElem?_eq_some_iff.1 hf).1]; exact hf⟩
theorem Ready.grown {a b : World} {g : Nat} (h : Ready a) (hb : a.grownBy b (some g)) (hg : 1 < g) : Ready b := by
  refine ⟨?_, tab_grown h.2 hb (by omega)⟩
  obtain ⟨tk, fr, hf⟩ := h.1
  exact ⟨tk, fr, by rw [hb.block 0 (Array.getElem?_eq_some_iff.1 hf).1 (by simp; omega)]; exact hf⟩
theorem BytesAt.old {w : World} {x : Value} {l : List UInt8} (h : BytesAt w x l) (hl : l ≠ []) (k : Nat) (hk : x.ownBlock = some k) : k < w.heap.size := by
  obtain ⟨sp, c, rfl, _, _, h3⟩ := h
  obtain ⟨b, o, rfl, hr⟩ := h3 hl
  simp [Value.ownBlock] at hk
  subst hk
  obtain ⟨u, r, rfl⟩ : ∃ u r, l = u :: r := by cases l with | nil => exact absurd rfl hl | cons u r => exact ⟨u, r, rfl⟩
  exact World.block_lt_of_cell? w _ (hr 0 (bv u) rfl)
theorem OwnB.mono {w : World} {B B' : Nat} {v : Value} {l : List UInt8} (h : OwnB w B v l) (hB : B' ≤ B) : OwnB w B' v l := by
  obtain ⟨h1, h2⟩ := h
  refine ⟨h1, ?_⟩
  rcases h2 with h2 | ⟨g, cap, cur, hv, hb, r⟩
  · exact Or.inl h2
  · exact Or.inr ⟨g, cap, cur, hv, by omega, r⟩
set_option maxRecDepth 100000 in
set_option maxHeartbeats 1000000 in
theorem sum_any (w : World) (hr : Ready w) (x : Value) (l : List UInt8) (hx : BytesAt w x l) (hl : l.length ≤ 1099511627776) :
    Calls Tryd.prog 10 #[x] w fun e w' => ∃ v, e = .returned v ∧ OwnB w' w.heap.size v (shaOf l) ∧ Below w.heap.size w w' := by
  have hlt := hr.lt
  have Hr := hide hr
  have Hx := hide hx
  clear hr hx
  go_enter Tryd.func10, Tryd.ntmps10
  go_wp2_with fail
  refine (new_any w (unhide Hr).1).mono ?_
  rintro e w1 ⟨rfl, hw1⟩
  have hb1 : Below w.heap.size w w1 := by rw [hw1]; exact (Below.refl _ _).alloc (Nat.le_refl _) _
  have hH1 : HashAt w1 w.heap.size hs0 := by rw [hw1]; exact heap_alloc_new w _
  have hs1 : w.heap.size + 1 = w1.heap.size := by rw [hw1]; simp
  have hr1 := (unhide Hr).below hb1
  have hx1 := (unhide Hx).below hb1
  have hne : l ≠ [] → x.ownBlock ≠ some w.heap.size := fun hl e => by have := (unhide Hx).old hl _ e; omega
  have HH1 := hide hH1
  have Hr1 := hide hr1
  have Hx1 := hide hx1
  have Hne := hide hne
  have Hb1 := hide hb1
  have Hs1 := hide hs1
  clear hw1 hH1 hr1 hx1 hne hb1 hs1
  go_wp2_with fail
  refine (write_val w.heap.size hlt hs0 hs0_ok w1 (unhide HH1) (unhide Hr1).2 x l (unhide Hx1) (unhide Hne) (by show 0 + _ ≤ _; omega)).mono ?_
  rintro e w2 ⟨rfl, hH2, hG2⟩
  have hr2 := (unhide Hr1).grown hG2 hlt
  have hb2 : Below w.heap.size w w2 := (unhide Hb1).grown hG2 (by have := unhide Hs1; omega) (fun k hk => by cases hk; exact Nat.le_refl _)
  have hs2 : w.heap.size ≤ w2.heap.size := hb2.size
  have HH2 := hide hH2
  have Hr2 := hide hr2
  have Hb2 := hide hb2
  clear hH2 hG2 hr2 hb2
  go_wp2_with fail
  refine (hsum_any w.heap.size (feed hs0 l) (feed_ok _ _ hs0_ok) w2 (unhide Hr2).lt (unhide HH2) (unhide Hr2).2 (by rw [feed_told]; show 0 + _ ≤ _; omega)).mono ?_
  rintro e w3 ⟨v, rfl, hO, hb3⟩
  have HO := hide (hO.mono hs2)
  have Hb3 := hide ((unhide Hb2).trans (hb3.mono hs2))
  clear hO hb3
  go_wp2_with fail
  go_ret
  exact ⟨v, rfl, unhide HO, unhide Hb3⟩
end Go.Proofs.YtodcpcdhkghgnaaDoor
