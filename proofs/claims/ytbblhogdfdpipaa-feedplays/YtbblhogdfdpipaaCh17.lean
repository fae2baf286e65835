/-
  Boxes whose channel is sent to and received from.
-/
import Derived.Test.YtbblhogdfdpipaaFd17
import Derived.Conc.LoneCalls
import Derived.Conc.LoneSelect
import Derived.Conc.LoneSelectN
import Derived.KernelRfl
import Derived.Laws.Rows
namespace Go.Proofs.Ytbblhogdfdpipaa
open Go.Conc Go.RowKit
def two_ (q c : Nat) : Set_ := fun k => k = q ∨ k = c
theorem aside_setChan (w : World) (c cap : Nat) (buf : Array Value) (cl : Bool) (s r : Nat) (tm : Bool) : Aside (fun k => k = c) w (w.setChan c cap buf cl s r tm) :=
  ⟨rfl, rfl, rfl, by simp [World.setChan], fun k _ hk => by simp only [World.setChan]; rw [Array.getElem?_setIfInBounds_ne fun e => hk e.symm]⟩
theorem chan_no_cell {w : World} {c cap s r : Nat} {buf : Array Value} {cl tm : Bool} (hc : w.heap[c]? = some (.chan cap buf cl s r tm)) (i : Nat) : w.cell? ⟨c, i, none⟩ = none := by simp [World.cell?, hc]
theorem extract_one (buf : Array Value) : (buf.extract 1 buf.size).toList = buf.toList.drop 1 := by
  rw [Array.toList_extract, List.extract_eq_take_drop, List.take_of_length_le]
  simp
section
variable {α : Type} {K : FK α}
theorem BoxAt.k0 {X : Set_} {w : World} {q c : Nat} {b : Bx α} (h : BoxAt K X w q c b) : w.cell? ⟨q, 0, none⟩ = some (.chan (some c)) := h.row.cell 0 (by simp)
theorem BoxAt.k1 {X : Set_} {w : World} {q c : Nat} {b : Bx α} (h : BoxAt K X w q c b) : w.cell? ⟨q, 1, none⟩ = some (.int .i64 (b.lost : Int)) := h.row.cell 1 (by simp)
theorem BoxAt.ne {X : Set_} {w : World} {q c : Nat} {b : Bx α} (h : BoxAt K X w q c b) : q ≠ c := by
  intro e
  obtain ⟨buf, s, r, hc, _⟩ := h.ch
  have := h.k0
  rw [e, chan_no_cell hc] at this
  cases this
/-- A thing's cell lies in neither. -/
theorem BoxAt.loose (Pl : Plain K) {X : Set_} {w : World} {q c : Nat} {b : Bx α} (h : BoxAt K X w q c b) : ∀ k v, two_ q c k → w.cell? ⟨k, 0, none⟩ = some v → ∀ x, v ≠ K.val x := by
  intro k v hk hv x e
  obtain ⟨buf, s, r, hc, _⟩ := h.ch
  rcases hk with rfl | rfl
  · rw [h.k0] at hv
    cases hv
    exact Pl x _ e.symm
  · rw [chan_no_cell hc] at hv
    cases hv
theorem BoxAt.turned (Pl : Plain K) {X : Set_} {w w' : World} {q c : Nat} {b : Bx α} (h : BoxAt K X w q c b) (ha : Aside (two_ q c) w w') {lost s r : Nat} {buf : Array Value} {l : List α}
    (hr : RowAt K.tb w' q [] [.chan (some c), .int .i64 (lost : Int)]) (hc : w'.heap[c]? = some (.chan b.places buf false s r false)) (hI : Items K X w buf.toList l) (hl : l.length ≤ b.places) : BoxAt K X w' q c ⟨b.places, lost, l⟩ :=
  ⟨hr, ⟨buf, s, r, hc, hI.but ha (h.loose Pl)⟩, hl, h.pos, h.few, h.xq, h.xc⟩
theorem RowAt.chan {e : TypeId} {w : World} {B : Nat} {rest cs : List Value} (h : RowAt e w B rest cs) (c cap : Nat) (buf : Array Value) (cl : Bool) (s r : Nat) (tm : Bool) (hne : B ≠ c) : RowAt e (w.setChan c cap buf cl s r tm) B rest cs := by
  unfold RowAt
  rw [(aside_setChan w c cap buf cl s r tm).block B h.lt hne]; exact h
theorem two_sub {q c : Nat} {a b : World} (h : Aside (fun k => k = c) a b) : Aside (two_ q c) a b := h.mono fun _ _ e => Or.inr e
/-- Into a box that has room. -/
theorem BoxAt.sent (Pl : Plain K) {X : Set_} {w : World} {q c e : Nat} {b : Bx α} {x : α} {buf : Array Value} {s r : Nat} (h : BoxAt K X w q c b) (he : X e) (hx : w.cell? ⟨e, 0, none⟩ = some (K.val x)) (hlt : b.list.length < b.places)
    (hc : w.heap[c]? = some (.chan b.places buf false s r false)) (hI : Items K X w buf.toList b.list) : BoxAt K X (w.setChan c b.places (buf.push (pt e)) false (s + 1) r false) q c (b.put x) ∧ Aside (two_ q c) w (w.setChan c b.places (buf.push (pt e)) false (s + 1) r false) ∧ (w.setChan c b.places (buf.push (pt e)) false (s + 1) r false).heap.size = w.heap.size := by
  have ha := two_sub (q := q) (aside_setChan w c b.places (buf.push (pt e)) false (s + 1) r false)
  refine ⟨?_, ha, size_setChan _ _ _ _ _ _ _ _⟩
  unfold Bx.put
  rw [if_pos hlt]
  refine h.turned Pl ha (h.row.chan _ _ _ _ _ _ _ h.ne) (heap_setChan _ _ _ _ _ _ _ _ (Array.getElem?_eq_some_iff.1 hc).1) ?_ (by simp; omega)
  rw [Array.toList_push]
  exact hI.snoc he hx
/-- Into a full one. -/
theorem BoxAt.over (Pl : Plain K) {X : Set_} {w : World} {q c e : Nat} {b : Bx α} {x : α} {buf : Array Value} {s r : Nat} (h : BoxAt K X w q c b) (he : X e) (hx : w.cell? ⟨e, 0, none⟩ = some (K.val x)) (hge : ¬ b.list.length < b.places)
    (hc : w.heap[c]? = some (.chan b.places buf false s r false)) (hI : Items K X w buf.toList b.list) (w1 w2 : World) (h1 : w.setChan c b.places (buf.extract 1 buf.size) false s (r + 1) false = w1) (h2 : w1.setCell ⟨q, 1, none⟩ (.int .i64 (((b.lost + 1 : Nat) : Int))) = w2) :
    BoxAt K X (w2.setChan c b.places ((buf.extract 1 buf.size).push (pt e)) false (s + 1) (r + 1) false) q c (b.put x) ∧ Aside (two_ q c) w (w2.setChan c b.places ((buf.extract 1 buf.size).push (pt e)) false (s + 1) (r + 1) false) ∧ (w2.setChan c b.places ((buf.extract 1 buf.size).push (pt e)) false (s + 1) (r + 1) false).heap.size = w.heap.size := by
  have hcl := (Array.getElem?_eq_some_iff.1 hc).1
  have a1 : Aside (two_ q c) w w1 := h1 ▸ two_sub (aside_setChan _ _ _ _ _ _ _ _)
  have a2 : Aside (two_ q c) w w2 := h2 ▸ a1.setCell _ _ (Or.inr (Or.inl rfl))
  have s1 : w1.heap.size = w.heap.size := by rw [← h1]; exact size_setChan _ _ _ _ _ _ _ _
  have s2 : w2.heap.size = w.heap.size := by rw [← h2, World.size_setCell]; exact s1
  have a3 := a2.trans (two_sub (q := q) (aside_setChan w2 c b.places ((buf.extract 1 buf.size).push (pt e)) false (s + 1) (r + 1) false)) fun _ _ h => h
  refine ⟨?_, a3, (size_setChan _ _ _ _ _ _ _ _).trans s2⟩
  have r1 : RowAt K.tb w1 q [] [.chan (some c), .int .i64 (b.lost : Int)] := h1 ▸ h.row.chan _ _ _ _ _ _ _ h.ne
  have r2 : RowAt K.tb w2 q [] [.chan (some c), .int .i64 (((b.lost + 1 : Nat) : Int))] := h2 ▸ r1.set 1 (by simp) _
  unfold Bx.put
  rw [if_neg hge]
  have hp := h.pos
  have hl := h.len
  refine h.turned Pl a3 (r2.chan _ _ _ _ _ _ _ h.ne) (heap_setChan _ _ _ _ _ _ _ _ (by omega)) ?_ (by simp; omega)
  rw [Array.toList_push]
  have : (buf.extract 1 buf.size).toList = buf.toList.drop 1 := extract_one buf
  rw [this]
  exact hI.tail.snoc he hx
/-- The eldest out. -/
theorem BoxAt.got (Pl : Plain K) {X : Set_} {w : World} {q c : Nat} {b : Bx α} {buf : Array Value} {s r : Nat} (h : BoxAt K X w q c b)
    (hc : w.heap[c]? = some (.chan b.places buf false s r false)) (hI : Items K X w buf.toList b.list) : BoxAt K X (w.setChan c b.places (buf.extract 1 buf.size) false s (r + 1) false) q c b.pop ∧ Aside (two_ q c) w (w.setChan c b.places (buf.extract 1 buf.size) false s (r + 1) false) ∧ (w.setChan c b.places (buf.extract 1 buf.size) false s (r + 1) false).heap.size = w.heap.size := by
  have ha := two_sub (q := q) (aside_setChan w c b.places (buf.extract 1 buf.size) false s (r + 1) false)
  refine ⟨?_, ha, size_setChan _ _ _ _ _ _ _ _⟩
  refine h.turned Pl ha (h.row.chan _ _ _ _ _ _ _ h.ne) (heap_setChan _ _ _ _ _ _ _ _ (Array.getElem?_eq_some_iff.1 hc).1) ?_ (by have := h.len; simp; omega)
  have : (buf.extract 1 buf.size).toList = buf.toList.drop 1 := extract_one buf
  rw [this]
  exact hI.tail
end
end Go.Proofs.Ytbblhogdfdpipaa
