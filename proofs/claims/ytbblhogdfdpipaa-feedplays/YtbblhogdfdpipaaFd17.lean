/-
  Plain words: boxes that lose the eldest; a feed of readers; a feed in memory.
-/
import Derived.Test.YtbblhogdfdpipaaIm17
namespace Go.Proofs.Ytbblhogdfdpipaa
open Go.RowKit
/-- A reader's box. -/
structure Bx (α : Type) where
  places : Nat
  lost : Nat
  list : List α
/-- A kind of feed: how its things lie in memory, its types. -/
structure FK (α : Type) where
  val : α → Value
  tf : TypeId
  tb : TypeId
def pt (b : Nat) : Value := .pointer (some ⟨b, 0, none⟩)
theorem pt_inj {a b : Nat} (h : pt a = pt b) : a = b := by simpa [pt] using h
section
variable {α : Type}
/-- A thing is put into a box. -/
def Bx.put (b : Bx α) (x : α) : Bx α := if b.list.length < b.places then ⟨b.places, b.lost, b.list ++ [x]⟩ else ⟨b.places, b.lost + 1, b.list.drop 1 ++ [x]⟩
def Bx.pop (b : Bx α) : Bx α := ⟨b.places, b.lost, b.list.drop 1⟩
/-- The pointers lead to these things. -/
def Items (K : FK α) (X : Set_) (w : World) : List Value → List α → Prop
  | [], [] => True
  | v :: vs, x :: xs => (∃ e, v = pt e ∧ X e ∧ w.cell? ⟨e, 0, none⟩ = some (K.val x)) ∧ Items K X w vs xs
  | _, _ => False
variable {K : FK α}
theorem Items.len {X : Set_} {w : World} : ∀ {vs : List Value} {l : List α}, Items K X w vs l → vs.length = l.length
  | [], [], _ => rfl
  | _ :: _, _ :: _, h => by simpa using Items.len h.2
  | [], _ :: _, h => h.elim
  | _ :: _, [], h => h.elim
theorem Items.aside {X S : Set_} {a b : World} (hb : Aside S a b) (hS : ∀ k, S k → ¬ X k) : ∀ {vs : List Value} {l : List α}, Items K X a vs l → Items K X b vs l
  | [], [], _ => trivial
  | _ :: _, _ :: _, ⟨⟨e, h1, h2, h3⟩, h⟩ => ⟨⟨e, h1, h2, cell_aside h3 hb fun hs => hS e hs h2⟩, Items.aside hb hS h⟩
  | [], _ :: _, h => h.elim
  | _ :: _, [], h => h.elim
/-- Cells of other blocks than these are as they were. -/
theorem Items.but {X S : Set_} {a b : World} (hb : Aside S a b) (hS : ∀ k v, S k → a.cell? ⟨k, 0, none⟩ = some v → ∀ x, v ≠ K.val x) : ∀ {vs : List Value} {l : List α}, Items K X a vs l → Items K X b vs l
  | [], [], _ => trivial
  | _ :: _, _ :: _, ⟨⟨e, h1, h2, h3⟩, h⟩ => ⟨⟨e, h1, h2, cell_aside h3 hb fun hs => hS e _ hs h3 _ rfl⟩, Items.but hb hS h⟩
  | [], _ :: _, h => h.elim
  | _ :: _, [], h => h.elim
theorem Items.mono {X Y : Set_} {w : World} (hX : ∀ k, X k → Y k) : ∀ {vs : List Value} {l : List α}, Items K X w vs l → Items K Y w vs l
  | [], [], _ => trivial
  | _ :: _, _ :: _, ⟨⟨e, h1, h2, h3⟩, h⟩ => ⟨⟨e, h1, hX e h2, h3⟩, Items.mono hX h⟩
  | [], _ :: _, h => h.elim
  | _ :: _, [], h => h.elim
theorem Items.snoc {X : Set_} {w : World} {e : Nat} {x : α} (he : X e) (hc : w.cell? ⟨e, 0, none⟩ = some (K.val x)) : ∀ {vs : List Value} {l : List α}, Items K X w vs l → Items K X w (vs ++ [pt e]) (l ++ [x])
  | [], [], _ => ⟨⟨e, rfl, he, hc⟩, trivial⟩
  | _ :: _, _ :: _, ⟨h1, h⟩ => ⟨h1, Items.snoc he hc h⟩
  | [], _ :: _, h => h.elim
  | _ :: _, [], h => h.elim
theorem Items.tail {X : Set_} {w : World} : ∀ {vs : List Value} {l : List α}, Items K X w vs l → Items K X w (vs.drop 1) (l.drop 1)
  | [], [], _ => trivial
  | _ :: _, _ :: _, h => h.2
  | [], _ :: _, h => h.elim
  | _ :: _, [], h => h.elim
/-- A box in memory: block q, its channel in block c. -/
structure BoxAt (K : FK α) (X : Set_) (w : World) (q c : Nat) (b : Bx α) : Prop where
  row : RowAt K.tb w q [] [.chan (some c), .int .i64 (b.lost : Int)]
  ch : ∃ buf s r, w.heap[c]? = some (.chan b.places buf false s r false) ∧ Items K X w buf.toList b.list
  len : b.list.length ≤ b.places
  pos : 1 ≤ b.places
  few : b.places ≤ 256
  xq : X q
  xc : X c
theorem BoxAt.aside {X S : Set_} {a b : World} {q c : Nat} {B : Bx α} (h : BoxAt K X a q c B) (hb : Aside S a b) (hS : ∀ k, S k → ¬ X k) : BoxAt K X b q c B where
  row := by
    unfold RowAt
    rw [hb.block q h.row.lt fun hs => hS q hs h.xq]; exact h.row
  ch := by
    obtain ⟨buf, s, r, h1, h2⟩ := h.ch
    exact ⟨buf, s, r, by rw [hb.block c (Array.getElem?_eq_some_iff.1 h1).1 fun hs => hS c hs h.xc]; exact h1, h2.aside hb hS⟩
  len := h.len
  pos := h.pos
  few := h.few
  xq := h.xq
  xc := h.xc
theorem BoxAt.mono {X Y : Set_} {a : World} {q c : Nat} {B : Bx α} (h : BoxAt K X a q c B) (hX : ∀ k, X k → Y k) : BoxAt K Y a q c B :=
  ⟨h.row, by obtain ⟨buf, s, r, h1, h2⟩ := h.ch; exact ⟨buf, s, r, h1, h2.mono hX⟩, h.len, h.pos, h.few, hX _ h.xq, hX _ h.xc⟩
end
/-- The things that feeds are told are no channels. -/
def Plain {α : Type} (K : FK α) : Prop := ∀ x c, K.val x ≠ .chan c
def KI : FK Int := ⟨fun x => .int .i64 x, 48, 57⟩
def KS : FK ByteArray := ⟨fun x => .string x, 60, 68⟩
theorem plain_i : Plain KI := fun _ _ h => by cases h
theorem plain_s : Plain KS := fun _ _ h => by cases h
theorem nomap_i : ∀ x m, KI.val x ≠ .map m := fun _ _ h => by cases h
theorem nomap_s : ∀ x m, KS.val x ≠ .map m := fun _ _ h => by cases h
end Go.Proofs.Ytbblhogdfdpipaa
