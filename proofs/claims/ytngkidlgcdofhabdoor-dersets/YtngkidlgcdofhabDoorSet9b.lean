/-
  A row of values of bytes, in memory, as DerSets makes it.
-/
import Derived.Test.YtngkidlgcdofhabDoorSet9a
import Derived.Test.YtngkidlgcdofhabDoorMade9
namespace Go.Proofs.YtngkidlgcdofhabDoor
open Go.RowKit
/-- The five cells of a value of bytes. -/
def leafC (x : Value) : List Value := dcells 0 4 false x (.slice none 0 0)
/-- A value of bytes, in plain words. -/
def leafD (b : Bs) : DV := .mk 0 4 false b []
theorem leafC_len (x : Value) : (leafC x).length = 5 := rfl
theorem flat5_len {α : Type} (f : α → List Value) (hf : ∀ a, (f a).length = 5) : ∀ l : List α, (l.flatMap f).length = l.length * 5
  | [] => rfl
  | a :: l => by rw [List.flatMap_cons, List.length_append, hf, flat5_len f hf l, List.length_cons]; omega
theorem flat5_drop {α : Type} (f : α → List Value) (hf : ∀ a, (f a).length = 5) : ∀ (l : List α) (i : Nat), (l.flatMap f).drop (i * 5) = (l.drop i).flatMap f
  | l, 0 => by simp
  | [], i + 1 => by simp
  | a :: l, i + 1 => by
    rw [List.flatMap_cons, List.drop_succ_cons, ← flat5_drop f hf l i, show (i + 1) * 5 = 5 + i * 5 by omega, ← List.drop_drop, List.drop_left' (hf a)]
theorem flat5_take {α : Type} (f : α → List Value) (hf : ∀ a, (f a).length = 5) : ∀ (l : List α) (i : Nat), (l.flatMap f).take (i * 5) = (l.take i).flatMap f
  | l, 0 => by simp
  | [], i + 1 => by simp
  | a :: l, i + 1 => by
    rw [List.flatMap_cons, List.take_succ_cons, List.flatMap_cons, ← flat5_take f hf l i, show (i + 1) * 5 = 5 + i * 5 by omega, ← hf a, List.take_length_add_append, hf a]
theorem flat5_at {α : Type} (f : α → List Value) (hf : ∀ a, (f a).length = 5) {l : List α} {i : Nat} {a : α} (h : l[i]? = some a) : ((l.flatMap f).drop (i * 5)).take 5 = f a := by
  rw [flat5_drop f hf]
  obtain ⟨hi, rfl⟩ := List.getElem?_eq_some_iff.1 h
  rw [List.drop_eq_getElem_cons hi, List.flatMap_cons, List.take_left' (hf _)]
/-- The row of the values of bytes: ks: each slice and what it holds. -/
structure KRow (w0 w : World) (v : Value) (ks : List (Value × Bs)) : Prop where
  own : OwnD 26 w w0.heap.size v ks.length (ks.flatMap fun k => leafC k.1)
  bytes : ∀ k ∈ ks, BytesAt w0 k.1 k.2
  few : ∀ k ∈ ks, k.2.length ≤ 100
  below : Below w0.heap.size w0 w
theorem KRow.nil (w0 : World) : KRow w0 w0 (.slice none 0 0) [] := ⟨ownd_nil _ _ _, fun k h => by simp at h, fun k h => by simp at h, Below.refl _ _⟩
theorem KRow.form {w0 w : World} {v : Value} {ks : List (Value × Bs)} (h : KRow w0 w v ks) : ∃ sp c, v = .slice sp ks.length c ∧ ks.length ≤ c ∧ (sp = none → c = 0) := h.own.form
theorem KRow.later {w0 w w' : World} {v : Value} {ks : List (Value × Bs)} (h : KRow w0 w v ks) (hb : Below w.heap.size w w') : KRow w0 w' v ks := ⟨h.own.below hb, h.bytes, h.few, h.below.trans (hb.mono h.below.size)⟩
/-- One of the values: its cells. -/
theorem KRow.cells {w0 w : World} {v : Value} {ks : List (Value × Bs)} (h : KRow w0 w v ks) {j : Nat} {k : Value × Bs} (hk : ks[j]? = some k) : ∃ g c, v = .slice (some ⟨g, 0, none⟩) ks.length c ∧ w0.heap.size ≤ g ∧ g < w.heap.size ∧ ks.length ≤ c ∧ CellsAt w g (j * 5) (leafC k.1) := by
  obtain ⟨hj, _⟩ := List.getElem?_eq_some_iff.1 hk
  obtain ⟨g, c, hv, h1, h2, h3, h4⟩ := h.own.at (by omega)
  refine ⟨g, c, hv, h1, h2, h3, ?_⟩
  have := h4 j hj
  rw [flat5_at (fun k : Value × Bs => leafC k.1) (fun _ => rfl) hk, Nat.zero_add] at this
  exact this
/-- One of the values: its bytes, now. -/
theorem KRow.holds {w0 w : World} {v : Value} {ks : List (Value × Bs)} (h : KRow w0 w v ks) {j : Nat} {k : Value × Bs} (hk : ks[j]? = some k) : BytesAt w k.1 k.2 ∧ k.2.length ≤ 100 :=
  ⟨(h.bytes k (List.mem_of_getElem? hk)).below h.below, h.few k (List.mem_of_getElem? hk)⟩
/-- A value over the row is a value in memory. -/
theorem KRow.val {w0 w : World} {v : Value} {ks : List (Value × Bs)} (h : KRow w0 w v ks) (hl : ks.length ≤ 1000) (t : Int) : ValAt (fun _ => True) w (dcells 0 t true (.slice none 0 0) v) (.mk 0 t true [] (ks.map fun k => leafD k.2)) := by
  obtain ⟨sp, c, rfl, hc, hn⟩ := h.form
  refine ⟨2, .slice none 0 0, sp, c, by simp [DV.cls, DV.tag, DV.made, DV.kids], vals_nil _, fun h => absurd rfl h, ⟨by simp [DV.bytes], by simp only [DV.kids, List.length_map]; omega⟩, by simp only [DV.kids, List.length_map]; exact hc, hn, fun hne => ?_⟩
  simp only [DV.kids] at hne ⊢
  cases ks with
  | nil => simp at hne
  | cons k0 ks =>
    obtain ⟨g, c', hv, _, _, _, _⟩ := h.cells (j := 0) (k := k0) rfl
    cases hv
    refine ⟨g, 0, rfl, trivial, fun i k hik => ?_⟩
    rw [List.getElem?_map] at hik
    obtain ⟨kk, hkk, rfl⟩ := Option.map_eq_some_iff.1 hik
    obtain ⟨g', c'', hv', _, _, _, hcell⟩ := h.cells hkk
    cases hv'
    obtain ⟨hby, hfew⟩ := h.holds hkk
    obtain ⟨sp, cc, hx, _, _, _⟩ := bytes_open hby
    refine ⟨leafC kk.1, by rw [Nat.zero_add]; exact hcell, kk.1, none, 0, rfl, hby, fun _ _ _ => trivial, ⟨by simp only [leafD, DV.bytes]; omega, by simp [leafD, DV.kids]⟩, by simp [leafD, DV.kids], fun _ => rfl, fun h => absurd rfl h⟩
end Go.Proofs.YtngkidlgcdofhabDoor
