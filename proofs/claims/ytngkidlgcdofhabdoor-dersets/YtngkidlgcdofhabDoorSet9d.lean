/-
  One value of bytes more, put in among the others: what the three appends hold on to.
-/
import Derived.Test.YtngkidlgcdofhabDoorSet9c
import Derived.Test.YtngkidlgcdofhabDoorKset2
namespace Go.Proofs.YtngkidlgcdofhabDoor
open Go.RowKit
theorem ins_at (b : Bs) : ∀ (l : List Bs) (j : Nat), (∀ k ∈ l.take j, befP k b = true) → (∀ k, l[j]? = some k → befP k b = false) → insP b l = l.take j ++ b :: l.drop j
  | [], j, _, _ => by simp [insP]
  | k :: l, 0, _, h => by
    rw [ins_cons, if_neg (by rw [h k rfl]; exact Bool.false_ne_true)]
    simp
  | k :: l, j + 1, h1, h2 => by
    rw [ins_cons, if_pos (h1 k (by simp)), ins_at b l j (fun x hx => h1 x (by simp [hx])) (fun x hx => h2 x (by simpa using hx))]
    simp
theorem leafC_one {x : Value} (hx : x.oneCell' = true) : ∀ u ∈ leafC x, u.oneCell' = true := fun u hu => by
  simp only [leafC, dcells, List.mem_cons, List.not_mem_nil, or_false] at hu
  rcases hu with rfl | rfl | rfl | rfl | rfl <;> first | rfl | exact hx
theorem takes_leaf (w : World) (x : Value) (hx : x.oneCell' = true) : Takes (w.alloc (.cells (leafC x).toArray 26)) (.slice (some ⟨w.heap.size, 0, none⟩) 1 1) 1 (leafC x) :=
  takes_some rfl (cells_new w _ 26) (leafC_one hx)
theorem Takes.below {w w' : World} {x : Value} {m : Nat} {ds : List Value} (h : Takes w x m ds) (hp : 0 < m) (hb : Below w.heap.size w w') : Takes w' x m ds := by
  obtain ⟨ga, go, c, rfl, hc⟩ := h.lies hp
  exact takes_some h.src.newsLen (hc.below hb) h.src.one
theorem takes_kept {w w' : World} {g c m : Nat} {ds : List Value} {row : Option Nat} (h : Takes w (.slice (some ⟨g, 0, none⟩) m c) m ds) (hm : 0 < m) (hg : w.grownBy w' row) (hne : some g ≠ row) : Takes w' (.slice (some ⟨g, 0, none⟩) m c) m ds := by
  obtain ⟨ga, go, c, e, hc⟩ := h.lies hm
  simp only [Value.slice.injEq, Option.some.injEq, Addr.mk.injEq] at e
  obtain ⟨⟨rfl, rfl, _⟩, _, rfl⟩ := e
  exact takes_some h.src.newsLen (hc.kept hg hne) h.src.one
/-- The empty row laid alone. -/
theorem own_empty (W : World) : OwnD 26 (W.alloc (.cells #[] 26)).drew W.heap.size (.slice (some ⟨W.heap.size, 0, none⟩) 0 0) 0 [] ∧ Below W.heap.size W (W.alloc (.cells #[] 26)).drew :=
  ⟨⟨rfl, Or.inr ⟨W.heap.size, 0, #[], rfl, Nat.le_refl _, heap_alloc_new W _, Nat.le_refl _, by simp [maxLen], rfl, rfl⟩⟩, ((Below.refl _ _).alloc (Nat.le_refl _) _).drew⟩
/-- .. and the value behind it. -/
theorem own_empty2 (W : World) (x : Value) (hx : x.oneCell' = true) : OwnD 26 ((W.alloc (.cells #[] 26)).alloc (.cells (leafC x).toArray 26)).drew W.heap.size (.slice (some ⟨W.heap.size, 0, none⟩) 0 0) 0 [] ∧ Below W.heap.size W ((W.alloc (.cells #[] 26)).alloc (.cells (leafC x).toArray 26)).drew ∧ Takes ((W.alloc (.cells #[] 26)).alloc (.cells (leafC x).toArray 26)).drew (.slice (some ⟨W.heap.size + 1, 0, none⟩) 1 1) 1 (leafC x) := by
  obtain ⟨h1, h2⟩ := own_empty W
  have hs : (W.alloc (.cells #[] 26)).heap.size = W.heap.size + 1 := by simp
  have h3 : Below (W.alloc (.cells #[] 26)).heap.size (W.alloc (.cells #[] 26)) ((W.alloc (.cells #[] 26)).alloc (.cells (leafC x).toArray 26)).drew := ((Below.refl _ _).alloc (Nat.le_refl _) _).drew
  have h4 : OwnD 26 (W.alloc (.cells #[] 26)) W.heap.size (.slice (some ⟨W.heap.size, 0, none⟩) 0 0) 0 [] := h1
  have h5 : Below W.heap.size W (W.alloc (.cells #[] 26)) := (Below.refl _ _).alloc (Nat.le_refl _) _
  have h6 := takes_leaf (W.alloc (.cells #[] 26)) x hx
  rw [hs] at h6
  exact ⟨h4.below h3, h5.trans (h3.mono (by rw [hs]; omega)), h6.below (by omega) (Below.refl _ _).drew⟩
/-- .. and the value ahead of it. -/
theorem own_empty1 (W : World) (x : Value) (hx : x.oneCell' = true) : OwnD 26 ((W.alloc (.cells (leafC x).toArray 26)).alloc (.cells #[] 26)).drew W.heap.size (.slice (some ⟨W.heap.size + 1, 0, none⟩) 0 0) 0 [] ∧ Below W.heap.size W ((W.alloc (.cells (leafC x).toArray 26)).alloc (.cells #[] 26)).drew ∧ Takes ((W.alloc (.cells (leafC x).toArray 26)).alloc (.cells #[] 26)).drew (.slice (some ⟨W.heap.size, 0, none⟩) 1 1) 1 (leafC x) := by
  have hs : (W.alloc (.cells (leafC x).toArray 26)).heap.size = W.heap.size + 1 := by simp
  obtain ⟨h1, h2⟩ := own_empty (W.alloc (.cells (leafC x).toArray 26))
  have h6 := (takes_leaf W x hx).below (by omega) h2
  have h5 : Below W.heap.size W (W.alloc (.cells (leafC x).toArray 26)) := (Below.refl _ _).alloc (Nat.le_refl _) _
  rw [hs] at h1 h2
  refine ⟨⟨h1.1, ?_⟩, h5.trans (h2.mono (by omega)), h6⟩
  rcases h1.2 with h | ⟨g, cap, cur, hv, hb, r⟩
  · exact Or.inl h
  · exact Or.inr ⟨g, cap, cur, hv, by omega, r⟩
theorem krow_ins {w0 W w : World} {v0 v : Value} {ks : List (Value × Bs)} {i j : Nat} {x : Value} {b : Bs} (h : KRow w0 W v0 ks) (ho : OwnD 26 w W.heap.size v (i + 1) ((ks.take j).flatMap (fun k => leafC k.1) ++ leafC x ++ (ks.drop j).flatMap (fun k => leafC k.1))) (hb : Below W.heap.size W w) (hl : ks.length = i) (hj : j ≤ i) (hx : BytesAt w0 x b) (hf : b.length ≤ 100) : KRow w0 w v (ks.take j ++ (x, b) :: ks.drop j) := by
  have hm : ∀ k ∈ ks.take j ++ (x, b) :: ks.drop j, k ∈ ks ∨ k = (x, b) := fun k hk => by
    rcases List.mem_append.1 hk with hk | hk
    · exact Or.inl (List.mem_of_mem_take hk)
    · rcases List.mem_cons.1 hk with hk | hk
      · exact Or.inr hk
      · exact Or.inl (List.mem_of_mem_drop hk)
  have hlen : (ks.take j ++ (x, b) :: ks.drop j).length = i + 1 := by rw [List.length_append, List.length_cons, List.length_take, List.length_drop]; omega
  refine ⟨?_, fun k hk => ?_, fun k hk => ?_, h.below.trans (hb.mono h.below.size)⟩
  · rw [hlen, List.flatMap_append, List.flatMap_cons]
    have hs := h.below.size
    rw [List.append_assoc] at ho
    refine ⟨ho.1, ?_⟩
    rcases ho.2 with h | ⟨g, cap, cur, hv, hb, r⟩
    · exact Or.inl h
    · exact Or.inr ⟨g, cap, cur, hv, by omega, r⟩
  · rcases hm k hk with hk | rfl
    · exact h.bytes k hk
    · exact hx
  · rcases hm k hk with hk | rfl
    · exact h.few k hk
    · exact hf
end Go.Proofs.YtngkidlgcdofhabDoor
