/-
  What is told of a set and of a sequence of values of bytes.
-/
import Derived.Test.YtngkidlgcdofhabDoorSet9d
import Derived.Test.YtngkidlgcdofhabDoorTold9
namespace Go.Proofs.YtngkidlgcdofhabDoor
/-- The set (17) or sequence (16) of these. -/
def setV (t : Int) (ks : List (Value × Bs)) : DV := .mk 0 t true [] (ks.map fun k => leafD k.2)
theorem setV_leaf (t : Int) (ks : List (Value × Bs)) : setV t ks = .mk 0 t true [] ((ks.map (·.2)).map leafV) := by
  unfold setV
  rw [List.map_map]
  rfl
theorem set_weights : ∀ {ks : List (Value × Bs)}, (∀ k ∈ ks, k.2.length ≤ 100) → weights (ks.map fun k => leafD k.2) ≤ 101 * ks.length
  | [], _ => by simp [weights]
  | k :: ks, h => by
    have h1 := set_weights (ks := ks) (fun x hx => h x (List.mem_cons_of_mem _ hx))
    have h2 := h k (by simp)
    have h3 : weight (leafD k.2) = 1 + k.2.length := by simp [leafD, weight, weights]
    simp only [List.map_cons, weights, List.length_cons, h3]
    omega
theorem set_weight {ks : List (Value × Bs)} (t : Int) (hl : ks.length ≤ 20) (hb : ∀ k ∈ ks, k.2.length ≤ 100) : weight (setV t ks) ≤ 1000000 := by
  have := set_weights hb
  simp only [setV, weight, List.length_nil]
  omega
theorem set_made {t : Int} (ht : t = 16 ∨ t = 17) {ks : List (Value × Bs)} (hl : ks.length ≤ 20) (hb : ∀ k ∈ ks, k.2.length ≤ 100) :
    (t = 17 ∧ chainP (ks.map (·.2)) = false → writeTop formD (setV t ks) = .no 25) ∧ (¬ (t = 17 ∧ chainP (ks.map (·.2)) = false) → ∃ B, writeTop formD (setV t ks) = .yes B ∧ B.length ≤ 65536) := by
  rw [setV_leaf, write_made ht (by rw [List.length_map]; exact hl) (fun b hb' => by obtain ⟨k, hk, rfl⟩ := List.mem_map.1 hb'; exact hb k hk)]
  refine ⟨fun h => by rw [if_pos h], fun h => ?_⟩
  rw [if_neg h]
  refine ⟨_, rfl, ?_⟩
  have h1 := flat_len (ks.map (·.2)) (fun b hb' => by obtain ⟨k, hk, rfl⟩ := List.mem_map.1 hb'; exact hb k hk)
  have h2 := len_tagB_le 0 t.toNat true
  rw [List.length_map] at h1
  have h3 := K.lenB_le (n := (((ks.map (·.2)).map encB)).flatten.length) (by omega)
  simp only [List.length_append]
  omega
end Go.Proofs.YtngkidlgcdofhabDoor
