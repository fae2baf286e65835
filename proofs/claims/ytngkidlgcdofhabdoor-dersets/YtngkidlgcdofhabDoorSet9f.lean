/-
  The row turned round, and what is told of it.
-/
import Derived.Test.YtngkidlgcdofhabDoorSet9e
import Derived.Laws.MakeOwn
namespace Go.Proofs.YtngkidlgcdofhabDoor
open Go.RowKit
theorem made_row (w : World) (i : Nat) (hi : i ≤ 20) : ∃ w', (Instr.makeSlice 24 (.int .i64 0) (.int .i64 (i : Int))).run Tryd.prog w = .ok (.slice (some ⟨w.heap.size, 0, none⟩) 0 i) w' ∧ OwnD 26 w' w.heap.size (.slice (some ⟨w.heap.size, 0, none⟩) 0 i) 0 [] ∧ Below w.heap.size w w' := by
  obtain ⟨hu, ⟨ti, hti, hz, hsz, hby⟩, hfive⟩ := Edv
  obtain ⟨w', h1, h2, h3⟩ := run_make_own (P := Tryd.prog) w w.heap.size 24 26 ti _ 5 hu hti hz hsz .i64 .i64 i (by rw [hby]; omega) (by simp only [maxLen]; omega) (Nat.le_refl _)
  exact ⟨w', h1, h2, (Below.refl _ _).grown h3 (Nat.le_refl _) (fun g e => by cases e)⟩
theorem rev_step {ks : List (Value × Bs)} {i m P : Nat} {k : Value × Bs} (hl : ks.length = i) (hP : P + 1 + m = i) (hk : ks[P]? = some k) : (ks.reverse.take (m + 1)).flatMap (fun k => leafC k.1) = (ks.reverse.take m).flatMap (fun k => leafC k.1) ++ leafC k.1 := by
  have h1 : ks.reverse[m]? = some k := by
    rw [List.getElem?_reverse (by omega)]
    rw [← hk]
    congr 1
    omega
  rw [List.take_add_one, h1]
  simp
theorem krow_rev {w0 w w4 : World} {v tv : Value} {ks : List (Value × Bs)} {i : Nat} (h : KRow w0 w4 v ks) (hl : ks.length = i) (ho : OwnD 26 w w4.heap.size tv i ((ks.reverse.take i).flatMap fun k => leafC k.1)) (hb : Below w4.heap.size w4 w) : KRow w0 w tv ks.reverse := by
  rw [List.take_of_length_le (by rw [List.length_reverse]; omega)] at ho
  have hs := h.below.size
  refine ⟨?_, fun k hk => h.bytes k (List.mem_reverse.1 hk), fun k hk => h.few k (List.mem_reverse.1 hk), h.below.trans (hb.mono h.below.size)⟩
  rw [List.length_reverse, hl]
  refine ⟨ho.1, ?_⟩
  rcases ho.2 with h | ⟨g, cap, cur, hv, hb, r⟩
  · exact Or.inl h
  · exact Or.inr ⟨g, cap, cur, hv, by omega, r⟩
/-- Are they alike? -/
def alikeB (l : List Bs) : Bool := decide (l.length < 2) || decide (l.head? = l.getLast?)
theorem chain_alike {l : List Bs} (h : chainP l = true) : chainP l.reverse = alikeB l := by
  match l, h with
  | [], _ => rfl
  | [a], _ => rfl
  | a :: b :: r, h =>
    obtain ⟨m, z, e⟩ : ∃ m z, b :: r = m ++ [z] := ⟨(b :: r).dropLast, (b :: r).getLast (by simp), (List.dropLast_concat_getLast (by simp)).symm⟩
    rw [e] at h ⊢
    rw [chain_turned a m z h]
    unfold alikeB
    have h1 : ¬ (a :: (m ++ [z])).length < 2 := by simp
    have h2 : (a :: (m ++ [z])).getLast? = some z := by rw [← List.cons_append, List.getLast?_append]; simp
    rw [h2, decide_eq_false h1]
    simp
theorem alike_few {ks : List (Value × Bs)} (h : ks.length < 2) : alikeB (ks.map (·.2)) = true := by
  unfold alikeB
  rw [List.length_map]
  simp [h]
theorem alike_ends {ks : List (Value × Bs)} {i : Nat} {k0 kl : Value × Bs} (hl : ks.length = i) (h2 : 2 ≤ i) (h0 : ks[0]? = some k0) (he : ks[i - 1]? = some kl) : alikeB (ks.map (·.2)) = decide (k0.2 = kl.2) := by
  unfold alikeB
  rw [List.length_map, decide_eq_false (by omega), Bool.false_or, List.head?_map, List.getLast?_map, List.getLast?_eq_getElem?, hl, he, List.head?_eq_getElem?, h0]
  simp
end Go.Proofs.YtngkidlgcdofhabDoor
