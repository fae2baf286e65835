/-
  The statement PlateSafe, walked out of the record Plate.
-/
import Derived.Test.YtlmikagmcaicoaaAr13
namespace Go.Proofs.Ytlmikagmcaicoaa
open Go.RowKit
def seqW (l : Bs) (i : Nat) : List (Nat × Bs) := (List.range i).map fun j => (j, List.replicate 64 (l.getD j 0))
def genS (sf : List Bs) (l : Bs) (i : Nat) : PS := ⟨sf, seqW l i, -1, false⟩
theorem seq_next (l : Bs) (i : Nat) : seqW l (i + 1) = seqW l i ++ [(i, List.replicate 64 (l.getD i 0))] := by unfold seqW; rw [List.range_succ, List.map_append]; rfl
theorem seq_len (l : Bs) (i : Nat) : (seqW l i).length = i := by unfold seqW; simp
theorem seq_take (l : Bs) {i n : Nat} (h : i ≤ n) : (seqW l n).take i = seqW l i := by unfold seqW; rw [← List.map_take, List.take_range, Nat.min_eq_left h]
theorem seq_at (l : Bs) {i n : Nat} (h : i < n) : (seqW l n)[i]? = some (i, List.replicate 64 (l.getD i 0)) := by unfold seqW; rw [List.getElem?_map, List.getElem?_range h]; rfl
theorem gen_we {sf : List Bs} (hs : sf.length = 64) (l : Bs) {i : Nat} (hi : i < 64) : writeE (genS sf l i) (i : Int) (List.replicate 64 (l.getD i 0)) = 0 := by
  unfold writeE genS tickS rightAt
  simp [hs]
  omega
theorem gen_ws {sf : List Bs} (hs : sf.length = 64) (l : Bs) {i : Nat} (hi : i < 64) : writeS (genS sf l i) (i : Int) (List.replicate 64 (l.getD i 0)) = genS sf l (i + 1) := by
  unfold writeS genS tickS rightAt
  rw [seq_next]
  simp [hs]
  omega
theorem gen_se (sf : List Bs) (l : Bs) (i : Nat) : syncE (genS sf l i) = 0 := rfl
theorem gen_ss (sf : List Bs) (l m : Bs) (i : Nat) : syncS (genS sf l i) = genS (applyL sf (seqW l i)) m 0 := rfl
theorem seq_apply (sf : List Bs) (l : Bs) : ∀ (i j : Nat), i ≤ sf.length → j < sf.length → (applyL sf (seqW l i)).getD j [] = if j < i then List.replicate 64 (l.getD j 0) else sf.getD j []
  | 0, j, _, _ => rfl
  | i + 1, j, h, hj => by
    have ih := seq_apply sf l i j (by omega) hj
    rw [seq_next, apply_app, apply_one, List.getD_eq_getElem?_getD]
    by_cases hij : j = i
    · subst hij
      rw [List.getElem?_set_self (by rw [apply_len]; exact hj), if_pos (by omega)]
      rfl
    · rw [List.getElem?_set_ne (by simp only; omega), ← List.getD_eq_getElem?_getD, ih]
      by_cases h2 : j < i
      · rw [if_pos h2, if_pos (by omega)]
      · rw [if_neg h2, if_neg (by omega)]
theorem seq_kept (sf : List Bs) (l : Bs) (keep : List Bool) (n : Nat) : ∀ (i j : Nat), i ≤ n → i ≤ sf.length → j < sf.length → (applyL sf (keptL ((seqW l n).take i) keep)).getD j [] = if j < i ∧ keep.getD j false = true then List.replicate 64 (l.getD j 0) else sf.getD j []
  | 0, j, _, _, _ => by rw [kept_zero, if_neg (by omega)]; rfl
  | i + 1, j, hn, h, hj => by
    have ih := seq_kept sf l keep n i j (by omega) (by omega) hj
    by_cases hk : i < keep.length
    · have hkk : keep[i]? = some keep[i] := List.getElem?_eq_getElem hk
      have hkd : keep.getD i false = keep[i] := by rw [List.getD_eq_getElem?_getD, hkk]; rfl
      rw [kept_next (seq_at l (by omega)) hkk]
      cases hki : keep[i] with
      | false =>
        rw [if_neg (by decide), List.append_nil, ih]
        by_cases h2 : j < i ∧ keep.getD j false = true
        · rw [if_pos h2, if_pos ⟨by omega, h2.2⟩]
        · rw [if_neg h2, if_neg]
          rintro ⟨h3, h4⟩
          by_cases hij : j = i
          · subst hij; rw [hkd, hki] at h4; cases h4
          · exact h2 ⟨by omega, h4⟩
      | true =>
        rw [if_pos rfl, apply_app, apply_one, List.getD_eq_getElem?_getD]
        by_cases hij : j = i
        · subst hij
          rw [List.getElem?_set_self (by rw [apply_len]; exact hj), if_pos ⟨by omega, by rw [hkd, hki]⟩]
          rfl
        · rw [List.getElem?_set_ne (by simp only; omega), ← List.getD_eq_getElem?_getD, ih]
          by_cases h2 : j < i ∧ keep.getD j false = true
          · rw [if_pos h2, if_pos ⟨by omega, h2.2⟩]
          · rw [if_neg h2, if_neg]
            rintro ⟨h3, h4⟩
            exact h2 ⟨by omega, h4⟩
    · rw [kept_over (by omega), ih]
      have hkn : keep.getD i false = false := by rw [List.getD_eq_getElem?_getD, List.getElem?_eq_none (by omega)]; rfl
      by_cases h2 : j < i ∧ keep.getD j false = true
      · rw [if_pos h2, if_pos ⟨by omega, h2.2⟩]
      · rw [if_neg h2, if_neg]
        rintro ⟨h3, h4⟩
        by_cases hij : j = i
        · subst hij; rw [hkn] at h4; cases h4
        · exact h2 ⟨by omega, h4⟩
def safeSF (old : Bs) (n : Nat) : List Bs := applyL (List.replicate 64 zeros) (seqW old n)
theorem safeSF_len (old : Bs) (n : Nat) : (safeSF old n).length = 64 := by unfold safeSF; rw [apply_len, List.length_replicate]
/-- Behind the revival. -/
def safeT (old fresh : Bs) (n : Nat) (sync : Bool) (keep : List Bool) : PS := reviveS (if sync then syncS (genS (safeSF old n) fresh n) else genS (safeSF old n) fresh n) keep
def safeW (old fresh : Bs) (sync : Bool) (keep : List Bool) (i : Nat) : UInt8 := if sync || keep.getD i false then fresh.getD i 0 else old.getD i 0
theorem safeT_len (old fresh : Bs) (n : Nat) (sync : Bool) (keep : List Bool) : (safeT old fresh n sync keep).safe.length = 64 := by
  unfold safeT reviveS
  cases sync with
  | true => show (applyL (applyL _ _) _).length = _; rw [apply_len, apply_len]; exact safeSF_len _ _
  | false => show (applyL _ _).length = _; rw [apply_len]; exact safeSF_len _ _
theorem safeT_e (old fresh : Bs) (n : Nat) (sync : Bool) (keep : List Bool) {i : Nat} (hi : i < 64) : readE (safeT old fresh n sync keep) (i : Int) = 0 := by
  have h1 : rightAt (safeT old fresh n sync keep) (i : Int) = true := by unfold rightAt; rw [safeT_len]; simp; omega
  unfold readE
  rw [h1]
  rfl
theorem safe40 (old fresh : Bs) {n : Nat} (hn : n ≤ 64) (sync : Bool) (keep : List Bool) {i : Nat} (hi : i < n) : readB (safeT old fresh n sync keep) (i : Int) = List.replicate 64 (safeW old fresh sync keep i) := by
  have h1 : rightAt (safeT old fresh n sync keep) (i : Int) = true := by unfold rightAt; rw [safeT_len]; simp; omega
  have h2 : readB (safeT old fresh n sync keep) (i : Int) = (safeT old fresh n sync keep).safe.getD i [] := by unfold readB; rw [h1]; rfl
  have h3 : (safeSF old n).getD i [] = List.replicate 64 (old.getD i 0) := by unfold safeSF; rw [seq_apply _ _ _ _ (by simp; omega) (by simp; omega), if_pos hi]
  rw [h2]
  unfold safeW
  cases sync with
  | true =>
    show (applyL (applyL (safeSF old n) (seqW fresh n)) (keptL [] keep)).getD i [] = _
    rw [show keptL [] keep = [] from by cases keep <;> rfl]
    show (applyL (safeSF old n) (seqW fresh n)).getD i [] = _
    rw [seq_apply _ _ _ _ (by rw [safeSF_len]; omega) (by rw [safeSF_len]; omega), if_pos hi]
    rfl
  | false =>
    show (applyL (safeSF old n) (keptL (seqW fresh n) keep)).getD i [] = _
    have h4 := seq_kept (safeSF old n) fresh keep n n i (Nat.le_refl _) (by rw [safeSF_len]; omega) (by rw [safeSF_len]; omega)
    rw [List.take_of_length_le (by rw [seq_len]; omega)] at h4
    rw [h4, Bool.false_or]
    cases hk : keep.getD i false with
    | true => rw [if_pos ⟨hi, rfl⟩, if_pos rfl]
    | false => rw [if_neg (by simp), if_neg (by decide)]; exact h3
theorem byte_arg {w : World} {sp : Option Addr} {n c i : Nat} {l : Bs} (h : BytesAt w (.slice sp n c) l) (hi : i < l.length) : ∃ b o, sp = some ⟨b, o, none⟩ ∧ w.cell? ⟨b, o + i, none⟩ = some (.int .u8 ((l.getD i 0).toNat : Int)) := by
  obtain ⟨sp', c', e, _, _, hc⟩ := bytes_open h
  simp only [Value.slice.injEq] at e
  obtain ⟨b, o, e2, _, hcc⟩ := hc (by intro e; rw [e] at hi; simp at hi)
  exact ⟨b, o, e.1.trans e2, hcc i hi⟩
end Go.Proofs.Ytlmikagmcaicoaa
