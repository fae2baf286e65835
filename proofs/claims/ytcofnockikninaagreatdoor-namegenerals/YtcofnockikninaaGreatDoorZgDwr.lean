/- Parts of the walk. -/
import Derived.Test.YtcofnockikninaaGreatDoorZgRC
import Derived.Test.YtcofnockikninaaGreatDoorZgNum9
namespace Go.Proofs.YtcofnockikninaaGreatDoor
def prepA (d : List Bs) : Told (List Bs) → Told (List Bs)
 | .no e => .no e
 | .yes bs => .yes (d ++ bs)
theorem prepA_nil (t : Told (List Bs)) : prepA [] t = t := by cases t <;> rfl
theorem all_end (g : DV → Told Bs) : allP g [] = .yes [] := by unfold allP; rfl
theorem all_cons (g : DV → Told Bs) (v : DV) (l : List DV) : allP g (v :: l) = match g v with
  | .no e => .no e
  | .yes b => match allP g l with
   | .no e => .no e
   | .yes bs => .yes (b :: bs) := by
 conv => lhs; unfold allP
 rfl
theorem drop_at {ks : List DV} {i : Nat} {k : DV} (h : ks[i]? = some k) : ks.drop i = k :: ks.drop (i + 1) := by
 obtain ⟨hi, rfl⟩ := List.getElem?_eq_some_iff.1 h
 exact List.drop_eq_getElem_cons hi
theorem all_no {g : DV → Told Bs} {ks : List DV} {i : Nat} {k : DV} {e : Nat} (dn : List Bs) (h : ks[i]? = some k) (hg : g k = .no e) : prepA dn (allP g (ks.drop i)) = .no e := by
 rw [drop_at h, all_cons, hg]
 rfl
theorem all_yes {g : DV → Told Bs} {ks : List DV} {i : Nat} {k : DV} {x : Bs} (dn : List Bs) (h : ks[i]? = some k) (hg : g k = .yes x) : prepA dn (allP g (ks.drop i)) = prepA (dn ++ [x]) (allP g (ks.drop (i + 1))) := by
 rw [drop_at h, all_cons, hg]
 simp only []
 cases allP g (ks.drop (i + 1)) with
 | no e => rfl
 | yes bs => simp [prepA]
theorem all_done {g : DV → Told Bs} {ks : List DV} (dn : List Bs) : prepA dn (allP g (ks.drop ks.length)) = .yes dn := by
 rw [List.drop_length, all_end]
 show Told.yes (dn ++ []) = _
 rw [List.append_nil]
theorem write_unf (f : Nat) (c t : Int) (m : Bool) (b : Bs) (ks : List DV) : writeP formD (f + 1) (.mk c t m b ks) =
  if c < 0 ∨ 3 < c ∨ t < 0 ∨ 2097152 ≤ t then .no 21 else
  if formD c.toNat t.toNat m b = 21 then .no 21 else
  if formD c.toNat t.toNat m b ≠ 0 ∨ (m = true ∧ 0 < b.length) ∨ (m = false ∧ 0 < ks.length) then .no 24 else
  match allP (writeP formD f) ks with
  | .no e => .no e
  | .yes bs => if (fallsP bs && decide (c = 0) && decide (t = 17)) = true then .no 25 else .yes (tagB c.toNat t.toNat m ++ lenB (b ++ bs.flatten).length ++ (b ++ bs.flatten)) := by
 conv => lhs; unfold writeP
 rfl
theorem lenB_le {n : Nat} (h : n < 4294967296) : (lenB n).length ≤ 5 := by
 unfold lenB
 split
 ·simp
 ·rename_i h1
  have := (lowB_len4 (n := n) (by omega) h).2
  rw [List.length_cons, List.length_reverse]
  omega
mutual
theorem out_le : ∀ (f : Nat) (v : DV) (w : Bs), weight v ≤ 1000000 → writeP formD f v = .yes w → w.length ≤ 9 * weight v
 | 0, v, w, _, h => by simp [writeP] at h
 | f + 1, .mk c t m b ks, w, hw, h => by
  obtain ⟨_, _, _, _, _, _, _, bs, hbs, _, rfl⟩ := write_open h
  simp only [weight] at hw
  have h1 := outs_le f ks bs (by omega) hbs
  have h2 := len_tagB_le c.toNat t.toNat m
  have h3 := lenB_le (n := (b ++ bs.flatten).length) (by rw [List.length_append]; omega)
  simp only [weight, List.length_append] at h3 ⊢
  omega
theorem outs_le : ∀ (f : Nat) (ks : List DV) (bs : List Bs), weights ks ≤ 1000000 → allP (writeP formD f) ks = .yes bs → bs.flatten.length ≤ 9 * weights ks
 | f, [], bs, _, h => by rw [all_end] at h; cases h; simp [weights]
 | f, v :: l, bs, hw, h => by
  rw [all_cons] at h
  simp only [weights] at hw ⊢
  split at h
  ·cases h
  ·rename_i b hb
   split at h
   ·cases h
   ·rename_i bs' hbs
    cases h
    have h1 := out_le f v b (by omega) hb
    have h2 := outs_le f l bs' (by omega) hbs
    simp only [List.flatten_cons, List.length_append]
    omega
end
theorem some_le (f : Nat) : ∀ (ks : List DV) (i : Nat) (dn : List Bs), weights ks ≤ 1000000 → allP (writeP formD f) (ks.take i) = .yes dn → dn.flatten.length ≤ 9000000 := fun ks i dn hw h => by
 have h1 : weights (ks.take i) ≤ weights ks := by
  clear h hw
  induction ks generalizing i with
  | nil => simp
  | cons v l ih =>
   cases i with
   | zero => simp [weights]
   | succ i => simp only [List.take_succ_cons, weights]; have := ih i; omega
 have := outs_le f _ _ (by omega) h
 omega
theorem all_snoc {g : DV → Told Bs} {ks : List DV} {i : Nat} {k : DV} {x : Bs} {dn : List Bs} (h : allP g (ks.take i) = .yes dn) (hk : ks[i]? = some k) (hg : g k = .yes x) : allP g (ks.take (i + 1)) = .yes (dn ++ [x]) := by
 have key : ∀ (l : List DV) (dn : List Bs), allP g l = .yes dn → allP g (l ++ [k]) = .yes (dn ++ [x]) := fun l => by
  induction l with
  | nil => intro dn h; rw [all_end] at h; cases h; rw [List.nil_append, all_cons, hg, all_end]; rfl
  | cons v l ih =>
   intro dn h
   rw [all_cons] at h
   rw [List.cons_append, all_cons]
   split at h
   ·cases h
   ·rename_i b hb
    split at h
    ·cases h
    ·rename_i bs hbs
     cases h
     rw [ih bs hbs]
     rfl
 rw [List.take_add_one, hk]
 exact key _ _ h
end Go.Proofs.YtcofnockikninaaGreatDoor
