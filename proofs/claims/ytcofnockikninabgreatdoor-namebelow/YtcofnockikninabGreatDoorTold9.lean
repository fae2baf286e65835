/-
  What layer 9's functions promise, in plain words.
-/
import Derived.Test.YtcofnockikninabGreatDoorVrep9
import Derived.Test.YtcofnockikninabGreatDoorDwhole
namespace Go.Proofs.YtcofnockikninabGreatDoor
open Go.RowKit
def errOf {α : Type} : Told α → Nat
  | .no e => e
  | .yes _ => 0
def valOf : Told DV → DV
  | .no _ => .mk 0 0 false [] []
  | .yes v => v
def bytesOf : Told Bs → Bs
  | .no _ => []
  | .yes b => b
/-- Reading, writing, printable. -/
structure Der (R : World → Prop) : Prop where
  below : ∀ a b, R a → Below a.heap.size a b → R b
  write : ∀ (w : World) (S : Nat → Prop) (cs : List Value) (v : DV), R w → ValAt S w cs v → weight v ≤ 1000000 → Calls Tryz.prog 41 #[.agg cs.toArray] w fun e w' => ∃ x, e = .returned (.tuple #[x, .int .i64 (errOf (writeTop formD v) : Int)]) ∧ OwnB w' w.heap.size x (bytesOf (writeTop formD v)) ∧ Below w.heap.size w w'
/-- No error is nought. -/
theorem write_pos (form : Form) : ∀ (f : Nat) (v : DV) (e : Nat), writeP form f v = .no e → e ≠ 0
  | 0, v, e, h => by simp [writeP] at h; omega
  | f + 1, .mk c t m b ks, e, h => by
    unfold writeP at h
    split at h
    · cases h; omega
    split at h
    · cases h; omega
    split at h
    · cases h; omega
    split at h
    · rename_i e' he
      cases h
      have key : ∀ l : List DV, ∀ e, allP (writeP form f) l = .no e → e ≠ 0 := fun l => by
        induction l with
        | nil => intro e h; simp [allP] at h
        | cons v l ih =>
          intro e h
          unfold allP at h
          split at h
          · rename_i e2 h2
            cases h
            exact write_pos form f v _ h2
          · split at h
            · rename_i e2 h2
              cases h
              exact ih _ h2
            · cases h
      exact key ks _ he
    · split at h
      · cases h; omega
      · cases h
/-- The kids' count never runs out. -/
theorem value_less {form : Form} : ∀ {f : Nat} {l r : Bs} {v : DV}, valueP form f l = .yes (v, r) → r.length < l.length := fun {f l r v} h => by
  obtain ⟨w, hw, rfl⟩ := value_back form f l r v h
  cases f with
  | zero => simp [writeP] at hw
  | succ f =>
    obtain ⟨c, t, m, b, ks⟩ := v
    obtain ⟨_, _, _, _, _, _, _, bs, _, _, rfl⟩ := write_open hw
    have := len_tagB c.toNat t.toNat m
    simp only [List.length_append]
    omega
theorem kids_pos {form : Form} {f : Nat} (ih : ∀ (l : Bs) (e : Nat), valueP form f l = .no e → e ≠ 0) : ∀ (k : Nat) (l : Bs) (e : Nat), l.length ≤ k → kidsP (valueP form f) k l = .no e → e ≠ 0
  | k, [], e, _, h => by unfold kidsP at h; cases h
  | 0, c :: l, e, hk, h => by simp at hk
  | k + 1, c :: l, e, hk, h => by
    unfold kidsP at h
    split at h
    · rename_i e' he
      cases h
      exact ih _ _ he
    · rename_i v r hv
      split at h
      · rename_i e' he
        cases h
        have := value_less hv
        exact kids_pos ih k r _ (by simp only [List.length_cons] at hk this; omega) he
      · cases h
theorem long_pos : ∀ (l : Bs) (i acc e : Nat), longP i acc l = .no e → e ≠ 0
  | [], i, acc, e, h => by unfold longP at h; cases h; omega
  | c :: l, i, acc, e, h => by
    unfold longP at h
    split at h
    · cases h; omega
    · split at h
      · cases h
      · exact long_pos l _ _ _ h
theorem tag_pos {l : Bs} {e : Nat} (h : tagP l = .no e) : e ≠ 0 := by
  cases l with
  | nil => unfold tagP at h; cases h; omega
  | cons c l =>
    rw [tagP_cons] at h
    split at h
    · cases h
    · split at h
      · rename_i e' he
        cases h
        exact long_pos _ _ _ _ he
      · split at h
        · cases h; omega
        · cases h
theorem length_pos {l : Bs} {e : Nat} (h : lenP l = .no e) : e ≠ 0 := by
  cases l with
  | nil => unfold lenP at h; cases h; omega
  | cons c l =>
    rw [lenP_cons] at h
    split at h
    · cases h
    split at h
    · cases h; omega
    split at h
    · cases h; omega
    split at h
    · cases h; omega
    · cases h
theorem value_pos {form : Form} : ∀ (f : Nat) (l : Bs) (e : Nat), valueP form f l = .no e → e ≠ 0
  | 0, l, e, h => by unfold valueP at h; cases h; omega
  | f + 1, l, e, h => by
    unfold valueP at h
    split at h
    · rename_i e' he
      cases h
      exact tag_pos he
    · rename_i c t m l1 ht
      split at h
      · rename_i e' he
        cases h
        exact length_pos he
      · rename_i n l2 hn
        split at h
        · cases h; omega
        · rename_i hlen
          cases m with
          | false =>
            simp only [Bool.false_eq_true, if_false, if_true] at h
            split at h
            · rename_i hf
              cases h
              exact hf
            · cases h
          | true =>
            simp only [if_true, Bool.true_eq_false, if_false] at h
            split at h
            · rename_i hf
              cases h
              exact hf
            · split at h
              · rename_i e' he
                cases h
                exact kids_pos (value_pos f) n _ _ (by rw [List.length_take]; omega) he
              · split at h
                · cases h; omega
                · cases h
theorem read_pos {form : Form} {b : Bs} {e : Nat} (h : readP form b = .no e) : e ≠ 0 := by
  unfold readP at h
  split at h
  · cases h; omega
  · split at h
    · rename_i e' he
      cases h
      exact value_pos 17 b _ he
    · split at h
      · cases h; omega
      · cases h
theorem top_pos (form : Form) (v : DV) (e : Nat) (h : writeTop form v = .no e) : e ≠ 0 := by
  unfold writeTop at h
  split at h
  · rename_i e' he
    cases h
    exact write_pos form 17 v _ he
  · split at h
    · cases h; omega
    · cases h
/-- What is written is read. -/
theorem read_written {form : Form} {v : DV} {b : Bs} (h : writeTop form v = .yes b) : readP form b = .yes v := by
  unfold writeTop at h
  split at h
  · cases h
  · rename_i w hw
    split at h
    · cases h
    · rename_i hl
      injection h with h
      subst h
      have := (value_there form 17 v w [] hw (by omega)).2
      rw [List.append_nil] at this
      unfold readP
      rw [if_neg hl, this]
      simp
/-- What is read is written. -/
theorem write_read {form : Form} {v : DV} {b : Bs} (h : readP form b = .yes v) : writeTop form v = .yes b := by
  unfold readP at h
  split at h
  · cases h
  · rename_i hl
    split at h
    · cases h
    · rename_i v' r hv
      split at h
      · cases h
      · rename_i hr
        injection h with h
        subst h
        have e : r = [] := List.eq_nil_of_length_eq_zero (by omega)
        subst e
        obtain ⟨w, hw, hb⟩ := value_back form 17 b [] v' hv
        rw [List.append_nil] at hb
        subst hb
        unfold writeTop
        rw [hw]
        simp only []
        rw [if_neg hl]
mutual
/-- A value is no heavier than its bytes. -/
theorem weight_le (form : Form) : ∀ (f : Nat) (v : DV) (w : Bs), writeP form f v = .yes w → weight v ≤ w.length
  | 0, v, w, h => by simp [writeP] at h
  | f + 1, .mk c t m b ks, w, h => by
    obtain ⟨_, _, _, _, _, _, _, bs, hbs, _, rfl⟩ := write_open h
    have h1 := weights_le form f ks bs hbs
    have h2 := len_tagB c.toNat t.toNat m
    simp only [weight, List.length_append]
    omega
theorem weights_le (form : Form) : ∀ (f : Nat) (ks : List DV) (bs : List Bs), allP (writeP form f) ks = .yes bs → weights ks ≤ bs.flatten.length
  | f, [], bs, h => by unfold allP at h; cases h; simp [weights]
  | f, v :: l, bs, h => by
    unfold allP at h
    split at h
    · cases h
    · rename_i b hb
      split at h
      · cases h
      · rename_i bs' hbs
        cases h
        have h1 := weight_le form f v b hb
        have h2 := weights_le form f l bs' hbs
        simp only [weights, List.flatten_cons, List.length_append]
        omega
end
theorem read_light {form : Form} {b : Bs} : weight (valOf (readP form b)) ≤ 65536 := by
  cases h : readP form b with
  | no e => simp [valOf, weight, weights]
  | yes v =>
    have h1 := write_read h
    unfold writeTop at h1
    split at h1
    · cases h1
    · rename_i w hw
      split at h1
      · cases h1
      · cases h1
        have := weight_le form 17 v _ hw
        simp only [valOf]
        omega
end Go.Proofs.YtcofnockikninabGreatDoor
