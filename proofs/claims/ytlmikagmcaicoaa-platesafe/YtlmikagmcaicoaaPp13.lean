/-
  Plain words on a plate (layer 13): its sectors, the writes that aren't safe, what each call does.
-/
namespace Go.Proofs.Ytlmikagmcaicoaa
abbrev Bs := List UInt8
structure PS where
  safe : List Bs
  loose : List (Nat × Bs)
  left : Int
  down : Bool
def zeros : Bs := List.replicate 64 0
def newS (n : Nat) : PS := ⟨List.replicate n zeros, [], -1, false⟩
/-- A write or a sync is about to be done. -/
def tickS (s : PS) : PS := ⟨s.safe, s.loose, if 0 < s.left then s.left - 1 else s.left, if s.left = 0 then true else s.down⟩
def rightAt (s : PS) (a : Int) : Bool := decide (0 ≤ a) && decide (a < s.safe.length)
def writeE (s : PS) (a : Int) (b : Bs) : Int := if s.down then 50 else if !(rightAt s a && decide (b.length = 64)) then 51 else if (tickS s).down then 50 else 0
def writeS (s : PS) (a : Int) (b : Bs) : PS := if s.down then s else if !(rightAt s a && decide (b.length = 64)) then s else if (tickS s).down then tickS s else ⟨(tickS s).safe, (tickS s).loose ++ [(a.toNat, b)], (tickS s).left, (tickS s).down⟩
def applyL (sf : List Bs) (l : List (Nat × Bs)) : List Bs := l.foldl (fun sf x => sf.set x.1 x.2) sf
def readE (s : PS) (a : Int) : Int := if s.down then 50 else if !rightAt s a then 51 else 0
def readB (s : PS) (a : Int) : Bs := if s.down then [] else if !rightAt s a then [] else (applyL s.safe s.loose).getD a.toNat []
def syncE (s : PS) : Int := if s.down || (tickS s).down then 50 else 0
def syncS (s : PS) : PS := if s.down then s else if (tickS s).down then tickS s else ⟨applyL s.safe s.loose, [], (tickS s).left, (tickS s).down⟩
def armS (s : PS) (n : Int) : PS := ⟨s.safe, s.loose, max n (-1), s.down⟩
def keptL : List (Nat × Bs) → List Bool → List (Nat × Bs)
  | x :: l, k :: ks => if k then x :: keptL l ks else keptL l ks
  | _, _ => []
def reviveS (s : PS) (keep : List Bool) : PS := ⟨applyL s.safe (keptL s.loose keep), [], -1, false⟩
/-- What is always so. -/
structure PS.Ok (s : PS) : Prop where
  few : s.safe.length ≤ 16384
  safe : ∀ b ∈ s.safe, b.length = 64
  loose : ∀ x ∈ s.loose, x.1 < s.safe.length ∧ x.2.length = 64
  left : -1 ≤ s.left
  most : s.left ≤ 9223372036854775807
theorem zeros_len : zeros.length = 64 := List.length_replicate
theorem ok_new {n : Nat} (h : n ≤ 16384) : (newS n).Ok := by
  refine ⟨?_, ?_, ?_, ?_, ?_⟩
  · show (List.replicate n zeros).length ≤ _; rw [List.length_replicate]; exact h
  · intro b hb; have := List.eq_of_mem_replicate hb; subst this; exact zeros_len
  · intro x hx; cases hx
  · show (-1 : Int) ≤ -1; omega
  · show (-1 : Int) ≤ _; omega
theorem PS.Ok.tick {s : PS} (h : s.Ok) : (tickS s).Ok := by
  refine ⟨h.few, h.safe, h.loose, ?_, ?_⟩ <;> (have h1 := h.left; have h2 := h.most; unfold tickS; dsimp only; split <;> omega)
theorem apply_len (sf : List Bs) (l : List (Nat × Bs)) : (applyL sf l).length = sf.length := by
  unfold applyL
  induction l generalizing sf with
  | nil => rfl
  | cons x l ih => rw [List.foldl_cons, ih, List.length_set]
theorem apply_all {sf : List Bs} {l : List (Nat × Bs)} (h1 : ∀ b ∈ sf, b.length = 64) (h2 : ∀ x ∈ l, x.2.length = 64) : ∀ b ∈ applyL sf l, b.length = 64 := by
  unfold applyL
  induction l generalizing sf with
  | nil => exact h1
  | cons x l ih =>
    rw [List.foldl_cons]
    refine ih (fun b hb => ?_) (fun y hy => h2 y (List.mem_cons_of_mem _ hy))
    rcases List.mem_or_eq_of_mem_set hb with h | h
    · exact h1 b h
    · subst h; exact h2 x List.mem_cons_self
theorem apply_app (sf : List Bs) (l m : List (Nat × Bs)) : applyL sf (l ++ m) = applyL (applyL sf l) m := by unfold applyL; rw [List.foldl_append]
theorem apply_one (sf : List Bs) (x : Nat × Bs) : applyL sf [x] = sf.set x.1 x.2 := rfl
theorem kept_mem : ∀ {l : List (Nat × Bs)} {ks : List Bool} {x : Nat × Bs}, x ∈ keptL l ks → x ∈ l
  | [], [], x, h => by simp [keptL] at h
  | [], _ :: _, x, h => by simp [keptL] at h
  | _ :: _, [], x, h => by simp [keptL] at h
  | y :: l, k :: ks, x, h => by
    unfold keptL at h
    split at h
    · rcases List.mem_cons.1 h with h | h
      · subst h; exact List.mem_cons_self
      · exact List.mem_cons_of_mem _ (kept_mem h)
    · exact List.mem_cons_of_mem _ (kept_mem h)
theorem PS.Ok.write {s : PS} (h : s.Ok) (a : Int) (b : Bs) : (writeS s a b).Ok := by
  unfold writeS
  split
  · exact h
  · split
    · exact h
    · rename_i h1 h2
      split
      · exact h.tick
      · have ht := h.tick
        refine ⟨ht.few, ht.safe, fun x hx => ?_, ht.left, ht.most⟩
        rcases List.mem_append.1 hx with hx | hx
        · exact ht.loose x hx
        · simp only [List.mem_singleton] at hx
          subst hx
          simp only [rightAt, Bool.not_eq_true', Bool.not_eq_false, Bool.and_eq_true, decide_eq_true_eq] at h2
          refine ⟨?_, h2.2⟩
          show a.toNat < s.safe.length
          omega
theorem PS.Ok.applied {s : PS} (h : s.Ok) {l : List (Nat × Bs)} (hl : ∀ x ∈ l, x ∈ s.loose) {L : Int} (h1 : -1 ≤ L) (h2 : L ≤ 9223372036854775807) (d : Bool) : (⟨applyL s.safe l, [], L, d⟩ : PS).Ok := by
  refine ⟨?_, apply_all h.safe fun x hx => (h.loose x (hl x hx)).2, fun x hx => (by cases hx), h1, h2⟩
  show (applyL _ _).length ≤ _
  rw [apply_len]; exact h.few
theorem PS.Ok.sync {s : PS} (h : s.Ok) : (syncS s).Ok := by
  unfold syncS
  split
  · exact h
  · split
    · exact h.tick
    · exact h.applied (fun x hx => hx) h.tick.left h.tick.most _
theorem PS.Ok.arm {s : PS} (h : s.Ok) {n : Int} (hn : n ≤ 9223372036854775807) : (armS s n).Ok := ⟨h.few, h.safe, h.loose, by show -1 ≤ max n (-1); omega, by show max n (-1) ≤ _; omega⟩
theorem PS.Ok.revive {s : PS} (h : s.Ok) (keep : List Bool) : (reviveS s keep).Ok := h.applied (fun x hx => kept_mem hx) (by omega) (by omega) _
theorem PS.Ok.readLen {s : PS} (h : s.Ok) {a : Int} (h1 : readE s a = 0) : (readB s a).length = 64 := by
  unfold readE at h1
  unfold readB
  split
  · rename_i hd; rw [if_pos hd] at h1; omega
  · rename_i hd
    rw [if_neg hd] at h1
    split
    · rename_i hr; rw [if_pos hr] at h1; omega
    · rename_i hr
      simp only [rightAt, Bool.not_eq_true', Bool.not_eq_false, Bool.and_eq_true, decide_eq_true_eq] at hr
      have hlt : a.toNat < (applyL s.safe s.loose).length := by rw [apply_len]; omega
      rw [List.getD_eq_getElem?_getD, List.getElem?_eq_getElem hlt, Option.getD_some]
      exact apply_all h.safe (fun x hx => (h.loose x hx).2) _ (List.getElem_mem hlt)
end Go.Proofs.Ytlmikagmcaicoaa
