/-
  Plain words on reading: the kids one after the other; whether one falls.
-/
import Derived.Test.YtngkidlgcdofhaaDoorRat9
namespace Go.Proofs.YtngkidlgcdofhaaDoor
theorem left_take {b : Bs} {s s' en : Nat} (h : s ≤ s') (he : s' ≤ en) : (leftB b s en).take (s' - s) = leftB b s s' := by
  unfold leftB
  rw [List.take_drop, List.take_take]
  congr 2
  omega
theorem fallsP_two (a b : Bs) (l : List Bs) : fallsP (a :: b :: l) = (lessP b a || fallsP (b :: l)) := rfl
/-- One more. -/
theorem falls_snoc (x : Bs) : ∀ l : List Bs, fallsP (l ++ [x]) = (fallsP l || match l.getLast? with | none => false | some y => lessP x y)
  | [] => rfl
  | [a] => by simp [fallsP]
  | a :: b :: l => by
    have ih := falls_snoc x (b :: l)
    rw [List.cons_append, List.cons_append, fallsP_two, fallsP_two, ← List.cons_append, ih, List.getLast?_cons_cons, Bool.or_assoc]
theorem falls_first (x : Bs) : fallsP ([] ++ [x]) = false := rfl
theorem falls_next (l : List Bs) (y x : Bs) : fallsP ((l ++ [y]) ++ [x]) = (fallsP (l ++ [y]) || lessP x y) := by
  rw [falls_snoc, List.getLast?_append]
  rfl
/-- Kids that were read, and what is told of the rest. -/
def prepK (d : List (DV × Bs)) : Told (List (DV × Bs)) → Told (List (DV × Bs))
  | .no e => .no e
  | .yes ks => .yes (d ++ ks)
theorem prep_nil (t : Told (List (DV × Bs))) : prepK [] t = t := by cases t <;> rfl
theorem kids_end (g : Bs → Told (DV × Bs)) (m : Nat) : kidsP g m [] = .yes [] := by unfold kidsP; rfl
theorem kids_cons (g : Bs → Told (DV × Bs)) (m : Nat) (c : UInt8) (l : Bs) : kidsP g (m + 1) (c :: l) = match g (c :: l) with
    | .no e => .no e
    | .yes (v, r) => match kidsP g m r with
      | .no e => .no e
      | .yes ks => .yes ((v, (c :: l).take ((c :: l).length - r.length)) :: ks) := rfl
theorem kids_no {g : Bs → Told (DV × Bs)} {m : Nat} {l : Bs} {e : Nat} (d : List (DV × Bs)) (hl : l ≠ []) (hm : l.length ≤ m) (h : g l = .no e) : prepK d (kidsP g m l) = .no e := by
  cases l with
  | nil => exact absurd rfl hl
  | cons c l =>
    cases m with
    | zero => simp at hm
    | succ m => rw [kids_cons, h]; rfl
theorem kids_yes {g : Bs → Told (DV × Bs)} {m : Nat} {l r : Bs} {v : DV} (d : List (DV × Bs)) (hl : l ≠ []) (hm : l.length ≤ m) (h : g l = .yes (v, r)) : prepK d (kidsP g m l) = prepK (d ++ [(v, l.take (l.length - r.length))]) (kidsP g (m - 1) r) := by
  cases l with
  | nil => exact absurd rfl hl
  | cons c l =>
    cases m with
    | zero => simp at hm
    | succ m =>
      rw [kids_cons, h]
      simp only [Nat.add_sub_cancel]
      cases kidsP g m r with
      | no e => rfl
      | yes ks => simp [prepK]
/-- A value, its tag and length read. -/
theorem value_open1 {f : Nat} {l : Bs} {e : Nat} (h : tagP l = .no e) : valueP formD (f + 1) l = .no e := by unfold valueP; rw [h]
theorem value_open2 {f : Nat} {l l1 : Bs} {c t : Nat} {m : Bool} {e : Nat} (h : tagP l = .yes (c, t, m, l1)) (h2 : lenP l1 = .no e) : valueP formD (f + 1) l = .no e := by unfold valueP; rw [h]; simp only []; rw [h2]
theorem value_open3 {f : Nat} {l l1 l2 : Bs} {c t n : Nat} {m : Bool} (h : tagP l = .yes (c, t, m, l1)) (h2 : lenP l1 = .yes (n, l2)) : valueP formD (f + 1) l =
    if l2.length < n then .no 20 else
        if formD c t m (if m then [] else l2.take n) ≠ 0 then .no (formD c t m (if m then [] else l2.take n)) else
        if m = false then .yes (.mk c t false (l2.take n) [], l2.drop n) else
        match kidsP (valueP formD f) n (l2.take n) with
        | .no e => .no e
        | .yes ks => if (fallsP (ks.map (·.2)) && decide (c = 0) && decide (t = 17)) = true then .no 25 else .yes (.mk c t true [] (ks.map (·.1)), l2.drop n) := by
  conv => lhs; unfold valueP
  rw [h]
  simp only []
  rw [h2]
  rfl
end Go.Proofs.YtngkidlgcdofhaaDoor
