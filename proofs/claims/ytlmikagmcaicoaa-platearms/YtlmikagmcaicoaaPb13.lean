/-
  The landed plate in memory; its small functions, step and New, walked.
-/
import Derived.Test.YtlmikagmcaicoaaPa13
namespace Go.Proofs.Ytlmikagmcaicoaa
open Go.RowKit
/-- The cells of a row of writes. -/
def wcells (l : List (Nat × Bs)) : List Value := l.flatMap fun x => .int .i64 (x.1 : Int) :: x.2.map bv
theorem wcells_cons (x : Nat × Bs) (l : List (Nat × Bs)) : wcells (x :: l) = (.int .i64 (x.1 : Int) :: x.2.map bv) ++ wcells l := rfl
theorem wcells_app (l : List (Nat × Bs)) (x : Nat × Bs) : wcells (l ++ [x]) = wcells l ++ (.int .i64 (x.1 : Int) :: x.2.map bv) := by unfold wcells; simp
theorem wcells_len : ∀ {l : List (Nat × Bs)}, (∀ x ∈ l, x.2.length = 64) → (wcells l).length = l.length * 65
  | [], _ => rfl
  | x :: l, h => by
    have := wcells_len (l := l) fun y hy => h y (List.mem_cons_of_mem _ hy)
    have hx := h x List.mem_cons_self
    rw [wcells_cons, List.length_append, this, List.length_cons, List.length_cons, List.length_map, hx]
    omega
theorem wcells_at : ∀ {l : List (Nat × Bs)} {i : Nat} {x : Nat × Bs}, (∀ x ∈ l, x.2.length = 64) → l[i]? = some x → ∀ j < 65, (wcells l)[i * 65 + j]? = (.int .i64 (x.1 : Int) :: x.2.map bv : List Value)[j]?
  | [], i, x, _, h, _, _ => by simp at h
  | y :: l, 0, x, hl, h, j, hj => by
    simp only [List.getElem?_cons_zero, Option.some.injEq] at h
    subst h
    have hx := hl y List.mem_cons_self
    rw [wcells_cons, List.getElem?_append_left (by simp [hx]; omega)]
    simp
  | y :: l, i + 1, x, hl, h, j, hj => by
    have ih := wcells_at (l := l) (i := i) (x := x) (fun z hz => hl z (List.mem_cons_of_mem _ hz)) (by simpa using h) j hj
    have hx := hl y List.mem_cons_self
    rw [wcells_cons, List.getElem?_append_right (by simp [hx]; omega)]
    rw [show (i + 1) * 65 + j - (Value.int IntKind.i64 (y.1 : Int) :: y.2.map bv).length = i * 65 + j by simp [hx]; omega]
    exact ih
theorem wcells_one : ∀ (l : List (Nat × Bs)), ∀ u ∈ wcells l, u.oneCell' = true := by
  intro l u hu
  unfold wcells at hu
  obtain ⟨x, _, hx⟩ := List.mem_flatMap.1 hu
  rcases List.mem_cons.1 hx with rfl | h
  · rfl
  · obtain ⟨y, _, rfl⟩ := List.mem_map.1 h; rfl
/-- The parts of a plate. -/
structure PForm (B T M : Nat) (w : World) (lv : Value) (s : PS) : Prop where
  str : w.heap[B]? = some (.cells [.int .i64 (s.safe.length : Int), .map (some T), .map (some M), lv, .int .i64 s.left, .bool s.down].toArray 61 (0, 0))
  there : MAt w T fun k => (applyL s.safe s.loose).getD k zeros
  safe : MAt w M fun k => s.safe.getD k zeros
  own : OwnN 66 65 w 0 lv s.loose.length (wcells s.loose)
  bt : B ≠ T
  bm : B ≠ M
  tm : T ≠ M
  lB : lv.ownBlock ≠ some B
  lT : lv.ownBlock ≠ some T
  lM : lv.ownBlock ≠ some M
  ok : s.Ok
/-- A plate in memory: the blocks of S. -/
def PAt (S R : Set_) (w : World) (p : Value) (s : PS) : Prop := ∃ B T M lv, p = .pointer (some ⟨B, 0, none⟩) ∧ PForm B T M w lv s ∧ (∀ k, S k ↔ (k = B ∨ k = T ∨ k = M ∨ lv.ownBlock = some k)) ∧ ∀ k, ¬ R k
theorem heap_lt {w : World} {B : Nat} {o : Obj} (h : w.heap[B]? = some o) : B < w.heap.size := (Array.getElem?_eq_some_iff.1 h).1
theorem PForm.aside {B T M : Nat} {S : Set_} {w w' : World} {lv : Value} {s : PS} (h : PForm B T M w lv s) (hb : Aside S w w') (hs : ∀ k, S k → k ≠ B ∧ k ≠ T ∧ k ≠ M ∧ lv.ownBlock ≠ some k) : PForm B T M w' lv s :=
  ⟨by rw [hb.block B (heap_lt h.str) fun hS => (hs B hS).1 rfl]; exact h.str, h.there.aside hb fun hS => (hs T hS).2.1 rfl, h.safe.aside hb fun hS => (hs M hS).2.2.1 rfl, h.own.aside hb fun k hk hS => (hs k hS).2.2.2 hk, h.bt, h.bm, h.tm, h.lB, h.lT, h.lM, h.ok⟩
theorem six_row {w : World} {R : Nat} {a b c d e f : Value} {T : TypeId} (h : w.heap[R]? = some (.cells [a, b, c, d, e, f].toArray T (0, 0))) : w.cell? ⟨R, 0, none⟩ = some a ∧ w.cell? ⟨R, 1, none⟩ = some b ∧ w.cell? ⟨R, 2, none⟩ = some c ∧ w.cell? ⟨R, 3, none⟩ = some d ∧ w.cell? ⟨R, 4, none⟩ = some e ∧ w.cell? ⟨R, 5, none⟩ = some f :=
  ⟨row_cell h 0 _ rfl, row_cell h 1 _ rfl, row_cell h 2 _ rfl, row_cell h 3 _ rfl, row_cell h 4 _ rfl, row_cell h 5 _ rfl⟩
set_option maxRecDepth 100000 in
theorem sectors_c {S R : Set_} {w : World} {p : Value} {s : PS} (h : PAt S R w p s) : Calls Try.prog 15 #[p] w fun e w' => e = .returned (.int .i64 (s.safe.length : Int)) ∧ Below w.heap.size w w' := by
  obtain ⟨B, T, M, lv, rfl, hf, _, _⟩ := h
  obtain ⟨k0, _⟩ := six_row hf.str
  obtain ⟨N, hN⟩ : ∃ x, s.safe.length = x := ⟨_, rfl⟩
  rw [hN] at k0 ⊢
  clear hf hN
  go_enter Try.func15, Try.ntmps15
  go_wp2
  go_ret
  exact ⟨rfl, Below.refl _ _⟩
set_option maxRecDepth 100000 in
theorem down_c {S R : Set_} {w : World} {p : Value} {s : PS} (h : PAt S R w p s) : Calls Try.prog 13 #[p] w fun e w' => e = .returned (.bool s.down) ∧ Below w.heap.size w w' := by
  obtain ⟨B, T, M, lv, rfl, hf, _, _⟩ := h
  obtain ⟨_, _, _, _, _, k5⟩ := six_row hf.str
  clear hf
  go_enter Try.func13, Try.ntmps13
  go_wp2
  go_ret
  exact ⟨rfl, Below.refl _ _⟩
set_option maxRecDepth 100000 in
theorem loose_c {S R : Set_} {w : World} {p : Value} {s : PS} (h : PAt S R w p s) : Calls Try.prog 14 #[p] w fun e w' => e = .returned (.int .i64 (s.loose.length : Int)) ∧ Below w.heap.size w w' := by
  obtain ⟨B, T, M, lv, rfl, hf, _, _⟩ := h
  obtain ⟨sp, c, rfl, _⟩ := hf.own.form
  obtain ⟨_, _, _, k3, _⟩ := six_row hf.str
  obtain ⟨N, hN⟩ : ∃ x, s.loose.length = x := ⟨_, rfl⟩
  rw [hN] at k3 ⊢
  clear hf hN
  go_enter Try.func14, Try.ntmps14
  go_wp2
  go_ret
  exact ⟨rfl, Below.refl _ _⟩
set_option maxRecDepth 100000 in
theorem has_c (w : World) (B N : Nat) (a : Int) (k0 : w.cell? ⟨B, 0, none⟩ = some (.int .i64 (N : Int))) : Calls Try.prog 29 #[.pointer (some ⟨B, 0, none⟩), .int .i64 a] w fun e w' => e = .returned (.bool (decide (0 ≤ a) && decide (a < (N : Int)))) ∧ w' = w := by
  by_cases h1 : 0 ≤ a
  · have d1 : decide (0 ≤ a) = true := decide_eq_true h1
    by_cases h2 : a < (N : Int)
    · have d2 : decide (a < (N : Int)) = true := decide_eq_true h2
      rw [d1, d2]
      go_enter Try.func29, Try.ntmps29
      go_wp2
      go_ret
      exact ⟨rfl, rfl⟩
    · have d2 : decide (a < (N : Int)) = false := decide_eq_false h2
      rw [d1, d2]
      go_enter Try.func29, Try.ntmps29
      go_wp2
      go_ret
      exact ⟨rfl, rfl⟩
  · have d1 : decide (0 ≤ a) = false := decide_eq_false h1
    rw [d1, Bool.false_and]
    go_enter Try.func29, Try.ntmps29
    go_wp2
    go_ret
    exact ⟨rfl, rfl⟩
/-- step, of a plate that is down. -/
def downTo (left : Int) (down : Bool) : Bool := if left = 0 then true else down
def leftTo (left : Int) (down : Bool) : Int := if down then left else if 0 < left then left - 1 else left
set_option maxRecDepth 100000 in
theorem pstep_c (w : World) (B : Nat) (n t m l : Value) (left : Int) (down : Bool) (h : w.heap[B]? = some (.cells [n, t, m, l, .int .i64 left, .bool down].toArray 61 (0, 0))) (h0 : -1 ≤ left) (h1 : left ≤ 9223372036854775807) :
    Calls Try.prog 32 #[.pointer (some ⟨B, 0, none⟩)] w fun e w' => e = .returned (.bool (!(downTo left down))) ∧ w'.heap[B]? = some (.cells [n, t, m, l, .int .i64 (leftTo left down), .bool (downTo left down)].toArray 61 (0, 0)) ∧ w.grownBy w' (some B) := by
  obtain ⟨_, _, _, _, k4, k5⟩ := six_row h
  have z5 := row_frozen h 5
  cases down with
  | true =>
    have e1 : downTo left true = true := by unfold downTo; split <;> rfl
    have e2 : leftTo left true = left := rfl
    rw [e1, e2]
    have hw1 := row_put h 5 (by simp) (.bool true)
    have q5 := row_cell hw1 5 (.bool true) rfl
    have HG := hide (setCell_grown (w := w) B 5 (.bool true))
    have H1 := hide hw1
    obtain ⟨w1, ew⟩ : ∃ x, w.setCell ⟨B, 5, none⟩ (.bool true) = x := ⟨_, rfl⟩
    rw [ew] at q5 H1 HG
    clear hw1 h e1 e2
    go_enter Try.func32, Try.ntmps32
    go_wp2
    go_ret
    exact ⟨rfl, unhide H1, unhide HG⟩
  | false =>
    by_cases hl : left = 0
    · subst hl
      have e1 : downTo 0 false = true := rfl
      have e2 : leftTo 0 false = 0 := rfl
      rw [e1, e2]
      have hw1 := row_put h 5 (by simp) (.bool true)
      have q5 := row_cell hw1 5 (.bool true) rfl
      have HG := hide (setCell_grown (w := w) B 5 (.bool true))
      have H1 := hide hw1
      obtain ⟨w1, ew⟩ : ∃ x, w.setCell ⟨B, 5, none⟩ (.bool true) = x := ⟨_, rfl⟩
      rw [ew] at q5 H1 HG
      clear hw1 h e1 e2
      go_enter Try.func32, Try.ntmps32
      go_wp2
      go_ret
      exact ⟨rfl, unhide H1, unhide HG⟩
    · have e1 : downTo left false = false := by unfold downTo; rw [if_neg hl]
      have b1 : (left == 0) = false := by simpa using hl
      have hw1 := row_put h 5 (by simp) (.bool false)
      have q5 := row_cell hw1 5 (.bool false) rfl
      have q4 := row_cell hw1 4 (.int .i64 left) rfl
      have y4 := row_frozen hw1 4
      have hg1 := setCell_grown (w := w) B 5 (.bool false)
      obtain ⟨w1, ew⟩ : ∃ x, w.setCell ⟨B, 5, none⟩ (.bool false) = x := ⟨_, rfl⟩
      rw [ew] at q5 hw1 hg1 q4 y4
      rw [e1]
      by_cases hp : 0 < left
      · have e2 : leftTo left false = left - 1 := by unfold leftTo; rw [if_neg (by simp), if_pos hp]
        have d1 : decide (0 < left) = true := decide_eq_true hp
        have hwr : IntKind.i64.wrap (left - 1) = left - 1 := IntWalk.i64_in _ (by omega)
        have hw2 := row_put hw1 4 (by simp) (.int .i64 (left - 1))
        have r5 := row_cell hw2 5 (.bool false) rfl
        have HG := hide (grown_trans hg1 (setCell_grown (w := w1) B 4 (.int .i64 (left - 1))))
        have H1 := hide hw2
        obtain ⟨w2, ew2⟩ : ∃ x, w1.setCell ⟨B, 4, none⟩ (.int .i64 (left - 1)) = x := ⟨_, rfl⟩
        rw [ew2] at r5 H1 HG
        rw [e2]
        clear hw1 hw2 h e1 e2 hg1 hl
        go_enter Try.func32, Try.ntmps32
        go_wp2
        go_ret
        exact ⟨rfl, unhide H1, unhide HG⟩
      · have e2 : leftTo left false = left := by unfold leftTo; rw [if_neg (by simp), if_neg hp]
        have d1 : decide (0 < left) = false := decide_eq_false hp
        have HG := hide hg1
        have H1 := hide hw1
        rw [e2]
        clear hw1 h e1 e2 hg1 hl
        go_enter Try.func32, Try.ntmps32
        go_wp2
        go_ret
        exact ⟨rfl, unhide H1, unhide HG⟩
/-- Another head, all else as it was. -/
theorem PForm.head {B T M : Nat} {w w' : World} {lv : Value} {s : PS} (h : PForm B T M w lv s) (hg : w.grownBy w' (some B)) (L : Int) (d : Bool) (hok : (⟨s.safe, s.loose, L, d⟩ : PS).Ok)
    (hs : w'.heap[B]? = some (.cells [.int .i64 (s.safe.length : Int), .map (some T), .map (some M), lv, .int .i64 L, .bool d].toArray 61 (0, 0))) : PForm B T M w' lv ⟨s.safe, s.loose, L, d⟩ := by
  have hb : Aside (fun k => k = B) w w' := Aside.of_grown hg fun k hk => (Option.some.inj hk).symm
  exact ⟨hs, h.there.aside hb fun e => h.bt e.symm, h.safe.aside hb fun e => h.bm e.symm, h.own.aside hb fun k hk e => h.lB (e ▸ hk), h.bt, h.bm, h.tm, h.lB, h.lT, h.lM, hok⟩
set_option maxRecDepth 100000 in
theorem arm_c {S R : Set_} {w : World} {p : Value} {s : PS} (n : Int) (h : PAt S R w p s) (hn1 : -9223372036854775808 ≤ n) (hn2 : n ≤ 9223372036854775807) :
    Calls Try.prog 25 #[p, .int .i64 n] w fun e w' => e = .returned (.tuple #[]) ∧ ∃ S' R', PAt S' R' w' p (armS s n) ∧ (∀ k, S' k → S k ∨ w.heap.size ≤ k) ∧ (∀ k, R' k → R k ∨ w.heap.size ≤ k) ∧ Aside S w w' := by
  obtain ⟨B, T, M, lv, rfl, hf, hS, hR⟩ := h
  obtain ⟨_, _, _, _, k4, _⟩ := six_row hf.str
  have z4 := row_frozen hf.str 4
  have HW : Hid (∃ S' R', PAt S' R' (w.setCell ⟨B, 4, none⟩ (.int .i64 (max n (-1)))) (.pointer (some ⟨B, 0, none⟩)) (armS s n) ∧ (∀ k, S' k → S k ∨ w.heap.size ≤ k) ∧ (∀ k, R' k → R k ∨ w.heap.size ≤ k) ∧ Aside S w (w.setCell ⟨B, 4, none⟩ (.int .i64 (max n (-1))))) :=
    ⟨S, R, ⟨B, T, M, lv, rfl, hf.head (setCell_grown B 4 _) (max n (-1)) s.down (hf.ok.arm hn2) (row_put hf.str 4 (by simp) _), hS, hR⟩, fun k hk => Or.inl hk, fun k hk => Or.inl hk, Aside.of_grown (setCell_grown B 4 _) fun k hk => (hS k).2 (Or.inl (Option.some.inj hk).symm)⟩
  clear hf hS hR
  by_cases hn : n < -1
  · have e : max n (-1) = -1 := by omega
    rw [e] at HW
    have d1 : decide (n < -1) = true := decide_eq_true hn
    have d2 : decide (n ≤ -1) = true := decide_eq_true (by omega)
    obtain ⟨w1, hw1⟩ : ∃ x, w.setCell ⟨B, 4, none⟩ (.int .i64 (-1)) = x := ⟨_, rfl⟩
    rw [hw1] at HW
    go_enter Try.func25, Try.ntmps25
    go_wp2
    (try simp only [Exit.inBlock, Exit.then])
    refine bodyPost_end (results_none rfl _ _ _) rfl ?_
    exact ⟨rfl, unhide HW⟩
  · have e : max n (-1) = n := by omega
    rw [e] at HW
    have d1 : decide (n < -1) = false := decide_eq_false hn
    have d2 : decide (-1 ≤ n) = true := decide_eq_true (by omega)
    obtain ⟨w1, hw1⟩ : ∃ x, w.setCell ⟨B, 4, none⟩ (.int .i64 n) = x := ⟨_, rfl⟩
    rw [hw1] at HW
    go_enter Try.func25, Try.ntmps25
    go_wp2
    (try simp only [Exit.inBlock, Exit.then])
    refine bodyPost_end (results_none rfl _ _ _) rfl ?_
    exact ⟨rfl, unhide HW⟩
end Go.Proofs.Ytlmikagmcaicoaa
