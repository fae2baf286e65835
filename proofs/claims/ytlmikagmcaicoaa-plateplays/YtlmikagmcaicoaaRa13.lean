/-
  The reference's plate in memory; its New and step, walked.
-/
import Derived.Test.YtlmikagmcaicoaaTold13
import Derived.Test.YtlmikagmcaicoaaWide
namespace Go.Proofs.Ytlmikagmcaicoaa
open Go.RowKit
theorem row_put {w : World} {R : Nat} {cs : List Value} {T : TypeId} (h : w.heap[R]? = some (.cells cs.toArray T (0, 0))) (k : Nat) (hk : k < cs.length) (v : Value) : (w.setCell ⟨R, k, none⟩ v).heap[R]? = some (.cells (cs.set k v).toArray T (0, 0)) := by
  have h1 : RowAt T w R [] cs := by unfold RowAt; rw [List.append_nil]; exact h
  have h2 := h1.set k hk v
  unfold RowAt at h2
  rwa [List.append_nil] at h2
theorem row_cell {w : World} {R : Nat} {cs : List Value} {T : TypeId} (h : w.heap[R]? = some (.cells cs.toArray T (0, 0))) (k : Nat) (v : Value) (hv : cs[k]? = some v) : w.cell? ⟨R, k, none⟩ = some v := by
  rw [cell_of_row w R k _ T (0, 0) h, List.getElem?_toArray]; exact hv
theorem row_frozen {w : World} {R : Nat} {cs : List Value} {T : TypeId} (h : w.heap[R]? = some (.cells cs.toArray T (0, 0))) (k : Nat) : w.frozen? ⟨R, k, none⟩ = false := frozen_of_row w R k _ T h
theorem five_row {w : World} {R : Nat} {a b c d e : Value} {T : TypeId} (h : w.heap[R]? = some (.cells [a, b, c, d, e].toArray T (0, 0))) : w.cell? ⟨R, 0, none⟩ = some a ∧ w.cell? ⟨R, 1, none⟩ = some b ∧ w.cell? ⟨R, 2, none⟩ = some c ∧ w.cell? ⟨R, 3, none⟩ = some d ∧ w.cell? ⟨R, 4, none⟩ = some e :=
  ⟨row_cell h 0 _ rfl, row_cell h 1 _ rfl, row_cell h 2 _ rfl, row_cell h 3 _ rfl, row_cell h 4 _ rfl⟩
theorem setCell_grown {w : World} (R k : Nat) (v : Value) : w.grownBy (w.setCell ⟨R, k, none⟩ v) (some R) := grown_setCell (World.grownBy.refl _ _) _ _ rfl
set_option maxRecDepth 100000 in
theorem rstep_c (w : World) (R : Nat) (n a l : Value) (left : Int) (down : Bool) (h : w.heap[R]? = some (.cells [n, a, l, .int .i64 left, .bool down].toArray 37 (0, 0))) (h0 : -1 ≤ left) (h1 : left ≤ 9223372036854775807) :
    Calls Try.prog 33 #[.pointer (some ⟨R, 0, none⟩)] w fun e w' => e = .returned (.bool (!(if left = 0 then true else down))) ∧ w'.heap[R]? = some (.cells [n, a, l, .int .i64 (if 0 < left then left - 1 else left), .bool (if left = 0 then true else down)].toArray 37 (0, 0)) ∧ w.grownBy w' (some R) := by
  obtain ⟨_, _, _, k3, k4⟩ := five_row h
  have z3 := row_frozen h 3
  have z4 := row_frozen h 4
  have H := hide h
  by_cases hl : left = 0
  · subst hl
    have hw1 := row_put h 4 (by simp) (.bool true)
    have q3 := row_cell hw1 3 (.int .i64 0) rfl
    have q4 := row_cell hw1 4 (.bool true) rfl
    have HG := hide (setCell_grown (w := w) R 4 (.bool true))
    have H1 := hide hw1
    obtain ⟨w1, e1⟩ : ∃ x, w.setCell ⟨R, 4, none⟩ (.bool true) = x := ⟨_, rfl⟩
    rw [e1] at q3 q4 H1 HG
    clear hw1 h
    go_enter Try.func33, Try.ntmps33
    go_wp2
    go_ret
    exact ⟨rfl, unhide H1, unhide HG⟩
  · rw [if_neg hl]
    have b1 : (left == 0) = false := by simpa using hl
    by_cases hp : 0 < left
    · rw [if_pos hp]
      have d1 : decide (0 < left) = true := decide_eq_true hp
      have hwr : IntKind.i64.wrap (left - 1) = left - 1 := IntWalk.i64_in _ (by omega)
      have hw1 := row_put h 3 (by simp) (.int .i64 (left - 1))
      have q4 := row_cell hw1 4 (.bool down) rfl
      have HG := hide (setCell_grown (w := w) R 3 (.int .i64 (left - 1)))
      have H1 := hide hw1
      obtain ⟨w1, e1⟩ : ∃ x, w.setCell ⟨R, 3, none⟩ (.int .i64 (left - 1)) = x := ⟨_, rfl⟩
      rw [e1] at q4 H1 HG
      clear hw1 h hl
      go_enter Try.func33, Try.ntmps33
      go_wp2
      go_ret
      exact ⟨rfl, unhide H1, unhide HG⟩
    · rw [if_neg hp]
      have d1 : decide (0 < left) = false := decide_eq_false hp
      clear h hl
      go_enter Try.func33, Try.ntmps33
      go_wp2
      go_ret
      exact ⟨rfl, unhide H, World.grownBy.refl _ _⟩
/-- The cells of a row of writes. -/
def lcells (ls : List (Nat × Value)) : List Value := ls.flatMap fun x => [.int .i64 (x.1 : Int), x.2]
theorem lcells_len (ls : List (Nat × Value)) : (lcells ls).length = ls.length * 2 := by
  induction ls with
  | nil => rfl
  | cons a d ih =>
    have e : lcells (a :: d) = [.int .i64 (a.1 : Int), a.2] ++ lcells d := by unfold lcells; simp
    rw [e, List.length_append, ih, List.length_cons]
    simp
    omega
theorem lcells_app (d : List (Nat × Value)) (x : Nat × Value) : lcells (d ++ [x]) = lcells d ++ [.int .i64 (x.1 : Int), x.2] := by unfold lcells; simp
theorem lcells_at : ∀ (d : List (Nat × Value)) (i : Nat) (a : Nat × Value), d[i]? = some a → (lcells d)[i * 2]? = some (.int .i64 (a.1 : Int)) ∧ (lcells d)[i * 2 + 1]? = some a.2
  | [], i, a, h => by simp at h
  | x :: d, 0, a, h => by
    simp only [List.getElem?_cons_zero, Option.some.injEq] at h
    subst h
    exact ⟨rfl, rfl⟩
  | x :: d, i + 1, a, h => by
    have ih := lcells_at d i a (by simpa using h)
    have e : lcells (x :: d) = .int .i64 (x.1 : Int) :: x.2 :: lcells d := by unfold lcells; simp
    rw [e, show (i + 1) * 2 = i * 2 + 1 + 1 by omega]
    exact ih
/-- A sector in memory, in the blocks of D; nil stands for noughts. -/
def SecAt (D : Set_) (w : World) (x : Value) (b : Bs) : Prop := (x = .slice none 0 0 ∧ b = zeros) ∨ (BytesAt w x b ∧ b.length = 64 ∧ ∀ k, x.ownBlock = some k → D k)
theorem SecAt.aside {D S : Set_} {a b : World} {x : Value} {l : Bs} (h : SecAt D a x l) (hb : Aside S a b) (hd : ∀ k, D k → ¬ S k) : SecAt D b x l := by
  rcases h with h | ⟨h1, h2, h3⟩
  · exact Or.inl h
  · exact Or.inr ⟨h1.aside hb fun k hk => hd k (h3 k hk), h2, h3⟩
theorem SecAt.mono {D E : Set_} {w : World} {x : Value} {l : Bs} (h : SecAt D w x l) (hd : ∀ k, D k → E k) : SecAt E w x l := h.imp id fun h => ⟨h.1, h.2.1, fun k hk => hd k (h.2.2 k hk)⟩
/-- The parts of the reference's plate. -/
structure RForm (R A : Nat) (D : Set_) (w : World) (vs : List Value) (lv : Value) (ls : List (Nat × Value)) (s : PS) : Prop where
  str : w.heap[R]? = some (.cells [.int .i64 (s.safe.length : Int), .slice (some ⟨A, 0, none⟩) vs.length vs.length, lv, .int .i64 s.left, .bool s.down].toArray 37 (0, 0))
  row : w.heap[A]? = some (.cells vs.toArray 40 (0, 0))
  len : vs.length = s.safe.length
  secs : ∀ (i : Nat) (x : Value) (b : Bs), vs[i]? = some x → s.safe[i]? = some b → SecAt D w x b
  own : OwnN 69 2 w 0 lv s.loose.length (lcells ls)
  llen : ls.length = s.loose.length
  lsec : ∀ (i : Nat) (x : Nat × Value) (y : Nat × Bs), ls[i]? = some x → s.loose[i]? = some y → x.1 = y.1 ∧ BytesAt w x.2 y.2 ∧ ∀ k, x.2.ownBlock = some k → D k
  ne : R ≠ A
  lR : lv.ownBlock ≠ some R
  lA : lv.ownBlock ≠ some A
  dR : ¬ D R
  dA : ¬ D A
  dl : ∀ k, lv.ownBlock = some k → ¬ D k
  old : ∀ k, D k → k < w.heap.size
  ok : s.Ok
/-- The reference's plate in memory, in the blocks of Q. -/
def RAt (Q : Set_) (w : World) (r : Value) (s : PS) : Prop := ∃ R A D vs lv ls, r = .pointer (some ⟨R, 0, none⟩) ∧ RForm R A D w vs lv ls s ∧ ∀ k, Q k ↔ (k = R ∨ k = A ∨ lv.ownBlock = some k ∨ D k)
theorem RForm.aside {R A : Nat} {D S : Set_} {w w' : World} {vs : List Value} {lv : Value} {ls : List (Nat × Value)} {s : PS} (h : RForm R A D w vs lv ls s) (hb : Aside S w w') (hs : ∀ k, S k → k ≠ R ∧ k ≠ A ∧ lv.ownBlock ≠ some k ∧ ¬ D k) : RForm R A D w' vs lv ls s := by
  have hlt : ∀ {B : Nat} {o : Obj}, w.heap[B]? = some o → B < w.heap.size := fun h => (Array.getElem?_eq_some_iff.1 h).1
  refine ⟨?_, ?_, h.len, fun i x b h1 h2 => (h.secs i x b h1 h2).aside hb fun k hk hS => (hs k hS).2.2.2 hk, h.own.aside hb fun k hk hS => (hs k hS).2.2.1 hk, h.llen, fun i x y h1 h2 => ?_, h.ne, h.lR, h.lA, h.dR, h.dA, h.dl, fun k hk => Nat.lt_of_lt_of_le (h.old k hk) hb.size, h.ok⟩
  · rw [hb.block R (hlt h.str) fun hS => (hs R hS).1 rfl]; exact h.str
  · rw [hb.block A (hlt h.row) fun hS => (hs A hS).2.1 rfl]; exact h.row
  · obtain ⟨e, h3, h4⟩ := h.lsec i x y h1 h2
    exact ⟨e, h3.aside hb fun k hk hS => (hs k hS).2.2.2 (h4 k hk), h4⟩
theorem RAt.kept {Q T : Set_} {w w' : World} {r : Value} {s : PS} (h : RAt Q w r s) (hb : Aside T w w') (hs : ∀ k, T k → ¬ Q k) : RAt Q w' r s := by
  obtain ⟨R, A, D, vs, lv, ls, e, hf, hq⟩ := h
  refine ⟨R, A, D, vs, lv, ls, e, hf.aside hb fun k hT => ?_, hq⟩
  have h1 := hs k hT
  rw [hq] at h1
  exact ⟨fun e => h1 (Or.inl e), fun e => h1 (Or.inr (Or.inl e)), fun e => h1 (Or.inr (Or.inr (Or.inl e))), fun e => h1 (Or.inr (Or.inr (Or.inr e)))⟩
theorem RAt.old {Q : Set_} {w : World} {r : Value} {s : PS} (h : RAt Q w r s) : ∀ k, Q k → k < w.heap.size := by
  obtain ⟨R, A, D, vs, lv, ls, e, hf, hq⟩ := h
  intro k hk
  rcases (hq k).1 hk with rfl | rfl | h | h
  · exact (Array.getElem?_eq_some_iff.1 hf.str).1
  · exact (Array.getElem?_eq_some_iff.1 hf.row).1
  · exact (hf.own.lt k h).2
  · exact hf.old k h
theorem RAt.ok {Q : Set_} {w : World} {r : Value} {s : PS} (h : RAt Q w r s) : s.Ok := by
  obtain ⟨R, A, D, vs, lv, ls, e, hf, hq⟩ := h
  exact hf.ok
theorem Ebb : Elem Try.prog 34 40 (.slice none 0 0) 24 := elem_of Try.underlying34 (by kernel_rfl) rfl (by omega)
theorem Erw : ElemN Try.prog 35 69 (.agg #[.int .i64 0, .slice none 0 0]) 2 32 := elemN_of Try.underlying35 (by kernel_rfl) rfl (by omega) (by omega) (by omega)
set_option maxRecDepth 100000 in
theorem rnew_no (w : World) (n : Int) (h : n < 8 ∨ 16384 < n) : Calls Try.prog 10 #[.int .i64 n] w fun e w' => e = .returned (.tuple #[.pointer none, .bool false]) ∧ Below w.heap.size w w' := by
  by_cases h1 : n < 8
  · have d1 : decide (n < 8) = true := decide_eq_true h1
    go_enter Try.func10, Try.ntmps10
    go_wp2
    go_ret2
    exact ⟨rfl, Below.refl _ _⟩
  · have d1 : decide (n < 8) = false := decide_eq_false h1
    have h2 : 16384 < n := by omega
    have d2 : decide (16384 < n) = true := decide_eq_true h2
    go_enter Try.func10, Try.ntmps10
    go_wp2
    go_ret2
    exact ⟨rfl, Below.refl _ _⟩
set_option maxRecDepth 100000 in
set_option maxHeartbeats 4000000 in
theorem rnew_yes (w : World) (n : Nat) (h1 : 8 ≤ n) (h2 : n ≤ 16384) : Calls Try.prog 10 #[.int .i64 (n : Int)] w fun e w' => ∃ r, e = .returned (.tuple #[r, .bool true]) ∧ ∃ Q, RAt Q w' r (newS n) ∧ (∀ k, Q k → w.heap.size ≤ k) ∧ Below w.heap.size w w' := by
  have d1 : decide ((n : Int) < 8) = false := decide_eq_false (by omega)
  have d2 : decide (16384 < (n : Int)) = false := decide_eq_false (by omega)
  have e1 : ¬ (n : Int) < 8 := by omega
  have e2 : ¬ 16384 < (n : Int) := by omega
  obtain ⟨W, hm, hrow, hb⟩ := made_vals Ebb rfl w .i64 .i64 n n n rfl rfl (by omega)
  have hA := heap_alloc_new W (.cells [.int .i64 (n : Int), .slice (some ⟨w.heap.size, 0, none⟩) n n, .slice none 0 0, .int .i64 (-1), .bool false].toArray 37)
  have hb2 : Below W.heap.size W (W.alloc (.cells [.int .i64 (n : Int), .slice (some ⟨w.heap.size, 0, none⟩) n n, .slice none 0 0, .int .i64 (-1), .bool false].toArray 37)) := (Below.refl _ _).alloc (Nat.le_refl _) _
  have HR := hide hrow
  have HB := hide hb
  have HA := hide hA
  have HB2 := hide hb2
  obtain ⟨W2, hW2⟩ : ∃ x, W.alloc (.cells [.int .i64 (n : Int), .slice (some ⟨w.heap.size, 0, none⟩) n n, .slice none 0 0, .int .i64 (-1), .bool false].toArray 37) = x := ⟨_, rfl⟩
  rw [hW2] at HA HB2
  clear hrow hb hA hb2 h1
  go_enter Try.func10, Try.ntmps10
  go_wp2
  go_ret2
  have hlen : (List.replicate n zeros).length = n := List.length_replicate
  have hvs : (List.replicate n (Value.slice none 0 0)).length = n := List.length_replicate
  have hlt := (unhide HR).lt
  refine ⟨.pointer (some ⟨W.heap.size, 0, none⟩), rfl, fun k => k = W.heap.size ∨ k = w.heap.size ∨ (Value.slice none 0 0).ownBlock = some k ∨ none_ k, ⟨W.heap.size, w.heap.size, none_, List.replicate n (.slice none 0 0), .slice none 0 0, [], rfl, ⟨?_, ?_, ?_, ?_, ?_, rfl, ?_, ?_, ?_, ?_, fun h => h, fun h => h, fun k _ h => h, fun k h => h.elim, ok_new h2⟩, fun k => Iff.rfl⟩, ?_, ?_⟩
  · rw [hvs]
    show W2.heap[W.heap.size]? = some (.cells [.int .i64 ((List.replicate n zeros).length : Int), _, _, _, _].toArray _ _)
    rw [hlen]; exact unhide HA
  · have := (unhide HR).below (unhide HB2)
    unfold RowAt at this
    rwa [List.append_nil] at this
  · show _ = (List.replicate n zeros).length
    rw [hlen, hvs]
  · intro i x b hx hbx
    have := List.mem_of_getElem? hx
    have e3 := List.eq_of_mem_replicate this
    have := List.mem_of_getElem? hbx
    have e4 := List.eq_of_mem_replicate this
    exact Or.inl ⟨e3, e4⟩
  · exact ownn_nil _ _ _ _
  · intro i x y hx; simp at hx
  · omega
  · simp [Value.ownBlock]
  · simp [Value.ownBlock]
  · intro k hk
    rcases hk with rfl | rfl | h | h
    · exact (unhide HB).size
    · exact Nat.le_refl _
    · simp [Value.ownBlock] at h
    · exact h.elim
  · exact (unhide HB).trans ((unhide HB2).mono (unhide HB).size)
end Go.Proofs.Ytlmikagmcaicoaa
