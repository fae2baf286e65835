/-
  The landed plate's Clone, walked: maps.Clone, slices.Clone.
-/
import Derived.Test.YtlmikagmcaicoaaPg13
import Derived.Laws.Externs
namespace Go.Proofs.Ytlmikagmcaicoaa
open Go.RowKit Go.MapKept
set_option maxRecDepth 100000 in
theorem mclone_c (w : World) (T : Nat) (f : Nat → Bs) (hm : MAt w T f) :
    Calls Try.prog 30 #[.map (some T)] w fun e w' => e = .returned (.map (some w.heap.size)) ∧ MAt w' w.heap.size f ∧ Below w.heap.size w w' := by
  obtain ⟨es, c, h1, h2⟩ := hm
  have HM : Hid (MAt (w.alloc (.map es c)) w.heap.size f) := ⟨es, c, (heap_alloc w _).1, h2⟩
  have HB : Hid (Below w.heap.size w (w.alloc (.map es c))) := (Below.refl _ _).alloc (Nat.le_refl _) _
  have hcl : (callFunc 34 #[.iface 58 (.map (some T))]).run Try.prog w = .ok (.value (.iface 58 (.map (some w.heap.size)))) (w.alloc (.map es c)) := by
    have e : Extern.MapsClone.clone #[.iface 58 (.map (some T))] = (getObj T >>= fun o => match o with
      | .map entries clock => (newObj (.map entries clock) >>= fun n => pure (.iface 58 (.map (some n))))
      | _ => stuck "maps.clone: a map expected") := rfl
    rw [run_callFunc_extern Try.func34 (by kernel_rfl) (by kernel_rfl) (by kernel_rfl) (e := Extern.MapsClone.clone) (by kernel_rfl) _ w, e]
    simp [MapKept.run_getObj_map h1, Result.andThen]
  have heq : ∀ w, (binOp .eql 58 (.map (some T)) (.map none)).run Try.prog w = .ok (.bool false) w := fun w => by kernel_rfl
  have hta : ∀ (x : Nat) (w : World), (Instr.typeAssert (.iface 58 (.map (some x))) 20 58 false).run Try.prog w = .ok (.map (some x)) w := fun x w => by kernel_rfl
  obtain ⟨w2, hw2⟩ : ∃ x, w.alloc (.map es c) = x := ⟨_, rfl⟩
  rw [hw2] at HM HB hcl
  clear h1 h2 hw2
  go_enter Try.func30, Try.ntmps30
  go_wp2
  go_ret
  exact ⟨rfl, unhide HM, unhide HB⟩
theorem own_empty_w (W : World) : OwnN 66 65 (W.alloc (.cells #[] 66)) W.heap.size (.slice (some ⟨W.heap.size, 0, none⟩) 0 0) 0 [] :=
  ⟨rfl, Or.inr ⟨W.heap.size, 0, #[], rfl, Nat.le_refl _, heap_alloc_new W _, Nat.le_refl _, by simp [maxLen], rfl, rfl⟩⟩
/-- append of many writes. -/
theorem run_append_ws (w : World) (base : Nat) (v : Value) (n : Nat) (xs ds : List Value) (hown : OwnN 66 65 w base v n xs) (ga go k c : Nat) (hds : ds.length = k * 65) (hy : CellsAt w ga go ds) (h1 : ∀ u ∈ ds, u.oneCell' = true) (hb : base ≤ w.heap.size) (hlen : n + k ≤ 1073741824) (ty : TypeId) :
    ∃ v' w', (Builtin.append_ #[59, 59] ty #[v, .slice (some ⟨ga, go, none⟩) k c]).run Try.prog w = .ok v' w' ∧ OwnN 66 65 w' base v' (n + k) (xs ++ ds) ∧ w.grownBy w' v.ownBlock := by
  obtain ⟨hu, ⟨i, hi, hz, hsz, hby⟩, hfive, hmpos, hpos, hsm⟩ := ElW
  have hn : ∀ j u, ds[j]? = some u → w.cell? ((⟨ga, go, none⟩ : Addr).add j) = some u := by
    intro j u hu
    rw [Addr.add_mid]; exact hy j u hu
  obtain ⟨v', w', hr, h2, h3, _⟩ := run_append_own (P := Try.prog) w base 59 ty 66 i _ 65 72 hu hi hz hsz hby hfive (by omega) v n xs hown ⟨ga, go, none⟩ k c ds hds hn h1 (by simp only [maxLen]; omega) (by omega) hb
  exact ⟨v', w', hr, h2, h3⟩
theorem wpList_append_ws {w : World} {ops : Array Oper} {rest : List Oper} {o : Oper} {a : Act} {Q : Exit → Act → World → Prop} (hgd : o.guard = none) (s x : Operand)
    (ho : o.op = .call { callee := .builtin .append, args := #[s, x], argTypes := #[59, 59] }) (base : Nat) (v : Value) (n : Nat) (xs ds : List Value) (hs : a.eval s = v) (hown : OwnN 66 65 w base v n xs) (ga go k c : Nat)
    (hx : a.eval x = .slice (some ⟨ga, go, none⟩) k c) (hds : ds.length = k * 65) (hy : CellsAt w ga go ds) (h1 : ∀ u ∈ ds, u.oneCell' = true) (hb : base ≤ w.heap.size) (hlen : n + k ≤ 1073741824)
    (h : ∀ v' w', OwnN 66 65 w' base v' (n + k) (xs ++ ds) → w.grownBy w' v.ownBlock → wpList Try.prog ops Q rest (a.put o.dst v') w') : wpList Try.prog ops Q (o :: rest) a w := by
  refine wpList_plain hgd fun K hK => ?_
  obtain ⟨v', w', hrun, h2, h3⟩ := run_append_ws w base v n xs ds hown ga go k c hds hy h1 hb hlen o.type
  unfold Oper.wp execOp
  simp only [ho, resolve, invoke, builtin, Sem.run_bind, Sem.run_pure, Result.andThen_ok, List.map_toArray, List.map_cons, List.map_nil, hs, hx, hrun]
  exact hK _ _ (h v' w' h2 h3)
theorem own_below_w {w0 a b : World} {v : Value} {n : Nat} {xs : List Value} (h : OwnN 66 65 a w0.heap.size v n xs) (hg : a.grownBy b v.ownBlock) (hB : Below w0.heap.size w0 a) : Below w0.heap.size w0 b :=
  ⟨hg.os.trans hB.os, hg.tape.trans hB.tape, hg.output.trans hB.output, Nat.le_trans hB.size hg.size, fun k hk => (hg.block k (Nat.lt_of_lt_of_le hk hB.size) fun e => by have := (h.lt k e.symm).1; omega).trans (hB.block k hk)⟩
theorem slice_none (w : World) : (Instr.buildSlice 59 0 #[]).run Try.prog w = .ok (.slice (some ⟨w.heap.size, 0, none⟩) 0 0) (w.alloc (.cells #[] 66)) := by kernel_rfl
set_option maxRecDepth 100000 in
theorem sclone_c (w : World) (lv : Value) (l : List (Nat × Bs)) (hown : OwnN 66 65 w 0 lv l.length (wcells l)) (hl : l.length ≤ 100000) (h64 : ∀ x ∈ l, x.2.length = 64) :
    Calls Try.prog 31 #[lv] w fun e w' => ∃ v, e = .returned v ∧ OwnN 66 65 w' w.heap.size v l.length (wcells l) ∧ Below w.heap.size w w' := by
  by_cases hz : l.length = 0
  · obtain rfl : l = [] := List.eq_nil_of_length_eq_zero hz
    rcases hown.2 with ⟨rfl, _⟩ | ⟨g, cap, cur, rfl, _, _, _⟩
    · have heq : ∀ w, (binOp .eql 59 (.slice none 0 0) (.slice none 0 0)).run Try.prog w = .ok (.bool true) w := fun w => by kernel_rfl
      clear hown
      go_enter Try.func31, Try.ntmps31
      go_wp2
      go_ret
      exact ⟨_, rfl, ownn_nil _ _ _ _, Below.refl _ _⟩
    · have heq : ∀ w, (binOp .eql 59 (.slice (some ⟨g, 0, none⟩) 0 cap) (.slice none 0 0)).run Try.prog w = .ok (.bool false) w := fun w => by kernel_rfl
      have HE := hide (own_empty_w w)
      have HB : Hid (Below w.heap.size w (w.alloc (.cells #[] 66))) := (Below.refl _ _).alloc (Nat.le_refl _) _
      show Calls Try.prog 31 #[.slice (some ⟨g, 0, none⟩) 0 cap] w _
      clear hown
      go_enter Try.func31, Try.ntmps31
      go_wp2
      go_ret
      exact ⟨_, rfl, unhide HE, unhide HB⟩
  · obtain ⟨g, c, rfl, _, hglt, hc, hcells⟩ := hown.at (by omega)
    have heq : ∀ w, (binOp .eql 59 (.slice (some ⟨g, 0, none⟩) l.length c) (.slice none 0 0)).run Try.prog w = .ok (.bool false) w := fun w => by kernel_rfl
    have HE := hide (own_empty_w w)
    have HB : Hid (Below w.heap.size w (w.alloc (.cells #[] 66))) := (Below.refl _ _).alloc (Nat.le_refl _) _
    have hsl := slice_none w
    have HC : Hid (CellsAt (w.alloc (.cells #[] 66)) g 0 (wcells l)) := fun j u hu => by rw [World.cell?_alloc_lt _ _ _ hglt]; exact hcells j u hu
    have HWL := hide (wcells_len h64)
    have HS1 : Hid (w.heap.size ≤ (w.alloc (.cells #[] 66)).heap.size) := by simp [Hid]
    obtain ⟨w1, hw1⟩ : ∃ x, w.alloc (.cells #[] 66) = x := ⟨_, rfl⟩
    rw [hw1] at hsl HC HE HB HS1
    obtain ⟨K, hK⟩ : ∃ x, l.length = x := ⟨_, rfl⟩
    rw [hK] at heq hl HWL ⊢
    clear hown hcells hK hc hz
    go_enter Try.func31, Try.ntmps31
    go_wp2_with (at_builtin; refine wpList_append_ws rfl _ _ rfl w.heap.size (.slice (some ⟨w.heap.size, 0, none⟩) 0 0) 0 [] (wcells l) rfl (unhide HE) g 0 K c rfl (unhide HWL) (unhide HC) (wcells_one l) (unhide HS1) (by omega) ?_
                 intro v' w' ho hgr)
    go_ret
    have ho' : OwnN 66 65 w' w.heap.size v' K (wcells l) := by rw [Nat.zero_add, List.nil_append] at ho; exact ho
    exact ⟨_, rfl, ho', own_below_w (unhide HE) hgr (unhide HB)⟩
theorem OwnN.base {e : TypeId} {m : Nat} {w : World} {B : Nat} {v : Value} {n : Nat} {xs : List Value} (h : OwnN e m w B v n xs) : OwnN e m w 0 v n xs := by
  refine ⟨h.1, ?_⟩
  rcases h.2 with h2 | ⟨g, cap, cur, hv, hB, r⟩
  · exact Or.inl h2
  · exact Or.inr ⟨g, cap, cur, hv, Nat.zero_le _, r⟩
theorem grown_over {w a b : World} {V : Nat} (h : Below w.heap.size w a) (hg : a.grownBy b (some V)) (hV : w.heap.size ≤ V) : Below w.heap.size w b :=
  ⟨hg.os.trans h.os, hg.tape.trans h.tape, hg.output.trans h.output, Nat.le_trans h.size hg.size, fun k hk => (hg.block k (Nat.lt_of_lt_of_le hk h.size) fun e => by have := Option.some.inj e; omega).trans (h.block k hk)⟩
/-- What is behind Clone's last store. -/
theorem clone_end {B T M B2 T2 M2 : Nat} {w w1 : World} {lv lv2 : Value} {s : PS} {R : Set_} (hf : PForm B T M w lv s) (hb : Below w.heap.size w w1)
    (h1 : w1.heap[B2]? = some (.cells [.int .i64 (s.safe.length : Int), .map (some T2), .map (some M2), lv2, .int .i64 s.left, .bool s.down].toArray 61 (0, 0)))
    (h2 : MAt w1 T2 fun k => (applyL s.safe s.loose).getD k zeros) (h3 : MAt w1 M2 fun k => s.safe.getD k zeros) (h4 : OwnN 66 65 w1 0 lv2 s.loose.length (wcells s.loose))
    (g1 : w.heap.size ≤ B2) (g2 : B2 < T2) (g3 : T2 < M2) (g4 : ∀ k, lv2.ownBlock = some k → M2 < k) :
    ∃ S' R', PAt S' R' w1 (.pointer (some ⟨B2, 0, none⟩)) s ∧ (∀ k, S' k → w.heap.size ≤ k) ∧ (∀ k, R' k → R k ∨ w.heap.size ≤ k) ∧ Below w.heap.size w w1 :=
  ⟨fun k => k = B2 ∨ k = T2 ∨ k = M2 ∨ lv2.ownBlock = some k, none_, ⟨B2, T2, M2, lv2, rfl, ⟨h1, h2, h3, h4, by omega, by omega, by omega, fun e => by have := g4 B2 e; omega, fun e => by have := g4 T2 e; omega, fun e => by have := g4 M2 e; omega, hf.ok⟩, fun k => Iff.rfl, fun k h => h⟩, fun k h => by
    rcases h with h | h | h | h
    · omega
    · omega
    · omega
    · have := g4 k h; omega, fun k h => h.elim, hb⟩
set_option maxRecDepth 100000 in
set_option maxHeartbeats 8000000 in
theorem clone_c {S R : Set_} {w : World} {p : Value} {s : PS} (hp : PAt S R w p s) (hll : s.loose.length ≤ 100000) :
    Calls Try.prog 21 #[p] w fun e w' => ∃ q, e = .returned q ∧ ∃ S' R', PAt S' R' w' q s ∧ (∀ k, S' k → w.heap.size ≤ k) ∧ (∀ k, R' k → R k ∨ w.heap.size ≤ k) ∧ Below w.heap.size w w' := by
  obtain ⟨B, T, M, lv, rfl, hf, hS, hR⟩ := hp
  obtain ⟨sl, cl, rfl, _⟩ := hf.own.form
  obtain ⟨k0, k1, k2, k3, k4, k5⟩ := six_row hf.str
  have HF := hide hf
  have HS := hide hS
  have HLL := hide hll
  obtain ⟨N, hN⟩ : ∃ y, s.safe.length = y := ⟨_, rfl⟩
  obtain ⟨K, hK⟩ : ∃ y, s.loose.length = y := ⟨_, rfl⟩
  obtain ⟨L, hL⟩ : ∃ y, s.left = y := ⟨_, rfl⟩
  obtain ⟨D, hD⟩ : ∃ y, s.down = y := ⟨_, rfl⟩
  rw [hN] at k0
  rw [hK] at k3
  rw [hL] at k4
  rw [hD] at k5
  have HA := hide (heap_alloc_new w (.cells [.int .i64 (N : Int), .map (some T), .map (some M), .slice sl K cl, .int .i64 L, .bool D].toArray 61))
  have HB1 : Hid (Below w.heap.size w (w.alloc (.cells [.int .i64 (N : Int), .map (some T), .map (some M), .slice sl K cl, .int .i64 L, .bool D].toArray 61))) := (Below.refl _ _).alloc (Nat.le_refl _) _
  have HN := hide hN
  have HK := hide hK
  have HL := hide hL
  have HD := hide hD
  obtain ⟨w1, hw1⟩ : ∃ x, w.alloc (.cells [.int .i64 (N : Int), .map (some T), .map (some M), .slice sl K cl, .int .i64 L, .bool D].toArray 61) = x := ⟨_, rfl⟩
  rw [hw1] at HA HB1
  clear hf hS hR hll hN hK hL hD
  go_enter Try.func21, Try.ntmps21
  go_wp2
  obtain ⟨V, hV⟩ : ∃ x, w.heap.size = x := ⟨_, rfl⟩
  have HV := hide hV
  rw [hV] at HA ⊢
  have HVB : Hid (B < V) := by have := heap_lt (unhide HF).str; show B < V; omega
  have HF1 : Hid (PForm B T M w1 (.slice sl K cl) s) := by
    have h1 := (unhide HF).aside (S := none_) (Aside.of_below (unhide HB1)) fun k h => h.elim
    rw [unhide HK] at h1
    exact h1
  have HV1 : Hid (V < w1.heap.size) := heap_lt (unhide HA)
  have HC : Hid (∀ w', Below w1.heap.size w1 w' → w'.cell? ⟨B, 1, none⟩ = some (.map (some T)) ∧ w'.cell? ⟨B, 2, none⟩ = some (.map (some M)) ∧ w'.cell? ⟨B, 3, none⟩ = some (.slice sl K cl)) := fun w' hb => by
    have h1 := (unhide HF1).str
    rw [← hb.block B (heap_lt h1)] at h1
    exact ⟨row_cell h1 1 _ rfl, row_cell h1 2 _ rfl, row_cell h1 3 _ rfl⟩
  have HA' : Hid (∀ w', Below w1.heap.size w1 w' → w'.heap[V]? = some (.cells [.int .i64 (N : Int), .map (some T), .map (some M), .slice sl K cl, .int .i64 L, .bool D].toArray 61 (0, 0))) := fun w' hb => (hb.block V (unhide HV1)).trans (unhide HA)
  clear hV hw1 k0 k1 k2 k3 k4 k5
  refine wp_region_held_drew (S := fun w' => w'.cell? ⟨B, 1, none⟩ = some (.map (some T)) ∧ w'.cell? ⟨B, 2, none⟩ = some (.map (some M))) (by kernel_rfl) (let h := unhide HC _ (Below.refl _ _).drew; ⟨h.1, h.2.1⟩) (fun hHeld => ?_)
  refine wpAnyH_take (i := 0) (oi := { dst := some 7, op := Op.move (Operand.tmp 0), type := 24, pos := "plate.go:103", after := #[], guard := none }) (v := ?_) rfl (by kernel_rfl) (by kernel_rfl) (by kernel_rfl) (fun _ _ _ h => h) (Or.inl ⟨by rfl, ?c1⟩) (by assumption) ?_
  case c1 => (intro w_ hSw; obtain ⟨p1, p2⟩ := hSw; go_simp; try with_reducible rfl)
  simp only [Act.put, List.setIfInBounds_toArray, List.set_cons_zero, List.set_cons_succ]
  refine wpAnyH_take (i := 1) (oi := { dst := some 8, op := Op.nilCheck (Operand.tmp 7), type := 0, pos := "plate.go:103", after := #[{ on := 0, ground := Ground.data }], guard := none }) (v := ?_) rfl (by kernel_rfl) (by kernel_rfl) (by kernel_rfl) (fun _ _ _ h => h) (Or.inl ⟨by rfl, ?c2⟩) (by assumption) ?_
  case c2 => (intro w_ hSw; obtain ⟨p1, p2⟩ := hSw; go_simp; try with_reducible rfl)
  simp only [Act.put, List.setIfInBounds_toArray, List.set_cons_zero, List.set_cons_succ]
  refine wpAnyH_take (i := 2) (oi := { dst := some 9, op := Op.fieldAddr 61 (Operand.tmp 8) 1, type := 0, pos := "plate.go:103", after := #[{ on := 1, ground := Ground.data }], guard := none }) (v := ?_) rfl (by kernel_rfl) (by kernel_rfl) (by kernel_rfl) (fun _ _ _ h => h) (Or.inl ⟨by rfl, ?c3⟩) (by assumption) ?_
  case c3 => (intro w_ hSw; obtain ⟨p1, p2⟩ := hSw; go_simp; try with_reducible rfl)
  simp only [Act.put, List.setIfInBounds_toArray, List.set_cons_zero, List.set_cons_succ]
  refine wpAnyH_take (i := 3) (oi := { dst := some 10, op := Op.load 58 (Operand.tmp 9), type := 58, pos := "plate.go:103", after := #[{ on := 2, ground := Ground.data }], guard := none }) (v := ?_) rfl (by kernel_rfl) (by kernel_rfl) (by kernel_rfl) (fun _ _ _ h => h) (Or.inl ⟨by rfl, ?c4⟩) (by assumption) ?_
  case c4 => (intro w_ hSw; obtain ⟨p1, p2⟩ := hSw; go_simp; try with_reducible rfl)
  simp only [Act.put, List.setIfInBounds_toArray, List.set_cons_zero, List.set_cons_succ]
  refine wpAnyH_take (i := 5) (oi := { dst := some 12, op := Op.move (Operand.tmp 0), type := 24, pos := "plate.go:103", after := #[], guard := none }) (v := ?_) rfl (by kernel_rfl) (by kernel_rfl) (by kernel_rfl) (fun _ _ _ h => h) (Or.inl ⟨by rfl, ?c5⟩) (by assumption) ?_
  case c5 => (intro w_ hSw; obtain ⟨p1, p2⟩ := hSw; go_simp; try with_reducible rfl)
  simp only [Act.put, List.setIfInBounds_toArray, List.set_cons_zero, List.set_cons_succ]
  refine wpAnyH_take (i := 6) (oi := { dst := some 13, op := Op.nilCheck (Operand.tmp 12), type := 0, pos := "plate.go:103", after := #[{ on := 5, ground := Ground.data }], guard := none }) (v := ?_) rfl (by kernel_rfl) (by kernel_rfl) (by kernel_rfl) (fun _ _ _ h => h) (Or.inl ⟨by rfl, ?c6⟩) (by assumption) ?_
  case c6 => (intro w_ hSw; obtain ⟨p1, p2⟩ := hSw; go_simp; try with_reducible rfl)
  simp only [Act.put, List.setIfInBounds_toArray, List.set_cons_zero, List.set_cons_succ]
  refine wpAnyH_take (i := 7) (oi := { dst := some 14, op := Op.fieldAddr 61 (Operand.tmp 13) 2, type := 0, pos := "plate.go:103", after := #[{ on := 6, ground := Ground.data }], guard := none }) (v := ?_) rfl (by kernel_rfl) (by kernel_rfl) (by kernel_rfl) (fun _ _ _ h => h) (Or.inl ⟨by rfl, ?c7⟩) (by assumption) ?_
  case c7 => (intro w_ hSw; obtain ⟨p1, p2⟩ := hSw; go_simp; try with_reducible rfl)
  simp only [Act.put, List.setIfInBounds_toArray, List.set_cons_zero, List.set_cons_succ]
  refine wpAnyH_take (i := 8) (oi := { dst := some 15, op := Op.load 58 (Operand.tmp 14), type := 58, pos := "plate.go:103", after := #[{ on := 7, ground := Ground.data }], guard := none }) (v := ?_) rfl (by kernel_rfl) (by kernel_rfl) (by kernel_rfl) (fun _ _ _ h => h) (Or.inl ⟨by rfl, ?c8⟩) (by assumption) ?_
  case c8 => (intro w_ hSw; obtain ⟨p1, p2⟩ := hSw; go_simp; try with_reducible rfl)
  simp only [Act.put, List.setIfInBounds_toArray, List.set_cons_zero, List.set_cons_succ]
  refine wpAnyH_ready (rs := [4]) (by kernel_rfl) (by simp) ?_
  refine AllReadyH.cons (o := { dst := some 11, op := Op.call { callee := Callee.value (Operand.func 30), args := #[Operand.tmp 10], argTypes := #[58] }, type := 58, pos := "plate.go:103", after := #[{ on := 3, ground := Ground.data }], guard := none }) rfl (fun K_ hK_ => ?_) AllReadyH.nil
  go_simp
  go_at_call 30
  refine (mclone_c w1.drew T _ ((unhide HF1).there.below (Below.refl _ _).drew)).mono ?_
  rintro e w2 ⟨rfl, hm2, hb2⟩
  have HB2 : Hid (Below w1.heap.size w1 w2) := (Below.refl w1.heap.size w1).drew.trans hb2
  have HM2 : Hid (MAt w2 w1.heap.size fun k => (applyL s.safe s.loose).getD k zeros) := hm2
  clear hm2 hb2
  go_simp
  refine hK_.out _ _ (let h := unhide HC _ (unhide HB2); ⟨h.1, h.2.1⟩) (fun hHeld => ?_)
  clear hK_ K_
  (try simp only [Act.put, List.setIfInBounds_toArray, List.set_cons_zero, List.set_cons_succ])
  refine wpAnyH_ready (rs := [9]) (by kernel_rfl) (by simp) ?_
  refine AllReadyH.cons (o := { dst := some 16, op := Op.call { callee := Callee.value (Operand.func 30), args := #[Operand.tmp 15], argTypes := #[58] }, type := 58, pos := "plate.go:103", after := #[{ on := 8, ground := Ground.data }, { on := 4, ground := Ground.chain }], guard := none }) rfl (fun K_ hK_ => ?_) AllReadyH.nil
  go_simp
  go_at_call 30
  refine (mclone_c w2 M _ ((unhide HF1).safe.below (unhide HB2))).mono ?_
  rintro e w3 ⟨rfl, hm3, hb3⟩
  have HM3 := hide hm3
  have HM3t := hide ((unhide HM2).below hb3)
  have HB3 : Hid (Below w1.heap.size w1 w3) := (unhide HB2).trans (hb3.mono (unhide HB2).size)
  have HP3 := hide (unhide HA' w3 (unhide HB3))
  clear hm3 hb3
  go_simp
  refine hK_.out _ _ (let h := unhide HC _ (unhide HB3); ⟨h.1, h.2.1⟩) (fun hHeld => ?_)
  clear hK_ K_
  (try simp only [Act.put, List.setIfInBounds_toArray, List.set_cons_zero, List.set_cons_succ])
  refine wpAnyH_take (i := 10) (oi := { dst := some 17, op := Op.fieldAddr 61 (Operand.tmp 3) 1, type := 0, pos := "plate.go:103", after := #[{ on := 0, ground := Ground.phase }, { on := 1, ground := Ground.phase }, { on := 2, ground := Ground.phase }, { on := 3, ground := Ground.phase }, { on := 4, ground := Ground.phase }, { on := 5, ground := Ground.textOnly Departure.lateStores }, { on := 6, ground := Ground.textOnly Departure.lateStoresUnsure }, { on := 7, ground := Ground.textOnly Departure.lateStoresUnsure }, { on := 8, ground := Ground.phase }, { on := 9, ground := Ground.phase }], guard := none }) (v := ?_) rfl (by kernel_rfl) (by kernel_rfl) (by kernel_rfl) (fun _ _ _ h => h) (Or.inl ⟨by rfl, ?c9⟩) (by assumption) ?_
  case c9 => (intro w_ hSw; obtain ⟨p1, p2⟩ := hSw; go_simp; try with_reducible rfl)
  simp only [Act.put, List.setIfInBounds_toArray, List.set_cons_zero, List.set_cons_succ]
  refine wpAnyH_ready (rs := [11]) (by kernel_rfl) (by simp) ?_
  refine AllReadyH.cons (o := { dst := none, op := Op.store 58 (Operand.tmp 17) (Operand.tmp 11), type := 0, pos := "plate.go:103", after := #[{ on := 10, ground := Ground.data }, { on := 4, ground := Ground.data }, { on := 9, ground := Ground.chain }, { on := 0, ground := Ground.phase }, { on := 1, ground := Ground.phase }, { on := 2, ground := Ground.phase }, { on := 3, ground := Ground.phase }, { on := 4, ground := Ground.phase }, { on := 5, ground := Ground.textOnly Departure.lateStores }, { on := 6, ground := Ground.textOnly Departure.lateStoresUnsure }, { on := 7, ground := Ground.textOnly Departure.lateStoresUnsure }, { on := 8, ground := Ground.phase }, { on := 9, ground := Ground.phase }], guard := none }) rfl (fun K_ hK_ => ?_) AllReadyH.nil
  have c_ := row_cell (unhide HP3) 1 _ rfl
  have z_ := row_frozen (unhide HP3) 1
  go_simp
  obtain ⟨w4, hw4⟩ : ∃ x, w3.setCell ⟨V, 1, none⟩ (.map (some w1.heap.size)) = x := ⟨_, rfl⟩
  have HG4 : Hid (w3.grownBy w4 (some V)) := by show World.grownBy _ _ _; rw [← hw4]; exact setCell_grown V 1 _
  have HP4 := hide (row_put (unhide HP3) 1 (by simp) (.map (some w1.heap.size)))
  rw [hw4] at HP4 ⊢
  clear c_ z_ hw4
  have HC4 : Hid (w4.cell? ⟨B, 1, none⟩ = some (.map (some T)) ∧ w4.cell? ⟨B, 2, none⟩ = some (.map (some M)) ∧ w4.cell? ⟨B, 3, none⟩ = some (.slice sl K cl)) := by
    have h := unhide HC _ (unhide HB3)
    have ha : Aside (fun k => k = V) w3 w4 := Aside.of_grown (unhide HG4) fun k hk => (Option.some.inj hk).symm
    have hn : B ≠ V := by have := unhide HVB; omega
    exact ⟨cell_aside h.1 ha hn, cell_aside h.2.1 ha hn, cell_aside h.2.2 ha hn⟩
  refine hK_.out _ _ (⟨(unhide HC4).1, (unhide HC4).2.1⟩) (fun hHeld => ?_)
  clear hK_ K_
  (try simp only [Act.put, List.setIfInBounds_toArray, List.set_cons_zero, List.set_cons_succ])
  refine wpAnyH_take (i := 12) (oi := { dst := some 18, op := Op.fieldAddr 61 (Operand.tmp 3) 2, type := 0, pos := "plate.go:103", after := #[{ on := 0, ground := Ground.phase }, { on := 1, ground := Ground.phase }, { on := 2, ground := Ground.phase }, { on := 3, ground := Ground.phase }, { on := 4, ground := Ground.phase }, { on := 5, ground := Ground.phase }, { on := 6, ground := Ground.phase }, { on := 7, ground := Ground.phase }, { on := 8, ground := Ground.phase }, { on := 9, ground := Ground.phase }, { on := 10, ground := Ground.phase }, { on := 11, ground := Ground.phase }], guard := none }) (v := ?_) rfl (by kernel_rfl) (by kernel_rfl) (by kernel_rfl) (fun _ _ _ h => h) (Or.inl ⟨by rfl, ?c10⟩) (by assumption) ?_
  case c10 => (intro w_ hSw; obtain ⟨p1, p2⟩ := hSw; go_simp; try with_reducible rfl)
  simp only [Act.put, List.setIfInBounds_toArray, List.set_cons_zero, List.set_cons_succ]
  refine wpAnyH_ready (rs := [13]) (by kernel_rfl) (by simp) ?_
  refine AllReadyH.cons (o := { dst := none, op := Op.store 58 (Operand.tmp 18) (Operand.tmp 16), type := 0, pos := "plate.go:103", after := #[{ on := 12, ground := Ground.data }, { on := 9, ground := Ground.data }, { on := 11, ground := Ground.chain }, { on := 0, ground := Ground.phase }, { on := 1, ground := Ground.phase }, { on := 2, ground := Ground.phase }, { on := 3, ground := Ground.phase }, { on := 4, ground := Ground.phase }, { on := 5, ground := Ground.phase }, { on := 6, ground := Ground.phase }, { on := 7, ground := Ground.phase }, { on := 8, ground := Ground.phase }, { on := 9, ground := Ground.phase }, { on := 10, ground := Ground.phase }, { on := 11, ground := Ground.phase }], guard := none }) rfl (fun K_ hK_ => ?_) AllReadyH.nil
  have c_ := row_cell (unhide HP4) 2 _ rfl
  have z_ := row_frozen (unhide HP4) 2
  go_simp
  obtain ⟨w5, hw5⟩ : ∃ x, w4.setCell ⟨V, 2, none⟩ (.map (some w2.heap.size)) = x := ⟨_, rfl⟩
  have HG5 : Hid (w4.grownBy w5 (some V)) := by show World.grownBy _ _ _; rw [← hw5]; exact setCell_grown V 2 _
  have HP5 := hide (row_put (unhide HP4) 2 (by simp) (.map (some w2.heap.size)))
  rw [hw5] at HP5 ⊢
  clear c_ z_ hw5
  have ha45 : Aside (fun k => k = V) w4 w5 := Aside.of_grown (unhide HG5) fun k hk => (Option.some.inj hk).symm
  have ha34 : Aside (fun k => k = V) w3 w4 := Aside.of_grown (unhide HG4) fun k hk => (Option.some.inj hk).symm
  have HC5a : Hid (w5.cell? ⟨B, 1, none⟩ = some (.map (some T)) ∧ w5.cell? ⟨B, 2, none⟩ = some (.map (some M)) ∧ w5.cell? ⟨B, 3, none⟩ = some (.slice sl K cl)) := by
    have hn : B ≠ V := by have := unhide HVB; omega
    exact ⟨cell_aside (unhide HC4).1 ha45 hn, cell_aside (unhide HC4).2.1 ha45 hn, cell_aside (unhide HC4).2.2 ha45 hn⟩
  have HC5 := hide (unhide HC5a).2.2
  have hnT : w1.heap.size ≠ V := by have := unhide HV1; omega
  have hnM : w2.heap.size ≠ V := by have h1 := unhide HV1; have h2 := (unhide HB2).size; omega
  have HM5t := hide (((unhide HM3t).aside ha34 hnT).aside ha45 hnT)
  have HM5 := hide (((unhide HM3).aside ha34 hnM).aside ha45 hnM)
  clear ha45 ha34 hnT hnM
  refine hK_.out _ _ (⟨(unhide HC5a).1, (unhide HC5a).2.1⟩) (fun hHeld => ?_)
  clear hK_ K_
  (try simp only [Act.put, List.setIfInBounds_toArray, List.set_cons_zero, List.set_cons_succ])
  refine wpAnyH_done (by kernel_rfl) ?_ _
  have HSl : Hid (OwnN 66 65 w5 0 (.slice sl K cl) s.loose.length (wcells s.loose)) := (((unhide HF1).own.below (unhide HB3)).kept (unhide HG4) fun g hg e => by have h1 := (((unhide HF1).own.lt g hg).2); have h2 := unhide HV; have h3 := ((unhide HF).own.lt g (by rw [unhide HK]; exact hg)).2; have := Option.some.inj e; omega).kept (unhide HG5) fun g hg e => by have h2 := unhide HV; have h3 := ((unhide HF).own.lt g (by rw [unhide HK]; exact hg)).2; have := Option.some.inj e; omega
  have Hsc := hide (sclone_c w5 _ s.loose (unhide HSl) (unhide HLL) fun x hx => ((unhide HF).ok.loose x hx).2)
  have c3 := unhide HC5
  clear hHeld
  go_wp2_with fail
  refine (unhide Hsc).mono ?_
  rintro e w6 ⟨v6, rfl, ho6, hb6⟩
  obtain ⟨sp6, c6, rfl, _⟩ := ho6.form
  have hp6 := (hb6.block V (heap_lt (unhide HP5))).trans (unhide HP5)
  have c6_ := row_cell hp6 3 _ rfl
  have z6_ := row_frozen hp6 3
  have hp7 := row_put hp6 3 (by simp) (.slice sp6 s.loose.length c6)
  have hg7 := setCell_grown (w := w6) V 3 (.slice sp6 s.loose.length c6)
  obtain ⟨w7, hw7⟩ : ∃ x, w6.setCell ⟨V, 3, none⟩ (.slice sp6 s.loose.length c6) = x := ⟨_, rfl⟩
  rw [hw7] at hp7 hg7
  have a7 : Aside (fun k => k = V) w6 w7 := Aside.of_grown hg7 fun k hk => (Option.some.inj hk).symm
  have HEnd : Hid (∃ S' R', PAt S' R' w7 (.pointer (some ⟨V, 0, none⟩)) s ∧ (∀ k, S' k → w.heap.size ≤ k) ∧ (∀ k, R' k → R k ∨ w.heap.size ≤ k) ∧ Below w.heap.size w w7) := by
    have n1 := unhide HV
    have n2 := unhide HV1
    have n3 := (unhide HB2).size
    have n4 := (unhide HM2).lt
    have n5 := (unhide HM3).lt
    have n6 := (unhide HG4).size
    have n7 := (unhide HG5).size
    have hT : MAt w7 w1.heap.size fun k => (applyL s.safe s.loose).getD k zeros := ((unhide HM5t).below hb6).aside a7 (by omega)
    have hM : MAt w7 w2.heap.size fun k => s.safe.getD k zeros := ((unhide HM5).below hb6).aside a7 (by omega)
    have hO : OwnN 66 65 w7 0 (.slice sp6 s.loose.length c6) s.loose.length (wcells s.loose) := (OwnN.base ho6).aside a7 fun k hk e => by have := (ho6.lt k hk).1; have h8 := heap_lt (unhide HP5); omega
    refine clone_end (B2 := V) (T2 := w1.heap.size) (M2 := w2.heap.size) (unhide HF) ?_ ?_ hT hM hO (by omega) (by omega) (by omega) fun k hk => by have := (ho6.lt k hk).1; omega
    · have h15 : Below w.heap.size w w5 := grown_over (grown_over ((unhide HB1).trans ((unhide HB3).mono (by omega))) (unhide HG4) (by omega)) (unhide HG5) (by omega)
      exact grown_over (h15.trans (hb6.mono (by omega))) hg7 (by omega)
    · rw [unhide HN, unhide HL, unhide HD]
      exact hp7
  clear hp6 hp7 hg7 a7 ho6 hb6 Hsc HSl
  go_wp2
  go_ret
  exact ⟨_, rfl, unhide HEnd⟩
end Go.Proofs.Ytlmikagmcaicoaa
