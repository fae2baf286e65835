/-
  The walk of the landed store's inBytes.
  Rows of changes that grow; the walk of the landed store's readChanges.
-/
import Derived.Test.YtbjgknoipbekoaaGreatQ19
import Derived.Test.YtbjgknoipbekoaaGreatQ21
namespace Go.Proofs.YtbjgknoipbekoaaGreat
open Go.RowKit
theorem big_one (n : Nat) : bigB n 1 = [UInt8.ofNat n] := by
  have h := big_step n 1 0 (by omega)
  have h0 : (bigB n 1).take 1 = bigB n 1 := List.take_of_length_le (by rw [big_len]; omega)
  rw [Nat.zero_add, h0, List.take_zero] at h
  simpa using h
theorem wr_gone {c : Ch} (h : c.gone = true) (cur : Bs) : (cur ++ [0]) ++ (bigB c.key.length 1 ++ c.key) = cur ++ wr1 c := by
  unfold wr1
  rw [if_pos h, big_one]
  simp
theorem wr_set {c : Ch} (h : c.gone = false) (cur : Bs) : ((cur ++ [1]) ++ (bigB c.key.length 1 ++ c.key)) ++ (bigB c.val.length 4 ++ c.val) = cur ++ wr1 c := by
  unfold wr1
  rw [if_neg (by rw [h]; decide), big_one]
  simp
theorem wr1_len {c : Ch} (h : rightC c) : (wr1 c).length ≤ 8230 := by
  obtain ⟨h1, h2, h3⟩ := h
  unfold wr1
  cases hg : c.gone
  · have := h3 hg
    simp [big_len]; omega
  · simp; omega
theorem wrL_le {l : List Ch} (h : RightL l) : (wrL l).length ≤ 8230 * l.length := by
  induction l with
  | nil => simp [wrL]
  | cons c l ih =>
    rw [wrL_cons, List.length_append, List.length_cons]
    have h1 := wr1_len (h c List.mem_cons_self)
    have h2 := ih fun x hx => h x (List.mem_cons_of_mem _ hx)
    omega
theorem wrL_take {l : List Ch} {i : Nat} {c : Ch} (h : l[i]? = some c) : wrL (l.take (i + 1)) = wrL (l.take i) ++ wr1 c := by
  rw [List.take_add_one, h]
  show wrL (_ ++ [c]) = _
  rw [wrL_app]
  congr 1
  unfold wrL
  simp
theorem wrL_part (l : List Ch) (i : Nat) : (wrL (l.take i)).length ≤ (wrL l).length := by
  have h : wrL l = wrL (l.take i) ++ wrL (l.drop i) := by rw [← wrL_app, List.take_append_drop]
  rw [h, List.length_append]
  omega
theorem row_off {w0 w : World} {v : Value} {l : Bs} (h : Row w0 w v l) : v.ownBlock ≠ some w.heap.size := fun e => by
  have := (World.ownsRow.lt h.own _ e).2
  omega
theorem grew_cell {w w' : World} {v v' : Value} {A k : Nat} {u : Value} (h : Grew w v w' v') (hA : v.ownBlock ≠ some A) (hc : w.cell? ⟨A, k, none⟩ = some u) : w'.cell? ⟨A, k, none⟩ = some u := by
  rw [World.cell?_of_block (h.1.block A (World.block_lt_of_cell? w _ hc) fun e => hA e.symm)]
  exact hc
set_option maxRecDepth 100000 in
set_option maxHeartbeats 4000000 in
theorem sinb_c (K : Set_) (w : World) (x : Value) (l : List Ch) (h : ChsAt K w x l) (hr : RightL l) (hl : l.length ≤ 100000) (hw : (wrL l).length ≤ 90000000) : GivesB w 46 #[x] (wrL l) := by
  obtain ⟨sp, c, rfl, _⟩ := h.form
  obtain ⟨n, hn⟩ : ∃ n, l.length = n := ⟨_, rfl⟩
  rw [hn] at h hl ⊢
  have H := hide h
  have HN := hide hn
  have HRi := hide hr
  have HW := hide hw
  obtain ⟨ANS, hA⟩ : ∃ y, wrL l = y := ⟨_, rfl⟩
  rw [hA]
  have HA := hide hA
  clear h hn hA hr hw
  go_enter Tryz.func46, Tryz.ntmps46
  go_wp2
  go_loopw [3, 8] (fun bb ii wr => ∃ (i LN : Nat) (sq : Option Addr) (cq : Nat), i ≤ n ∧ bb = .slice sq LN cq ∧ ii = .int .i64 (i : Int) ∧ Hid (Row w wr (.slice sq LN cq) (wrL (l.take i)))) (fun _ ii _ => n - (intOf ii).toNat)
  case atStart => exact ⟨0, 0, none, 0, by omega, rfl, rfl, ⟨ownb_nil _ _, Below.refl _ _⟩⟩
  case round =>
    obtain ⟨i, LN, sq, cq, hi, rfl, rfl, HR⟩ := hrel
    by_cases hlt : i < n
    · obtain ⟨ch, g, o, s1, c1, s2, c2, hop, rfl, hKg, hgl, h3⟩ := (unhide H).one (i := i) (by have := unhide HN; omega)
      have h3r := h3.aside (S := none_) (Aside.of_below (unhide HR).b) (fun _ h => h.elim) hKg
      have f1 : decide ((i : Int) < (n : Int)) = true := by simp; omega
      have f1n : decide (i < n) = true := by simp; omega
      have j0 : (0 : Int) ≤ (i : Int) := by omega
      have j1 : (i : Int) < (n : Int) := by omega
      have k0 := h3r.c0
      have k1 := h3r.c1
      have k2 := h3r.c2
      have hrc := unhide HRi ch (List.mem_of_getElem? hop)
      have HT : Hid (wrL (l.take (i + 1)) = wrL (l.take i) ++ wr1 ch) := wrL_take hop
      have HKey := hide h3.key.at_
      have HVal := hide h3.val.at_
      have hkl : ch.key.length ≤ 32 := hrc.2.1
      have HVl : Hid (ch.gone = false → ch.val.length ≤ 8192) := hrc.2.2
      obtain ⟨KN, hKN⟩ : ∃ y, ch.key.length = y := ⟨_, rfl⟩
      obtain ⟨VN, hVN⟩ : ∃ y, ch.val.length = y := ⟨_, rfl⟩
      obtain ⟨gb, hgb⟩ : ∃ y, ch.gone = y := ⟨_, rfl⟩
      rw [hKN] at k0 HKey hkl
      rw [hVN] at k1 HVal HVl
      rw [hgb] at k2 HVl
      obtain ⟨w1, hw1⟩ : ∃ y, wr.alloc (.cells #[.slice s1 KN c1, .slice s2 VN c2, .bool gb] 72) = y := ⟨_, rfl⟩
      obtain ⟨m0, m1, m2⟩ := cells_new3 wr (.slice s1 KN c1) (.slice s2 VN c2) (.bool gb) 72
      have HR1 : Hid (Row w w1 (.slice sq LN cq) (wrL (l.take i))) := by rw [← hw1]; exact (unhide HR).lit _
      have HO : Hid ((Value.slice sq LN cq).ownBlock ≠ some wr.heap.size) := row_off (unhide HR)
      obtain ⟨cur, hcur⟩ : ∃ y, wrL (l.take i) = y := ⟨_, rfl⟩
      have HCL : Hid (cur.length ≤ 90000000) := by show _ ≤ _; rw [← hcur]; exact Nat.le_trans (wrL_part l i) (unhide HW)
      have HKN := hide hKN
      have HVN := hide hVN
      have HGB := hide hgb
      rw [hcur] at HR1 HT
      obtain ⟨CN, hCN⟩ : ∃ y, cur.length = y := ⟨_, rfl⟩
      have HCC := hide hCN
      obtain ⟨L4, hL4⟩ : ∃ y, ((cur ++ [1]) ++ (bigB ch.key.length 1 ++ ch.key)).length = y := ⟨_, rfl⟩
      have HL4 := hide hL4
      have HE : Hid (ch.gone = false → ((cur ++ [1]) ++ (bigB ch.key.length 1 ++ ch.key)) ++ (bigB ch.val.length 4 ++ ch.val) = cur ++ wr1 ch) := fun h => wr_set h cur
      rw [hw1] at m0 m1 m2
      clear h3 h3r hop hKN hVN hgb hrc hcur HR hKg hgl hCN hL4
      go_upto_region 5 with fail
      cases gb
      · go_upto_region 7 with fail
        refine wp_region_held_drew (S := fun w' => w'.cell? ⟨wr.heap.size, 0, none⟩ = some (.slice s1 KN c1)) (by kernel_rfl) (m0) (fun hHeld => ?_)
        refine wpAnyH_take (i := 0) (oi := { dst := some 20, op := Op.move (Operand.tmp 3), type := 23, pos := "change.go:47", after := #[], guard := none }) (v := ?_) rfl (by kernel_rfl) (by kernel_rfl) (by kernel_rfl) (fun _ _ _ h => h) (Or.inl ⟨by rfl, ?b1⟩) (by assumption) ?_
        case b1 => (intro w_ hSw; (try dsimp only at hSw); go_simp; try with_reducible rfl)
        simp only [Act.put, List.setIfInBounds_toArray, List.set_cons_zero, List.set_cons_succ]
        refine wpAnyH_take (i := 3) (oi := { dst := some 23, op := Op.fieldAddr 72 (Operand.tmp 5) 0, type := 0, pos := "change.go:47", after := #[], guard := none }) (v := ?_) rfl (by kernel_rfl) (by kernel_rfl) (by kernel_rfl) (fun _ _ _ h => h) (Or.inl ⟨by rfl, ?b2⟩) (by assumption) ?_
        case b2 => (intro w_ hSw; (try dsimp only at hSw); go_simp; try with_reducible rfl)
        simp only [Act.put, List.setIfInBounds_toArray, List.set_cons_zero, List.set_cons_succ]
        refine wpAnyH_take (i := 4) (oi := { dst := some 24, op := Op.load 23 (Operand.tmp 23), type := 23, pos := "change.go:47", after := #[{ on := 3, ground := Ground.data }], guard := none }) (v := ?_) rfl (by kernel_rfl) (by kernel_rfl) (by kernel_rfl) (fun _ _ _ h => h) (Or.inl ⟨by rfl, ?b3⟩) (by assumption) ?_
        case b3 => (intro w_ hSw; (try dsimp only at hSw); go_simp; try with_reducible rfl)
        simp only [Act.put, List.setIfInBounds_toArray, List.set_cons_zero, List.set_cons_succ]
        refine wpAnyH_ready (rs := [1]) (by kernel_rfl) (by simp) ?_
        refine AllReadyH.cons (o := { dst := some 21, op := Op.buildSlice 23 1 #[(0, Operand.const (Value.int IntKind.u8 1))], type := 23, pos := "change.go:47", after := #[], guard := none }) rfl (fun K_ hK_ => ?_) AllReadyH.nil
        go_simp
        obtain ⟨W2, hW2⟩ : ∃ y, (w1.alloc (.cells #[.int .u8 1] 5)).drew = y := ⟨_, rfl⟩
        have HR2 : Hid (Row w W2 (.slice sq LN cq) cur) := by show Row _ _ _ _; rw [← hW2]; exact ((unhide HR1).lit _).call (Below.refl _ _).drew
        have HY2 : Hid (BytesAt W2 (.slice (some ⟨w1.heap.size, 0, none⟩) 1 1) [1]) := by show BytesAt _ _ _; rw [← hW2]; exact ValsAt.drew (bytes_new w1 [1])
        have HM2 : Hid (W2.cell? ⟨wr.heap.size, 0, none⟩ = some (.slice s1 KN c1) ∧ W2.cell? ⟨wr.heap.size, 1, none⟩ = some (.slice s2 VN c2)) := by show _ ∧ _; rw [← hW2]; exact ⟨cell_aside (S := none_) m0 (Aside.of_below ((Below.refl _ _).alloc (Nat.le_refl _) _).drew) (fun h => h), cell_aside (S := none_) m1 (Aside.of_below ((Below.refl _ _).alloc (Nat.le_refl _) _).drew) (fun h => h)⟩
        rw [hW2]
        clear hW2
        refine hK_.out _ _ ((unhide HM2).1) (fun hHeld => ?_)
        clear hK_ K_
        (try simp only [Act.put, List.setIfInBounds_toArray, List.set_cons_zero, List.set_cons_succ])
        refine wpAnyH_ready (rs := [2]) (by kernel_rfl) (by simp) ?_
        refine AllReadyH.cons (o := { dst := some 22, op := Op.call { callee := Callee.builtin Builtin.append, args := #[Operand.tmp 20, Operand.tmp 21], argTypes := #[23, 23] }, type := 23, pos := "change.go:47", after := #[{ on := 0, ground := Ground.data }, { on := 1, ground := Ground.data }], guard := none }) rfl (fun K_ hK_ => ?_) AllReadyH.nil
        refine step_append_row rfl _ _ rfl (.slice sq LN cq) (.slice (some ⟨w1.heap.size, 0, none⟩) 1 1) cur [1] rfl (unhide HR2) rfl (unhide HY2) (by have := unhide HCL; simp; omega) ?_
        intro v3 W3 hR3 hG3
        obtain ⟨s3, c3, e3⟩ := hR3.own.form
        rw [List.length_append, unhide HCC, List.length_singleton] at e3
        subst e3
        have HR3 := hide hR3
        have HM3 : Hid (W3.cell? ⟨wr.heap.size, 0, none⟩ = some (.slice s1 KN c1) ∧ W3.cell? ⟨wr.heap.size, 1, none⟩ = some (.slice s2 VN c2)) := ⟨grew_cell hG3 (unhide HO) (unhide HM2).1, grew_cell hG3 (unhide HO) (unhide HM2).2⟩
        have HO3 : Hid ((Value.slice s3 (CN + 1) c3).ownBlock ≠ some wr.heap.size) := (Gw.of hG3).off (unhide HO) (World.block_lt_of_cell? _ _ (unhide HM2).1)
        clear hR3 hG3
        refine hK_.out _ _ ((unhide HM3).1) (fun hHeld => ?_)
        clear hK_ K_
        (try simp only [Act.put, List.setIfInBounds_toArray, List.set_cons_zero, List.set_cons_succ])
        refine wpAnyH_ready (rs := [5]) (by kernel_rfl) (by simp) ?_
        refine AllReadyH.cons (o := { dst := some 25, op := Op.call { callee := Callee.value (Operand.func 70), args := #[Operand.tmp 22, Operand.const (Value.int IntKind.i64 1), Operand.tmp 24], argTypes := #[23, 3, 23] }, type := 23, pos := "change.go:47", after := #[{ on := 2, ground := Ground.data }, { on := 4, ground := Ground.data }, { on := 2, ground := Ground.chain }], guard := none }) rfl (fun K_ hK_ => ?_) AllReadyH.nil
        go_simp
        go_at_call 70
        refine (saddp_c w W3 _ _ _ ch.key 1 (unhide HR3) (unhide HKey) (by omega) (by omega) (by have := unhide HKN; omega) (by have := unhide HCL; simp; omega)).mono ?_
        rintro e W4 ⟨v4, rfl, hR4, hG4⟩
        have HM4 : Hid (W4.cell? ⟨wr.heap.size, 0, none⟩ = some (.slice s1 KN c1) ∧ W4.cell? ⟨wr.heap.size, 1, none⟩ = some (.slice s2 VN c2)) := ⟨hG4.cell (unhide HO3) (unhide HM3).1, hG4.cell (unhide HO3) (unhide HM3).2⟩
        clear hG4
        obtain ⟨s4, c4, e4⟩ := hR4.own.form
        rw [unhide HL4] at e4
        subst e4
        have HR4 := hide hR4
        clear hR4
        go_simp
        refine hK_.out _ _ ((unhide HM4).1) (fun hHeld => ?_)
        clear hK_ K_
        (try simp only [Act.put, List.setIfInBounds_toArray, List.set_cons_zero, List.set_cons_succ])
        refine wpAnyH_take (i := 6) (oi := { dst := some 3, op := Op.assign (Operand.tmp 25), type := 23, pos := "change.go:47", after := #[{ on := 5, ground := Ground.data }, { on := 5, ground := Ground.chain }, { on := 0, ground := Ground.phase }, { on := 1, ground := Ground.phase }, { on := 2, ground := Ground.phase }, { on := 3, ground := Ground.phase }, { on := 4, ground := Ground.phase }, { on := 5, ground := Ground.phase }], guard := none }) (v := ?_) rfl (by kernel_rfl) (by kernel_rfl) (by kernel_rfl) (fun _ _ _ h => h) (Or.inl ⟨by rfl, ?b4⟩) (by assumption) ?_
        case b4 => (intro w_ hSw; (try dsimp only at hSw); go_simp; try with_reducible rfl)
        simp only [Act.put, List.setIfInBounds_toArray, List.set_cons_zero, List.set_cons_succ]
        refine wpAnyH_done (by kernel_rfl) ?_ _
        go_upto_region 8 with fail
        have q1 := (unhide HM4).2
        go_wp2_with (go_at_call 70; refine (saddp_c w W4 _ _ _ ch.val 4 (unhide HR4) (unhide HVal) (by omega) (by omega) (by have := unhide HVl rfl; have := unhide HVN; omega) (by have := unhide HCL; have := unhide HKN; simp [big_len]; omega)).mono ?_
                     rintro e W5 ⟨v5, rfl, hR5, _⟩
                     rw [unhide HE (unhide HGB), ← unhide HT] at hR5
                     obtain ⟨s5, c5, e5⟩ := hR5.own.form
                     subst e5
                     have HR5 := hide hR5
                     clear hR5)
        refine ⟨⟨i + 1, _, s5, c5, by omega, rfl, ?_, HR5⟩, ?_⟩
        · simp
        · simp [intOf]; omega
      · go_upto_region 6 with fail
        refine wp_region_held_drew (S := fun w' => w'.cell? ⟨wr.heap.size, 0, none⟩ = some (.slice s1 KN c1)) (by kernel_rfl) (m0) (fun hHeld => ?_)
        refine wpAnyH_take (i := 0) (oi := { dst := some 14, op := Op.move (Operand.tmp 3), type := 23, pos := "change.go:45", after := #[], guard := none }) (v := ?_) rfl (by kernel_rfl) (by kernel_rfl) (by kernel_rfl) (fun _ _ _ h => h) (Or.inl ⟨by rfl, ?a1⟩) (by assumption) ?_
        case a1 => (intro w_ hSw; (try dsimp only at hSw); go_simp; try with_reducible rfl)
        simp only [Act.put, List.setIfInBounds_toArray, List.set_cons_zero, List.set_cons_succ]
        refine wpAnyH_take (i := 3) (oi := { dst := some 17, op := Op.fieldAddr 72 (Operand.tmp 5) 0, type := 0, pos := "change.go:45", after := #[], guard := none }) (v := ?_) rfl (by kernel_rfl) (by kernel_rfl) (by kernel_rfl) (fun _ _ _ h => h) (Or.inl ⟨by rfl, ?a2⟩) (by assumption) ?_
        case a2 => (intro w_ hSw; (try dsimp only at hSw); go_simp; try with_reducible rfl)
        simp only [Act.put, List.setIfInBounds_toArray, List.set_cons_zero, List.set_cons_succ]
        refine wpAnyH_take (i := 4) (oi := { dst := some 18, op := Op.load 23 (Operand.tmp 17), type := 23, pos := "change.go:45", after := #[{ on := 3, ground := Ground.data }], guard := none }) (v := ?_) rfl (by kernel_rfl) (by kernel_rfl) (by kernel_rfl) (fun _ _ _ h => h) (Or.inl ⟨by rfl, ?a3⟩) (by assumption) ?_
        case a3 => (intro w_ hSw; (try dsimp only at hSw); go_simp; try with_reducible rfl)
        simp only [Act.put, List.setIfInBounds_toArray, List.set_cons_zero, List.set_cons_succ]
        refine wpAnyH_ready (rs := [1]) (by kernel_rfl) (by simp) ?_
        refine AllReadyH.cons (o := { dst := some 15, op := Op.buildSlice 23 1 #[(0, Operand.const (Value.int IntKind.u8 0))], type := 23, pos := "change.go:45", after := #[], guard := none }) rfl (fun K_ hK_ => ?_) AllReadyH.nil
        go_simp
        obtain ⟨W2, hW2⟩ : ∃ y, (w1.alloc (.cells #[.int .u8 0] 5)).drew = y := ⟨_, rfl⟩
        have HR2 : Hid (Row w W2 (.slice sq LN cq) cur) := by show Row _ _ _ _; rw [← hW2]; exact ((unhide HR1).lit _).call (Below.refl _ _).drew
        have HY2 : Hid (BytesAt W2 (.slice (some ⟨w1.heap.size, 0, none⟩) 1 1) [0]) := by show BytesAt _ _ _; rw [← hW2]; exact ValsAt.drew (bytes_new w1 [0])
        have HM2 : Hid (W2.cell? ⟨wr.heap.size, 0, none⟩ = some (.slice s1 KN c1) ∧ W2.cell? ⟨wr.heap.size, 1, none⟩ = some (.slice s2 VN c2)) := by show _ ∧ _; rw [← hW2]; exact ⟨cell_aside (S := none_) m0 (Aside.of_below ((Below.refl _ _).alloc (Nat.le_refl _) _).drew) (fun h => h), cell_aside (S := none_) m1 (Aside.of_below ((Below.refl _ _).alloc (Nat.le_refl _) _).drew) (fun h => h)⟩
        rw [hW2]
        clear hW2
        refine hK_.out _ _ ((unhide HM2).1) (fun hHeld => ?_)
        clear hK_ K_
        (try simp only [Act.put, List.setIfInBounds_toArray, List.set_cons_zero, List.set_cons_succ])
        refine wpAnyH_ready (rs := [2]) (by kernel_rfl) (by simp) ?_
        refine AllReadyH.cons (o := { dst := some 16, op := Op.call { callee := Callee.builtin Builtin.append, args := #[Operand.tmp 14, Operand.tmp 15], argTypes := #[23, 23] }, type := 23, pos := "change.go:45", after := #[{ on := 0, ground := Ground.data }, { on := 1, ground := Ground.data }], guard := none }) rfl (fun K_ hK_ => ?_) AllReadyH.nil
        refine step_append_row rfl _ _ rfl (.slice sq LN cq) (.slice (some ⟨w1.heap.size, 0, none⟩) 1 1) cur [0] rfl (unhide HR2) rfl (unhide HY2) (by have := unhide HCL; simp; omega) ?_
        intro v3 W3 hR3 hG3
        obtain ⟨s3, c3, e3⟩ := hR3.own.form
        rw [List.length_append, unhide HCC, List.length_singleton] at e3
        subst e3
        have HR3 := hide hR3
        have HM3 : Hid (W3.cell? ⟨wr.heap.size, 0, none⟩ = some (.slice s1 KN c1) ∧ W3.cell? ⟨wr.heap.size, 1, none⟩ = some (.slice s2 VN c2)) := ⟨grew_cell hG3 (unhide HO) (unhide HM2).1, grew_cell hG3 (unhide HO) (unhide HM2).2⟩
        have HO3 : Hid ((Value.slice s3 (CN + 1) c3).ownBlock ≠ some wr.heap.size) := (Gw.of hG3).off (unhide HO) (World.block_lt_of_cell? _ _ (unhide HM2).1)
        clear hR3 hG3
        refine hK_.out _ _ ((unhide HM3).1) (fun hHeld => ?_)
        clear hK_ K_
        (try simp only [Act.put, List.setIfInBounds_toArray, List.set_cons_zero, List.set_cons_succ])
        refine wpAnyH_ready (rs := [5]) (by kernel_rfl) (by simp) ?_
        refine AllReadyH.cons (o := { dst := some 19, op := Op.call { callee := Callee.value (Operand.func 70), args := #[Operand.tmp 16, Operand.const (Value.int IntKind.i64 1), Operand.tmp 18], argTypes := #[23, 3, 23] }, type := 23, pos := "change.go:45", after := #[{ on := 2, ground := Ground.data }, { on := 4, ground := Ground.data }, { on := 2, ground := Ground.chain }], guard := none }) rfl (fun K_ hK_ => ?_) AllReadyH.nil
        go_simp
        go_at_call 70
        refine (saddp_c w W3 _ _ _ ch.key 1 (unhide HR3) (unhide HKey) (by omega) (by omega) (by have := unhide HKN; omega) (by have := unhide HCL; simp; omega)).mono ?_
        rintro e W4 ⟨v4, rfl, hR4, hG4⟩
        have HM4 : Hid (W4.cell? ⟨wr.heap.size, 0, none⟩ = some (.slice s1 KN c1) ∧ W4.cell? ⟨wr.heap.size, 1, none⟩ = some (.slice s2 VN c2)) := ⟨hG4.cell (unhide HO3) (unhide HM3).1, hG4.cell (unhide HO3) (unhide HM3).2⟩
        clear hG4
        rw [wr_gone (unhide HGB), ← unhide HT] at hR4
        obtain ⟨s4, c4, e4⟩ := hR4.own.form
        subst e4
        have HR4 := hide hR4
        clear hR4
        go_simp
        refine hK_.out _ _ ((unhide HM4).1) (fun hHeld => ?_)
        clear hK_ K_
        (try simp only [Act.put, List.setIfInBounds_toArray, List.set_cons_zero, List.set_cons_succ])
        refine wpAnyH_take (i := 6) (oi := { dst := some 3, op := Op.assign (Operand.tmp 19), type := 23, pos := "change.go:45", after := #[{ on := 5, ground := Ground.data }, { on := 5, ground := Ground.chain }, { on := 0, ground := Ground.phase }, { on := 1, ground := Ground.phase }, { on := 2, ground := Ground.phase }, { on := 3, ground := Ground.phase }, { on := 4, ground := Ground.phase }, { on := 5, ground := Ground.phase }], guard := none }) (v := ?_) rfl (by kernel_rfl) (by kernel_rfl) (by kernel_rfl) (fun _ _ _ h => h) (Or.inl ⟨by rfl, ?a4⟩) (by assumption) ?_
        case a4 => (intro w_ hSw; (try dsimp only at hSw); go_simp; try with_reducible rfl)
        simp only [Act.put, List.setIfInBounds_toArray, List.set_cons_zero, List.set_cons_succ]
        refine wpAnyH_done (by kernel_rfl) ?_ _
        go_wp2
        refine ⟨⟨i + 1, _, s4, c4, by omega, rfl, ?_, HR4⟩, ?_⟩
        · simp
        · simp [intOf]; omega
    · obtain rfl : i = n := by omega
      have f1 : decide ((i : Int) < (i : Int)) = false := by simp
      have HE : Hid (Row w wr (.slice sq LN cq) ANS) := by
        have h := unhide HR
        rw [List.take_of_length_le (by have := unhide HN; omega), unhide HA] at h
        exact h
      clear HR
      go_wp2
      go_ret
      exact ⟨_, rfl, unhide HE⟩
end Go.Proofs.YtbjgknoipbekoaaGreat
namespace Go.Proofs.YtbjgknoipbekoaaGreat
open Go.RowKit
theorem ElCh : ElemN Tryz.prog 36 72 (.agg #[.slice none 0 0, .slice none 0 0, .bool false]) 3 56 := elemN_of Tryz.underlying36 (by kernel_rfl) rfl (by omega) (by omega) (by omega)
/-- append of one element of several cells to a row of the call's own. -/
theorem wpList_append_one {t e : TypeId} {z : Value} {m by_ : Nat} (E : ElemN Tryz.prog t e z m by_) {w : World} {ops : Array Oper} {rest : List Oper} {o : Oper} {a : Act} {Q : Exit → Act → World → Prop} (hgd : o.guard = none) (s x : Operand)
    (ho : o.op = .call { callee := .builtin .append, args := #[s, x], argTypes := #[t, t] }) (base : Nat) (v : Value) (n : Nat) (xs ds : List Value) (hs : a.eval s = v) (hown : OwnN e m w base v n xs) (ga go c : Nat)
    (hx : a.eval x = .slice (some ⟨ga, go, none⟩) 1 c) (hds : ds.length = m) (hy : CellsAt w ga go ds) (h1 : ∀ u ∈ ds, u.oneCell' = true) (hb : base ≤ w.heap.size) (hlen : n ≤ 1073741824)
    (h : ∀ v' w', OwnN e m w' base v' (n + 1) (xs ++ ds) → w.grownBy w' v.ownBlock → (v'.ownBlock = v.ownBlock ∨ v'.ownBlock = some w.heap.size) → wpList Tryz.prog ops Q rest (a.put o.dst v') w') : wpList Tryz.prog ops Q (o :: rest) a w := by
  refine wpList_plain hgd fun K hK' => ?_
  obtain ⟨v', w', hrun, r1, r2, r3⟩ := run_append_one E w base v n xs ds hown ga go c hds hy h1 hb hlen o.type
  unfold Oper.wp
  simp [execOp, ho, resolve, invoke, builtin, hs, hx, hrun, Result.andThen]
  exact hK' _ _ (h v' w' r1 r2 r3)
def chsT (t : List (Ch × Value × Value)) : List Ch := t.map (·.1)
def chCells (t : List (Ch × Value × Value)) : List Value := t.flatMap fun x => [x.2.1, x.2.2, .bool x.1.gone]
theorem chCells_at : ∀ (t : List (Ch × Value × Value)) (i : Nat) (x : Ch × Value × Value), t[i]? = some x → (chCells t)[i * 3]? = some x.2.1 ∧ (chCells t)[i * 3 + 1]? = some x.2.2 ∧ (chCells t)[i * 3 + 2]? = some (.bool x.1.gone)
  | [], i, x, h => by simp at h
  | y :: t, 0, x, h => by
    simp only [List.getElem?_cons_zero, Option.some.injEq] at h
    subst h
    exact ⟨rfl, rfl, rfl⟩
  | y :: t, i + 1, x, h => by
    rw [List.getElem?_cons_succ] at h
    obtain ⟨h1, h2, h3⟩ := chCells_at t i x h
    have e : ∀ j, (chCells (y :: t))[(i + 1) * 3 + j]? = (chCells t)[i * 3 + j]? := fun j => by
      show (([y.2.1, y.2.2, .bool y.1.gone] : List Value) ++ chCells t)[(i + 1) * 3 + j]? = _
      rw [List.getElem?_append_right (by simp; omega)]
      congr 1
      simp only [List.length_cons, List.length_nil]
      omega
    exact ⟨(e 0).trans h1, (e 1).trans h2, (e 2).trans h3⟩
theorem chCells_snoc (t : List (Ch × Value × Value)) (x : Ch × Value × Value) : chCells (t ++ [x]) = chCells t ++ [x.2.1, x.2.2, .bool x.1.gone] := by
  unfold chCells
  rw [List.flatMap_append]
  simp
/-- A row of changes of the call's own, whose bytes lie in blocks of K. -/
structure ChRow (K : Set_) (B : Nat) (w : World) (v : Value) (t : List (Ch × Value × Value)) : Prop where
  own : OwnN 72 3 w B v t.length (chCells t)
  each : ∀ x ∈ t, ElS K w x.2.1 x.1.key ∧ ElS K w x.2.2 x.1.val
theorem ElS.low {K : Set_} {B : Nat} {a b : World} {v : Value} {l : Bs} (h : ElS K a v l) (hb : Below B a b) (hK : ∀ k, K k → k < B) : ElS K b v l :=
  h.aside (S := fun k => B ≤ k) ⟨hb.os, hb.tape, hb.output, hb.size, fun k _ hn => hb.block k (by omega)⟩ fun k hk hKk => by have := hK k hKk; omega
theorem ChRow.call {K : Set_} {B : Nat} {w w' : World} {v : Value} {t : List (Ch × Value × Value)} (h : ChRow K B w v t) (hb : Below w.heap.size w w') : ChRow K B w' v t :=
  ⟨h.own.below hb, fun x hx => ⟨(h.each x hx).1.aside (S := none_) (Aside.of_below hb) fun _ h => h.elim, (h.each x hx).2.aside (S := none_) (Aside.of_below hb) fun _ h => h.elim⟩⟩
theorem chrow_nil (K : Set_) (B : Nat) (w : World) : ChRow K B w (.slice none 0 0) [] := ⟨ownn_nil _ _ _ _, fun x hx => by cases hx⟩
/-- The row as a slice of changes. -/
theorem ChRow.at_ {K K' : Set_} {B : Nat} {w : World} {v : Value} {t : List (Ch × Value × Value)} (h : ChRow K B w v t) (hK : ∀ k, K k → K' k) (hB : ∀ k, B ≤ k → K' k) : ChsAt K' w v (chsT t) := by
  unfold chsT
  obtain ⟨sp, c, e, h1, h2⟩ := h.own.form
  refine ⟨⟨sp, c, by rw [List.length_map]; exact e, by rw [List.length_map]; exact h1, h2⟩, fun i ch hi => ?_⟩
  rw [List.getElem?_map] at hi
  obtain ⟨x, hx, rfl⟩ := Option.map_eq_some_iff.1 hi
  have hpos : 0 < t.length := by have := (List.getElem?_eq_some_iff.1 hx).1; omega
  obtain ⟨g, cp, ev, hB1, hg, _, hcell⟩ := h.own.at hpos
  obtain ⟨e0, e1, e2⟩ := chCells_at t i x hx
  have hm := List.mem_of_getElem? hx
  refine ⟨g, 0, _, cp, ev, hB g hB1, hg, x.2.1, x.2.2, ⟨?_, ?_, ?_, (h.each x hm).1.mono hK, (h.each x hm).2.mono hK⟩⟩
  · exact hcell _ _ e0
  · exact hcell _ _ e1
  · exact hcell _ _ e2
/-- One more. -/
theorem ChRow.add {K : Set_} {B : Nat} {w w' : World} {v v' : Value} {t : List (Ch × Value × Value)} {x : Ch × Value × Value} (h : ChRow K B w v t) (ho : OwnN 72 3 w' B v' (t.length + 1) (chCells t ++ [x.2.1, x.2.2, .bool x.1.gone])) (hb : Below B w w') (hK : ∀ k, K k → k < B) (h1 : ElS K w x.2.1 x.1.key) (h2 : ElS K w x.2.2 x.1.val) : ChRow K B w' v' (t ++ [x]) := by
  refine ⟨by rw [List.length_append, chCells_snoc]; exact ho, fun y hy => ?_⟩
  rcases List.mem_append.1 hy with hy | hy
  · exact ⟨(h.each y hy).1.low hb hK, (h.each y hy).2.low hb hK⟩
  · rw [List.mem_singleton] at hy
    subst hy
    exact ⟨h1.low hb hK, h2.low hb hK⟩
theorem rd1_less {b r : Bs} {c : Ch} (h : rd1 b = some (c, r)) : r.length < b.length := by
  unfold rd1 at h
  split at h
  · split at h
    · cases h
    · split at h
      · simp only [Option.some.injEq, Prod.mk.injEq] at h
        rw [← h.2, List.length_drop]
        simp only [List.length_cons]
        omega
      · split at h
        · split at h
          · cases h
          · split at h
            · cases h
            · simp only [Option.some.injEq, Prod.mk.injEq] at h
              rw [← h.2, List.length_drop, List.length_drop, List.length_drop]
              simp only [List.length_cons]
              omega
        · cases h
  · cases h
theorem rdL_nil (n : Nat) : rdL n [] = some [] := by cases n <;> simp [rdL]
theorem rdL_step {n : Nat} {b : Bs} (h : b ≠ []) (hn : b.length ≤ n) : ∃ m, n = m + 1 ∧ rdL n b = match rd1 b with | none => none | some (c, r) => (rdL m r).map (c :: ·) := by
  obtain ⟨m, rfl⟩ : ∃ m, n = m + 1 := ⟨n - 1, by have : b.length ≠ 0 := fun e => h (List.eq_nil_of_length_eq_zero e); omega⟩
  exact ⟨m, rfl, by rw [rdL, if_neg h]; cases rd1 b <;> rfl⟩
set_option maxRecDepth 100000 in
set_option maxHeartbeats 4000000 in
theorem sreadch_c {K : Set_} {w : World} {x : Value} {b : Bs} (hx : ElS K w x b) (hb : b.length ≤ 1000000) (hK : ∀ k, K k → k < w.heap.size) :
    Calls Tryz.prog 68 #[x] w fun e w' => ∃ v, e = .returned (.tuple #[v, .bool (chsOf b).isSome]) ∧ (∀ l, chsOf b = some l → ChsAt (fun k => K k ∨ w.heap.size ≤ k) w' v l) ∧ Below w.heap.size w w' := by
  have HX := hide hx
  obtain ⟨sp, c, rfl, _⟩ := bytes_open hx.at_
  obtain ⟨N, hN⟩ : ∃ N, b.length = N := ⟨_, rfl⟩
  rw [hN] at HX hb ⊢
  have HNb := hide hN
  obtain ⟨ANS, hA⟩ : ∃ y, chsOf b = y := ⟨_, rfl⟩
  have HA0 : Hid (ANS = (rdL b.length b).map (([] : List Ch) ++ ·)) := by show _ = _; rw [← hA]; unfold chsOf; simp
  rw [hA]
  clear hx hN hA
  go_enter Tryz.func68, Tryz.ntmps68
  go_wp2
  go_loopw [0, 4] (fun bb ll wr => ∃ (sq sl : Option Addr) (nq cq nl cl n : Nat) (r : Bs) (t : List (Ch × Value × Value)), bb = .slice sq nq cq ∧ ll = .slice sl nl cl ∧ nq ≤ 1000000 ∧ nl + nq ≤ 1000000 ∧ Hid (r.length = nq) ∧ Hid (t.length = nl) ∧ Hid (ElS K wr (.slice sq nq cq) r) ∧ Hid (ChRow K w.heap.size wr (.slice sl nl cl) t) ∧ Hid (ANS = (rdL n r).map (chsT t ++ ·)) ∧ Hid (r.length ≤ n) ∧ Hid (Below w.heap.size w wr)) (fun bb _ _ => match bb with | .slice _ n _ => n | _ => 0)
  case atStart => exact ⟨sp, none, N, c, 0, 0, b.length, b, [], rfl, rfl, hb, by omega, unhide HNb, rfl, unhide HX, chrow_nil _ _ _, unhide HA0, Nat.le_refl _, Below.refl _ _⟩
  case round =>
    clear HX HNb HA0
    obtain ⟨sq, sl, nq, cq, nl, cl, n, r, t, rfl, rfl, hnq, hnl, HNq, HNl, HX, HT, HA, HRn, HB⟩ := hrel
    by_cases h0 : nq = 0
    · subst h0
      have d1 : decide ((0 : Int) < ((0 : Nat) : Int)) = false := by simp
      have d1i : decide ((0 : Int) < 0) = false := by simp
      have HE : Hid (ANS = some (chsT t)) := by
        show _ = _
        rw [unhide HA, List.eq_nil_of_length_eq_zero (unhide HNq), rdL_nil]
        simp
      clear HA HX
      go_wp2
      go_ret2
      refine ⟨_, by rw [unhide HE]; rfl, fun l hl => ?_, unhide HB⟩
      rw [unhide HE] at hl
      simp only [Option.some.injEq] at hl
      rw [← hl]
      exact (unhide HT).at_ (fun k hk => Or.inl hk) fun k hk => Or.inr hk
    · have d1 : decide ((0 : Int) < (nq : Int)) = true := by simp; omega
      have d1n : decide (0 < nq) = true := by simp; omega
      have hrne : r ≠ [] := fun e => h0 (by rw [← unhide HNq, e]; rfl)
      obtain ⟨m, hm, hstep⟩ := rdL_step hrne (unhide HRn)
      have Hc := hide (scut_c (unhide HX) (by rw [unhide HNq]; exact hnq) hrne (fun h => by have := hK _ h; have := (unhide HB).size; omega))
      have HST : Hid (ANS = (match rd1 r with | none => none | some (c, r') => (rdL m r').map (c :: ·)).map (chsT t ++ ·)) := by show _ = _; rw [← hstep]; exact unhide HA
      have HM : Hid (n = m + 1) := hm
      clear hrne hm hstep HA
      go_upto_region 4 with (first
        | (go_at_call 88; refine (unhide Hc).mono ?_
           rintro e W2 ⟨s1, s2, sr, n1, n2, nr, c1, c2, cr, g, rfl, hcr, hb2⟩
           obtain ⟨ok, hok⟩ : ∃ y, (rd1 r).isSome = y := ⟨_, rfl⟩
           have HOK := hide hok
           rw [hok]
           have HCR := hide hcr
           obtain ⟨W3, hW3⟩ : ∃ y, W2.alloc (.cells #[.slice s1 n1 c1, .slice s2 n2 c2, .bool g] 72) = y := ⟨_, rfl⟩
           have HB2 := hide hb2
           have HS3 : Hid (S3 W3 W2.heap.size (.slice s1 n1 c1) (.slice s2 n2 c2) (.bool g)) := by rw [← hW3]; exact S3.new W2 _ _ _
           have HB3 : Hid (Below wr.heap.size wr W3) := by rw [← hW3]; exact hb2.alloc hb2.size _
           have HB23 : Hid (Below W2.heap.size W2 W3) := by rw [← hW3]; exact (Below.refl _ _).alloc (Nat.le_refl _) _
           clear hcr hb2 hok))
      have n0 := (unhide HS3).c0
      have n1' := (unhide HS3).c1
      have n2' := (unhide HS3).c2
      cases ok
      · have HE : Hid (ANS = none) := by
          show _ = _
          rw [unhide HST]
          have h1 := unhide HOK
          cases hr : rd1 r with
          | none => rfl
          | some z => rw [hr] at h1; cases h1
        have HBw := hide ((unhide HB).trans ((unhide HB3).mono (unhide HB).size))
        go_wp2
        go_ret2
        refine ⟨_, by rw [unhide HE]; rfl, fun l hl => ?_, unhide HBw⟩
        rw [unhide HE] at hl
        cases hl
      · obtain ⟨ch, r', hr⟩ : ∃ c r', rd1 r = some (c, r') := by
          have h1 := unhide HOK
          cases hr : rd1 r with
          | none => rw [hr] at h1; cases h1
          | some z => exact ⟨z.1, z.2, rfl⟩
        obtain ⟨hg, hk1, hk2, hk3⟩ := unhide HCR ch r' hr
        obtain ⟨_, _, ek1, _⟩ := bytes_open hk1.at_
        obtain ⟨_, _, ek2, _⟩ := bytes_open hk2.at_
        obtain ⟨_, _, ek3, _⟩ := bytes_open hk3.at_
        have hless := rd1_less hr
        have hnr : nr = r'.length := by simp only [Value.slice.injEq] at ek3; exact ek3.2.1
        have HNr := hide hnr
        have hB3w := (unhide HB).trans ((unhide HB3).mono (unhide HB).size)
        have hB2s : w.heap.size ≤ W2.heap.size := Nat.le_trans (unhide HB).size (unhide HB2).size
        have HK1 := hide (hk1.aside (S := none_) (Aside.of_below (unhide HB23)) fun _ h => h.elim)
        have HK2 := hide (hk2.aside (S := none_) (Aside.of_below (unhide HB23)) fun _ h => h.elim)
        have HK3 := hide (hk3.aside (S := none_) (Aside.of_below (unhide HB23)) fun _ h => h.elim)
        have HT3 := hide ((unhide HT).call (unhide HB3))
        have HST' : Hid (ANS = (rdL m r').map (chsT (t ++ [(ch, Value.slice s1 n1 c1, Value.slice s2 n2 c2)]) ++ ·)) := by
          show _ = _
          rw [unhide HST, hr]
          cases hz : rdL m r' <;> simp [chsT, hz]
        have HRm : Hid (r'.length ≤ m) := by show _ ≤ _; have := unhide HRn; have := unhide HM; omega
        have hnr1 : nr < nq := by rw [hnr, ← unhide HNq]; exact hless
        have HGc : Hid (ch.gone = g) := hg
        have HBw3 := hide hB3w
        have HB2s := hide hB2s
        obtain ⟨W4, hW4⟩ : ∃ y, W3.alloc (.cells #[.slice s1 n1 c1, .slice s2 n2 c2, .bool g] 72) = y := ⟨_, rfl⟩
        have HS4 : Hid (S3 W4 W3.heap.size (.slice s1 n1 c1) (.slice s2 n2 c2) (.bool g)) := by rw [← hW4]; exact S3.new W3 _ _ _
        have HB34 : Hid (Below W3.heap.size W3 W4) := by rw [← hW4]; exact (Below.refl _ _).alloc (Nat.le_refl _) _
        have HT4 := hide ((unhide HT3).call (unhide HB34))
        have HBw4 := hide ((unhide HBw3).trans ((unhide HB34).mono (unhide HBw3).size))
        clear hr hg hk1 hk2 hk3 ek1 ek2 ek3 hless hnr hB3w hB2s HST HRn HM HX HT HCR HOK HT3
        go_wp2_with (first
          | (at_builtin; refine wpList_append_one ElCh rfl _ _ rfl w.heap.size (.slice sl nl cl) nl (chCells t) [.slice s1 n1 c1, .slice s2 n2 c2, .bool g] rfl (by have := (unhide HT4).own; rw [unhide HNl] at this; exact this) W3.heap.size 0 1 rfl rfl (fun j u hu => by
               rcases j with _ | _ | _ | j
               · simp only [List.getElem?_cons_zero, Option.some.injEq] at hu; subst hu; exact (unhide HS4).c0
               · simp only [List.getElem?_cons_succ, List.getElem?_cons_zero, Option.some.injEq] at hu; subst hu; exact (unhide HS4).c1
               · simp only [List.getElem?_cons_succ, List.getElem?_cons_zero, Option.some.injEq] at hu; subst hu; exact (unhide HS4).c2
               · simp at hu) (by simp [Value.oneCell']) (unhide HBw4).size (by omega) ?_
             intro v5 W5 ho5 hg5 hor5
             obtain ⟨s5, c5, e5, _⟩ := ho5.form
             subst e5
             have hb5 : Below w.heap.size W4 W5 := Aside.below (S := fun k => (Value.slice sl nl cl).ownBlock = some k) (Aside.of_grown hg5 fun _ h => h) (unhide HBw4).size fun k hk => ((unhide HT4).own.lt k hk).1
             have HK3' := hide (((unhide HK3).aside (S := none_) (Aside.of_below (unhide HB34)) fun _ h => h.elim).low hb5 hK)
             have HT5 : Hid (ChRow K w.heap.size W5 (.slice s5 (nl + 1) c5) (t ++ [(ch, .slice s1 n1 c1, .slice s2 n2 c2)])) := (unhide HT4).add (x := (ch, .slice s1 n1 c1, .slice s2 n2 c2)) (by rw [unhide HNl]; simp only [unhide HGc]; exact ho5) hb5 hK ((unhide HK1).aside (S := none_) (Aside.of_below (unhide HB34)) fun _ h => h.elim) ((unhide HK2).aside (S := none_) (Aside.of_below (unhide HB34)) fun _ h => h.elim)
             have HBw5 : Hid (Below w.heap.size w W5) := (unhide HBw4).trans hb5
             clear ho5 hg5 hor5 hb5))
        refine ⟨⟨sr, s5, nr, cr, nl + 1, c5, m, r', _, rfl, rfl, by omega, by omega, (unhide HNr).symm, ?_, HK3', HT5, HST', HRm, HBw5⟩, ?_⟩
        · show _ = _; rw [List.length_append, unhide HNl]; rfl
        · exact hnr1
end Go.Proofs.YtbjgknoipbekoaaGreat
