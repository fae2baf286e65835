/-
  The walk of the landed sectorsOf.
-/
import Derived.Test.YtbjgknoipbekoaaGreatQ11
namespace Go.Proofs.YtbjgknoipbekoaaGreat
open Go.RowKit Go.Shelf
attribute [local go_sem] Oper.semAt_some
set_option maxRecDepth 100000 in
set_option maxHeartbeats 8000000 in
theorem wsecs_c (w : World) (B : Nat) (p v : Value) (L : LS) (x : Value) (b : Bs) (hstr : w.heap[B]? = some (.cells (logC p v L).toArray 131 (0, 0))) (hv : ∃ sp c, v = .slice sp L.rs.length c) (hx : BytesAt w x b) (hb : b.length ≤ 65536) (hg : L.gen < 4294967296) (ho : L.opening < 4294967296) (hr : L.rs.length < 100000) :
    Calls Tryz.prog 73 #[.pointer (some ⟨B, 0, none⟩), x] w fun e w' => ∃ u us, e = .returned u ∧ GrowF w.heap.size w' u us (recS b L.gen L.opening (L.rs.length + 1)) ∧ Below w.heap.size w w' := by
  obtain ⟨spv, cv, rfl⟩ := hv
  obtain ⟨sx, cx, rfl, _⟩ := bytes_open hx
  obtain ⟨_, _, _, k3, k4, k5, _⟩ := seven_row hstr
  have hBlt : B < w.heap.size := (Array.getElem?_eq_some_iff.1 hstr).1
  obtain ⟨BL, hBL⟩ : ∃ y, b.length = y := ⟨_, rfl⟩
  obtain ⟨M, hM⟩ : ∃ y, needs BL = y := ⟨_, rfl⟩
  obtain ⟨LA, hLA⟩ : ∃ y, M - 1 = y := ⟨_, rfl⟩
  obtain ⟨g, hgg⟩ : ∃ y, L.gen = y := ⟨_, rfl⟩
  obtain ⟨o, hoo⟩ : ∃ y, L.opening = y := ⟨_, rfl⟩
  obtain ⟨D, hD⟩ : ∃ y, L.rs.length = y := ⟨_, rfl⟩
  obtain ⟨n, hn⟩ : ∃ y, D + 1 = y := ⟨_, rfl⟩
  have hM1 := needs_pos BL
  have hMm := needs_most (n := BL) (by omega)
  rw [hM] at hM1 hMm
  have eLA : (M : Int) - 1 = (LA : Int) := by omega
  have en : (D : Int) + 1 = (n : Int) := by omega
  have wn : IntKind.i64.wrap (n : Int) = (n : Int) := by rw [IntKind.wrap_i64]; omega
  have wLA : IntKind.i64.wrap (LA : Int) = (LA : Int) := by rw [IntKind.wrap_i64]; omega
  have Hp := hide (fun w => wparts_s w BL (by omega))
  rw [hM] at Hp
  rw [hgg] at k3 hg ⊢
  rw [hoo] at k4 ho ⊢
  rw [hD] at k5 hr ⊢
  rw [hn, hBL]
  rw [hBL] at hx hb
  have HX := hide hx
  have HBL := hide hBL
  have HM := hide hM
  have HLA := hide hLA
  have Hn := hide hn
  clear hstr hx hBL hM hLA hgg hoo hD hn
  refine (callsIn_wide (n := 3)).1 ?_
  refine callsIn_of_wp_marks Tryz.func73 rfl trivial ?_ rfl
  simp only [Tryz.ntmps73, List.size_toArray, List.length_cons, List.length_nil, Nat.reduceAdd, Nat.reduceSub, Array.replicate_succ, Array.replicate_zero, List.push_toArray, List.append_toArray, List.nil_append, List.cons_append]
  refine wpIn_wide.2 ?_
  go_wp2
  go_region_held3 (fun w' => w'.cell? ⟨B, 3, none⟩ = some (.int .i64 (g : Int)) ∧ w'.cell? ⟨B, 4, none⟩ = some (.int .i64 (o : Int)) ∧ w'.cell? ⟨B, 5, none⟩ = some (.slice spv D cv)) (go_keep)
    ((first
      | (go_at_call 72
         refine (unhide Hp _).mono ?_
         rintro e w' ⟨rfl, rfl⟩)))
  · clear k3 k4 k5
    obtain ⟨w2, hw2⟩ : ∃ y, w.alloc (.cells #[.int .i64 (g : Int), .int .i64 (o : Int), .int .i64 (n : Int), .int .i64 0, .int .i64 (LA : Int)] 144) = y := ⟨_, rfl⟩
    have hd2 : HdAt w2 w.heap.size g o n 0 LA := by unfold HdAt; rw [← hw2]; exact heap_alloc_new w _
    have hb2 : Below w.heap.size w w2 := by rw [← hw2]; exact (Below.refl _ _).alloc (Nat.le_refl _) _
    have hs2 : w2.heap.size = w.heap.size + 1 := by rw [← hw2]; simp
    rw [hw2]
    clear hw2
    have hb3 : Below w2.heap.size w2 (w2.alloc (.cells #[.slice none 0 0] 44)).drew := ((Below.refl _ _).alloc (Nat.le_refl _) _).drew
    have hv3 : (w2.alloc (.cells #[.slice none 0 0] 44)).drew.heap[w2.heap.size]? = some (.cells [Value.slice none 0 0].toArray 44 (0, 0)) := heap_alloc_new w2 _
    have hs3 : (w2.alloc (.cells #[.slice none 0 0] 44)).drew.heap.size = w2.heap.size + 1 := by simp
    obtain ⟨w3, hw3⟩ : ∃ y, (w2.alloc (.cells #[.slice none 0 0] 44)).drew = y := ⟨_, rfl⟩
    rw [hw3] at hb3 hv3 hs3
    rw [hs2] at hv3 hs3
    have hb3w : Below w.heap.size w w3 := hb2.trans (hb3.mono hb2.size)
    have hd3 : HdAt w3 w.heap.size g o n 0 LA := by unfold HdAt; rw [hb3.block _ (by omega)]; exact hd2
    have Hwl := hide (wlen_c w3 _ b ((unhide HX).below hb3w) (by rw [unhide HBL]; exact hb))
    rw [unhide HBL] at Hwl
    have HB3 := hide hb3w
    have HV3 := hide hv3
    have HS3 := hide hs3
    have HD3 := hide hd3
    go_wp2_with fail
    refine (unhide Hwl).mono ?_
    rintro e w4 ⟨v4, rfl, h4⟩
    obtain ⟨G, c4, e4, hGge, hGlt, _⟩ := OwnV.cellAt h4.own (by intro e; have := congrArg List.length e; simp [big_len] at this)
    obtain ⟨N, hN⟩ : ∃ y, 4 + BL = y := ⟨_, rfl⟩
    have hql : (bigB BL 4 ++ b).length = N := by rw [List.length_append, big_len, unhide HBL, hN]
    rw [List.length_map, hql] at e4
    subst e4
    have HR4 := hide h4
    have HQL := hide hql
    have HG1 := hide hGge
    have HG2 := hide hGlt
    have HN := hide hN
    have Hch := hide (chunk_c w4 (some ⟨G, 0, none⟩) N c4)
    clear hb2 hb3 hv3 hs3 hb3w hd3 hd2 hs2 hw3 Hwl h4 hGge hGlt hN hql
    go_wp2_with fail
    refine (unhide Hch).mono ?_
    rintro e w5 ⟨rfl, hw5⟩
    have HW5 := hide hw5
    clear hw5 Hch
    go_wp2
    have hs4 := (unhide HR4).b.size
    have hs5 : w5.heap.size = w4.heap.size + 2 := by rw [unhide HW5]; simp
    have hb45 : Below w4.heap.size w4 w5 := by rw [unhide HW5]; exact ((Below.refl _ _).alloc (Nat.le_refl _) _).alloc (by simp) _
    have hb35 : Below w3.heap.size w3 w5 := (unhide HR4).b.trans (hb45.mono (unhide HR4).b.size)
    have hbs : w5.cell? ⟨w4.heap.size, 0, none⟩ = some (.slice (some ⟨G, 0, none⟩) N c4) := by
      rw [unhide HW5, World.cell?_alloc_lt _ _ _ (by simp)]
      exact row_cell (T := 23) (cs := [.slice (some ⟨G, 0, none⟩) N c4]) (heap_alloc_new w4 _) 0 _ rfl
    have hbn : w5.cell? ⟨w4.heap.size + 1, 0, none⟩ = some (.int .i64 48) := by
      have h : ((w4.alloc (.cells #[.slice (some ⟨G, 0, none⟩) N c4] 23)).alloc (.cells #[.int .i64 48] 3)).cell? ⟨(w4.alloc (.cells #[.slice (some ⟨G, 0, none⟩) N c4] 23)).heap.size, 0, none⟩ = some (.int .i64 48) := row_cell (T := 3) (cs := [.int .i64 48]) (heap_alloc_new _ _) 0 _ rfl
      rw [World.size_alloc] at h
      rw [unhide HW5]
      exact h
    have hdat : BytesAt w5 (.slice (some ⟨G, 0, none⟩) N c4) (bigB BL 4 ++ b) := (unhide HR4).own.bytes.below hb45
    have hcN : N ≤ c4 := by
      obtain ⟨_, c', e_, h_, _⟩ := bytes_open hdat
      simp only [Value.slice.injEq] at e_
      rw [unhide HQL] at h_
      omega
    have hm : N ≤ 48 * M ∧ 48 * M < N + 48 := by
      have h1 := unhide HM
      have h2 := unhide HN
      unfold needs at h1
      omega
    have hS0 : SB w w5.heap.size w.heap.size (w.heap.size + 1) G 0 N c4 g o n LA (bigB BL 4 ++ b) [] w5 (.slice none 0 0) [] := by
      have h3 := unhide HS3
      refine ⟨?_, ?_, growf_nil _ _, hdat, (unhide HB3).trans (hb35.mono (unhide HB3).size), Nat.le_refl _⟩
      · unfold HdAt; rw [hb35.block _ (by omega)]; exact unhide HD3
      · rw [hb35.block _ (by omega)]; exact unhide HV3
    have hNb : N ≤ 1000000 := by have := unhide HN; omega
    have hGb := unhide HG1
    have hGl := unhide HG2
    have h3s := unhide HS3
    refine wpIn_wide.1 (wpIn_rangeFunc_ownF (F := Fence.wide) (n := 3) rfl (by omega) (gf := 104) (lb := #[.pointer (some ⟨w4.heap.size, 0, none⟩), .pointer (some ⟨w4.heap.size + 1, 0, none⟩)]) rfl trivial (enters_of Tryz.func104 (by kernel_rfl) rfl)
      (chunk_stops 2 (by omega) w4.heap.size (w4.heap.size + 1) G 0 N c4 M hcN hNb hm.1 hm.2 w5 (by omega) (by omega) hbs hbn) keepc_t (keepc_b (by omega) (by omega)) (Below.refl _ _) (fun _ => rfl)
      (fun pre W => ∃ v vs, SB w w5.heap.size w.heap.size (w.heap.size + 1) G 0 N c4 g o n LA (bigB BL 4 ++ b) pre W v vs) (fun _ _ _ => False)
      (fun s W W' row hs hg hr => by obtain ⟨v, vs, h⟩ := hs; exact ⟨v, vs, h.turn (by omega) (by omega) (by omega) (by omega) hg hr⟩)
      (fun _ _ _ _ _ h _ _ => h) ⟨_, _, hS0⟩ ?a11 ?assign1 ?body1 ?done1 ?stop1)
    case assign1 =>
      intro l x W K hK
      gi_wp2
      exact hK
    case body1 =>
      rintro l pre x W ⟨v, vs, hS⟩ hlen
      obtain ⟨sv, cw, ev⟩ := hS.rows.own.form
      obtain ⟨VN, hVN⟩ : ∃ y, vs.length = y := ⟨_, rfl⟩
      rw [hVN] at ev
      subst ev
      obtain ⟨pb1, pb2, pb3⟩ := part_bytes hS.data (unhide HQL) x.2
      have hck : ckN N x.1 ≤ 48 := by unfold ckN; split <;> omega
      have Hsec := hide (wsector_c W.drew g o n pre.length LA (ckV G 0 N x.1) _ (pb1.below (Below.refl _ _).drew) (by intro e; rw [e] at pb2; simp at pb2; omega) (by rw [pb2]; exact hck) (by omega) (by omega) (by omega) (by omega) (by omega))
      have HLs : Hid ((headS g o n pre.length LA ++ (((bigB BL 4 ++ b).drop (48 * x.1)).take 48 ++ List.replicate (48 - (((bigB BL 4 ++ b).drop (48 * x.1)).take 48).length) 0)).length = 64) := by
        show _ = _
        rw [List.length_append, head_len, List.length_append, List.length_replicate, pb2]
        omega
      have HS := hide hS
      have HVN := hide hVN
      have HVM : Hid (vs.length < 2000) := by show _ < _; rw [hS.rows.len]; unfold secsOf; rw [List.length_mapIdx]; omega
      have m0 := row_cell hS.var 0 _ rfl
      have hb0 := hS.b0
      have HLt : Hid (w.heap.size < w5.heap.size ∧ w.heap.size + 1 < w5.heap.size ∧ w.heap.size + 2 ≤ G ∧ G < w5.heap.size) := ⟨by omega, by omega, by omega, by omega⟩
      have HRg : Hid (∀ w', Below W.heap.size W w' → w'.rangeAt w.heap.size 0 (hdC g o n pre.length LA)) := fun w' hb j u hu => by
        rw [Nat.zero_add, hb.cell (p := ⟨w.heap.size, j, none⟩) (by show w.heap.size < W.heap.size; omega)]
        exact row_cell hS.hd j u hu
      have HM0 : Hid (∀ w', Below W.heap.size W w' → w'.cell? ⟨w.heap.size + 1, 0, none⟩ = some (.slice sv VN cw)) := fun w' hb => by
        rw [hb.cell (p := ⟨w.heap.size + 1, 0, none⟩) (by show w.heap.size + 1 < W.heap.size; omega)]
        exact m0
      have HAs : Hid (∀ (W5 : World) (W3 : World) (u : Value), Below W.drew.heap.size W.drew W3 → (W3.alloc (.cells #[u] 23)).grownBy W5 (Value.slice sv VN cw).ownBlock → Aside (fun k => w5.heap.size ≤ k) W W5) := fun W5 W3 u hb hg => by
        have h1 : Below W.heap.size W (W3.alloc (.cells #[u] 23)) := ((Below.refl _ _).drew.trans (hb.mono (Nat.le_refl _))).alloc (Nat.le_trans (Nat.le_refl _) hb.size) _
        exact (Aside.of_below h1).trans (Aside.of_grown hg (S := fun k => w5.heap.size ≤ k) fun k hk => (hS.rows.lt.1 k hk).1) fun _ _ h => h
      have HRg5 : Hid (∀ W5, Aside (fun k => w5.heap.size ≤ k) W W5 → W5.rangeAt w.heap.size 0 (hdC g o n pre.length LA)) := fun W5 hA j u hu => by
        rw [Nat.zero_add]
        exact cell_aside (row_cell hS.hd j u hu) hA (by omega)
      have HM5 : Hid (∀ W5, Aside (fun k => w5.heap.size ≤ k) W W5 → W5.cell? ⟨w.heap.size + 1, 0, none⟩ = some (.slice sv VN cw) ∧ W5.frozen? ⟨w.heap.size + 1, 0, none⟩ = false) := fun W5 hA => by
        have hr : W5.heap[w.heap.size + 1]? = some (.cells [Value.slice sv VN cw].toArray 44 (0, 0)) := by rw [hA.block _ (by omega) (by omega)]; exact hS.var
        exact ⟨row_cell hr 0 _ rfl, row_frozen hr 0⟩
      have HRg6 : Hid (∀ W5 u, Aside (fun k => w5.heap.size ≤ k) W W5 → (W5.setCell ⟨w.heap.size + 1, 0, none⟩ u).rangeAt w.heap.size 0 (hdC g o n pre.length LA)) := fun W5 u hA => range_grown (unhide HRg5 W5 hA) (setCell_grown (w.heap.size + 1) 0 u) (by omega)
      have HK5 : Hid (∀ W5 u, Aside (fun k => w5.heap.size ≤ k) W W5 → (W5.setCell ⟨w.heap.size + 1, 0, none⟩ u).cell? ⟨w.heap.size, 3, none⟩ = some (.int .i64 (pre.length : Int)) ∧ (W5.setCell ⟨w.heap.size + 1, 0, none⟩ u).frozen? ⟨w.heap.size, 3, none⟩ = false) := fun W5 u hA => by
        have h1 := unhide HRg6 W5 u hA 3 _ rfl
        refine ⟨by rw [Nat.zero_add] at h1; exact h1, ?_⟩
        have hr : W5.heap[w.heap.size]? = some (.cells (hdC g o n pre.length LA).toArray 144 (0, 0)) := by rw [hA.block _ (by omega) (by omega)]; exact hS.hd
        rw [World.frozen?_setCell]
        exact row_frozen hr 3
      have HKc : Hid (∀ W', (∀ k, k < w5.heap.size → k ≠ w.heap.size → k ≠ w.heap.size + 1 → W'.heap[k]? = W.heap[k]?) → KeepC w4.heap.size (w4.heap.size + 1) W W') := fun W' h => ⟨World.cell?_of_block (h w4.heap.size (by omega) (by omega) (by omega)), World.cell?_of_block (h (w4.heap.size + 1) (by omega) (by omega) (by omega))⟩
      have hpl : pre.length < 2000 := by omega
      clear pb1 pb2 pb3 hck hVN hS hb45 hb35 hbs hbn hdat hS0 hlen
      gi_wp2
      refine region_in_round (S := fun w' => w'.rangeAt w.heap.size 0 (hdC g o n pre.length LA)) (by kernel_rfl) (by kernel_rfl) (fun ⟨_, _, h⟩ => h) (unhide HRg _ (Below.refl _ _).drew) (fun hHeld => ?_)
      refine wpAnyH_take (i := 1) (oi := { dst := some 32, op := Op.load 144 (Operand.tmp 5), type := 144, pos := "wal.go:85", after := #[], guard := none }) (v := .agg (hdC g o n pre.length LA).toArray) rfl (by kernel_rfl) (by kernel_rfl) (by kernel_rfl) (fun _ _ _ h => h) (yieldsIf_load_mid (by rfl) 144 _ rfl w.heap.size 0 rfl (hdC g o n pre.length LA) _ (fun w_ hSw => hSw) Tryz.underlying144 rfl (by kernel_rfl)) (by assumption) ?_
      simp only [Act.put, List.setIfInBounds_toArray, List.set_cons_zero, List.set_cons_succ]
      refine wpAnyH_take (i := 2) (oi := { dst := some 33, op := Op.move (Operand.tmp 7), type := 23, pos := "wal.go:85", after := #[], guard := none }) (v := ?_) rfl (by kernel_rfl) (by kernel_rfl) (by kernel_rfl) (fun _ _ _ h => h) (Or.inl ⟨by rfl, ?k1⟩) (by assumption) ?_
      case k1 => (intro w_ hSw; (try dsimp only at hSw); go_simp; try with_reducible rfl)
      simp only [Act.put, List.setIfInBounds_toArray, List.set_cons_zero, List.set_cons_succ]
      refine wpAnyH_ready (rs := [0, 3]) (by kernel_rfl) (by simp) ?_
      refine (AllReadyH.cons (o := { dst := some 31, op := Op.load 44 (Operand.tmp 6), type := 44, pos := "wal.go:85", after := #[], guard := none }) rfl (fun K_ hK_ => ?_) (AllReadyH.cons (o := { dst := some 34, op := Op.call { callee := Callee.value (Operand.func 92), args := #[Operand.tmp 32, Operand.tmp 33], argTypes := #[144, 23] }, type := 23, pos := "wal.go:85", after := #[{ on := 1, ground := Ground.data }, { on := 2, ground := Ground.data }], guard := none }) rfl (fun K_ hK_ => ?_) AllReadyH.nil))
      · have c_ : W.drew.cell? ⟨(w.heap.size + 1), 0, none⟩ = some (.slice sv VN cw) := m0
        go_simp
        clear c_
        refine hK_.out _ _ (unhide HRg _ ((Below.refl _ _).drew)) (fun hHeld => ?_)
        clear hK_ K_
        (try simp only [Act.put, List.setIfInBounds_toArray, List.set_cons_zero, List.set_cons_succ])
        refine wpAnyH_ready (rs := [3]) (by kernel_rfl) (by simp) ?_
        refine AllReadyH.cons (o := { dst := some 34, op := Op.call { callee := Callee.value (Operand.func 92), args := #[Operand.tmp 32, Operand.tmp 33], argTypes := #[144, 23] }, type := 23, pos := "wal.go:85", after := #[{ on := 1, ground := Ground.data }, { on := 2, ground := Ground.data }], guard := none }) rfl (fun K_ hK_ => ?_) AllReadyH.nil
        go_simp
        go_at_call 92
        refine (unhide Hsec).mono ?_
        rintro e W3 ⟨s3, rfl, h3⟩
        obtain ⟨p3, q3, e3⟩ := h3.own.form
        rw [unhide HLs] at e3
        subst e3
        have HR3 := hide h3
        have HB3 : Hid (Below W.heap.size W W3) := (Below.refl _ _).drew.trans (h3.b.mono (Nat.le_refl _))
        clear h3
        go_simp
        refine hK_.out _ _ (unhide HRg _ (unhide HB3)) (fun hHeld => ?_)
        clear hK_ K_
        (try simp only [Act.put, List.setIfInBounds_toArray, List.set_cons_zero, List.set_cons_succ])
        refine wpAnyH_ready (rs := [4]) (by kernel_rfl) (by simp) ?_
        refine AllReadyH.cons (o := { dst := some 35, op := Op.buildSlice 44 1 #[(0, Operand.tmp 34)], type := 44, pos := "wal.go:85", after := #[{ on := 3, ground := Ground.data }], guard := none }) rfl (fun K_ hK_ => ?_) AllReadyH.nil
        go_simp
        obtain ⟨W4, hW4⟩ : ∃ y, W3.alloc (.cells #[.slice p3 64 q3] 23) = y := ⟨_, rfl⟩
        have HB4 : Hid (Below W.heap.size W W4) := by show Below _ _ _; rw [← hW4]; exact (unhide HB3).alloc (unhide HB3).size _
        have HW4 := hide hW4
        have HV4 : Hid (ValsAt W4 (.slice (some ⟨W3.heap.size, 0, none⟩) 1 1) [.slice p3 64 q3]) := by show ValsAt _ _ _; rw [← hW4]; exact vals_new W3 [.slice p3 64 q3] 23
        rw [hW4]
        clear hW4
        refine hK_.out _ _ (unhide HRg _ (unhide HB4)) (fun hHeld => ?_)
        clear hK_ K_
        (try simp only [Act.put, List.setIfInBounds_toArray, List.set_cons_zero, List.set_cons_succ])
        refine wpAnyH_ready (rs := [5]) (by kernel_rfl) (by simp) ?_
        refine AllReadyH.cons (o := { dst := some 36, op := Op.call { callee := Callee.builtin Builtin.append, args := #[Operand.tmp 31, Operand.tmp 35], argTypes := #[44, 44] }, type := 44, pos := "wal.go:85", after := #[{ on := 0, ground := Ground.data }, { on := 4, ground := Ground.data }, { on := 3, ground := Ground.chain }], guard := none }) rfl (fun K_ hK_ => ?_) AllReadyH.nil
        refine step_append_vals Ebb rfl _ _ rfl w5.heap.size (.slice sv VN cw) (.slice (some ⟨W3.heap.size, 0, none⟩) 1 1) vs [.slice p3 64 q3] rfl ((unhide HS).rows.own.below (unhide HB4)) rfl (unhide HV4) (by simp [Value.oneCell']) (Nat.le_trans (unhide HS).b0 (unhide HB4).size) (by have := unhide HVN; have := unhide HVM; simp; omega) ?_
        intro v5 W5 ho5 hg5 hor5
        obtain ⟨s5, c5, e5⟩ := ho5.form
        rw [List.length_append, unhide HVN, List.length_singleton] at e5
        subst e5
        rw [← unhide HW4] at hg5 hor5
        obtain ⟨hN1, hN2, hN3⟩ := (unhide HS).next (x := x) (by have := unhide HLt; omega) (by have := unhide HLt; omega) (by have := unhide HLt; omega) (by omega) (by have := unhide HLt; omega) (by have := unhide HLt; omega) (by omega) (by omega) (Below.refl _ _).drew (unhide HR3) ho5 hg5 hor5
        have HA5 : Hid (Aside (fun k => w5.heap.size ≤ k) W W5) := unhide HAs W5 _ _ (unhide HR3).b hg5
        have HN1 := hide hN1
        have HN2 := hide hN2
        have HN3 := hide hN3
        clear ho5 hg5 hor5 hN1 hN2 hN3
        refine hK_.out _ _ (unhide HRg5 W5 (unhide HA5)) (fun hHeld => ?_)
        clear hK_ K_
        (try simp only [Act.put, List.setIfInBounds_toArray, List.set_cons_zero, List.set_cons_succ])
        refine wpAnyH_ready (rs := [6]) (by kernel_rfl) (by simp) ?_
        refine AllReadyH.cons (o := { dst := none, op := Op.store 44 (Operand.tmp 6) (Operand.tmp 36), type := 0, pos := "wal.go:85", after := #[{ on := 5, ground := Ground.data }, { on := 5, ground := Ground.chain }, { on := 0, ground := Ground.phase }, { on := 1, ground := Ground.phase }, { on := 2, ground := Ground.phase }, { on := 3, ground := Ground.phase }, { on := 4, ground := Ground.phase }, { on := 5, ground := Ground.phase }], guard := none }) rfl (fun K_ hK_ => ?_) AllReadyH.nil
        have c_ := (unhide HM5 W5 (unhide HA5)).1
        have z_ := (unhide HM5 W5 (unhide HA5)).2
        go_simp
        clear c_ z_
        refine hK_.out _ _ (unhide HRg6 W5 _ (unhide HA5)) (fun hHeld => ?_)
        clear hK_ K_
        (try simp only [Act.put, List.setIfInBounds_toArray, List.set_cons_zero, List.set_cons_succ])
        refine wpAnyH_done (by kernel_rfl) ?_ _
        obtain ⟨k3, z3⟩ := unhide HK5 W5 (.slice s5 (VN + 1) c5) (unhide HA5)
        gi_wp2
        exact ⟨unhide HN2, unhide HKc _ (unhide HN3), _, _, unhide HN1⟩
      · go_simp
        go_at_call 92
        refine (unhide Hsec).mono ?_
        rintro e W3 ⟨s3, rfl, h3⟩
        obtain ⟨p3, q3, e3⟩ := h3.own.form
        rw [unhide HLs] at e3
        subst e3
        have HR3 := hide h3
        have HB3 : Hid (Below W.heap.size W W3) := (Below.refl _ _).drew.trans (h3.b.mono (Nat.le_refl _))
        clear h3
        go_simp
        refine hK_.out _ _ (unhide HRg _ (unhide HB3)) (fun hHeld => ?_)
        clear hK_ K_
        (try simp only [Act.put, List.setIfInBounds_toArray, List.set_cons_zero, List.set_cons_succ])
        refine wpAnyH_ready (rs := [0, 4]) (by kernel_rfl) (by simp) ?_
        refine (AllReadyH.cons (o := { dst := some 31, op := Op.load 44 (Operand.tmp 6), type := 44, pos := "wal.go:85", after := #[], guard := none }) rfl (fun K_ hK_ => ?_) (AllReadyH.cons (o := { dst := some 35, op := Op.buildSlice 44 1 #[(0, Operand.tmp 34)], type := 44, pos := "wal.go:85", after := #[{ on := 3, ground := Ground.data }], guard := none }) rfl (fun K_ hK_ => ?_) AllReadyH.nil))
        · have c_ := (unhide HM0 W3 (unhide HB3))
          go_simp
          clear c_
          refine hK_.out _ _ (unhide HRg _ (unhide HB3)) (fun hHeld => ?_)
          clear hK_ K_
          (try simp only [Act.put, List.setIfInBounds_toArray, List.set_cons_zero, List.set_cons_succ])
          refine wpAnyH_ready (rs := [4]) (by kernel_rfl) (by simp) ?_
          refine AllReadyH.cons (o := { dst := some 35, op := Op.buildSlice 44 1 #[(0, Operand.tmp 34)], type := 44, pos := "wal.go:85", after := #[{ on := 3, ground := Ground.data }], guard := none }) rfl (fun K_ hK_ => ?_) AllReadyH.nil
          go_simp
          obtain ⟨W4, hW4⟩ : ∃ y, W3.alloc (.cells #[.slice p3 64 q3] 23) = y := ⟨_, rfl⟩
          have HB4 : Hid (Below W.heap.size W W4) := by show Below _ _ _; rw [← hW4]; exact (unhide HB3).alloc (unhide HB3).size _
          have HW4 := hide hW4
          have HV4 : Hid (ValsAt W4 (.slice (some ⟨W3.heap.size, 0, none⟩) 1 1) [.slice p3 64 q3]) := by show ValsAt _ _ _; rw [← hW4]; exact vals_new W3 [.slice p3 64 q3] 23
          rw [hW4]
          clear hW4
          refine hK_.out _ _ (unhide HRg _ (unhide HB4)) (fun hHeld => ?_)
          clear hK_ K_
          (try simp only [Act.put, List.setIfInBounds_toArray, List.set_cons_zero, List.set_cons_succ])
          refine wpAnyH_ready (rs := [5]) (by kernel_rfl) (by simp) ?_
          refine AllReadyH.cons (o := { dst := some 36, op := Op.call { callee := Callee.builtin Builtin.append, args := #[Operand.tmp 31, Operand.tmp 35], argTypes := #[44, 44] }, type := 44, pos := "wal.go:85", after := #[{ on := 0, ground := Ground.data }, { on := 4, ground := Ground.data }, { on := 3, ground := Ground.chain }], guard := none }) rfl (fun K_ hK_ => ?_) AllReadyH.nil
          refine step_append_vals Ebb rfl _ _ rfl w5.heap.size (.slice sv VN cw) (.slice (some ⟨W3.heap.size, 0, none⟩) 1 1) vs [.slice p3 64 q3] rfl ((unhide HS).rows.own.below (unhide HB4)) rfl (unhide HV4) (by simp [Value.oneCell']) (Nat.le_trans (unhide HS).b0 (unhide HB4).size) (by have := unhide HVN; have := unhide HVM; simp; omega) ?_
          intro v5 W5 ho5 hg5 hor5
          obtain ⟨s5, c5, e5⟩ := ho5.form
          rw [List.length_append, unhide HVN, List.length_singleton] at e5
          subst e5
          rw [← unhide HW4] at hg5 hor5
          obtain ⟨hN1, hN2, hN3⟩ := (unhide HS).next (x := x) (by have := unhide HLt; omega) (by have := unhide HLt; omega) (by have := unhide HLt; omega) (by omega) (by have := unhide HLt; omega) (by have := unhide HLt; omega) (by omega) (by omega) (Below.refl _ _).drew (unhide HR3) ho5 hg5 hor5
          have HA5 : Hid (Aside (fun k => w5.heap.size ≤ k) W W5) := unhide HAs W5 _ _ (unhide HR3).b hg5
          have HN1 := hide hN1
          have HN2 := hide hN2
          have HN3 := hide hN3
          clear ho5 hg5 hor5 hN1 hN2 hN3
          refine hK_.out _ _ (unhide HRg5 W5 (unhide HA5)) (fun hHeld => ?_)
          clear hK_ K_
          (try simp only [Act.put, List.setIfInBounds_toArray, List.set_cons_zero, List.set_cons_succ])
          refine wpAnyH_ready (rs := [6]) (by kernel_rfl) (by simp) ?_
          refine AllReadyH.cons (o := { dst := none, op := Op.store 44 (Operand.tmp 6) (Operand.tmp 36), type := 0, pos := "wal.go:85", after := #[{ on := 5, ground := Ground.data }, { on := 5, ground := Ground.chain }, { on := 0, ground := Ground.phase }, { on := 1, ground := Ground.phase }, { on := 2, ground := Ground.phase }, { on := 3, ground := Ground.phase }, { on := 4, ground := Ground.phase }, { on := 5, ground := Ground.phase }], guard := none }) rfl (fun K_ hK_ => ?_) AllReadyH.nil
          have c_ := (unhide HM5 W5 (unhide HA5)).1
          have z_ := (unhide HM5 W5 (unhide HA5)).2
          go_simp
          clear c_ z_
          refine hK_.out _ _ (unhide HRg6 W5 _ (unhide HA5)) (fun hHeld => ?_)
          clear hK_ K_
          (try simp only [Act.put, List.setIfInBounds_toArray, List.set_cons_zero, List.set_cons_succ])
          refine wpAnyH_done (by kernel_rfl) ?_ _
          obtain ⟨k3, z3⟩ := unhide HK5 W5 (.slice s5 (VN + 1) c5) (unhide HA5)
          gi_wp2
          exact ⟨unhide HN2, unhide HKc _ (unhide HN3), _, _, unhide HN1⟩
        · go_simp
          obtain ⟨W4, hW4⟩ : ∃ y, W3.alloc (.cells #[.slice p3 64 q3] 23) = y := ⟨_, rfl⟩
          have HB4 : Hid (Below W.heap.size W W4) := by show Below _ _ _; rw [← hW4]; exact (unhide HB3).alloc (unhide HB3).size _
          have HW4 := hide hW4
          have HV4 : Hid (ValsAt W4 (.slice (some ⟨W3.heap.size, 0, none⟩) 1 1) [.slice p3 64 q3]) := by show ValsAt _ _ _; rw [← hW4]; exact vals_new W3 [.slice p3 64 q3] 23
          rw [hW4]
          clear hW4
          refine hK_.out _ _ (unhide HRg _ (unhide HB4)) (fun hHeld => ?_)
          clear hK_ K_
          (try simp only [Act.put, List.setIfInBounds_toArray, List.set_cons_zero, List.set_cons_succ])
          refine wpAnyH_ready (rs := [0]) (by kernel_rfl) (by simp) ?_
          refine AllReadyH.cons (o := { dst := some 31, op := Op.load 44 (Operand.tmp 6), type := 44, pos := "wal.go:85", after := #[], guard := none }) rfl (fun K_ hK_ => ?_) AllReadyH.nil
          have c_ := (unhide HM0 W4 (unhide HB4))
          go_simp
          clear c_
          refine hK_.out _ _ (unhide HRg _ (unhide HB4)) (fun hHeld => ?_)
          clear hK_ K_
          (try simp only [Act.put, List.setIfInBounds_toArray, List.set_cons_zero, List.set_cons_succ])
          refine wpAnyH_ready (rs := [5]) (by kernel_rfl) (by simp) ?_
          refine AllReadyH.cons (o := { dst := some 36, op := Op.call { callee := Callee.builtin Builtin.append, args := #[Operand.tmp 31, Operand.tmp 35], argTypes := #[44, 44] }, type := 44, pos := "wal.go:85", after := #[{ on := 0, ground := Ground.data }, { on := 4, ground := Ground.data }, { on := 3, ground := Ground.chain }], guard := none }) rfl (fun K_ hK_ => ?_) AllReadyH.nil
          refine step_append_vals Ebb rfl _ _ rfl w5.heap.size (.slice sv VN cw) (.slice (some ⟨W3.heap.size, 0, none⟩) 1 1) vs [.slice p3 64 q3] rfl ((unhide HS).rows.own.below (unhide HB4)) rfl (unhide HV4) (by simp [Value.oneCell']) (Nat.le_trans (unhide HS).b0 (unhide HB4).size) (by have := unhide HVN; have := unhide HVM; simp; omega) ?_
          intro v5 W5 ho5 hg5 hor5
          obtain ⟨s5, c5, e5⟩ := ho5.form
          rw [List.length_append, unhide HVN, List.length_singleton] at e5
          subst e5
          rw [← unhide HW4] at hg5 hor5
          obtain ⟨hN1, hN2, hN3⟩ := (unhide HS).next (x := x) (by have := unhide HLt; omega) (by have := unhide HLt; omega) (by have := unhide HLt; omega) (by omega) (by have := unhide HLt; omega) (by have := unhide HLt; omega) (by omega) (by omega) (Below.refl _ _).drew (unhide HR3) ho5 hg5 hor5
          have HA5 : Hid (Aside (fun k => w5.heap.size ≤ k) W W5) := unhide HAs W5 _ _ (unhide HR3).b hg5
          have HN1 := hide hN1
          have HN2 := hide hN2
          have HN3 := hide hN3
          clear ho5 hg5 hor5 hN1 hN2 hN3
          refine hK_.out _ _ (unhide HRg5 W5 (unhide HA5)) (fun hHeld => ?_)
          clear hK_ K_
          (try simp only [Act.put, List.setIfInBounds_toArray, List.set_cons_zero, List.set_cons_succ])
          refine wpAnyH_ready (rs := [6]) (by kernel_rfl) (by simp) ?_
          refine AllReadyH.cons (o := { dst := none, op := Op.store 44 (Operand.tmp 6) (Operand.tmp 36), type := 0, pos := "wal.go:85", after := #[{ on := 5, ground := Ground.data }, { on := 5, ground := Ground.chain }, { on := 0, ground := Ground.phase }, { on := 1, ground := Ground.phase }, { on := 2, ground := Ground.phase }, { on := 3, ground := Ground.phase }, { on := 4, ground := Ground.phase }, { on := 5, ground := Ground.phase }], guard := none }) rfl (fun K_ hK_ => ?_) AllReadyH.nil
          have c_ := (unhide HM5 W5 (unhide HA5)).1
          have z_ := (unhide HM5 W5 (unhide HA5)).2
          go_simp
          clear c_ z_
          refine hK_.out _ _ (unhide HRg6 W5 _ (unhide HA5)) (fun hHeld => ?_)
          clear hK_ K_
          (try simp only [Act.put, List.setIfInBounds_toArray, List.set_cons_zero, List.set_cons_succ])
          refine wpAnyH_done (by kernel_rfl) ?_ _
          obtain ⟨k3, z3⟩ := unhide HK5 W5 (.slice s5 (VN + 1) c5) (unhide HA5)
          gi_wp2
          exact ⟨unhide HN2, unhide HKc _ (unhide HN3), _, _, unhide HN1⟩
    case done1 =>
      rintro D ys W hDD rfl ⟨v, vs, hS⟩ hK
      have m0 := row_cell hS.var 0 _ rfl
      have HSec : Hid (GrowF w.heap.size (W.putObj D (.deferred none)) v vs (recS b g o n)) := by
        have h1 := hS.rows.turn (grownBy_putObj' W D (.deferred none)) (fun r e => by cases e; exact ⟨_, hK, rfl⟩)
        have h2 := secs_rec b g o n N (by rw [unhide HBL, unhide HM]; exact hm.2)
        have h3 : secsOf (bigB BL 4 ++ b) g o n LA N (firstK N M hm.2) = recS b g o n := by
          rw [← h2]
          have e1 := unhide HBL
          have e2 := unhide HM
          have e3 := unhide HLA
          subst e1
          subst e2
          subst e3
          rfl
        rw [h3] at h1
        exact h1.mono (by omega)
      have HBe : Hid (Below w.heap.size w (W.putObj D (.deferred none))) := hS.b.grown (grownBy_putObj' W D (.deferred none)) hS.b.size (fun k e => by cases e; omega)
      clear hS hS0 hb45 hb35 hbs hbn hdat
      go_wp2
      refine ⟨by simp, .inl ⟨_, _, rfl, run_takeDeferred hK, ?_⟩⟩
      exact ⟨_, results_tmp Tryz.results73 _ _ _, v, vs, rfl, unhide HSec, unhide HBe⟩
    case stop1 =>
      rintro D c pre W _ _ h _
      exact h.elim
  · clear k3 k4 k5
    obtain ⟨w2, hw2⟩ : ∃ y, w.alloc (.cells #[.int .i64 (g : Int), .int .i64 (o : Int), .int .i64 (n : Int), .int .i64 0, .int .i64 (LA : Int)] 144) = y := ⟨_, rfl⟩
    have hd2 : HdAt w2 w.heap.size g o n 0 LA := by unfold HdAt; rw [← hw2]; exact heap_alloc_new w _
    have hb2 : Below w.heap.size w w2 := by rw [← hw2]; exact (Below.refl _ _).alloc (Nat.le_refl _) _
    have hs2 : w2.heap.size = w.heap.size + 1 := by rw [← hw2]; simp
    rw [hw2]
    clear hw2
    have hb3 : Below w2.heap.size w2 (w2.alloc (.cells #[.slice none 0 0] 44)).drew := ((Below.refl _ _).alloc (Nat.le_refl _) _).drew
    have hv3 : (w2.alloc (.cells #[.slice none 0 0] 44)).drew.heap[w2.heap.size]? = some (.cells [Value.slice none 0 0].toArray 44 (0, 0)) := heap_alloc_new w2 _
    have hs3 : (w2.alloc (.cells #[.slice none 0 0] 44)).drew.heap.size = w2.heap.size + 1 := by simp
    obtain ⟨w3, hw3⟩ : ∃ y, (w2.alloc (.cells #[.slice none 0 0] 44)).drew = y := ⟨_, rfl⟩
    rw [hw3] at hb3 hv3 hs3
    rw [hs2] at hv3 hs3
    have hb3w : Below w.heap.size w w3 := hb2.trans (hb3.mono hb2.size)
    have hd3 : HdAt w3 w.heap.size g o n 0 LA := by unfold HdAt; rw [hb3.block _ (by omega)]; exact hd2
    have Hwl := hide (wlen_c w3 _ b ((unhide HX).below hb3w) (by rw [unhide HBL]; exact hb))
    rw [unhide HBL] at Hwl
    have HB3 := hide hb3w
    have HV3 := hide hv3
    have HS3 := hide hs3
    have HD3 := hide hd3
    go_wp2_with fail
    refine (unhide Hwl).mono ?_
    rintro e w4 ⟨v4, rfl, h4⟩
    obtain ⟨G, c4, e4, hGge, hGlt, _⟩ := OwnV.cellAt h4.own (by intro e; have := congrArg List.length e; simp [big_len] at this)
    obtain ⟨N, hN⟩ : ∃ y, 4 + BL = y := ⟨_, rfl⟩
    have hql : (bigB BL 4 ++ b).length = N := by rw [List.length_append, big_len, unhide HBL, hN]
    rw [List.length_map, hql] at e4
    subst e4
    have HR4 := hide h4
    have HQL := hide hql
    have HG1 := hide hGge
    have HG2 := hide hGlt
    have HN := hide hN
    have Hch := hide (chunk_c w4 (some ⟨G, 0, none⟩) N c4)
    clear hb2 hb3 hv3 hs3 hb3w hd3 hd2 hs2 hw3 Hwl h4 hGge hGlt hN hql
    go_wp2_with fail
    refine (unhide Hch).mono ?_
    rintro e w5 ⟨rfl, hw5⟩
    have HW5 := hide hw5
    clear hw5 Hch
    go_wp2
    have hs4 := (unhide HR4).b.size
    have hs5 : w5.heap.size = w4.heap.size + 2 := by rw [unhide HW5]; simp
    have hb45 : Below w4.heap.size w4 w5 := by rw [unhide HW5]; exact ((Below.refl _ _).alloc (Nat.le_refl _) _).alloc (by simp) _
    have hb35 : Below w3.heap.size w3 w5 := (unhide HR4).b.trans (hb45.mono (unhide HR4).b.size)
    have hbs : w5.cell? ⟨w4.heap.size, 0, none⟩ = some (.slice (some ⟨G, 0, none⟩) N c4) := by
      rw [unhide HW5, World.cell?_alloc_lt _ _ _ (by simp)]
      exact row_cell (T := 23) (cs := [.slice (some ⟨G, 0, none⟩) N c4]) (heap_alloc_new w4 _) 0 _ rfl
    have hbn : w5.cell? ⟨w4.heap.size + 1, 0, none⟩ = some (.int .i64 48) := by
      have h : ((w4.alloc (.cells #[.slice (some ⟨G, 0, none⟩) N c4] 23)).alloc (.cells #[.int .i64 48] 3)).cell? ⟨(w4.alloc (.cells #[.slice (some ⟨G, 0, none⟩) N c4] 23)).heap.size, 0, none⟩ = some (.int .i64 48) := row_cell (T := 3) (cs := [.int .i64 48]) (heap_alloc_new _ _) 0 _ rfl
      rw [World.size_alloc] at h
      rw [unhide HW5]
      exact h
    have hdat : BytesAt w5 (.slice (some ⟨G, 0, none⟩) N c4) (bigB BL 4 ++ b) := (unhide HR4).own.bytes.below hb45
    have hcN : N ≤ c4 := by
      obtain ⟨_, c', e_, h_, _⟩ := bytes_open hdat
      simp only [Value.slice.injEq] at e_
      rw [unhide HQL] at h_
      omega
    have hm : N ≤ 48 * M ∧ 48 * M < N + 48 := by
      have h1 := unhide HM
      have h2 := unhide HN
      unfold needs at h1
      omega
    have hS0 : SB w w5.heap.size w.heap.size (w.heap.size + 1) G 0 N c4 g o n LA (bigB BL 4 ++ b) [] w5 (.slice none 0 0) [] := by
      have h3 := unhide HS3
      refine ⟨?_, ?_, growf_nil _ _, hdat, (unhide HB3).trans (hb35.mono (unhide HB3).size), Nat.le_refl _⟩
      · unfold HdAt; rw [hb35.block _ (by omega)]; exact unhide HD3
      · rw [hb35.block _ (by omega)]; exact unhide HV3
    have hNb : N ≤ 1000000 := by have := unhide HN; omega
    have hGb := unhide HG1
    have hGl := unhide HG2
    have h3s := unhide HS3
    refine wpIn_wide.1 (wpIn_rangeFunc_ownF (F := Fence.wide) (n := 3) rfl (by omega) (gf := 104) (lb := #[.pointer (some ⟨w4.heap.size, 0, none⟩), .pointer (some ⟨w4.heap.size + 1, 0, none⟩)]) rfl trivial (enters_of Tryz.func104 (by kernel_rfl) rfl)
      (chunk_stops 2 (by omega) w4.heap.size (w4.heap.size + 1) G 0 N c4 M hcN hNb hm.1 hm.2 w5 (by omega) (by omega) hbs hbn) keepc_t (keepc_b (by omega) (by omega)) (Below.refl _ _) (fun _ => rfl)
      (fun pre W => ∃ v vs, SB w w5.heap.size w.heap.size (w.heap.size + 1) G 0 N c4 g o n LA (bigB BL 4 ++ b) pre W v vs) (fun _ _ _ => False)
      (fun s W W' row hs hg hr => by obtain ⟨v, vs, h⟩ := hs; exact ⟨v, vs, h.turn (by omega) (by omega) (by omega) (by omega) hg hr⟩)
      (fun _ _ _ _ _ h _ _ => h) ⟨_, _, hS0⟩ ?a12 ?assign2 ?body2 ?done2 ?stop2)
    case assign2 =>
      intro l x W K hK
      gi_wp2
      exact hK
    case body2 =>
      rintro l pre x W ⟨v, vs, hS⟩ hlen
      obtain ⟨sv, cw, ev⟩ := hS.rows.own.form
      obtain ⟨VN, hVN⟩ : ∃ y, vs.length = y := ⟨_, rfl⟩
      rw [hVN] at ev
      subst ev
      obtain ⟨pb1, pb2, pb3⟩ := part_bytes hS.data (unhide HQL) x.2
      have hck : ckN N x.1 ≤ 48 := by unfold ckN; split <;> omega
      have Hsec := hide (wsector_c W.drew g o n pre.length LA (ckV G 0 N x.1) _ (pb1.below (Below.refl _ _).drew) (by intro e; rw [e] at pb2; simp at pb2; omega) (by rw [pb2]; exact hck) (by omega) (by omega) (by omega) (by omega) (by omega))
      have HLs : Hid ((headS g o n pre.length LA ++ (((bigB BL 4 ++ b).drop (48 * x.1)).take 48 ++ List.replicate (48 - (((bigB BL 4 ++ b).drop (48 * x.1)).take 48).length) 0)).length = 64) := by
        show _ = _
        rw [List.length_append, head_len, List.length_append, List.length_replicate, pb2]
        omega
      have HS := hide hS
      have HVN := hide hVN
      have HVM : Hid (vs.length < 2000) := by show _ < _; rw [hS.rows.len]; unfold secsOf; rw [List.length_mapIdx]; omega
      have m0 := row_cell hS.var 0 _ rfl
      have hb0 := hS.b0
      have HLt : Hid (w.heap.size < w5.heap.size ∧ w.heap.size + 1 < w5.heap.size ∧ w.heap.size + 2 ≤ G ∧ G < w5.heap.size) := ⟨by omega, by omega, by omega, by omega⟩
      have HRg : Hid (∀ w', Below W.heap.size W w' → w'.rangeAt w.heap.size 0 (hdC g o n pre.length LA)) := fun w' hb j u hu => by
        rw [Nat.zero_add, hb.cell (p := ⟨w.heap.size, j, none⟩) (by show w.heap.size < W.heap.size; omega)]
        exact row_cell hS.hd j u hu
      have HM0 : Hid (∀ w', Below W.heap.size W w' → w'.cell? ⟨w.heap.size + 1, 0, none⟩ = some (.slice sv VN cw)) := fun w' hb => by
        rw [hb.cell (p := ⟨w.heap.size + 1, 0, none⟩) (by show w.heap.size + 1 < W.heap.size; omega)]
        exact m0
      have HAs : Hid (∀ (W5 : World) (W3 : World) (u : Value), Below W.drew.heap.size W.drew W3 → (W3.alloc (.cells #[u] 23)).grownBy W5 (Value.slice sv VN cw).ownBlock → Aside (fun k => w5.heap.size ≤ k) W W5) := fun W5 W3 u hb hg => by
        have h1 : Below W.heap.size W (W3.alloc (.cells #[u] 23)) := ((Below.refl _ _).drew.trans (hb.mono (Nat.le_refl _))).alloc (Nat.le_trans (Nat.le_refl _) hb.size) _
        exact (Aside.of_below h1).trans (Aside.of_grown hg (S := fun k => w5.heap.size ≤ k) fun k hk => (hS.rows.lt.1 k hk).1) fun _ _ h => h
      have HRg5 : Hid (∀ W5, Aside (fun k => w5.heap.size ≤ k) W W5 → W5.rangeAt w.heap.size 0 (hdC g o n pre.length LA)) := fun W5 hA j u hu => by
        rw [Nat.zero_add]
        exact cell_aside (row_cell hS.hd j u hu) hA (by omega)
      have HM5 : Hid (∀ W5, Aside (fun k => w5.heap.size ≤ k) W W5 → W5.cell? ⟨w.heap.size + 1, 0, none⟩ = some (.slice sv VN cw) ∧ W5.frozen? ⟨w.heap.size + 1, 0, none⟩ = false) := fun W5 hA => by
        have hr : W5.heap[w.heap.size + 1]? = some (.cells [Value.slice sv VN cw].toArray 44 (0, 0)) := by rw [hA.block _ (by omega) (by omega)]; exact hS.var
        exact ⟨row_cell hr 0 _ rfl, row_frozen hr 0⟩
      have HRg6 : Hid (∀ W5 u, Aside (fun k => w5.heap.size ≤ k) W W5 → (W5.setCell ⟨w.heap.size + 1, 0, none⟩ u).rangeAt w.heap.size 0 (hdC g o n pre.length LA)) := fun W5 u hA => range_grown (unhide HRg5 W5 hA) (setCell_grown (w.heap.size + 1) 0 u) (by omega)
      have HK5 : Hid (∀ W5 u, Aside (fun k => w5.heap.size ≤ k) W W5 → (W5.setCell ⟨w.heap.size + 1, 0, none⟩ u).cell? ⟨w.heap.size, 3, none⟩ = some (.int .i64 (pre.length : Int)) ∧ (W5.setCell ⟨w.heap.size + 1, 0, none⟩ u).frozen? ⟨w.heap.size, 3, none⟩ = false) := fun W5 u hA => by
        have h1 := unhide HRg6 W5 u hA 3 _ rfl
        refine ⟨by rw [Nat.zero_add] at h1; exact h1, ?_⟩
        have hr : W5.heap[w.heap.size]? = some (.cells (hdC g o n pre.length LA).toArray 144 (0, 0)) := by rw [hA.block _ (by omega) (by omega)]; exact hS.hd
        rw [World.frozen?_setCell]
        exact row_frozen hr 3
      have HKc : Hid (∀ W', (∀ k, k < w5.heap.size → k ≠ w.heap.size → k ≠ w.heap.size + 1 → W'.heap[k]? = W.heap[k]?) → KeepC w4.heap.size (w4.heap.size + 1) W W') := fun W' h => ⟨World.cell?_of_block (h w4.heap.size (by omega) (by omega) (by omega)), World.cell?_of_block (h (w4.heap.size + 1) (by omega) (by omega) (by omega))⟩
      have hpl : pre.length < 2000 := by omega
      clear pb1 pb2 pb3 hck hVN hS hb45 hb35 hbs hbn hdat hS0 hlen
      gi_wp2
      refine region_in_round (S := fun w' => w'.rangeAt w.heap.size 0 (hdC g o n pre.length LA)) (by kernel_rfl) (by kernel_rfl) (fun ⟨_, _, h⟩ => h) (unhide HRg _ (Below.refl _ _).drew) (fun hHeld => ?_)
      refine wpAnyH_take (i := 1) (oi := { dst := some 32, op := Op.load 144 (Operand.tmp 5), type := 144, pos := "wal.go:85", after := #[], guard := none }) (v := .agg (hdC g o n pre.length LA).toArray) rfl (by kernel_rfl) (by kernel_rfl) (by kernel_rfl) (fun _ _ _ h => h) (yieldsIf_load_mid (by rfl) 144 _ rfl w.heap.size 0 rfl (hdC g o n pre.length LA) _ (fun w_ hSw => hSw) Tryz.underlying144 rfl (by kernel_rfl)) (by assumption) ?_
      simp only [Act.put, List.setIfInBounds_toArray, List.set_cons_zero, List.set_cons_succ]
      refine wpAnyH_take (i := 2) (oi := { dst := some 33, op := Op.move (Operand.tmp 7), type := 23, pos := "wal.go:85", after := #[], guard := none }) (v := ?_) rfl (by kernel_rfl) (by kernel_rfl) (by kernel_rfl) (fun _ _ _ h => h) (Or.inl ⟨by rfl, ?m1⟩) (by assumption) ?_
      case m1 => (intro w_ hSw; (try dsimp only at hSw); go_simp; try with_reducible rfl)
      simp only [Act.put, List.setIfInBounds_toArray, List.set_cons_zero, List.set_cons_succ]
      refine wpAnyH_ready (rs := [0, 3]) (by kernel_rfl) (by simp) ?_
      refine (AllReadyH.cons (o := { dst := some 31, op := Op.load 44 (Operand.tmp 6), type := 44, pos := "wal.go:85", after := #[], guard := none }) rfl (fun K_ hK_ => ?_) (AllReadyH.cons (o := { dst := some 34, op := Op.call { callee := Callee.value (Operand.func 92), args := #[Operand.tmp 32, Operand.tmp 33], argTypes := #[144, 23] }, type := 23, pos := "wal.go:85", after := #[{ on := 1, ground := Ground.data }, { on := 2, ground := Ground.data }], guard := none }) rfl (fun K_ hK_ => ?_) AllReadyH.nil))
      · have c_ : W.drew.cell? ⟨(w.heap.size + 1), 0, none⟩ = some (.slice sv VN cw) := m0
        go_simp
        clear c_
        refine hK_.out _ _ (unhide HRg _ ((Below.refl _ _).drew)) (fun hHeld => ?_)
        clear hK_ K_
        (try simp only [Act.put, List.setIfInBounds_toArray, List.set_cons_zero, List.set_cons_succ])
        refine wpAnyH_ready (rs := [3]) (by kernel_rfl) (by simp) ?_
        refine AllReadyH.cons (o := { dst := some 34, op := Op.call { callee := Callee.value (Operand.func 92), args := #[Operand.tmp 32, Operand.tmp 33], argTypes := #[144, 23] }, type := 23, pos := "wal.go:85", after := #[{ on := 1, ground := Ground.data }, { on := 2, ground := Ground.data }], guard := none }) rfl (fun K_ hK_ => ?_) AllReadyH.nil
        go_simp
        go_at_call 92
        refine (unhide Hsec).mono ?_
        rintro e W3 ⟨s3, rfl, h3⟩
        obtain ⟨p3, q3, e3⟩ := h3.own.form
        rw [unhide HLs] at e3
        subst e3
        have HR3 := hide h3
        have HB3 : Hid (Below W.heap.size W W3) := (Below.refl _ _).drew.trans (h3.b.mono (Nat.le_refl _))
        clear h3
        go_simp
        refine hK_.out _ _ (unhide HRg _ (unhide HB3)) (fun hHeld => ?_)
        clear hK_ K_
        (try simp only [Act.put, List.setIfInBounds_toArray, List.set_cons_zero, List.set_cons_succ])
        refine wpAnyH_ready (rs := [4]) (by kernel_rfl) (by simp) ?_
        refine AllReadyH.cons (o := { dst := some 35, op := Op.buildSlice 44 1 #[(0, Operand.tmp 34)], type := 44, pos := "wal.go:85", after := #[{ on := 3, ground := Ground.data }], guard := none }) rfl (fun K_ hK_ => ?_) AllReadyH.nil
        go_simp
        obtain ⟨W4, hW4⟩ : ∃ y, W3.alloc (.cells #[.slice p3 64 q3] 23) = y := ⟨_, rfl⟩
        have HB4 : Hid (Below W.heap.size W W4) := by show Below _ _ _; rw [← hW4]; exact (unhide HB3).alloc (unhide HB3).size _
        have HW4 := hide hW4
        have HV4 : Hid (ValsAt W4 (.slice (some ⟨W3.heap.size, 0, none⟩) 1 1) [.slice p3 64 q3]) := by show ValsAt _ _ _; rw [← hW4]; exact vals_new W3 [.slice p3 64 q3] 23
        rw [hW4]
        clear hW4
        refine hK_.out _ _ (unhide HRg _ (unhide HB4)) (fun hHeld => ?_)
        clear hK_ K_
        (try simp only [Act.put, List.setIfInBounds_toArray, List.set_cons_zero, List.set_cons_succ])
        refine wpAnyH_ready (rs := [5]) (by kernel_rfl) (by simp) ?_
        refine AllReadyH.cons (o := { dst := some 36, op := Op.call { callee := Callee.builtin Builtin.append, args := #[Operand.tmp 31, Operand.tmp 35], argTypes := #[44, 44] }, type := 44, pos := "wal.go:85", after := #[{ on := 0, ground := Ground.data }, { on := 4, ground := Ground.data }, { on := 3, ground := Ground.chain }], guard := none }) rfl (fun K_ hK_ => ?_) AllReadyH.nil
        refine step_append_vals Ebb rfl _ _ rfl w5.heap.size (.slice sv VN cw) (.slice (some ⟨W3.heap.size, 0, none⟩) 1 1) vs [.slice p3 64 q3] rfl ((unhide HS).rows.own.below (unhide HB4)) rfl (unhide HV4) (by simp [Value.oneCell']) (Nat.le_trans (unhide HS).b0 (unhide HB4).size) (by have := unhide HVN; have := unhide HVM; simp; omega) ?_
        intro v5 W5 ho5 hg5 hor5
        obtain ⟨s5, c5, e5⟩ := ho5.form
        rw [List.length_append, unhide HVN, List.length_singleton] at e5
        subst e5
        rw [← unhide HW4] at hg5 hor5
        obtain ⟨hN1, hN2, hN3⟩ := (unhide HS).next (x := x) (by have := unhide HLt; omega) (by have := unhide HLt; omega) (by have := unhide HLt; omega) (by omega) (by have := unhide HLt; omega) (by have := unhide HLt; omega) (by omega) (by omega) (Below.refl _ _).drew (unhide HR3) ho5 hg5 hor5
        have HA5 : Hid (Aside (fun k => w5.heap.size ≤ k) W W5) := unhide HAs W5 _ _ (unhide HR3).b hg5
        have HN1 := hide hN1
        have HN2 := hide hN2
        have HN3 := hide hN3
        clear ho5 hg5 hor5 hN1 hN2 hN3
        refine hK_.out _ _ (unhide HRg5 W5 (unhide HA5)) (fun hHeld => ?_)
        clear hK_ K_
        (try simp only [Act.put, List.setIfInBounds_toArray, List.set_cons_zero, List.set_cons_succ])
        refine wpAnyH_ready (rs := [6]) (by kernel_rfl) (by simp) ?_
        refine AllReadyH.cons (o := { dst := none, op := Op.store 44 (Operand.tmp 6) (Operand.tmp 36), type := 0, pos := "wal.go:85", after := #[{ on := 5, ground := Ground.data }, { on := 5, ground := Ground.chain }, { on := 0, ground := Ground.phase }, { on := 1, ground := Ground.phase }, { on := 2, ground := Ground.phase }, { on := 3, ground := Ground.phase }, { on := 4, ground := Ground.phase }, { on := 5, ground := Ground.phase }], guard := none }) rfl (fun K_ hK_ => ?_) AllReadyH.nil
        have c_ := (unhide HM5 W5 (unhide HA5)).1
        have z_ := (unhide HM5 W5 (unhide HA5)).2
        go_simp
        clear c_ z_
        refine hK_.out _ _ (unhide HRg6 W5 _ (unhide HA5)) (fun hHeld => ?_)
        clear hK_ K_
        (try simp only [Act.put, List.setIfInBounds_toArray, List.set_cons_zero, List.set_cons_succ])
        refine wpAnyH_done (by kernel_rfl) ?_ _
        obtain ⟨k3, z3⟩ := unhide HK5 W5 (.slice s5 (VN + 1) c5) (unhide HA5)
        gi_wp2
        exact ⟨unhide HN2, unhide HKc _ (unhide HN3), _, _, unhide HN1⟩
      · go_simp
        go_at_call 92
        refine (unhide Hsec).mono ?_
        rintro e W3 ⟨s3, rfl, h3⟩
        obtain ⟨p3, q3, e3⟩ := h3.own.form
        rw [unhide HLs] at e3
        subst e3
        have HR3 := hide h3
        have HB3 : Hid (Below W.heap.size W W3) := (Below.refl _ _).drew.trans (h3.b.mono (Nat.le_refl _))
        clear h3
        go_simp
        refine hK_.out _ _ (unhide HRg _ (unhide HB3)) (fun hHeld => ?_)
        clear hK_ K_
        (try simp only [Act.put, List.setIfInBounds_toArray, List.set_cons_zero, List.set_cons_succ])
        refine wpAnyH_ready (rs := [0, 4]) (by kernel_rfl) (by simp) ?_
        refine (AllReadyH.cons (o := { dst := some 31, op := Op.load 44 (Operand.tmp 6), type := 44, pos := "wal.go:85", after := #[], guard := none }) rfl (fun K_ hK_ => ?_) (AllReadyH.cons (o := { dst := some 35, op := Op.buildSlice 44 1 #[(0, Operand.tmp 34)], type := 44, pos := "wal.go:85", after := #[{ on := 3, ground := Ground.data }], guard := none }) rfl (fun K_ hK_ => ?_) AllReadyH.nil))
        · have c_ := (unhide HM0 W3 (unhide HB3))
          go_simp
          clear c_
          refine hK_.out _ _ (unhide HRg _ (unhide HB3)) (fun hHeld => ?_)
          clear hK_ K_
          (try simp only [Act.put, List.setIfInBounds_toArray, List.set_cons_zero, List.set_cons_succ])
          refine wpAnyH_ready (rs := [4]) (by kernel_rfl) (by simp) ?_
          refine AllReadyH.cons (o := { dst := some 35, op := Op.buildSlice 44 1 #[(0, Operand.tmp 34)], type := 44, pos := "wal.go:85", after := #[{ on := 3, ground := Ground.data }], guard := none }) rfl (fun K_ hK_ => ?_) AllReadyH.nil
          go_simp
          obtain ⟨W4, hW4⟩ : ∃ y, W3.alloc (.cells #[.slice p3 64 q3] 23) = y := ⟨_, rfl⟩
          have HB4 : Hid (Below W.heap.size W W4) := by show Below _ _ _; rw [← hW4]; exact (unhide HB3).alloc (unhide HB3).size _
          have HW4 := hide hW4
          have HV4 : Hid (ValsAt W4 (.slice (some ⟨W3.heap.size, 0, none⟩) 1 1) [.slice p3 64 q3]) := by show ValsAt _ _ _; rw [← hW4]; exact vals_new W3 [.slice p3 64 q3] 23
          rw [hW4]
          clear hW4
          refine hK_.out _ _ (unhide HRg _ (unhide HB4)) (fun hHeld => ?_)
          clear hK_ K_
          (try simp only [Act.put, List.setIfInBounds_toArray, List.set_cons_zero, List.set_cons_succ])
          refine wpAnyH_ready (rs := [5]) (by kernel_rfl) (by simp) ?_
          refine AllReadyH.cons (o := { dst := some 36, op := Op.call { callee := Callee.builtin Builtin.append, args := #[Operand.tmp 31, Operand.tmp 35], argTypes := #[44, 44] }, type := 44, pos := "wal.go:85", after := #[{ on := 0, ground := Ground.data }, { on := 4, ground := Ground.data }, { on := 3, ground := Ground.chain }], guard := none }) rfl (fun K_ hK_ => ?_) AllReadyH.nil
          refine step_append_vals Ebb rfl _ _ rfl w5.heap.size (.slice sv VN cw) (.slice (some ⟨W3.heap.size, 0, none⟩) 1 1) vs [.slice p3 64 q3] rfl ((unhide HS).rows.own.below (unhide HB4)) rfl (unhide HV4) (by simp [Value.oneCell']) (Nat.le_trans (unhide HS).b0 (unhide HB4).size) (by have := unhide HVN; have := unhide HVM; simp; omega) ?_
          intro v5 W5 ho5 hg5 hor5
          obtain ⟨s5, c5, e5⟩ := ho5.form
          rw [List.length_append, unhide HVN, List.length_singleton] at e5
          subst e5
          rw [← unhide HW4] at hg5 hor5
          obtain ⟨hN1, hN2, hN3⟩ := (unhide HS).next (x := x) (by have := unhide HLt; omega) (by have := unhide HLt; omega) (by have := unhide HLt; omega) (by omega) (by have := unhide HLt; omega) (by have := unhide HLt; omega) (by omega) (by omega) (Below.refl _ _).drew (unhide HR3) ho5 hg5 hor5
          have HA5 : Hid (Aside (fun k => w5.heap.size ≤ k) W W5) := unhide HAs W5 _ _ (unhide HR3).b hg5
          have HN1 := hide hN1
          have HN2 := hide hN2
          have HN3 := hide hN3
          clear ho5 hg5 hor5 hN1 hN2 hN3
          refine hK_.out _ _ (unhide HRg5 W5 (unhide HA5)) (fun hHeld => ?_)
          clear hK_ K_
          (try simp only [Act.put, List.setIfInBounds_toArray, List.set_cons_zero, List.set_cons_succ])
          refine wpAnyH_ready (rs := [6]) (by kernel_rfl) (by simp) ?_
          refine AllReadyH.cons (o := { dst := none, op := Op.store 44 (Operand.tmp 6) (Operand.tmp 36), type := 0, pos := "wal.go:85", after := #[{ on := 5, ground := Ground.data }, { on := 5, ground := Ground.chain }, { on := 0, ground := Ground.phase }, { on := 1, ground := Ground.phase }, { on := 2, ground := Ground.phase }, { on := 3, ground := Ground.phase }, { on := 4, ground := Ground.phase }, { on := 5, ground := Ground.phase }], guard := none }) rfl (fun K_ hK_ => ?_) AllReadyH.nil
          have c_ := (unhide HM5 W5 (unhide HA5)).1
          have z_ := (unhide HM5 W5 (unhide HA5)).2
          go_simp
          clear c_ z_
          refine hK_.out _ _ (unhide HRg6 W5 _ (unhide HA5)) (fun hHeld => ?_)
          clear hK_ K_
          (try simp only [Act.put, List.setIfInBounds_toArray, List.set_cons_zero, List.set_cons_succ])
          refine wpAnyH_done (by kernel_rfl) ?_ _
          obtain ⟨k3, z3⟩ := unhide HK5 W5 (.slice s5 (VN + 1) c5) (unhide HA5)
          gi_wp2
          exact ⟨unhide HN2, unhide HKc _ (unhide HN3), _, _, unhide HN1⟩
        · go_simp
          obtain ⟨W4, hW4⟩ : ∃ y, W3.alloc (.cells #[.slice p3 64 q3] 23) = y := ⟨_, rfl⟩
          have HB4 : Hid (Below W.heap.size W W4) := by show Below _ _ _; rw [← hW4]; exact (unhide HB3).alloc (unhide HB3).size _
          have HW4 := hide hW4
          have HV4 : Hid (ValsAt W4 (.slice (some ⟨W3.heap.size, 0, none⟩) 1 1) [.slice p3 64 q3]) := by show ValsAt _ _ _; rw [← hW4]; exact vals_new W3 [.slice p3 64 q3] 23
          rw [hW4]
          clear hW4
          refine hK_.out _ _ (unhide HRg _ (unhide HB4)) (fun hHeld => ?_)
          clear hK_ K_
          (try simp only [Act.put, List.setIfInBounds_toArray, List.set_cons_zero, List.set_cons_succ])
          refine wpAnyH_ready (rs := [0]) (by kernel_rfl) (by simp) ?_
          refine AllReadyH.cons (o := { dst := some 31, op := Op.load 44 (Operand.tmp 6), type := 44, pos := "wal.go:85", after := #[], guard := none }) rfl (fun K_ hK_ => ?_) AllReadyH.nil
          have c_ := (unhide HM0 W4 (unhide HB4))
          go_simp
          clear c_
          refine hK_.out _ _ (unhide HRg _ (unhide HB4)) (fun hHeld => ?_)
          clear hK_ K_
          (try simp only [Act.put, List.setIfInBounds_toArray, List.set_cons_zero, List.set_cons_succ])
          refine wpAnyH_ready (rs := [5]) (by kernel_rfl) (by simp) ?_
          refine AllReadyH.cons (o := { dst := some 36, op := Op.call { callee := Callee.builtin Builtin.append, args := #[Operand.tmp 31, Operand.tmp 35], argTypes := #[44, 44] }, type := 44, pos := "wal.go:85", after := #[{ on := 0, ground := Ground.data }, { on := 4, ground := Ground.data }, { on := 3, ground := Ground.chain }], guard := none }) rfl (fun K_ hK_ => ?_) AllReadyH.nil
          refine step_append_vals Ebb rfl _ _ rfl w5.heap.size (.slice sv VN cw) (.slice (some ⟨W3.heap.size, 0, none⟩) 1 1) vs [.slice p3 64 q3] rfl ((unhide HS).rows.own.below (unhide HB4)) rfl (unhide HV4) (by simp [Value.oneCell']) (Nat.le_trans (unhide HS).b0 (unhide HB4).size) (by have := unhide HVN; have := unhide HVM; simp; omega) ?_
          intro v5 W5 ho5 hg5 hor5
          obtain ⟨s5, c5, e5⟩ := ho5.form
          rw [List.length_append, unhide HVN, List.length_singleton] at e5
          subst e5
          rw [← unhide HW4] at hg5 hor5
          obtain ⟨hN1, hN2, hN3⟩ := (unhide HS).next (x := x) (by have := unhide HLt; omega) (by have := unhide HLt; omega) (by have := unhide HLt; omega) (by omega) (by have := unhide HLt; omega) (by have := unhide HLt; omega) (by omega) (by omega) (Below.refl _ _).drew (unhide HR3) ho5 hg5 hor5
          have HA5 : Hid (Aside (fun k => w5.heap.size ≤ k) W W5) := unhide HAs W5 _ _ (unhide HR3).b hg5
          have HN1 := hide hN1
          have HN2 := hide hN2
          have HN3 := hide hN3
          clear ho5 hg5 hor5 hN1 hN2 hN3
          refine hK_.out _ _ (unhide HRg5 W5 (unhide HA5)) (fun hHeld => ?_)
          clear hK_ K_
          (try simp only [Act.put, List.setIfInBounds_toArray, List.set_cons_zero, List.set_cons_succ])
          refine wpAnyH_ready (rs := [6]) (by kernel_rfl) (by simp) ?_
          refine AllReadyH.cons (o := { dst := none, op := Op.store 44 (Operand.tmp 6) (Operand.tmp 36), type := 0, pos := "wal.go:85", after := #[{ on := 5, ground := Ground.data }, { on := 5, ground := Ground.chain }, { on := 0, ground := Ground.phase }, { on := 1, ground := Ground.phase }, { on := 2, ground := Ground.phase }, { on := 3, ground := Ground.phase }, { on := 4, ground := Ground.phase }, { on := 5, ground := Ground.phase }], guard := none }) rfl (fun K_ hK_ => ?_) AllReadyH.nil
          have c_ := (unhide HM5 W5 (unhide HA5)).1
          have z_ := (unhide HM5 W5 (unhide HA5)).2
          go_simp
          clear c_ z_
          refine hK_.out _ _ (unhide HRg6 W5 _ (unhide HA5)) (fun hHeld => ?_)
          clear hK_ K_
          (try simp only [Act.put, List.setIfInBounds_toArray, List.set_cons_zero, List.set_cons_succ])
          refine wpAnyH_done (by kernel_rfl) ?_ _
          obtain ⟨k3, z3⟩ := unhide HK5 W5 (.slice s5 (VN + 1) c5) (unhide HA5)
          gi_wp2
          exact ⟨unhide HN2, unhide HKc _ (unhide HN3), _, _, unhide HN1⟩
    case done2 =>
      rintro D ys W hDD rfl ⟨v, vs, hS⟩ hK
      have m0 := row_cell hS.var 0 _ rfl
      have HSec : Hid (GrowF w.heap.size (W.putObj D (.deferred none)) v vs (recS b g o n)) := by
        have h1 := hS.rows.turn (grownBy_putObj' W D (.deferred none)) (fun r e => by cases e; exact ⟨_, hK, rfl⟩)
        have h2 := secs_rec b g o n N (by rw [unhide HBL, unhide HM]; exact hm.2)
        have h3 : secsOf (bigB BL 4 ++ b) g o n LA N (firstK N M hm.2) = recS b g o n := by
          rw [← h2]
          have e1 := unhide HBL
          have e2 := unhide HM
          have e3 := unhide HLA
          subst e1
          subst e2
          subst e3
          rfl
        rw [h3] at h1
        exact h1.mono (by omega)
      have HBe : Hid (Below w.heap.size w (W.putObj D (.deferred none))) := hS.b.grown (grownBy_putObj' W D (.deferred none)) hS.b.size (fun k e => by cases e; omega)
      clear hS hS0 hb45 hb35 hbs hbn hdat
      go_wp2
      refine ⟨by simp, .inl ⟨_, _, rfl, run_takeDeferred hK, ?_⟩⟩
      exact ⟨_, results_tmp Tryz.results73 _ _ _, v, vs, rfl, unhide HSec, unhide HBe⟩
    case stop2 =>
      rintro D c pre W _ _ h _
      exact h.elim
end Go.Proofs.YtbjgknoipbekoaaGreat
