/-
  The boxes of the landed feed: newBox, put, take (i).
-/
import Derived.Test.YtbblhogdfdpipaaCh17
namespace Go.Proofs.Ytbblhogdfdpipaa
open Go.Conc Go.RowKit
theorem bytes_peli : ∃ i, Try.prog.info? 53 = some i ∧ i.bytes = 8 := by
  have h : (Try.prog.info? 53).map (·.bytes) = some 8 := by kernel_rfl
  obtain ⟨i, hi, hb⟩ := Option.map_eq_some_iff.1 h
  exact ⟨i, hi, hb⟩
theorem mk_chi (w : World) (n : Nat) (hn : n ≤ 256) : (Instr.makeChan 55 (.int .i64 (n : Int))).run Try.prog w = .ok (.chan (some w.heap.size)) (w.alloc (.chan n #[] false 0 0 false)) := by
  obtain ⟨i, hi, hb⟩ := bytes_peli
  exact run_makeChan (P := Try.prog) (w := w) Try.underlying55 hi .i64 n (by omega) (by rw [hb]; omega)
theorem built_boxi (c : Nat) : Try.prog.built 57 [(0, .chan (some c))] = some #[.chan (some c), .int .i64 0] := by kernel_rfl
set_option maxRecDepth 100000 in
theorem nbi_c (w : World) (n : Nat) (hn : n ≤ 256) : Calls Try.prog 20 #[.int .i64 (n : Int)] w fun e w' => e = .returned (pt (w.heap.size + 1)) ∧ w' = (w.alloc (.chan n #[] false 0 0 false)).alloc (.cells #[.chan (some w.heap.size), .int .i64 0] 57) := by
  have hmk := mk_chi w n hn
  have hbu := built_boxi
  go_enter Try.func20, Try.ntmps20
  go_wp2
  go_ret
  exact ⟨rfl, rfl⟩
set_option maxRecDepth 100000 in
theorem puti_room {X : Set_} {w : World} {q c e : Nat} {b : Bx Int} {x : Int} (h : BoxAt KI X w q c b) (he : X e) (hx : w.cell? ⟨e, 0, none⟩ = some (KI.val x)) (hlt : b.list.length < b.places) :
    Calls Try.prog 21 #[pt q, pt e] w fun r w' => r = .returned (.tuple #[]) ∧ BoxAt KI X w' q c (b.put x) ∧ Aside (two_ q c) w w' ∧ w'.heap.size = w.heap.size := by
  obtain ⟨buf, s, r, hc, hI⟩ := h.ch
  have k0 := h.k0
  have hbl : buf.size = b.list.length := by rw [← hI.len]; simp
  refine calls_of_loneTo fun cs => ?_
  have e0 : Frame.enter Try.prog 21 #[pt q, pt e] .normal = (base 21).at ⟨(pt q :: pt e :: List.replicate 27 undef).toArray, []⟩ [.code (Try.f21.body.getD .skip)] := by
    simp [Frame.enter, Frame.at, Try.func21, base, Try.f21]
  rw [e0]
  simp only [List.replicate, pt]
  refine LoneTo.goes (n := 60) ?_
  simp only [Try.f21, Option.getD_some]
  s_c stepG_seq
  s_c stepG_seq
  s_reg
  s_op
  s_op
  s_op
  s_op
  s_c stepG_region_end
  s_reg
  s_op
  s_c stepG_region_end
  s_c stepG_seq
  s_reg
  s_stop
  refine LoneTo.step (step_lone_select_send_room (c := c) (v := pt e) (z' := .pointer none) (cap := b.places) (buf := buf) (s := s) (r := r) (tm := false) (stepG_comm (cases := #[scase c (pt e) (.pointer none)]) (blocking := false) (shape := .select) (w' := w) rfl rfl (by decide) (by simp [go_sem, execOp, scase, Act.eval, pt])) hc (by omega)) ?_
  have hend := h.sent plain_i he hx hlt hc hI
  generalize w.setChan c b.places (buf.push (pt e)) false (s + 1) r false = w1 at hend ⊢
  rw [Frame.finish_at]
  walk_nrm
  refine LoneTo.goes (n := 60) ?_
  s_op
  s_op
  s_c stepG_region_end
  s_c stepG_block
  s_cond true
  s_c stepG_skip
  s_c stepG_inBlock
  s_c stepG_end
  s_stop
  refine LoneTo.done ⟨.returned (.tuple #[]), _, rfl, ⟨rfl, hend⟩, rfl, rfl, rfl, rfl, _, Try.func21, by simp [results, Try.f21, Frame.at]⟩
set_option maxRecDepth 100000 in
theorem puti_full {X : Set_} {w : World} {q c e : Nat} {b : Bx Int} {x : Int} (h : BoxAt KI X w q c b) (he : X e) (hx : w.cell? ⟨e, 0, none⟩ = some (KI.val x)) (hge : ¬ b.list.length < b.places) (hlo : b.lost < 1000000000) :
    Calls Try.prog 21 #[pt q, pt e] w fun r w' => r = .returned (.tuple #[]) ∧ BoxAt KI X w' q c (b.put x) ∧ Aside (two_ q c) w w' ∧ w'.heap.size = w.heap.size := by
  obtain ⟨buf, s, r, hc, hI⟩ := h.ch
  have k0 := h.k0
  have hbl : buf.size = b.list.length := by rw [← hI.len]; simp
  have hln := h.len
  have hps := h.pos
  have hcl := (Array.getElem?_eq_some_iff.1 hc).1
  refine calls_of_loneTo fun cs => ?_
  have e0 : Frame.enter Try.prog 21 #[pt q, pt e] .normal = (base 21).at ⟨(pt q :: pt e :: List.replicate 27 undef).toArray, []⟩ [.code (Try.f21.body.getD .skip)] := by
    simp [Frame.enter, Frame.at, Try.func21, base, Try.f21]
  rw [e0]
  simp only [List.replicate, pt]
  refine LoneTo.goes (n := 60) ?_
  simp only [Try.f21, Option.getD_some]
  s_c stepG_seq
  s_c stepG_seq
  s_reg
  s_op
  s_op
  s_op
  s_op
  s_c stepG_region_end
  s_reg
  s_op
  s_c stepG_region_end
  s_c stepG_seq
  s_reg
  s_stop
  refine LoneTo.step (step_lone_select_send_full (c := c) (v := pt e) (z' := .pointer none) (cap := b.places) (buf := buf) (s := s) (r := r) (tm := false) (stepG_comm (cases := #[scase c (pt e) (.pointer none)]) (blocking := false) (shape := .select) (w' := w) rfl rfl (by decide) (by simp [go_sem, execOp, scase, Act.eval, pt])) hc (by omega)) ?_
  rw [Frame.finish_at]
  walk_nrm
  refine LoneTo.goes (n := 60) ?_
  s_op
  s_op
  s_c stepG_region_end
  s_c stepG_block
  s_cond false
  s_c stepG_seq
  s_reg
  s_op
  s_op
  s_op
  s_op
  s_stop
  refine LoneTo.step (step_lone_recv_buf false (c := c) (z := .pointer none) (cap := b.places) (buf := buf) (closed := false) (s := s) (r := r) (tm := false) (stepG_comm (cases := #[rcase c (.pointer none)]) (blocking := true) (shape := .recv false) (w' := w) rfl rfl (by decide) (by simp [go_sem, rcase])) hc (by omega)) ?_
  obtain ⟨w1, h1⟩ : ∃ y, w.setChan c b.places (buf.extract 1 buf.size) false s (r + 1) false = y := ⟨_, rfl⟩
  obtain ⟨w2, h2⟩ : ∃ y, w1.setCell ⟨q, 1, none⟩ (.int .i64 ((b.lost : Int) + 1)) = y := ⟨_, rfl⟩
  have hend := h.over plain_i he hx hge hc hI w1 w2 h1 h2
  have row1 : RowAt KI.tb w1 q [] [.chan (some c), .int .i64 (b.lost : Int)] := h1 ▸ h.row.chan _ _ _ _ _ _ _ h.ne
  have hc1 : w1.heap[c]? = some (.chan b.places (buf.extract 1 buf.size) false s (r + 1) false) := h1 ▸ heap_setChan _ _ _ _ _ _ _ _ hcl
  rw [h1]
  clear h1 hI
  obtain ⟨old, hold⟩ : ∃ y, buf.getD 0 undef = y := ⟨_, rfl⟩
  have j0 : w1.cell? ⟨q, 0, none⟩ = some (.chan (some c)) := row1.cell 0 (by simp)
  have j1 : w1.cell? ⟨q, 1, none⟩ = some (.int .i64 (b.lost : Int)) := row1.cell 1 (by simp)
  have f1 : w1.frozen? ⟨q, 1, none⟩ = false := row1.frozen 1
  have hwr : IntKind.wrap .i64 ((b.lost : Int) + 1) = (b.lost : Int) + 1 := wrap_small _ (by omega) (by omega)
  have l0 : w2.cell? ⟨q, 0, none⟩ = some (.chan (some c)) := by rw [← h2]; exact (row1.set 1 (by simp) _).cell 0 (by simp)
  have hc2 : w2.heap[c]? = some (.chan b.places (buf.extract 1 buf.size) false s (r + 1) false) := by rw [← h2, heap_setCell_other _ _ _ _ (fun e => h.ne e.symm)]; exact hc1
  have hbz : (buf.extract 1 buf.size).size < b.places := by rw [Array.size_extract]; omega
  rw [Frame.finish_at, hold]
  simp only [got, Bool.false_eq_true, if_false]
  walk_nrm
  clear k0
  refine LoneTo.goes (n := 60) ?_
  s_c stepG_region_end
  s_c stepG_seq
  s_reg
  s_op
  s_op
  s_op
  s_op
  s_op
  s_op
  s_op
  s_op
  clear j0 j1 f1 hc1 row1
  s_c stepG_region_end
  s_reg
  s_op
  s_op
  s_op
  s_op
  s_op
  s_stop
  refine LoneTo.step (step_lone_send_room (c := c) (v := pt e) (z' := .tuple #[]) (cap := b.places) (buf := buf.extract 1 buf.size) (s := s) (r := r + 1) (tm := false) (stepG_comm (cases := #[scase c (pt e) (.tuple #[])]) (blocking := true) (shape := .send) (w' := w2) rfl rfl (by decide) (by simp [execOp, scase, Act.eval, pt])) hc2 hbz) ?_
  generalize w2.setChan c b.places ((buf.extract 1 buf.size).push (pt e)) false (s + 1) (r + 1) false = w3 at hend ⊢
  rw [Frame.finish_at]
  walk_nrm
  refine LoneTo.goes (n := 60) ?_
  s_c stepG_region_end
  s_c stepG_inBlock
  s_c stepG_end
  s_stop
  refine LoneTo.done ⟨.returned (.tuple #[]), _, rfl, ⟨rfl, hend⟩, rfl, rfl, rfl, rfl, _, Try.func21, by simp [results, Try.f21, Frame.at]⟩
theorem puti_c {X : Set_} {w : World} {q c e : Nat} {b : Bx Int} {x : Int} (h : BoxAt KI X w q c b) (he : X e) (hx : w.cell? ⟨e, 0, none⟩ = some (KI.val x)) (hlo : b.lost < 1000000000) :
    Calls Try.prog 21 #[pt q, pt e] w fun r w' => r = .returned (.tuple #[]) ∧ BoxAt KI X w' q c (b.put x) ∧ Aside (two_ q c) w w' ∧ w'.heap.size = w.heap.size := by
  by_cases hlt : b.list.length < b.places
  · exact puti_room h he hx hlt
  · exact puti_full h he hx hlt hlo
set_option maxRecDepth 100000 in
theorem tki_none {X : Set_} {w : World} {q c : Nat} {b : Bx Int} (h : BoxAt KI X w q c b) (hl : b.list = []) : Calls Try.prog 22 #[pt q] w fun r w' => r = .returned (.tuple #[.int .i64 0, .bool false]) ∧ w' = w := by
  obtain ⟨buf, s, r, hc, hI⟩ := h.ch
  have k0 := h.k0
  obtain rfl : buf = #[] := by
    have := hI.len
    rw [hl] at this
    simpa using this
  clear hI
  refine calls_of_loneTo fun cs => ?_
  have e0 : Frame.enter Try.prog 22 #[pt q] .normal = (base 22).at ⟨(pt q :: List.replicate 17 undef).toArray, []⟩ [.code (Try.f22.body.getD .skip)] := by
    simp [Frame.enter, Frame.at, Try.func22, base, Try.f22]
  rw [e0]
  simp only [List.replicate, pt]
  refine LoneTo.goes (n := 60) ?_
  simp only [Try.f22, Option.getD_some]
  s_c stepG_seq
  s_reg
  s_op
  s_op
  s_c stepG_region_end
  s_c stepG_seq
  s_reg
  s_op
  s_op
  s_op
  s_op
  s_c stepG_region_end
  s_c stepG_seq
  s_reg
  s_stop
  refine LoneTo.step (step_lone_select_default (c := c) (z := .pointer none) (cap := b.places) (s := s) (r := r) (tm := false) (stepG_comm (cases := #[rcase c (.pointer none)]) (blocking := false) (shape := .select) (w' := w) rfl rfl (by decide) (by simp [go_sem, execOp, rcase, Act.eval])) hc) ?_
  rw [Frame.finish_at]
  walk_nrm
  refine LoneTo.goes (n := 60) ?_
  s_op
  s_op
  s_c stepG_region_end
  s_c stepG_block
  s_cond false
  s_c stepG_seq
  s_reg
  s_op
  s_c stepG_region_end
  s_c stepG_seq
  s_reg
  s_op
  s_op
  s_op
  s_c stepG_region_end
  s_c stepG_ret'
  s_stop
  refine LoneTo.done ⟨.returned (.tuple #[.int .i64 0, .bool false]), _, rfl, ⟨rfl, rfl⟩, rfl, rfl, rfl, rfl, _, Try.func22, by simp [results, Try.f22, Frame.at]⟩
set_option maxRecDepth 100000 in
theorem tki_some {X : Set_} {w : World} {q c : Nat} {b : Bx Int} {x : Int} {l : List Int} (h : BoxAt KI X w q c b) (hl : b.list = x :: l) : Calls Try.prog 22 #[pt q] w fun r w' => r = .returned (.tuple #[KI.val x, .bool true]) ∧ BoxAt KI X w' q c b.pop ∧ Aside (two_ q c) w w' ∧ w'.heap.size = w.heap.size := by
  obtain ⟨buf, s, r, hc, hI⟩ := h.ch
  have k0 := h.k0
  have hend := h.got plain_i hc hI
  have hbl : buf.size = b.list.length := by rw [← hI.len]; simp
  rw [hl, List.length_cons] at hbl
  obtain ⟨e, he, hx⟩ : ∃ e, buf.getD 0 undef = pt e ∧ w.cell? ⟨e, 0, none⟩ = some (KI.val x) := by
    rw [hl] at hI
    obtain ⟨v, vs, hv⟩ : ∃ v vs, buf.toList = v :: vs := by
      cases hb : buf.toList with
      | nil => rw [hb] at hI; exact hI.elim
      | cons v vs => exact ⟨v, vs, rfl⟩
    rw [hv] at hI
    obtain ⟨⟨e, h1, h2, h3⟩, _⟩ := hI
    refine ⟨e, ?_, h3⟩
    have : buf = (v :: vs).toArray := by rw [← hv]
    rw [this, ← h1]; rfl
  have hec : e ≠ c := by
    rintro rfl
    rw [chan_no_cell hc] at hx
    cases hx
  have hcl := (Array.getElem?_eq_some_iff.1 hc).1
  refine calls_of_loneTo fun cs => ?_
  have e0 : Frame.enter Try.prog 22 #[pt q] .normal = (base 22).at ⟨(pt q :: List.replicate 17 undef).toArray, []⟩ [.code (Try.f22.body.getD .skip)] := by
    simp [Frame.enter, Frame.at, Try.func22, base, Try.f22]
  rw [e0]
  simp only [List.replicate, pt]
  refine LoneTo.goes (n := 60) ?_
  simp only [Try.f22, Option.getD_some]
  s_c stepG_seq
  s_reg
  s_op
  s_op
  s_c stepG_region_end
  s_c stepG_seq
  s_reg
  s_op
  s_op
  s_op
  s_op
  s_c stepG_region_end
  s_c stepG_seq
  s_reg
  s_stop
  refine LoneTo.step (step_lone_select_recv_buf (c := c) (z := .pointer none) (cap := b.places) (buf := buf) (closed := false) (s := s) (r := r) (tm := false) (stepG_comm (cases := #[rcase c (.pointer none)]) (blocking := false) (shape := .select) (w' := w) rfl rfl (by decide) (by simp [go_sem, execOp, rcase, Act.eval])) hc (by omega)) ?_
  have hx1 : (w.setChan c b.places (buf.extract 1 buf.size) false s (r + 1) false).cell? ⟨e, 0, none⟩ = some (KI.val x) := cell_aside hx (aside_setChan _ _ _ _ _ _ _ _) hec
  generalize w.setChan c b.places (buf.extract 1 buf.size) false s (r + 1) false = w1 at hend hx1 ⊢
  have hval : KI.val x = .int .i64 x := rfl
  rw [Frame.finish_at, he]
  rw [hval] at hx1 ⊢
  simp only [pt]
  clear k0
  walk_nrm
  refine LoneTo.goes (n := 60) ?_
  s_op
  s_op
  s_c stepG_region_end
  s_c stepG_block
  s_cond true
  s_c stepG_seq
  s_reg
  s_op
  s_op
  s_c stepG_region_end
  s_c stepG_seq
  s_reg
  s_op
  s_op
  s_op
  s_op
  s_op
  s_c stepG_region_end
  s_c stepG_ret'
  s_stop
  refine LoneTo.done ⟨.returned (.tuple #[.int .i64 x, .bool true]), _, rfl, ⟨rfl, hend⟩, rfl, rfl, rfl, rfl, _, Try.func22, by simp [results, Try.f22, Frame.at]⟩
end Go.Proofs.Ytbblhogdfdpipaa
