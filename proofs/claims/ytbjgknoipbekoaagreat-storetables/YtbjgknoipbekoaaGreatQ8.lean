/-
  The landed plate keeps the record.
  The walks of the landed addNumber (onto nothing), withLength and head.sector.
  The walks of the landed readHead, follows and isPart.
  The walks of the landed follows and isPart.
  The walk of the landed withoutLength.
  Two heads held against each other.
  The walk of the landed recordAt.
-/
import Derived.Test.YtbjgknoipbekoaaGreatQ7
import Derived.Test.YtbjgknoipbekoaaGreatQ3
import Derived.Laws.StructEq
namespace Go.Proofs.YtbjgknoipbekoaaGreat
open Go.RowKit
theorem plate_kept : Plate PAt where
  ptr := fun h => by obtain ⟨B, _, _, _, rfl, _⟩ := h; exact ⟨_, rfl⟩
  ok := fun h => by obtain ⟨_, _, _, _, _, hf, _⟩ := h; exact hf.ok
  old := fun h k hk => by
    obtain ⟨B, T, M, lv, _, hf, hS, hR⟩ := h
    rcases hk with hk | hk
    · rcases (hS k).1 hk with rfl | rfl | rfl | h
      · exact heap_lt hf.str
      · exact hf.there.lt
      · exact hf.safe.lt
      · exact (hf.own.lt k h).2
    · exact (hR k hk).elim
  apart := fun h k _ hk => by obtain ⟨_, _, _, _, _, _, _, hR⟩ := h; exact hR k hk
  kept := fun h hb hT => by
    obtain ⟨B, T, M, lv, rfl, hf, hS, hR⟩ := h
    refine ⟨B, T, M, lv, rfl, hf.aside hb fun k hk => ?_, hS, hR⟩
    have h1 := (hT k hk).1
    rw [hS] at h1
    exact ⟨fun e => h1 (Or.inl e), fun e => h1 (Or.inr (Or.inl e)), fun e => h1 (Or.inr (Or.inr (Or.inl e))), fun e => h1 (Or.inr (Or.inr (Or.inr e)))⟩
  new_yes := new_yes
  new_no := new_no
  sectors := sectors_c
  loose := loose_c
  write := fun a x b h hx hxs hbl hll _ _ => write_c a x b h hx hxs hbl hll
  read := fun a h _ _ _ => read_c a h
  sync := sync_c
  arm := arm_c
  revive := revive_c
end Go.Proofs.YtbjgknoipbekoaaGreat
namespace Go.Proofs.YtbjgknoipbekoaaGreat
open Go.RowKit
set_option maxRecDepth 100000 in
set_option maxHeartbeats 2000000 in
theorem addn_own (w : World) (n size : Nat) (hn : n ≤ 4611686018427387904) (hs : size ≤ 8) : GivesB w 105 #[.slice none 0 0, .int .i64 (n : Int), .int .i64 (size : Int)] (bigB n size) := by
  go_enter Tryz.func105, Tryz.ntmps105
  go_wp2
  go_loopw [0, 7, 9] (fun bb _ ii wr => ∃ (i c : Nat) (sp : Option Addr), i ≤ size ∧ bb = .slice sp i c ∧ ii = .int .i64 (i : Int) ∧ Hid (Row w wr (.slice sp i c) ((bigB n size).take i))) (fun _ _ ii _ => size - (intOf ii).toNat)
  case atStart => exact ⟨0, 0, none, by omega, rfl, rfl, ownb_nil _ _, Below.refl _ _⟩
  case round =>
    obtain ⟨i, c, sp, hi, rfl, rfl, HR⟩ := hrel
    by_cases hlt : i < size
    · have f1 : decide ((i : Int) < (size : Int)) = true := by simp; omega
      have f1n : decide (i < size) = true := by simp; omega
      obtain ⟨d, hd⟩ : ∃ d, size - 1 - i = d := ⟨_, rfl⟩
      obtain ⟨sh, hsh⟩ : ∃ sh, 8 * d = sh := ⟨_, rfl⟩
      obtain ⟨q, hq⟩ : ∃ q, n / 256 ^ d = q := ⟨_, rfl⟩
      obtain ⟨s1, hs1⟩ : ∃ s1, size - 1 = s1 := ⟨_, rfl⟩
      have e0 : (size : Int) - 1 = (s1 : Int) := by omega
      have e1 : (s1 : Int) - (i : Int) = (d : Int) := by omega
      have e2 : (8 : Int) * (d : Int) = (sh : Int) := by omega
      have hqb : q ≤ 4611686018427387904 := by rw [← hq]; exact Nat.le_trans (Nat.div_le_self _ _) hn
      have e3 : (n : Int) / 2 ^ sh = (q : Int) := by
        rw [← hq, ← pow_sh, hsh]
        simp
      have e4 := byte_of n d q hq
      obtain ⟨x, hx⟩ : ∃ x, UInt8.ofNat (n / 256 ^ d) = x := ⟨_, rfl⟩
      rw [hx] at e4
      have HST := hide (big_step n size i hlt)
      rw [hd, hx] at HST
      have HY := hide (one_byte wr x)
      have HR1 := hide ((unhide HR).lit (.cells #[.int .u8 (x.toNat : Int)] 5))
      have HL : Hid (((bigB n size).take i).length = i) := by show _ = _; rw [List.length_take, big_len]; omega
      have hsh8 : sh ≤ 56 := by omega
      clear hd hsh hq hx hs1 HR
      go_wp2_with (at_builtin; refine wpList_append_row rfl _ _ rfl (.slice sp i c) (.slice (some ⟨wr.heap.size, 0, none⟩) 1 1) ((bigB n size).take i) [x] rfl (unhide HR1) rfl (unhide HY) (by rw [unhide HL]; simp; omega) ?_
                   intro v3 w3 hR3
                   rw [← unhide HST] at hR3
                   obtain ⟨s3, c3, ev3⟩ := hR3.own.form
                   rw [List.length_take, big_len, Nat.min_eq_left hlt] at ev3
                   subst ev3
                   have HR3 := hide hR3
                   clear hR3)
      refine ⟨⟨i + 1, c3, s3, by omega, ?_, ?_, HR3⟩, ?_⟩
      · rfl
      · simp
      · simp [intOf]; omega
    · obtain rfl : i = size := by omega
      have f1 : decide ((i : Int) < (i : Int)) = false := by simp
      have HE : Hid (Row w wr (.slice sp i c) (bigB n i)) := by
        have h := unhide HR
        rw [List.take_of_length_le (by rw [big_len]; omega)] at h
        exact h
      clear HR
      go_wp2
      go_ret
      exact ⟨_, rfl, unhide HE⟩
set_option maxRecDepth 100000 in
set_option maxHeartbeats 2000000 in
theorem wlen_c (w : World) (x : Value) (b : Bs) (hx : BytesAt w x b) (hl : b.length ≤ 65536) : GivesB w 91 #[x] (bigB b.length 4 ++ b) := by
  obtain ⟨sx, cx, rfl, _⟩ := bytes_open hx
  have HX := hide hx
  have HA := hide (addn_own w b.length 4 (by omega) (by omega))
  obtain ⟨N, hN⟩ : ∃ N, b.length = N := ⟨_, rfl⟩
  rw [hN] at HA HX hl ⊢
  have HN := hide hN
  clear hx hN
  go_enter Tryz.func91, Tryz.ntmps91
  go_wp2_with fail
  refine (unhide HA).mono ?_
  rintro e w2 ⟨v2, rfl, h2⟩
  obtain ⟨s2, c2, e2⟩ := h2.own.form
  rw [big_len] at e2
  subst e2
  have HR2 := hide h2
  have HX2 := hide ((unhide HX).below h2.b)
  clear h2 HA HX
  go_wp2_with (at_builtin; refine wpList_append_row rfl _ _ rfl (.slice s2 4 c2) (.slice sx N cx) (bigB N 4) b rfl (unhide HR2) rfl (unhide HX2) (by rw [big_len, unhide HN]; omega) ?_
               intro v3 w3 hR3)
  go_ret
  exact ⟨_, rfl, hR3⟩
/-- A head, as a value. -/
def hdV (g o n p l : Nat) : Value := .agg #[.int .i64 (g : Int), .int .i64 (o : Int), .int .i64 (n : Int), .int .i64 (p : Int), .int .i64 (l : Int)]
def hdC (g o n p l : Nat) : List Value := [.int .i64 (g : Int), .int .i64 (o : Int), .int .i64 (n : Int), .int .i64 (p : Int), .int .i64 (l : Int)]
/-- A struct in its block. -/
def AggAt (w : World) (K : Nat) (cs : List Value) : Prop := K < w.heap.size ∧ w.rangeAt K 0 cs
theorem AggAt.below {a b : World} {K : Nat} {cs : List Value} (k : AggAt a K cs) (hb : Below a.heap.size a b) : AggAt b K cs :=
  ⟨Nat.lt_of_lt_of_le k.1 hb.size, fun j v hv => by rw [hb.cell (p := ⟨K, 0 + j, none⟩) k.1]; exact k.2 j v hv⟩
theorem AggAt.aside {S : Set_} {a b : World} {K : Nat} {cs : List Value} (k : AggAt a K cs) (hb : Aside S a b) (hK : ¬ S K) : AggAt b K cs :=
  ⟨Nat.lt_of_lt_of_le k.1 hb.size, fun j v hv => cell_aside (k.2 j v hv) hb hK⟩
theorem AggAt.c {w : World} {K : Nat} {cs : List Value} (k : AggAt w K cs) (j : Nat) (v : Value) (hv : cs[j]? = some v) : w.cell? ⟨K, j, none⟩ = some v := by
  have := k.2 j v hv
  rwa [Nat.zero_add] at this
theorem agg_new (w : World) (cs : List Value) (t : TypeId) : AggAt (w.alloc (.cells cs.toArray t)) w.heap.size cs := by
  refine ⟨by simp, fun j v hv => ?_⟩
  rw [cell_of_row _ _ _ _ t (0, 0) (heap_alloc_new w _), Nat.zero_add]
  simpa using hv
theorem made64 (w : World) : ∃ W, (Instr.makeSlice 23 (.int .i64 0) (.int .i64 64)).run Tryz.prog w = .ok (.slice (some ⟨w.heap.size, 0, none⟩) 0 64) W ∧ RoomAt W w.heap.size [] ∧ Below w.heap.size w W := by
  obtain ⟨hu, ⟨i, hi, h0, hsz, hby⟩, _, _⟩ := Eb
  have hr := run_make (P := Tryz.prog) w 23 5 i (.int .u8 0) hu hi h0 .i64 .i64 0 64 (by omega) (by omega) (by rw [hby]; omega) (by omega)
  rw [hsz] at hr
  have e1 : madeCells (Value.int .u8 0).cells (Int.toNat 64 * 1) = (List.replicate 64 (Value.int .u8 0)).toArray := by
    rw [show (Value.int .u8 0).cells = #[Value.int .u8 0] from rfl, show Int.toNat 64 * 1 = 64 from rfl]
    generalize 64 = N
    apply Array.ext
    · simp [madeCells]
    · intro j h1 h2
      simp [madeCells, Nat.mod_one]
  rw [e1, show Int.toNat 0 = 0 from rfl, show Int.toNat 64 = 64 from rfl] at hr
  refine ⟨w.alloc (.cells (List.replicate 64 (.int .u8 0)).toArray 5), hr, ⟨?_, by simp⟩, (Below.refl _ _).alloc (Nat.le_refl _) _⟩
  unfold RowAt
  rw [heap_alloc_new]
  rfl
theorem slice64 (g n : Nat) (w : World) : (Instr.sliceAt 23 (.slice (some ⟨g, 0, none⟩) n 64) none (some (.int .i64 64)) none).run Tryz.prog w = .ok (.slice (some ⟨g, 0, none⟩) 64 64) w := slice_front (some ⟨g, 0, none⟩) n 64 64 (by omega) w
/-- All of the row, its noughts too. -/
theorem RoomAt.whole {w : World} {g B : Nat} {l : Bs} (h : RoomAt w g l) (hB : B ≤ g) : OwnB w B (.slice (some ⟨g, 0, none⟩) 64 64) (l ++ List.replicate (64 - l.length) 0) := by
  have h2 := h.2
  have hr : RowAt 5 w g [] ((l ++ List.replicate (64 - l.length) 0).map bv) := by
    have h1 := h.1
    unfold RowAt at h1 ⊢
    rw [List.append_nil, List.map_append, List.map_replicate]
    exact h1
  exact hr.own hB 64 64 (by rw [List.length_map, List.length_append, List.length_replicate]; omega) rfl (by simp only [maxLen]; omega)
set_option maxRecDepth 100000 in
set_option maxHeartbeats 4000000 in
theorem wsector_c (w : World) (g o n p l : Nat) (x : Value) (b : Bs) (hx : BytesAt w x b) (hb0 : b ≠ []) (hb : b.length ≤ 48) (hg : g ≤ 4294967296) (ho : o ≤ 4294967296) (hn : n ≤ 4294967296) (hp : p ≤ 4294967296) (hl : l ≤ 4294967296) :
    GivesB w 92 #[hdV g o n p l, x] (headS g o n p l ++ (b ++ List.replicate (48 - b.length) 0)) := by
  obtain ⟨sx, cx, rfl, _⟩ := bytes_open hx
  have hA := agg_new w (hdC g o n p l) 144
  have hbA : Below w.heap.size w (w.alloc (.cells (hdC g o n p l).toArray 144)) := (Below.refl _ _).alloc (Nat.le_refl _) _
  obtain ⟨w1, hw1⟩ : ∃ y, w.alloc (.cells (hdC g o n p l).toArray 144) = y := ⟨_, rfl⟩
  rw [hw1] at hA hbA
  obtain ⟨w2, hmk, hR2, hb2⟩ := made64 w1
  have hw1s : w1.heap.size = w.heap.size + 1 := by rw [← hw1]; simp
  unfold hdC at hw1
  have HA2 := hide (hA.below hb2)
  have HR2 := hide hR2
  have HB2 : Hid (Below w.heap.size w w2) := hbA.trans (hb2.mono hbA.size)
  have HX := hide hx
  have HS1 := hide hw1s
  obtain ⟨G, hG⟩ : ∃ y, w1.heap.size = y := ⟨_, rfl⟩
  rw [hG] at hmk HR2 HS1
  have HBN : Hid (b.length ≤ 48) := hb
  obtain ⟨N, hN⟩ : ∃ N, b.length = N := ⟨_, rfl⟩
  rw [hN] at hb HX ⊢
  have HN := hide hN
  have HB0 := hide hb0
  clear hx hA hbA hR2 hb2 hw1s hG hN hb0
  unfold hdV
  go_enter Tryz.func92, Tryz.ntmps92
  have c0 := (unhide HA2).c 0 _ rfl
  have HA3_0 : Hid (Aside (fun k => k = G) w2 w2) := Aside.refl _ _
  have HRm0 : Hid (RoomAt w2 G ([] : Bs)) := HR2
  clear HR2
  have Hc := hide (addn_room w2 G ([] : Bs) 0 g 4 rfl (unhide HRm0) (by omega) (by omega) (by omega))
  simp only [Nat.reduceAdd] at Hc
  go_wp2_with fail
  refine (unhide Hc).mono ?_
  rintro e u0 ⟨rfl, hr_, ha_⟩
  have HRm1 := hide hr_
  have HA3_1 : Hid (Aside (fun k => k = G) w2 u0) := (unhide HA3_0).trans ha_ fun _ _ h => h
  have c1 := ((unhide HA2).aside (unhide HA3_1) (by have := unhide HS1; omega)).c 1 _ rfl
  clear hr_ ha_ Hc c0 HRm0 HA3_0 hmk
  have Hc := hide (addn_room u0 G (([] : Bs) ++ bigB g 4) 4 o 4 (by simp [big_len]) (unhide HRm1) (by omega) (by omega) (by omega))
  simp only [Nat.reduceAdd] at Hc
  go_wp2_with fail
  refine (unhide Hc).mono ?_
  rintro e u1 ⟨rfl, hr_, ha_⟩
  have HRm2 := hide hr_
  have HA3_2 : Hid (Aside (fun k => k = G) w2 u1) := (unhide HA3_1).trans ha_ fun _ _ h => h
  have c2 := ((unhide HA2).aside (unhide HA3_2) (by have := unhide HS1; omega)).c 2 _ rfl
  clear hr_ ha_ Hc c1 HRm1 HA3_1
  have Hc := hide (addn_room u1 G ((([] : Bs) ++ bigB g 4) ++ bigB o 4) 8 n 4 (by simp [big_len]) (unhide HRm2) (by omega) (by omega) (by omega))
  simp only [Nat.reduceAdd] at Hc
  go_wp2_with fail
  refine (unhide Hc).mono ?_
  rintro e u2 ⟨rfl, hr_, ha_⟩
  have HRm3 := hide hr_
  have HA3_3 : Hid (Aside (fun k => k = G) w2 u2) := (unhide HA3_2).trans ha_ fun _ _ h => h
  have c3 := ((unhide HA2).aside (unhide HA3_3) (by have := unhide HS1; omega)).c 3 _ rfl
  clear hr_ ha_ Hc c2 HRm2 HA3_2
  have Hc := hide (addn_room u2 G (((([] : Bs) ++ bigB g 4) ++ bigB o 4) ++ bigB n 4) 12 p 2 (by simp [big_len]) (unhide HRm3) (by omega) (by omega) (by omega))
  simp only [Nat.reduceAdd] at Hc
  go_wp2_with fail
  refine (unhide Hc).mono ?_
  rintro e u3 ⟨rfl, hr_, ha_⟩
  have HRm4 := hide hr_
  have HA3_4 : Hid (Aside (fun k => k = G) w2 u3) := (unhide HA3_3).trans ha_ fun _ _ h => h
  have c4 := ((unhide HA2).aside (unhide HA3_4) (by have := unhide HS1; omega)).c 4 _ rfl
  clear hr_ ha_ Hc c3 HRm3 HA3_3
  have Hc := hide (addn_room u3 G ((((([] : Bs) ++ bigB g 4) ++ bigB o 4) ++ bigB n 4) ++ bigB p 2) 14 l 2 (by simp [big_len]) (unhide HRm4) (by omega) (by omega) (by omega))
  simp only [Nat.reduceAdd] at Hc
  go_wp2_with fail
  refine (unhide Hc).mono ?_
  rintro e u4 ⟨rfl, hr_, ha_⟩
  have HRm5 := hide hr_
  have HA3_5 : Hid (Aside (fun k => k = G) w2 u4) := (unhide HA3_4).trans ha_ fun _ _ h => h
  clear hr_ ha_ Hc c4 HRm4 HA3_4
  have hLen : ((((((([] : Bs) ++ bigB g 4) ++ bigB o 4) ++ bigB n 4) ++ bigB p 2) ++ bigB l 2)).length = 16 := by simp [big_len]
  have HB5 : Hid (Below w.heap.size w u4) := (unhide HB2).trans ((unhide HA3_5).below (unhide HB2).size fun k hk => by have := unhide HS1; omega)
  have HX5 := hide ((unhide HX).below (unhide HB5))
  have hsl := slice64 G
  have HLen := hide hLen
  clear hLen
  go_wp2_with (at_builtin; refine wpList_append_room14 rfl _ _ rfl G 16 (.slice sx N cx) (((((([] : Bs) ++ bigB g 4) ++ bigB o 4) ++ bigB n 4) ++ bigB p 2) ++ bigB l 2) b rfl (unhide HLen) (unhide HRm5) rfl (unhide HX5) (unhide HB0) (by rw [unhide HN]; omega) ?_
               intro w9 hr9 hg9
               rw [unhide HN]
               have HR9 := hide hr9
               have HB9 : Hid (Below w.heap.size w w9) := (unhide HB5).trans ((Aside.of_grown hg9 (S := fun k => k = G) fun k hk => (Option.some.inj hk).symm).below (unhide HB5).size fun k hk => by have := unhide HS1; omega)
               clear hr9 hg9)
  go_ret
  refine ⟨_, rfl, ?_, unhide HB9⟩
  have h := (unhide HR9).whole (B := w.heap.size) (by have := unhide HS1; omega)
  rw [List.length_append, unhide HLen, unhide HN] at h
  have e : (((((([] : Bs) ++ bigB g 4) ++ bigB o 4) ++ bigB n 4) ++ bigB p 2) ++ bigB l 2) ++ b ++ List.replicate (64 - (16 + N)) 0 = headS g o n p l ++ (b ++ List.replicate (48 - N) 0) := by
    unfold headS
    rw [show 64 - (16 + N) = 48 - N by omega]
    simp only [List.append_assoc, List.nil_append]
  rw [e] at h
  exact h
end Go.Proofs.YtbjgknoipbekoaaGreat
namespace Go.Proofs.YtbjgknoipbekoaaGreat
open Go.RowKit
theorem sec_part {w : World} {sp : Option Addr} {c : Nat} {b : Bs} (h : BytesAt w (.slice sp 64 c) b) (hb : b.length = 64) (f e : Nat) (hf : f ≤ e) (he : e ≤ 64) : ∃ a d, (∀ w, (Instr.sliceAt 23 (.slice sp 64 c) (some (.int .i64 (f : Int))) (some (.int .i64 (e : Int))) none).run Tryz.prog w = .ok (.slice a (e - f) d) w) ∧ BytesAt w (.slice a (e - f) d) ((b.drop f).take (e - f)) := by
  have hc : 64 ≤ c := by
    obtain ⟨_, c', e_, h_, _⟩ := bytes_open h
    simp only [Value.slice.injEq] at e_
    omega
  refine ⟨cutAt sp c f, c - f, fun w => slice_mid sp 64 c f e hf (by omega) w, ?_⟩
  rw [← hb] at h
  exact bytes_part h f e hf (by omega)
/-- A head in its block. -/
def HdAt (w : World) (R g o n p l : Nat) : Prop := w.heap[R]? = some (.cells (hdC g o n p l).toArray 144 (0, 0))
theorem put5 {w : World} {R : Nat} {a0 b0 c0 d0 e0 : Value} {T : TypeId} (h : w.heap[R]? = some (.cells [a0, b0, c0, d0, e0].toArray T (0, 0))) (a b c d e : Value) :
    (((((w.setCell ⟨R, 0, none⟩ a).setCell ⟨R, 1, none⟩ b).setCell ⟨R, 2, none⟩ c).setCell ⟨R, 3, none⟩ d).setCell ⟨R, 4, none⟩ e).heap[R]? = some (.cells [a, b, c, d, e].toArray T (0, 0)) ∧ w.grownBy (((((w.setCell ⟨R, 0, none⟩ a).setCell ⟨R, 1, none⟩ b).setCell ⟨R, 2, none⟩ c).setCell ⟨R, 3, none⟩ d).setCell ⟨R, 4, none⟩ e) (some R) := by
  obtain ⟨w1, hw1⟩ : ∃ y, w.setCell ⟨R, 0, none⟩ a = y := ⟨_, rfl⟩
  have h1 : w1.heap[R]? = some (.cells [a, b0, c0, d0, e0].toArray T (0, 0)) := by rw [← hw1]; exact row_put h 0 (by simp) a
  obtain ⟨w2, hw2⟩ : ∃ y, w1.setCell ⟨R, 1, none⟩ b = y := ⟨_, rfl⟩
  have h2 : w2.heap[R]? = some (.cells [a, b, c0, d0, e0].toArray T (0, 0)) := by rw [← hw2]; exact row_put h1 1 (by simp) b
  obtain ⟨w3, hw3⟩ : ∃ y, w2.setCell ⟨R, 2, none⟩ c = y := ⟨_, rfl⟩
  have h3 : w3.heap[R]? = some (.cells [a, b, c, d0, e0].toArray T (0, 0)) := by rw [← hw3]; exact row_put h2 2 (by simp) c
  obtain ⟨w4, hw4⟩ : ∃ y, w3.setCell ⟨R, 3, none⟩ d = y := ⟨_, rfl⟩
  have h4 : w4.heap[R]? = some (.cells [a, b, c, d, e0].toArray T (0, 0)) := by rw [← hw4]; exact row_put h3 3 (by simp) d
  obtain ⟨w5, hw5⟩ : ∃ y, w4.setCell ⟨R, 4, none⟩ e = y := ⟨_, rfl⟩
  have h5 : w5.heap[R]? = some (.cells [a, b, c, d, e].toArray T (0, 0)) := by rw [← hw5]; exact row_put h4 4 (by simp) e
  rw [hw1, hw2, hw3, hw4, hw5]
  have g1 : w.grownBy w1 (some R) := by rw [← hw1]; exact grown_setCell (World.grownBy.refl w (some R)) ⟨R, 0, none⟩ a rfl
  have g2 : w.grownBy w2 (some R) := by rw [← hw2]; exact grown_setCell g1 ⟨R, 1, none⟩ b rfl
  have g3 : w.grownBy w3 (some R) := by rw [← hw3]; exact grown_setCell g2 ⟨R, 2, none⟩ c rfl
  have g4 : w.grownBy w4 (some R) := by rw [← hw4]; exact grown_setCell g3 ⟨R, 3, none⟩ d rfl
  have g5 : w.grownBy w5 (some R) := by rw [← hw5]; exact grown_setCell g4 ⟨R, 4, none⟩ e rfl
  exact ⟨h5, g5⟩
/-- A sector's head. -/
def headV (s : Bs) : Value := hdV (genF s) (opF s) (numF s) (placeF s) (lastF s)
theorem field_lt (s : Bs) : genF s < 4294967296 ∧ opF s < 4294967296 ∧ numF s < 4294967296 ∧ placeF s < 65536 ∧ lastF s < 65536 := by
  have key : ∀ (b : Bs) (k : Nat), b.length ≤ k → numB b < 256 ^ k := fun b k hk => Nat.lt_of_lt_of_le (num_lt b) (Nat.pow_le_pow_right (by omega) hk)
  refine ⟨key _ 4 ?_, key _ 4 ?_, key _ 4 ?_, key _ 2 ?_, key _ 2 ?_⟩ <;> rw [List.length_take] <;> omega
set_option maxRecDepth 100000 in
set_option maxHeartbeats 4000000 in
theorem whead_c (w : World) (x : Value) (s : Bs) (hx : BytesAt w x s) (hs : s.length = 64) : Calls Tryz.prog 118 #[x] w fun e w' => e = .returned (headV s) ∧ Below w.heap.size w w' := by
  obtain ⟨s1, q1, rfl, hq1, _⟩ := bytes_open hx
  have hbA : Below w.heap.size w (w.alloc (.cells #[.int .i64 0, .int .i64 0, .int .i64 0, .int .i64 0, .int .i64 0] 144)) := (Below.refl _ _).alloc (Nat.le_refl _) _
  have hx' := hx
  rw [hs] at hx
  obtain ⟨a1, d1, hsl1', hp1⟩ := sec_part hx hs 4 8 (by omega) (by omega)
  obtain ⟨a2, d2, hsl2', hp2⟩ := sec_part hx hs 8 12 (by omega) (by omega)
  obtain ⟨a3, d3, hsl3', hp3⟩ := sec_part hx hs 12 14 (by omega) (by omega)
  obtain ⟨a4, d4, hsl4', hp4⟩ := sec_part hx hs 14 16 (by omega) (by omega)
  have hp0 := bytes_front hx' 4 (by omega)
  have hsl0 : ∀ w, (Instr.sliceAt 23 (.slice s1 64 q1) none (some (.int .i64 4)) none).run Tryz.prog w = .ok (.slice s1 4 q1) w := fun w => slice_front s1 64 q1 4 (by omega) w
  have hsl1 : ∀ w, (Instr.sliceAt 23 (.slice s1 64 q1) (some (.int .i64 4)) (some (.int .i64 8)) none).run Tryz.prog w = .ok (.slice a1 4 d1) w := hsl1'
  have hsl2 : ∀ w, (Instr.sliceAt 23 (.slice s1 64 q1) (some (.int .i64 8)) (some (.int .i64 12)) none).run Tryz.prog w = .ok (.slice a2 4 d2) w := hsl2'
  have hsl3 : ∀ w, (Instr.sliceAt 23 (.slice s1 64 q1) (some (.int .i64 12)) (some (.int .i64 14)) none).run Tryz.prog w = .ok (.slice a3 2 d3) w := hsl3'
  have hsl4 : ∀ w, (Instr.sliceAt 23 (.slice s1 64 q1) (some (.int .i64 14)) (some (.int .i64 16)) none).run Tryz.prog w = .ok (.slice a4 2 d4) w := hsl4'
  unfold headV hdV
  rw [hs]
  obtain ⟨GE, hGE⟩ : ∃ y, genF s = y := ⟨_, rfl⟩
  obtain ⟨OP, hOP⟩ : ∃ y, opF s = y := ⟨_, rfl⟩
  obtain ⟨NU, hNU⟩ : ∃ y, numF s = y := ⟨_, rfl⟩
  obtain ⟨PL, hPL⟩ : ∃ y, placeF s = y := ⟨_, rfl⟩
  obtain ⟨LA, hLA⟩ : ∃ y, lastF s = y := ⟨_, rfl⟩
  obtain ⟨w1, hw1⟩ : ∃ y, w.alloc (.cells #[.int .i64 0, .int .i64 0, .int .i64 0, .int .i64 0, .int .i64 0] 144) = y := ⟨_, rfl⟩
  rw [hw1] at hbA
  have hrow : w1.heap[w.heap.size]? = some (.cells [Value.int .i64 0, .int .i64 0, .int .i64 0, .int .i64 0, .int .i64 0].toArray 144 (0, 0)) := by rw [← hw1]; exact heap_alloc_new w _
  have Hc0 : Hid (Calls Tryz.prog 128 #[.slice s1 4 q1] w1.drew fun e w'' => e = .returned (.int .i64 (GE : Int)) ∧ w'' = w1.drew) := by show Calls _ _ _ _ _; rw [← hGE]; exact wnum_s w1.drew _ _ ((BytesAt.below hp0 hbA).below (Below.refl _ _).drew) (by rw [List.length_take]; omega)
  have Hc1 : Hid (Calls Tryz.prog 128 #[.slice a1 4 d1] w1.drew fun e w'' => e = .returned (.int .i64 (OP : Int)) ∧ w'' = w1.drew) := by show Calls _ _ _ _ _; rw [← hOP]; exact wnum_s w1.drew _ _ ((BytesAt.below hp1 hbA).below (Below.refl _ _).drew) (by rw [List.length_take]; omega)
  have Hc2 : Hid (Calls Tryz.prog 128 #[.slice a2 4 d2] w1.drew fun e w'' => e = .returned (.int .i64 (NU : Int)) ∧ w'' = w1.drew) := by show Calls _ _ _ _ _; rw [← hNU]; exact wnum_s w1.drew _ _ ((BytesAt.below hp2 hbA).below (Below.refl _ _).drew) (by rw [List.length_take]; omega)
  have Hc3 : Hid (Calls Tryz.prog 128 #[.slice a3 2 d3] w1.drew fun e w'' => e = .returned (.int .i64 (PL : Int)) ∧ w'' = w1.drew) := by show Calls _ _ _ _ _; rw [← hPL]; exact wnum_s w1.drew _ _ ((BytesAt.below hp3 hbA).below (Below.refl _ _).drew) (by rw [List.length_take]; omega)
  have Hc4 : Hid (Calls Tryz.prog 128 #[.slice a4 2 d4] w1.drew fun e w'' => e = .returned (.int .i64 (LA : Int)) ∧ w'' = w1.drew) := by show Calls _ _ _ _ _; rw [← hLA]; exact wnum_s w1.drew _ _ ((BytesAt.below hp4 hbA).below (Below.refl _ _).drew) (by rw [List.length_take]; omega)
  rw [hGE, hOP, hNU, hPL, hLA]
  have HB := hide hbA
  have Hrow := hide hrow
  have k0 : w1.cell? ⟨w.heap.size, 0, none⟩ = some (.int .i64 0) := cell_of_row _ _ _ _ 144 (0, 0) hrow
  have k1 : w1.cell? ⟨w.heap.size, 1, none⟩ = some (.int .i64 0) := cell_of_row _ _ _ _ 144 (0, 0) hrow
  have k2 : w1.cell? ⟨w.heap.size, 2, none⟩ = some (.int .i64 0) := cell_of_row _ _ _ _ 144 (0, 0) hrow
  have k3 : w1.cell? ⟨w.heap.size, 3, none⟩ = some (.int .i64 0) := cell_of_row _ _ _ _ 144 (0, 0) hrow
  have k4 : w1.cell? ⟨w.heap.size, 4, none⟩ = some (.int .i64 0) := cell_of_row _ _ _ _ 144 (0, 0) hrow
  have z0 : w1.frozen? ⟨w.heap.size, 0, none⟩ = false := frozen_of_row w1 _ _ _ 144 hrow
  have z1 : w1.frozen? ⟨w.heap.size, 1, none⟩ = false := frozen_of_row w1 _ _ _ 144 hrow
  have z2 : w1.frozen? ⟨w.heap.size, 2, none⟩ = false := frozen_of_row w1 _ _ _ 144 hrow
  have z3 : w1.frozen? ⟨w.heap.size, 3, none⟩ = false := frozen_of_row w1 _ _ _ 144 hrow
  have z4 : w1.frozen? ⟨w.heap.size, 4, none⟩ = false := frozen_of_row w1 _ _ _ 144 hrow
  clear hGE hOP hNU hPL hLA hp0 hp1 hp2 hp3 hp4 hsl1' hsl2' hsl3' hsl4' hx hx' hs hq1 hbA hrow
  go_enter Tryz.func118, Tryz.ntmps118
  go_wp2
  go_region_held3 (fun _ => True) (trivial)
    ((first
      | (go_at_call_of 128 (Value.slice s1 4 q1)
         refine (unhide Hc0).mono ?_
         rintro e w' ⟨rfl, rfl⟩)
      | (go_at_call_of 128 (Value.slice a1 4 d1)
         refine (unhide Hc1).mono ?_
         rintro e w' ⟨rfl, rfl⟩)
      | (go_at_call_of 128 (Value.slice a2 4 d2)
         refine (unhide Hc2).mono ?_
         rintro e w' ⟨rfl, rfl⟩)
      | (go_at_call_of 128 (Value.slice a3 2 d3)
         refine (unhide Hc3).mono ?_
         rintro e w' ⟨rfl, rfl⟩)
      | (go_at_call_of 128 (Value.slice a4 2 d4)
         refine (unhide Hc4).mono ?_
         rintro e w' ⟨rfl, rfl⟩)))
  obtain ⟨w9, hw9⟩ : ∃ y, ((((w1.setCell ⟨w.heap.size, 0, none⟩ (.int .i64 (GE : Int))).setCell ⟨w.heap.size, 1, none⟩ (.int .i64 (OP : Int))).setCell ⟨w.heap.size, 2, none⟩ (.int .i64 (NU : Int))).setCell ⟨w.heap.size, 3, none⟩ (.int .i64 (PL : Int))).setCell ⟨w.heap.size, 4, none⟩ (.int .i64 (LA : Int)) = y := ⟨_, rfl⟩
  obtain ⟨h9, g9⟩ := put5 (unhide Hrow) (.int .i64 (GE : Int)) (.int .i64 (OP : Int)) (.int .i64 (NU : Int)) (.int .i64 (PL : Int)) (.int .i64 (LA : Int))
  rw [hw9] at h9 g9 ⊢
  have H9 := hide h9
  have HB9 : Hid (Below w.heap.size w w9) := (unhide HB).trans ((Aside.of_grown g9 (S := fun k => k = w.heap.size) fun k hk => (Option.some.inj hk).symm).below (unhide HB).size fun k hk => by omega)
  clear hw9 h9 g9 k0 k1 k2 k3 k4 z0 z1 z2 z3 z4 HB Hrow Hc0 Hc1 Hc2 Hc3 Hc4 hsl0 hsl1 hsl2 hsl3 hsl4 hw1
  go_wp2
  refine bodyPost_ret (results_cell_row Tryz.results118 _ _ w.heap.size 144 _ (0, 0) _ rfl (unhide H9) Tryz.underlying144 rfl (by kernel_rfl)) rfl ⟨rfl, (unhide HB9).drew⟩
end Go.Proofs.YtbjgknoipbekoaaGreat
namespace Go.Proofs.YtbjgknoipbekoaaGreat
open Go.RowKit
set_option maxRecDepth 100000 in
set_option maxHeartbeats 4000000 in
theorem wfollows_c (w : World) (g o n p l g' o' n' p' l' : Nat) (hn : n' ≤ 4294967296) : Calls Tryz.prog 119 #[hdV g o n p l, hdV g' o' n' p' l'] w fun e w' => e = .returned (.bool (decide (g = g' ∧ n = n' + 1 ∧ o' ≤ o))) ∧ Below w.heap.size w w' := by
  have HB : Hid (Below w.heap.size w ((w.alloc (.cells (hdC g o n p l).toArray 144)).alloc (.cells (hdC g' o' n' p' l').toArray 144))) := ((Below.refl _ _).alloc (Nat.le_refl _) _).alloc (by simp) _
  have hA := (agg_new w (hdC g o n p l) 144).below ((Below.refl _ _).alloc (Nat.le_refl _) (.cells (hdC g' o' n' p' l').toArray 144))
  have hA' := agg_new (w.alloc (.cells (hdC g o n p l).toArray 144)) (hdC g' o' n' p' l') 144
  rw [World.size_alloc] at hA'
  have a0 := hA.c 0 _ rfl
  have a1 := hA.c 1 _ rfl
  have a2 := hA.c 2 _ rfl
  have b0 := hA'.c 0 _ rfl
  have b1 := hA'.c 1 _ rfl
  have b2 := hA'.c 2 _ rfl
  clear hA hA'
  unfold hdC at HB a0 a1 a2 b0 b1 b2
  unfold hdV
  obtain ⟨m, hm⟩ : ∃ m, n' + 1 = m := ⟨_, rfl⟩
  have em : (n' : Int) + 1 = (m : Int) := by omega
  rw [hm]
  clear hm
  obtain ⟨W, hW⟩ : ∃ y, (w.alloc (.cells [Value.int .i64 (g : Int), .int .i64 (o : Int), .int .i64 (n : Int), .int .i64 (p : Int), .int .i64 (l : Int)].toArray 144)).alloc (.cells [Value.int .i64 (g' : Int), .int .i64 (o' : Int), .int .i64 (n' : Int), .int .i64 (p' : Int), .int .i64 (l' : Int)].toArray 144) = y := ⟨_, rfl⟩
  rw [hW] at HB a0 a1 a2 b0 b1 b2
  by_cases h1 : g = g'
  · subst h1
    have x1 : ((g : Int) == (g : Int)) = true := by simp
    by_cases h2 : n = m
    · subst h2
      have y1 : ((n : Int) == (n : Int)) = true := by simp
      by_cases h3 : o' ≤ o
      · have z1 : decide ((o' : Int) ≤ (o : Int)) = true := by simp; omega
        have e : decide (g = g ∧ n = n ∧ o' ≤ o) = true := by simp [h3]
        rw [e]
        clear e
        go_enter Tryz.func119, Tryz.ntmps119
        go_wp2
        go_ret
        exact ⟨rfl, unhide HB⟩
      · have z1 : decide ((o' : Int) ≤ (o : Int)) = false := by simp; omega
        have e : decide (g = g ∧ n = n ∧ o' ≤ o) = false := by simp; omega
        rw [e]
        clear e
        go_enter Tryz.func119, Tryz.ntmps119
        go_wp2
        go_ret
        exact ⟨rfl, unhide HB⟩
    · have y1 : ((n : Int) == (m : Int)) = false := by simp; omega
      have e : decide (g = g ∧ n = m ∧ o' ≤ o) = false := by simp [h2]
      rw [e]
      clear e
      go_enter Tryz.func119, Tryz.ntmps119
      go_wp2
      go_ret
      exact ⟨rfl, unhide HB⟩
  · have x1 : ((g : Int) == (g' : Int)) = false := by simp; omega
    have e : decide (g = g' ∧ n = m ∧ o' ≤ o) = false := by simp [h1]
    rw [e]
    clear e
    go_enter Tryz.func119, Tryz.ntmps119
    go_wp2
    go_ret
    exact ⟨rfl, unhide HB⟩
set_option maxRecDepth 100000 in
set_option maxHeartbeats 4000000 in
theorem wispart_c (w : World) (g o n p l : Nat) : Calls Tryz.prog 121 #[hdV g o n p l] w fun e w' => e = .returned (.bool (decide (1 ≤ o ∧ 1 ≤ n ∧ p ≤ l ∧ l < 1366))) ∧ Below w.heap.size w w' := by
  have HB : Hid (Below w.heap.size w (w.alloc (.cells (hdC g o n p l).toArray 144))) := (Below.refl _ _).alloc (Nat.le_refl _) _
  have hA := agg_new w (hdC g o n p l) 144
  have a1 := hA.c 1 _ rfl
  have a2 := hA.c 2 _ rfl
  have a3 := hA.c 3 _ rfl
  have a4 := hA.c 4 _ rfl
  clear hA
  unfold hdC at HB a1 a2 a3 a4
  unfold hdV
  obtain ⟨W, hW⟩ : ∃ y, w.alloc (.cells [Value.int .i64 (g : Int), .int .i64 (o : Int), .int .i64 (n : Int), .int .i64 (p : Int), .int .i64 (l : Int)].toArray 144) = y := ⟨_, rfl⟩
  rw [hW] at HB a1 a2 a3 a4
  by_cases h1 : 1 ≤ o
  · have x1 : decide ((1 : Int) ≤ (o : Int)) = true := by simp; omega
    by_cases h2 : 1 ≤ n
    · have y1 : decide ((1 : Int) ≤ (n : Int)) = true := by simp; omega
      by_cases h3 : p ≤ l
      · have z1 : decide ((p : Int) ≤ (l : Int)) = true := by simp; omega
        by_cases h4 : l < 1366
        · have u1 : decide ((l : Int) < 1366) = true := by simp; omega
          have e : decide (1 ≤ o ∧ 1 ≤ n ∧ p ≤ l ∧ l < 1366) = true := by simp [h1, h2, h3, h4]
          rw [e]
          clear e
          go_enter Tryz.func121, Tryz.ntmps121
          go_wp2
          go_ret
          exact ⟨rfl, unhide HB⟩
        · have u1 : decide ((l : Int) < 1366) = false := by simp; omega
          have e : decide (1 ≤ o ∧ 1 ≤ n ∧ p ≤ l ∧ l < 1366) = false := by simp [h4]
          rw [e]
          clear e
          go_enter Tryz.func121, Tryz.ntmps121
          go_wp2
          go_ret
          exact ⟨rfl, unhide HB⟩
      · have z1 : decide ((p : Int) ≤ (l : Int)) = false := by simp; omega
        have e : decide (1 ≤ o ∧ 1 ≤ n ∧ p ≤ l ∧ l < 1366) = false := by simp [h3]
        rw [e]
        clear e
        go_enter Tryz.func121, Tryz.ntmps121
        go_wp2
        go_ret
        exact ⟨rfl, unhide HB⟩
    · have y1 : decide ((1 : Int) ≤ (n : Int)) = false := by simp; omega
      have e : decide (1 ≤ o ∧ 1 ≤ n ∧ p ≤ l ∧ l < 1366) = false := by simp [h2]
      rw [e]
      clear e
      go_enter Tryz.func121, Tryz.ntmps121
      go_wp2
      go_ret
      exact ⟨rfl, unhide HB⟩
  · have x1 : decide ((1 : Int) ≤ (o : Int)) = false := by simp; omega
    have e : decide (1 ≤ o ∧ 1 ≤ n ∧ p ≤ l ∧ l < 1366) = false := by simp [h1]
    rw [e]
    clear e
    go_enter Tryz.func121, Tryz.ntmps121
    go_wp2
    go_ret
    exact ⟨rfl, unhide HB⟩
end Go.Proofs.YtbjgknoipbekoaaGreat
namespace Go.Proofs.YtbjgknoipbekoaaGreat
open Go.RowKit
/-- The record that the bytes of parts hold. -/
def unlenP (q : Bs) : Option Bs :=
  if 65536 < numB (q.take 4) ∨ needs (numB (q.take 4)) * 48 ≠ q.length then none
  else if anySet (q.drop (4 + numB (q.take 4))) = true then none
  else some ((q.drop 4).take (numB (q.take 4)))
set_option maxRecDepth 100000 in
set_option maxHeartbeats 4000000 in
theorem wunlen_no (w : World) (x : Value) (q : Bs) (hx : BytesAt w x q) (h4 : 4 ≤ q.length) (hl : q.length ≤ 1000000) (h : unlenP q = none) :
    Calls Tryz.prog 129 #[x] w fun e w' => e = .returned (.tuple #[.slice none 0 0, .bool false]) ∧ Below w.heap.size w w' := by
  obtain ⟨sp, c, rfl, hc, _, _⟩ := bytes_open hx
  have hp := bytes_front hx 4 h4
  have hsl0 : ∀ w, (Instr.sliceAt 23 (.slice sp q.length c) none (some (.int .i64 4)) none).run Tryz.prog w = .ok (.slice sp 4 c) w := fun w => slice_front sp q.length c 4 (by omega) w
  have Hn := hide (wnum_s w (.slice sp 4 c) (q.take 4) hp (by rw [List.length_take]; omega))
  have hnb := num_small4 (q.take 4) 4 (by rw [List.length_take]; omega)
  rw [List.take_take, Nat.min_self] at hnb
  obtain ⟨n, hn⟩ : ∃ n, numB (q.take 4) = n := ⟨_, rfl⟩
  obtain ⟨L, hL⟩ : ∃ L, q.length = L := ⟨_, rfl⟩
  have h' := h
  unfold unlenP at h'
  rw [hn, hL] at h'
  rw [hn] at Hn hnb
  rw [hL] at hsl0 hl h4 hc ⊢
  by_cases h1 : 65536 < n
  · have x1 : decide ((65536 : Int) < (n : Int)) = true := by simp; omega
    clear h h' hx hp hn hL
    go_enter Tryz.func129, Tryz.ntmps129
    go_wp2_with fail
    refine (unhide Hn).mono ?_
    rintro e w2 ⟨rfl, hw⟩
    subst hw
    go_wp2
    go_ret2
    exact ⟨rfl, Below.refl _ _⟩
  · have x1 : decide ((65536 : Int) < (n : Int)) = false := by simp; omega
    have Hp := hide (wparts_s w n (by omega))
    have hmost := needs_most (n := n) (by omega)
    have hfit := needs_fit n
    obtain ⟨m, hm⟩ : ∃ m, needs n = m := ⟨_, rfl⟩
    obtain ⟨k, hk⟩ : ∃ k, m * 48 = k := ⟨_, rfl⟩
    have ek : (m : Int) * 48 = (k : Int) := by omega
    rw [hm] at Hp hmost hfit h'
    by_cases h2 : k = L
    · rw [hk] at h'
      subst h2
      have x2 : ((k : Int) != (k : Int)) = false := by simp
      rw [if_neg (by omega)] at h'
      have ha : anySet (q.drop (4 + n)) = true := by
        by_cases ha : anySet (q.drop (4 + n)) = true
        · exact ha
        · rw [if_neg ha] at h'; cases h'
      have hr := bytes_rest hx (4 + n) (by omega)
      obtain ⟨E, hE⟩ : ∃ E, 4 + n = E := ⟨_, rfl⟩
      have eE : (4 : Int) + (n : Int) = (E : Int) := by omega
      rw [hE] at ha hr
      have hsl1 : ∀ w, (Instr.sliceAt 23 (.slice sp k c) (some (.int .i64 (E : Int))) none none).run Tryz.prog w = .ok (.slice (cutAt sp c E) (k - E) (c - E)) w := fun w => slice_rest sp k c E (by omega) w
      rw [hL] at hr
      have Hc := hide (contains_s w _ _ hr (by rw [List.length_drop]; omega))
      rw [ha] at Hc
      clear h h' hx hp hn hL ha hr hm hk hE
      go_enter Tryz.func129, Tryz.ntmps129
      go_wp2_with fail
      refine (unhide Hn).mono ?_
      rintro e w2 ⟨rfl, hw⟩
      subst hw
      go_wp2_with fail
      refine (unhide Hp).mono ?_
      rintro e w2 ⟨rfl, hw⟩
      subst hw
      go_wp2_with fail
      refine (unhide Hc).mono ?_
      rintro e w2 ⟨rfl, hw⟩
      subst hw
      go_wp2
      go_ret2
      exact ⟨rfl, Below.refl _ _⟩
    · have x2 : ((k : Int) != (L : Int)) = true := by simp; omega
      clear h h' hx hp hn hL hm hk
      go_enter Tryz.func129, Tryz.ntmps129
      go_wp2_with fail
      refine (unhide Hn).mono ?_
      rintro e w2 ⟨rfl, hw⟩
      subst hw
      go_wp2_with fail
      refine (unhide Hp).mono ?_
      rintro e w2 ⟨rfl, hw⟩
      subst hw
      go_wp2
      go_ret2
      exact ⟨rfl, Below.refl _ _⟩
set_option maxRecDepth 100000 in
set_option maxHeartbeats 4000000 in
theorem wunlen_yes (w : World) (x : Value) (q r : Bs) (hx : BytesAt w x q) (h4 : 4 ≤ q.length) (hl : q.length ≤ 1000000) (h : unlenP q = some r) :
    Calls Tryz.prog 129 #[x] w fun e w' => ∃ v, e = .returned (.tuple #[v, .bool true]) ∧ Row w w' v r := by
  obtain ⟨sp, c, rfl, hc, _, _⟩ := bytes_open hx
  have hp := bytes_front hx 4 h4
  have hsl0 : ∀ w, (Instr.sliceAt 23 (.slice sp q.length c) none (some (.int .i64 4)) none).run Tryz.prog w = .ok (.slice sp 4 c) w := fun w => slice_front sp q.length c 4 (by omega) w
  have Hn := hide (wnum_s w (.slice sp 4 c) (q.take 4) hp (by rw [List.length_take]; omega))
  obtain ⟨n, hn⟩ : ∃ n, numB (q.take 4) = n := ⟨_, rfl⟩
  obtain ⟨L, hL⟩ : ∃ L, q.length = L := ⟨_, rfl⟩
  have h' := h
  unfold unlenP at h'
  rw [hn, hL] at h'
  rw [hn] at Hn
  rw [hL] at hsl0 hl h4 hc ⊢
  by_cases hbad : 65536 < n ∨ needs n * 48 ≠ L
  · rw [if_pos hbad] at h'; cases h'
  rw [if_neg hbad] at h'
  by_cases ha : anySet (q.drop (4 + n)) = true
  · rw [if_pos ha] at h'; cases h'
  rw [if_neg ha] at h'
  simp only [Option.some.injEq] at h'
  have ha' : anySet (q.drop (4 + n)) = false := by simpa using ha
  have x1 : decide ((65536 : Int) < (n : Int)) = false := by simp; omega
  have Hp := hide (wparts_s w n (by omega))
  have hmost := needs_most (n := n) (by omega)
  have hfit := needs_fit n
  obtain ⟨m, hm⟩ : ∃ m, needs n = m := ⟨_, rfl⟩
  rw [hm] at Hp hmost hfit hbad
  obtain ⟨k, hk⟩ : ∃ k, m * 48 = k := ⟨_, rfl⟩
  have ek : (m : Int) * 48 = (k : Int) := by omega
  obtain rfl : k = L := by omega
  have x2 : ((k : Int) != (k : Int)) = false := by simp
  have hr := bytes_rest hx (4 + n) (by omega)
  have hmid := bytes_part hx 4 (4 + n) (by omega) (by omega)
  rw [show 4 + n - 4 = n by omega, h'] at hmid
  obtain ⟨E, hE⟩ : ∃ E, 4 + n = E := ⟨_, rfl⟩
  have eE : (4 : Int) + (n : Int) = (E : Int) := by omega
  rw [hE] at ha' hr
  have hsl1 : ∀ w, (Instr.sliceAt 23 (.slice sp k c) (some (.int .i64 (E : Int))) none none).run Tryz.prog w = .ok (.slice (cutAt sp c E) (k - E) (c - E)) w := fun w => slice_rest sp k c E (by omega) w
  have hsl2 : ∀ w, (Instr.sliceAt 23 (.slice sp k c) (some (.int .i64 4)) (some (.int .i64 (E : Int))) none).run Tryz.prog w = .ok (.slice (cutAt sp c 4) n (c - 4)) w := fun w => by
    have := slice_mid sp k c 4 E (by omega) (by omega) w
    rwa [show E - 4 = n by omega] at this
  rw [hL] at hr
  have Hc := hide (contains_s w _ _ hr (by rw [List.length_drop]; omega))
  rw [ha'] at Hc
  have hrl : r.length ≤ 65536 := by rw [← h', List.length_take]; omega
  have Hcl := hide (bclone_c w _ _ hmid (by omega))
  clear h h' hx hp hn hL ha ha' hr hm hk hE hbad hmid hrl
  go_enter Tryz.func129, Tryz.ntmps129
  go_wp2_with fail
  refine (unhide Hn).mono ?_
  rintro e w2 ⟨rfl, hw⟩
  subst hw
  go_wp2_with fail
  refine (unhide Hp).mono ?_
  rintro e w2 ⟨rfl, hw⟩
  subst hw
  go_wp2_with fail
  refine (unhide Hc).mono ?_
  rintro e w2 ⟨rfl, hw⟩
  subst hw
  go_wp2_with fail
  refine (unhide Hcl).mono ?_
  rintro e w2 ⟨v, rfl, hv⟩
  have HV := hide hv
  clear hv Hcl
  go_wp2
  go_ret2
  exact ⟨v, rfl, unhide HV⟩
end Go.Proofs.YtbjgknoipbekoaaGreat
namespace Go.Proofs.YtbjgknoipbekoaaGreat
open Go.RowKit
theorem fields_head : (Tryz.prog.fieldsOf 144).toList.map (fun f => (f.name, f.type, f.offset)) = [("gen", 3, 0), ("opening", 3, 1), ("number", 3, 2), ("place", 3, 3), ("last", 3, 4)] := by kernel_rfl
theorem part_int (xs : Array Value) (off : Nat) (v : Value) (h : xs[off]? = some v) (w : World) : (part 3 xs off).run Tryz.prog w = .ok v w := run_part_plain w (by kernel_rfl) h
theorem eq_int (a b : Int) (w : World) : (Op.equalIn 9999 3 (.int .i64 a) (.int .i64 b)).run Tryz.prog w = .ok (a == b) w := run_equalIn_int w 9998 3 .i64 .i64 a b (by kernel_rfl)
theorem eq_fields (xs ys : Array Value) (a b : List Int) : ∀ (fs : List Field) (k : Nat), (∀ j f, fs[j]? = some f → f.name ≠ "_" ∧ f.type = 3 ∧ f.offset = k + j) → (∀ j, j < fs.length → xs[k + j]? = some (.int .i64 (a.getD (k + j) 0)) ∧ ys[k + j]? = some (.int .i64 (b.getD (k + j) 0))) → ∀ w, (Op.eqFields 9999 xs ys fs).run Tryz.prog w = .ok (decide (∀ j, j < fs.length → a.getD (k + j) 0 = b.getD (k + j) 0)) w
  | [], k, _, _, w => by simp [Op.eqFields]
  | f :: fs, k, hf, hx, w => by
    obtain ⟨h1, h2, h3⟩ := hf 0 f rfl
    obtain ⟨x1, x2⟩ := hx 0 (by simp)
    have ih := eq_fields xs ys a b fs (k + 1) (fun j g hg => by have := hf (j + 1) g hg; rw [show k + 1 + j = k + (j + 1) by omega]; exact this) (fun j hj => by have := hx (j + 1) (by simp; omega); rw [show k + 1 + j = k + (j + 1) by omega]; exact this) w
    unfold Op.eqFields
    rw [if_pos h1, h2, h3]
    simp only [Sem.run_bind]
    rw [part_int xs (k + 0) _ x1, Result.andThen_ok, part_int ys (k + 0) _ x2, Result.andThen_ok, eq_int, Result.andThen_ok]
    by_cases he : a.getD (k + 0) 0 = b.getD (k + 0) 0
    · rw [he]
      simp only [beq_self_eq_true, Bool.not_true, Bool.false_eq_true, if_false]
      rw [ih]
      congr 1
      rw [decide_eq_decide]
      constructor
      · intro h j hj
        cases j with
        | zero => exact he
        | succ j => have := h j (by simp at hj; omega); rw [show k + 1 + j = k + (j + 1) by omega] at this; exact this
      · intro h j hj
        have := h (j + 1) (by simp; omega)
        rw [show k + 1 + j = k + (j + 1) by omega]; exact this
    · have hb : (a.getD (k + 0) 0 == b.getD (k + 0) 0) = false := by simpa using he
      rw [hb]
      simp only [Bool.not_false, if_true, Sem.run_pure]
      congr 1
      symm
      rw [decide_eq_false_iff_not]
      intro h
      exact he (h 0 (by simp))
theorem cmp_head (g o n p l g' o' n' p' l' : Nat) (w : World) : (binOp .neq 144 (hdV g o n p l) (hdV g' o' n' p' l')).run Tryz.prog w = .ok (.bool (!decide (g = g' ∧ o = o' ∧ n = n' ∧ p = p' ∧ l = l'))) w := by
  have hf := fields_head
  unfold hdV
  rw [run_neq_struct, show (10000 : Nat) = 9999 + 1 from rfl, run_equalIn_struct w 9999 144 _ _ (by kernel_rfl) (by kernel_rfl)]
  generalize (Tryz.prog.fieldsOf 144).toList = fs at hf ⊢
  have hlen := congrArg List.length hf
  simp only [List.length_map, List.length_cons, List.length_nil] at hlen
  rw [eq_fields _ _ [(g : Int), o, n, p, l] [(g' : Int), o', n', p', l'] fs 0 ?_ ?_, Result.andThen_ok]
  · congr 3
    rw [decide_eq_decide, hlen]
    constructor
    · intro h
      have h0 := h 0 (by omega)
      have h1 := h 1 (by omega)
      have h2 := h 2 (by omega)
      have h3 := h 3 (by omega)
      have h4 := h 4 (by omega)
      simp at h0 h1 h2 h3 h4
      omega
    · rintro ⟨rfl, rfl, rfl, rfl, rfl⟩ j hj
      rfl
  · intro j f hj
    have h := congrArg (fun l => l[j]?) hf
    simp only [List.getElem?_map, hj, Option.map_some] at h
    match j, h with
    | 0, h => simp at h; exact ⟨by rw [h.1]; decide, h.2.1, by omega⟩
    | 1, h => simp at h; exact ⟨by rw [h.1]; decide, h.2.1, by omega⟩
    | 2, h => simp at h; exact ⟨by rw [h.1]; decide, h.2.1, by omega⟩
    | 3, h => simp at h; exact ⟨by rw [h.1]; decide, h.2.1, by omega⟩
    | 4, h => simp at h; exact ⟨by rw [h.1]; decide, h.2.1, by omega⟩
    | j + 5, h => simp at h
  · intro j hj
    rw [hlen] at hj
    match j, hj with
    | 0, _ => exact ⟨rfl, rfl⟩
    | 1, _ => exact ⟨rfl, rfl⟩
    | 2, _ => exact ⟨rfl, rfl⟩
    | 3, _ => exact ⟨rfl, rfl⟩
    | 4, _ => exact ⟨rfl, rfl⟩
end Go.Proofs.YtbjgknoipbekoaaGreat
namespace Go.Proofs.YtbjgknoipbekoaaGreat
open Go.RowKit
/-- The bytes of sectors' parts. -/
def partsB (l : List Bs) : Bs := (l.map (·.drop 16)).flatten
theorem parts_len : ∀ (l : List Bs), (∀ s ∈ l, s.length = 64) → (partsB l).length = 48 * l.length
  | [], _ => rfl
  | s :: l, h => by
    have ih := parts_len l fun x hx => h x (List.mem_cons_of_mem _ hx)
    have hs := h s List.mem_cons_self
    unfold partsB at ih ⊢
    rw [List.map_cons, List.flatten_cons, List.length_append, ih, List.length_drop, List.length_cons]
    omega
theorem parts_take {l : List Bs} {i : Nat} {s : Bs} (h : l[i]? = some s) : partsB (l.take (i + 1)) = partsB (l.take i) ++ s.drop 16 := by
  unfold partsB
  rw [List.take_add_one, h, List.map_append, List.flatten_append]
  simp
/-- Its numbers are these. -/
def hasHead (s : Bs) (g o n p l : Nat) : Prop := genF s = g ∧ opF s = o ∧ numF s = n ∧ placeF s = p ∧ lastF s = l
/-- The sectors up to i have the heads that a record's sectors have. -/
def headsTo (l : List Bs) (g o n la i : Nat) : Prop := ∀ j, j < i → ∀ s, l[j]? = some s → hasHead s g o n j la
theorem heads_next {l : List Bs} {g o n la i : Nat} {s : Bs} (h : headsTo l g o n la i) (hs : l[i]? = some s) (hh : hasHead s g o n i la) : headsTo l g o n la (i + 1) := fun j hj x hx => by
  by_cases hji : j < i
  · exact h j hji x hx
  · obtain rfl : j = i := by omega
    rw [hs] at hx
    cases hx
    exact hh
/-- A record with this head stands ahead. -/
def RecOf (l : List Bs) (g o n la : Nat) (r : Bs) : Prop := la < l.length ∧ headsTo l g o n la (la + 1) ∧ unlenP (partsB (l.take (la + 1))) = some r
/-- What stands in recordAt's loop. -/
structure RecI (w wr : World) (l : List Bs) (R g o n la i : Nat) (v : Value) : Prop where
  own : OwnB wr (R + 1) v (partsB (l.take i))
  hd : HdAt wr R g o n i la
  heads : headsTo l g o n la i
  b : Below w.heap.size w wr
theorem RecI.next {w wr w4 w5 : World} {l : List Bs} {R g o n la i : Nat} {v v' : Value} {s : Bs} (h : RecI w wr l R g o n la i v) (hwR : w.heap.size ≤ R) (hs : l[i]? = some s) (hh : hasHead s g o n i la) (hb4 : Below wr.heap.size wr w4)
    (ho : OwnB w5 (R + 1) v' (partsB (l.take i) ++ s.drop 16)) (hg : w4.grownBy w5 v.ownBlock) : RecI w (w5.setCell ⟨R, 3, none⟩ (.int .i64 ((i : Int) + 1))) l R g o n la (i + 1) v' := by
  have hlt := World.ownsRow.lt h.own
  have hR : R < wr.heap.size := (Array.getElem?_eq_some_iff.1 h.hd).1
  have hA : Aside (fun k => v.ownBlock = some k) w4 w5 := Aside.of_grown hg fun k hk => hk
  have h4 : w4.heap[R]? = wr.heap[R]? := hb4.block R hR
  have h5 : w5.heap[R]? = w4.heap[R]? := hA.block R (Nat.lt_of_lt_of_le hR hb4.size) fun hk => by have := (hlt R hk).1; omega
  have hd5 : HdAt w5 R g o n i la := by unfold HdAt; rw [h5, h4]; exact h.hd
  have hp := row_put hd5 3 (by simp [hdC]) (.int .i64 ((i : Int) + 1))
  have hlt' := World.ownsRow.lt ho
  refine ⟨?_, ?_, heads_next h.heads hs hh, ?_⟩
  · rw [parts_take hs]
    exact OwnV.kept ho (setCell_grown R 3 _) (by
      cases hq : v'.ownBlock with
      | none => exact Or.inl rfl
      | some k => refine Or.inr fun e => ?_; have := (hlt' k hq).1; have := Option.some.inj e; omega)
  · unfold HdAt
    rw [hp]
    rfl
  · have h1 : Below w.heap.size w w5 := (h.b.trans (hb4.mono h.b.size)).trans (hA.below (Nat.le_trans h.b.size hb4.size) fun k hk => by have := (hlt k hk).1; omega)
    exact h1.setCell (p := ⟨R, 3, none⟩) hwR _
end Go.Proofs.YtbjgknoipbekoaaGreat
