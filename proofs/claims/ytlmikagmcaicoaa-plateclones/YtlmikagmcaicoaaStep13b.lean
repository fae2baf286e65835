/-
  The statements' step of the kinds 2 to 5, and of no kind.
-/
import Derived.Test.YtlmikagmcaicoaaStep13
namespace Go.Proofs.Ytlmikagmcaicoaa
open Go.RowKit
section
variable {PAt : Set_ → Set_ → World → Value → PS → Prop} (HP : Plate PAt)
theorem read_bad {s : PS} {a : Int} (h : ¬ readE s a = 0) : readB s a = [] := by
  unfold readE at h
  unfold readB
  split
  · rfl
  · rename_i hd
    rw [if_neg hd] at h
    split
    · rfl
    · rename_i hr; rw [if_neg hr] at h; exact absurd rfl h
include HP in
/-- Behind a call on the plate and one on the reference's. -/
theorem ends_two {B : Nat} {w w1 w3 w4 : World} {p r : Value} {S R Q S' R' Q' : Set_} {s' t t' : PS} (h1 : Below w.heap.size w w1) (hS : ∀ k, S' k → S k ∨ w1.heap.size ≤ k) (hR : ∀ k, R' k → R k ∨ w1.heap.size ≤ k) (ha : Aside S w1 w3) (hb : Both PAt B w3 p r S' R' Q s' t) (hr : RAt Q' w4 r t') (hQ : ∀ k, Q' k → Q k ∨ w3.heap.size ≤ k) (ha4 : Aside Q w3 w4) : StepTo PAt B w w4 p r S R Q s' t' := by
  have z1 := h1.size
  have z3 := ha.size
  refine ⟨S', R', Q', hb.setR HP hr hQ ha4, ?_, fun k hk => ?_, ?_⟩
  · rintro k (hk | hk)
    · rcases hS k hk with h | h
      · exact Or.inl (Or.inl h)
      · right; omega
    · rcases hQ k hk with h | h
      · exact Or.inl (Or.inr h)
      · right; omega
  · rcases hR k hk with h | h
    · exact Or.inl h
    · right; omega
  · exact ((Aside.of_below h1).trans (T := S) ha fun i _ h => Or.inl h).trans (T := Q) ha4 fun i _ h => Or.inr h
set_option maxRecDepth 100000 in
set_option maxHeartbeats 8000000 in
include HP in
theorem step_2 {B : Nat} {w : World} {p r : Value} {S R Q : Set_} {s t : PS} (h : Both PAt B w p r S R Q s t) (o : OpP) (x : Value) (ho : o.Ok) (hk : o.kind = 2) (hs : s.loose.length ≤ 1000) (ht : t.loose.length ≤ 1000) :
    Calls Try.prog 12 #[p, r, .agg (ocells o x).toArray] w fun e w' => e = .returned (.bool (okStep s t o)) ∧ StepTo PAt B w w' p r S R Q (stepS s o) (stepS t o) := by
  obtain ⟨kd, a, z, c, kp⟩ := o
  obtain ⟨hz0, hz1, ha0, ha1⟩ := ho
  simp only at hk hz0 hz1 ha0 ha1
  subst hk
  have e1 : ∀ s : PS, stepS s ⟨2, a, z, c, kp⟩ = s := fun s => by unfold stepS; simp
  have e2 : okStep s t ⟨2, a, z, c, kp⟩ = ((readE s a == readE t a) && decide (readB s a = readB t a)) := by unfold okStep; simp
  rw [e1, e1, e2]
  obtain ⟨pa, rfl⟩ := HP.ptr h.p
  obtain ⟨C, hC⟩ : ∃ x, c.toNat = x := ⟨_, rfl⟩
  have hb1 : Below w.heap.size w (w.alloc (.cells #[.int .i64 2, .int .i64 a, .int .i64 z, .int .u8 (C : Int), x] 32)) := (Below.refl _ _).alloc (Nat.le_refl _) _
  have hr1 := heap_alloc_new w (.cells [.int .i64 2, .int .i64 a, .int .i64 z, .int .u8 (C : Int), x].toArray 32)
  obtain ⟨X, hX⟩ : ∃ y, w.heap.size = y := ⟨_, rfl⟩
  obtain ⟨w1, hw1⟩ : ∃ y, w.alloc (.cells #[.int .i64 2, .int .i64 a, .int .i64 z, .int .u8 (C : Int), x] 32) = y := ⟨_, rfl⟩
  rw [show w.alloc (.cells [.int .i64 2, .int .i64 a, .int .i64 z, .int .u8 (C : Int), x].toArray 32) = w1 from hw1] at hr1
  rw [hw1] at hb1
  rw [hX] at hr1
  obtain ⟨k0, k1, k2, k3, k4⟩ := five_row hr1
  have HB := hide (h.below HP hb1)
  have HW1 := hide hb1
  have HX := hide hX
  have HR1 := hide hr1
  have HO := hide (h.old HP)
  have HXk : Hid (∀ k, S k ∨ R k ∨ Q k → k ≠ X) := fun k hk => by have := h.old HP k hk; omega
  have HXlt : Hid (X < w1.heap.size) := (Array.getElem?_eq_some_iff.1 hr1).1
  unfold ocells
  simp only
  rw [hC]
  obtain ⟨RR, _, _, _, _, _, rfl, _, _⟩ := h.r
  clear h hb1 hr1 hC e1 e2
  have Hp := hide (HP.read a (unhide HB).p (by omega) ha0 ha1)
  obtain ⟨E1, hE1⟩ : ∃ y, readE s a = y := ⟨_, rfl⟩
  obtain ⟨E2, hE2⟩ : ∃ y, readE t a = y := ⟨_, rfl⟩
  obtain ⟨B1, hB1⟩ : ∃ y, readB s a = y := ⟨_, rfl⟩
  obtain ⟨B2, hB2⟩ : ∃ y, readB t a = y := ⟨_, rfl⟩
  have hl1 : B1.length ≤ 64 := by
    rw [← hB1]
    by_cases he : readE s a = 0
    · rw [(HP.ok (unhide HB).p).readLen he]; omega
    · rw [read_bad he]; simp
  rw [hE1, hB1] at Hp
  rw [hE1, hE2, hB1, hB2]
  clear hE1 hB1
  go_enter Try.func12, Try.ntmps12
  go_wp2_with fail
  refine (unhide Hp).mono ?_
  rintro e w2 ⟨v, rfl, hO, hb2⟩
  obtain ⟨N1, hN1⟩ : ∃ y, B1.length = y := ⟨_, rfl⟩
  obtain ⟨sv, cv, hv⟩ := hO.form
  rw [hN1] at hv
  subst hv
  have hr2 : w2.heap[X]? = _ := (hb2.block X (unhide HXlt)).trans (unhide HR1)
  have HB2 := hide ((unhide HB).below HP hb2)
  have HO2 := hide hO
  have HS2 := hide hb2
  have HN1 := hide hN1
  have hN64 : N1 ≤ 64 := by omega
  clear k0 k1 k2 k3 k4 Hp hb2 hO hN1
  obtain ⟨_, k1, _, _, _⟩ := five_row hr2
  have Hq := hide (rread_c Q w2 _ t a (unhide HB2).r (by omega))
  rw [hE2, hB2] at Hq
  clear hr2 hE2 hB2
  go_wp2_with fail
  refine (unhide Hq).mono ?_
  rintro e w3 ⟨v2, rfl, hO3, hb3⟩
  obtain ⟨sv2, cv2, hv2⟩ := hO3.form
  subst hv2
  have HO3 := hide hO3
  have HB3 := hide ((unhide HB2).below HP hb3)
  have HOa := hide ((unhide HO2).below hb3)
  have HS3 : Hid (Below w1.heap.size w1 w3) := (unhide HS2).trans (hb3.mono (unhide HS2).size)
  clear hO3 hb3 k1 Hq
  have Hsame := hide (same_any w3 _ _ B1 B2 (unhide HOa).bytes (unhide HO3).bytes (by omega))
  obtain ⟨N2, hN2⟩ : ∃ y, B2.length = y := ⟨_, rfl⟩
  rw [hN2] at Hsame ⊢
  clear hN2
  obtain ⟨EE, hEE⟩ : ∃ y, decide (B1 = B2) = y := ⟨_, rfl⟩
  rw [hEE] at Hsame
  have HEE := hide hEE
  clear hEE
  have HAll : Hid (∀ w4, Below w3.heap.size w3 w4 → ∃ l : Bs, l.length = N1 ∧ OwnA w4 w1.heap.size (.slice sv N1 cv) l ∧ Both PAt B w4 (.pointer (some pa)) (.pointer (some ⟨RR, 0, none⟩)) S R Q s t ∧ Aside (fun k => S k ∨ Q k) w w4) := fun w4 hb => ⟨B1, unhide HN1, (unhide HOa).below hb, (unhide HB3).below HP hb, Aside.of_below ((unhide HW1).trans (((unhide HS3).trans (hb.mono (unhide HS3).size)).mono (unhide HW1).size))⟩
  have HOn : Hid (∀ g, w1.heap.size ≤ g → ∀ k, S k ∨ R k ∨ Q k → k ≠ g) := fun g hg k hk => by
    have h1 := unhide HO k hk
    have h2 := unhide HXlt
    have h3 := unhide HX
    omega
  have HOge : Hid (∀ g, w1.heap.size ≤ g → w.heap.size ≤ g) := fun g hg => Nat.le_trans (unhide HW1).size hg
  clear HB HB2 HB3 HO2 HO3 HOa HR1 HS2 HS3 HW1
  have Hloop : Hid (∀ (ok : Bool) (w4 : World), Below w3.heap.size w3 w4 → True) := fun _ _ _ => trivial
  clear Hloop
  by_cases hee : E1 = E2
  case' pos =>
    have d1 : (E1 == E2) = true := by simpa using hee
    have HD : Hid (((E1 == E2) && decide (B1 = B2)) = EE) := by show _ = _; rw [d1, Bool.true_and]; exact unhide HEE
    clear hee
    go_wp2_with fail
    refine (unhide Hsame).mono ?_
    rintro e w4 ⟨rfl, hb4⟩
    obtain ⟨l0, hl0, ho0, hB0, hA0⟩ := unhide HAll w4 hb4
    have Hl0 := hide hl0
    have Ho0 := hide ho0
    have HB0 := hide hB0
    have HA0 := hide hA0
    clear hb4 hl0 ho0 hB0 hA0 HAll Hsame d1 HEE
  case' neg =>
    have d1 : (E1 == E2) = false := by simpa using hee
    obtain ⟨l0, hl0, ho0, hB0, hA0⟩ := unhide HAll w3 (Below.refl _ _)
    have HD : Hid (((E1 == E2) && decide (B1 = B2)) = false) := by show _ = _; rw [d1, Bool.false_and]
    have Hl0 := hide hl0
    have Ho0 := hide ho0
    have HB0 := hide hB0
    have HA0 := hide hA0
    clear hl0 ho0 hB0 hA0 HAll Hsame HEE hee
  all_goals
    go_wp2
    go_loopw [77] (fun ii wr => ∃ (i : Nat) (l : Bs), i ≤ N1 ∧ ii = .int .i64 (i : Int) ∧ Hid (l.length = N1) ∧ Hid (OwnA wr w1.heap.size (.slice sv N1 cv) l) ∧ Hid (Both PAt B wr (.pointer (some pa)) (.pointer (some ⟨RR, 0, none⟩)) S R Q s t) ∧ Hid (Aside (fun k => S k ∨ Q k) w wr)) (fun ii _ => N1 - (intOf ii).toNat)
    case atStart => exact ⟨0, l0, by omega, rfl, Hl0, Ho0, HB0, HA0⟩
    case round =>
      obtain ⟨i, l, hi, rfl, Hl, Hr, Hb, Ha⟩ := hrel
      by_cases hlt : i < N1
      · have f1 : decide ((i : Int) < (N1 : Int)) = true := by simp; omega
        have f1n : decide (i < N1) = true := by simp; omega
        have j0 : (0 : Int) ≤ (i : Int) := by omega
        have j1 : (i : Int) < (N1 : Int) := by omega
        have hil : i < l.length := by have := unhide Hl; omega
        obtain ⟨g, cg, eg, hge, _, hc⟩ := (unhide Hr).at (by intro e; rw [e] at hil; simp at hil)
        simp only [Value.slice.injEq] at eg
        obtain ⟨rfl, hg1, rfl⟩ := eg
        clear hg1
        obtain ⟨c1, z1⟩ := hc i hil
        obtain ⟨y, hy⟩ : ∃ y : UInt8, bits .xor .u8 ((l.getD i 0).toNat : Int) 255 = (y.toNat : Int) := xor_u8 _
        have HO5 := hide ((unhide Hr).poke i hil y)
        have ha5 : Aside (fun k => k = g) wr (wr.setCell ⟨g, i, none⟩ (.int .u8 (y.toNat : Int))) := (Aside.refl _ _).setCell _ _ (Or.inr rfl)
        have HB5 := hide ((unhide Hb).kept HP ha5 fun k hk => ⟨fun h => unhide HOn g hge k (Or.inl h) hk, fun h => unhide HOn g hge k (Or.inr (Or.inl h)) hk, fun h => unhide HOn g hge k (Or.inr (Or.inr h)) hk⟩)
        have HA5 := hide ((unhide Ha).setCell ⟨g, i, none⟩ (.int .u8 (y.toNat : Int)) (Or.inl (unhide HOge g hge)))
        have Hl5 : Hid ((l.set i y).length = N1) := by show _ = _; rw [List.length_set]; exact unhide Hl
        obtain ⟨w5, hw5⟩ : ∃ x, wr.setCell ⟨g, i, none⟩ (.int .u8 (y.toNat : Int)) = x := ⟨_, rfl⟩
        rw [hw5] at HO5 HB5 HA5
        obtain ⟨lb, hlb⟩ : ∃ x, (l.getD i 0).toNat = x := ⟨_, rfl⟩
        rw [hlb] at c1 hy
        clear ha5 hc hlb Hr Hb Ha hil Hl hge
        go_wp2
        refine ⟨⟨i + 1, _, by omega, ?_, Hl5, HO5, HB5, HA5⟩, ?_⟩
        · simp
        · simp [intOf]; omega
      · obtain rfl : i = N1 := by omega
        have f1 : decide ((i : Int) < (i : Int)) = false := by simp
        clear Hr Hl
        go_wp2
        go_ret
        exact ⟨by rw [unhide HD]; rfl, S, R, Q, unhide Hb, fun k hk => Or.inl hk, fun k hk => Or.inl hk, unhide Ha⟩
set_option maxRecDepth 100000 in
set_option maxHeartbeats 8000000 in
include HP in
theorem step_3 {B : Nat} {w : World} {p r : Value} {S R Q : Set_} {s t : PS} (h : Both PAt B w p r S R Q s t) (o : OpP) (x : Value) (ho : o.Ok) (hk : o.kind = 3) (hs : s.loose.length ≤ 1000) (ht : t.loose.length ≤ 1000) :
    Calls Try.prog 12 #[p, r, .agg (ocells o x).toArray] w fun e w' => e = .returned (.bool (okStep s t o)) ∧ StepTo PAt B w w' p r S R Q (stepS s o) (stepS t o) := by
  obtain ⟨kd, a, z, c, kp⟩ := o
  obtain ⟨hz0, hz1, ha0, ha1⟩ := ho
  simp only at hk hz0 hz1 ha0 ha1
  subst hk
  have e1 : ∀ s : PS, stepS s ⟨3, a, z, c, kp⟩ = syncS s := fun s => by unfold stepS; simp
  have e2 : okStep s t ⟨3, a, z, c, kp⟩ = (syncE s == syncE t) := by unfold okStep; simp
  rw [e1, e1, e2]
  obtain ⟨pa, rfl⟩ := HP.ptr h.p
  obtain ⟨C, hC⟩ : ∃ x, c.toNat = x := ⟨_, rfl⟩
  have hb1 : Below w.heap.size w (w.alloc (.cells #[.int .i64 3, .int .i64 a, .int .i64 z, .int .u8 (C : Int), x] 32)) := (Below.refl _ _).alloc (Nat.le_refl _) _
  have hr1 := heap_alloc_new w (.cells [.int .i64 3, .int .i64 a, .int .i64 z, .int .u8 (C : Int), x].toArray 32)
  obtain ⟨X, hX⟩ : ∃ y, w.heap.size = y := ⟨_, rfl⟩
  obtain ⟨w1, hw1⟩ : ∃ y, w.alloc (.cells #[.int .i64 3, .int .i64 a, .int .i64 z, .int .u8 (C : Int), x] 32) = y := ⟨_, rfl⟩
  rw [show w.alloc (.cells [.int .i64 3, .int .i64 a, .int .i64 z, .int .u8 (C : Int), x].toArray 32) = w1 from hw1] at hr1
  rw [hw1] at hb1
  rw [hX] at hr1
  obtain ⟨k0, k1, k2, k3, k4⟩ := five_row hr1
  have HB := hide (h.below HP hb1)
  have HW1 := hide hb1
  have HX := hide hX
  have HR1 := hide hr1
  have HO := hide (h.old HP)
  have HXk : Hid (∀ k, S k ∨ R k ∨ Q k → k ≠ X) := fun k hk => by have := h.old HP k hk; omega
  have HXlt : Hid (X < w1.heap.size) := (Array.getElem?_eq_some_iff.1 hr1).1
  unfold ocells
  simp only
  rw [hC]
  obtain ⟨RR, _, _, _, _, _, rfl, _, _⟩ := h.r
  clear h hb1 hr1 hC e1 e2
  have Hp := hide (HP.sync (unhide HB).p (by omega))
  obtain ⟨E1, hE1⟩ : ∃ y, syncE s = y := ⟨_, rfl⟩
  obtain ⟨E2, hE2⟩ : ∃ y, syncE t = y := ⟨_, rfl⟩
  rw [hE1] at Hp
  have HE1 := hide hE1
  have HE2 := hide hE2
  clear hE1
  go_enter Try.func12, Try.ntmps12
  go_wp2_with fail
  refine (unhide Hp).mono ?_
  rintro e w3 ⟨rfl, S', R', hp3, hS3, hR3, ha3⟩
  have HB3 := hide ((unhide HB).setP hp3 hS3 hR3 ha3)
  have HS3 := hide hS3
  have HRr3 := hide hR3
  have HA3 := hide ha3
  clear hp3 hS3 hR3 ha3 Hp k0 k1 k2 k3 k4
  have Hr := hide (rsync_c Q w3 _ t (unhide HB3).r (by omega))
  rw [hE2] at Hr
  clear hE2
  go_wp2_with fail
  refine (unhide Hr).mono ?_
  rintro e w4 ⟨rfl, Q', hp4, hQ4, ha4⟩
  have HF := hide (ends_two HP (unhide HW1) (unhide HS3) (unhide HRr3) (unhide HA3) (unhide HB3) hp4 (fun k hk => Or.inl (hQ4 k hk)) ha4)
  clear hp4 hQ4 ha4 Hr
  go_wp2
  go_ret
  exact ⟨by rw [unhide HE1, unhide HE2]; rfl, unhide HF⟩
set_option maxRecDepth 100000 in
set_option maxHeartbeats 8000000 in
include HP in
theorem step_4 {B : Nat} {w : World} {p r : Value} {S R Q : Set_} {s t : PS} (h : Both PAt B w p r S R Q s t) (o : OpP) (x : Value) (ho : o.Ok) (hk : o.kind = 4) :
    Calls Try.prog 12 #[p, r, .agg (ocells o x).toArray] w fun e w' => e = .returned (.bool (okStep s t o)) ∧ StepTo PAt B w w' p r S R Q (stepS s o) (stepS t o) := by
  obtain ⟨kd, a, z, c, kp⟩ := o
  obtain ⟨hz0, hz1, ha0, ha1⟩ := ho
  simp only at hk hz0 hz1 ha0 ha1
  subst hk
  have e1 : ∀ s : PS, stepS s ⟨4, a, z, c, kp⟩ = armS s a := fun s => by unfold stepS; simp
  have e2 : okStep s t ⟨4, a, z, c, kp⟩ = true := by unfold okStep; simp
  rw [e1, e1, e2]
  obtain ⟨pa, rfl⟩ := HP.ptr h.p
  obtain ⟨C, hC⟩ : ∃ x, c.toNat = x := ⟨_, rfl⟩
  have hb1 : Below w.heap.size w (w.alloc (.cells #[.int .i64 4, .int .i64 a, .int .i64 z, .int .u8 (C : Int), x] 32)) := (Below.refl _ _).alloc (Nat.le_refl _) _
  have hr1 := heap_alloc_new w (.cells [.int .i64 4, .int .i64 a, .int .i64 z, .int .u8 (C : Int), x].toArray 32)
  obtain ⟨X, hX⟩ : ∃ y, w.heap.size = y := ⟨_, rfl⟩
  obtain ⟨w1, hw1⟩ : ∃ y, w.alloc (.cells #[.int .i64 4, .int .i64 a, .int .i64 z, .int .u8 (C : Int), x] 32) = y := ⟨_, rfl⟩
  rw [show w.alloc (.cells [.int .i64 4, .int .i64 a, .int .i64 z, .int .u8 (C : Int), x].toArray 32) = w1 from hw1] at hr1
  rw [hw1] at hb1
  rw [hX] at hr1
  obtain ⟨k0, k1, k2, k3, k4⟩ := five_row hr1
  have HB := hide (h.below HP hb1)
  have HW1 := hide hb1
  have HX := hide hX
  have HR1 := hide hr1
  have HO := hide (h.old HP)
  have HXk : Hid (∀ k, S k ∨ R k ∨ Q k → k ≠ X) := fun k hk => by have := h.old HP k hk; omega
  have HXlt : Hid (X < w1.heap.size) := (Array.getElem?_eq_some_iff.1 hr1).1
  unfold ocells
  simp only
  rw [hC]
  clear hb1 hr1 hC e1 e2
  have Hp := hide (HP.arm a (unhide HB).p ha0 ha1)
  obtain ⟨RR, _, _, _, _, _, er, _, _⟩ := h.r
  subst er
  clear h
  go_enter Try.func12, Try.ntmps12
  go_wp2_with fail
  refine (unhide Hp).mono ?_
  rintro e w3 ⟨rfl, S', R', hp3, hS3, hR3, ha3⟩
  have hr3 : w3.heap[X]? = _ := (ha3.block X (unhide HXlt) (fun hS => unhide HXk X (Or.inl hS) rfl)).trans (unhide HR1)
  have HB3 := hide ((unhide HB).setP hp3 hS3 hR3 ha3)
  have HS3 := hide hS3
  have HRr3 := hide hR3
  have HA3 := hide ha3
  clear hp3 hS3 hR3 ha3 Hp k0 k1 k2 k3 k4
  obtain ⟨_, k1, _, _, _⟩ := five_row hr3
  obtain ⟨R0, A0, D0, vs0, lv0, ls0, er, hf0, hq0⟩ := (unhide HB3).r
  simp only [Value.pointer.injEq, Option.some.injEq, Addr.mk.injEq, and_true] at er
  subst er
  obtain ⟨_, _, _, q3, _⟩ := five_row hf0.str
  have z3 := row_frozen hf0.str 3
  obtain ⟨m, hm⟩ : ∃ m, max a (-1) = m := ⟨_, rfl⟩
  have HM := hide hm
  have hs4 := row_put hf0.str 3 (by simp) (.int .i64 m)
  have hg4 := setCell_grown (w := w3) RR 3 (.int .i64 m)
  have hF4 := hf0.head hg4 m t.down (by rw [← hm]; exact hf0.ok.arm ha1) hs4
  have hr4 : RAt Q (w3.setCell ⟨RR, 3, none⟩ (.int .i64 m)) (.pointer (some ⟨RR, 0, none⟩)) (armS t a) := by
    unfold armS
    rw [hm]
    exact ⟨RR, A0, D0, vs0, lv0, ls0, rfl, hF4, hq0⟩
  have ha4 : Aside Q w3 (w3.setCell ⟨RR, 3, none⟩ (.int .i64 m)) := Aside.of_grown hg4 fun k hk => (hq0 k).2 (Or.inl (Option.some.inj hk).symm)
  have HF := hide (ends_two HP (unhide HW1) (unhide HS3) (unhide HRr3) (unhide HA3) (unhide HB3) hr4 (fun k hk => Or.inl hk) ha4)
  obtain ⟨w4, hw4⟩ : ∃ y, w3.setCell ⟨RR, 3, none⟩ (.int .i64 m) = y := ⟨_, rfl⟩
  rw [hw4] at HF
  clear hs4 hg4 hF4 hr4 ha4 hf0 hq0 hr3 hm
  by_cases hma : a < -1
  · have d1 : decide (a < -1) = true := decide_eq_true hma
    obtain rfl : -1 = m := by have := unhide HM; omega
    go_wp2
    go_ret
    exact ⟨rfl, unhide HF⟩
  · have d1 : decide (a < -1) = false := decide_eq_false hma
    obtain rfl : a = m := by have := unhide HM; omega
    go_wp2
    go_ret
    exact ⟨rfl, unhide HF⟩
set_option maxRecDepth 100000 in
set_option maxHeartbeats 8000000 in
include HP in
theorem step_5 {B : Nat} {w : World} {p r : Value} {S R Q : Set_} {s t : PS} (h : Both PAt B w p r S R Q s t) (o : OpP) (x : Value) (ho : o.Ok) (hk : o.kind = 5) (hx : ValsAt w x (o.keep.map .bool)) (hxB : o.keep ≠ [] → ∀ k, x.ownBlock = some k → k < B) (hs : s.loose.length ≤ 1000) (ht : t.loose.length ≤ 1000) :
    Calls Try.prog 12 #[p, r, .agg (ocells o x).toArray] w fun e w' => e = .returned (.bool (okStep s t o)) ∧ StepTo PAt B w w' p r S R Q (stepS s o) (stepS t o) := by
  obtain ⟨kd, a, z, c, kp⟩ := o
  obtain ⟨hz0, hz1, ha0, ha1⟩ := ho
  simp only at hk hz0 hz1 ha0 ha1
  subst hk
  have e1 : ∀ s : PS, stepS s ⟨5, a, z, c, kp⟩ = reviveS s kp := fun s => by unfold stepS; simp
  have e2 : okStep s t ⟨5, a, z, c, kp⟩ = true := by unfold okStep; simp
  rw [e1, e1, e2]
  obtain ⟨pa, rfl⟩ := HP.ptr h.p
  obtain ⟨C, hC⟩ : ∃ x, c.toNat = x := ⟨_, rfl⟩
  have hb1 : Below w.heap.size w (w.alloc (.cells #[.int .i64 5, .int .i64 a, .int .i64 z, .int .u8 (C : Int), x] 32)) := (Below.refl _ _).alloc (Nat.le_refl _) _
  have hr1 := heap_alloc_new w (.cells [.int .i64 5, .int .i64 a, .int .i64 z, .int .u8 (C : Int), x].toArray 32)
  obtain ⟨X, hX⟩ : ∃ y, w.heap.size = y := ⟨_, rfl⟩
  obtain ⟨w1, hw1⟩ : ∃ y, w.alloc (.cells #[.int .i64 5, .int .i64 a, .int .i64 z, .int .u8 (C : Int), x] 32) = y := ⟨_, rfl⟩
  rw [show w.alloc (.cells [.int .i64 5, .int .i64 a, .int .i64 z, .int .u8 (C : Int), x].toArray 32) = w1 from hw1] at hr1
  rw [hw1] at hb1
  rw [hX] at hr1
  obtain ⟨k0, k1, k2, k3, k4⟩ := five_row hr1
  have HB := hide (h.below HP hb1)
  have HW1 := hide hb1
  have HX := hide hX
  have HR1 := hide hr1
  have HO := hide (h.old HP)
  have HXk : Hid (∀ k, S k ∨ R k ∨ Q k → k ≠ X) := fun k hk => by have := h.old HP k hk; omega
  have HXlt : Hid (X < w1.heap.size) := (Array.getElem?_eq_some_iff.1 hr1).1
  unfold ocells
  simp only
  rw [hC]
  obtain ⟨RR, _, _, _, _, _, er, _, _⟩ := h.r
  subst er
  have hx1 := hx.below (unhide HW1)
  have HGe := hide h.ge
  simp only at hx1
  have HX1 := hide hx1
  have HXB := hide hxB
  have Hp := hide (HP.revive x kp (unhide HB).p hx1 (fun hne k hk hS => by have := h.ge k (Or.inl hS); have := hxB hne k hk; omega) (by omega))
  obtain ⟨sx, cx, ex⟩ := hx1.form
  obtain ⟨nx, hnx⟩ : ∃ y, (kp.map Value.bool).length = y := ⟨_, rfl⟩
  rw [hnx] at ex
  subst ex
  clear h hb1 hr1 hC e1 e2 hx hx1 hxB hnx
  go_enter Try.func12, Try.ntmps12
  go_wp2_with fail
  refine (unhide Hp).mono ?_
  rintro e w3 ⟨rfl, S', R', hp3, hS3, hR3, ha3⟩
  have hr3 : w3.heap[X]? = _ := (ha3.block X (unhide HXlt) (fun hS => unhide HXk X (Or.inl hS) rfl)).trans (unhide HR1)
  have HX3 := hide ((unhide HX1).beside ha3 (fun hne k hk hS => by have := unhide HGe k (Or.inl hS); have := unhide HXB (fun e => hne (by rw [show kp = [] from e]; rfl)) k hk; omega))
  have HB3 := hide ((unhide HB).setP hp3 hS3 hR3 ha3)
  have HS3 := hide hS3
  have HRr3 := hide hR3
  have HA3 := hide ha3
  clear hp3 hS3 hR3 ha3 Hp k0 k1 k2 k3 k4
  obtain ⟨_, _, _, _, k4⟩ := five_row hr3
  have Hr := hide (rrevive_c Q w3 _ t _ kp (unhide HB3).r (unhide HX3) (fun hne k hk hS => by have := unhide HGe k (Or.inr (Or.inr hS)); have := unhide HXB hne k hk; omega) (by omega))
  clear hr3
  go_wp2_with fail
  refine (unhide Hr).mono ?_
  rintro e w4 ⟨rfl, Q', hp4, hQ4, ha4⟩
  have HF := hide (ends_two HP (unhide HW1) (unhide HS3) (unhide HRr3) (unhide HA3) (unhide HB3) hp4 (fun k hk => Or.inl (hQ4 k hk)) ha4)
  clear hp4 hQ4 ha4 Hr k4
  go_wp2
  go_ret
  exact ⟨rfl, unhide HF⟩
set_option maxRecDepth 100000 in
set_option maxHeartbeats 8000000 in
include HP in
theorem step_0 {B : Nat} {w : World} {p r : Value} {S R Q : Set_} {s t : PS} (h : Both PAt B w p r S R Q s t) (o : OpP) (x : Value) (ho : o.Ok) (hk : ¬ o.kind = 1 ∧ ¬ o.kind = 2 ∧ ¬ o.kind = 3 ∧ ¬ o.kind = 4 ∧ ¬ o.kind = 5) :
    Calls Try.prog 12 #[p, r, .agg (ocells o x).toArray] w fun e w' => e = .returned (.bool (okStep s t o)) ∧ StepTo PAt B w w' p r S R Q (stepS s o) (stepS t o) := by
  obtain ⟨kd, a, z, c, kp⟩ := o
  obtain ⟨hz0, hz1, ha0, ha1⟩ := ho
  simp only at hk hz0 hz1 ha0 ha1
  have e1 : ∀ s : PS, stepS s ⟨kd, a, z, c, kp⟩ = s := fun s => by unfold stepS; rw [if_neg hk.1, if_neg hk.2.2.1, if_neg hk.2.2.2.1, if_neg hk.2.2.2.2]
  have e2 : okStep s t ⟨kd, a, z, c, kp⟩ = true := by unfold okStep; rw [if_neg hk.1, if_neg hk.2.1, if_neg hk.2.2.1]
  rw [e1, e1, e2]
  obtain ⟨pa, rfl⟩ := HP.ptr h.p
  obtain ⟨C, hC⟩ : ∃ x, c.toNat = x := ⟨_, rfl⟩
  have hb1 : Below w.heap.size w (w.alloc (.cells #[.int .i64 kd, .int .i64 a, .int .i64 z, .int .u8 (C : Int), x] 32)) := (Below.refl _ _).alloc (Nat.le_refl _) _
  have hr1 := heap_alloc_new w (.cells [.int .i64 kd, .int .i64 a, .int .i64 z, .int .u8 (C : Int), x].toArray 32)
  obtain ⟨X, hX⟩ : ∃ y, w.heap.size = y := ⟨_, rfl⟩
  obtain ⟨w1, hw1⟩ : ∃ y, w.alloc (.cells #[.int .i64 kd, .int .i64 a, .int .i64 z, .int .u8 (C : Int), x] 32) = y := ⟨_, rfl⟩
  rw [show w.alloc (.cells [.int .i64 kd, .int .i64 a, .int .i64 z, .int .u8 (C : Int), x].toArray 32) = w1 from hw1] at hr1
  rw [hw1] at hb1
  rw [hX] at hr1
  obtain ⟨k0, k1, k2, k3, k4⟩ := five_row hr1
  have HB := hide (h.below HP hb1)
  have HW1 := hide hb1
  have HX := hide hX
  have HR1 := hide hr1
  have HO := hide (h.old HP)
  have HXk : Hid (∀ k, S k ∨ R k ∨ Q k → k ≠ X) := fun k hk => by have := h.old HP k hk; omega
  have HXlt : Hid (X < w1.heap.size) := (Array.getElem?_eq_some_iff.1 hr1).1
  unfold ocells
  simp only
  rw [hC]
  obtain ⟨RR, _, _, _, _, _, er, _, _⟩ := h.r
  subst er
  have d1 : (kd == 1) = false := by simpa using hk.1
  have d2 : (kd == 2) = false := by simpa using hk.2.1
  have d3 : (kd == 3) = false := by simpa using hk.2.2.1
  have d4 : (kd == 4) = false := by simpa using hk.2.2.2.1
  have d5 : (kd == 5) = false := by simpa using hk.2.2.2.2
  clear h hb1 hr1 hC e1 e2 hk
  go_enter Try.func12, Try.ntmps12
  go_wp2
  go_ret
  exact ⟨rfl, S, R, Q, unhide HB, fun k hk => Or.inl hk, fun k hk => Or.inl hk, Aside.of_below (unhide HW1)⟩
include HP in
theorem step_c {B : Nat} {w : World} {p r : Value} {S R Q : Set_} {s t : PS} (h : Both PAt B w p r S R Q s t) (o : OpP) (x : Value) (ho : o.Ok) (hx : ValsAt w x (o.keep.map .bool)) (hxB : o.keep ≠ [] → ∀ k, x.ownBlock = some k → k < B) (hs : s.loose.length ≤ 1000) (ht : t.loose.length ≤ 1000) :
    Calls Try.prog 12 #[p, r, .agg (ocells o x).toArray] w fun e w' => e = .returned (.bool (okStep s t o)) ∧ StepTo PAt B w w' p r S R Q (stepS s o) (stepS t o) := by
  by_cases h1 : o.kind = 1
  · exact step_1 HP h o x ho h1 hs ht
  by_cases h2 : o.kind = 2
  · exact step_2 HP h o x ho h2 hs ht
  by_cases h3 : o.kind = 3
  · exact step_3 HP h o x ho h3 hs ht
  by_cases h4 : o.kind = 4
  · exact step_4 HP h o x ho h4
  by_cases h5 : o.kind = 5
  · exact step_5 HP h o x ho h5 hx hxB hs ht
  exact step_0 HP h o x ho ⟨h1, h2, h3, h4, h5⟩
end
end Go.Proofs.Ytlmikagmcaicoaa
