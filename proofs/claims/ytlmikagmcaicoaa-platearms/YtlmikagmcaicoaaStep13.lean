/-
  The statements' step, walked out of the record Plate.
-/
import Derived.Test.YtlmikagmcaicoaaLa13
namespace Go.Proofs.Ytlmikagmcaicoaa
open Go.RowKit
structure OpP where
  kind : Int
  at_ : Int
  size : Int
  fill : UInt8
  keep : List Bool
def stepS (s : PS) (o : OpP) : PS := if o.kind = 1 then writeS s o.at_ (List.replicate o.size.toNat o.fill) else if o.kind = 3 then syncS s else if o.kind = 4 then armS s o.at_ else if o.kind = 5 then reviveS s o.keep else s
/-- Whether a step's answers are alike. -/
def okStep (s t : PS) (o : OpP) : Bool := if o.kind = 1 then writeE s o.at_ (List.replicate o.size.toNat o.fill) == writeE t o.at_ (List.replicate o.size.toNat o.fill) else if o.kind = 2 then (readE s o.at_ == readE t o.at_) && decide (readB s o.at_ = readB t o.at_) else if o.kind = 3 then syncE s == syncE t else true
theorem ok_same (s : PS) (o : OpP) : okStep s s o = true := by
  unfold okStep
  split
  · simp
  · split
    · simp
    · split
      · simp
      · rfl
/-- A step that a play goes through with. -/
structure OpP.Ok (o : OpP) : Prop where
  s0 : 0 ≤ o.size
  s1 : o.size ≤ 200
  a0 : -9223372036854775808 ≤ o.at_
  a1 : o.at_ ≤ 9223372036854775807
def ocells (o : OpP) (x : Value) : List Value := [.int .i64 o.kind, .int .i64 o.at_, .int .i64 o.size, .int .u8 (o.fill.toNat : Int), x]
theorem write_loose (s : PS) (a : Int) (b : Bs) : (writeS s a b).loose.length ≤ s.loose.length + 1 := by
  unfold writeS
  split
  · omega
  · split
    · omega
    · split
      · show s.loose.length ≤ _; omega
      · show (s.loose ++ _).length ≤ _; rw [List.length_append]; simp
theorem step_loose (s : PS) (o : OpP) : (stepS s o).loose.length ≤ s.loose.length + 1 := by
  unfold stepS
  split
  · exact write_loose _ _ _
  · split
    · unfold syncS
      split
      · omega
      · split
        · show s.loose.length ≤ _; omega
        · show ([] : List (Nat × Bs)).length ≤ _; simp
    · split
      · show s.loose.length ≤ _; omega
      · split
        · show ([] : List (Nat × Bs)).length ≤ _; simp
        · omega
/-- What a step leaves. -/
def StepTo (PAt : Set_ → Set_ → World → Value → PS → Prop) (B : Nat) (w w' : World) (p r : Value) (S R Q : Set_) (s t : PS) : Prop := ∃ S' R' Q', Both PAt B w' p r S' R' Q' s t ∧ (∀ k, S' k ∨ Q' k → (S k ∨ Q k) ∨ w.heap.size ≤ k) ∧ (∀ k, R' k → R k ∨ w.heap.size ≤ k) ∧ Aside (fun k => S k ∨ Q k) w w'
theorem xor_u8 (x : UInt8) : ∃ y : UInt8, bits .xor .u8 (x.toNat : Int) 255 = (y.toNat : Int) := by
  have hx : x.toNat ^^^ 255 < 256 := Nat.xor_lt_two_pow (n := 8) (by have := x.toNat_lt; omega) (by omega)
  refine ⟨UInt8.ofNat (x.toNat ^^^ 255), ?_⟩
  have h := u8_xor_nat x.toNat 255 (by have := x.toNat_lt; omega) (by omega)
  rw [UInt8.toNat_ofNat', Nat.mod_eq_of_lt hx]
  exact h
section
variable {PAt : Set_ → Set_ → World → Value → PS → Prop} (HP : Plate PAt)
theorem five_blk {w : World} {a b c d e : Value} {T : TypeId} : (w.alloc (.cells #[a, b, c, d, e] T)).heap[w.heap.size]? = some (.cells [a, b, c, d, e].toArray T (0, 0)) := heap_alloc_new w _
set_option maxRecDepth 100000 in
set_option maxHeartbeats 8000000 in
include HP in
theorem step_1 {B : Nat} {w : World} {p r : Value} {S R Q : Set_} {s t : PS} (h : Both PAt B w p r S R Q s t) (o : OpP) (x : Value) (ho : o.Ok) (hk : o.kind = 1) (hs : s.loose.length ≤ 1000) (ht : t.loose.length ≤ 1000) :
    Calls Try.prog 12 #[p, r, .agg (ocells o x).toArray] w fun e w' => e = .returned (.bool (okStep s t o)) ∧ StepTo PAt B w w' p r S R Q (stepS s o) (stepS t o) := by
  obtain ⟨k, a, z, c, kp⟩ := o
  obtain ⟨hz0, hz1, ha0, ha1⟩ := ho
  simp only at hk hz0 hz1 ha0 ha1
  subst hk
  obtain ⟨n, hn⟩ : ∃ n : Nat, z = (n : Int) := ⟨z.toNat, by omega⟩
  subst hn
  have e1 : ∀ s : PS, stepS s ⟨1, a, n, c, kp⟩ = writeS s a (List.replicate n c) := fun s => by unfold stepS; rw [if_pos rfl]; rfl
  have e2 : okStep s t ⟨1, a, n, c, kp⟩ = (writeE s a (List.replicate n c) == writeE t a (List.replicate n c)) := by unfold okStep; rw [if_pos rfl]; rfl
  rw [e1, e1, e2]
  obtain ⟨pa, rfl⟩ := HP.ptr h.p
  obtain ⟨RR, _, _, _, _, _, rfl, _, _⟩ := h.r
  obtain ⟨C, hC⟩ : ∃ x, c.toNat = x := ⟨_, rfl⟩
  have hb1 : Below w.heap.size w (w.alloc (.cells #[.int .i64 1, .int .i64 a, .int .i64 (n : Int), .int .u8 (C : Int), x] 32)) := (Below.refl _ _).alloc (Nat.le_refl _) _
  have hr1 := five_blk (w := w) (a := .int .i64 1) (b := .int .i64 a) (c := .int .i64 (n : Int)) (d := .int .u8 (C : Int)) (e := x) (T := 32)
  obtain ⟨X, hX⟩ : ∃ y, w.heap.size = y := ⟨_, rfl⟩
  obtain ⟨w1, hw1⟩ : ∃ y, w.alloc (.cells #[.int .i64 1, .int .i64 a, .int .i64 (n : Int), .int .u8 (C : Int), x] 32) = y := ⟨_, rfl⟩
  rw [hw1] at hb1 hr1
  rw [hX] at hr1
  obtain ⟨k0, k1, k2, k3, k4⟩ := five_row hr1
  have HB := hide (h.below HP hb1)
  have HW1 := hide hb1
  have HX := hide hX
  have HC := hide hC
  have HR1 := hide hr1
  have Hf := hide (fill_c w1 c n (by omega))
  rw [hC] at Hf
  have HO := hide (h.old HP)
  unfold ocells
  simp only
  rw [hC]
  have hxk : ∀ k, S k ∨ R k ∨ Q k → k ≠ X := fun k hk => by have := h.old HP k hk; omega
  have HXk := hide hxk
  have hXlt : X < w1.heap.size := (Array.getElem?_eq_some_iff.1 hr1).1
  have HXlt := hide hXlt
  clear h hb1 hr1 hC e1 e2 hxk hXlt
  go_enter Try.func12, Try.ntmps12
  go_wp2_with fail
  refine (unhide Hf).mono ?_
  rintro e w2 ⟨O, rfl, hO, hb2⟩
  have hOw := (World.ownsRow.lt hO O rfl)
  have hr2 : w2.heap[X]? = _ := (hb2.block X (unhide HXlt)).trans (unhide HR1)
  have hB2 := (unhide HB).below HP hb2
  have HO2 := hide hO
  have HOw := hide hOw
  have HR2 := hide hr2
  have HB2 := hide hB2
  have HS2 := hide hb2
  clear hO hb2 hr2 hB2 hOw Hf k0 k1 k2 k3 k4
  obtain ⟨_, k1, _, _, _⟩ := five_row (unhide HR2)
  have Hp := hide (HP.write a _ _ (unhide HB2).p (unhide HO2).bytes (fun _ k hk hS => by
    have h1 := unhide HO k (Or.inl hS)
    have h2 := (unhide HOw).1
    have h3 := unhide HXlt
    have h4 := unhide HX
    simp only [Value.ownBlock, Option.some.injEq] at hk
    omega) (by rw [List.length_replicate]; omega) (by omega) ha0 ha1)
  obtain ⟨E1, hE1⟩ : ∃ y, writeE s a (List.replicate n c) = y := ⟨_, rfl⟩
  obtain ⟨E2, hE2⟩ : ∃ y, writeE t a (List.replicate n c) = y := ⟨_, rfl⟩
  rw [hE1] at Hp
  have HE1 := hide hE1
  have HE2 := hide hE2
  go_wp2_with fail
  refine (unhide Hp).mono ?_
  rintro e w3 ⟨rfl, S', R', hp3, hS3, hR3, ha3⟩
  have hr3 : w3.heap[X]? = _ := (ha3.block X (Nat.lt_of_lt_of_le (unhide HXlt) (unhide HS2).size) (fun hS => unhide HXk X (Or.inl hS) rfl)).trans (unhide HR2)
  have hO3 := OwnV.aside (unhide HO2) ha3 (fun k hk hS => by
    have h1 := unhide HO k (Or.inl hS)
    have h2 := (unhide HOw).1
    have h3 := unhide HXlt
    have h4 := unhide HX
    simp only [Value.ownBlock, Option.some.injEq] at hk
    omega)
  have HB3 := hide ((unhide HB2).setP hp3 hS3 hR3 ha3)
  have HR3 := hide hr3
  have HO3 : Hid (OwnB w3 w1.heap.size (.slice (some ⟨O, 0, none⟩) n n) (List.replicate n c)) := hO3
  have HS3 := hide hS3
  have HRr3 := hide hR3
  have HA3 := hide ha3
  clear hp3 hS3 hR3 ha3 hr3 hO3 Hp k1
  obtain ⟨_, k1, _, _, _⟩ := five_row (unhide HR3)
  have Hr := hide (rwrite_c Q w3 _ t a _ _ (unhide HB3).r (unhide HO3).bytes (fun _ k hk hS => by
    have h1 := unhide HO k (Or.inr (Or.inr hS))
    have h2 := (unhide HOw).1
    have h3 := unhide HXlt
    have h4 := unhide HX
    simp only [Value.ownBlock, Option.some.injEq] at hk
    omega) (by omega))
  rw [hE2] at Hr
  clear hE1 hE2
  go_wp2_with fail
  refine (unhide Hr).mono ?_
  rintro e w4 ⟨rfl, Q', hp4, hQ4, ha4⟩
  have hO4 := OwnV.aside (unhide HO3) ha4 (fun k hk hS => by
    have h1 := unhide HO k (Or.inr (Or.inr hS))
    have h2 := (unhide HOw).1
    have h3 := unhide HXlt
    have h4 := unhide HX
    simp only [Value.ownBlock, Option.some.injEq] at hk
    omega)
  have HO4 : Hid (OwnB w4 w1.heap.size (.slice (some ⟨O, 0, none⟩) n n) (List.replicate n c)) := hO4
  have HB4 := hide ((unhide HB3).setR HP hp4 hQ4 ha4)
  have HA4 : Hid (Aside (fun k => S k ∨ Q k) w w4) := by
    have h1 : Aside (fun k => S k ∨ Q k) w w2 := Aside.of_below ((unhide HW1).trans ((unhide HS2).mono (unhide HW1).size))
    exact (h1.trans (T := S) (unhide HA3) fun i _ h => Or.inl h).trans (T := Q) ha4 fun i _ h => Or.inr h
  have hsz : w.heap.size ≤ w2.heap.size ∧ w2.heap.size ≤ w3.heap.size := ⟨Nat.le_trans (unhide HW1).size (unhide HS2).size, (unhide HA3).size⟩
  have HT1 : Hid (∀ k, S' k ∨ Q' k → (S k ∨ Q k) ∨ w.heap.size ≤ k) := by
    rintro k (hk | hk)
    · rcases unhide HS3 k hk with h | h
      · exact Or.inl (Or.inl h)
      · right; omega
    · rcases hQ4 k hk with h | h
      · exact Or.inl (Or.inr h)
      · right; omega
  have HT2 : Hid (∀ k, R' k → R k ∨ w.heap.size ≤ k) := fun k hk => by
    rcases unhide HRr3 k hk with h | h
    · exact Or.inl h
    · right; omega
  have HOn : Hid (∀ k, S' k ∨ R' k ∨ Q' k → k ≠ O) := fun k hk => by
    have h2 := (unhide HOw).1
    have h2' := (unhide HOw).2
    have h3 := unhide HXlt
    have h4 := unhide HX
    rcases hk with hk | hk | hk
    · rcases unhide HS3 k hk with h | h
      · have := unhide HO k (Or.inl h); omega
      · omega
    · rcases unhide HRr3 k hk with h | h
      · have := unhide HO k (Or.inr (Or.inl h)); omega
      · omega
    · rcases hQ4 k hk with h | h
      · have := unhide HO k (Or.inr (Or.inr h)); omega
      · omega
  have HOge : Hid (w.heap.size ≤ O) := by
    have h2 := (unhide HOw).1
    have h3 := unhide HXlt
    have h4 := unhide HX
    show _ ≤ _
    omega
  clear hp4 hQ4 ha4 hO4 Hr k1 hsz HB HB2 HB3 HO2 HO3 HR1 HR2 HR3
  go_wp2
  go_loopw [38] (fun ii wr => ∃ (i : Nat) (l : Bs), i ≤ n ∧ ii = .int .i64 (i : Int) ∧ Hid (l.length = n) ∧ Hid (OwnB wr w1.heap.size (.slice (some ⟨O, 0, none⟩) n n) l) ∧ Hid (Both PAt B wr (.pointer (some pa)) (.pointer (some ⟨RR, 0, none⟩)) S' R' Q' (writeS s a (List.replicate n c)) (writeS t a (List.replicate n c))) ∧ Hid (Aside (fun k => S k ∨ Q k) w wr)) (fun ii _ => n - (intOf ii).toNat)
  case atStart => exact ⟨0, _, by omega, rfl, List.length_replicate, unhide HO4, unhide HB4, unhide HA4⟩
  case round =>
    obtain ⟨i, l, hi, rfl, Hl, Hr, Hb, Ha⟩ := hrel
    by_cases hlt : i < n
    · have f1 : decide ((i : Int) < (n : Int)) = true := by simp; omega
      have f1n : decide (i < n) = true := by simp; omega
      have j0 : (0 : Int) ≤ (i : Int) := by omega
      have j1 : (i : Int) < (n : Int) := by omega
      have hil : i < l.length := by have := unhide Hl; omega
      obtain ⟨g, cg, eg, _, _, hc⟩ := (unhide Hr).at (by intro e; rw [e] at hil; simp at hil)
      simp only [Value.slice.injEq, Option.some.injEq, Addr.mk.injEq, and_true] at eg
      obtain ⟨rfl, hg1, rfl⟩ := eg
      clear hg1
      obtain ⟨c1, z1⟩ := hc i hil
      obtain ⟨y, hy⟩ : ∃ y : UInt8, bits .xor .u8 ((l.getD i 0).toNat : Int) 255 = (y.toNat : Int) := xor_u8 _
      have HO5 := hide ((unhide Hr).poke i hil y)
      have ha5 : Aside (fun k => k = O) wr (wr.setCell ⟨O, i, none⟩ (.int .u8 (y.toNat : Int))) := (Aside.refl _ _).setCell _ _ (Or.inr rfl)
      have HB5 := hide ((unhide Hb).kept HP ha5 fun k hk => ⟨fun h => unhide HOn k (Or.inl h) hk, fun h => unhide HOn k (Or.inr (Or.inl h)) hk, fun h => unhide HOn k (Or.inr (Or.inr h)) hk⟩)
      have HA5 := hide ((unhide Ha).setCell ⟨O, i, none⟩ (.int .u8 (y.toNat : Int)) (Or.inl (unhide HOge)))
      have Hl5 : Hid ((l.set i y).length = n) := by show _ = _; rw [List.length_set]; exact unhide Hl
      obtain ⟨w5, hw5⟩ : ∃ x, wr.setCell ⟨O, i, none⟩ (.int .u8 (y.toNat : Int)) = x := ⟨_, rfl⟩
      rw [hw5] at HO5 HB5 HA5
      obtain ⟨lb, hlb⟩ : ∃ x, (l.getD i 0).toNat = x := ⟨_, rfl⟩
      rw [hlb] at c1 hy
      clear ha5 hc hlb Hr Hb Ha hil Hl
      go_wp2
      refine ⟨⟨i + 1, _, by omega, ?_, Hl5, HO5, HB5, HA5⟩, ?_⟩
      · simp
      · simp [intOf]; omega
    · obtain rfl : i = n := by omega
      have f1 : decide ((i : Int) < (i : Int)) = false := by simp
      clear Hr Hl
      go_wp2
      go_ret
      exact ⟨by rw [unhide HE1, unhide HE2]; rfl, S', R', Q', unhide Hb, unhide HT1, unhide HT2, unhide Ha⟩
end
end Go.Proofs.Ytlmikagmcaicoaa
