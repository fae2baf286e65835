/-
  The walk of the statement LmsKeys.
-/
import Derived.Test.YtlhjifdahagkaaaDoorM05
import Derived.Test.YtlhjifdahagkaaaDoorSmall7Z
import Derived.Test.YtlhjifdahagkaaaDoorM07
namespace Go.Proofs.YtlhjifdahagkaaaDoor
open Go.RowKit
/-- Two blocks for the two keys. -/
structure TwoKeys (w0 W : World) (A B : Nat) (L h wd : Int) (xi xs : Value) (id seed : Bs) : Prop where
  ka : KeyAt W A L h wd xi xs
  kb : KeyAt W B L h wd xi xs
  hi : BytesAt W xi id
  hs : BytesAt W xs seed
  b : Below w0.heap.size w0 W
theorem TwoKeys.call {w0 W W' : World} {A B : Nat} {L h wd : Int} {xi xs : Value} {id seed : Bs} (t : TwoKeys w0 W A B L h wd xi xs id seed) (hb : Below W.heap.size W W') : TwoKeys w0 W' A B L h wd xi xs id seed := ⟨t.ka.below hb, t.kb.below hb, t.hi.below hb, t.hs.below hb, t.b.trans (hb.mono t.b.size)⟩
theorem TwoKeys.drew {w0 W : World} {A B : Nat} {L h wd : Int} {xi xs : Value} {id seed : Bs} (t : TwoKeys w0 W A B L h wd xi xs id seed) : TwoKeys w0 W.drew A B L h wd xi xs id seed := t.call (Below.refl _ _).drew
theorem two_new {w0 w : World} {L h wd : Int} {xi xs : Value} {id seed : Bs} (hi : BytesAt w xi id) (hs : BytesAt w xs seed) (hb : Below w0.heap.size w0 w) :
    TwoKeys w0 ((w.alloc (.cells #[.int .i64 L, .int .i64 h, .int .i64 wd, xi, xs] 28)).alloc (.cells #[.int .i64 L, .int .i64 h, .int .i64 wd, xi, xs] 29)) w.heap.size (w.heap.size + 1) L h wd xi xs id seed := by
  have b1 : Below w.heap.size w (w.alloc (.cells #[.int .i64 L, .int .i64 h, .int .i64 wd, xi, xs] 28)) := (Below.refl _ _).alloc (Nat.le_refl _) _
  obtain ⟨w1, hw1⟩ : ∃ w1, w.alloc (.cells #[.int .i64 L, .int .i64 h, .int .i64 wd, xi, xs] 28) = w1 := ⟨_, rfl⟩
  have k1 := key_new w L h wd xi xs 28
  have e : w.heap.size + 1 = w1.heap.size := by rw [← hw1]; simp
  rw [hw1] at b1 k1 ⊢
  rw [e]
  have b2 : Below w1.heap.size w1 (w1.alloc (.cells #[.int .i64 L, .int .i64 h, .int .i64 wd, xi, xs] 29)) := (Below.refl _ _).alloc (Nat.le_refl _) _
  have b3 := b1.trans (b2.mono b1.size)
  exact ⟨k1.below b2, key_new w1 L h wd xi xs 29, hi.below b3, hs.below b3, hb.trans (b3.mono hb.size)⟩
/-- The call tells these bytes and this error. -/
def TellsE (w : World) (f : FuncId) (args : Array Value) (er : Int) (l : Bs) : Prop :=
  Calls Tryd.prog f args w fun e w' => ∃ v, e = .returned (.tuple #[v, .int .i64 er]) ∧ BytesAt w' v l ∧ Below w.heap.size w w'
theorem GivesE.tells {w : World} {f : FuncId} {args : Array Value} {l : Bs} (h : GivesE w f args l) : TellsE w f args 0 l := by
  refine h.mono ?_
  rintro e w' ⟨v, rfl, hr⟩
  exact ⟨v, rfl, hr.bytes, hr.b⟩
theorem FailsE.tells {w : World} {f : FuncId} {args : Array Value} {n : Int} (h : FailsE w f args n) : TellsE w f args n [] := h
theorem both_public {R : World → Prop} {H : Bs → Bs} (C : Lms R H) (L h wd : Int) (xi xs : Value) (id seed : Bs) (li : id.length ≤ 100) (ls : seed.length ≤ 100) :
    ∃ (er : Int) (l : Bs) (N : Int), l.length ≤ 1000 ∧ ∀ w, R w → BytesAt w xi id → BytesAt w xs seed → TellsE w 12 #[keyV L h wd xi xs] er l ∧ TellsE w 13 #[keyV L h wd xi xs] er l ∧
      (Calls Tryd.prog 15 #[keyV L h wd xi xs] w fun e w' => e = .returned (.int .i64 N) ∧ Below w.heap.size w w') ∧ (Calls Tryd.prog 16 #[keyV L h wd xi xs] w fun e w' => e = .returned (.int .i64 N) ∧ Below w.heap.size w w') := by
  by_cases hr : RightP L h wd id seed
  · obtain ⟨hw, h1, h2, h3, h4, h5, h6⟩ := hr
    obtain ⟨L, rfl⟩ : ∃ k : Nat, L = (k : Int) := ⟨L.toNat, by omega⟩
    obtain ⟨h, rfl⟩ : ∃ k : Nat, h = (k : Int) := ⟨h.toNat, by omega⟩
    obtain ⟨wd, rfl⟩ : ∃ k : Nat, wd = (k : Int) := ⟨wd.toNat, by omega⟩
    have hr : RightP (L : Int) (h : Int) (wd : Int) id seed := ⟨hw, h1, h2, h3, h4, h5, h6⟩
    exact ⟨0, publicOf H L h wd id seed, _, by rw [len_public H C.hash.len L h wd h5]; omega, fun w hR hi hs => ⟨(C.public_ w L h wd xi xs id seed hR hi hs hr).tells, (public_any C.hash w L h wd xi xs id seed hi hs hr).tells, C.count w L h wd xi xs id seed hR hi hs hr, count_any w L h wd xi xs id seed hi hs hr⟩⟩
  · exact ⟨11, [], 0, by simp, fun w hR hi hs => ⟨(C.noPublic w L h wd xi xs id seed hR hi hs li ls hr).tells, (public_no w L h wd xi xs id seed hi hs (by omega) (by omega) hr).tells, C.noCount w L h wd xi xs id seed hR hi hs li ls hr, count_no w L h wd xi xs id seed hi hs (by omega) (by omega) hr⟩⟩
set_option maxRecDepth 100000 in
set_option maxHeartbeats 4000000 in
theorem keys_true {R : World → Prop} {H : Bs → Bs} (C : Lms R H) (w0 : World) (hR : R w0) (L h wd : Int) (xi xs : Value) (id seed : Bs) (hi : BytesAt w0 xi id) (hs : BytesAt w0 xs seed) (li : (id.length : Int) ≤ 9223372036854775807) (ls : (seed.length : Int) ≤ 9223372036854775807) :
    Calls Tryd.prog 3 #[shapeV L h wd, xi, xs] w0 fun e w' => e = .returned (.bool true) ∧ Below w0.heap.size w0 w' := by
  have HC := hide C
  obtain ⟨spi, ci, rfl, _, _, _⟩ := bytes_open hi
  obtain ⟨sps, cs, rfl, _, _, _⟩ := bytes_open hs
  unfold shapeV
  obtain ⟨wA, hwA⟩ : ∃ wA, w0.alloc (.cells #[.int .i64 L, .int .i64 h, .int .i64 wd] 23) = wA := ⟨_, rfl⟩
  have hbA : Below w0.heap.size w0 wA := by rw [← hwA]; exact (Below.refl _ _).alloc (Nat.le_refl _) _
  have HRA := hide (C.below w0 wA hR hbA)
  have HI := hide (hi.below hbA)
  have HS := hide (hs.below hbA)
  have HBA := hide hbA
  have HSh : Hid (∀ w, Below wA.heap.size wA w → w.cell? ⟨w0.heap.size, 0, none⟩ = some (.int .i64 L) ∧ w.cell? ⟨w0.heap.size, 1, none⟩ = some (.int .i64 h) ∧ w.cell? ⟨w0.heap.size, 2, none⟩ = some (.int .i64 wd)) := fun w hb => by
    have hlt : w0.heap.size < wA.heap.size := by rw [← hwA]; simp
    refine ⟨?_, ?_, ?_⟩
    · rw [hb.cell (p := ⟨w0.heap.size, 0, none⟩) hlt, ← hwA, cell_of_row _ _ _ _ 23 (0, 0) (heap_alloc_new w0 _)]; rfl
    · rw [hb.cell (p := ⟨w0.heap.size, 1, none⟩) hlt, ← hwA, cell_of_row _ _ _ _ 23 (0, 0) (heap_alloc_new w0 _)]; rfl
    · rw [hb.cell (p := ⟨w0.heap.size, 2, none⟩) hlt, ← hwA, cell_of_row _ _ _ _ 23 (0, 0) (heap_alloc_new w0 _)]; rfl
  have Hanc := hide (anchor_any C wA (unhide HRA))
  clear C hR hi hs hbA
  go_enter Tryd.func3, Tryd.ntmps3
  go_wp2_with fail
  refine (unhide Hanc).mono ?_
  rintro e w1 ⟨rfl, hb⟩
  have HB1 := hide hb
  obtain ⟨c0, c1, c2⟩ := unhide HSh w1 hb
  clear hb Hanc
  go_wp2_with fail
  refine (small_any w1 L h wd).mono ?_
  rintro e w2 ⟨b, rfl, hb⟩
  have HB2 := hide ((unhide HB1).trans (hb.mono (unhide HB1).size))
  obtain ⟨d0, d1, d2⟩ := unhide HSh w2 (unhide HB2)
  clear hb c0 c1 c2
  cases b with
  | false =>
    go_wp2
    go_ret
    exact ⟨rfl, (unhide HBA).trans ((unhide HB2).mono (unhide HBA).size)⟩
  | true =>
    by_cases l1 : 100 < id.length
    · have e1 : decide ((100 : Int) < (id.length : Int)) = true := by simp; omega
      have e1' : decide (100 < id.length) = true := by simp; omega
      go_wp2
      go_ret
      exact ⟨rfl, (unhide HBA).trans ((unhide HB2).mono (unhide HBA).size)⟩
    have e1 : decide ((100 : Int) < (id.length : Int)) = false := by simp; omega
    have e1' : decide (100 < id.length) = false := by simp; omega
    by_cases l2 : 100 < seed.length
    · have e2 : decide ((100 : Int) < (seed.length : Int)) = true := by simp; omega
      have e2' : decide (100 < seed.length) = true := by simp; omega
      go_wp2
      go_ret
      exact ⟨rfl, (unhide HBA).trans ((unhide HB2).mono (unhide HBA).size)⟩
    have e2 : decide ((100 : Int) < (seed.length : Int)) = false := by simp; omega
    have e2' : decide (100 < seed.length) = false := by simp; omega
    have Hkey := hide (key_any w2 L h wd _ _ id seed ((unhide HI).below (unhide HB2)) ((unhide HS).below (unhide HB2)))
    unfold shapeV at Hkey
    go_wp2_with fail
    refine (unhide Hkey).mono ?_
    rintro e w3 ⟨rfl, hb⟩
    have HB3 := hide ((unhide HB2).trans (hb.mono (unhide HB2).size))
    clear hb Hkey
    have HT := hide (two_new (L := L) (h := h) (wd := wd) ((unhide HI).below (unhide HB3)) ((unhide HS).below (unhide HB3)) (unhide HB3))
    obtain ⟨er, P, N, hPl, hboth⟩ := both_public (unhide HC) L h wd (.slice spi id.length ci) (.slice sps seed.length cs) id seed (by omega) (by omega)
    have Hall : Hid (∀ w, R w → BytesAt w (.slice spi id.length ci) id → BytesAt w (.slice sps seed.length cs) seed → _) := hboth
    have HPl := hide hPl
    clear hboth hPl
    unfold keyV at *
    go_wp2_with fail
    obtain ⟨A, hA⟩ : ∃ A, w3.heap.size = A := ⟨_, rfl⟩
    obtain ⟨B, hB⟩ : ∃ B, w3.heap.size + 1 = B := ⟨_, rfl⟩
    obtain ⟨W4, hW4⟩ : ∃ W4, (w3.alloc (.cells #[.int .i64 L, .int .i64 h, .int .i64 wd, .slice spi id.length ci, .slice sps seed.length cs] 28)).alloc (.cells #[.int .i64 L, .int .i64 h, .int .i64 wd, .slice spi id.length ci, .slice sps seed.length cs] 29) = W4 := ⟨_, rfl⟩
    rw [hW4, hB, hA]
    rw [hW4, hB, hA] at HT
    clear hW4 hB hA
    have HRw : Hid (∀ w, Below wA.heap.size wA w → R w) := fun w hb => (unhide HC).below wA w (unhide HRA) hb
    refine (unhide Hall W4 (unhide HRw W4 (unhide HT).b) (unhide HT).hi (unhide HT).hs).1.mono ?_
    rintro e w5 ⟨v5, rfl, hV, hb⟩
    obtain ⟨sp5, c5, rfl, _⟩ := bytes_open hV
    have HT5 := hide ((unhide HT).call hb)
    have HV5 := hide hV
    have j0 := (unhide HT5).kb.c 0 _ rfl
    have j1 := (unhide HT5).kb.c 1 _ rfl
    have j2 := (unhide HT5).kb.c 2 _ rfl
    have j3 := (unhide HT5).kb.c 3 _ rfl
    have j4 := (unhide HT5).kb.c 4 _ rfl
    clear hb hV HT d0 d1 d2
    go_wp2_with fail
    refine (unhide Hall w5 (unhide HRw w5 (unhide HT5).b) (unhide HT5).hi (unhide HT5).hs).2.1.mono ?_
    rintro e w6 ⟨v6, rfl, hV, hb⟩
    obtain ⟨sp6, c6, rfl, _⟩ := bytes_open hV
    have HT6 := hide ((unhide HT5).call hb)
    have HV6 := hide hV.drew
    have HV56 := hide ((unhide HV5).below hb).drew
    have HT6d := hide (unhide HT6).drew
    clear hb hV HT5 HV5 j0 j1 j2 j3 j4
    have Hsame := hide (same_any w6.drew _ _ P P (unhide HV56) (unhide HV6) (by have := unhide HPl; omega))
    rw [decide_eq_true rfl] at Hsame
    have Hcnt := hide (fun w (t : TwoKeys wA w A B L h wd (.slice spi id.length ci) (.slice sps seed.length cs) id seed) => (unhide Hall w (unhide HRw w t.b) t.hi t.hs).2.2)
    have j0 := (unhide HT6).ka.c 0 _ rfl
    have j1 := (unhide HT6).ka.c 1 _ rfl
    have j2 := (unhide HT6).ka.c 2 _ rfl
    have j3 := (unhide HT6).ka.c 3 _ rfl
    have j4 := (unhide HT6).ka.c 4 _ rfl
    have k0 := (unhide HT6).kb.c 0 _ rfl
    have k1 := (unhide HT6).kb.c 1 _ rfl
    have k2 := (unhide HT6).kb.c 2 _ rfl
    have k3 := (unhide HT6).kb.c 3 _ rfl
    have k4 := (unhide HT6).kb.c 4 _ rfl
    have ee : (er == er) = true := by simp
    have eN : (N == N) = true := by simp
    go_wp2
    go_region_held3 (fun w' => w'.cell? ⟨A, 0, none⟩ = some (.int .i64 L) ∧ w'.cell? ⟨A, 1, none⟩ = some (.int .i64 h) ∧ w'.cell? ⟨A, 2, none⟩ = some (.int .i64 wd) ∧ w'.cell? ⟨A, 3, none⟩ = some (.slice spi id.length ci) ∧ w'.cell? ⟨A, 4, none⟩ = some (.slice sps seed.length cs) ∧ w'.cell? ⟨B, 0, none⟩ = some (.int .i64 L) ∧ w'.cell? ⟨B, 1, none⟩ = some (.int .i64 h) ∧ w'.cell? ⟨B, 2, none⟩ = some (.int .i64 wd) ∧ w'.cell? ⟨B, 3, none⟩ = some (.slice spi id.length ci) ∧ w'.cell? ⟨B, 4, none⟩ = some (.slice sps seed.length cs)) (go_keep)
      ((first
      | (go_at_call 14; refine (unhide Hsame).mono ?_; rintro e w7 ⟨rfl, hb⟩; have HT7 := hide ((unhide HT6d).call hb); have pa0 := (unhide HT7).ka.c 0 _ rfl; have pa1 := (unhide HT7).ka.c 1 _ rfl; have pa2 := (unhide HT7).ka.c 2 _ rfl; have pa3 := (unhide HT7).ka.c 3 _ rfl; have pa4 := (unhide HT7).ka.c 4 _ rfl; have pb0 := (unhide HT7).kb.c 0 _ rfl; have pb1 := (unhide HT7).kb.c 1 _ rfl; have pb2 := (unhide HT7).kb.c 2 _ rfl; have pb3 := (unhide HT7).kb.c 3 _ rfl; have pb4 := (unhide HT7).kb.c 4 _ rfl;  clear hb)
      | (go_at_call 15; refine (unhide Hcnt w7 (unhide HT7)).1.mono ?_; rintro e w8 ⟨rfl, hb⟩; have HT8 := hide ((unhide HT7).call hb); have qa0 := (unhide HT8).ka.c 0 _ rfl; have qa1 := (unhide HT8).ka.c 1 _ rfl; have qa2 := (unhide HT8).ka.c 2 _ rfl; have qa3 := (unhide HT8).ka.c 3 _ rfl; have qa4 := (unhide HT8).ka.c 4 _ rfl; have qb0 := (unhide HT8).kb.c 0 _ rfl; have qb1 := (unhide HT8).kb.c 1 _ rfl; have qb2 := (unhide HT8).kb.c 2 _ rfl; have qb3 := (unhide HT8).kb.c 3 _ rfl; have qb4 := (unhide HT8).kb.c 4 _ rfl;  clear hb)
      | (go_at_call 16; refine (unhide Hcnt w8 (unhide HT8)).2.mono ?_; rintro e w9 ⟨rfl, hb⟩; have HT9 := hide ((unhide HT8).call hb); have ra0 := (unhide HT9).ka.c 0 _ rfl; have ra1 := (unhide HT9).ka.c 1 _ rfl; have ra2 := (unhide HT9).ka.c 2 _ rfl; have ra3 := (unhide HT9).ka.c 3 _ rfl; have ra4 := (unhide HT9).ka.c 4 _ rfl; have rb0 := (unhide HT9).kb.c 0 _ rfl; have rb1 := (unhide HT9).kb.c 1 _ rfl; have rb2 := (unhide HT9).kb.c 2 _ rfl; have rb3 := (unhide HT9).kb.c 3 _ rfl; have rb4 := (unhide HT9).kb.c 4 _ rfl;  clear hb)))
    go_wp2
    go_ret
    exact ⟨rfl, (unhide HBA).trans ((unhide HT9).b.mono (unhide HBA).size)⟩
end Go.Proofs.YtlhjifdahagkaaaDoor
