/-
  The walks of the reference's Sign where it refuses.
-/
import Derived.Test.YtlhjifdahagkaaaDoorSign7Z
namespace Go.Proofs.YtlhjifdahagkaaaDoor
open Go.RowKit
set_option maxRecDepth 100000 in
set_option maxHeartbeats 2000000 in
theorem sign_no (w0 : World) (L h wd n : Int) (xi xs xm : Value) (id seed : Bs) (hi : BytesAt w0 xi id) (hs : BytesAt w0 xs seed) (li : id.length ≤ 1000000) (ls : seed.length ≤ 1000000) (hr : ¬ RightP L h wd id seed) :
    FailsE w0 18 #[keyV L h wd xi xs, .int .i64 n, xm] 11 := by
  have hbA : Below w0.heap.size w0 (w0.alloc (.cells #[.int .i64 L, .int .i64 h, .int .i64 wd, xi, xs] 29)) := (Below.refl _ _).alloc (Nat.le_refl _) _
  obtain ⟨wA, hwA⟩ : ∃ wA, w0.alloc (.cells #[.int .i64 L, .int .i64 h, .int .i64 wd, xi, xs] 29) = wA := ⟨_, rfl⟩
  have hK := key_new w0 L h wd xi xs 29
  rw [hwA] at hbA hK
  have Hri := hide (right_any wA L h wd xi xs id seed (hi.below hbA) (hs.below hbA) (by omega) (by omega))
  have HB := hide hbA
  have HN := hide hr
  have c0 := hK.c 0 _ rfl
  have c1 := hK.c 1 _ rfl
  have c2 := hK.c 2 _ rfl
  have c3 := hK.c 3 _ rfl
  have c4 := hK.c 4 _ rfl
  clear hi hs hr hbA hK
  unfold keyV
  go_enter Tryd.func18, Tryd.ntmps18
  go_wp2_with fail
  refine (unhide Hri).mono ?_
  rintro e w1 ⟨hor, hb⟩
  rcases hor with ⟨hR, rfl⟩ | ⟨_, rfl⟩
  · exact absurd hR (unhide HN)
  · have HB1 := hide ((unhide HB).trans (hb.mono (unhide HB).size))
    clear hb
    go_wp2
    go_ret2
    exact ⟨_, rfl, bytes_nil _, unhide HB1⟩
set_option maxRecDepth 100000 in
set_option maxHeartbeats 2000000 in
theorem sign_used (w0 : World) (L h wd : Nat) (n : Int) (xi xs xm : Value) (id seed : Bs) (hi : BytesAt w0 xi id) (hs : BytesAt w0 xs seed) (hr : RightP (L : Int) (h : Int) (wd : Int) id seed) (hn : ¬ (0 ≤ n ∧ n < ((2 ^ (h * L) : Nat) : Int))) :
    FailsE w0 18 #[keyV (L : Int) (h : Int) (wd : Int) xi xs, .int .i64 n, xm] 13 := by
  have hbA : Below w0.heap.size w0 (w0.alloc (.cells #[.int .i64 (L : Int), .int .i64 (h : Int), .int .i64 (wd : Int), xi, xs] 29)) := (Below.refl _ _).alloc (Nat.le_refl _) _
  obtain ⟨wA, hwA⟩ : ∃ wA, w0.alloc (.cells #[.int .i64 (L : Int), .int .i64 (h : Int), .int .i64 (wd : Int), xi, xs] 29) = wA := ⟨_, rfl⟩
  have hK := key_new w0 (L : Int) (h : Int) (wd : Int) xi xs 29
  rw [hwA] at hbA hK
  have Hri := hide (right_any wA (L : Int) (h : Int) (wd : Int) xi xs id seed (hi.below hbA) (hs.below hbA) (by have := hr.2.2.2.2.2.1; omega) (by have := hr.2.2.2.2.2.2; omega))
  have Hco := hide (fun w a b => count_any w L h wd xi xs id seed a b hr)
  have HB := hide hbA
  have HX := hide (hi.below hbA)
  have HS := hide (hs.below hbA)
  have HN := hide hr
  have HK := hide hK
  obtain ⟨N, hN⟩ : ∃ N, ((2 ^ (h * L) : Nat) : Int) = N := ⟨_, rfl⟩
  rw [hN] at hn
  have Hco2 : Hid (∀ w, BytesAt w xi id → BytesAt w xs seed → Calls Tryd.prog 16 #[keyV (L : Int) (h : Int) (wd : Int) xi xs] w fun e w' => e = .returned (.int .i64 N) ∧ Below w.heap.size w w') := fun w a b => by
    rw [← hN]; exact unhide Hco w a b
  have c0 := hK.c 0 _ rfl
  have c1 := hK.c 1 _ rfl
  have c2 := hK.c 2 _ rfl
  have c3 := hK.c 3 _ rfl
  have c4 := hK.c 4 _ rfl
  clear hi hs hr hbA hK hN Hco
  unfold keyV at *
  go_enter Tryd.func18, Tryd.ntmps18
  go_wp2_with fail
  refine (unhide Hri).mono ?_
  rintro e w1 ⟨hor, hb⟩
  rcases hor with ⟨_, rfl⟩ | ⟨hR, rfl⟩
  · have HA1 := hide hb
    have HK1 := hide ((unhide HK).below hb)
    have k0 := (unhide HK1).c 0 _ rfl
    have k1 := (unhide HK1).c 1 _ rfl
    have k2 := (unhide HK1).c 2 _ rfl
    have k3 := (unhide HK1).c 3 _ rfl
    have k4 := (unhide HK1).c 4 _ rfl
    clear hb c0 c1 c2 c3 c4
    by_cases hn0 : n < 0
    · have d1 : decide (n < 0) = true := by simp; omega
      have HF := hide ((unhide HB).trans ((unhide HA1).mono (unhide HB).size))
      clear hn
      go_wp2
      go_ret2
      exact ⟨_, rfl, bytes_nil _, unhide HF⟩
    · have d1 : decide (n < 0) = false := by simp; omega
      have d2 : decide (N ≤ n) = true := by simp; omega
      clear hn hn0
      go_wp2_with fail
      refine (unhide Hco2 w1 ((unhide HX).below (unhide HA1)) ((unhide HS).below (unhide HA1))).mono ?_
      rintro e w2 ⟨rfl, hb⟩
      have HA2 := hide ((unhide HA1).trans (hb.mono (unhide HA1).size))
      have HF := hide ((unhide HB).trans ((unhide HA2).mono (unhide HB).size))
      clear hb
      go_wp2
      go_ret2
      exact ⟨_, rfl, bytes_nil _, unhide HF⟩
  · exact absurd (unhide HN) hR
end Go.Proofs.YtlhjifdahagkaaaDoor
