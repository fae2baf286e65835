/-
  The walk of the statement LmsSigns.
-/
import Derived.Test.YtlhjifdahagkaaaDoorKeys7Z
import Derived.Test.YtlhjifdahagkaaaDoorSignNo7Z
namespace Go.Proofs.YtlhjifdahagkaaaDoor
open Go.RowKit
theorem len_signFrom (H : Bs → Bs) (hH : ∀ l, (H l).length = 32) (h w n : Nat) (msg : Bs) : ∀ l id seed, (signFrom H h w n msg l id seed).length = sizeOf h w + l * (sizeOf h w + 56)
  | 0, id, seed => by rw [signFrom, len_one H hH]; omega
  | l + 1, id, seed => by
    have hi2 : (subId H id seed (leafAt h n (l + 1))).length = 16 := by unfold subId; rw [List.length_take, len_secret H hH]; rfl
    rw [signFrom, List.length_append, List.length_append, len_one H hH, len_tree H hH hi2, len_signFrom H hH h w n msg l, Nat.succ_mul]
    omega
theorem len_sign (H : Bs → Bs) (hH : ∀ l, (H l).length = 32) (L h w n : Nat) (id seed msg : Bs) (hL : L ≤ 3) (hh : h ≤ 6) (hw : IsW w) : (signOf H L h w id seed n msg).length ≤ 40000 := by
  have h0 : pW w ≤ 265 := by rcases hw with rfl | rfl | rfl | rfl <;> simp [pW]
  have h1 : sizeOf h w ≤ 8800 := by unfold sizeOf; omega
  unfold signOf
  rw [List.length_append, len_big, len_signFrom H hH]
  have := Nat.mul_le_mul (show L - 1 ≤ 2 by omega) (show sizeOf h w + 56 ≤ 9000 by omega)
  omega
theorem both_sign {R : World → Prop} {H : Bs → Bs} (C : Lms R H) (L h wd n : Int) (xi xs xm : Value) (id seed msg : Bs) (li : id.length ≤ 100) (ls : seed.length ≤ 100) (lm : msg.length ≤ 500) :
    ∃ (er : Int) (l : Bs), l.length ≤ 40000 ∧ ∀ w, R w → BytesAt w xi id → BytesAt w xs seed → BytesAt w xm msg → TellsE w 17 #[keyV L h wd xi xs, .int .i64 n, xm] er l ∧ TellsE w 18 #[keyV L h wd xi xs, .int .i64 n, xm] er l := by
  by_cases hr : RightP L h wd id seed
  · obtain ⟨hw, h1, h2, h3, h4, h5, h6⟩ := hr
    obtain ⟨L, rfl⟩ : ∃ k : Nat, L = (k : Int) := ⟨L.toNat, by omega⟩
    obtain ⟨h, rfl⟩ : ∃ k : Nat, h = (k : Int) := ⟨h.toNat, by omega⟩
    obtain ⟨wd, rfl⟩ : ∃ k : Nat, wd = (k : Int) := ⟨wd.toNat, by omega⟩
    have hr : RightP (L : Int) (h : Int) (wd : Int) id seed := ⟨hw, h1, h2, h3, h4, h5, h6⟩
    by_cases hn : 0 ≤ n ∧ n < ((2 ^ (h * L) : Nat) : Int)
    · obtain ⟨k, rfl⟩ : ∃ k : Nat, n = (k : Int) := ⟨n.toNat, by omega⟩
      have hk : k < 2 ^ (h * L) := by omega
      exact ⟨0, signOf H L h wd id seed k msg, len_sign H C.hash.len L h wd k id seed msg (by omega) (by omega) (isW_of hw), fun w hR hi hs hm => ⟨(C.sign w L h wd k xi xs xm id seed msg hR hi hs hm lm hr hk).tells, (sign_any C.hash w L h wd k xi xs xm id seed msg hi hs hm (by omega) hr hk).tells⟩⟩
    · exact ⟨13, [], by simp, fun w hR hi hs hm => ⟨(C.usedSign w L h wd n xi xs xm id seed msg hR hi hs hm lm hr hn).tells, (sign_used w L h wd n xi xs xm id seed hi hs hr hn).tells⟩⟩
  · exact ⟨11, [], by simp, fun w hR hi hs hm => ⟨(C.noSign w L h wd n xi xs xm id seed msg hR hi hs hm lm li ls hr).tells, (sign_no w L h wd n xi xs xm id seed hi hs (by omega) (by omega) hr).tells⟩⟩
set_option maxRecDepth 100000 in
set_option maxHeartbeats 4000000 in
theorem signs_true {R : World → Prop} {H : Bs → Bs} (C : Lms R H) (w0 : World) (hR : R w0) (L h wd : Int) (n : Int) (xi xs xm : Value) (id seed msg : Bs) (hi : BytesAt w0 xi id) (hs : BytesAt w0 xs seed) (hm : BytesAt w0 xm msg) (li : (id.length : Int) ≤ 9223372036854775807) (ls : (seed.length : Int) ≤ 9223372036854775807) (lm : (msg.length : Int) ≤ 9223372036854775807) :
    Calls Tryd.prog 4 #[shapeV L h wd, xi, xs, .int .i64 n, xm] w0 fun e w' => e = .returned (.bool true) ∧ Below w0.heap.size w0 w' := by
  have HC := hide C
  obtain ⟨spi, ci, rfl, _, _, _⟩ := bytes_open hi
  obtain ⟨sps, cs, rfl, _, _, _⟩ := bytes_open hs
  obtain ⟨spm, cm, rfl, _, _, _⟩ := bytes_open hm
  unfold shapeV
  obtain ⟨wA, hwA⟩ : ∃ wA, w0.alloc (.cells #[.int .i64 L, .int .i64 h, .int .i64 wd] 23) = wA := ⟨_, rfl⟩
  have hbA : Below w0.heap.size w0 wA := by rw [← hwA]; exact (Below.refl _ _).alloc (Nat.le_refl _) _
  have HRA := hide (C.below w0 wA hR hbA)
  have HI := hide (hi.below hbA)
  have HS := hide (hs.below hbA)
  have HM := hide (hm.below hbA)
  have HBA := hide hbA
  have HSh : Hid (∀ w, Below wA.heap.size wA w → w.cell? ⟨w0.heap.size, 0, none⟩ = some (.int .i64 L) ∧ w.cell? ⟨w0.heap.size, 1, none⟩ = some (.int .i64 h) ∧ w.cell? ⟨w0.heap.size, 2, none⟩ = some (.int .i64 wd)) := fun w hb => by
    have hlt : w0.heap.size < wA.heap.size := by rw [← hwA]; simp
    refine ⟨?_, ?_, ?_⟩
    · rw [hb.cell (p := ⟨w0.heap.size, 0, none⟩) hlt, ← hwA, cell_of_row _ _ _ _ 23 (0, 0) (heap_alloc_new w0 _)]; rfl
    · rw [hb.cell (p := ⟨w0.heap.size, 1, none⟩) hlt, ← hwA, cell_of_row _ _ _ _ 23 (0, 0) (heap_alloc_new w0 _)]; rfl
    · rw [hb.cell (p := ⟨w0.heap.size, 2, none⟩) hlt, ← hwA, cell_of_row _ _ _ _ 23 (0, 0) (heap_alloc_new w0 _)]; rfl
  have Hanc := hide (anchor_any C wA (unhide HRA))
  clear C hR hi hs hm hbA
  go_enter Tryd.func4, Tryd.ntmps4
  go_wp2_with fail
  refine (unhide Hanc).mono ?_
  rintro e w1 ⟨rfl, hb⟩
  have HB1 := hide hb
  obtain ⟨c0, c1, c2⟩ := unhide HSh w1 hb
  clear hb Hanc
  go_wp2_with fail
  refine (small_any w1 L h wd).mono ?_
  rintro e w2 ⟨b, rfl, hb⟩
  have HB2 := hide ((unhide HB1).trans (hb.mono (unhide HB1).size))
  obtain ⟨d0, d1, d2⟩ := unhide HSh w2 (unhide HB2)
  clear hb c0 c1 c2
  cases b with
  | false =>
    go_wp2
    go_ret
    exact ⟨rfl, (unhide HBA).trans ((unhide HB2).mono (unhide HBA).size)⟩
  | true =>
    by_cases l1 : 100 < id.length
    · have e1 : decide ((100 : Int) < (id.length : Int)) = true := by simp; omega
      have e1' : decide (100 < id.length) = true := by simp; omega
      go_wp2
      go_ret
      exact ⟨rfl, (unhide HBA).trans ((unhide HB2).mono (unhide HBA).size)⟩
    have e1 : decide ((100 : Int) < (id.length : Int)) = false := by simp; omega
    have e1' : decide (100 < id.length) = false := by simp; omega
    by_cases l2 : 100 < seed.length
    · have e2 : decide ((100 : Int) < (seed.length : Int)) = true := by simp; omega
      have e2' : decide (100 < seed.length) = true := by simp; omega
      go_wp2
      go_ret
      exact ⟨rfl, (unhide HBA).trans ((unhide HB2).mono (unhide HBA).size)⟩
    have e2 : decide ((100 : Int) < (seed.length : Int)) = false := by simp; omega
    have e2' : decide (100 < seed.length) = false := by simp; omega
    by_cases l3 : 500 < msg.length
    · have e3 : decide ((500 : Int) < (msg.length : Int)) = true := by simp; omega
      have e3' : decide (500 < msg.length) = true := by simp; omega
      go_wp2
      go_ret
      exact ⟨rfl, (unhide HBA).trans ((unhide HB2).mono (unhide HBA).size)⟩
    have e3 : decide ((500 : Int) < (msg.length : Int)) = false := by simp; omega
    have e3' : decide (500 < msg.length) = false := by simp; omega
    have Hkey := hide (key_any w2 L h wd _ _ id seed ((unhide HI).below (unhide HB2)) ((unhide HS).below (unhide HB2)))
    unfold shapeV at Hkey
    go_wp2_with fail
    refine (unhide Hkey).mono ?_
    rintro e w3 ⟨rfl, hb⟩
    have HB3 := hide ((unhide HB2).trans (hb.mono (unhide HB2).size))
    clear hb Hkey
    have HT := hide (two_new (L := L) (h := h) (wd := wd) ((unhide HI).below (unhide HB3)) ((unhide HS).below (unhide HB3)) (unhide HB3))
    obtain ⟨er, P, hPl, hboth⟩ := both_sign (unhide HC) L h wd n (.slice spi id.length ci) (.slice sps seed.length cs) (.slice spm msg.length cm) id seed msg (by omega) (by omega) (by omega)
    have Hall : Hid (∀ w, R w → BytesAt w (.slice spi id.length ci) id → BytesAt w (.slice sps seed.length cs) seed → BytesAt w (.slice spm msg.length cm) msg → _) := hboth
    have HPl := hide hPl
    clear hboth hPl
    unfold keyV at *
    go_wp2_with fail
    obtain ⟨A, hA⟩ : ∃ A, w3.heap.size = A := ⟨_, rfl⟩
    obtain ⟨B, hB⟩ : ∃ B, w3.heap.size + 1 = B := ⟨_, rfl⟩
    obtain ⟨W4, hW4⟩ : ∃ W4, (w3.alloc (.cells #[.int .i64 L, .int .i64 h, .int .i64 wd, .slice spi id.length ci, .slice sps seed.length cs] 28)).alloc (.cells #[.int .i64 L, .int .i64 h, .int .i64 wd, .slice spi id.length ci, .slice sps seed.length cs] 29) = W4 := ⟨_, rfl⟩
    rw [hW4, hB, hA]
    rw [hW4, hB, hA] at HT
    clear hW4 hB hA
    have HRw : Hid (∀ w, Below wA.heap.size wA w → R w) := fun w hb => (unhide HC).below wA w (unhide HRA) hb
    refine (unhide Hall W4 (unhide HRw W4 (unhide HT).b) (unhide HT).hi (unhide HT).hs ((unhide HM).below (unhide HT).b)).1.mono ?_
    rintro e w5 ⟨v5, rfl, hV, hb⟩
    obtain ⟨sp5, c5, rfl, _⟩ := bytes_open hV
    have HT5 := hide ((unhide HT).call hb)
    have HV5 := hide hV
    have j0 := (unhide HT5).kb.c 0 _ rfl
    have j1 := (unhide HT5).kb.c 1 _ rfl
    have j2 := (unhide HT5).kb.c 2 _ rfl
    have j3 := (unhide HT5).kb.c 3 _ rfl
    have j4 := (unhide HT5).kb.c 4 _ rfl
    clear hb hV HT d0 d1 d2
    go_wp2_with fail
    refine (unhide Hall w5 (unhide HRw w5 (unhide HT5).b) (unhide HT5).hi (unhide HT5).hs ((unhide HM).below (unhide HT5).b)).2.mono ?_
    rintro e w6 ⟨v6, rfl, hV, hb⟩
    obtain ⟨sp6, c6, rfl, _⟩ := bytes_open hV
    have HT6 := hide ((unhide HT5).call hb)
    have HV6 := hide hV
    have HV56 := hide ((unhide HV5).below hb)
    clear hb hV HT5 HV5 j0 j1 j2 j3 j4
    have Hsame := hide (same_any w6 _ _ P P (unhide HV56) (unhide HV6) (by have := unhide HPl; omega))
    rw [decide_eq_true rfl] at Hsame
    have ee : (er == er) = true := by simp
    go_wp2_with fail
    refine (unhide Hsame).mono ?_
    rintro e w7 ⟨rfl, hb⟩
    have HB7 : Hid (Below w0.heap.size w0 w7) := by
      show Below _ _ _
      have h1 := (unhide HBA).trans ((unhide HT6).b.mono (unhide HBA).size)
      exact h1.trans (hb.mono h1.size)
    clear hb
    go_wp2
    go_ret
    exact ⟨rfl, unhide HB7⟩
end Go.Proofs.YtlhjifdahagkaaaDoor
