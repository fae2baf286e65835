/-
  The walk of the statement LmsOpens.
-/
import Derived.Test.YtlhjifdahagkaaaDoorKeys7Z
import Derived.Test.YtlhjifdahagkaaaDoorSigns7Z
import Derived.Test.YtlhjifdahagkaaaDoorVer7Z
namespace Go.Proofs.YtlhjifdahagkaaaDoor
open Go.RowKit
theorem leafAt_zero (h n : Nat) : leafAt h n 0 = n % 2 ^ h := by unfold leafAt; simp
theorem len_leaves (h n : Nat) : ∀ l, (leavesOf h n l).length = l + 1
  | 0 => rfl
  | l + 1 => by rw [leavesOf, List.length_cons, len_leaves h n l]
theorem leaves_get (h n : Nat) : ∀ l j, j ≤ l → (leavesOf h n l)[j]? = some (leafAt h n (l - j))
  | 0, 0, _ => by rw [leafAt_zero]; rfl
  | l + 1, 0, _ => rfl
  | l + 1, j + 1, hj => by
    rw [leavesOf, List.getElem?_cons_succ, leaves_get h n l j (by omega), Nat.succ_sub_succ]
theorem leafAt_lt (h n l : Nat) : leafAt h n l < 2 ^ h := Nat.mod_lt _ (Nat.pow_pos (by omega))
/-- The leaves are the number's digits. -/
theorem leaf_step (h n m : Nat) : n / 2 ^ (h * (m + 1)) * 2 ^ h + leafAt h n m = n / 2 ^ (h * m) := by
  unfold leafAt
  rw [Nat.mul_succ, Nat.pow_add, ← Nat.div_div_eq_div_mul]
  exact Nat.div_add_mod' _ _
def lvals (h n l : Nat) : List Value := (leavesOf h n l).map fun (q : Nat) => Value.int .i64 (q : Int)
theorem len_lvals (h n l : Nat) : (lvals h n l).length = l + 1 := by unfold lvals; rw [List.length_map, len_leaves]
theorem lvals_get (h n l j : Nat) (hj : j ≤ l) : (lvals h n l).getD j undef = .int .i64 (leafAt h n (l - j) : Int) := by
  unfold lvals
  rw [List.getD_eq_getElem?_getD, List.getElem?_map, leaves_get h n l j hj]
  rfl
set_option maxRecDepth 100000 in
set_option maxHeartbeats 4000000 in
theorem opens_true {R : World → Prop} {H : Bs → Bs} (C : Lms R H) (w0 : World) (hR : R w0) (L h wd : Int) (n : Int) (xi xs xm : Value) (id seed msg : Bs) (hi : BytesAt w0 xi id) (hs : BytesAt w0 xs seed) (hm : BytesAt w0 xm msg) (li : (id.length : Int) ≤ 9223372036854775807) (ls : (seed.length : Int) ≤ 9223372036854775807) (lm : (msg.length : Int) ≤ 9223372036854775807) :
    Calls Tryd.prog 5 #[shapeV L h wd, xi, xs, .int .i64 n, xm] w0 fun e w' => e = .returned (.bool true) ∧ Below w0.heap.size w0 w' := by
  have HC := hide C
  obtain ⟨spi, ci, rfl, _, _, _⟩ := bytes_open hi
  obtain ⟨sps, cs, rfl, _, _, _⟩ := bytes_open hs
  obtain ⟨spm, cm, rfl, _, _, _⟩ := bytes_open hm
  unfold shapeV
  obtain ⟨wA, hwA⟩ : ∃ wA, w0.alloc (.cells #[.int .i64 L, .int .i64 h, .int .i64 wd] 23) = wA := ⟨_, rfl⟩
  have hbA : Below w0.heap.size w0 wA := by rw [← hwA]; exact (Below.refl _ _).alloc (Nat.le_refl _) _
  have HRA := hide (C.below w0 wA hR hbA)
  have HI := hide (hi.below hbA)
  have HS := hide (hs.below hbA)
  have HM := hide (hm.below hbA)
  have HBA := hide hbA
  have HSh : Hid (∀ w, Below wA.heap.size wA w → w.cell? ⟨w0.heap.size, 0, none⟩ = some (.int .i64 L) ∧ w.cell? ⟨w0.heap.size, 1, none⟩ = some (.int .i64 h) ∧ w.cell? ⟨w0.heap.size, 2, none⟩ = some (.int .i64 wd)) := fun w hb => by
    have hlt : w0.heap.size < wA.heap.size := by rw [← hwA]; simp
    refine ⟨?_, ?_, ?_⟩
    · rw [hb.cell (p := ⟨w0.heap.size, 0, none⟩) hlt, ← hwA, cell_of_row _ _ _ _ 23 (0, 0) (heap_alloc_new w0 _)]; rfl
    · rw [hb.cell (p := ⟨w0.heap.size, 1, none⟩) hlt, ← hwA, cell_of_row _ _ _ _ 23 (0, 0) (heap_alloc_new w0 _)]; rfl
    · rw [hb.cell (p := ⟨w0.heap.size, 2, none⟩) hlt, ← hwA, cell_of_row _ _ _ _ 23 (0, 0) (heap_alloc_new w0 _)]; rfl
  have Hanc := hide (anchor_any C wA (unhide HRA))
  clear C hR hi hs hm hbA
  go_enter Tryd.func5, Tryd.ntmps5
  go_wp2_with fail
  refine (unhide Hanc).mono ?_
  rintro e w1 ⟨rfl, hb⟩
  have HB1 := hide hb
  obtain ⟨c0, c1, c2⟩ := unhide HSh w1 hb
  clear hb Hanc
  have Hkey := hide (key_any w1 L h wd _ _ id seed ((unhide HI).below (unhide HB1)) ((unhide HS).below (unhide HB1)))
  unfold shapeV at Hkey
  go_wp2_with fail
  refine (unhide Hkey).mono ?_
  rintro e w3 ⟨rfl, hb⟩
  have HB3 := hide ((unhide HB1).trans (hb.mono (unhide HB1).size))
  obtain ⟨d0, d1, d2⟩ := unhide HSh w3 (unhide HB3)
  have HT := hide (two_new (L := L) (h := h) (wd := wd) ((unhide HI).below (unhide HB3)) ((unhide HS).below (unhide HB3)) (unhide HB3))
  obtain ⟨f0, f1, f2⟩ := unhide HSh _ (unhide HT).b
  clear hb Hkey c0 c1 c2
  unfold keyV at *
  go_wp2_with fail
  obtain ⟨A, hA⟩ : ∃ A, w3.heap.size = A := ⟨_, rfl⟩
  obtain ⟨B, hB⟩ : ∃ B, w3.heap.size + 1 = B := ⟨_, rfl⟩
  obtain ⟨W4, hW4⟩ : ∃ W4, (w3.alloc (.cells #[.int .i64 L, .int .i64 h, .int .i64 wd, .slice spi id.length ci, .slice sps seed.length cs] 28)).alloc (.cells #[.int .i64 L, .int .i64 h, .int .i64 wd, .slice spi id.length ci, .slice sps seed.length cs] 29) = W4 := ⟨_, rfl⟩
  rw [hW4, hB, hA]
  rw [hW4, hB, hA] at HT
  clear hW4 hB hA d0 d1 d2 f0 f1 f2
  have HRw : Hid (∀ w, Below wA.heap.size wA w → R w) := fun w hb => (unhide HC).below wA w (unhide HRA) hb
  have Hsm := hide (small_any W4 L h wd)
  unfold shapeV at Hsm
  refine (unhide Hsm).mono ?_
  rintro e w5 ⟨b, rfl, hb⟩
  have HT5 := hide ((unhide HT).call hb)
  clear hb Hsm HT
  have HFin : Hid (∀ w, Below wA.heap.size wA w → Below w0.heap.size w0 w) := fun w hb => (unhide HBA).trans (hb.mono (unhide HBA).size)
  cases b with
  | false =>
    go_wp2
    go_ret
    exact ⟨rfl, unhide HFin _ (unhide HT5).b⟩
  | true =>
    have j0 := (unhide HT5).kb.c 0 _ rfl
    have j1 := (unhide HT5).kb.c 1 _ rfl
    have j2 := (unhide HT5).kb.c 2 _ rfl
    have j3 := (unhide HT5).kb.c 3 _ rfl
    have j4 := (unhide HT5).kb.c 4 _ rfl
    have Hri := hide (right_any w5 L h wd _ _ id seed (unhide HT5).hi (unhide HT5).hs li ls)
    unfold keyV at Hri
    go_wp2_with fail
    refine (unhide Hri).mono ?_
    rintro e w6 ⟨hor, hb⟩
    have HT6 := hide ((unhide HT5).call hb)
    clear hb Hri HT5 j0 j1 j2 j3 j4
    rcases hor with ⟨hr, rfl⟩ | ⟨_, rfl⟩
    case inr =>
      go_wp2
      go_ret
      exact ⟨rfl, unhide HFin _ (unhide HT6).b⟩
    by_cases hn0 : n < 0
    · have d1 : decide (n < 0) = true := by simp; omega
      go_wp2
      go_ret
      exact ⟨rfl, unhide HFin _ (unhide HT6).b⟩
    have d1 : decide (n < 0) = false := by simp; omega
    obtain ⟨n, rfl⟩ : ∃ k : Nat, n = (k : Int) := ⟨n.toNat, by omega⟩
    obtain ⟨hw, h1, h2, h3, h4, h5, h6⟩ := hr
    obtain ⟨L, rfl⟩ : ∃ k : Nat, L = (k : Int) := ⟨L.toNat, by omega⟩
    obtain ⟨h, rfl⟩ : ∃ k : Nat, h = (k : Int) := ⟨h.toNat, by omega⟩
    obtain ⟨wd, rfl⟩ : ∃ k : Nat, wd = (k : Int) := ⟨wd.toNat, by omega⟩
    have hr : RightP (L : Int) (h : Int) (wd : Int) id seed := ⟨hw, h1, h2, h3, h4, h5, h6⟩
    have Hr := hide hr
    have Hco := hide (count_any w6 L h wd _ _ id seed (unhide HT6).hi (unhide HT6).hs hr)
    unfold keyV at Hco
    obtain ⟨N, hN⟩ : ∃ N, 2 ^ (h * L) = N := ⟨_, rfl⟩
    rw [hN] at Hco
    have HN := hide hN
    have j0 := (unhide HT6).kb.c 0 _ rfl
    have j1 := (unhide HT6).kb.c 1 _ rfl
    have j2 := (unhide HT6).kb.c 2 _ rfl
    have j3 := (unhide HT6).kb.c 3 _ rfl
    have j4 := (unhide HT6).kb.c 4 _ rfl
    clear hw hr hN hn0 h5 h6
    go_wp2_with fail
    refine (unhide Hco).mono ?_
    rintro e w7 ⟨rfl, hb⟩
    have HT7 := hide ((unhide HT6).call hb)
    clear hb Hco HT6 j0 j1 j2 j3 j4
    by_cases hnN : N ≤ n
    · have d2 : decide ((N : Int) ≤ (n : Int)) = true := by simp; omega
      have d2' : decide (N ≤ n) = true := by simp; omega
      go_wp2
      go_ret
      exact ⟨rfl, unhide HFin _ (unhide HT7).b⟩
    have d2 : decide ((N : Int) ≤ (n : Int)) = false := by simp; omega
    have d2' : decide (N ≤ n) = false := by simp; omega
    by_cases l3 : 500 < msg.length
    · have e3 : decide ((500 : Int) < (msg.length : Int)) = true := by simp; omega
      have e3' : decide (500 < msg.length) = true := by simp; omega
      go_wp2
      go_ret
      exact ⟨rfl, unhide HFin _ (unhide HT7).b⟩
    have e3 : decide ((500 : Int) < (msg.length : Int)) = false := by simp; omega
    have e3' : decide (500 < msg.length) = false := by simp; omega
    have Hn : Hid (n < 2 ^ (h * L)) := by show _ < _; have := unhide HN; omega
    have Hlm : Hid (msg.length ≤ 500) := by show _ ≤ _; omega
    have hWd : IsW wd := isW_of (unhide Hr).1
    have Hpub := hide ((unhide HC).public_ w7 L h wd _ _ id seed (unhide HRw w7 (unhide HT7).b) (unhide HT7).hi (unhide HT7).hs (unhide Hr))
    have Hsig := hide (fun w (t : TwoKeys wA w A B (L : Int) (h : Int) (wd : Int) (.slice spi id.length ci) (.slice sps seed.length cs) id seed) => (unhide HC).sign w L h wd n _ _ _ id seed msg (unhide HRw w t.b) t.hi t.hs ((unhide HM).below t.b) (unhide Hlm) (unhide Hr) (unhide Hn))
    have HO := hide (opens H (unhide HC).hash.len L h wd n (by omega) (by omega) (by omega) (by omega) hWd (id := id) (seed := seed) (unhide Hr).2.2.2.2.2.1 msg)
    have HlP := hide (len_public H (unhide HC).hash.len L h wd (id := id) (seed := seed) (unhide Hr).2.2.2.2.2.1)
    have HlS := hide (len_sign H (unhide HC).hash.len L h wd n id seed msg (by omega) (by omega) hWd)
    have Hlvs := hide (fun w (x : Value) (hR : R w) hx => (unhide HC).leaves w L h wd n x id seed msg hR (unhide Hr) hx)
    obtain ⟨P, hP⟩ : ∃ P, publicOf H L h wd id seed = P := ⟨_, rfl⟩
    obtain ⟨S, hS⟩ : ∃ S, signOf H L h wd id seed n msg = S := ⟨_, rfl⟩
    rw [hP] at Hpub HO HlP
    rw [hS] at HO HlS
    simp only [hS] at Hsig Hlvs
    unfold keyV at Hpub Hsig
    have k0 := (unhide HT7).ka.c 0 _ rfl
    have k1 := (unhide HT7).ka.c 1 _ rfl
    have k2 := (unhide HT7).ka.c 2 _ rfl
    have k3 := (unhide HT7).ka.c 3 _ rfl
    have k4 := (unhide HT7).ka.c 4 _ rfl
    clear hP hS
    go_wp2_with fail
    refine (unhide Hpub).mono ?_
    rintro e w8 ⟨v8, rfl, hR⟩
    have HV8 := hide hR.bytes
    have HT8 := hide ((unhide HT7).call hR.b)
    have q0 := (unhide HT8).ka.c 0 _ rfl
    have q1 := (unhide HT8).ka.c 1 _ rfl
    have q2 := (unhide HT8).ka.c 2 _ rfl
    have q3 := (unhide HT8).ka.c 3 _ rfl
    have q4 := (unhide HT8).ka.c 4 _ rfl
    clear hR Hpub HT7 k0 k1 k2 k3 k4
    go_wp2_with fail
    refine (unhide Hsig w8 (unhide HT8)).mono ?_
    rintro e w9 ⟨v9, rfl, hR⟩
    have HV9 := hide hR.bytes
    have HV89 := hide ((unhide HV8).below hR.b)
    have HT9 := hide ((unhide HT8).call hR.b)
    clear hR Hsig HT8 q0 q1 q2 q3 q4
    have Hver := hide ((unhide HC).verify w9 v8 _ v9 P msg S (unhide HRw w9 (unhide HT9).b) (unhide HV89) ((unhide HM).below (unhide HT9).b) (unhide HV9) (by rw [unhide HlP]; omega) (by have := unhide Hlm; omega) (unhide HlS))
    rw [unhide HO] at Hver
    go_wp2_with fail
    refine (unhide Hver).mono ?_
    rintro e w10 ⟨rfl, hb⟩
    have HV10 := hide ((unhide HV9).below hb)
    have HT10 := hide ((unhide HT9).call hb)
    clear hb Hver HT9 HV9 HV8 HV89
    go_wp2_with fail
    refine (unhide Hlvs w10 v9 (unhide HRw w10 (unhide HT10).b) (unhide HV10)).mono ?_
    rintro e w11 ⟨v11, rfl, hO, hb⟩
    have HT11 := hide ((unhide HT10).call hb)
    have HOl : Hid (OwnV 3 w11 w10.heap.size v11 (lvals h n (L - 1))) := hO
    obtain ⟨lb, lc, hv, _, _, hcell⟩ := OwnV.cellAt (unhide HOl) (by intro e0; have := congrArg List.length e0; rw [len_lvals] at this; simp at this)
    rw [len_lvals] at hv
    subst hv
    have Hcell : Hid (∀ j, j < L → w11.cell? ⟨lb, j, none⟩ = some (.int .i64 (leafAt h n (L - 1 - j) : Int))) := fun j hj => by
      rw [hcell j (by rw [len_lvals]; omega), lvals_get h n (L - 1) j (by omega)]
    obtain ⟨s0, s1, s2⟩ := unhide HSh w11 (unhide HT11).b
    clear hO hb HT10 HV10 Hlvs HOl hcell
    have lb3 : (L : Int) ≤ 3 := by omega
    have eL : ((L : Int) == (L : Int)) = true := by simp
    rw [show L - 1 + 1 = L by omega]
    obtain ⟨Q, hQ⟩ : ∃ Q, 2 ^ h = Q := ⟨_, rfl⟩
    have hQi : (2 : Int) ^ h = (Q : Int) := by rw [← hQ]; simp
    have hQb : Q ≤ 64 := by rw [← hQ]; exact Nat.pow_le_pow_right (show 0 < 2 by omega) (show h ≤ 6 by omega)
    have hQw : IntKind.i64.wrap ((2 : Int) ^ h) = (Q : Int) := by rw [hQi]; exact IntWalk.i64_in _ (by omega)
    have HQ := hide hQ
    have hNb : N ≤ 262144 := by rw [← unhide HN]; exact Nat.pow_le_pow_right (show 0 < 2 by omega) (Nat.mul_le_mul (show h ≤ 6 by omega) (show L ≤ 3 by omega))
    have Ha0 : Hid (0 = n / 2 ^ (h * (L - 0))) := by show _ = _; rw [Nat.sub_zero, Nat.div_eq_of_lt (unhide Hn)]
    have hb6 : (h : Int) ≤ 6 := by omega
    have hb0 : (0 : Int) ≤ (h : Int) := by omega
    have hQi2 := hide hQi
    clear hQ hQi
    go_wp2
    go_loopw [19, 95] (fun aa jj wr => ∃ a j : Nat, j ≤ L ∧ a ≤ n ∧ aa = .int .i64 (a : Int) ∧ jj = .int .i64 (j : Int) ∧ wr = w11 ∧ Hid (a = n / 2 ^ (h * (L - j)))) (fun _ jj _ => L - (intOf jj).toNat)
    case atStart => exact ⟨0, 0, by omega, by omega, rfl, rfl, rfl, Ha0⟩
    case round =>
      obtain ⟨a, j, hj, han, rfl, rfl, rfl, Ha⟩ := hrel
      have jb : (j : Int) ≤ 3 := by omega
      have ab : (a : Int) ≤ 262144 := by omega
      by_cases hlt : j < L
      · have cj := unhide Hcell j hlt
        have hlf := leafAt_lt h n (L - 1 - j)
        have hst := leaf_step h n (L - 1 - j)
        rw [show L - 1 - j + 1 = L - j by omega, ← unhide Ha, unhide HQ, show L - 1 - j = L - (j + 1) by omega] at hst
        rw [unhide HQ] at hlf
        rw [show L - 1 - j = L - (j + 1) by omega] at cj hlf
        obtain ⟨q, hq⟩ : ∃ q, leafAt h n (L - (j + 1)) = q := ⟨_, rfl⟩
        rw [hq] at cj hlf hst
        obtain ⟨b, hb⟩ : ∃ b, a * Q = b := ⟨_, rfl⟩
        have hbb : b ≤ 16777216 := by rw [← hb]; exact Nat.mul_le_mul (show a ≤ 262144 by omega) hQb
        have hbi : (a : Int) * 2 ^ h = (b : Int) := by rw [unhide hQi2, ← hb]; simp
        have hbw : IntKind.i64.wrap ((a : Int) * 2 ^ h) = (b : Int) := by rw [hbi]; exact IntWalk.i64_in _ (by omega)
        rw [hb] at hst
        obtain ⟨a2, ha2⟩ : ∃ a2, b + q = a2 := ⟨_, rfl⟩
        have ha2i : (b : Int) + (q : Int) = (a2 : Int) := by omega
        have Ha2 : Hid (a2 = n / 2 ^ (h * (L - (j + 1)))) := by show _ = _; rw [← hst, ha2]
        have han2 : a2 ≤ n := by rw [unhide Ha2]; exact Nat.div_le_self _ _
        have t1 : decide ((q : Int) < 0) = false := by simp
        have t2 : decide ((Q : Int) ≤ (q : Int)) = false := by simp; omega
        have t2' : decide (Q ≤ q) = false := by simp; omega
        have d1 : decide ((j : Int) < (L : Int)) = true := by simp; omega
        have d1' : decide (j < L) = true := by simp; omega
        have j0 : (0 : Int) ≤ (j : Int) := by omega
        have j1 : (j : Int) < (L : Int) := by omega
        have qb : (q : Int) < 64 := by omega
        have bb : (b : Int) ≤ 16777216 := by omega
        clear hq hb hbi hst ha2 Ha
        go_wp2
        go_roundw
        case rel =>
          first
            | exact ⟨a2, j + 1, by omega, han2, by go_num, by go_num, rfl, Ha2⟩
            | exact ⟨a2, j + 1, by omega, han2, by go_num, by go_num, trivial, Ha2⟩
            | ((repeat apply Exists.intro); exact ⟨⟨a2, j + 1, by omega, han2, by go_num, by go_num, trivial, Ha2⟩, rfl⟩)
            | ((repeat apply Exists.intro); exact ⟨⟨a2, j + 1, by omega, han2, by go_num, by go_num, rfl, Ha2⟩, rfl⟩)
        case measure => simp [intOf]; omega
      · obtain rfl : j = L := by omega
        have dz : decide ((j : Int) < (j : Int)) = false := by simp
        have hae : a = n := by rw [unhide Ha, Nat.sub_self, Nat.mul_zero]; simp
        subst hae
        have ea : ((a : Int) == (a : Int)) = true := by simp
        have HF := hide (unhide HFin _ (unhide HT11).b)
        clear Ha
        go_wp2
        go_ret
        exact ⟨rfl, unhide HF⟩
end Go.Proofs.YtlhjifdahagkaaaDoor
