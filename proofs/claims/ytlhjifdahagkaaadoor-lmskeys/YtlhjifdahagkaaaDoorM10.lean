/-
  The walk of the landed public.bytes.
-/
import Derived.Test.YtlhjifdahagkaaaDoorM09
namespace Go.Proofs.YtlhjifdahagkaaaDoor
open Go.RowKit
set_option maxRecDepth 100000 in
set_option maxHeartbeats 4000000 in
theorem pbytes_c (w0 : World) (h t : Nat) (hh : h ≤ 6) (ht : t ≤ 4) (b d e : Int) (xi xr : Value) (id root : Bs) (hi : BytesAt w0 xi id) (hx : BytesAt w0 xr root) (li : id.length ≤ 1000) (lr : root.length ≤ 1000) :
    GivesB w0 29 #[.agg #[.int .i64 (h : Int), .int .i64 b, .int .i64 (t : Int), .int .i64 d, .int .i64 e, xi, xr]] (big (tyH h) 4 ++ big t 4 ++ id ++ root) := by
  obtain ⟨si, ni, ci, rfl⟩ := hi.forms
  obtain ⟨sr, nr, cr, rfl⟩ := hx.forms
  have hbA : Below w0.heap.size w0 (w0.alloc (.cells #[.int .i64 (h : Int), .int .i64 b, .int .i64 (t : Int), .int .i64 d, .int .i64 e, .slice si ni ci, .slice sr nr cr] 62)) := (Below.refl _ _).alloc (Nat.le_refl _) _
  have hK := agg_new w0 [.int .i64 (h : Int), .int .i64 b, .int .i64 (t : Int), .int .i64 d, .int .i64 e, .slice si ni ci, .slice sr nr cr] 62
  obtain ⟨wA, hwA⟩ : ∃ wA, w0.alloc (.cells #[.int .i64 (h : Int), .int .i64 b, .int .i64 (t : Int), .int .i64 d, .int .i64 e, .slice si ni ci, .slice sr nr cr] 62) = wA := ⟨_, rfl⟩
  rw [hwA] at hbA hK
  have Hkd := fun w => kind_c h hh w
  have hT : tyH h < 4294967296 := by unfold tyH; split <;> omega
  have HT2 : Hid (∀ w, GivesB w 26 #[.int .i64 (tyH h : Int)] (big (tyH h) 4)) := fun w => four_any w (tyH h) hT
  obtain ⟨T, hTe⟩ : ∃ T, tyH h = T := ⟨_, rfl⟩
  rw [hTe] at Hkd HT2
  rw [hTe]
  have hne : T ≠ t := by rw [← hTe]; unfold tyH; split <;> omega
  have HKd := hide (hK.below (Below.refl _ _).drew)
  have HB := hide hbA.drew
  have HX := hide (hi.below hbA.drew)
  have HY := hide (hx.below hbA.drew)
  have Hk := hide Hkd
  have c0 := hK.c 0 _ rfl
  have c2 := hK.c 2 _ rfl
  have c5 := hK.c 5 _ rfl
  have c6 := hK.c 6 _ rfl
  clear hi hx hbA hK Hkd hTe
  go_enter Tryd.func29, Tryd.ntmps29
  go_wp2
  go_region_held3 (fun w' => w'.cell? ⟨w0.heap.size, 0, none⟩ = some (.int .i64 (h : Int)) ∧ w'.cell? ⟨w0.heap.size, 2, none⟩ = some (.int .i64 (t : Int)) ∧ w'.cell? ⟨w0.heap.size, 5, none⟩ = some (.slice si ni ci) ∧ w'.cell? ⟨w0.heap.size, 6, none⟩ = some (.slice sr nr cr)) (go_keep)
    ((first
      | (go_at_call 53; refine ((unhide Hk) _).mono ?_; rintro ee w1 ⟨rfl, rfl⟩)
      | (go_at_call_of 26 (Value.int IntKind.i64 (T : Int)); refine ((unhide HT2) wA.drew).mono ?_; rintro ee w3 ⟨v3, rfl, hR3⟩; obtain ⟨s3, n3, c3, rfl⟩ := hR3.bytes.forms; have HV3 := hide hR3.bytes; have HW3 := hide hR3.b; have HK3 := hide ((unhide HKd).below hR3.b); have m0 := (unhide HK3).c 0 _ rfl; have m2 := (unhide HK3).c 2 _ rfl; have m5 := (unhide HK3).c 5 _ rfl; have m6 := (unhide HK3).c 6 _ rfl; clear hR3)
      | (go_at_call_of 26 (Value.int IntKind.i64 (t : Int)); refine (four_any w3 t (by omega)).mono ?_; rintro ee w4 ⟨v4, rfl, hR4⟩; obtain ⟨s4, n4, c4, rfl⟩ := hR4.bytes.forms; have HV4 := hide hR4.bytes; have HV34 := hide ((unhide HV3).below hR4.b); have HW4 := hide ((unhide HW3).trans (hR4.b.mono (unhide HW3).size)); have HK4 := hide ((unhide HK3).below hR4.b); have n0 := (unhide HK4).c 0 _ rfl; have n2 := (unhide HK4).c 2 _ rfl; have n5 := (unhide HK4).c 5 _ rfl; have n6 := (unhide HK4).c 6 _ rfl; have HL := hide (ll_new4 w4 _ _ _ _ (big T 4) (big t 4) id root 24 (unhide HV34) hR4.bytes ((unhide HX).below (unhide HW4)) ((unhide HY).below (unhide HW4))); have hbl := (Below.refl w4.heap.size w4).alloc (Nat.le_refl _) (.cells #[Value.slice s3 n3 c3, Value.slice s4 n4 c4, Value.slice si ni ci, Value.slice sr nr cr] 24); have HW5 := hide ((unhide HW4).trans (hbl.mono (unhide HW4).size)); have HK5 := hide ((unhide HK4).below hbl); clear hR4 hbl)
      | (go_at_call 25; refine (concat_any _ _ [big T 4, big t 4, id, root] (unhide HL) (by simp [len_big]; omega) (by simp)).mono ?_; rintro ee w6 ⟨v6, rfl, hR6⟩; have HR6 := hide hR6; have HW6 := hide ((unhide HW5).trans (hR6.b.mono (unhide HW5).size)); have HK6 := hide ((unhide HK5).below hR6.b); have p0 := (unhide HK6).c 0 _ rfl; have p2 := (unhide HK6).c 2 _ rfl; have p5 := (unhide HK6).c 5 _ rfl; have p6 := (unhide HK6).c 6 _ rfl; clear hR6)))
  have HF : Hid (Row w0 w6 v6 (big T 4 ++ big t 4 ++ id ++ root)) := by
    show Row _ _ _ _
    have h6 := unhide HR6
    have e1 : ([big T 4, big t 4, id, root] : List Bs).flatten = big T 4 ++ big t 4 ++ id ++ root := by simp
    rw [e1] at h6
    exact ((h6.up ((Below.refl _ _).alloc (Nat.le_refl _) _)).up (unhide HW4)).up (unhide HB)
  go_wp2
  go_ret
  exact ⟨_, rfl, unhide HF⟩
end Go.Proofs.YtlhjifdahagkaaaDoor
/-
  The nodes of a tree by their numbers; a list that is being filled beside other stores.
-/
namespace Go.Proofs.YtlhjifdahagkaaaDoor
open Go.RowKit
/-- The node number j. -/
def nd (H : Bs → Bs) (id seed : Bs) (h wd j : Nat) : Bs := nodeAt H id seed h wd (h - Nat.log2 j) j
theorem len_nd (H : Bs → Bs) (hH : ∀ l, (H l).length = 32) (id seed : Bs) (h wd j : Nat) : (nd H id seed h wd j).length = 32 := len_node H hH _ _ _ _ _ _
theorem log2_two (j : Nat) (hj : 1 ≤ j) : Nat.log2 (2 * j) = Nat.log2 j + 1 := by
  rw [Nat.log2_def, if_pos (by omega), Nat.mul_div_cancel_left _ (by omega)]
theorem log2_two1 (j : Nat) (hj : 1 ≤ j) : Nat.log2 (2 * j + 1) = Nat.log2 j + 1 := by
  rw [Nat.log2_def, if_pos (by omega), show (2 * j + 1) / 2 = j by omega]
theorem log2_top (h j : Nat) (h1 : 2 ^ h ≤ j) (h2 : j < 2 ^ (h + 1)) : Nat.log2 j = h := by
  have hj : j ≠ 0 := by have := Nat.pow_pos (n := h) (show 0 < 2 by omega); omega
  have a1 := (Nat.le_log2 hj).2 h1
  have a2 := (Nat.log2_lt hj).2 h2
  omega
theorem nd_leaf (H : Bs → Bs) (id seed : Bs) (h wd j : Nat) (h1 : 2 ^ h ≤ j) (h2 : j < 2 ^ (h + 1)) : nd H id seed h wd j = H (head id j 0x8282 ++ leafKey H id seed wd (j - 2 ^ h)) := by
  unfold nd
  rw [log2_top h j h1 h2, Nat.sub_self]
  rfl
theorem nd_node (H : Bs → Bs) (id seed : Bs) (h wd j : Nat) (h1 : 1 ≤ j) (h2 : j < 2 ^ h) : nd H id seed h wd j = H (head id j 0x8383 ++ nd H id seed h wd (2 * j) ++ nd H id seed h wd (2 * j + 1)) := by
  have hl : Nat.log2 j < h := (Nat.log2_lt (by omega)).2 h2
  have e : h - Nat.log2 j = (h - (Nat.log2 j + 1)) + 1 := by omega
  unfold nd
  rw [log2_two j h1, log2_two1 j h1, e]
  rfl
theorem nd_root (H : Bs → Bs) (id seed : Bs) (h wd : Nat) : nd H id seed h wd 1 = nodeAt H id seed h wd h 1 := by
  unfold nd
  rw [show Nat.log2 1 = 0 by decide]
  rfl
theorem nd_at (H : Bs → Bs) (id seed : Bs) (h wd z X : Nat) (hz : z ≤ h) (h1 : 2 ^ (h - z) ≤ X) (h2 : X < 2 ^ (h - z + 1)) : nd H id seed h wd X = nodeAt H id seed h wd z X := by
  unfold nd
  rw [log2_top (h - z) X h1 h2, show h - (h - z) = z by omega]
theorem Fill.grown {a b : World} {B n g : Nat} {f : Nat → Option Bs} (h : Fill a B n f) (hg : a.grownBy b (some g)) (hne : B ≠ g) (hap : ∀ x l, BytesAt a x l → l ≠ [] → x.ownBlock ≠ some g) : Fill b B n f := by
  obtain ⟨cs, h1, h2, h3, h4⟩ := h
  exact ⟨cs, h1, h2.grown hg (by simpa using hne), h3, fun i l hi hl => ⟨(h4 i l hi hl).1, ValsAt.grown (h4 i l hi hl).2 hg (hap _ _ (h4 i l hi hl).2 (h4 i l hi hl).1)⟩⟩
theorem below_drew_left {B : Nat} {a b : World} (h : Below B a b) : Below B a.drew b := ⟨h.os, h.tape, h.output, h.size, h.block⟩
theorem cell_off {w : World} {B i j : Nat} (hne : i ≠ j) (v : Value) : (w.setCell ⟨B, j, none⟩ v).cell? ⟨B, i, none⟩ = w.cell? ⟨B, i, none⟩ := by
  simp [go_sem]
theorem zero8 : ∀ (j : Nat) (v : Value), (#[.int .i64 0, .int .i64 0, .int .i64 0, .int .i64 0, .int .i64 0, .slice none 0 0, .slice none 0 0, .slice none 0 0] : Array Value)[j]? = some v → ∀ z, v ≠ .int .u8 z := fun j v h z => by
  match j, h with
  | 0, h => cases h; simp
  | 1, h => cases h; simp
  | 2, h => cases h; simp
  | 3, h => cases h; simp
  | 4, h => cases h; simp
  | 5, h => cases h; simp
  | 6, h => cases h; simp
  | 7, h => cases h; simp
  | j + 8, h => cases h
end Go.Proofs.YtlhjifdahagkaaaDoor
/-
  The walk of the landed tree.grow.
-/
namespace Go.Proofs.YtlhjifdahagkaaaDoor
open Go.RowKit
set_option maxRecDepth 100000 in
set_option maxHeartbeats 8000000 in
theorem grow_c {R : World → Prop} {H : Bs → Bs} (C : CHash R H) (w0 : World) (hr : R w0) (h wd : Nat) (hh1 : 1 ≤ h) (hh : h ≤ 6) (hw : IsW wd) (k s : Int) (xi xs : Value) (id seed : Bs) (hi : BytesAt w0 xi id) (hs : BytesAt w0 xs seed) (li : id.length ≤ 1000) (lse : seed.length ≤ 1000) :
    Calls Tryd.prog 27 #[.agg #[.int .i64 (h : Int), .int .i64 (wd : Int), .int .i64 k, .int .i64 (pW wd : Int), .int .i64 s, xi, xs]] w0 fun ee w' => ∃ B, ee = .returned (.agg #[.int .i64 (h : Int), .int .i64 (wd : Int), .int .i64 k, .int .i64 (pW wd : Int), .int .i64 s, xi, xs, .slice (some ⟨B, 0, none⟩) (2 * 2 ^ h) (2 * 2 ^ h)]) ∧ w0.heap.size ≤ B ∧ Fill w' B (2 * 2 ^ h) (fun j => if 0 < j then some (nd H id seed h wd j) else none) ∧ Below w0.heap.size w0 w' := by
  have HLk := fun w hr' h1 h2 (q : Nat) hq => lkey_c C w hr' xi xs id seed h1 h2 li lse wd hw k s q hq
  obtain ⟨si, ni, ci, rfl⟩ := hi.forms
  obtain ⟨ss, ns, cs, rfl⟩ := hs.forms
  obtain ⟨p, hp⟩ : ∃ p, pW wd = p := ⟨_, rfl⟩
  have HLv := fun w => leaves_c w h hh (wd : Int) k (p : Int) s
  obtain ⟨N, hN⟩ : ∃ N, 2 ^ h = N := ⟨_, rfl⟩
  have hNb : N ≤ 64 := by rw [← hN]; exact Nat.pow_le_pow_right (show 0 < 2 by omega) hh
  have hN2 : 2 ≤ N := by rw [← hN]; exact Nat.le_trans (by decide) (Nat.pow_le_pow_right (show 0 < 2 by omega) hh1)
  obtain ⟨nn, hnn⟩ : ∃ nn : Nat → Bs, nd H id seed h wd = nn := ⟨_, rfl⟩
  have Hnl : Hid (∀ j, N ≤ j → j < 2 * N → nn j = H (head id j 0x8282 ++ leafKey H id seed wd (j - N))) := fun j h1 h2 => by
    rw [← hnn, nd_leaf H id seed h wd j (by rw [hN]; exact h1) (by rw [Nat.pow_succ, hN]; omega), hN]
  have Hnn : Hid (∀ j, 1 ≤ j → j < N → nn j = H (head id j 0x8383 ++ nn (2 * j) ++ nn (2 * j + 1))) := fun j h1 h2 => by
    rw [← hnn]; exact nd_node H id seed h wd j h1 (by rw [hN]; exact h2)
  have Hnz : Hid (∀ j, nn j ≠ []) := fun j => by rw [← hnn]; exact ne_of_len (len_nd H C.len id seed h wd j) (by omega)
  have Hn32 : Hid (∀ j, (nn j).length = 32) := fun j => by rw [← hnn]; exact len_nd H C.len id seed h wd j
  rw [hp] at HLk
  rw [hN] at HLv
  rw [hp, hN]
  obtain ⟨M, hM⟩ : ∃ M, 2 * N = M := ⟨_, rfl⟩
  rw [hM]
  have hMi : (2 : Int) * (N : Int) = (M : Int) := by omega
  have hMw : IntKind.i64.wrap (M : Int) = (M : Int) := IntWalk.i64_in _ (by omega)
  have hfn : (fun j => if 0 < j then some (nd H id seed h wd j) else none) = (fun j => if 0 < j then some (nn j) else none) := by rw [← hnn]
  rw [hfn]
  have HLkh := hide HLk
  have HLvh := hide HLv
  have hbA : Below w0.heap.size w0 (w0.alloc (.cells #[.int .i64 (h : Int), .int .i64 (wd : Int), .int .i64 k, .int .i64 (p : Int), .int .i64 s, .slice si ni ci, .slice ss ns cs] 56)) := (Below.refl _ _).alloc (Nat.le_refl _) _
  have hK := agg_new w0 [.int .i64 (h : Int), .int .i64 (wd : Int), .int .i64 k, .int .i64 (p : Int), .int .i64 s, .slice si ni ci, .slice ss ns cs] 56
  obtain ⟨wA, hwA⟩ : ∃ wA, w0.alloc (.cells #[.int .i64 (h : Int), .int .i64 (wd : Int), .int .i64 k, .int .i64 (p : Int), .int .i64 s, .slice si ni ci, .slice ss ns cs] 56) = wA := ⟨_, rfl⟩
  rw [hwA] at hbA hK
  have hbZ : Below wA.heap.size wA (wA.alloc (.cells #[.int .i64 0, .int .i64 0, .int .i64 0, .int .i64 0, .int .i64 0, .slice none 0 0, .slice none 0 0, .slice none 0 0] 65)) := (Below.refl _ _).alloc (Nat.le_refl _) _
  have hZ := heap_alloc_new wA (.cells #[.int .i64 0, .int .i64 0, .int .i64 0, .int .i64 0, .int .i64 0, .slice none 0 0, .slice none 0 0, .slice none 0 0] 65)
  have hsz : wA.heap.size < (wA.alloc (.cells #[.int .i64 0, .int .i64 0, .int .i64 0, .int .i64 0, .int .i64 0, .slice none 0 0, .slice none 0 0, .slice none 0 0] 65)).heap.size := by simp
  obtain ⟨wB, hwB⟩ : ∃ wB, wA.alloc (.cells #[.int .i64 0, .int .i64 0, .int .i64 0, .int .i64 0, .int .i64 0, .slice none 0 0, .slice none 0 0, .slice none 0 0] 65) = wB := ⟨_, rfl⟩
  rw [hwB] at hbZ hZ hsz
  have hKB := hK.below hbZ
  have hbB : Below w0.heap.size w0 wB := hbA.trans (hbZ.mono hbA.size)
  have hle := hbA.size
  have hne : w0.heap.size ≠ wA.heap.size := by have := hK.1; omega
  have HK := hide hKB
  have HZ := hide (And.intro hsz hZ)
  have HB := hide hbB
  have HX := hide (hi.below hbB)
  have HS := hide (hs.below hbB)
  have HR := hide (C.below _ _ hr hbB)
  have HC := hide C
  have Hl := hide (And.intro li lse)
  have Nb : (N : Int) ≤ 64 := by omega
  have Nb0 : (2 : Int) ≤ (N : Int) := by omega
  have Mb : (M : Int) ≤ 128 := by omega
  have c0 := (unhide HK).c 0 _ rfl
  have c1 := (unhide HK).c 1 _ rfl
  have c2 := (unhide HK).c 2 _ rfl
  have c3 := (unhide HK).c 3 _ rfl
  have c4 := (unhide HK).c 4 _ rfl
  have c5 := (unhide HK).c 5 _ rfl
  have c6 := (unhide HK).c 6 _ rfl
  have HKlt := hide hK.1
  clear hi hs hr hbA hbZ hK hKB hZ hbB C li lse HLk HLv hN hnn hp hfn
  go_enter Tryd.func27, Tryd.ntmps27
  go_wp2_with fail
  refine ((unhide HLvh) wB).mono ?_
  rintro ee w1 ⟨rfl, hb1⟩
  obtain ⟨W2, hmk, hF2, hb2⟩ := made_fill w1 M (by omega)
  obtain ⟨B, hB⟩ : ∃ B, w1.heap.size = B := ⟨_, rfl⟩
  rw [hB] at hmk hF2
  have hBg : wB.heap.size ≤ B := by rw [← hB]; exact hb1.size
  have hneB : w0.heap.size ≠ B := by have := unhide HKlt; have := (unhide HZ).1; omega
  have hneB' : B ≠ w0.heap.size := Ne.symm hneB
  have hneG : B ≠ wA.heap.size := by have := (unhide HZ).1; omega
  have HW2 := hide (hb1.trans (hb2.mono hb1.size))
  have HF2 := hide hF2
  have HK2 := hide ((unhide HK).below (unhide HW2))
  have HBg := hide hBg
  have k0 := (unhide HK2).c 0 _ rfl
  have k1 := (unhide HK2).c 1 _ rfl
  have k2 := (unhide HK2).c 2 _ rfl
  have k3 := (unhide HK2).c 3 _ rfl
  have k4 := (unhide HK2).c 4 _ rfl
  have k5 := (unhide HK2).c 5 _ rfl
  have k6 := (unhide HK2).c 6 _ rfl
  clear hb1 hb2 hF2 hB hBg c0 c1 c2 c3 c4 c5 c6 hwA hwB
  go_wp2_with fail
  refine ((unhide HLvh) W2).mono ?_
  rintro ee w3 ⟨rfl, hb3⟩
  have HW3 := hide ((unhide HW2).trans (hb3.mono (unhide HW2).size))
  have HF3 : Hid (Fill w3 B M (fun j => if N ≤ j ∧ j < N + 0 then some (nn j) else none)) := hide (((unhide HF2).below hb3).less (fun i l _ hl => by rw [if_neg (by omega)] at hl; cases hl))
  clear hb3 k0 k1 k2 k3 k4 k5 k6 HF2 HW2 HK2 hmk
  go_wp2
  go_loopw [15] (fun ii wr => ∃ i : Nat, i ≤ N ∧ ii = .int .i64 (i : Int) ∧ Hid (Fill wr B M (fun j => if N ≤ j ∧ j < N + i then some (nn j) else none)) ∧ Hid (Below wB.heap.size wB wr)) (fun ii _ => N - (intOf ii).toNat)
  case atStart => exact ⟨0, by omega, rfl, HF3, HW3⟩
  case round =>
    clear HF3 HW3
    obtain ⟨i, hi, rfl, HF, HW⟩ := hrel
    have ib : (i : Int) ≤ 64 := by omega
    have ib0 : (0 : Int) ≤ (i : Int) := by omega
    rename World => wc
    by_cases hlt : i < N
    · have il : (i : Int) < (N : Int) := by omega
      have HKc := hide ((unhide HK).below (unhide HW))
      have k0 := (unhide HKc).c 0 _ rfl
      have k1 := (unhide HKc).c 1 _ rfl
      have k2 := (unhide HKc).c 2 _ rfl
      have k3 := (unhide HKc).c 3 _ rfl
      have k4 := (unhide HKc).c 4 _ rfl
      have k5 := (unhide HKc).c 5 _ rfl
      have k6 := (unhide HKc).c 6 _ rfl
      go_wp2_with fail
      refine ((unhide HLvh) wc).mono ?_
      rintro ee wd1 ⟨rfl, hb1⟩
      have HWe := hide ((unhide HW).trans (hb1.mono (unhide HW).size))
      have HFe := hide ((unhide HF).below hb1)
      have HWd := hide (unhide HWe).drew
      have HFd := hide (unhide HFe).drew
      have HKe := hide ((unhide HK).below (unhide HWe))
      have HKd := hide ((unhide HK).below (unhide HWd))
      clear hb1 k0 k1 k2 k3 k4 k5 k6
      have e0 := (unhide HKe).c 0 _ rfl
      have e1 := (unhide HKe).c 1 _ rfl
      have e2 := (unhide HKe).c 2 _ rfl
      have e3 := (unhide HKe).c 3 _ rfl
      have e4 := (unhide HKe).c 4 _ rfl
      have e5 := (unhide HKe).c 5 _ rfl
      have e6 := (unhide HKe).c 6 _ rfl
      obtain ⟨P, hP⟩ : ∃ P, N + i = P := ⟨_, rfl⟩
      have hPi : (N : Int) + (i : Int) = (P : Int) := by omega
      have hPw : IntKind.i64.wrap (P : Int) = (P : Int) := IntWalk.i64_in _ (by omega)
      have pb1 : (P : Int) < (M : Int) := by omega
      have pb0 : (0 : Int) ≤ (P : Int) := by omega
      have hPM : P < M := by omega
      have HnP : Hid (nn P = H (head id P 0x8282 ++ leafKey H id seed wd i)) := by
        show _ = _
        rw [unhide Hnl P (by omega) (by omega), show P - N = i by omega]
      have HP := hide hP
      clear hP
      go_wp2
      go_region_held3 (fun w' => w'.cell? ⟨w0.heap.size, 0, none⟩ = some (.int .i64 (h : Int)) ∧ w'.cell? ⟨w0.heap.size, 1, none⟩ = some (.int .i64 (wd : Int)) ∧ w'.cell? ⟨w0.heap.size, 2, none⟩ = some (.int .i64 k) ∧ w'.cell? ⟨w0.heap.size, 3, none⟩ = some (.int .i64 (p : Int)) ∧ w'.cell? ⟨w0.heap.size, 4, none⟩ = some (.int .i64 s) ∧ w'.cell? ⟨w0.heap.size, 5, none⟩ = some (.slice si ni ci) ∧ w'.cell? ⟨w0.heap.size, 6, none⟩ = some (.slice ss ns cs)) ((first | (simp only [cell_other hneB, and_self, *]; done) | go_keep))
        ((first
          | (go_at_call 49; refine (at_c wd1.drew _ _ _ _ _ _ _ id ((unhide HX).below (unhide HWd)) _).mono ?_; rintro ee w4 ⟨rfl, hb4⟩; have HW4 := hide ((unhide HWd).trans (hb4.mono (unhide HWd).size)); have HF4 := hide ((unhide HFd).below hb4); have HK4 := hide ((unhide HKd).below hb4); have m0 := (unhide HK4).c 0 _ rfl; have m1 := (unhide HK4).c 1 _ rfl; have m2 := (unhide HK4).c 2 _ rfl; have m3 := (unhide HK4).c 3 _ rfl; have m4 := (unhide HK4).c 4 _ rfl; have m5 := (unhide HK4).c 5 _ rfl; have m6 := (unhide HK4).c 6 _ rfl; clear hb4)
          | (go_at_call 51; refine (tleaf_c w4 _ _ _ _ _ _ _ id seed ((unhide HX).below (unhide HW4)) ((unhide HS).below (unhide HW4)) _).mono ?_; rintro ee w5 ⟨rfl, hb5⟩; have HW5 := hide ((unhide HW4).trans (hb5.mono (unhide HW4).size)); have HF5 := hide ((unhide HF4).below hb5); have HK5 := hide ((unhide HK4).below hb5); have n0 := (unhide HK5).c 0 _ rfl; have n1 := (unhide HK5).c 1 _ rfl; have n2 := (unhide HK5).c 2 _ rfl; have n3 := (unhide HK5).c 3 _ rfl; have n4 := (unhide HK5).c 4 _ rfl; have n5 := (unhide HK5).c 5 _ rfl; have n6 := (unhide HK5).c 6 _ rfl; clear hb5)
          | (go_at_call 52; refine ((unhide HLkh) w5 ((unhide HC).below _ _ (unhide HR) (unhide HW5)) ((unhide HX).below (unhide HW5)) ((unhide HS).below (unhide HW5)) i (by omega)).mono ?_; rintro ee w6 ⟨v6, rfl, hR6⟩; obtain ⟨s6, n6, c6, rfl⟩ := hR6.bytes.forms; have HW6 := hide ((unhide HW5).trans (hR6.b.mono (unhide HW5).size)); have HF6 := hide ((unhide HF5).below hR6.b); have HK6 := hide ((unhide HK5).below hR6.b); have HL6 := hide (ll_new1 w6 _ (leafKey H id seed wd i) 24 hR6.bytes); have hbl := (Below.refl w6.heap.size w6).alloc (Nat.le_refl _) (.cells #[Value.slice s6 n6 c6] 24); have HW7 := hide ((unhide HW6).trans (hbl.mono (unhide HW6).size)); have HF7 := hide ((unhide HF6).below hbl); have HK7 := hide ((unhide HK6).below hbl); have o0 := (unhide HK6).c 0 _ rfl; have o1 := (unhide HK6).c 1 _ rfl; have o2 := (unhide HK6).c 2 _ rfl; have o3 := (unhide HK6).c 3 _ rfl; have o4 := (unhide HK6).c 4 _ rfl; have o5 := (unhide HK6).c 5 _ rfl; have o6 := (unhide HK6).c 6 _ rfl; clear hR6 hbl)
          | (go_at_call 50; refine ((unhide HC).hash _ _ _ id P 0x8282 [leafKey H id seed wd i] ((unhide HC).below _ _ (unhide HR) (unhide HW7)) ((unhide HX).below (unhide HW7)) (unhide HL6) (by omega) (by omega) (unhide Hl).1 (by rw [List.flatten_cons, List.flatten_nil, List.append_nil, show (leafKey H id seed wd i).length = 32 from (unhide HC).len _]; omega) (by simp)).mono ?_; rintro ee w8 ⟨v8, rfl, hR8⟩; obtain ⟨s8, n8, c8, rfl⟩ := hR8.bytes.forms; have HV8 := hide hR8.bytes; have HW8 := hide ((unhide HW7).trans (hR8.b.mono (unhide HW7).size)); have HF8 := hide ((unhide HF7).below hR8.b); have HK8 := hide ((unhide HK7).below hR8.b); obtain ⟨u8, cB⟩ := (unhide HF8).cell P hPM; have fB := (unhide HF8).frozen P; have r0 := (unhide HK8).c 0 _ rfl; have r1 := (unhide HK8).c 1 _ rfl; have r2 := (unhide HK8).c 2 _ rfl; have r3 := (unhide HK8).c 3 _ rfl; have r4 := (unhide HK8).c 4 _ rfl; have r5 := (unhide HK8).c 5 _ rfl; have r6 := (unhide HK8).c 6 _ rfl; clear hR8)))
      have HF9 : Hid (Fill (w8.setCell ⟨B, P, none⟩ (.slice s8 n8 c8)) B M (fun j => if N ≤ j ∧ j < N + (i + 1) then some (nn j) else none)) := by
        show Fill _ _ _ _
        have h5 := unhide HV8
        rw [List.flatten_cons, List.flatten_nil, List.append_nil, ← unhide HnP] at h5
        refine ((unhide HF8).set P hPM _ (nn P) h5 (unhide Hnz P)).less fun j l _ hl => ?_
        have hP := unhide HP
        by_cases e : j = P
        · subst e; rw [if_pos (by omega)] at hl; rw [if_pos rfl]; exact hl
        · simp only [if_neg e]
          by_cases h2 : N ≤ j ∧ j < N + i
          · rw [if_pos (by omega)] at hl; rw [if_pos h2]; exact hl
          · rw [if_neg (by omega)] at hl; cases hl
      have HW9 : Hid (Below wB.heap.size wB (w8.setCell ⟨B, P, none⟩ (.slice s8 n8 c8))) := hide ((unhide HW8).setCell (unhide HBg) _)
      go_wp2
      go_roundw
      case rel =>
        first
          | exact ⟨i + 1, by omega, by go_num, HF9, HW9⟩
          | ((repeat apply Exists.intro); exact ⟨⟨i + 1, by omega, by go_num, HF9, HW9⟩, rfl⟩)
      case measure => simp [intOf]; omega
    · obtain rfl : i = N := by omega
      have di : decide ((i : Int) < (i : Int)) = false := by simp
      have HKc := hide ((unhide HK).below (unhide HW))
      have k0 := (unhide HKc).c 0 _ rfl
      have k1 := (unhide HKc).c 1 _ rfl
      have k2 := (unhide HKc).c 2 _ rfl
      have k3 := (unhide HKc).c 3 _ rfl
      have k4 := (unhide HKc).c 4 _ rfl
      have k5 := (unhide HKc).c 5 _ rfl
      have k6 := (unhide HKc).c 6 _ rfl
      go_wp2_with fail
      refine ((unhide HLvh) wc).mono ?_
      rintro ee w3 ⟨rfl, hb3⟩
      have HW3 := hide ((unhide HW).trans (hb3.mono (unhide HW).size))
      obtain ⟨P0, hP0⟩ : ∃ P0, i - 1 = P0 := ⟨_, rfl⟩
      have hP0i : (i : Int) - 1 = (P0 : Int) := by omega
      have hP0w : IntKind.i64.wrap (P0 : Int) = (P0 : Int) := IntWalk.i64_in _ (by omega)
      have HF3 : Hid (Fill w3 B M (fun j => if P0 < j then some (nn j) else none)) := hide (((unhide HF).below hb3).less (fun j l hj hl => by
        by_cases h2 : P0 < j
        · rw [if_pos h2] at hl; rw [if_pos (by omega)]; exact hl
        · rw [if_neg h2] at hl; cases hl))
      clear hb3 k0 k1 k2 k3 k4 k5 k6 HF HW HKc di hlt hi
      go_wp2
      go_loopw [6] (fun ii wr => ∃ P : Nat, P ≤ P0 ∧ ii = .int .i64 (P : Int) ∧ Hid (Fill wr B M (fun j => if P < j then some (nn j) else none)) ∧ Hid (Below wB.heap.size wB wr)) (fun ii _ => (intOf ii).toNat)
      case atStart => exact ⟨P0, by omega, rfl, HF3, HW3⟩
      case round =>
        clear HF3 HW3 hP0i hP0w
        obtain ⟨P, hPle, rfl, HF, HW⟩ := hrel
        have pb : (P : Int) ≤ 64 := by omega
        have pb0 : (0 : Int) ≤ (P : Int) := by omega
        rename World => wc
        by_cases hlt : 0 < P
        · have il : (0 : Int) < (P : Int) := by omega
          have pM : (P : Int) < (M : Int) := by omega
          have hPM : P < M := by omega
          have HWd := hide (unhide HW).drew
          have HFd := hide (unhide HF).drew
          have HKc := hide ((unhide HK).below (unhide HW))
          have HKd := hide ((unhide HK).below (unhide HWd))
          have k0 := (unhide HKc).c 0 _ rfl
          have k1 := (unhide HKc).c 1 _ rfl
          have k2 := (unhide HKc).c 2 _ rfl
          have k3 := (unhide HKc).c 3 _ rfl
          have k4 := (unhide HKc).c 4 _ rfl
          have k5 := (unhide HKc).c 5 _ rfl
          have k6 := (unhide HKc).c 6 _ rfl
          obtain ⟨A, hA⟩ : ∃ A, 2 * P = A := ⟨_, rfl⟩
          obtain ⟨A1, hA1⟩ : ∃ A1, A + 1 = A1 := ⟨_, rfl⟩
          have hAi : (2 : Int) * (P : Int) = (A : Int) := by omega
          have hAw : IntKind.i64.wrap (A : Int) = (A : Int) := IntWalk.i64_in _ (by omega)
          have hA1i : (A : Int) + 1 = (A1 : Int) := by omega
          have hA1w : IntKind.i64.wrap (A1 : Int) = (A1 : Int) := IntWalk.i64_in _ (by omega)
          have ab0 : (0 : Int) ≤ (A : Int) := by omega
          have ab1 : (A : Int) < (M : Int) := by omega
          have ab2 : (A1 : Int) < (M : Int) := by omega
          have ab3 : (0 : Int) ≤ (A1 : Int) := by omega
          have hAP : A ≠ P := by omega
          have hA1P : A1 ≠ P := by omega
          obtain ⟨va, ca, bva⟩ := (unhide HF).get A (by omega) (nn A) (by rw [if_pos (by omega)])
          obtain ⟨vb, cb, bvb⟩ := (unhide HF).get A1 (by omega) (nn A1) (by rw [if_pos (by omega)])
          obtain ⟨sa, na, ka, rfl⟩ := bva.forms
          obtain ⟨sb, nb, kb, rfl⟩ := bvb.forms
          have HVa := hide (bva.below (Below.refl _ _).drew)
          have HVb := hide (bvb.below (Below.refl _ _).drew)
          have Hcell : Hid (∀ w', Below wc.drew.heap.size wc.drew w' → w'.cell? ⟨B, A, none⟩ = some (.slice sa na ka) ∧ w'.cell? ⟨B, A1, none⟩ = some (.slice sb nb kb)) := fun w' hb' => ⟨(hb'.cell (p := ⟨B, A, none⟩) (unhide HFd).lt).trans ca, (hb'.cell (p := ⟨B, A1, none⟩) (unhide HFd).lt).trans cb⟩
          have HnP : Hid (nn P = H (head id P 0x8383 ++ ([nn A, nn A1] : List Bs).flatten)) := by
            show _ = _
            rw [unhide Hnn P (by omega) (by omega), hA, hA1]
            simp
          have HP := hide (And.intro hA hA1)
          have hba : Below wc.drew.heap.size wc.drew (wc.alloc (.cells #[Value.slice sa na ka, Value.slice sb nb kb] 24)).drew := below_drew_left ((Below.refl wc.heap.size wc).alloc (Nat.le_refl _) (.cells #[Value.slice sa na ka, Value.slice sb nb kb] 24)).drew
          have hlla := (ll_new2 wc _ _ (nn A) (nn A1) 24 bva bvb).drew
          have HLa := hide hlla
          have Hba := hide hba
          have HWa := hide ((unhide HWd).trans (hba.mono (unhide HWd).size))
          have HFa := hide ((unhide HFd).below hba)
          have HKa := hide ((unhide HKd).below hba)
          clear hA hA1 bva bvb hba hlla
          go_wp2
          go_region_held3 (fun w' => w'.cell? ⟨w0.heap.size, 0, none⟩ = some (.int .i64 (h : Int)) ∧ w'.cell? ⟨w0.heap.size, 1, none⟩ = some (.int .i64 (wd : Int)) ∧ w'.cell? ⟨w0.heap.size, 2, none⟩ = some (.int .i64 k) ∧ w'.cell? ⟨w0.heap.size, 3, none⟩ = some (.int .i64 (p : Int)) ∧ w'.cell? ⟨w0.heap.size, 4, none⟩ = some (.int .i64 s) ∧ w'.cell? ⟨w0.heap.size, 5, none⟩ = some (.slice si ni ci) ∧ w'.cell? ⟨w0.heap.size, 6, none⟩ = some (.slice ss ns cs) ∧ w'.cell? ⟨B, A, none⟩ = some (.slice sa na ka) ∧ w'.cell? ⟨B, A1, none⟩ = some (.slice sb nb kb)) ((first | (simp only [cell_other hneB, cell_off hAP, cell_off hA1P, and_self, *]; done) | go_keep))
            ((first
              | (go_at_call 49; refine (at_c wc.drew _ _ _ _ _ _ _ id ((unhide HX).below (unhide HWd)) _).mono ?_; rintro ee w4 ⟨rfl, hb4⟩; have HW4 := hide ((unhide HWd).trans (hb4.mono (unhide HWd).size)); have HF4 := hide ((unhide HFd).below hb4); have HK4 := hide ((unhide HKd).below hb4); have ⟨q0, q1⟩ := (unhide Hcell) w4 hb4; have HL4 := hide (ll_new2 w4 _ _ (nn A) (nn A1) 24 ((unhide HVa).below hb4) ((unhide HVb).below hb4)); have hbl := (Below.refl w4.heap.size w4).alloc (Nat.le_refl _) (.cells #[Value.slice sa na ka, Value.slice sb nb kb] 24); have HW5 := hide ((unhide HW4).trans (hbl.mono (unhide HW4).size)); have HF5 := hide ((unhide HF4).below hbl); have HK5 := hide ((unhide HK4).below hbl); have Hb5 := hide (hb4.trans (hbl.mono hb4.size)); have m0 := (unhide HK4).c 0 _ rfl; have m1 := (unhide HK4).c 1 _ rfl; have m2 := (unhide HK4).c 2 _ rfl; have m3 := (unhide HK4).c 3 _ rfl; have m4 := (unhide HK4).c 4 _ rfl; have m5 := (unhide HK4).c 5 _ rfl; have m6 := (unhide HK4).c 6 _ rfl; clear hb4 hbl)
              | (go_at_call 49; refine (at_c (wc.alloc (.cells #[Value.slice sa na ka, Value.slice sb nb kb] 24)).drew _ _ _ _ _ _ _ id ((unhide HX).below (unhide HWa)) _).mono ?_; rintro ee w4 ⟨rfl, hb4⟩; have HW5 := hide ((unhide HWa).trans (hb4.mono (unhide HWa).size)); have HF5 := hide ((unhide HFa).below hb4); have HK4 := hide ((unhide HKa).below hb4); have HK5 := HK4; have Hb5 := hide ((unhide Hba).trans (hb4.mono (unhide Hba).size)); have ⟨q0, q1⟩ := (unhide Hcell) w4 (unhide Hb5); have HL4 := hide ((unhide HLa).below hb4); have m0 := (unhide HK4).c 0 _ rfl; have m1 := (unhide HK4).c 1 _ rfl; have m2 := (unhide HK4).c 2 _ rfl; have m3 := (unhide HK4).c 3 _ rfl; have m4 := (unhide HK4).c 4 _ rfl; have m5 := (unhide HK4).c 5 _ rfl; have m6 := (unhide HK4).c 6 _ rfl; clear hb4)
              | (go_at_call 50; refine ((unhide HC).hash _ _ _ id P 0x8383 [nn A, nn A1] ((unhide HC).below _ _ (unhide HR) (unhide HW5)) ((unhide HX).below (unhide HW5)) (unhide HL4) (by omega) (by omega) (unhide Hl).1 (by simp [unhide Hn32]) (by simp)).mono ?_; rintro ee w8 ⟨v8, rfl, hR8⟩; obtain ⟨s8, n8, c8, rfl⟩ := hR8.bytes.forms; have HV8 := hide hR8.bytes; have HW8 := hide ((unhide HW5).trans (hR8.b.mono (unhide HW5).size)); have HF8 := hide ((unhide HF5).below hR8.b); have HK8 := hide ((unhide HK5).below hR8.b); have ⟨t0, t1⟩ := (unhide Hcell) w8 ((unhide Hb5).trans (hR8.b.mono (unhide Hb5).size)); obtain ⟨u8, cB⟩ := (unhide HF8).cell P hPM; have fB := (unhide HF8).frozen P; have r0 := (unhide HK8).c 0 _ rfl; have r1 := (unhide HK8).c 1 _ rfl; have r2 := (unhide HK8).c 2 _ rfl; have r3 := (unhide HK8).c 3 _ rfl; have r4 := (unhide HK8).c 4 _ rfl; have r5 := (unhide HK8).c 5 _ rfl; have r6 := (unhide HK8).c 6 _ rfl; clear hR8)))
          all_goals
            have HF9 : Hid (Fill (w8.setCell ⟨B, P, none⟩ (.slice s8 n8 c8)) B M (fun j => if P - 1 < j then some (nn j) else none)) := by
              show Fill _ _ _ _
              have h5 := unhide HV8
              rw [← unhide HnP] at h5
              refine ((unhide HF8).set P hPM _ (nn P) h5 (unhide Hnz P)).less fun j l _ hl => ?_
              by_cases e : j = P
              · subst e; rw [if_pos (by omega)] at hl; rw [if_pos rfl]; exact hl
              · simp only [if_neg e]
                by_cases h2 : P < j
                · rw [if_pos (by omega)] at hl; rw [if_pos h2]; exact hl
                · rw [if_neg (by omega)] at hl; cases hl
            have HW9 : Hid (Below wB.heap.size wB (w8.setCell ⟨B, P, none⟩ (.slice s8 n8 c8))) := hide ((unhide HW8).setCell (unhide HBg) _)
            clear hAi hA1i ca cb
            go_wp2
            go_roundw
            case rel =>
              first
                | exact ⟨P - 1, by omega, by go_num, HF9, HW9⟩
                | ((repeat apply Exists.intro); exact ⟨⟨P - 1, by omega, by go_num, HF9, HW9⟩, rfl⟩)
            case measure => simp [intOf]; omega
        · obtain rfl : P = 0 := by omega
          have HKc := hide ((unhide HK).below (unhide HW))
          have k0 := (unhide HKc).c 0 _ rfl
          have k1 := (unhide HKc).c 1 _ rfl
          have k2 := (unhide HKc).c 2 _ rfl
          have k3 := (unhide HKc).c 3 _ rfl
          have k4 := (unhide HKc).c 4 _ rfl
          have k5 := (unhide HKc).c 5 _ rfl
          have k6 := (unhide HKc).c 6 _ rfl
          have hZc : wc.heap[wA.heap.size]? = some (.cells #[.int .i64 0, .int .i64 0, .int .i64 0, .int .i64 0, .int .i64 0, .slice none 0 0, .slice none 0 0, .slice none 0 0] 65 (0, 0)) := ((unhide HW).block _ (unhide HZ).1).trans (unhide HZ).2
          have Hap := hide (fun x l h1 h2 => agg_apart hZc zero8 (x := x) (l := l) h1 h2)
          have z0 : wc.cell? ⟨wA.heap.size, 0, none⟩ = some (.int .i64 0) := cell_of_row wc wA.heap.size 0 _ 65 (0, 0) hZc
          have z1 : wc.cell? ⟨wA.heap.size, 1, none⟩ = some (.int .i64 0) := cell_of_row wc wA.heap.size 1 _ 65 (0, 0) hZc
          have z2 : wc.cell? ⟨wA.heap.size, 2, none⟩ = some (.int .i64 0) := cell_of_row wc wA.heap.size 2 _ 65 (0, 0) hZc
          have z3 : wc.cell? ⟨wA.heap.size, 3, none⟩ = some (.int .i64 0) := cell_of_row wc wA.heap.size 3 _ 65 (0, 0) hZc
          have z4 : wc.cell? ⟨wA.heap.size, 4, none⟩ = some (.int .i64 0) := cell_of_row wc wA.heap.size 4 _ 65 (0, 0) hZc
          have z5 : wc.cell? ⟨wA.heap.size, 5, none⟩ = some (.slice none 0 0) := cell_of_row wc wA.heap.size 5 _ 65 (0, 0) hZc
          have z6 : wc.cell? ⟨wA.heap.size, 6, none⟩ = some (.slice none 0 0) := cell_of_row wc wA.heap.size 6 _ 65 (0, 0) hZc
          have z7 : wc.cell? ⟨wA.heap.size, 7, none⟩ = some (.slice none 0 0) := cell_of_row wc wA.heap.size 7 _ 65 (0, 0) hZc
          have fz := fun j => AggAt.fz hZc j
          clear hZc
          obtain ⟨W, hW⟩ : ∃ W, (((((((wc.setCell ⟨wA.heap.size, 0, none⟩ (.int .i64 (h : Int))).setCell ⟨wA.heap.size, 1, none⟩ (.int .i64 (wd : Int))).setCell ⟨wA.heap.size, 2, none⟩ (.int .i64 k)).setCell ⟨wA.heap.size, 3, none⟩ (.int .i64 (p : Int))).setCell ⟨wA.heap.size, 4, none⟩ (.int .i64 s)).setCell ⟨wA.heap.size, 5, none⟩ (.slice si ni ci)).setCell ⟨wA.heap.size, 6, none⟩ (.slice ss ns cs)).setCell ⟨wA.heap.size, 7, none⟩ (.slice (some ⟨B, 0, none⟩) M M) = W := ⟨_, rfl⟩
          have hG : wc.grownBy W (some wA.heap.size) := by
            rw [← hW]
            repeat' refine grown_setCell ?_ _ _ rfl
            exact World.grownBy.refl _ _
          have HFf := hide ((unhide HF).grown hG hneG (unhide Hap))
          have HWf : Hid (Below w0.heap.size w0 W) := hide (((unhide HB).trans ((unhide HW).mono (unhide HB).size)).grown hG (by have := (unhide HW).size; have := (unhide HB).size; omega) (fun j hj => by cases hj; exact hle))
          have r0 : W.cell? ⟨wA.heap.size, 0, none⟩ = some (.int .i64 (h : Int)) := by rw [← hW]; simp [go_sem, z0]
          have r1 : W.cell? ⟨wA.heap.size, 1, none⟩ = some (.int .i64 (wd : Int)) := by rw [← hW]; simp [go_sem, z1]
          have r2 : W.cell? ⟨wA.heap.size, 2, none⟩ = some (.int .i64 k) := by rw [← hW]; simp [go_sem, z2]
          have r3 : W.cell? ⟨wA.heap.size, 3, none⟩ = some (.int .i64 (p : Int)) := by rw [← hW]; simp [go_sem, z3]
          have r4 : W.cell? ⟨wA.heap.size, 4, none⟩ = some (.int .i64 s) := by rw [← hW]; simp [go_sem, z4]
          have r5 : W.cell? ⟨wA.heap.size, 5, none⟩ = some (.slice si ni ci) := by rw [← hW]; simp [go_sem, z5]
          have r6 : W.cell? ⟨wA.heap.size, 6, none⟩ = some (.slice ss ns cs) := by rw [← hW]; simp [go_sem, z6]
          have r7 : W.cell? ⟨wA.heap.size, 7, none⟩ = some (.slice (some ⟨B, 0, none⟩) M M) := by rw [← hW]; simp [go_sem, z7]
          clear hG
          go_wp2
          exact bodyPost_ret (v := .agg #[.int .i64 (h : Int), .int .i64 (wd : Int), .int .i64 k, .int .i64 (p : Int), .int .i64 s, .slice si ni ci, .slice ss ns cs, .slice (some ⟨B, 0, none⟩) M M]) (by simp [results, Tryd.results27, go_sem, r0, r1, r2, r3, r4, r5, r6, r7]) rfl ⟨B, rfl, by have := unhide HBg; have := (unhide HB).size; omega, unhide HFf, unhide HWf⟩
end Go.Proofs.YtlhjifdahagkaaaDoor
/-
  The walk of the landed grown.sign.
-/
namespace Go.Proofs.YtlhjifdahagkaaaDoor
open Go.RowKit
theorem beside_flat (H : Bs → Bs) (id seed : Bs) (h wd q : Nat) (hq : q < 2 ^ h) : ∀ z, z ≤ h → ((List.range z).map fun z => nd H id seed h wd ((2 ^ h + q) / 2 ^ z ^^^ 1)).flatten = beside H id seed h wd q z
  | 0, _ => rfl
  | z + 1, hz => by
    rw [List.range_succ, List.map_append, List.flatten_append, beside_flat H id seed h wd q hq z (by omega), beside]
    have hpz : 2 ^ h = 2 ^ (h - z) * 2 ^ z := by rw [← Nat.pow_add]; congr 1; omega
    obtain ⟨X, hX⟩ : ∃ X, (2 ^ h + q) / 2 ^ z = X := ⟨_, rfl⟩
    have hX1 : 2 ^ (h - z) ≤ X := by
      rw [← hX, Nat.le_div_iff_mul_le (Nat.pow_pos (by omega)), ← hpz]; omega
    have hX2 : X < 2 ^ (h - z + 1) := by
      rw [← hX, Nat.div_lt_iff_lt_mul (Nat.pow_pos (by omega)), Nat.pow_succ, Nat.mul_assoc, Nat.mul_comm 2, ← Nat.mul_assoc, ← hpz]; omega
    have he : 2 ^ (h - z) = 2 * 2 ^ (h - z - 1) := by rw [← Nat.pow_succ']; congr 1; omega
    have hxo := xor_one X
    have h3 : 2 ^ (h - z) ≤ X ^^^ 1 ∧ X ^^^ 1 < 2 ^ (h - z + 1) := by
      rw [Nat.pow_succ] at hX2 ⊢
      rw [hxo]
      split <;> omega
    rw [hX]
    simp only [List.map_cons, List.map_nil, List.flatten_cons, List.flatten_nil, List.append_nil]
    rw [hX, nd_at H id seed h wd z (X ^^^ 1) (by omega) h3.1 h3.2]
set_option maxRecDepth 100000 in
set_option maxHeartbeats 8000000 in
theorem gsign_c {R : World → Prop} {H : Bs → Bs} (C : CHash R H) (w0 : World) (hr : R w0) (h wd : Nat) (hh1 : 1 ≤ h) (hh : h ≤ 6) (hw : IsW wd) (xi xs xm : Value) (id seed msg : Bs) (B : Nat) (hi : BytesAt w0 xi id) (hs : BytesAt w0 xs seed) (hm : BytesAt w0 xm msg) (li : id.length ≤ 1000) (lse : seed.length ≤ 1000) (lm : msg.length ≤ 1000)
    (hF : Fill w0 B (2 * 2 ^ h) (fun j => if 0 < j then some (nd H id seed h wd j) else none)) (q : Nat) (hq : q < 2 ^ h) :
    GivesB w0 35 #[.agg #[.int .i64 (h : Int), .int .i64 (wd : Int), .int .i64 (tyW wd : Int), .int .i64 (pW wd : Int), .int .i64 (lsW wd : Int), xi, xs, .slice (some ⟨B, 0, none⟩) (2 * 2 ^ h) (2 * 2 ^ h)], .int .i64 (q : Int), xm] (oneSig H id seed h wd q msg) := by
  have HLs := fun w hr' h1 h2 h3 hq => lsign_c C w hr' xi xs xm id seed msg h1 h2 h3 li lse lm wd hw q hq
  have Hkd := fun w => kind_c h hh w
  have hT : tyH h < 4294967296 := by unfold tyH; split <;> omega
  have HT2 := fun w => four_any w (tyH h) hT
  have hOne : oneSig H id seed h wd q msg = ([big q 4, leafSig H id seed wd q msg, big (tyH h) 4] ++ (List.range h).map fun z => nd H id seed h wd ((2 ^ h + q) / 2 ^ z ^^^ 1)).flatten := by
    rw [List.flatten_append, beside_flat H id seed h wd q hq h (Nat.le_refl _)]
    unfold oneSig leafSig
    simp
  have hOl := len_one H C.len id seed h wd q msg
  have hOl2 : (oneSig H id seed h wd q msg).length ≤ 1000000 := by
    rw [hOl]; unfold sizeOf; have := p_w hw; omega
  have hLl : leafSig H id seed wd q msg ≠ [] := ne_of_len (len_leafSig H C.len id seed wd q msg) (by omega)
  obtain ⟨LS, hLS⟩ : ∃ LS, leafSig H id seed wd q msg = LS := ⟨_, rfl⟩
  rw [hLS] at hOne hLl HLs
  obtain ⟨si, ni, ci, rfl⟩ := hi.forms
  obtain ⟨ss, ns, cs, rfl⟩ := hs.forms
  obtain ⟨sm, nm, cm, rfl⟩ := hm.forms
  obtain ⟨TH, hTH⟩ : ∃ TH, tyH h = TH := ⟨_, rfl⟩
  rw [hTH] at Hkd HT2 hOne
  obtain ⟨p, hp⟩ : ∃ p, pW wd = p := ⟨_, rfl⟩
  obtain ⟨t, ht⟩ : ∃ t, tyW wd = t := ⟨_, rfl⟩
  obtain ⟨s, hls⟩ : ∃ s : Int, (lsW wd : Int) = s := ⟨_, rfl⟩
  have HLv := fun w => leaves_c w h hh (wd : Int) (t : Int) (p : Int) s
  obtain ⟨N, hN⟩ : ∃ N, 2 ^ h = N := ⟨_, rfl⟩
  have hNb : N ≤ 64 := by rw [← hN]; exact Nat.pow_le_pow_right (show 0 < 2 by omega) hh
  obtain ⟨nn, hnn⟩ : ∃ nn : Nat → Bs, nd H id seed h wd = nn := ⟨_, rfl⟩
  have hnz : ∀ j, nn j ≠ [] := fun j => by rw [← hnn]; exact ne_of_len (len_nd H C.len id seed h wd j) (by omega)
  have Hnz := hide hnz
  rw [hp, ht, hls] at HLs
  rw [hN] at HLv hq hF hOne
  rw [hp, ht, hls, hN]
  have hfn : (fun j => if 0 < j then some (nd H id seed h wd j) else none) = (fun j => if 0 < j then some (nn j) else none) := by rw [← hnn]
  rw [hfn] at hF
  rw [hnn] at hOne
  obtain ⟨M, hM⟩ : ∃ M, 2 * N = M := ⟨_, rfl⟩
  rw [hM] at hF ⊢
  obtain ⟨G, hG⟩ : ∃ G, N + q = G := ⟨_, rfl⟩
  rw [hG] at hOne
  have HOne := hide hOne
  rw [hOne]
  have hOl3 : ([big q 4, LS, big TH 4] ++ (List.range h).map fun z => nn (G / 2 ^ z ^^^ 1)).flatten.length ≤ 1000000 := by rw [← hOne]; exact hOl2
  have HOl := hide hOl3
  have HLsh := hide HLs
  have HLvh := hide HLv
  have Hkh := hide Hkd
  have HTh := hide HT2
  have hbA : Below w0.heap.size w0 (w0.alloc (.cells #[.int .i64 (h : Int), .int .i64 (wd : Int), .int .i64 (t : Int), .int .i64 (p : Int), .int .i64 s, .slice si ni ci, .slice ss ns cs, .slice (some ⟨B, 0, none⟩) M M] 65)) := (Below.refl _ _).alloc (Nat.le_refl _) _
  have hK := agg_new w0 [.int .i64 (h : Int), .int .i64 (wd : Int), .int .i64 (t : Int), .int .i64 (p : Int), .int .i64 s, .slice si ni ci, .slice ss ns cs, .slice (some ⟨B, 0, none⟩) M M] 65
  obtain ⟨wA, hwA⟩ : ∃ wA, w0.alloc (.cells #[.int .i64 (h : Int), .int .i64 (wd : Int), .int .i64 (t : Int), .int .i64 (p : Int), .int .i64 s, .slice si ni ci, .slice ss ns cs, .slice (some ⟨B, 0, none⟩) M M] 65) = wA := ⟨_, rfl⟩
  rw [hwA] at hbA hK
  have HK := hide hK
  have HKd := hide (hK.below (Below.refl _ _).drew)
  have HB := hide hbA
  have HBd := hide hbA.drew
  have HX := hide (hi.below hbA.drew)
  have HS := hide (hs.below hbA.drew)
  have HM := hide (hm.below hbA.drew)
  have HR := hide (C.below _ _ hr hbA.drew)
  have HF := hide (hF.below hbA.drew)
  have HC := hide C
  have Nb : (N : Int) ≤ 64 := by omega
  have qb : (q : Int) < (N : Int) := by omega
  have qb0 : (0 : Int) ≤ (q : Int) := by omega
  have hG1 : N ≤ G ∧ G < 2 * N := by omega
  have HG := hide hG
  have HN := hide hN
  have hLSn := hide hLl
  have hGi : (N : Int) + (q : Int) = (G : Int) := by omega
  have hGw : IntKind.i64.wrap (G : Int) = (G : Int) := IntWalk.i64_in _ (by omega)
  have c0 := (unhide HK).c 0 _ rfl
  have c1 := (unhide HK).c 1 _ rfl
  have c2 := (unhide HK).c 2 _ rfl
  have c3 := (unhide HK).c 3 _ rfl
  have c4 := (unhide HK).c 4 _ rfl
  have c5 := (unhide HK).c 5 _ rfl
  have c6 := (unhide HK).c 6 _ rfl
  have c7 := (unhide HK).c 7 _ rfl
  clear hi hs hm hr hbA hK hF C HLs Hkd HT2 HLv hOne hOl hOl2 hOl3 hLl hLS hTH hp ht hls hN hnn hfn hG hnz
  go_enter Tryd.func35, Tryd.ntmps35
  go_wp2
  go_region_held3 (fun w' => w'.cell? ⟨w0.heap.size, 0, none⟩ = some (.int .i64 (h : Int)) ∧ w'.cell? ⟨w0.heap.size, 1, none⟩ = some (.int .i64 (wd : Int)) ∧ w'.cell? ⟨w0.heap.size, 2, none⟩ = some (.int .i64 (t : Int)) ∧ w'.cell? ⟨w0.heap.size, 3, none⟩ = some (.int .i64 (p : Int)) ∧ w'.cell? ⟨w0.heap.size, 4, none⟩ = some (.int .i64 s) ∧ w'.cell? ⟨w0.heap.size, 5, none⟩ = some (.slice si ni ci) ∧ w'.cell? ⟨w0.heap.size, 6, none⟩ = some (.slice ss ns cs) ∧ w'.cell? ⟨w0.heap.size, 7, none⟩ = some (.slice (some ⟨B, 0, none⟩) M M)) (go_keep)
    ((first
      | (go_at_call_of 26 (Value.int IntKind.i64 (q : Int)); refine (four_any wA.drew q (by omega)).mono ?_; rintro ee w1 ⟨v1, rfl, hR1⟩; obtain ⟨s1, n1, c1', rfl⟩ := hR1.bytes.forms; have HV1 := hide hR1.bytes; have HW1 := hide hR1.b; have HK1 := hide ((unhide HKd).below hR1.b); have m0 := (unhide HK1).c 0 _ rfl; have m1 := (unhide HK1).c 1 _ rfl; have m2 := (unhide HK1).c 2 _ rfl; have m3 := (unhide HK1).c 3 _ rfl; have m4 := (unhide HK1).c 4 _ rfl; have m5 := (unhide HK1).c 5 _ rfl; have m6 := (unhide HK1).c 6 _ rfl; have m7 := (unhide HK1).c 7 _ rfl; clear hR1)
      | (go_at_call 51; refine (tleaf_c w1 _ _ _ _ _ _ _ id seed ((unhide HX).below (unhide HW1)) ((unhide HS).below (unhide HW1)) _).mono ?_; rintro ee w2 ⟨rfl, hb2⟩; have HV12 := hide ((unhide HV1).below hb2); have HW2 := hide ((unhide HW1).trans (hb2.mono (unhide HW1).size)); have HK2 := hide ((unhide HK1).below hb2); have g0 := (unhide HK2).c 0 _ rfl; have g1 := (unhide HK2).c 1 _ rfl; have g2 := (unhide HK2).c 2 _ rfl; have g3 := (unhide HK2).c 3 _ rfl; have g4 := (unhide HK2).c 4 _ rfl; have g5 := (unhide HK2).c 5 _ rfl; have g6 := (unhide HK2).c 6 _ rfl; have g7 := (unhide HK2).c 7 _ rfl; clear hb2)
      | (go_at_call 57; refine ((unhide HLsh) w2 ((unhide HC).below _ _ (unhide HR) (unhide HW2)) ((unhide HX).below (unhide HW2)) ((unhide HS).below (unhide HW2)) ((unhide HM).below (unhide HW2)) (by omega)).mono ?_; rintro ee w3 ⟨v3, rfl, hR3⟩; obtain ⟨s3, n3, c3', rfl⟩ := hR3.bytes.forms; have HV3 := hide hR3.bytes; have HV13 := hide ((unhide HV12).below hR3.b); have HW3 := hide ((unhide HW2).trans (hR3.b.mono (unhide HW2).size)); have HK3 := hide ((unhide HK2).below hR3.b); have o0 := (unhide HK3).c 0 _ rfl; have o1 := (unhide HK3).c 1 _ rfl; have o2 := (unhide HK3).c 2 _ rfl; have o3 := (unhide HK3).c 3 _ rfl; have o4 := (unhide HK3).c 4 _ rfl; have o5 := (unhide HK3).c 5 _ rfl; have o6 := (unhide HK3).c 6 _ rfl; have o7 := (unhide HK3).c 7 _ rfl; clear hR3)
      | (go_at_call 53; refine ((unhide Hkh) _).mono ?_; rintro ee w4 ⟨rfl, hw4⟩; replace hw4 := hw4.symm; subst hw4)
      | (go_at_call_of 26 (Value.int IntKind.i64 (TH : Int)); refine ((unhide HTh) w3).mono ?_; rintro ee w5 ⟨v5, rfl, hR5⟩; obtain ⟨s5, n5, c5', rfl⟩ := hR5.bytes.forms; have HV5 := hide hR5.bytes; have HV35 := hide ((unhide HV3).below hR5.b); have HV15 := hide ((unhide HV13).below hR5.b); have HW5 := hide ((unhide HW3).trans (hR5.b.mono (unhide HW3).size)); have HK5 := hide ((unhide HK3).below hR5.b); have r0 := (unhide HK5).c 0 _ rfl; have r1 := (unhide HK5).c 1 _ rfl; have r2 := (unhide HK5).c 2 _ rfl; have r3 := (unhide HK5).c 3 _ rfl; have r4 := (unhide HK5).c 4 _ rfl; have r5 := (unhide HK5).c 5 _ rfl; have r6 := (unhide HK5).c 6 _ rfl; have r7 := (unhide HK5).c 7 _ rfl; clear hR5)))
  have hL0 := lrow_new3 w5 _ _ _ (big q 4) LS (big TH 4) (unhide HV15) (unhide HV35) (unhide HV5) (ne_of_len (len_big q 4) (by omega)) (unhide hLSn) (ne_of_len (len_big TH 4) (by omega))
  obtain ⟨w6, hw6⟩ : ∃ w6, w5.alloc (.cells #[.slice s1 n1 c1', .slice s3 n3 c3', .slice s5 n5 c5'] 24) = w6 := ⟨_, rfl⟩
  rw [hw6] at hL0
  have HL6 := hide hL0
  have HKw := HK5
  have HFw := hide ((unhide HF).below (unhide HW5))
  have HK6 := hide ((unhide HKw).below hL0.b)
  have HbW := hide ((unhide HBd).trans ((unhide HW5).mono (unhide HBd).size))
  have k0 := (unhide HK6).c 0 _ rfl
  have k1 := (unhide HK6).c 1 _ rfl
  have k2 := (unhide HK6).c 2 _ rfl
  have k3 := (unhide HK6).c 3 _ rfl
  have k4 := (unhide HK6).c 4 _ rfl
  have k5 := (unhide HK6).c 5 _ rfl
  have k6 := (unhide HK6).c 6 _ rfl
  have k7 := (unhide HK6).c 7 _ rfl
  clear hL0 HV1 HV12 HV13 HV15 HV3 HV35 HV5 HW1 HW2 HW3 HK1 HK2 HK3 HKd HK
  rw [hw6]
  go_wp2_with fail
  refine ((unhide HLvh) w6).mono ?_
  rintro ee w7 ⟨rfl, hb7⟩
  have HL7 : Hid (LRow w5 w7 (.slice (some ⟨w5.heap.size, 0, none⟩) 3 3) ([big q 4, LS, big TH 4] ++ (List.range 0).map fun z => nn (G / 2 ^ z ^^^ 1))) := hide (by simpa using (unhide HL6).call hb7)
  clear hb7 k0 k1 k2 k3 k4 k5 k6 k7 HL6 HK6 hw6 hwA
  go_wp2
  go_loopw [7, 8] (fun u pp wr => ∃ z X : Nat, z ≤ h ∧ pp = .int .i64 (X : Int) ∧ Hid (G / 2 ^ z = X) ∧ Hid (LRow w5 wr u ([big q 4, LS, big TH 4] ++ (List.range z).map fun z => nn (G / 2 ^ z ^^^ 1)))) (fun _ pp _ => (intOf pp).toNat)
  case atStart => exact ⟨0, G, by omega, rfl, hide (by simp), HL7⟩
  case round =>
    clear HL7 hGi hGw
    obtain ⟨z, X, hz, rfl, HXz, HL⟩ := hrel
    rename World => wc
    have hpz : N = 2 ^ (h - z) * 2 ^ z := by rw [← unhide HN, ← Nat.pow_add]; congr 1; omega
    have hX1 : 2 ^ (h - z) ≤ X := by
      rw [← unhide HXz, Nat.le_div_iff_mul_le (Nat.pow_pos (by omega)), ← hpz]; exact hG1.1
    have hX2 : X < 2 ^ (h - z + 1) := by
      rw [← unhide HXz, Nat.div_lt_iff_lt_mul (Nat.pow_pos (by omega)), Nat.pow_succ, Nat.mul_assoc, Nat.mul_comm 2, ← Nat.mul_assoc, ← hpz]; omega
    have hX3 : X < 128 := by rw [← unhide HXz]; exact Nat.lt_of_le_of_lt (Nat.div_le_self _ _) (by omega)
    have Xb : (X : Int) < 128 := by omega
    have Xb0 : (0 : Int) ≤ (X : Int) := by omega
    by_cases hlt : z < h
    · have he : 2 ^ (h - z) = 2 * 2 ^ (h - z - 1) := by rw [← Nat.pow_succ']; congr 1; omega
      have hp1 : 1 ≤ 2 ^ (h - z - 1) := Nat.pow_pos (by omega)
      have hX4 : 2 ≤ X := by omega
      have hxr := xor_dec X hX3
      have hxb : 1 ≤ X ^^^ 1 ∧ X ^^^ 1 < M := by
        have hXG : X ≤ G := by rw [← unhide HXz]; exact Nat.div_le_self _ _
        rw [xor_one]
        split
        · omega
        · have : X < M - 1 ∨ X = M - 1 := by omega
          rcases this with h5 | h5
          · omega
          · exfalso; omega
      obtain ⟨r, hr⟩ : ∃ r, X ^^^ 1 = r := ⟨_, rfl⟩
      rw [hr] at hxr hxb
      have HKc := hide ((unhide HKw).below (unhide HL).b)
      have k7 := (unhide HKc).c 7 _ rfl
      obtain ⟨vn, cn0, bn0⟩ := (unhide HFw).get r hxb.2 (nn r) (if_pos (show 0 < r from hxb.1))
      have cn : wc.cell? ⟨B, r, none⟩ = some vn := by rw [(unhide HL).b.cell (p := ⟨B, r, none⟩) (unhide HFw).lt]; exact cn0
      obtain ⟨sn, nn', kn, rfl⟩ := bn0.forms
      have Hbn := hide (bn0.below (unhide HL).b)
      have Hap : Hid (∀ u, OwnV 24 wc w5.heap.size u ((unhide HL).e.choose) → Apart u (.slice sn nn' kn)) := fun u hu k hk e => by
        have h1 := hu.fresh k hk
        have h2 := ValsAt.old bn0 (by simpa using unhide Hnz r) k e
        omega
      have Hap2 := hide (unhide Hap _ (unhide HL).e.choose_spec.1)
      have hbl := (Below.refl wc.heap.size wc).alloc (Nat.le_refl _) (.cells #[Value.slice sn nn' kn] 24)
      have HL8 := hide ((unhide HL).call hbl)
      have Hbn8 := hide ((unhide Hbn).below hbl)
      have HZ8 := hide (vals_new wc [Value.slice sn nn' kn] 24)
      have rb : (r : Int) < (M : Int) := by omega
      have rb0 : (0 : Int) ≤ (r : Int) := by omega
      have hd2 : (1 : Int) < (X : Int) := by omega
      obtain ⟨Y, hY⟩ : ∃ Y, X / 2 = Y := ⟨_, rfl⟩
      have hYi : (X : Int) / 2 = (Y : Int) := by omega
      have hYt : (X : Int).tdiv 2 = (Y : Int) := by rw [Int.tdiv_eq_ediv_of_nonneg (by omega)]; omega
      have HY : Hid (G / 2 ^ (z + 1) = Y) := by
        show _ = _
        rw [Nat.pow_succ, ← Nat.div_div_eq_div_mul, unhide HXz, hY]
      have HYl : Hid (Y < X) := by show _ < _; omega
      have HrX : Hid (nn r = nn (G / 2 ^ z ^^^ 1)) := by show _ = _; rw [unhide HXz, hr]
      have Hnr := hide (unhide Hnz r)
      have Hlen : Hid (([big q 4, LS, big TH 4] ++ (List.range z).map fun z => nn (G / 2 ^ z ^^^ 1)).length ≤ 1000000) := by
        show _ ≤ _
        rw [List.length_append, List.length_map, List.length_range]
        simp only [List.length_cons, List.length_nil]
        omega
      have Hq4 : Hid (q < 4294967296) := by show _ < _; omega
      clear hpz hX1 hX2 hX3 hX4 he hp1 hxb hr cn0 bn0 hbl hY Hap Hbn
      go_wp2_with (at_builtin; refine wpList_append_list rfl _ _ rfl _ _ (Value.slice sn nn' kn) _ (nn r) rfl (unhide HL8) rfl (unhide HZ8) (unhide Hbn8) (unhide Hnr) (unhide Hap2) (unhide Hlen) ?_
                   intro v9 w9 hL9 hg9
                   have HL9 := hide hL9
                   clear hL9 hg9)
      have HLn : Hid (LRow w5 w9 v9 ([big q 4, LS, big TH 4] ++ (List.range (z + 1)).map fun z => nn (G / 2 ^ z ^^^ 1))) := by
        show LRow _ _ _ _
        have h9 := unhide HL9
        rw [unhide HrX, List.append_assoc] at h9
        rw [List.range_succ, List.map_append]
        exact h9
      go_roundw
      case rel =>
        first
          | exact ⟨z + 1, Y, by omega, by go_num, HY, HLn⟩
          | ((repeat apply Exists.intro); exact ⟨⟨z + 1, Y, by omega, by go_num, HY, HLn⟩, rfl⟩)
      case measure => have := unhide HYl; simp [intOf]; omega
    · obtain rfl : z = h := by omega
      have hX5 : X = 1 := by rw [Nat.sub_self] at hX1 hX2; omega
      subst hX5
      clear hpz hX1 hX2 hX3 hlt
      go_wp2_with fail
      refine (concat_any wc _ _ (unhide HL).ll (unhide HOl) (by simp; omega)).mono ?_
      rintro ee w8 ⟨v8, rfl, hR8⟩
      have HFi := hide ((hR8.up (unhide HL).b).up (unhide HbW))
      clear hR8
      go_wp2
      go_ret
      exact ⟨_, rfl, unhide HFi⟩
end Go.Proofs.YtlhjifdahagkaaaDoor
