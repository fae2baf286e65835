/-
  The walk of the statement LmsVerifies.
-/
import Derived.Test.YtlhjifdahagkaaaDoorThree7Z
import Derived.Test.YtlhjifdahagkaaaDoorOpens7Z
namespace Go.Proofs.YtlhjifdahagkaaaDoor
open Go.RowKit
theorem xor8 : ∀ c : Nat, c < 256 → ∀ b : Nat, b < 8 → bits .xor .u8 (c : Int) ((2 : Int) ^ b) = ((c ^^^ 2 ^ b : Nat) : Int) ∧ c ^^^ 2 ^ b < 256 := by decide +kernel
theorem shl8_ : ∀ b : Nat, b < 8 → IntKind.u8.wrap ((2 : Int) ^ b) = (2 : Int) ^ b := by decide +kernel
set_option maxRecDepth 100000 in
set_option maxHeartbeats 4000000 in
theorem verifies_true {R : World → Prop} {H : Bs → Bs} (C : Lms R H) (w0 : World) (hR : R w0) (L h wd : Int) (n at_ bit part : Int) (xs xm : Value) (seed msg : Bs) (hs : BytesAt w0 xs seed) (hm : BytesAt w0 xm msg) (ls : (seed.length : Int) ≤ 9223372036854775807) (lm : (msg.length : Int) ≤ 9223372036854775807) :
    Calls Tryd.prog 6 #[shapeV L h wd, xs, .int .i64 n, xm, .int .i64 at_, .int .i64 bit, .int .i64 part] w0 fun e w' => e = .returned (.bool true) ∧ Below w0.heap.size w0 w' := by
  have HC := hide C
  obtain ⟨sps, cs, rfl, _, _, _⟩ := bytes_open hs
  obtain ⟨spm, cm, rfl, _, _, _⟩ := bytes_open hm
  unfold shapeV
  obtain ⟨wA, hwA⟩ : ∃ wA, w0.alloc (.cells #[.int .i64 L, .int .i64 h, .int .i64 wd] 23) = wA := ⟨_, rfl⟩
  have hbA : Below w0.heap.size w0 wA := by rw [← hwA]; exact (Below.refl _ _).alloc (Nat.le_refl _) _
  have HRA := hide (C.below w0 wA hR hbA)
  have HS := hide (hs.below hbA)
  have HM := hide (hm.below hbA)
  have HBA := hide hbA
  have HSh : Hid (∀ w, Below wA.heap.size wA w → w.cell? ⟨w0.heap.size, 0, none⟩ = some (.int .i64 L) ∧ w.cell? ⟨w0.heap.size, 1, none⟩ = some (.int .i64 h) ∧ w.cell? ⟨w0.heap.size, 2, none⟩ = some (.int .i64 wd)) := fun w hb => by
    have hlt : w0.heap.size < wA.heap.size := by rw [← hwA]; simp
    refine ⟨?_, ?_, ?_⟩
    · rw [hb.cell (p := ⟨w0.heap.size, 0, none⟩) hlt, ← hwA, cell_of_row _ _ _ _ 23 (0, 0) (heap_alloc_new w0 _)]; rfl
    · rw [hb.cell (p := ⟨w0.heap.size, 1, none⟩) hlt, ← hwA, cell_of_row _ _ _ _ 23 (0, 0) (heap_alloc_new w0 _)]; rfl
    · rw [hb.cell (p := ⟨w0.heap.size, 2, none⟩) hlt, ← hwA, cell_of_row _ _ _ _ 23 (0, 0) (heap_alloc_new w0 _)]; rfl
  have Hanc := hide (anchor_any C wA (unhide HRA))
  clear C hR hs hm hbA
  go_enter Tryd.func6, Tryd.ntmps6
  go_wp2_with fail
  refine (unhide Hanc).mono ?_
  rintro e w1 ⟨rfl, hb⟩
  have HB1 := hide hb
  obtain ⟨c0, c1, c2⟩ := unhide HSh w1 hb
  clear hb Hanc
  obtain ⟨Z16, hZ16⟩ : ∃ Z16, Obj.cells (List.replicate 16 (Value.int .u8 0)).toArray 5 = Z16 := ⟨_, rfl⟩
  have mk16 : (Instr.makeSlice 24 (.int .i64 16) (.int .i64 16)).run Tryd.prog w1 = .ok (.slice (some ⟨w1.heap.size, 0, none⟩) 16 16) (w1.alloc Z16) := by rw [← hZ16]; exact make_run w1 16 (by omega)
  have hbZ : Below w1.heap.size w1 (w1.alloc Z16) := (Below.refl _ _).alloc (Nat.le_refl _) _
  obtain ⟨kc, Wc, id, hcp, hid, lid, hbc⟩ := copy16 (w1.alloc Z16) w1.heap.size (by rw [← hZ16]; exact heap_alloc_new w1 _) sps cs seed (((unhide HS).below (unhide HB1)).below hbZ)
  have HBc := hide ((unhide HB1).trans ((hbc w1.heap.size w1 hbZ (Nat.le_refl _)).mono (unhide HB1).size))
  obtain ⟨xi, hxi⟩ : ∃ xi, Value.slice (some ⟨w1.heap.size, 0, none⟩) 16 16 = xi := ⟨_, rfl⟩
  have hxi2 : ∃ sp c, xi = .slice sp id.length c := ⟨_, _, by rw [← hxi, lid]⟩
  rw [hxi] at hcp mk16 hid
  clear hxi
  obtain ⟨spi, ci, rfl⟩ := hxi2
  have HI := hide hid
  have Hlid := hide lid
  obtain ⟨c0, c1, c2⟩ := unhide HSh Wc (unhide HBc)
  have Hkey := hide (key_any Wc L h wd _ _ id seed (unhide HI) ((unhide HS).below (unhide HBc)))
  unfold shapeV at Hkey
  clear hZ16 hbZ hid lid hbc
  go_wp2_with fail
  refine (unhide Hkey).mono ?_
  rintro e w3 ⟨rfl, hb⟩
  have HB3 := hide ((unhide HBc).trans (hb.mono (unhide HBc).size))
  obtain ⟨d0, d1, d2⟩ := unhide HSh w3 (unhide HB3)
  have HT := hide (two_new (L := L) (h := h) (wd := wd) ((unhide HI).below hb) ((unhide HS).below (unhide HB3)) (unhide HB3))
  obtain ⟨f0, f1, f2⟩ := unhide HSh _ (unhide HT).b
  clear hb Hkey c0 c1 c2 mk16 hcp
  unfold keyV at *
  go_wp2_with fail
  obtain ⟨A, hA⟩ : ∃ A, w3.heap.size = A := ⟨_, rfl⟩
  obtain ⟨B, hB⟩ : ∃ B, w3.heap.size + 1 = B := ⟨_, rfl⟩
  obtain ⟨W4, hW4⟩ : ∃ W4, (w3.alloc (.cells #[.int .i64 L, .int .i64 h, .int .i64 wd, .slice spi id.length ci, .slice sps seed.length cs] 28)).alloc (.cells #[.int .i64 L, .int .i64 h, .int .i64 wd, .slice spi id.length ci, .slice sps seed.length cs] 29) = W4 := ⟨_, rfl⟩
  rw [hW4, hB, hA]
  rw [hW4, hB, hA] at HT
  clear hW4 hB hA d0 d1 d2 f0 f1 f2
  have HRw : Hid (∀ w, Below wA.heap.size wA w → R w) := fun w hb => (unhide HC).below wA w (unhide HRA) hb
  have Hsm := hide (small_any W4 L h wd)
  unfold shapeV at Hsm
  refine (unhide Hsm).mono ?_
  rintro e w5 ⟨b, rfl, hb⟩
  have HT5 := hide ((unhide HT).call hb)
  clear hb Hsm HT
  have HFin : Hid (∀ w, Below wA.heap.size wA w → Below w0.heap.size w0 w) := fun w hb => (unhide HBA).trans (hb.mono (unhide HBA).size)
  cases b with
  | false =>
    go_wp2
    go_ret
    exact ⟨rfl, unhide HFin _ (unhide HT5).b⟩
  | true =>
    have j0 := (unhide HT5).kb.c 0 _ rfl
    have j1 := (unhide HT5).kb.c 1 _ rfl
    have j2 := (unhide HT5).kb.c 2 _ rfl
    have j3 := (unhide HT5).kb.c 3 _ rfl
    have j4 := (unhide HT5).kb.c 4 _ rfl
    have Hri := hide (right_any w5 L h wd _ _ id seed (unhide HT5).hi (unhide HT5).hs (by have := unhide Hlid; omega) ls)
    unfold keyV at Hri
    go_wp2_with fail
    refine (unhide Hri).mono ?_
    rintro e w6 ⟨hor, hb⟩
    have HT6 := hide ((unhide HT5).call hb)
    clear hb Hri HT5 j0 j1 j2 j3 j4
    rcases hor with ⟨hr, rfl⟩ | ⟨_, rfl⟩
    case inr =>
      go_wp2
      go_ret
      exact ⟨rfl, unhide HFin _ (unhide HT6).b⟩
    by_cases hn0 : n < 0
    · have d1 : decide (n < 0) = true := by simp; omega
      go_wp2
      go_ret
      exact ⟨rfl, unhide HFin _ (unhide HT6).b⟩
    have d1 : decide (n < 0) = false := by simp; omega
    obtain ⟨n, rfl⟩ : ∃ k : Nat, n = (k : Int) := ⟨n.toNat, by omega⟩
    obtain ⟨hw, h1, h2, h3, h4, h5, h6⟩ := hr
    obtain ⟨L, rfl⟩ : ∃ k : Nat, L = (k : Int) := ⟨L.toNat, by omega⟩
    obtain ⟨h, rfl⟩ : ∃ k : Nat, h = (k : Int) := ⟨h.toNat, by omega⟩
    obtain ⟨wd, rfl⟩ : ∃ k : Nat, wd = (k : Int) := ⟨wd.toNat, by omega⟩
    have hr : RightP (L : Int) (h : Int) (wd : Int) id seed := ⟨hw, h1, h2, h3, h4, h5, h6⟩
    have Hr := hide hr
    have Hco := hide (count_any w6 L h wd _ _ id seed (unhide HT6).hi (unhide HT6).hs hr)
    unfold keyV at Hco
    obtain ⟨N, hN⟩ : ∃ N, 2 ^ (h * L) = N := ⟨_, rfl⟩
    rw [hN] at Hco
    have HN := hide hN
    have j0 := (unhide HT6).kb.c 0 _ rfl
    have j1 := (unhide HT6).kb.c 1 _ rfl
    have j2 := (unhide HT6).kb.c 2 _ rfl
    have j3 := (unhide HT6).kb.c 3 _ rfl
    have j4 := (unhide HT6).kb.c 4 _ rfl
    clear hw hr hN hn0 h5 h6
    go_wp2_with fail
    refine (unhide Hco).mono ?_
    rintro e w7 ⟨rfl, hb⟩
    have HT7 := hide ((unhide HT6).call hb)
    clear hb Hco HT6 j0 j1 j2 j3 j4
    by_cases hnN : N ≤ n
    · have d2 : decide ((N : Int) ≤ (n : Int)) = true := by simp; omega
      have d2' : decide (N ≤ n) = true := by simp; omega
      go_wp2
      go_ret
      exact ⟨rfl, unhide HFin _ (unhide HT7).b⟩
    have d2 : decide ((N : Int) ≤ (n : Int)) = false := by simp; omega
    have d2' : decide (N ≤ n) = false := by simp; omega
    by_cases l3 : 500 < msg.length
    · have e3 : decide ((500 : Int) < (msg.length : Int)) = true := by simp; omega
      have e3' : decide (500 < msg.length) = true := by simp; omega
      go_wp2
      go_ret
      exact ⟨rfl, unhide HFin _ (unhide HT7).b⟩
    have e3 : decide ((500 : Int) < (msg.length : Int)) = false := by simp; omega
    have e3' : decide (500 < msg.length) = false := by simp; omega
    by_cases ha0 : at_ < 0
    · have d3 : decide (at_ < 0) = true := by simp; omega
      go_wp2
      go_ret
      exact ⟨rfl, unhide HFin _ (unhide HT7).b⟩
    have d3 : decide (at_ < 0) = false := by simp; omega
    by_cases hb0 : bit < 0
    · have d4 : decide (bit < 0) = true := by simp; omega
      go_wp2
      go_ret
      exact ⟨rfl, unhide HFin _ (unhide HT7).b⟩
    have d4 : decide (bit < 0) = false := by simp; omega
    by_cases hb7 : 7 < bit
    · have d5 : decide (7 < bit) = true := by simp; omega
      go_wp2
      go_ret
      exact ⟨rfl, unhide HFin _ (unhide HT7).b⟩
    have d5 : decide (7 < bit) = false := by simp; omega
    obtain ⟨at_, rfl⟩ : ∃ k : Nat, at_ = (k : Int) := ⟨at_.toNat, by omega⟩
    obtain ⟨bit, rfl⟩ : ∃ k : Nat, bit = (k : Int) := ⟨bit.toNat, by omega⟩
    have Hn : Hid (n < 2 ^ (h * L)) := by show _ < _; have := unhide HN; omega
    have hWd : IsW wd := isW_of (unhide Hr).1
    have Hpub := hide (public_any (unhide HC).hash w7 L h wd _ _ id seed (unhide HT7).hi (unhide HT7).hs (unhide Hr))
    have Hlm : Hid (msg.length ≤ 500) := by show _ ≤ _; omega
    have Hsig := hide (fun w (t : TwoKeys wA w A B (L : Int) (h : Int) (wd : Int) (.slice spi id.length ci) (.slice sps seed.length cs) id seed) => sign_any (unhide HC).hash w L h wd n _ _ _ id seed msg t.hi t.hs ((unhide HM).below t.b) (by have := unhide Hlm; omega) (unhide Hr) (unhide Hn))
    have HlP := hide (len_public H (unhide HC).hash.len L h wd (id := id) (seed := seed) (unhide Hr).2.2.2.2.2.1)
    have HlS := hide (len_sign3 H (unhide HC).hash.len L h wd n id seed msg (by omega) (by omega) hWd)
    have HlS1 := hide (len_sign1 H L h wd n id seed msg)
    obtain ⟨P, hP⟩ : ∃ P, publicOf H L h wd id seed = P := ⟨_, rfl⟩
    obtain ⟨S, hS⟩ : ∃ S, signOf H L h wd id seed n msg = S := ⟨_, rfl⟩
    rw [hP] at Hpub HlP
    rw [hS] at HlS HlS1
    simp only [hS] at Hsig
    unfold keyV at Hpub Hsig
    have k0 := (unhide HT7).kb.c 0 _ rfl
    have k1 := (unhide HT7).kb.c 1 _ rfl
    have k2 := (unhide HT7).kb.c 2 _ rfl
    have k3 := (unhide HT7).kb.c 3 _ rfl
    have k4 := (unhide HT7).kb.c 4 _ rfl
    clear hP hS
    go_wp2_with fail
    refine (unhide Hpub).mono ?_
    rintro e w8 ⟨v8, rfl, hR⟩
    have HR8 := hide hR
    have HT8 := hide ((unhide HT7).call hR.b)
    have q0 := (unhide HT8).kb.c 0 _ rfl
    have q1 := (unhide HT8).kb.c 1 _ rfl
    have q2 := (unhide HT8).kb.c 2 _ rfl
    have q3 := (unhide HT8).kb.c 3 _ rfl
    have q4 := (unhide HT8).kb.c 4 _ rfl
    have HB7 := hide (unhide HT7).b
    clear hR Hpub HT7 k0 k1 k2 k3 k4
    go_wp2_with fail
    refine (unhide Hsig w8 (unhide HT8)).mono ?_
    rintro e w9 ⟨v9, rfl, hR⟩
    have HR9 := hide hR
    have HT9 := hide ((unhide HT8).call hR.b)
    have HB8 := hide (unhide HT8).b
    clear hR Hsig HT8 q0 q1 q2 q3 q4
    obtain ⟨b8, c8, _, h8, _⟩ := poke (unhide HR8).own (i := 0) (by rw [unhide HlP]; omega)
    obtain ⟨b9, c9, _, h9, _⟩ := poke (unhide HR9).own (i := 0) (unhide HlS1)
    subst h8
    subst h9
    have hbE : Below w9.heap.size w9 (w9.alloc (.cells #[] 5)) := (Below.refl _ _).alloc (Nat.le_refl _) _
    have HOE := hide (ownb_empty w9)
    have HbE := hide hbE
    have HME := hide (((unhide HM).below (unhide HT9).b).below hbE)
    have HsE := hide hbE.size
    have HlE : Hid (([] : Bs).length + msg.length ≤ 1073741824) := by show _ ≤ _; have := unhide Hlm; simp; omega
    have Hthree : Hid (∀ w10 v10, OwnB w10 w9.heap.size v10 msg → Below w9.heap.size w9 w10 → Three wA w10 (.slice (some ⟨b8, 0, none⟩) P.length c8) (.slice (some ⟨b9, 0, none⟩) S.length c9) v10 P S msg) := fun w10 v10 hO hb => by
      have s7 := (unhide HB7).size
      have s8 := (unhide HR8).b.size
      have s9 := (unhide HR9).b.size
      have hb2 := (unhide HR9).b.trans (hb.mono s9)
      refine ⟨OwnB.mono (OwnB.below (unhide HR8).own hb2) s7, OwnB.mono (OwnB.below (unhide HR9).own hb) (by omega), OwnB.mono hO (by omega), fun k hk hq => ?_, fun k hk hq => ?_, fun k hk hq => ?_, (unhide HT9).b.trans (hb.mono (unhide HT9).b.size)⟩
      · have h1 := (World.ownsRow.lt (unhide HR8).own k hk).2
        have h2 := (unhide HR9).own.fresh k hq
        omega
      · have h1 := (World.ownsRow.lt (unhide HR8).own k hk).2
        have h2 := hO.fresh k hq
        omega
      · have h1 := (World.ownsRow.lt (unhide HR9).own k hk).2
        have h2 := hO.fresh k hq
        omega
    have HFin2 : Hid (∀ W vp vm vs p m s, Fin3 wA W vp vm vs p m s → (Calls Tryd.prog 20 #[vp, vm, vs] W fun e w' => e = .returned (.bool (verifyB H p m s)) ∧ Below W.heap.size W w') ∧ ∀ W', Below W.heap.size W W' → Calls Tryd.prog 22 #[vp, vm, vs] W' fun e w' => e = .returned (.bool (verifyB H p m s)) ∧ Below W'.heap.size W' w') := fun W vp vm vs p m s f =>
      ⟨(unhide HC).verify W vp vm vs p m s (unhide HRw W f.b) f.hp f.hm f.hs f.lp f.lm f.ls, fun W' hb => verify_ref (unhide HC).hash W' vp vm vs p m s (f.hp.below hb) (f.hm.below hb) (f.hs.below hb) (by have := f.lm; omega) (by have := f.ls; omega)⟩
    have hb7i : bit < 8 := by omega
    clear hbE HR8 HR9 HM HI HS
    by_cases hp1 : part = 1
    · subst hp1
      obtain ⟨i, hi⟩ : ∃ i, at_ % P.length = i := ⟨_, rfl⟩
      have hV0 : 0 < P.length := by first | exact unhide HlS1 | (rw [unhide HlP]; omega)
      have hil : i < P.length := by rw [← hi]; exact Nat.mod_lt _ hV0
      have qi : (at_ : Int).tmod (P.length : Int) = (i : Int) := by rw [Int.tmod_eq_emod_of_nonneg (by omega), ← hi]; simp
      have vl : (0 : Int) < (P.length : Int) := by omega
      have i0 : (0 : Int) ≤ (i : Int) := by omega
      have i1 : (i : Int) < (P.length : Int) := by omega
      have bb : (bit : Int) ≤ 7 := by omega
      have bb0 : (0 : Int) ≤ (bit : Int) := by omega
      have hsh := shl8_ bit hb7i
      clear hi
      go_wp2_with (first
        | (at_builtin; refine wpList_append_bytes rfl _ _ rfl w9.heap.size (.slice (some ⟨w9.heap.size, 0, none⟩) 0 0) _ [] msg rfl (unhide HOE) rfl (unhide HME) (unhide HsE) (unhide HlE) ?_
           intro v10 w10 hO hg _
           rw [List.nil_append] at hO
           have H3 := hide (unhide Hthree w10 v10 hO (ownb_below (unhide HOE) hg (unhide HbE) (unhide HsE)))
           clear hO hg
           obtain ⟨bx, cx, cc, hv, hcc, hbx, hcell, hfr, hset⟩ := poke (unhide H3).op hil
           simp only [Value.slice.injEq, Option.some.injEq, Addr.mk.injEq] at hv
           obtain ⟨⟨rfl, _, _⟩, _, rfl⟩ := hv
           obtain ⟨hx, hrb⟩ := xor8 cc hcc bit hb7i
           obtain ⟨r, hr⟩ : ∃ r, cc ^^^ 2 ^ bit = r := ⟨_, rfl⟩
           rw [hr] at hx hrb
           have Hrb := hide hrb
           have ccb : (cc : Int) < 256 := by omega
           have Hset : Hid (∀ r : Nat, r < 256 → Three wA (w10.setCell ⟨b8, i, none⟩ (.int .u8 (r : Int))) (.slice (some ⟨b8, 0, none⟩) P.length c8) (.slice (some ⟨b9, 0, none⟩) S.length c9) v10 (P.set i (UInt8.ofNat r)) S msg) := fun r hr => (unhide H3).pokeP hbx (hset r hr)
           clear hset hcc hbx hr hrb))
      go_region
      have HF3 : Hid (Fin3 wA _ (.slice (some ⟨b8, 0, none⟩) P.length c8) v10 (.slice (some ⟨b9, 0, none⟩) S.length c9) (P.set i (UInt8.ofNat r)) msg S) := Three.fin (unhide Hset r (unhide Hrb)).drew (by rw [List.length_set, unhide HlP]; omega) (by have := unhide Hlm; omega) (by skip; have := unhide HlS; omega)
      obtain ⟨g1, g2⟩ := unhide HFin2 _ _ _ _ _ _ _ (unhide HF3)
      have G1 := hide g1
      have G2 := hide g2
      have HB3f := hide (unhide HF3).b
      clear g1 g2
      obtain ⟨bo, hbo⟩ : ∃ bo, verifyB H (P.set i (UInt8.ofNat r)) msg S = bo := ⟨_, rfl⟩
      rw [hbo] at G1 G2
      clear hbo
      have eb : (bo == bo) = true := by simp
      go_wp2_with fail
      refine (unhide G1).mono ?_
      rintro e w12 ⟨rfl, hb⟩
      have HB12 := hide hb
      clear hb
      go_wp2_with fail
      refine (unhide G2 w12 (unhide HB12)).mono ?_
      rintro e w13 ⟨rfl, hb⟩
      have HB13 : Hid (Below wA.heap.size wA w13) := by
        show Below _ _ _
        have h1 := (unhide HB3f).trans ((unhide HB12).mono (unhide HB3f).size)
        exact h1.trans (hb.mono h1.size)
      clear hb
      go_wp2
      go_ret
      exact ⟨rfl, unhide HFin _ (unhide HB13)⟩
    by_cases hp2 : part = 2
    · subst hp2
      obtain ⟨i, hi⟩ : ∃ i, at_ % S.length = i := ⟨_, rfl⟩
      have hV0 : 0 < S.length := by first | exact unhide HlS1 | (rw [unhide HlP]; omega)
      have hil : i < S.length := by rw [← hi]; exact Nat.mod_lt _ hV0
      have qi : (at_ : Int).tmod (S.length : Int) = (i : Int) := by rw [Int.tmod_eq_emod_of_nonneg (by omega), ← hi]; simp
      have vl : (0 : Int) < (S.length : Int) := by omega
      have i0 : (0 : Int) ≤ (i : Int) := by omega
      have i1 : (i : Int) < (S.length : Int) := by omega
      have bb : (bit : Int) ≤ 7 := by omega
      have bb0 : (0 : Int) ≤ (bit : Int) := by omega
      have hsh := shl8_ bit hb7i
      clear hi
      go_wp2_with (first
        | (at_builtin; refine wpList_append_bytes rfl _ _ rfl w9.heap.size (.slice (some ⟨w9.heap.size, 0, none⟩) 0 0) _ [] msg rfl (unhide HOE) rfl (unhide HME) (unhide HsE) (unhide HlE) ?_
           intro v10 w10 hO hg _
           rw [List.nil_append] at hO
           have H3 := hide (unhide Hthree w10 v10 hO (ownb_below (unhide HOE) hg (unhide HbE) (unhide HsE)))
           clear hO hg
           obtain ⟨bx, cx, cc, hv, hcc, hbx, hcell, hfr, hset⟩ := poke (unhide H3).os hil
           simp only [Value.slice.injEq, Option.some.injEq, Addr.mk.injEq] at hv
           obtain ⟨⟨rfl, _, _⟩, _, rfl⟩ := hv
           obtain ⟨hx, hrb⟩ := xor8 cc hcc bit hb7i
           obtain ⟨r, hr⟩ : ∃ r, cc ^^^ 2 ^ bit = r := ⟨_, rfl⟩
           rw [hr] at hx hrb
           have Hrb := hide hrb
           have ccb : (cc : Int) < 256 := by omega
           have Hset : Hid (∀ r : Nat, r < 256 → Three wA (w10.setCell ⟨b9, i, none⟩ (.int .u8 (r : Int))) (.slice (some ⟨b8, 0, none⟩) P.length c8) (.slice (some ⟨b9, 0, none⟩) S.length c9) v10 P (S.set i (UInt8.ofNat r)) msg) := fun r hr => (unhide H3).pokeS hbx (hset r hr)
           clear hset hcc hbx hr hrb))
      go_region
      have HF3 : Hid (Fin3 wA _ (.slice (some ⟨b8, 0, none⟩) P.length c8) v10 (.slice (some ⟨b9, 0, none⟩) S.length c9) P msg (S.set i (UInt8.ofNat r))) := Three.fin (unhide Hset r (unhide Hrb)).drew (by rw [unhide HlP]; omega) (by have := unhide Hlm; omega) (by rw [List.length_set]; have := unhide HlS; omega)
      obtain ⟨g1, g2⟩ := unhide HFin2 _ _ _ _ _ _ _ (unhide HF3)
      have G1 := hide g1
      have G2 := hide g2
      have HB3f := hide (unhide HF3).b
      clear g1 g2
      obtain ⟨bo, hbo⟩ : ∃ bo, verifyB H P msg (S.set i (UInt8.ofNat r)) = bo := ⟨_, rfl⟩
      rw [hbo] at G1 G2
      clear hbo
      have eb : (bo == bo) = true := by simp
      go_wp2_with fail
      refine (unhide G1).mono ?_
      rintro e w12 ⟨rfl, hb⟩
      have HB12 := hide hb
      clear hb
      go_wp2_with fail
      refine (unhide G2 w12 (unhide HB12)).mono ?_
      rintro e w13 ⟨rfl, hb⟩
      have HB13 : Hid (Below wA.heap.size wA w13) := by
        show Below _ _ _
        have h1 := (unhide HB3f).trans ((unhide HB12).mono (unhide HB3f).size)
        exact h1.trans (hb.mono h1.size)
      clear hb
      go_wp2
      go_ret
      exact ⟨rfl, unhide HFin _ (unhide HB13)⟩
    by_cases hp3 : part = 3
    · subst hp3
      obtain ⟨z, hz⟩ : ∃ z, at_ % 256 = z := ⟨_, rfl⟩
      have hzw : IntKind.u8.wrap (at_ : Int) = (z : Int) := by rw [IntKind.wrap_u8']; omega
      have hz8 : (UInt8.ofNat z).toNat = z := by rw [UInt8.toNat_ofNat']; omega
      have ebv : ([UInt8.ofNat z] : Bs).map bv = [.int .u8 (z : Int)] := by simp [bv, hz8]
      clear hz hz8
      go_wp2_with (first
        | (at_builtin; refine wpList_append_bytes rfl _ _ rfl w9.heap.size (.slice (some ⟨w9.heap.size, 0, none⟩) 0 0) _ [] msg rfl (unhide HOE) rfl (unhide HME) (unhide HsE) (unhide HlE) ?_
           intro v10 w10 hO hg _
           rw [List.nil_append] at hO
           have H3 := hide (unhide Hthree w10 v10 hO (ownb_below (unhide HOE) hg (unhide HbE) (unhide HsE)))
           clear hO hg
           have HVz : Hid (BytesAt (w10.alloc (.cells [Value.int .u8 (z : Int)].toArray 5)) (.slice (some ⟨w10.heap.size, 0, none⟩) 1 1) [UInt8.ofNat z]) := by
             show BytesAt _ _ _
             have hv := bytes_new w10 [UInt8.ofNat z]
             rw [ebv] at hv
             exact hv
           have H3a := hide ((unhide H3).lit (.cells [Value.int .u8 (z : Int)].toArray 5))
           have Hsz := hide (unhide H3a).b.size
           have Hlz : Hid (msg.length + ([UInt8.ofNat z] : Bs).length ≤ 1073741824) := by show _ ≤ _; have h1 := unhide Hlm; have h2 := unhide HlS; simp; omega)
        | (at_builtin; refine wpList_append_bytes rfl _ _ rfl wA.heap.size v10 _ msg [UInt8.ofNat z] rfl (unhide H3a).om rfl (unhide HVz) (unhide Hsz) (unhide Hlz) ?_
           intro v11 w11 hO hg _
           have HF3 := hide ((unhide H3a).growM hO hg (by rw [unhide HlP]; omega) (by have := unhide Hlm; simp; omega) (by have := unhide HlS; simp; omega))
           clear hO hg))
      obtain ⟨g1, g2⟩ := unhide HFin2 _ _ _ _ _ _ _ (unhide HF3)
      have G1 := hide g1
      have G2 := hide g2
      have HB3f := hide (unhide HF3).b
      clear g1 g2
      obtain ⟨bo, hbo⟩ : ∃ bo, verifyB H P (msg ++ [UInt8.ofNat z]) S = bo := ⟨_, rfl⟩
      rw [hbo] at G1 G2
      clear hbo
      have eb : (bo == bo) = true := by simp
      refine (unhide G1).mono ?_
      rintro e w12 ⟨rfl, hb⟩
      have HB12 := hide hb
      clear hb
      go_wp2_with fail
      refine (unhide G2 w12 (unhide HB12)).mono ?_
      rintro e w13 ⟨rfl, hb⟩
      have HB13 : Hid (Below wA.heap.size wA w13) := by
        show Below _ _ _
        have h1 := (unhide HB3f).trans ((unhide HB12).mono (unhide HB3f).size)
        exact h1.trans (hb.mono h1.size)
      clear hb
      go_wp2
      go_ret
      exact ⟨rfl, unhide HFin _ (unhide HB13)⟩
    by_cases hp4 : part = 4
    · subst hp4
      obtain ⟨i, hi⟩ : ∃ i, at_ % S.length = i := ⟨_, rfl⟩
      have hV0 : 0 < S.length := by first | exact unhide HlS1 | (rw [unhide HlP]; omega)
      have hil : i < S.length := by rw [← hi]; exact Nat.mod_lt _ hV0
      have qi : (at_ : Int).tmod (S.length : Int) = (i : Int) := by rw [Int.tmod_eq_emod_of_nonneg (by omega), ← hi]; simp
      have vl : (0 : Int) < (S.length : Int) := by omega
      clear hi
      go_wp2_with (first
        | (at_builtin; refine wpList_append_bytes rfl _ _ rfl w9.heap.size (.slice (some ⟨w9.heap.size, 0, none⟩) 0 0) _ [] msg rfl (unhide HOE) rfl (unhide HME) (unhide HsE) (unhide HlE) ?_
           intro v10 w10 hO hg _
           rw [List.nil_append] at hO
           have H3 := hide (unhide Hthree w10 v10 hO (ownb_below (unhide HOE) hg (unhide HbE) (unhide HsE)))
           clear hO hg
           obtain ⟨spx, cx, hvx, hlx, _, _⟩ := bytes_open (unhide H3).os.bytes
           simp only [Value.slice.injEq] at hvx
           obtain ⟨rfl, _, rfl⟩ := hvx
           obtain ⟨y, sy, hy⟩ := front_val (unhide H3).os.bytes hlx i (Nat.le_of_lt hil)
           have Hy := hide hy
           clear hy))
      have HF3 : Hid (Fin3 wA w10 (.slice (some ⟨b8, 0, none⟩) P.length c8) v10 y P msg (S.take i)) := ⟨(unhide H3).op.bytes, (unhide H3).om.bytes, unhide Hy, by rw [unhide HlP]; omega, by have := unhide Hlm; omega, by rw [List.length_take]; have := unhide HlS; omega, (unhide H3).b⟩
      obtain ⟨g1, g2⟩ := unhide HFin2 _ _ _ _ _ _ _ (unhide HF3)
      have G1 := hide g1
      have G2 := hide g2
      have HB3f := hide (unhide HF3).b
      clear g1 g2
      obtain ⟨bo, hbo⟩ : ∃ bo, verifyB H P msg (S.take i) = bo := ⟨_, rfl⟩
      rw [hbo] at G1 G2
      clear hbo
      have eb : (bo == bo) = true := by simp
      refine (unhide G1).mono ?_
      rintro e w12 ⟨rfl, hb⟩
      have HB12 := hide hb
      clear hb
      go_wp2_with fail
      refine (unhide G2 w12 (unhide HB12)).mono ?_
      rintro e w13 ⟨rfl, hb⟩
      have HB13 : Hid (Below wA.heap.size wA w13) := by
        show Below _ _ _
        have h1 := (unhide HB3f).trans ((unhide HB12).mono (unhide HB3f).size)
        exact h1.trans (hb.mono h1.size)
      clear hb
      go_wp2
      go_ret
      exact ⟨rfl, unhide HFin _ (unhide HB13)⟩
    by_cases hp5 : part = 5
    · subst hp5
      obtain ⟨z, hz⟩ : ∃ z, at_ % 256 = z := ⟨_, rfl⟩
      have hzw : IntKind.u8.wrap (at_ : Int) = (z : Int) := by rw [IntKind.wrap_u8']; omega
      have hz8 : (UInt8.ofNat z).toNat = z := by rw [UInt8.toNat_ofNat']; omega
      have ebv : ([UInt8.ofNat z] : Bs).map bv = [.int .u8 (z : Int)] := by simp [bv, hz8]
      clear hz hz8
      go_wp2_with (first
        | (at_builtin; refine wpList_append_bytes rfl _ _ rfl w9.heap.size (.slice (some ⟨w9.heap.size, 0, none⟩) 0 0) _ [] msg rfl (unhide HOE) rfl (unhide HME) (unhide HsE) (unhide HlE) ?_
           intro v10 w10 hO hg _
           rw [List.nil_append] at hO
           have H3 := hide (unhide Hthree w10 v10 hO (ownb_below (unhide HOE) hg (unhide HbE) (unhide HsE)))
           clear hO hg
           have HVz : Hid (BytesAt (w10.alloc (.cells [Value.int .u8 (z : Int)].toArray 5)) (.slice (some ⟨w10.heap.size, 0, none⟩) 1 1) [UInt8.ofNat z]) := by
             show BytesAt _ _ _
             have hv := bytes_new w10 [UInt8.ofNat z]
             rw [ebv] at hv
             exact hv
           have H3a := hide ((unhide H3).lit (.cells [Value.int .u8 (z : Int)].toArray 5))
           have Hsz := hide (unhide H3a).b.size
           have Hlz : Hid (S.length + ([UInt8.ofNat z] : Bs).length ≤ 1073741824) := by show _ ≤ _; have h1 := unhide Hlm; have h2 := unhide HlS; simp; omega)
        | (at_builtin; refine wpList_append_bytes rfl _ _ rfl wA.heap.size (.slice (some ⟨b9, 0, none⟩) S.length c9) _ S [UInt8.ofNat z] rfl (unhide H3a).os rfl (unhide HVz) (unhide Hsz) (unhide Hlz) ?_
           intro v11 w11 hO hg _
           have HF3 := hide ((unhide H3a).growS hO hg (by rw [unhide HlP]; omega) (by have := unhide Hlm; simp; omega) (by have := unhide HlS; simp; omega))
           clear hO hg))
      obtain ⟨g1, g2⟩ := unhide HFin2 _ _ _ _ _ _ _ (unhide HF3)
      have G1 := hide g1
      have G2 := hide g2
      have HB3f := hide (unhide HF3).b
      clear g1 g2
      obtain ⟨bo, hbo⟩ : ∃ bo, verifyB H P msg (S ++ [UInt8.ofNat z]) = bo := ⟨_, rfl⟩
      rw [hbo] at G1 G2
      clear hbo
      have eb : (bo == bo) = true := by simp
      refine (unhide G1).mono ?_
      rintro e w12 ⟨rfl, hb⟩
      have HB12 := hide hb
      clear hb
      go_wp2_with fail
      refine (unhide G2 w12 (unhide HB12)).mono ?_
      rintro e w13 ⟨rfl, hb⟩
      have HB13 : Hid (Below wA.heap.size wA w13) := by
        show Below _ _ _
        have h1 := (unhide HB3f).trans ((unhide HB12).mono (unhide HB3f).size)
        exact h1.trans (hb.mono h1.size)
      clear hb
      go_wp2
      go_ret
      exact ⟨rfl, unhide HFin _ (unhide HB13)⟩
    by_cases hp6 : part = 6
    · subst hp6
      obtain ⟨i, hi⟩ : ∃ i, at_ % P.length = i := ⟨_, rfl⟩
      have hV0 : 0 < P.length := by first | exact unhide HlS1 | (rw [unhide HlP]; omega)
      have hil : i < P.length := by rw [← hi]; exact Nat.mod_lt _ hV0
      have qi : (at_ : Int).tmod (P.length : Int) = (i : Int) := by rw [Int.tmod_eq_emod_of_nonneg (by omega), ← hi]; simp
      have vl : (0 : Int) < (P.length : Int) := by omega
      clear hi
      go_wp2_with (first
        | (at_builtin; refine wpList_append_bytes rfl _ _ rfl w9.heap.size (.slice (some ⟨w9.heap.size, 0, none⟩) 0 0) _ [] msg rfl (unhide HOE) rfl (unhide HME) (unhide HsE) (unhide HlE) ?_
           intro v10 w10 hO hg _
           rw [List.nil_append] at hO
           have H3 := hide (unhide Hthree w10 v10 hO (ownb_below (unhide HOE) hg (unhide HbE) (unhide HsE)))
           clear hO hg
           obtain ⟨spx, cx, hvx, hlx, _, _⟩ := bytes_open (unhide H3).op.bytes
           simp only [Value.slice.injEq] at hvx
           obtain ⟨rfl, _, rfl⟩ := hvx
           obtain ⟨y, sy, hy⟩ := front_val (unhide H3).op.bytes hlx i (Nat.le_of_lt hil)
           have Hy := hide hy
           clear hy))
      have HF3 : Hid (Fin3 wA w10 y v10 (.slice (some ⟨b9, 0, none⟩) S.length c9) (P.take i) msg S) := ⟨unhide Hy, (unhide H3).om.bytes, (unhide H3).os.bytes, by rw [List.length_take, unhide HlP]; omega, by have := unhide Hlm; omega, by have := unhide HlS; omega, (unhide H3).b⟩
      obtain ⟨g1, g2⟩ := unhide HFin2 _ _ _ _ _ _ _ (unhide HF3)
      have G1 := hide g1
      have G2 := hide g2
      have HB3f := hide (unhide HF3).b
      clear g1 g2
      obtain ⟨bo, hbo⟩ : ∃ bo, verifyB H (P.take i) msg S = bo := ⟨_, rfl⟩
      rw [hbo] at G1 G2
      clear hbo
      have eb : (bo == bo) = true := by simp
      refine (unhide G1).mono ?_
      rintro e w12 ⟨rfl, hb⟩
      have HB12 := hide hb
      clear hb
      go_wp2_with fail
      refine (unhide G2 w12 (unhide HB12)).mono ?_
      rintro e w13 ⟨rfl, hb⟩
      have HB13 : Hid (Below wA.heap.size wA w13) := by
        show Below _ _ _
        have h1 := (unhide HB3f).trans ((unhide HB12).mono (unhide HB3f).size)
        exact h1.trans (hb.mono h1.size)
      clear hb
      go_wp2
      go_ret
      exact ⟨rfl, unhide HFin _ (unhide HB13)⟩
    have t1 : (part == 1) = false := by simp; omega
    have t2 : (part == 2) = false := by simp; omega
    have t3 : (part == 3) = false := by simp; omega
    have t4 : (part == 4) = false := by simp; omega
    have t5 : (part == 5) = false := by simp; omega
    have t6 : (part == 6) = false := by simp; omega
    go_wp2_with (first
        | (at_builtin; refine wpList_append_bytes rfl _ _ rfl w9.heap.size (.slice (some ⟨w9.heap.size, 0, none⟩) 0 0) _ [] msg rfl (unhide HOE) rfl (unhide HME) (unhide HsE) (unhide HlE) ?_
           intro v10 w10 hO hg _
           rw [List.nil_append] at hO
           have H3 := hide (unhide Hthree w10 v10 hO (ownb_below (unhide HOE) hg (unhide HbE) (unhide HsE)))
           clear hO hg
           skip))
    have HF3 : Hid (Fin3 wA w10 (.slice (some ⟨b8, 0, none⟩) P.length c8) v10 (.slice (some ⟨b9, 0, none⟩) S.length c9) P msg S) := (unhide H3).fin (by rw [unhide HlP]; omega) (by have := unhide Hlm; omega) (by have := unhide HlS; omega)
    obtain ⟨g1, g2⟩ := unhide HFin2 _ _ _ _ _ _ _ (unhide HF3)
    have G1 := hide g1
    have G2 := hide g2
    have HB3f := hide (unhide HF3).b
    clear g1 g2
    obtain ⟨bo, hbo⟩ : ∃ bo, verifyB H P msg S = bo := ⟨_, rfl⟩
    rw [hbo] at G1 G2
    clear hbo
    have eb : (bo == bo) = true := by simp
    refine (unhide G1).mono ?_
    rintro e w12 ⟨rfl, hb⟩
    have HB12 := hide hb
    clear hb
    go_wp2_with fail
    refine (unhide G2 w12 (unhide HB12)).mono ?_
    rintro e w13 ⟨rfl, hb⟩
    have HB13 : Hid (Below wA.heap.size wA w13) := by
      show Below _ _ _
      have h1 := (unhide HB3f).trans ((unhide HB12).mono (unhide HB3f).size)
      exact h1.trans (hb.mono h1.size)
    clear hb
    go_wp2
    go_ret
    exact ⟨rfl, unhide HFin _ (unhide HB13)⟩
end Go.Proofs.YtlhjifdahagkaaaDoor
