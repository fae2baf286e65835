/-
  The walk of the reference's length.
-/
import Derived.Test.YtngkidlgcdofhaaDoorRat9
namespace Go.Proofs.YtngkidlgcdofhaaDoor
open Go.RowKit
/-- What reading a length tells, and where the reader stands then. -/
def LenTold (b : Bs) (s en : Nat) (n er : Int) (s' : Nat) : Prop :=
  match lenP (leftB b s en) with
  | .no x => n = 0 ∧ er = (x : Int)
  | .yes (m, r) => n = (m : Int) ∧ er = 0 ∧ r = leftB b s' en
set_option maxRecDepth 100000 in
set_option maxHeartbeats 4000000 in
theorem length_any (w : World) (K : Nat) (sb : Option Addr) (cb : Nat) (b : Bs) (s en : Nat) (h : RAt w K sb cb b s en) :
    Calls Tryd.prog 29 #[.pointer (some ⟨K, 0, none⟩)] w fun e w' => ∃ (n er : Int) (s' : Nat), e = .returned (.tuple #[.int .i64 n, .int .i64 er]) ∧ LenTold b s en n er s' ∧ s ≤ s' ∧ RAt w' K sb cb b s' en ∧ w.grownBy w' (some K) := by
  have H := hide h
  obtain ⟨a0, a1, a2, a3⟩ := h.c
  have hle := h.le
  have hfit := h.fit
  have hsm := h.small
  have Hg0 : Hid (w.grownBy w.drew (some K)) := (World.grownBy.refl _ _).drew
  have sb1 : (s : Int) ≤ 65536 := by omega
  have enb : (en : Int) ≤ 65536 := by omega
  obtain ⟨N, hN⟩ : ∃ N, b.length = N := ⟨_, rfl⟩
  rw [hN] at a0
  have HN := hide hN
  by_cases hs : s < en
  · have hl := left_cons hs hfit
    obtain ⟨ba, oa, rfl, hcell⟩ := h.byte hs
    have hcb := (b.getD s 0).toNat_lt
    have HL : Hid (∀ n er s', (match (if (b.getD s 0).toNat < 128 then Told.yes ((b.getD s 0).toNat, leftB b (s + 1) en) else if (b.getD s 0).toNat = 128 ∨ 132 < (b.getD s 0).toNat then .no 22 else
      if en - (s + 1) < (b.getD s 0).toNat - 128 then .no 20 else
      if numB ((leftB b (s + 1) en).take ((b.getD s 0).toNat - 128)) < 128 ∨ numB ((leftB b (s + 1) en).take ((b.getD s 0).toNat - 128)) < 256 ^ ((b.getD s 0).toNat - 129) then .no 22 else .yes (numB ((leftB b (s + 1) en).take ((b.getD s 0).toNat - 128)), leftB b (s + 1 + ((b.getD s 0).toNat - 128)) en)) with | .no x => n = 0 ∧ er = (x : Int) | .yes (m, r) => n = (m : Int) ∧ er = 0 ∧ r = leftB b s' en) → LenTold b s en n er s') := fun n er s' hh => by
      unfold LenTold
      rw [hl, lenP_cons, len_leftB hfit, left_drop]
      exact hh
    have hix : ∃ c, (b.getD s 0).toNat = c := ⟨_, rfl⟩
    obtain ⟨c, hc⟩ := hix
    rw [hc] at hcell hcb HL
    have d1 : decide ((en : Int) ≤ (s : Int)) = false := by simp; omega
    have d1n : decide (en ≤ s) = false := by simp; omega
    have s0 : (0 : Int) ≤ (s : Int) := by omega
    have s1 : (s : Int) < (N : Int) := by omega
    have cb1 : (c : Int) ≤ 255 := by omega
    obtain ⟨S1, hS1⟩ : ∃ S1, s + 1 = S1 := ⟨_, rfl⟩
    have hS1i : (s : Int) + 1 = (S1 : Int) := by omega
    have HS1 : Hid (s + 1 = S1) := hS1
    have S1b : (S1 : Int) ≤ 65537 := by omega
    have HRW : Hid (RAt (w.setCell ⟨K, 1, none⟩ (.int .i64 (S1 : Int))).drew.drew K (some ⟨ba, oa, none⟩) cb b S1 en) := ((unhide H).set S1 (by omega)).drew.drew
    have HgW : Hid (w.grownBy (w.setCell ⟨K, 1, none⟩ (.int .i64 (S1 : Int))).drew.drew (some K)) := (grown_setCell (World.grownBy.refl _ _) ⟨K, 1, none⟩ _ rfl).drew.drew
    clear h hl hc hN
    rcases (by omega : c < 128 ∨ c = 128 ∨ 132 < c ∨ c = 129 ∨ c = 130 ∨ c = 131 ∨ c = 132) with hcc | hcc | hcc | hcc | hcc | hcc | hcc
    · have HT : Hid (LenTold b s en (c : Int) 0 S1) := unhide HL _ _ _ (by rw [if_pos hcc]; exact ⟨rfl, rfl, by rw [unhide HS1]⟩)
      have c1 : decide ((c : Int) < 128) = true := by simp; omega
      have c1n : decide (c < 128) = true := by simp; omega
      have uwc : IntKind.i64.wrap (c : Int) = (c : Int) := IntWalk.i64_in _ (by omega)
      clear HL
      go_enter Tryd.func29, Tryd.ntmps29
      go_wp2
      go_region_held3 (fun w' => w'.cell? ⟨K, 0, none⟩ = some (.slice (some ⟨ba, oa, none⟩) N cb) ∧ w'.cell? ⟨K, 1, none⟩ = some (.int .i64 (s : Int)) ∧ w'.cell? ⟨K, 2, none⟩ = some (.int .i64 (en : Int)) ∧ w'.cell? ⟨ba, oa + s, none⟩ = some (.int .u8 (c : Int))) (go_keep) (fail)
      go_wp2
      go_region_held3 (fun w' => w'.cell? ⟨K, 0, none⟩ = some (.slice (some ⟨ba, oa, none⟩) N cb) ∧ w'.cell? ⟨K, 1, none⟩ = some (.int .i64 (s : Int)) ∧ w'.cell? ⟨K, 2, none⟩ = some (.int .i64 (en : Int)) ∧ w'.cell? ⟨ba, oa + s, none⟩ = some (.int .u8 (c : Int))) (go_keep) (fail)
      go_wp2
      exact bodyPost_ret (v := .tuple #[.int .i64 (c : Int), .int .i64 0]) (by simp [results, Tryd.results29, go_sem]) rfl ⟨(c : Int), 0, S1, rfl, unhide HT, by omega, unhide HRW, unhide HgW⟩
    · have HT : Hid (LenTold b s en 0 22 S1) := unhide HL _ _ _ (by rw [if_neg (by omega), if_pos (by omega)]; exact ⟨rfl, rfl⟩)
      clear HL
      subst hcc
      go_enter Tryd.func29, Tryd.ntmps29
      go_wp2
      go_region_held3 (fun w' => w'.cell? ⟨K, 0, none⟩ = some (.slice (some ⟨ba, oa, none⟩) N cb) ∧ w'.cell? ⟨K, 1, none⟩ = some (.int .i64 (s : Int)) ∧ w'.cell? ⟨K, 2, none⟩ = some (.int .i64 (en : Int)) ∧ w'.cell? ⟨ba, oa + s, none⟩ = some (.int .u8 128)) (go_keep) (fail)
      go_wp2
      go_region_held3 (fun w' => w'.cell? ⟨K, 0, none⟩ = some (.slice (some ⟨ba, oa, none⟩) N cb) ∧ w'.cell? ⟨K, 1, none⟩ = some (.int .i64 (s : Int)) ∧ w'.cell? ⟨K, 2, none⟩ = some (.int .i64 (en : Int)) ∧ w'.cell? ⟨ba, oa + s, none⟩ = some (.int .u8 128)) (go_keep) (fail)
      go_wp2
      exact bodyPost_ret (v := .tuple #[.int .i64 0, .int .i64 22]) (by simp [results, Tryd.results29, go_sem]) rfl ⟨0, 22, S1, rfl, unhide HT, by omega, unhide HRW, unhide HgW⟩
    · have HT : Hid (LenTold b s en 0 22 S1) := unhide HL _ _ _ (by rw [if_neg (by omega), if_pos (by omega)]; exact ⟨rfl, rfl⟩)
      have c1 : decide ((c : Int) < 128) = false := by simp; omega
      have c1n : decide (c < 128) = false := by simp; omega
      have c2 : ((c : Int) == 128) = false := by simp; omega
      have c3 : decide ((132 : Int) < (c : Int)) = true := by simp; omega
      have c3n : decide (132 < c) = true := by simp; omega
      clear HL
      go_enter Tryd.func29, Tryd.ntmps29
      go_wp2
      go_region_held3 (fun w' => w'.cell? ⟨K, 0, none⟩ = some (.slice (some ⟨ba, oa, none⟩) N cb) ∧ w'.cell? ⟨K, 1, none⟩ = some (.int .i64 (s : Int)) ∧ w'.cell? ⟨K, 2, none⟩ = some (.int .i64 (en : Int)) ∧ w'.cell? ⟨ba, oa + s, none⟩ = some (.int .u8 (c : Int))) (go_keep) (fail)
      go_wp2
      go_region_held3 (fun w' => w'.cell? ⟨K, 0, none⟩ = some (.slice (some ⟨ba, oa, none⟩) N cb) ∧ w'.cell? ⟨K, 1, none⟩ = some (.int .i64 (s : Int)) ∧ w'.cell? ⟨K, 2, none⟩ = some (.int .i64 (en : Int)) ∧ w'.cell? ⟨ba, oa + s, none⟩ = some (.int .u8 (c : Int))) (go_keep) (fail)
      go_wp2
      exact bodyPost_ret (v := .tuple #[.int .i64 0, .int .i64 22]) (by simp [results, Tryd.results29, go_sem]) rfl ⟨0, 22, S1, rfl, unhide HT, by omega, unhide HRW, unhide HgW⟩
    · have HL2 : Hid (∀ n er s', (match (if en - (s + 1) < 1 then Told.no 20 else if numB ((leftB b (s + 1) en).take 1) < 128 ∨ numB ((leftB b (s + 1) en).take 1) < 1 then .no 22 else .yes (numB ((leftB b (s + 1) en).take 1), leftB b (s + 1 + 1) en)) with | .no x => n = 0 ∧ er = (x : Int) | .yes (m, r) => n = (m : Int) ∧ er = 0 ∧ r = leftB b s' en) → LenTold b s en n er s') := fun n er s' hh => unhide HL n er s' (by subst hcc; exact hh)
      clear HL
      subst hcc
      obtain ⟨E, hE⟩ : ∃ E, S1 + 1 = E := ⟨_, rfl⟩
      have hEi : (S1 : Int) + 129 - 128 = (E : Int) := by omega
      obtain ⟨F, hF⟩ : ∃ F, S1 + 129 = F := ⟨_, rfl⟩
      have hFi : (S1 : Int) + 129 = (F : Int) := by omega
      have hFi2 : (F : Int) - 128 = (E : Int) := by omega
      have hE3 : (S1 : Int) + 1 = (E : Int) := by omega
      have HE : Hid (S1 + 1 = E) := hE
      clear hE hF
      have Fb : (F : Int) ≤ 70000 := by omega
      have wF : IntKind.i64.wrap (F : Int) = (F : Int) := IntWalk.i64_in _ (by omega)
      have wE : IntKind.i64.wrap (E : Int) = (E : Int) := IntWalk.i64_in _ (by omega)
      by_cases hfit2 : en < E
      · have g1 : decide ((en : Int) < (E : Int)) = true := by simp; omega
        have g1n : decide (en < E) = true := by simp; omega
        have HT : Hid (LenTold b s en 0 20 S1) := unhide HL2 _ _ _ (by rw [if_pos (by have := unhide HS1; have := unhide HE; omega)]; exact ⟨rfl, rfl⟩)
        clear HL2
        go_enter Tryd.func29, Tryd.ntmps29
        go_wp2
        go_region_held3 (fun w' => w'.cell? ⟨K, 0, none⟩ = some (.slice (some ⟨ba, oa, none⟩) N cb) ∧ w'.cell? ⟨K, 1, none⟩ = some (.int .i64 (s : Int)) ∧ w'.cell? ⟨K, 2, none⟩ = some (.int .i64 (en : Int)) ∧ w'.cell? ⟨ba, oa + s, none⟩ = some (.int .u8 129)) (go_keep) (fail)
        go_wp2
        go_region_held3 (fun w' => w'.cell? ⟨K, 0, none⟩ = some (.slice (some ⟨ba, oa, none⟩) N cb) ∧ w'.cell? ⟨K, 1, none⟩ = some (.int .i64 (s : Int)) ∧ w'.cell? ⟨K, 2, none⟩ = some (.int .i64 (en : Int)) ∧ w'.cell? ⟨ba, oa + s, none⟩ = some (.int .u8 129)) (go_keep) (fail)
        go_wp2
        obtain ⟨WW, hWW⟩ : ∃ WW, (w.setCell ⟨K, 1, none⟩ (.int .i64 (S1 : Int))).drew.drew = WW := ⟨_, rfl⟩
        rw [hWW]
        have HRw : Hid (RAt WW K (some ⟨ba, oa, none⟩) cb b S1 en) := by rw [← hWW]; exact unhide HRW
        have HGw : Hid (w.grownBy WW (some K)) := by rw [← hWW]; exact unhide HgW
        obtain ⟨z0, z1, z2, z3⟩ := (unhide HRw).c
        rw [unhide HN] at z0
        clear hWW a0 a1 a2 a3 hcell
        go_region_held3 (fun w' => w'.cell? ⟨K, 0, none⟩ = some (.slice (some ⟨ba, oa, none⟩) N cb) ∧ w'.cell? ⟨K, 1, none⟩ = some (.int .i64 (S1 : Int)) ∧ w'.cell? ⟨K, 2, none⟩ = some (.int .i64 (en : Int))) (go_keep) (fail)
        go_wp2
        exact bodyPost_ret (v := .tuple #[.int .i64 0, .int .i64 20]) (by simp [results, Tryd.results29, go_sem]) rfl ⟨0, 20, S1, rfl, unhide HT, by omega, (unhide HRw).drew, (unhide HGw).drew⟩
      · have g1 : decide ((en : Int) < (E : Int)) = false := by simp; omega
        have g1n : decide (en < E) = false := by simp; omega
        go_enter Tryd.func29, Tryd.ntmps29
        go_wp2
        go_region_held3 (fun w' => w'.cell? ⟨K, 0, none⟩ = some (.slice (some ⟨ba, oa, none⟩) N cb) ∧ w'.cell? ⟨K, 1, none⟩ = some (.int .i64 (s : Int)) ∧ w'.cell? ⟨K, 2, none⟩ = some (.int .i64 (en : Int)) ∧ w'.cell? ⟨ba, oa + s, none⟩ = some (.int .u8 129)) (go_keep) (fail)
        go_wp2
        go_region_held3 (fun w' => w'.cell? ⟨K, 0, none⟩ = some (.slice (some ⟨ba, oa, none⟩) N cb) ∧ w'.cell? ⟨K, 1, none⟩ = some (.int .i64 (s : Int)) ∧ w'.cell? ⟨K, 2, none⟩ = some (.int .i64 (en : Int)) ∧ w'.cell? ⟨ba, oa + s, none⟩ = some (.int .u8 129)) (go_keep) (fail)
        go_wp2
        obtain ⟨WW, hWW⟩ : ∃ WW, (w.setCell ⟨K, 1, none⟩ (.int .i64 (S1 : Int))).drew.drew = WW := ⟨_, rfl⟩
        rw [hWW]
        have HRw : Hid (RAt WW K (some ⟨ba, oa, none⟩) cb b S1 en) := by rw [← hWW]; exact unhide HRW
        have HGw : Hid (w.grownBy WW (some K)) := by rw [← hWW]; exact unhide HgW
        obtain ⟨z0, z1, z2, z3⟩ := (unhide HRw).c
        rw [unhide HN] at z0
        clear hWW a0 a1 a2 a3 hcell
        go_region_held3 (fun w' => w'.cell? ⟨K, 0, none⟩ = some (.slice (some ⟨ba, oa, none⟩) N cb) ∧ w'.cell? ⟨K, 1, none⟩ = some (.int .i64 (S1 : Int)) ∧ w'.cell? ⟨K, 2, none⟩ = some (.int .i64 (en : Int))) (go_keep) (fail)
        clear z0 z1 z2 z3
        go_wp2
        go_loopw [5, 6] (fun nn ii wr => ∃ i n : Nat, i ≤ 1 ∧ ii = .int .i64 (i : Int) ∧ nn = .int .i64 (n : Int) ∧ n < 256 ^ i ∧ Hid (numB ((leftB b S1 en).take i) = n) ∧ Hid (RAt wr K (some ⟨ba, oa, none⟩) cb b (S1 + i) en) ∧ Hid (w.grownBy wr (some K))) (fun _ ii _ => 1 - (intOf ii).toNat)
        case atStart => exact ⟨0, 0, by omega, rfl, rfl, by omega, rfl, (unhide HRw).drew, (unhide HGw).drew⟩
        case round =>
          obtain ⟨i, n, hi, rfl, rfl, hn, Hn, HRr, HGr⟩ := hrel
          by_cases hlt : i < 1
          · obtain ⟨s2, hs2⟩ : ∃ s2, S1 + i = s2 := ⟨_, rfl⟩
            rw [hs2] at HRr
            have hs2e : s2 < en := by have := unhide HE; omega
            obtain ⟨ba2, oa2, e2, hc2⟩ := (unhide HRr).byte hs2e
            simp only [Option.some.injEq, Addr.mk.injEq, and_true] at e2
            obtain ⟨rfl, rfl⟩ := e2
            obtain ⟨z0, z1, z2, z3⟩ := (unhide HRr).c
            rw [unhide HN] at z0
            have hqb := (b.getD s2 0).toNat_lt
            have Hnb := hide (numB_take (l := leftB b S1 en) (k := i) (by rw [len_leftB hfit]; omega))
            rw [left_getD (by omega), hs2, unhide Hn] at Hnb
            obtain ⟨q, hq⟩ : ∃ q, (b.getD s2 0).toNat = q := ⟨_, rfl⟩
            rw [hq] at hc2 hqb Hnb
            have hn4 : n < 16777216 := Nat.lt_of_lt_of_le hn (Nat.le_trans (Nat.pow_le_pow_right (by omega) (show i ≤ 3 by omega)) (by decide))
            obtain ⟨n2, hn2⟩ : ∃ n2, 256 * n = n2 := ⟨_, rfl⟩
            obtain ⟨n3, hn3⟩ : ∃ n3, n2 + q = n3 := ⟨_, rfl⟩
            have i2 : (256 : Int) * (n : Int) = (n2 : Int) := by omega
            have i3 : (n2 : Int) + (q : Int) = (n3 : Int) := by omega
            have w2 : IntKind.i64.wrap (n2 : Int) = (n2 : Int) := IntWalk.i64_in _ (by omega)
            have w3 : IntKind.i64.wrap (n3 : Int) = (n3 : Int) := IntWalk.i64_in _ (by omega)
            have wq : IntKind.i64.wrap (q : Int) = (q : Int) := IntWalk.i64_in _ (by omega)
            obtain ⟨s3, hs3⟩ : ∃ s3, s2 + 1 = s3 := ⟨_, rfl⟩
            have is3 : (s2 : Int) + 1 = (s3 : Int) := by omega
            have s2b : (s2 : Int) ≤ 65536 := by omega
            have x0 : (0 : Int) ≤ (s2 : Int) := by omega
            have x1 : (s2 : Int) < (N : Int) := by have := unhide HN; omega
            have l1 : decide ((i : Int) < 1) = true := by simp; omega
            have l1n : decide (i < 1) = true := by simp; omega
            have HRn : Hid (RAt (wr.drew.setCell ⟨K, 1, none⟩ (.int .i64 (s3 : Int))) K (some ⟨ba, oa, none⟩) cb b (S1 + (i + 1)) en) := by
              have := (unhide HRr).drew.set s3 (by omega)
              rw [show S1 + (i + 1) = s3 by omega]
              exact this
            have HGn : Hid (w.grownBy (wr.drew.setCell ⟨K, 1, none⟩ (.int .i64 (s3 : Int))) (some K)) := grown_setCell (unhide HGr).drew ⟨K, 1, none⟩ _ rfl
            have Hn3 : Hid (numB ((leftB b S1 en).take (i + 1)) = n3) := by show _ = _; rw [unhide Hnb, hn2, hn3]
            have hn3b : n3 < 256 ^ (i + 1) := by rw [Nat.pow_succ]; omega
            clear hq hs2 hn2 hn3 hs3 Hn Hnb HRr HGr HRw HGw
            go_wp2
            go_region_held3 (fun w' => w'.cell? ⟨K, 0, none⟩ = some (.slice (some ⟨ba, oa, none⟩) N cb) ∧ w'.cell? ⟨K, 1, none⟩ = some (.int .i64 (s2 : Int)) ∧ w'.cell? ⟨ba, oa + s2, none⟩ = some (.int .u8 (q : Int))) (go_keep) (fail)
            go_wp2
            go_roundw
            case rel =>
              first
                | exact ⟨i + 1, n3, by omega, by go_num, rfl, hn3b, Hn3, HRn, HGn⟩
                | ((repeat apply Exists.intro); exact ⟨⟨i + 1, n3, by omega, by go_num, rfl, hn3b, Hn3, HRn, HGn⟩, rfl⟩)
            case measure => simp [intOf]; omega
          · obtain rfl : i = 1 := by omega
            have Hc : Hid (∀ n1 er s', (match (if n < 128 ∨ n < 1 then Told.no 22 else .yes (n, leftB b (s + 1 + 1) en)) with | .no x => n1 = 0 ∧ er = (x : Int) | .yes (m, r) => n1 = (m : Int) ∧ er = 0 ∧ r = leftB b s' en) → LenTold b s en n1 er s') := fun n1 er s' hh => unhide HL2 n1 er s' (by rw [if_neg (by have := unhide HS1; have := unhide HE; omega), unhide HS1, unhide Hn, ← unhide HS1]; exact hh)
            clear HL2 Hn
            by_cases h1 : n < 128
            · have HT : Hid (LenTold b s en 0 22 (S1 + 1)) := unhide Hc _ _ _ (by rw [if_pos (by omega)]; exact ⟨rfl, rfl⟩)
              have y1 : decide ((n : Int) < 128) = true := by simp; omega
              have y1n : decide (n < 128) = true := by simp; omega
              clear Hc
              go_wp2
              exact bodyPost_ret (v := .tuple #[.int .i64 0, .int .i64 22]) (by simp [results, Tryd.results29, go_sem]) rfl ⟨0, 22, S1 + 1, rfl, unhide HT, by omega, unhide HRr, unhide HGr⟩
            have y1 : decide ((n : Int) < 128) = false := by simp; omega
            have y1n : decide (n < 128) = false := by simp; omega
            by_cases h2 : n < 1
            · have HT : Hid (LenTold b s en 0 22 (S1 + 1)) := unhide Hc _ _ _ (by rw [if_pos (by omega)]; exact ⟨rfl, rfl⟩)
              have y2 : decide ((n : Int) < 1) = true := by simp; omega
              have y2n : decide (n < 1) = true := by simp; omega
              clear Hc
              go_wp2
              exact bodyPost_ret (v := .tuple #[.int .i64 0, .int .i64 22]) (by simp [results, Tryd.results29, go_sem]) rfl ⟨0, 22, S1 + 1, rfl, unhide HT, by omega, unhide HRr, unhide HGr⟩
            have y2 : decide ((n : Int) < 1) = false := by simp; omega
            have y2n : decide (n < 1) = false := by simp; omega
            have HT : Hid (LenTold b s en (n : Int) 0 (S1 + 1)) := unhide Hc _ _ _ (by rw [if_neg (by omega)]; exact ⟨rfl, rfl, by rw [unhide HS1]⟩)
            clear Hc
            go_wp2
            exact bodyPost_ret (v := .tuple #[.int .i64 (n : Int), .int .i64 0]) (by simp [results, Tryd.results29, go_sem]) rfl ⟨(n : Int), 0, S1 + 1, rfl, unhide HT, by omega, unhide HRr, unhide HGr⟩
    · have HL2 : Hid (∀ n er s', (match (if en - (s + 1) < 2 then Told.no 20 else if numB ((leftB b (s + 1) en).take 2) < 128 ∨ numB ((leftB b (s + 1) en).take 2) < 256 then .no 22 else .yes (numB ((leftB b (s + 1) en).take 2), leftB b (s + 1 + 2) en)) with | .no x => n = 0 ∧ er = (x : Int) | .yes (m, r) => n = (m : Int) ∧ er = 0 ∧ r = leftB b s' en) → LenTold b s en n er s') := fun n er s' hh => unhide HL n er s' (by subst hcc; exact hh)
      clear HL
      subst hcc
      obtain ⟨E, hE⟩ : ∃ E, S1 + 2 = E := ⟨_, rfl⟩
      have hEi : (S1 : Int) + 130 - 128 = (E : Int) := by omega
      obtain ⟨F, hF⟩ : ∃ F, S1 + 130 = F := ⟨_, rfl⟩
      have hFi : (S1 : Int) + 130 = (F : Int) := by omega
      have hFi2 : (F : Int) - 128 = (E : Int) := by omega
      have hE3 : (S1 : Int) + 2 = (E : Int) := by omega
      have HE : Hid (S1 + 2 = E) := hE
      clear hE hF
      have Fb : (F : Int) ≤ 70000 := by omega
      have wF : IntKind.i64.wrap (F : Int) = (F : Int) := IntWalk.i64_in _ (by omega)
      have wE : IntKind.i64.wrap (E : Int) = (E : Int) := IntWalk.i64_in _ (by omega)
      by_cases hfit2 : en < E
      · have g1 : decide ((en : Int) < (E : Int)) = true := by simp; omega
        have g1n : decide (en < E) = true := by simp; omega
        have HT : Hid (LenTold b s en 0 20 S1) := unhide HL2 _ _ _ (by rw [if_pos (by have := unhide HS1; have := unhide HE; omega)]; exact ⟨rfl, rfl⟩)
        clear HL2
        go_enter Tryd.func29, Tryd.ntmps29
        go_wp2
        go_region_held3 (fun w' => w'.cell? ⟨K, 0, none⟩ = some (.slice (some ⟨ba, oa, none⟩) N cb) ∧ w'.cell? ⟨K, 1, none⟩ = some (.int .i64 (s : Int)) ∧ w'.cell? ⟨K, 2, none⟩ = some (.int .i64 (en : Int)) ∧ w'.cell? ⟨ba, oa + s, none⟩ = some (.int .u8 130)) (go_keep) (fail)
        go_wp2
        go_region_held3 (fun w' => w'.cell? ⟨K, 0, none⟩ = some (.slice (some ⟨ba, oa, none⟩) N cb) ∧ w'.cell? ⟨K, 1, none⟩ = some (.int .i64 (s : Int)) ∧ w'.cell? ⟨K, 2, none⟩ = some (.int .i64 (en : Int)) ∧ w'.cell? ⟨ba, oa + s, none⟩ = some (.int .u8 130)) (go_keep) (fail)
        go_wp2
        obtain ⟨WW, hWW⟩ : ∃ WW, (w.setCell ⟨K, 1, none⟩ (.int .i64 (S1 : Int))).drew.drew = WW := ⟨_, rfl⟩
        rw [hWW]
        have HRw : Hid (RAt WW K (some ⟨ba, oa, none⟩) cb b S1 en) := by rw [← hWW]; exact unhide HRW
        have HGw : Hid (w.grownBy WW (some K)) := by rw [← hWW]; exact unhide HgW
        obtain ⟨z0, z1, z2, z3⟩ := (unhide HRw).c
        rw [unhide HN] at z0
        clear hWW a0 a1 a2 a3 hcell
        go_region_held3 (fun w' => w'.cell? ⟨K, 0, none⟩ = some (.slice (some ⟨ba, oa, none⟩) N cb) ∧ w'.cell? ⟨K, 1, none⟩ = some (.int .i64 (S1 : Int)) ∧ w'.cell? ⟨K, 2, none⟩ = some (.int .i64 (en : Int))) (go_keep) (fail)
        go_wp2
        exact bodyPost_ret (v := .tuple #[.int .i64 0, .int .i64 20]) (by simp [results, Tryd.results29, go_sem]) rfl ⟨0, 20, S1, rfl, unhide HT, by omega, (unhide HRw).drew, (unhide HGw).drew⟩
      · have g1 : decide ((en : Int) < (E : Int)) = false := by simp; omega
        have g1n : decide (en < E) = false := by simp; omega
        go_enter Tryd.func29, Tryd.ntmps29
        go_wp2
        go_region_held3 (fun w' => w'.cell? ⟨K, 0, none⟩ = some (.slice (some ⟨ba, oa, none⟩) N cb) ∧ w'.cell? ⟨K, 1, none⟩ = some (.int .i64 (s : Int)) ∧ w'.cell? ⟨K, 2, none⟩ = some (.int .i64 (en : Int)) ∧ w'.cell? ⟨ba, oa + s, none⟩ = some (.int .u8 130)) (go_keep) (fail)
        go_wp2
        go_region_held3 (fun w' => w'.cell? ⟨K, 0, none⟩ = some (.slice (some ⟨ba, oa, none⟩) N cb) ∧ w'.cell? ⟨K, 1, none⟩ = some (.int .i64 (s : Int)) ∧ w'.cell? ⟨K, 2, none⟩ = some (.int .i64 (en : Int)) ∧ w'.cell? ⟨ba, oa + s, none⟩ = some (.int .u8 130)) (go_keep) (fail)
        go_wp2
        obtain ⟨WW, hWW⟩ : ∃ WW, (w.setCell ⟨K, 1, none⟩ (.int .i64 (S1 : Int))).drew.drew = WW := ⟨_, rfl⟩
        rw [hWW]
        have HRw : Hid (RAt WW K (some ⟨ba, oa, none⟩) cb b S1 en) := by rw [← hWW]; exact unhide HRW
        have HGw : Hid (w.grownBy WW (some K)) := by rw [← hWW]; exact unhide HgW
        obtain ⟨z0, z1, z2, z3⟩ := (unhide HRw).c
        rw [unhide HN] at z0
        clear hWW a0 a1 a2 a3 hcell
        go_region_held3 (fun w' => w'.cell? ⟨K, 0, none⟩ = some (.slice (some ⟨ba, oa, none⟩) N cb) ∧ w'.cell? ⟨K, 1, none⟩ = some (.int .i64 (S1 : Int)) ∧ w'.cell? ⟨K, 2, none⟩ = some (.int .i64 (en : Int))) (go_keep) (fail)
        clear z0 z1 z2 z3
        go_wp2
        go_loopw [5, 6] (fun nn ii wr => ∃ i n : Nat, i ≤ 2 ∧ ii = .int .i64 (i : Int) ∧ nn = .int .i64 (n : Int) ∧ n < 256 ^ i ∧ Hid (numB ((leftB b S1 en).take i) = n) ∧ Hid (RAt wr K (some ⟨ba, oa, none⟩) cb b (S1 + i) en) ∧ Hid (w.grownBy wr (some K))) (fun _ ii _ => 2 - (intOf ii).toNat)
        case atStart => exact ⟨0, 0, by omega, rfl, rfl, by omega, rfl, (unhide HRw).drew, (unhide HGw).drew⟩
        case round =>
          obtain ⟨i, n, hi, rfl, rfl, hn, Hn, HRr, HGr⟩ := hrel
          by_cases hlt : i < 2
          · obtain ⟨s2, hs2⟩ : ∃ s2, S1 + i = s2 := ⟨_, rfl⟩
            rw [hs2] at HRr
            have hs2e : s2 < en := by have := unhide HE; omega
            obtain ⟨ba2, oa2, e2, hc2⟩ := (unhide HRr).byte hs2e
            simp only [Option.some.injEq, Addr.mk.injEq, and_true] at e2
            obtain ⟨rfl, rfl⟩ := e2
            obtain ⟨z0, z1, z2, z3⟩ := (unhide HRr).c
            rw [unhide HN] at z0
            have hqb := (b.getD s2 0).toNat_lt
            have Hnb := hide (numB_take (l := leftB b S1 en) (k := i) (by rw [len_leftB hfit]; omega))
            rw [left_getD (by omega), hs2, unhide Hn] at Hnb
            obtain ⟨q, hq⟩ : ∃ q, (b.getD s2 0).toNat = q := ⟨_, rfl⟩
            rw [hq] at hc2 hqb Hnb
            have hn4 : n < 16777216 := Nat.lt_of_lt_of_le hn (Nat.le_trans (Nat.pow_le_pow_right (by omega) (show i ≤ 3 by omega)) (by decide))
            obtain ⟨n2, hn2⟩ : ∃ n2, 256 * n = n2 := ⟨_, rfl⟩
            obtain ⟨n3, hn3⟩ : ∃ n3, n2 + q = n3 := ⟨_, rfl⟩
            have i2 : (256 : Int) * (n : Int) = (n2 : Int) := by omega
            have i3 : (n2 : Int) + (q : Int) = (n3 : Int) := by omega
            have w2 : IntKind.i64.wrap (n2 : Int) = (n2 : Int) := IntWalk.i64_in _ (by omega)
            have w3 : IntKind.i64.wrap (n3 : Int) = (n3 : Int) := IntWalk.i64_in _ (by omega)
            have wq : IntKind.i64.wrap (q : Int) = (q : Int) := IntWalk.i64_in _ (by omega)
            obtain ⟨s3, hs3⟩ : ∃ s3, s2 + 1 = s3 := ⟨_, rfl⟩
            have is3 : (s2 : Int) + 1 = (s3 : Int) := by omega
            have s2b : (s2 : Int) ≤ 65536 := by omega
            have x0 : (0 : Int) ≤ (s2 : Int) := by omega
            have x1 : (s2 : Int) < (N : Int) := by have := unhide HN; omega
            have l1 : decide ((i : Int) < 2) = true := by simp; omega
            have l1n : decide (i < 2) = true := by simp; omega
            have HRn : Hid (RAt (wr.drew.setCell ⟨K, 1, none⟩ (.int .i64 (s3 : Int))) K (some ⟨ba, oa, none⟩) cb b (S1 + (i + 1)) en) := by
              have := (unhide HRr).drew.set s3 (by omega)
              rw [show S1 + (i + 1) = s3 by omega]
              exact this
            have HGn : Hid (w.grownBy (wr.drew.setCell ⟨K, 1, none⟩ (.int .i64 (s3 : Int))) (some K)) := grown_setCell (unhide HGr).drew ⟨K, 1, none⟩ _ rfl
            have Hn3 : Hid (numB ((leftB b S1 en).take (i + 1)) = n3) := by show _ = _; rw [unhide Hnb, hn2, hn3]
            have hn3b : n3 < 256 ^ (i + 1) := by rw [Nat.pow_succ]; omega
            clear hq hs2 hn2 hn3 hs3 Hn Hnb HRr HGr HRw HGw
            go_wp2
            go_region_held3 (fun w' => w'.cell? ⟨K, 0, none⟩ = some (.slice (some ⟨ba, oa, none⟩) N cb) ∧ w'.cell? ⟨K, 1, none⟩ = some (.int .i64 (s2 : Int)) ∧ w'.cell? ⟨ba, oa + s2, none⟩ = some (.int .u8 (q : Int))) (go_keep) (fail)
            go_wp2
            go_roundw
            case rel =>
              first
                | exact ⟨i + 1, n3, by omega, by go_num, rfl, hn3b, Hn3, HRn, HGn⟩
                | ((repeat apply Exists.intro); exact ⟨⟨i + 1, n3, by omega, by go_num, rfl, hn3b, Hn3, HRn, HGn⟩, rfl⟩)
            case measure => simp [intOf]; omega
          · obtain rfl : i = 2 := by omega
            have Hc : Hid (∀ n1 er s', (match (if n < 128 ∨ n < 256 then Told.no 22 else .yes (n, leftB b (s + 1 + 2) en)) with | .no x => n1 = 0 ∧ er = (x : Int) | .yes (m, r) => n1 = (m : Int) ∧ er = 0 ∧ r = leftB b s' en) → LenTold b s en n1 er s') := fun n1 er s' hh => unhide HL2 n1 er s' (by rw [if_neg (by have := unhide HS1; have := unhide HE; omega), unhide HS1, unhide Hn, ← unhide HS1]; exact hh)
            clear HL2 Hn
            by_cases h1 : n < 128
            · have HT : Hid (LenTold b s en 0 22 (S1 + 2)) := unhide Hc _ _ _ (by rw [if_pos (by omega)]; exact ⟨rfl, rfl⟩)
              have y1 : decide ((n : Int) < 128) = true := by simp; omega
              have y1n : decide (n < 128) = true := by simp; omega
              clear Hc
              go_wp2
              exact bodyPost_ret (v := .tuple #[.int .i64 0, .int .i64 22]) (by simp [results, Tryd.results29, go_sem]) rfl ⟨0, 22, S1 + 2, rfl, unhide HT, by omega, unhide HRr, unhide HGr⟩
            have y1 : decide ((n : Int) < 128) = false := by simp; omega
            have y1n : decide (n < 128) = false := by simp; omega
            by_cases h2 : n < 256
            · have HT : Hid (LenTold b s en 0 22 (S1 + 2)) := unhide Hc _ _ _ (by rw [if_pos (by omega)]; exact ⟨rfl, rfl⟩)
              have y2 : decide ((n : Int) < 256) = true := by simp; omega
              have y2n : decide (n < 256) = true := by simp; omega
              clear Hc
              go_wp2
              exact bodyPost_ret (v := .tuple #[.int .i64 0, .int .i64 22]) (by simp [results, Tryd.results29, go_sem]) rfl ⟨0, 22, S1 + 2, rfl, unhide HT, by omega, unhide HRr, unhide HGr⟩
            have y2 : decide ((n : Int) < 256) = false := by simp; omega
            have y2n : decide (n < 256) = false := by simp; omega
            have HT : Hid (LenTold b s en (n : Int) 0 (S1 + 2)) := unhide Hc _ _ _ (by rw [if_neg (by omega)]; exact ⟨rfl, rfl, by rw [unhide HS1]⟩)
            clear Hc
            go_wp2
            exact bodyPost_ret (v := .tuple #[.int .i64 (n : Int), .int .i64 0]) (by simp [results, Tryd.results29, go_sem]) rfl ⟨(n : Int), 0, S1 + 2, rfl, unhide HT, by omega, unhide HRr, unhide HGr⟩
    · have HL2 : Hid (∀ n er s', (match (if en - (s + 1) < 3 then Told.no 20 else if numB ((leftB b (s + 1) en).take 3) < 128 ∨ numB ((leftB b (s + 1) en).take 3) < 65536 then .no 22 else .yes (numB ((leftB b (s + 1) en).take 3), leftB b (s + 1 + 3) en)) with | .no x => n = 0 ∧ er = (x : Int) | .yes (m, r) => n = (m : Int) ∧ er = 0 ∧ r = leftB b s' en) → LenTold b s en n er s') := fun n er s' hh => unhide HL n er s' (by subst hcc; exact hh)
      clear HL
      subst hcc
      obtain ⟨E, hE⟩ : ∃ E, S1 + 3 = E := ⟨_, rfl⟩
      have hEi : (S1 : Int) + 131 - 128 = (E : Int) := by omega
      obtain ⟨F, hF⟩ : ∃ F, S1 + 131 = F := ⟨_, rfl⟩
      have hFi : (S1 : Int) + 131 = (F : Int) := by omega
      have hFi2 : (F : Int) - 128 = (E : Int) := by omega
      have hE3 : (S1 : Int) + 3 = (E : Int) := by omega
      have HE : Hid (S1 + 3 = E) := hE
      clear hE hF
      have Fb : (F : Int) ≤ 70000 := by omega
      have wF : IntKind.i64.wrap (F : Int) = (F : Int) := IntWalk.i64_in _ (by omega)
      have wE : IntKind.i64.wrap (E : Int) = (E : Int) := IntWalk.i64_in _ (by omega)
      by_cases hfit2 : en < E
      · have g1 : decide ((en : Int) < (E : Int)) = true := by simp; omega
        have g1n : decide (en < E) = true := by simp; omega
        have HT : Hid (LenTold b s en 0 20 S1) := unhide HL2 _ _ _ (by rw [if_pos (by have := unhide HS1; have := unhide HE; omega)]; exact ⟨rfl, rfl⟩)
        clear HL2
        go_enter Tryd.func29, Tryd.ntmps29
        go_wp2
        go_region_held3 (fun w' => w'.cell? ⟨K, 0, none⟩ = some (.slice (some ⟨ba, oa, none⟩) N cb) ∧ w'.cell? ⟨K, 1, none⟩ = some (.int .i64 (s : Int)) ∧ w'.cell? ⟨K, 2, none⟩ = some (.int .i64 (en : Int)) ∧ w'.cell? ⟨ba, oa + s, none⟩ = some (.int .u8 131)) (go_keep) (fail)
        go_wp2
        go_region_held3 (fun w' => w'.cell? ⟨K, 0, none⟩ = some (.slice (some ⟨ba, oa, none⟩) N cb) ∧ w'.cell? ⟨K, 1, none⟩ = some (.int .i64 (s : Int)) ∧ w'.cell? ⟨K, 2, none⟩ = some (.int .i64 (en : Int)) ∧ w'.cell? ⟨ba, oa + s, none⟩ = some (.int .u8 131)) (go_keep) (fail)
        go_wp2
        obtain ⟨WW, hWW⟩ : ∃ WW, (w.setCell ⟨K, 1, none⟩ (.int .i64 (S1 : Int))).drew.drew = WW := ⟨_, rfl⟩
        rw [hWW]
        have HRw : Hid (RAt WW K (some ⟨ba, oa, none⟩) cb b S1 en) := by rw [← hWW]; exact unhide HRW
        have HGw : Hid (w.grownBy WW (some K)) := by rw [← hWW]; exact unhide HgW
        obtain ⟨z0, z1, z2, z3⟩ := (unhide HRw).c
        rw [unhide HN] at z0
        clear hWW a0 a1 a2 a3 hcell
        go_region_held3 (fun w' => w'.cell? ⟨K, 0, none⟩ = some (.slice (some ⟨ba, oa, none⟩) N cb) ∧ w'.cell? ⟨K, 1, none⟩ = some (.int .i64 (S1 : Int)) ∧ w'.cell? ⟨K, 2, none⟩ = some (.int .i64 (en : Int))) (go_keep) (fail)
        go_wp2
        exact bodyPost_ret (v := .tuple #[.int .i64 0, .int .i64 20]) (by simp [results, Tryd.results29, go_sem]) rfl ⟨0, 20, S1, rfl, unhide HT, by omega, (unhide HRw).drew, (unhide HGw).drew⟩
      · have g1 : decide ((en : Int) < (E : Int)) = false := by simp; omega
        have g1n : decide (en < E) = false := by simp; omega
        go_enter Tryd.func29, Tryd.ntmps29
        go_wp2
        go_region_held3 (fun w' => w'.cell? ⟨K, 0, none⟩ = some (.slice (some ⟨ba, oa, none⟩) N cb) ∧ w'.cell? ⟨K, 1, none⟩ = some (.int .i64 (s : Int)) ∧ w'.cell? ⟨K, 2, none⟩ = some (.int .i64 (en : Int)) ∧ w'.cell? ⟨ba, oa + s, none⟩ = some (.int .u8 131)) (go_keep) (fail)
        go_wp2
        go_region_held3 (fun w' => w'.cell? ⟨K, 0, none⟩ = some (.slice (some ⟨ba, oa, none⟩) N cb) ∧ w'.cell? ⟨K, 1, none⟩ = some (.int .i64 (s : Int)) ∧ w'.cell? ⟨K, 2, none⟩ = some (.int .i64 (en : Int)) ∧ w'.cell? ⟨ba, oa + s, none⟩ = some (.int .u8 131)) (go_keep) (fail)
        go_wp2
        obtain ⟨WW, hWW⟩ : ∃ WW, (w.setCell ⟨K, 1, none⟩ (.int .i64 (S1 : Int))).drew.drew = WW := ⟨_, rfl⟩
        rw [hWW]
        have HRw : Hid (RAt WW K (some ⟨ba, oa, none⟩) cb b S1 en) := by rw [← hWW]; exact unhide HRW
        have HGw : Hid (w.grownBy WW (some K)) := by rw [← hWW]; exact unhide HgW
        obtain ⟨z0, z1, z2, z3⟩ := (unhide HRw).c
        rw [unhide HN] at z0
        clear hWW a0 a1 a2 a3 hcell
        go_region_held3 (fun w' => w'.cell? ⟨K, 0, none⟩ = some (.slice (some ⟨ba, oa, none⟩) N cb) ∧ w'.cell? ⟨K, 1, none⟩ = some (.int .i64 (S1 : Int)) ∧ w'.cell? ⟨K, 2, none⟩ = some (.int .i64 (en : Int))) (go_keep) (fail)
        clear z0 z1 z2 z3
        go_wp2
        go_loopw [5, 6] (fun nn ii wr => ∃ i n : Nat, i ≤ 3 ∧ ii = .int .i64 (i : Int) ∧ nn = .int .i64 (n : Int) ∧ n < 256 ^ i ∧ Hid (numB ((leftB b S1 en).take i) = n) ∧ Hid (RAt wr K (some ⟨ba, oa, none⟩) cb b (S1 + i) en) ∧ Hid (w.grownBy wr (some K))) (fun _ ii _ => 3 - (intOf ii).toNat)
        case atStart => exact ⟨0, 0, by omega, rfl, rfl, by omega, rfl, (unhide HRw).drew, (unhide HGw).drew⟩
        case round =>
          obtain ⟨i, n, hi, rfl, rfl, hn, Hn, HRr, HGr⟩ := hrel
          by_cases hlt : i < 3
          · obtain ⟨s2, hs2⟩ : ∃ s2, S1 + i = s2 := ⟨_, rfl⟩
            rw [hs2] at HRr
            have hs2e : s2 < en := by have := unhide HE; omega
            obtain ⟨ba2, oa2, e2, hc2⟩ := (unhide HRr).byte hs2e
            simp only [Option.some.injEq, Addr.mk.injEq, and_true] at e2
            obtain ⟨rfl, rfl⟩ := e2
            obtain ⟨z0, z1, z2, z3⟩ := (unhide HRr).c
            rw [unhide HN] at z0
            have hqb := (b.getD s2 0).toNat_lt
            have Hnb := hide (numB_take (l := leftB b S1 en) (k := i) (by rw [len_leftB hfit]; omega))
            rw [left_getD (by omega), hs2, unhide Hn] at Hnb
            obtain ⟨q, hq⟩ : ∃ q, (b.getD s2 0).toNat = q := ⟨_, rfl⟩
            rw [hq] at hc2 hqb Hnb
            have hn4 : n < 16777216 := Nat.lt_of_lt_of_le hn (Nat.le_trans (Nat.pow_le_pow_right (by omega) (show i ≤ 3 by omega)) (by decide))
            obtain ⟨n2, hn2⟩ : ∃ n2, 256 * n = n2 := ⟨_, rfl⟩
            obtain ⟨n3, hn3⟩ : ∃ n3, n2 + q = n3 := ⟨_, rfl⟩
            have i2 : (256 : Int) * (n : Int) = (n2 : Int) := by omega
            have i3 : (n2 : Int) + (q : Int) = (n3 : Int) := by omega
            have w2 : IntKind.i64.wrap (n2 : Int) = (n2 : Int) := IntWalk.i64_in _ (by omega)
            have w3 : IntKind.i64.wrap (n3 : Int) = (n3 : Int) := IntWalk.i64_in _ (by omega)
            have wq : IntKind.i64.wrap (q : Int) = (q : Int) := IntWalk.i64_in _ (by omega)
            obtain ⟨s3, hs3⟩ : ∃ s3, s2 + 1 = s3 := ⟨_, rfl⟩
            have is3 : (s2 : Int) + 1 = (s3 : Int) := by omega
            have s2b : (s2 : Int) ≤ 65536 := by omega
            have x0 : (0 : Int) ≤ (s2 : Int) := by omega
            have x1 : (s2 : Int) < (N : Int) := by have := unhide HN; omega
            have l1 : decide ((i : Int) < 3) = true := by simp; omega
            have l1n : decide (i < 3) = true := by simp; omega
            have HRn : Hid (RAt (wr.drew.setCell ⟨K, 1, none⟩ (.int .i64 (s3 : Int))) K (some ⟨ba, oa, none⟩) cb b (S1 + (i + 1)) en) := by
              have := (unhide HRr).drew.set s3 (by omega)
              rw [show S1 + (i + 1) = s3 by omega]
              exact this
            have HGn : Hid (w.grownBy (wr.drew.setCell ⟨K, 1, none⟩ (.int .i64 (s3 : Int))) (some K)) := grown_setCell (unhide HGr).drew ⟨K, 1, none⟩ _ rfl
            have Hn3 : Hid (numB ((leftB b S1 en).take (i + 1)) = n3) := by show _ = _; rw [unhide Hnb, hn2, hn3]
            have hn3b : n3 < 256 ^ (i + 1) := by rw [Nat.pow_succ]; omega
            clear hq hs2 hn2 hn3 hs3 Hn Hnb HRr HGr HRw HGw
            go_wp2
            go_region_held3 (fun w' => w'.cell? ⟨K, 0, none⟩ = some (.slice (some ⟨ba, oa, none⟩) N cb) ∧ w'.cell? ⟨K, 1, none⟩ = some (.int .i64 (s2 : Int)) ∧ w'.cell? ⟨ba, oa + s2, none⟩ = some (.int .u8 (q : Int))) (go_keep) (fail)
            go_wp2
            go_roundw
            case rel =>
              first
                | exact ⟨i + 1, n3, by omega, by go_num, rfl, hn3b, Hn3, HRn, HGn⟩
                | ((repeat apply Exists.intro); exact ⟨⟨i + 1, n3, by omega, by go_num, rfl, hn3b, Hn3, HRn, HGn⟩, rfl⟩)
            case measure => simp [intOf]; omega
          · obtain rfl : i = 3 := by omega
            have Hc : Hid (∀ n1 er s', (match (if n < 128 ∨ n < 65536 then Told.no 22 else .yes (n, leftB b (s + 1 + 3) en)) with | .no x => n1 = 0 ∧ er = (x : Int) | .yes (m, r) => n1 = (m : Int) ∧ er = 0 ∧ r = leftB b s' en) → LenTold b s en n1 er s') := fun n1 er s' hh => unhide HL2 n1 er s' (by rw [if_neg (by have := unhide HS1; have := unhide HE; omega), unhide HS1, unhide Hn, ← unhide HS1]; exact hh)
            clear HL2 Hn
            by_cases h1 : n < 128
            · have HT : Hid (LenTold b s en 0 22 (S1 + 3)) := unhide Hc _ _ _ (by rw [if_pos (by omega)]; exact ⟨rfl, rfl⟩)
              have y1 : decide ((n : Int) < 128) = true := by simp; omega
              have y1n : decide (n < 128) = true := by simp; omega
              clear Hc
              go_wp2
              exact bodyPost_ret (v := .tuple #[.int .i64 0, .int .i64 22]) (by simp [results, Tryd.results29, go_sem]) rfl ⟨0, 22, S1 + 3, rfl, unhide HT, by omega, unhide HRr, unhide HGr⟩
            have y1 : decide ((n : Int) < 128) = false := by simp; omega
            have y1n : decide (n < 128) = false := by simp; omega
            by_cases h2 : n < 65536
            · have HT : Hid (LenTold b s en 0 22 (S1 + 3)) := unhide Hc _ _ _ (by rw [if_pos (by omega)]; exact ⟨rfl, rfl⟩)
              have y2 : decide ((n : Int) < 65536) = true := by simp; omega
              have y2n : decide (n < 65536) = true := by simp; omega
              clear Hc
              go_wp2
              exact bodyPost_ret (v := .tuple #[.int .i64 0, .int .i64 22]) (by simp [results, Tryd.results29, go_sem]) rfl ⟨0, 22, S1 + 3, rfl, unhide HT, by omega, unhide HRr, unhide HGr⟩
            have y2 : decide ((n : Int) < 65536) = false := by simp; omega
            have y2n : decide (n < 65536) = false := by simp; omega
            have HT : Hid (LenTold b s en (n : Int) 0 (S1 + 3)) := unhide Hc _ _ _ (by rw [if_neg (by omega)]; exact ⟨rfl, rfl, by rw [unhide HS1]⟩)
            clear Hc
            go_wp2
            exact bodyPost_ret (v := .tuple #[.int .i64 (n : Int), .int .i64 0]) (by simp [results, Tryd.results29, go_sem]) rfl ⟨(n : Int), 0, S1 + 3, rfl, unhide HT, by omega, unhide HRr, unhide HGr⟩
    · have HL2 : Hid (∀ n er s', (match (if en - (s + 1) < 4 then Told.no 20 else if numB ((leftB b (s + 1) en).take 4) < 128 ∨ numB ((leftB b (s + 1) en).take 4) < 16777216 then .no 22 else .yes (numB ((leftB b (s + 1) en).take 4), leftB b (s + 1 + 4) en)) with | .no x => n = 0 ∧ er = (x : Int) | .yes (m, r) => n = (m : Int) ∧ er = 0 ∧ r = leftB b s' en) → LenTold b s en n er s') := fun n er s' hh => unhide HL n er s' (by subst hcc; exact hh)
      clear HL
      subst hcc
      obtain ⟨E, hE⟩ : ∃ E, S1 + 4 = E := ⟨_, rfl⟩
      have hEi : (S1 : Int) + 132 - 128 = (E : Int) := by omega
      obtain ⟨F, hF⟩ : ∃ F, S1 + 132 = F := ⟨_, rfl⟩
      have hFi : (S1 : Int) + 132 = (F : Int) := by omega
      have hFi2 : (F : Int) - 128 = (E : Int) := by omega
      have hE3 : (S1 : Int) + 4 = (E : Int) := by omega
      have HE : Hid (S1 + 4 = E) := hE
      clear hE hF
      have Fb : (F : Int) ≤ 70000 := by omega
      have wF : IntKind.i64.wrap (F : Int) = (F : Int) := IntWalk.i64_in _ (by omega)
      have wE : IntKind.i64.wrap (E : Int) = (E : Int) := IntWalk.i64_in _ (by omega)
      by_cases hfit2 : en < E
      · have g1 : decide ((en : Int) < (E : Int)) = true := by simp; omega
        have g1n : decide (en < E) = true := by simp; omega
        have HT : Hid (LenTold b s en 0 20 S1) := unhide HL2 _ _ _ (by rw [if_pos (by have := unhide HS1; have := unhide HE; omega)]; exact ⟨rfl, rfl⟩)
        clear HL2
        go_enter Tryd.func29, Tryd.ntmps29
        go_wp2
        go_region_held3 (fun w' => w'.cell? ⟨K, 0, none⟩ = some (.slice (some ⟨ba, oa, none⟩) N cb) ∧ w'.cell? ⟨K, 1, none⟩ = some (.int .i64 (s : Int)) ∧ w'.cell? ⟨K, 2, none⟩ = some (.int .i64 (en : Int)) ∧ w'.cell? ⟨ba, oa + s, none⟩ = some (.int .u8 132)) (go_keep) (fail)
        go_wp2
        go_region_held3 (fun w' => w'.cell? ⟨K, 0, none⟩ = some (.slice (some ⟨ba, oa, none⟩) N cb) ∧ w'.cell? ⟨K, 1, none⟩ = some (.int .i64 (s : Int)) ∧ w'.cell? ⟨K, 2, none⟩ = some (.int .i64 (en : Int)) ∧ w'.cell? ⟨ba, oa + s, none⟩ = some (.int .u8 132)) (go_keep) (fail)
        go_wp2
        obtain ⟨WW, hWW⟩ : ∃ WW, (w.setCell ⟨K, 1, none⟩ (.int .i64 (S1 : Int))).drew.drew = WW := ⟨_, rfl⟩
        rw [hWW]
        have HRw : Hid (RAt WW K (some ⟨ba, oa, none⟩) cb b S1 en) := by rw [← hWW]; exact unhide HRW
        have HGw : Hid (w.grownBy WW (some K)) := by rw [← hWW]; exact unhide HgW
        obtain ⟨z0, z1, z2, z3⟩ := (unhide HRw).c
        rw [unhide HN] at z0
        clear hWW a0 a1 a2 a3 hcell
        go_region_held3 (fun w' => w'.cell? ⟨K, 0, none⟩ = some (.slice (some ⟨ba, oa, none⟩) N cb) ∧ w'.cell? ⟨K, 1, none⟩ = some (.int .i64 (S1 : Int)) ∧ w'.cell? ⟨K, 2, none⟩ = some (.int .i64 (en : Int))) (go_keep) (fail)
        go_wp2
        exact bodyPost_ret (v := .tuple #[.int .i64 0, .int .i64 20]) (by simp [results, Tryd.results29, go_sem]) rfl ⟨0, 20, S1, rfl, unhide HT, by omega, (unhide HRw).drew, (unhide HGw).drew⟩
      · have g1 : decide ((en : Int) < (E : Int)) = false := by simp; omega
        have g1n : decide (en < E) = false := by simp; omega
        go_enter Tryd.func29, Tryd.ntmps29
        go_wp2
        go_region_held3 (fun w' => w'.cell? ⟨K, 0, none⟩ = some (.slice (some ⟨ba, oa, none⟩) N cb) ∧ w'.cell? ⟨K, 1, none⟩ = some (.int .i64 (s : Int)) ∧ w'.cell? ⟨K, 2, none⟩ = some (.int .i64 (en : Int)) ∧ w'.cell? ⟨ba, oa + s, none⟩ = some (.int .u8 132)) (go_keep) (fail)
        go_wp2
        go_region_held3 (fun w' => w'.cell? ⟨K, 0, none⟩ = some (.slice (some ⟨ba, oa, none⟩) N cb) ∧ w'.cell? ⟨K, 1, none⟩ = some (.int .i64 (s : Int)) ∧ w'.cell? ⟨K, 2, none⟩ = some (.int .i64 (en : Int)) ∧ w'.cell? ⟨ba, oa + s, none⟩ = some (.int .u8 132)) (go_keep) (fail)
        go_wp2
        obtain ⟨WW, hWW⟩ : ∃ WW, (w.setCell ⟨K, 1, none⟩ (.int .i64 (S1 : Int))).drew.drew = WW := ⟨_, rfl⟩
        rw [hWW]
        have HRw : Hid (RAt WW K (some ⟨ba, oa, none⟩) cb b S1 en) := by rw [← hWW]; exact unhide HRW
        have HGw : Hid (w.grownBy WW (some K)) := by rw [← hWW]; exact unhide HgW
        obtain ⟨z0, z1, z2, z3⟩ := (unhide HRw).c
        rw [unhide HN] at z0
        clear hWW a0 a1 a2 a3 hcell
        go_region_held3 (fun w' => w'.cell? ⟨K, 0, none⟩ = some (.slice (some ⟨ba, oa, none⟩) N cb) ∧ w'.cell? ⟨K, 1, none⟩ = some (.int .i64 (S1 : Int)) ∧ w'.cell? ⟨K, 2, none⟩ = some (.int .i64 (en : Int))) (go_keep) (fail)
        clear z0 z1 z2 z3
        go_wp2
        go_loopw [5, 6] (fun nn ii wr => ∃ i n : Nat, i ≤ 4 ∧ ii = .int .i64 (i : Int) ∧ nn = .int .i64 (n : Int) ∧ n < 256 ^ i ∧ Hid (numB ((leftB b S1 en).take i) = n) ∧ Hid (RAt wr K (some ⟨ba, oa, none⟩) cb b (S1 + i) en) ∧ Hid (w.grownBy wr (some K))) (fun _ ii _ => 4 - (intOf ii).toNat)
        case atStart => exact ⟨0, 0, by omega, rfl, rfl, by omega, rfl, (unhide HRw).drew, (unhide HGw).drew⟩
        case round =>
          obtain ⟨i, n, hi, rfl, rfl, hn, Hn, HRr, HGr⟩ := hrel
          by_cases hlt : i < 4
          · obtain ⟨s2, hs2⟩ : ∃ s2, S1 + i = s2 := ⟨_, rfl⟩
            rw [hs2] at HRr
            have hs2e : s2 < en := by have := unhide HE; omega
            obtain ⟨ba2, oa2, e2, hc2⟩ := (unhide HRr).byte hs2e
            simp only [Option.some.injEq, Addr.mk.injEq, and_true] at e2
            obtain ⟨rfl, rfl⟩ := e2
            obtain ⟨z0, z1, z2, z3⟩ := (unhide HRr).c
            rw [unhide HN] at z0
            have hqb := (b.getD s2 0).toNat_lt
            have Hnb := hide (numB_take (l := leftB b S1 en) (k := i) (by rw [len_leftB hfit]; omega))
            rw [left_getD (by omega), hs2, unhide Hn] at Hnb
            obtain ⟨q, hq⟩ : ∃ q, (b.getD s2 0).toNat = q := ⟨_, rfl⟩
            rw [hq] at hc2 hqb Hnb
            have hn4 : n < 16777216 := Nat.lt_of_lt_of_le hn (Nat.le_trans (Nat.pow_le_pow_right (by omega) (show i ≤ 3 by omega)) (by decide))
            obtain ⟨n2, hn2⟩ : ∃ n2, 256 * n = n2 := ⟨_, rfl⟩
            obtain ⟨n3, hn3⟩ : ∃ n3, n2 + q = n3 := ⟨_, rfl⟩
            have i2 : (256 : Int) * (n : Int) = (n2 : Int) := by omega
            have i3 : (n2 : Int) + (q : Int) = (n3 : Int) := by omega
            have w2 : IntKind.i64.wrap (n2 : Int) = (n2 : Int) := IntWalk.i64_in _ (by omega)
            have w3 : IntKind.i64.wrap (n3 : Int) = (n3 : Int) := IntWalk.i64_in _ (by omega)
            have wq : IntKind.i64.wrap (q : Int) = (q : Int) := IntWalk.i64_in _ (by omega)
            obtain ⟨s3, hs3⟩ : ∃ s3, s2 + 1 = s3 := ⟨_, rfl⟩
            have is3 : (s2 : Int) + 1 = (s3 : Int) := by omega
            have s2b : (s2 : Int) ≤ 65536 := by omega
            have x0 : (0 : Int) ≤ (s2 : Int) := by omega
            have x1 : (s2 : Int) < (N : Int) := by have := unhide HN; omega
            have l1 : decide ((i : Int) < 4) = true := by simp; omega
            have l1n : decide (i < 4) = true := by simp; omega
            have HRn : Hid (RAt (wr.drew.setCell ⟨K, 1, none⟩ (.int .i64 (s3 : Int))) K (some ⟨ba, oa, none⟩) cb b (S1 + (i + 1)) en) := by
              have := (unhide HRr).drew.set s3 (by omega)
              rw [show S1 + (i + 1) = s3 by omega]
              exact this
            have HGn : Hid (w.grownBy (wr.drew.setCell ⟨K, 1, none⟩ (.int .i64 (s3 : Int))) (some K)) := grown_setCell (unhide HGr).drew ⟨K, 1, none⟩ _ rfl
            have Hn3 : Hid (numB ((leftB b S1 en).take (i + 1)) = n3) := by show _ = _; rw [unhide Hnb, hn2, hn3]
            have hn3b : n3 < 256 ^ (i + 1) := by rw [Nat.pow_succ]; omega
            clear hq hs2 hn2 hn3 hs3 Hn Hnb HRr HGr HRw HGw
            go_wp2
            go_region_held3 (fun w' => w'.cell? ⟨K, 0, none⟩ = some (.slice (some ⟨ba, oa, none⟩) N cb) ∧ w'.cell? ⟨K, 1, none⟩ = some (.int .i64 (s2 : Int)) ∧ w'.cell? ⟨ba, oa + s2, none⟩ = some (.int .u8 (q : Int))) (go_keep) (fail)
            go_wp2
            go_roundw
            case rel =>
              first
                | exact ⟨i + 1, n3, by omega, by go_num, rfl, hn3b, Hn3, HRn, HGn⟩
                | ((repeat apply Exists.intro); exact ⟨⟨i + 1, n3, by omega, by go_num, rfl, hn3b, Hn3, HRn, HGn⟩, rfl⟩)
            case measure => simp [intOf]; omega
          · obtain rfl : i = 4 := by omega
            have Hc : Hid (∀ n1 er s', (match (if n < 128 ∨ n < 16777216 then Told.no 22 else .yes (n, leftB b (s + 1 + 4) en)) with | .no x => n1 = 0 ∧ er = (x : Int) | .yes (m, r) => n1 = (m : Int) ∧ er = 0 ∧ r = leftB b s' en) → LenTold b s en n1 er s') := fun n1 er s' hh => unhide HL2 n1 er s' (by rw [if_neg (by have := unhide HS1; have := unhide HE; omega), unhide HS1, unhide Hn, ← unhide HS1]; exact hh)
            clear HL2 Hn
            by_cases h1 : n < 128
            · have HT : Hid (LenTold b s en 0 22 (S1 + 4)) := unhide Hc _ _ _ (by rw [if_pos (by omega)]; exact ⟨rfl, rfl⟩)
              have y1 : decide ((n : Int) < 128) = true := by simp; omega
              have y1n : decide (n < 128) = true := by simp; omega
              clear Hc
              go_wp2
              exact bodyPost_ret (v := .tuple #[.int .i64 0, .int .i64 22]) (by simp [results, Tryd.results29, go_sem]) rfl ⟨0, 22, S1 + 4, rfl, unhide HT, by omega, unhide HRr, unhide HGr⟩
            have y1 : decide ((n : Int) < 128) = false := by simp; omega
            have y1n : decide (n < 128) = false := by simp; omega
            by_cases h2 : n < 16777216
            · have HT : Hid (LenTold b s en 0 22 (S1 + 4)) := unhide Hc _ _ _ (by rw [if_pos (by omega)]; exact ⟨rfl, rfl⟩)
              have y2 : decide ((n : Int) < 16777216) = true := by simp; omega
              have y2n : decide (n < 16777216) = true := by simp; omega
              clear Hc
              go_wp2
              exact bodyPost_ret (v := .tuple #[.int .i64 0, .int .i64 22]) (by simp [results, Tryd.results29, go_sem]) rfl ⟨0, 22, S1 + 4, rfl, unhide HT, by omega, unhide HRr, unhide HGr⟩
            have y2 : decide ((n : Int) < 16777216) = false := by simp; omega
            have y2n : decide (n < 16777216) = false := by simp; omega
            have HT : Hid (LenTold b s en (n : Int) 0 (S1 + 4)) := unhide Hc _ _ _ (by rw [if_neg (by omega)]; exact ⟨rfl, rfl, by rw [unhide HS1]⟩)
            clear Hc
            go_wp2
            exact bodyPost_ret (v := .tuple #[.int .i64 (n : Int), .int .i64 0]) (by simp [results, Tryd.results29, go_sem]) rfl ⟨(n : Int), 0, S1 + 4, rfl, unhide HT, by omega, unhide HRr, unhide HGr⟩
  · have d1 : decide ((en : Int) ≤ (s : Int)) = true := by simp; omega
    have d1n : decide (en ≤ s) = true := by simp; omega
    have HT : Hid (LenTold b s en 0 20 s) := by
      show LenTold _ _ _ _ _ _
      unfold LenTold
      rw [left_nil (by omega)]
      exact ⟨rfl, rfl⟩
    clear h hN
    go_enter Tryd.func29, Tryd.ntmps29
    go_wp2
    go_region_held3 (fun w' => w'.cell? ⟨K, 0, none⟩ = some (.slice sb N cb) ∧ w'.cell? ⟨K, 1, none⟩ = some (.int .i64 (s : Int)) ∧ w'.cell? ⟨K, 2, none⟩ = some (.int .i64 (en : Int))) (go_keep) (fail)
    go_wp2
    exact bodyPost_ret (v := .tuple #[.int .i64 0, .int .i64 20]) (by simp [results, Tryd.results29, go_sem]) rfl ⟨0, 20, s, rfl, unhide HT, Nat.le_refl _, (unhide H).drew, unhide Hg0⟩
end Go.Proofs.YtngkidlgcdofhaaDoor
