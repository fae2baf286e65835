/-
  The walk of the landed Append.
  The walk of the landed Open.
  The walk of the landed Records.
  The landed wal keeps the record.
-/
import Derived.Test.YtbjgknoipbekoaaGreatQ12
import Derived.Test.YtbjgknoipbekoaaGreatQ13
import Derived.Deep.RegionLaw
import Derived.Test.YtbjgknoipbekoaaGreatQ10
namespace Go.Proofs.YtbjgknoipbekoaaGreat
open Go.RowKit
section
variable {PAt : Set_ → Set_ → World → Value → PS → Prop} (HP : Plate PAt)
set_option maxRecDepth 100000 in
set_option maxHeartbeats 8000000 in
include HP in
theorem wappend_c {S R S2 R2 : Set_} {w : World} {l p : Value} {s : PS} {L : LS} (x : Value) (b : Bs) (hp : PAt S R w p s) (hl : LAt S2 R2 w l p L) (h1 : ∀ k, S2 k → ¬ S k ∧ ¬ R k) (h2 : ∀ k, S k → ¬ R2 k) (hx : BytesAt w x b) (hxs : b ≠ [] → ∀ k, x.ownBlock = some k → ¬ S k ∧ ¬ S2 k) (hb : b.length ≤ 1000000) (hI : L.shut = false → LogI L s) :
    Calls Tryz.prog 50 #[l, x] w fun e w' => e = .returned (.int .i64 (appendE L s b)) ∧ AppEnd PAt S R S2 R2 w w' l p (appendP L s b) (appendL L s b) := by
  obtain ⟨B, v, vs, rfl, hf, hS2, hR2⟩ := hl
  obtain ⟨pa, rfl⟩ := HP.ptr hp
  have HA := hide (show AppI PAt S R S2 R2 w B (.pointer (some pa)) v vs s L from ⟨hp, hf, hS2, hR2, h1, h2⟩)
  obtain ⟨k0, k1, k2, k3, k4, k5, k6⟩ := seven_row hf.str
  obtain ⟨sx, cx, rfl, _⟩ := bytes_open hx
  obtain ⟨BL, hBL⟩ : ∃ y, b.length = y := ⟨_, rfl⟩
  have HX := hide hx
  have HXs := hide hxs
  rw [hBL] at HX HXs hb
  have hfit := hf.fit
  have hused := hf.used
  unfold appendE appendP appendL
  rw [hBL]
  clear hp hf hS2 hR2 h1 h2 hx hxs
  cases hsh : L.shut with
  | true =>
    simp only [if_true]
    rw [hsh] at k6
    have HE := hide ((unhide HA).same HP (Below.refl _ w))
    clear hI HXs HX
    go_enter Tryz.func50, Tryz.ntmps50
    go_wp2
    go_ret
    exact ⟨rfl, unhide HE⟩
  | false =>
  simp only [Bool.false_eq_true, if_false]
  rw [hsh] at k6
  have HLI := hide (hI hsh)
  by_cases hbig : 65536 < BL
  · rw [if_pos hbig, if_pos hbig, if_pos hbig]
    have f1 : decide ((65536 : Int) < (BL : Int)) = true := by simp; omega
    have HE := hide ((unhide HA).same HP (Below.refl _ w))
    clear hI HXs HX hbig
    go_enter Tryz.func50, Tryz.ntmps50
    go_wp2
    go_ret
    exact ⟨rfl, unhide HE⟩
  rw [if_neg hbig, if_neg hbig, if_neg hbig]
  have f1 : decide ((65536 : Int) < (BL : Int)) = false := by simp; omega
  obtain ⟨M, hM⟩ : ∃ y, needs BL = y := ⟨_, rfl⟩
  obtain ⟨U, hU⟩ : ∃ y, usedR L.rs = y := ⟨_, rfl⟩
  obtain ⟨Z, hZ⟩ : ∃ y, L.size = y := ⟨_, rfl⟩
  obtain ⟨A, hA⟩ : ∃ y, L.start + U = y := ⟨_, rfl⟩
  obtain ⟨T, hT⟩ : ∃ y, L.start + Z = y := ⟨_, rfl⟩
  obtain ⟨D, hD⟩ : ∃ y, Z - U = y := ⟨_, rfl⟩
  have Hp := hide (fun w => wparts_s w BL (by omega))
  rw [hM] at Hp
  have hMm := needs_most (n := BL) (by omega)
  have hM1 := needs_pos BL
  rw [hM] at hMm hM1
  rw [hU] at k1 hused
  rw [hA] at k1
  rw [hZ] at k2 hused hfit
  rw [hT] at k2
  have eD : (T : Int) - (A : Int) = (D : Int) := by omega
  have wD : IntKind.i64.wrap (D : Int) = (D : Int) := by rw [IntKind.wrap_i64]; omega
  rw [hU, hM, hZ]
  by_cases hfull : Z < U + M
  · rw [if_pos hfull, if_pos hfull, if_pos hfull]
    have f2 : decide ((D : Int) < (M : Int)) = true := by simp; omega
    have f2n : decide (D < M) = true := by simp; omega
    have HE := hide ((unhide HA).same HP ((Below.refl _ w).drew))
    clear hI HXs HX hbig hM hU hZ hA hT hD hfull
    go_enter Tryz.func50, Tryz.ntmps50
    go_wp2
    go_region_held3 (fun w' => w'.cell? ⟨B, 1, none⟩ = some (.int .i64 (A : Int)) ∧ w'.cell? ⟨B, 2, none⟩ = some (.int .i64 (T : Int))) (go_keep)
      ((first
        | (go_at_call 72
           refine (unhide Hp _).mono ?_
           rintro e w' ⟨rfl, rfl⟩)))
    go_wp2
    go_ret
    exact ⟨rfl, unhide HE⟩
  rw [if_neg hfull, if_neg hfull, if_neg hfull]
  have f2 : decide ((D : Int) < (M : Int)) = false := by simp; omega
  have f2n : decide (D < M) = false := by simp; omega
  have hli := unhide HLI
  have hfm := (unhide HA).f
  obtain ⟨sv, cv, ev⟩ := hfm.recs.lists.form
  rw [List.length_map] at ev
  have hrl : L.rs.length ≤ 16384 := by have := few_used L.rs; rw [hU] at this; omega
  have hbd : Below w.heap.size w w.drew := (Below.refl _ _).drew
  have Hse := hide (wsecs_c w.drew B (.pointer (some pa)) v L _ b (show w.drew.heap[B]? = _ from hfm.str) ⟨sv, cv, ev⟩ ((by rw [hBL]; exact (unhide HX) : BytesAt w (.slice sx b.length cx) b).below hbd) (by omega) (by have := hli.gen; omega) hli.op (by omega))
  rw [hBL] at Hse
  have Hxl : Hid ((nextS L b).length = M) := by show _ = _; unfold nextS; rw [rec_len, hBL, hM]
  have Hx64 : Hid (∀ y ∈ nextS L b, y.length = 64) := fun y hy => (rec_all (by have := hli.gen; omega) hli.op (by omega) (by omega) hy).2.2.1
  have Hwr : Hid (∀ (w1 : World) (u : Value) (us : List Value), Below w.heap.size w w1 → GrowF w.heap.size w1 u us (nextS L b) → Calls Tryz.prog 74 #[.pointer (some ⟨B, 0, none⟩), u] w1 fun e w' => e = .returned (.int .i64 (putL L s b).2) ∧ ∃ S' R', PAt S' R' w' (.pointer (some pa)) (putL L s b).1 ∧ (∀ k, S' k → S k ∨ w1.heap.size ≤ k) ∧ (∀ k, R' k → R k ∨ w1.heap.size ≤ k) ∧ Aside S w1 w') := fun w1 u us hb1 hg1 => by
    have hold := HP.old (unhide HA).pl
    have hlt := hfm.blocks.1
    refine wwrite_c HP B v u L us (nextS L b) (HP.kept (unhide HA).pl (T := none_) (Aside.of_below hb1) fun _ h => h.elim) (by rw [hb1.block B hlt]; exact hfm.str) (unhide HA).notS.1 (hg1.mono (Nat.zero_le _)) (fun k hk hS => ?_) (fun y hy k hk hS => ?_) (by rw [unhide Hxl]; omega) (by rw [hli.loose]; simp) (unhide Hx64) (by rw [hU, hA]; omega)
    · have h3 := (hg1.lt.1 k hk).1
      have := hold k (Or.inl hS)
      omega
    · have h3 := (hg1.lt.2 y hy k hk).1
      have := hold k (Or.inl hS)
      omega
  obtain ⟨E, hE⟩ : ∃ y, (putL L s b).2 = y := ⟨_, rfl⟩
  obtain ⟨P2, hP2⟩ : ∃ y, (putL L s b).1 = y := ⟨_, rfl⟩
  rw [hE, hP2] at Hwr ⊢
  have hE2 := hE
  have HBL := hide hBL
  have Hfu : Hid (U + M ≤ Z) := by show _ ≤ _; omega
  have HM := hide hM
  have HU := hide hU
  have HZ := hide hZ
  have HAA := hide hA
  have Hsh := hide hsh
  have HX2 : Hid (∀ (w2 : World), Aside (fun k => S k ∨ S2 k) w w2 → BytesAt w2 (.slice sx BL cx) b) := fun w2 hA2 => ValsAt.beside (unhide HX) hA2 fun hne k hk hS => (unhide HXs (by intro e; rw [e] at hne; simp at hne) k hk).elim fun h3 h4 => hS.elim h3 h4
  clear hI hbig hM hU hZ hA hT hD hfull hli hBL hsh hbd hE hP2
  by_cases hz : E = 0
  case neg =>
    have g1 : (E != 0) = true := by simpa using hz
    rw [if_neg hz]
    clear hz
    go_enter Tryz.func50, Tryz.ntmps50
    go_wp2
    go_region_held3 (fun w' => w'.cell? ⟨B, 1, none⟩ = some (.int .i64 (A : Int)) ∧ w'.cell? ⟨B, 2, none⟩ = some (.int .i64 (T : Int))) (go_keep)
      ((first
        | (go_at_call 72
           refine (unhide Hp _).mono ?_
           rintro e w' ⟨rfl, rfl⟩)))
    go_wp2_with fail
    refine (unhide Hse).mono ?_
    rintro e w1 ⟨u, us, rfl, hg1, hb1⟩
    have HB1 : Hid (Below w.heap.size w w1) := (Below.refl _ _).drew.trans (hb1.mono (Nat.le_refl _))
    have hg1' : GrowF w.heap.size w1 u us (nextS L b) := hg1
    obtain ⟨su, cu, eu⟩ := hg1'.lists.form
    rw [unhide Hxl] at eu
    subst eu
    have Hw := hide (unhide Hwr w1 _ us (unhide HB1) hg1')
    clear hg1 hb1 hg1' Hse Hwr
    go_wp2_with fail
    refine (unhide Hw).mono ?_
    rintro e w2 ⟨rfl, S', R', hp2, hS', hR', hA2⟩
    have HE := hide ((unhide HA).err HP (unhide HB1) hp2 hS' hR' hA2)
    rw [unhide HZ] at HE
    obtain ⟨hf2, _⟩ := (unhide HA).wrote HP (unhide HB1) hS' hR' hA2
    have c6 := row_cell hf2.str 6 _ rfl
    have z6 := row_frozen hf2.str 6
    clear hp2 hS' hR' hA2 hf2 Hw k0 k1 k2 k3 k4 k5 k6 hfm
    go_wp2
    go_ret
    exact ⟨rfl, unhide HE⟩
  subst hz
  rw [if_pos rfl]
  have g1 : ((0 : Int) != 0) = false := rfl
  go_enter Tryz.func50, Tryz.ntmps50
  go_wp2
  go_region_held3 (fun w' => w'.cell? ⟨B, 1, none⟩ = some (.int .i64 (A : Int)) ∧ w'.cell? ⟨B, 2, none⟩ = some (.int .i64 (T : Int))) (go_keep)
    ((first
      | (go_at_call 72
         refine (unhide Hp _).mono ?_
         rintro e w' ⟨rfl, rfl⟩)))
  go_wp2_with fail
  refine (unhide Hse).mono ?_
  rintro e w1 ⟨u, us, rfl, hg1, hb1⟩
  have HB1 : Hid (Below w.heap.size w w1) := (Below.refl _ _).drew.trans (hb1.mono (Nat.le_refl _))
  have hg1' : GrowF w.heap.size w1 u us (nextS L b) := hg1
  obtain ⟨su, cu, eu⟩ := hg1'.lists.form
  rw [unhide Hxl] at eu
  subst eu
  have Hw := hide (unhide Hwr w1 _ us (unhide HB1) hg1')
  clear hg1 hb1 hg1' Hse Hwr
  go_wp2_with fail
  refine (unhide Hw).mono ?_
  rintro e w2 ⟨rfl, S', R', hp2, hS', hR', hA2⟩
  obtain ⟨hf2, hA02, _⟩ := (unhide HA).wrote HP (unhide HB1) hS' hR' hA2
  have c1 := row_cell hf2.str 1 _ rfl
  have z1 := row_frozen hf2.str 1
  obtain ⟨NX, hNX⟩ : ∃ y, A + M = y := ⟨_, rfl⟩
  have eNX : (A : Int) + (M : Int) = (NX : Int) := by omega
  have hNXb : NX ≤ 40000 := by have := unhide HAA; omega
  have hNXL : L.start + usedR L.rs + needs b.length = NX := by rw [unhide HU, unhide HBL, unhide HM, unhide HAA]; exact hNX
  have c1' : w2.cell? ⟨B, 1, none⟩ = some (.int .i64 (A : Int)) := by
    have e1 : L.start + usedR L.rs = A := by rw [unhide HU]; exact unhide HAA
    have h3 := c1
    rw [e1] at h3
    exact h3
  have str3 := row_put hf2.str 1 (by simp [logC]) (.int .i64 (NX : Int))
  have hs3 : (w2.setCell ⟨B, 1, none⟩ (.int .i64 (NX : Int))).heap.size = w2.heap.size := by simp
  have A3 : Aside (fun k => k = B) w2 (w2.setCell ⟨B, 1, none⟩ (.int .i64 (NX : Int))) := Aside.of_grown (setCell_grown B 1 _) fun k hk => (Option.some.inj hk).symm
  have own3 : OwnV 23 (w2.setCell ⟨B, 1, none⟩ (.int .i64 (NX : Int))) 0 v vs := hf2.recs.own.aside A3 fun k hk e => by subst e; exact hf2.apart hk
  have Hok := hide (fun (w4 w5 : World) (c v' : Value) => (unhide HA).ok HP (T := 23) (w4 := w4) (w5 := w5) (c := c) (v' := v') (b := b) (unhide HB1) hp2 hS' hR' hA2 (by rw [unhide HU, unhide HZ, unhide HBL, unhide HM]; exact unhide Hfu) (unhide Hsh))
  rw [hNXL] at Hok
  have A03 : Aside (fun k => S k ∨ S2 k) w (w2.setCell ⟨B, 1, none⟩ (.int .i64 (NX : Int))) := (hA02.mono fun _ _ h => Or.inl h).trans (T := fun k => k = B) A3 fun k _ e => by rw [e]; exact Or.inr (((unhide HA).s2 B).2 (Or.inl rfl))
  have hx3 := unhide HX2 _ A03
  have hBl2 : B < w2.heap.size := (Array.getElem?_eq_some_iff.1 hf2.str).1
  clear hp2 hS' hR' hA2 Hw k0 k1 k2 k3 k4 k5 k6 hfm hf2 hA02 A3 A03 c1 HX2 HXs
  go_wp2
  obtain ⟨w3, hw3⟩ : ∃ y, w2.setCell ⟨B, 1, none⟩ (.int .i64 (NX : Int)) = y := ⟨_, rfl⟩
  rw [hw3] at str3 hs3 own3 Hok hx3 ⊢
  have p3 : w3.cell? ⟨B, 5, none⟩ = some v := row_cell str3 5 _ rfl
  have hBl3 : B < w3.heap.size := by omega
  have Hcl := hide (bclone_c w3.drew (.slice sx BL cx) b (hx3.below (Below.refl _ _).drew) (by have := unhide HBL; omega))
  have HOw := hide own3
  have HBl3 := hide hBl3
  have HS3 := hide hs3
  have Hp3 : Hid (∀ w', Below w3.heap.size w3 w' → w'.cell? ⟨B, 5, none⟩ = some v) := fun w' hb => by rw [hb.cell (p := ⟨B, 5, none⟩) (by show B < _; omega)]; exact p3
  have HVl : Hid (vs.length ≤ 16384) := by
    show _ ≤ _
    rw [(unhide HA).f.recs.len, List.length_map]
    exact hrl
  subst ev
  clear str3 own3 hx3 hs3 hBl3 hBl2 hw3 c1' z1 g1
  go_region_law (first
    | (go_simp
       go_at_call 51
       refine (unhide Hcl).mono ?_
       rintro e w4 ⟨c4, rfl, h4⟩
       obtain ⟨s4, q4, e4⟩ := h4.own.form
       rw [unhide HBL] at e4
       subst e4
       have HB4 : Hid (Below w3.heap.size w3 w4) := (Below.refl _ _).drew.trans (h4.b.mono (Nat.le_refl _))
       have p4 := unhide Hp3 w4 (unhide HB4)
       have HB4a : Hid (Below w3.heap.size w3 (w4.alloc (.cells #[.slice s4 BL q4] 23))) := (unhide HB4).alloc (unhide HB4).size _
       have p4a := unhide Hp3 _ (unhide HB4a)
       have HO4 := hide h4.own.any
       have HV4 : Hid (ValsAt (w4.alloc (.cells #[.slice s4 BL q4] 23)) (.slice (some ⟨w4.heap.size, 0, none⟩) 1 1) [.slice s4 BL q4]) := vals_new w4 [.slice s4 BL q4] 23
       clear h4
       go_simp)
    | (refine step_append_vals Ebb rfl _ _ rfl 0 (.slice sv L.rs.length cv) (.slice (some ⟨w4.heap.size, 0, none⟩) 1 1) vs [.slice s4 BL q4] (by simp [Act.eval]) ((unhide HOw).below (unhide HB4a)) (by simp [Act.eval]) (unhide HV4) (by simp [Value.oneCell']) (Nat.zero_le _) (by have := unhide HVl; simp; omega) ?_
       intro v5 w5 ho5 hg5 hor5
       obtain ⟨p5, z5, he5⟩ := unhide Hok w4 w5 (.slice s4 BL q4) v5 (by rw [← unhide HS3]; exact unhide HB4) (by rw [← unhide HS3]; exact unhide HO4) ho5 hg5 hor5
       obtain ⟨s5, c5, e5⟩ := ho5.form
       rw [List.length_append, List.length_singleton] at e5
       subst e5
       rw [unhide HZ] at he5
       have HE5 := hide he5
       clear ho5 hg5 hor5 he5))
  all_goals
    clear p3 p4 p4a p5 z5
    go_wp2
    go_ret
    exact ⟨rfl, unhide HE5⟩
end
end Go.Proofs.YtbjgknoipbekoaaGreat
namespace Go.Proofs.YtbjgknoipbekoaaGreat
open Go.RowKit
theorem top_lt (g : Nat) (l : List Bs) : topP g l < 4294967296 := by
  have key : ∀ (l : List Bs) (t : Nat), t < 4294967296 → l.foldl (fun t s => if isPart g s ∧ t < opF s then opF s else t) t < 4294967296 := by
    intro l
    induction l with
    | nil => intro t ht; exact ht
    | cons s l ih =>
      intro t ht
      rw [List.foldl_cons]
      refine ih _ ?_
      have := (field_lt s).2.1
      split <;> omega
  exact key l 0 (by omega)
section
variable {PAt : Set_ → Set_ → World → Value → PS → Prop} (HP : Plate PAt)
set_option maxRecDepth 100000 in
set_option maxHeartbeats 4000000 in
include HP in
theorem wopen_sector {S R : Set_} {w : World} {p : Value} {s : PS} (a b g : Int) (hp : PAt S R w p s) (h : ¬ (0 ≤ a ∧ a < b ∧ b ≤ s.safe.length))  :
    Calls Tryz.prog 87 #[p, .int .i64 a, .int .i64 b, .int .i64 g] w fun e w' => e = .returned (.tuple #[.pointer none, .int .i64 51]) ∧ Below w.heap.size w w' := by
  by_cases h1 : a < 0
  · have f1 : decide (a < 0) = true := decide_eq_true h1
    clear h hp
    go_enter Tryz.func87, Tryz.ntmps87
    go_wp2
    go_ret2
    exact ⟨rfl, Below.refl _ _⟩
  · have f1 : decide (a < 0) = false := decide_eq_false h1
    by_cases h2 : b ≤ a
    · have f2 : decide (b ≤ a) = true := decide_eq_true h2
      clear h hp
      go_enter Tryz.func87, Tryz.ntmps87
      go_wp2
      go_ret2
      exact ⟨rfl, Below.refl _ _⟩
    · have f2 : decide (b ≤ a) = false := decide_eq_false h2
      have Hs := hide (HP.sectors hp)
      obtain ⟨N, hN⟩ : ∃ y, s.safe.length = y := ⟨_, rfl⟩
      rw [hN] at Hs h
      have f3 : decide ((N : Int) < b) = true := decide_eq_true (by omega)
      clear h hp hN
      go_enter Tryz.func87, Tryz.ntmps87
      go_wp2_with fail
      refine (unhide Hs).mono ?_
      rintro e w1 ⟨rfl, hb⟩
      have HB := hide hb
      clear hb Hs
      go_wp2
      go_ret2
      exact ⟨rfl, unhide HB⟩
set_option maxRecDepth 100000 in
set_option maxHeartbeats 4000000 in
include HP in
theorem wopen_form {S R : Set_} {w : World} {p : Value} {s : PS} (a b g : Int) (hp : PAt S R w p s) (h : 0 ≤ a ∧ a < b ∧ b ≤ s.safe.length) (hg : g < 1 ∨ 2147483648 ≤ g) :
    Calls Tryz.prog 87 #[p, .int .i64 a, .int .i64 b, .int .i64 g] w fun e w' => e = .returned (.tuple #[.pointer none, .int .i64 30]) ∧ Below w.heap.size w w' := by
  have f1 : decide (a < 0) = false := decide_eq_false (by omega)
  have f2 : decide (b ≤ a) = false := decide_eq_false (by omega)
  have Hs := hide (HP.sectors hp)
  obtain ⟨N, hN⟩ : ∃ y, s.safe.length = y := ⟨_, rfl⟩
  rw [hN] at Hs h
  have f3 : decide ((N : Int) < b) = false := decide_eq_false (by omega)
  clear h hp hN
  by_cases h1 : g < 1
  · have f4 : decide (g < 1) = true := decide_eq_true h1
    clear hg
    go_enter Tryz.func87, Tryz.ntmps87
    go_wp2_with fail
    refine (unhide Hs).mono ?_
    rintro e w1 ⟨rfl, hb⟩
    have HB := hide hb
    clear hb Hs
    go_wp2
    go_ret2
    exact ⟨rfl, unhide HB⟩
  · have f4 : decide (g < 1) = false := decide_eq_false h1
    have f5 : decide ((2147483647 : Int) < g) = true := decide_eq_true (by omega)
    clear hg h1
    go_enter Tryz.func87, Tryz.ntmps87
    go_wp2_with fail
    refine (unhide Hs).mono ?_
    rintro e w1 ⟨rfl, hb⟩
    have HB := hide hb
    clear hb Hs
    go_wp2
    go_ret2
    exact ⟨rfl, unhide HB⟩
set_option maxRecDepth 100000 in
set_option maxHeartbeats 4000000 in
include HP in
theorem wopen_yes {S R : Set_} {w : World} {p : Value} {s : PS} (a n g : Nat) (hp : PAt S R w p s) (hn : 1 ≤ n) (hf : a + n ≤ s.safe.length) (hg0 : 1 ≤ g) (hg : g < 2147483648) (hd : s.down = false) (hl : s.loose.length ≤ 100000) :
    Calls Tryz.prog 87 #[p, .int .i64 (a : Int), .int .i64 ((a + n : Nat) : Int), .int .i64 (g : Int)] w fun e w' => ∃ l, e = .returned (.tuple #[l, .int .i64 0]) ∧ ∃ S2 R2, LAt S2 R2 w' l p (openL s a n g) ∧ (∀ k, S2 k ∨ R2 k → w.heap.size ≤ k) ∧ Below w.heap.size w w' := by
  obtain ⟨pa, rfl⟩ := HP.ptr hp
  have hok := HP.ok hp
  have hfew := hok.few
  have Hs := hide (HP.sectors hp)
  have HPL : Hid ((W.partOf (contentS s) a n).length = n) := by show _ = _; rw [W.partOf_len (by unfold contentS; rw [apply_len]; exact hf)]
  have H64 : Hid (∀ x ∈ W.partOf (contentS s) a n, x.length = 64) := fun x hx => by
    have hx2 : x ∈ applyL s.safe s.loose := List.mem_of_mem_drop (List.mem_of_mem_take hx)
    exact apply_all hok.safe (fun y hy => (hok.loose y hy).2) x hx2
  have HST : Hid (usedR (thereL g n (W.partOf (contentS s) a n) 1 1) ≤ n) := by
    have := used_le (there_stands (g := g) (by omega) (n := n) (l := W.partOf (contentS s) a n) (low := 1) (m := 1) (by rw [unhide HPL]; omega) (by omega) (unhide H64))
    rw [unhide HPL] at this
    exact this
  obtain ⟨N, hN⟩ : ∃ y, s.safe.length = y := ⟨_, rfl⟩
  obtain ⟨T, hT⟩ : ∃ y, a + n = y := ⟨_, rfl⟩
  have HTop := hide (top_lt g (W.partOf (contentS s) a n))
  have f1 : decide ((a : Int) < 0) = false := decide_eq_false (by omega)
  have f2 : decide ((T : Int) ≤ (a : Int)) = false := decide_eq_false (by omega)
  have f2n : decide (T ≤ a) = false := decide_eq_false (by omega)
  have f3 : decide ((N : Int) < (T : Int)) = false := decide_eq_false (by omega)
  have f3n : decide (N < T) = false := decide_eq_false (by omega)
  have f4 : decide ((g : Int) < 1) = false := decide_eq_false (by omega)
  have f5 : decide ((2147483647 : Int) < (g : Int)) = false := decide_eq_false (by omega)
  rw [hN] at Hs
  rw [hT]
  have Hp := hide hp
  have Hf := hide hf
  have Hd := hide hd
  have Hl := hide hl
  have HT := hide hT
  have HNf := hide hfew
  have Han : Hid (a + n ≤ 16384) := by show _ ≤ _; omega
  unfold openL
  obtain ⟨P, hP⟩ : ∃ y, W.partOf (contentS s) a n = y := ⟨_, rfl⟩
  obtain ⟨RS, hRS⟩ : ∃ y, thereL g n P 1 1 = y := ⟨_, rfl⟩
  obtain ⟨TP, hTP⟩ : ∃ y, topP g P = y := ⟨_, rfl⟩
  rw [hP, hTP, hRS]
  rw [hP] at HPL H64 HST HTop
  rw [hRS] at HST
  rw [hTP] at HTop
  have HPp := hide hP
  have HRS := hide hRS
  have HTP := hide hTP
  have han : a + n ≤ 16384 := unhide Han
  have ht := unhide HTop
  clear hp hf hd hl hT hN hok hfew hP hRS hTP
  go_enter Tryz.func87, Tryz.ntmps87
  go_wp2_with fail
  refine (unhide Hs).mono ?_
  rintro e w1 ⟨rfl, hb⟩
  have HB1 := hide hb
  have Hra := hide (wreadall_c HP (HP.kept (unhide Hp) (T := none_) (Aside.of_below hb) fun _ h => h.elim) a n (unhide Hd) (unhide Hf) (unhide Hl) (by omega) (by omega))
  rw [unhide HT, unhide HPp] at Hra
  clear hb Hs
  go_wp2_with fail
  refine (unhide Hra).mono ?_
  rintro e w2 ⟨v2, vs2, rfl, hg2, hb2⟩
  have HB2 : Hid (Below w.heap.size w w2) := (unhide HB1).trans (hb2.mono (unhide HB1).size)
  have HG2 := hide hg2
  obtain ⟨s2, c2, e2⟩ := hg2.lists.form
  rw [unhide HPL] at e2
  subst e2
  have Hri := hide (wrecsin_c w2 _ P g hg2.lists (unhide H64) (by rw [unhide HPL]; omega) hg)
  rw [unhide HPL, unhide HRS] at Hri
  clear hg2 hb2 Hra
  go_wp2_with fail
  refine (unhide Hri).mono ?_
  rintro e w3 ⟨v3, vs3, rfl, hg3, hb3⟩
  have HB3 : Hid (Below w.heap.size w w3) := (unhide HB2).trans (hb3.mono (unhide HB2).size)
  have HG3 : Hid (GrowF w.heap.size w3 v3 vs3 (RS.map (·.1))) := hg3.mono (unhide HB2).size
  obtain ⟨s3, c3, e3⟩ := hg3.lists.form
  obtain ⟨RL, hRL⟩ : ∃ y, (RS.map (·.1)).length = y := ⟨_, rfl⟩
  rw [hRL] at e3
  subst e3
  have Hgr := hide (wgreat_c w3 _ P g ((unhide HG2).lists.below hb3) (unhide H64) (by rw [unhide HPL]; omega))
  rw [unhide HTP] at Hgr
  obtain ⟨US, hUS⟩ : ∃ y, usedR RS = y := ⟨_, rfl⟩
  have HUS := hide hUS
  have hUSn : US ≤ n := by have := unhide HST; omega
  rw [hUS]
  clear hg3 hb3 Hri hRL hUS
  go_wp2_with fail
  refine (unhide Hgr).mono ?_
  rintro e w4 ⟨rfl, hb4⟩
  have HB4 : Hid (Below w.heap.size w w4) := (unhide HB3).trans (hb4.mono (unhide HB3).size)
  have HG4 : Hid (GrowF w.heap.size w4 (.slice s3 RL c3) vs3 (RS.map (·.1))) := (unhide HG3).below hb4
  clear hb4 Hgr HG3 HG2
  go_wp2
  go_ret2
  refine ⟨_, rfl, fun k => k = w4.heap.size ∨ (Value.slice s3 RL c3).ownBlock = some k, fun k => ∃ u ∈ vs3, u.ownBlock = some k, ⟨w4.heap.size, .slice s3 RL c3, vs3, rfl, ⟨?_, ?_, ?_, ?_, ?_, ?_⟩, fun k => Iff.rfl, fun k => Iff.rfl⟩, ?_, (unhide HB4).alloc (unhide HB4).size _⟩
  · unfold logC
    simp only
    rw [show ((a + usedR RS : Nat) : Int) = (a : Int) + (US : Int) from by have := unhide HUS; omega, show ((a + n : Nat) : Int) = (T : Int) from by have := unhide HT; omega, show ((TP + 1 : Nat) : Int) = (TP : Int) + 1 from by omega]
    exact heap_alloc_new w4 _
  · exact ((unhide HG4).below ((Below.refl _ _).alloc (Nat.le_refl _) _)).mono (Nat.zero_le _)
  · intro e
    have := ((unhide HG4).lt.1 _ e).2
    omega
  · intro u hu e
    have := ((unhide HG4).lt.2 u hu _ e).2
    omega
  · have := unhide HUS
    show usedR RS ≤ n
    omega
  · exact unhide Han
  · rintro k ((hk | hk) | ⟨u, hu, hk⟩)
    · have := (unhide HB4).size
      omega
    · exact ((unhide HG4).lt.1 _ hk).1
    · exact ((unhide HG4).lt.2 u hu _ hk).1
end
end Go.Proofs.YtbjgknoipbekoaaGreat
namespace Go.Proofs.YtbjgknoipbekoaaGreat
open Go.RowKit
theorem GrowF.listsAt {B : Nat} {w : World} {v : Value} {vs : List Value} {l : List Bs} (h : GrowF B w v vs l) : ListsAt B w v vs l :=
  ⟨h.own.vals, fun k hk => (h.lt.1 k hk).1, h.len, fun i u b h1 h2 => ⟨(h.each i u b h1 h2).1.bytes, fun k hk => ((h.each i u b h1 h2).1.lt k hk).1, (h.each i u b h1 h2).1.free⟩⟩
set_option maxRecDepth 100000 in
set_option maxHeartbeats 8000000 in
theorem wrecords_c {S R : Set_} {w : World} {l p : Value} {L : LS} (h : LAt S R w l p L) (hl : L.rs.length ≤ 20000) (hb : ∀ x ∈ L.rs, x.1.length ≤ 65536) :
    Calls Tryz.prog 67 #[l] w fun e w' => ∃ v vs, e = .returned v ∧ ListsAt w.heap.size w' v vs (L.rs.map (·.1)) ∧ Below w.heap.size w w' := by
  obtain ⟨B, v, vs0, rfl, hf, _, _⟩ := h
  obtain ⟨_, _, _, _, _, k5, _⟩ := seven_row hf.str
  obtain ⟨sx, cx, rfl⟩ := hf.recs.lists.form
  have HX := hide hf.recs.lists
  have HBl : Hid (∀ b ∈ L.rs.map (·.1), b.length ≤ 65536) := fun b hb' => by
    obtain ⟨x, hx, rfl⟩ := List.mem_map.1 hb'
    exact hb x hx
  obtain ⟨rs, hrs⟩ : ∃ y, L.rs.map (·.1) = y := ⟨_, rfl⟩
  have hrl : rs.length ≤ 20000 := by rw [← hrs, List.length_map]; exact hl
  rw [hrs] at HX HBl k5 ⊢
  obtain ⟨N, hN⟩ : ∃ y, rs.length = y := ⟨_, rfl⟩
  rw [hN] at HX k5 hrl
  have HN := hide hN
  have hBlt : B < w.heap.size := (Array.getElem?_eq_some_iff.1 hf.str).1
  obtain ⟨w1, hmk, ho1, hb1⟩ := made_roombb w N (by omega)
  have HS0 : Hid (GrowF w.heap.size w1 (.slice (some ⟨w.heap.size, 0, none⟩) 0 N) [] (rs.take 0) ∧ Below w.heap.size w w1) := ⟨⟨ho1, rfl, fun i u b h => by simp at h⟩, hb1⟩
  have k5' := (hb1.cell (p := ⟨B, 5, none⟩) hBlt).trans k5
  clear hf hl hb hrs hN ho1 hb1 hBlt
  go_enter Tryz.func67, Tryz.ntmps67
  go_wp2
  clear hmk k5 k5'
  go_loopw [3, 5, 17] (fun oo _ ii wr => ∃ (i co : Nat) (so : Option Addr) (vs : List Value), i ≤ N ∧ oo = .slice so i co ∧ ii = .int .i64 (i : Int) ∧ Hid (GrowF w.heap.size wr (.slice so i co) vs (rs.take i) ∧ Below w.heap.size w wr)) (fun _ _ ii _ => N - (intOf ii).toNat)
  case atStart => exact ⟨0, _, _, [], by omega, rfl, rfl, HS0⟩
  case round =>
    clear HS0
    obtain ⟨i, co, so, vs, hi, rfl, rfl, HS⟩ := hrel
    by_cases hlt : i < N
    · have f1 : decide ((i : Int) < (N : Int)) = true := by simp; omega
      have f1n : decide (i < N) = true := by simp; omega
      have j0 : (0 : Int) ≤ (i : Int) := by omega
      have j1 : (i : Int) < (N : Int) := by omega
      obtain ⟨b, hs⟩ : ∃ y, rs[i]? = some y := ⟨_, List.getElem?_eq_getElem (by have := unhide HN; omega)⟩
      obtain ⟨g1, o1, v1, rfl, c1, b1⟩ := ((unhide HX).below (unhide HS).2).at hs
      have hbl := unhide HBl b (List.mem_of_getElem? hs)
      have Hc := hide (bclone_c wr v1 b b1 (by omega))
      have HR2 : Hid (rs.take (i + 1) = rs.take i ++ [b]) := by show _ = _; rw [List.take_add_one, hs]; rfl
      obtain ⟨BL, hBL⟩ : ∃ y, b.length = y := ⟨_, rfl⟩
      have HBL := hide hBL
      have HVl : Hid (vs.length = i) := by show _ = _; rw [(unhide HS).1.len, List.length_take]; have := unhide HN; omega
      clear hs b1 hBL hbl
      go_wp2_with fail
      refine (unhide Hc).mono ?_
      rintro e w3 ⟨v3, rfl, h3⟩
      obtain ⟨s3, c3, e3⟩ := h3.own.form
      rw [unhide HBL] at e3
      subst e3
      have HO3 := hide h3.own.any
      have HB3 := hide h3.b
      have HOv : Hid (OwnV 23 (w3.alloc (.cells #[.slice s3 BL c3] 23)) w.heap.size (.slice so i co) vs) := ((unhide HS).1.own.below h3.b).alloc _
      have HVn : Hid (ValsAt (w3.alloc (.cells #[.slice s3 BL c3] 23)) (.slice (some ⟨w3.heap.size, 0, none⟩) 1 1) [.slice s3 BL c3]) := vals_new w3 [.slice s3 BL c3] 23
      have HSz : Hid (w.heap.size ≤ (w3.alloc (.cells #[.slice s3 BL c3] 23)).heap.size) := by have h1 := (unhide HS).2.size; have h2 := h3.b.size; show _ ≤ _; simp; omega
      clear h3 Hc
      go_wp2_with (at_builtin; refine wpList_append_vals Ebb rfl _ _ rfl w.heap.size (.slice so i co) (.slice (some ⟨w3.heap.size, 0, none⟩) 1 1) vs [.slice s3 BL c3] rfl (unhide HOv) rfl (unhide HVn) (by simp [Value.oneCell']) (unhide HSz) (by have := unhide HVl; simp; omega) ?_
                   intro v5 w5 ho5 hg5 hor5
                   obtain ⟨hn5, hb5⟩ := (unhide HS).1.next (unhide HS).2.size (unhide HO3) (unhide HB3) ho5 hg5 hor5
                   rw [← unhide HR2] at hn5
                   have HNx : Hid (GrowF w.heap.size w5 v5 (vs ++ [.slice s3 BL c3]) (rs.take (i + 1)) ∧ Below w.heap.size w w5) := ⟨hn5, (unhide HS).2.trans hb5⟩
                   obtain ⟨s5, c5, hv5⟩ := ho5.form
                   rw [List.length_append, unhide HVl, List.length_singleton] at hv5
                   subst hv5
                   clear ho5 hg5 hor5 hn5 hb5)
      refine ⟨⟨i + 1, c5, s5, _, by omega, rfl, by simp, HNx⟩, ?_⟩
      simp [intOf]
      omega
    · obtain rfl : i = N := by omega
      have f1 : decide ((i : Int) < (i : Int)) = false := by simp
      have HE : Hid (GrowF w.heap.size wr (.slice so i co) vs rs ∧ Below w.heap.size w wr) := by
        have h := unhide HS
        rw [List.take_of_length_le (by have := unhide HN; omega)] at h
        exact h
      clear HS
      go_wp2
      go_ret
      exact ⟨_, _, rfl, (unhide HE).1.listsAt, (unhide HE).2⟩
end Go.Proofs.YtbjgknoipbekoaaGreat
namespace Go.Proofs.YtbjgknoipbekoaaGreat
open Go.RowKit
theorem wal_kept {PAt : Set_ → Set_ → World → Value → PS → Prop} (HP : Plate PAt) : Wal PAt LAt where
  ptr := lat_ptr
  old := lat_old
  kept := lat_kept
  open_sector := fun a b g hp h _ _ _ _ => wopen_sector HP a b g hp h
  open_form := fun a b g hp h hg => wopen_form HP a b g hp h hg
  open_yes := fun a n g hp hn hf hg0 hg hd hl => wopen_yes HP a n g hp hn hf hg0 hg hd hl
  append := fun x b hp hl h1 h2 hx hxs hb hI => wappend_c HP x b hp hl h1 h2 hx hxs hb hI
  records := fun h hl hb => wrecords_c h hl hb
  room := fun h h1 _ => wroom_c h h1
end Go.Proofs.YtbjgknoipbekoaaGreat
