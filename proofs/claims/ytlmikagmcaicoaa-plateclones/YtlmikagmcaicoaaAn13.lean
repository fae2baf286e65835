/-
  A plate by itself; the statements' anchor, walked out of the record Plate.
-/
import Derived.Test.YtlmikagmcaicoaaSm13
namespace Go.Proofs.Ytlmikagmcaicoaa
open Go.RowKit
/-- A plate that was made behind the world w0. -/
structure One (PAt : Set_ → Set_ → World → Value → PS → Prop) (w0 w : World) (p : Value) (S R : Set_) (s : PS) : Prop where
  p : PAt S R w p s
  ge : ∀ k, S k ∨ R k → w0.heap.size ≤ k
  b : Below w0.heap.size w0 w
section
variable {PAt : Set_ → Set_ → World → Value → PS → Prop} (HP : Plate PAt)
variable {w0 w w' : World} {p : Value} {S R : Set_} {s : PS}
include HP in
theorem One.below (h : One PAt w0 w p S R s) (hb : Below w.heap.size w w') : One PAt w0 w' p S R s :=
  ⟨HP.kept h.p (T := none_) (Aside.of_below hb) fun _ hk => hk.elim, h.ge, h.b.trans (hb.mono h.b.size)⟩
theorem One.call (h : One PAt w0 w p S R s) {S' R' : Set_} {s' : PS} (hp : PAt S' R' w' p s') (hS : ∀ k, S' k → S k ∨ w.heap.size ≤ k) (hR : ∀ k, R' k → R k ∨ w.heap.size ≤ k) (ha : Aside S w w') : One PAt w0 w' p S' R' s' := by
  have hs := h.b.size
  refine ⟨hp, ?_, h.b.trans (ha.below hs fun k hk => h.ge k (Or.inl hk))⟩
  rintro k (hk | hk)
  · rcases hS k hk with h1 | h1
    · exact h.ge k (Or.inl h1)
    · omega
  · rcases hR k hk with h1 | h1
    · exact h.ge k (Or.inr h1)
    · omega
include HP in
theorem One.new (h : One PAt w0 w p S R s) {k : Nat} (hk : w.heap.size ≤ k) : ¬ S k := fun hS => by have := HP.old h.p k (Or.inl hS); omega
include HP in
theorem One.kept (h : One PAt w0 w p S R s) {T : Set_} (ha : Aside T w w') (hT : ∀ k, T k → ¬ S k ∧ ¬ R k) (hg : ∀ k, T k → w0.heap.size ≤ k) : One PAt w0 w' p S R s :=
  ⟨HP.kept h.p ha hT, h.ge, h.b.trans (ha.below h.b.size hg)⟩
def onesB : Bs := List.replicate 64 1
def twosB : Bs := List.replicate 64 2
def anc2 : PS := writeS (writeS (newS 8) 3 onesB) 3 twosB
def anc4 : PS := syncS (armS anc2 0)
theorem anc_e : syncE (armS anc2 0) = 50 := by decide +kernel
theorem anc_a : readB (reviveS anc4 [true]) 3 = onesB := by decide +kernel
theorem anc_b : readB (reviveS anc4 [false, true]) 3 = twosB := by decide +kernel
theorem anc_ae : readE (reviveS anc4 [true]) 3 = 0 := by decide +kernel
theorem anc_be : readE (reviveS anc4 [false, true]) 3 = 0 := by decide +kernel
theorem anc_l0 : (newS 8).loose.length = 0 := rfl
theorem anc_l1 : (writeS (newS 8) 3 onesB).loose.length ≤ 100000 := by decide +kernel
theorem anc_l2 : (armS anc2 0).loose.length ≤ 100000 := by decide +kernel
theorem anc_l4 : anc4.loose.length ≤ 100000 := by decide +kernel
theorem anc_la : (reviveS anc4 [true]).loose.length ≤ 100000 := by decide +kernel
theorem anc_lb : (reviveS anc4 [false, true]).loose.length ≤ 100000 := by decide +kernel
theorem one_bool (w : World) (a : Bool) : ValsAt (w.alloc (.cells #[.bool a] 4)) (.slice (some ⟨w.heap.size, 0, none⟩) 1 1) ([a].map .bool) := vals_new w [.bool a] 4
theorem two_bool (w : World) (a b : Bool) : ValsAt (w.alloc (.cells #[.bool a, .bool b] 4)) (.slice (some ⟨w.heap.size, 0, none⟩) 2 2) ([a, b].map .bool) := vals_new w [.bool a, .bool b] 4
set_option maxRecDepth 100000 in
set_option maxHeartbeats 8000000 in
include HP in
theorem anchor_c (w : World) : Calls Try.prog 8 #[] w fun e w' => e = .returned (.bool true) ∧ Below w.heap.size w w' := by
  have Hn : Hid (Calls Try.prog 9 #[.int .i64 8] w fun e w' => ∃ p, e = .returned p ∧ ∃ S R, PAt S R w' p (newS 8) ∧ (∀ k, S k ∨ R k → w.heap.size ≤ k) ∧ Below w.heap.size w w') := HP.new_yes w 8 (by omega) (by omega)
  go_enter Try.func8, Try.ntmps8
  go_wp2_with fail
  refine (unhide Hn).mono ?_
  rintro e w1 ⟨p, rfl, S, R, hp, hge, hb⟩
  obtain ⟨pa, rfl⟩ := HP.ptr hp
  have H1 : Hid (One PAt w w1 (.pointer (some pa)) S R (newS 8)) := ⟨hp, hge, hb⟩
  clear hp hge hb Hn
  have Hf : Hid (Calls Try.prog 23 #[.int .u8 1, .int .i64 64] w1 fun e w' => ∃ O, e = .returned (.slice (some ⟨O, 0, none⟩) 64 64) ∧ OwnB w' w1.heap.size (.slice (some ⟨O, 0, none⟩) 64 64) onesB ∧ Below w1.heap.size w1 w') := fill_c w1 1 64 (by omega)
  go_wp2_with fail
  refine (unhide Hf).mono ?_
  rintro e w2 ⟨O, rfl, hO, hb⟩
  have hOw := (World.ownsRow.lt hO O rfl).1
  have Hw := hide (HP.write 3 _ _ ((unhide H1).below HP hb).p hO.bytes (fun _ k hk => (unhide H1).new HP (by simp only [Value.ownBlock, Option.some.injEq] at hk; omega)) (by decide) (by rw [anc_l0]; omega) (by omega) (by omega))
  have H2 := hide ((unhide H1).below HP hb)
  clear hO hb hOw Hf H1
  go_wp2_with fail
  refine (unhide Hw).mono ?_
  rintro e w3 ⟨rfl, S3, R3, hp, hS, hR, ha⟩
  have H3 := hide ((unhide H2).call hp hS hR ha)
  clear hp hS hR ha Hw H2
  have Hf : Hid (Calls Try.prog 23 #[.int .u8 2, .int .i64 64] w3 fun e w' => ∃ O, e = .returned (.slice (some ⟨O, 0, none⟩) 64 64) ∧ OwnB w' w3.heap.size (.slice (some ⟨O, 0, none⟩) 64 64) twosB ∧ Below w3.heap.size w3 w') := fill_c w3 2 64 (by omega)
  go_wp2_with fail
  refine (unhide Hf).mono ?_
  rintro e w4 ⟨O2, rfl, hO, hb⟩
  have hOw := (World.ownsRow.lt hO O2 rfl).1
  have Hw := hide (HP.write 3 _ _ ((unhide H3).below HP hb).p hO.bytes (fun _ k hk => (unhide H3).new HP (by simp only [Value.ownBlock, Option.some.injEq] at hk; omega)) (by decide) anc_l1 (by omega) (by omega))
  have H4 := hide ((unhide H3).below HP hb)
  clear hO hb hOw Hf H3
  go_wp2_with fail
  refine (unhide Hw).mono ?_
  rintro e w5 ⟨rfl, S5, R5, hp, hS, hR, ha⟩
  have H5 : Hid (One PAt w w5 (.pointer (some pa)) S5 R5 anc2) := (unhide H4).call hp hS hR ha
  clear hp hS hR ha Hw H4
  have Ha := hide (HP.arm 0 (unhide H5).p (by omega) (by omega))
  go_wp2_with fail
  refine (unhide Ha).mono ?_
  rintro e w6 ⟨rfl, S6, R6, hp, hS, hR, ha⟩
  have H6 := hide ((unhide H5).call hp hS hR ha)
  clear hp hS hR ha Ha H5
  have Hs := hide (HP.sync (unhide H6).p anc_l2)
  rw [anc_e] at Hs
  go_wp2_with fail
  refine (unhide Hs).mono ?_
  rintro e w7 ⟨rfl, S7, R7, hp, hS, hR, ha⟩
  have H7 : Hid (One PAt w w7 (.pointer (some pa)) S7 R7 anc4) := (unhide H6).call hp hS hR ha
  clear hp hS hR ha Hs H6
  have Hc := hide (HP.clone (unhide H7).p anc_l4)
  go_wp2_with fail
  refine (unhide Hc).mono ?_
  rintro e w8 ⟨q, rfl, S8, R8, hq, hS, hR, hb⟩
  obtain ⟨qa, rfl⟩ := HP.ptr hq
  have H8 := hide ((unhide H7).below HP hb)
  have HQ8 : Hid (One PAt w w8 (.pointer (some qa)) S8 R8 anc4) := by
    refine ⟨hq, ?_, (unhide H8).b⟩
    have := (unhide H7).b.size
    rintro k (hk | hk)
    · have := hS k hk; omega
    · rcases hR k hk with h | h
      · exact (unhide H7).ge k (Or.inr h)
      · omega
  have Hsep : Hid (∀ k, S7 k → ¬ S8 k ∧ ¬ R8 k) := fun k hk => by
    have hlt := HP.old (unhide H7).p k (Or.inl hk)
    refine ⟨fun h => by have := hS k h; omega, fun h => ?_⟩
    rcases hR k h with h | h
    · exact HP.apart (unhide H7).p k hk h
    · omega
  have HS8 : Hid (∀ k, S8 k → (¬ S7 k ∧ ¬ R7 k) ∧ k < w8.heap.size) := fun k hk => by
    have h1 := hS k hk
    exact ⟨⟨fun h => by have := HP.old (unhide H7).p k (Or.inl h); omega, fun h => by have := HP.old (unhide H7).p k (Or.inr h); omega⟩, HP.old hq k (Or.inl hk)⟩
  clear hq hS hR hb Hc H7
  have hb9 : Below w8.heap.size w8 (w8.alloc (.cells #[.bool true] 4)) := (Below.refl _ _).alloc (Nat.le_refl _) _
  have Hr := hide (HP.revive _ [true] ((unhide H8).below HP hb9).p (one_bool w8 true) (fun _ k hk => (unhide H8).new HP (by simp only [Value.ownBlock, Option.some.injEq] at hk; omega)) anc_l4)
  have H9 := hide ((unhide H8).below HP hb9)
  have HQ9 := hide ((unhide HQ8).below HP hb9)
  clear hb9 H8 HQ8
  go_wp2_with fail
  refine (unhide Hr).mono ?_
  rintro e w10 ⟨rfl, S10, R10, hp, hS, hR, ha⟩
  have H10 := hide ((unhide H9).call hp hS hR ha)
  have HQ10 := hide ((unhide HQ9).kept HP ha (unhide Hsep) fun k hk => (unhide H9).ge k (Or.inl hk))
  have Hsep2 : Hid (∀ k, S8 k → ¬ S10 k ∧ ¬ R10 k) := fun k hk => by
    obtain ⟨h1, h2⟩ := unhide HS8 k hk
    have h3 : (w8.alloc (.cells #[.bool true] 4)).heap.size = w8.heap.size + 1 := by simp
    refine ⟨fun h => ?_, fun h => ?_⟩
    · rcases hS k h with h | h
      · exact h1.1 h
      · omega
    · rcases hR k h with h | h
      · exact h1.2 h
      · omega
  clear hp hS hR ha Hr H9 HQ9 Hsep
  have hb11 : Below w10.heap.size w10 (w10.alloc (.cells #[.bool false, .bool true] 4)) := (Below.refl _ _).alloc (Nat.le_refl _) _
  have Hr := hide (HP.revive _ [false, true] ((unhide HQ10).below HP hb11).p (two_bool w10 false true) (fun _ k hk => (unhide HQ10).new HP (by simp only [Value.ownBlock, Option.some.injEq] at hk; omega)) anc_l4)
  have H11 := hide ((unhide H10).below HP hb11)
  have HQ11 := hide ((unhide HQ10).below HP hb11)
  clear hb11 H10 HQ10
  go_wp2_with fail
  refine (unhide Hr).mono ?_
  rintro e w12 ⟨rfl, S12, R12, hp, hS, hR, ha⟩
  have HQ12 := hide ((unhide HQ11).call hp hS hR ha)
  have H12 := hide ((unhide H11).kept HP ha (unhide Hsep2) fun k hk => (unhide HQ11).ge k (Or.inl hk))
  clear hp hS hR ha Hr H11 HQ11 Hsep2
  have Hp := hide (HP.read 3 (unhide H12).p anc_la (by omega) (by omega))
  rw [anc_a, anc_ae] at Hp
  go_wp2_with fail
  refine (unhide Hp).mono ?_
  rintro e w13 ⟨v, rfl, hO, hb⟩
  have HO13 := hide hO
  have HQ13 := hide ((unhide HQ12).below HP hb)
  clear hO hb Hp H12 HQ12
  have Hp := hide (HP.read 3 (unhide HQ13).p anc_lb (by omega) (by omega))
  rw [anc_b, anc_be] at Hp
  obtain ⟨g, c, e1, _, _, hc⟩ := (unhide HO13).at (by decide)
  have HC13 : Hid (∀ w', Below w13.heap.size w13 w' → w'.cell? ⟨g, 0, none⟩ = some (.int .u8 1)) := fun w' hb => by
    have h1 := (hc 0 (by decide)).1
    rw [hb.cell (World.block_lt_of_cell? _ _ h1)]
    exact h1
  rw [show onesB.length = 64 from rfl] at e1
  subst e1
  clear hc
  go_wp2_with fail
  refine (unhide Hp).mono ?_
  rintro e w14 ⟨v2, rfl, hO2, hb⟩
  obtain ⟨g2, c2, e2, _, _, hc2⟩ := hO2.at (by decide)
  rw [show twosB.length = 64 from rfl] at e2
  subst e2
  have a0 := unhide HC13 w14 hb
  have a1 : w14.cell? ⟨g2, 63, none⟩ = some (.int .u8 2) := (hc2 63 (by decide)).1
  have HB := hide ((unhide HQ13).below HP hb).b
  clear hO2 hb hc2 Hp HO13 HQ13 HC13
  go_wp2
  go_ret
  exact ⟨rfl, unhide HB⟩
end
end Go.Proofs.Ytlmikagmcaicoaa
