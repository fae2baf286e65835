/-
  The walk of round: the other array holds the state behind the round; nothing else has turned.
-/
import Derived.Test.YthddgmnppolajaaDoorReg6
import Derived.Test.YthddgmnppolajaaDoorReg7
import Derived.Test.YthddgmnppolajaaDoorReg8
import Derived.Test.YthddgmnppolajaaDoorReg9
import Derived.Test.YthddgmnppolajaaDoorReg10
import Derived.Test.YthddgmnppolajaaDoorReg11
import Derived.BigRegion
import Derived.Deep.RegionWith
namespace Go.Proofs.YthddgmnppolajaaDoor
open Go.RowKit
theorem LaneAt.grown {a b : World} {g k : Nat} {l : List UInt64} (h : LaneAt a k l) (hg : a.grownBy b (some g)) (hne : k ≠ g) : LaneAt b k l := by
  unfold LaneAt
  rw [hg.block k (Array.getElem?_eq_some_iff.1 h).1 (by simpa using hne)]; exact h
set_option maxRecDepth 100000 in
set_option maxHeartbeats 8000000 in
theorem round_lanes (bo bs : Nat) (hne : bo ≠ bs) (x0 x1 x2 x3 x4 x5 x6 x7 x8 x9 x10 x11 x12 x13 x14 x15 x16 x17 x18 x19 x20 x21 x22 x23 x24 : UInt64) (o : List UInt64) (ho : o.length = 25) (n : UInt64) (w : World) (hS : LaneAt w bs [x0, x1, x2, x3, x4, x5, x6, x7, x8, x9, x10, x11, x12, x13, x14, x15, x16, x17, x18, x19, x20, x21, x22, x23, x24]) (hO : LaneAt w bo o) :
    Calls Tryd.prog 23 #[.pointer (some ⟨bo, 0, none⟩), .pointer (some ⟨bs, 0, none⟩), .int .u64 (lv n)] w fun e w' => e = .returned (.tuple #[]) ∧ LaneAt w' bo (rndOf [x0, x1, x2, x3, x4, x5, x6, x7, x8, x9, x10, x11, x12, x13, x14, x15, x16, x17, x18, x19, x20, x21, x22, x23, x24] n) ∧ w.grownBy w' (some bo) := by
  have HS := hide hS
  have HO := hide hO
  have hne2 := Ne.symm hne
  have k0 : w.cell? ⟨bs, 0, none⟩ = some (.int .u64 (lv x0)) := hS.cell 0 (by simp)
  have k1 : w.cell? ⟨bs, 1, none⟩ = some (.int .u64 (lv x1)) := hS.cell 1 (by simp)
  have k2 : w.cell? ⟨bs, 2, none⟩ = some (.int .u64 (lv x2)) := hS.cell 2 (by simp)
  have k3 : w.cell? ⟨bs, 3, none⟩ = some (.int .u64 (lv x3)) := hS.cell 3 (by simp)
  have k4 : w.cell? ⟨bs, 4, none⟩ = some (.int .u64 (lv x4)) := hS.cell 4 (by simp)
  have k5 : w.cell? ⟨bs, 5, none⟩ = some (.int .u64 (lv x5)) := hS.cell 5 (by simp)
  have k6 : w.cell? ⟨bs, 6, none⟩ = some (.int .u64 (lv x6)) := hS.cell 6 (by simp)
  have k7 : w.cell? ⟨bs, 7, none⟩ = some (.int .u64 (lv x7)) := hS.cell 7 (by simp)
  have k8 : w.cell? ⟨bs, 8, none⟩ = some (.int .u64 (lv x8)) := hS.cell 8 (by simp)
  have k9 : w.cell? ⟨bs, 9, none⟩ = some (.int .u64 (lv x9)) := hS.cell 9 (by simp)
  have k10 : w.cell? ⟨bs, 10, none⟩ = some (.int .u64 (lv x10)) := hS.cell 10 (by simp)
  have k11 : w.cell? ⟨bs, 11, none⟩ = some (.int .u64 (lv x11)) := hS.cell 11 (by simp)
  have k12 : w.cell? ⟨bs, 12, none⟩ = some (.int .u64 (lv x12)) := hS.cell 12 (by simp)
  have k13 : w.cell? ⟨bs, 13, none⟩ = some (.int .u64 (lv x13)) := hS.cell 13 (by simp)
  have k14 : w.cell? ⟨bs, 14, none⟩ = some (.int .u64 (lv x14)) := hS.cell 14 (by simp)
  have k15 : w.cell? ⟨bs, 15, none⟩ = some (.int .u64 (lv x15)) := hS.cell 15 (by simp)
  have k16 : w.cell? ⟨bs, 16, none⟩ = some (.int .u64 (lv x16)) := hS.cell 16 (by simp)
  have k17 : w.cell? ⟨bs, 17, none⟩ = some (.int .u64 (lv x17)) := hS.cell 17 (by simp)
  have k18 : w.cell? ⟨bs, 18, none⟩ = some (.int .u64 (lv x18)) := hS.cell 18 (by simp)
  have k19 : w.cell? ⟨bs, 19, none⟩ = some (.int .u64 (lv x19)) := hS.cell 19 (by simp)
  have k20 : w.cell? ⟨bs, 20, none⟩ = some (.int .u64 (lv x20)) := hS.cell 20 (by simp)
  have k21 : w.cell? ⟨bs, 21, none⟩ = some (.int .u64 (lv x21)) := hS.cell 21 (by simp)
  have k22 : w.cell? ⟨bs, 22, none⟩ = some (.int .u64 (lv x22)) := hS.cell 22 (by simp)
  have k23 : w.cell? ⟨bs, 23, none⟩ = some (.int .u64 (lv x23)) := hS.cell 23 (by simp)
  have k24 : w.cell? ⟨bs, 24, none⟩ = some (.int .u64 (lv x24)) := hS.cell 24 (by simp)
  clear hS hO
  go_enter Tryd.func23, Tryd.ntmps23
  go_wp2
  go_region_held3 (fun w' => w'.cell? ⟨bs, 0, none⟩ = some (.int .u64 (lv x0)) ∧ w'.cell? ⟨bs, 5, none⟩ = some (.int .u64 (lv x5)) ∧ w'.cell? ⟨bs, 10, none⟩ = some (.int .u64 (lv x10)) ∧ w'.cell? ⟨bs, 15, none⟩ = some (.int .u64 (lv x15)) ∧ w'.cell? ⟨bs, 20, none⟩ = some (.int .u64 (lv x20))) (simp only [World.cell?_drew, k0, k5, k10, k15, k20, and_self]) (fail)
  simp only [lv_xor]
  generalize hc0 : x0 ^^^ x5 ^^^ x10 ^^^ x15 ^^^ x20 = c0
  have HC0 := hide hc0
  clear hc0
  go_wp2
  go_region_held3 (fun w' => w'.cell? ⟨bs, 1, none⟩ = some (.int .u64 (lv x1)) ∧ w'.cell? ⟨bs, 6, none⟩ = some (.int .u64 (lv x6)) ∧ w'.cell? ⟨bs, 11, none⟩ = some (.int .u64 (lv x11)) ∧ w'.cell? ⟨bs, 16, none⟩ = some (.int .u64 (lv x16)) ∧ w'.cell? ⟨bs, 21, none⟩ = some (.int .u64 (lv x21))) (simp only [World.cell?_drew, k1, k6, k11, k16, k21, and_self]) (fail)
  simp only [lv_xor]
  generalize hc1 : x1 ^^^ x6 ^^^ x11 ^^^ x16 ^^^ x21 = c1
  have HC1 := hide hc1
  clear hc1
  go_wp2
  go_region_held3 (fun w' => w'.cell? ⟨bs, 2, none⟩ = some (.int .u64 (lv x2)) ∧ w'.cell? ⟨bs, 7, none⟩ = some (.int .u64 (lv x7)) ∧ w'.cell? ⟨bs, 12, none⟩ = some (.int .u64 (lv x12)) ∧ w'.cell? ⟨bs, 17, none⟩ = some (.int .u64 (lv x17)) ∧ w'.cell? ⟨bs, 22, none⟩ = some (.int .u64 (lv x22))) (simp only [World.cell?_drew, k2, k7, k12, k17, k22, and_self]) (fail)
  simp only [lv_xor]
  generalize hc2 : x2 ^^^ x7 ^^^ x12 ^^^ x17 ^^^ x22 = c2
  have HC2 := hide hc2
  clear hc2
  go_wp2
  go_region_held3 (fun w' => w'.cell? ⟨bs, 3, none⟩ = some (.int .u64 (lv x3)) ∧ w'.cell? ⟨bs, 8, none⟩ = some (.int .u64 (lv x8)) ∧ w'.cell? ⟨bs, 13, none⟩ = some (.int .u64 (lv x13)) ∧ w'.cell? ⟨bs, 18, none⟩ = some (.int .u64 (lv x18)) ∧ w'.cell? ⟨bs, 23, none⟩ = some (.int .u64 (lv x23))) (simp only [World.cell?_drew, k3, k8, k13, k18, k23, and_self]) (fail)
  simp only [lv_xor]
  generalize hc3 : x3 ^^^ x8 ^^^ x13 ^^^ x18 ^^^ x23 = c3
  have HC3 := hide hc3
  clear hc3
  go_wp2
  go_region_held3 (fun w' => w'.cell? ⟨bs, 4, none⟩ = some (.int .u64 (lv x4)) ∧ w'.cell? ⟨bs, 9, none⟩ = some (.int .u64 (lv x9)) ∧ w'.cell? ⟨bs, 14, none⟩ = some (.int .u64 (lv x14)) ∧ w'.cell? ⟨bs, 19, none⟩ = some (.int .u64 (lv x19)) ∧ w'.cell? ⟨bs, 24, none⟩ = some (.int .u64 (lv x24))) (simp only [World.cell?_drew, k4, k9, k14, k19, k24, and_self]) (fail)
  simp only [lv_xor]
  generalize hc4 : x4 ^^^ x9 ^^^ x14 ^^^ x19 ^^^ x24 = c4
  have HC4 := hide hc4
  clear hc4
  clear k0 k1 k2 k3 k4 k5 k6 k7 k8 k9 k10 k11 k12 k13 k14 k15 k16 k17 k18 k19 k20 k21 k22 k23 k24
  go_wp2_with (go_at_call 28; refine (left_any _ _ (by omega) (by omega) _).mono ?_; rintro e w1 ⟨rfl, rfl⟩)
  simp only [lv_xor]
  generalize hd0 : c4 ^^^ rotl c1 1 = d0
  have HD0 := hide hd0
  clear hd0
  generalize hd1 : c0 ^^^ rotl c2 1 = d1
  have HD1 := hide hd1
  clear hd1
  generalize hd2 : c1 ^^^ rotl c3 1 = d2
  have HD2 := hide hd2
  clear hd2
  generalize hd3 : c2 ^^^ rotl c4 1 = d3
  have HD3 := hide hd3
  clear hd3
  generalize hd4 : c3 ^^^ rotl c0 1 = d4
  have HD4 := hide hd4
  clear hd4
  refine forget (P := fun W' => Code.wp Tryd.prog _ _ _ W') (fun W' => LaneAt W' bs [x0, x1, x2, x3, x4, x5, x6, x7, x8, x9, x10, x11, x12, x13, x14, x15, x16, x17, x18, x19, x20, x21, x22, x23, x24] ∧ LaneAt W' bo o ∧ w.grownBy W' (some bo)) ⟨(unhide HS).drew.drew.drew.drew.drew, (unhide HO).drew.drew.drew.drew.drew, grown_drew (grown_drew (grown_drew (grown_drew (grown_drew (World.grownBy.refl w (some bo))))))⟩ ?_
  clear HS HO
  rintro W0 ⟨hS0, hO0, hG0⟩
  refine row_reg6 bo bs hne x0 x6 x12 x18 x24 d0 d1 d2 d3 d4 _ ho W0 hO0 (hS0.cell 0 (by simp)) (hS0.cell 6 (by simp)) (hS0.cell 12 (by simp)) (hS0.cell 18 (by simp)) (hS0.cell 24 (by simp)) _ _ _ _ _ _ _ _ _ _ _ _ _ _ _ _ _ _ _ _ _ _ _ _ _ _ _ _ _ _ _ _ _ _ _ _ _ _ _ _ _ _ _ _ _ _ _ _ _ _ _ _ _ _ _ _ _ _ _ _ _ _ _ _ _ _ _ _ _ _ _ _ _ _ _ _ _ _ _ _ _ _ _ _ _ _ _ _ _ _ _ _ _ _ _ _ _ _ _ _ _ _ _ _ _ _ _ _ _ _ _ _ _ _ _ _ _ _ _ _ _ _ _ _ _ _ _ _ _ _ _ _ _ _ _ _ _ _ _ _ _ _ _ _ _ _ _ _ _ _ _ _ _ _ _ _ _ _ _ _ _ _ _ _ _ _ _ _ _ _ _ _ _ _ _ _ _ _ _ _ _ _ _ _ _ _ _ _ _ _ _ _ _ _ _ _ _ _ _ _ _ _ _ _ _ _ _ _ _ _ _ _ _ _ _ _ _ _ _ _ _ _ _ _ _ _ _ _ _ _ _ _ _ _ _ _ _ _ _ _ _ _ _ _ _ _ _ _ _ _ _ _ _ _ _ _ _ _ _ _ _ _ _ _ _ _ _ _ _ _ _ _ _ _ _ _ _ _ _ _ _ _ _ _ _ _ _ _ _ _ _ _ _ _ _ _ _ _ _ _ _ _ _ _ _ _ _ _ _ _ _ _ _ _ _ _ _ _ _ _ _ _ _ _ _ _ _ _ _ _ _ _ _ _ _ _ _ _ _ _ _ _ _ _ _ _ _ _ _ _ _ _ _ _ _ _ _ _ _ _ _ _ _ _ _ _ _ _ _ _ _ _ _ _ _ _ _ _ _ _ _ _ _ _ _ _ _ _ _ _ _ _ _ _ _ _ _ _ _ _ _ _ _ _ _ _ _ _ _ _ _ _ _ _ _ _ _ _ _ _ _ _ _ _ _ _ _ _ _ _ _ _ _ _ _ _ _ _ _ _ _ _ ?_
  intro _ _ _ _ _ _ _ _ _ _ _ _ _ _ _ _ _ _ _ _ _ _ _ _ _ _ _ _ _ _ _ _ _ _ _ _ _ _ _ _ _ _ _ _ _ _ _ _ _ _ _ _ _ _ _ _ W1 hO1 hg1
  have hS1 := hS0.grown hg1 hne2
  have hG1 := hG0.trans hg1
  clear hS0 hO0 hG0 hg1
  go_wp2
  refine row_reg7 bo bs hne x3 x9 x10 x16 x22 d0 d1 d2 d3 d4 _ (by simp [ho]) W1 hO1 (hS1.cell 3 (by simp)) (hS1.cell 9 (by simp)) (hS1.cell 10 (by simp)) (hS1.cell 16 (by simp)) (hS1.cell 22 (by simp)) _ _ _ _ _ _ _ _ _ _ _ _ _ _ _ _ _ _ _ _ _ _ _ _ _ _ _ _ _ _ _ _ _ _ _ _ _ _ _ _ _ _ _ _ _ _ _ _ _ _ _ _ _ _ _ _ _ _ _ _ _ _ _ _ _ _ _ _ _ _ _ _ _ _ _ _ _ _ _ _ _ _ _ _ _ _ _ _ _ _ _ _ _ _ _ _ _ _ _ _ _ _ _ _ _ _ _ _ _ _ _ _ _ _ _ _ _ _ _ _ _ _ _ _ _ _ _ _ _ _ _ _ _ _ _ _ _ _ _ _ _ _ _ _ _ _ _ _ _ _ _ _ _ _ _ _ _ _ _ _ _ _ _ _ _ _ _ _ _ _ _ _ _ _ _ _ _ _ _ _ _ _ _ _ _ _ _ _ _ _ _ _ _ _ _ _ _ _ _ _ _ _ _ _ _ _ _ _ _ _ _ _ _ _ _ _ _ _ _ _ _ _ _ _ _ _ _ _ _ _ _ _ _ _ _ _ _ _ _ _ _ _ _ _ _ _ _ _ _ _ _ _ _ _ _ _ _ _ _ _ _ _ _ _ _ _ _ _ _ _ _ _ _ _ _ _ _ _ _ _ _ _ _ _ _ _ _ _ _ _ _ _ _ _ _ _ _ _ _ _ _ _ _ _ _ _ _ _ _ _ _ _ _ _ _ _ _ _ _ _ _ _ _ _ _ _ _ _ _ _ _ _ _ _ _ _ _ _ _ _ _ _ _ _ _ _ _ _ _ _ _ _ _ _ _ _ _ _ _ _ _ _ _ _ _ _ _ _ _ _ _ _ _ _ _ _ _ _ _ _ _ _ _ _ _ _ _ _ _ _ _ _ _ _ _ _ _ _ _ _ _ _ _ _ _ _ _ _ _ _ _ _ _ _ _ _ _ _ _ _ _ _ _ _ _ _ _ _ _ _ _ _ _ _ _ _ _ _ _ _ _ _ ?_
  intro _ _ _ _ _ _ _ _ _ _ _ _ _ _ _ _ _ _ _ _ _ _ _ _ _ _ _ _ _ _ _ _ _ _ _ _ _ _ _ _ _ _ _ _ _ _ _ _ _ _ _ _ _ _ _ _ _ W2 hO2 hg2
  have hS2 := hS1.grown hg2 hne2
  have hG2 := hG1.trans hg2
  clear hS1 hO1 hG1 hg2
  go_wp2
  refine row_reg8 bo bs hne x1 x7 x13 x19 x20 d0 d1 d2 d3 d4 _ (by simp [ho]) W2 hO2 (hS2.cell 1 (by simp)) (hS2.cell 7 (by simp)) (hS2.cell 13 (by simp)) (hS2.cell 19 (by simp)) (hS2.cell 20 (by simp)) _ _ _ _ _ _ _ _ _ _ _ _ _ _ _ _ _ _ _ _ _ _ _ _ _ _ _ _ _ _ _ _ _ _ _ _ _ _ _ _ _ _ _ _ _ _ _ _ _ _ _ _ _ _ _ _ _ _ _ _ _ _ _ _ _ _ _ _ _ _ _ _ _ _ _ _ _ _ _ _ _ _ _ _ _ _ _ _ _ _ _ _ _ _ _ _ _ _ _ _ _ _ _ _ _ _ _ _ _ _ _ _ _ _ _ _ _ _ _ _ _ _ _ _ _ _ _ _ _ _ _ _ _ _ _ _ _ _ _ _ _ _ _ _ _ _ _ _ _ _ _ _ _ _ _ _ _ _ _ _ _ _ _ _ _ _ _ _ _ _ _ _ _ _ _ _ _ _ _ _ _ _ _ _ _ _ _ _ _ _ _ _ _ _ _ _ _ _ _ _ _ _ _ _ _ _ _ _ _ _ _ _ _ _ _ _ _ _ _ _ _ _ _ _ _ _ _ _ _ _ _ _ _ _ _ _ _ _ _ _ _ _ _ _ _ _ _ _ _ _ _ _ _ _ _ _ _ _ _ _ _ _ _ _ _ _ _ _ _ _ _ _ _ _ _ _ _ _ _ _ _ _ _ _ _ _ _ _ _ _ _ _ _ _ _ _ _ _ _ _ _ _ _ _ _ _ _ _ _ _ _ _ _ _ _ _ _ _ _ _ _ _ _ _ _ _ _ _ _ _ _ _ _ _ _ _ _ _ _ _ _ _ _ _ _ _ _ _ _ _ _ _ _ _ _ _ _ _ _ _ _ _ _ _ _ _ _ _ _ _ _ _ _ _ _ _ _ _ _ _ _ _ _ _ _ _ _ _ _ _ _ _ _ _ _ _ _ _ _ _ _ _ _ _ _ _ _ _ _ _ _ _ _ _ _ _ _ _ _ _ _ _ _ _ _ _ _ _ _ _ _ _ _ _ _ _ _ _ _ _ _ _ ?_
  intro _ _ _ _ _ _ _ _ _ _ _ _ _ _ _ _ _ _ _ _ _ _ _ _ _ _ _ _ _ _ _ _ _ _ _ _ _ _ _ _ _ _ _ _ _ _ _ _ _ _ _ _ _ _ _ _ _ W3 hO3 hg3
  have hS3 := hS2.grown hg3 hne2
  have hG3 := hG2.trans hg3
  clear hS2 hO2 hG2 hg3
  go_wp2
  refine row_reg9 bo bs hne x4 x5 x11 x17 x23 d0 d1 d2 d3 d4 _ (by simp [ho]) W3 hO3 (hS3.cell 4 (by simp)) (hS3.cell 5 (by simp)) (hS3.cell 11 (by simp)) (hS3.cell 17 (by simp)) (hS3.cell 23 (by simp)) _ _ _ _ _ _ _ _ _ _ _ _ _ _ _ _ _ _ _ _ _ _ _ _ _ _ _ _ _ _ _ _ _ _ _ _ _ _ _ _ _ _ _ _ _ _ _ _ _ _ _ _ _ _ _ _ _ _ _ _ _ _ _ _ _ _ _ _ _ _ _ _ _ _ _ _ _ _ _ _ _ _ _ _ _ _ _ _ _ _ _ _ _ _ _ _ _ _ _ _ _ _ _ _ _ _ _ _ _ _ _ _ _ _ _ _ _ _ _ _ _ _ _ _ _ _ _ _ _ _ _ _ _ _ _ _ _ _ _ _ _ _ _ _ _ _ _ _ _ _ _ _ _ _ _ _ _ _ _ _ _ _ _ _ _ _ _ _ _ _ _ _ _ _ _ _ _ _ _ _ _ _ _ _ _ _ _ _ _ _ _ _ _ _ _ _ _ _ _ _ _ _ _ _ _ _ _ _ _ _ _ _ _ _ _ _ _ _ _ _ _ _ _ _ _ _ _ _ _ _ _ _ _ _ _ _ _ _ _ _ _ _ _ _ _ _ _ _ _ _ _ _ _ _ _ _ _ _ _ _ _ _ _ _ _ _ _ _ _ _ _ _ _ _ _ _ _ _ _ _ _ _ _ _ _ _ _ _ _ _ _ _ _ _ _ _ _ _ _ _ _ _ _ _ _ _ _ _ _ _ _ _ _ _ _ _ _ _ _ _ _ _ _ _ _ _ _ _ _ _ _ _ _ _ _ _ _ _ _ _ _ _ _ _ _ _ _ _ _ _ _ _ _ _ _ _ _ _ _ _ _ _ _ _ _ _ _ _ _ _ _ _ _ _ _ _ _ _ _ _ _ _ _ _ _ _ _ _ _ _ _ _ _ _ _ _ _ _ _ _ _ _ _ _ _ _ _ _ _ _ _ _ _ _ _ _ _ _ _ _ _ _ _ _ _ _ _ _ _ _ _ _ _ _ _ _ _ _ _ _ _ _ ?_
  intro _ _ _ _ _ _ _ _ _ _ _ _ _ _ _ _ _ _ _ _ _ _ _ _ _ _ _ _ _ _ _ _ _ _ _ _ _ _ _ _ _ _ _ _ _ _ _ _ _ _ _ _ _ _ _ _ _ W4 hO4 hg4
  have hS4 := hS3.grown hg4 hne2
  have hG4 := hG3.trans hg4
  clear hS3 hO3 hG3 hg4
  go_wp2
  refine row_reg10 bo bs hne x2 x8 x14 x15 x21 d0 d1 d2 d3 d4 _ (by simp [ho]) W4 hO4 (hS4.cell 2 (by simp)) (hS4.cell 8 (by simp)) (hS4.cell 14 (by simp)) (hS4.cell 15 (by simp)) (hS4.cell 21 (by simp)) _ _ _ _ _ _ _ _ _ _ _ _ _ _ _ _ _ _ _ _ _ _ _ _ _ _ _ _ _ _ _ _ _ _ _ _ _ _ _ _ _ _ _ _ _ _ _ _ _ _ _ _ _ _ _ _ _ _ _ _ _ _ _ _ _ _ _ _ _ _ _ _ _ _ _ _ _ _ _ _ _ _ _ _ _ _ _ _ _ _ _ _ _ _ _ _ _ _ _ _ _ _ _ _ _ _ _ _ _ _ _ _ _ _ _ _ _ _ _ _ _ _ _ _ _ _ _ _ _ _ _ _ _ _ _ _ _ _ _ _ _ _ _ _ _ _ _ _ _ _ _ _ _ _ _ _ _ _ _ _ _ _ _ _ _ _ _ _ _ _ _ _ _ _ _ _ _ _ _ _ _ _ _ _ _ _ _ _ _ _ _ _ _ _ _ _ _ _ _ _ _ _ _ _ _ _ _ _ _ _ _ _ _ _ _ _ _ _ _ _ _ _ _ _ _ _ _ _ _ _ _ _ _ _ _ _ _ _ _ _ _ _ _ _ _ _ _ _ _ _ _ _ _ _ _ _ _ _ _ _ _ _ _ _ _ _ _ _ _ _ _ _ _ _ _ _ _ _ _ _ _ _ _ _ _ _ _ _ _ _ _ _ _ _ _ _ _ _ _ _ _ _ _ _ _ _ _ _ _ _ _ _ _ _ _ _ _ _ _ _ _ _ _ _ _ _ _ _ _ _ _ _ _ _ _ _ _ _ _ _ _ _ _ _ _ _ _ _ _ _ _ _ _ _ _ _ _ _ _ _ _ _ _ _ _ _ _ _ _ _ _ _ _ _ _ _ _ _ _ _ _ _ _ _ _ _ _ _ _ _ _ _ _ _ _ _ _ _ _ _ _ _ _ _ _ _ _ _ _ _ _ _ _ _ _ _ _ _ _ _ _ _ _ _ _ _ _ _ _ _ _ _ _ _ _ _ _ _ _ _ _ _ ?_
  intro _ _ _ _ _ _ _ _ _ _ _ _ _ _ _ _ _ _ _ _ _ _ _ _ _ _ _ _ _ _ _ _ _ _ _ _ _ _ _ _ _ _ _ _ _ _ _ _ _ _ _ _ _ _ _ _ _ W5 hO5 hg5
  have hS5 := hS4.grown hg5 hne2
  have hG5 := hG4.trans hg5
  clear hS4 hO4 hG4 hg5
  go_wp2
  rw [sets25 o ho] at hO5
  refine row_reg11 bo _ n _ W5 hO5 _ _ _ _ _ _ _ _ _ _ _ _ _ _ _ _ _ _ _ _ _ _ _ _ _ _ _ _ _ _ _ _ _ _ _ _ _ _ _ _ _ _ _ _ _ _ _ _ _ _ _ _ _ _ _ _ _ _ _ _ _ _ _ _ _ _ _ _ _ _ _ _ _ _ _ _ _ _ _ _ _ _ _ _ _ _ _ _ _ _ _ _ _ _ _ _ _ _ _ _ _ _ _ _ _ _ _ _ _ _ _ _ _ _ _ _ _ _ _ _ _ _ _ _ _ _ _ _ _ _ _ _ _ _ _ _ _ _ _ _ _ _ _ _ _ _ _ _ _ _ _ _ _ _ _ _ _ _ _ _ _ _ _ _ _ _ _ _ _ _ _ _ _ _ _ _ _ _ _ _ _ _ _ _ _ _ _ _ _ _ _ _ _ _ _ _ _ _ _ _ _ _ _ _ _ _ _ _ _ _ _ _ _ _ _ _ _ _ _ _ _ _ _ _ _ _ _ _ _ _ _ _ _ _ _ _ _ _ _ _ _ _ _ _ _ _ _ _ _ _ _ _ _ _ _ _ _ _ _ _ _ _ _ _ _ _ _ _ _ _ _ _ _ _ _ _ _ _ _ _ _ _ _ _ _ _ _ _ _ _ _ _ _ _ _ _ _ _ _ _ _ _ _ _ _ _ _ _ _ _ _ _ _ _ _ _ _ _ _ _ _ _ _ _ _ _ _ _ _ _ _ _ _ _ _ _ _ _ _ _ _ _ _ _ _ _ _ _ _ _ _ _ _ _ _ _ _ _ _ _ _ _ _ _ _ _ _ _ _ _ _ _ _ _ _ _ _ _ _ _ _ _ _ _ _ _ _ _ _ _ _ _ _ _ _ _ _ _ _ _ _ _ _ _ _ _ _ _ _ _ _ _ _ _ _ _ _ _ _ _ _ _ _ _ _ _ _ _ _ _ _ _ _ _ _ _ _ _ _ _ _ _ _ _ _ _ _ ?_
  intro _ _ _ _ _ _ _ _ W6 hO6 hg6
  have HL := hide hO6
  have HG := hide (hG5.trans hg6)
  clear hS5 hO5 hG5 hO6 hg6
  go_end0
  refine ⟨rfl, ?_, unhide HG⟩
  rw [rnd_form x0 x1 x2 x3 x4 x5 x6 x7 x8 x9 x10 x11 x12 x13 x14 x15 x16 x17 x18 x19 x20 x21 x22 x23 x24 c0 c1 c2 c3 c4 d0 d1 d2 d3 d4 n (unhide HC0) (unhide HC1) (unhide HC2) (unhide HC3) (unhide HC4) (unhide HD0) (unhide HD1) (unhide HD2) (unhide HD3) (unhide HD4)]
  exact unhide HL
theorem round_any (bo bs : Nat) (hne : bo ≠ bs) (s : List UInt64) (hs : s.length = 25) (o : List UInt64) (ho : o.length = 25) (n : UInt64) (w : World) (hS : LaneAt w bs s) (hO : LaneAt w bo o) :
    Calls Tryd.prog 23 #[.pointer (some ⟨bo, 0, none⟩), .pointer (some ⟨bs, 0, none⟩), .int .u64 (lv n)] w fun e w' => e = .returned (.tuple #[]) ∧ LaneAt w' bo (rndOf s n) ∧ w.grownBy w' (some bo) := by
  obtain ⟨x0, x1, x2, x3, x4, x5, x6, x7, x8, x9, x10, x11, x12, x13, x14, x15, x16, x17, x18, x19, x20, x21, x22, x23, x24, rfl⟩ := list25 hs
  exact round_lanes bo bs hne _ _ _ _ _ _ _ _ _ _ _ _ _ _ _ _ _ _ _ _ _ _ _ _ _ o ho n w hS hO
end Go.Proofs.YthddgmnppolajaaDoor
