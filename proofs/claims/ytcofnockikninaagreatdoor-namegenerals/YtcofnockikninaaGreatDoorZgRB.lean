/- Parts of the walk. -/
import Derived.BigRegion
import Derived.Test.YtcofnockikninaaGreatDoorZgRA
import Derived.Test.YtcofnockikninaaGreatDoorZgNum9
import Derived.Deep.Cut
set_option maxRecDepth 100000
set_option maxHeartbeats 64000000
namespace Go.Proofs.YtcofnockikninaaGreatDoor
open Go.RowKit
def Rights : Prop := ∀ (w : World) (t : Nat) (x : Value) (b : Bs), plainT t = true → BytesAt w x b → b.length ≤ 100000 → Calls Tryz.prog 163 #[.int .i64 (t : Int), x] w fun e w' => e = .returned (.bool (rightP t b)) ∧ Below w.heap.size w w'
theorem form_any (C : Rights) (w : World) (c t : Nat) (m : Bool) (s1 : Option Addr) (c1 : Nat) (s2 : Option Addr) (kk c2 : Nat) (b : Bs) (hx : BytesAt w (.slice s1 b.length c1) b) (hl : b.length ≤ 100000) :
  Calls Tryz.prog 131 #[.agg #[.int .i64 (c : Int), .int .i64 (t : Int), .bool m, .slice s1 b.length c1, .slice s2 kk c2]] w fun e w' => e = .returned (.int .i64 (formD c t m b : Int)) ∧ Below w.heap.size w w' := by
 obtain ⟨w1, hw1⟩ := exq (w.alloc (.cells #[.int .i64 (c : Int), .int .i64 (t : Int), .bool m, .slice s1 b.length c1, .slice s2 kk c2] 33))
 have hb1 := allocB hw1
 have hc1 : CellsAt w1 w.heap.size 0 (dcells c t m (.slice s1 b.length c1) (.slice s2 kk c2)) := by rw [← hw1]; exact cells_new w _ 33
 obtain ⟨a0, a1, a2, a3, a4⟩ := hc1.five0
 have Hb := h_ hb1
 have HR : Hid (plainT t = true → Calls Tryz.prog 163 #[.int .i64 (t : Int), .slice s1 b.length c1] w1 fun e w' => e = .returned (.bool (rightP t b)) ∧ Below w1.heap.size w1 w') := fun h => C w1 t _ b h (hx.below hb1) hl
 obtain ⟨A, hA⟩ := exq w.heap.size
 simp only [hA] at a0 a1 a2 a3 a4
 obtain ⟨ci, hci⟩ := exq ((c : Int) : Int)
 obtain ⟨ti, hti⟩ := exq ((t : Int) : Int)
 simp only [hci, hti] at hw1 a0 a1 HR ⊢
 by_cases hc : c = 0
 case neg =>
  have HF : Hid (formD c t m b = 0) := by show _ = _; unfold formD; rw [if_pos hc]
  have e1 : (ci == 0) = false := by simp; omega
  clear C hb1 hc1 HR hx hl hc hci hti
  go_enter Tryz.func131, Tryz.ntmps131
  go_wp2
  go_ret
  exact ⟨by rw [u_ HF]; rfl, u_ Hb⟩
 subst hc
 obtain rfl : ci = 0 := by omega
 have HF : Hid (formD 0 t m b = if (madeT t = false ∧ plainT t = false) ∨ ¬ madeT t = m then 21 else if plainT t = true ∧ rightP t b = false then 24 else 0) := by show _ = _; unfold formD; rw [if_neg (by omega)]
 obtain ⟨L, hL⟩ := exq b.length
 simp only [hL] at hw1 a3 HR ⊢
 clear C hb1 hc1 hx hl hL hci
 rcases (by omega : t = 1 ∨ t = 2 ∨ t = 3 ∨ t = 4 ∨ t = 5 ∨ t = 6 ∨ t = 10 ∨ t = 12 ∨ t = 19 ∨ t = 22 ∨ t = 23 ∨ t = 24 ∨ t = 16 ∨ t = 17 ∨ (t ≠ 16 ∧ t ≠ 17 ∧ ¬ (1 ≤ t ∧ t ≤ 6) ∧ t ≠ 10 ∧ t ≠ 12 ∧ t ≠ 19 ∧ ¬ (22 ≤ t ∧ t ≤ 24))) with ht | ht | ht | ht | ht | ht | ht | ht | ht | ht | ht | ht | ht | ht | ht
 ·subst ht
  obtain rfl : ti = 1 := by omega
  clear hti
  cases m with
  | true =>
   have HF2 : Hid (formD 0 1 true b = 21) := by show _ = _; rw [u_ HF, if_pos (Or.inr (by decide))]
   clear HF HR
   go_enter Tryz.func131, Tryz.ntmps131
   go_wp2
   go_ret
   exact ⟨by rw [u_ HF2]; rfl, u_ Hb⟩
  | false =>
   have Hc := h_ (u_ HR (by decide))
   have HF2 : Hid (formD 0 1 false b = if rightP 1 b = false then 24 else 0) := by show _ = _; rw [u_ HF, if_neg (by decide)]; cases rightP 1 b <;> rfl
   obtain ⟨r, hr⟩ := exq (rightP 1 b)
   rw [hr] at Hc HF2
   clear HF HR hr
   go_enter Tryz.func131, Tryz.ntmps131
   go_wp2_with fail
   refine Hc.mono ?_
   rintro e w2 ⟨rfl, hb2⟩
   have Hb2 := h_ (Hb.trans (hb2.mono Hb.size))
   clear hb2 Hc
   cases r with
   | true =>
    go_wp2
    go_ret
    exact ⟨by rw [u_ HF2]; rfl, u_ Hb2⟩
   | false =>
    go_wp2
    go_ret
    exact ⟨by rw [u_ HF2]; rfl, u_ Hb2⟩
 ·subst ht
  obtain rfl : ti = 2 := by omega
  clear hti
  cases m with
  | true =>
   have HF2 : Hid (formD 0 2 true b = 21) := by show _ = _; rw [u_ HF, if_pos (Or.inr (by decide))]
   clear HF HR
   go_enter Tryz.func131, Tryz.ntmps131
   go_wp2
   go_ret
   exact ⟨by rw [u_ HF2]; rfl, u_ Hb⟩
  | false =>
   have Hc := h_ (u_ HR (by decide))
   have HF2 : Hid (formD 0 2 false b = if rightP 2 b = false then 24 else 0) := by show _ = _; rw [u_ HF, if_neg (by decide)]; cases rightP 2 b <;> rfl
   obtain ⟨r, hr⟩ := exq (rightP 2 b)
   rw [hr] at Hc HF2
   clear HF HR hr
   go_enter Tryz.func131, Tryz.ntmps131
   go_wp2_with fail
   refine Hc.mono ?_
   rintro e w2 ⟨rfl, hb2⟩
   have Hb2 := h_ (Hb.trans (hb2.mono Hb.size))
   clear hb2 Hc
   cases r with
   | true =>
    go_wp2
    go_ret
    exact ⟨by rw [u_ HF2]; rfl, u_ Hb2⟩
   | false =>
    go_wp2
    go_ret
    exact ⟨by rw [u_ HF2]; rfl, u_ Hb2⟩
 ·subst ht
  obtain rfl : ti = 3 := by omega
  clear hti
  cases m with
  | true =>
   have HF2 : Hid (formD 0 3 true b = 21) := by show _ = _; rw [u_ HF, if_pos (Or.inr (by decide))]
   clear HF HR
   go_enter Tryz.func131, Tryz.ntmps131
   go_wp2
   go_ret
   exact ⟨by rw [u_ HF2]; rfl, u_ Hb⟩
  | false =>
   have Hc := h_ (u_ HR (by decide))
   have HF2 : Hid (formD 0 3 false b = if rightP 3 b = false then 24 else 0) := by show _ = _; rw [u_ HF, if_neg (by decide)]; cases rightP 3 b <;> rfl
   obtain ⟨r, hr⟩ := exq (rightP 3 b)
   rw [hr] at Hc HF2
   clear HF HR hr
   go_enter Tryz.func131, Tryz.ntmps131
   go_wp2_with fail
   refine Hc.mono ?_
   rintro e w2 ⟨rfl, hb2⟩
   have Hb2 := h_ (Hb.trans (hb2.mono Hb.size))
   clear hb2 Hc
   cases r with
   | true =>
    go_wp2
    go_ret
    exact ⟨by rw [u_ HF2]; rfl, u_ Hb2⟩
   | false =>
    go_wp2
    go_ret
    exact ⟨by rw [u_ HF2]; rfl, u_ Hb2⟩
 ·subst ht
  obtain rfl : ti = 4 := by omega
  clear hti
  cases m with
  | true =>
   have HF2 : Hid (formD 0 4 true b = 21) := by show _ = _; rw [u_ HF, if_pos (Or.inr (by decide))]
   clear HF HR
   go_enter Tryz.func131, Tryz.ntmps131
   go_wp2
   go_ret
   exact ⟨by rw [u_ HF2]; rfl, u_ Hb⟩
  | false =>
   have Hc := h_ (u_ HR (by decide))
   have HF2 : Hid (formD 0 4 false b = if rightP 4 b = false then 24 else 0) := by show _ = _; rw [u_ HF, if_neg (by decide)]; cases rightP 4 b <;> rfl
   obtain ⟨r, hr⟩ := exq (rightP 4 b)
   rw [hr] at Hc HF2
   clear HF HR hr
   go_enter Tryz.func131, Tryz.ntmps131
   go_wp2_with fail
   refine Hc.mono ?_
   rintro e w2 ⟨rfl, hb2⟩
   have Hb2 := h_ (Hb.trans (hb2.mono Hb.size))
   clear hb2 Hc
   cases r with
   | true =>
    go_wp2
    go_ret
    exact ⟨by rw [u_ HF2]; rfl, u_ Hb2⟩
   | false =>
    go_wp2
    go_ret
    exact ⟨by rw [u_ HF2]; rfl, u_ Hb2⟩
 ·subst ht
  obtain rfl : ti = 5 := by omega
  clear hti
  cases m with
  | true =>
   have HF2 : Hid (formD 0 5 true b = 21) := by show _ = _; rw [u_ HF, if_pos (Or.inr (by decide))]
   clear HF HR
   go_enter Tryz.func131, Tryz.ntmps131
   go_wp2
   go_ret
   exact ⟨by rw [u_ HF2]; rfl, u_ Hb⟩
  | false =>
   have Hc := h_ (u_ HR (by decide))
   have HF2 : Hid (formD 0 5 false b = if rightP 5 b = false then 24 else 0) := by show _ = _; rw [u_ HF, if_neg (by decide)]; cases rightP 5 b <;> rfl
   obtain ⟨r, hr⟩ := exq (rightP 5 b)
   rw [hr] at Hc HF2
   clear HF HR hr
   go_enter Tryz.func131, Tryz.ntmps131
   go_wp2_with fail
   refine Hc.mono ?_
   rintro e w2 ⟨rfl, hb2⟩
   have Hb2 := h_ (Hb.trans (hb2.mono Hb.size))
   clear hb2 Hc
   cases r with
   | true =>
    go_wp2
    go_ret
    exact ⟨by rw [u_ HF2]; rfl, u_ Hb2⟩
   | false =>
    go_wp2
    go_ret
    exact ⟨by rw [u_ HF2]; rfl, u_ Hb2⟩
 ·subst ht
  obtain rfl : ti = 6 := by omega
  clear hti
  cases m with
  | true =>
   have HF2 : Hid (formD 0 6 true b = 21) := by show _ = _; rw [u_ HF, if_pos (Or.inr (by decide))]
   clear HF HR
   go_enter Tryz.func131, Tryz.ntmps131
   go_wp2
   go_ret
   exact ⟨by rw [u_ HF2]; rfl, u_ Hb⟩
  | false =>
   have Hc := h_ (u_ HR (by decide))
   have HF2 : Hid (formD 0 6 false b = if rightP 6 b = false then 24 else 0) := by show _ = _; rw [u_ HF, if_neg (by decide)]; cases rightP 6 b <;> rfl
   obtain ⟨r, hr⟩ := exq (rightP 6 b)
   rw [hr] at Hc HF2
   clear HF HR hr
   go_enter Tryz.func131, Tryz.ntmps131
   go_wp2_with fail
   refine Hc.mono ?_
   rintro e w2 ⟨rfl, hb2⟩
   have Hb2 := h_ (Hb.trans (hb2.mono Hb.size))
   clear hb2 Hc
   cases r with
   | true =>
    go_wp2
    go_ret
    exact ⟨by rw [u_ HF2]; rfl, u_ Hb2⟩
   | false =>
    go_wp2
    go_ret
    exact ⟨by rw [u_ HF2]; rfl, u_ Hb2⟩
 ·subst ht
  obtain rfl : ti = 10 := by omega
  clear hti
  cases m with
  | true =>
   have HF2 : Hid (formD 0 10 true b = 21) := by show _ = _; rw [u_ HF, if_pos (Or.inr (by decide))]
   clear HF HR
   go_enter Tryz.func131, Tryz.ntmps131
   go_wp2
   go_ret
   exact ⟨by rw [u_ HF2]; rfl, u_ Hb⟩
  | false =>
   have Hc := h_ (u_ HR (by decide))
   have HF2 : Hid (formD 0 10 false b = if rightP 10 b = false then 24 else 0) := by show _ = _; rw [u_ HF, if_neg (by decide)]; cases rightP 10 b <;> rfl
   obtain ⟨r, hr⟩ := exq (rightP 10 b)
   rw [hr] at Hc HF2
   clear HF HR hr
   go_enter Tryz.func131, Tryz.ntmps131
   go_wp2_with fail
   refine Hc.mono ?_
   rintro e w2 ⟨rfl, hb2⟩
   have Hb2 := h_ (Hb.trans (hb2.mono Hb.size))
   clear hb2 Hc
   cases r with
   | true =>
    go_wp2
    go_ret
    exact ⟨by rw [u_ HF2]; rfl, u_ Hb2⟩
   | false =>
    go_wp2
    go_ret
    exact ⟨by rw [u_ HF2]; rfl, u_ Hb2⟩
 ·subst ht
  obtain rfl : ti = 12 := by omega
  clear hti
  cases m with
  | true =>
   have HF2 : Hid (formD 0 12 true b = 21) := by show _ = _; rw [u_ HF, if_pos (Or.inr (by decide))]
   clear HF HR
   go_enter Tryz.func131, Tryz.ntmps131
   go_wp2
   go_ret
   exact ⟨by rw [u_ HF2]; rfl, u_ Hb⟩
  | false =>
   have Hc := h_ (u_ HR (by decide))
   have HF2 : Hid (formD 0 12 false b = if rightP 12 b = false then 24 else 0) := by show _ = _; rw [u_ HF, if_neg (by decide)]; cases rightP 12 b <;> rfl
   obtain ⟨r, hr⟩ := exq (rightP 12 b)
   rw [hr] at Hc HF2
   clear HF HR hr
   go_enter Tryz.func131, Tryz.ntmps131
   go_wp2_with fail
   refine Hc.mono ?_
   rintro e w2 ⟨rfl, hb2⟩
   have Hb2 := h_ (Hb.trans (hb2.mono Hb.size))
   clear hb2 Hc
   cases r with
   | true =>
    go_wp2
    go_ret
    exact ⟨by rw [u_ HF2]; rfl, u_ Hb2⟩
   | false =>
    go_wp2
    go_ret
    exact ⟨by rw [u_ HF2]; rfl, u_ Hb2⟩
 ·subst ht
  obtain rfl : ti = 19 := by omega
  clear hti
  cases m with
  | true =>
   have HF2 : Hid (formD 0 19 true b = 21) := by show _ = _; rw [u_ HF, if_pos (Or.inr (by decide))]
   clear HF HR
   go_enter Tryz.func131, Tryz.ntmps131
   go_wp2
   go_ret
   exact ⟨by rw [u_ HF2]; rfl, u_ Hb⟩
  | false =>
   have Hc := h_ (u_ HR (by decide))
   have HF2 : Hid (formD 0 19 false b = if rightP 19 b = false then 24 else 0) := by show _ = _; rw [u_ HF, if_neg (by decide)]; cases rightP 19 b <;> rfl
   obtain ⟨r, hr⟩ := exq (rightP 19 b)
   rw [hr] at Hc HF2
   clear HF HR hr
   go_enter Tryz.func131, Tryz.ntmps131
   go_wp2_with fail
   refine Hc.mono ?_
   rintro e w2 ⟨rfl, hb2⟩
   have Hb2 := h_ (Hb.trans (hb2.mono Hb.size))
   clear hb2 Hc
   cases r with
   | true =>
    go_wp2
    go_ret
    exact ⟨by rw [u_ HF2]; rfl, u_ Hb2⟩
   | false =>
    go_wp2
    go_ret
    exact ⟨by rw [u_ HF2]; rfl, u_ Hb2⟩
 ·subst ht
  obtain rfl : ti = 22 := by omega
  clear hti
  cases m with
  | true =>
   have HF2 : Hid (formD 0 22 true b = 21) := by show _ = _; rw [u_ HF, if_pos (Or.inr (by decide))]
   clear HF HR
   go_enter Tryz.func131, Tryz.ntmps131
   go_wp2
   go_ret
   exact ⟨by rw [u_ HF2]; rfl, u_ Hb⟩
  | false =>
   have Hc := h_ (u_ HR (by decide))
   have HF2 : Hid (formD 0 22 false b = if rightP 22 b = false then 24 else 0) := by show _ = _; rw [u_ HF, if_neg (by decide)]; cases rightP 22 b <;> rfl
   obtain ⟨r, hr⟩ := exq (rightP 22 b)
   rw [hr] at Hc HF2
   clear HF HR hr
   go_enter Tryz.func131, Tryz.ntmps131
   go_wp2_with fail
   refine Hc.mono ?_
   rintro e w2 ⟨rfl, hb2⟩
   have Hb2 := h_ (Hb.trans (hb2.mono Hb.size))
   clear hb2 Hc
   cases r with
   | true =>
    go_wp2
    go_ret
    exact ⟨by rw [u_ HF2]; rfl, u_ Hb2⟩
   | false =>
    go_wp2
    go_ret
    exact ⟨by rw [u_ HF2]; rfl, u_ Hb2⟩
 ·subst ht
  obtain rfl : ti = 23 := by omega
  clear hti
  cases m with
  | true =>
   have HF2 : Hid (formD 0 23 true b = 21) := by show _ = _; rw [u_ HF, if_pos (Or.inr (by decide))]
   clear HF HR
   go_enter Tryz.func131, Tryz.ntmps131
   go_wp2
   go_ret
   exact ⟨by rw [u_ HF2]; rfl, u_ Hb⟩
  | false =>
   have Hc := h_ (u_ HR (by decide))
   have HF2 : Hid (formD 0 23 false b = if rightP 23 b = false then 24 else 0) := by show _ = _; rw [u_ HF, if_neg (by decide)]; cases rightP 23 b <;> rfl
   obtain ⟨r, hr⟩ := exq (rightP 23 b)
   rw [hr] at Hc HF2
   clear HF HR hr
   go_enter Tryz.func131, Tryz.ntmps131
   go_wp2_with fail
   refine Hc.mono ?_
   rintro e w2 ⟨rfl, hb2⟩
   have Hb2 := h_ (Hb.trans (hb2.mono Hb.size))
   clear hb2 Hc
   cases r with
   | true =>
    go_wp2
    go_ret
    exact ⟨by rw [u_ HF2]; rfl, u_ Hb2⟩
   | false =>
    go_wp2
    go_ret
    exact ⟨by rw [u_ HF2]; rfl, u_ Hb2⟩
 ·subst ht
  obtain rfl : ti = 24 := by omega
  clear hti
  cases m with
  | true =>
   have HF2 : Hid (formD 0 24 true b = 21) := by show _ = _; rw [u_ HF, if_pos (Or.inr (by decide))]
   clear HF HR
   go_enter Tryz.func131, Tryz.ntmps131
   go_wp2
   go_ret
   exact ⟨by rw [u_ HF2]; rfl, u_ Hb⟩
  | false =>
   have Hc := h_ (u_ HR (by decide))
   have HF2 : Hid (formD 0 24 false b = if rightP 24 b = false then 24 else 0) := by show _ = _; rw [u_ HF, if_neg (by decide)]; cases rightP 24 b <;> rfl
   obtain ⟨r, hr⟩ := exq (rightP 24 b)
   rw [hr] at Hc HF2
   clear HF HR hr
   go_enter Tryz.func131, Tryz.ntmps131
   go_wp2_with fail
   refine Hc.mono ?_
   rintro e w2 ⟨rfl, hb2⟩
   have Hb2 := h_ (Hb.trans (hb2.mono Hb.size))
   clear hb2 Hc
   cases r with
   | true =>
    go_wp2
    go_ret
    exact ⟨by rw [u_ HF2]; rfl, u_ Hb2⟩
   | false =>
    go_wp2
    go_ret
    exact ⟨by rw [u_ HF2]; rfl, u_ Hb2⟩
 ·subst ht
  obtain rfl : ti = 16 := by omega
  clear hti
  cases m with
  | false =>
   have HF2 : Hid (formD 0 16 false b = 21) := by show _ = _; rw [u_ HF, if_pos (Or.inr (by decide))]
   clear HF HR
   go_enter Tryz.func131, Tryz.ntmps131
   go_wp2
   go_ret
   exact ⟨by rw [u_ HF2]; rfl, u_ Hb⟩
  | true =>
   have HF2 : Hid (formD 0 16 true b = 0) := by show _ = _; rw [u_ HF, if_neg (by decide), if_neg (by rintro ⟨h, _⟩; exact absurd h (by decide))]
   clear HF HR
   go_enter Tryz.func131, Tryz.ntmps131
   go_wp2
   go_ret
   exact ⟨by rw [u_ HF2]; rfl, u_ Hb⟩
 ·subst ht
  obtain rfl : ti = 17 := by omega
  clear hti
  cases m with
  | false =>
   have HF2 : Hid (formD 0 17 false b = 21) := by show _ = _; rw [u_ HF, if_pos (Or.inr (by decide))]
   clear HF HR
   go_enter Tryz.func131, Tryz.ntmps131
   go_wp2
   go_ret
   exact ⟨by rw [u_ HF2]; rfl, u_ Hb⟩
  | true =>
   have HF2 : Hid (formD 0 17 true b = 0) := by show _ = _; rw [u_ HF, if_neg (by decide), if_neg (by rintro ⟨h, _⟩; exact absurd h (by decide))]
   clear HF HR
   go_enter Tryz.func131, Tryz.ntmps131
   go_wp2
   go_ret
   exact ⟨by rw [u_ HF2]; rfl, u_ Hb⟩
 ·have hm : madeT t = false := by unfold madeT; simp; omega
  have hp : plainT t = false := by unfold plainT; simp; omega
  have HF2 : Hid (formD 0 t m b = 21) := by show _ = _; rw [u_ HF, if_pos (Or.inl ⟨hm, hp⟩)]
  have e16 : (ti == 16) = false := by simp; omega
  have e17 : (ti == 17) = false := by simp; omega
  have e10 : (ti == 10) = false := by simp; omega
  have e12 : (ti == 12) = false := by simp; omega
  have e19 : (ti == 19) = false := by simp; omega
  clear HF HR hm hp
  rcases (by omega : t = 0 ∨ (7 ≤ t ∧ t ≤ 21) ∨ 25 ≤ t) with h0 | h0 | h0
  ·have f1 : decide (1 ≤ ti) = false := by simp; omega
   have f6 : decide (ti ≤ 6) = true := by simp; omega
   have f22 : decide (22 ≤ ti) = false := by simp; omega
   have f24 : decide (ti ≤ 24) = true := by simp; omega
   clear ht h0 hti
   go_enter Tryz.func131, Tryz.ntmps131
   go_wp2
   go_ret
   exact ⟨by rw [u_ HF2]; rfl, u_ Hb⟩
  ·have f1 : decide (1 ≤ ti) = true := by simp; omega
   have f6 : decide (ti ≤ 6) = false := by simp; omega
   have f22 : decide (22 ≤ ti) = false := by simp; omega
   have f24 : decide (ti ≤ 24) = true := by simp; omega
   clear ht h0 hti
   go_enter Tryz.func131, Tryz.ntmps131
   go_wp2
   go_ret
   exact ⟨by rw [u_ HF2]; rfl, u_ Hb⟩
  ·have f1 : decide (1 ≤ ti) = true := by simp; omega
   have f6 : decide (ti ≤ 6) = false := by simp; omega
   have f22 : decide (22 ≤ ti) = true := by simp; omega
   have f24 : decide (ti ≤ 24) = false := by simp; omega
   clear ht h0 hti
   go_enter Tryz.func131, Tryz.ntmps131
   go_wp2
   go_ret
   exact ⟨by rw [u_ HF2]; rfl, u_ Hb⟩
theorem u8_dec (c : UInt8) (n : Nat) (h : n < 256) : decide (c = UInt8.ofNat n) = decide (c.toNat = n) := by
 have e : (UInt8.ofNat n).toNat = n := by rw [UInt8.toNat_ofNat']; omega
 by_cases hc : c.toNat = n
 ·rw [decide_eq_true hc, decide_eq_true (UInt8.toNat_inj.1 (by rw [e]; exact hc))]
 ·rw [decide_eq_false hc, decide_eq_false (fun h2 => hc (by rw [h2]; exact e))]
theorem right1 (b : Bs) : rightP 1 b = (decide (b.length = 1) && (decide ((b.getD 0 0).toNat = 0) || decide ((b.getD 0 0).toNat = 255))) := by
 unfold rightP
 rw [if_pos rfl, ← u8_dec _ 0 (by omega), ← u8_dec _ 255 (by omega)]
 rfl
theorem right2 {t : Nat} (ht : t = 2 ∨ t = 10) (b : Bs) : rightP t b = (decide (b.length = 1) || (decide (1 < b.length) && (!decide ((b.getD 0 0).toNat = 0) || decide (128 ≤ (b.getD 1 0).toNat)) && (!decide ((b.getD 0 0).toNat = 255) || decide ((b.getD 1 0).toNat < 128)))) := by
 unfold rightP
 rw [if_neg (by omega), if_pos ht, ← u8_dec _ 0 (by omega), ← u8_dec _ 255 (by omega)]
 rfl
theorem right3 (b : Bs) : rightP 3 b = (if b.length = 0 ∨ 7 < (b.getD 0 0).toNat then false else if b.length = 1 then decide ((b.getD 0 0).toNat = 0) else decide ((b.getD (b.length - 1) 0).toNat % 2 ^ (b.getD 0 0).toNat = 0)) := by
 unfold rightP
 rw [if_neg (by omega), if_neg (by omega), if_pos rfl, ← u8_dec _ 0 (by omega)]
 rfl
theorem right5 (b : Bs) : rightP 5 b = decide (b.length = 0) := by
 unfold rightP
 rw [if_neg (by omega), if_neg (by omega), if_neg (by omega), if_pos rfl]
theorem right4 (b : Bs) : rightP 4 b = true := by
 unfold rightP
 rw [if_neg (by omega), if_neg (by omega), if_neg (by omega), if_neg (by omega), if_neg (by omega), if_neg (by omega), if_neg (by omega), if_neg (by omega), if_neg (by omega), if_neg (by omega)]
theorem byte_at {w : World} {sp : Option Addr} {N c : Nat} {b : Bs} (h : BytesAt w (.slice sp N c) b) (hN : b.length = N) (k : Nat) (hk : k < N) : ∃ ba oa p, sp = some ⟨ba, oa, none⟩ ∧ (b.getD k 0).toNat = p ∧ p < 256 ∧ w.cell? ⟨ba, oa + k, none⟩ = some (.int .u8 (p : Int)) := by
 obtain ⟨s, c', e, _, _, hc⟩ := bytes_open h
 simp only [Value.slice.injEq] at e
 obtain ⟨rfl, _, _⟩ := e
 obtain ⟨ba, oa, e2, _, hcell⟩ := hc (fun e => by rw [e] at hN; simp at hN; omega)
 exact ⟨ba, oa, _, e2, rfl, (b.getD k 0).toNat_lt, hcell k (by omega)⟩
theorem right_1 (w : World) (x : Value) (b : Bs) (hx : BytesAt w x b) :
  Calls Tryz.prog 163 #[.int .i64 1, x] w fun e w' => e = .returned (.bool (rightP 1 b)) ∧ Below w.heap.size w w' := by
 have HR := h_ (right1 b)
 obtain ⟨sp, c, rfl, _, _, _⟩ := bytes_open hx
 obtain ⟨N, hN⟩ := exq b.length
 rw [hN] at hx HR ⊢
 have Hb := h_ (Below.refl w.heap.size w)
 by_cases h1 : N = 1
 ·obtain ⟨ba, oa, p, rfl, hp, hpb, hc⟩ := byte_at hx hN 0 (by omega)
  rw [Nat.add_zero] at hc
  rw [hp] at HR
  subst h1
  clear hx hN hp
  rcases (by omega : p = 0 ∨ p = 255 ∨ (p ≠ 0 ∧ p ≠ 255)) with rfl | rfl | hpp
  ·have HT : Hid (rightP 1 b = true) := by show _ = _; rw [u_ HR]; rfl
   clear HR
   go_enter Tryz.func163, Tryz.ntmps163
   go_wp2
   go_ret
   exact ⟨by rw [u_ HT]; rfl, u_ Hb⟩
  ·have HT : Hid (rightP 1 b = true) := by show _ = _; rw [u_ HR]; rfl
   clear HR
   go_enter Tryz.func163, Tryz.ntmps163
   go_wp2
   go_ret
   exact ⟨by rw [u_ HT]; rfl, u_ Hb⟩
  ·have HT : Hid (rightP 1 b = false) := by show _ = _; rw [u_ HR]; simp; omega
   have d1 : ((p : Int) == 0) = false := by simp; omega
   have d2 : ((p : Int) == 255) = false := by simp; omega
   clear HR
   go_enter Tryz.func163, Tryz.ntmps163
   go_wp2
   go_ret
   exact ⟨by rw [u_ HT]; rfl, u_ Hb⟩
 ·have HT : Hid (rightP 1 b = false) := by show _ = _; rw [u_ HR]; simp; omega
  have d1 : ((N : Int) == 1) = false := by simp; omega
  clear HR hx hN
  go_enter Tryz.func163, Tryz.ntmps163
  go_wp2
  go_ret
  exact ⟨by rw [u_ HT]; rfl, u_ Hb⟩
theorem right_2 (t : Nat) (ht : t = 2 ∨ t = 10) (w : World) (x : Value) (b : Bs) (hx : BytesAt w x b) :
  Calls Tryz.prog 163 #[.int .i64 (t : Int), x] w fun e w' => e = .returned (.bool (rightP t b)) ∧ Below w.heap.size w w' := by
 have HR := h_ (right2 ht b)
 obtain ⟨sp, c, rfl, _, _, _⟩ := bytes_open hx
 obtain ⟨N, hN⟩ := exq b.length
 rw [hN] at hx HR ⊢
 have Hb := h_ (Below.refl w.heap.size w)
 rcases (by omega : N = 1 ∨ N = 0 ∨ 1 < N) with h1 | h1 | h1
 ·subst h1
  have HT : Hid (rightP t b = true) := by show _ = _; rw [u_ HR]; rfl
  clear HR hx hN
  rcases ht with rfl | rfl <;>
  ·go_enter Tryz.func163, Tryz.ntmps163
   go_wp2
   go_ret
   exact ⟨by rw [u_ HT]; rfl, u_ Hb⟩
 ·subst h1
  have HT : Hid (rightP t b = false) := by show _ = _; rw [u_ HR]; rfl
  clear HR hx hN
  rcases ht with rfl | rfl <;>
  ·go_enter Tryz.func163, Tryz.ntmps163
   go_wp2
   go_ret
   exact ⟨by rw [u_ HT]; rfl, u_ Hb⟩
 ·obtain ⟨ba, oa, p, rfl, hp, hpb, hc⟩ := byte_at hx hN 0 (by omega)
  rw [Nat.add_zero] at hc
  obtain ⟨ba', oa', q, e, hq, hqb, hc2⟩ := byte_at hx hN 1 (by omega)
  simp only [Option.some.injEq, Addr.mk.injEq, and_true] at e
  obtain ⟨rfl, rfl⟩ := e
  rw [hp, hq] at HR
  have n1 : ((N : Int) == 1) = false := by simp; omega
  obtain ⟨n2, n2n⟩ := ltLV 1 1 N
  have n3 : (0 : Int) < (N : Int) := by omega
  have n4 : (1 : Int) < (N : Int) := by omega
  rw [n2n, decide_eq_false (by omega : ¬ N = 1)] at HR
  clear hx hN hp hq
  rcases (by omega : (p ≠ 0 ∧ p ≠ 255) ∨ (p = 0 ∧ 128 ≤ q) ∨ (p = 0 ∧ q < 128) ∨ (p = 255 ∧ 128 ≤ q) ∨ (p = 255 ∧ q < 128)) with h | h | h | h | h
  ·have HT : Hid (rightP t b = true) := by show _ = _; rw [u_ HR]; simp [h.1, h.2]
   have d1 : ((p : Int) == 0) = false := by simp; omega
   have d1' : ((p : Int) != 0) = true := by simp; omega
   have d2 : ((p : Int) == 255) = false := by simp; omega
   have d2' : ((p : Int) != 255) = true := by simp; omega
   clear HR
   rcases ht with rfl | rfl <;>
   ·go_enter Tryz.func163, Tryz.ntmps163
    go_wp2
    go_ret
    exact ⟨by rw [u_ HT]; rfl, u_ Hb⟩
  ·obtain ⟨rfl, hq⟩ := h
   have HT : Hid (rightP t b = true) := by show _ = _; rw [u_ HR]; simp; omega
   obtain ⟨d1, d1n⟩ := leLV 128 128 q
   clear HR
   rcases ht with rfl | rfl <;>
   ·go_enter Tryz.func163, Tryz.ntmps163
    go_wp2
    go_ret
    exact ⟨by rw [u_ HT]; rfl, u_ Hb⟩
  ·obtain ⟨rfl, hq⟩ := h
   have HT : Hid (rightP t b = false) := by show _ = _; rw [u_ HR]; simp; omega
   obtain ⟨d1, d1n⟩ := leLVf 128 128 q
   clear HR
   rcases ht with rfl | rfl <;>
   ·go_enter Tryz.func163, Tryz.ntmps163
    go_wp2
    go_ret
    exact ⟨by rw [u_ HT]; rfl, u_ Hb⟩
  ·obtain ⟨rfl, hq⟩ := h
   have HT : Hid (rightP t b = false) := by show _ = _; rw [u_ HR]; simp; omega
   obtain ⟨d1, d1n⟩ := ltVLf q 128 128
   clear HR
   rcases ht with rfl | rfl <;>
   ·go_enter Tryz.func163, Tryz.ntmps163
    go_wp2
    go_ret
    exact ⟨by rw [u_ HT]; rfl, u_ Hb⟩
  ·obtain ⟨rfl, hq⟩ := h
   have HT : Hid (rightP t b = true) := by show _ = _; rw [u_ HR]; simp; omega
   obtain ⟨d1, d1n⟩ := ltVL q 128 128
   clear HR
   rcases ht with rfl | rfl <;>
   ·go_enter Tryz.func163, Tryz.ntmps163
    go_wp2
    go_ret
    exact ⟨by rw [u_ HT]; rfl, u_ Hb⟩
theorem right_3 (w : World) (x : Value) (b : Bs) (hx : BytesAt w x b) (hl : b.length ≤ 100000) :
  Calls Tryz.prog 163 #[.int .i64 3, x] w fun e w' => e = .returned (.bool (rightP 3 b)) ∧ Below w.heap.size w w' := by
 have HR := h_ (right3 b)
 obtain ⟨sp, c, rfl, _, _, _⟩ := bytes_open hx
 obtain ⟨N, hN⟩ := exq b.length
 rw [hN] at hx HR hl ⊢
 have Hb := h_ (Below.refl w.heap.size w)
 by_cases h0 : N = 0
 ·subst h0
  have HT : Hid (rightP 3 b = false) := by show _ = _; rw [u_ HR]; rfl
  clear HR hx hN
  go_enter Tryz.func163, Tryz.ntmps163
  go_wp2
  go_ret
  exact ⟨by rw [u_ HT]; rfl, u_ Hb⟩
 obtain ⟨ba, oa, p, rfl, hp, hpb, hc⟩ := byte_at hx hN 0 (by omega)
 rw [Nat.add_zero] at hc
 rw [hp] at HR
 have n0 : ((N : Int) == 0) = false := by simp; omega
 have n3 : (0 : Int) < (N : Int) := by omega
 by_cases h7 : 7 < p
 ·have HT : Hid (rightP 3 b = false) := by show _ = _; rw [u_ HR, if_pos (Or.inr h7)]
  obtain ⟨d1, d1n⟩ := ltLV 7 7 p
  clear HR hx hN hp
  go_enter Tryz.func163, Tryz.ntmps163
  go_wp2
  go_ret
  exact ⟨by rw [u_ HT]; rfl, u_ Hb⟩
 obtain ⟨d1, d1n⟩ := ltLVf 7 7 p
 by_cases h1 : N = 1
 ·subst h1
  have HT : Hid (rightP 3 b = decide (p = 0)) := by show _ = _; rw [u_ HR, if_neg (by omega), if_pos rfl]
  clear HR hx hN hp
  by_cases hp0 : p = 0
  ·subst hp0
   go_enter Tryz.func163, Tryz.ntmps163
   go_wp2
   go_ret
   exact ⟨by rw [u_ HT]; rfl, u_ Hb⟩
  ·have d2 : ((p : Int) == 0) = false := by simp; omega
   go_enter Tryz.func163, Tryz.ntmps163
   go_wp2
   go_ret
   exact ⟨by rw [u_ HT, decide_eq_false hp0]; rfl, u_ Hb⟩
 have n1 : ((N : Int) == 1) = false := by simp; omega
 obtain ⟨K, hK⟩ := exq (N - 1)
 obtain ⟨ba', oa', q, e, hq, hqb, hc2⟩ := byte_at hx hN K (by omega)
 simp only [Option.some.injEq, Addr.mk.injEq, and_true] at e
 obtain ⟨rfl, rfl⟩ := e
 have HT : Hid (rightP 3 b = decide (q % 2 ^ p = 0)) := by show _ = _; rw [u_ HR, if_neg (by omega), if_neg h1, hK, hq]
 have eK : (N : Int) - 1 = (K : Int) := by omega
 have K0 : (0 : Int) ≤ (K : Int) := by omega
 have K1 : (K : Int) < (N : Int) := by omega
 have uK : IntKind.i64.wrap (K : Int) = (K : Int) := IntWalk.i64_in _ (by omega)
 have uq : IntKind.i64.wrap (q : Int) = (q : Int) := IntWalk.i64_in _ (by omega)
 clear HR hx hN hp hq hK h1 h0
 rcases (by omega : p = 0 ∨ p = 1 ∨ p = 2 ∨ p = 3 ∨ p = 4 ∨ p = 5 ∨ p = 6 ∨ p = 7) with rfl | rfl | rfl | rfl | rfl | rfl | rfl | rfl
 ·have HT2 : Hid (rightP 3 b = true) := by show _ = _; rw [u_ HT]; simp; omega
  clear HT
  go_enter Tryz.func163, Tryz.ntmps163
  go_wp2
  go_region
  go_wp2
  go_ret
  exact ⟨by rw [u_ HT2]; rfl, Hb.drew⟩
 ·have HT2 : Hid (rightP 3 b = decide (q % 2 = 0)) := u_ HT
  obtain ⟨r, hr⟩ := exq (q % 2)
  rw [hr] at HT2
  have er : (q : Int) % 2 = (r : Int) := by omega
  have ur : IntKind.i64.wrap (r : Int) = (r : Int) := IntWalk.i64_in _ (by omega)
  clear HT hr
  by_cases hr0 : r = 0
  ·subst hr0
   go_enter Tryz.func163, Tryz.ntmps163
   go_wp2
   go_region
   go_wp2
   go_ret
   exact ⟨by rw [u_ HT2]; rfl, Hb.drew⟩
  ·have d5 : ((r : Int) == 0) = false := by simp; omega
   go_enter Tryz.func163, Tryz.ntmps163
   go_wp2
   go_region
   go_wp2
   go_ret
   exact ⟨by rw [u_ HT2, decide_eq_false hr0]; rfl, Hb.drew⟩
 ·have HT2 : Hid (rightP 3 b = decide (q % 4 = 0)) := u_ HT
  obtain ⟨r, hr⟩ := exq (q % 4)
  rw [hr] at HT2
  have er : (q : Int) % 4 = (r : Int) := by omega
  have ur : IntKind.i64.wrap (r : Int) = (r : Int) := IntWalk.i64_in _ (by omega)
  clear HT hr
  by_cases hr0 : r = 0
  ·subst hr0
   go_enter Tryz.func163, Tryz.ntmps163
   go_wp2
   go_region
   go_wp2
   go_ret
   exact ⟨by rw [u_ HT2]; rfl, Hb.drew⟩
  ·have d5 : ((r : Int) == 0) = false := by simp; omega
   go_enter Tryz.func163, Tryz.ntmps163
   go_wp2
   go_region
   go_wp2
   go_ret
   exact ⟨by rw [u_ HT2, decide_eq_false hr0]; rfl, Hb.drew⟩
 ·have HT2 : Hid (rightP 3 b = decide (q % 8 = 0)) := u_ HT
  obtain ⟨r, hr⟩ := exq (q % 8)
  rw [hr] at HT2
  have er : (q : Int) % 8 = (r : Int) := by omega
  have ur : IntKind.i64.wrap (r : Int) = (r : Int) := IntWalk.i64_in _ (by omega)
  clear HT hr
  by_cases hr0 : r = 0
  ·subst hr0
   go_enter Tryz.func163, Tryz.ntmps163
   go_wp2
   go_region
   go_wp2
   go_ret
   exact ⟨by rw [u_ HT2]; rfl, Hb.drew⟩
  ·have d5 : ((r : Int) == 0) = false := by simp; omega
   go_enter Tryz.func163, Tryz.ntmps163
   go_wp2
   go_region
   go_wp2
   go_ret
   exact ⟨by rw [u_ HT2, decide_eq_false hr0]; rfl, Hb.drew⟩
 ·have HT2 : Hid (rightP 3 b = decide (q % 16 = 0)) := u_ HT
  obtain ⟨r, hr⟩ := exq (q % 16)
  rw [hr] at HT2
  have er : (q : Int) % 16 = (r : Int) := by omega
  have ur : IntKind.i64.wrap (r : Int) = (r : Int) := IntWalk.i64_in _ (by omega)
  clear HT hr
  by_cases hr0 : r = 0
  ·subst hr0
   go_enter Tryz.func163, Tryz.ntmps163
   go_wp2
   go_region
   go_wp2
   go_ret
   exact ⟨by rw [u_ HT2]; rfl, Hb.drew⟩
  ·have d5 : ((r : Int) == 0) = false := by simp; omega
   go_enter Tryz.func163, Tryz.ntmps163
   go_wp2
   go_region
   go_wp2
   go_ret
   exact ⟨by rw [u_ HT2, decide_eq_false hr0]; rfl, Hb.drew⟩
 ·have HT2 : Hid (rightP 3 b = decide (q % 32 = 0)) := u_ HT
  obtain ⟨r, hr⟩ := exq (q % 32)
  rw [hr] at HT2
  have er : (q : Int) % 32 = (r : Int) := by omega
  have ur : IntKind.i64.wrap (r : Int) = (r : Int) := IntWalk.i64_in _ (by omega)
  clear HT hr
  by_cases hr0 : r = 0
  ·subst hr0
   go_enter Tryz.func163, Tryz.ntmps163
   go_wp2
   go_region
   go_wp2
   go_ret
   exact ⟨by rw [u_ HT2]; rfl, Hb.drew⟩
  ·have d5 : ((r : Int) == 0) = false := by simp; omega
   go_enter Tryz.func163, Tryz.ntmps163
   go_wp2
   go_region
   go_wp2
   go_ret
   exact ⟨by rw [u_ HT2, decide_eq_false hr0]; rfl, Hb.drew⟩
 ·have HT2 : Hid (rightP 3 b = decide (q % 64 = 0)) := u_ HT
  obtain ⟨r, hr⟩ := exq (q % 64)
  rw [hr] at HT2
  have er : (q : Int) % 64 = (r : Int) := by omega
  have ur : IntKind.i64.wrap (r : Int) = (r : Int) := IntWalk.i64_in _ (by omega)
  clear HT hr
  by_cases hr0 : r = 0
  ·subst hr0
   go_enter Tryz.func163, Tryz.ntmps163
   go_wp2
   go_region
   go_wp2
   go_ret
   exact ⟨by rw [u_ HT2]; rfl, Hb.drew⟩
  ·have d5 : ((r : Int) == 0) = false := by simp; omega
   go_enter Tryz.func163, Tryz.ntmps163
   go_wp2
   go_region
   go_wp2
   go_ret
   exact ⟨by rw [u_ HT2, decide_eq_false hr0]; rfl, Hb.drew⟩
 ·have HT2 : Hid (rightP 3 b = decide (q % 128 = 0)) := u_ HT
  obtain ⟨r, hr⟩ := exq (q % 128)
  rw [hr] at HT2
  have er : (q : Int) % 128 = (r : Int) := by omega
  have ur : IntKind.i64.wrap (r : Int) = (r : Int) := IntWalk.i64_in _ (by omega)
  clear HT hr
  by_cases hr0 : r = 0
  ·subst hr0
   go_enter Tryz.func163, Tryz.ntmps163
   go_wp2
   go_region
   go_wp2
   go_ret
   exact ⟨by rw [u_ HT2]; rfl, Hb.drew⟩
  ·have d5 : ((r : Int) == 0) = false := by simp; omega
   go_enter Tryz.func163, Tryz.ntmps163
   go_wp2
   go_region
   go_wp2
   go_ret
   exact ⟨by rw [u_ HT2, decide_eq_false hr0]; rfl, Hb.drew⟩
theorem right_4 (w : World) (x : Value) (b : Bs) (hx : BytesAt w x b) :
  Calls Tryz.prog 163 #[.int .i64 4, x] w fun e w' => e = .returned (.bool (rightP 4 b)) ∧ Below w.heap.size w w' := by
 have HR := h_ (right4 b)
 obtain ⟨sp, c, rfl, _, _, _⟩ := bytes_open hx
 have Hb := h_ (Below.refl w.heap.size w)
 clear hx
 go_enter Tryz.func163, Tryz.ntmps163
 go_wp2
 go_ret
 exact ⟨by rw [u_ HR]; rfl, u_ Hb⟩
theorem right_5 (w : World) (x : Value) (b : Bs) (hx : BytesAt w x b) :
  Calls Tryz.prog 163 #[.int .i64 5, x] w fun e w' => e = .returned (.bool (rightP 5 b)) ∧ Below w.heap.size w w' := by
 have HR := h_ (right5 b)
 obtain ⟨sp, c, rfl, _, _, _⟩ := bytes_open hx
 obtain ⟨N, hN⟩ := exq b.length
 rw [hN] at HR ⊢
 have Hb := h_ (Below.refl w.heap.size w)
 clear hx hN
 by_cases h0 : N = 0
 ·subst h0
  go_enter Tryz.func163, Tryz.ntmps163
  go_wp2
  go_ret
  exact ⟨by rw [u_ HR]; rfl, u_ Hb⟩
 ·have d1 : ((N : Int) == 0) = false := by simp; omega
  go_enter Tryz.func163, Tryz.ntmps163
  go_wp2
  go_ret
  exact ⟨by rw [u_ HR, decide_eq_false h0]; rfl, u_ Hb⟩
theorem one_new (w : World) (β : UInt8) {z : Nat} (h : β.toNat = z) : BytesAt (w.alloc (.cells #[.int .u8 (z : Int)] 5)) (.slice (some ⟨w.heap.size, 0, none⟩) 1 1) [β] := by
 have := bytes_new w [β]
 simp only [List.map_cons, List.map_nil, bv, h, List.length_cons, List.length_nil] at this
 exact this
theorem byte_of {z : Nat} (h : z < 256) : (UInt8.ofNat z).toNat = z := by rw [UInt8.toNat_ofNat']; omega
theorem wrap_of {z : Nat} (h : z < 256) : IntKind.u8.wrap (z : Int) = (z : Int) := by rw [IntKind.wrap_u8']; omega
theorem lowB_step (k n : Nat) (h : n ≠ 0) : lowB (k + 1) n = UInt8.ofNat n :: lowB k (n / 256) := by show (if n = 0 then _ else _) = _; rw [if_neg h]
theorem lowB_nought (k : Nat) : lowB k 0 = [] := by cases k <;> rfl
theorem rev_take {l : Bs} {k j : Nat} (h : j + k + 1 = l.length) : l.reverse.take (k + 1) = l.reverse.take k ++ [l.getD j 0] := by
 have hk : k < l.reverse.length := by rw [List.length_reverse]; omega
 rw [List.take_add_one, List.getElem?_eq_getElem hk, List.getElem_reverse, List.getD_eq_getElem?_getD, List.getElem?_eq_getElem (by omega : j < l.length)]
 simp only [Option.toList_some, Option.getD_some]
 congr 3
 omega
theorem head_any (w : World) (c t n : Nat) (m : Bool) (hc : c ≤ 3) (ht : t < 2097152) (hn : n ≤ 10000000) (s1 : Option Addr) (n1 c1 : Nat) (s2 : Option Addr) (n2 c2 : Nat) :
  Calls Tryz.prog 133 #[.agg #[.int .i64 (c : Int), .int .i64 (t : Int), .bool m, .slice s1 n1 c1, .slice s2 n2 c2], .int .i64 (n : Int)] w fun e w' => ∃ v, e = .returned v ∧ Row w w' v (tagB c t m ++ lenB n) := by
 have ht0 : t < 31 ∨ (31 ≤ t ∧ t < 128) ∨ (128 ≤ t ∧ t < 16384) ∨ (16384 ≤ t ∧ t < 2097152) := by omega
 clear ht
 rcases ht0 with ht | ht | ht | ht <;> cases m
 obtain ⟨B, hB⟩ := exq (64 * c + 0)
 obtain ⟨B0, hB0⟩ := exq (64 * c)
 have eB0 : (64 : Int) * (c : Int) = (B0 : Int) := by omega
 obtain rfl : B0 = B := by omega
 have hBb : B0 ≤ 224 := by omega
 obtain ⟨z1, hz1⟩ := exq (B0 + t)
 have bz1 : z1 < 256 := by omega
 have wz1 : IntKind.u8.wrap (z1 : Int) = (z1 : Int) := wrap_of bz1
 have ez1 : (B0 : Int) + (t : Int) = (z1 : Int) := by omega
 have HT : Hid (tagB c t false = [UInt8.ofNat z1]) := by show _ = _; unfold tagB; rw [if_pos ht]; simp only [Bool.false_eq_true, if_false]; rw [show 64 * c + 0 + t = z1 by omega]
 obtain ⟨t31, t31n⟩ := ltVL t 31 31
 have tb : (t : Int) ≤ 2097152 := by omega
 have Bb : (B0 : Int) ≤ 300 := by omega
 have B0b : (B0 : Int) ≤ 256 := by omega
 obtain ⟨w1, hw1⟩ := exq (w.alloc (.cells #[.int .i64 (c : Int), .int .i64 (t : Int), .bool false, .slice s1 n1 c1, .slice s2 n2 c2] 33))
 have hb1 := allocB hw1
 have Hb1 := h_ hb1
 obtain ⟨A, hA⟩ := exq w.heap.size
 have hc1 : CellsAt w1 A 0 (dcells c t false (.slice s1 n1 c1) (.slice s2 n2 c2)) := by rw [← hw1, ← hA]; exact cells_new w _ 33
 have HC : Hid (∀ w', Below w1.heap.size w1 w' → w'.cell? ⟨A, 0, none⟩ = some (.int .i64 (c : Int)) ∧ w'.cell? ⟨A, 1, none⟩ = some (.int .i64 (t : Int)) ∧ w'.cell? ⟨A, 2, none⟩ = some (.bool false)) := fun w' hb => ⟨(hc1.below hb) 0 _ rfl, (hc1.below hb) 1 _ rfl, (hc1.below hb) 2 _ rfl⟩
 obtain ⟨a0, a1, a2⟩ := u_ HC w1 (Below.refl _ _)
 have HR0 : Hid (Row w1 w1 (.slice none 0 0) []) := ⟨ownb_nil _ _, Below.refl _ _⟩
 have HY0 : Hid (∀ W : World, BytesAt (W.alloc (.cells #[.int .u8 (z1 : Int)] 5)) (.slice (some ⟨W.heap.size, 0, none⟩) 1 1) [UInt8.ofNat z1]) := fun W => one_new W _ (byte_of bz1)
 have HL0 := h_ (HR0.lit (.cells #[.int .u8 (z1 : Int)] 5))
 clear hb1 hc1 HR0 hc ht hz1 hB0
 clear hBb
 obtain ⟨TL, hTL⟩ := exq ([UInt8.ofNat z1] : Bs)
 rw [hTL] at HT
 obtain ⟨kx, hkx⟩ := exq TL.length
 have HTl := h_ hkx
 have hkx4 : kx ≤ 4 := by rw [← hkx, ← hTL]; simp
 go_enter Tryz.func133, Tryz.ntmps133
 go_upto_region 13 with (first
  | (at_builtin; refine wpList_append_row rfl _ _ rfl (.slice none 0 0) (.slice (some ⟨w1.heap.size, 0, none⟩) 1 1) [] [UInt8.ofNat z1] rfl (u_ HL0) rfl (u_ HY0 w1) (by simp) ?_
     intro vz Wz hRz
     simp only [List.nil_append] at hRz
     rw [hTL] at hRz
     obtain ⟨pz, dz, rfl⟩ := hRz.own.form
     rw [hkx] at hRz ⊢
     have HE := h_ hRz
     clear hRz))
 clear hTL hkx
 rotate_left
 obtain ⟨B, hB⟩ := exq (64 * c + 32)
 obtain ⟨B0, hB0⟩ := exq (64 * c)
 have eB0 : (64 : Int) * (c : Int) = (B0 : Int) := by omega
 have eB : (B0 : Int) + 32 = (B : Int) := by omega
 have hBb : B ≤ 224 := by omega
 obtain ⟨z1, hz1⟩ := exq (B + t)
 have bz1 : z1 < 256 := by omega
 have wz1 : IntKind.u8.wrap (z1 : Int) = (z1 : Int) := wrap_of bz1
 have ez1 : (B : Int) + (t : Int) = (z1 : Int) := by omega
 have HT : Hid (tagB c t true = [UInt8.ofNat z1]) := by show _ = _; unfold tagB; rw [if_pos ht]; simp only [if_true]; rw [show 64 * c + 32 + t = z1 by omega]
 obtain ⟨t31, t31n⟩ := ltVL t 31 31
 have tb : (t : Int) ≤ 2097152 := by omega
 have Bb : (B : Int) ≤ 300 := by omega
 have B0b : (B0 : Int) ≤ 300 := by omega
 obtain ⟨w1, hw1⟩ := exq (w.alloc (.cells #[.int .i64 (c : Int), .int .i64 (t : Int), .bool true, .slice s1 n1 c1, .slice s2 n2 c2] 33))
 have hb1 := allocB hw1
 have Hb1 := h_ hb1
 obtain ⟨A, hA⟩ := exq w.heap.size
 have hc1 : CellsAt w1 A 0 (dcells c t true (.slice s1 n1 c1) (.slice s2 n2 c2)) := by rw [← hw1, ← hA]; exact cells_new w _ 33
 have HC : Hid (∀ w', Below w1.heap.size w1 w' → w'.cell? ⟨A, 0, none⟩ = some (.int .i64 (c : Int)) ∧ w'.cell? ⟨A, 1, none⟩ = some (.int .i64 (t : Int)) ∧ w'.cell? ⟨A, 2, none⟩ = some (.bool true)) := fun w' hb => ⟨(hc1.below hb) 0 _ rfl, (hc1.below hb) 1 _ rfl, (hc1.below hb) 2 _ rfl⟩
 obtain ⟨a0, a1, a2⟩ := u_ HC w1 (Below.refl _ _)
 have HR0 : Hid (Row w1 w1 (.slice none 0 0) []) := ⟨ownb_nil _ _, Below.refl _ _⟩
 have HY0 : Hid (∀ W : World, BytesAt (W.alloc (.cells #[.int .u8 (z1 : Int)] 5)) (.slice (some ⟨W.heap.size, 0, none⟩) 1 1) [UInt8.ofNat z1]) := fun W => one_new W _ (byte_of bz1)
 have HL0 := h_ (HR0.lit (.cells #[.int .u8 (z1 : Int)] 5))
 clear hb1 hc1 HR0 hc ht hz1 hB hB0
 clear hBb
 obtain ⟨TL, hTL⟩ := exq ([UInt8.ofNat z1] : Bs)
 rw [hTL] at HT
 obtain ⟨kx, hkx⟩ := exq TL.length
 have HTl := h_ hkx
 have hkx4 : kx ≤ 4 := by rw [← hkx, ← hTL]; simp
 go_enter Tryz.func133, Tryz.ntmps133
 go_upto_region 13 with (first
  | (at_builtin; refine wpList_append_row rfl _ _ rfl (.slice none 0 0) (.slice (some ⟨w1.heap.size, 0, none⟩) 1 1) [] [UInt8.ofNat z1] rfl (u_ HL0) rfl (u_ HY0 w1) (by simp) ?_
     intro vz Wz hRz
     simp only [List.nil_append] at hRz
     rw [hTL] at hRz
     obtain ⟨pz, dz, rfl⟩ := hRz.own.form
     rw [hkx] at hRz ⊢
     have HE := h_ hRz
     clear hRz))
 clear hTL hkx
 rotate_left
 obtain ⟨B, hB⟩ := exq (64 * c + 0)
 obtain ⟨B0, hB0⟩ := exq (64 * c)
 have eB0 : (64 : Int) * (c : Int) = (B0 : Int) := by omega
 obtain rfl : B0 = B := by omega
 have hBb : B0 ≤ 224 := by omega
 have er7 : (t : Int) % 128 = (t : Int) := by omega
 obtain ⟨z1, hz1⟩ := exq (B0 + 31)
 have bz1 : z1 < 256 := by omega
 have wz1 : IntKind.u8.wrap (z1 : Int) = (z1 : Int) := wrap_of bz1
 have ez1 : (B0 : Int) + (31 : Int) = (z1 : Int) := by omega
 have bt : t < 256 := by omega
 have wt : IntKind.u8.wrap (t : Int) = (t : Int) := wrap_of bt
 have HT : Hid (tagB c t false = [UInt8.ofNat z1, UInt8.ofNat t]) := by show _ = _; unfold tagB; rw [if_neg (by omega : ¬ t < 31), if_neg (by omega : ¬ 16384 ≤ t), if_neg (by omega : ¬ 128 ≤ t)]; simp only [Bool.false_eq_true, if_false, List.nil_append]; rw [show 64 * c + 0 + 31 = z1 by omega, show t % 128 = t by omega]
 obtain ⟨t31, t31n⟩ := ltVLf t 31 31
 obtain ⟨t14, t14n⟩ := leLVf 16384 16384 t
 obtain ⟨t7, t7n⟩ := leLVf 128 128 t
 have tb : (t : Int) ≤ 2097152 := by omega
 have Bb : (B0 : Int) ≤ 300 := by omega
 have B0b : (B0 : Int) ≤ 256 := by omega
 obtain ⟨w1, hw1⟩ := exq (w.alloc (.cells #[.int .i64 (c : Int), .int .i64 (t : Int), .bool false, .slice s1 n1 c1, .slice s2 n2 c2] 33))
 have hb1 := allocB hw1
 have Hb1 := h_ hb1
 obtain ⟨A, hA⟩ := exq w.heap.size
 have hc1 : CellsAt w1 A 0 (dcells c t false (.slice s1 n1 c1) (.slice s2 n2 c2)) := by rw [← hw1, ← hA]; exact cells_new w _ 33
 have HC : Hid (∀ w', Below w1.heap.size w1 w' → w'.cell? ⟨A, 0, none⟩ = some (.int .i64 (c : Int)) ∧ w'.cell? ⟨A, 1, none⟩ = some (.int .i64 (t : Int)) ∧ w'.cell? ⟨A, 2, none⟩ = some (.bool false)) := fun w' hb => ⟨(hc1.below hb) 0 _ rfl, (hc1.below hb) 1 _ rfl, (hc1.below hb) 2 _ rfl⟩
 obtain ⟨a0, a1, a2⟩ := u_ HC w1 (Below.refl _ _)
 have HR0 : Hid (Row w1 w1 (.slice none 0 0) []) := ⟨ownb_nil _ _, Below.refl _ _⟩
 have HY0 : Hid (∀ W : World, BytesAt (W.alloc (.cells #[.int .u8 (z1 : Int)] 5)) (.slice (some ⟨W.heap.size, 0, none⟩) 1 1) [UInt8.ofNat z1]) := fun W => one_new W _ (byte_of bz1)
 have HY1 : Hid (∀ W : World, BytesAt (W.alloc (.cells #[.int .u8 (t : Int)] 5)) (.slice (some ⟨W.heap.size, 0, none⟩) 1 1) [UInt8.ofNat t]) := fun W => one_new W _ (byte_of bt)
 have HL0 := h_ (HR0.lit (.cells #[.int .u8 (z1 : Int)] 5))
 clear hb1 hc1 HR0 hc ht hz1 hB0
 clear hBb
 obtain ⟨TL, hTL⟩ := exq ([UInt8.ofNat z1, UInt8.ofNat t] : Bs)
 rw [hTL] at HT
 obtain ⟨kx, hkx⟩ := exq TL.length
 have HTl := h_ hkx
 have hkx4 : kx ≤ 4 := by rw [← hkx, ← hTL]; simp
 go_enter Tryz.func133, Tryz.ntmps133
 go_upto_region 13 with (first
  | (at_builtin; refine wpList_append_row rfl _ _ rfl (.slice none 0 0) (.slice (some ⟨w1.heap.size, 0, none⟩) 1 1) [] [UInt8.ofNat z1] rfl (u_ HL0) rfl (u_ HY0 w1) (by simp) ?_
     intro v1 W1 hR1
     obtain ⟨p1, d1, rfl⟩ := hR1.own.form
     simp only [List.nil_append, List.length_cons, List.length_nil, Nat.zero_add] at hR1 ⊢
     have HL1 := h_ (hR1.lit (.cells #[.int .u8 (t : Int)] 5))
     obtain ⟨a0, a1, a2⟩ := u_ HC W1 hR1.b
     clear hR1)
  | (at_builtin; refine wpList_append_row rfl _ _ rfl (.slice p1 1 d1) (.slice (some ⟨W1.heap.size, 0, none⟩) 1 1) [UInt8.ofNat z1] [UInt8.ofNat t] rfl (u_ HL1) rfl (u_ HY1 W1) (by simp) ?_
     intro vz Wz hRz
     simp only [List.cons_append, List.nil_append] at hRz
     rw [hTL] at hRz
     obtain ⟨pz, dz, rfl⟩ := hRz.own.form
     rw [hkx] at hRz ⊢
     have HE := h_ hRz
     clear hRz))
 clear hTL hkx
 rotate_left
 obtain ⟨B, hB⟩ := exq (64 * c + 32)
 obtain ⟨B0, hB0⟩ := exq (64 * c)
 have eB0 : (64 : Int) * (c : Int) = (B0 : Int) := by omega
 have eB : (B0 : Int) + 32 = (B : Int) := by omega
 have hBb : B ≤ 224 := by omega
 have er7 : (t : Int) % 128 = (t : Int) := by omega
 obtain ⟨z1, hz1⟩ := exq (B + 31)
 have bz1 : z1 < 256 := by omega
 have wz1 : IntKind.u8.wrap (z1 : Int) = (z1 : Int) := wrap_of bz1
 have ez1 : (B : Int) + (31 : Int) = (z1 : Int) := by omega
 have bt : t < 256 := by omega
 have wt : IntKind.u8.wrap (t : Int) = (t : Int) := wrap_of bt
 have HT : Hid (tagB c t true = [UInt8.ofNat z1, UInt8.ofNat t]) := by show _ = _; unfold tagB; rw [if_neg (by omega : ¬ t < 31), if_neg (by omega : ¬ 16384 ≤ t), if_neg (by omega : ¬ 128 ≤ t)]; simp only [if_true, List.nil_append]; rw [show 64 * c + 32 + 31 = z1 by omega, show t % 128 = t by omega]
 obtain ⟨t31, t31n⟩ := ltVLf t 31 31
 obtain ⟨t14, t14n⟩ := leLVf 16384 16384 t
 obtain ⟨t7, t7n⟩ := leLVf 128 128 t
 have tb : (t : Int) ≤ 2097152 := by omega
 have Bb : (B : Int) ≤ 300 := by omega
 have B0b : (B0 : Int) ≤ 300 := by omega
 obtain ⟨w1, hw1⟩ := exq (w.alloc (.cells #[.int .i64 (c : Int), .int .i64 (t : Int), .bool true, .slice s1 n1 c1, .slice s2 n2 c2] 33))
 have hb1 := allocB hw1
 have Hb1 := h_ hb1
 obtain ⟨A, hA⟩ := exq w.heap.size
 have hc1 : CellsAt w1 A 0 (dcells c t true (.slice s1 n1 c1) (.slice s2 n2 c2)) := by rw [← hw1, ← hA]; exact cells_new w _ 33
 have HC : Hid (∀ w', Below w1.heap.size w1 w' → w'.cell? ⟨A, 0, none⟩ = some (.int .i64 (c : Int)) ∧ w'.cell? ⟨A, 1, none⟩ = some (.int .i64 (t : Int)) ∧ w'.cell? ⟨A, 2, none⟩ = some (.bool true)) := fun w' hb => ⟨(hc1.below hb) 0 _ rfl, (hc1.below hb) 1 _ rfl, (hc1.below hb) 2 _ rfl⟩
 obtain ⟨a0, a1, a2⟩ := u_ HC w1 (Below.refl _ _)
 have HR0 : Hid (Row w1 w1 (.slice none 0 0) []) := ⟨ownb_nil _ _, Below.refl _ _⟩
 have HY0 : Hid (∀ W : World, BytesAt (W.alloc (.cells #[.int .u8 (z1 : Int)] 5)) (.slice (some ⟨W.heap.size, 0, none⟩) 1 1) [UInt8.ofNat z1]) := fun W => one_new W _ (byte_of bz1)
 have HY1 : Hid (∀ W : World, BytesAt (W.alloc (.cells #[.int .u8 (t : Int)] 5)) (.slice (some ⟨W.heap.size, 0, none⟩) 1 1) [UInt8.ofNat t]) := fun W => one_new W _ (byte_of bt)
 have HL0 := h_ (HR0.lit (.cells #[.int .u8 (z1 : Int)] 5))
 clear hb1 hc1 HR0 hc ht hz1 hB hB0
 clear hBb
 obtain ⟨TL, hTL⟩ := exq ([UInt8.ofNat z1, UInt8.ofNat t] : Bs)
 rw [hTL] at HT
 obtain ⟨kx, hkx⟩ := exq TL.length
 have HTl := h_ hkx
 have hkx4 : kx ≤ 4 := by rw [← hkx, ← hTL]; simp
 go_enter Tryz.func133, Tryz.ntmps133
 go_upto_region 13 with (first
  | (at_builtin; refine wpList_append_row rfl _ _ rfl (.slice none 0 0) (.slice (some ⟨w1.heap.size, 0, none⟩) 1 1) [] [UInt8.ofNat z1] rfl (u_ HL0) rfl (u_ HY0 w1) (by simp) ?_
     intro v1 W1 hR1
     obtain ⟨p1, d1, rfl⟩ := hR1.own.form
     simp only [List.nil_append, List.length_cons, List.length_nil, Nat.zero_add] at hR1 ⊢
     have HL1 := h_ (hR1.lit (.cells #[.int .u8 (t : Int)] 5))
     obtain ⟨a0, a1, a2⟩ := u_ HC W1 hR1.b
     clear hR1)
  | (at_builtin; refine wpList_append_row rfl _ _ rfl (.slice p1 1 d1) (.slice (some ⟨W1.heap.size, 0, none⟩) 1 1) [UInt8.ofNat z1] [UInt8.ofNat t] rfl (u_ HL1) rfl (u_ HY1 W1) (by simp) ?_
     intro vz Wz hRz
     simp only [List.cons_append, List.nil_append] at hRz
     rw [hTL] at hRz
     obtain ⟨pz, dz, rfl⟩ := hRz.own.form
     rw [hkx] at hRz ⊢
     have HE := h_ hRz
     clear hRz))
 clear hTL hkx
 rotate_left
 obtain ⟨B, hB⟩ := exq (64 * c + 0)
 obtain ⟨B0, hB0⟩ := exq (64 * c)
 have eB0 : (64 : Int) * (c : Int) = (B0 : Int) := by omega
 obtain rfl : B0 = B := by omega
 have hBb : B0 ≤ 224 := by omega
 obtain ⟨q7, hq7⟩ := exq (t / 128)
 have eq7 : (t : Int) / 128 = (q7 : Int) := by omega
 have eq7m : (q7 : Int) % 128 = (q7 : Int) := by omega
 obtain ⟨r7, hr7⟩ := exq (t % 128)
 have er7 : (t : Int) % 128 = (r7 : Int) := by omega
 obtain ⟨z1, hz1⟩ := exq (B0 + 31)
 have bz1 : z1 < 256 := by omega
 have wz1 : IntKind.u8.wrap (z1 : Int) = (z1 : Int) := wrap_of bz1
 have ez1 : (B0 : Int) + (31 : Int) = (z1 : Int) := by omega
 obtain ⟨z2, hz2⟩ := exq (128 + q7)
 have bz2 : z2 < 256 := by omega
 have wz2 : IntKind.u8.wrap (z2 : Int) = (z2 : Int) := wrap_of bz2
 have ez2 : (128 : Int) + (q7 : Int) = (z2 : Int) := by omega
 have br7 : r7 < 256 := by omega
 have wr7 : IntKind.u8.wrap (r7 : Int) = (r7 : Int) := wrap_of br7
 have HT : Hid (tagB c t false = [UInt8.ofNat z1, UInt8.ofNat z2, UInt8.ofNat r7]) := by show _ = _; unfold tagB; rw [if_neg (by omega : ¬ t < 31), if_neg (by omega : ¬ 16384 ≤ t), if_pos (by omega : 128 ≤ t)]; simp only [Bool.false_eq_true, if_false, List.nil_append, List.cons_append]; rw [show 64 * c + 0 + 31 = z1 by omega, show 128 + t / 128 % 128 = z2 by omega, show t % 128 = r7 by omega]
 obtain ⟨t31, t31n⟩ := ltVLf t 31 31
 obtain ⟨t14, t14n⟩ := leLVf 16384 16384 t
 obtain ⟨t7, t7n⟩ := leLV 128 128 t
 have tb : (t : Int) ≤ 2097152 := by omega
 have Bb : (B0 : Int) ≤ 300 := by omega
 have B0b : (B0 : Int) ≤ 256 := by omega
 obtain ⟨w1, hw1⟩ := exq (w.alloc (.cells #[.int .i64 (c : Int), .int .i64 (t : Int), .bool false, .slice s1 n1 c1, .slice s2 n2 c2] 33))
 have hb1 := allocB hw1
 have Hb1 := h_ hb1
 obtain ⟨A, hA⟩ := exq w.heap.size
 have hc1 : CellsAt w1 A 0 (dcells c t false (.slice s1 n1 c1) (.slice s2 n2 c2)) := by rw [← hw1, ← hA]; exact cells_new w _ 33
 have HC : Hid (∀ w', Below w1.heap.size w1 w' → w'.cell? ⟨A, 0, none⟩ = some (.int .i64 (c : Int)) ∧ w'.cell? ⟨A, 1, none⟩ = some (.int .i64 (t : Int)) ∧ w'.cell? ⟨A, 2, none⟩ = some (.bool false)) := fun w' hb => ⟨(hc1.below hb) 0 _ rfl, (hc1.below hb) 1 _ rfl, (hc1.below hb) 2 _ rfl⟩
 obtain ⟨a0, a1, a2⟩ := u_ HC w1 (Below.refl _ _)
 have HR0 : Hid (Row w1 w1 (.slice none 0 0) []) := ⟨ownb_nil _ _, Below.refl _ _⟩
 have HY0 : Hid (∀ W : World, BytesAt (W.alloc (.cells #[.int .u8 (z1 : Int)] 5)) (.slice (some ⟨W.heap.size, 0, none⟩) 1 1) [UInt8.ofNat z1]) := fun W => one_new W _ (byte_of bz1)
 have HY1 : Hid (∀ W : World, BytesAt (W.alloc (.cells #[.int .u8 (z2 : Int)] 5)) (.slice (some ⟨W.heap.size, 0, none⟩) 1 1) [UInt8.ofNat z2]) := fun W => one_new W _ (byte_of bz2)
 have HY2 : Hid (∀ W : World, BytesAt (W.alloc (.cells #[.int .u8 (r7 : Int)] 5)) (.slice (some ⟨W.heap.size, 0, none⟩) 1 1) [UInt8.ofNat r7]) := fun W => one_new W _ (byte_of br7)
 have HL0 := h_ (HR0.lit (.cells #[.int .u8 (z1 : Int)] 5))
 clear hb1 hc1 HR0 hc ht hz1 hz2 hB0
 clear hBb
 clear hq7 hr7
 obtain ⟨TL, hTL⟩ := exq ([UInt8.ofNat z1, UInt8.ofNat z2, UInt8.ofNat r7] : Bs)
 rw [hTL] at HT
 obtain ⟨kx, hkx⟩ := exq TL.length
 have HTl := h_ hkx
 have hkx4 : kx ≤ 4 := by rw [← hkx, ← hTL]; simp
 go_enter Tryz.func133, Tryz.ntmps133
 go_upto_region 13 with (first
  | (at_builtin; refine wpList_append_row rfl _ _ rfl (.slice none 0 0) (.slice (some ⟨w1.heap.size, 0, none⟩) 1 1) [] [UInt8.ofNat z1] rfl (u_ HL0) rfl (u_ HY0 w1) (by simp) ?_
     intro v1 W1 hR1
     obtain ⟨p1, d1, rfl⟩ := hR1.own.form
     simp only [List.nil_append, List.length_cons, List.length_nil, Nat.zero_add] at hR1 ⊢
     have HL1 := h_ (hR1.lit (.cells #[.int .u8 (z2 : Int)] 5))
     obtain ⟨a0, a1, a2⟩ := u_ HC W1 hR1.b
     clear hR1)
  | (at_builtin; refine wpList_append_row rfl _ _ rfl (.slice p1 1 d1) (.slice (some ⟨W1.heap.size, 0, none⟩) 1 1) [UInt8.ofNat z1] [UInt8.ofNat z2] rfl (u_ HL1) rfl (u_ HY1 W1) (by simp) ?_
     intro v2 W2 hR2
     obtain ⟨p2, d2, rfl⟩ := hR2.own.form
     simp only [List.cons_append, List.nil_append, List.length_cons, List.length_nil, Nat.zero_add, Nat.reduceAdd] at hR2 ⊢
     have HL2 := h_ (hR2.lit (.cells #[.int .u8 (r7 : Int)] 5))
     obtain ⟨a0, a1, a2⟩ := u_ HC W2 hR2.b
     clear hR2)
  | (at_builtin; refine wpList_append_row rfl _ _ rfl (.slice p2 2 d2) (.slice (some ⟨W2.heap.size, 0, none⟩) 1 1) [UInt8.ofNat z1, UInt8.ofNat z2] [UInt8.ofNat r7] rfl (u_ HL2) rfl (u_ HY2 W2) (by simp) ?_
     intro vz Wz hRz
     simp only [List.cons_append, List.nil_append] at hRz
     rw [hTL] at hRz
     obtain ⟨pz, dz, rfl⟩ := hRz.own.form
     rw [hkx] at hRz ⊢
     have HE := h_ hRz
     clear hRz))
 clear hTL hkx
 rotate_left
 obtain ⟨B, hB⟩ := exq (64 * c + 32)
 obtain ⟨B0, hB0⟩ := exq (64 * c)
 have eB0 : (64 : Int) * (c : Int) = (B0 : Int) := by omega
 have eB : (B0 : Int) + 32 = (B : Int) := by omega
 have hBb : B ≤ 224 := by omega
 obtain ⟨q7, hq7⟩ := exq (t / 128)
 have eq7 : (t : Int) / 128 = (q7 : Int) := by omega
 have eq7m : (q7 : Int) % 128 = (q7 : Int) := by omega
 obtain ⟨r7, hr7⟩ := exq (t % 128)
 have er7 : (t : Int) % 128 = (r7 : Int) := by omega
 obtain ⟨z1, hz1⟩ := exq (B + 31)
 have bz1 : z1 < 256 := by omega
 have wz1 : IntKind.u8.wrap (z1 : Int) = (z1 : Int) := wrap_of bz1
 have ez1 : (B : Int) + (31 : Int) = (z1 : Int) := by omega
 obtain ⟨z2, hz2⟩ := exq (128 + q7)
 have bz2 : z2 < 256 := by omega
 have wz2 : IntKind.u8.wrap (z2 : Int) = (z2 : Int) := wrap_of bz2
 have ez2 : (128 : Int) + (q7 : Int) = (z2 : Int) := by omega
 have br7 : r7 < 256 := by omega
 have wr7 : IntKind.u8.wrap (r7 : Int) = (r7 : Int) := wrap_of br7
 have HT : Hid (tagB c t true = [UInt8.ofNat z1, UInt8.ofNat z2, UInt8.ofNat r7]) := by show _ = _; unfold tagB; rw [if_neg (by omega : ¬ t < 31), if_neg (by omega : ¬ 16384 ≤ t), if_pos (by omega : 128 ≤ t)]; simp only [if_true, List.nil_append, List.cons_append]; rw [show 64 * c + 32 + 31 = z1 by omega, show 128 + t / 128 % 128 = z2 by omega, show t % 128 = r7 by omega]
 obtain ⟨t31, t31n⟩ := ltVLf t 31 31
 obtain ⟨t14, t14n⟩ := leLVf 16384 16384 t
 obtain ⟨t7, t7n⟩ := leLV 128 128 t
 have tb : (t : Int) ≤ 2097152 := by omega
 have Bb : (B : Int) ≤ 300 := by omega
 have B0b : (B0 : Int) ≤ 300 := by omega
 obtain ⟨w1, hw1⟩ := exq (w.alloc (.cells #[.int .i64 (c : Int), .int .i64 (t : Int), .bool true, .slice s1 n1 c1, .slice s2 n2 c2] 33))
 have hb1 := allocB hw1
 have Hb1 := h_ hb1
 obtain ⟨A, hA⟩ := exq w.heap.size
 have hc1 : CellsAt w1 A 0 (dcells c t true (.slice s1 n1 c1) (.slice s2 n2 c2)) := by rw [← hw1, ← hA]; exact cells_new w _ 33
 have HC : Hid (∀ w', Below w1.heap.size w1 w' → w'.cell? ⟨A, 0, none⟩ = some (.int .i64 (c : Int)) ∧ w'.cell? ⟨A, 1, none⟩ = some (.int .i64 (t : Int)) ∧ w'.cell? ⟨A, 2, none⟩ = some (.bool true)) := fun w' hb => ⟨(hc1.below hb) 0 _ rfl, (hc1.below hb) 1 _ rfl, (hc1.below hb) 2 _ rfl⟩
 obtain ⟨a0, a1, a2⟩ := u_ HC w1 (Below.refl _ _)
 have HR0 : Hid (Row w1 w1 (.slice none 0 0) []) := ⟨ownb_nil _ _, Below.refl _ _⟩
 have HY0 : Hid (∀ W : World, BytesAt (W.alloc (.cells #[.int .u8 (z1 : Int)] 5)) (.slice (some ⟨W.heap.size, 0, none⟩) 1 1) [UInt8.ofNat z1]) := fun W => one_new W _ (byte_of bz1)
 have HY1 : Hid (∀ W : World, BytesAt (W.alloc (.cells #[.int .u8 (z2 : Int)] 5)) (.slice (some ⟨W.heap.size, 0, none⟩) 1 1) [UInt8.ofNat z2]) := fun W => one_new W _ (byte_of bz2)
 have HY2 : Hid (∀ W : World, BytesAt (W.alloc (.cells #[.int .u8 (r7 : Int)] 5)) (.slice (some ⟨W.heap.size, 0, none⟩) 1 1) [UInt8.ofNat r7]) := fun W => one_new W _ (byte_of br7)
 have HL0 := h_ (HR0.lit (.cells #[.int .u8 (z1 : Int)] 5))
 clear hb1 hc1 HR0 hc ht hz1 hz2 hB hB0
 clear hBb
 clear hq7 hr7
 obtain ⟨TL, hTL⟩ := exq ([UInt8.ofNat z1, UInt8.ofNat z2, UInt8.ofNat r7] : Bs)
 rw [hTL] at HT
 obtain ⟨kx, hkx⟩ := exq TL.length
 have HTl := h_ hkx
 have hkx4 : kx ≤ 4 := by rw [← hkx, ← hTL]; simp
 go_enter Tryz.func133, Tryz.ntmps133
 go_upto_region 13 with (first
  | (at_builtin; refine wpList_append_row rfl _ _ rfl (.slice none 0 0) (.slice (some ⟨w1.heap.size, 0, none⟩) 1 1) [] [UInt8.ofNat z1] rfl (u_ HL0) rfl (u_ HY0 w1) (by simp) ?_
     intro v1 W1 hR1
     obtain ⟨p1, d1, rfl⟩ := hR1.own.form
     simp only [List.nil_append, List.length_cons, List.length_nil, Nat.zero_add] at hR1 ⊢
     have HL1 := h_ (hR1.lit (.cells #[.int .u8 (z2 : Int)] 5))
     obtain ⟨a0, a1, a2⟩ := u_ HC W1 hR1.b
     clear hR1)
  | (at_builtin; refine wpList_append_row rfl _ _ rfl (.slice p1 1 d1) (.slice (some ⟨W1.heap.size, 0, none⟩) 1 1) [UInt8.ofNat z1] [UInt8.ofNat z2] rfl (u_ HL1) rfl (u_ HY1 W1) (by simp) ?_
     intro v2 W2 hR2
     obtain ⟨p2, d2, rfl⟩ := hR2.own.form
     simp only [List.cons_append, List.nil_append, List.length_cons, List.length_nil, Nat.zero_add, Nat.reduceAdd] at hR2 ⊢
     have HL2 := h_ (hR2.lit (.cells #[.int .u8 (r7 : Int)] 5))
     obtain ⟨a0, a1, a2⟩ := u_ HC W2 hR2.b
     clear hR2)
  | (at_builtin; refine wpList_append_row rfl _ _ rfl (.slice p2 2 d2) (.slice (some ⟨W2.heap.size, 0, none⟩) 1 1) [UInt8.ofNat z1, UInt8.ofNat z2] [UInt8.ofNat r7] rfl (u_ HL2) rfl (u_ HY2 W2) (by simp) ?_
     intro vz Wz hRz
     simp only [List.cons_append, List.nil_append] at hRz
     rw [hTL] at hRz
     obtain ⟨pz, dz, rfl⟩ := hRz.own.form
     rw [hkx] at hRz ⊢
     have HE := h_ hRz
     clear hRz))
 clear hTL hkx
 rotate_left
 obtain ⟨B, hB⟩ := exq (64 * c + 0)
 obtain ⟨B0, hB0⟩ := exq (64 * c)
 have eB0 : (64 : Int) * (c : Int) = (B0 : Int) := by omega
 obtain rfl : B0 = B := by omega
 have hBb : B0 ≤ 224 := by omega
 obtain ⟨u7, hu7⟩ := exq (t / 128)
 have eu7 : (t : Int) / 128 = (u7 : Int) := by omega
 obtain ⟨p7, hp7⟩ := exq (u7 % 128)
 have ep7 : (u7 : Int) % 128 = (p7 : Int) := by omega
 obtain ⟨q14, hq14⟩ := exq (t / 16384)
 have eq14 : (t : Int) / 16384 = (q14 : Int) := by omega
 obtain ⟨r7, hr7⟩ := exq (t % 128)
 have er7 : (t : Int) % 128 = (r7 : Int) := by omega
 obtain ⟨z1, hz1⟩ := exq (B0 + 31)
 have bz1 : z1 < 256 := by omega
 have wz1 : IntKind.u8.wrap (z1 : Int) = (z1 : Int) := wrap_of bz1
 have ez1 : (B0 : Int) + (31 : Int) = (z1 : Int) := by omega
 obtain ⟨z2, hz2⟩ := exq (128 + q14)
 have bz2 : z2 < 256 := by omega
 have wz2 : IntKind.u8.wrap (z2 : Int) = (z2 : Int) := wrap_of bz2
 have ez2 : (128 : Int) + (q14 : Int) = (z2 : Int) := by omega
 obtain ⟨z3, hz3⟩ := exq (128 + p7)
 have bz3 : z3 < 256 := by omega
 have wz3 : IntKind.u8.wrap (z3 : Int) = (z3 : Int) := wrap_of bz3
 have ez3 : (128 : Int) + (p7 : Int) = (z3 : Int) := by omega
 have br7 : r7 < 256 := by omega
 have wr7 : IntKind.u8.wrap (r7 : Int) = (r7 : Int) := wrap_of br7
 have HT : Hid (tagB c t false = [UInt8.ofNat z1, UInt8.ofNat z2, UInt8.ofNat z3, UInt8.ofNat r7]) := by show _ = _; unfold tagB; rw [if_neg (by omega : ¬ t < 31), if_pos (by omega : 16384 ≤ t), if_pos (by omega : 128 ≤ t)]; simp only [Bool.false_eq_true, if_false, List.nil_append, List.cons_append]; rw [show 64 * c + 0 + 31 = z1 by omega, show 128 + t / 16384 = z2 by omega, show 128 + t / 128 % 128 = z3 by omega, show t % 128 = r7 by omega]
 obtain ⟨t31, t31n⟩ := ltVLf t 31 31
 obtain ⟨t14, t14n⟩ := leLV 16384 16384 t
 obtain ⟨t7, t7n⟩ := leLV 128 128 t
 have tb : (t : Int) ≤ 2097152 := by omega
 have Bb : (B0 : Int) ≤ 300 := by omega
 have B0b : (B0 : Int) ≤ 256 := by omega
 obtain ⟨w1, hw1⟩ := exq (w.alloc (.cells #[.int .i64 (c : Int), .int .i64 (t : Int), .bool false, .slice s1 n1 c1, .slice s2 n2 c2] 33))
 have hb1 := allocB hw1
 have Hb1 := h_ hb1
 obtain ⟨A, hA⟩ := exq w.heap.size
 have hc1 : CellsAt w1 A 0 (dcells c t false (.slice s1 n1 c1) (.slice s2 n2 c2)) := by rw [← hw1, ← hA]; exact cells_new w _ 33
 have HC : Hid (∀ w', Below w1.heap.size w1 w' → w'.cell? ⟨A, 0, none⟩ = some (.int .i64 (c : Int)) ∧ w'.cell? ⟨A, 1, none⟩ = some (.int .i64 (t : Int)) ∧ w'.cell? ⟨A, 2, none⟩ = some (.bool false)) := fun w' hb => ⟨(hc1.below hb) 0 _ rfl, (hc1.below hb) 1 _ rfl, (hc1.below hb) 2 _ rfl⟩
 obtain ⟨a0, a1, a2⟩ := u_ HC w1 (Below.refl _ _)
 have HR0 : Hid (Row w1 w1 (.slice none 0 0) []) := ⟨ownb_nil _ _, Below.refl _ _⟩
 have HY0 : Hid (∀ W : World, BytesAt (W.alloc (.cells #[.int .u8 (z1 : Int)] 5)) (.slice (some ⟨W.heap.size, 0, none⟩) 1 1) [UInt8.ofNat z1]) := fun W => one_new W _ (byte_of bz1)
 have HY1 : Hid (∀ W : World, BytesAt (W.alloc (.cells #[.int .u8 (z2 : Int)] 5)) (.slice (some ⟨W.heap.size, 0, none⟩) 1 1) [UInt8.ofNat z2]) := fun W => one_new W _ (byte_of bz2)
 have HY2 : Hid (∀ W : World, BytesAt (W.alloc (.cells #[.int .u8 (z3 : Int)] 5)) (.slice (some ⟨W.heap.size, 0, none⟩) 1 1) [UInt8.ofNat z3]) := fun W => one_new W _ (byte_of bz3)
 have HY3 : Hid (∀ W : World, BytesAt (W.alloc (.cells #[.int .u8 (r7 : Int)] 5)) (.slice (some ⟨W.heap.size, 0, none⟩) 1 1) [UInt8.ofNat r7]) := fun W => one_new W _ (byte_of br7)
 have HL0 := h_ (HR0.lit (.cells #[.int .u8 (z1 : Int)] 5))
 clear hb1 hc1 HR0 hc ht hz1 hz2 hz3 hB0
 clear hBb
 clear hu7 hp7 hq14 hr7
 obtain ⟨TL, hTL⟩ := exq ([UInt8.ofNat z1, UInt8.ofNat z2, UInt8.ofNat z3, UInt8.ofNat r7] : Bs)
 rw [hTL] at HT
 obtain ⟨kx, hkx⟩ := exq TL.length
 have HTl := h_ hkx
 have hkx4 : kx ≤ 4 := by rw [← hkx, ← hTL]; simp
 go_enter Tryz.func133, Tryz.ntmps133
 go_upto_region 13 with (first
  | (at_builtin; refine wpList_append_row rfl _ _ rfl (.slice none 0 0) (.slice (some ⟨w1.heap.size, 0, none⟩) 1 1) [] [UInt8.ofNat z1] rfl (u_ HL0) rfl (u_ HY0 w1) (by simp) ?_
     intro v1 W1 hR1
     obtain ⟨p1, d1, rfl⟩ := hR1.own.form
     simp only [List.nil_append, List.length_cons, List.length_nil, Nat.zero_add] at hR1 ⊢
     have HL1 := h_ (hR1.lit (.cells #[.int .u8 (z2 : Int)] 5))
     obtain ⟨a0, a1, a2⟩ := u_ HC W1 hR1.b
     clear hR1)
  | (at_builtin; refine wpList_append_row rfl _ _ rfl (.slice p1 1 d1) (.slice (some ⟨W1.heap.size, 0, none⟩) 1 1) [UInt8.ofNat z1] [UInt8.ofNat z2] rfl (u_ HL1) rfl (u_ HY1 W1) (by simp) ?_
     intro v2 W2 hR2
     obtain ⟨p2, d2, rfl⟩ := hR2.own.form
     simp only [List.cons_append, List.nil_append, List.length_cons, List.length_nil, Nat.zero_add, Nat.reduceAdd] at hR2 ⊢
     have HL2 := h_ (hR2.lit (.cells #[.int .u8 (z3 : Int)] 5))
     obtain ⟨a0, a1, a2⟩ := u_ HC W2 hR2.b
     clear hR2)
  | (at_builtin; refine wpList_append_row rfl _ _ rfl (.slice p2 2 d2) (.slice (some ⟨W2.heap.size, 0, none⟩) 1 1) [UInt8.ofNat z1, UInt8.ofNat z2] [UInt8.ofNat z3] rfl (u_ HL2) rfl (u_ HY2 W2) (by simp) ?_
     intro v3 W3 hR3
     obtain ⟨p3, d3, rfl⟩ := hR3.own.form
     simp only [List.cons_append, List.nil_append, List.length_cons, List.length_nil, Nat.zero_add, Nat.reduceAdd] at hR3 ⊢
     have HL3 := h_ (hR3.lit (.cells #[.int .u8 (r7 : Int)] 5))
     obtain ⟨a0, a1, a2⟩ := u_ HC W3 hR3.b
     clear hR3)
  | (at_builtin; refine wpList_append_row rfl _ _ rfl (.slice p3 3 d3) (.slice (some ⟨W3.heap.size, 0, none⟩) 1 1) [UInt8.ofNat z1, UInt8.ofNat z2, UInt8.ofNat z3] [UInt8.ofNat r7] rfl (u_ HL3) rfl (u_ HY3 W3) (by simp) ?_
     intro vz Wz hRz
     simp only [List.cons_append, List.nil_append] at hRz
     rw [hTL] at hRz
     obtain ⟨pz, dz, rfl⟩ := hRz.own.form
     rw [hkx] at hRz ⊢
     have HE := h_ hRz
     clear hRz))
 clear hTL hkx
 rotate_left
 obtain ⟨B, hB⟩ := exq (64 * c + 32)
 obtain ⟨B0, hB0⟩ := exq (64 * c)
 have eB0 : (64 : Int) * (c : Int) = (B0 : Int) := by omega
 have eB : (B0 : Int) + 32 = (B : Int) := by omega
 have hBb : B ≤ 224 := by omega
 obtain ⟨u7, hu7⟩ := exq (t / 128)
 have eu7 : (t : Int) / 128 = (u7 : Int) := by omega
 obtain ⟨p7, hp7⟩ := exq (u7 % 128)
 have ep7 : (u7 : Int) % 128 = (p7 : Int) := by omega
 obtain ⟨q14, hq14⟩ := exq (t / 16384)
 have eq14 : (t : Int) / 16384 = (q14 : Int) := by omega
 obtain ⟨r7, hr7⟩ := exq (t % 128)
 have er7 : (t : Int) % 128 = (r7 : Int) := by omega
 obtain ⟨z1, hz1⟩ := exq (B + 31)
 have bz1 : z1 < 256 := by omega
 have wz1 : IntKind.u8.wrap (z1 : Int) = (z1 : Int) := wrap_of bz1
 have ez1 : (B : Int) + (31 : Int) = (z1 : Int) := by omega
 obtain ⟨z2, hz2⟩ := exq (128 + q14)
 have bz2 : z2 < 256 := by omega
 have wz2 : IntKind.u8.wrap (z2 : Int) = (z2 : Int) := wrap_of bz2
 have ez2 : (128 : Int) + (q14 : Int) = (z2 : Int) := by omega
 obtain ⟨z3, hz3⟩ := exq (128 + p7)
 have bz3 : z3 < 256 := by omega
 have wz3 : IntKind.u8.wrap (z3 : Int) = (z3 : Int) := wrap_of bz3
 have ez3 : (128 : Int) + (p7 : Int) = (z3 : Int) := by omega
 have br7 : r7 < 256 := by omega
 have wr7 : IntKind.u8.wrap (r7 : Int) = (r7 : Int) := wrap_of br7
 have HT : Hid (tagB c t true = [UInt8.ofNat z1, UInt8.ofNat z2, UInt8.ofNat z3, UInt8.ofNat r7]) := by show _ = _; unfold tagB; rw [if_neg (by omega : ¬ t < 31), if_pos (by omega : 16384 ≤ t), if_pos (by omega : 128 ≤ t)]; simp only [if_true, List.nil_append, List.cons_append]; rw [show 64 * c + 32 + 31 = z1 by omega, show 128 + t / 16384 = z2 by omega, show 128 + t / 128 % 128 = z3 by omega, show t % 128 = r7 by omega]
 obtain ⟨t31, t31n⟩ := ltVLf t 31 31
 obtain ⟨t14, t14n⟩ := leLV 16384 16384 t
 obtain ⟨t7, t7n⟩ := leLV 128 128 t
 have tb : (t : Int) ≤ 2097152 := by omega
 have Bb : (B : Int) ≤ 300 := by omega
 have B0b : (B0 : Int) ≤ 300 := by omega
 obtain ⟨w1, hw1⟩ := exq (w.alloc (.cells #[.int .i64 (c : Int), .int .i64 (t : Int), .bool true, .slice s1 n1 c1, .slice s2 n2 c2] 33))
 have hb1 := allocB hw1
 have Hb1 := h_ hb1
 obtain ⟨A, hA⟩ := exq w.heap.size
 have hc1 : CellsAt w1 A 0 (dcells c t true (.slice s1 n1 c1) (.slice s2 n2 c2)) := by rw [← hw1, ← hA]; exact cells_new w _ 33
 have HC : Hid (∀ w', Below w1.heap.size w1 w' → w'.cell? ⟨A, 0, none⟩ = some (.int .i64 (c : Int)) ∧ w'.cell? ⟨A, 1, none⟩ = some (.int .i64 (t : Int)) ∧ w'.cell? ⟨A, 2, none⟩ = some (.bool true)) := fun w' hb => ⟨(hc1.below hb) 0 _ rfl, (hc1.below hb) 1 _ rfl, (hc1.below hb) 2 _ rfl⟩
 obtain ⟨a0, a1, a2⟩ := u_ HC w1 (Below.refl _ _)
 have HR0 : Hid (Row w1 w1 (.slice none 0 0) []) := ⟨ownb_nil _ _, Below.refl _ _⟩
 have HY0 : Hid (∀ W : World, BytesAt (W.alloc (.cells #[.int .u8 (z1 : Int)] 5)) (.slice (some ⟨W.heap.size, 0, none⟩) 1 1) [UInt8.ofNat z1]) := fun W => one_new W _ (byte_of bz1)
 have HY1 : Hid (∀ W : World, BytesAt (W.alloc (.cells #[.int .u8 (z2 : Int)] 5)) (.slice (some ⟨W.heap.size, 0, none⟩) 1 1) [UInt8.ofNat z2]) := fun W => one_new W _ (byte_of bz2)
 have HY2 : Hid (∀ W : World, BytesAt (W.alloc (.cells #[.int .u8 (z3 : Int)] 5)) (.slice (some ⟨W.heap.size, 0, none⟩) 1 1) [UInt8.ofNat z3]) := fun W => one_new W _ (byte_of bz3)
 have HY3 : Hid (∀ W : World, BytesAt (W.alloc (.cells #[.int .u8 (r7 : Int)] 5)) (.slice (some ⟨W.heap.size, 0, none⟩) 1 1) [UInt8.ofNat r7]) := fun W => one_new W _ (byte_of br7)
 have HL0 := h_ (HR0.lit (.cells #[.int .u8 (z1 : Int)] 5))
 clear hb1 hc1 HR0 hc ht hz1 hz2 hz3 hB hB0
 clear hBb
 clear hu7 hp7 hq14 hr7
 obtain ⟨TL, hTL⟩ := exq ([UInt8.ofNat z1, UInt8.ofNat z2, UInt8.ofNat z3, UInt8.ofNat r7] : Bs)
 rw [hTL] at HT
 obtain ⟨kx, hkx⟩ := exq TL.length
 have HTl := h_ hkx
 have hkx4 : kx ≤ 4 := by rw [← hkx, ← hTL]; simp
 go_enter Tryz.func133, Tryz.ntmps133
 go_upto_region 13 with (first
  | (at_builtin; refine wpList_append_row rfl _ _ rfl (.slice none 0 0) (.slice (some ⟨w1.heap.size, 0, none⟩) 1 1) [] [UInt8.ofNat z1] rfl (u_ HL0) rfl (u_ HY0 w1) (by simp) ?_
     intro v1 W1 hR1
     obtain ⟨p1, d1, rfl⟩ := hR1.own.form
     simp only [List.nil_append, List.length_cons, List.length_nil, Nat.zero_add] at hR1 ⊢
     have HL1 := h_ (hR1.lit (.cells #[.int .u8 (z2 : Int)] 5))
     obtain ⟨a0, a1, a2⟩ := u_ HC W1 hR1.b
     clear hR1)
  | (at_builtin; refine wpList_append_row rfl _ _ rfl (.slice p1 1 d1) (.slice (some ⟨W1.heap.size, 0, none⟩) 1 1) [UInt8.ofNat z1] [UInt8.ofNat z2] rfl (u_ HL1) rfl (u_ HY1 W1) (by simp) ?_
     intro v2 W2 hR2
     obtain ⟨p2, d2, rfl⟩ := hR2.own.form
     simp only [List.cons_append, List.nil_append, List.length_cons, List.length_nil, Nat.zero_add, Nat.reduceAdd] at hR2 ⊢
     have HL2 := h_ (hR2.lit (.cells #[.int .u8 (z3 : Int)] 5))
     obtain ⟨a0, a1, a2⟩ := u_ HC W2 hR2.b
     clear hR2)
  | (at_builtin; refine wpList_append_row rfl _ _ rfl (.slice p2 2 d2) (.slice (some ⟨W2.heap.size, 0, none⟩) 1 1) [UInt8.ofNat z1, UInt8.ofNat z2] [UInt8.ofNat z3] rfl (u_ HL2) rfl (u_ HY2 W2) (by simp) ?_
     intro v3 W3 hR3
     obtain ⟨p3, d3, rfl⟩ := hR3.own.form
     simp only [List.cons_append, List.nil_append, List.length_cons, List.length_nil, Nat.zero_add, Nat.reduceAdd] at hR3 ⊢
     have HL3 := h_ (hR3.lit (.cells #[.int .u8 (r7 : Int)] 5))
     obtain ⟨a0, a1, a2⟩ := u_ HC W3 hR3.b
     clear hR3)
  | (at_builtin; refine wpList_append_row rfl _ _ rfl (.slice p3 3 d3) (.slice (some ⟨W3.heap.size, 0, none⟩) 1 1) [UInt8.ofNat z1, UInt8.ofNat z2, UInt8.ofNat z3] [UInt8.ofNat r7] rfl (u_ HL3) rfl (u_ HY3 W3) (by simp) ?_
     intro vz Wz hRz
     simp only [List.cons_append, List.nil_append] at hRz
     rw [hTL] at hRz
     obtain ⟨pz, dz, rfl⟩ := hRz.own.form
     rw [hkx] at hRz ⊢
     have HE := h_ hRz
     clear hRz))
 clear hTL hkx
 rotate_left
 all_goals
  by_cases hn128 : n < 128
  ·obtain ⟨x1, x1n⟩ := ltVL n 128 128
   have wn : IntKind.u8.wrap (n : Int) = (n : Int) := wrap_of (by omega)
   have HYn := h_ (one_new Wz (UInt8.ofNat n) (z := n) (byte_of (by omega)))
   have HLn : Hid (lenB n = [UInt8.ofNat n]) := by show _ = _; unfold lenB; rw [if_pos hn128]
   have HLe := h_ (HE.lit (.cells #[.int .u8 (n : Int)] 5))
   have Hle : Hid (TL.length + [UInt8.ofNat n].length ≤ 1073741824) := by show _ ≤ _; rw [u_ HTl]; simp only [List.length_cons, List.length_nil]; omega
   go_wp2_with (at_builtin; refine wpList_append_row rfl _ _ rfl (.slice pz kx dz) (.slice (some ⟨Wz.heap.size, 0, none⟩) 1 1) TL [UInt8.ofNat n] rfl (u_ HLe) rfl (u_ HYn) (u_ Hle) ?_
                intro vn Wn hRn
                obtain ⟨pn, dn, rfl⟩ := hRn.own.form
                have en : (TL ++ [UInt8.ofNat n]).length = kx + 1 := by { rw [List.length_append, u_ HTl]; rfl }
                rw [en] at hRn ⊢
                have HRn := h_ hRn
                clear hRn en)
   go_ret
   exact ⟨_, rfl, by rw [u_ HT, u_ HLn]; exact HRn.up (u_ Hb1)⟩
  obtain ⟨x1, x1n⟩ := ltVLf n 128 128
  have HLn : Hid (lenB n = UInt8.ofNat (128 + (lowB n n).length) :: (lowB n n).reverse) := by show _ = _; unfold lenB; rw [if_neg hn128]
  have Hn4 : Hid ((lowB n n).length ≤ 4) := (lowB_len4 (by omega) (by omega)).2
  go_wp2
  go_loopw [1, 7] (fun nn vv wr => ∃ (nc fu Lc : Nat) (sl : Option Addr) (cl : Nat) (pre : Bs), nn = .int .i64 (nc : Int) ∧ vv = .slice sl Lc cl ∧ nc ≤ fu ∧ nc ≤ 10000000 ∧ Lc ≤ 4 ∧ Hid (pre.length = Lc) ∧ Hid (lowB n n = pre ++ lowB fu nc) ∧ Hid (Row Wz wr (.slice sl Lc cl) pre)) (fun nn _ _ => (intOf nn).toNat)
  case atStart => exact ⟨n, n, 0, none, 0, [], rfl, rfl, Nat.le_refl _, hn, by omega, rfl, rfl, ⟨ownb_nil _ _, Below.refl _ _⟩⟩
  case round =>
   obtain ⟨nc, fu, Lc, sl, cl, pre, rfl, rfl, hnf, hnb, hL4, Hpl, Hlow, HRl⟩ := hrel
   by_cases h0 : nc = 0
   case neg =>
    obtain ⟨y1, y1n⟩ := ltLV 0 0 nc
    obtain ⟨fu', rfl⟩ : ∃ fu', fu = fu' + 1 := ⟨fu - 1, by omega⟩
    obtain ⟨q, hq⟩ := exq (nc / 256)
    have eq : (nc : Int) / 256 = (q : Int) := by omega
    obtain ⟨z, hz⟩ := exq (nc % 256)
    have wz : IntKind.u8.wrap (nc : Int) = (z : Int) := by rw [IntKind.wrap_u8']; omega
    have HYz := h_ (one_new wr (UInt8.ofNat nc) (z := z) (by rw [UInt8.toNat_ofNat']; omega))
    have HLz := h_ (HRl.lit (.cells #[.int .u8 (z : Int)] 5))
    have Hlow2 : Hid (lowB n n = (pre ++ [UInt8.ofNat nc]) ++ lowB fu' q) := by show _ = _; rw [u_ Hlow, lowB_step fu' nc h0, hq, List.append_assoc]; rfl
    have hL5 : Lc + 1 ≤ 4 := by have h4 := u_ Hn4; rw [u_ Hlow2, List.length_append, List.length_append, u_ Hpl] at h4; simp only [List.length_cons, List.length_nil] at h4; omega
    have Hlen : Hid (pre.length + [UInt8.ofNat nc].length ≤ 1073741824) := by show _ ≤ _; rw [u_ Hpl]; simp only [List.length_cons, List.length_nil]; omega
    have hqf : q ≤ fu' := by omega
    have hqb : q ≤ 10000000 := by omega
    have hqn : q < nc := by omega
    clear hq hz Hlow HRl
    go_wp2_with (first
     | (at_builtin; refine wpList_append_row rfl _ _ rfl (.slice sl Lc cl) (.slice (some ⟨wr.heap.size, 0, none⟩) 1 1) pre [UInt8.ofNat nc] rfl (u_ HLz) rfl (u_ HYz) (u_ Hlen) ?_
        intro v5 w5 hR5
        obtain ⟨s5, c5, rfl⟩ := hR5.own.form
        have e5 : (pre ++ [UInt8.ofNat nc]).length = Lc + 1 := by { rw [List.length_append, u_ Hpl]; rfl }
        rw [e5] at hR5
        rw [e5]
        have HR5 := h_ hR5
        have He5 := h_ e5
        clear hR5 e5))
    go_roundw
    case rel =>
     first
      | exact ⟨q, fu', Lc + 1, s5, c5, _, rfl, rfl, hqf, hqb, hL5, He5, Hlow2, HR5⟩
      | ((repeat apply Exists.intro); exact ⟨⟨q, fu', Lc + 1, s5, c5, _, rfl, rfl, hqf, hqb, hL5, He5, Hlow2, HR5⟩, rfl⟩)
    case measure => simp [intOf]; omega
   subst h0
   have Hpre : Hid (lowB n n = pre) := by show _ = _; rw [u_ Hlow, lowB_nought, List.append_nil]
   have hL1 : 1 ≤ Lc := by have h1 := (lowB_len4 (n := n) (by omega) (by omega)).1; rw [u_ Hpre, u_ Hpl] at h1; exact h1
   have HEo := h_ (HE.call HRl.b)
   have Hap : Hid (Apart (.slice pz kx dz) (.slice sl Lc cl)) := fun k hk hl => by
    have h1 := (World.ownsRow.lt HE.own k hk).2
    have h2 := OwnV.fresh HRl.own k hl
    omega
   obtain ⟨z, hz⟩ := exq (128 + Lc)
   have ez : (128 : Int) + (Lc : Int) = (z : Int) := by omega
   have wz : IntKind.u8.wrap (z : Int) = (z : Int) := wrap_of (by omega)
   have HYz := h_ (one_new wr (UInt8.ofNat z) (z := z) (byte_of (by omega)))
   have HLz := h_ (HEo.lit (.cells #[.int .u8 (z : Int)] 5))
   have Hll := h_ (HRl.own.below ((Below.refl wr.heap.size wr).alloc (Nat.le_refl _) (.cells #[.int .u8 (z : Int)] 5)))
   have Hlen : Hid (TL.length + [UInt8.ofNat z].length ≤ 1073741824) := by show _ ≤ _; rw [u_ HTl]; simp only [List.length_cons, List.length_nil]; omega
   obtain ⟨i0, hi0⟩ := exq (Lc - 1)
   have ei0 : (Lc : Int) - 1 = (i0 : Int) := by omega
   have Hi0 : Hid ((i0 : Int) + ((0 : Nat) : Int) + 1 = (Lc : Int)) := by show _ = _; omega
   have Lb : (Lc : Int) ≤ 4 := by omega
   have Hz := h_ hz
   clear hz hi0 Hlow HRl HEo
   go_wp2_with (first
    | (at_builtin; refine wpList_append_grew rfl _ _ rfl (.slice pz kx dz) (.slice (some ⟨wr.heap.size, 0, none⟩) 1 1) TL [UInt8.ofNat z] rfl (u_ HLz) rfl (u_ HYz) (u_ Hlen) ?_
       intro v6 w6 hR6 hG6
       obtain ⟨hol, hap⟩ := hG6.kept (u_ Hap) (u_ Hll)
       obtain ⟨s6, c6, rfl⟩ := hR6.own.form
       have e6 : (TL ++ [UInt8.ofNat z]).length = kx + 1 := by { rw [List.length_append, u_ HTl]; rfl }
       rw [e6] at hR6 hap
       rw [e6]
       have HR6 := h_ hR6
       have Hol := h_ hol
       have Hap6 := h_ hap
       clear hR6 hG6 hol hap e6))
   go_loopw [6, 8] (fun oo ii wr2 => ∃ (kk M : Nat) (iv : Int) (so : Option Addr) (co : Nat), oo = .slice so M co ∧ ii = .int .i64 iv ∧ Hid (iv + (kk : Int) + 1 = (Lc : Int)) ∧ kk ≤ Lc ∧ M ≤ 20 ∧ Hid (M = kx + 1 + kk) ∧ Hid (Row w1 wr2 (.slice so M co) (TL ++ [UInt8.ofNat z] ++ pre.reverse.take kk)) ∧ Hid (OwnB wr2 Wz.heap.size (.slice sl Lc cl) pre) ∧ Hid (Apart (.slice so M co) (.slice sl Lc cl))) (fun _ ii _ => (intOf ii + 1).toNat)
   case atStart => exact ⟨0, kx + 1, _, s6, c6, rfl, rfl, Hi0, by omega, by omega, rfl, by rw [List.take_zero, List.append_nil]; exact HR6, Hol, Hap6⟩
   case round =>
    rename World => wo
    obtain ⟨kk, M, iv, so, co, rfl, rfl, Hiv, hkk, hM, HM, HRo, Hol2, Hap2⟩ := hrel
    by_cases hlt : kk < Lc
    ·obtain ⟨j, hj⟩ : ∃ j : Nat, iv = (j : Int) := ⟨iv.toNat, by have := u_ Hiv; omega⟩
     subst hj
     have hjk : j + kk + 1 = Lc := by have := u_ Hiv; omega
     obtain ⟨ba, oa, p, rfl, hp, hpb, hcp⟩ := byte_at (OwnB.bytes (u_ Hol2)) (u_ Hpl) j (by omega)
     have y1 : decide ((0 : Int) ≤ (j : Int)) = true := by simp
     have j0 : (0 : Int) ≤ (j : Int) := by omega
     have j1 : (j : Int) < (Lc : Int) := by omega
     obtain ⟨iv2, hiv2⟩ := exq ((j : Int) - 1 : Int)
     have wiv2 : IntKind.i64.wrap iv2 = iv2 := IntWalk.i64_in _ (by omega)
     have Hiv2 : Hid (iv2 + ((kk + 1 : Nat) : Int) + 1 = (Lc : Int)) := by show _ = _; omega
     have hivm : (iv2 + 1).toNat < ((j : Int) + 1).toNat := by omega
     have HYp := h_ (one_new wo (pre.getD j 0) hp)
     have HLp := h_ (HRo.lit (.cells #[.int .u8 (p : Int)] 5))
     have Hll2 := h_ (Hol2.below ((Below.refl wo.heap.size wo).alloc (Nat.le_refl _) (.cells #[.int .u8 (p : Int)] 5)))
     have Hrt := h_ (rev_take (l := pre) (k := kk) (j := j) (by rw [u_ Hpl]; exact hjk))
     have Hln : Hid ((TL ++ [UInt8.ofNat z] ++ pre.reverse.take kk).length = M) := by show _ = _; rw [List.length_append, List.length_append, u_ HTl, List.length_take, List.length_reverse, u_ Hpl, u_ HM]; simp only [List.length_cons, List.length_nil]; omega
     have Hln2 : Hid ((TL ++ [UInt8.ofNat z] ++ pre.reverse.take kk).length + [pre.getD j 0].length ≤ 1073741824) := by show _ ≤ _; rw [u_ Hln]; simp only [List.length_cons, List.length_nil]; omega
     have hM2 : M + 1 ≤ 20 := by have := u_ HM; omega
     have HM2 : Hid (M + 1 = kx + 1 + (kk + 1)) := by show _ = _; have := u_ HM; omega
     clear hp HRo Hol2 HM hjk Hiv
     go_wp2_with (first
      | (at_builtin; refine wpList_append_grew rfl _ _ rfl (.slice so M co) (.slice (some ⟨wo.heap.size, 0, none⟩) 1 1) (TL ++ [UInt8.ofNat z] ++ pre.reverse.take kk) [pre.getD j 0] rfl (u_ HLp) rfl (u_ HYp) (u_ Hln2) ?_
         intro v7 w7 hR7 hG7
         obtain ⟨hol, hap⟩ := hG7.kept (u_ Hap2) (u_ Hll2)
         rw [List.append_assoc, ← u_ Hrt] at hR7
         obtain ⟨s7, c7, rfl⟩ := hR7.own.form
         have e7 : (TL ++ [UInt8.ofNat z] ++ pre.reverse.take (kk + 1)).length = M + 1 := by { rw [u_ Hrt, ← List.append_assoc, List.length_append, u_ Hln]; rfl }
         rw [e7] at hR7 hap
         rw [e7]
         have HR7 := h_ hR7
         have Hol7 := h_ hol
         have Hap7 := h_ hap
         clear hR7 hG7 hol hap e7))
     go_roundw
     case rel =>
      first
       | exact ⟨kk + 1, M + 1, iv2, s7, c7, rfl, rfl, Hiv2, by omega, hM2, HM2, HR7, Hol7, Hap7⟩
       | ((repeat apply Exists.intro); exact ⟨⟨kk + 1, M + 1, iv2, s7, c7, rfl, rfl, Hiv2, by omega, hM2, HM2, HR7, Hol7, Hap7⟩, rfl⟩)
     case measure => simpa [intOf] using hivm
    ·obtain rfl : kk = Lc := by omega
     obtain rfl : iv = -1 := by have := u_ Hiv; omega
     have Hfin : Hid (TL ++ [UInt8.ofNat z] ++ pre.reverse.take kk = TL ++ lenB n) := by
      show _ = _
      rw [u_ HLn, u_ Hpre, u_ Hpl, u_ Hz, List.take_of_length_le (by rw [List.length_reverse, u_ Hpl]; omega), List.append_assoc]
      rfl
     have HRz := h_ (HRo.up (u_ Hb1))
     rw [u_ Hfin] at HRz
     go_wp2
     go_ret
     exact ⟨_, rfl, by rw [u_ HT]; exact u_ HRz⟩
end Go.Proofs.YtcofnockikninaaGreatDoor
