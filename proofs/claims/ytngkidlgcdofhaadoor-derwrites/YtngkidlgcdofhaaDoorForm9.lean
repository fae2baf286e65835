/-
  The walk of the reference's form, out of what right promises.
-/
import Derived.Test.YtngkidlgcdofhaaDoorTold9
namespace Go.Proofs.YtngkidlgcdofhaaDoor
open Go.RowKit
/-- The reference's right tells what the plain words say. -/
def Rights : Prop := ∀ (w : World) (t : Nat) (x : Value) (b : Bs), plainT t = true → BytesAt w x b → b.length ≤ 100000 → Calls Tryd.prog 37 #[.int .i64 (t : Int), x] w fun e w' => e = .returned (.bool (rightP t b)) ∧ Below w.heap.size w w'
set_option maxRecDepth 100000 in
set_option maxHeartbeats 8000000 in
theorem form_any (C : Rights) (w : World) (c t : Nat) (m : Bool) (s1 : Option Addr) (c1 : Nat) (s2 : Option Addr) (kk c2 : Nat) (b : Bs) (hx : BytesAt w (.slice s1 b.length c1) b) (hl : b.length ≤ 100000) :
    Calls Tryd.prog 30 #[.agg #[.int .i64 (c : Int), .int .i64 (t : Int), .bool m, .slice s1 b.length c1, .slice s2 kk c2]] w fun e w' => e = .returned (.int .i64 (formD c t m b : Int)) ∧ Below w.heap.size w w' := by
  obtain ⟨w1, hw1⟩ : ∃ w1, w.alloc (.cells #[.int .i64 (c : Int), .int .i64 (t : Int), .bool m, .slice s1 b.length c1, .slice s2 kk c2] 32) = w1 := ⟨_, rfl⟩
  have hb1 : Below w.heap.size w w1 := by rw [← hw1]; exact (Below.refl _ _).alloc (Nat.le_refl _) _
  have hc1 : CellsAt w1 w.heap.size 0 (dcells c t m (.slice s1 b.length c1) (.slice s2 kk c2)) := by rw [← hw1]; exact cells_new w _ 32
  obtain ⟨a0, a1, a2, a3, a4⟩ := hc1.five0
  have Hb := hide hb1
  have HR : Hid (plainT t = true → Calls Tryd.prog 37 #[.int .i64 (t : Int), .slice s1 b.length c1] w1 fun e w' => e = .returned (.bool (rightP t b)) ∧ Below w1.heap.size w1 w') := fun h => C w1 t _ b h (hx.below hb1) hl
  obtain ⟨A, hA⟩ : ∃ A, w.heap.size = A := ⟨_, rfl⟩
  simp only [hA] at a0 a1 a2 a3 a4
  obtain ⟨ci, hci⟩ : ∃ ci : Int, (c : Int) = ci := ⟨_, rfl⟩
  obtain ⟨ti, hti⟩ : ∃ ti : Int, (t : Int) = ti := ⟨_, rfl⟩
  simp only [hci, hti] at hw1 a0 a1 HR ⊢
  by_cases hc : c = 0
  case neg =>
    have HF : Hid (formD c t m b = 0) := by show _ = _; unfold formD; rw [if_pos hc]
    have e1 : (ci == 0) = false := by simp; omega
    clear C hb1 hc1 HR hx hl hc hci hti
    go_enter Tryd.func30, Tryd.ntmps30
    go_wp2
    go_ret
    exact ⟨by rw [unhide HF]; rfl, unhide Hb⟩
  subst hc
  obtain rfl : ci = 0 := by omega
  have HF : Hid (formD 0 t m b = if (madeT t = false ∧ plainT t = false) ∨ ¬ madeT t = m then 21 else if plainT t = true ∧ rightP t b = false then 24 else 0) := by show _ = _; unfold formD; rw [if_neg (by omega)]
  obtain ⟨L, hL⟩ : ∃ L, b.length = L := ⟨_, rfl⟩
  simp only [hL] at hw1 a3 HR ⊢
  clear C hb1 hc1 hx hl hL hci
  rcases (by omega : t = 1 ∨ t = 2 ∨ t = 3 ∨ t = 4 ∨ t = 5 ∨ t = 6 ∨ t = 10 ∨ t = 12 ∨ t = 19 ∨ t = 22 ∨ t = 23 ∨ t = 24 ∨ t = 16 ∨ t = 17 ∨ (t ≠ 16 ∧ t ≠ 17 ∧ ¬ (1 ≤ t ∧ t ≤ 6) ∧ t ≠ 10 ∧ t ≠ 12 ∧ t ≠ 19 ∧ ¬ (22 ≤ t ∧ t ≤ 24))) with ht | ht | ht | ht | ht | ht | ht | ht | ht | ht | ht | ht | ht | ht | ht
  · subst ht
    obtain rfl : ti = 1 := by omega
    clear hti
    cases m with
    | true =>
      have HF2 : Hid (formD 0 1 true b = 21) := by show _ = _; rw [unhide HF, if_pos (Or.inr (by decide))]
      clear HF HR
      go_enter Tryd.func30, Tryd.ntmps30
      go_wp2
      go_ret
      exact ⟨by rw [unhide HF2]; rfl, unhide Hb⟩
    | false =>
      have Hc := hide (unhide HR (by decide))
      have HF2 : Hid (formD 0 1 false b = if rightP 1 b = false then 24 else 0) := by show _ = _; rw [unhide HF, if_neg (by decide)]; cases rightP 1 b <;> rfl
      obtain ⟨r, hr⟩ : ∃ r, rightP 1 b = r := ⟨_, rfl⟩
      rw [hr] at Hc HF2
      clear HF HR hr
      go_enter Tryd.func30, Tryd.ntmps30
      go_wp2_with fail
      refine (unhide Hc).mono ?_
      rintro e w2 ⟨rfl, hb2⟩
      have Hb2 := hide ((unhide Hb).trans (hb2.mono (unhide Hb).size))
      clear hb2 Hc
      cases r with
      | true =>
        go_wp2
        go_ret
        exact ⟨by rw [unhide HF2]; rfl, unhide Hb2⟩
      | false =>
        go_wp2
        go_ret
        exact ⟨by rw [unhide HF2]; rfl, unhide Hb2⟩
  · subst ht
    obtain rfl : ti = 2 := by omega
    clear hti
    cases m with
    | true =>
      have HF2 : Hid (formD 0 2 true b = 21) := by show _ = _; rw [unhide HF, if_pos (Or.inr (by decide))]
      clear HF HR
      go_enter Tryd.func30, Tryd.ntmps30
      go_wp2
      go_ret
      exact ⟨by rw [unhide HF2]; rfl, unhide Hb⟩
    | false =>
      have Hc := hide (unhide HR (by decide))
      have HF2 : Hid (formD 0 2 false b = if rightP 2 b = false then 24 else 0) := by show _ = _; rw [unhide HF, if_neg (by decide)]; cases rightP 2 b <;> rfl
      obtain ⟨r, hr⟩ : ∃ r, rightP 2 b = r := ⟨_, rfl⟩
      rw [hr] at Hc HF2
      clear HF HR hr
      go_enter Tryd.func30, Tryd.ntmps30
      go_wp2_with fail
      refine (unhide Hc).mono ?_
      rintro e w2 ⟨rfl, hb2⟩
      have Hb2 := hide ((unhide Hb).trans (hb2.mono (unhide Hb).size))
      clear hb2 Hc
      cases r with
      | true =>
        go_wp2
        go_ret
        exact ⟨by rw [unhide HF2]; rfl, unhide Hb2⟩
      | false =>
        go_wp2
        go_ret
        exact ⟨by rw [unhide HF2]; rfl, unhide Hb2⟩
  · subst ht
    obtain rfl : ti = 3 := by omega
    clear hti
    cases m with
    | true =>
      have HF2 : Hid (formD 0 3 true b = 21) := by show _ = _; rw [unhide HF, if_pos (Or.inr (by decide))]
      clear HF HR
      go_enter Tryd.func30, Tryd.ntmps30
      go_wp2
      go_ret
      exact ⟨by rw [unhide HF2]; rfl, unhide Hb⟩
    | false =>
      have Hc := hide (unhide HR (by decide))
      have HF2 : Hid (formD 0 3 false b = if rightP 3 b = false then 24 else 0) := by show _ = _; rw [unhide HF, if_neg (by decide)]; cases rightP 3 b <;> rfl
      obtain ⟨r, hr⟩ : ∃ r, rightP 3 b = r := ⟨_, rfl⟩
      rw [hr] at Hc HF2
      clear HF HR hr
      go_enter Tryd.func30, Tryd.ntmps30
      go_wp2_with fail
      refine (unhide Hc).mono ?_
      rintro e w2 ⟨rfl, hb2⟩
      have Hb2 := hide ((unhide Hb).trans (hb2.mono (unhide Hb).size))
      clear hb2 Hc
      cases r with
      | true =>
        go_wp2
        go_ret
        exact ⟨by rw [unhide HF2]; rfl, unhide Hb2⟩
      | false =>
        go_wp2
        go_ret
        exact ⟨by rw [unhide HF2]; rfl, unhide Hb2⟩
  · subst ht
    obtain rfl : ti = 4 := by omega
    clear hti
    cases m with
    | true =>
      have HF2 : Hid (formD 0 4 true b = 21) := by show _ = _; rw [unhide HF, if_pos (Or.inr (by decide))]
      clear HF HR
      go_enter Tryd.func30, Tryd.ntmps30
      go_wp2
      go_ret
      exact ⟨by rw [unhide HF2]; rfl, unhide Hb⟩
    | false =>
      have Hc := hide (unhide HR (by decide))
      have HF2 : Hid (formD 0 4 false b = if rightP 4 b = false then 24 else 0) := by show _ = _; rw [unhide HF, if_neg (by decide)]; cases rightP 4 b <;> rfl
      obtain ⟨r, hr⟩ : ∃ r, rightP 4 b = r := ⟨_, rfl⟩
      rw [hr] at Hc HF2
      clear HF HR hr
      go_enter Tryd.func30, Tryd.ntmps30
      go_wp2_with fail
      refine (unhide Hc).mono ?_
      rintro e w2 ⟨rfl, hb2⟩
      have Hb2 := hide ((unhide Hb).trans (hb2.mono (unhide Hb).size))
      clear hb2 Hc
      cases r with
      | true =>
        go_wp2
        go_ret
        exact ⟨by rw [unhide HF2]; rfl, unhide Hb2⟩
      | false =>
        go_wp2
        go_ret
        exact ⟨by rw [unhide HF2]; rfl, unhide Hb2⟩
  · subst ht
    obtain rfl : ti = 5 := by omega
    clear hti
    cases m with
    | true =>
      have HF2 : Hid (formD 0 5 true b = 21) := by show _ = _; rw [unhide HF, if_pos (Or.inr (by decide))]
      clear HF HR
      go_enter Tryd.func30, Tryd.ntmps30
      go_wp2
      go_ret
      exact ⟨by rw [unhide HF2]; rfl, unhide Hb⟩
    | false =>
      have Hc := hide (unhide HR (by decide))
      have HF2 : Hid (formD 0 5 false b = if rightP 5 b = false then 24 else 0) := by show _ = _; rw [unhide HF, if_neg (by decide)]; cases rightP 5 b <;> rfl
      obtain ⟨r, hr⟩ : ∃ r, rightP 5 b = r := ⟨_, rfl⟩
      rw [hr] at Hc HF2
      clear HF HR hr
      go_enter Tryd.func30, Tryd.ntmps30
      go_wp2_with fail
      refine (unhide Hc).mono ?_
      rintro e w2 ⟨rfl, hb2⟩
      have Hb2 := hide ((unhide Hb).trans (hb2.mono (unhide Hb).size))
      clear hb2 Hc
      cases r with
      | true =>
        go_wp2
        go_ret
        exact ⟨by rw [unhide HF2]; rfl, unhide Hb2⟩
      | false =>
        go_wp2
        go_ret
        exact ⟨by rw [unhide HF2]; rfl, unhide Hb2⟩
  · subst ht
    obtain rfl : ti = 6 := by omega
    clear hti
    cases m with
    | true =>
      have HF2 : Hid (formD 0 6 true b = 21) := by show _ = _; rw [unhide HF, if_pos (Or.inr (by decide))]
      clear HF HR
      go_enter Tryd.func30, Tryd.ntmps30
      go_wp2
      go_ret
      exact ⟨by rw [unhide HF2]; rfl, unhide Hb⟩
    | false =>
      have Hc := hide (unhide HR (by decide))
      have HF2 : Hid (formD 0 6 false b = if rightP 6 b = false then 24 else 0) := by show _ = _; rw [unhide HF, if_neg (by decide)]; cases rightP 6 b <;> rfl
      obtain ⟨r, hr⟩ : ∃ r, rightP 6 b = r := ⟨_, rfl⟩
      rw [hr] at Hc HF2
      clear HF HR hr
      go_enter Tryd.func30, Tryd.ntmps30
      go_wp2_with fail
      refine (unhide Hc).mono ?_
      rintro e w2 ⟨rfl, hb2⟩
      have Hb2 := hide ((unhide Hb).trans (hb2.mono (unhide Hb).size))
      clear hb2 Hc
      cases r with
      | true =>
        go_wp2
        go_ret
        exact ⟨by rw [unhide HF2]; rfl, unhide Hb2⟩
      | false =>
        go_wp2
        go_ret
        exact ⟨by rw [unhide HF2]; rfl, unhide Hb2⟩
  · subst ht
    obtain rfl : ti = 10 := by omega
    clear hti
    cases m with
    | true =>
      have HF2 : Hid (formD 0 10 true b = 21) := by show _ = _; rw [unhide HF, if_pos (Or.inr (by decide))]
      clear HF HR
      go_enter Tryd.func30, Tryd.ntmps30
      go_wp2
      go_ret
      exact ⟨by rw [unhide HF2]; rfl, unhide Hb⟩
    | false =>
      have Hc := hide (unhide HR (by decide))
      have HF2 : Hid (formD 0 10 false b = if rightP 10 b = false then 24 else 0) := by show _ = _; rw [unhide HF, if_neg (by decide)]; cases rightP 10 b <;> rfl
      obtain ⟨r, hr⟩ : ∃ r, rightP 10 b = r := ⟨_, rfl⟩
      rw [hr] at Hc HF2
      clear HF HR hr
      go_enter Tryd.func30, Tryd.ntmps30
      go_wp2_with fail
      refine (unhide Hc).mono ?_
      rintro e w2 ⟨rfl, hb2⟩
      have Hb2 := hide ((unhide Hb).trans (hb2.mono (unhide Hb).size))
      clear hb2 Hc
      cases r with
      | true =>
        go_wp2
        go_ret
        exact ⟨by rw [unhide HF2]; rfl, unhide Hb2⟩
      | false =>
        go_wp2
        go_ret
        exact ⟨by rw [unhide HF2]; rfl, unhide Hb2⟩
  · subst ht
    obtain rfl : ti = 12 := by omega
    clear hti
    cases m with
    | true =>
      have HF2 : Hid (formD 0 12 true b = 21) := by show _ = _; rw [unhide HF, if_pos (Or.inr (by decide))]
      clear HF HR
      go_enter Tryd.func30, Tryd.ntmps30
      go_wp2
      go_ret
      exact ⟨by rw [unhide HF2]; rfl, unhide Hb⟩
    | false =>
      have Hc := hide (unhide HR (by decide))
      have HF2 : Hid (formD 0 12 false b = if rightP 12 b = false then 24 else 0) := by show _ = _; rw [unhide HF, if_neg (by decide)]; cases rightP 12 b <;> rfl
      obtain ⟨r, hr⟩ : ∃ r, rightP 12 b = r := ⟨_, rfl⟩
      rw [hr] at Hc HF2
      clear HF HR hr
      go_enter Tryd.func30, Tryd.ntmps30
      go_wp2_with fail
      refine (unhide Hc).mono ?_
      rintro e w2 ⟨rfl, hb2⟩
      have Hb2 := hide ((unhide Hb).trans (hb2.mono (unhide Hb).size))
      clear hb2 Hc
      cases r with
      | true =>
        go_wp2
        go_ret
        exact ⟨by rw [unhide HF2]; rfl, unhide Hb2⟩
      | false =>
        go_wp2
        go_ret
        exact ⟨by rw [unhide HF2]; rfl, unhide Hb2⟩
  · subst ht
    obtain rfl : ti = 19 := by omega
    clear hti
    cases m with
    | true =>
      have HF2 : Hid (formD 0 19 true b = 21) := by show _ = _; rw [unhide HF, if_pos (Or.inr (by decide))]
      clear HF HR
      go_enter Tryd.func30, Tryd.ntmps30
      go_wp2
      go_ret
      exact ⟨by rw [unhide HF2]; rfl, unhide Hb⟩
    | false =>
      have Hc := hide (unhide HR (by decide))
      have HF2 : Hid (formD 0 19 false b = if rightP 19 b = false then 24 else 0) := by show _ = _; rw [unhide HF, if_neg (by decide)]; cases rightP 19 b <;> rfl
      obtain ⟨r, hr⟩ : ∃ r, rightP 19 b = r := ⟨_, rfl⟩
      rw [hr] at Hc HF2
      clear HF HR hr
      go_enter Tryd.func30, Tryd.ntmps30
      go_wp2_with fail
      refine (unhide Hc).mono ?_
      rintro e w2 ⟨rfl, hb2⟩
      have Hb2 := hide ((unhide Hb).trans (hb2.mono (unhide Hb).size))
      clear hb2 Hc
      cases r with
      | true =>
        go_wp2
        go_ret
        exact ⟨by rw [unhide HF2]; rfl, unhide Hb2⟩
      | false =>
        go_wp2
        go_ret
        exact ⟨by rw [unhide HF2]; rfl, unhide Hb2⟩
  · subst ht
    obtain rfl : ti = 22 := by omega
    clear hti
    cases m with
    | true =>
      have HF2 : Hid (formD 0 22 true b = 21) := by show _ = _; rw [unhide HF, if_pos (Or.inr (by decide))]
      clear HF HR
      go_enter Tryd.func30, Tryd.ntmps30
      go_wp2
      go_ret
      exact ⟨by rw [unhide HF2]; rfl, unhide Hb⟩
    | false =>
      have Hc := hide (unhide HR (by decide))
      have HF2 : Hid (formD 0 22 false b = if rightP 22 b = false then 24 else 0) := by show _ = _; rw [unhide HF, if_neg (by decide)]; cases rightP 22 b <;> rfl
      obtain ⟨r, hr⟩ : ∃ r, rightP 22 b = r := ⟨_, rfl⟩
      rw [hr] at Hc HF2
      clear HF HR hr
      go_enter Tryd.func30, Tryd.ntmps30
      go_wp2_with fail
      refine (unhide Hc).mono ?_
      rintro e w2 ⟨rfl, hb2⟩
      have Hb2 := hide ((unhide Hb).trans (hb2.mono (unhide Hb).size))
      clear hb2 Hc
      cases r with
      | true =>
        go_wp2
        go_ret
        exact ⟨by rw [unhide HF2]; rfl, unhide Hb2⟩
      | false =>
        go_wp2
        go_ret
        exact ⟨by rw [unhide HF2]; rfl, unhide Hb2⟩
  · subst ht
    obtain rfl : ti = 23 := by omega
    clear hti
    cases m with
    | true =>
      have HF2 : Hid (formD 0 23 true b = 21) := by show _ = _; rw [unhide HF, if_pos (Or.inr (by decide))]
      clear HF HR
      go_enter Tryd.func30, Tryd.ntmps30
      go_wp2
      go_ret
      exact ⟨by rw [unhide HF2]; rfl, unhide Hb⟩
    | false =>
      have Hc := hide (unhide HR (by decide))
      have HF2 : Hid (formD 0 23 false b = if rightP 23 b = false then 24 else 0) := by show _ = _; rw [unhide HF, if_neg (by decide)]; cases rightP 23 b <;> rfl
      obtain ⟨r, hr⟩ : ∃ r, rightP 23 b = r := ⟨_, rfl⟩
      rw [hr] at Hc HF2
      clear HF HR hr
      go_enter Tryd.func30, Tryd.ntmps30
      go_wp2_with fail
      refine (unhide Hc).mono ?_
      rintro e w2 ⟨rfl, hb2⟩
      have Hb2 := hide ((unhide Hb).trans (hb2.mono (unhide Hb).size))
      clear hb2 Hc
      cases r with
      | true =>
        go_wp2
        go_ret
        exact ⟨by rw [unhide HF2]; rfl, unhide Hb2⟩
      | false =>
        go_wp2
        go_ret
        exact ⟨by rw [unhide HF2]; rfl, unhide Hb2⟩
  · subst ht
    obtain rfl : ti = 24 := by omega
    clear hti
    cases m with
    | true =>
      have HF2 : Hid (formD 0 24 true b = 21) := by show _ = _; rw [unhide HF, if_pos (Or.inr (by decide))]
      clear HF HR
      go_enter Tryd.func30, Tryd.ntmps30
      go_wp2
      go_ret
      exact ⟨by rw [unhide HF2]; rfl, unhide Hb⟩
    | false =>
      have Hc := hide (unhide HR (by decide))
      have HF2 : Hid (formD 0 24 false b = if rightP 24 b = false then 24 else 0) := by show _ = _; rw [unhide HF, if_neg (by decide)]; cases rightP 24 b <;> rfl
      obtain ⟨r, hr⟩ : ∃ r, rightP 24 b = r := ⟨_, rfl⟩
      rw [hr] at Hc HF2
      clear HF HR hr
      go_enter Tryd.func30, Tryd.ntmps30
      go_wp2_with fail
      refine (unhide Hc).mono ?_
      rintro e w2 ⟨rfl, hb2⟩
      have Hb2 := hide ((unhide Hb).trans (hb2.mono (unhide Hb).size))
      clear hb2 Hc
      cases r with
      | true =>
        go_wp2
        go_ret
        exact ⟨by rw [unhide HF2]; rfl, unhide Hb2⟩
      | false =>
        go_wp2
        go_ret
        exact ⟨by rw [unhide HF2]; rfl, unhide Hb2⟩
  · subst ht
    obtain rfl : ti = 16 := by omega
    clear hti
    cases m with
    | false =>
      have HF2 : Hid (formD 0 16 false b = 21) := by show _ = _; rw [unhide HF, if_pos (Or.inr (by decide))]
      clear HF HR
      go_enter Tryd.func30, Tryd.ntmps30
      go_wp2
      go_ret
      exact ⟨by rw [unhide HF2]; rfl, unhide Hb⟩
    | true =>
      have HF2 : Hid (formD 0 16 true b = 0) := by show _ = _; rw [unhide HF, if_neg (by decide), if_neg (by rintro ⟨h, _⟩; exact absurd h (by decide))]
      clear HF HR
      go_enter Tryd.func30, Tryd.ntmps30
      go_wp2
      go_ret
      exact ⟨by rw [unhide HF2]; rfl, unhide Hb⟩
  · subst ht
    obtain rfl : ti = 17 := by omega
    clear hti
    cases m with
    | false =>
      have HF2 : Hid (formD 0 17 false b = 21) := by show _ = _; rw [unhide HF, if_pos (Or.inr (by decide))]
      clear HF HR
      go_enter Tryd.func30, Tryd.ntmps30
      go_wp2
      go_ret
      exact ⟨by rw [unhide HF2]; rfl, unhide Hb⟩
    | true =>
      have HF2 : Hid (formD 0 17 true b = 0) := by show _ = _; rw [unhide HF, if_neg (by decide), if_neg (by rintro ⟨h, _⟩; exact absurd h (by decide))]
      clear HF HR
      go_enter Tryd.func30, Tryd.ntmps30
      go_wp2
      go_ret
      exact ⟨by rw [unhide HF2]; rfl, unhide Hb⟩
  · have hm : madeT t = false := by unfold madeT; simp; omega
    have hp : plainT t = false := by unfold plainT; simp; omega
    have HF2 : Hid (formD 0 t m b = 21) := by show _ = _; rw [unhide HF, if_pos (Or.inl ⟨hm, hp⟩)]
    have e16 : (ti == 16) = false := by simp; omega
    have e17 : (ti == 17) = false := by simp; omega
    have e10 : (ti == 10) = false := by simp; omega
    have e12 : (ti == 12) = false := by simp; omega
    have e19 : (ti == 19) = false := by simp; omega
    clear HF HR hm hp
    rcases (by omega : t = 0 ∨ (7 ≤ t ∧ t ≤ 21) ∨ 25 ≤ t) with h0 | h0 | h0
    · have f1 : decide (1 ≤ ti) = false := by simp; omega
      have f6 : decide (ti ≤ 6) = true := by simp; omega
      have f22 : decide (22 ≤ ti) = false := by simp; omega
      have f24 : decide (ti ≤ 24) = true := by simp; omega
      clear ht h0 hti
      go_enter Tryd.func30, Tryd.ntmps30
      go_wp2
      go_ret
      exact ⟨by rw [unhide HF2]; rfl, unhide Hb⟩
    · have f1 : decide (1 ≤ ti) = true := by simp; omega
      have f6 : decide (ti ≤ 6) = false := by simp; omega
      have f22 : decide (22 ≤ ti) = false := by simp; omega
      have f24 : decide (ti ≤ 24) = true := by simp; omega
      clear ht h0 hti
      go_enter Tryd.func30, Tryd.ntmps30
      go_wp2
      go_ret
      exact ⟨by rw [unhide HF2]; rfl, unhide Hb⟩
    · have f1 : decide (1 ≤ ti) = true := by simp; omega
      have f6 : decide (ti ≤ 6) = false := by simp; omega
      have f22 : decide (22 ≤ ti) = true := by simp; omega
      have f24 : decide (ti ≤ 24) = false := by simp; omega
      clear ht h0 hti
      go_enter Tryd.func30, Tryd.ntmps30
      go_wp2
      go_ret
      exact ⟨by rw [unhide HF2]; rfl, unhide Hb⟩
end Go.Proofs.YtngkidlgcdofhaaDoor
