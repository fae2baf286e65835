/-
  Plain words on numbers modulo q cut in two, and on hints. No program is named here.
-/
import Derived.WalkKit
namespace Go.Proofs.Ythciafobknaipaa
/-- Cut at 2^13: the low part, the high part. -/
def pow0 (r : Int) : Int := if 4096 < r % 8192 then r % 8192 - 8192 else r % 8192
def pow1 (r : Int) : Int := (r - pow0 r) / 8192
/-- The number around 0 modulo 2g. -/
def low (r g : Int) : Int := if g < r % (2 * g) then r % (2 * g) - 2 * g else r % (2 * g)
def dec1 (r g : Int) : Int := if r - low r g = 8380416 then 0 else (r - low r g) / (2 * g)
def dec0 (r g : Int) : Int := if r - low r g = 8380416 then low r g - 1 else low r g
/-- The two numbers g of the document. -/
def Cuts (g : Int) : Prop := g = 95232 ∨ g = 261888
def hintB (z r g : Int) : Bool := dec1 r g != dec1 ((r + z) % 8380417) g
def useOf (h : Bool) (r g : Int) : Int := if h = true then (if 0 < dec0 r g then (dec1 r g + 1) % (8380416 / (2 * g)) else (dec1 r g + 8380416 / (2 * g) - 1) % (8380416 / (2 * g))) else dec1 r g
theorem pow_back {r : Int} (h0 : 0 ≤ r) (h1 : r < 8380417) : pow1 r * 8192 + pow0 r = r ∧ -4096 < pow0 r ∧ pow0 r ≤ 4096 ∧ 0 ≤ pow1 r ∧ pow1 r ≤ 1023 := by
  unfold pow1 pow0
  split <;> omega
/-- Whoever says a cut of r says this one. -/
theorem pow_only {r a b : Int} (h : a * 8192 + b = r) (h0 : -4096 < b) (h1 : b ≤ 4096) : a = pow1 r ∧ b = pow0 r := by
  unfold pow1 pow0
  split <;> omega
theorem dec_back {r g : Int} (hg : Cuts g) (h0 : 0 ≤ r) (h1 : r < 8380417) : (dec1 r g * 2 * g + dec0 r g - r) % 8380417 = 0 ∧ -g ≤ dec0 r g ∧ dec0 r g ≤ g ∧ 0 ≤ dec1 r g ∧ dec1 r g ≤ 43 := by
  rcases hg with rfl | rfl <;> (unfold dec1 dec0 low; (repeat' split) <;> omega)
theorem dec_small {r g : Int} (hg : Cuts g) (h0 : 0 ≤ r) (h1 : r < 8380417) : dec1 r g < 8380416 / (2 * g) := by
  rcases hg with rfl | rfl <;> (unfold dec1 low; (repeat' split) <;> omega)
/-- A cut in linear words: g and m of the document. -/
theorem dec_form {r g m : Int} (hg : (g = 95232 ∧ m = 44) ∨ (g = 261888 ∧ m = 16)) (h0 : 0 ≤ r) (h1 : r < 8380417) :
    (r = 2 * g * dec1 r g + dec0 r g ∧ -g < dec0 r g ∧ dec0 r g ≤ g ∧ 0 ≤ dec1 r g ∧ dec1 r g < m) ∨ (dec1 r g = 0 ∧ r = 8380417 + dec0 r g ∧ -g ≤ dec0 r g ∧ dec0 r g < 0) := by
  rcases hg with ⟨rfl, rfl⟩ | ⟨rfl, rfl⟩ <;> (unfold dec1 dec0 low; (repeat' split) <;> omega)
theorem hint_lin {r s c a x b y g m : Int} (hg : (g = 95232 ∧ m = 44) ∨ (g = 261888 ∧ m = 16)) (c0 : -g ≤ c) (c1 : c ≤ g) (hs : s = r + c ∨ s = r + c + 8380417 ∨ s = r + c - 8380417) (s0 : 0 ≤ s) (s1 : s < 8380417) (r0 : 0 ≤ r) (r1 : r < 8380417) (hne : a ≠ b)
    (ha : (r = 2 * g * a + x ∧ -g < x ∧ x ≤ g ∧ 0 ≤ a ∧ a < m) ∨ (a = 0 ∧ r = 8380417 + x ∧ -g ≤ x ∧ x < 0)) (hb : (s = 2 * g * b + y ∧ -g < y ∧ y ≤ g ∧ 0 ≤ b ∧ b < m) ∨ (b = 0 ∧ s = 8380417 + y ∧ -g ≤ y ∧ y < 0)) :
    (0 < x → (a + 1) % m = b) ∧ (¬ 0 < x → (a + m - 1) % m = b) := by
  rcases hg with ⟨rfl, rfl⟩ | ⟨rfl, rfl⟩ <;> rcases hs with hs | hs | hs <;> rcases ha with ha | ha <;> rcases hb with hb | hb <;> refine ⟨fun hx => ?_, fun hx => ?_⟩ <;> omega
/-- WITH ITS HINT THE HIGH PART OF r + z IS HAD FROM r ALONE, IF z IS SMALL. c: the number around 0 that is z modulo q. -/
theorem hint_means {r z g c : Int} (hg : Cuts g) (r0 : 0 ≤ r) (r1 : r < 8380417) (z0 : 0 ≤ z) (z1 : z < 8380417) (hc : c = z ∨ c = z - 8380417) (c0 : -g ≤ c) (c1 : c ≤ g) : useOf (hintB z r g) r g = dec1 ((r + z) % 8380417) g := by
  obtain ⟨m, hm, hgm⟩ : ∃ m, 8380416 / (2 * g) = m ∧ ((g = 95232 ∧ m = 44) ∨ (g = 261888 ∧ m = 16)) := by
    rcases hg with rfl | rfl
    · exact ⟨44, rfl, Or.inl ⟨rfl, rfl⟩⟩
    · exact ⟨16, rfl, Or.inr ⟨rfl, rfl⟩⟩
  have hr := dec_form hgm r0 r1
  have hs0 : 0 ≤ (r + z) % 8380417 := by omega
  have hs1 : (r + z) % 8380417 < 8380417 := by omega
  have hs := dec_form hgm hs0 hs1
  have hsc : (r + z) % 8380417 = r + c ∨ (r + z) % 8380417 = r + c + 8380417 ∨ (r + z) % 8380417 = r + c - 8380417 := by
    have gb : g ≤ 261888 ∧ 0 < g := by rcases hgm with ⟨rfl, _⟩ | ⟨rfl, _⟩ <;> omega
    rcases hc with rfl | rfl <;> omega
  unfold useOf hintB
  rw [hm]
  generalize (r + z) % 8380417 = s at *
  by_cases he : dec1 r g = dec1 s g
  · rw [if_neg (by simp [he])]; exact he
  · rw [if_pos (by simp [he])]
    have h := hint_lin hgm c0 c1 hsc hs0 hs1 r0 r1 he hr hs
    split
    · rename_i hx; exact h.1 hx
    · rename_i hx; exact h.2 hx
end Go.Proofs.Ythciafobknaipaa
