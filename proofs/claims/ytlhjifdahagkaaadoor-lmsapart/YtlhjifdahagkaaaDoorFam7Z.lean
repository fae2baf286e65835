/-
  Two keys laid in two blocks, whichever of them was laid first.
-/
import Derived.Test.YtlhjifdahagkaaaDoorOpens7Z
namespace Go.Proofs.YtlhjifdahagkaaaDoor
open Go.RowKit
section
theorem bytes_none' {w w' : World} {x : Value} (h : BytesAt w x []) : BytesAt w' x [] := by
  obtain ⟨sp, c, rfl, h1, h2, _⟩ := h
  exact ⟨sp, c, rfl, h1, h2, fun h => absurd rfl h⟩
variable {wA w1 w2 : World} {L h wd : Int} {bi : Nat} {xs : Value} {id seed : Bs}
/-- What stands behind the call: sixteen bytes in the block bi, the seed. -/
structure AfterKey (wA w1 w2 : World) (bi : Nat) (xs : Value) (id seed : Bs) : Prop where
  hi : BytesAt w2 (.slice (some ⟨bi, 0, none⟩) 16 16) id
  h1 : BytesAt w1 xs seed
  hs : BytesAt w2 xs seed
  s1 : wA.heap.size ≤ w1.heap.size
  b : Below wA.heap.size wA w2
theorem keep_old {W : World} {X : Nat} (h1 : BytesAt w1 xs seed) (hX : w1.heap.size ≤ X) (h2 : BytesAt w2 xs seed) (hg : w2.grownBy W (some X)) : BytesAt W xs seed := by
  by_cases hne : seed = []
  · subst hne; exact bytes_none' h2
  · refine BytesAt.grown h2 hg fun e => ?_
    have := ValsAt.old h1 (by simpa using hne) X e
    omega
theorem two_new' {w : World} {xi : Value} (hi : BytesAt w xi id) (hs : BytesAt w xs seed) (hb : Below wA.heap.size wA w) :
    TwoKeys wA ((w.alloc (.cells #[.int .i64 L, .int .i64 h, .int .i64 wd, xi, xs] 29)).alloc (.cells #[.int .i64 L, .int .i64 h, .int .i64 wd, xi, xs] 28)) (w.heap.size + 1) w.heap.size L h wd xi xs id seed := by
  have b1 : Below w.heap.size w (w.alloc (.cells #[.int .i64 L, .int .i64 h, .int .i64 wd, xi, xs] 29)) := (Below.refl _ _).alloc (Nat.le_refl _) _
  obtain ⟨w1, hw1⟩ : ∃ w1, w.alloc (.cells #[.int .i64 L, .int .i64 h, .int .i64 wd, xi, xs] 29) = w1 := ⟨_, rfl⟩
  have k1 := key_new w L h wd xi xs 29
  have e : w.heap.size + 1 = w1.heap.size := by rw [← hw1]; simp
  rw [hw1] at b1 k1 ⊢
  rw [e]
  have b2 : Below w1.heap.size w1 (w1.alloc (.cells #[.int .i64 L, .int .i64 h, .int .i64 wd, xi, xs] 28)) := (Below.refl _ _).alloc (Nat.le_refl _) _
  have b3 := b1.trans (b2.mono b1.size)
  exact ⟨key_new w1 L h wd xi xs 28, k1.below b2, hi.below b3, hs.below b3, hb.trans (b3.mono hb.size)⟩
theorem AfterKey.set {X : Nat} (k : AfterKey wA w1 w2 bi xs id seed) (h5 : FiveAt w2 X) (hX : w1.heap.size ≤ X) (hne : bi ≠ X) :
    KeyAt (setKey w2 X L h wd (.slice (some ⟨bi, 0, none⟩) 16 16) xs) X L h wd (.slice (some ⟨bi, 0, none⟩) 16 16) xs ∧ AfterKey wA w1 (setKey w2 X L h wd (.slice (some ⟨bi, 0, none⟩) 16 16) xs) bi xs id seed := by
  have hg := setKey_grown w2 X L h wd (.slice (some ⟨bi, 0, none⟩) 16 16) xs
  refine ⟨(setKey_at h5 L h wd _ _).1, k.hi.grown hg (fun e => ?_), k.h1, keep_old k.h1 hX k.hs hg, k.s1, k.b.grown hg k.b.size (fun j hj => ?_)⟩
  · simp only [Value.ownBlock, Option.some.injEq] at e
    exact hne e
  · cases hj
    exact Nat.le_trans k.s1 hX
theorem fam2a {X : Nat} (k : AfterKey wA w1 w2 bi xs id seed) (h5 : FiveAt w2 X) (hX : w1.heap.size ≤ X) (hne : bi ≠ X) :
    TwoKeys wA ((setKey w2 X L h wd (.slice (some ⟨bi, 0, none⟩) 16 16) xs).alloc (.cells #[.int .i64 L, .int .i64 h, .int .i64 wd, .slice (some ⟨bi, 0, none⟩) 16 16, xs] 29)) X w2.heap.size L h wd (.slice (some ⟨bi, 0, none⟩) 16 16) xs id seed := by
  obtain ⟨kx, k2⟩ := k.set (L := L) (h := h) (wd := wd) h5 hX hne
  have e : w2.heap.size = (setKey w2 X L h wd (.slice (some ⟨bi, 0, none⟩) 16 16) xs).heap.size := by unfold setKey; simp [World.size_setCell]
  rw [e]
  have b := (Below.refl (setKey w2 X L h wd (.slice (some ⟨bi, 0, none⟩) 16 16) xs).heap.size _).alloc (Nat.le_refl _) (.cells #[.int .i64 L, .int .i64 h, .int .i64 wd, .slice (some ⟨bi, 0, none⟩) 16 16, xs] 29)
  exact ⟨kx.below b, key_new _ L h wd _ _ 29, k2.hi.below b, k2.hs.below b, k2.b.trans (b.mono k2.b.size)⟩
theorem fam2b {X : Nat} (k : AfterKey wA w1 w2 bi xs id seed) (h5 : FiveAt w2 X) (hX : w1.heap.size ≤ X) (hne : bi ≠ X) :
    TwoKeys wA ((setKey w2 X L h wd (.slice (some ⟨bi, 0, none⟩) 16 16) xs).alloc (.cells #[.int .i64 L, .int .i64 h, .int .i64 wd, .slice (some ⟨bi, 0, none⟩) 16 16, xs] 28)) w2.heap.size X L h wd (.slice (some ⟨bi, 0, none⟩) 16 16) xs id seed := by
  obtain ⟨kx, k2⟩ := k.set (L := L) (h := h) (wd := wd) h5 hX hne
  have e : w2.heap.size = (setKey w2 X L h wd (.slice (some ⟨bi, 0, none⟩) 16 16) xs).heap.size := by unfold setKey; simp [World.size_setCell]
  rw [e]
  have b := (Below.refl (setKey w2 X L h wd (.slice (some ⟨bi, 0, none⟩) 16 16) xs).heap.size _).alloc (Nat.le_refl _) (.cells #[.int .i64 L, .int .i64 h, .int .i64 wd, .slice (some ⟨bi, 0, none⟩) 16 16, xs] 28)
  exact ⟨key_new _ L h wd _ _ 28, kx.below b, k2.hi.below b, k2.hs.below b, k2.b.trans (b.mono k2.b.size)⟩
theorem fam3 {X Y : Nat} (k : AfterKey wA w1 w2 bi xs id seed) (h5 : FiveAt w2 X) (h5' : FiveAt w2 Y) (hX : w1.heap.size ≤ X) (hY : w1.heap.size ≤ Y) (hne : bi ≠ X) (hne' : bi ≠ Y) (hXY : X ≠ Y) :
    TwoKeys wA (setKey (setKey w2 X L h wd (.slice (some ⟨bi, 0, none⟩) 16 16) xs) Y L h wd (.slice (some ⟨bi, 0, none⟩) 16 16) xs) X Y L h wd (.slice (some ⟨bi, 0, none⟩) 16 16) xs id seed := by
  obtain ⟨kx, k2⟩ := k.set (L := L) (h := h) (wd := wd) h5 hX hne
  have h5y := h5'.grown (setKey_grown w2 X L h wd (.slice (some ⟨bi, 0, none⟩) 16 16) xs) (fun e => hXY (by simpa using e.symm))
  obtain ⟨ky, k3⟩ := k2.set (L := L) (h := h) (wd := wd) h5y hY hne'
  exact ⟨kx.grown (setKey_grown _ Y L h wd _ _) (fun e => hXY (by simpa using e)), ky, k3.hi, k3.hs, k3.b⟩
end
end Go.Proofs.YtlhjifdahagkaaaDoor
