/-
  Plain words on verifying: what is signed is verified. No program is named here.
-/
import Derived.Test.YtlhjifdahagkaaaDoorM01
import Derived.Test.YtlhjifdahagkaaaDoorM03
namespace Go.Proofs.YtlhjifdahagkaaaDoor
/-- The height of a type, the width of a type; 0: there is none. -/
def hTo (v : Nat) : Nat → Nat
  | 0 => 0
  | k + 1 => if tyH (k + 1) = v then k + 1 else hTo v k
def hOf (v : Nat) : Nat := hTo v 6
def wTo (v : Nat) : Nat → Nat
  | 0 => 0
  | k + 1 => if k + 1 = v then 2 ^ k else wTo v k
def wOf (v : Nat) : Nat := wTo v 4
theorem hOf_ty (h : Nat) (h1 : 1 ≤ h) (h6 : h ≤ 6) : hOf (tyH h) = h := by
  obtain rfl | rfl | rfl | rfl | rfl | rfl : h = 1 ∨ h = 2 ∨ h = 3 ∨ h = 4 ∨ h = 5 ∨ h = 6 := by omega
  all_goals decide
theorem wOf_ty {w : Nat} (hw : IsW w) : wOf (tyW w) = w := by rcases hw with rfl | rfl | rfl | rfl <;> decide
/-- A part of bytes. -/
def part (b : Bs) (f n : Nat) : Bs := (b.drop f).take n
theorem part_mid {a b c : Bs} {f n : Nat} (ha : a.length = f) (hb : b.length = n) : part (a ++ (b ++ c)) f n = b := by
  subst ha
  subst hb
  unfold part
  rw [List.drop_left' rfl, List.take_left' rfl]
theorem drop_mid {a b : Bs} {f : Nat} (ha : a.length = f) : (a ++ b).drop f = b := List.drop_left' ha
section
variable (H : Bs → Bs)
/-- The ends of what is in a signature. -/
def endsOfSig (id : Bs) (w q : Nat) (d : Nat → Nat) (s : Nat → Bs) : Nat → Bs
  | 0 => []
  | p + 1 => endsOfSig id w q d s p ++ steps H id q p (s p) (d p) (2 ^ w - 1 - d p)
/-- The way up from a leaf: the number and the hash that it comes to. -/
def climb (id : Bs) (s : Nat → Bs) : Nat → Nat → Bs → Bs
  | 0, _, x => x
  | z + 1, r, x => H (head id (climbR z r / 2) 0x8383 ++ (if climbR z r % 2 = 1 then s z ++ climb id s z r x else climb id s z r x ++ s z))
where climbR : Nat → Nat → Nat
  | 0, r => r
  | z + 1, r => climbR z r / 2
def sigPart (sig : Bs) (_w i : Nat) : Bs := part sig (40 + 32 * i) 32
def pathPart (sig : Bs) (w z : Nat) : Bs := part sig (44 + 32 * pW w + 32 * z) 32
/-- Is it a signature of a tree? -/
def holdsB (pk msg sig : Bs) : Bool :=
  decide (num4 (sig.drop 4) = tyW (wOf (num4 (pk.drop 4)))) && decide (num4 (sig.drop (40 + 32 * pW (wOf (num4 (pk.drop 4))))) = tyH (hOf (num4 pk))) && decide (num4 sig < 2 ^ hOf (num4 pk)) &&
    decide (climb H (part pk 8 16) (pathPart sig (wOf (num4 (pk.drop 4)))) (hOf (num4 pk)) (2 ^ hOf (num4 pk) + num4 sig)
      (H (head (part pk 8 16) (2 ^ hOf (num4 pk) + num4 sig) 0x8282 ++ H (head (part pk 8 16) (num4 sig) 0x8080 ++
        endsOfSig H (part pk 8 16) (wOf (num4 (pk.drop 4))) (num4 sig) (digit (hashed H (part pk 8 16) (num4 sig) (part sig 8 32) msg) (wOf (num4 (pk.drop 4)))) (sigPart sig (wOf (num4 (pk.drop 4)))) (pW (wOf (num4 (pk.drop 4)))))))
      = part pk 24 32)
theorem ends_bars (id seed : Bs) (w q : Nat) (d : Nat → Nat) (hd : ∀ i, d i < 2 ^ w) (s : Nat → Bs) : ∀ p, (∀ i, i < p → s i = steps H id q i (secret H id seed q i) 0 (d i)) → endsOfSig H id w q d s p = endsTo H id seed w q p
  | 0, _ => rfl
  | p + 1, hs => by
    have := hd p
    have e := steps_add H id q p (d p) (2 ^ w - 1 - d p) (secret H id seed q p) 0
    rw [Nat.zero_add, show d p + (2 ^ w - 1 - d p) = 2 ^ w - 1 by omega] at e
    rw [endsOfSig, endsTo, ends_bars id seed w q d hd s p (fun i hi => hs i (by omega)), hs p (by omega), e]
theorem bars_part (hH : ∀ l, (H l).length = 32) (id seed : Bs) (w q : Nat) (d : Nat → Nat) (a c : Bs) (f : Nat) (ha : a.length = f) : ∀ p i, i < p → part (a ++ (bars H id seed w q d p ++ c)) (f + 32 * i) 32 = steps H id q i (secret H id seed q i) 0 (d i)
  | p + 1, i, hi => by
    rw [bars]
    rcases Nat.lt_or_ge i p with h | h
    · rw [List.append_assoc]
      exact bars_part hH id seed w q d a (steps H id q p (secret H id seed q p) 0 (d p) ++ c) f ha p i h
    · obtain rfl : i = p := by omega
      rw [List.append_assoc, ← List.append_assoc a]
      exact part_mid (by rw [List.length_append, ha, len_bars H hH]) (len_steps H hH _ _ _ _ _ _ (len_secret H hH _ _ _ _))
theorem beside_part (hH : ∀ l, (H l).length = 32) (id seed : Bs) (h w q : Nat) (a c : Bs) (f : Nat) (ha : a.length = f) : ∀ p z, z < p → part (a ++ (beside H id seed h w q p ++ c)) (f + 32 * z) 32 = nodeAt H id seed h w z ((2 ^ h + q) / 2 ^ z ^^^ 1)
  | p + 1, z, hz => by
    rw [beside]
    rcases Nat.lt_or_ge z p with h1 | h1
    · rw [List.append_assoc]
      exact beside_part hH id seed h w q a (nodeAt H id seed h w p ((2 ^ h + q) / 2 ^ p ^^^ 1) ++ c) f ha p z h1
    · obtain rfl : z = p := by omega
      rw [List.append_assoc, ← List.append_assoc a]
      exact part_mid (by rw [List.length_append, ha, len_beside H hH]) (len_node H hH _ _ _ _ _ _)
theorem climbR_div (r : Nat) : ∀ z, climb.climbR z r = r / 2 ^ z
  | 0 => by simp [climb.climbR]
  | z + 1 => by rw [climb.climbR, climbR_div r z, Nat.div_div_eq_div_mul, Nat.pow_succ]
theorem xor_one (X : Nat) : X ^^^ 1 = if X % 2 = 1 then X - 1 else X + 1 := by
  have h1 : (X ^^^ 1) / 2 = X / 2 := by rw [Nat.xor_div_two]; simp
  have h2 : (X ^^^ 1) % 2 = (X + 1) % 2 := by
    have h3 : (X ^^^ 1) % 2 = 1 ↔ ¬ (X % 2 = 1 ↔ 1 % 2 = 1) := Nat.xor_mod_two_eq_one
    have h4 : (X ^^^ 1) % 2 = 1 ↔ X % 2 ≠ 1 := by rw [h3]; simp
    omega
  split <;> omega
theorem climb_node (id seed : Bs) (h w q : Nat) (s : Nat → Bs) : ∀ z, z ≤ h → (∀ i, i < z → s i = nodeAt H id seed h w i ((2 ^ h + q) / 2 ^ i ^^^ 1)) →
    climb H id s z (2 ^ h + q) (nodeAt H id seed h w 0 (2 ^ h + q)) = nodeAt H id seed h w z ((2 ^ h + q) / 2 ^ z)
  | 0, _, _ => by simp [climb]
  | z + 1, hz, hs => by
    have ih := climb_node id seed h w q s z (by omega) (fun i hi => hs i (by omega))
    rw [climb, ih, hs z (by omega), climbR_div, nodeAt, Nat.pow_succ, ← Nat.div_div_eq_div_mul]
    generalize (2 ^ h + q) / 2 ^ z = X
    rw [xor_one]
    congr 1
    by_cases hx : X % 2 = 1
    · rw [if_pos hx, if_pos hx, ← List.append_assoc, show 2 * (X / 2) = X - 1 by omega, show X - 1 + 1 = X by omega]
    · rw [if_neg hx, if_neg hx, ← List.append_assoc, show 2 * (X / 2) = X by omega]
/-- WHAT A LEAF SIGNS IS VERIFIED UNDER ITS TREE. -/
theorem opens_one (hH : ∀ l, (H l).length = 32) {id seed : Bs} (hi : id.length = 16) (h w q : Nat) (h1 : 1 ≤ h) (h6 : h ≤ 6) (hw : IsW w) (hq : q < 2 ^ h) (msg : Bs) : holdsB H (tree H id seed h w) msg (oneSig H id seed h w q msg) = true := by
  have htH : tyH h < 4294967296 := by unfold tyH; split <;> omega
  have htW : tyW w < 4294967296 := by rcases hw with rfl | rfl | rfl | rfl <;> decide
  have hq4 : q < 4294967296 := Nat.lt_of_lt_of_le hq (Nat.le_trans (Nat.pow_le_pow_right (show 0 < 2 by omega) h6) (by decide))
  have hpk : tree H id seed h w = big (tyH h) 4 ++ (big (tyW w) 4 ++ (id ++ (nodeAt H id seed h w h 1 ++ []))) := by unfold tree; simp only [List.append_assoc, List.append_nil]
  have e1 : num4 (tree H id seed h w) = tyH h := by rw [hpk]; exact num4_big htH _
  have e2 : num4 ((tree H id seed h w).drop 4) = tyW w := by rw [hpk, drop_mid (len_big _ _)]; exact num4_big htW _
  have e3 : part (tree H id seed h w) 8 16 = id := by rw [hpk, ← List.append_assoc]; exact part_mid (by rw [List.length_append, len_big, len_big]) hi
  have e4 : part (tree H id seed h w) 24 32 = nodeAt H id seed h w h 1 := by rw [hpk, ← List.append_assoc, ← List.append_assoc]; exact part_mid (by rw [List.length_append, List.length_append, len_big, len_big, hi]) (len_node H hH _ _ _ _ _ _)
  obtain ⟨c, hc⟩ : ∃ c, rnd H id seed q = c := ⟨_, rfl⟩
  have hcl : c.length = 32 := by rw [← hc]; exact hH _
  obtain ⟨D, hD⟩ : ∃ D, hashed H id q c msg = D := ⟨_, rfl⟩
  have hsg : oneSig H id seed h w q msg = big q 4 ++ (big (tyW w) 4 ++ (c ++ (bars H id seed w q (digit D w) (pW w) ++ (big (tyH h) 4 ++ (beside H id seed h w q h ++ []))))) := by
    unfold oneSig; rw [hc, hD]; simp only [List.append_assoc, List.append_nil]
  have s1 : num4 (oneSig H id seed h w q msg) = q := by rw [hsg]; exact num4_big hq4 _
  have s2 : num4 ((oneSig H id seed h w q msg).drop 4) = tyW w := by rw [hsg, drop_mid (len_big _ _)]; exact num4_big htW _
  have s3 : part (oneSig H id seed h w q msg) 8 32 = c := by rw [hsg, ← List.append_assoc]; exact part_mid (by rw [List.length_append, len_big, len_big]) hcl
  have s4 : num4 ((oneSig H id seed h w q msg).drop (40 + 32 * pW w)) = tyH h := by
    rw [hsg, ← List.append_assoc, ← List.append_assoc, ← List.append_assoc, drop_mid (by rw [List.length_append, List.length_append, List.length_append, len_big, len_big, hcl, len_bars H hH])]
    exact num4_big htH _
  have s5 : ∀ i, i < pW w → sigPart (oneSig H id seed h w q msg) w i = steps H id q i (secret H id seed q i) 0 (digit D w i) := fun i hi' => by
    unfold sigPart
    rw [hsg, ← List.append_assoc, ← List.append_assoc]
    exact bars_part H hH id seed w q (digit D w) _ _ 40 (by rw [List.length_append, List.length_append, len_big, len_big, hcl]) (pW w) i hi'
  have s6 : ∀ z, z < h → pathPart (oneSig H id seed h w q msg) w z = nodeAt H id seed h w z ((2 ^ h + q) / 2 ^ z ^^^ 1) := fun z hz => by
    unfold pathPart
    rw [hsg, ← List.append_assoc, ← List.append_assoc, ← List.append_assoc, ← List.append_assoc]
    exact beside_part H hH id seed h w q _ _ _ (by rw [List.length_append, List.length_append, List.length_append, List.length_append, len_big, len_big, len_big, hcl, len_bars H hH]; omega) h z hz
  unfold holdsB
  rw [e1, e2, e3, e4, s1, s2, hOf_ty h h1 h6, wOf_ty hw, s3, s4, hD]
  rw [ends_bars H id seed w q (digit D w) (fun i => digit_lt D w i) _ (pW w) (fun i hi' => s5 i hi')]
  have hleaf : H (head id (2 ^ h + q) 0x8282 ++ H (head id q 0x8080 ++ endsTo H id seed w q (pW w))) = nodeAt H id seed h w 0 (2 ^ h + q) := by
    show _ = H (head id (2 ^ h + q) 0x8282 ++ leafKey H id seed w (2 ^ h + q - 2 ^ h))
    unfold leafKey
    rw [Nat.add_sub_cancel_left]
  rw [hleaf, climb_node H id seed h w q _ h (Nat.le_refl _) (fun i hi' => s6 i hi')]
  have hone : (2 ^ h + q) / 2 ^ h = 1 := by
    rw [Nat.add_div_left _ (Nat.pow_pos (by omega)), Nat.div_eq_of_lt hq]
  rw [hone]
  simp [hq]
/-- Is it a signature of a key of so many levels? -/
def verifyFrom (msg : Bs) : Nat → Bs → Bs → Bool
  | 0, _, _ => false
  | n + 1, k, sig =>
    if 56 ≤ k.length ∧ 0 < hOf (num4 k) ∧ 0 < wOf (num4 (k.drop 4)) ∧ sizeOf (hOf (num4 k)) (wOf (num4 (k.drop 4))) ≤ sig.length then
      if n = 0 then decide (sig.length = sizeOf (hOf (num4 k)) (wOf (num4 (k.drop 4)))) && holdsB H k msg sig
      else
        if 56 ≤ (sig.drop (sizeOf (hOf (num4 k)) (wOf (num4 (k.drop 4))))).length ∧ 0 < hOf (num4 (sig.drop (sizeOf (hOf (num4 k)) (wOf (num4 (k.drop 4)))))) ∧ 0 < wOf (num4 ((sig.drop (sizeOf (hOf (num4 k)) (wOf (num4 (k.drop 4))))).drop 4)) then
          holdsB H k (part sig (sizeOf (hOf (num4 k)) (wOf (num4 (k.drop 4)))) 56) (sig.take (sizeOf (hOf (num4 k)) (wOf (num4 (k.drop 4))))) && verifyFrom msg n (part sig (sizeOf (hOf (num4 k)) (wOf (num4 (k.drop 4)))) 56) (sig.drop (sizeOf (hOf (num4 k)) (wOf (num4 (k.drop 4))) + 56))
        else false
    else false
def verifyB (pk msg sig : Bs) : Bool :=
  decide (pk.length = 60) && decide (4 ≤ sig.length) && decide (1 ≤ num4 pk) && decide (num4 pk ≤ 3) && decide (num4 sig + 1 = num4 pk) && verifyFrom H msg (num4 pk) (pk.drop 4) (sig.drop 4)
theorem tree_shape (hH : ∀ l, (H l).length = 32) {id seed : Bs} (hi : id.length = 16) (h w : Nat) (h1 : 1 ≤ h) (h6 : h ≤ 6) (hw : IsW w) (rest : Bs) :
    hOf (num4 (tree H id seed h w ++ rest)) = h ∧ wOf (num4 ((tree H id seed h w ++ rest).drop 4)) = w ∧ 56 ≤ (tree H id seed h w ++ rest).length := by
  have htH : tyH h < 4294967296 := by unfold tyH; split <;> omega
  have htW : tyW w < 4294967296 := by rcases hw with rfl | rfl | rfl | rfl <;> decide
  have hpk : tree H id seed h w ++ rest = big (tyH h) 4 ++ (big (tyW w) 4 ++ (id ++ (nodeAt H id seed h w h 1 ++ rest))) := by unfold tree; simp only [List.append_assoc]
  refine ⟨?_, ?_, ?_⟩
  · rw [hpk, num4_big htH]; exact hOf_ty h h1 h6
  · rw [hpk, drop_mid (len_big _ _), num4_big htW]; exact wOf_ty hw
  · rw [List.length_append, len_tree H hH hi]; omega
theorem len_signFrom_pos (hH : ∀ l, (H l).length = 32) (h w n : Nat) (msg : Bs) : ∀ l id seed, sizeOf h w ≤ (signFrom H h w n msg l id seed).length
  | 0, id, seed => by rw [signFrom, len_one H hH]; exact Nat.le_refl _
  | l + 1, id, seed => by rw [signFrom, List.length_append, List.length_append, len_one H hH]; omega
/-- WHAT IS SIGNED IS VERIFIED. -/
theorem opens_from (hH : ∀ l, (H l).length = 32) (h w n : Nat) (h1 : 1 ≤ h) (h6 : h ≤ 6) (hw : IsW w) (msg : Bs) : ∀ l {id seed : Bs}, id.length = 16 → verifyFrom H msg (l + 1) (tree H id seed h w) (signFrom H h w n msg l id seed) = true
  | 0, id, seed, hi => by
    obtain ⟨t1, t2, t3⟩ := tree_shape H hH (seed := seed) hi h w h1 h6 hw []
    rw [List.append_nil] at t1 t2 t3
    have hq : n % 2 ^ h < 2 ^ h := Nat.mod_lt _ (Nat.pow_pos (by omega))
    rw [verifyFrom, t1, t2, signFrom, len_one H hH, if_pos ⟨t3, by omega, by rcases hw with rfl | rfl | rfl | rfl <;> omega, Nat.le_refl _⟩, if_pos rfl, opens_one H hH hi h w _ h1 h6 hw hq msg]
    simp
  | l + 1, id, seed, hi => by
    obtain ⟨t1, t2, t3⟩ := tree_shape H hH (seed := seed) hi h w h1 h6 hw []
    rw [List.append_nil] at t1 t2 t3
    have hq : leafAt h n (l + 1) < 2 ^ h := Nat.mod_lt _ (Nat.pow_pos (by omega))
    have hw0 : 0 < w := by rcases hw with rfl | rfl | rfl | rfl <;> omega
    rw [verifyFrom, t1, t2, signFrom]
    obtain ⟨q, hq'⟩ : ∃ q, leafAt h n (l + 1) = q := ⟨_, rfl⟩
    rw [hq'] at hq ⊢
    have hi2 : (subId H id seed q).length = 16 := by unfold subId; rw [List.length_take, len_secret H hH]; rfl
    obtain ⟨i2, hie⟩ : ∃ i2, subId H id seed q = i2 := ⟨_, rfl⟩
    obtain ⟨s2, hse⟩ : ∃ s2, subSeed H id seed q = s2 := ⟨_, rfl⟩
    rw [hie] at hi2 ⊢
    rw [hse]
    have ih := opens_from hH h w n h1 h6 hw msg l (seed := s2) hi2
    have hl1 := len_one H hH id seed h w q (tree H i2 s2 h w)
    have hl2 := len_tree H hH (seed := s2) hi2 h w
    obtain ⟨o, ho⟩ : ∃ o, oneSig H id seed h w q (tree H i2 s2 h w) = o := ⟨_, rfl⟩
    have hop := opens_one H hH (seed := seed) hi h w q h1 h6 hw hq (tree H i2 s2 h w)
    rw [ho] at hl1 hop ⊢
    obtain ⟨u1, u2, u3⟩ := tree_shape H hH (seed := s2) hi2 h w h1 h6 hw (signFrom H h w n msg l i2 s2)
    obtain ⟨t, ht⟩ : ∃ t, tree H i2 s2 h w = t := ⟨_, rfl⟩
    rw [ht] at hl2 hop ih u1 u2 u3 ⊢
    obtain ⟨r, hr⟩ : ∃ r, signFrom H h w n msg l i2 s2 = r := ⟨_, rfl⟩
    rw [hr] at ih u1 u2 u3 ⊢
    rw [List.append_assoc]
    have d1 : (o ++ (t ++ r)).drop (sizeOf h w) = t ++ r := drop_mid hl1
    have d2 : part (o ++ (t ++ r)) (sizeOf h w) 56 = t := part_mid hl1 hl2
    have d3 : (o ++ (t ++ r)).take (sizeOf h w) = o := List.take_left' hl1
    have d4 : (o ++ (t ++ r)).drop (sizeOf h w + 56) = r := by rw [← List.append_assoc]; exact drop_mid (by rw [List.length_append, hl1, hl2])
    rw [d1, d2, d3, d4, u1, u2, if_pos ⟨t3, by omega, hw0, by rw [List.length_append, hl1]; omega⟩, if_neg (by omega), if_pos ⟨u3, by omega, hw0⟩, hop, ih]
    rfl
theorem opens (hH : ∀ l, (H l).length = 32) (L h w n : Nat) (hL1 : 1 ≤ L) (hL3 : L ≤ 3) (h1 : 1 ≤ h) (h6 : h ≤ 6) (hw : IsW w) {id seed : Bs} (hi : id.length = 16) (msg : Bs) : verifyB H (publicOf H L h w id seed) msg (signOf H L h w id seed n msg) = true := by
  unfold verifyB publicOf signOf
  have hn : L - 1 + 1 = L := by omega
  rw [num4_big (by omega), num4_big (by omega), drop_mid (len_big _ _), drop_mid (len_big _ _), List.length_append, len_big, len_tree H hH hi, List.length_append, len_big]
  have := opens_from H hH h w n h1 h6 hw msg (L - 1) (seed := seed) hi
  rw [hn] at this
  rw [this]
  simp
  omega
end
end Go.Proofs.YtlhjifdahagkaaaDoor
/-
  The walks of the reference's number, size and shape.
-/
namespace Go.Proofs.YtlhjifdahagkaaaDoor
open Go.RowKit
theorem num4_lt (b : Bs) : num4 b < 4294967296 := by
  have h0 := (b.getD 0 0).toNat_lt
  have h1 := (b.getD 1 0).toNat_lt
  have h2 := (b.getD 2 0).toNat_lt
  have h3 := (b.getD 3 0).toNat_lt
  unfold num4
  omega
set_option maxRecDepth 100000 in
set_option maxHeartbeats 1000000 in
theorem number_any (w0 : World) (x : Value) (b : Bs) (hx : BytesAt w0 x b) (hl : 4 ≤ b.length) (hl2 : b.length ≤ 1000000) :
    Calls Tryd.prog 41 #[x] w0 fun e w' => e = .returned (.int .i64 (num4 b : Int)) ∧ Below w0.heap.size w0 w' := by
  obtain ⟨sp, c, rfl, _, _, hc⟩ := bytes_open hx
  obtain ⟨bb, bo, rfl, hbb, hcell⟩ := hc (by intro e; rw [e] at hl; simp at hl)
  have c0 := hcell 0 (by omega)
  have c1 := hcell 1 (by omega)
  have c2 := hcell 2 (by omega)
  have c3 := hcell 3 (by omega)
  have hn : num4 b = (b.getD 0 0).toNat * 16777216 + (b.getD 1 0).toNat * 65536 + (b.getD 2 0).toNat * 256 + (b.getD 3 0).toNat := rfl
  have h0 := (b.getD 0 0).toNat_lt
  have h1 := (b.getD 1 0).toNat_lt
  have h2 := (b.getD 2 0).toNat_lt
  have h3 := (b.getD 3 0).toNat_lt
  generalize (b.getD 0 0).toNat = x0 at c0 hn h0
  generalize (b.getD 1 0).toNat = x1 at c1 hn h1
  generalize (b.getD 2 0).toNat = x2 at c2 hn h2
  generalize (b.getD 3 0).toNat = x3 at c3 hn h3
  rw [Nat.add_zero] at c0
  have Hn : Hid ((num4 b : Int) = (x0 : Int) * 16777216 + (x1 : Int) * 65536 + (x2 : Int) * 256 + (x3 : Int)) := by show _ = _; rw [hn]; simp
  have b0 : (x0 : Int) < 256 := by omega
  have b1 : (x1 : Int) < 256 := by omega
  have b2 : (x2 : Int) < 256 := by omega
  have b3 : (x3 : Int) < 256 := by omega
  have l0 : (4 : Int) ≤ (b.length : Int) := by omega
  have lb : (b.length : Int) ≤ 1000000 := by omega
  have l1 : (0 : Int) < (b.length : Int) := by omega
  have l2 : (1 : Int) < (b.length : Int) := by omega
  have l3 : (2 : Int) < (b.length : Int) := by omega
  have l4 : (3 : Int) < (b.length : Int) := by omega
  clear hx hc hcell hn
  go_enter Tryd.func41, Tryd.ntmps41
  go_wp2
  go_region
  go_wp2
  go_ret
  exact ⟨by rw [unhide Hn]; rfl, (Below.refl _ _).drew⟩
set_option maxRecDepth 100000 in
set_option maxHeartbeats 1000000 in
theorem size_any (w0 : World) (h wd : Nat) (hh : h ≤ 6) (hw : IsW wd) : Calls Tryd.prog 43 #[.int .i64 (h : Int), .int .i64 (wd : Int)] w0 fun e w' => e = .returned (.int .i64 (sizeOf h wd : Int)) ∧ w' = w0 := by
  have Hwi := hide (widthOf_of hw)
  obtain ⟨p, hp⟩ : ∃ p, pW wd = p := ⟨_, rfl⟩
  have hpb : p ≤ 265 := by rw [← hp]; rcases hw with rfl | rfl | rfl | rfl <;> simp [pW]
  have Hs : Hid (((sizeOf h wd : Nat) : Int) = 40 + 32 * (p : Int) + 4 + 32 * (h : Int)) := by show _ = _; unfold sizeOf; rw [hp]; simp; omega
  rw [hp] at Hwi
  have pb : (p : Int) ≤ 265 := by omega
  have hb : (h : Int) ≤ 6 := by omega
  clear hw hp
  go_enter Tryd.func43, Tryd.ntmps43
  go_wp2_with fail
  refine (width_any (wd : Int) _).mono ?_
  rw [unhide Hwi]
  rintro e w1 ⟨rfl, rfl⟩
  go_wp2
  go_ret
  exact ⟨by rw [unhide Hs]; rfl, rfl⟩
theorem idx0 (w : World) : (Instr.index 108 (.agg #[.int .i64 1, .int .i64 2, .int .i64 4, .int .i64 8]) (.int .i64 0)).run Tryd.prog w = .ok (.int .i64 1) w := by simp [Instr.index, run_underlying Tryd.underlying108, asIntOf, go_sem]
theorem idx1 (w : World) : (Instr.index 108 (.agg #[.int .i64 1, .int .i64 2, .int .i64 4, .int .i64 8]) (.int .i64 1)).run Tryd.prog w = .ok (.int .i64 2) w := by simp [Instr.index, run_underlying Tryd.underlying108, asIntOf, go_sem]
theorem idx2 (w : World) : (Instr.index 108 (.agg #[.int .i64 1, .int .i64 2, .int .i64 4, .int .i64 8]) (.int .i64 2)).run Tryd.prog w = .ok (.int .i64 4) w := by simp [Instr.index, run_underlying Tryd.underlying108, asIntOf, go_sem]
theorem idx3 (w : World) : (Instr.index 108 (.agg #[.int .i64 1, .int .i64 2, .int .i64 4, .int .i64 8]) (.int .i64 3)).run Tryd.prog w = .ok (.int .i64 8) w := by simp [Instr.index, run_underlying Tryd.underlying108, asIntOf, go_sem]
set_option maxRecDepth 100000 in
set_option maxHeartbeats 2000000 in
theorem shape_no (w0 : World) (x : Value) (b : Bs) (hx : BytesAt w0 x b) (hl : b.length < 56) : Calls Tryd.prog 42 #[x] w0 fun e w' => e = .returned (.tuple #[.int .i64 0, .int .i64 0, .bool false]) ∧ Below w0.heap.size w0 w' := by
  obtain ⟨sp, c, rfl, _⟩ := bytes_open hx
  have d : decide ((b.length : Int) < 56) = true := by simp; omega
  have d' : decide (b.length < 56) = true := by simp; omega
  clear hx
  go_enter Tryd.func42, Tryd.ntmps42
  go_wp2
  exact bodyPost_ret (v := .tuple #[.int .i64 0, .int .i64 0, .bool false]) (by simp [results, Tryd.results42, go_sem]) rfl ⟨rfl, Below.refl _ _⟩
end Go.Proofs.YtlhjifdahagkaaaDoor
/-
  The walk of the reference's shape.
-/
namespace Go.Proofs.YtlhjifdahagkaaaDoor
open Go.RowKit
set_option maxRecDepth 100000 in
set_option maxHeartbeats 2000000 in
theorem shape_any (w0 : World) (x : Value) (b : Bs) (hx : BytesAt w0 x b) (hl : 56 ≤ b.length) (hl2 : b.length ≤ 100000) : Calls Tryd.prog 42 #[x] w0 fun e w' => e = .returned (.tuple #[.int .i64 (hOf (num4 b) : Int), .int .i64 (wOf (num4 (b.drop 4)) : Int), .bool (decide (0 < hOf (num4 b)) && decide (0 < wOf (num4 (b.drop 4))))]) ∧ Below w0.heap.size w0 w' := by
  have HX := hide hx
  obtain ⟨sp, c, rfl, hcl, _, hce⟩ := bytes_open hx
  obtain ⟨bb, bo, rfl, _, _⟩ := hce (by intro e; rw [e] at hl; simp at hl)
  clear hce
  have d : decide ((b.length : Int) < 56) = false := by simp; omega
  have d' : decide (b.length < 56) = false := by simp; omega
  have Hl := hide (And.intro hl hl2)
  clear hx
  go_enter Tryd.func42, Tryd.ntmps42
  obtain ⟨V, hV⟩ : ∃ V, num4 b = V := ⟨_, rfl⟩
  obtain ⟨U, hU⟩ : ∃ U, num4 (b.drop 4) = U := ⟨_, rfl⟩
  have Hnb := hide (fun w (hb : Below w0.heap.size w0 w) => number_any w _ b ((unhide HX).below hb) (by omega) (by omega))
  rw [hV] at Hnb
  rw [hV, hU]
  have HV := hide hV
  have HU := hide hU
  clear hV hU
  go_wp2
  go_loopw [5, 6] (fun hh kk wr => ∃ k a : Nat, k ≤ 6 ∧ kk = .int .i64 ((k : Int) + 1) ∧ a ≤ 6 ∧ hh = .int .i64 (a : Int) ∧ Hid (a = hTo V k) ∧ Hid (Below w0.heap.size w0 wr)) (fun _ kk _ => 8 - (intOf kk).toNat)
  case atStart => exact ⟨0, 0, by omega, rfl, by omega, rfl, rfl, Below.refl _ _⟩
  case round =>
    obtain ⟨k, a, hk, rfl, ha, rfl, Ha, HB⟩ := hrel
    rename World => wc
    have kb : (k : Int) ≤ 6 := by omega
    have ab : (a : Int) ≤ 6 := by omega
    by_cases hk6 : k < 6
    · obtain ⟨k1, hk1⟩ : ∃ k1, k + 1 = k1 := ⟨_, rfl⟩
      have hki : (k : Int) + 1 = (k1 : Int) := by omega
      have Hty := hide (type_any k1 (by omega) wc)
      obtain ⟨T, hT⟩ : ∃ T, tyH k1 = T := ⟨_, rfl⟩
      rw [hT] at Hty
      have hst : hTo V (k + 1) = if T = V then k1 else hTo V k := by rw [hTo, hk1, hT]
      have d1 : decide ((k1 : Int) ≤ 6) = true := by simp; omega
      have k1b : (k1 : Int) ≤ 6 := by omega
      rw [hki]
      have Hki := hide hki
      clear hki hT
      go_wp2_with fail
      refine (unhide Hty).mono ?_
      rintro e wt ⟨rfl, hwt⟩
      rw [hwt]
      clear hwt wt
      go_wp2_with fail
      refine (unhide Hnb wc (unhide HB)).mono ?_
      rintro e w1 ⟨rfl, hb⟩
      have HB1 := hide ((unhide HB).trans (hb.mono (unhide HB).size))
      clear hb
      by_cases hTV : T = V
      · have de : ((T : Int) == (V : Int)) = true := by simp [hTV]
        rw [if_pos hTV] at hst
        have Ha2 : Hid (k1 = hTo V (k + 1)) := hst.symm
        clear hTV hst Ha
        go_wp2
        go_roundw
        case rel =>
          first
            | exact ⟨k + 1, k1, by omega, by congr 1; have := unhide Hki; omega, by omega, rfl, Ha2, HB1⟩
            | ((repeat apply Exists.intro); exact ⟨⟨k + 1, k1, by omega, by congr 1; have := unhide Hki; omega, by omega, rfl, Ha2, HB1⟩, rfl⟩)
        case measure => simp [intOf]; omega
      · have de : ((T : Int) == (V : Int)) = false := by simp; omega
        rw [if_neg hTV] at hst
        have Ha2 : Hid (a = hTo V (k + 1)) := by show _ = _; rw [hst]; exact unhide Ha
        clear hst Ha
        go_wp2
        go_roundw
        case rel =>
          first
            | exact ⟨k + 1, a, by omega, by congr 1; have := unhide Hki; omega, ha, rfl, Ha2, HB1⟩
            | ((repeat apply Exists.intro); exact ⟨⟨k + 1, a, by omega, by congr 1; have := unhide Hki; omega, ha, rfl, Ha2, HB1⟩, rfl⟩)
        case measure => simp [intOf]; omega
    · obtain rfl : k = 6 := by omega
      have HC := hide (bytes_rest (unhide HX) 4 (by omega))
      have ecut : cutAt (some (⟨bb, bo, none⟩ : Addr)) c 4 = some ⟨bb, bo + 4, none⟩ := by unfold cutAt; rw [if_neg (by omega)]; simp [Addr.add_mid]
      rw [ecut] at HC
      have Hnc := hide (fun w (hb : Below w0.heap.size w0 w) => number_any w _ (b.drop 4) ((unhide HC).below hb) (by rw [List.length_drop]; omega) (by rw [List.length_drop]; omega))
      rw [unhide HU] at Hnc
      have Haf : Hid (a = hOf V) := unhide Ha
      clear HC ecut Ha
      go_wp2
      go_loopw [7, 28] (fun ww jj wr => ∃ j z : Nat, j ≤ 4 ∧ jj = .int .i64 (j : Int) ∧ z ≤ 8 ∧ ww = .int .i64 (z : Int) ∧ Hid (z = wTo U j) ∧ Hid (Below w0.heap.size w0 wr)) (fun _ jj _ => 4 - (intOf jj).toNat)
      case atStart => exact ⟨0, 0, by omega, rfl, by omega, rfl, rfl, HB⟩
      case round =>
        obtain ⟨j, z, hj, rfl, hz8, rfl, Hz, HBd⟩ := hrel
        rename World => wd_
        have zb : (z : Int) ≤ 8 := by omega
        by_cases hj4 : j < 4
        · obtain rfl | rfl | rfl | rfl : j = 0 ∨ j = 1 ∨ j = 2 ∨ j = 3 := by omega
          · have hix := idx0
            obtain ⟨tT, tP, tL, hwd_, hTe⟩ : ∃ tT tP tL : Int, widthOf 1 = .tuple #[.int .i64 tT, .int .i64 tP, .int .i64 tL, .bool true] ∧ tT = 1 := ⟨_, _, _, rfl, rfl⟩
            have Hwd := hide hwd_
            clear hwd_
            have hst : wTo U (0 + 1) = if 0 + 1 = U then 1 else wTo U 0 := rfl
            by_cases hTV : 0 + 1 = U
            · have de2 : (tT == (U : Int)) = true := by simp; omega
              clear hTe
              rw [if_pos hTV] at hst
              have Hz2 : Hid (1 = wTo U (0 + 1)) := hst.symm
              clear hst Hz hTV hj hj4 HB
              go_wp2_with fail
              refine (width_any 1 wd_).mono ?_
              rw [unhide Hwd]
              rintro e wt ⟨rfl, hwt⟩
              rw [hwt]
              clear hwt wt
              go_wp2_with fail
              refine (unhide Hnc wd_ (unhide HBd)).mono ?_
              rintro e w1 ⟨rfl, hb⟩
              have HB1 := hide ((unhide HBd).trans (hb.mono (unhide HBd).size))
              clear hb
              go_wp2
              go_roundw
              case rel =>
                first
                  | exact ⟨0 + 1, 1, by omega, by go_num, by omega, rfl, Hz2, HB1⟩
                  | ((repeat apply Exists.intro); exact ⟨⟨0 + 1, 1, by omega, by go_num, by omega, rfl, Hz2, HB1⟩, rfl⟩)
              case measure => simp [intOf]
            · have de2 : (tT == (U : Int)) = false := by simp; omega
              clear hTe
              rw [if_neg hTV] at hst
              have Hz2 : Hid (z = wTo U (0 + 1)) := by show _ = _; rw [hst]; exact unhide Hz
              clear hst Hz hTV hj hj4 HB
              go_wp2_with fail
              refine (width_any 1 wd_).mono ?_
              rw [unhide Hwd]
              rintro e wt ⟨rfl, hwt⟩
              rw [hwt]
              clear hwt wt
              go_wp2_with fail
              refine (unhide Hnc wd_ (unhide HBd)).mono ?_
              rintro e w1 ⟨rfl, hb⟩
              have HB1 := hide ((unhide HBd).trans (hb.mono (unhide HBd).size))
              clear hb
              go_wp2
              go_roundw
              case rel =>
                first
                  | exact ⟨0 + 1, z, by omega, by go_num, hz8, rfl, Hz2, HB1⟩
                  | ((repeat apply Exists.intro); exact ⟨⟨0 + 1, z, by omega, by go_num, hz8, rfl, Hz2, HB1⟩, rfl⟩)
              case measure => simp [intOf]
          · have hix := idx1
            obtain ⟨tT, tP, tL, hwd_, hTe⟩ : ∃ tT tP tL : Int, widthOf 2 = .tuple #[.int .i64 tT, .int .i64 tP, .int .i64 tL, .bool true] ∧ tT = 2 := ⟨_, _, _, rfl, rfl⟩
            have Hwd := hide hwd_
            clear hwd_
            have hst : wTo U (1 + 1) = if 1 + 1 = U then 2 else wTo U 1 := rfl
            by_cases hTV : 1 + 1 = U
            · have de2 : (tT == (U : Int)) = true := by simp; omega
              clear hTe
              rw [if_pos hTV] at hst
              have Hz2 : Hid (2 = wTo U (1 + 1)) := hst.symm
              clear hst Hz hTV hj hj4 HB
              go_wp2_with fail
              refine (width_any 2 wd_).mono ?_
              rw [unhide Hwd]
              rintro e wt ⟨rfl, hwt⟩
              rw [hwt]
              clear hwt wt
              go_wp2_with fail
              refine (unhide Hnc wd_ (unhide HBd)).mono ?_
              rintro e w1 ⟨rfl, hb⟩
              have HB1 := hide ((unhide HBd).trans (hb.mono (unhide HBd).size))
              clear hb
              go_wp2
              go_roundw
              case rel =>
                first
                  | exact ⟨1 + 1, 2, by omega, by go_num, by omega, rfl, Hz2, HB1⟩
                  | ((repeat apply Exists.intro); exact ⟨⟨1 + 1, 2, by omega, by go_num, by omega, rfl, Hz2, HB1⟩, rfl⟩)
              case measure => simp [intOf]
            · have de2 : (tT == (U : Int)) = false := by simp; omega
              clear hTe
              rw [if_neg hTV] at hst
              have Hz2 : Hid (z = wTo U (1 + 1)) := by show _ = _; rw [hst]; exact unhide Hz
              clear hst Hz hTV hj hj4 HB
              go_wp2_with fail
              refine (width_any 2 wd_).mono ?_
              rw [unhide Hwd]
              rintro e wt ⟨rfl, hwt⟩
              rw [hwt]
              clear hwt wt
              go_wp2_with fail
              refine (unhide Hnc wd_ (unhide HBd)).mono ?_
              rintro e w1 ⟨rfl, hb⟩
              have HB1 := hide ((unhide HBd).trans (hb.mono (unhide HBd).size))
              clear hb
              go_wp2
              go_roundw
              case rel =>
                first
                  | exact ⟨1 + 1, z, by omega, by go_num, hz8, rfl, Hz2, HB1⟩
                  | ((repeat apply Exists.intro); exact ⟨⟨1 + 1, z, by omega, by go_num, hz8, rfl, Hz2, HB1⟩, rfl⟩)
              case measure => simp [intOf]
          · have hix := idx2
            obtain ⟨tT, tP, tL, hwd_, hTe⟩ : ∃ tT tP tL : Int, widthOf 4 = .tuple #[.int .i64 tT, .int .i64 tP, .int .i64 tL, .bool true] ∧ tT = 3 := ⟨_, _, _, rfl, rfl⟩
            have Hwd := hide hwd_
            clear hwd_
            have hst : wTo U (2 + 1) = if 2 + 1 = U then 4 else wTo U 2 := rfl
            by_cases hTV : 2 + 1 = U
            · have de2 : (tT == (U : Int)) = true := by simp; omega
              clear hTe
              rw [if_pos hTV] at hst
              have Hz2 : Hid (4 = wTo U (2 + 1)) := hst.symm
              clear hst Hz hTV hj hj4 HB
              go_wp2_with fail
              refine (width_any 4 wd_).mono ?_
              rw [unhide Hwd]
              rintro e wt ⟨rfl, hwt⟩
              rw [hwt]
              clear hwt wt
              go_wp2_with fail
              refine (unhide Hnc wd_ (unhide HBd)).mono ?_
              rintro e w1 ⟨rfl, hb⟩
              have HB1 := hide ((unhide HBd).trans (hb.mono (unhide HBd).size))
              clear hb
              go_wp2
              go_roundw
              case rel =>
                first
                  | exact ⟨2 + 1, 4, by omega, by go_num, by omega, rfl, Hz2, HB1⟩
                  | ((repeat apply Exists.intro); exact ⟨⟨2 + 1, 4, by omega, by go_num, by omega, rfl, Hz2, HB1⟩, rfl⟩)
              case measure => simp [intOf]
            · have de2 : (tT == (U : Int)) = false := by simp; omega
              clear hTe
              rw [if_neg hTV] at hst
              have Hz2 : Hid (z = wTo U (2 + 1)) := by show _ = _; rw [hst]; exact unhide Hz
              clear hst Hz hTV hj hj4 HB
              go_wp2_with fail
              refine (width_any 4 wd_).mono ?_
              rw [unhide Hwd]
              rintro e wt ⟨rfl, hwt⟩
              rw [hwt]
              clear hwt wt
              go_wp2_with fail
              refine (unhide Hnc wd_ (unhide HBd)).mono ?_
              rintro e w1 ⟨rfl, hb⟩
              have HB1 := hide ((unhide HBd).trans (hb.mono (unhide HBd).size))
              clear hb
              go_wp2
              go_roundw
              case rel =>
                first
                  | exact ⟨2 + 1, z, by omega, by go_num, hz8, rfl, Hz2, HB1⟩
                  | ((repeat apply Exists.intro); exact ⟨⟨2 + 1, z, by omega, by go_num, hz8, rfl, Hz2, HB1⟩, rfl⟩)
              case measure => simp [intOf]
          · have hix := idx3
            obtain ⟨tT, tP, tL, hwd_, hTe⟩ : ∃ tT tP tL : Int, widthOf 8 = .tuple #[.int .i64 tT, .int .i64 tP, .int .i64 tL, .bool true] ∧ tT = 4 := ⟨_, _, _, rfl, rfl⟩
            have Hwd := hide hwd_
            clear hwd_
            have hst : wTo U (3 + 1) = if 3 + 1 = U then 8 else wTo U 3 := rfl
            by_cases hTV : 3 + 1 = U
            · have de2 : (tT == (U : Int)) = true := by simp; omega
              clear hTe
              rw [if_pos hTV] at hst
              have Hz2 : Hid (8 = wTo U (3 + 1)) := hst.symm
              clear hst Hz hTV hj hj4 HB
              go_wp2_with fail
              refine (width_any 8 wd_).mono ?_
              rw [unhide Hwd]
              rintro e wt ⟨rfl, hwt⟩
              rw [hwt]
              clear hwt wt
              go_wp2_with fail
              refine (unhide Hnc wd_ (unhide HBd)).mono ?_
              rintro e w1 ⟨rfl, hb⟩
              have HB1 := hide ((unhide HBd).trans (hb.mono (unhide HBd).size))
              clear hb
              go_wp2
              go_roundw
              case rel =>
                first
                  | exact ⟨3 + 1, 8, by omega, by go_num, by omega, rfl, Hz2, HB1⟩
                  | ((repeat apply Exists.intro); exact ⟨⟨3 + 1, 8, by omega, by go_num, by omega, rfl, Hz2, HB1⟩, rfl⟩)
              case measure => simp [intOf]
            · have de2 : (tT == (U : Int)) = false := by simp; omega
              clear hTe
              rw [if_neg hTV] at hst
              have Hz2 : Hid (z = wTo U (3 + 1)) := by show _ = _; rw [hst]; exact unhide Hz
              clear hst Hz hTV hj hj4 HB
              go_wp2_with fail
              refine (width_any 8 wd_).mono ?_
              rw [unhide Hwd]
              rintro e wt ⟨rfl, hwt⟩
              rw [hwt]
              clear hwt wt
              go_wp2_with fail
              refine (unhide Hnc wd_ (unhide HBd)).mono ?_
              rintro e w1 ⟨rfl, hb⟩
              have HB1 := hide ((unhide HBd).trans (hb.mono (unhide HBd).size))
              clear hb
              go_wp2
              go_roundw
              case rel =>
                first
                  | exact ⟨3 + 1, z, by omega, by go_num, hz8, rfl, Hz2, HB1⟩
                  | ((repeat apply Exists.intro); exact ⟨⟨3 + 1, z, by omega, by go_num, hz8, rfl, Hz2, HB1⟩, rfl⟩)
              case measure => simp [intOf]
        · obtain rfl : j = 4 := by omega
          have Hzf : Hid (z = wOf U) := unhide Hz
          clear Hz
          by_cases ha0 : 0 < a
          · have da : decide (0 < (a : Int)) = true := by simp; omega
            have da' : decide (0 < a) = true := by simp; omega
            by_cases hz0 : 0 < z
            · have dz : decide (0 < (z : Int)) = true := by simp; omega
              have dz' : decide (0 < z) = true := by simp; omega
              go_wp2
              exact bodyPost_ret (v := .tuple #[.int .i64 (a : Int), .int .i64 (z : Int), .bool true]) (by simp [results, Tryd.results42, go_sem]) rfl ⟨by rw [← unhide Haf, ← unhide Hzf, da', dz']; rfl, unhide HBd⟩
            · have dz : decide (0 < (z : Int)) = false := by simp; omega
              have dz' : decide (0 < z) = false := by simp; omega
              go_wp2
              exact bodyPost_ret (v := .tuple #[.int .i64 (a : Int), .int .i64 (z : Int), .bool false]) (by simp [results, Tryd.results42, go_sem]) rfl ⟨by rw [← unhide Haf, ← unhide Hzf, da', dz']; rfl, unhide HBd⟩
          · have da : decide (0 < (a : Int)) = false := by simp; omega
            have da' : decide (0 < a) = false := by simp; omega
            go_wp2
            exact bodyPost_ret (v := .tuple #[.int .i64 (a : Int), .int .i64 (z : Int), .bool false]) (by simp [results, Tryd.results42, go_sem]) rfl ⟨by rw [← unhide Haf, ← unhide Hzf, da']; rfl, unhide HBd⟩
end Go.Proofs.YtlhjifdahagkaaaDoor
/-
  What the program's functions of layer 7 are asked to do, as one record.
-/
namespace Go.Proofs.YtlhjifdahagkaaaDoor
open Go.RowKit
/-- The leaves' numbers, the highest level first. -/
def leavesOf (h n : Nat) : Nat → List Nat
  | 0 => [n % 2 ^ h]
  | l + 1 => leafAt h n (l + 1) :: leavesOf h n l
/-- WHAT THE LAYER PROMISES. R: what the calls want of the world (tables); H: the hash. -/
structure Lms (R : World → Prop) (H : Bs → Bs) : Prop where
  below : ∀ a b, R a → Below a.heap.size a b → R b
  hash : RefHash H
  count : ∀ (w : World) (L h wd : Nat) xi xs id seed, R w → BytesAt w xi id → BytesAt w xs seed → RightP (L : Int) (h : Int) (wd : Int) id seed → Calls Tryd.prog 15 #[keyV (L : Int) (h : Int) (wd : Int) xi xs] w fun e w' => e = .returned (.int .i64 ((2 ^ (h * L) : Nat) : Int)) ∧ Below w.heap.size w w'
  noCount : ∀ (w : World) (L h wd : Int) xi xs id seed, R w → BytesAt w xi id → BytesAt w xs seed → id.length ≤ 100 → seed.length ≤ 100 → ¬ RightP L h wd id seed → Calls Tryd.prog 15 #[keyV L h wd xi xs] w fun e w' => e = .returned (.int .i64 0) ∧ Below w.heap.size w w'
  public_ : ∀ (w : World) (L h wd : Nat) xi xs id seed, R w → BytesAt w xi id → BytesAt w xs seed → RightP (L : Int) (h : Int) (wd : Int) id seed → GivesE w 12 #[keyV (L : Int) (h : Int) (wd : Int) xi xs] (publicOf H L h wd id seed)
  noPublic : ∀ (w : World) (L h wd : Int) xi xs id seed, R w → BytesAt w xi id → BytesAt w xs seed → id.length ≤ 100 → seed.length ≤ 100 → ¬ RightP L h wd id seed → FailsE w 12 #[keyV L h wd xi xs] 11
  sign : ∀ (w : World) (L h wd n : Nat) xi xs xm id seed msg, R w → BytesAt w xi id → BytesAt w xs seed → BytesAt w xm msg → msg.length ≤ 500 → RightP (L : Int) (h : Int) (wd : Int) id seed → n < 2 ^ (h * L) → GivesE w 17 #[keyV (L : Int) (h : Int) (wd : Int) xi xs, .int .i64 (n : Int), xm] (signOf H L h wd id seed n msg)
  noSign : ∀ (w : World) (L h wd n : Int) xi xs xm id seed msg, R w → BytesAt w xi id → BytesAt w xs seed → BytesAt w xm msg → msg.length ≤ 500 → id.length ≤ 100 → seed.length ≤ 100 → ¬ RightP L h wd id seed → FailsE w 17 #[keyV L h wd xi xs, .int .i64 n, xm] 11
  usedSign : ∀ (w : World) (L h wd : Nat) (n : Int) xi xs xm id seed msg, R w → BytesAt w xi id → BytesAt w xs seed → BytesAt w xm msg → msg.length ≤ 500 → RightP (L : Int) (h : Int) (wd : Int) id seed → ¬ (0 ≤ n ∧ n < ((2 ^ (h * L) : Nat) : Int)) → FailsE w 17 #[keyV (L : Int) (h : Int) (wd : Int) xi xs, .int .i64 n, xm] 13
  verify : ∀ (w : World) xp xm xs pk msg sig, R w → BytesAt w xp pk → BytesAt w xm msg → BytesAt w xs sig → pk.length ≤ 200 → msg.length ≤ 600 → sig.length ≤ 40000 → Calls Tryd.prog 20 #[xp, xm, xs] w fun e w' => e = .returned (.bool (verifyB H pk msg sig)) ∧ Below w.heap.size w w'
  leaves : ∀ (w : World) (L h wd n : Nat) x id seed msg, R w → RightP (L : Int) (h : Int) (wd : Int) id seed → BytesAt w x (signOf H L h wd id seed n msg) → Calls Tryd.prog 21 #[x] w fun e w' => ∃ v, e = .returned (.tuple #[v, .bool true]) ∧ OwnV 3 w' w.heap.size v ((leavesOf h n (L - 1)).map fun (q : Nat) => Value.int .i64 (q : Int)) ∧ Below w.heap.size w w'
  anyLeaves : ∀ (w : World) x sig, R w → BytesAt w x sig → sig.length ≤ 40000 → Calls Tryd.prog 21 #[x] w fun e w' => ∃ (v : Value) (ok : Bool) (l : List Int), e = .returned (.tuple #[v, .bool ok]) ∧ OwnV 3 w' w.heap.size v (l.map (Value.int .i64)) ∧ (ok = true ∨ l = []) ∧ Below w.heap.size w w'
theorem right112 : RightP ((1 : Nat) : Int) ((1 : Nat) : Int) ((2 : Nat) : Int) (List.replicate 16 0) (List.replicate 32 0) := by unfold RightP; simp
theorem len_public (H : Bs → Bs) (hH : ∀ l, (H l).length = 32) (L h wd : Nat) {id seed : Bs} (hi : id.length = 16) : (publicOf H L h wd id seed).length = 60 := by
  unfold publicOf
  rw [List.length_append, len_big, len_tree H hH hi]
end Go.Proofs.YtlhjifdahagkaaaDoor
/-
  Where the key of the tree below is laid while the reference signs: what stands then, and that it lives through calls and appends.
-/
namespace Go.Proofs.YtlhjifdahagkaaaDoor
open Go.RowKit
/-- A block for a key that was just laid: its cells may be written. -/
def ZAt (w : World) (B : Nat) : Prop := B < w.heap.size ∧ w.rangeAt B 0 [.int .i64 0, .int .i64 0, .int .i64 0, .slice none 0 0, .slice none 0 0] ∧ ∀ j, w.frozen? ⟨B, j, none⟩ = false
theorem ZAt.below {a b : World} {B : Nat} (k : ZAt a B) (hb : Below a.heap.size a b) : ZAt b B :=
  ⟨Nat.lt_of_lt_of_le k.1 hb.size, fun j v hv => by rw [hb.cell (p := ⟨B, 0 + j, none⟩) k.1]; exact k.2.1 j v hv, fun j => by rw [World.frozen?_of_block (hb.block B k.1)]; exact k.2.2 j⟩
theorem ZAt.c {w : World} {B : Nat} (k : ZAt w B) (j : Nat) (v : Value) (hv : ([.int .i64 0, .int .i64 0, .int .i64 0, .slice none 0 0, .slice none 0 0] : List Value)[j]? = some v) : w.cell? ⟨B, j, none⟩ = some v := by
  have := k.2.1 j v hv
  rwa [Nat.zero_add] at this
theorem zat_new {w w' : World} (hb : Below (w.alloc (.cells #[.int .i64 0, .int .i64 0, .int .i64 0, .slice none 0 0, .slice none 0 0] 29)).heap.size (w.alloc (.cells #[.int .i64 0, .int .i64 0, .int .i64 0, .slice none 0 0, .slice none 0 0] 29)) w') : ZAt w' w.heap.size := by
  refine ZAt.below ⟨by simp, fun j v hv => ?_, fun j => ?_⟩ hb
  · rw [cell_of_row _ _ _ _ 29 (0, 0) (heap_alloc_new w _), Nat.zero_add]
    simpa using hv
  · exact frozen_of_row _ _ _ _ 29 (heap_alloc_new w _)
theorem zat_new2 {w w' : World} (hb : Below (w.alloc (.cells #[.int .i64 0, .int .i64 0, .int .i64 0, .slice none 0 0, .slice none 0 0] 29)).drew.drew.heap.size (w.alloc (.cells #[.int .i64 0, .int .i64 0, .int .i64 0, .slice none 0 0, .slice none 0 0] 29)).drew.drew w') : ZAt w' w.heap.size :=
  zat_new (((Below.refl _ _).drew.drew).trans hb)
theorem cell_far {w : World} {B K i j : Nat} {v : Value} (h : ¬ K = B) : (w.setCell ⟨B, i, none⟩ v).cell? ⟨K, j, none⟩ = w.cell? ⟨K, j, none⟩ := World.cell?_of_block (heap_setCell_other _ _ _ _ h)
theorem cell_old {w : World} {o : Obj} {K j : Nat} (h : K < w.heap.size) : (w.alloc o).cell? ⟨K, j, none⟩ = w.cell? ⟨K, j, none⟩ := ((Below.refl w.heap.size w).alloc (Nat.le_refl _) o).cell (p := ⟨K, j, none⟩) h
/-- A key written into a block. -/
def setKey (w : World) (B : Nat) (L h wd : Int) (xi xs : Value) : World := ((((w.setCell ⟨B, 0, none⟩ (.int .i64 L)).setCell ⟨B, 1, none⟩ (.int .i64 h)).setCell ⟨B, 2, none⟩ (.int .i64 wd)).setCell ⟨B, 3, none⟩ xi).setCell ⟨B, 4, none⟩ xs
theorem setKey_grown (w : World) (B : Nat) (L h wd : Int) (xi xs : Value) : w.grownBy (setKey w B L h wd xi xs) (some B) :=
  grown_setCell (grown_setCell (grown_setCell (grown_setCell (grown_setCell (World.grownBy.refl _ _) ⟨B, 0, none⟩ _ rfl) ⟨B, 1, none⟩ _ rfl) ⟨B, 2, none⟩ _ rfl) ⟨B, 3, none⟩ _ rfl) ⟨B, 4, none⟩ _ rfl
/-- Cells 0 to 4 of a block are there. -/
def FiveAt (w : World) (B : Nat) : Prop := ∃ cs : List Value, cs.length = 5 ∧ ∃ rest t, w.heap[B]? = some (.cells (cs ++ rest).toArray t (0, 0))
theorem setKey_at {w : World} {B : Nat} (h5 : FiveAt w B) (L h wd : Int) (xi xs : Value) : KeyAt (setKey w B L h wd xi xs) B L h wd xi xs ∧ FiveAt (setKey w B L h wd xi xs) B := by
  obtain ⟨cs, hl, rest, t, hh⟩ := h5
  obtain ⟨a, b, c, d, e, rfl⟩ : ∃ a b c d e, cs = [a, b, c, d, e] := by
    match cs, hl with
    | [a, b, c, d, e], _ => exact ⟨a, b, c, d, e, rfl⟩
  have hlt : B < w.heap.size := (Array.getElem?_eq_some_iff.1 hh).1
  have hf : (setKey w B L h wd xi xs).heap[B]? = some (.cells ([.int .i64 L, .int .i64 h, .int .i64 wd, xi, xs] ++ rest).toArray t (0, 0)) := by
    unfold setKey
    rw [heap_setCell_same _ B 4 _ t _ (heap_setCell_same _ B 3 _ t _ (heap_setCell_same _ B 2 _ t _ (heap_setCell_same _ B 1 _ t _ (heap_setCell_same w B 0 _ t _ hh))))]
    simp [List.setIfInBounds_toArray]
  refine ⟨⟨by rw [show (setKey w B L h wd xi xs).heap.size = w.heap.size from by unfold setKey; simp [World.size_setCell]]; exact hlt, fun j v hv => ?_⟩, ⟨_, rfl, rest, t, hf⟩⟩
  rw [cell_of_row _ _ _ _ t (0, 0) hf, Nat.zero_add, List.getElem?_toArray, List.getElem?_append_left (by have := (List.getElem?_eq_some_iff.1 hv).1; simpa [keyC] using this)]
  exact hv
theorem FiveAt.frozen {w : World} {B : Nat} (h : FiveAt w B) (j : Nat) : w.frozen? ⟨B, j, none⟩ = false := by
  obtain ⟨cs, _, rest, t, hh⟩ := h
  exact frozen_of_row _ _ _ _ t hh
theorem FiveAt.grown {a b : World} {B : Nat} {row : Option Nat} (h : FiveAt a B) (hg : a.grownBy b row) (hne : some B ≠ row) : FiveAt b B := by
  obtain ⟨cs, hl, rest, t, hh⟩ := h
  exact ⟨cs, hl, rest, t, by rw [hg.block B (Array.getElem?_eq_some_iff.1 hh).1 hne]; exact hh⟩
theorem FiveAt.below {a b : World} {B : Nat} (h : FiveAt a B) (hb : Below a.heap.size a b) : FiveAt b B := by
  obtain ⟨cs, hl, rest, t, hh⟩ := h
  exact ⟨cs, hl, rest, t, by rw [hb.block B (Array.getElem?_eq_some_iff.1 hh).1]; exact hh⟩
theorem five_new (w : World) (a b c d e : Value) (t : TypeId) : FiveAt (w.alloc (.cells #[a, b, c, d, e] t)) w.heap.size := ⟨[a, b, c, d, e], rfl, [], t, heap_alloc_new w _⟩
theorem KeyAt.grown {a b : World} {K : Nat} {L h wd : Int} {xi xs : Value} {row : Option Nat} (k : KeyAt a K L h wd xi xs) (hg : a.grownBy b row) (hne : some K ≠ row) : KeyAt b K L h wd xi xs :=
  ⟨Nat.lt_of_lt_of_le k.1 hg.size, fun j v hv => by rw [World.cell?_of_block (hg.block K k.1 hne)]; exact k.2 j v hv⟩
theorem BytesAt.grown {a b : World} {x : Value} {l : Bs} {g : Nat} (h : BytesAt a x l) (hg : a.grownBy b (some g)) (hne : x.ownBlock ≠ some g) : BytesAt b x l := ValsAt.grown h hg hne
theorem Row.grown {wb a b : World} {v : Value} {l : Bs} {g : Nat} (h : Row wb a v l) (hg : a.grownBy b (some g)) (hne : v.ownBlock ≠ some g) (hwb : wb.heap.size ≤ g) : Row wb b v l :=
  ⟨OwnV.kept h.own hg (Or.inr hne), h.b.grown hg h.b.size (fun k hk => by cases hk; exact hwb)⟩
/-- What stands: the key at K, its parts, the parts of the key below, the row of the signature. -/
structure PreAt (wA : World) (K : Nat) (L h wd : Int) (yi ys : Value) (i2 s2 : Bs) (ni ns : Value) (i3 s3 : Bs) (out : Value) (cur : Bs) (W : World) : Prop where
  key : KeyAt W K L h wd yi ys
  five : FiveAt W K
  hyi : BytesAt W yi i2
  hys : BytesAt W ys s2
  hni : BytesAt W ni i3
  hns : BytesAt W ns s3
  row : Row wA W out cur
  ai : Apart out yi
  as_ : Apart out ys
  an : Apart out ni
  an2 : Apart out ns
  ak : ∀ k, out.ownBlock = some k → k ≠ K
/-- And the key below at NB. -/
structure NextAt (wA : World) (K : Nat) (L h wd : Int) (yi ys : Value) (i2 s2 : Bs) (ni ns : Value) (i3 s3 : Bs) (out : Value) (cur : Bs) (NB : Nat) (W : World) : Prop extends PreAt wA K L h wd yi ys i2 s2 ni ns i3 s3 out cur W where
  next : KeyAt W NB L h wd ni ns
  ab : ∀ k, out.ownBlock = some k → k ≠ NB
section
variable {wA : World} {K : Nat} {L h wd : Int} {yi ys : Value} {i2 s2 : Bs} {ni ns : Value} {i3 s3 : Bs} {out : Value} {cur : Bs} {NB : Nat} {W W' : World}
theorem PreAt.call (p : PreAt wA K L h wd yi ys i2 s2 ni ns i3 s3 out cur W) (hb : Below W.heap.size W W') : PreAt wA K L h wd yi ys i2 s2 ni ns i3 s3 out cur W' :=
  ⟨p.key.below hb, p.five.below hb, p.hyi.below hb, p.hys.below hb, p.hni.below hb, p.hns.below hb, p.row.call hb, p.ai, p.as_, p.an, p.an2, p.ak⟩
theorem NextAt.call (p : NextAt wA K L h wd yi ys i2 s2 ni ns i3 s3 out cur NB W) (hb : Below W.heap.size W W') : NextAt wA K L h wd yi ys i2 s2 ni ns i3 s3 out cur NB W' :=
  ⟨p.toPreAt.call hb, p.next.below hb, p.ab⟩
theorem grew_block {v v' : Value} (hg : Grew W v W' v') {B : Nat} (hB : B < W.heap.size) (ha : ∀ k, v.ownBlock = some k → k ≠ B) : (∀ k, v'.ownBlock = some k → k ≠ B) ∧ some B ≠ v.ownBlock := by
  refine ⟨fun k hk => ?_, fun e => ha B e.symm rfl⟩
  rcases hg.2 with e | e
  · rw [e] at hk; exact ha k hk
  · rw [e] at hk; simp only [Option.some.injEq] at hk; omega
theorem NextAt.grew {out' : Value} {cur' : Bs} (p : NextAt wA K L h wd yi ys i2 s2 ni ns i3 s3 out cur NB W) (hr : Row wA W' out' cur') (hg : Grew W out W' out') (n1 : i2 ≠ []) (n2 : s2 ≠ []) (n3 : i3 ≠ []) (n4 : s3 ≠ []) : NextAt wA K L h wd yi ys i2 s2 ni ns i3 s3 out' cur' NB W' := by
  obtain ⟨bk, bk'⟩ := grew_block hg p.key.1 p.ak
  obtain ⟨bn, bn'⟩ := grew_block hg p.next.1 p.ab
  have h1 := hg.bytes p.ai p.hyi n1
  have h2 := hg.bytes p.as_ p.hys n2
  have h3 := hg.bytes p.an p.hni n3
  have h4 := hg.bytes p.an2 p.hns n4
  exact ⟨⟨p.key.grown hg.1 bk', p.five.grown hg.1 bk', h1.1, h2.1, h3.1, h4.1, hr, h1.2, h2.2, h3.2, h4.2, bk⟩, p.next.grown hg.1 bn', bn⟩
theorem PreAt.store (p : PreAt wA K L h wd yi ys i2 s2 ni ns i3 s3 out cur W) (h5 : FiveAt W NB) (hK : K ≠ NB) (b1 : yi.ownBlock ≠ some NB) (b2 : ys.ownBlock ≠ some NB) (b3 : ni.ownBlock ≠ some NB) (b4 : ns.ownBlock ≠ some NB) (b5 : out.ownBlock ≠ some NB) (hA : wA.heap.size ≤ NB) :
    NextAt wA K L h wd yi ys i2 s2 ni ns i3 s3 out cur NB (setKey W NB L h wd ni ns) := by
  have hg := setKey_grown W NB L h wd ni ns
  have hk : some K ≠ some NB := fun e => hK (by simpa using e)
  exact ⟨⟨p.key.grown hg hk, p.five.grown hg hk, p.hyi.grown hg b1, p.hys.grown hg b2, p.hni.grown hg b3, p.hns.grown hg b4, p.row.grown hg b5 hA, p.ai, p.as_, p.an, p.an2, p.ak⟩, (setKey_at h5 L h wd ni ns).1, fun k hk e => b5 (by rw [hk, e])⟩
theorem PreAt.alloc (p : PreAt wA K L h wd yi ys i2 s2 ni ns i3 s3 out cur W) : NextAt wA K L h wd yi ys i2 s2 ni ns i3 s3 out cur W.heap.size (W.alloc (.cells #[.int .i64 L, .int .i64 h, .int .i64 wd, ni, ns] 29)) :=
  ⟨p.call ((Below.refl _ _).alloc (Nat.le_refl _) _), key_new W L h wd ni ns 29, fun k hk e => by have := (World.ownsRow.lt p.row.own k hk).2; omega⟩
end
end Go.Proofs.YtlhjifdahagkaaaDoor
