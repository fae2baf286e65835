/-
  The walk of the landed head.
-/
import Derived.Test.YtngkidlgcdofhabDoorKn
import Derived.Test.YtngkidlgcdofhabDoorKg
namespace Go.Proofs.YtngkidlgcdofhabDoor
open Go.RowKit
namespace K
theorem or32 : ∀ (c : Fin 4) (t : Fin 32), bits .or .u8 ((64 * c.val + t.val : Nat) : Int) 32 = ((64 * c.val + 32 + t.val : Nat) : Int) := by decide +kernel
theorem ownb_one (w : World) (z : Nat) (β : UInt8) (h : β.toNat = z) : OwnB (w.alloc (.cells #[.int .u8 (z : Int)] 5)) w.heap.size (.slice (some ⟨w.heap.size, 0, none⟩) 1 1) [β] := by
  subst h
  exact ⟨rfl, Or.inr ⟨w.heap.size, 1, _, rfl, Nat.le_refl _, heap_alloc_new w _, Nat.le_refl _, by simp [maxLen], rfl, rfl⟩⟩
/-- The first byte. -/
def firstN (c t : Nat) (m : Bool) : Nat := 64 * c + (if m then 32 else 0) + min t 31
theorem tagB_short {c t : Nat} {m : Bool} (h : t < 31) : tagB c t m = [UInt8.ofNat (firstN c t m)] := by
  unfold tagB firstN
  rw [if_pos h, Nat.min_eq_left (by omega)]
theorem tagB_long {c t : Nat} {m : Bool} (h : ¬ t < 31) : tagB c t m = [UInt8.ofNat (firstN c t m)] ++ tgs t := by
  unfold tagB firstN tgs tgTo
  rw [if_neg h, Nat.min_eq_right (by omega)]
  simp
set_option maxRecDepth 100000 in
set_option maxHeartbeats 8000000 in
theorem head_c (c t n : Nat) (m : Bool) (s1 s2 : Option Addr) (n1 c1 n2 c2 : Nat) (w : World) (hc : c ≤ 3) (ht : t < 2097152) (hn : n < 16777216) :
    GivesB w 22 #[.agg #[.int .i64 (c : Int), .int .i64 (t : Int), .bool m, .slice s1 n1 c1, .slice s2 n2 c2], .int .i64 (n : Int)] (tagB c t m ++ lenB n) := by
  unfold GivesB
  have hA := Blk.new (Below.refl w.heap.size w) #[.int .i64 (c : Int), .int .i64 (t : Int), .bool m, .slice s1 n1 c1, .slice s2 n2 c2] 26
  obtain ⟨w1, hw1⟩ : ∃ w1, w.alloc (.cells #[.int .i64 (c : Int), .int .i64 (t : Int), .bool m, .slice s1 n1 c1, .slice s2 n2 c2] 26) = w1 := ⟨_, rfl⟩
  obtain ⟨A, eA⟩ : ∃ A, w.heap.size = A := ⟨_, rfl⟩
  rw [hw1, eA] at hA
  have k0 := hA.cell 0 _ rfl
  have k1 := hA.cell 1 _ rfl
  have k2 := hA.cell 2 _ rfl
  obtain ⟨C6, hC6⟩ : ∃ C6, c * 64 = C6 := ⟨_, rfl⟩
  have eC6 : (c : Int) * 64 = (C6 : Int) := by omega
  have uC6 : IntKind.i64.wrap (C6 : Int) = (C6 : Int) := IntWalk.i64_in _ (by omega)
  obtain ⟨T, hT⟩ : ∃ T, min t 31 = T := ⟨_, rfl⟩
  obtain ⟨F, hF⟩ : ∃ F, 64 * c + T = F := ⟨_, rfl⟩
  have hTb : T ≤ 31 := by rw [← hT]; exact Nat.min_le_right _ _
  have hor : bits .or .i64 (C6 : Int) (T : Int) = (F : Int) := by
    rw [or_i64 C6 T (by omega) (by omega), ← hC6, show c * 64 = c * 2 ^ 6 from rfl, or_add c T 6 (by omega)]
    omega
  have uF : IntKind.u8.wrap (F : Int) = (F : Int) := by rw [IntKind.wrap_u8']; omega
  obtain ⟨G, hG⟩ : ∃ G, firstN c t m = G := ⟨_, rfl⟩
  have hGb : G < 256 := by rw [← hG]; unfold firstN; rw [hT]; split <;> omega
  have hor32 : m = true → bits .or .u8 (F : Int) 32 = (G : Int) := fun hm => by
    have h1 := or32 ⟨c, by omega⟩ ⟨T, by omega⟩
    simp only [hF] at h1
    rw [h1, ← hG]
    unfold firstN
    rw [hT, if_pos hm]
  have hGF : m = false → G = F := fun hm => by rw [← hG]; unfold firstN; rw [hT, if_neg (by rw [hm]; simp)]; omega
  -- the row of the first byte
  have hA2 := hA.lit (.cells #[.int .u8 (G : Int)] 5)
  have HO := hide (ownb_one w1 G (UInt8.ofNat G) (by rw [byte_let]; omega))
  have Hb12 : Hid (Below w1.heap.size w1 (w1.alloc (.cells #[.int .u8 (G : Int)] 5))) := (Below.refl _ _).alloc (Nat.le_refl _) _
  have HR : Hid (Row w1 (w1.alloc (.cells #[.int .u8 (G : Int)] 5)) (.slice (some ⟨w1.heap.size, 0, none⟩) 1 1) [UInt8.ofNat G]) := ⟨unhide HO, unhide Hb12⟩
  obtain ⟨w2, hw2⟩ : ∃ w2, w1.alloc (.cells #[.int .u8 (G : Int)] 5) = w2 := ⟨_, rfl⟩
  rw [hw2] at hA2 HR
  have j1 := hA2.cell 1 _ rfl
  have HA := hide hA
  have HA2 := hide hA2
  obtain ⟨B, eB⟩ : ∃ B, w1.heap.size = B := ⟨_, rfl⟩
  rw [eB] at HR
  have HB := hide eB
  clear hA hA2 hC6 HO Hb12 hF
  have hmin : min (t : Int) 31 = (T : Int) := by rw [← hT]; omega
  by_cases h31 : t < 31
  · have HT : Hid (tagB c t m = [UInt8.ofNat G]) := by show _ = _; rw [tagB_short h31, hG]
    have d1 : decide ((31 : Int) ≤ (t : Int)) = false := by simp; omega
    have d1n : decide (31 ≤ t) = false := by simp; omega
    have Hp := hide (plen_c w1 w2 _ _ n (unhide HR) (by simp) hn)
    clear hT h31 hG
    cases m with
    | false =>
      have hgf := hGF rfl
      have hw2' : w1.alloc (.cells #[.int .u8 (F : Int)] 5) = w2 := by rw [← hgf]; exact hw2
      clear hGF hor32 hgf hw2
      go_enter Tryd.func22, Tryd.ntmps22
      go_wp2_with fail
      refine (unhide Hp).mono ?_
      rintro e w3 ⟨v3, rfl, hR3⟩
      have HR4 := hide hR3
      clear hR3 Hp
      go_wp2
      go_ret
      exact ⟨_, rfl, by rw [unhide HT]; exact (unhide HR4).up (unhide HA).b⟩
    | true =>
      have ho := hor32 rfl
      clear hGF hor32
      go_enter Tryd.func22, Tryd.ntmps22
      go_wp2_with fail
      refine (unhide Hp).mono ?_
      rintro e w3 ⟨v3, rfl, hR3⟩
      have HR4 := hide hR3
      clear hR3 Hp
      go_wp2
      go_ret
      exact ⟨_, rfl, by rw [unhide HT]; exact (unhide HR4).up (unhide HA).b⟩
  · have HT : Hid (tagB c t m = [UInt8.ofNat G] ++ tgs t) := by show _ = _; rw [tagB_long h31, hG]
    have d1 : decide ((31 : Int) ≤ (t : Int)) = true := by simp; omega
    have d1n : decide (31 ≤ t) = true := by simp; omega
    have Hp := hide (ptag_c w1 w2 _ _ t (unhide HR) (by simp) ht)
    have Hq : Hid (∀ (w3 : World) (v3 : Value), Row w1 w3 v3 ([UInt8.ofNat G] ++ tgs t) → Calls Tryd.prog 30 #[v3, .int .i64 (n : Int)] w3 fun e w' => ∃ v', e = .returned v' ∧ Row w1 w' v' ([UInt8.ofNat G] ++ tgs t ++ lenB n)) := fun w3 v3 h => plen_c w1 w3 v3 _ n h (by
      have := tg_le 0 t
      unfold tgs
      simp only [List.length_append, List.length_singleton]
      omega) hn
    clear hT hG h31
    cases m with
    | false =>
      have hgf := hGF rfl
      have hw2' : w1.alloc (.cells #[.int .u8 (F : Int)] 5) = w2 := by rw [← hgf]; exact hw2
      clear hGF hor32 hgf hw2
      go_enter Tryd.func22, Tryd.ntmps22
      go_wp2_with fail
      refine (unhide Hp).mono ?_
      rintro e w3 ⟨v3, rfl, hR3⟩
      have Hc3 := hide (unhide Hq w3 v3 hR3)
      clear hR3 Hp
      go_wp2_with fail
      refine (unhide Hc3).mono ?_
      rintro e w4 ⟨v4, rfl, hR4⟩
      have HR4 := hide hR4
      clear hR4 Hc3
      go_wp2
      go_ret
      exact ⟨_, rfl, by rw [unhide HT]; exact (unhide HR4).up (unhide HA).b⟩
    | true =>
      have ho := hor32 rfl
      clear hGF hor32
      go_enter Tryd.func22, Tryd.ntmps22
      go_wp2_with fail
      refine (unhide Hp).mono ?_
      rintro e w3 ⟨v3, rfl, hR3⟩
      have Hc3 := hide (unhide Hq w3 v3 hR3)
      clear hR3 Hp
      go_wp2_with fail
      refine (unhide Hc3).mono ?_
      rintro e w4 ⟨v4, rfl, hR4⟩
      have HR4 := hide hR4
      clear hR4 Hc3
      go_wp2
      go_ret
      exact ⟨_, rfl, by rw [unhide HT]; exact (unhide HR4).up (unhide HA).b⟩
end K
end Go.Proofs.YtngkidlgcdofhabDoor
