/-
  The walks of sum, Sum128 and Sum256: the document's bytes, in new memory; nothing that was there has turned.
-/
import Derived.Test.YthddgmnppolajaaDoorRead
namespace Go.Proofs.YthddgmnppolajaaDoor
open Go.RowKit
theorem SpAt.fresh (w : World) (rate : Nat) : SpAt (w.alloc (.cells (scells lanes0 rate 0 false).toArray 52)) w.heap.size sp0.st rate sp0.pos false := ⟨rfl, heap_alloc_new w _⟩
theorem read_low (g : Nat) (w : World) (n : Int) (hn : n < 0) : Calls Tryd.prog 20 #[.pointer (some ⟨g, 0, none⟩), .int .i64 n] w fun e w' => e = .returned (.slice none 0 0) ∧ w' = w := by
  go_enter Tryd.func20, Tryd.ntmps20
  go_wp2
  go_ret
  exact ⟨rfl, rfl⟩
theorem read_high (g : Nat) (w : World) (n : Int) (hn : 65536 < n) : Calls Tryd.prog 20 #[.pointer (some ⟨g, 0, none⟩), .int .i64 n] w fun e w' => e = .returned (.slice none 0 0) ∧ w' = w := by
  have h0 : decide (n < 0) = false := by simp; omega
  go_enter Tryd.func20, Tryd.ntmps20
  go_wp2
  go_ret
  exact ⟨rfl, rfl⟩
theorem read_none (g : Nat) (w : World) (n : Int) (hn : n < 0 ∨ 65536 < n) : Calls Tryd.prog 20 #[.pointer (some ⟨g, 0, none⟩), .int .i64 n] w fun e w' => e = .returned (.slice none 0 0) ∧ w' = w :=
  hn.elim (read_low g w n) (read_high g w n)
/-- A new sponge, and what was written into it. -/
theorem soaked {w w2 : World} {rate : Nat} (hG : (w.alloc (.cells (scells lanes0 rate 0 false).toArray 52)).grownBy w2 (some w.heap.size)) : Below w.heap.size w w2 :=
  ((Below.refl w.heap.size w).alloc (Nat.le_refl _) _).grown hG (by simp) (fun k e => by cases e; exact Nat.le_refl _)
set_option maxRecDepth 100000 in
set_option maxHeartbeats 1000000 in
theorem sum128_in (w : World) (hT : NumAt w) (x : Value) (l : List UInt8) (hx : BytesAt w x l) (hl : l.length ≤ 4611686018427387904) (n : Nat) (hn : n ≤ 65536) :
    Calls Tryd.prog 22 #[.int .i64 128, x, .int .i64 (n : Int)] w fun e w' => ∃ v, e = .returned v ∧ OwnB w' w.heap.size v (shakeOf 168 l n) ∧ Below w.heap.size w w' := by
  have HT := hide hT
  have HX := hide hx
  clear hT hx
  go_enter Tryd.func22, Tryd.ntmps22
  go_wp2_with fail
  refine (new128 w).mono ?_
  rintro e w1 ⟨rfl, hw1⟩
  have hb1 : Below w.heap.size w w1 := by rw [hw1]; exact (Below.refl _ _).alloc (Nat.le_refl _) _
  have hS1 : SpAt w1 w.heap.size sp0.st 168 sp0.pos false := by rw [hw1]; exact SpAt.fresh w 168
  have H1 := hide hw1
  have HT1 := hide ((unhide HT).below hb1)
  have HX1 := hide ((unhide HX).below hb1)
  have HS1 := hide hS1
  clear hw1 hb1 hS1
  go_wp2_with fail
  refine (write_any w.heap.size (unhide HT).lt 168 (by omega) sp0 (by decide) w1 (unhide HS1) (unhide HT1) x l (unhide HX1) (fun hne e => by have := (unhide HX).old hne _ e; omega) hl).mono ?_
  rintro e w2 ⟨rfl, hS2, hG2⟩
  have hp := soak_pos 168 sp0 l (by decide)
  have HS2 := hide hS2
  have HT2 := hide ((unhide HT1).grown hG2 (unhide HT).lt)
  rw [unhide H1] at hG2
  have HB2 := hide (soaked hG2)
  clear hS2 hG2 HS1 HT1 HX1 H1
  go_wp2_with fail
  refine (read_first w.heap.size (unhide HT).lt 168 (by omega) (soak 168 sp0 l) hp w2 (unhide HS2) (unhide HT2) n hn).mono ?_
  rintro e w3 ⟨v, rfl, hO3, _, hG3⟩
  have HO := hide (hO3.mono (unhide HB2).size)
  have HB := hide ((unhide HB2).grown hG3 (unhide HB2).size (fun k e => by cases e; exact Nat.le_refl _))
  clear hO3 hG3
  go_wp2
  go_ret
  exact ⟨v, rfl, unhide HO, unhide HB⟩
set_option maxRecDepth 100000 in
set_option maxHeartbeats 1000000 in
theorem sum128_none (w : World) (hT : NumAt w) (x : Value) (l : List UInt8) (hx : BytesAt w x l) (hl : l.length ≤ 4611686018427387904) (n : Int) (hn : n < 0 ∨ 65536 < n) :
    Calls Tryd.prog 22 #[.int .i64 128, x, .int .i64 n] w fun e w' => e = .returned (.slice none 0 0) ∧ Below w.heap.size w w' := by
  have HT := hide hT
  have HX := hide hx
  have Hn := hide hn
  clear hT hx hn
  go_enter Tryd.func22, Tryd.ntmps22
  go_wp2_with fail
  refine (new128 w).mono ?_
  rintro e w1 ⟨rfl, hw1⟩
  have hb1 : Below w.heap.size w w1 := by rw [hw1]; exact (Below.refl _ _).alloc (Nat.le_refl _) _
  have hS1 : SpAt w1 w.heap.size sp0.st 168 sp0.pos false := by rw [hw1]; exact SpAt.fresh w 168
  have H1 := hide hw1
  have HT1 := hide ((unhide HT).below hb1)
  have HX1 := hide ((unhide HX).below hb1)
  have HS1 := hide hS1
  clear hw1 hb1 hS1
  go_wp2_with fail
  refine (write_any w.heap.size (unhide HT).lt 168 (by omega) sp0 (by decide) w1 (unhide HS1) (unhide HT1) x l (unhide HX1) (fun hne e => by have := (unhide HX).old hne _ e; omega) hl).mono ?_
  rintro e w2 ⟨rfl, hS2, hG2⟩
  rw [unhide H1] at hG2
  have HB2 := hide (soaked hG2)
  clear hS2 hG2 HS1 HT1 HX1 H1
  go_wp2_with fail
  refine (read_none w.heap.size w2 n (unhide Hn)).mono ?_
  rintro e w3 ⟨rfl, rfl⟩
  go_wp2
  go_ret
  exact ⟨rfl, unhide HB2⟩
theorem sum128_any (w : World) (hT : NumAt w) (x : Value) (l : List UInt8) (hx : BytesAt w x l) (hl : l.length ≤ 4611686018427387904) (n : Nat) (hn : n ≤ 65536) :
    Calls Tryd.prog 9 #[x, .int .i64 (n : Int)] w fun e w' => ∃ v, e = .returned v ∧ OwnB w' w.heap.size v (shakeOf 168 l n) ∧ Below w.heap.size w w' := by
  have HT := hide hT
  have HX := hide hx
  clear hT hx
  go_enter Tryd.func9, Tryd.ntmps9
  go_wp2_with fail
  refine (sum128_in w (unhide HT) x l (unhide HX) hl n hn).mono ?_
  rintro e w1 ⟨v, rfl, hO, hb⟩
  have HO := hide hO
  have HB := hide hb
  clear hO hb
  go_wp2
  go_ret
  exact ⟨v, rfl, unhide HO, unhide HB⟩
theorem sum128_bad (w : World) (hT : NumAt w) (x : Value) (l : List UInt8) (hx : BytesAt w x l) (hl : l.length ≤ 4611686018427387904) (n : Int) (hn : n < 0 ∨ 65536 < n) :
    Calls Tryd.prog 9 #[x, .int .i64 n] w fun e w' => e = .returned (.slice none 0 0) ∧ Below w.heap.size w w' := by
  have HT := hide hT
  have HX := hide hx
  have Hn := hide hn
  clear hT hx hn
  go_enter Tryd.func9, Tryd.ntmps9
  go_wp2_with fail
  refine (sum128_none w (unhide HT) x l (unhide HX) hl n (unhide Hn)).mono ?_
  rintro e w1 ⟨rfl, hb⟩
  have HB := hide hb
  clear hb
  go_wp2
  go_ret
  exact ⟨rfl, unhide HB⟩
set_option maxRecDepth 100000 in
set_option maxHeartbeats 1000000 in
theorem sum256_in (w : World) (hT : NumAt w) (x : Value) (l : List UInt8) (hx : BytesAt w x l) (hl : l.length ≤ 4611686018427387904) (n : Nat) (hn : n ≤ 65536) :
    Calls Tryd.prog 22 #[.int .i64 256, x, .int .i64 (n : Int)] w fun e w' => ∃ v, e = .returned v ∧ OwnB w' w.heap.size v (shakeOf 136 l n) ∧ Below w.heap.size w w' := by
  have HT := hide hT
  have HX := hide hx
  clear hT hx
  go_enter Tryd.func22, Tryd.ntmps22
  go_wp2_with fail
  refine (new256 w).mono ?_
  rintro e w1 ⟨rfl, hw1⟩
  have hb1 : Below w.heap.size w w1 := by rw [hw1]; exact (Below.refl _ _).alloc (Nat.le_refl _) _
  have hS1 : SpAt w1 w.heap.size sp0.st 136 sp0.pos false := by rw [hw1]; exact SpAt.fresh w 136
  have H1 := hide hw1
  have HT1 := hide ((unhide HT).below hb1)
  have HX1 := hide ((unhide HX).below hb1)
  have HS1 := hide hS1
  clear hw1 hb1 hS1
  go_wp2_with fail
  refine (write_any w.heap.size (unhide HT).lt 136 (by omega) sp0 (by decide) w1 (unhide HS1) (unhide HT1) x l (unhide HX1) (fun hne e => by have := (unhide HX).old hne _ e; omega) hl).mono ?_
  rintro e w2 ⟨rfl, hS2, hG2⟩
  have hp := soak_pos 136 sp0 l (by decide)
  have HS2 := hide hS2
  have HT2 := hide ((unhide HT1).grown hG2 (unhide HT).lt)
  rw [unhide H1] at hG2
  have HB2 := hide (soaked hG2)
  clear hS2 hG2 HS1 HT1 HX1 H1
  go_wp2_with fail
  refine (read_first w.heap.size (unhide HT).lt 136 (by omega) (soak 136 sp0 l) hp w2 (unhide HS2) (unhide HT2) n hn).mono ?_
  rintro e w3 ⟨v, rfl, hO3, _, hG3⟩
  have HO := hide (hO3.mono (unhide HB2).size)
  have HB := hide ((unhide HB2).grown hG3 (unhide HB2).size (fun k e => by cases e; exact Nat.le_refl _))
  clear hO3 hG3
  go_wp2
  go_ret
  exact ⟨v, rfl, unhide HO, unhide HB⟩
set_option maxRecDepth 100000 in
set_option maxHeartbeats 1000000 in
theorem sum256_none (w : World) (hT : NumAt w) (x : Value) (l : List UInt8) (hx : BytesAt w x l) (hl : l.length ≤ 4611686018427387904) (n : Int) (hn : n < 0 ∨ 65536 < n) :
    Calls Tryd.prog 22 #[.int .i64 256, x, .int .i64 n] w fun e w' => e = .returned (.slice none 0 0) ∧ Below w.heap.size w w' := by
  have HT := hide hT
  have HX := hide hx
  have Hn := hide hn
  clear hT hx hn
  go_enter Tryd.func22, Tryd.ntmps22
  go_wp2_with fail
  refine (new256 w).mono ?_
  rintro e w1 ⟨rfl, hw1⟩
  have hb1 : Below w.heap.size w w1 := by rw [hw1]; exact (Below.refl _ _).alloc (Nat.le_refl _) _
  have hS1 : SpAt w1 w.heap.size sp0.st 136 sp0.pos false := by rw [hw1]; exact SpAt.fresh w 136
  have H1 := hide hw1
  have HT1 := hide ((unhide HT).below hb1)
  have HX1 := hide ((unhide HX).below hb1)
  have HS1 := hide hS1
  clear hw1 hb1 hS1
  go_wp2_with fail
  refine (write_any w.heap.size (unhide HT).lt 136 (by omega) sp0 (by decide) w1 (unhide HS1) (unhide HT1) x l (unhide HX1) (fun hne e => by have := (unhide HX).old hne _ e; omega) hl).mono ?_
  rintro e w2 ⟨rfl, hS2, hG2⟩
  rw [unhide H1] at hG2
  have HB2 := hide (soaked hG2)
  clear hS2 hG2 HS1 HT1 HX1 H1
  go_wp2_with fail
  refine (read_none w.heap.size w2 n (unhide Hn)).mono ?_
  rintro e w3 ⟨rfl, rfl⟩
  go_wp2
  go_ret
  exact ⟨rfl, unhide HB2⟩
theorem sum256_any (w : World) (hT : NumAt w) (x : Value) (l : List UInt8) (hx : BytesAt w x l) (hl : l.length ≤ 4611686018427387904) (n : Nat) (hn : n ≤ 65536) :
    Calls Tryd.prog 10 #[x, .int .i64 (n : Int)] w fun e w' => ∃ v, e = .returned v ∧ OwnB w' w.heap.size v (shakeOf 136 l n) ∧ Below w.heap.size w w' := by
  have HT := hide hT
  have HX := hide hx
  clear hT hx
  go_enter Tryd.func10, Tryd.ntmps10
  go_wp2_with fail
  refine (sum256_in w (unhide HT) x l (unhide HX) hl n hn).mono ?_
  rintro e w1 ⟨v, rfl, hO, hb⟩
  have HO := hide hO
  have HB := hide hb
  clear hO hb
  go_wp2
  go_ret
  exact ⟨v, rfl, unhide HO, unhide HB⟩
theorem sum256_bad (w : World) (hT : NumAt w) (x : Value) (l : List UInt8) (hx : BytesAt w x l) (hl : l.length ≤ 4611686018427387904) (n : Int) (hn : n < 0 ∨ 65536 < n) :
    Calls Tryd.prog 10 #[x, .int .i64 n] w fun e w' => e = .returned (.slice none 0 0) ∧ Below w.heap.size w w' := by
  have HT := hide hT
  have HX := hide hx
  have Hn := hide hn
  clear hT hx hn
  go_enter Tryd.func10, Tryd.ntmps10
  go_wp2_with fail
  refine (sum256_none w (unhide HT) x l (unhide HX) hl n (unhide Hn)).mono ?_
  rintro e w1 ⟨rfl, hb⟩
  have HB := hide hb
  clear hb
  go_wp2
  go_ret
  exact ⟨rfl, unhide HB⟩
end Go.Proofs.YthddgmnppolajaaDoor
