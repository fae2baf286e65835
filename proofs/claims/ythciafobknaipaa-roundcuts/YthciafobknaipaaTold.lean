/-
  What the program's functions of layer 4 are asked to do, as one record; out of it: the anchor.
-/
import Derived.Test.YthciafobknaipaaProg
import Derived.Test.YthciafobknaipaaVals
import Derived.Test.YthciafobknaipaaCut
import Derived.Test.YthciafobknaipaaDigs
namespace Go.Proofs.Ythciafobknaipaa
open Go.RowKit
def ivals (l : List Int) : List Value := l.map (Value.int .i64)
def bvals (l : List Nat) : List Value := l.map fun (n : Nat) => Value.int .u8 (n : Int)
def tvals (l : List Bool) : List Value := l.map Value.bool
/-- Numbers of n bits each. -/
def Fits (n : Nat) (l : List Int) : Prop := ∀ x ∈ l, 0 ≤ x ∧ x < 2 ^ n
def nats (l : List Int) : List Nat := l.map Int.toNat
/-- The slice's slices hold these. -/
def ListsAt (w : World) (x : Value) (L : List (List Bool)) : Prop := ∃ vs : List Value, vs.length = L.length ∧ ValsAt w x vs ∧ ∀ i, i < L.length → ValsAt w (vs.getD i undef) (tvals (L.getD i []))
/-- The places that are true. -/
def placesOf (l : List Bool) : List Nat := (List.range l.length).filter fun k => l.getD k false
def placesAll (L : List (List Bool)) : List Nat := L.flatMap placesOf
/-- How many there are in the lists up to each. -/
def endsOf (L : List (List Bool)) : List Nat := (List.range L.length).map fun i => (placesAll (L.take (i + 1))).length
def hintBytes (most : Nat) (L : List (List Bool)) : List Nat := placesAll L ++ List.replicate (most - (placesAll L).length) 0 ++ endsOf L
def Hintable (most : Int) (L : List (List Bool)) : Prop := 0 ≤ most ∧ most ≤ 255 ∧ L.length ≤ 16 ∧ (∀ l ∈ L, l.length = 256) ∧ ((placesAll L).length : Int) ≤ most
def Gives (w : World) (f : FuncId) (args : Array Value) (e_ : TypeId) (cs : List Value) : Prop :=
  Calls Try.prog f args w fun e w' => ∃ v, e = .returned (.tuple #[v, .bool true]) ∧ OwnV e_ w' w.heap.size v cs ∧ Below w.heap.size w w'
def Refuses (w : World) (f : FuncId) (args : Array Value) : Prop :=
  Calls Try.prog f args w fun e w' => ∃ v, e = .returned (.tuple #[v, .bool false]) ∧ ValsAt w' v [] ∧ Below w.heap.size w w'
/-- WHAT THE LAYER PROMISES. R: what the calls want of the world (tables). -/
structure Round (R : World → Prop) : Prop where
  below : ∀ a b, R a → Below a.heap.size a b → R b
  power : ∀ w r, R w → 0 ≤ r → r < 8380417 → Calls Try.prog 11 #[.int .i64 r] w fun e w' => e = .returned (.tuple #[.int .i64 (pow1 r), .int .i64 (pow0 r)]) ∧ Below w.heap.size w w'
  dec : ∀ w r g, R w → Cuts g → 0 ≤ r → r < 8380417 → Calls Try.prog 13 #[.int .i64 r, .int .i64 g] w fun e w' => e = .returned (.tuple #[.int .i64 (dec1 r g), .int .i64 (dec0 r g)]) ∧ Below w.heap.size w w'
  hint : ∀ w z r g, R w → Cuts g → 0 ≤ z → z < 8380417 → 0 ≤ r → r < 8380417 → Calls Try.prog 15 #[.int .i64 z, .int .i64 r, .int .i64 g] w fun e w' => e = .returned (.bool (hintB z r g)) ∧ Below w.heap.size w w'
  use : ∀ w h r g, R w → Cuts g → 0 ≤ r → r < 8380417 → Calls Try.prog 17 #[.bool h, .int .i64 r, .int .i64 g] w fun e w' => e = .returned (.int .i64 (useOf h r g)) ∧ Below w.heap.size w w'
  pack : ∀ w x l (n : Nat), R w → ValsAt w x (ivals l) → l.length ≤ 1000 → 1 ≤ n → n ≤ 24 → Fits n l → Gives w 20 #[x, .int .i64 (n : Int)] 5 (bvals (packN n (nats l)))
  noPack : ∀ w x l (n : Int), R w → ValsAt w x (ivals l) → l.length ≤ 1000 → ¬ (1 ≤ n ∧ n ≤ 24 ∧ Fits n.toNat l) → Refuses w 20 #[x, .int .i64 n]
  unpack : ∀ w x b (n : Nat), R w → ValsAt w x (bvals b) → (∀ c ∈ b, c < 256) → b.length ≤ 3000 → 1 ≤ n → n ≤ 24 → Gives w 23 #[x, .int .i64 (n : Int)] 3 (ivals ((unpackN n b).map Int.ofNat))
  noUnpack : ∀ w x b (n : Int), R w → ValsAt w x (bvals b) → (∀ c ∈ b, c < 256) → b.length ≤ 3000 → ¬ (1 ≤ n ∧ n ≤ 24) → Refuses w 23 #[x, .int .i64 n]
theorem anchor_pack : packN 3 (nats [1, 2, 3]) = [209, 0] := by decide +kernel
theorem anchor_cuts : pow1 4097 = 1 ∧ pow0 4097 = -4095 ∧ dec1 8380416 95232 = 0 ∧ dec0 8380416 95232 = -1 := by decide +kernel
theorem fits3 : Fits 3 [1, 2, 3] := by
  intro x hx
  simp at hx
  rcases hx with rfl | rfl | rfl <;> decide
set_option maxRecDepth 100000 in
set_option maxHeartbeats 2000000 in
theorem anchor_any {R : World → Prop} (C : Round R) (w : World) (hR : R w) :
    Calls Try.prog 9 #[] w fun e w' => e = .returned (.bool true) ∧ Below w.heap.size w w' := by
  have HC := hide C
  have HR := hide hR
  clear C hR
  go_enter Try.func9, Try.ntmps9
  go_wp2_with fail
  refine ((unhide HC).power w 4097 (unhide HR) (by omega) (by omega)).mono ?_
  rw [anchor_cuts.1, anchor_cuts.2.1]
  rintro e w1 ⟨rfl, hb1⟩
  have HR1 := hide ((unhide HC).below _ _ (unhide HR) hb1)
  have HB1 := hide hb1
  clear hb1
  go_wp2_with fail
  refine ((unhide HC).dec w1 8380416 95232 (unhide HR1) (Or.inl rfl) (by omega) (by omega)).mono ?_
  rw [anchor_cuts.2.2.1, anchor_cuts.2.2.2]
  rintro e w2 ⟨rfl, hb2⟩
  have HR2 := hide ((unhide HC).below _ _ (unhide HR1) hb2)
  have HB2 := hide ((unhide HB1).trans (hb2.mono (unhide HB1).size))
  have hb3 : Below w2.heap.size w2 (w2.alloc (.cells (ivals [1, 2, 3]).toArray 3)) := (Below.refl _ _).alloc (Nat.le_refl _) _
  have HV := hide (vals_new w2 (ivals [1, 2, 3]) 3)
  have HR3 := hide ((unhide HC).below _ _ (unhide HR2) hb3)
  have HB3 := hide ((unhide HB2).trans (hb3.mono (unhide HB2).size))
  clear hb2 hb3 HR1 HB1
  go_wp2_with fail
  refine ((unhide HC).pack _ _ [1, 2, 3] 3 (unhide HR3) (unhide HV) (by decide) (by omega) (by omega) fits3).mono ?_
  rw [anchor_pack]
  rintro e w4 ⟨v4, rfl, hO4, hb4⟩
  obtain ⟨b, c, hv, _, _, hc⟩ := hO4.cellAt (by simp [bvals])
  rw [show (bvals [209, 0]).length = 2 from rfl] at hv
  subst hv
  have c0 : w4.cell? ⟨b, 0, none⟩ = some (.int .u8 209) := hc 0 (by decide)
  have c1 : w4.cell? ⟨b, 1, none⟩ = some (.int .u8 0) := hc 1 (by decide)
  have HB4 := hide ((unhide HB3).trans (hb4.mono (unhide HB3).size))
  clear hc hO4 hb4 HB3 HR3 HV HB2 HR2
  go_wp2
  go_ret
  exact ⟨rfl, unhide HB4⟩
end Go.Proofs.Ythciafobknaipaa
