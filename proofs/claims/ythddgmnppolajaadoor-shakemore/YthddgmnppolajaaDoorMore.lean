/-
  The walk of the statement ShakeMore: it returns true; nothing that was there has turned.
-/
import Derived.Test.YthddgmnppolajaaDoorAnchor
namespace Go.Proofs.YthddgmnppolajaaDoor
open Go.RowKit
theorem ib_xor (x y : UInt8) : bits .xor .u8 (ib x) (ib y) = ib (x ^^^ y) := by
  unfold ib; rw [u8_xor_nat _ _ x.toNat_lt y.toNat_lt, UInt8.toNat_xor]
theorem shake_get (rate : Nat) (l : List UInt8) (n i : Nat) (h : i < n) : (shakeOf rate l n).getD i 0 = tellB rate (startOf rate l) i := by
  unfold shakeOf tells
  rw [List.getD_eq_getElem?_getD, List.getElem?_map, List.getElem?_range h]
  simp
/-- A row of the call's own that is not empty: its block. -/
theorem OwnB.block {w : World} {B : Nat} {v : Value} {l : List UInt8} (h : OwnB w B v l) (hl : l ≠ []) : ∃ b c, v = .slice (some ⟨b, 0, none⟩) l.length c ∧ B ≤ b ∧ b < w.heap.size := by
  have h' := h
  obtain ⟨_, h2⟩ := h'
  rcases h2 with ⟨_, hn⟩ | ⟨b, cap, cur, rfl, hb, hh, _⟩
  · exact absurd (List.eq_nil_of_length_eq_zero hn) hl
  · exact ⟨b, cap, rfl, hb, (Array.getElem?_eq_some_iff.1 hh).1⟩
theorem OwnB.stored {w : World} {B b c n : Nat} {l : List UInt8} (h : OwnB w B (.slice (some ⟨b, 0, none⟩) n c) l) (hn : l.length = n) (j : Nat) (u : Value) : w.frozen? ⟨b, j, none⟩ = false ∧ w.grownBy (w.setCell ⟨b, j, none⟩ u) (some b) := by
  subst hn
  exact ⟨World.ownsRow.frozenAt h j, (World.ownsRow.stored h j u).2⟩
theorem OwnB.cellAt {w : World} {B b c n : Nat} {l : List UInt8} (h : OwnB w B (.slice (some ⟨b, 0, none⟩) n c) l) (hn : l.length = n) (j : Nat) (hj : j < l.length) : w.cell? ⟨b, j, none⟩ = some (.int .u8 (ib (l.getD j 0))) := by
  subst hn
  rw [World.ownsRow.cellAt h j (by omega)]
  simp [bv, List.getD_eq_getElem?_getD, hj]
set_option maxRecDepth 100000 in
set_option maxHeartbeats 2000000 in
theorem more_main (w : World) (hT : NumAt w) (sp : Option Addr) (cap : Nat) (l : List UInt8) (hb : BytesAt w (.slice sp l.length cap) l) (hl : l.length ≤ 2000) (n m : Nat) (h1 : 32 ≤ n) (h2 : n ≤ m) (h3 : m ≤ 2000) :
    Calls Tryd.prog 6 #[.slice sp l.length cap, .int .i64 (n : Int), .int .i64 (m : Int)] w fun e w' => e = .returned (.bool true) ∧ Below w.heap.size w w' := by
  have HT := hide hT
  have HX := hide hb
  clear hT hb
  have d1 : decide ((2000 : Int) < (l.length : Int)) = false := by simp; omega
  have d2 : decide ((n : Int) < 32) = false := by simp; omega
  have d3 : decide ((m : Int) < (n : Int)) = false := by simp; omega
  have d4 : decide ((2000 : Int) < (m : Int)) = false := by simp; omega
  go_enter Tryd.func6, Tryd.ntmps6
  go_wp2_with fail
  refine (anchor_any w (unhide HT)).mono ?_
  rintro e w1 ⟨rfl, hb1⟩
  have HT1 := hide ((unhide HT).below hb1)
  have HX1 := hide ((unhide HX).below hb1)
  have HB1 := hide hb1
  have hs1 := hb1.size
  clear hb1
  go_wp2_with fail
  refine (sum256_any w1 (unhide HT1) _ l (unhide HX1) (by omega) n (by omega)).mono ?_
  rintro e w2 ⟨v2, rfl, hO2, hb2⟩
  have HT2 := hide ((unhide HT1).below hb2)
  have HX2 := hide ((unhide HX1).below hb2)
  have HB2 := hide ((unhide HB1).trans (hb2.mono (unhide HB1).size))
  have HO2 := hide hO2
  clear hb2 hO2 HT1 HX1 HB1
  go_wp2_with fail
  refine (sum256_any w2 (unhide HT2) _ l (unhide HX2) (by omega) m (by omega)).mono ?_
  rintro e w3 ⟨v3, rfl, hO3, hb3⟩
  have hO2' := (unhide HO2).below hb3
  obtain ⟨b2, c2, rfl, hB2, hlt2⟩ := (unhide HO2).block (by intro e; have := length_shakeOf 136 l n; rw [e] at this; simp at this; omega)
  obtain ⟨b3, c3, rfl, hB3, hlt3⟩ := hO3.block (by intro e; have := length_shakeOf 136 l m; rw [e] at this; simp at this; omega)
  have hne : b2 ≠ b3 := by omega
  have hne3 := Ne.symm hne
  have hw2 : w.heap.size ≤ b2 := by omega
  have HO2x := hide hO2'
  have HO3 := hide hO3
  have HT3 := hide ((unhide HT2).below hb3)
  have HB3 := hide ((unhide HB2).trans (hb3.mono (unhide HB2).size))
  have q1 : (n : Int) ≤ (m : Int) := by omega
  have q0 : (32 : Int) ≤ (n : Int) := by omega
  have q2 : (m : Int) ≤ 2000 := by omega
  rw [length_shakeOf] at HO2x HO3 ⊢
  rw [length_shakeOf]
  clear hO2' hO3 hb3 HO2 HT2 HX2 HB2 hlt2 hlt3 hB2 hB3
  go_wp2
  go_loopw [47] (fun i wr => ∃ k : Nat, k ≤ n ∧ i = .int .i64 (k : Int) ∧ Hid (w3 = wr)) (fun i _ => n - (intOf i).toNat)
  case atStart => exact ⟨0, by omega, rfl, rfl⟩
  case round =>
    obtain ⟨k, hk, rfl, hw⟩ := hrel
    have hw' := unhide hw
    clear hw
    subst hw'
    by_cases hlt : k < n
    · have a2 := (unhide HO2x).cellAt (length_shakeOf _ _ _) k (by rw [length_shakeOf]; exact hlt)
      have a3 := (unhide HO3).cellAt (length_shakeOf _ _ _) k (by rw [length_shakeOf]; omega)
      rw [shake_get _ _ _ _ hlt] at a2
      rw [shake_get _ _ _ _ (Nat.lt_of_lt_of_le hlt h2)] at a3
      generalize tellB 136 (startOf 136 l) k = t at a2 a3
      have k0 : (0 : Int) ≤ (k : Int) := by omega
      have k1 : (k : Int) < (n : Int) := by omega
      have k2 : (k : Int) < (m : Int) := by omega
      go_wp2
      go_roundw
      case rel =>
        first
          | exact ⟨k + 1, by omega, by go_num, trivial⟩
          | exact ⟨k + 1, by omega, by go_num, rfl⟩
      case measure => simp [intOf]; omega
    · have a2 := (unhide HO2x).cellAt (length_shakeOf _ _ _) 0 (by rw [length_shakeOf]; omega)
      generalize (shakeOf 136 l n).getD 0 0 = t at a2
      have hx : bits .xor .u8 (ib t) 1 = ib (t ^^^ 1) := ib_xor t 1
      obtain ⟨f2, hg⟩ := (unhide HO2x).stored (length_shakeOf _ _ _) 0 (.int .u8 (ib (t ^^^ 1)))
      have hO4 := (unhide HO3).kept hg (Or.inr (by simp [Value.ownBlock]; omega))
      have hB4 := (unhide HB3).grown hg (unhide HB3).size (fun k e => by cases e; exact hw2)
      have hT4 := (unhide HT3).grown hg (Nat.lt_of_lt_of_le (unhide HT).lt hw2)
      have hX4 := (unhide HX).below hB4
      have q5 : (0 : Int) < (n : Int) := by omega
      have HO4 := hide hO4
      have HB4 := hide hB4
      have HT4 := hide hT4
      have HX4 := hide hX4
      clear hg hO4 hB4 hT4 hX4 HO2x HO3 HB3 HT3
      go_wp2_with fail
      generalize w3.setCell ⟨b2, 0, none⟩ (.int .u8 (ib (t ^^^ 1))) = w4 at HO4 HB4 HT4 HX4 ⊢
      refine (sum256_any w4 (unhide HT4) _ l (unhide HX4) (by omega) m (by omega)).mono ?_
      rintro e w5 ⟨v5, rfl, hO5, hb5⟩
      have HY := hide ((unhide HO4).below hb5).bytes
      have HZ := hide hO5.bytes
      have HB5 := hide ((unhide HB4).trans (hb5.mono (unhide HB4).size))
      clear hO5 hb5 HO4 HB4 HT4 HX4
      go_wp2_with fail
      refine (same_eq w5 v5 _ (shakeOf 136 l m) (unhide HZ) (unhide HY) (by rw [length_shakeOf]; omega)).mono ?_
      rintro e w6 ⟨rfl, hb6⟩
      have HB6 := hide ((unhide HB5).trans (hb6.mono (unhide HB5).size))
      clear hb6 HB5
      go_wp2
      go_ret
      exact ⟨rfl, unhide HB6⟩
set_option maxRecDepth 100000 in
set_option maxHeartbeats 1000000 in
theorem more_any (w : World) (hT : NumAt w) (sp : Option Addr) (cap : Nat) (l : List UInt8) (hb : BytesAt w (.slice sp l.length cap) l) (n m : Int) :
    Calls Tryd.prog 6 #[.slice sp l.length cap, .int .i64 n, .int .i64 m] w fun e w' => e = .returned (.bool true) ∧ Below w.heap.size w w' := by
  by_cases c1 : (2000 : Int) < (l.length : Int)
  · go_enter Tryd.func6, Tryd.ntmps6
    go_wp2_with fail
    refine (anchor_any w hT).mono ?_
    rintro e w1 ⟨rfl, hb1⟩
    go_wp2_with fail
    go_ret
    exact ⟨rfl, hb1⟩
  have d1 : decide ((2000 : Int) < (l.length : Int)) = false := by simp; omega
  by_cases c2 : n < 32
  · go_enter Tryd.func6, Tryd.ntmps6
    go_wp2_with fail
    refine (anchor_any w hT).mono ?_
    rintro e w1 ⟨rfl, hb1⟩
    go_wp2_with fail
    go_ret
    exact ⟨rfl, hb1⟩
  have d2 : decide (n < 32) = false := by simp; omega
  by_cases c3 : m < n
  · go_enter Tryd.func6, Tryd.ntmps6
    go_wp2_with fail
    refine (anchor_any w hT).mono ?_
    rintro e w1 ⟨rfl, hb1⟩
    go_wp2_with fail
    go_ret
    exact ⟨rfl, hb1⟩
  have d3 : decide (m < n) = false := by simp; omega
  by_cases c4 : 2000 < m
  · go_enter Tryd.func6, Tryd.ntmps6
    go_wp2_with fail
    refine (anchor_any w hT).mono ?_
    rintro e w1 ⟨rfl, hb1⟩
    go_wp2_with fail
    go_ret
    exact ⟨rfl, hb1⟩
  obtain ⟨n, rfl⟩ := Int.eq_ofNat_of_zero_le (show 0 ≤ n by omega)
  obtain ⟨m, rfl⟩ := Int.eq_ofNat_of_zero_le (show 0 ≤ m by omega)
  exact more_main w hT sp cap l hb (by omega) n m (by omega) (by omega) (by omega)
end Go.Proofs.YthddgmnppolajaaDoor
