/-
  The walk of the statement ShaLong: it returns true; nothing that was there has turned.
-/
import Derived.Test.YtodcpcdhkghgnaaDoorRefSum
namespace Go.Proofs.YtodcpcdhkghgnaaDoor
open Go.RowKit
theorem OwnB.grown {a b : World} {B g : Nat} {v : Value} {l : List UInt8} (h : OwnB a B v l) (hg : a.grownBy b (some g)) (hB : g < B) : OwnB b B v l := by
  obtain ⟨h1, h2⟩ := h
  refine ⟨h1, ?_⟩
  rcases h2 with h2 | ⟨n, cap, cur, hv, hb, hh, r⟩
  · exact Or.inl h2
  · exact Or.inr ⟨n, cap, cur, hv, hb, by rw [hg.block _ (Array.getElem?_eq_some_iff.1 hh).1 (by simp; omega)]; exact hh, r⟩
theorem HashAt.kept {a b : World} {g B : Nat} {s : HS} {row : Option Nat} (h : HashAt a g s) (hg : a.grownBy b row) (hB : g < B) (hr : ∀ k, row = some k → B ≤ k) : HashAt b g s := by
  unfold HashAt
  rw [hg.block _ (Array.getElem?_eq_some_iff.1 h).1 (by intro e; have := hr g e.symm; omega)]
  exact h
theorem Ready.kept {a b : World} {B : Nat} {row : Option Nat} (h : Ready a) (hg : a.grownBy b row) (hB : 1 < B) (hr : ∀ k, row = some k → B ≤ k) : Ready b := by
  cases row with
  | none => exact h.grown (g := B) (hg.but _) hB
  | some k => exact h.grown hg (by have := hr k rfl; omega)
/-- The object in block g, what it was told in memory behind it; nothing that was there has turned. -/
structure Told (w : World) (g : Nat) (v : Value) (l : List UInt8) (wr : World) : Prop where
  h : HashAt wr g (feed hs0 l)
  r : Ready wr
  o : OwnB wr (g + 1) v l
  bel : Below w.heap.size w wr
  gl : g < wr.heap.size
  gw : w.heap.size ≤ g
  g1 : 1 < g
theorem Told.below {w : World} {g : Nat} {v : Value} {l : List UInt8} {a b : World} (i : Told w g v l a) (hb : Below a.heap.size a b) : HashAt b g (feed hs0 l) ∧ Ready b ∧ BytesAt b v l ∧ Below w.heap.size w b :=
  ⟨i.h.below hb, i.r.below hb, i.o.bytes.below hb, i.bel.trans (hb.mono i.bel.size)⟩
set_option maxRecDepth 100000 in
set_option maxHeartbeats 2000000 in
theorem long_any (w : World) (hr : Ready w) (b : UInt8) (n : Int) :
    Calls Tryd.prog 5 #[.int .u8 (ib b), .int .i64 n] w fun e w' => e = .returned (.bool true) ∧ Below w.heap.size w w' := by
  have Hr := hide hr
  clear hr
  by_cases h1 : n < 0
  · go_enter Tryd.func5, Tryd.ntmps5
    go_wp2_with fail
    refine (anchor_any w (unhide Hr)).mono ?_
    rintro e w1 ⟨rfl, hb1⟩
    go_wp2_with fail
    go_ret
    exact ⟨rfl, hb1⟩
  by_cases h2 : 1000 < n
  · have d1 : decide (n < 0) = false := by simpa using h1
    go_enter Tryd.func5, Tryd.ntmps5
    go_wp2_with fail
    refine (anchor_any w (unhide Hr)).mono ?_
    rintro e w1 ⟨rfl, hb1⟩
    go_wp2_with fail
    go_ret
    exact ⟨rfl, hb1⟩
  have d1 : decide (n < 0) = false := by simpa using h1
  have d2 : decide (1000 < n) = false := by simpa using h2
  obtain ⟨n, rfl⟩ := Int.eq_ofNat_of_zero_le (show 0 ≤ n by omega)
  have hn : n ≤ 1000 := by omega
  go_enter Tryd.func5, Tryd.ntmps5
  go_wp2_with fail
  refine (anchor_any w (unhide Hr)).mono ?_
  rintro e w1 ⟨rfl, hb1⟩
  have Hr1 := hide ((unhide Hr).below hb1)
  have Hb1 := hide hb1
  clear hb1
  go_wp2_with fail
  refine (new_any w1 (unhide Hr1).1).mono ?_
  rintro e w2 ⟨rfl, hw2⟩
  have T2 : Told w w1.heap.size (.slice none 0 0) [] w2 := by
    rw [hw2]
    have hb2 : Below w1.heap.size w1 (w1.alloc (.cells (hcells hs0).toArray 47)) := (Below.refl _ _).alloc (Nat.le_refl _) _
    exact ⟨heap_alloc_new _ _, (unhide Hr1).below hb2, ⟨rfl, Or.inl ⟨rfl, rfl⟩⟩, (unhide Hb1).trans (hb2.mono (unhide Hb1).size), by simp, (unhide Hb1).size, (unhide Hr1).lt⟩
  have HT2 := hide T2
  clear hw2 Hr1 Hb1 T2
  generalize w1.heap.size = g at HT2 ⊢
  go_wp2
  go_loopw [6, 7] (fun v i wr => ∃ k : Nat, k ≤ n ∧ i = .int .i64 k ∧ Told w g v (List.replicate k b) wr) (fun _ i _ => n - (intOf i).toNat)
  case atStart => exact ⟨0, by omega, rfl, unhide HT2⟩
  case round =>
    obtain ⟨k, hk, rfl, hT⟩ := hrel
    clear HT2
    obtain ⟨sp', c', rfl⟩ := hT.o.form
    rw [List.length_replicate]
    have HT := hide hT
    have hgl := hT.gl
    by_cases hlt : k < n
    · have k1 : (k : Int) < (n : Int) := by omega
      have hb3 : Below wr.heap.size wr (wr.alloc (.cells (([b] : List UInt8).map bv).toArray 5)) := (Below.refl _ _).alloc (Nat.le_refl _) _
      have B3 := hide ((unhide HT).below hb3)
      have O3 := hide (hT.o.alloc (.cells (([b] : List UInt8).map bv).toArray 5))
      have hfo := feed_ok hs0 (List.replicate k b) hs0_ok
      have hft := feed_told hs0 (List.replicate k b)
      have z3 : hs0.told = 0 := rfl
      rw [List.length_replicate] at hft
      clear hT hb3
      go_wp2_with fail
      refine (write_val g (unhide HT).g1 (feed hs0 (List.replicate k b)) hfo (wr.alloc (.cells (([b] : List UInt8).map bv).toArray 5)) (unhide B3).1 (unhide B3).2.1.2 _ [b] (bytes_new wr [b] 5 (by simp)) (fun _ e => by have e2 : wr.heap.size = g := Option.some.inj e; omega) (by simp; omega)).mono ?_
      rintro e w3 ⟨rfl, hH3, hG3⟩
      rw [← feed_append, ← List.replicate_succ'] at hH3
      have R4 := (unhide B3).2.1.grown hG3 (unhide HT).g1
      have O4 := (unhide O3).grown hG3 (Nat.lt_succ_self g)
      have L4 : Below w.heap.size w w3 := (unhide B3).2.2.2.grown hG3 (unhide B3).2.2.2.size (fun k hk => by cases hk; exact (unhide HT).gw)
      have hs3 := hG3.size
      have hgs : g + 1 ≤ w3.heap.size := by simp at hs3; omega
      clear B3 O3 hfo hft hG3
      have HH3 := hide hH3
      have HR4 := hide R4
      have HO4 := hide O4
      have HL4 := hide L4
      clear hH3 R4 O4 L4
      rw [List.length_replicate] at HO4
      go_wp2_with (at_builtin; refine wpList_append_bytes rfl _ _ rfl (g + 1) (.slice sp' k c') (.slice (some ⟨w3.heap.size, 0, none⟩) 1 1) (List.replicate k b) [b] rfl (OwnB.alloc (unhide HO4) _) rfl (bytes_new w3 [b] 5 (by simp)) (by simp; omega) (by simp; omega) ?_; intro v5 w5 hO5 hg5)
      rw [← List.replicate_succ'] at hO5
      have hb4 : Below w3.heap.size w3 (w3.alloc (.cells (([b] : List UInt8).map bv).toArray 5)) := (Below.refl _ _).alloc (Nat.le_refl _) _
      have hfr : ∀ j, (Value.slice sp' k c').ownBlock = some j → g + 1 ≤ j := fun j hj => (unhide HO4).fresh j hj
      have hgw := (unhide HT).gw
      have T5 : Told w g v5 (List.replicate (k + 1) b) w5 :=
        ⟨((unhide HH3).below hb4).kept hg5 (Nat.lt_succ_self g) hfr, ((unhide HR4).below hb4).kept hg5 (by have := (unhide HT).g1; omega) hfr, hO5,
          ((unhide HL4).trans (hb4.mono (unhide HL4).size)).grown hg5 (by simp; omega) (fun j hj => by have := hfr j hj; omega), by have := hg5.size; simp at this; omega, hgw, (unhide HT).g1⟩
      go_roundw
      case rel =>
        first
          | exact ⟨k + 1, by omega, by go_num, T5⟩
          | ((repeat apply Exists.intro); exact ⟨⟨k + 1, by omega, by go_num, T5⟩, rfl⟩)
      case measure => simp [intOf]; omega
    · obtain rfl : k = n := by omega
      have hfo := feed_ok hs0 (List.replicate k b) hs0_ok
      have hft := feed_told hs0 (List.replicate k b)
      have z3 : hs0.told = 0 := rfl
      rw [List.length_replicate] at hft
      have hlen : (List.replicate k b).length = k := List.length_replicate
      clear hT
      generalize List.replicate k b = l at HT hfo hft hlen
      subst hlen
      go_wp2_with fail
      refine (hsum_any g (feed hs0 l) hfo wr (unhide HT).r.lt (unhide HT).h (unhide HT).r.2 (by omega)).mono ?_
      rintro e w4 ⟨v4, rfl, hO4, hb4⟩
      have I4 := hide ((unhide HT).below hb4)
      have B4 := hide (show BytesAt w4 v4 (shaOf l) from hO4.bytes)
      clear hO4 hb4 HT
      go_wp2_with fail
      refine (refSum_any w4 sp' c' l (unhide I4).2.2.1 (by omega)).mono ?_
      rintro e w5 ⟨v5, rfl, hO5, hb5⟩
      have I5 := hide (show Ready w5 ∧ BytesAt w5 _ l ∧ Below w.heap.size w w5 from ⟨(unhide I4).2.1.below hb5, (unhide I4).2.2.1.below hb5, (unhide I4).2.2.2.trans (hb5.mono (unhide I4).2.2.2.size)⟩)
      have B5 := hide ((unhide B4).below hb5)
      have C5 := hide hO5.bytes
      clear hO5 hb5 I4 B4
      go_wp2_with fail
      refine (same_eq w5 v4 v5 (shaOf l) (unhide B5) (unhide C5) (by rw [length_shaOf]; omega)).mono ?_
      rintro e w6 ⟨rfl, hb6⟩
      have I6 := hide (show Ready w6 ∧ BytesAt w6 _ l ∧ Below w.heap.size w w6 from ⟨(unhide I5).1.below hb6, (unhide I5).2.1.below hb6, (unhide I5).2.2.trans (hb6.mono (unhide I5).2.2.size)⟩)
      clear hb6 I5 B5 C5
      go_wp2_with fail
      refine (sum_any w6 (unhide I6).1 _ l (unhide I6).2.1 (by omega)).mono ?_
      rintro e w7 ⟨v7, rfl, hO7, hb7⟩
      have I7 := hide (show Ready w7 ∧ BytesAt w7 _ l ∧ Below w.heap.size w w7 from ⟨(unhide I6).1.below hb7, (unhide I6).2.1.below hb7, (unhide I6).2.2.trans (hb7.mono (unhide I6).2.2.size)⟩)
      have B7 := hide hO7.bytes
      clear hO7 hb7 I6
      go_wp2_with fail
      refine (refSum_any w7 sp' c' l (unhide I7).2.1 (by omega)).mono ?_
      rintro e w8 ⟨v8, rfl, hO8, hb8⟩
      have L8 := hide ((unhide I7).2.2.trans (hb8.mono (unhide I7).2.2.size))
      have B8 := hide ((unhide B7).below hb8)
      have C8 := hide hO8.bytes
      clear hO8 hb8 I7 B7
      go_wp2_with fail
      refine (same_eq w8 v7 v8 (shaOf l) (unhide B8) (unhide C8) (by rw [length_shaOf]; omega)).mono ?_
      rintro e w9 ⟨rfl, hb9⟩
      have L9 := hide ((unhide L8).trans (hb9.mono (unhide L8).size))
      clear hb9 B8 C8 L8
      go_wp2_with fail
      go_ret
      exact ⟨rfl, unhide L9⟩
end Go.Proofs.YtodcpcdhkghgnaaDoor
