/-
  The walk of the statement ShaSplits: wherever a message is cut in two, it returns true; nothing that was there has turned.
-/
import Derived.Test.YtodcpcdhkghgnaaDoorCuts
namespace Go.Proofs.YtodcpcdhkghgnaaDoor
open Go.RowKit
theorem length_shaOf (l : List UInt8) : (shaOf l).length = 32 := by
  unfold shaOf digest
  have h := (feed_ok (feed hs0 l) (padOf (feed hs0 l).told) (feed_ok hs0 l hs0_ok)).1
  have e : (feed (feed hs0 l) (padOf (feed hs0 l).told)).st.flatMap wordBytes = outTo (feed (feed hs0 l) (padOf (feed hs0 l).told)).st 8 := by
    unfold outTo; rw [List.take_of_length_le (by omega)]
  rw [e, length_outTo _ _ (by omega)]
/-- What holds of the world while an object is told a message: the object in block g, the tables, the message x; nothing that was there at first has turned. -/
structure Inv (w : World) (g : Nat) (x : Value) (l : List UInt8) (s : HS) (wk : World) : Prop where
  h : HashAt wk g s
  r : Ready wk
  b : BytesAt wk x l
  bel : Below w.heap.size w wk
  gl : g < wk.heap.size
  gw : w.heap.size ≤ g
  g1 : 1 < g
  xg : l ≠ [] → x.ownBlock ≠ some g
theorem Inv.below {w : World} {g : Nat} {x : Value} {l : List UInt8} {s : HS} {a b : World} (i : Inv w g x l s a) (hb : Below a.heap.size a b) : Inv w g x l s b :=
  ⟨i.h.below hb, i.r.below hb, i.b.below hb, i.bel.trans (hb.mono i.bel.size), Nat.lt_of_lt_of_le i.gl hb.size, i.gw, i.g1, i.xg⟩
theorem BytesAt.grown' {a b : World} {g : Nat} {x : Value} {l : List UInt8} (h : BytesAt a x l) (hg : a.grownBy b (some g)) (hne : l ≠ [] → x.ownBlock ≠ some g) : BytesAt b x l := by
  by_cases hl : l = []
  · subst hl
    obtain ⟨sp, c, e, h1, h2, _⟩ := h
    exact ⟨sp, c, e, h1, h2, fun h => absurd rfl h⟩
  · exact h.grown hg (hne hl)
theorem Inv.grown {w : World} {g : Nat} {x : Value} {l : List UInt8} {s s' : HS} {a b : World} (i : Inv w g x l s a) (hg : a.grownBy b (some g)) (hh : HashAt b g s') : Inv w g x l s' b :=
  ⟨hh, i.r.grown hg i.g1, i.b.grown' hg i.xg, i.bel.grown hg i.bel.size (fun k hk => by cases hk; exact i.gw), Nat.lt_of_lt_of_le i.gl hg.size, i.gw, i.g1, i.xg⟩
theorem Inv.start {w w1 : World} {x : Value} {l : List UInt8} (hr : Ready w) (hx : BytesAt w x l) (hb : Below w.heap.size w w1) : Inv w w1.heap.size x l hs0 (w1.alloc (.cells (hcells hs0).toArray 47)) := by
  have hb2 : Below w1.heap.size w1 (w1.alloc (.cells (hcells hs0).toArray 47)) := (Below.refl _ _).alloc (Nat.le_refl _) _
  refine ⟨heap_alloc_new _ _, (hr.below hb).below hb2, (hx.below hb).below hb2, hb.trans (hb2.mono hb.size), by simp, hb.size, Nat.lt_of_lt_of_le hr.lt hb.size, fun hl e => ?_⟩
  have := (hx.below hb).old hl _ e
  omega
theorem own_take (sp : Option Addr) (n c m d : Nat) : (Value.slice sp n c).ownBlock = (Value.slice sp m d).ownBlock := by cases sp <;> rfl
theorem own_drop (sp : Option Addr) (k n c m d : Nat) : (Value.slice (if c = k then sp else sp.map (·.add k)) n m).ownBlock = (Value.slice sp d c).ownBlock := by
  split
  · exact own_take _ _ _ _ _
  · cases sp with
    | none => rfl
    | some a => simp only [Option.map_some, Value.ownBlock, Addr.add]; split <;> rfl
/-- A slice in new memory stays while the object is told more. -/
theorem OwnB.stays {a b : World} {B g : Nat} {v : Value} {l : List UInt8} (h : OwnB a B v l) (hg : a.grownBy b (some g)) (hB : g < B) : BytesAt b v l :=
  h.bytes.grown hg (fun e => by have := h.fresh _ e; omega)
set_option maxRecDepth 100000 in
set_option maxHeartbeats 2000000 in
theorem splits_any (w : World) (hr : Ready w) (sp : Option Addr) (c : Nat) (l : List UInt8) (hx : BytesAt w (.slice sp l.length c) l) (at_ : Int) (hll : (l.length : Int) ≤ 9223372036854775807) :
    Calls Tryd.prog 7 #[.slice sp l.length c, .int .i64 at_] w fun e w' => e = .returned (.bool true) ∧ Below w.heap.size w w' := by
  have Hr := hide hr
  have Hx := hide hx
  clear hr hx
  by_cases h1 : (2000 : Int) < (l.length : Int)
  · go_enter Tryd.func7, Tryd.ntmps7
    go_wp2_with fail
    refine (anchor_any w (unhide Hr)).mono ?_
    rintro e w1 ⟨rfl, hb1⟩
    go_wp2_with fail
    go_ret
    exact ⟨rfl, hb1⟩
  · by_cases h2 : at_ < 0
    · have d1 : decide ((2000 : Int) < (l.length : Int)) = false := by simpa using h1
      go_enter Tryd.func7, Tryd.ntmps7
      go_wp2_with fail
      refine (anchor_any w (unhide Hr)).mono ?_
      rintro e w1 ⟨rfl, hb1⟩
      go_wp2_with fail
      go_ret
      exact ⟨rfl, hb1⟩
    · by_cases h3 : (l.length : Int) < at_
      · have d1 : decide ((2000 : Int) < (l.length : Int)) = false := by simpa using h1
        have d2 : decide (at_ < 0) = false := by simpa using h2
        go_enter Tryd.func7, Tryd.ntmps7
        go_wp2_with fail
        refine (anchor_any w (unhide Hr)).mono ?_
        rintro e w1 ⟨rfl, hb1⟩
        go_wp2_with fail
        go_ret
        exact ⟨rfl, hb1⟩
      · have d1 : decide ((2000 : Int) < (l.length : Int)) = false := by simpa using h1
        have d2 : decide (at_ < 0) = false := by simpa using h2
        have d3 : decide ((l.length : Int) < at_) = false := by simpa using h3
        obtain ⟨n, rfl⟩ := Int.eq_ofNat_of_zero_le (show 0 ≤ at_ by omega)
        have hn : n ≤ l.length := by omega
        have hlen : l.length ≤ 2000 := by omega
        go_enter Tryd.func7, Tryd.ntmps7
        go_wp2_with fail
        refine (anchor_any w (unhide Hr)).mono ?_
        rintro e w1 ⟨rfl, hb1⟩
        have Hr1 := hide ((unhide Hr).below hb1)
        have Hb1 := hide hb1
        clear hb1
        go_wp2_with fail
        refine (new_any w1 (unhide Hr1).1).mono ?_
        rintro e w2 ⟨rfl, hw2⟩
        have I2 := hide (show Inv w w1.heap.size (.slice sp l.length c) l hs0 w2 by rw [hw2]; exact Inv.start (unhide Hr) (unhide Hx) (unhide Hb1))
        clear hw2 Hr1 Hb1
        generalize w1.heap.size = g at I2 ⊢
        have hcap : n ≤ c := by obtain ⟨_, _, e, h, _⟩ := unhide Hx; cases e; omega
        have hsh := fun w => slice_head w sp l.length c n hcap
        have hsr := fun w => slice_rest w sp l.length c n hn
        generalize hsp : (if c = n then sp else sp.map (·.add n)) = sp2 at hsr
        have Hsp := hide hsp
        clear hsp
        have hlt : (l.take n).length ≤ 2000 := by rw [List.length_take]; omega
        have hld : (l.drop n).length ≤ 2000 := by rw [List.length_drop]; omega
        have Hlt := hide hlt
        have Hld := hide hld
        clear hlt hld
        go_wp2_with fail
        refine (write_val g (unhide I2).g1 hs0 hs0_ok w2 (unhide I2).h (unhide I2).r.2 _ (l.take n) ((unhide I2).b.take n hn) (fun hl => by rw [own_take sp n c l.length c]; exact (unhide I2).xg (by rintro rfl; simp at hl)) (by show 0 + _ ≤ _; have := unhide Hlt; omega)).mono ?_
        rintro e w3 ⟨rfl, hh3, hg3⟩
        have I3 := hide ((unhide I2).grown hg3 hh3)
        clear hh3 hg3 I2
        go_wp2_with fail
        have ok3 := feed_ok hs0 (l.take n) hs0_ok
        have t3 := feed_told hs0 (l.take n)
        have z3 : hs0.told = 0 := rfl
        refine (hsum_any g (feed hs0 (l.take n)) ok3 w3 (unhide I3).r.lt (unhide I3).h (unhide I3).r.2 (by have := unhide Hlt; omega)).mono ?_
        rintro e w4 ⟨v4, rfl, hO4, hb4⟩
        have HO4 := hide hO4
        have Hg4 := hide (unhide I3).gl
        have I4 := hide ((unhide I3).below hb4)
        clear hO4 hb4 I3
        go_wp2_with fail
        refine (write_val g (unhide I4).g1 (feed hs0 (l.take n)) ok3 w4 (unhide I4).h (unhide I4).r.2 _ (l.drop n) (by rw [← unhide Hsp]; exact (unhide I4).b.drop n hn) (fun hl => by rw [← unhide Hsp, own_drop sp n _ c _ l.length]; exact (unhide I4).xg (by rintro rfl; simp at hl)) (by have := unhide Hlt; have := unhide Hld; omega)).mono ?_
        rintro e w5 ⟨rfl, hh5, hg5⟩
        have HB4 := hide ((unhide HO4).stays hg5 (unhide Hg4))
        rw [← feed_append, List.take_append_drop] at hh5
        have I5 := hide ((unhide I4).grown hg5 hh5)
        clear hh5 hg5 I4 HO4 ok3 t3 Hg4
        go_wp2_with fail
        refine (sum_any w5 (unhide I5).r _ (l.take n) ((unhide I5).b.take n hn) (by have := unhide Hlt; omega)).mono ?_
        rintro e w6 ⟨v6, rfl, hO6, hb6⟩
        have HB6 := hide hO6.bytes
        have HC6 := hide ((unhide HB4).below hb6)
        have I6 := hide ((unhide I5).below hb6)
        clear hO6 hb6 I5 HB4
        go_wp2_with fail
        refine (same_eq w6 v4 v6 (shaOf (l.take n)) (unhide HC6) (unhide HB6) (by rw [length_shaOf]; omega)).mono ?_
        rintro e w7 ⟨rfl, hb7⟩
        have I7 := hide ((unhide I6).below hb7)
        clear hb7 I6 HB6 HC6
        go_wp2_with fail
        have ok7 := feed_ok hs0 l hs0_ok
        have t7 := feed_told hs0 l
        refine (hsum_any g (feed hs0 l) ok7 w7 (unhide I7).r.lt (unhide I7).h (unhide I7).r.2 (by omega)).mono ?_
        rintro e w8 ⟨v8, rfl, hO8, hb8⟩
        have HB8 := hide hO8.bytes
        have I8 := hide ((unhide I7).below hb8)
        clear hO8 hb8 I7
        go_wp2_with fail
        refine (sum_any w8 (unhide I8).r _ l (unhide I8).b (by omega)).mono ?_
        rintro e w9 ⟨v9, rfl, hO9, hb9⟩
        have HB9 := hide hO9.bytes
        have HC9 := hide ((unhide HB8).below hb9)
        have I9 := hide ((unhide I8).below hb9)
        clear hO9 hb9 I8 HB8
        go_wp2_with fail
        refine (same_eq w9 v8 v9 (shaOf l) (unhide HC9) (unhide HB9) (by rw [length_shaOf]; omega)).mono ?_
        rintro e w10 ⟨rfl, hb10⟩
        have I10 := hide ((unhide I9).below hb10)
        clear hb10 I9 HB9 HC9
        go_wp2_with fail
        refine (len_any g (feed hs0 l) ok7 w10 (unhide I10).h).mono ?_
        rintro e w11 ⟨rfl, rfl⟩
        have t8 : ((feed hs0 l).told : Int) = (l.length : Int) := by omega
        rw [t8]
        go_wp2_with fail
        go_ret
        exact ⟨rfl, (unhide I10).bel⟩
end Go.Proofs.YtodcpcdhkghgnaaDoor
