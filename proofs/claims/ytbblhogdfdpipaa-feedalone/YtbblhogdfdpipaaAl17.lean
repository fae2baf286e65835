/-
  FeedAlone: what one reader takes changes nothing for another one.
-/
import Derived.Test.YtbblhogdfdpipaaAn17
namespace Go.Proofs.Ytbblhogdfdpipaa
open Go.RowKit
theorem rd_mem {α : Type} {R : Rs α} {n : Int} {b : Bx α} (h : rd R n = some b) : some b ∈ R := List.mem_of_getElem? (rd_some h).2.2
theorem put_lost {α : Type} (b : Bx α) (x : α) : (b.put x).lost ≤ b.lost + 1 := by
  unfold Bx.put
  split
  · exact Nat.le_succ _
  · exact Nat.le_refl _
/-- Two feeds: what the second of the one has is what the first of the other has. -/
structure AloneAt (w0 w : World) (P Q : Nat) (a c : Bx Int) (i : Nat) : Prop where
  two : TwoF KI w0 w P Q [some a, some c] [some c]
  la : a.lost ≤ i
  lc : c.lost ≤ i
theorem ValsAt.nth {w : World} {s : Option Addr} {n c : Nat} {cs : List Value} (h : ValsAt w (.slice s n c) cs) (i : Nat) {u : Value} (hu : cs[i]? = some u) : ∃ b o, s = some ⟨b, o, none⟩ ∧ w.cell? ⟨b, o + i, none⟩ = some u := by
  obtain ⟨hi, he⟩ := List.getElem?_eq_some_iff.1 hu
  obtain ⟨b, o, c', e, _, _, hc⟩ := h.cell (by rintro rfl; simp at hi)
  cases e
  have := hc i hi
  rw [List.getD_eq_getElem?_getD, hu] at this
  exact ⟨b, o, rfl, this⟩
theorem AloneAt.few {w0 w : World} {P Q : Nat} {a c : Bx Int} {i : Nat} (h : AloneAt w0 w P Q a c i) (hi : i < 1000000000) : (∀ n b, rd ([some a, some c] : Rs Int) n = some b → b.lost < 1000000000) ∧ ∀ n b, rd ([some c] : Rs Int) n = some b → b.lost < 1000000000 := by
  have h1 := h.la
  have h2 := h.lc
  refine ⟨fun n b hb => ?_, fun n b hb => ?_⟩
  · have := rd_mem hb
    simp only [List.mem_cons, List.not_mem_nil, or_false, Option.some.injEq] at this
    rcases this with rfl | rfl <;> omega
  · have := rd_mem hb
    simp only [List.mem_cons, List.not_mem_nil, or_false, Option.some.injEq] at this
    subst this
    omega
theorem AloneAt.told {w0 w : World} {P Q : Nat} {a c : Bx Int} {i : Nat} {v : Int} (h : TwoF KI w0 w P Q [some (a.put v), some (c.put v)] [some (c.put v)]) (la : a.lost ≤ i) (lc : c.lost ≤ i) : AloneAt w0 w P Q (a.put v) (c.put v) (i + 1) :=
  ⟨h, by have := put_lost a v; omega, by have := put_lost c v; omega⟩
theorem AloneAt.took {w0 w : World} {P Q : Nat} {a c : Bx Int} {i : Nat} (h : AloneAt w0 w P Q a c i) {w' : World} (h' : TwoF KI w0 w' P Q (takeR [some a, some c] 1) [some c]) : AloneAt w0 w' P Q a.pop c i := ⟨h', h.la, h.lc⟩
theorem AloneAt.both {w0 w : World} {P Q : Nat} {a c : Bx Int} {i : Nat} (h : AloneAt w0 w P Q a c i) {w' : World} (h' : TwoF KI w0 w' P Q [some a, some c.pop] [some c.pop]) : AloneAt w0 w' P Q a c.pop i := ⟨h', h.la, h.lc⟩
set_option maxRecDepth 100000 in
set_option maxHeartbeats 4000000 in
theorem alone_true (w : World) (lv tv : Value) (ls : List Int) (ts : List Bool) (pl : Int) (hl : ValsAt w lv (ls.map fun x => .int .i64 x)) (ht : ValsAt w tv (ts.map fun x => .bool x)) : Calls Try.prog 5 #[lv, tv, .int .i64 pl] w fun e w' => e = .returned (.bool true) ∧ Below w.heap.size w w' := by
  obtain ⟨sl, cl, rfl, hl1, hl2, hl3⟩ := id hl
  obtain ⟨st, ct, rfl, ht1, ht2, ht3⟩ := id ht
  rw [List.length_map] at hl1 ht1
  obtain ⟨N, hN⟩ : ∃ y, ls.length = y := ⟨_, rfl⟩
  obtain ⟨M, hM⟩ : ∃ y, ts.length = y := ⟨_, rfl⟩
  rw [List.length_map, hN] at hl
  rw [List.length_map, hM] at ht
  simp only [List.length_map, hN, hM]
  have HL := hide hl
  have HT := hide ht
  have HN := hide hN
  have HM := hide hM
  clear hl ht hN hM hl1 hl2 hl3 ht1 ht2 ht3
  by_cases g : N ≤ 200 ∧ N ≤ M ∧ 1 ≤ pl ∧ pl ≤ 50
  · obtain ⟨g1, g2, g3, g4⟩ := g
    have e1 : ¬ ((200 : Int) < (N : Int)) := by omega
    have e2 : ¬ ((M : Int) < (N : Int)) := by omega
    have e3 : ¬ (pl < 1) := by omega
    have e4 : ¬ (50 < pl) := by omega
    go_enter Try.func5, Try.ntmps5
    go_wp2_with (go_at_call 6; refine (anchor_c _).mono ?_; rintro e1 w1 ⟨rfl, hb1⟩; have HB1 := hide hb1; clear hb1)
    refine (newi_o w w1 (unhide HB1)).mono ?_
    rintro x1 w2 ⟨P, rfl, h2⟩
    have H2 := hide h2
    clear h2 HB1
    go_wp2_with (fail)
    refine (newi_t (unhide H2)).mono ?_
    rintro x1 w3 ⟨Q, rfl, h3⟩
    have H3 := hide h3
    clear h3 H2
    go_wp2_with (fail)
    refine (joini_h (unhide H3).left 7 (by simp)).mono ?_
    rintro x1 w4 ⟨rfl, h4⟩
    have H4 : Hid (TwoF KI w w4 P Q [some ⟨7, 0, []⟩] []) := hide h4
    clear h4 H3
    go_wp2_with (fail)
    refine (joini_h (unhide H4).left pl (by simp)).mono ?_
    rintro x1 w5 ⟨rfl, h5⟩
    have H5 : Hid (TwoF KI w w5 P Q [some ⟨7, 0, []⟩, some ⟨pl.toNat, 0, []⟩] []) := by
      refine hide ?_
      unfold joinR at h5
      rw [if_pos ⟨g3, by omega⟩] at h5
      exact h5
    clear h5 H4
    go_wp2_with (fail)
    refine (joini_h (unhide H5).right pl (by simp)).mono ?_
    rintro x1 w6 ⟨rfl, h6⟩
    have H6 : Hid (TwoF KI w w6 P Q [some ⟨7, 0, []⟩, some ⟨pl.toNat, 0, []⟩] [some ⟨pl.toNat, 0, []⟩]) := by
      refine hide ?_
      unfold joinR at h6
      rw [if_pos ⟨g3, by omega⟩] at h6
      exact h6
    clear h6 H5
    go_wp2_with (fail)
    go_loopw [53] (fun ii wr => ∃ (i : Nat) (a c : Bx Int), i ≤ N ∧ ii = .int .i64 (i : Int) ∧ Hid (AloneAt w wr P Q a c i)) (fun ii _ => N - (intOf ii).toNat)
    case atStart => exact ⟨0, _, _, Nat.zero_le _, rfl, unhide H6, Nat.le_refl _, Nat.le_refl _⟩
    case round =>
      obtain ⟨i, a, c, hi, rfl, HA⟩ := hrel
      by_cases hlt : i < N
      · obtain ⟨v, hv⟩ : ∃ v, ls[i]? = some v := ⟨_, List.getElem?_eq_getElem (by rw [unhide HN]; exact hlt)⟩
        obtain ⟨tk, htk⟩ : ∃ v, ts[i]? = some v := ⟨_, List.getElem?_eq_getElem (by rw [unhide HM]; omega)⟩
        obtain ⟨rm, hrm⟩ : ∃ y, Int.tmod v 3 = y := ⟨_, rfl⟩
        have hb3 : -3 < rm ∧ rm < 3 := by rw [← hrm]; exact ⟨Int.lt_tmod_of_pos v (show (0 : Int) < 3 by decide), Int.tmod_lt_of_pos v (show (0 : Int) < 3 by decide)⟩
        have hwr : IntKind.wrap .i64 rm = rm := by rcases (show rm = -2 ∨ rm = -1 ∨ rm = 0 ∨ rm = 1 ∨ rm = 2 by omega) with h | h | h | h | h <;> rw [h] <;> rfl
        obtain ⟨lb, lo, rfl, hlc⟩ := ((unhide HL).below ((unhide HA).two.below)).nth i (u := .int .i64 v) (by rw [List.getElem?_map, hv]; rfl)
        have HTK := hide htk
        have HB3 := hide hb3
        clear hv htk hb3
        go_wp2_with (fail)
        refine (telli_h (unhide HA).two.left v ((unhide HA).few (by omega)).1).mono ?_
        rintro x2 w7 ⟨rfl, h7⟩
        have H7 : Hid (TwoF KI w w7 P Q [some (a.put v), some (c.put v)] [some c]) := hide h7
        clear h7 hlc
        go_wp2_with (fail)
        refine (telli_h (unhide H7).right v ((unhide HA).few (by omega)).2).mono ?_
        rintro x2 w8 ⟨rfl, h8⟩
        have H8 : Hid (AloneAt w w8 P Q (a.put v) (c.put v) (i + 1)) := hide (AloneAt.told h8 (unhide HA).la (unhide HA).lc)
        clear h8 HA H7
        obtain ⟨a2, ha2⟩ : ∃ y, a.put v = y := ⟨_, rfl⟩
        obtain ⟨c2, hc2⟩ : ∃ y, c.put v = y := ⟨_, rfl⟩
        rw [ha2, hc2] at H8
        clear ha2 hc2
        obtain ⟨tb, to, rfl, htc⟩ := ((unhide HT).below ((unhide H8).two.below)).nth i (u := .bool tk) (by rw [List.getElem?_map, unhide HTK]; rfl)
        by_cases hz : rm = 0
        · subst hz
          obtain ⟨q, hq⟩ : ∃ y, takeV [some c2] 1 = y := ⟨_, rfl⟩
          have HQ2 : Hid (∀ a : Bx Int, takeV [some a, some c2] 2 = q) := hide fun a => hq
          have HQ1 := hide hq
          obtain ⟨qv, hqv⟩ : ∃ y, q.getD 0 = y := ⟨_, rfl⟩
          obtain ⟨qb, hqb⟩ : ∃ y, q.isSome = y := ⟨_, rfl⟩
          have HQV := hide hqv
          have HQB := hide hqb
          clear hq hqv hqb
          cases tk
          case' false =>
            go_wp2_with (fail)
            have HA3 := H8
          case' true =>
            go_wp2_with (fail)
            refine (takei_h (unhide H8).two.left 1).mono ?_
            rintro x2 w9 ⟨rfl, h9⟩
            have HA3 := hide ((unhide H8).took h9)
            clear h9 htc
            go_wp2_with (fail)
          all_goals
            refine (takei_h (unhide HA3).two.left 2).mono ?_
            rintro x2 wa ⟨rfl, ha⟩
            rw [unhide HQ2, unhide HQV, unhide HQB]
            have HB1 := hide (show TwoF KI w wa P Q [some _, some c2.pop] [some c2] from ha)
            clear ha
            go_wp2_with (fail)
            refine (takei_h (unhide HB1).right 1).mono ?_
            rintro x2 wb ⟨rfl, hb⟩
            rw [unhide HQ1, unhide HQV, unhide HQB]
            have HB2 := hide ((unhide HA3).both hb)
            clear hb HB1
            go_wp2_with (fail)
            exact ⟨⟨i + 1, _, _, hlt, by go_num, HB2⟩, by simp [intOf]; omega⟩
        · cases tk
          · go_wp2_with (fail)
            exact ⟨⟨i + 1, _, _, hlt, by go_num, H8⟩, by simp [intOf]; omega⟩
          · go_wp2_with (fail)
            refine (takei_h (unhide H8).two.left 1).mono ?_
            rintro x2 w9 ⟨rfl, h9⟩
            have HA3 := hide ((unhide H8).took h9)
            clear h9 htc
            go_wp2_with (fail)
            exact ⟨⟨i + 1, _, _, hlt, by go_num, HA3⟩, by simp [intOf]; omega⟩
      · obtain rfl : i = N := by omega
        go_wp2_with (fail)
        refine (waitsi_h (unhide HA).two.left 2).mono ?_
        rintro x2 w7 ⟨rfl, rfl⟩
        rw [show waitsN [some a, some c] 2 = waitsN [some c] 1 from rfl]
        go_wp2_with (fail)
        refine (waitsi_h (unhide HA).two.right 1).mono ?_
        rintro x2 w8 ⟨rfl, rfl⟩
        go_wp2_with (fail)
        refine (losti_h (unhide HA).two.left 2).mono ?_
        rintro x2 w9 ⟨rfl, rfl⟩
        rw [show lostN [some a, some c] 2 = lostN [some c] 1 from rfl]
        go_wp2_with (fail)
        refine (losti_h (unhide HA).two.right 1).mono ?_
        rintro x2 wa ⟨rfl, rfl⟩
        go_wp2_with (fail)
        go_ret
        exact ⟨rfl, (unhide HA).two.below⟩
  · go_enter Try.func5, Try.ntmps5
    go_wp2_with (go_at_call 6; refine (anchor_c _).mono ?_; rintro e1 w1 ⟨rfl, hb1⟩; have HB1 := hide hb1; clear hb1)
    any_goals (go_ret; exact ⟨rfl, unhide HB1⟩)
end Go.Proofs.Ytbblhogdfdpipaa
