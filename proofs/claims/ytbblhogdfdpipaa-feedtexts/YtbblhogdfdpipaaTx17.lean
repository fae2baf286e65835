/-
  FeedTexts: what is taken is what was told, in order, and all that wasn't lost.
-/
import Derived.Test.YtbblhogdfdpipaaAn17
import Derived.Test.YtbblhogdfdpipaaHm17s
import Derived.Test.YtbblhogdfdpipaaSl17
namespace Go.Proofs.Ytbblhogdfdpipaa
open Go.RowKit
/-- What a box of p places has when the first i were told. -/
def told (p : Nat) (ls : List ByteArray) (i : Nat) : Bx ByteArray := ⟨p, i - p, (ls.take i).drop (i - p)⟩
theorem told_more {p : Nat} (hp : 1 ≤ p) {ls : List ByteArray} {i : Nat} {s : ByteArray} (hs : ls[i]? = some s) : (told p ls i).put s = told p ls (i + 1) := by
  obtain ⟨hi, he⟩ := List.getElem?_eq_some_iff.1 hs
  have hl : ((ls.take i).drop (i - p)).length = i - (i - p) := by rw [List.length_drop, List.length_take]; omega
  have ht : ls.take (i + 1) = ls.take i ++ [s] := by rw [List.take_add_one, hs]; rfl
  unfold Bx.put told
  simp only [hl]
  by_cases h : i - (i - p) < p
  · rw [if_pos h, ht, show i + 1 - p = i - p by omega, List.drop_append_of_le_length (by rw [List.length_take]; omega)]
  · rw [if_neg h, ht, List.drop_drop, show i - p + 1 = i + 1 - p by omega, List.drop_append_of_le_length (by rw [List.length_take]; omega)]
theorem told_all {p : Nat} {ls : List ByteArray} {N : Nat} (h : ls.length = N) : told p ls N = ⟨p, N - p, ls.drop (N - p)⟩ := by
  unfold told
  rw [List.take_of_length_le (by omega)]
/-- One reader of the texts. -/
theorem few_told {b : Bx ByteArray} (h : b.lost < 1000000000) : ∀ m d, rd [some b] m = some d → d.lost < 1000000000 := by
  intro m d hb
  have : some d ∈ [some b] := List.mem_of_getElem? (rd_some hb).2.2
  rw [List.mem_singleton] at this
  cases this
  exact h
theorem wrap_id_low (z : Int) (h1 : -9223372036854775808 ≤ z) (h2 : z ≤ 9223372036854775807) : IntKind.wrap .i64 z = z := by
  rw [IntKind.wrap_i64]; omega
theorem rest_of {w : World} {sl : Option Addr} {N cl f : Nat} {ls : List ByteArray} (h : ValsAt w (.slice sl N cl) (ls.map fun x => .string x)) (hf : f ≤ N) (F : Int) (hF : F = (f : Int)) : ∃ s n c, (∀ w2, (Instr.sliceAt 37 (.slice sl N cl) (some (.int .i64 F)) none none).run Try.prog w2 = .ok (.slice s n c) w2) ∧ ValsAt w (.slice s n c) ((ls.drop f).map fun x => .string x) ∧ n = N - f := by
  subst hF
  refine ⟨_, _, _, fun w2 => slice_rest Est (by kernel_rfl) sl N cl f hf w2, ?_, rfl⟩
  rw [List.map_drop]
  exact vals_rest h f hf
set_option maxRecDepth 100000 in
set_option maxHeartbeats 4000000 in
theorem texts_true (w : World) (lv : Value) (ls : List ByteArray) (pl : Int) (hl : ValsAt w lv (ls.map fun x => .string x)) : Calls Try.prog 4 #[lv, .int .i64 pl] w fun e w' => e = .returned (.bool true) ∧ Below w.heap.size w w' := by
  obtain ⟨sl, cl, rfl, _, _, _⟩ := id hl
  obtain ⟨N, hN⟩ : ∃ y, ls.length = y := ⟨_, rfl⟩
  rw [List.length_map, hN] at hl
  simp only [List.length_map, hN]
  have HL := hide hl
  have HN := hide hN
  clear hl hN
  by_cases g : N ≤ 300 ∧ 1 ≤ pl ∧ pl ≤ 256
  · obtain ⟨g1, g2, g3⟩ := g
    obtain ⟨p, rfl⟩ : ∃ p : Nat, pl = (p : Int) := ⟨pl.toNat, by omega⟩
    have e1 : ¬ ((300 : Int) < (N : Int)) := by omega
    have e2 : ¬ ((p : Int) < 1) := by omega
    have e3 : ¬ ((256 : Int) < (p : Int)) := by omega
    go_enter Try.func4, Try.ntmps4
    go_wp2_with (go_at_call 6; refine (anchor_c _).mono ?_; rintro e1 w1 ⟨rfl, hb1⟩; have HB1 := hide hb1; clear hb1)
    refine (news_o w w1 (unhide HB1)).mono ?_
    rintro x1 w2 ⟨P, rfl, h2⟩
    have H2 := hide h2
    clear h2 HB1
    go_wp2_with (fail)
    refine (joins_h (unhide H2).hold (p : Int) (by simp)).mono ?_
    rintro x1 w3 ⟨rfl, h3⟩
    rw [show joinN ([] : Rs ByteArray) (p : Int) = 1 by unfold joinN; rw [if_pos (by omega)]; rfl]
    have H3 : Hid (OneF KS w w3 P [some (told p ls 0)]) := by
      refine hide ?_
      unfold joinR at h3
      rw [if_pos ⟨g2, by omega⟩, Int.toNat_natCast] at h3
      unfold told
      rw [Nat.zero_sub]
      exact h3
    clear h3 H2
    go_wp2_with (fail)
    go_loopw [50] (fun ii wr => ∃ i : Nat, i ≤ N ∧ ii = .int .i64 (i : Int) ∧ Hid (OneF KS w wr P [some (told p ls i)])) (fun ii _ => N - (intOf ii).toNat)
    case atStart => exact ⟨0, Nat.zero_le _, rfl, H3⟩
    case round =>
      obtain ⟨i, hi, rfl, HA⟩ := hrel
      by_cases hlt : i < N
      · obtain ⟨v, hv⟩ : ∃ v, ls[i]? = some v := ⟨_, List.getElem?_eq_getElem (by rw [unhide HN]; exact hlt)⟩
        obtain ⟨lb, lo, rfl, hlc⟩ := ((unhide HL).below ((unhide HA).below)).nth i (u := .string v) (by rw [List.getElem?_map, hv]; rfl)
        have HV := hide hv
        clear hv
        go_wp2_with (fail)
        refine (tells_h (unhide HA).hold v (few_told (by show i - p < _; omega))).mono ?_
        rintro x2 w7 ⟨rfl, h7⟩
        have H7 : Hid (OneF KS w w7 P [some (told p ls (i + 1))]) := by
          refine hide ?_
          rw [← told_more (by omega) (unhide HV)]
          exact h7
        rw [show live [some (told p ls i)] = 1 from rfl]
        clear h7 hlc HA
        go_wp2_with (fail)
        exact ⟨⟨i + 1, hlt, by go_num, H7⟩, by simp [intOf]; omega⟩
      · obtain rfl : i = N := by omega
        obtain ⟨f, hf⟩ : ∃ y, i - p = y := ⟨_, rfl⟩
        have HA2 : Hid (OneF KS w wr P [some ⟨p, f, ls.drop f⟩]) := by
          refine hide ?_
          have := unhide HA
          rw [told_all (unhide HN), hf] at this
          exact this
        clear HA
        have hd : (0 < (i : Int) - (p : Int) ∧ IntKind.wrap .i64 ((i : Int) - (p : Int)) = (f : Int) ∧ (0 : Int) < (f : Int)) ∨ (∃ d : Int, IntKind.wrap .i64 ((i : Int) - (p : Int)) = d ∧ ¬ 0 < d ∧ f = 0) := by
          by_cases hc : 0 < (i : Int) - (p : Int)
          · exact Or.inl ⟨hc, by rw [wrap_small _ (by omega) (by omega)]; omega, by omega⟩
          · exact Or.inr ⟨_, rfl, by rw [wrap_id_low _ (by omega) (by omega)]; exact hc, by omega⟩
        have HF := hide hf
        have hfi : f ≤ i := by omega
        have HFI := hide hfi
        clear hf hfi
        rcases hd with ⟨hc, hwr, hp⟩ | ⟨d, hwr, hc, rfl⟩
        · as_aux_lemma =>
            clear hc
            obtain ⟨s2, n2, c2, hsl, hv2, hn2⟩ := rest_of (unhide HL) (unhide HFI) (f : Int) rfl
            have hsl := hsl wr
            have HV2 := hide hv2
            have HN2 := hide hn2
            have hn3 : n2 ≤ 300 := by omega
            clear hv2 hn2
            go_wp2_with (fail)
            refine (losts_h (unhide HA2).hold 1).mono ?_
            rintro x2 w8 ⟨rfl, rfl⟩
            rw [show lostN [some (⟨p, f, ls.drop f⟩ : Bx ByteArray)] 1 = f from rfl]
            go_wp2_with (fail)
            go_loopw [72] (fun ii wr => ∃ j : Nat, j ≤ n2 ∧ ii = .int .i64 (j : Int) ∧ Hid (OneF KS w wr P [some ⟨p, f, (ls.drop f).drop j⟩])) (fun ii _ => n2 - (intOf ii).toNat)
            case atStart => exact ⟨0, Nat.zero_le _, rfl, HA2⟩
            case round =>
              clear hsl HA2
              obtain ⟨j, hj, rfl, HB⟩ := hrel
              by_cases hlt : j < n2
              · obtain ⟨v, hv⟩ : ∃ v, (ls.drop f)[j]? = some v := ⟨_, List.getElem?_eq_getElem (by rw [List.length_drop, unhide HN, ← unhide HN2]; exact hlt)⟩
                obtain ⟨lb, lo, rfl, hlc⟩ := ((unhide HV2).below ((unhide HB).below)).nth j (u := .string v) (by rw [List.getElem?_map, hv]; rfl)
                have HV := hide hv
                clear hv
                go_wp2_with (fail)
                refine (takes_h (unhide HB).hold 1).mono ?_
                rintro x2 w9 ⟨rfl, h9⟩
                rw [show takeV [some (⟨p, f, (ls.drop f).drop j⟩ : Bx ByteArray)] 1 = some v by rw [← unhide HV, ← List.head?_drop]; rfl, Option.getD_some, Option.isSome_some]
                have H9 : Hid (OneF KS w w9 P [some ⟨p, f, (ls.drop f).drop (j + 1)⟩]) := by
                  refine hide ?_
                  rw [← List.drop_drop]
                  exact h9
                clear h9 hlc HB
                go_wp2_with (fail)
                exact ⟨⟨j + 1, hlt, by go_num, H9⟩, by simp [intOf]; omega⟩
              · have HB2 : Hid (OneF KS w wr P [some ⟨p, f, []⟩]) := by
                  refine hide ?_
                  have := unhide HB
                  rw [List.drop_of_length_le (by rw [List.length_drop, unhide HN, ← unhide HN2]; omega)] at this
                  exact this
                clear HB
                go_wp2_with (fail)
                refine (takes_h (unhide HB2).hold 1).mono ?_
                rintro x2 w9 ⟨rfl, h9⟩
                rw [show takeV [some (⟨p, f, []⟩ : Bx ByteArray)] 1 = none from rfl, Option.getD_none, Option.isSome_none]
                have H9 : Hid (OneF KS w w9 P [some ⟨p, f, []⟩]) := hide h9
                clear h9 HB2
                go_wp2_with (fail)
                refine (waitss_h (unhide H9).hold 1).mono ?_
                rintro x2 wa ⟨rfl, rfl⟩
                rw [show ((waitsN [some (⟨p, f, []⟩ : Bx ByteArray)] 1 : Nat) : Int) = 0 from rfl]
                go_wp2_with (fail)
                go_ret
                exact ⟨rfl, (unhide H9).below⟩
        · as_aux_lemma =>
            obtain ⟨s2, n2, c2, hsl, hv2, hn2⟩ := rest_of (unhide HL) (unhide HFI) 0 rfl
            have hsl := hsl wr
            have HV2 := hide hv2
            have HN2 := hide hn2
            have hn3 : n2 ≤ 300 := by omega
            clear hv2 hn2
            go_wp2_with (fail)
            refine (losts_h (unhide HA2).hold 1).mono ?_
            rintro x2 w8 ⟨rfl, rfl⟩
            rw [show lostN [some (⟨p, 0, ls.drop 0⟩ : Bx ByteArray)] 1 = 0 from rfl]
            go_wp2_with (fail)
            go_loopw [72] (fun ii wr => ∃ j : Nat, j ≤ n2 ∧ ii = .int .i64 (j : Int) ∧ Hid (OneF KS w wr P [some ⟨p, 0, (ls.drop 0).drop j⟩])) (fun ii _ => n2 - (intOf ii).toNat)
            case atStart => exact ⟨0, Nat.zero_le _, rfl, HA2⟩
            case round =>
              clear hsl HA2
              obtain ⟨j, hj, rfl, HB⟩ := hrel
              by_cases hlt : j < n2
              · obtain ⟨v, hv⟩ : ∃ v, (ls.drop 0)[j]? = some v := ⟨_, List.getElem?_eq_getElem (by rw [List.length_drop, unhide HN, ← unhide HN2]; exact hlt)⟩
                obtain ⟨lb, lo, rfl, hlc⟩ := ((unhide HV2).below ((unhide HB).below)).nth j (u := .string v) (by rw [List.getElem?_map, hv]; rfl)
                have HV := hide hv
                clear hv
                go_wp2_with (fail)
                refine (takes_h (unhide HB).hold 1).mono ?_
                rintro x2 w9 ⟨rfl, h9⟩
                rw [show takeV [some (⟨p, 0, (ls.drop 0).drop j⟩ : Bx ByteArray)] 1 = some v by rw [← unhide HV, ← List.head?_drop]; rfl, Option.getD_some, Option.isSome_some]
                have H9 : Hid (OneF KS w w9 P [some ⟨p, 0, (ls.drop 0).drop (j + 1)⟩]) := by
                  refine hide ?_
                  rw [← List.drop_drop]
                  exact h9
                clear h9 hlc HB
                go_wp2_with (fail)
                exact ⟨⟨j + 1, hlt, by go_num, H9⟩, by simp [intOf]; omega⟩
              · have HB2 : Hid (OneF KS w wr P [some ⟨p, 0, []⟩]) := by
                  refine hide ?_
                  have := unhide HB
                  rw [List.drop_of_length_le (by rw [List.length_drop, unhide HN, ← unhide HN2]; omega)] at this
                  exact this
                clear HB
                go_wp2_with (fail)
                refine (takes_h (unhide HB2).hold 1).mono ?_
                rintro x2 w9 ⟨rfl, h9⟩
                rw [show takeV [some (⟨p, 0, []⟩ : Bx ByteArray)] 1 = none from rfl, Option.getD_none, Option.isSome_none]
                have H9 : Hid (OneF KS w w9 P [some ⟨p, 0, []⟩]) := hide h9
                clear h9 HB2
                go_wp2_with (fail)
                refine (waitss_h (unhide H9).hold 1).mono ?_
                rintro x2 wa ⟨rfl, rfl⟩
                rw [show ((waitsN [some (⟨p, 0, []⟩ : Bx ByteArray)] 1 : Nat) : Int) = 0 from rfl]
                go_wp2_with (fail)
                go_ret
                exact ⟨rfl, (unhide H9).below⟩
  · go_enter Try.func4, Try.ntmps4
    go_wp2_with (go_at_call 6; refine (anchor_c _).mono ?_; rintro e1 w1 ⟨rfl, hb1⟩; have HB1 := hide hb1; clear hb1)
    refine (news_o w w1 (unhide HB1)).mono ?_
    rintro x1 w2 ⟨P, rfl, h2⟩
    have H2 := hide (OneF.below h2)
    clear h2 HB1
    go_wp2_with (fail)
    all_goals (go_ret; exact ⟨rfl, unhide H2⟩)
end Go.Proofs.Ytbblhogdfdpipaa
