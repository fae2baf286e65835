/-
  FeedPlays: every play is the document's.
-/
import Derived.Test.YtbblhogdfdpipaaAn17
import Derived.Test.YtbblhogdfdpipaaRg17
import Derived.Test.YtbblhogdfdpipaaOp17
import Derived.Deep.CutBlock
namespace Go.Proofs.Ytbblhogdfdpipaa
open Go.RowKit
set_option maxRecDepth 100000 in
set_option maxHeartbeats 40000000 in
theorem plays_true (w : World) (ov : Value) (ops : List OpP) (ho : OpsAt w ov ops) : Calls Try.prog 3 #[ov] w fun e w' => e = .returned (.bool true) ∧ Below w.heap.size w w' := by
  obtain ⟨so, co, rfl, -⟩ := id ho
  obtain ⟨N, hN⟩ : ∃ y, ops.length = y := ⟨_, rfl⟩
  rw [hN] at ho
  simp only [hN]
  have HO := hide ho
  have HN := hide hN
  clear ho hN
  by_cases g1 : N ≤ 300
  · have e1 : ¬ ((300 : Int) < (N : Int)) := by omega
    go_enter Try.func3, Try.ntmps3
    go_wp2_with (go_at_call 6; refine (anchor_c _).mono ?_; rintro e1 w1 ⟨rfl, hb1⟩; have HB1 := hide hb1; clear hb1)
    refine (newi_o w w1 (unhide HB1)).mono ?_
    rintro x1 w2 ⟨P, rfl, h2⟩
    have H2 : Hid (PlOk w w2 P (.slice none 0 0) [] 0) := hide ⟨PlayAt.start h2, Nat.le_refl _, fun x hx => by cases hx⟩
    clear h2 HB1
    go_wp2_with (fail)
    go_loopg [4, 26] N (fun gk lv ii wr => ∃ (i : Nat) (T : List Pb) (sp : Option Addr) (c : Nat), gk + i = N ∧ ii = .int .i64 (i : Int) ∧ lv = .slice sp T.length c ∧ Hid (PlOk w wr P (.slice sp T.length c) T i))
    case atStart => exact ⟨0, [], none, 0, rfl, rfl, rfl, H2⟩
    case round =>
      clear H2
      obtain ⟨i, T, sp, c, hgi, rfl, rfl, HK⟩ := hrel
      by_cases hlt : i < N
      · obtain ⟨op, hop⟩ : ∃ v, ops[i]? = some v := ⟨_, List.getElem?_eq_getElem (by rw [unhide HN]; exact hlt)⟩
        obtain ⟨ob, oo, rfl, hn1, hn2, c0, c1, c2⟩ := ((unhide HO).below ((unhide HK).below)).nth i hop
        obtain ⟨KD, hKD⟩ : ∃ y, op.kind = y := ⟨_, rfl⟩
        obtain ⟨ON, hON⟩ : ∃ y, op.n = y := ⟨_, rfl⟩
        obtain ⟨OV, hOV⟩ : ∃ y, op.v = y := ⟨_, rfl⟩
        rw [hKD] at c0
        rw [hON] at c1 hn1 hn2
        rw [hOV] at c2
        clear hop hKD hON hOV
        obtain ⟨A, hA⟩ : ∃ y, wr.heap.size = y := ⟨_, rfl⟩
        obtain ⟨w3, hw3⟩ : ∃ y, wr.alloc (.cells #[.int .i64 KD, .int .i64 ON, .int .i64 OV] 28) = y := ⟨_, rfl⟩
        have hb3 : Below wr.heap.size wr w3 := hw3 ▸ (Below.refl _ _).alloc (Nat.le_refl _) _
        have hr3 : RowAt 28 w3 A [] [.int .i64 KD, .int .i64 ON, .int .i64 OV] := by
          have := heap_alloc_new wr (.cells #[.int .i64 KD, .int .i64 ON, .int .i64 OV] 28)
          rw [hw3, hA] at this
          exact this
        have a0 : w3.cell? ⟨A, 0, none⟩ = some (.int .i64 KD) := hr3.cell 0 (by simp)
        have a1 : w3.cell? ⟨A, 1, none⟩ = some (.int .i64 ON) := hr3.cell 1 (by simp)
        have a2 : w3.cell? ⟨A, 2, none⟩ = some (.int .i64 OV) := hr3.cell 2 (by simp)
        have HR3 := hide hr3
        have HK3 := hide ((unhide HK).below' hb3)
        obtain ⟨k, hk⟩ : ∃ y, IntKind.wrap .i64 (ON - 1) = y := ⟨_, rfl⟩
        have HAo : Hid ((Value.slice sp T.length c).ownBlock ≠ some A) := hide (fun e => by obtain ⟨X, hX⟩ := (unhide HK).play; have := (hX.own.lt _ e).2; omega)
        clear hr3 hb3 HK
        go_upto_region 13 with (fail)
        obtain ⟨isb, hisb⟩ : ∃ y, (rd (T.map Prod.fst) ON).isSome = y := ⟨_, rfl⟩
        go_cut [8] from 33 to 50 (fun s8 wc => s8 = .bool isb ∧ wc = w3)
        case first =>
          by_cases h1 : 1 ≤ ON
          · by_cases h2 : ON ≤ (T.length : Int)
            · obtain ⟨m, rfl⟩ : ∃ m : Nat, ON = (m : Int) + 1 := ⟨ON.toNat - 1, by omega⟩
              obtain rfl : k = (m : Int) := by
                rw [← hk, show (m : Int) + 1 - 1 = (m : Int) by omega, wrap_small _ (by omega) (by omega)]
              obtain ⟨⟨o, sv⟩, hx⟩ : ∃ x, T[m]? = some x := ⟨_, List.getElem?_eq_getElem (by omega)⟩
              have hrd : rd (T.map Prod.fst) ((m : Int) + 1) = o := by
                rw [rd_at (by rw [List.length_map]; omega), List.getElem_map, (List.getElem?_eq_some_iff.1 hx).2]
              rw [hrd] at hisb
              obtain ⟨g, rfl, -⟩ := (unhide HK3).play.nth hx
              have hg : w3.cell? ⟨g, m * 4 + 2, none⟩ = some (.bool (!isb)) := by
                refine ((unhide HK3).play.cells hx (j := 2) ?_ (by omega)).1
                rw [← hisb]
                cases o <;> rfl
              clear hisb hx hrd hk
              go_wp2_with (fail)
              go_meet
              case rel => exact ⟨rfl, rfl⟩
            · have hi : isb = false := by rw [← hisb, rd_out (by rw [List.length_map]; omega)]; rfl
              subst hi
              clear hisb
              go_wp2_with (fail)
              go_meet
              case rel => exact ⟨rfl, rfl⟩
          · have hi : isb = false := by rw [← hisb, rd_out (by omega)]; rfl
            subst hi
            clear hisb
            go_wp2_with (fail)
            go_meet
            case rel => exact ⟨rfl, rfl⟩
        case rest =>
          obtain ⟨rfl, hwc⟩ := hcut
          have hwc := hwc.symm
          subst hwc
          clear c0 c1 c2
          go_upto_block 2 with (fail)
          go_cut [4] from 27 to 235 (fun l wc => ∃ (T' : List Pb) (L : Nat) (sp' : Option Addr) (c' : Nat), l = .slice sp' L c' ∧ Hid (T'.length = L) ∧ L ≤ i + 1 ∧ Hid (PlOk w wc P (.slice sp' L c') T' (i + 1)))
          case first =>
            have hlen := (unhide HK3).len
            by_cases k1 : KD = 1
            · as_aux_lemma =>
                subst k1
                by_cases hp : 1 ≤ ON ∧ ON ≤ 256
                · obtain ⟨n, rfl⟩ : ∃ n : Nat, ON = (n : Int) := ⟨ON.toNat, by omega⟩
                  have hp1 : 1 ≤ n := by omega
                  have hp2 : n ≤ 256 := by omega
                  have hbu : Try.prog.built 31 [(0, .int .i64 (n : Int))] = some #[.int .i64 (n : Int), .int .i64 0, .bool false, .slice none 0 0] := by kernel_rfl
                  obtain ⟨w4, hw4⟩ : ∃ y, w3.alloc (.cells #[.int .i64 (n : Int), .int .i64 0, .bool false, .slice none 0 0] 31) = y := ⟨_, rfl⟩
                  have hb4 : Below w3.heap.size w3 w4 := hw4 ▸ (Below.refl _ _).alloc (Nat.le_refl _) _
                  have hc4 : CellsAt w4 w3.heap.size 0 [.int .i64 (n : Int), .int .i64 0, .bool false, .slice none 0 0] := fun j u hu => by
                    rw [Nat.zero_add, ← hw4, cell_of_row _ _ _ _ 31 (0, 0) (heap_alloc_new w3 _)]; simpa using hu
                  have HK4 := hide ((unhide HK3).play.below' hb4)
                  have HC4 := hide hc4
                  have HR4 : Hid (RowAt 28 w4 A [] [.int .i64 1, .int .i64 (n : Int), .int .i64 OV]) := hide ((unhide HR3).below hb4)
                  have HB4 : Hid (w.heap.size ≤ w4.heap.size) := hide (Nat.le_trans (unhide HK3).below.size hb4.size)
                  clear hb4 hc4 a0 a2
                  go_wp2_with (first
                    | (at_builtin; refine wpList_append_one Ebx rfl _ _ rfl w.heap.size (.slice sp T.length c) T.length (rows T) [.int .i64 (n : Int), .int .i64 0, .bool false, .slice none 0 0] rfl (by obtain ⟨X, hX⟩ := unhide HK4; exact hX.own) w3.heap.size 0 1 rfl rfl (unhide HC4) (by simp [Value.oneCell']) (unhide HB4) (by omega) ?_
                       intro v5 w5 ho5 hg5 hor5
                       obtain ⟨s5, c5, e5, _⟩ := ho5.form
                       subst e5
                       have HK5 := hide ((unhide HK4).grow n ho5 hg5 hor5)
                       have a1' : w5.cell? ⟨A, 1, none⟩ = some (.int .i64 (n : Int)) := ((unhide HR4).grown hg5 (fun e => unhide HAo e.symm)).cell 1 (by simp)
                       clear ho5 hg5 hor5))
                  refine (joini_h (unhide HK5).hold (n : Int) (by rw [List.length_map]; omega)).mono ?_
                  rintro e6 w6 ⟨rfl, h6⟩
                  rw [show joinN (T.map Prod.fst) (n : Int) = (T.length : Int) + 1 by unfold joinN; rw [if_pos ⟨by omega, by omega⟩, List.length_map]]
                  have HK6 := hide ((unhide HK3).join_yes n hp1 hp2 h6)
                  clear h6
                  go_wp2_with (fail)
                  go_meet
                  case rel => exact ⟨_, T.length + 1, s5, c5, rfl, by show _ = _; rw [List.length_append]; rfl, by omega, HK6⟩
                · have hj : joinN (T.map Prod.fst) ON = 0 := by unfold joinN; rw [if_neg hp]
                  have hjr : joinR (T.map Prod.fst) ON = T.map Prod.fst := by unfold joinR; rw [if_neg hp]
                  have HJ := hide hj
                  have HJR := hide hjr
                  clear hj hjr
                  by_cases hp1 : 1 ≤ ON
                  case' pos => have hp2 : ¬ ON ≤ 256 := fun h => hp ⟨hp1, h⟩
                  all_goals
                    clear hp
                    go_wp2_with (fail)
                    refine (joini_h (unhide HK3).play.hold ON (by rw [List.length_map]; omega)).mono ?_
                    rintro e6 w6 ⟨rfl, h6⟩
                    rw [unhide HJ]
                    rw [unhide HJR] at h6
                    have HK6 := hide ((unhide HK3).same h6)
                    clear h6
                    go_wp2_with (fail)
                    go_meet
                    case rel => exact ⟨T, T.length, sp, c, rfl, rfl, by omega, HK6⟩
            · by_cases k2 : KD = 2
              · as_aux_lemma =>
                  subst k2
                  clear k1
                  go_wp2_with (fail)
                  refine (leavei_h (unhide HK3).play.hold ON).mono ?_
                  rintro e6 w6 ⟨rfl, h6⟩
                  rw [hisb]
                  cases isb with
                  | false =>
                    have hr : leaveR (T.map Prod.fst) ON = T.map Prod.fst := by unfold leaveR; rw [hisb]; rfl
                    rw [hr] at h6
                    have HK6 := hide ((unhide HK3).same h6)
                    clear h6 hr
                    go_wp2_with (fail)
                    go_meet
                    case rel => exact ⟨T, T.length, sp, c, rfl, rfl, by omega, HK6⟩
                  | true =>
                    obtain ⟨b, hb⟩ := Option.isSome_iff_exists.1 hisb
                    obtain ⟨r1, r2, sv, hx⟩ := rd_map hb
                    obtain ⟨m, rfl⟩ : ∃ m : Nat, ON = (m : Int) + 1 := ⟨ON.toNat - 1, by omega⟩
                    obtain rfl : k = (m : Int) := by
                      rw [← hk, show (m : Int) + 1 - 1 = (m : Int) by omega, wrap_small _ (by omega) (by omega)]
                    rw [show ((m : Int) + 1).toNat - 1 = m by omega] at hx
                    obtain ⟨g, rfl, -⟩ := h6.nth hx
                    have hmT : m < T.length := by omega
                    have x0 := (h6.cells hx (j := 0) rfl (by omega)).1
                    have x1 := (h6.cells hx (j := 1) rfl (by omega)).1
                    have x2 := (h6.cells hx (j := 2) rfl (by omega)).1
                    have x3 := (h6.cells hx (j := 3) rfl (by omega)).1
                    have z0 := (h6.cells hx (j := 0) rfl (by omega)).2
                    have z1 := (h6.cells hx (j := 1) rfl (by omega)).2
                    have z2 := (h6.cells hx (j := 2) rfl (by omega)).2
                    have z3 := (h6.cells hx (j := 3) rfl (by omega)).2
                    rw [Nat.add_zero] at x0 z0
                    have hbu : Try.prog.built 31 [(2, .bool true)] = some #[.int .i64 0, .int .i64 0, .bool true, .slice none 0 0] := by kernel_rfl
                    have hR : leaveR (T.map Prod.fst) ((m : Int) + 1) = setR (T.map Prod.fst) ((m : Int) + 1) none := by unfold leaveR; rw [hisb]; rfl
                    obtain ⟨w7, hw7⟩ : ∃ y, (((w6.setCell ⟨g, m * 4, none⟩ (.int .i64 0)).setCell ⟨g, m * 4 + 1, none⟩ (.int .i64 0)).setCell ⟨g, m * 4 + 2, none⟩ (.bool true)).setCell ⟨g, m * 4 + 3, none⟩ (.slice none 0 0) = y := ⟨_, rfl⟩
                    have HK7 : Hid (PlOk w w7 P (.slice (some ⟨g, 0, none⟩) T.length c) (T.set m (none, .slice none 0 0)) (i + 1)) := hide ((unhide HK3).seti (hw7 ▸ h6.wiped hx) hR (fun b hb => by cases hb))
                    clear h6 hx hb hR hisb r1 r2 hk
                    go_wp2_with (fail)
                    go_meet
                    case rel => exact ⟨T.set m (none, .slice none 0 0), T.length, _, c, rfl, by show _ = _; rw [List.length_set], by omega, HK7⟩
              · by_cases k4 : KD = 4
                · as_aux_lemma =>
                    subst k4
                    clear k1 k2
                    go_wp2_with (fail)
                    refine (takei_h (unhide HK3).play.hold ON).mono ?_
                    rintro e6 w6 ⟨rfl, h6⟩
                    cases hrd : rd (T.map Prod.fst) ON with
                    | none =>
                      have hi : isb = false := by rw [← hisb, hrd]; rfl
                      subst hi
                      have hv : takeV (T.map Prod.fst) ON = none := by unfold takeV; rw [hrd]
                      have hr : takeR (T.map Prod.fst) ON = T.map Prod.fst := by unfold takeR; rw [hrd]
                      rw [hr] at h6
                      rw [hv, Option.getD_none, Option.isSome_none]
                      have HK6 := hide ((unhide HK3).same h6)
                      clear h6 hr hv hrd hisb hk
                      go_wp2_with (fail)
                      go_meet
                      case rel => exact ⟨T, T.length, sp, c, rfl, rfl, by omega, HK6⟩
                    | some b =>
                      have hi : isb = true := by rw [← hisb, hrd]; rfl
                      subst hi
                      obtain ⟨r1, r2, sv, hx⟩ := rd_map hrd
                      obtain ⟨m, rfl⟩ : ∃ m : Nat, ON = (m : Int) + 1 := ⟨ON.toNat - 1, by omega⟩
                      obtain rfl : k = (m : Int) := by
                        rw [← hk, show (m : Int) + 1 - 1 = (m : Int) by omega, wrap_small _ (by omega) (by omega)]
                      rw [show ((m : Int) + 1).toNat - 1 = m by omega] at hx
                      have hmT : m < T.length := by omega
                      obtain ⟨g, rfl, -, -, s2, c2, e2, hvs⟩ := h6.nth hx
                      have e2' : sv = .slice s2 b.list.length c2 := e2
                      subst e2'
                      have hvs' : ValsAt w6 (.slice s2 b.list.length c2) (ivs b.list) := hvs
                      have x3 := (h6.cells hx (j := 3) rfl (by omega)).1
                      have z3 := (h6.cells hx (j := 3) rfl (by omega)).2
                      cases hl : b.list with
                      | nil =>
                        have hv : takeV (T.map Prod.fst) ((m : Int) + 1) = none := by unfold takeV; rw [hrd]; show b.list.head? = none; rw [hl]; rfl
                        have hr := take_same hrd hl
                        rw [hr] at h6
                        rw [hv, Option.getD_none, Option.isSome_none]
                        rw [hl] at x3
                        have HK6 := hide ((unhide HK3).same h6)
                        clear h6 hr hv hrd hisb hk hx hvs hvs' hl r1 r2
                        go_wp2_with (fail)
                        go_meet
                        case rel => exact ⟨T, T.length, _, c, rfl, rfl, by omega, HK6⟩
                      | cons x l =>
                        have hv : takeV (T.map Prod.fst) ((m : Int) + 1) = some x := by unfold takeV; rw [hrd]; show b.list.head? = some x; rw [hl]; rfl
                        have hr : takeR (T.map Prod.fst) ((m : Int) + 1) = setR (T.map Prod.fst) ((m : Int) + 1) (some b.pop) := by unfold takeR; rw [hrd]
                        rw [hv, Option.getD_some, Option.isSome_some]
                        obtain ⟨n2, hn2⟩ : ∃ y, b.list.length = y := ⟨_, rfl⟩
                        have hn3 : 1 ≤ n2 := by rw [← hn2, hl]; simp
                        rw [hn2] at x3 hvs' hx
                        obtain ⟨lb, lo, rfl, hlc⟩ := hvs'.nth 0 (u := .int .i64 x) (by rw [hl]; rfl)
                        rw [Nat.add_zero] at hlc
                        have hbl := (unhide HK3).lost _ (List.mem_of_getElem? hx) b rfl
                        have hc' := h6.cut hx (by rw [hl]; exact fun e => by cases e)
                        have hsl0 := slice_rest Eli (by kernel_rfl) (some ⟨lb, lo, none⟩) n2 c2 1 hn3 w6
                        obtain ⟨s3, hs3⟩ : ∃ y, cutAt (some ⟨lb, lo, none⟩) c2 1 = y := ⟨_, rfl⟩
                        obtain ⟨n3, hn4⟩ : ∃ y, n2 - 1 = y := ⟨_, rfl⟩
                        obtain ⟨c3, hc3⟩ : ∃ y, c2 - 1 = y := ⟨_, rfl⟩
                        rw [hs3, hn4, hc3] at hc' hsl0
                        have hsl : (Instr.sliceAt 29 (.slice (some ⟨lb, lo, none⟩) n2 c2) (some (.int .i64 1)) none none).run Try.prog w6 = .ok (.slice s3 n3 c3) w6 := hsl0
                        obtain ⟨w7, hw7⟩ : ∃ y, w6.setCell ⟨g, m * 4 + 3, none⟩ (.slice s3 n3 c3) = y := ⟨_, rfl⟩
                        rw [hw7] at hc'
                        have HK7 : Hid (PlOk w w7 P (.slice (some ⟨g, 0, none⟩) T.length c) (T.set m (some b.pop, .slice s3 n3 c3)) (i + 1)) := hide ((unhide HK3).seti hc' hr (fun d hd => by cases hd; exact Nat.le_succ_of_le hbl))
                        clear hsl0 h6 hr hv hrd hisb hk hx hvs hvs' hl r1 r2 hc' hbl hn2 hs3 hn4 hc3 e2
                        have p1 : decide ((0 : Int) < (n2 : Int)) = true := by simp; omega
                        have p2 : decide (0 < n2) = true := by simp; omega
                        have p3 : (0 : Int) < (n2 : Int) := by omega
                        have p4 : 0 < n2 := by omega
                        clear hn3
                        go_upto_region 43 with (fail)
                        go_wp2_with (fail)
                        go_meet
                        case rel => exact ⟨T.set m (some b.pop, .slice s3 n3 c3), T.length, _, c, rfl, by show _ = _; rw [List.length_set], by omega, HK7⟩
                · by_cases k3 : KD = 3
                  · as_aux_lemma =>
                      subst k3
                      clear k1 k2 k4
                      go_wp2_with (fail)
                      go_loopg [10, 94] T.length (fun g3 nn ii wr => ∃ (j cnt : Nat) (Tj : List Pb), g3 + j = T.length ∧ ii = .int .i64 (j : Int) ∧ nn = .int .i64 (cnt : Int) ∧ cnt ≤ j ∧ Hid (cnt = live ((T.map Prod.fst).take j)) ∧ Hid (PlayAt w wr P (.slice sp T.length c) Tj (T.map Prod.fst)) ∧ Hid (TellJ T Tj OV j) ∧ Hid (wr.cell? ⟨A, 2, none⟩ = some (.int .i64 OV)))
                      case atStart => exact ⟨0, 0, T, rfl, rfl, rfl, Nat.le_refl _, rfl, (unhide HK3).play, TellJ.start _ _, a2⟩
                      case round =>
                        clear a0 a1 a2
                        obtain ⟨j, cnt, Tj, hgj, rfl, rfl, hcj, HC, HP, HT, HA2⟩ := hrel
                        by_cases hjl : j < T.length
                        · obtain ⟨⟨o, sv⟩, hx⟩ : ∃ x, Tj[j]? = some x := ⟨_, List.getElem?_eq_getElem (by rw [(unhide HT).len]; exact hjl)⟩
                          obtain ⟨g, rfl, -, -, s2, c2, e2, hvs⟩ := (unhide HP).nth hx
                          have hlt' := live_take ((unhide HT).now hx)
                          cases o with
                          | none =>
                            have x2 := ((unhide HP).cells hx (j := 2) rfl (by omega)).1
                            have HC2 : Hid (cnt = live ((T.map Prod.fst).take (j + 1))) := hide (by rw [hlt', ← unhide HC]; rfl)
                            have HT2 := hide ((unhide HT).skip hx)
                            clear hx hvs e2 hlt'
                            go_wp2_with (fail)
                            go_roundg (T.length - (j + 1))
                            case measure => omega
                            case rel => exact ⟨j + 1, cnt, Tj, by omega, by go_num, rfl, by omega, HC2, HP, HT2, HA2⟩
                          | some b =>
                            have x2 := ((unhide HP).cells hx (j := 2) rfl (by omega)).1
                            have x3 := ((unhide HP).cells hx (j := 3) rfl (by omega)).1
                            have e3 : sv = .slice s2 b.list.length c2 := e2
                            subst e3
                            have hvs' : ValsAt wr (.slice s2 b.list.length c2) (ivs b.list) := hvs
                            have HC2 : Hid (cnt + 1 = live ((T.map Prod.fst).take (j + 1))) := hide (by rw [hlt', ← unhide HC]; rfl)
                            have HX := hide hx
                            have HVS := hide hvs'
                            have a2 := unhide HA2
                            obtain ⟨n2, hn2⟩ : ∃ y, b.list.length = y := ⟨_, rfl⟩
                            rw [hn2] at x3 HVS HX
                            have HN2 := hide hn2
                            have HLL : Hid ((ivs b.list).length ≤ 256) := hide (by
                              have hnw := (unhide HT).now hx
                              have hrd : rd (T.map Prod.fst) ((j : Int) + 1) = some b := by
                                rw [rd_at (by rw [List.length_map]; exact hjl)]
                                exact (List.getElem?_eq_some_iff.1 hnw).2
                              have := (unhide HP).few hrd
                              rw [show (ivs b.list).length = b.list.length from List.length_map _]
                              omega)
                            clear hx hvs hvs' e2 hlt' hn2
                            go_upto_region 34 with (fail)
                            refine region_join (join34 wr g j b.list OV) ?_ ?_
                            · intro Q0 hQ0
                              have HQ : Hid (∀ u, Below wr.heap.size wr u → u.cell? ⟨g, j * 4 + 3, none⟩ = some (.slice s2 n2 c2) ∧ u.frozen? ⟨g, j * 4 + 3, none⟩ = false ∧ u.cell? ⟨A, 2, none⟩ = some (.int .i64 OV)) := hide fun u hu => by
                                obtain ⟨q1, q2⟩ := ((unhide HP).below' hu).cells (unhide HX) (j := 3) rfl (by omega)
                                exact ⟨q1, q2, cell_below (unhide HA2) hu⟩
                              exact region34 hjl HQ HVS HN2 HLL hQ0
                            · rintro a' w' ⟨ha, w4, v4, hv4, hb4, ho4, rfl⟩
                              simp only [Slots, List.map_cons, List.map_nil] at ha
                              generalize a'.tmps.getD 104 undef = v104 at ha
                              generalize a'.tmps.getD 105 undef = v105 at ha
                              generalize a'.tmps.getD 106 undef = v106 at ha
                              generalize a'.tmps.getD 107 undef = v107 at ha
                              generalize a'.tmps.getD 108 undef = v108 at ha
                              generalize a'.tmps.getD 109 undef = v109 at ha
                              generalize a'.tmps.getD 110 undef = v110 at ha
                              generalize a'.tmps.getD 111 undef = v111 at ha
                              generalize a'.tmps.getD 112 undef = v112 at ha
                              generalize a'.tmps.getD 113 undef = v113 at ha
                              generalize a'.tmps.getD 114 undef = v114 at ha
                              generalize a'.tmps.getD 115 undef = v115 at ha
                              generalize a'.tmps.getD 116 undef = v116 at ha hv4
                              generalize a'.tmps.getD 117 undef = v117 at ha
                              generalize a'.tmps.getD 118 undef = v118 at ha
                              subst ha
                              simp only [puts, List.foldl, Act.put, List.setIfInBounds_toArray, List.set_cons_zero, List.set_cons_succ]
                              have hP5 := (unhide HP).behind hb4 (unhide HX) OV ho4
                              have hA5 : (w4.setCell ⟨g, j * 4 + 3, none⟩ v4).cell? ⟨A, 2, none⟩ = some (.int .i64 OV) := by
                                rw [World.cell?_setCell_far _ _ _ _ (show g ≠ A from fun e => unhide HAo (by simp [Value.ownBlock, e]))]; exact cell_below (unhide HA2) hb4
                              obtain ⟨w5, hw5⟩ : ∃ y, w4.setCell ⟨g, j * 4 + 3, none⟩ v4 = y := ⟨_, rfl⟩
                              rw [hw5] at hP5 hA5
                              rw [hw5]
                              obtain ⟨s4, c4, e4⟩ := ho4.form
                              rw [show (ivs (b.list ++ [OV])).length = n2 + 1 by unfold ivs; rw [List.length_map, List.length_append, unhide HN2]; rfl] at e4
                              subst e4
                              have hjj : j < Tj.length := by rw [(unhide HT).len]; exact hjl
                              have hx5 : (Tj.set j (some ⟨b.places, b.lost, b.list ++ [OV]⟩, .slice s4 (n2 + 1) c4))[j]? = some (some ⟨b.places, b.lost, b.list ++ [OV]⟩, .slice s4 (n2 + 1) c4) := List.getElem?_set_self hjj
                              have x0 := (hP5.cells hx5 (j := 0) rfl (by omega)).1
                              have x1 := (hP5.cells hx5 (j := 1) rfl (by omega)).1
                              have x3 := (hP5.cells hx5 (j := 3) rfl (by omega)).1
                              have z3 := (hP5.cells hx5 (j := 3) rfl (by omega)).2
                              rw [Nat.add_zero] at x0
                              obtain ⟨pl, hpl⟩ : ∃ y, b.places = y := ⟨_, rfl⟩
                              rw [hpl] at x0
                              have HPL := hide hpl
                              have HP5 := hide hP5
                              have HX5 := hide hx5
                              clear hpl hP5 hx5 ho4 hb4
                              by_cases hfull : n2 < pl
                              · have d1 : ¬ ((pl : Int) < ((n2 : Nat) : Int) + 1) := by omega
                                have d2 : ¬ ((pl : Int) < ((n2 + 1 : Nat) : Int)) := by omega
                                have hput : b.put OV = ⟨b.places, b.lost, b.list ++ [OV]⟩ := by
                                  unfold Bx.put
                                  rw [if_pos (by rw [unhide HN2, unhide HPL]; exact hfull)]
                                have HT5 := hide ((unhide HT).set (unhide HX) (sv' := .slice s4 (n2 + 1) c4))
                                rw [hput] at HT5
                                clear hput
                                go_wp2_with (fail)
                                have HP6 : Hid (PlayAt w w5.drew P (.slice (some ⟨g, 0, none⟩) T.length c) (Tj.set j (some ⟨b.places, b.lost, b.list ++ [OV]⟩, .slice s4 (n2 + 1) c4)) (T.map Prod.fst)) := hide ((unhide HP5).below' (Below.refl _ _).drew)
                                have HA6 : Hid (w5.drew.cell? ⟨A, 2, none⟩ = some (.int .i64 OV)) := hide hA5
                                go_region
                                go_wp2_with (fail)
                                go_roundg (T.length - (j + 1))
                                case measure => omega
                                case rel => exact ⟨j + 1, cnt + 1, _, by omega, by go_num, by go_num, by omega, HC2, HP6, HT5, HA6⟩
                              · have d1 : (pl : Int) < ((n2 : Nat) : Int) + 1 := by omega
                                have d2 : (pl : Int) < ((n2 + 1 : Nat) : Int) := by omega
                                have hne : 1 ≤ b.list.length := by
                                  have hnw := (unhide HT).now (unhide HX)
                                  have hrd : rd (T.map Prod.fst) ((j : Int) + 1) = some b := by
                                    rw [rd_at (by rw [List.length_map]; exact hjl)]
                                    exact (List.getElem?_eq_some_iff.1 hnw).2
                                  have := (unhide HP).few hrd
                                  have h1 := unhide HN2
                                  have h2 := unhide HPL
                                  omega
                                have hlo : b.lost ≤ i := by
                                  have hnw := (unhide HT).now (unhide HX)
                                  rw [List.getElem?_map] at hnw
                                  obtain ⟨y, hy, hy2⟩ := Option.map_eq_some_iff.1 hnw
                                  exact (unhide HK3).lost y (List.mem_of_getElem? hy) b hy2
                                have hput : b.put OV = ⟨b.places, b.lost + 1, (b.list ++ [OV]).drop 1⟩ := by
                                  unfold Bx.put
                                  rw [if_neg (by rw [unhide HN2, unhide HPL]; exact hfull), List.drop_append_of_le_length hne]
                                have HP6 : Hid (PlayAt w w5.drew P (.slice (some ⟨g, 0, none⟩) T.length c) (Tj.set j (some ⟨b.places, b.lost, b.list ++ [OV]⟩, .slice s4 (n2 + 1) c4)) (T.map Prod.fst)) := hide ((unhide HP5).below' (Below.refl _ _).drew)
                                have hcut := (unhide HP6).cut (unhide HX5) (fun e => by have := congrArg List.length e; simp at this)
                                have hsl0 := slice_rest Eli (by kernel_rfl) s4 (n2 + 1) c4 1 (by omega) w5.drew
                                obtain ⟨s5, hs5⟩ : ∃ y, cutAt s4 c4 1 = y := ⟨_, rfl⟩
                                obtain ⟨n5, hn5⟩ : ∃ y, n2 + 1 - 1 = y := ⟨_, rfl⟩
                                obtain ⟨c5, hc5⟩ : ∃ y, c4 - 1 = y := ⟨_, rfl⟩
                                rw [hs5, hn5, hc5] at hcut hsl0
                                have hsl : (Instr.sliceAt 29 (.slice s4 (n2 + 1) c4) (some (.int .i64 1)) none none).run Try.prog w5.drew = .ok (.slice s5 n5 c5) w5.drew := hsl0
                                obtain ⟨w6, hw6⟩ : ∃ y, w5.drew.setCell ⟨g, j * 4 + 3, none⟩ (.slice s5 n5 c5) = y := ⟨_, rfl⟩
                                rw [hw6] at hcut
                                rw [List.set_set] at hcut
                                have hx6 : (Tj.set j (some (Bx.pop ⟨b.places, b.lost, b.list ++ [OV]⟩), .slice s5 n5 c5))[j]? = some (some (Bx.pop ⟨b.places, b.lost, b.list ++ [OV]⟩), .slice s5 n5 c5) := List.getElem?_set_self hjj
                                have y1 : w6.cell? ⟨g, j * 4 + 1, none⟩ = some (.int .i64 (b.lost : Int)) := (hcut.cells hx6 (j := 1) rfl (by omega)).1
                                have f1 : w6.frozen? ⟨g, j * 4 + 1, none⟩ = false := (hcut.cells hx6 (j := 1) rfl (by omega)).2
                                have hb7 := hcut.bump hx6
                                rw [List.set_set] at hb7
                                obtain ⟨w7, hw7⟩ : ∃ y, w6.setCell ⟨g, j * 4 + 1, none⟩ (.int .i64 ((b.lost : Int) + 1)) = y := ⟨_, rfl⟩
                                have hb7 : PlayAt w w7 P (.slice (some ⟨g, 0, none⟩) T.length c) (Tj.set j (some (b.put OV), .slice s5 n5 c5)) (T.map Prod.fst) := by
                                  rw [hput, ← hw7]
                                  have e1 : (((b.lost + 1 : Nat)) : Int) = (b.lost : Int) + 1 := by omega
                                  rw [← e1]
                                  exact hb7
                                have HP7 := hide hb7
                                have HT7 := hide ((unhide HT).set (unhide HX) (sv' := .slice s5 n5 c5))
                                have hgA : g ≠ A := fun e => unhide HAo (by simp [Value.ownBlock, e])
                                have HA7 : Hid (w7.cell? ⟨A, 2, none⟩ = some (.int .i64 OV)) := by
                                  refine hide ?_
                                  rw [← hw7, World.cell?_setCell_far _ _ _ _ hgA, ← hw6, World.cell?_setCell_far _ _ _ _ hgA]
                                  exact hA5
                                have hwr : IntKind.wrap .i64 ((b.lost : Int) + 1) = (b.lost : Int) + 1 := wrap_small _ (by omega) (by omega)
                                obtain ⟨lo, hlo2⟩ : ∃ y : Int, (b.lost : Int) = y := ⟨_, rfl⟩
                                rw [hlo2] at x1 y1 hwr hw7
                                clear hcut hsl0 hs5 hn5 hc5 hx6 hb7 hput hlo hne hlo2 hgA
                                go_wp2_with (fail)
                                go_region
                                go_wp2_with (fail)
                                go_roundg (T.length - (j + 1))
                                case measure => omega
                                case rel => exact ⟨j + 1, cnt + 1, _, by omega, by go_num, by go_num, by omega, HC2, HP7, HT7, HA7⟩
                        · obtain rfl : j = T.length := by omega
                          have hcl : (cnt : Int) = ((live (T.map Prod.fst) : Nat) : Int) := by
                            have := unhide HC
                            rw [List.take_of_length_le (by rw [List.length_map]; exact Nat.le_refl _)] at this
                            rw [this]
                          have HCL := hide hcl
                          have HLO : Hid (∀ n b, rd (T.map Prod.fst) n = some b → b.lost < 1000000000) := hide fun n b hb => by
                            obtain ⟨_, _, sv, hx⟩ := rd_map hb
                            have := (unhide HK3).lost _ (List.mem_of_getElem? hx) b rfl
                            omega
                          have a2 := unhide HA2
                          clear hcl
                          go_wp2_with (fail)
                          refine (telli_h (unhide HP).hold OV (unhide HLO)).mono ?_
                          rintro e6 w6 ⟨rfl, h6⟩
                          rw [← unhide HCL]
                          have HK6 := hide ((unhide HK3).told (unhide HT) h6)
                          have hTl := hide (unhide HT).len
                          clear h6
                          go_wp2_with (fail)
                          go_meet
                          case rel => exact ⟨Tj, T.length, sp, c, rfl, hTl, by omega, HK6⟩
                  · have HK6 := hide ((unhide HK3).same (unhide HK3).play)
                    go_wp2_with (fail)
                    go_meet
                    case rel => exact ⟨T, T.length, sp, c, rfl, rfl, by omega, HK6⟩
          case rest =>
            as_aux_lemma =>
              clear HK3 HR3 a0 a1 a2
              obtain ⟨T', L, sp', c', rfl, HL, hL1, HK4⟩ := hcut
              go_wp2_with (fail)
              go_loopg [212] L (fun gk2 ii wr => ∃ j : Nat, gk2 + j = L ∧ ii = .int .i64 (j : Int) ∧ Hid (PlOk w wr P (.slice sp' L c') T' (i + 1)))
              case atStart => exact ⟨0, rfl, rfl, HK4⟩
              case round =>
                clear HK4
                obtain ⟨j, hj, rfl, HK5⟩ := hrel
                by_cases hjl : j < L
                · obtain ⟨g, pl, lo, gn, s2, n2, c2, rfl, q0, q1, q2, q3, hw, hl⟩ := (unhide HK5).play.look (by rw [unhide HL]; exact hjl)
                  obtain ⟨A2, hA2⟩ : ∃ y, wr.heap.size = y := ⟨_, rfl⟩
                  obtain ⟨w5, hw5⟩ : ∃ y, wr.alloc (.cells #[.int .i64 pl, .int .i64 (lo : Int), .bool gn, .slice s2 n2 c2] 31) = y := ⟨_, rfl⟩
                  have hb5 : Below wr.heap.size wr w5 := hw5 ▸ (Below.refl _ _).alloc (Nat.le_refl _) _
                  have hr5 : RowAt 31 w5 A2 [] [.int .i64 pl, .int .i64 (lo : Int), .bool gn, .slice s2 n2 c2] := by
                    have := heap_alloc_new wr (.cells #[.int .i64 pl, .int .i64 (lo : Int), .bool gn, .slice s2 n2 c2] 31)
                    rw [hw5, hA2] at this
                    exact this
                  have b1 : w5.cell? ⟨A2, 1, none⟩ = some (.int .i64 (lo : Int)) := hr5.cell 1 (by simp)
                  have b3 : w5.cell? ⟨A2, 3, none⟩ = some (.slice s2 n2 c2) := hr5.cell 3 (by simp)
                  have HK6 := hide ((unhide HK5).below' hb5)
                  have HW := hide hw
                  have HLo := hide hl
                  have hdr : Below w5.heap.size w5 w5.drew := (Below.refl _ _).drew
                  have HDr := hide hdr
                  clear hb5 hr5 hw hl hdr HK5
                  have hwj : IntKind.wrap .i64 ((j : Int) + 1) = (j : Int) + 1 := wrap_small _ (by omega) (by omega)
                  go_wp2_with (fail)
                  clear q0 q1 q2 q3
                  go_region_held3 (fun w'' => w''.cell? ⟨A2, 1, none⟩ = some (.int .i64 (lo : Int)) ∧ w''.cell? ⟨A2, 3, none⟩ = some (.slice s2 n2 c2)) (go_keep)
                    ((first
                      | (go_at_call 13; refine (losti_h ((unhide HK6).play.below' (unhide HDr)).hold _).mono ?_; rintro e w6 ⟨rfl, rfl⟩; rw [unhide HLo])
                      | (go_at_call 12; refine (waitsi_h ((unhide HK6).play.below' (unhide HDr)).hold _).mono ?_; rintro e w6 ⟨rfl, rfl⟩; rw [unhide HW])))
                  have HK7 := hide ((unhide HK6).below' (unhide HDr))
                  go_wp2_with (fail)
                  go_roundg (L - (j + 1))
                  case measure => omega
                  case rel => exact ⟨j + 1, by omega, by go_num, HK7⟩
                · obtain rfl : j = L := by omega
                  go_wp2_with (fail)
                  go_roundg (N - (i + 1))
                  case measure => omega
                  case rel => exact ⟨i + 1, T', sp', c', by omega, by go_num, by rw [unhide HL], by show PlOk _ _ _ _ _ _; rw [unhide HL]; exact unhide HK5⟩
      · obtain rfl : i = N := by omega
        have hlen := (unhide HK).len
        have HW : Hid (waitsN (T.map Prod.fst) 0 = 0) := hide (by unfold waitsN; rw [rd_out (by omega)])
        have HL : Hid (lostN (T.map Prod.fst) ((T.length : Int) + 1) = 0) := hide (by unfold lostN; rw [rd_out (by rw [List.length_map]; omega)])
        obtain ⟨L, hL⟩ : ∃ y, T.length = y := ⟨_, rfl⟩
        rw [hL] at HK HL hlen
        rw [hL]
        clear hL
        go_wp2_with (fail)
        refine (waitsi_h (unhide HK).play.hold 0).mono ?_
        rintro x2 w8 ⟨rfl, rfl⟩
        rw [unhide HW]
        go_wp2_with (fail)
        refine (losti_h (unhide HK).play.hold ((L : Int) + 1)).mono ?_
        rintro x2 w9 ⟨rfl, rfl⟩
        rw [unhide HL]
        go_wp2_with (fail)
        go_ret
        exact ⟨rfl, (unhide HK).below⟩
  · have e1 : ((300 : Int) < (N : Int)) := by omega
    go_enter Try.func3, Try.ntmps3
    go_wp2_with (go_at_call 6; refine (anchor_c _).mono ?_; rintro e1 w1 ⟨rfl, hb1⟩; have HB1 := hide hb1; clear hb1)
    refine (newi_o w w1 (unhide HB1)).mono ?_
    rintro x1 w2 ⟨P, rfl, h2⟩
    have H2 := hide h2.below
    clear h2 HB1
    go_wp2_with (fail)
    go_ret
    exact ⟨rfl, unhide H2⟩
end Go.Proofs.Ytbblhogdfdpipaa
