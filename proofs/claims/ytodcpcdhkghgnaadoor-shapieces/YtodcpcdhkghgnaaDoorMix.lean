/-
  The walk of mix: the state behind one more block is the rounds' words added to it; nothing that was there has turned.
-/
import Derived.Test.YtodcpcdhkghgnaaDoorSpread
import Derived.Test.YtodcpcdhkghgnaaDoorRound
import Derived.Deep.WholeRow
namespace Go.Proofs.YtodcpcdhkghgnaaDoor
open Go.RowKit
theorem run_index8 (w : World) (cs : Array Value) (k : Nat) (v : Value) (hk : k < 8) (hv : cs[k]? = some v) : (Instr.index 39 (.agg cs) (.int .i64 (k : Int))).run Tryd.prog w = .ok v w := by
  have h1 : (underlying 39).run Tryd.prog w = .ok (.array 8 38) w := run_underlying Tryd.underlying39 w
  have h2 : (sizeOf 38).run Tryd.prog w = .ok 1 w := by kernel_rfl
  simp [Instr.index, asIntOf, h1, h2, part, hv]
  intro h; omega
theorem spread_of (l : List UInt8) (hl : l.length = 64) (cs : Array Value) (h : (l.map bv).toArray = cs) (w : World) :
    Calls Tryd.prog 24 #[.agg cs] w fun e w' => e = .returned (.agg ((wordsTo l 64).map wv).toArray) ∧ Below w.heap.size w w' := by
  subst h; exact spread_any l hl w
/-- What holds of the world while the rounds go: block N holds the state, N+2 the result's place, M the words, 1 the table. -/
def MixAt (N M : Nat) (ss Z ws : Array Value) (w wr : World) : Prop :=
  wr.heap[N]? = some (.cells ss 39 (0, 0)) ∧ wr.heap[N + 1 + 1]? = some (.cells Z 39 (0, 0)) ∧ wr.heap[M]? = some (.cells ws 40 (0, 0)) ∧ (∃ tk fr, wr.heap[1]? = some (.cells (kTab.map wv).toArray tk fr)) ∧ Below w.heap.size w wr
theorem MixAt.drew {N M : Nat} {ss Z ws : Array Value} {w wr : World} (h : MixAt N M ss Z ws w wr) : MixAt N M ss Z ws w wr.drew := ⟨h.1, h.2.1, h.2.2.1, h.2.2.2.1, h.2.2.2.2.drew⟩
theorem MixAt.step {N M : Nat} {ss Z ws : Array Value} {w wr : World} (h : MixAt N M ss Z ws w wr) (hN : w.heap.size ≤ N) (hM : N + 1 + 1 < M) (h1 : 1 < N) (k : Nat) (v : Value) : MixAt N M (ss.setIfInBounds k v) Z ws w (wr.setCell ⟨N, k, none⟩ v) := by
  obtain ⟨a, b, c, ⟨tk, fr, d⟩, e⟩ := h
  refine ⟨heap_setCell_same _ _ _ _ _ _ a, ?_, ?_, ⟨tk, fr, ?_⟩, e.setCell hN _⟩
  · rw [heap_setCell_other _ _ _ _ (by show _ ≠ N; omega)]; exact b
  · rw [heap_setCell_other _ _ _ _ (by show _ ≠ N; omega)]; exact c
  · rw [heap_setCell_other _ _ _ _ (by show _ ≠ N; omega)]; exact d
theorem size_words (l : List UInt8) : ((wordsTo l 64).map wv).toArray.size = 64 := by simp [length_wordsTo]
theorem one_words (l : List UInt32) : ((l.map wv).toArray).all (·.oneCell') = true :=
  all_oneCell_toArray fun v hv => by obtain ⟨x, _, rfl⟩ := List.mem_map.1 hv; rfl
set_option maxRecDepth 100000 in
set_option maxHeartbeats 1000000 in
theorem mix_any (st : List UInt32) (hst : st.length = 8) (l : List UInt8) (hl : l.length = 64) (w : World) (tk : TypeId) (fr : Nat × Nat) (h1 : 1 < w.heap.size) (hK : w.heap[1]? = some (.cells (kTab.map wv).toArray tk fr)) :
    Calls Tryd.prog 22 #[.agg (st.map wv).toArray, .agg (l.map bv).toArray] w fun e w' => e = .returned (.agg ((mixed st l).map wv).toArray) ∧ Below w.heap.size w w' := by
  generalize hcs : (l.map bv).toArray = cs
  generalize hss : (st.map wv).toArray = ss
  have Hcs := hide hcs
  have Hss := hide hss
  have HK := hide hK
  clear hcs hss hK
  have hcz : cs.size = 64 := by rw [← unhide Hcs]; simp [hl]
  go_enter Tryd.func22, Tryd.ntmps22
  go_wp2_with (refine wpList_load_row rfl 44 _ rfl (w.heap.size + 1) rfl 44 cs (0, 0) _ (alloc3 w _ _ _).2.1 Tryd.underlying44 rfl (by rw [hcz]; kernel_rfl) ?_)
  refine (spread_of l hl cs (unhide Hcs) _).mono ?_
  rintro e w1 ⟨rfl, hb1⟩
  have z3 : ∀ A B C : Obj, (((w.alloc A).alloc B).alloc C).heap.size = w.heap.size + 1 + 1 + 1 := fun A B C => by simp
  have hN : w1.heap[w.heap.size]? = some (.cells ss 39 (0, 0)) := by rw [hb1.block _ (by rw [z3]; omega)]; exact (alloc3 w _ _ _).1
  have hN2 : w1.heap[w.heap.size + 1 + 1]? = some (.cells (List.replicate 8 (Value.int .u32 0)).toArray 39 (0, 0)) := by rw [hb1.block _ (by rw [z3]; omega)]; exact (alloc3 w _ _ _).2.2
  have hz1 : w.heap.size + 1 + 1 + 1 ≤ w1.heap.size := by have := hb1.size; rw [z3] at this; exact this
  have hB1 : Below w.heap.size w w1 := ((((Below.refl w.heap.size w).alloc (Nat.le_refl _) _).alloc (by simp) _).alloc (by simp; omega) _).trans (hb1.mono (by rw [z3]; omega))
  clear hb1
  generalize hws : ((wordsTo l 64).map wv).toArray = ws
  have hwz : ws.size = 64 := by rw [← hws]; exact size_words l
  have hw1 : ws.all (·.oneCell') = true := by rw [← hws]; exact one_words _
  have Hws := hide hws
  have HN := hide hN
  have HN2 := hide hN2
  have HB1 := hide hB1
  have Hw1 := hide hw1
  clear hws hN hN2 hB1 hw1
  go_wp2_with (refine wpList_store_row rfl 40 _ _ rfl w1.heap.size ws rfl rfl 40 _ (heap_alloc_new w1 _) (by rw [hwz]; kernel_rfl) (by rw [hwz]; rfl) (unhide Hw1) ?_)
  rw [World.setRow_alloc_new]
  have hM : MixAt w.heap.size w1.heap.size ss (List.replicate 8 (Value.int .u32 0)).toArray ws w (w1.alloc (.cells ws 40)) := by
    refine ⟨?_, ?_, heap_alloc_new _ _, ⟨tk, fr, ?_⟩, (unhide HB1).alloc (by omega) _⟩
    · rw [heap_alloc_old _ _ (by omega)]; exact unhide HN
    · rw [heap_alloc_old _ _ (by omega)]; exact unhide HN2
    · rw [heap_alloc_old _ _ (by omega), (unhide HB1).block 1 h1]; exact unhide HK
  generalize w1.alloc (.cells ws 40) = w2 at hM ⊢
  clear HN HN2 HB1 HK Hw1
  have hc : ∀ i, i < 8 → w2.cell? ⟨w.heap.size, i, none⟩ = some (.int .u32 (iv (st.getD i 0))) := fun i hi => by
    rw [cell_of_row _ _ i _ 39 (0, 0) hM.1, ← unhide Hss]; exact getD_map_wv st i (by omega)
  have HM := hide hM
  clear hM
  have c0 := hc 0 (by omega)
  have c1 := hc 1 (by omega)
  have c2 := hc 2 (by omega)
  have c3 := hc 3 (by omega)
  have c4 := hc 4 (by omega)
  have c5 := hc 5 (by omega)
  have c6 := hc 6 (by omega)
  have c7 := hc 7 (by omega)
  clear hc
  have HR : Hid (roundsTo (ofList8 st) (wordsTo l 64) 0 = ⟨st.getD 0 0, st.getD 1 0, st.getD 2 0, st.getD 3 0, st.getD 4 0, st.getD 5 0, st.getD 6 0, st.getD 7 0⟩) := rfl
  generalize st.getD 0 0 = x0 at c0 HR
  generalize st.getD 1 0 = x1 at c1 HR
  generalize st.getD 2 0 = x2 at c2 HR
  generalize st.getD 3 0 = x3 at c3 HR
  generalize st.getD 4 0 = x4 at c4 HR
  generalize st.getD 5 0 = x5 at c5 HR
  generalize st.getD 6 0 = x6 at c6 HR
  generalize st.getD 7 0 = x7 at c7 HR
  go_wp2
  go_region_held3 (fun w' => w'.cell? ⟨w.heap.size, 0, none⟩ = some (.int .u32 (iv x0)) ∧ w'.cell? ⟨w.heap.size, 1, none⟩ = some (.int .u32 (iv x1)) ∧ w'.cell? ⟨w.heap.size, 2, none⟩ = some (.int .u32 (iv x2)) ∧ w'.cell? ⟨w.heap.size, 3, none⟩ = some (.int .u32 (iv x3))) (go_keep) (fail)
  go_wp2
  go_region_held3 (fun w' => w'.cell? ⟨w.heap.size, 4, none⟩ = some (.int .u32 (iv x4)) ∧ w'.cell? ⟨w.heap.size, 5, none⟩ = some (.int .u32 (iv x5)) ∧ w'.cell? ⟨w.heap.size, 6, none⟩ = some (.int .u32 (iv x6)) ∧ w'.cell? ⟨w.heap.size, 7, none⟩ = some (.int .u32 (iv x7))) (go_keep) (fail)
  go_wp2
  clear c0 c1 c2 c3 c4 c5 c6 c7
  go_loopw [6, 7, 8, 9, 10, 11, 12, 13, 39] (fun a b c d e f g h t wr => ∃ (k : Nat) (s : St8), k ≤ 64 ∧ t = .int .i64 k ∧ Hid (roundsTo (ofList8 st) (wordsTo l 64) k = s) ∧ a = .int .u32 (iv s.a) ∧ b = .int .u32 (iv s.b) ∧ c = .int .u32 (iv s.c) ∧ d = .int .u32 (iv s.d) ∧ e = .int .u32 (iv s.e) ∧ f = .int .u32 (iv s.f) ∧ g = .int .u32 (iv s.g) ∧ h = .int .u32 (iv s.h) ∧ MixAt w.heap.size w1.heap.size ss (List.replicate 8 (Value.int .u32 0)).toArray ws w wr) (fun _ _ _ _ _ _ _ _ t _ => 64 - (intOf t).toNat)
  case atStart => exact ⟨0, ⟨x0, x1, x2, x3, x4, x5, x6, x7⟩, by omega, rfl, HR, rfl, rfl, rfl, rfl, rfl, rfl, rfl, rfl, (unhide HM).drew.drew⟩
  case round =>
    obtain ⟨k, s, hk, rfl, hs, rfl, rfl, rfl, rfl, rfl, rfl, rfl, rfl, hM⟩ := hrel
    obtain ⟨a, b, c, d, e, f, g, h⟩ := s
    clear HR HM
    by_cases hlt : k < 64
    · have HN : Hid (roundsTo (ofList8 st) (wordsTo l 64) (k + 1) = rnd ⟨a, b, c, d, e, f, g, h⟩ (kTab.getD k 0) ((wordsTo l 64).getD k 0)) := by
        show roundsTo _ _ (k + 1) = _
        rw [roundsTo, unhide hs]
      have cK : wr.cell? ⟨1, k, none⟩ = some (.int .u32 (iv (kTab.getD k 0))) := by
        obtain ⟨tk, fr, hf⟩ := hM.2.2.2.1
        rw [cell_of_row _ _ k _ tk fr hf]; exact getD_map_wv kTab k (by rw [length_kTab]; exact hlt)
      have cW : wr.cell? ⟨w1.heap.size, k, none⟩ = some (.int .u32 (iv ((wordsTo l 64).getD k 0))) := by
        rw [cell_of_row _ _ k _ 40 (0, 0) hM.2.2.1, ← unhide Hws]; exact getD_map_wv _ k (by rw [length_wordsTo]; exact hlt)
      generalize kTab.getD k 0 = kk at cK HN
      generalize (wordsTo l 64).getD k 0 = ww at cW HN
      have HM := hide hM
      clear hM hs
      have q1 : (k : Int) < 64 := by omega
      have q0 : (0 : Int) ≤ (k : Int) := by omega
      go_wp2_with (go_at_call 25; refine (right_any _ _ (by omega) (by omega) _).mono ?_; rintro e w' ⟨rfl, rfl⟩)
      go_region_held3 (fun w' => w'.cell? ⟨1, k, none⟩ = some (.int .u32 (iv kk)) ∧ w'.cell? ⟨w1.heap.size, k, none⟩ = some (.int .u32 (iv ww))) (go_keep) (fail)
      go_wp2_with (go_at_call 25; refine (right_any _ _ (by omega) (by omega) _).mono ?_; rintro e w' ⟨rfl, rfl⟩)
      go_roundw
      case rel =>
        have ea := (congr (congrArg (fun p q => IntKind.u32.wrap (p + q)) (t1_form ⟨a, b, c, d, e, f, g, h⟩ kk ww)) (t2_form ⟨a, b, c, d, e, f, g, h⟩)).trans (iv_add _ _)
        have ee := (congrArg (fun p => IntKind.u32.wrap (iv d + p)) (t1_form ⟨a, b, c, d, e, f, g, h⟩ kk ww)).trans (iv_add _ _)
        first
          | exact ⟨k + 1, rnd ⟨a, b, c, d, e, f, g, h⟩ kk ww, by omega, by go_num, HN, congrArg (Value.int .u32) ea, rfl, rfl, rfl, congrArg (Value.int .u32) ee, rfl, rfl, rfl, (unhide HM).drew⟩
          | (repeat apply Exists.intro); exact ⟨⟨k + 1, rnd ⟨a, b, c, d, e, f, g, h⟩ kk ww, by omega, by go_num, HN, congrArg (Value.int .u32) ea, rfl, rfl, rfl, congrArg (Value.int .u32) ee, rfl, rfl, rfl, (unhide HM).drew⟩, rfl⟩
      case measure => simp [intOf]; omega
    · obtain rfl : k = 64 := by omega
      clear hlt hk
      have hst8 : ([a, b, c, d, e, f, g, h] : List UInt32).length = 8 := rfl
      have HX : Hid (mixed st l = List.zipWith (· + ·) st [a, b, c, d, e, f, g, h]) := by
        show mixed st l = _
        unfold mixed; rw [unhide hs]; rfl
      clear hs
      have HM := hide hM
      clear hM
      go_wp2
      go_loopw [113] (fun t wr => ∃ k : Nat, k ≤ 8 ∧ t = .int .i64 k ∧ MixAt w.heap.size w1.heap.size ((addTo st [a, b, c, d, e, f, g, h] k).map wv).toArray (List.replicate 8 (Value.int .u32 0)).toArray ws w wr) (fun t _ => 8 - (intOf t).toNat)
      case atStart => exact ⟨0, by omega, rfl, by rw [addTo_zero, unhide Hss]; exact unhide HM⟩
      case round =>
        obtain ⟨k, hk, rfl, hM⟩ := hrel
        clear HM
        by_cases hlt : k < 8
        · have hI := fun w => run_index8 w #[.int .u32 (iv a), .int .u32 (iv b), .int .u32 (iv c), .int .u32 (iv d), .int .u32 (iv e), .int .u32 (iv f), .int .u32 (iv g), .int .u32 (iv h)] k _ hlt (getD_map_wv [a, b, c, d, e, f, g, h] k hlt)
          have cS : wr.cell? ⟨w.heap.size, k, none⟩ = some (.int .u32 (iv (st.getD k 0))) := by
            rw [cell_of_row _ _ k _ 39 (0, 0) hM.1]; exact addTo_get st _ hst hst8 k hlt
          have fS : wr.frozen? ⟨w.heap.size, k, none⟩ = false := frozen_of_row _ _ k _ 39 hM.1
          have HS := hide (hM.step (Nat.le_refl _) (by omega) h1 k (.int .u32 (iv (st.getD k 0 + [a, b, c, d, e, f, g, h].getD k 0))))
          rw [addTo_set st _ hst hst8 k hlt] at HS
          generalize st.getD k 0 = p at cS HS
          generalize [a, b, c, d, e, f, g, h].getD k 0 = q at hI HS
          clear hM
          have q1 : (k : Int) < 8 := by omega
          have ha := iv_add p q
          go_wp2
          go_roundw
          case rel => first | exact ⟨k + 1, by omega, by go_num, unhide HS⟩ | (repeat apply Exists.intro); exact ⟨⟨k + 1, by omega, by go_num, unhide HS⟩, rfl⟩
          case measure => simp [intOf]; omega
        · obtain rfl : k = 8 := by omega
          clear hlt hk
          rw [addTo_full st _ hst hst8, ← unhide HX] at hM
          have hmz : ((mixed st l).map wv).toArray.size = 8 := by rw [unhide HX]; simp [hst]
          generalize hmm : ((mixed st l).map wv).toArray = mm at hM hmz ⊢
          have hm1 : mm.all (·.oneCell') = true := by rw [← hmm]; exact one_words _
          have Hmm := hide hmm
          have Hm1 := hide hm1
          have HM := hide hM
          clear hmm hm1 hM
          go_wp2_with (first | (refine wpList_load_row rfl 39 _ rfl w.heap.size rfl 39 mm (0, 0) _ (unhide HM).1 Tryd.underlying39 rfl (by rw [hmz]; kernel_rfl) ?_) | (refine wpList_store_row rfl 39 _ _ rfl (w.heap.size + 1 + 1) mm rfl rfl 39 _ (unhide HM).2.1 (by rw [hmz]; kernel_rfl) (by rw [hmz]; rfl) (unhide Hm1) ?_))
          refine bodyPost_ret (results_cell_row Tryd.results22 _ _ (w.heap.size + 1 + 1) 39 mm (0, 0) _ rfl ?_ Tryd.underlying39 rfl (by rw [hmz]; kernel_rfl)) rfl ⟨by rw [← unhide Hmm], ?_⟩
          · exact setRow_heap _ _ _ _ _ _ (unhide HM).2.1
          · exact below_setRow (unhide HM).2.2.2.2 (by omega) _
end Go.Proofs.YtodcpcdhkghgnaaDoor
