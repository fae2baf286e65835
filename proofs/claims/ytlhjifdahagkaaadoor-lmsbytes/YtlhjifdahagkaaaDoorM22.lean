/-
  The walk of mix: the state behind one more block is the rounds' words added to it; nothing that was there has turned.
-/
import Derived.Test.YtlhjifdahagkaaaDoorM21
import Derived.Deep.WholeRow
import Derived.Maps.RangeWalk
import Derived.Deep.RegionWith
import Derived.BigRegion
namespace Go.Proofs.YtlhjifdahagkaaaDoor.Sha
open Go.RowKit
theorem run_index8 (w : World) (cs : Array Value) (k : Nat) (v : Value) (hk : k < 8) (hv : cs[k]? = some v) : (Instr.index 117 (.agg cs) (.int .i64 (k : Int))).run Tryd.prog w = .ok v w := by
  have h1 : (underlying 117).run Tryd.prog w = .ok (.array 8 116) w := run_underlying Tryd.underlying117 w
  have h2 : (Go.sizeOf 116).run Tryd.prog w = .ok 1 w := by kernel_rfl
  simp [Instr.index, asIntOf, h1, h2, part, hv]
  intro h; omega
theorem spread_of (l : List UInt8) (hl : l.length = 64) (cs : Array Value) (h : (l.map bv).toArray = cs) (w : World) :
    Calls Tryd.prog 86 #[.agg cs] w fun e w' => e = .returned (.agg ((wordsTo l 64).map wv).toArray) ∧ Below w.heap.size w w' := by
  subst h; exact spread_any l hl w
/-- What holds of the world while the rounds go: block N holds the state, N+2 the result's place, M the words, 1 the table. -/
def MixAt (N M : Nat) (ss Z ws : Array Value) (w wr : World) : Prop :=
  wr.heap[N]? = some (.cells ss 117 (0, 0)) ∧ wr.heap[N + 1 + 1]? = some (.cells Z 117 (0, 0)) ∧ wr.heap[M]? = some (.cells ws 118 (0, 0)) ∧ (∃ tk fr, wr.heap[2]? = some (.cells (kTab.map wv).toArray tk fr)) ∧ Below w.heap.size w wr
theorem MixAt.drew {N M : Nat} {ss Z ws : Array Value} {w wr : World} (h : MixAt N M ss Z ws w wr) : MixAt N M ss Z ws w wr.drew := ⟨h.1, h.2.1, h.2.2.1, h.2.2.2.1, h.2.2.2.2.drew⟩
theorem MixAt.step {N M : Nat} {ss Z ws : Array Value} {w wr : World} (h : MixAt N M ss Z ws w wr) (hN : w.heap.size ≤ N) (hM : N + 1 + 1 < M) (h1 : 2 < N) (k : Nat) (v : Value) : MixAt N M (ss.setIfInBounds k v) Z ws w (wr.setCell ⟨N, k, none⟩ v) := by
  obtain ⟨a, b, c, ⟨tk, fr, d⟩, e⟩ := h
  refine ⟨heap_setCell_same _ _ _ _ _ _ a, ?_, ?_, ⟨tk, fr, ?_⟩, e.setCell hN _⟩
  · rw [heap_setCell_other _ _ _ _ (by show _ ≠ N; omega)]; exact b
  · rw [heap_setCell_other _ _ _ _ (by show _ ≠ N; omega)]; exact c
  · rw [heap_setCell_other _ _ _ _ (by show _ ≠ N; omega)]; exact d
theorem size_words (l : List UInt8) : ((wordsTo l 64).map wv).toArray.size = 64 := by simp [length_wordsTo]
theorem one_words (l : List UInt32) : ((l.map wv).toArray).all (·.oneCell') = true :=
  all_oneCell_toArray fun v hv => by obtain ⟨x, _, rfl⟩ := List.mem_map.1 hv; rfl
set_option maxRecDepth 100000 in
set_option maxHeartbeats 1000000 in
theorem mix_any (st : List UInt32) (hst : st.length = 8) (l : List UInt8) (hl : l.length = 64) (w : World) (tk : TypeId) (fr : Nat × Nat) (h1 : 2 < w.heap.size) (hK : w.heap[2]? = some (.cells (kTab.map wv).toArray tk fr)) :
    Calls Tryd.prog 83 #[.agg (st.map wv).toArray, .agg (l.map bv).toArray] w fun e w' => e = .returned (.agg ((mixed st l).map wv).toArray) ∧ Below w.heap.size w w' := by
  generalize hcs : (l.map bv).toArray = cs
  generalize hss : (st.map wv).toArray = ss
  have Hcs := hide hcs
  have Hss := hide hss
  have HK := hide hK
  clear hcs hss hK
  have hcz : cs.size = 64 := by rw [← unhide Hcs]; simp [hl]
  go_enter Tryd.func83, Tryd.ntmps83
  go_wp2_with (refine wpList_load_row rfl 125 _ rfl (w.heap.size + 1) rfl 125 cs (0, 0) _ (alloc3 w _ _ _).2.1 Tryd.underlying125 rfl (by rw [hcz]; kernel_rfl) ?_)
  refine (spread_of l hl cs (unhide Hcs) _).mono ?_
  rintro e w1 ⟨rfl, hb1⟩
  have z3 : ∀ A B C : Obj, (((w.alloc A).alloc B).alloc C).heap.size = w.heap.size + 1 + 1 + 1 := fun A B C => by simp
  have hN : w1.heap[w.heap.size]? = some (.cells ss 117 (0, 0)) := by rw [hb1.block _ (by rw [z3]; omega)]; exact (alloc3 w _ _ _).1
  have hN2 : w1.heap[w.heap.size + 1 + 1]? = some (.cells (List.replicate 8 (Value.int .u32 0)).toArray 117 (0, 0)) := by rw [hb1.block _ (by rw [z3]; omega)]; exact (alloc3 w _ _ _).2.2
  have hz1 : w.heap.size + 1 + 1 + 1 ≤ w1.heap.size := by have := hb1.size; rw [z3] at this; exact this
  have hB1 : Below w.heap.size w w1 := ((((Below.refl w.heap.size w).alloc (Nat.le_refl _) _).alloc (by simp) _).alloc (by simp; omega) _).trans (hb1.mono (by rw [z3]; omega))
  clear hb1
  generalize hws : ((wordsTo l 64).map wv).toArray = ws
  have hwz : ws.size = 64 := by rw [← hws]; exact size_words l
  have hw1 : ws.all (·.oneCell') = true := by rw [← hws]; exact one_words _
  have Hws := hide hws
  have HN := hide hN
  have HN2 := hide hN2
  have HB1 := hide hB1
  have Hw1 := hide hw1
  clear hws hN hN2 hB1 hw1
  go_wp2_with (refine wpList_store_row rfl 118 _ _ rfl w1.heap.size ws rfl rfl 118 _ (heap_alloc_new w1 _) (by rw [hwz]; kernel_rfl) (by rw [hwz]; rfl) (unhide Hw1) ?_)
  rw [World.setRow_alloc_new]
  have hM : MixAt w.heap.size w1.heap.size ss (List.replicate 8 (Value.int .u32 0)).toArray ws w (w1.alloc (.cells ws 118)) := by
    refine ⟨?_, ?_, heap_alloc_new _ _, ⟨tk, fr, ?_⟩, (unhide HB1).alloc (by omega) _⟩
    · rw [heap_alloc_old _ _ (by omega)]; exact unhide HN
    · rw [heap_alloc_old _ _ (by omega)]; exact unhide HN2
    · rw [heap_alloc_old _ _ (by omega), (unhide HB1).block 2 h1]; exact unhide HK
  generalize w1.alloc (.cells ws 118) = w2 at hM ⊢
  clear HN HN2 HB1 HK Hw1
  have hc : ∀ i, i < 8 → w2.cell? ⟨w.heap.size, i, none⟩ = some (.int .u32 (iv (st.getD i 0))) := fun i hi => by
    rw [cell_of_row _ _ i _ 117 (0, 0) hM.1, ← unhide Hss]; exact getD_map_wv st i (by omega)
  have HM := hide hM
  clear hM
  have c0 := hc 0 (by omega)
  have c1 := hc 1 (by omega)
  have c2 := hc 2 (by omega)
  have c3 := hc 3 (by omega)
  have c4 := hc 4 (by omega)
  have c5 := hc 5 (by omega)
  have c6 := hc 6 (by omega)
  have c7 := hc 7 (by omega)
  clear hc
  have HR : Hid (roundsTo (ofList8 st) (wordsTo l 64) 0 = ⟨st.getD 0 0, st.getD 1 0, st.getD 2 0, st.getD 3 0, st.getD 4 0, st.getD 5 0, st.getD 6 0, st.getD 7 0⟩) := rfl
  generalize st.getD 0 0 = x0 at c0 HR
  generalize st.getD 1 0 = x1 at c1 HR
  generalize st.getD 2 0 = x2 at c2 HR
  generalize st.getD 3 0 = x3 at c3 HR
  generalize st.getD 4 0 = x4 at c4 HR
  generalize st.getD 5 0 = x5 at c5 HR
  generalize st.getD 6 0 = x6 at c6 HR
  generalize st.getD 7 0 = x7 at c7 HR
  go_wp2
  go_region_held3 (fun w' => w'.cell? ⟨w.heap.size, 0, none⟩ = some (.int .u32 (iv x0)) ∧ w'.cell? ⟨w.heap.size, 1, none⟩ = some (.int .u32 (iv x1)) ∧ w'.cell? ⟨w.heap.size, 2, none⟩ = some (.int .u32 (iv x2)) ∧ w'.cell? ⟨w.heap.size, 3, none⟩ = some (.int .u32 (iv x3))) (go_keep) (fail)
  go_wp2
  go_region_held3 (fun w' => w'.cell? ⟨w.heap.size, 4, none⟩ = some (.int .u32 (iv x4)) ∧ w'.cell? ⟨w.heap.size, 5, none⟩ = some (.int .u32 (iv x5)) ∧ w'.cell? ⟨w.heap.size, 6, none⟩ = some (.int .u32 (iv x6)) ∧ w'.cell? ⟨w.heap.size, 7, none⟩ = some (.int .u32 (iv x7))) (go_keep) (fail)
  go_wp2
  clear c0 c1 c2 c3 c4 c5 c6 c7
  go_loopw [6, 7, 8, 9, 10, 11, 12, 13, 39] (fun a b c d e f g h t wr => ∃ (k : Nat) (s : St8), k ≤ 64 ∧ t = .int .i64 k ∧ Hid (roundsTo (ofList8 st) (wordsTo l 64) k = s) ∧ a = .int .u32 (iv s.a) ∧ b = .int .u32 (iv s.b) ∧ c = .int .u32 (iv s.c) ∧ d = .int .u32 (iv s.d) ∧ e = .int .u32 (iv s.e) ∧ f = .int .u32 (iv s.f) ∧ g = .int .u32 (iv s.g) ∧ h = .int .u32 (iv s.h) ∧ MixAt w.heap.size w1.heap.size ss (List.replicate 8 (Value.int .u32 0)).toArray ws w wr) (fun _ _ _ _ _ _ _ _ t _ => 64 - (intOf t).toNat)
  case atStart => exact ⟨0, ⟨x0, x1, x2, x3, x4, x5, x6, x7⟩, by omega, rfl, HR, rfl, rfl, rfl, rfl, rfl, rfl, rfl, rfl, (unhide HM).drew.drew⟩
  case round =>
    obtain ⟨k, s, hk, rfl, hs, rfl, rfl, rfl, rfl, rfl, rfl, rfl, rfl, hM⟩ := hrel
    obtain ⟨a, b, c, d, e, f, g, h⟩ := s
    clear HR HM
    by_cases hlt : k < 64
    · have HN : Hid (roundsTo (ofList8 st) (wordsTo l 64) (k + 1) = rnd ⟨a, b, c, d, e, f, g, h⟩ (kTab.getD k 0) ((wordsTo l 64).getD k 0)) := by
        show roundsTo _ _ (k + 1) = _
        rw [roundsTo, unhide hs]
      have cK : wr.cell? ⟨2, k, none⟩ = some (.int .u32 (iv (kTab.getD k 0))) := by
        obtain ⟨tk, fr, hf⟩ := hM.2.2.2.1
        rw [cell_of_row _ _ k _ tk fr hf]; exact getD_map_wv kTab k (by rw [length_kTab]; exact hlt)
      have cW : wr.cell? ⟨w1.heap.size, k, none⟩ = some (.int .u32 (iv ((wordsTo l 64).getD k 0))) := by
        rw [cell_of_row _ _ k _ 118 (0, 0) hM.2.2.1, ← unhide Hws]; exact getD_map_wv _ k (by rw [length_wordsTo]; exact hlt)
      generalize kTab.getD k 0 = kk at cK HN
      generalize (wordsTo l 64).getD k 0 = ww at cW HN
      have HM := hide hM
      clear hM hs
      have q1 : (k : Int) < 64 := by omega
      have q0 : (0 : Int) ≤ (k : Int) := by omega
      go_wp2_with (go_at_call 87; refine (right_any _ _ (by omega) (by omega) _).mono ?_; rintro e w' ⟨rfl, rfl⟩)
      go_region_held3 (fun w' => w'.cell? ⟨2, k, none⟩ = some (.int .u32 (iv kk)) ∧ w'.cell? ⟨w1.heap.size, k, none⟩ = some (.int .u32 (iv ww))) (go_keep) (fail)
      go_wp2_with (go_at_call 87; refine (right_any _ _ (by omega) (by omega) _).mono ?_; rintro e w' ⟨rfl, rfl⟩)
      go_roundw
      case rel =>
        have ea := (congr (congrArg (fun p q => IntKind.u32.wrap (p + q)) (t1_form ⟨a, b, c, d, e, f, g, h⟩ kk ww)) (t2_form ⟨a, b, c, d, e, f, g, h⟩)).trans (iv_add _ _)
        have ee := (congrArg (fun p => IntKind.u32.wrap (iv d + p)) (t1_form ⟨a, b, c, d, e, f, g, h⟩ kk ww)).trans (iv_add _ _)
        first
          | exact ⟨k + 1, rnd ⟨a, b, c, d, e, f, g, h⟩ kk ww, by omega, by go_num, HN, congrArg (Value.int .u32) ea, rfl, rfl, rfl, congrArg (Value.int .u32) ee, rfl, rfl, rfl, (unhide HM).drew⟩
          | (repeat apply Exists.intro); exact ⟨⟨k + 1, rnd ⟨a, b, c, d, e, f, g, h⟩ kk ww, by omega, by go_num, HN, congrArg (Value.int .u32) ea, rfl, rfl, rfl, congrArg (Value.int .u32) ee, rfl, rfl, rfl, (unhide HM).drew⟩, rfl⟩
      case measure => simp [intOf]; omega
    · obtain rfl : k = 64 := by omega
      clear hlt hk
      have hst8 : ([a, b, c, d, e, f, g, h] : List UInt32).length = 8 := rfl
      have HX : Hid (mixed st l = List.zipWith (· + ·) st [a, b, c, d, e, f, g, h]) := by
        show mixed st l = _
        unfold mixed; rw [unhide hs]; rfl
      clear hs
      have HM := hide hM
      clear hM
      go_wp2
      go_loopw [113] (fun t wr => ∃ k : Nat, k ≤ 8 ∧ t = .int .i64 k ∧ MixAt w.heap.size w1.heap.size ((addTo st [a, b, c, d, e, f, g, h] k).map wv).toArray (List.replicate 8 (Value.int .u32 0)).toArray ws w wr) (fun t _ => 8 - (intOf t).toNat)
      case atStart => exact ⟨0, by omega, rfl, by rw [addTo_zero, unhide Hss]; exact unhide HM⟩
      case round =>
        obtain ⟨k, hk, rfl, hM⟩ := hrel
        clear HM
        by_cases hlt : k < 8
        · have hI := fun w => run_index8 w #[.int .u32 (iv a), .int .u32 (iv b), .int .u32 (iv c), .int .u32 (iv d), .int .u32 (iv e), .int .u32 (iv f), .int .u32 (iv g), .int .u32 (iv h)] k _ hlt (getD_map_wv [a, b, c, d, e, f, g, h] k hlt)
          have cS : wr.cell? ⟨w.heap.size, k, none⟩ = some (.int .u32 (iv (st.getD k 0))) := by
            rw [cell_of_row _ _ k _ 117 (0, 0) hM.1]; exact addTo_get st _ hst hst8 k hlt
          have fS : wr.frozen? ⟨w.heap.size, k, none⟩ = false := frozen_of_row _ _ k _ 117 hM.1
          have HS := hide (hM.step (Nat.le_refl _) (by omega) h1 k (.int .u32 (iv (st.getD k 0 + [a, b, c, d, e, f, g, h].getD k 0))))
          rw [addTo_set st _ hst hst8 k hlt] at HS
          generalize st.getD k 0 = p at cS HS
          generalize [a, b, c, d, e, f, g, h].getD k 0 = q at hI HS
          clear hM
          have q1 : (k : Int) < 8 := by omega
          have ha := iv_add p q
          go_wp2
          go_roundw
          case rel => first | exact ⟨k + 1, by omega, by go_num, unhide HS⟩ | (repeat apply Exists.intro); exact ⟨⟨k + 1, by omega, by go_num, unhide HS⟩, rfl⟩
          case measure => simp [intOf]; omega
        · obtain rfl : k = 8 := by omega
          clear hlt hk
          rw [addTo_full st _ hst hst8, ← unhide HX] at hM
          have hmz : ((mixed st l).map wv).toArray.size = 8 := by rw [unhide HX]; simp [hst]
          generalize hmm : ((mixed st l).map wv).toArray = mm at hM hmz ⊢
          have hm1 : mm.all (·.oneCell') = true := by rw [← hmm]; exact one_words _
          have Hmm := hide hmm
          have Hm1 := hide hm1
          have HM := hide hM
          clear hmm hm1 hM
          go_wp2_with (first | (refine wpList_load_row rfl 117 _ rfl w.heap.size rfl 117 mm (0, 0) _ (unhide HM).1 Tryd.underlying117 rfl (by rw [hmz]; kernel_rfl) ?_) | (refine wpList_store_row rfl 117 _ _ rfl (w.heap.size + 1 + 1) mm rfl rfl 117 _ (unhide HM).2.1 (by rw [hmz]; kernel_rfl) (by rw [hmz]; rfl) (unhide Hm1) ?_))
          refine bodyPost_ret (results_cell_row Tryd.results83 _ _ (w.heap.size + 1 + 1) 117 mm (0, 0) _ rfl ?_ Tryd.underlying117 rfl (by rw [hmz]; kernel_rfl)) rfl ⟨by rw [← unhide Hmm], ?_⟩
          · exact setRow_heap _ _ _ _ _ _ (unhide HM).2.1
          · exact below_setRow (unhide HM).2.2.2.2 (by omega) _
end Go.Proofs.YtlhjifdahagkaaaDoor.Sha
/-
  Plain words on an object that is told bytes: its three parts, one byte more, many; what a piece does that fits into what is left of the block, and one that fills it. No program is named here.
-/
namespace Go.Proofs.YtlhjifdahagkaaaDoor.Sha
/-- The state, what was told behind the last whole block, how many bytes were told. -/
structure HS where
  st : List UInt32
  last : List UInt8
  told : Nat
def HS.ok (s : HS) : Prop := s.st.length = 8 ∧ s.last.length = 64
def step1 (s : HS) (c : UInt8) : HS :=
  ⟨if (s.told + 1) % 64 = 0 then mixed s.st (s.last.set (s.told % 64) c) else s.st, s.last.set (s.told % 64) c, s.told + 1⟩
def feed (s : HS) (bs : List UInt8) : HS := bs.foldl step1 s
def hs0 : HS := ⟨hTab, List.replicate 64 0, 0⟩
theorem length_mixed (st : List UInt32) (l : List UInt8) (h : st.length = 8) : (mixed st l).length = 8 := by simp [mixed, St8.list, h]
theorem step1_ok (s : HS) (c : UInt8) (h : s.ok) : (step1 s c).ok := by
  obtain ⟨h1, h2⟩ := h
  unfold step1
  refine ⟨?_, by simp [h2]⟩
  dsimp only
  split
  · exact length_mixed _ _ h1
  · exact h1
theorem feed_ok (s : HS) (bs : List UInt8) (h : s.ok) : (feed s bs).ok := by
  induction bs generalizing s with
  | nil => exact h
  | cons c r ih => exact ih _ (step1_ok s c h)
theorem hs0_ok : hs0.ok := ⟨rfl, rfl⟩
theorem feed_append (s : HS) (a b : List UInt8) : feed s (a ++ b) = feed (feed s a) b := by simp [feed, List.foldl_append]
theorem feed_told (s : HS) (bs : List UInt8) : (feed s bs).told = s.told + bs.length := by
  induction bs generalizing s with
  | nil => rfl
  | cons c r ih => show (feed (step1 s c) r).told = _; rw [ih]; simp [step1]; omega
theorem feed_part (s : HS) (bs : List UInt8) (h : s.last.length = 64) (hl : s.told % 64 + bs.length < 64) :
    feed s bs = ⟨s.st, s.last.take (s.told % 64) ++ bs ++ s.last.drop (s.told % 64 + bs.length), s.told + bs.length⟩ := by
  induction bs generalizing s with
  | nil => simp [feed]
  | cons c r ih =>
    simp only [List.length_cons] at hl
    have hm : (s.told + 1) % 64 = s.told % 64 + 1 := by omega
    have e : step1 s c = ⟨s.st, s.last.set (s.told % 64) c, s.told + 1⟩ := by
      unfold step1; rw [if_neg (by omega)]
    show feed (step1 s c) r = _
    rw [ih (step1 s c) (by rw [e]; simpa using h) (by rw [e]; dsimp only; omega), e]
    dsimp only
    rw [hm]
    have e1 : (s.last.set (s.told % 64) c).take (s.told % 64 + 1) = s.last.take (s.told % 64) ++ [c] := by
      rw [List.take_add_one, List.take_set_of_le (Nat.le_refl _), List.getElem?_set_self (by omega)]; rfl
    have e2 : (s.last.set (s.told % 64) c).drop (s.told % 64 + 1 + r.length) = s.last.drop (s.told % 64 + (r.length + 1)) := by
      rw [List.drop_set_of_lt (by omega)]; congr 1; omega
    rw [e1, e2]
    simp; omega
theorem feed_fill (s : HS) (bs : List UInt8) (h : s.last.length = 64) (hl : s.told % 64 + bs.length = 64) :
    feed s bs = ⟨mixed s.st (s.last.take (s.told % 64) ++ bs), s.last.take (s.told % 64) ++ bs, s.told + bs.length⟩ := by
  have hne : bs ≠ [] := by intro e; subst e; simp at hl; omega
  obtain ⟨r, c, rfl⟩ : ∃ r c, bs = r ++ [c] := ⟨bs.dropLast, bs.getLast hne, (List.dropLast_concat_getLast hne).symm⟩
  simp only [List.length_append, List.length_singleton] at hl
  rw [feed_append, feed_part s r h (by omega)]
  have hm : (s.told + r.length) % 64 = 63 := by omega
  have ho : s.told % 64 + r.length = 63 := by omega
  show step1 _ c = _
  unfold step1
  dsimp only
  rw [if_pos (by omega), hm, ho]
  have e : (s.last.take (s.told % 64) ++ r ++ s.last.drop 63).set 63 c = s.last.take (s.told % 64) ++ (r ++ [c]) := by
    rw [List.set_append_right _ _ (by simp [h]; omega)]
    have h63 : 63 - (s.last.take (s.told % 64) ++ r).length = 0 := by simp [h]; omega
    obtain ⟨x, hx⟩ : ∃ x, s.last.drop 63 = [x] := List.length_eq_one_iff.1 (by simp [h])
    rw [h63, hx]
    simp
  rw [e]
  simp; omega
/-- The object's cells. -/
def hcells (s : HS) : List Value := s.st.map wv ++ s.last.map bv ++ [.int .i64 (s.told : Int)]
theorem length_hcells (s : HS) (h : s.ok) : (hcells s).length = 73 := by obtain ⟨h1, h2⟩ := h; simp [hcells, h1, h2]
theorem hcells_splice (s : HS) (h : s.ok) (o : Nat) (bs : List UInt8) (hl : o + bs.length ≤ 64) :
    (hcells s).take (8 + o) ++ bs.map bv ++ (hcells s).drop (8 + o + bs.length) = hcells ⟨s.st, s.last.take o ++ bs ++ s.last.drop (o + bs.length), s.told⟩ := by
  obtain ⟨h1, h2⟩ := h
  have e1 : (hcells s).take (8 + o) = s.st.map wv ++ (s.last.take o).map bv := by
    unfold hcells
    rw [List.append_assoc, List.take_append, List.take_of_length_le (by simp [h1]), List.length_map, h1, Nat.add_sub_cancel_left, List.take_append_of_le_length (by simp [h2]; omega), List.map_take]
  have e2 : (hcells s).drop (8 + o + bs.length) = (s.last.drop (o + bs.length)).map bv ++ [.int .i64 (s.told : Int)] := by
    unfold hcells
    rw [List.append_assoc, List.drop_append, List.drop_of_length_le (by simp [h1]; omega), List.length_map, h1, List.nil_append, show 8 + o + bs.length - 8 = o + bs.length from by omega, List.drop_append_of_le_length (by simp [h2]; omega), List.map_drop]
  rw [e1, e2]
  simp [hcells]
theorem hcells_told (s : HS) (h : s.ok) (t : Nat) : (hcells s).toArray.setIfInBounds 72 (.int .i64 (t : Int)) = (hcells ⟨s.st, s.last, t⟩).toArray := by
  obtain ⟨h1, h2⟩ := h
  rw [List.setIfInBounds_toArray]
  congr 1
  unfold hcells
  rw [List.set_append_right _ _ (by simp [h1, h2])]
  simp [h1, h2]
theorem hcells_get_told (s : HS) (h : s.ok) : (hcells s).toArray[72]? = some (.int .i64 (s.told : Int)) := by
  obtain ⟨h1, h2⟩ := h
  rw [List.getElem?_toArray]
  unfold hcells
  rw [List.getElem?_append_right (by simp [h1, h2])]
  simp [h1, h2]
theorem hcells_get_st (s : HS) (h : s.ok) (i : Nat) (hi : i < 8) : (hcells s).toArray[i]? = some (.int .u32 (iv (s.st.getD i 0))) := by
  obtain ⟨h1, h2⟩ := h
  rw [List.getElem?_toArray]
  unfold hcells
  rw [List.append_assoc, List.getElem?_append_left (by simp [h1, hi])]
  have := getD_map_wv s.st i (by omega)
  rwa [List.getElem?_toArray] at this
theorem hcells_get_last (s : HS) (h : s.ok) (i : Nat) (hi : i < 64) : (hcells s).toArray[8 + i]? = (s.last.map bv)[i]? := by
  obtain ⟨h1, h2⟩ := h
  rw [List.getElem?_toArray]
  unfold hcells
  rw [List.append_assoc, List.getElem?_append_right (by simp [h1]), List.getElem?_append_left (by simp [h1, h2]; omega)]
  simp [h1]
end Go.Proofs.YtlhjifdahagkaaaDoor.Sha
/-
  The object of package sha in memory: its block's cells, what a copy into it, a store of a part of it and a load of a part of it come to.
-/
namespace Go.Proofs.YtlhjifdahagkaaaDoor.Sha
open Go.RowKit
def lenVal : Value → Nat
  | .slice _ n _ => n
  | _ => 0
/-- The bytes lie where the slice says, in another block than g; the table of the words K lies in block 1. -/
def SrcAt (w : World) (g : Nat) (sp : Option Addr) (bs : List UInt8) : Prop :=
  bs ≠ [] → ∃ ba bo, sp = some ⟨ba, bo, none⟩ ∧ ba ≠ g ∧ w.rangeAt ba bo (bs.map bv)
def TabAt (w : World) : Prop := ∃ tk fr, w.heap[2]? = some (.cells (kTab.map wv).toArray tk fr)
def HashAt (w : World) (g : Nat) (s : HS) : Prop := w.heap[g]? = some (.cells (hcells s).toArray 127 (0, 0))
theorem copy_round (w : World) (g o : Nat) (s : HS) (hs : s.ok) (hg : HashAt w g s) (ho : o < 64) (bs : List UInt8) (n : Nat) (hn : n = Nat.min bs.length (64 - o)) (cap ba bo : Nat) (hr : w.rangeAt ba bo (bs.map bv)) (ty : TypeId) :
    (Builtin.copy_ #[24, 24] ty #[.slice (some ⟨g, 8 + o, none⟩) (64 - o) (64 - o), .slice (some ⟨ba, bo, none⟩) bs.length cap]).run Tryd.prog w =
      .ok (goInt n) (w.setRow g (hcells ⟨s.st, s.last.take o ++ bs.take n ++ s.last.drop (o + n), s.told⟩).toArray) := by
  have hn1 : n ≤ bs.length := by rw [hn]; exact Nat.min_le_left _ _
  have hn2 : n ≤ 64 - o := by rw [hn]; exact Nat.min_le_right _ _
  have hl' : (bs.take n).length = n := by rw [List.length_take]; omega
  have hl : ((bs.take n).map bv).length = n := by rw [List.length_map]; exact hl'
  have h := run_copy_row (P := Tryd.prog) w 24 24 ty 5 g (8 + o) (64 - o) (64 - o) ⟨ba, bo, none⟩ bs.length cap (hcells s).toArray 127 ((bs.take n).map bv) Tryd.underlying24 (by kernel_rfl) hg (by rw [hl, hn])
    (fun j v hv => by
      rw [Addr.add_mid]
      refine hr j v ?_
      rw [List.map_take, List.getElem?_take] at hv
      split at hv
      · exact hv
      · cases hv) (by rw [hl, List.size_toArray, length_hcells s hs]; omega)
    (fun v hv => by obtain ⟨x, _, rfl⟩ := List.mem_map.1 hv; rfl)
  rw [hl] at h
  rw [h]
  have e := hcells_splice s hs o (bs.take n) (by rw [hl']; omega)
  rw [hl'] at e
  rw [e]
theorem slice_last (w : World) (g o : Nat) (ho : o < 64) : (Instr.sliceAt 125 (.pointer (some ⟨g, 8, none⟩)) (some (.int .i64 (o : Int))) none none).run Tryd.prog w = .ok (.slice (some ⟨g, 8 + o, none⟩) (64 - o) (64 - o)) w := by
  have h1 : (underlying 125).run Tryd.prog w = .ok (.array 64 5) w := run_underlying Tryd.underlying125 w
  have h2 : (Go.sizeOf 5).run Tryd.prog w = .ok 1 w := by kernel_rfl
  have h3 : (Instr.sliceBound (.int .i64 (o : Int)) 64 .sliceB).run Tryd.prog w = .ok o w := by
    rw [run_sliceBound (k := .i64) (i := (o : Int)) (y := 64) (code := .sliceB) (h0 := by omega) (h1 := by show (o : Int) ≤ 64; omega)]; simp
  simp only [Instr.sliceAt, Sem.run_bind, h1, Result.andThen_ok, Instr.sureAddr, Sem.run_pure, Instr.sliceBounds, h3, h2, Option.isSome_none, Bool.false_eq_true, if_false, Nat.mul_one, Addr.add_mid]
  rw [if_neg (by omega)]
theorem slice_rest (w : World) (a : Option Addr) (len cap n : Nat) (h : n ≤ len) : (Instr.slice 24 (.slice a len cap) (some (.int .i64 (n : Int))) none none).run Tryd.prog w = .ok (.slice (if cap = n then a else a.map (·.add n)) (len - n) (cap - n)) w := by
  have h1 : (underlying 24).run Tryd.prog w = .ok (.slice 5) w := run_underlying Tryd.underlying24 w
  have h2 : (Go.sizeOf 5).run Tryd.prog w = .ok 1 w := by kernel_rfl
  have h3 : (Instr.sliceBound (.int .i64 (n : Int)) len .sliceB).run Tryd.prog w = .ok n w := by
    rw [run_sliceBound (k := .i64) (i := (n : Int)) (y := len) (code := .sliceB) (h0 := by omega) (h1 := by omega)]; simp
  simp only [Instr.slice, Sem.run_bind, h1, Result.andThen_ok, Sem.run_pure, Instr.sliceBounds, h3, h2, Option.isSome_none, Bool.false_eq_true, if_false, Nat.mul_one]
/-- The cells that lie there, read one behind the other. -/
def readRow (w : World) (b o n : Nat) : Array Value := ((List.range n).map fun j => (w.cell? ⟨b, o + j, none⟩).getD undef).toArray
theorem readRow_drew (w : World) (b o n : Nat) : readRow w.drew b o n = readRow w b o n := rfl
theorem length_readRow (w : World) (b o n : Nat) : (readRow w b o n).toList.length = n := by simp [readRow]
theorem readRow_range {w : World} {b o n : Nat} (h : w.there b o n) : w.rangeAt b o (readRow w b o n).toList := fun j v hv => by
  simp only [readRow, List.getElem?_map, Option.map_eq_some_iff] at hv
  obtain ⟨i, hi, rfl⟩ := hv
  obtain ⟨hj, rfl⟩ := List.getElem?_eq_some_iff.1 hi
  simp only [List.getElem_range]
  obtain ⟨u, hu⟩ := Option.isSome_iff_exists.1 (h j (by simpa using hj)).1
  rw [hu]; rfl
theorem readRow_of {w : World} {b o n : Nat} {cs : List Value} (h : w.rangeAt b o cs) (hn : cs.length = n) : readRow w b o n = cs.toArray := by
  unfold readRow
  congr 1
  apply List.ext_getElem
  · simp [hn]
  · intro i h1 h2
    simp only [List.getElem_map, List.getElem_range]
    rw [h i cs[i] (List.getElem?_eq_getElem h2)]; rfl
theorem run_load39 (w : World) (b o : Nat) (h : w.there b o 8) : (Instr.loadAt 117 (.pointer (some ⟨b, o, none⟩))).run Tryd.prog w = .ok (.agg (readRow w b o 8)) w := by
  have := run_loadAt_mid (P := Tryd.prog) w b o 117 _ _ (readRow_range h) Tryd.underlying117 rfl (by rw [length_readRow]; kernel_rfl)
  simpa using this
theorem run_load44 (w : World) (b o : Nat) (h : w.there b o 64) : (Instr.loadAt 125 (.pointer (some ⟨b, o, none⟩))).run Tryd.prog w = .ok (.agg (readRow w b o 64)) w := by
  have := run_loadAt_mid (P := Tryd.prog) w b o 125 _ _ (readRow_range h) Tryd.underlying125 rfl (by rw [length_readRow]; kernel_rfl)
  simpa using this
theorem run_store39 (w : World) (b o : Nat) (cells : Array Value) (h : w.there b o 8) (hn : cells.size = 8) (h1 : cells.all (·.oneCell') = true) : (Instr.storeAt 117 (.pointer (some ⟨b, o, none⟩)) (.agg cells)).run Tryd.prog w = .ok () (w.setCells b o cells.toList) :=
  run_storeAt_mid (P := Tryd.prog) w b o 117 cells (by rw [hn]; exact h) (by rw [hn]; kernel_rfl) h1
/-- A pointer to so many cells that are there. -/
def ptrOk (w : World) (v : Value) (n : Nat) : Prop := ∃ b o, v = .pointer (some ⟨b, o, none⟩) ∧ w.there b o n
def ptrBlock : Value → Nat
  | .pointer (some a) => a.block
  | _ => 0
def ptrOff : Value → Nat
  | .pointer (some a) => a.off
  | _ => 0
def aggCells : Value → Array Value
  | .agg cs => cs
  | _ => #[]
/-- A value of eight cells, each of them one. -/
def aggOk (v : Value) (n : Nat) : Prop := ∃ cs : Array Value, v = .agg cs ∧ cs.size = n ∧ cs.all (·.oneCell') = true
theorem ptrOk_pointer (w : World) (b o n : Nat) : ptrOk w (.pointer (some ⟨b, o, none⟩)) n ↔ w.there b o n :=
  ⟨fun ⟨_, _, e, h⟩ => by cases e; exact h, fun h => ⟨_, _, rfl, h⟩⟩
theorem ptrBlock_pointer (a : Addr) : ptrBlock (.pointer (some a)) = a.block := rfl
theorem ptrOff_pointer (a : Addr) : ptrOff (.pointer (some a)) = a.off := rfl
theorem aggCells_agg (cs : Array Value) : aggCells (.agg cs) = cs := rfl
theorem aggOk_agg (cs : Array Value) (n : Nat) : aggOk (.agg cs) n ↔ (cs.size = n ∧ cs.all (·.oneCell') = true) :=
  ⟨fun ⟨_, e, h⟩ => by cases e; exact h, fun h => ⟨_, rfl, h⟩⟩
theorem wp_load39 (dst : Option Tmp) (ty : TypeId) (pos : String) (after : Array Edge) (guard : Option (Nat × Bool)) (x : Operand) (a : Act) (w : World) (K : Act → World → Prop) (Q : Exit → Act → World → Prop) (h : ptrOk w (a.eval x) 8) :
    Oper.wp Tryd.prog { dst := dst, op := .load 117 x, type := ty, pos := pos, after := after, guard := guard } a w K Q = K (a.put dst (.agg (readRow w (ptrBlock (a.eval x)) (ptrOff (a.eval x)) 8))) w := by
  obtain ⟨b, o, e, ht⟩ := h
  simp only [Oper.wp, execOp, e, Sem.run_bind, run_load39 w b o ht, Result.andThen_ok, Sem.run_pure, Oper.upon, ptrBlock, ptrOff]
theorem wp_load44 (dst : Option Tmp) (ty : TypeId) (pos : String) (after : Array Edge) (guard : Option (Nat × Bool)) (x : Operand) (a : Act) (w : World) (K : Act → World → Prop) (Q : Exit → Act → World → Prop) (h : ptrOk w (a.eval x) 64) :
    Oper.wp Tryd.prog { dst := dst, op := .load 125 x, type := ty, pos := pos, after := after, guard := guard } a w K Q = K (a.put dst (.agg (readRow w (ptrBlock (a.eval x)) (ptrOff (a.eval x)) 64))) w := by
  obtain ⟨b, o, e, ht⟩ := h
  simp only [Oper.wp, execOp, e, Sem.run_bind, run_load44 w b o ht, Result.andThen_ok, Sem.run_pure, Oper.upon, ptrBlock, ptrOff]
theorem wp_store39 (dst : Option Tmp) (ty : TypeId) (pos : String) (after : Array Edge) (guard : Option (Nat × Bool)) (x y : Operand) (a : Act) (w : World) (K : Act → World → Prop) (Q : Exit → Act → World → Prop) (h : ptrOk w (a.eval x) 8) (h2 : aggOk (a.eval y) 8) :
    Oper.wp Tryd.prog { dst := dst, op := .store 117 x y, type := ty, pos := pos, after := after, guard := guard } a w K Q = K (a.put dst undef) (w.setCells (ptrBlock (a.eval x)) (ptrOff (a.eval x)) (aggCells (a.eval y)).toList) := by
  obtain ⟨b, o, e, ht⟩ := h
  obtain ⟨cs, e2, hz, h1⟩ := h2
  simp only [Oper.wp, execOp, e, e2, Sem.run_bind, run_store39 w b o cs ht hz h1, Result.andThen_ok, Sem.run_pure, Oper.upon, ptrBlock, ptrOff, aggCells]
theorem setCells_setRow (w : World) (g o : Nat) (vs : List Value) (cur : Array Value) (t : TypeId) (hg : w.heap[g]? = some (.cells cur t (0, 0))) (hl : o + vs.length ≤ cur.size) (h1 : ∀ v ∈ vs, v.oneCell' = true) :
    w.setCells g o vs = w.setRow g (cur.toList.take o ++ vs ++ cur.toList.drop (o + vs.length)).toArray := by
  have e1 := run_storeCells_at Tryd.prog g o t vs 0 cur w hg (by simpa using hl) h1
  have e2 := run_storeCells_cells (P := Tryd.prog) g o vs 0 w (fun j hj => by
    rw [Nat.add_zero, cell_of_row w g _ cur t (0, 0) hg, Array.getElem?_eq_getElem (by omega)]; rfl) (fun j hj => frozen_of_row w g _ cur t hg) h1
  rw [e1] at e2
  have := (Result.ok.inj e2).2
  simpa using this.symm
theorem HashAt.there {w : World} {g : Nat} {s : HS} (h : HashAt w g s) (hs : s.ok) (o n : Nat) (hn : o + n ≤ 73) : w.there g o n := fun j hj => by
  refine ⟨?_, frozen_of_row w g _ _ 127 h⟩
  rw [cell_of_row w g _ _ 127 (0, 0) h, Array.getElem?_eq_getElem (by rw [List.size_toArray, length_hcells s hs]; omega)]; rfl
theorem HashAt.read_st {w : World} {g : Nat} {s : HS} (h : HashAt w g s) (hs : s.ok) : readRow w g 0 8 = (s.st.map wv).toArray := by
  refine readRow_of (fun j v hv => ?_) (by rw [List.length_map]; exact hs.1)
  have hj : j < 8 := by have := (List.getElem?_eq_some_iff.1 hv).1; rw [List.length_map, hs.1] at this; exact this
  rw [cell_of_row w g _ _ 127 (0, 0) h, Nat.zero_add, hcells_get_st s hs j hj, ← getD_map_wv s.st j (by rw [hs.1]; exact hj), List.getElem?_toArray]; exact hv
theorem HashAt.read_last {w : World} {g : Nat} {s : HS} (h : HashAt w g s) (hs : s.ok) : readRow w g 8 64 = (s.last.map bv).toArray := by
  refine readRow_of (fun j v hv => ?_) (by rw [List.length_map]; exact hs.2)
  have hj : j < 64 := by have := (List.getElem?_eq_some_iff.1 hv).1; rw [List.length_map, hs.2] at this; exact this
  rw [cell_of_row w g _ _ 127 (0, 0) h, hcells_get_last s hs j hj]; exact hv
theorem HashAt.set_st {w : World} {g : Nat} {s : HS} (h : HashAt w g s) (hs : s.ok) (m : List UInt32) (hm : m.length = 8) : HashAt (w.setCells g 0 (m.map wv)) g ⟨m, s.last, s.told⟩ := by
  have ho : ∀ v ∈ m.map wv, v.oneCell' = true := fun v hv => by obtain ⟨x, _, rfl⟩ := List.mem_map.1 hv; rfl
  unfold HashAt
  rw [setCells_setRow w g 0 _ _ 127 h (by rw [List.length_map, hm, List.size_toArray, length_hcells s hs]; omega) ho, setRow_heap w g _ _ _ _ h]
  congr 3
  have e : (hcells s).drop 8 = s.last.map bv ++ [.int .i64 (s.told : Int)] := by
    unfold hcells; rw [List.append_assoc, List.drop_append, List.drop_of_length_le (by rw [List.length_map, hs.1]; omega), List.length_map, hs.1]; rfl
  simp only [List.length_map, hm, List.take_zero, List.nil_append, Nat.zero_add, e]
  simp [hcells]
theorem HashAt.set_told {w : World} {g : Nat} {s : HS} (h : HashAt w g s) (hs : s.ok) (t : Nat) : HashAt (w.setCell ⟨g, 72, none⟩ (.int .i64 (t : Int))) g ⟨s.st, s.last, t⟩ := by
  unfold HashAt
  rw [heap_setCell_same w g 72 _ 127 _ h, hcells_told s hs t]
theorem mix_of (st : List UInt32) (hst : st.length = 8) (l : List UInt8) (hl : l.length = 64) (ss cs : Array Value) (h1 : (st.map wv).toArray = ss) (h2 : (l.map bv).toArray = cs) (w : World) (hK : TabAt w) (hw : 2 < w.heap.size) :
    Calls Tryd.prog 83 #[.agg ss, .agg cs] w fun e w' => ∃ mm : Array Value, e = .returned (.agg mm) ∧ Hid (((mixed st l).map wv).toArray = mm) ∧ aggOk (.agg mm) 8 ∧ Below w.heap.size w w' := by
  subst h1 h2
  obtain ⟨tk, fr, hf⟩ := hK
  refine (mix_any st hst l hl w tk fr hw hf).mono fun e w' h => ⟨_, h.1, rfl, ⟨_, rfl, by simp [length_mixed st l hst], one_words _⟩, h.2⟩
theorem there_below {w w' : World} {g o n : Nat} (h : w.there g o n) (hb : Below w.heap.size w w') (hg : g < w.heap.size) : w'.there g o n := fun j hj => by
  rw [hb.cell (p := ⟨g, o + j, none⟩) hg, hb.frozen (p := ⟨g, o + j, none⟩) hg]; exact h j hj
theorem _root_.Go.World.grownBy.drew {a b : World} {row : Option Nat} (h : a.grownBy b row) : a.grownBy b.drew row := ⟨h.os, h.tape, h.output, h.size, h.block⟩
theorem grown_setRow {a b : World} {row : Option Nat} (h : a.grownBy b row) (g : Nat) (cs : Array Value) (hg : row = some g) : a.grownBy (b.setRow g cs) row :=
  ⟨h.os, h.tape, h.output, by rw [setRow_size]; exact h.size, fun i hi hne => by rw [setRow_other _ _ _ _ (fun e => hne (by rw [hg, e]))]; exact h.block i hi hne⟩
theorem grown_setCell {a b : World} {row : Option Nat} (h : a.grownBy b row) (x : Addr) (v : Value) (hg : row = some x.block) : a.grownBy (b.setCell x v) row :=
  ⟨h.os, h.tape, h.output, by rw [World.size_setCell]; exact h.size, fun i hi hne => by rw [heap_setCell_other _ _ _ _ (fun e => hne (by rw [hg, e]))]; exact h.block i hi hne⟩
theorem grown_below {a b c : World} {row : Option Nat} (h : a.grownBy b row) (hb : Below b.heap.size b c) : a.grownBy c row :=
  ⟨hb.os.trans h.os, hb.tape.trans h.tape, hb.output.trans h.output, Nat.le_trans h.size hb.size, fun i hi hne => (hb.block i (Nat.lt_of_lt_of_le hi h.size)).trans (h.block i hi hne)⟩
theorem tab_grown {a b : World} {g : Nat} (h : TabAt a) (hg : a.grownBy b (some g)) (h1 : 2 ≠ g) : TabAt b := by
  obtain ⟨tk, fr, hf⟩ := h
  exact ⟨tk, fr, by rw [hg.block 2 (Array.getElem?_eq_some_iff.1 hf).1 (by simpa using h1)]; exact hf⟩
theorem range_grown {a b : World} {g ba bo : Nat} {cs : List Value} (h : a.rangeAt ba bo cs) (hg : a.grownBy b (some g)) (hne : ba ≠ g) : b.rangeAt ba bo cs := fun j v hv =>
  hg.cell (h j v hv) (by simpa using hne)
theorem SrcAt.grown {a b : World} {g : Nat} {sp : Option Addr} {bs : List UInt8} (h : SrcAt a g sp bs) (hg : a.grownBy b (some g)) : SrcAt b g sp bs := fun hne => by
  obtain ⟨ba, bo, e, hb, hr⟩ := h hne
  exact ⟨ba, bo, e, hb, range_grown hr hg hb⟩
theorem range_drop {w : World} {ba bo : Nat} {bs : List UInt8} (h : w.rangeAt ba bo (bs.map bv)) (n : Nat) : w.rangeAt ba (bo + n) ((bs.drop n).map bv) := fun j v hv => by
  rw [Nat.add_assoc]
  refine h (n + j) v ?_
  rw [List.map_drop, List.getElem?_drop] at hv
  exact hv
theorem src_rest {w : World} {g ba bo cap n : Nat} {bs : List UInt8} {sp : Option Addr} (h : w.rangeAt ba bo (bs.map bv)) (hne : ba ≠ g) (hc : bs.length ≤ cap)
    (hsp : (if cap = n then (some ⟨ba, bo, none⟩ : Option Addr) else (some ⟨ba, bo, none⟩ : Option Addr).map (·.add n)) = sp) : SrcAt w g sp (bs.drop n) := fun hd => by
  have hlt : n < bs.length := by
    rcases Nat.lt_or_ge n bs.length with h | h
    · exact h
    · exact absurd (List.drop_of_length_le h) hd
  rw [if_neg (by omega), Option.map_some, Addr.add_mid] at hsp
  exact ⟨ba, bo + n, hsp.symm, hne, range_drop h n⟩
theorem grown_setCells {a b : World} {g : Nat} (h : a.grownBy b (some g)) (vs : List Value) (o : Nat) : a.grownBy (b.setCells g o vs) (some g) := by
  induction vs generalizing b o with
  | nil => exact h
  | cons v r ih => rw [World.setCells]; exact ih (grown_setCell h _ _ rfl) _
end Go.Proofs.YtlhjifdahagkaaaDoor.Sha
