/-
  Plain words on the rounds of a block: the eight words, a round, all 64, and what is added to the state. No program is named here.
  The walk of mix: the state behind one more block is the rounds' words added to it; nothing that was there has turned.
  Plain words on an object that is told bytes: its three parts, one byte more, many; what a piece does that fits into what is left of the block, and one that fills it. No program is named here.
-/
import Derived.Test.YtmhlafhbdpeglaaDoorQ3
import Derived.Test.YtmhlafhbdpeglaaDoorQ4
import Derived.Deep.WholeRow
namespace Go.Proofs.YtmhlafhbdpeglaaDoor.Sha
/-- Eight words. -/
structure St8 where
  a : UInt32
  b : UInt32
  c : UInt32
  d : UInt32
  e : UInt32
  f : UInt32
  g : UInt32
  h : UInt32
def St8.list (s : St8) : List UInt32 := [s.a, s.b, s.c, s.d, s.e, s.f, s.g, s.h]
def bs0 (x : UInt32) : UInt32 := rotr x 2 ^^^ rotr x 13 ^^^ rotr x 22
def bs1 (x : UInt32) : UInt32 := rotr x 6 ^^^ rotr x 11 ^^^ rotr x 25
def t1Of (s : St8) (k w : UInt32) : UInt32 := s.h + bs1 s.e + (s.e &&& s.f ^^^ ~~~s.e &&& s.g) + k + w
def t2Of (s : St8) : UInt32 := bs0 s.a + (s.a &&& s.b ^^^ s.a &&& s.c ^^^ s.b &&& s.c)
def rnd (s : St8) (k w : UInt32) : St8 := ⟨t1Of s k w + t2Of s, s.a, s.b, s.c, s.d + t1Of s k w, s.e, s.f, s.g⟩
/-- The words K. -/
def kTab : List UInt32 := [1116352408, 1899447441, 3049323471, 3921009573, 961987163, 1508970993, 2453635748, 2870763221, 3624381080, 310598401, 607225278, 1426881987, 1925078388, 2162078206, 2614888103, 3248222580, 3835390401, 4022224774, 264347078, 604807628, 770255983, 1249150122, 1555081692, 1996064986, 2554220882, 2821834349, 2952996808, 3210313671, 3336571891, 3584528711, 113926993, 338241895, 666307205, 773529912, 1294757372, 1396182291, 1695183700, 1986661051, 2177026350, 2456956037, 2730485921, 2820302411, 3259730800, 3345764771, 3516065817, 3600352804, 4094571909, 275423344, 430227734, 506948616, 659060556, 883997877, 958139571, 1322822218, 1537002063, 1747873779, 1955562222, 2024104815, 2227730452, 2361852424, 2428436474, 2756734187, 3204031479, 3329325298]
/-- The state at first. -/
def hTab : List UInt32 := [1779033703, 3144134277, 1013904242, 2773480762, 1359893119, 2600822924, 528734635, 1541459225]
def roundsTo (s : St8) (ws : List UInt32) : Nat → St8
  | 0 => s
  | k + 1 => rnd (roundsTo s ws k) (kTab.getD k 0) (ws.getD k 0)
def ofList8 (l : List UInt32) : St8 := ⟨l.getD 0 0, l.getD 1 0, l.getD 2 0, l.getD 3 0, l.getD 4 0, l.getD 5 0, l.getD 6 0, l.getD 7 0⟩
/-- The state behind one more block. -/
def mixed (st : List UInt32) (l : List UInt8) : List UInt32 := List.zipWith (· + ·) st (roundsTo (ofList8 st) (wordsTo l 64) 64).list
theorem t1_form (s : St8) (k w : UInt32) : IntKind.u32.wrap (IntKind.u32.wrap (IntKind.u32.wrap (IntKind.u32.wrap (iv s.h + bits .xor .u32 (bits .xor .u32 (iv (rotr s.e 6)) (iv (rotr s.e 11))) (iv (rotr s.e 25))) + bits .xor .u32 (bits .and .u32 (iv s.e) (iv s.f)) (bits .and .u32 (bits .xor .u32 4294967295 (iv s.e)) (iv s.g))) + iv k) + iv w) = iv (t1Of s k w) := by
  simp only [iv_not, iv_xor, iv_and, iv_add]; rfl
theorem t2_form (s : St8) : IntKind.u32.wrap (bits .xor .u32 (bits .xor .u32 (iv (rotr s.a 2)) (iv (rotr s.a 13))) (iv (rotr s.a 22)) + bits .xor .u32 (bits .xor .u32 (bits .and .u32 (iv s.a) (iv s.b)) (bits .and .u32 (iv s.a) (iv s.c))) (bits .and .u32 (iv s.b) (iv s.c))) = iv (t2Of s) := by
  simp only [iv_xor, iv_and, iv_add]; rfl
theorem length_kTab : kTab.length = 64 := rfl
theorem getD_map_wv (l : List UInt32) (i : Nat) (h : i < l.length) : ((l.map wv).toArray)[i]? = some (.int .u32 (iv (l.getD i 0))) := by
  simp [wv, List.getD_eq_getElem?_getD, h]
/-- The state while the rounds' words are added to it. -/
def addTo (st out : List UInt32) (k : Nat) : List UInt32 := (List.zipWith (· + ·) st out).take k ++ st.drop k
theorem addTo_get (st out : List UInt32) (hs : st.length = 8) (ho : out.length = 8) (k : Nat) (h : k < 8) : (((addTo st out k).map wv).toArray)[k]? = some (.int .u32 (iv (st.getD k 0))) := by
  have h1 : ((List.zipWith (· + ·) st out).take k).length = k := by simp [hs, ho]; omega
  rw [getD_map_wv _ _ (by simp [addTo, hs, ho]; omega)]
  congr 3
  rw [List.getD_eq_getElem?_getD, addTo, List.getElem?_append_right (by omega), h1]
  simp [List.getD_eq_getElem?_getD]
theorem addTo_set (st out : List UInt32) (hs : st.length = 8) (ho : out.length = 8) (k : Nat) (h : k < 8) : ((addTo st out k).map wv).toArray.setIfInBounds k (.int .u32 (iv (st.getD k 0 + out.getD k 0))) = ((addTo st out (k + 1)).map wv).toArray := by
  rw [List.setIfInBounds_toArray]
  congr 1
  have e : Value.int .u32 (iv (st.getD k 0 + out.getD k 0)) = wv (st.getD k 0 + out.getD k 0) := rfl
  rw [e, ← List.map_set]
  congr 1
  apply List.ext_getElem
  · simp [addTo, hs, ho]; omega
  · intro i h1 h2
    simp only [addTo, List.getElem_set, List.getElem_append, List.getElem_take, List.getElem_zipWith, List.getElem_drop, List.length_take, List.length_zipWith, hs, ho]
    have hi : i < 8 := by simp [addTo, hs, ho] at h2; omega
    by_cases hik : k = i
    · subst hik
      simp [List.getD_eq_getElem?_getD, hs, ho, h]
      intro hh; omega
    · rw [if_neg hik]
      by_cases hlt : i < k
      · rw [dif_pos (by omega), dif_pos (by omega)]
      · rw [dif_neg (by omega), dif_neg (by omega)]
        congr 1; omega
theorem addTo_zero (st out : List UInt32) : addTo st out 0 = st := by simp [addTo]
theorem addTo_full (st out : List UInt32) (hs : st.length = 8) (ho : out.length = 8) : addTo st out 8 = List.zipWith (· + ·) st out := by
  unfold addTo; rw [List.take_of_length_le (by simp [hs, ho]), List.drop_of_length_le (by omega), List.append_nil]
theorem length_addTo (st out : List UInt32) (hs : st.length = 8) (ho : out.length = 8) (k : Nat) (h : k ≤ 8) : (addTo st out k).length = 8 := by simp [addTo, hs, ho]; omega
end Go.Proofs.YtmhlafhbdpeglaaDoor.Sha
namespace Go.Proofs.YtmhlafhbdpeglaaDoor.Sha
open Go.RowKit
theorem run_index8 (w : World) (cs : Array Value) (k : Nat) (v : Value) (hk : k < 8) (hv : cs[k]? = some v) : (Instr.index 69 (.agg cs) (.int .i64 (k : Int))).run Tryd.prog w = .ok v w := by
  have h1 : (underlying 69).run Tryd.prog w = .ok (.array 8 68) w := run_underlying Tryd.underlying69 w
  have h2 : (Go.sizeOf 68).run Tryd.prog w = .ok 1 w := by kernel_rfl
  simp [Instr.index, asIntOf, h1, h2, part, hv]
  intro h; omega
theorem spread_of (l : List UInt8) (hl : l.length = 64) (cs : Array Value) (h : (l.map bv).toArray = cs) (w : World) :
    Calls Tryd.prog 60 #[.agg cs] w fun e w' => e = .returned (.agg ((wordsTo l 64).map wv).toArray) ∧ Below w.heap.size w w' := by
  subst h; exact spread_any l hl w
/-- What holds of the world while the rounds go: block N holds the state, N+2 the result's place, M the words, 1 the table. -/
def MixAt (N M : Nat) (ss Z ws : Array Value) (w wr : World) : Prop :=
  wr.heap[N]? = some (.cells ss 69 (0, 0)) ∧ wr.heap[N + 1 + 1]? = some (.cells Z 69 (0, 0)) ∧ wr.heap[M]? = some (.cells ws 70 (0, 0)) ∧ (∃ tk fr, wr.heap[1]? = some (.cells (kTab.map wv).toArray tk fr)) ∧ Below w.heap.size w wr
theorem MixAt.drew {N M : Nat} {ss Z ws : Array Value} {w wr : World} (h : MixAt N M ss Z ws w wr) : MixAt N M ss Z ws w wr.drew := ⟨h.1, h.2.1, h.2.2.1, h.2.2.2.1, h.2.2.2.2.drew⟩
theorem MixAt.step {N M : Nat} {ss Z ws : Array Value} {w wr : World} (h : MixAt N M ss Z ws w wr) (hN : w.heap.size ≤ N) (hM : N + 1 + 1 < M) (h1 : 1 < N) (k : Nat) (v : Value) : MixAt N M (ss.setIfInBounds k v) Z ws w (wr.setCell ⟨N, k, none⟩ v) := by
  obtain ⟨a, b, c, ⟨tk, fr, d⟩, e⟩ := h
  refine ⟨heap_setCell_same _ _ _ _ _ _ a, ?_, ?_, ⟨tk, fr, ?_⟩, e.setCell hN _⟩
  · rw [heap_setCell_other _ _ _ _ (by show _ ≠ N; omega)]; exact b
  · rw [heap_setCell_other _ _ _ _ (by show _ ≠ N; omega)]; exact c
  · rw [heap_setCell_other _ _ _ _ (by show _ ≠ N; omega)]; exact d
theorem size_words (l : List UInt8) : ((wordsTo l 64).map wv).toArray.size = 64 := by simp [length_wordsTo]
theorem one_words (l : List UInt32) : ((l.map wv).toArray).all (·.oneCell') = true :=
  all_oneCell_toArray fun v hv => by obtain ⟨x, _, rfl⟩ := List.mem_map.1 hv; rfl
set_option maxRecDepth 100000 in
set_option maxHeartbeats 1000000 in
theorem mix_any (st : List UInt32) (hst : st.length = 8) (l : List UInt8) (hl : l.length = 64) (w : World) (tk : TypeId) (fr : Nat × Nat) (h1 : 1 < w.heap.size) (hK : w.heap[1]? = some (.cells (kTab.map wv).toArray tk fr)) :
    Calls Tryd.prog 56 #[.agg (st.map wv).toArray, .agg (l.map bv).toArray] w fun e w' => e = .returned (.agg ((mixed st l).map wv).toArray) ∧ Below w.heap.size w w' := by
  generalize hcs : (l.map bv).toArray = cs
  generalize hss : (st.map wv).toArray = ss
  have Hcs := hide hcs
  have Hss := hide hss
  have HK := hide hK
  clear hcs hss hK
  have hcz : cs.size = 64 := by rw [← unhide Hcs]; simp [hl]
  go_enter Tryd.func56, Tryd.ntmps56
  go_wp2_with (refine wpList_load_row rfl 75 _ rfl (w.heap.size + 1) rfl 75 cs (0, 0) _ (alloc3 w _ _ _).2.1 Tryd.underlying75 rfl (by rw [hcz]; kernel_rfl) ?_)
  refine (spread_of l hl cs (unhide Hcs) _).mono ?_
  rintro e w1 ⟨rfl, hb1⟩
  have z3 : ∀ A B C : Obj, (((w.alloc A).alloc B).alloc C).heap.size = w.heap.size + 1 + 1 + 1 := fun A B C => by simp
  have hN : w1.heap[w.heap.size]? = some (.cells ss 69 (0, 0)) := by rw [hb1.block _ (by rw [z3]; omega)]; exact (alloc3 w _ _ _).1
  have hN2 : w1.heap[w.heap.size + 1 + 1]? = some (.cells (List.replicate 8 (Value.int .u32 0)).toArray 69 (0, 0)) := by rw [hb1.block _ (by rw [z3]; omega)]; exact (alloc3 w _ _ _).2.2
  have hz1 : w.heap.size + 1 + 1 + 1 ≤ w1.heap.size := by have := hb1.size; rw [z3] at this; exact this
  have hB1 : Below w.heap.size w w1 := ((((Below.refl w.heap.size w).alloc (Nat.le_refl _) _).alloc (by simp) _).alloc (by simp; omega) _).trans (hb1.mono (by rw [z3]; omega))
  clear hb1
  generalize hws : ((wordsTo l 64).map wv).toArray = ws
  have hwz : ws.size = 64 := by rw [← hws]; exact size_words l
  have hw1 : ws.all (·.oneCell') = true := by rw [← hws]; exact one_words _
  have Hws := hide hws
  have HN := hide hN
  have HN2 := hide hN2
  have HB1 := hide hB1
  have Hw1 := hide hw1
  clear hws hN hN2 hB1 hw1
  go_wp2_with (refine wpList_store_row rfl 70 _ _ rfl w1.heap.size ws rfl rfl 70 _ (heap_alloc_new w1 _) (by rw [hwz]; kernel_rfl) (by rw [hwz]; rfl) (unhide Hw1) ?_)
  rw [World.setRow_alloc_new]
  have hM : MixAt w.heap.size w1.heap.size ss (List.replicate 8 (Value.int .u32 0)).toArray ws w (w1.alloc (.cells ws 70)) := by
    refine ⟨?_, ?_, heap_alloc_new _ _, ⟨tk, fr, ?_⟩, (unhide HB1).alloc (by omega) _⟩
    · rw [heap_alloc_old _ _ (by omega)]; exact unhide HN
    · rw [heap_alloc_old _ _ (by omega)]; exact unhide HN2
    · rw [heap_alloc_old _ _ (by omega), (unhide HB1).block 1 h1]; exact unhide HK
  generalize w1.alloc (.cells ws 70) = w2 at hM ⊢
  clear HN HN2 HB1 HK Hw1
  have hc : ∀ i, i < 8 → w2.cell? ⟨w.heap.size, i, none⟩ = some (.int .u32 (iv (st.getD i 0))) := fun i hi => by
    rw [cell_of_row _ _ i _ 69 (0, 0) hM.1, ← unhide Hss]; exact getD_map_wv st i (by omega)
  have HM := hide hM
  clear hM
  have c0 := hc 0 (by omega)
  have c1 := hc 1 (by omega)
  have c2 := hc 2 (by omega)
  have c3 := hc 3 (by omega)
  have c4 := hc 4 (by omega)
  have c5 := hc 5 (by omega)
  have c6 := hc 6 (by omega)
  have c7 := hc 7 (by omega)
  clear hc
  have HR : Hid (roundsTo (ofList8 st) (wordsTo l 64) 0 = ⟨st.getD 0 0, st.getD 1 0, st.getD 2 0, st.getD 3 0, st.getD 4 0, st.getD 5 0, st.getD 6 0, st.getD 7 0⟩) := rfl
  generalize st.getD 0 0 = x0 at c0 HR
  generalize st.getD 1 0 = x1 at c1 HR
  generalize st.getD 2 0 = x2 at c2 HR
  generalize st.getD 3 0 = x3 at c3 HR
  generalize st.getD 4 0 = x4 at c4 HR
  generalize st.getD 5 0 = x5 at c5 HR
  generalize st.getD 6 0 = x6 at c6 HR
  generalize st.getD 7 0 = x7 at c7 HR
  go_wp2
  go_region_held3 (fun w' => w'.cell? ⟨w.heap.size, 0, none⟩ = some (.int .u32 (iv x0)) ∧ w'.cell? ⟨w.heap.size, 1, none⟩ = some (.int .u32 (iv x1)) ∧ w'.cell? ⟨w.heap.size, 2, none⟩ = some (.int .u32 (iv x2)) ∧ w'.cell? ⟨w.heap.size, 3, none⟩ = some (.int .u32 (iv x3))) (go_keep) (fail)
  go_wp2
  go_region_held3 (fun w' => w'.cell? ⟨w.heap.size, 4, none⟩ = some (.int .u32 (iv x4)) ∧ w'.cell? ⟨w.heap.size, 5, none⟩ = some (.int .u32 (iv x5)) ∧ w'.cell? ⟨w.heap.size, 6, none⟩ = some (.int .u32 (iv x6)) ∧ w'.cell? ⟨w.heap.size, 7, none⟩ = some (.int .u32 (iv x7))) (go_keep) (fail)
  go_wp2
  clear c0 c1 c2 c3 c4 c5 c6 c7
  go_loopw [6, 7, 8, 9, 10, 11, 12, 13, 39] (fun a b c d e f g h t wr => ∃ (k : Nat) (s : St8), k ≤ 64 ∧ t = .int .i64 k ∧ Hid (roundsTo (ofList8 st) (wordsTo l 64) k = s) ∧ a = .int .u32 (iv s.a) ∧ b = .int .u32 (iv s.b) ∧ c = .int .u32 (iv s.c) ∧ d = .int .u32 (iv s.d) ∧ e = .int .u32 (iv s.e) ∧ f = .int .u32 (iv s.f) ∧ g = .int .u32 (iv s.g) ∧ h = .int .u32 (iv s.h) ∧ MixAt w.heap.size w1.heap.size ss (List.replicate 8 (Value.int .u32 0)).toArray ws w wr) (fun _ _ _ _ _ _ _ _ t _ => 64 - (intOf t).toNat)
  case atStart => exact ⟨0, ⟨x0, x1, x2, x3, x4, x5, x6, x7⟩, by omega, rfl, HR, rfl, rfl, rfl, rfl, rfl, rfl, rfl, rfl, (unhide HM).drew.drew⟩
  case round =>
    obtain ⟨k, s, hk, rfl, hs, rfl, rfl, rfl, rfl, rfl, rfl, rfl, rfl, hM⟩ := hrel
    obtain ⟨a, b, c, d, e, f, g, h⟩ := s
    clear HR HM
    by_cases hlt : k < 64
    · have HN : Hid (roundsTo (ofList8 st) (wordsTo l 64) (k + 1) = rnd ⟨a, b, c, d, e, f, g, h⟩ (kTab.getD k 0) ((wordsTo l 64).getD k 0)) := by
        show roundsTo _ _ (k + 1) = _
        rw [roundsTo, unhide hs]
      have cK : wr.cell? ⟨1, k, none⟩ = some (.int .u32 (iv (kTab.getD k 0))) := by
        obtain ⟨tk, fr, hf⟩ := hM.2.2.2.1
        rw [cell_of_row _ _ k _ tk fr hf]; exact getD_map_wv kTab k (by rw [length_kTab]; exact hlt)
      have cW : wr.cell? ⟨w1.heap.size, k, none⟩ = some (.int .u32 (iv ((wordsTo l 64).getD k 0))) := by
        rw [cell_of_row _ _ k _ 70 (0, 0) hM.2.2.1, ← unhide Hws]; exact getD_map_wv _ k (by rw [length_wordsTo]; exact hlt)
      generalize kTab.getD k 0 = kk at cK HN
      generalize (wordsTo l 64).getD k 0 = ww at cW HN
      have HM := hide hM
      clear hM hs
      have q1 : (k : Int) < 64 := by omega
      have q0 : (0 : Int) ≤ (k : Int) := by omega
      go_wp2_with (go_at_call 61; refine (right_any _ _ (by omega) (by omega) _).mono ?_; rintro e w' ⟨rfl, rfl⟩)
      go_region_held3 (fun w' => w'.cell? ⟨1, k, none⟩ = some (.int .u32 (iv kk)) ∧ w'.cell? ⟨w1.heap.size, k, none⟩ = some (.int .u32 (iv ww))) (go_keep) (fail)
      go_wp2_with (go_at_call 61; refine (right_any _ _ (by omega) (by omega) _).mono ?_; rintro e w' ⟨rfl, rfl⟩)
      go_roundw
      case rel =>
        have ea := (congr (congrArg (fun p q => IntKind.u32.wrap (p + q)) (t1_form ⟨a, b, c, d, e, f, g, h⟩ kk ww)) (t2_form ⟨a, b, c, d, e, f, g, h⟩)).trans (iv_add _ _)
        have ee := (congrArg (fun p => IntKind.u32.wrap (iv d + p)) (t1_form ⟨a, b, c, d, e, f, g, h⟩ kk ww)).trans (iv_add _ _)
        first
          | exact ⟨k + 1, rnd ⟨a, b, c, d, e, f, g, h⟩ kk ww, by omega, by go_num, HN, congrArg (Value.int .u32) ea, rfl, rfl, rfl, congrArg (Value.int .u32) ee, rfl, rfl, rfl, (unhide HM).drew⟩
          | (repeat apply Exists.intro); exact ⟨⟨k + 1, rnd ⟨a, b, c, d, e, f, g, h⟩ kk ww, by omega, by go_num, HN, congrArg (Value.int .u32) ea, rfl, rfl, rfl, congrArg (Value.int .u32) ee, rfl, rfl, rfl, (unhide HM).drew⟩, rfl⟩
      case measure => simp [intOf]; omega
    · obtain rfl : k = 64 := by omega
      clear hlt hk
      have hst8 : ([a, b, c, d, e, f, g, h] : List UInt32).length = 8 := rfl
      have HX : Hid (mixed st l = List.zipWith (· + ·) st [a, b, c, d, e, f, g, h]) := by
        show mixed st l = _
        unfold mixed; rw [unhide hs]; rfl
      clear hs
      have HM := hide hM
      clear hM
      go_wp2
      go_loopw [113] (fun t wr => ∃ k : Nat, k ≤ 8 ∧ t = .int .i64 k ∧ MixAt w.heap.size w1.heap.size ((addTo st [a, b, c, d, e, f, g, h] k).map wv).toArray (List.replicate 8 (Value.int .u32 0)).toArray ws w wr) (fun t _ => 8 - (intOf t).toNat)
      case atStart => exact ⟨0, by omega, rfl, by rw [addTo_zero, unhide Hss]; exact unhide HM⟩
      case round =>
        obtain ⟨k, hk, rfl, hM⟩ := hrel
        clear HM
        by_cases hlt : k < 8
        · have hI := fun w => run_index8 w #[.int .u32 (iv a), .int .u32 (iv b), .int .u32 (iv c), .int .u32 (iv d), .int .u32 (iv e), .int .u32 (iv f), .int .u32 (iv g), .int .u32 (iv h)] k _ hlt (getD_map_wv [a, b, c, d, e, f, g, h] k hlt)
          have cS : wr.cell? ⟨w.heap.size, k, none⟩ = some (.int .u32 (iv (st.getD k 0))) := by
            rw [cell_of_row _ _ k _ 69 (0, 0) hM.1]; exact addTo_get st _ hst hst8 k hlt
          have fS : wr.frozen? ⟨w.heap.size, k, none⟩ = false := frozen_of_row _ _ k _ 69 hM.1
          have HS := hide (hM.step (Nat.le_refl _) (by omega) h1 k (.int .u32 (iv (st.getD k 0 + [a, b, c, d, e, f, g, h].getD k 0))))
          rw [addTo_set st _ hst hst8 k hlt] at HS
          generalize st.getD k 0 = p at cS HS
          generalize [a, b, c, d, e, f, g, h].getD k 0 = q at hI HS
          clear hM
          have q1 : (k : Int) < 8 := by omega
          have ha := iv_add p q
          go_wp2
          go_roundw
          case rel => first | exact ⟨k + 1, by omega, by go_num, unhide HS⟩ | (repeat apply Exists.intro); exact ⟨⟨k + 1, by omega, by go_num, unhide HS⟩, rfl⟩
          case measure => simp [intOf]; omega
        · obtain rfl : k = 8 := by omega
          clear hlt hk
          rw [addTo_full st _ hst hst8, ← unhide HX] at hM
          have hmz : ((mixed st l).map wv).toArray.size = 8 := by rw [unhide HX]; simp [hst]
          generalize hmm : ((mixed st l).map wv).toArray = mm at hM hmz ⊢
          have hm1 : mm.all (·.oneCell') = true := by rw [← hmm]; exact one_words _
          have Hmm := hide hmm
          have Hm1 := hide hm1
          have HM := hide hM
          clear hmm hm1 hM
          go_wp2_with (first | (refine wpList_load_row rfl 69 _ rfl w.heap.size rfl 69 mm (0, 0) _ (unhide HM).1 Tryd.underlying69 rfl (by rw [hmz]; kernel_rfl) ?_) | (refine wpList_store_row rfl 69 _ _ rfl (w.heap.size + 1 + 1) mm rfl rfl 69 _ (unhide HM).2.1 (by rw [hmz]; kernel_rfl) (by rw [hmz]; rfl) (unhide Hm1) ?_))
          refine bodyPost_ret (results_cell_row Tryd.results56 _ _ (w.heap.size + 1 + 1) 69 mm (0, 0) _ rfl ?_ Tryd.underlying69 rfl (by rw [hmz]; kernel_rfl)) rfl ⟨by rw [← unhide Hmm], ?_⟩
          · exact setRow_heap _ _ _ _ _ _ (unhide HM).2.1
          · exact below_setRow (unhide HM).2.2.2.2 (by omega) _
end Go.Proofs.YtmhlafhbdpeglaaDoor.Sha
namespace Go.Proofs.YtmhlafhbdpeglaaDoor.Sha
/-- The state, what was told behind the last whole block, how many bytes were told. -/
structure HS where
  st : List UInt32
  last : List UInt8
  told : Nat
def HS.ok (s : HS) : Prop := s.st.length = 8 ∧ s.last.length = 64
def step1 (s : HS) (c : UInt8) : HS :=
  ⟨if (s.told + 1) % 64 = 0 then mixed s.st (s.last.set (s.told % 64) c) else s.st, s.last.set (s.told % 64) c, s.told + 1⟩
def feed (s : HS) (bs : List UInt8) : HS := bs.foldl step1 s
def hs0 : HS := ⟨hTab, List.replicate 64 0, 0⟩
theorem length_mixed (st : List UInt32) (l : List UInt8) (h : st.length = 8) : (mixed st l).length = 8 := by simp [mixed, St8.list, h]
theorem step1_ok (s : HS) (c : UInt8) (h : s.ok) : (step1 s c).ok := by
  obtain ⟨h1, h2⟩ := h
  unfold step1
  refine ⟨?_, by simp [h2]⟩
  dsimp only
  split
  · exact length_mixed _ _ h1
  · exact h1
theorem feed_ok (s : HS) (bs : List UInt8) (h : s.ok) : (feed s bs).ok := by
  induction bs generalizing s with
  | nil => exact h
  | cons c r ih => exact ih _ (step1_ok s c h)
theorem hs0_ok : hs0.ok := ⟨rfl, rfl⟩
theorem feed_append (s : HS) (a b : List UInt8) : feed s (a ++ b) = feed (feed s a) b := by simp [feed, List.foldl_append]
theorem feed_told (s : HS) (bs : List UInt8) : (feed s bs).told = s.told + bs.length := by
  induction bs generalizing s with
  | nil => rfl
  | cons c r ih => show (feed (step1 s c) r).told = _; rw [ih]; simp [step1]; omega
theorem feed_part (s : HS) (bs : List UInt8) (h : s.last.length = 64) (hl : s.told % 64 + bs.length < 64) :
    feed s bs = ⟨s.st, s.last.take (s.told % 64) ++ bs ++ s.last.drop (s.told % 64 + bs.length), s.told + bs.length⟩ := by
  induction bs generalizing s with
  | nil => simp [feed]
  | cons c r ih =>
    simp only [List.length_cons] at hl
    have hm : (s.told + 1) % 64 = s.told % 64 + 1 := by omega
    have e : step1 s c = ⟨s.st, s.last.set (s.told % 64) c, s.told + 1⟩ := by
      unfold step1; rw [if_neg (by omega)]
    show feed (step1 s c) r = _
    rw [ih (step1 s c) (by rw [e]; simpa using h) (by rw [e]; dsimp only; omega), e]
    dsimp only
    rw [hm]
    have e1 : (s.last.set (s.told % 64) c).take (s.told % 64 + 1) = s.last.take (s.told % 64) ++ [c] := by
      rw [List.take_add_one, List.take_set_of_le (Nat.le_refl _), List.getElem?_set_self (by omega)]; rfl
    have e2 : (s.last.set (s.told % 64) c).drop (s.told % 64 + 1 + r.length) = s.last.drop (s.told % 64 + (r.length + 1)) := by
      rw [List.drop_set_of_lt (by omega)]; congr 1; omega
    rw [e1, e2]
    simp; omega
theorem feed_fill (s : HS) (bs : List UInt8) (h : s.last.length = 64) (hl : s.told % 64 + bs.length = 64) :
    feed s bs = ⟨mixed s.st (s.last.take (s.told % 64) ++ bs), s.last.take (s.told % 64) ++ bs, s.told + bs.length⟩ := by
  have hne : bs ≠ [] := by intro e; subst e; simp at hl; omega
  obtain ⟨r, c, rfl⟩ : ∃ r c, bs = r ++ [c] := ⟨bs.dropLast, bs.getLast hne, (List.dropLast_concat_getLast hne).symm⟩
  simp only [List.length_append, List.length_singleton] at hl
  rw [feed_append, feed_part s r h (by omega)]
  have hm : (s.told + r.length) % 64 = 63 := by omega
  have ho : s.told % 64 + r.length = 63 := by omega
  show step1 _ c = _
  unfold step1
  dsimp only
  rw [if_pos (by omega), hm, ho]
  have e : (s.last.take (s.told % 64) ++ r ++ s.last.drop 63).set 63 c = s.last.take (s.told % 64) ++ (r ++ [c]) := by
    rw [List.set_append_right _ _ (by simp [h]; omega)]
    have h63 : 63 - (s.last.take (s.told % 64) ++ r).length = 0 := by simp [h]; omega
    obtain ⟨x, hx⟩ : ∃ x, s.last.drop 63 = [x] := List.length_eq_one_iff.1 (by simp [h])
    rw [h63, hx]
    simp
  rw [e]
  simp; omega
/-- The object's cells. -/
def hcells (s : HS) : List Value := s.st.map wv ++ s.last.map bv ++ [.int .i64 (s.told : Int)]
theorem length_hcells (s : HS) (h : s.ok) : (hcells s).length = 73 := by obtain ⟨h1, h2⟩ := h; simp [hcells, h1, h2]
theorem hcells_splice (s : HS) (h : s.ok) (o : Nat) (bs : List UInt8) (hl : o + bs.length ≤ 64) :
    (hcells s).take (8 + o) ++ bs.map bv ++ (hcells s).drop (8 + o + bs.length) = hcells ⟨s.st, s.last.take o ++ bs ++ s.last.drop (o + bs.length), s.told⟩ := by
  obtain ⟨h1, h2⟩ := h
  have e1 : (hcells s).take (8 + o) = s.st.map wv ++ (s.last.take o).map bv := by
    unfold hcells
    rw [List.append_assoc, List.take_append, List.take_of_length_le (by simp [h1]), List.length_map, h1, Nat.add_sub_cancel_left, List.take_append_of_le_length (by simp [h2]; omega), List.map_take]
  have e2 : (hcells s).drop (8 + o + bs.length) = (s.last.drop (o + bs.length)).map bv ++ [.int .i64 (s.told : Int)] := by
    unfold hcells
    rw [List.append_assoc, List.drop_append, List.drop_of_length_le (by simp [h1]; omega), List.length_map, h1, List.nil_append, show 8 + o + bs.length - 8 = o + bs.length from by omega, List.drop_append_of_le_length (by simp [h2]; omega), List.map_drop]
  rw [e1, e2]
  simp [hcells]
theorem hcells_told (s : HS) (h : s.ok) (t : Nat) : (hcells s).toArray.setIfInBounds 72 (.int .i64 (t : Int)) = (hcells ⟨s.st, s.last, t⟩).toArray := by
  obtain ⟨h1, h2⟩ := h
  rw [List.setIfInBounds_toArray]
  congr 1
  unfold hcells
  rw [List.set_append_right _ _ (by simp [h1, h2])]
  simp [h1, h2]
theorem hcells_get_told (s : HS) (h : s.ok) : (hcells s).toArray[72]? = some (.int .i64 (s.told : Int)) := by
  obtain ⟨h1, h2⟩ := h
  rw [List.getElem?_toArray]
  unfold hcells
  rw [List.getElem?_append_right (by simp [h1, h2])]
  simp [h1, h2]
theorem hcells_get_st (s : HS) (h : s.ok) (i : Nat) (hi : i < 8) : (hcells s).toArray[i]? = some (.int .u32 (iv (s.st.getD i 0))) := by
  obtain ⟨h1, h2⟩ := h
  rw [List.getElem?_toArray]
  unfold hcells
  rw [List.append_assoc, List.getElem?_append_left (by simp [h1, hi])]
  have := getD_map_wv s.st i (by omega)
  rwa [List.getElem?_toArray] at this
theorem hcells_get_last (s : HS) (h : s.ok) (i : Nat) (hi : i < 64) : (hcells s).toArray[8 + i]? = (s.last.map bv)[i]? := by
  obtain ⟨h1, h2⟩ := h
  rw [List.getElem?_toArray]
  unfold hcells
  rw [List.append_assoc, List.getElem?_append_right (by simp [h1]), List.getElem?_append_left (by simp [h1, h2]; omega)]
  simp [h1]
end Go.Proofs.YtmhlafhbdpeglaaDoor.Sha
