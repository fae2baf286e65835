/- Parts of the walk. -/
import Derived.Test.YtcofnockikninaaGreatDoorZgPF
import Derived.Test.YtcofnockikninaaGreatDoorZgRA
import Derived.Test.YtcofnockikninaaGreatDoorZgNum9
import Derived.BigQuiet
set_option maxRecDepth 100000
set_option maxHeartbeats 40000000
namespace Go.Proofs.YtcofnockikninaaGreatDoor
open Go.RowKit
def six (f : Nat → Nat) : List Value := (List.range 6).map fun k => .int .i64 (f k : Int)
theorem six_len (f : Nat → Nat) : (six f).length = 6 := by simp [six]
theorem six_get (f : Nat → Nat) {k : Nat} (hk : k < 6) : (six f).getD k undef = .int .i64 (f k : Int) := by
 rw [List.getD_eq_getElem?_getD, List.getElem?_eq_getElem (by rw [six_len]; exact hk)]
 simp [six]
theorem six_set (f g : Nat → Nat) {k : Nat} (h : ∀ j, j ≠ k → g j = f j) : (six f).set k (.int .i64 (g k : Int)) = six g := by
 refine List.ext_getElem (by simp [six]) fun j h1 h2 => ?_
 rw [List.getElem_set]
 split
 ·rename_i e
  subst e
  simp [six]
 ·rename_i e
  simp [six, h j (fun e2 => e e2.symm)]
theorem RowAt.six {w : World} {O : Nat} {f : Nat → Nat} (h : RowAt 94 w O [] (six f)) {k : Nat} (hk : k < 6) : w.cell? ⟨O, k, none⟩ = some (.int .i64 (f k : Int)) := by
 rw [h.cell k (by rw [six_len]; exact hk), six_get f hk]
theorem RowAt.put6 {w : World} {O : Nat} {f : Nat → Nat} (h : RowAt 94 w O [] (Go.Proofs.YtcofnockikninaaGreatDoor.six f)) {k : Nat} (hk : k < 6) (g : Nat → Nat) (hg : ∀ j, j ≠ k → g j = f j) : RowAt 94 (w.setCell ⟨O, k, none⟩ (.int .i64 (g k : Int))) O [] (Go.Proofs.YtcofnockikninaaGreatDoor.six g) := by
 have := h.set k (by rw [six_len]; exact hk) (.int .i64 (g k : Int))
 rwa [six_set f g hg] at this
theorem six_congr {f g : Nat → Nat} (h : ∀ k, k < 6 → f k = g k) : six f = six g := by
 refine List.ext_getElem (by simp [six]) fun j h1 h2 => ?_
 have : j < 6 := by rw [six_len] at h1; exact h1
 simp [six, h j this]
theorem six_one (g : Nat → Nat) : (six g).toArray.all (·.oneCell') = true := by simp [six, Value.oneCell', List.range, List.range.loop]
theorem results_row_tmp {P : Program} {fn : Func} {p u : Tmp} {ty : TypeId} (h : fn.results = #[.cell p ty, .tmp u]) (tmps : Array Value) (w : World) (g : Nat) (t : TypeId) (cs : Array Value) (fr : Nat × Nat) (d : TypeDesc)
  (hp : tmps.getD p undef = .pointer (some ⟨g, 0, none⟩)) (hg : w.heap[g]? = some (.cells cs t fr))
  (hu : P.underlying ty = some d) (hd : (match d with | .struct _ | .array _ _ => true | _ => false) = true) (hi : (P.info? ty).map (·.size) = some cs.size) (v : Value) (hv : tmps.getD u undef = v) :
  (results fn tmps).run P w = .ok (.tuple #[.agg cs, v]) w := by
 have hp' : tmps[p]?.getD undef = .pointer (some ⟨g, 0, none⟩) := by simpa using hp
 have hv' : tmps[u]?.getD undef = v := by simpa using hv
 simp [results, h, hp', hv', asAddr, run_loadVar_row w g t ty cs fr d hg hu hd hi]
theorem below_set {N : Nat} {a b : World} (h : Below N a b) (hN : N ≤ b.heap.size) (O : Nat) (hO : N ≤ O) (k : Nat) (v : Value) : Below N a (b.setCell ⟨O, k, none⟩ v) :=
 h.grown (grown_setCell (World.grownBy.refl _ (some O)) ⟨O, k, none⟩ v rfl) hN (fun g hg => by cases hg; exact hO)
theorem heap_drewN6 (w : World) : ∀ n, (w.drewN n).heap = w.heap
 | 0 => rfl
 | n + 1 => heap_drewN6 w n
theorem below_drewN6 {B : Nat} {a w : World} (h : Below B a w) : ∀ q, Below B a (w.drewN q)
 | 0 => h
 | q + 1 => (below_drewN6 h q).drew
theorem RowAt.drewN6 {t : TypeId} {w : World} {O : Nat} {u v : List Value} (h : RowAt t w O u v) (n : Nat) : RowAt t (w.drewN n) O u v := by
 unfold RowAt
 rw [heap_drewN6]
 exact h
theorem time_2 (w : World) (x : Value) (b : Bs) (hx : BytesAt w x b) (hl : b.length ≤ 1000000) :
  Calls Tryz.prog 49 #[x, .int .i64 2] w fun e w' => ∃ q : Nat → Nat, e = .returned (.tuple #[.agg (six q).toArray, .bool (timeP 2 b)]) ∧ (timeP 2 b = true → (six q).toArray = (six fun k => if k = 0 then yearK 2 b else partK 2 b k).toArray) ∧ Below w.heap.size w w' := by
 obtain ⟨sp, c, rfl, _, _, hc⟩ := bytes_open hx
 have HC := h_ hc
 obtain ⟨N, hN⟩ := exq b.length
 have HN := h_ hN
 obtain ⟨w1, hw1⟩ := exq (w.alloc (.cells #[.int .i64 0, .int .i64 0, .int .i64 0, .int .i64 0, .int .i64 0, .int .i64 0] 94))
 obtain ⟨w2, hw2⟩ := exq (w1.alloc (.cells #[.int .i64 0, .int .i64 0, .int .i64 0, .int .i64 0, .int .i64 0, .int .i64 0] 94))
 have hb1 := allocB hw1
 have hb2 := allocB hw2
 have Hb := h_ (hb1.trans (hb2.mono hb1.size))
 have Hs : Hid (w1.heap.size = w.heap.size + 1 ∧ w2.heap.size = w.heap.size + 2) := by rw [← hw2, ← hw1]; exact ⟨by simp, by simp⟩
 have HRes : Hid (w2.heap[w.heap.size]? = some (.cells #[.int .i64 0, .int .i64 0, .int .i64 0, .int .i64 0, .int .i64 0, .int .i64 0] 94 (0, 0))) := by
  show _ = _
  rw [hb2.block w.heap.size (by have := Hs.1; omega), ← hw1]
  exact heap_alloc_new w _
 have HO : Hid (RowAt 94 w2 w1.heap.size [] (six fun k => accK 2 b 0 k)) := by
  show _ = _
  rw [← hw2, show six (fun k => accK 2 b 0 k) = [.int .i64 0, .int .i64 0, .int .i64 0, .int .i64 0, .int .i64 0, .int .i64 0] by simp [six, accK_zero, List.range, List.range.loop]]
  exact heap_alloc_new w1 _
 have HBy := h_ ((hx.below hb1).below hb2)
 obtain ⟨A, hA⟩ := exq w.heap.size
 obtain ⟨O, hO⟩ := exq w1.heap.size
 rw [hN] at hl HBy HC
 rw [hA] at Hs HRes
 rw [hO] at Hs HO
 simp only [hN]
 clear hx hc hN hb1 hb2
 have hsz6 : (Tryz.prog.info? 94).map (·.size) = some 6 := by kernel_rfl
 have HEnd : Hid (∀ (g : Nat → Nat) (wr : World), wr.heap[A]? = some (.cells #[.int .i64 0, .int .i64 0, .int .i64 0, .int .i64 0, .int .i64 0, .int .i64 0] 94 (0, 0)) → Below w.heap.size w wr → Below w.heap.size w (wr.setRow A (six g).toArray) ∧ (wr.setRow A (six g).toArray).heap[A]? = some (.cells (six g).toArray 94 (0, 0))) := fun g wr h2 h3 => ⟨h3.grown (row := some A) ⟨rfl, rfl, rfl, by simp [World.setRow], fun i hi hne => by simp only [World.setRow]; rw [Array.getElem?_modify, if_neg (fun e => hne (by rw [e]))]⟩ h3.size (fun g hg => by cases hg; exact Nat.le_of_eq hA), setRow_heap wr A _ _ 94 (0, 0) h2⟩
 by_cases hlen : N = 13
 case neg =>
  have HT : Hid (timeP 2 b = false) := time_len (by have := u_ HN; omega)
  have d1 : ((N : Int) == 13) = false := by simp; omega
  have d1' : ((N : Int) != 13) = true := by simp; omega
  go_enter Tryz.func49, Tryz.ntmps49
  obtain ⟨o2, o3⟩ := u_ HEnd (fun k => accK 2 b 0 k) (w2) (u_ HRes) (u_ Hb)
  have O1 := h_ (six_one (fun k => accK 2 b 0 k))
  have O2 := h_ o2
  have O3 := h_ o3
  have HRw : Hid ((w2).heap[O]? = some (.cells (six (fun k => accK 2 b 0 k)).toArray 94 (0, 0))) := by have := u_ HO; unfold RowAt at this; rw [List.append_nil] at this; exact this
  clear o2 o3
  go_wp2_with (first | (refine wpList_load_row rfl 94 _ rfl O rfl 94 _ (0, 0) _ (u_ HRw) Tryz.underlying94 rfl hsz6 ?_) | (refine wpList_store_row rfl 94 _ _ rfl A _ rfl rfl 94 _ (u_ HRes) hsz6 rfl (u_ O1) ?_))
  exact bodyPost_ret (results_row_tmp Tryz.results49 _ _ A 94 _ (0, 0) _ rfl (u_ O3) Tryz.underlying94 rfl hsz6 (.bool false) rfl) rfl ⟨_, by rw [u_ HT], fun h => absurd h (by rw [u_ HT]; exact Bool.false_ne_true), u_ O2⟩
 obtain ⟨ba, oa, rfl, _, hcell⟩ := u_ HC (fun e => by have := u_ HN; rw [e] at this; simp at this; omega)
 have Hcell : Hid (∀ k wr, k < N → Below w.heap.size w wr → wr.cell? ⟨ba, oa + k, none⟩ = some (.int .u8 ((b.getD k 0).toNat : Int))) := fun k wr hk hb => by rw [hb.cell (p := ⟨ba, oa + k, none⟩) (World.block_lt_of_cell? w _ (hcell k hk))]; exact hcell k hk
 clear hcell HC
 subst hlen
 have cz := u_ Hcell 12 w2 (by omega) (u_ Hb)
 obtain ⟨z, hz⟩ := exq ((b.getD 12 0).toNat)
 have Hz := h_ hz
 rw [hz] at cz
 clear hz
 by_cases hz90 : z = 90
 case neg =>
  have HT : Hid (timeP 2 b = false) := time_z (by show (b.getD 12 0).toNat ≠ 90; have := u_ Hz; omega)
  have d1 : ((z : Int) == 90) = false := by simp; omega
  have d1' : ((z : Int) != 90) = true := by simp; omega
  go_enter Tryz.func49, Tryz.ntmps49
  obtain ⟨o2, o3⟩ := u_ HEnd (fun k => accK 2 b 0 k) (w2) (u_ HRes) (u_ Hb)
  have O1 := h_ (six_one (fun k => accK 2 b 0 k))
  have O2 := h_ o2
  have O3 := h_ o3
  have HRw : Hid ((w2).heap[O]? = some (.cells (six (fun k => accK 2 b 0 k)).toArray 94 (0, 0))) := by have := u_ HO; unfold RowAt at this; rw [List.append_nil] at this; exact this
  clear o2 o3
  go_wp2_with (first | (refine wpList_load_row rfl 94 _ rfl O rfl 94 _ (0, 0) _ (u_ HRw) Tryz.underlying94 rfl hsz6 ?_) | (refine wpList_store_row rfl 94 _ _ rfl A _ rfl rfl 94 _ (u_ HRes) hsz6 rfl (u_ O1) ?_))
  exact bodyPost_ret (results_row_tmp Tryz.results49 _ _ A 94 _ (0, 0) _ rfl (u_ O3) Tryz.underlying94 rfl hsz6 (.bool false) rfl) rfl ⟨_, by rw [u_ HT], fun h => absurd h (by rw [u_ HT]; exact Bool.false_ne_true), u_ O2⟩
 subst hz90
 go_enter Tryz.func49, Tryz.ntmps49
 go_wp2
 go_loopw [7] (fun ii wr => ∃ i : Nat, i ≤ 12 ∧ ii = .int .i64 (i : Int) ∧ Hid ((b.take i).all isDig = true) ∧ Hid (RowAt 94 wr O [] (six fun k => accK 2 b i k)) ∧ Hid (wr.heap[A]? = some (.cells #[.int .i64 0, .int .i64 0, .int .i64 0, .int .i64 0, .int .i64 0, .int .i64 0] 94 (0, 0))) ∧ Hid (Below w.heap.size w wr)) (fun ii _ => 12 - (intOf ii).toNat)
 case atStart => exact ⟨0, by omega, rfl, by rfl, HO, HRes, Hb⟩
 case round =>
  obtain ⟨i, hi, rfl, HD, HRo, HRe, HB⟩ := hrel
  clear HO HRes Hb cz hw1 hw2
  by_cases hlt : i < 12
  ·obtain ⟨d1, d1n⟩ := ltVL i 12 12
   have i0 : (0 : Int) ≤ (i : Int) := by omega
   have i1 : (i : Int) < 13 := by omega
   have cp := u_ Hcell i wr (by omega) (u_ HB)
   obtain ⟨p, hp⟩ := exq ((b.getD i 0).toNat)
   have Hp := h_ hp
   rw [hp] at cp
   have Hil : Hid (i < b.length) := by show _ < _; have := u_ HN; omega
   clear hp
   by_cases h48 : p < 48
   ·have HT : Hid (timeP 2 b = false) := time_notdig (u_ Hil) (by omega) (by unfold isDig; rw [u_ Hp]; simp; omega)
    obtain ⟨d2, d2n⟩ := ltVL p 48 48
    obtain ⟨o2, o3⟩ := u_ HEnd (fun k => accK 2 b i k) (wr) (u_ HRe) (u_ HB)
    have O1 := h_ (six_one (fun k => accK 2 b i k))
    have O2 := h_ o2
    have O3 := h_ o3
    have HRw : Hid ((wr).heap[O]? = some (.cells (six (fun k => accK 2 b i k)).toArray 94 (0, 0))) := by have := u_ HRo; unfold RowAt at this; rw [List.append_nil] at this; exact this
    clear o2 o3
    go_wp2_with (first | (refine wpList_load_row rfl 94 _ rfl O rfl 94 _ (0, 0) _ (u_ HRw) Tryz.underlying94 rfl hsz6 ?_) | (refine wpList_store_row rfl 94 _ _ rfl A _ rfl rfl 94 _ (u_ HRe) hsz6 rfl (u_ O1) ?_))
    exact bodyPost_ret (results_row_tmp Tryz.results49 _ _ A 94 _ (0, 0) _ rfl (u_ O3) Tryz.underlying94 rfl hsz6 (.bool false) rfl) rfl ⟨_, by rw [u_ HT], fun h => absurd h (by rw [u_ HT]; exact Bool.false_ne_true), u_ O2⟩
   obtain ⟨d2, d2n⟩ := ltVLf p 48 48
   by_cases h57 : 57 < p
   ·have HT : Hid (timeP 2 b = false) := time_notdig (u_ Hil) (by omega) (by unfold isDig; rw [u_ Hp]; simp; omega)
    obtain ⟨d3, d3n⟩ := ltLV 57 57 p
    obtain ⟨o2, o3⟩ := u_ HEnd (fun k => accK 2 b i k) (wr) (u_ HRe) (u_ HB)
    have O1 := h_ (six_one (fun k => accK 2 b i k))
    have O2 := h_ o2
    have O3 := h_ o3
    have HRw : Hid ((wr).heap[O]? = some (.cells (six (fun k => accK 2 b i k)).toArray 94 (0, 0))) := by have := u_ HRo; unfold RowAt at this; rw [List.append_nil] at this; exact this
    clear o2 o3
    go_wp2_with (first | (refine wpList_load_row rfl 94 _ rfl O rfl 94 _ (0, 0) _ (u_ HRw) Tryz.underlying94 rfl hsz6 ?_) | (refine wpList_store_row rfl 94 _ _ rfl A _ rfl rfl 94 _ (u_ HRe) hsz6 rfl (u_ O1) ?_))
    exact bodyPost_ret (results_row_tmp Tryz.results49 _ _ A 94 _ (0, 0) _ rfl (u_ O3) Tryz.underlying94 rfl hsz6 (.bool false) rfl) rfl ⟨_, by rw [u_ HT], fun h => absurd h (by rw [u_ HT]; exact Bool.false_ne_true), u_ O2⟩
   obtain ⟨d3, d3n⟩ := ltLVf 57 57 p
   have HD2 : Hid ((b.take (i + 1)).all isDig = true) := by
    show _ = _
    rw [all_succ (u_ Hil), u_ HD]
    unfold isDig
    rw [u_ Hp]
    simp
    omega
   by_cases hyi : 2 ≤ i
   ·obtain ⟨d4, d4n⟩ := leLV 2 2 i
    obtain ⟨D, hD⟩ := exq (i - 2)
    obtain ⟨q, hq⟩ := exq (D / 2)
    obtain ⟨k, hk⟩ := exq (1 + q)
    have eD : (i : Int) - 2 = (D : Int) := by omega
    have eq2 : (D : Int) / 2 = (q : Int) := by omega
    have ek : (1 : Int) + (q : Int) = (k : Int) := by omega
    have hk6 : k < 6 := by omega
    have k0 : (0 : Int) ≤ (k : Int) := by omega
    have k6 : (k : Int) < 6 := by omega
    have uD : IntKind.i64.wrap (D : Int) = (D : Int) := IntWalk.i64_in _ (by omega)
    have uq : IntKind.i64.wrap (q : Int) = (q : Int) := IntWalk.i64_in _ (by omega)
    have uk : IntKind.i64.wrap (k : Int) = (k : Int) := IntWalk.i64_in _ (by omega)
    have hkof : kOf 2 i = k := by unfold kOf; rw [if_pos hyi]; omega
    obtain ⟨a, ha⟩ := exq (accK 2 b i k)
    have hak : a ≤ 9999 := by rw [← ha]; exact accK_lt (by omega) (u_ HD) _
    have ck := HRo.six (k := k) (by omega)
    have fk : wr.frozen? ⟨O, k, none⟩ = false := HRo.frozen k
    simp only [ha] at ck
    obtain ⟨n2, hn2⟩ := exq (10 * a)
    obtain ⟨n3, hn3⟩ := exq (n2 + p)
    obtain ⟨n4, hn4⟩ := exq (n3 - 48)
    have e2 : (10 : Int) * (a : Int) = (n2 : Int) := by omega
    have e3 : (n2 : Int) + (p : Int) = (n3 : Int) := by omega
    have e4 : (n3 : Int) - 48 = (n4 : Int) := by omega
    have u2 : IntKind.i64.wrap (n2 : Int) = (n2 : Int) := IntWalk.i64_in _ (by omega)
    have u3 : IntKind.i64.wrap (n3 : Int) = (n3 : Int) := IntWalk.i64_in _ (by omega)
    have u4 : IntKind.i64.wrap (n4 : Int) = (n4 : Int) := IntWalk.i64_in _ (by omega)
    have up : IntKind.i64.wrap (p : Int) = (p : Int) := IntWalk.i64_in _ (by omega)
    have hn : accK 2 b (i + 1) k = n4 := by
     have h1 := accK_here (y := 2) (u_ Hil)
     rw [hkof, u_ Hp, ha] at h1
     omega
    have HR2 : Hid (RowAt 94 (wr.setCell ⟨O, k, none⟩ (.int .i64 (n4 : Int))).drew O [] (six fun k => accK 2 b (i + 1) k)) := by
     have h1 := HRo.put6 (k := k) (by omega) (fun k => accK 2 b (i + 1) k) (fun j hj => accK_other (by rw [hkof]; exact hj))
     simp only [hn] at h1
     exact h1.drew
    have HA2 : Hid ((wr.setCell ⟨O, k, none⟩ (.int .i64 (n4 : Int))).drew.heap[A]? = some (.cells #[.int .i64 0, .int .i64 0, .int .i64 0, .int .i64 0, .int .i64 0, .int .i64 0] 94 (0, 0))) := by
     show (wr.setCell ⟨O, k, none⟩ (.int .i64 (n4 : Int))).heap[A]? = _
     rw [heap_setCell_other _ _ _ _ (by show A ≠ O; have := Hs.1; omega)]
     exact u_ HRe
    have HB2 : Hid (Below w.heap.size w (wr.setCell ⟨O, k, none⟩ (.int .i64 (n4 : Int))).drew) := (below_set (u_ HB) HB.size O (by have := Hs.1; omega) k _).drew
    clear ha hn2 hn3 hn4 hn Hil HD HRo HRe HB h48 h57
    clear hD hq hk hkof hyi
    go_wp2
    go_region
    go_wp2
    go_roundw
    case rel =>
     first
      | exact ⟨i + 1, by omega, by go_num, HD2, HR2, HA2, HB2⟩
      | ((repeat apply Exists.intro); exact ⟨⟨i + 1, by omega, by go_num, HD2, HR2, HA2, HB2⟩, rfl⟩)
    case measure => simp [intOf]; omega
   ·obtain ⟨d4, d4n⟩ := leLVf 2 2 i
    have hkof : kOf 2 i = 0 := by unfold kOf; rw [if_neg hyi]
    obtain ⟨a, ha⟩ := exq (accK 2 b i 0)
    have hak : a ≤ 9999 := by rw [← ha]; exact accK_lt (by omega) (u_ HD) _
    have ck := HRo.six (k := 0) (by omega)
    have fk : wr.frozen? ⟨O, 0, none⟩ = false := HRo.frozen 0
    simp only [ha] at ck
    obtain ⟨n2, hn2⟩ := exq (10 * a)
    obtain ⟨n3, hn3⟩ := exq (n2 + p)
    obtain ⟨n4, hn4⟩ := exq (n3 - 48)
    have e2 : (10 : Int) * (a : Int) = (n2 : Int) := by omega
    have e3 : (n2 : Int) + (p : Int) = (n3 : Int) := by omega
    have e4 : (n3 : Int) - 48 = (n4 : Int) := by omega
    have u2 : IntKind.i64.wrap (n2 : Int) = (n2 : Int) := IntWalk.i64_in _ (by omega)
    have u3 : IntKind.i64.wrap (n3 : Int) = (n3 : Int) := IntWalk.i64_in _ (by omega)
    have u4 : IntKind.i64.wrap (n4 : Int) = (n4 : Int) := IntWalk.i64_in _ (by omega)
    have up : IntKind.i64.wrap (p : Int) = (p : Int) := IntWalk.i64_in _ (by omega)
    have hn : accK 2 b (i + 1) 0 = n4 := by
     have h1 := accK_here (y := 2) (u_ Hil)
     rw [hkof, u_ Hp, ha] at h1
     omega
    have HR2 : Hid (RowAt 94 (wr.setCell ⟨O, 0, none⟩ (.int .i64 (n4 : Int))).drew O [] (six fun k => accK 2 b (i + 1) k)) := by
     have h1 := HRo.put6 (k := 0) (by omega) (fun k => accK 2 b (i + 1) k) (fun j hj => accK_other (by rw [hkof]; exact hj))
     simp only [hn] at h1
     exact h1.drew
    have HA2 : Hid ((wr.setCell ⟨O, 0, none⟩ (.int .i64 (n4 : Int))).drew.heap[A]? = some (.cells #[.int .i64 0, .int .i64 0, .int .i64 0, .int .i64 0, .int .i64 0, .int .i64 0] 94 (0, 0))) := by
     show (wr.setCell ⟨O, 0, none⟩ (.int .i64 (n4 : Int))).heap[A]? = _
     rw [heap_setCell_other _ _ _ _ (by show A ≠ O; have := Hs.1; omega)]
     exact u_ HRe
    have HB2 : Hid (Below w.heap.size w (wr.setCell ⟨O, 0, none⟩ (.int .i64 (n4 : Int))).drew) := (below_set (u_ HB) HB.size O (by have := Hs.1; omega) 0 _).drew
    clear ha hn2 hn3 hn4 hn Hil HD HRo HRe HB h48 h57
    clear hkof hyi
    go_wp2
    go_region
    go_wp2
    go_roundw
    case rel =>
     first
      | exact ⟨i + 1, by omega, by go_num, HD2, HR2, HA2, HB2⟩
      | ((repeat apply Exists.intro); exact ⟨⟨i + 1, by omega, by go_num, HD2, HR2, HA2, HB2⟩, rfl⟩)
    case measure => simp [intOf]; omega
  ·obtain rfl : i = 12 := by omega
   have hTd := time_digs (y := 2) (b := b) (by have := u_ HN; omega) (u_ Hz) (u_ HD)
   have HRp : Hid (RowAt 94 wr O [] (six fun k => partK 2 b k)) := by
    have h1 := u_ HRo
    rw [six_congr (g := fun k => partK 2 b k) (fun k hk => accK_end (by omega))] at h1
    exact h1
   have hpl : ∀ k, k ≤ 5 → partK 2 b k ≤ 9999 := fun k hk => by rw [← accK_end hk]; exact accK_lt (by omega) (u_ HD) _
   obtain ⟨m0, hm0⟩ := exq (partK 2 b 0)
   have M0 : m0 ≤ 9999 := by rw [← hm0]; exact hpl 0 (by omega)
   have a0 := HRp.six (k := 0) (by omega)
   simp only [hm0] at a0
   obtain ⟨m1, hm1⟩ := exq (partK 2 b 1)
   have M1 : m1 ≤ 9999 := by rw [← hm1]; exact hpl 1 (by omega)
   have a1 := HRp.six (k := 1) (by omega)
   simp only [hm1] at a1
   obtain ⟨m2, hm2⟩ := exq (partK 2 b 2)
   have M2 : m2 ≤ 9999 := by rw [← hm2]; exact hpl 2 (by omega)
   have a2 := HRp.six (k := 2) (by omega)
   simp only [hm2] at a2
   obtain ⟨m3, hm3⟩ := exq (partK 2 b 3)
   have M3 : m3 ≤ 9999 := by rw [← hm3]; exact hpl 3 (by omega)
   have a3 := HRp.six (k := 3) (by omega)
   simp only [hm3] at a3
   obtain ⟨m4, hm4⟩ := exq (partK 2 b 4)
   have M4 : m4 ≤ 9999 := by rw [← hm4]; exact hpl 4 (by omega)
   have a4 := HRp.six (k := 4) (by omega)
   simp only [hm4] at a4
   obtain ⟨m5, hm5⟩ := exq (partK 2 b 5)
   have M5 : m5 ≤ 9999 := by rw [← hm5]; exact hpl 5 (by omega)
   have a5 := HRp.six (k := 5) (by omega)
   simp only [hm5] at a5
   have f0 : wr.frozen? ⟨O, 0, none⟩ = false := HRp.frozen 0
   rw [hm1, hm2, hm3, hm4, hm5] at hTd
   have HTd := h_ hTd
   have Hm0 := h_ hm0
   have Hm1 := h_ hm1
   have Hm2 := h_ hm2
   have Hm3 := h_ hm3
   have Hm4 := h_ hm4
   have Hm5 := h_ hm5
   clear hTd hpl hm0 hm1 hm2 hm3 hm4 hm5 HRo HD Hcell hlt hi
   have x1 : decide (((12 : Nat) : Int) < 12) = false := by simp
   obtain ⟨Y1, hY1⟩ := exq (m0 + 1900)
   have iY1 : (m0 : Int) + 1900 = (Y1 : Int) := by omega
   have yb : (Y1 : Int) ≤ 100000 := by omega
   have HR1 : Hid (RowAt 94 (wr.setCell ⟨O, 0, none⟩ (.int .i64 (Y1 : Int))) O [] (six fun k => if k = 0 then Y1 else partK 2 b k)) := HRp.put6 (k := 0) (by omega) (fun k => if k = 0 then Y1 else partK 2 b k) (fun j hj => if_neg hj)
   have HA1 : Hid ((wr.setCell ⟨O, 0, none⟩ (.int .i64 (Y1 : Int))).heap[A]? = some (.cells #[.int .i64 0, .int .i64 0, .int .i64 0, .int .i64 0, .int .i64 0, .int .i64 0] 94 (0, 0))) := by
    show _ = _
    rw [heap_setCell_other _ _ _ _ (by show A ≠ O; have := Hs.1; omega)]
    exact u_ HRe
   have HB1 : Hid (Below w.heap.size w (wr.setCell ⟨O, 0, none⟩ (.int .i64 (Y1 : Int)))) := below_set (u_ HB) HB.size O (by have := Hs.1; omega) 0 _
   by_cases h50 : m0 < 50
   case' pos =>
    obtain ⟨Y, hY⟩ := exq (Y1 + 100)
    have iY : (Y1 : Int) + 100 = (Y : Int) := by omega
    obtain ⟨k1, k1n⟩ := ltVL Y1 1950 1950
    have Yb : Y ≤ 100000 := by omega
    have HYr : Hid (yearK 2 b = Y) := by show _ = _; unfold yearK; rw [if_pos rfl, u_ Hm0, if_pos h50]; omega
    have HQ : Hid ((six fun k => if k = 0 then Y else partK 2 b k).toArray = (six fun k => if k = 0 then yearK 2 b else partK 2 b k).toArray) := by show _ = _; rw [u_ HYr]
    obtain ⟨W, hW⟩ := exq ((wr.setCell ⟨O, 0, none⟩ (.int .i64 (Y1 : Int))).setCell ⟨O, 0, none⟩ (.int .i64 (Y : Int)))
    have HRd : Hid (RowAt 94 W O [] (six fun k => if k = 0 then Y else partK 2 b k)) := by
     show RowAt _ _ _ _ _
     rw [← hW]
     exact (HR1.put6 (k := 0) (by omega) (fun k => if k = 0 then Y else partK 2 b k) (fun j hj => by simp only [if_neg hj]))
    have HAd : Hid (W.heap[A]? = some (.cells #[.int .i64 0, .int .i64 0, .int .i64 0, .int .i64 0, .int .i64 0, .int .i64 0] 94 (0, 0))) := by
     show W.heap[A]? = _
     rw [← hW, heap_setCell_other _ _ _ _ (by show A ≠ O; have := Hs.1; omega)]
     exact u_ HA1
    have HBd : Hid (Below w.heap.size w W) := by
     show Below _ _ W
     rw [← hW]
     exact (below_set (u_ HB1) HB1.size O (by have := Hs.1; omega) 0 _)
   case' neg =>
    obtain ⟨Y, rfl⟩ : ∃ Y, Y = Y1 := ⟨_, rfl⟩
    obtain ⟨k1, k1n⟩ := ltVLf Y 1950 1950
    have Yb : Y ≤ 100000 := by omega
    have HYr : Hid (yearK 2 b = Y) := by show _ = _; unfold yearK; rw [if_pos rfl, u_ Hm0, if_neg h50]; omega
    have HQ : Hid ((six fun k => if k = 0 then Y else partK 2 b k).toArray = (six fun k => if k = 0 then yearK 2 b else partK 2 b k).toArray) := by show _ = _; rw [u_ HYr]
    obtain ⟨W, hW⟩ := exq (wr.setCell ⟨O, 0, none⟩ (.int .i64 (Y : Int)))
    have HRd : Hid (RowAt 94 W O [] (six fun k => if k = 0 then Y else partK 2 b k)) := by
     show RowAt _ _ _ _ _
     rw [← hW]
     exact u_ HR1
    have HAd : Hid (W.heap[A]? = some (.cells #[.int .i64 0, .int .i64 0, .int .i64 0, .int .i64 0, .int .i64 0, .int .i64 0] 94 (0, 0))) := by
     show W.heap[A]? = _
     rw [← hW]
     exact u_ HA1
    have HBd : Hid (Below w.heap.size w W) := by
     show Below _ _ W
     rw [← hW]
     exact u_ HB1
    have z0 : W.cell? ⟨O, 0, none⟩ = some (.int .i64 (Y : Int)) := by
     have := HR1.six (k := 0) (by omega)
     rw [← hW]
     simpa using this
   all_goals
    have Hdy := h_ (fun w => days_any Y m1 (by omega) (by omega) w)
    obtain ⟨D, hD⟩ := exq (daysP Y m1)
    simp only [hD] at Hdy
    rcases (by omega : (m1 < 1) ∨ (1 ≤ m1 ∧ 12 < m1) ∨ (1 ≤ m1 ∧ m1 ≤ 12 ∧ m2 < 1) ∨ (1 ≤ m1 ∧ m1 ≤ 12 ∧ 1 ≤ m2 ∧ D < m2) ∨ (1 ≤ m1 ∧ m1 ≤ 12 ∧ 1 ≤ m2 ∧ m2 ≤ D ∧ 23 < m3) ∨ (1 ≤ m1 ∧ m1 ≤ 12 ∧ 1 ≤ m2 ∧ m2 ≤ D ∧ m3 ≤ 23 ∧ 59 < m4) ∨ (1 ≤ m1 ∧ m1 ≤ 12 ∧ 1 ≤ m2 ∧ m2 ≤ D ∧ m3 ≤ 23 ∧ m4 ≤ 59 ∧ 59 < m5) ∨ (1 ≤ m1 ∧ m1 ≤ 12 ∧ 1 ≤ m2 ∧ m2 ≤ D ∧ m3 ≤ 23 ∧ m4 ≤ 59 ∧ m5 ≤ 59)) with hc | hc | hc | hc | hc | hc | hc | hc
    obtain ⟨t0, t0n⟩ := leLVf 1 1 m1
    have HT : Hid (timeP 2 b = false) := by show _ = _; rw [u_ HTd, u_ HYr]; unfold calP; rw [hD]; simp; omega
    rotate_left
    obtain ⟨t0, t0n⟩ := leLV 1 1 m1
    obtain ⟨t1, t1n⟩ := leVLf m1 12 12
    have HT : Hid (timeP 2 b = false) := by show _ = _; rw [u_ HTd, u_ HYr]; unfold calP; rw [hD]; simp; omega
    rotate_left
    obtain ⟨t0, t0n⟩ := leLV 1 1 m1
    obtain ⟨t1, t1n⟩ := leVL m1 12 12
    obtain ⟨t2, t2n⟩ := leLVf 1 1 m2
    have HT : Hid (timeP 2 b = false) := by show _ = _; rw [u_ HTd, u_ HYr]; unfold calP; rw [hD]; simp; omega
    rotate_left
    obtain ⟨t0, t0n⟩ := leLV 1 1 m1
    obtain ⟨t1, t1n⟩ := leVL m1 12 12
    obtain ⟨t2, t2n⟩ := leLV 1 1 m2
    obtain ⟨t3, t3n⟩ := leVVf m2 D
    have HT : Hid (timeP 2 b = false) := by show _ = _; rw [u_ HTd, u_ HYr]; unfold calP; rw [hD]; simp; omega
    rotate_left
    obtain ⟨t0, t0n⟩ := leLV 1 1 m1
    obtain ⟨t1, t1n⟩ := leVL m1 12 12
    obtain ⟨t2, t2n⟩ := leLV 1 1 m2
    obtain ⟨t3, t3n⟩ := leVV m2 D
    obtain ⟨t4, t4n⟩ := leVLf m3 23 23
    have HT : Hid (timeP 2 b = false) := by show _ = _; rw [u_ HTd, u_ HYr]; unfold calP; rw [hD]; simp; omega
    rotate_left
    obtain ⟨t0, t0n⟩ := leLV 1 1 m1
    obtain ⟨t1, t1n⟩ := leVL m1 12 12
    obtain ⟨t2, t2n⟩ := leLV 1 1 m2
    obtain ⟨t3, t3n⟩ := leVV m2 D
    obtain ⟨t4, t4n⟩ := leVL m3 23 23
    obtain ⟨t5, t5n⟩ := leVLf m4 59 59
    have HT : Hid (timeP 2 b = false) := by show _ = _; rw [u_ HTd, u_ HYr]; unfold calP; rw [hD]; simp; omega
    rotate_left
    obtain ⟨t0, t0n⟩ := leLV 1 1 m1
    obtain ⟨t1, t1n⟩ := leVL m1 12 12
    obtain ⟨t2, t2n⟩ := leLV 1 1 m2
    obtain ⟨t3, t3n⟩ := leVV m2 D
    obtain ⟨t4, t4n⟩ := leVL m3 23 23
    obtain ⟨t5, t5n⟩ := leVL m4 59 59
    obtain ⟨t6, t6n⟩ := leVLf m5 59 59
    have HT : Hid (timeP 2 b = false) := by show _ = _; rw [u_ HTd, u_ HYr]; unfold calP; rw [hD]; simp; omega
    rotate_left
    obtain ⟨t0, t0n⟩ := leLV 1 1 m1
    obtain ⟨t1, t1n⟩ := leVL m1 12 12
    obtain ⟨t2, t2n⟩ := leLV 1 1 m2
    obtain ⟨t3, t3n⟩ := leVV m2 D
    obtain ⟨t4, t4n⟩ := leVL m3 23 23
    obtain ⟨t5, t5n⟩ := leVL m4 59 59
    obtain ⟨t6, t6n⟩ := leVL m5 59 59
    have HT : Hid (timeP 2 b = true) := by show _ = _; rw [u_ HTd, u_ HYr]; unfold calP; rw [hD]; simp; omega
    rotate_left
    all_goals
     clear hc hD HTd
     go_wp2
     try rw [hW]
     have b0 := HRd.six (k := 0) (by omega)
     have b1 := HRd.six (k := 1) (by omega)
     have b2 := HRd.six (k := 2) (by omega)
     have b3 := HRd.six (k := 3) (by omega)
     have b4 := HRd.six (k := 4) (by omega)
     have b5 := HRd.six (k := 5) (by omega)
     simp only [if_true] at b0
     simp only [if_neg (show ¬ 1 = 0 by omega), u_ Hm1] at b1
     simp only [if_neg (show ¬ 2 = 0 by omega), u_ Hm2] at b2
     simp only [if_neg (show ¬ 3 = 0 by omega), u_ Hm3] at b3
     simp only [if_neg (show ¬ 4 = 0 by omega), u_ Hm4] at b4
     simp only [if_neg (show ¬ 5 = 0 by omega), u_ Hm5] at b5
     clear a0 a1 a2 a3 a4 a5 hW
     have Hc : Hid (∀ n, Calls Tryz.prog 54 #[.int .i64 (Y : Int), .int .i64 (m1 : Int)] (W.drewN n) fun e w' => e = .returned (.int .i64 (D : Int)) ∧ ∃ q, w' = (W.drewN n).drewN q) := fun n => (u_ Hdy _).mono fun e w' h => ⟨h.1, 0, h.2⟩
     go_big_quiet (first | (go_at_call 54; refine Calls.quiet_of (u_ Hc _)) | fail)
     have HRq := h_ (HRd.drewN6 nq)
     have HAq : Hid ((W.drewN nq).heap[A]? = some (.cells #[.int .i64 0, .int .i64 0, .int .i64 0, .int .i64 0, .int .i64 0, .int .i64 0] 94 (0, 0))) := by show _ = _; rw [heap_drewN6]; exact u_ HAd
     have HBq := h_ (below_drewN6 (u_ HBd) nq)
     obtain ⟨o2, o3⟩ := u_ HEnd (fun k => if k = 0 then Y else partK 2 b k) (W.drewN nq) (u_ HAq) (u_ HBq)
     have O1 := h_ (six_one (fun k => if k = 0 then Y else partK 2 b k))
     have O2 := h_ o2
     have O3 := h_ o3
     have HRw : Hid ((W.drewN nq).heap[O]? = some (.cells (six (fun k => if k = 0 then Y else partK 2 b k)).toArray 94 (0, 0))) := by have := u_ HRq; unfold RowAt at this; rw [List.append_nil] at this; exact this
     clear o2 o3
     go_wp2_with (first | (refine wpList_load_row rfl 94 _ rfl O rfl 94 _ (0, 0) _ (u_ HRw) Tryz.underlying94 rfl hsz6 ?_) | (refine wpList_store_row rfl 94 _ _ rfl A _ rfl rfl 94 _ (u_ HAq) hsz6 rfl (u_ O1) ?_))
     first
     | exact bodyPost_ret (results_row_tmp Tryz.results49 _ _ A 94 _ (0, 0) _ rfl (u_ O3) Tryz.underlying94 rfl hsz6 (.bool false) rfl) rfl ⟨_, by rw [u_ HT], fun h => absurd h (by rw [u_ HT]; exact Bool.false_ne_true), u_ O2⟩
     | exact bodyPost_ret (results_row_tmp Tryz.results49 _ _ A 94 _ (0, 0) _ rfl (u_ O3) Tryz.underlying94 rfl hsz6 (.bool true) rfl) rfl ⟨_, by rw [u_ HT], fun _ => u_ HQ, u_ O2⟩
theorem time_4 (w : World) (x : Value) (b : Bs) (hx : BytesAt w x b) (hl : b.length ≤ 1000000) :
  Calls Tryz.prog 49 #[x, .int .i64 4] w fun e w' => ∃ q : Nat → Nat, e = .returned (.tuple #[.agg (six q).toArray, .bool (timeP 4 b)]) ∧ (timeP 4 b = true → (six q).toArray = (six fun k => if k = 0 then yearK 4 b else partK 4 b k).toArray) ∧ Below w.heap.size w w' := by
 obtain ⟨sp, c, rfl, _, _, hc⟩ := bytes_open hx
 have HC := h_ hc
 obtain ⟨N, hN⟩ := exq b.length
 have HN := h_ hN
 obtain ⟨w1, hw1⟩ := exq (w.alloc (.cells #[.int .i64 0, .int .i64 0, .int .i64 0, .int .i64 0, .int .i64 0, .int .i64 0] 94))
 obtain ⟨w2, hw2⟩ := exq (w1.alloc (.cells #[.int .i64 0, .int .i64 0, .int .i64 0, .int .i64 0, .int .i64 0, .int .i64 0] 94))
 have hb1 := allocB hw1
 have hb2 := allocB hw2
 have Hb := h_ (hb1.trans (hb2.mono hb1.size))
 have Hs : Hid (w1.heap.size = w.heap.size + 1 ∧ w2.heap.size = w.heap.size + 2) := by rw [← hw2, ← hw1]; exact ⟨by simp, by simp⟩
 have HRes : Hid (w2.heap[w.heap.size]? = some (.cells #[.int .i64 0, .int .i64 0, .int .i64 0, .int .i64 0, .int .i64 0, .int .i64 0] 94 (0, 0))) := by
  show _ = _
  rw [hb2.block w.heap.size (by have := Hs.1; omega), ← hw1]
  exact heap_alloc_new w _
 have HO : Hid (RowAt 94 w2 w1.heap.size [] (six fun k => accK 4 b 0 k)) := by
  show _ = _
  rw [← hw2, show six (fun k => accK 4 b 0 k) = [.int .i64 0, .int .i64 0, .int .i64 0, .int .i64 0, .int .i64 0, .int .i64 0] by simp [six, accK_zero, List.range, List.range.loop]]
  exact heap_alloc_new w1 _
 have HBy := h_ ((hx.below hb1).below hb2)
 obtain ⟨A, hA⟩ := exq w.heap.size
 obtain ⟨O, hO⟩ := exq w1.heap.size
 rw [hN] at hl HBy HC
 rw [hA] at Hs HRes
 rw [hO] at Hs HO
 simp only [hN]
 clear hx hc hN hb1 hb2
 have hsz6 : (Tryz.prog.info? 94).map (·.size) = some 6 := by kernel_rfl
 have HEnd : Hid (∀ (g : Nat → Nat) (wr : World), wr.heap[A]? = some (.cells #[.int .i64 0, .int .i64 0, .int .i64 0, .int .i64 0, .int .i64 0, .int .i64 0] 94 (0, 0)) → Below w.heap.size w wr → Below w.heap.size w (wr.setRow A (six g).toArray) ∧ (wr.setRow A (six g).toArray).heap[A]? = some (.cells (six g).toArray 94 (0, 0))) := fun g wr h2 h3 => ⟨h3.grown (row := some A) ⟨rfl, rfl, rfl, by simp [World.setRow], fun i hi hne => by simp only [World.setRow]; rw [Array.getElem?_modify, if_neg (fun e => hne (by rw [e]))]⟩ h3.size (fun g hg => by cases hg; exact Nat.le_of_eq hA), setRow_heap wr A _ _ 94 (0, 0) h2⟩
 by_cases hlen : N = 15
 case neg =>
  have HT : Hid (timeP 4 b = false) := time_len (by have := u_ HN; omega)
  have d1 : ((N : Int) == 15) = false := by simp; omega
  have d1' : ((N : Int) != 15) = true := by simp; omega
  go_enter Tryz.func49, Tryz.ntmps49
  obtain ⟨o2, o3⟩ := u_ HEnd (fun k => accK 4 b 0 k) (w2) (u_ HRes) (u_ Hb)
  have O1 := h_ (six_one (fun k => accK 4 b 0 k))
  have O2 := h_ o2
  have O3 := h_ o3
  have HRw : Hid ((w2).heap[O]? = some (.cells (six (fun k => accK 4 b 0 k)).toArray 94 (0, 0))) := by have := u_ HO; unfold RowAt at this; rw [List.append_nil] at this; exact this
  clear o2 o3
  go_wp2_with (first | (refine wpList_load_row rfl 94 _ rfl O rfl 94 _ (0, 0) _ (u_ HRw) Tryz.underlying94 rfl hsz6 ?_) | (refine wpList_store_row rfl 94 _ _ rfl A _ rfl rfl 94 _ (u_ HRes) hsz6 rfl (u_ O1) ?_))
  exact bodyPost_ret (results_row_tmp Tryz.results49 _ _ A 94 _ (0, 0) _ rfl (u_ O3) Tryz.underlying94 rfl hsz6 (.bool false) rfl) rfl ⟨_, by rw [u_ HT], fun h => absurd h (by rw [u_ HT]; exact Bool.false_ne_true), u_ O2⟩
 obtain ⟨ba, oa, rfl, _, hcell⟩ := u_ HC (fun e => by have := u_ HN; rw [e] at this; simp at this; omega)
 have Hcell : Hid (∀ k wr, k < N → Below w.heap.size w wr → wr.cell? ⟨ba, oa + k, none⟩ = some (.int .u8 ((b.getD k 0).toNat : Int))) := fun k wr hk hb => by rw [hb.cell (p := ⟨ba, oa + k, none⟩) (World.block_lt_of_cell? w _ (hcell k hk))]; exact hcell k hk
 clear hcell HC
 subst hlen
 have cz := u_ Hcell 14 w2 (by omega) (u_ Hb)
 obtain ⟨z, hz⟩ := exq ((b.getD 14 0).toNat)
 have Hz := h_ hz
 rw [hz] at cz
 clear hz
 by_cases hz90 : z = 90
 case neg =>
  have HT : Hid (timeP 4 b = false) := time_z (by show (b.getD 14 0).toNat ≠ 90; have := u_ Hz; omega)
  have d1 : ((z : Int) == 90) = false := by simp; omega
  have d1' : ((z : Int) != 90) = true := by simp; omega
  go_enter Tryz.func49, Tryz.ntmps49
  obtain ⟨o2, o3⟩ := u_ HEnd (fun k => accK 4 b 0 k) (w2) (u_ HRes) (u_ Hb)
  have O1 := h_ (six_one (fun k => accK 4 b 0 k))
  have O2 := h_ o2
  have O3 := h_ o3
  have HRw : Hid ((w2).heap[O]? = some (.cells (six (fun k => accK 4 b 0 k)).toArray 94 (0, 0))) := by have := u_ HO; unfold RowAt at this; rw [List.append_nil] at this; exact this
  clear o2 o3
  go_wp2_with (first | (refine wpList_load_row rfl 94 _ rfl O rfl 94 _ (0, 0) _ (u_ HRw) Tryz.underlying94 rfl hsz6 ?_) | (refine wpList_store_row rfl 94 _ _ rfl A _ rfl rfl 94 _ (u_ HRes) hsz6 rfl (u_ O1) ?_))
  exact bodyPost_ret (results_row_tmp Tryz.results49 _ _ A 94 _ (0, 0) _ rfl (u_ O3) Tryz.underlying94 rfl hsz6 (.bool false) rfl) rfl ⟨_, by rw [u_ HT], fun h => absurd h (by rw [u_ HT]; exact Bool.false_ne_true), u_ O2⟩
 subst hz90
 go_enter Tryz.func49, Tryz.ntmps49
 go_wp2
 go_loopw [7] (fun ii wr => ∃ i : Nat, i ≤ 14 ∧ ii = .int .i64 (i : Int) ∧ Hid ((b.take i).all isDig = true) ∧ Hid (RowAt 94 wr O [] (six fun k => accK 4 b i k)) ∧ Hid (wr.heap[A]? = some (.cells #[.int .i64 0, .int .i64 0, .int .i64 0, .int .i64 0, .int .i64 0, .int .i64 0] 94 (0, 0))) ∧ Hid (Below w.heap.size w wr)) (fun ii _ => 14 - (intOf ii).toNat)
 case atStart => exact ⟨0, by omega, rfl, by rfl, HO, HRes, Hb⟩
 case round =>
  obtain ⟨i, hi, rfl, HD, HRo, HRe, HB⟩ := hrel
  clear HO HRes Hb cz hw1 hw2
  by_cases hlt : i < 14
  ·obtain ⟨d1, d1n⟩ := ltVL i 14 14
   have i0 : (0 : Int) ≤ (i : Int) := by omega
   have i1 : (i : Int) < 15 := by omega
   have cp := u_ Hcell i wr (by omega) (u_ HB)
   obtain ⟨p, hp⟩ := exq ((b.getD i 0).toNat)
   have Hp := h_ hp
   rw [hp] at cp
   have Hil : Hid (i < b.length) := by show _ < _; have := u_ HN; omega
   clear hp
   by_cases h48 : p < 48
   ·have HT : Hid (timeP 4 b = false) := time_notdig (u_ Hil) (by omega) (by unfold isDig; rw [u_ Hp]; simp; omega)
    obtain ⟨d2, d2n⟩ := ltVL p 48 48
    obtain ⟨o2, o3⟩ := u_ HEnd (fun k => accK 4 b i k) (wr) (u_ HRe) (u_ HB)
    have O1 := h_ (six_one (fun k => accK 4 b i k))
    have O2 := h_ o2
    have O3 := h_ o3
    have HRw : Hid ((wr).heap[O]? = some (.cells (six (fun k => accK 4 b i k)).toArray 94 (0, 0))) := by have := u_ HRo; unfold RowAt at this; rw [List.append_nil] at this; exact this
    clear o2 o3
    go_wp2_with (first | (refine wpList_load_row rfl 94 _ rfl O rfl 94 _ (0, 0) _ (u_ HRw) Tryz.underlying94 rfl hsz6 ?_) | (refine wpList_store_row rfl 94 _ _ rfl A _ rfl rfl 94 _ (u_ HRe) hsz6 rfl (u_ O1) ?_))
    exact bodyPost_ret (results_row_tmp Tryz.results49 _ _ A 94 _ (0, 0) _ rfl (u_ O3) Tryz.underlying94 rfl hsz6 (.bool false) rfl) rfl ⟨_, by rw [u_ HT], fun h => absurd h (by rw [u_ HT]; exact Bool.false_ne_true), u_ O2⟩
   obtain ⟨d2, d2n⟩ := ltVLf p 48 48
   by_cases h57 : 57 < p
   ·have HT : Hid (timeP 4 b = false) := time_notdig (u_ Hil) (by omega) (by unfold isDig; rw [u_ Hp]; simp; omega)
    obtain ⟨d3, d3n⟩ := ltLV 57 57 p
    obtain ⟨o2, o3⟩ := u_ HEnd (fun k => accK 4 b i k) (wr) (u_ HRe) (u_ HB)
    have O1 := h_ (six_one (fun k => accK 4 b i k))
    have O2 := h_ o2
    have O3 := h_ o3
    have HRw : Hid ((wr).heap[O]? = some (.cells (six (fun k => accK 4 b i k)).toArray 94 (0, 0))) := by have := u_ HRo; unfold RowAt at this; rw [List.append_nil] at this; exact this
    clear o2 o3
    go_wp2_with (first | (refine wpList_load_row rfl 94 _ rfl O rfl 94 _ (0, 0) _ (u_ HRw) Tryz.underlying94 rfl hsz6 ?_) | (refine wpList_store_row rfl 94 _ _ rfl A _ rfl rfl 94 _ (u_ HRe) hsz6 rfl (u_ O1) ?_))
    exact bodyPost_ret (results_row_tmp Tryz.results49 _ _ A 94 _ (0, 0) _ rfl (u_ O3) Tryz.underlying94 rfl hsz6 (.bool false) rfl) rfl ⟨_, by rw [u_ HT], fun h => absurd h (by rw [u_ HT]; exact Bool.false_ne_true), u_ O2⟩
   obtain ⟨d3, d3n⟩ := ltLVf 57 57 p
   have HD2 : Hid ((b.take (i + 1)).all isDig = true) := by
    show _ = _
    rw [all_succ (u_ Hil), u_ HD]
    unfold isDig
    rw [u_ Hp]
    simp
    omega
   by_cases hyi : 4 ≤ i
   ·obtain ⟨d4, d4n⟩ := leLV 4 4 i
    obtain ⟨D, hD⟩ := exq (i - 4)
    obtain ⟨q, hq⟩ := exq (D / 2)
    obtain ⟨k, hk⟩ := exq (1 + q)
    have eD : (i : Int) - 4 = (D : Int) := by omega
    have eq2 : (D : Int) / 2 = (q : Int) := by omega
    have ek : (1 : Int) + (q : Int) = (k : Int) := by omega
    have hk6 : k < 6 := by omega
    have k0 : (0 : Int) ≤ (k : Int) := by omega
    have k6 : (k : Int) < 6 := by omega
    have uD : IntKind.i64.wrap (D : Int) = (D : Int) := IntWalk.i64_in _ (by omega)
    have uq : IntKind.i64.wrap (q : Int) = (q : Int) := IntWalk.i64_in _ (by omega)
    have uk : IntKind.i64.wrap (k : Int) = (k : Int) := IntWalk.i64_in _ (by omega)
    have hkof : kOf 4 i = k := by unfold kOf; rw [if_pos hyi]; omega
    obtain ⟨a, ha⟩ := exq (accK 4 b i k)
    have hak : a ≤ 9999 := by rw [← ha]; exact accK_lt (by omega) (u_ HD) _
    have ck := HRo.six (k := k) (by omega)
    have fk : wr.frozen? ⟨O, k, none⟩ = false := HRo.frozen k
    simp only [ha] at ck
    obtain ⟨n2, hn2⟩ := exq (10 * a)
    obtain ⟨n3, hn3⟩ := exq (n2 + p)
    obtain ⟨n4, hn4⟩ := exq (n3 - 48)
    have e2 : (10 : Int) * (a : Int) = (n2 : Int) := by omega
    have e3 : (n2 : Int) + (p : Int) = (n3 : Int) := by omega
    have e4 : (n3 : Int) - 48 = (n4 : Int) := by omega
    have u2 : IntKind.i64.wrap (n2 : Int) = (n2 : Int) := IntWalk.i64_in _ (by omega)
    have u3 : IntKind.i64.wrap (n3 : Int) = (n3 : Int) := IntWalk.i64_in _ (by omega)
    have u4 : IntKind.i64.wrap (n4 : Int) = (n4 : Int) := IntWalk.i64_in _ (by omega)
    have up : IntKind.i64.wrap (p : Int) = (p : Int) := IntWalk.i64_in _ (by omega)
    have hn : accK 4 b (i + 1) k = n4 := by
     have h1 := accK_here (y := 4) (u_ Hil)
     rw [hkof, u_ Hp, ha] at h1
     omega
    have HR2 : Hid (RowAt 94 (wr.setCell ⟨O, k, none⟩ (.int .i64 (n4 : Int))).drew O [] (six fun k => accK 4 b (i + 1) k)) := by
     have h1 := HRo.put6 (k := k) (by omega) (fun k => accK 4 b (i + 1) k) (fun j hj => accK_other (by rw [hkof]; exact hj))
     simp only [hn] at h1
     exact h1.drew
    have HA2 : Hid ((wr.setCell ⟨O, k, none⟩ (.int .i64 (n4 : Int))).drew.heap[A]? = some (.cells #[.int .i64 0, .int .i64 0, .int .i64 0, .int .i64 0, .int .i64 0, .int .i64 0] 94 (0, 0))) := by
     show (wr.setCell ⟨O, k, none⟩ (.int .i64 (n4 : Int))).heap[A]? = _
     rw [heap_setCell_other _ _ _ _ (by show A ≠ O; have := Hs.1; omega)]
     exact u_ HRe
    have HB2 : Hid (Below w.heap.size w (wr.setCell ⟨O, k, none⟩ (.int .i64 (n4 : Int))).drew) := (below_set (u_ HB) HB.size O (by have := Hs.1; omega) k _).drew
    clear ha hn2 hn3 hn4 hn Hil HD HRo HRe HB h48 h57
    clear hD hq hk hkof hyi
    go_wp2
    go_region
    go_wp2
    go_roundw
    case rel =>
     first
      | exact ⟨i + 1, by omega, by go_num, HD2, HR2, HA2, HB2⟩
      | ((repeat apply Exists.intro); exact ⟨⟨i + 1, by omega, by go_num, HD2, HR2, HA2, HB2⟩, rfl⟩)
    case measure => simp [intOf]; omega
   ·obtain ⟨d4, d4n⟩ := leLVf 4 4 i
    have hkof : kOf 4 i = 0 := by unfold kOf; rw [if_neg hyi]
    obtain ⟨a, ha⟩ := exq (accK 4 b i 0)
    have hak : a ≤ 9999 := by rw [← ha]; exact accK_lt (by omega) (u_ HD) _
    have ck := HRo.six (k := 0) (by omega)
    have fk : wr.frozen? ⟨O, 0, none⟩ = false := HRo.frozen 0
    simp only [ha] at ck
    obtain ⟨n2, hn2⟩ := exq (10 * a)
    obtain ⟨n3, hn3⟩ := exq (n2 + p)
    obtain ⟨n4, hn4⟩ := exq (n3 - 48)
    have e2 : (10 : Int) * (a : Int) = (n2 : Int) := by omega
    have e3 : (n2 : Int) + (p : Int) = (n3 : Int) := by omega
    have e4 : (n3 : Int) - 48 = (n4 : Int) := by omega
    have u2 : IntKind.i64.wrap (n2 : Int) = (n2 : Int) := IntWalk.i64_in _ (by omega)
    have u3 : IntKind.i64.wrap (n3 : Int) = (n3 : Int) := IntWalk.i64_in _ (by omega)
    have u4 : IntKind.i64.wrap (n4 : Int) = (n4 : Int) := IntWalk.i64_in _ (by omega)
    have up : IntKind.i64.wrap (p : Int) = (p : Int) := IntWalk.i64_in _ (by omega)
    have hn : accK 4 b (i + 1) 0 = n4 := by
     have h1 := accK_here (y := 4) (u_ Hil)
     rw [hkof, u_ Hp, ha] at h1
     omega
    have HR2 : Hid (RowAt 94 (wr.setCell ⟨O, 0, none⟩ (.int .i64 (n4 : Int))).drew O [] (six fun k => accK 4 b (i + 1) k)) := by
     have h1 := HRo.put6 (k := 0) (by omega) (fun k => accK 4 b (i + 1) k) (fun j hj => accK_other (by rw [hkof]; exact hj))
     simp only [hn] at h1
     exact h1.drew
    have HA2 : Hid ((wr.setCell ⟨O, 0, none⟩ (.int .i64 (n4 : Int))).drew.heap[A]? = some (.cells #[.int .i64 0, .int .i64 0, .int .i64 0, .int .i64 0, .int .i64 0, .int .i64 0] 94 (0, 0))) := by
     show (wr.setCell ⟨O, 0, none⟩ (.int .i64 (n4 : Int))).heap[A]? = _
     rw [heap_setCell_other _ _ _ _ (by show A ≠ O; have := Hs.1; omega)]
     exact u_ HRe
    have HB2 : Hid (Below w.heap.size w (wr.setCell ⟨O, 0, none⟩ (.int .i64 (n4 : Int))).drew) := (below_set (u_ HB) HB.size O (by have := Hs.1; omega) 0 _).drew
    clear ha hn2 hn3 hn4 hn Hil HD HRo HRe HB h48 h57
    clear hkof hyi
    go_wp2
    go_region
    go_wp2
    go_roundw
    case rel =>
     first
      | exact ⟨i + 1, by omega, by go_num, HD2, HR2, HA2, HB2⟩
      | ((repeat apply Exists.intro); exact ⟨⟨i + 1, by omega, by go_num, HD2, HR2, HA2, HB2⟩, rfl⟩)
    case measure => simp [intOf]; omega
  ·obtain rfl : i = 14 := by omega
   have hTd := time_digs (y := 4) (b := b) (by have := u_ HN; omega) (u_ Hz) (u_ HD)
   have HRp : Hid (RowAt 94 wr O [] (six fun k => partK 4 b k)) := by
    have h1 := u_ HRo
    rw [six_congr (g := fun k => partK 4 b k) (fun k hk => accK_end (by omega))] at h1
    exact h1
   have hpl : ∀ k, k ≤ 5 → partK 4 b k ≤ 9999 := fun k hk => by rw [← accK_end hk]; exact accK_lt (by omega) (u_ HD) _
   obtain ⟨m0, hm0⟩ := exq (partK 4 b 0)
   have M0 : m0 ≤ 9999 := by rw [← hm0]; exact hpl 0 (by omega)
   have a0 := HRp.six (k := 0) (by omega)
   simp only [hm0] at a0
   obtain ⟨m1, hm1⟩ := exq (partK 4 b 1)
   have M1 : m1 ≤ 9999 := by rw [← hm1]; exact hpl 1 (by omega)
   have a1 := HRp.six (k := 1) (by omega)
   simp only [hm1] at a1
   obtain ⟨m2, hm2⟩ := exq (partK 4 b 2)
   have M2 : m2 ≤ 9999 := by rw [← hm2]; exact hpl 2 (by omega)
   have a2 := HRp.six (k := 2) (by omega)
   simp only [hm2] at a2
   obtain ⟨m3, hm3⟩ := exq (partK 4 b 3)
   have M3 : m3 ≤ 9999 := by rw [← hm3]; exact hpl 3 (by omega)
   have a3 := HRp.six (k := 3) (by omega)
   simp only [hm3] at a3
   obtain ⟨m4, hm4⟩ := exq (partK 4 b 4)
   have M4 : m4 ≤ 9999 := by rw [← hm4]; exact hpl 4 (by omega)
   have a4 := HRp.six (k := 4) (by omega)
   simp only [hm4] at a4
   obtain ⟨m5, hm5⟩ := exq (partK 4 b 5)
   have M5 : m5 ≤ 9999 := by rw [← hm5]; exact hpl 5 (by omega)
   have a5 := HRp.six (k := 5) (by omega)
   simp only [hm5] at a5
   have f0 : wr.frozen? ⟨O, 0, none⟩ = false := HRp.frozen 0
   rw [hm1, hm2, hm3, hm4, hm5] at hTd
   have HTd := h_ hTd
   have Hm0 := h_ hm0
   have Hm1 := h_ hm1
   have Hm2 := h_ hm2
   have Hm3 := h_ hm3
   have Hm4 := h_ hm4
   have Hm5 := h_ hm5
   clear hTd hpl hm0 hm1 hm2 hm3 hm4 hm5 HRo HD Hcell hlt hi
   have x1 : decide (((14 : Nat) : Int) < 14) = false := by simp
   have HYr : Hid (yearK 4 b = m0) := by show _ = _; unfold yearK; rw [if_neg (by omega)]; exact u_ Hm0
   have HQ : Hid ((six fun k => partK 4 b k).toArray = (six fun k => if k = 0 then yearK 4 b else partK 4 b k).toArray) := by
    show _ = _
    refine congrArg List.toArray (six_congr fun k _ => ?_)
    by_cases e : k = 0
    ·rw [if_pos e, e, u_ HYr]; exact u_ Hm0
    ·rw [if_neg e]
   have HRd := HRp
   have HAd : Hid (wr.heap[A]? = some (.cells #[.int .i64 0, .int .i64 0, .int .i64 0, .int .i64 0, .int .i64 0, .int .i64 0] 94 (0, 0))) := u_ HRe
   have HBd := HB
   have Hdy := h_ (fun w => days_any m0 m1 (by omega) (by omega) w)
   obtain ⟨D, hD⟩ := exq (daysP m0 m1)
   simp only [hD] at Hdy
   rcases (by omega : (m1 < 1) ∨ (1 ≤ m1 ∧ 12 < m1) ∨ (1 ≤ m1 ∧ m1 ≤ 12 ∧ m2 < 1) ∨ (1 ≤ m1 ∧ m1 ≤ 12 ∧ 1 ≤ m2 ∧ D < m2) ∨ (1 ≤ m1 ∧ m1 ≤ 12 ∧ 1 ≤ m2 ∧ m2 ≤ D ∧ 23 < m3) ∨ (1 ≤ m1 ∧ m1 ≤ 12 ∧ 1 ≤ m2 ∧ m2 ≤ D ∧ m3 ≤ 23 ∧ 59 < m4) ∨ (1 ≤ m1 ∧ m1 ≤ 12 ∧ 1 ≤ m2 ∧ m2 ≤ D ∧ m3 ≤ 23 ∧ m4 ≤ 59 ∧ 59 < m5) ∨ (1 ≤ m1 ∧ m1 ≤ 12 ∧ 1 ≤ m2 ∧ m2 ≤ D ∧ m3 ≤ 23 ∧ m4 ≤ 59 ∧ m5 ≤ 59)) with hc | hc | hc | hc | hc | hc | hc | hc
   obtain ⟨t0, t0n⟩ := leLVf 1 1 m1
   have HT : Hid (timeP 4 b = false) := by show _ = _; rw [u_ HTd, u_ HYr]; unfold calP; rw [hD]; simp; omega
   rotate_left
   obtain ⟨t0, t0n⟩ := leLV 1 1 m1
   obtain ⟨t1, t1n⟩ := leVLf m1 12 12
   have HT : Hid (timeP 4 b = false) := by show _ = _; rw [u_ HTd, u_ HYr]; unfold calP; rw [hD]; simp; omega
   rotate_left
   obtain ⟨t0, t0n⟩ := leLV 1 1 m1
   obtain ⟨t1, t1n⟩ := leVL m1 12 12
   obtain ⟨t2, t2n⟩ := leLVf 1 1 m2
   have HT : Hid (timeP 4 b = false) := by show _ = _; rw [u_ HTd, u_ HYr]; unfold calP; rw [hD]; simp; omega
   rotate_left
   obtain ⟨t0, t0n⟩ := leLV 1 1 m1
   obtain ⟨t1, t1n⟩ := leVL m1 12 12
   obtain ⟨t2, t2n⟩ := leLV 1 1 m2
   obtain ⟨t3, t3n⟩ := leVVf m2 D
   have HT : Hid (timeP 4 b = false) := by show _ = _; rw [u_ HTd, u_ HYr]; unfold calP; rw [hD]; simp; omega
   rotate_left
   obtain ⟨t0, t0n⟩ := leLV 1 1 m1
   obtain ⟨t1, t1n⟩ := leVL m1 12 12
   obtain ⟨t2, t2n⟩ := leLV 1 1 m2
   obtain ⟨t3, t3n⟩ := leVV m2 D
   obtain ⟨t4, t4n⟩ := leVLf m3 23 23
   have HT : Hid (timeP 4 b = false) := by show _ = _; rw [u_ HTd, u_ HYr]; unfold calP; rw [hD]; simp; omega
   rotate_left
   obtain ⟨t0, t0n⟩ := leLV 1 1 m1
   obtain ⟨t1, t1n⟩ := leVL m1 12 12
   obtain ⟨t2, t2n⟩ := leLV 1 1 m2
   obtain ⟨t3, t3n⟩ := leVV m2 D
   obtain ⟨t4, t4n⟩ := leVL m3 23 23
   obtain ⟨t5, t5n⟩ := leVLf m4 59 59
   have HT : Hid (timeP 4 b = false) := by show _ = _; rw [u_ HTd, u_ HYr]; unfold calP; rw [hD]; simp; omega
   rotate_left
   obtain ⟨t0, t0n⟩ := leLV 1 1 m1
   obtain ⟨t1, t1n⟩ := leVL m1 12 12
   obtain ⟨t2, t2n⟩ := leLV 1 1 m2
   obtain ⟨t3, t3n⟩ := leVV m2 D
   obtain ⟨t4, t4n⟩ := leVL m3 23 23
   obtain ⟨t5, t5n⟩ := leVL m4 59 59
   obtain ⟨t6, t6n⟩ := leVLf m5 59 59
   have HT : Hid (timeP 4 b = false) := by show _ = _; rw [u_ HTd, u_ HYr]; unfold calP; rw [hD]; simp; omega
   rotate_left
   obtain ⟨t0, t0n⟩ := leLV 1 1 m1
   obtain ⟨t1, t1n⟩ := leVL m1 12 12
   obtain ⟨t2, t2n⟩ := leLV 1 1 m2
   obtain ⟨t3, t3n⟩ := leVV m2 D
   obtain ⟨t4, t4n⟩ := leVL m3 23 23
   obtain ⟨t5, t5n⟩ := leVL m4 59 59
   obtain ⟨t6, t6n⟩ := leVL m5 59 59
   have HT : Hid (timeP 4 b = true) := by show _ = _; rw [u_ HTd, u_ HYr]; unfold calP; rw [hD]; simp; omega
   rotate_left
   all_goals
    clear hc hD HTd
    go_wp2
    have Hc : Hid (∀ n, Calls Tryz.prog 54 #[.int .i64 (m0 : Int), .int .i64 (m1 : Int)] (wr.drewN n) fun e w' => e = .returned (.int .i64 (D : Int)) ∧ ∃ q, w' = (wr.drewN n).drewN q) := fun n => (u_ Hdy _).mono fun e w' h => ⟨h.1, 0, h.2⟩
    go_big_quiet (first | (go_at_call 54; refine Calls.quiet_of (u_ Hc _)) | fail)
    have HRq := h_ (HRd.drewN6 nq)
    have HAq : Hid ((wr.drewN nq).heap[A]? = some (.cells #[.int .i64 0, .int .i64 0, .int .i64 0, .int .i64 0, .int .i64 0, .int .i64 0] 94 (0, 0))) := by show _ = _; rw [heap_drewN6]; exact u_ HAd
    have HBq := h_ (below_drewN6 (u_ HBd) nq)
    obtain ⟨o2, o3⟩ := u_ HEnd (fun k => partK 4 b k) (wr.drewN nq) (u_ HAq) (u_ HBq)
    have O1 := h_ (six_one (fun k => partK 4 b k))
    have O2 := h_ o2
    have O3 := h_ o3
    have HRw : Hid ((wr.drewN nq).heap[O]? = some (.cells (six (fun k => partK 4 b k)).toArray 94 (0, 0))) := by have := u_ HRq; unfold RowAt at this; rw [List.append_nil] at this; exact this
    clear o2 o3
    go_wp2_with (first | (refine wpList_load_row rfl 94 _ rfl O rfl 94 _ (0, 0) _ (u_ HRw) Tryz.underlying94 rfl hsz6 ?_) | (refine wpList_store_row rfl 94 _ _ rfl A _ rfl rfl 94 _ (u_ HAq) hsz6 rfl (u_ O1) ?_))
    first
    | exact bodyPost_ret (results_row_tmp Tryz.results49 _ _ A 94 _ (0, 0) _ rfl (u_ O3) Tryz.underlying94 rfl hsz6 (.bool false) rfl) rfl ⟨_, by rw [u_ HT], fun h => absurd h (by rw [u_ HT]; exact Bool.false_ne_true), u_ O2⟩
    | exact bodyPost_ret (results_row_tmp Tryz.results49 _ _ A 94 _ (0, 0) _ rfl (u_ O3) Tryz.underlying94 rfl hsz6 (.bool true) rfl) rfl ⟨_, by rw [u_ HT], fun _ => u_ HQ, u_ O2⟩
end Go.Proofs.YtcofnockikninaaGreatDoor
