/-
  Six numbers in a block.
-/
import Derived.Test.YtcofnockikninaaGreatDoorDtime2
import Derived.Test.YtcofnockikninaaGreatDoorRA
import Derived.Test.YtcofnockikninaaGreatDoorVrep9
import Derived.BigQuiet
namespace Go.Proofs.YtcofnockikninaaGreatDoor
open Go.RowKit
/-- The six numbers, as cells. -/
def six (f : Nat → Nat) : List Value := (List.range 6).map fun k => .int .i64 (f k : Int)
theorem six_len (f : Nat → Nat) : (six f).length = 6 := by simp [six]
theorem six_get (f : Nat → Nat) {k : Nat} (hk : k < 6) : (six f).getD k undef = .int .i64 (f k : Int) := by
  rw [List.getD_eq_getElem?_getD, List.getElem?_eq_getElem (by rw [six_len]; exact hk)]
  simp [six]
theorem six_set (f g : Nat → Nat) {k : Nat} (h : ∀ j, j ≠ k → g j = f j) : (six f).set k (.int .i64 (g k : Int)) = six g := by
  refine List.ext_getElem (by simp [six]) fun j h1 h2 => ?_
  rw [List.getElem_set]
  split
  · rename_i e
    subst e
    simp [six]
  · rename_i e
    simp [six, h j (fun e2 => e e2.symm)]
theorem RowAt.six {w : World} {O : Nat} {f : Nat → Nat} (h : RowAt 94 w O [] (six f)) {k : Nat} (hk : k < 6) : w.cell? ⟨O, k, none⟩ = some (.int .i64 (f k : Int)) := by
  rw [h.cell k (by rw [six_len]; exact hk), six_get f hk]
theorem RowAt.put6 {w : World} {O : Nat} {f : Nat → Nat} (h : RowAt 94 w O [] (Go.Proofs.YtcofnockikninaaGreatDoor.six f)) {k : Nat} (hk : k < 6) (g : Nat → Nat) (hg : ∀ j, j ≠ k → g j = f j) : RowAt 94 (w.setCell ⟨O, k, none⟩ (.int .i64 (g k : Int))) O [] (Go.Proofs.YtcofnockikninaaGreatDoor.six g) := by
  have := h.set k (by rw [six_len]; exact hk) (.int .i64 (g k : Int))
  rwa [six_set f g hg] at this
theorem six_congr {f g : Nat → Nat} (h : ∀ k, k < 6 → f k = g k) : six f = six g := by
  refine List.ext_getElem (by simp [six]) fun j h1 h2 => ?_
  have : j < 6 := by rw [six_len] at h1; exact h1
  simp [six, h j this]
theorem six_one (g : Nat → Nat) : (six g).toArray.all (·.oneCell') = true := by simp [six, Value.oneCell', List.range, List.range.loop]
/-- A row and a slot, handed back. -/
theorem results_row_tmp {P : Program} {fn : Func} {p u : Tmp} {ty : TypeId} (h : fn.results = #[.cell p ty, .tmp u]) (tmps : Array Value) (w : World) (g : Nat) (t : TypeId) (cs : Array Value) (fr : Nat × Nat) (d : TypeDesc)
    (hp : tmps.getD p undef = .pointer (some ⟨g, 0, none⟩)) (hg : w.heap[g]? = some (.cells cs t fr))
    (hu : P.underlying ty = some d) (hd : (match d with | .struct _ | .array _ _ => true | _ => false) = true) (hi : (P.info? ty).map (·.size) = some cs.size) (v : Value) (hv : tmps.getD u undef = v) :
    (results fn tmps).run P w = .ok (.tuple #[.agg cs, v]) w := by
  have hp' : tmps[p]?.getD undef = .pointer (some ⟨g, 0, none⟩) := by simpa using hp
  have hv' : tmps[u]?.getD undef = v := by simpa using hv
  simp [results, h, hp', hv', asAddr, run_loadVar_row w g t ty cs fr d hg hu hd hi]
/-- Writing into a block that came later turns nothing below. -/
theorem below_set {N : Nat} {a b : World} (h : Below N a b) (hN : N ≤ b.heap.size) (O : Nat) (hO : N ≤ O) (k : Nat) (v : Value) : Below N a (b.setCell ⟨O, k, none⟩ v) :=
  h.grown (grown_setCell (World.grownBy.refl _ (some O)) ⟨O, k, none⟩ v rfl) hN (fun g hg => by cases hg; exact hO)
theorem heap_drewN6 (w : World) : ∀ n, (w.drewN n).heap = w.heap
  | 0 => rfl
  | n + 1 => heap_drewN6 w n
theorem below_drewN6 {B : Nat} {a w : World} (h : Below B a w) : ∀ q, Below B a (w.drewN q)
  | 0 => h
  | q + 1 => (below_drewN6 h q).drew
theorem RowAt.drewN6 {t : TypeId} {w : World} {O : Nat} {u v : List Value} (h : RowAt t w O u v) (n : Nat) : RowAt t (w.drewN n) O u v := by
  unfold RowAt
  rw [heap_drewN6]
  exact h
end Go.Proofs.YtcofnockikninaaGreatDoor
/-
  The walk of the reference's Time, of a year of 2 digits.
-/
namespace Go.Proofs.YtcofnockikninaaGreatDoor
open Go.RowKit
set_option maxRecDepth 100000 in
set_option maxHeartbeats 40000000 in
theorem time_2 (w : World) (x : Value) (b : Bs) (hx : BytesAt w x b) (hl : b.length ≤ 1000000) :
    Calls Tryz.prog 49 #[x, .int .i64 2] w fun e w' => ∃ q : Nat → Nat, e = .returned (.tuple #[.agg (six q).toArray, .bool (timeP 2 b)]) ∧ (timeP 2 b = true → (six q).toArray = (six fun k => if k = 0 then yearK 2 b else partK 2 b k).toArray) ∧ Below w.heap.size w w' := by
  obtain ⟨sp, c, rfl, _, _, hc⟩ := bytes_open hx
  have HC := hide hc
  obtain ⟨N, hN⟩ : ∃ N, b.length = N := ⟨_, rfl⟩
  have HN := hide hN
  obtain ⟨w1, hw1⟩ : ∃ w1, w.alloc (.cells #[.int .i64 0, .int .i64 0, .int .i64 0, .int .i64 0, .int .i64 0, .int .i64 0] 94) = w1 := ⟨_, rfl⟩
  obtain ⟨w2, hw2⟩ : ∃ w2, w1.alloc (.cells #[.int .i64 0, .int .i64 0, .int .i64 0, .int .i64 0, .int .i64 0, .int .i64 0] 94) = w2 := ⟨_, rfl⟩
  have hb1 : Below w.heap.size w w1 := by rw [← hw1]; exact (Below.refl _ _).alloc (Nat.le_refl _) _
  have hb2 : Below w1.heap.size w1 w2 := by rw [← hw2]; exact (Below.refl _ _).alloc (Nat.le_refl _) _
  have Hb := hide (hb1.trans (hb2.mono hb1.size))
  have Hs : Hid (w1.heap.size = w.heap.size + 1 ∧ w2.heap.size = w.heap.size + 2) := by rw [← hw2, ← hw1]; exact ⟨by simp, by simp⟩
  have HRes : Hid (w2.heap[w.heap.size]? = some (.cells #[.int .i64 0, .int .i64 0, .int .i64 0, .int .i64 0, .int .i64 0, .int .i64 0] 94 (0, 0))) := by
    show _ = _
    rw [hb2.block w.heap.size (by have := (unhide Hs).1; omega), ← hw1]
    exact heap_alloc_new w _
  have HO : Hid (RowAt 94 w2 w1.heap.size [] (six fun k => accK 2 b 0 k)) := by
    show _ = _
    rw [← hw2, show six (fun k => accK 2 b 0 k) = [.int .i64 0, .int .i64 0, .int .i64 0, .int .i64 0, .int .i64 0, .int .i64 0] by simp [six, accK_zero, List.range, List.range.loop]]
    exact heap_alloc_new w1 _
  have HBy := hide ((hx.below hb1).below hb2)
  obtain ⟨A, hA⟩ : ∃ A, w.heap.size = A := ⟨_, rfl⟩
  obtain ⟨O, hO⟩ : ∃ O, w1.heap.size = O := ⟨_, rfl⟩
  rw [hN] at hl HBy HC
  rw [hA] at Hs HRes
  rw [hO] at Hs HO
  simp only [hN]
  clear hx hc hN hb1 hb2
  have hsz6 : (Tryz.prog.info? 94).map (·.size) = some 6 := by kernel_rfl
  have HEnd : Hid (∀ (g : Nat → Nat) (wr : World), wr.heap[A]? = some (.cells #[.int .i64 0, .int .i64 0, .int .i64 0, .int .i64 0, .int .i64 0, .int .i64 0] 94 (0, 0)) → Below w.heap.size w wr → Below w.heap.size w (wr.setRow A (six g).toArray) ∧ (wr.setRow A (six g).toArray).heap[A]? = some (.cells (six g).toArray 94 (0, 0))) := fun g wr h2 h3 => ⟨h3.grown (row := some A) ⟨rfl, rfl, rfl, by simp [World.setRow], fun i hi hne => by simp only [World.setRow]; rw [Array.getElem?_modify, if_neg (fun e => hne (by rw [e]))]⟩ h3.size (fun g hg => by cases hg; exact Nat.le_of_eq hA), setRow_heap wr A _ _ 94 (0, 0) h2⟩
  by_cases hlen : N = 13
  case neg =>
    have HT : Hid (timeP 2 b = false) := time_len (by have := unhide HN; omega)
    have d1 : ((N : Int) == 13) = false := by simp; omega
    have d1' : ((N : Int) != 13) = true := by simp; omega
    go_enter Tryz.func49, Tryz.ntmps49
    obtain ⟨o2, o3⟩ := unhide HEnd (fun k => accK 2 b 0 k) (w2) (unhide HRes) (unhide Hb)
    have O1 := hide (six_one (fun k => accK 2 b 0 k))
    have O2 := hide o2
    have O3 := hide o3
    have HRw : Hid ((w2).heap[O]? = some (.cells (six (fun k => accK 2 b 0 k)).toArray 94 (0, 0))) := by have := unhide HO; unfold RowAt at this; rw [List.append_nil] at this; exact this
    clear o2 o3
    go_wp2_with (first | (refine wpList_load_row rfl 94 _ rfl O rfl 94 _ (0, 0) _ (unhide HRw) Tryz.underlying94 rfl hsz6 ?_) | (refine wpList_store_row rfl 94 _ _ rfl A _ rfl rfl 94 _ (unhide HRes) hsz6 rfl (unhide O1) ?_))
    exact bodyPost_ret (results_row_tmp Tryz.results49 _ _ A 94 _ (0, 0) _ rfl (unhide O3) Tryz.underlying94 rfl hsz6 (.bool false) rfl) rfl ⟨_, by rw [unhide HT], fun h => absurd h (by rw [unhide HT]; exact Bool.false_ne_true), unhide O2⟩
  obtain ⟨ba, oa, rfl, _, hcell⟩ := unhide HC (fun e => by have := unhide HN; rw [e] at this; simp at this; omega)
  have Hcell : Hid (∀ k wr, k < N → Below w.heap.size w wr → wr.cell? ⟨ba, oa + k, none⟩ = some (.int .u8 ((b.getD k 0).toNat : Int))) := fun k wr hk hb => by rw [hb.cell (p := ⟨ba, oa + k, none⟩) (World.block_lt_of_cell? w _ (hcell k hk))]; exact hcell k hk
  clear hcell HC
  subst hlen
  have cz := unhide Hcell 12 w2 (by omega) (unhide Hb)
  obtain ⟨z, hz⟩ : ∃ z, (b.getD 12 0).toNat = z := ⟨_, rfl⟩
  have Hz := hide hz
  rw [hz] at cz
  clear hz
  by_cases hz90 : z = 90
  case neg =>
    have HT : Hid (timeP 2 b = false) := time_z (by show (b.getD 12 0).toNat ≠ 90; have := unhide Hz; omega)
    have d1 : ((z : Int) == 90) = false := by simp; omega
    have d1' : ((z : Int) != 90) = true := by simp; omega
    go_enter Tryz.func49, Tryz.ntmps49
    obtain ⟨o2, o3⟩ := unhide HEnd (fun k => accK 2 b 0 k) (w2) (unhide HRes) (unhide Hb)
    have O1 := hide (six_one (fun k => accK 2 b 0 k))
    have O2 := hide o2
    have O3 := hide o3
    have HRw : Hid ((w2).heap[O]? = some (.cells (six (fun k => accK 2 b 0 k)).toArray 94 (0, 0))) := by have := unhide HO; unfold RowAt at this; rw [List.append_nil] at this; exact this
    clear o2 o3
    go_wp2_with (first | (refine wpList_load_row rfl 94 _ rfl O rfl 94 _ (0, 0) _ (unhide HRw) Tryz.underlying94 rfl hsz6 ?_) | (refine wpList_store_row rfl 94 _ _ rfl A _ rfl rfl 94 _ (unhide HRes) hsz6 rfl (unhide O1) ?_))
    exact bodyPost_ret (results_row_tmp Tryz.results49 _ _ A 94 _ (0, 0) _ rfl (unhide O3) Tryz.underlying94 rfl hsz6 (.bool false) rfl) rfl ⟨_, by rw [unhide HT], fun h => absurd h (by rw [unhide HT]; exact Bool.false_ne_true), unhide O2⟩
  subst hz90
  go_enter Tryz.func49, Tryz.ntmps49
  go_wp2
  go_loopw [7] (fun ii wr => ∃ i : Nat, i ≤ 12 ∧ ii = .int .i64 (i : Int) ∧ Hid ((b.take i).all isDig = true) ∧ Hid (RowAt 94 wr O [] (six fun k => accK 2 b i k)) ∧ Hid (wr.heap[A]? = some (.cells #[.int .i64 0, .int .i64 0, .int .i64 0, .int .i64 0, .int .i64 0, .int .i64 0] 94 (0, 0))) ∧ Hid (Below w.heap.size w wr)) (fun ii _ => 12 - (intOf ii).toNat)
  case atStart => exact ⟨0, by omega, rfl, by rfl, HO, HRes, Hb⟩
  case round =>
    obtain ⟨i, hi, rfl, HD, HRo, HRe, HB⟩ := hrel
    clear HO HRes Hb cz hw1 hw2
    by_cases hlt : i < 12
    · have d1 : decide ((i : Int) < 12) = true := by simp; omega
      have d1n : decide (i < 12) = true := by simp; omega
      have i0 : (0 : Int) ≤ (i : Int) := by omega
      have i1 : (i : Int) < 13 := by omega
      have cp := unhide Hcell i wr (by omega) (unhide HB)
      obtain ⟨p, hp⟩ : ∃ p, (b.getD i 0).toNat = p := ⟨_, rfl⟩
      have Hp := hide hp
      rw [hp] at cp
      have Hil : Hid (i < b.length) := by show _ < _; have := unhide HN; omega
      clear hp
      by_cases h48 : p < 48
      · have HT : Hid (timeP 2 b = false) := time_notdig (unhide Hil) (by omega) (by unfold isDig; rw [unhide Hp]; simp; omega)
        have d2 : decide ((p : Int) < 48) = true := by simp; omega
        have d2n : decide (p < 48) = true := by simp; omega
        obtain ⟨o2, o3⟩ := unhide HEnd (fun k => accK 2 b i k) (wr) (unhide HRe) (unhide HB)
        have O1 := hide (six_one (fun k => accK 2 b i k))
        have O2 := hide o2
        have O3 := hide o3
        have HRw : Hid ((wr).heap[O]? = some (.cells (six (fun k => accK 2 b i k)).toArray 94 (0, 0))) := by have := unhide HRo; unfold RowAt at this; rw [List.append_nil] at this; exact this
        clear o2 o3
        go_wp2_with (first | (refine wpList_load_row rfl 94 _ rfl O rfl 94 _ (0, 0) _ (unhide HRw) Tryz.underlying94 rfl hsz6 ?_) | (refine wpList_store_row rfl 94 _ _ rfl A _ rfl rfl 94 _ (unhide HRe) hsz6 rfl (unhide O1) ?_))
        exact bodyPost_ret (results_row_tmp Tryz.results49 _ _ A 94 _ (0, 0) _ rfl (unhide O3) Tryz.underlying94 rfl hsz6 (.bool false) rfl) rfl ⟨_, by rw [unhide HT], fun h => absurd h (by rw [unhide HT]; exact Bool.false_ne_true), unhide O2⟩
      have d2 : decide ((p : Int) < 48) = false := by simp; omega
      have d2n : decide (p < 48) = false := by simp; omega
      by_cases h57 : 57 < p
      · have HT : Hid (timeP 2 b = false) := time_notdig (unhide Hil) (by omega) (by unfold isDig; rw [unhide Hp]; simp; omega)
        have d3 : decide ((57 : Int) < (p : Int)) = true := by simp; omega
        have d3n : decide (57 < p) = true := by simp; omega
        obtain ⟨o2, o3⟩ := unhide HEnd (fun k => accK 2 b i k) (wr) (unhide HRe) (unhide HB)
        have O1 := hide (six_one (fun k => accK 2 b i k))
        have O2 := hide o2
        have O3 := hide o3
        have HRw : Hid ((wr).heap[O]? = some (.cells (six (fun k => accK 2 b i k)).toArray 94 (0, 0))) := by have := unhide HRo; unfold RowAt at this; rw [List.append_nil] at this; exact this
        clear o2 o3
        go_wp2_with (first | (refine wpList_load_row rfl 94 _ rfl O rfl 94 _ (0, 0) _ (unhide HRw) Tryz.underlying94 rfl hsz6 ?_) | (refine wpList_store_row rfl 94 _ _ rfl A _ rfl rfl 94 _ (unhide HRe) hsz6 rfl (unhide O1) ?_))
        exact bodyPost_ret (results_row_tmp Tryz.results49 _ _ A 94 _ (0, 0) _ rfl (unhide O3) Tryz.underlying94 rfl hsz6 (.bool false) rfl) rfl ⟨_, by rw [unhide HT], fun h => absurd h (by rw [unhide HT]; exact Bool.false_ne_true), unhide O2⟩
      have d3 : decide ((57 : Int) < (p : Int)) = false := by simp; omega
      have d3n : decide (57 < p) = false := by simp; omega
      have HD2 : Hid ((b.take (i + 1)).all isDig = true) := by
        show _ = _
        rw [all_succ (unhide Hil), unhide HD]
        unfold isDig
        rw [unhide Hp]
        simp
        omega
      by_cases hyi : 2 ≤ i
      · have d4 : decide ((2 : Int) ≤ (i : Int)) = true := by simp; omega
        have d4n : decide (2 ≤ i) = true := by simp; omega
        obtain ⟨D, hD⟩ : ∃ D, i - 2 = D := ⟨_, rfl⟩
        obtain ⟨q, hq⟩ : ∃ q, D / 2 = q := ⟨_, rfl⟩
        obtain ⟨k, hk⟩ : ∃ k, 1 + q = k := ⟨_, rfl⟩
        have eD : (i : Int) - 2 = (D : Int) := by omega
        have eq2 : (D : Int) / 2 = (q : Int) := by omega
        have ek : (1 : Int) + (q : Int) = (k : Int) := by omega
        have hk6 : k < 6 := by omega
        have k0 : (0 : Int) ≤ (k : Int) := by omega
        have k6 : (k : Int) < 6 := by omega
        have uD : IntKind.i64.wrap (D : Int) = (D : Int) := IntWalk.i64_in _ (by omega)
        have uq : IntKind.i64.wrap (q : Int) = (q : Int) := IntWalk.i64_in _ (by omega)
        have uk : IntKind.i64.wrap (k : Int) = (k : Int) := IntWalk.i64_in _ (by omega)
        have hkof : kOf 2 i = k := by unfold kOf; rw [if_pos hyi]; omega
        obtain ⟨a, ha⟩ : ∃ a, accK 2 b i k = a := ⟨_, rfl⟩
        have hak : a ≤ 9999 := by rw [← ha]; exact accK_lt (by omega) (unhide HD) _
        have ck := (unhide HRo).six (k := k) (by omega)
        have fk : wr.frozen? ⟨O, k, none⟩ = false := (unhide HRo).frozen k
        simp only [ha] at ck
        obtain ⟨n2, hn2⟩ : ∃ n2, 10 * a = n2 := ⟨_, rfl⟩
        obtain ⟨n3, hn3⟩ : ∃ n3, n2 + p = n3 := ⟨_, rfl⟩
        obtain ⟨n4, hn4⟩ : ∃ n4, n3 - 48 = n4 := ⟨_, rfl⟩
        have e2 : (10 : Int) * (a : Int) = (n2 : Int) := by omega
        have e3 : (n2 : Int) + (p : Int) = (n3 : Int) := by omega
        have e4 : (n3 : Int) - 48 = (n4 : Int) := by omega
        have u2 : IntKind.i64.wrap (n2 : Int) = (n2 : Int) := IntWalk.i64_in _ (by omega)
        have u3 : IntKind.i64.wrap (n3 : Int) = (n3 : Int) := IntWalk.i64_in _ (by omega)
        have u4 : IntKind.i64.wrap (n4 : Int) = (n4 : Int) := IntWalk.i64_in _ (by omega)
        have up : IntKind.i64.wrap (p : Int) = (p : Int) := IntWalk.i64_in _ (by omega)
        have hn : accK 2 b (i + 1) k = n4 := by
          have h1 := accK_here (y := 2) (unhide Hil)
          rw [hkof, unhide Hp, ha] at h1
          omega
        have HR2 : Hid (RowAt 94 (wr.setCell ⟨O, k, none⟩ (.int .i64 (n4 : Int))).drew O [] (six fun k => accK 2 b (i + 1) k)) := by
          have h1 := (unhide HRo).put6 (k := k) (by omega) (fun k => accK 2 b (i + 1) k) (fun j hj => accK_other (by rw [hkof]; exact hj))
          simp only [hn] at h1
          exact h1.drew
        have HA2 : Hid ((wr.setCell ⟨O, k, none⟩ (.int .i64 (n4 : Int))).drew.heap[A]? = some (.cells #[.int .i64 0, .int .i64 0, .int .i64 0, .int .i64 0, .int .i64 0, .int .i64 0] 94 (0, 0))) := by
          show (wr.setCell ⟨O, k, none⟩ (.int .i64 (n4 : Int))).heap[A]? = _
          rw [heap_setCell_other _ _ _ _ (by show A ≠ O; have := (unhide Hs).1; omega)]
          exact unhide HRe
        have HB2 : Hid (Below w.heap.size w (wr.setCell ⟨O, k, none⟩ (.int .i64 (n4 : Int))).drew) := (below_set (unhide HB) (unhide HB).size O (by have := (unhide Hs).1; omega) k _).drew
        clear ha hn2 hn3 hn4 hn Hil HD HRo HRe HB h48 h57
        clear hD hq hk hkof hyi
        go_wp2
        go_region
        go_wp2
        go_roundw
        case rel =>
          first
            | exact ⟨i + 1, by omega, by go_num, HD2, HR2, HA2, HB2⟩
            | ((repeat apply Exists.intro); exact ⟨⟨i + 1, by omega, by go_num, HD2, HR2, HA2, HB2⟩, rfl⟩)
        case measure => simp [intOf]; omega
      · have d4 : decide ((2 : Int) ≤ (i : Int)) = false := by simp; omega
        have d4n : decide (2 ≤ i) = false := by simp; omega
        have hkof : kOf 2 i = 0 := by unfold kOf; rw [if_neg hyi]
        obtain ⟨a, ha⟩ : ∃ a, accK 2 b i 0 = a := ⟨_, rfl⟩
        have hak : a ≤ 9999 := by rw [← ha]; exact accK_lt (by omega) (unhide HD) _
        have ck := (unhide HRo).six (k := 0) (by omega)
        have fk : wr.frozen? ⟨O, 0, none⟩ = false := (unhide HRo).frozen 0
        simp only [ha] at ck
        obtain ⟨n2, hn2⟩ : ∃ n2, 10 * a = n2 := ⟨_, rfl⟩
        obtain ⟨n3, hn3⟩ : ∃ n3, n2 + p = n3 := ⟨_, rfl⟩
        obtain ⟨n4, hn4⟩ : ∃ n4, n3 - 48 = n4 := ⟨_, rfl⟩
        have e2 : (10 : Int) * (a : Int) = (n2 : Int) := by omega
        have e3 : (n2 : Int) + (p : Int) = (n3 : Int) := by omega
        have e4 : (n3 : Int) - 48 = (n4 : Int) := by omega
        have u2 : IntKind.i64.wrap (n2 : Int) = (n2 : Int) := IntWalk.i64_in _ (by omega)
        have u3 : IntKind.i64.wrap (n3 : Int) = (n3 : Int) := IntWalk.i64_in _ (by omega)
        have u4 : IntKind.i64.wrap (n4 : Int) = (n4 : Int) := IntWalk.i64_in _ (by omega)
        have up : IntKind.i64.wrap (p : Int) = (p : Int) := IntWalk.i64_in _ (by omega)
        have hn : accK 2 b (i + 1) 0 = n4 := by
          have h1 := accK_here (y := 2) (unhide Hil)
          rw [hkof, unhide Hp, ha] at h1
          omega
        have HR2 : Hid (RowAt 94 (wr.setCell ⟨O, 0, none⟩ (.int .i64 (n4 : Int))).drew O [] (six fun k => accK 2 b (i + 1) k)) := by
          have h1 := (unhide HRo).put6 (k := 0) (by omega) (fun k => accK 2 b (i + 1) k) (fun j hj => accK_other (by rw [hkof]; exact hj))
          simp only [hn] at h1
          exact h1.drew
        have HA2 : Hid ((wr.setCell ⟨O, 0, none⟩ (.int .i64 (n4 : Int))).drew.heap[A]? = some (.cells #[.int .i64 0, .int .i64 0, .int .i64 0, .int .i64 0, .int .i64 0, .int .i64 0] 94 (0, 0))) := by
          show (wr.setCell ⟨O, 0, none⟩ (.int .i64 (n4 : Int))).heap[A]? = _
          rw [heap_setCell_other _ _ _ _ (by show A ≠ O; have := (unhide Hs).1; omega)]
          exact unhide HRe
        have HB2 : Hid (Below w.heap.size w (wr.setCell ⟨O, 0, none⟩ (.int .i64 (n4 : Int))).drew) := (below_set (unhide HB) (unhide HB).size O (by have := (unhide Hs).1; omega) 0 _).drew
        clear ha hn2 hn3 hn4 hn Hil HD HRo HRe HB h48 h57
        clear hkof hyi
        go_wp2
        go_region
        go_wp2
        go_roundw
        case rel =>
          first
            | exact ⟨i + 1, by omega, by go_num, HD2, HR2, HA2, HB2⟩
            | ((repeat apply Exists.intro); exact ⟨⟨i + 1, by omega, by go_num, HD2, HR2, HA2, HB2⟩, rfl⟩)
        case measure => simp [intOf]; omega
    · obtain rfl : i = 12 := by omega
      have hTd := time_digs (y := 2) (b := b) (by have := unhide HN; omega) (unhide Hz) (unhide HD)
      have HRp : Hid (RowAt 94 wr O [] (six fun k => partK 2 b k)) := by
        have h1 := unhide HRo
        rw [six_congr (g := fun k => partK 2 b k) (fun k hk => accK_end (by omega))] at h1
        exact h1
      have hpl : ∀ k, k ≤ 5 → partK 2 b k ≤ 9999 := fun k hk => by rw [← accK_end hk]; exact accK_lt (by omega) (unhide HD) _
      obtain ⟨m0, hm0⟩ : ∃ m, partK 2 b 0 = m := ⟨_, rfl⟩
      have M0 : m0 ≤ 9999 := by rw [← hm0]; exact hpl 0 (by omega)
      have a0 := (unhide HRp).six (k := 0) (by omega)
      simp only [hm0] at a0
      obtain ⟨m1, hm1⟩ : ∃ m, partK 2 b 1 = m := ⟨_, rfl⟩
      have M1 : m1 ≤ 9999 := by rw [← hm1]; exact hpl 1 (by omega)
      have a1 := (unhide HRp).six (k := 1) (by omega)
      simp only [hm1] at a1
      obtain ⟨m2, hm2⟩ : ∃ m, partK 2 b 2 = m := ⟨_, rfl⟩
      have M2 : m2 ≤ 9999 := by rw [← hm2]; exact hpl 2 (by omega)
      have a2 := (unhide HRp).six (k := 2) (by omega)
      simp only [hm2] at a2
      obtain ⟨m3, hm3⟩ : ∃ m, partK 2 b 3 = m := ⟨_, rfl⟩
      have M3 : m3 ≤ 9999 := by rw [← hm3]; exact hpl 3 (by omega)
      have a3 := (unhide HRp).six (k := 3) (by omega)
      simp only [hm3] at a3
      obtain ⟨m4, hm4⟩ : ∃ m, partK 2 b 4 = m := ⟨_, rfl⟩
      have M4 : m4 ≤ 9999 := by rw [← hm4]; exact hpl 4 (by omega)
      have a4 := (unhide HRp).six (k := 4) (by omega)
      simp only [hm4] at a4
      obtain ⟨m5, hm5⟩ : ∃ m, partK 2 b 5 = m := ⟨_, rfl⟩
      have M5 : m5 ≤ 9999 := by rw [← hm5]; exact hpl 5 (by omega)
      have a5 := (unhide HRp).six (k := 5) (by omega)
      simp only [hm5] at a5
      have f0 : wr.frozen? ⟨O, 0, none⟩ = false := (unhide HRp).frozen 0
      rw [hm1, hm2, hm3, hm4, hm5] at hTd
      have HTd := hide hTd
      have Hm0 := hide hm0
      have Hm1 := hide hm1
      have Hm2 := hide hm2
      have Hm3 := hide hm3
      have Hm4 := hide hm4
      have Hm5 := hide hm5
      clear hTd hpl hm0 hm1 hm2 hm3 hm4 hm5 HRo HD Hcell hlt hi
      have x1 : decide (((12 : Nat) : Int) < 12) = false := by simp
      obtain ⟨Y1, hY1⟩ : ∃ Y1, m0 + 1900 = Y1 := ⟨_, rfl⟩
      have iY1 : (m0 : Int) + 1900 = (Y1 : Int) := by omega
      have yb : (Y1 : Int) ≤ 100000 := by omega
      have HR1 : Hid (RowAt 94 (wr.setCell ⟨O, 0, none⟩ (.int .i64 (Y1 : Int))) O [] (six fun k => if k = 0 then Y1 else partK 2 b k)) := (unhide HRp).put6 (k := 0) (by omega) (fun k => if k = 0 then Y1 else partK 2 b k) (fun j hj => if_neg hj)
      have HA1 : Hid ((wr.setCell ⟨O, 0, none⟩ (.int .i64 (Y1 : Int))).heap[A]? = some (.cells #[.int .i64 0, .int .i64 0, .int .i64 0, .int .i64 0, .int .i64 0, .int .i64 0] 94 (0, 0))) := by
        show _ = _
        rw [heap_setCell_other _ _ _ _ (by show A ≠ O; have := (unhide Hs).1; omega)]
        exact unhide HRe
      have HB1 : Hid (Below w.heap.size w (wr.setCell ⟨O, 0, none⟩ (.int .i64 (Y1 : Int)))) := below_set (unhide HB) (unhide HB).size O (by have := (unhide Hs).1; omega) 0 _
      by_cases h50 : m0 < 50
      · obtain ⟨Y, hY⟩ : ∃ Y, Y1 + 100 = Y := ⟨_, rfl⟩
        have iY : (Y1 : Int) + 100 = (Y : Int) := by omega
        have k1 : decide ((Y1 : Int) < 1950) = true := by simp; omega
        have k1n : decide (Y1 < 1950) = true := by simp; omega
        have Yb : Y ≤ 100000 := by omega
        have HYr : Hid (yearK 2 b = Y) := by show _ = _; unfold yearK; rw [if_pos rfl, unhide Hm0, if_pos h50]; omega
        have HQ : Hid ((six fun k => if k = 0 then Y else partK 2 b k).toArray = (six fun k => if k = 0 then yearK 2 b else partK 2 b k).toArray) := by show _ = _; rw [unhide HYr]
        obtain ⟨W, hW⟩ : ∃ W, (wr.setCell ⟨O, 0, none⟩ (.int .i64 (Y1 : Int))).setCell ⟨O, 0, none⟩ (.int .i64 (Y : Int)) = W := ⟨_, rfl⟩
        have HRd : Hid (RowAt 94 W O [] (six fun k => if k = 0 then Y else partK 2 b k)) := by
          show RowAt _ _ _ _ _
          rw [← hW]
          exact ((unhide HR1).put6 (k := 0) (by omega) (fun k => if k = 0 then Y else partK 2 b k) (fun j hj => by simp only [if_neg hj]))
        have HAd : Hid (W.heap[A]? = some (.cells #[.int .i64 0, .int .i64 0, .int .i64 0, .int .i64 0, .int .i64 0, .int .i64 0] 94 (0, 0))) := by
          show W.heap[A]? = _
          rw [← hW, heap_setCell_other _ _ _ _ (by show A ≠ O; have := (unhide Hs).1; omega)]
          exact unhide HA1
        have HBd : Hid (Below w.heap.size w W) := by
          show Below _ _ W
          rw [← hW]
          exact (below_set (unhide HB1) (unhide HB1).size O (by have := (unhide Hs).1; omega) 0 _)
        have Hdy := hide (fun w => days_any Y m1 (by omega) (by omega) w)
        obtain ⟨D, hD⟩ : ∃ D, daysP Y m1 = D := ⟨_, rfl⟩
        simp only [hD] at Hdy
        rcases (by omega : (m1 < 1) ∨ (1 ≤ m1 ∧ 12 < m1) ∨ (1 ≤ m1 ∧ m1 ≤ 12 ∧ m2 < 1) ∨ (1 ≤ m1 ∧ m1 ≤ 12 ∧ 1 ≤ m2 ∧ D < m2) ∨ (1 ≤ m1 ∧ m1 ≤ 12 ∧ 1 ≤ m2 ∧ m2 ≤ D ∧ 23 < m3) ∨ (1 ≤ m1 ∧ m1 ≤ 12 ∧ 1 ≤ m2 ∧ m2 ≤ D ∧ m3 ≤ 23 ∧ 59 < m4) ∨ (1 ≤ m1 ∧ m1 ≤ 12 ∧ 1 ≤ m2 ∧ m2 ≤ D ∧ m3 ≤ 23 ∧ m4 ≤ 59 ∧ 59 < m5) ∨ (1 ≤ m1 ∧ m1 ≤ 12 ∧ 1 ≤ m2 ∧ m2 ≤ D ∧ m3 ≤ 23 ∧ m4 ≤ 59 ∧ m5 ≤ 59)) with hc | hc | hc | hc | hc | hc | hc | hc
        · have t0 : decide ((1 : Int) ≤ (m1 : Int)) = false := by simp; omega
          have t0n : decide (1 ≤ m1) = false := by simp; omega
          have HT : Hid (timeP 2 b = false) := by show _ = _; rw [unhide HTd, unhide HYr]; unfold calP; rw [hD]; simp; omega
          clear hc hD HTd
          go_wp2
          try rw [hW]
          have b0 := (unhide HRd).six (k := 0) (by omega)
          have b1 := (unhide HRd).six (k := 1) (by omega)
          have b2 := (unhide HRd).six (k := 2) (by omega)
          have b3 := (unhide HRd).six (k := 3) (by omega)
          have b4 := (unhide HRd).six (k := 4) (by omega)
          have b5 := (unhide HRd).six (k := 5) (by omega)
          simp only [if_true] at b0
          simp only [if_neg (show ¬ 1 = 0 by omega), unhide Hm1] at b1
          simp only [if_neg (show ¬ 2 = 0 by omega), unhide Hm2] at b2
          simp only [if_neg (show ¬ 3 = 0 by omega), unhide Hm3] at b3
          simp only [if_neg (show ¬ 4 = 0 by omega), unhide Hm4] at b4
          simp only [if_neg (show ¬ 5 = 0 by omega), unhide Hm5] at b5
          clear a0 a1 a2 a3 a4 a5 hW
          have Hc : Hid (∀ n, Calls Tryz.prog 54 #[.int .i64 (Y : Int), .int .i64 (m1 : Int)] (W.drewN n) fun e w' => e = .returned (.int .i64 (D : Int)) ∧ ∃ q, w' = (W.drewN n).drewN q) := fun n => (unhide Hdy _).mono fun e w' h => ⟨h.1, 0, h.2⟩
          go_big_quiet (first | (go_at_call 54; refine Calls.quiet_of (unhide Hc _)) | fail)
          have HRq := hide ((unhide HRd).drewN6 nq)
          have HAq : Hid ((W.drewN nq).heap[A]? = some (.cells #[.int .i64 0, .int .i64 0, .int .i64 0, .int .i64 0, .int .i64 0, .int .i64 0] 94 (0, 0))) := by show _ = _; rw [heap_drewN6]; exact unhide HAd
          have HBq := hide (below_drewN6 (unhide HBd) nq)
          obtain ⟨o2, o3⟩ := unhide HEnd (fun k => if k = 0 then Y else partK 2 b k) (W.drewN nq) (unhide HAq) (unhide HBq)
          have O1 := hide (six_one (fun k => if k = 0 then Y else partK 2 b k))
          have O2 := hide o2
          have O3 := hide o3
          have HRw : Hid ((W.drewN nq).heap[O]? = some (.cells (six (fun k => if k = 0 then Y else partK 2 b k)).toArray 94 (0, 0))) := by have := unhide HRq; unfold RowAt at this; rw [List.append_nil] at this; exact this
          clear o2 o3
          go_wp2_with (first | (refine wpList_load_row rfl 94 _ rfl O rfl 94 _ (0, 0) _ (unhide HRw) Tryz.underlying94 rfl hsz6 ?_) | (refine wpList_store_row rfl 94 _ _ rfl A _ rfl rfl 94 _ (unhide HAq) hsz6 rfl (unhide O1) ?_))
          exact bodyPost_ret (results_row_tmp Tryz.results49 _ _ A 94 _ (0, 0) _ rfl (unhide O3) Tryz.underlying94 rfl hsz6 (.bool false) rfl) rfl ⟨_, by rw [unhide HT], fun h => absurd h (by rw [unhide HT]; exact Bool.false_ne_true), unhide O2⟩
        · have t0 : decide ((1 : Int) ≤ (m1 : Int)) = true := by simp; omega
          have t0n : decide (1 ≤ m1) = true := by simp; omega
          have t1 : decide ((m1 : Int) ≤ 12) = false := by simp; omega
          have t1n : decide (m1 ≤ 12) = false := by simp; omega
          have HT : Hid (timeP 2 b = false) := by show _ = _; rw [unhide HTd, unhide HYr]; unfold calP; rw [hD]; simp; omega
          clear hc hD HTd
          go_wp2
          try rw [hW]
          have b0 := (unhide HRd).six (k := 0) (by omega)
          have b1 := (unhide HRd).six (k := 1) (by omega)
          have b2 := (unhide HRd).six (k := 2) (by omega)
          have b3 := (unhide HRd).six (k := 3) (by omega)
          have b4 := (unhide HRd).six (k := 4) (by omega)
          have b5 := (unhide HRd).six (k := 5) (by omega)
          simp only [if_true] at b0
          simp only [if_neg (show ¬ 1 = 0 by omega), unhide Hm1] at b1
          simp only [if_neg (show ¬ 2 = 0 by omega), unhide Hm2] at b2
          simp only [if_neg (show ¬ 3 = 0 by omega), unhide Hm3] at b3
          simp only [if_neg (show ¬ 4 = 0 by omega), unhide Hm4] at b4
          simp only [if_neg (show ¬ 5 = 0 by omega), unhide Hm5] at b5
          clear a0 a1 a2 a3 a4 a5 hW
          have Hc : Hid (∀ n, Calls Tryz.prog 54 #[.int .i64 (Y : Int), .int .i64 (m1 : Int)] (W.drewN n) fun e w' => e = .returned (.int .i64 (D : Int)) ∧ ∃ q, w' = (W.drewN n).drewN q) := fun n => (unhide Hdy _).mono fun e w' h => ⟨h.1, 0, h.2⟩
          go_big_quiet (first | (go_at_call 54; refine Calls.quiet_of (unhide Hc _)) | fail)
          have HRq := hide ((unhide HRd).drewN6 nq)
          have HAq : Hid ((W.drewN nq).heap[A]? = some (.cells #[.int .i64 0, .int .i64 0, .int .i64 0, .int .i64 0, .int .i64 0, .int .i64 0] 94 (0, 0))) := by show _ = _; rw [heap_drewN6]; exact unhide HAd
          have HBq := hide (below_drewN6 (unhide HBd) nq)
          obtain ⟨o2, o3⟩ := unhide HEnd (fun k => if k = 0 then Y else partK 2 b k) (W.drewN nq) (unhide HAq) (unhide HBq)
          have O1 := hide (six_one (fun k => if k = 0 then Y else partK 2 b k))
          have O2 := hide o2
          have O3 := hide o3
          have HRw : Hid ((W.drewN nq).heap[O]? = some (.cells (six (fun k => if k = 0 then Y else partK 2 b k)).toArray 94 (0, 0))) := by have := unhide HRq; unfold RowAt at this; rw [List.append_nil] at this; exact this
          clear o2 o3
          go_wp2_with (first | (refine wpList_load_row rfl 94 _ rfl O rfl 94 _ (0, 0) _ (unhide HRw) Tryz.underlying94 rfl hsz6 ?_) | (refine wpList_store_row rfl 94 _ _ rfl A _ rfl rfl 94 _ (unhide HAq) hsz6 rfl (unhide O1) ?_))
          exact bodyPost_ret (results_row_tmp Tryz.results49 _ _ A 94 _ (0, 0) _ rfl (unhide O3) Tryz.underlying94 rfl hsz6 (.bool false) rfl) rfl ⟨_, by rw [unhide HT], fun h => absurd h (by rw [unhide HT]; exact Bool.false_ne_true), unhide O2⟩
        · have t0 : decide ((1 : Int) ≤ (m1 : Int)) = true := by simp; omega
          have t0n : decide (1 ≤ m1) = true := by simp; omega
          have t1 : decide ((m1 : Int) ≤ 12) = true := by simp; omega
          have t1n : decide (m1 ≤ 12) = true := by simp; omega
          have t2 : decide ((1 : Int) ≤ (m2 : Int)) = false := by simp; omega
          have t2n : decide (1 ≤ m2) = false := by simp; omega
          have HT : Hid (timeP 2 b = false) := by show _ = _; rw [unhide HTd, unhide HYr]; unfold calP; rw [hD]; simp; omega
          clear hc hD HTd
          go_wp2
          try rw [hW]
          have b0 := (unhide HRd).six (k := 0) (by omega)
          have b1 := (unhide HRd).six (k := 1) (by omega)
          have b2 := (unhide HRd).six (k := 2) (by omega)
          have b3 := (unhide HRd).six (k := 3) (by omega)
          have b4 := (unhide HRd).six (k := 4) (by omega)
          have b5 := (unhide HRd).six (k := 5) (by omega)
          simp only [if_true] at b0
          simp only [if_neg (show ¬ 1 = 0 by omega), unhide Hm1] at b1
          simp only [if_neg (show ¬ 2 = 0 by omega), unhide Hm2] at b2
          simp only [if_neg (show ¬ 3 = 0 by omega), unhide Hm3] at b3
          simp only [if_neg (show ¬ 4 = 0 by omega), unhide Hm4] at b4
          simp only [if_neg (show ¬ 5 = 0 by omega), unhide Hm5] at b5
          clear a0 a1 a2 a3 a4 a5 hW
          have Hc : Hid (∀ n, Calls Tryz.prog 54 #[.int .i64 (Y : Int), .int .i64 (m1 : Int)] (W.drewN n) fun e w' => e = .returned (.int .i64 (D : Int)) ∧ ∃ q, w' = (W.drewN n).drewN q) := fun n => (unhide Hdy _).mono fun e w' h => ⟨h.1, 0, h.2⟩
          go_big_quiet (first | (go_at_call 54; refine Calls.quiet_of (unhide Hc _)) | fail)
          have HRq := hide ((unhide HRd).drewN6 nq)
          have HAq : Hid ((W.drewN nq).heap[A]? = some (.cells #[.int .i64 0, .int .i64 0, .int .i64 0, .int .i64 0, .int .i64 0, .int .i64 0] 94 (0, 0))) := by show _ = _; rw [heap_drewN6]; exact unhide HAd
          have HBq := hide (below_drewN6 (unhide HBd) nq)
          obtain ⟨o2, o3⟩ := unhide HEnd (fun k => if k = 0 then Y else partK 2 b k) (W.drewN nq) (unhide HAq) (unhide HBq)
          have O1 := hide (six_one (fun k => if k = 0 then Y else partK 2 b k))
          have O2 := hide o2
          have O3 := hide o3
          have HRw : Hid ((W.drewN nq).heap[O]? = some (.cells (six (fun k => if k = 0 then Y else partK 2 b k)).toArray 94 (0, 0))) := by have := unhide HRq; unfold RowAt at this; rw [List.append_nil] at this; exact this
          clear o2 o3
          go_wp2_with (first | (refine wpList_load_row rfl 94 _ rfl O rfl 94 _ (0, 0) _ (unhide HRw) Tryz.underlying94 rfl hsz6 ?_) | (refine wpList_store_row rfl 94 _ _ rfl A _ rfl rfl 94 _ (unhide HAq) hsz6 rfl (unhide O1) ?_))
          exact bodyPost_ret (results_row_tmp Tryz.results49 _ _ A 94 _ (0, 0) _ rfl (unhide O3) Tryz.underlying94 rfl hsz6 (.bool false) rfl) rfl ⟨_, by rw [unhide HT], fun h => absurd h (by rw [unhide HT]; exact Bool.false_ne_true), unhide O2⟩
        · have t0 : decide ((1 : Int) ≤ (m1 : Int)) = true := by simp; omega
          have t0n : decide (1 ≤ m1) = true := by simp; omega
          have t1 : decide ((m1 : Int) ≤ 12) = true := by simp; omega
          have t1n : decide (m1 ≤ 12) = true := by simp; omega
          have t2 : decide ((1 : Int) ≤ (m2 : Int)) = true := by simp; omega
          have t2n : decide (1 ≤ m2) = true := by simp; omega
          have t3 : decide ((m2 : Int) ≤ (D : Int)) = false := by simp; omega
          have t3n : decide (m2 ≤ D) = false := by simp; omega
          have HT : Hid (timeP 2 b = false) := by show _ = _; rw [unhide HTd, unhide HYr]; unfold calP; rw [hD]; simp; omega
          clear hc hD HTd
          go_wp2
          try rw [hW]
          have b0 := (unhide HRd).six (k := 0) (by omega)
          have b1 := (unhide HRd).six (k := 1) (by omega)
          have b2 := (unhide HRd).six (k := 2) (by omega)
          have b3 := (unhide HRd).six (k := 3) (by omega)
          have b4 := (unhide HRd).six (k := 4) (by omega)
          have b5 := (unhide HRd).six (k := 5) (by omega)
          simp only [if_true] at b0
          simp only [if_neg (show ¬ 1 = 0 by omega), unhide Hm1] at b1
          simp only [if_neg (show ¬ 2 = 0 by omega), unhide Hm2] at b2
          simp only [if_neg (show ¬ 3 = 0 by omega), unhide Hm3] at b3
          simp only [if_neg (show ¬ 4 = 0 by omega), unhide Hm4] at b4
          simp only [if_neg (show ¬ 5 = 0 by omega), unhide Hm5] at b5
          clear a0 a1 a2 a3 a4 a5 hW
          have Hc : Hid (∀ n, Calls Tryz.prog 54 #[.int .i64 (Y : Int), .int .i64 (m1 : Int)] (W.drewN n) fun e w' => e = .returned (.int .i64 (D : Int)) ∧ ∃ q, w' = (W.drewN n).drewN q) := fun n => (unhide Hdy _).mono fun e w' h => ⟨h.1, 0, h.2⟩
          go_big_quiet (first | (go_at_call 54; refine Calls.quiet_of (unhide Hc _)) | fail)
          have HRq := hide ((unhide HRd).drewN6 nq)
          have HAq : Hid ((W.drewN nq).heap[A]? = some (.cells #[.int .i64 0, .int .i64 0, .int .i64 0, .int .i64 0, .int .i64 0, .int .i64 0] 94 (0, 0))) := by show _ = _; rw [heap_drewN6]; exact unhide HAd
          have HBq := hide (below_drewN6 (unhide HBd) nq)
          obtain ⟨o2, o3⟩ := unhide HEnd (fun k => if k = 0 then Y else partK 2 b k) (W.drewN nq) (unhide HAq) (unhide HBq)
          have O1 := hide (six_one (fun k => if k = 0 then Y else partK 2 b k))
          have O2 := hide o2
          have O3 := hide o3
          have HRw : Hid ((W.drewN nq).heap[O]? = some (.cells (six (fun k => if k = 0 then Y else partK 2 b k)).toArray 94 (0, 0))) := by have := unhide HRq; unfold RowAt at this; rw [List.append_nil] at this; exact this
          clear o2 o3
          go_wp2_with (first | (refine wpList_load_row rfl 94 _ rfl O rfl 94 _ (0, 0) _ (unhide HRw) Tryz.underlying94 rfl hsz6 ?_) | (refine wpList_store_row rfl 94 _ _ rfl A _ rfl rfl 94 _ (unhide HAq) hsz6 rfl (unhide O1) ?_))
          exact bodyPost_ret (results_row_tmp Tryz.results49 _ _ A 94 _ (0, 0) _ rfl (unhide O3) Tryz.underlying94 rfl hsz6 (.bool false) rfl) rfl ⟨_, by rw [unhide HT], fun h => absurd h (by rw [unhide HT]; exact Bool.false_ne_true), unhide O2⟩
        · have t0 : decide ((1 : Int) ≤ (m1 : Int)) = true := by simp; omega
          have t0n : decide (1 ≤ m1) = true := by simp; omega
          have t1 : decide ((m1 : Int) ≤ 12) = true := by simp; omega
          have t1n : decide (m1 ≤ 12) = true := by simp; omega
          have t2 : decide ((1 : Int) ≤ (m2 : Int)) = true := by simp; omega
          have t2n : decide (1 ≤ m2) = true := by simp; omega
          have t3 : decide ((m2 : Int) ≤ (D : Int)) = true := by simp; omega
          have t3n : decide (m2 ≤ D) = true := by simp; omega
          have t4 : decide ((m3 : Int) ≤ 23) = false := by simp; omega
          have t4n : decide (m3 ≤ 23) = false := by simp; omega
          have HT : Hid (timeP 2 b = false) := by show _ = _; rw [unhide HTd, unhide HYr]; unfold calP; rw [hD]; simp; omega
          clear hc hD HTd
          go_wp2
          try rw [hW]
          have b0 := (unhide HRd).six (k := 0) (by omega)
          have b1 := (unhide HRd).six (k := 1) (by omega)
          have b2 := (unhide HRd).six (k := 2) (by omega)
          have b3 := (unhide HRd).six (k := 3) (by omega)
          have b4 := (unhide HRd).six (k := 4) (by omega)
          have b5 := (unhide HRd).six (k := 5) (by omega)
          simp only [if_true] at b0
          simp only [if_neg (show ¬ 1 = 0 by omega), unhide Hm1] at b1
          simp only [if_neg (show ¬ 2 = 0 by omega), unhide Hm2] at b2
          simp only [if_neg (show ¬ 3 = 0 by omega), unhide Hm3] at b3
          simp only [if_neg (show ¬ 4 = 0 by omega), unhide Hm4] at b4
          simp only [if_neg (show ¬ 5 = 0 by omega), unhide Hm5] at b5
          clear a0 a1 a2 a3 a4 a5 hW
          have Hc : Hid (∀ n, Calls Tryz.prog 54 #[.int .i64 (Y : Int), .int .i64 (m1 : Int)] (W.drewN n) fun e w' => e = .returned (.int .i64 (D : Int)) ∧ ∃ q, w' = (W.drewN n).drewN q) := fun n => (unhide Hdy _).mono fun e w' h => ⟨h.1, 0, h.2⟩
          go_big_quiet (first | (go_at_call 54; refine Calls.quiet_of (unhide Hc _)) | fail)
          have HRq := hide ((unhide HRd).drewN6 nq)
          have HAq : Hid ((W.drewN nq).heap[A]? = some (.cells #[.int .i64 0, .int .i64 0, .int .i64 0, .int .i64 0, .int .i64 0, .int .i64 0] 94 (0, 0))) := by show _ = _; rw [heap_drewN6]; exact unhide HAd
          have HBq := hide (below_drewN6 (unhide HBd) nq)
          obtain ⟨o2, o3⟩ := unhide HEnd (fun k => if k = 0 then Y else partK 2 b k) (W.drewN nq) (unhide HAq) (unhide HBq)
          have O1 := hide (six_one (fun k => if k = 0 then Y else partK 2 b k))
          have O2 := hide o2
          have O3 := hide o3
          have HRw : Hid ((W.drewN nq).heap[O]? = some (.cells (six (fun k => if k = 0 then Y else partK 2 b k)).toArray 94 (0, 0))) := by have := unhide HRq; unfold RowAt at this; rw [List.append_nil] at this; exact this
          clear o2 o3
          go_wp2_with (first | (refine wpList_load_row rfl 94 _ rfl O rfl 94 _ (0, 0) _ (unhide HRw) Tryz.underlying94 rfl hsz6 ?_) | (refine wpList_store_row rfl 94 _ _ rfl A _ rfl rfl 94 _ (unhide HAq) hsz6 rfl (unhide O1) ?_))
          exact bodyPost_ret (results_row_tmp Tryz.results49 _ _ A 94 _ (0, 0) _ rfl (unhide O3) Tryz.underlying94 rfl hsz6 (.bool false) rfl) rfl ⟨_, by rw [unhide HT], fun h => absurd h (by rw [unhide HT]; exact Bool.false_ne_true), unhide O2⟩
        · have t0 : decide ((1 : Int) ≤ (m1 : Int)) = true := by simp; omega
          have t0n : decide (1 ≤ m1) = true := by simp; omega
          have t1 : decide ((m1 : Int) ≤ 12) = true := by simp; omega
          have t1n : decide (m1 ≤ 12) = true := by simp; omega
          have t2 : decide ((1 : Int) ≤ (m2 : Int)) = true := by simp; omega
          have t2n : decide (1 ≤ m2) = true := by simp; omega
          have t3 : decide ((m2 : Int) ≤ (D : Int)) = true := by simp; omega
          have t3n : decide (m2 ≤ D) = true := by simp; omega
          have t4 : decide ((m3 : Int) ≤ 23) = true := by simp; omega
          have t4n : decide (m3 ≤ 23) = true := by simp; omega
          have t5 : decide ((m4 : Int) ≤ 59) = false := by simp; omega
          have t5n : decide (m4 ≤ 59) = false := by simp; omega
          have HT : Hid (timeP 2 b = false) := by show _ = _; rw [unhide HTd, unhide HYr]; unfold calP; rw [hD]; simp; omega
          clear hc hD HTd
          go_wp2
          try rw [hW]
          have b0 := (unhide HRd).six (k := 0) (by omega)
          have b1 := (unhide HRd).six (k := 1) (by omega)
          have b2 := (unhide HRd).six (k := 2) (by omega)
          have b3 := (unhide HRd).six (k := 3) (by omega)
          have b4 := (unhide HRd).six (k := 4) (by omega)
          have b5 := (unhide HRd).six (k := 5) (by omega)
          simp only [if_true] at b0
          simp only [if_neg (show ¬ 1 = 0 by omega), unhide Hm1] at b1
          simp only [if_neg (show ¬ 2 = 0 by omega), unhide Hm2] at b2
          simp only [if_neg (show ¬ 3 = 0 by omega), unhide Hm3] at b3
          simp only [if_neg (show ¬ 4 = 0 by omega), unhide Hm4] at b4
          simp only [if_neg (show ¬ 5 = 0 by omega), unhide Hm5] at b5
          clear a0 a1 a2 a3 a4 a5 hW
          have Hc : Hid (∀ n, Calls Tryz.prog 54 #[.int .i64 (Y : Int), .int .i64 (m1 : Int)] (W.drewN n) fun e w' => e = .returned (.int .i64 (D : Int)) ∧ ∃ q, w' = (W.drewN n).drewN q) := fun n => (unhide Hdy _).mono fun e w' h => ⟨h.1, 0, h.2⟩
          go_big_quiet (first | (go_at_call 54; refine Calls.quiet_of (unhide Hc _)) | fail)
          have HRq := hide ((unhide HRd).drewN6 nq)
          have HAq : Hid ((W.drewN nq).heap[A]? = some (.cells #[.int .i64 0, .int .i64 0, .int .i64 0, .int .i64 0, .int .i64 0, .int .i64 0] 94 (0, 0))) := by show _ = _; rw [heap_drewN6]; exact unhide HAd
          have HBq := hide (below_drewN6 (unhide HBd) nq)
          obtain ⟨o2, o3⟩ := unhide HEnd (fun k => if k = 0 then Y else partK 2 b k) (W.drewN nq) (unhide HAq) (unhide HBq)
          have O1 := hide (six_one (fun k => if k = 0 then Y else partK 2 b k))
          have O2 := hide o2
          have O3 := hide o3
          have HRw : Hid ((W.drewN nq).heap[O]? = some (.cells (six (fun k => if k = 0 then Y else partK 2 b k)).toArray 94 (0, 0))) := by have := unhide HRq; unfold RowAt at this; rw [List.append_nil] at this; exact this
          clear o2 o3
          go_wp2_with (first | (refine wpList_load_row rfl 94 _ rfl O rfl 94 _ (0, 0) _ (unhide HRw) Tryz.underlying94 rfl hsz6 ?_) | (refine wpList_store_row rfl 94 _ _ rfl A _ rfl rfl 94 _ (unhide HAq) hsz6 rfl (unhide O1) ?_))
          exact bodyPost_ret (results_row_tmp Tryz.results49 _ _ A 94 _ (0, 0) _ rfl (unhide O3) Tryz.underlying94 rfl hsz6 (.bool false) rfl) rfl ⟨_, by rw [unhide HT], fun h => absurd h (by rw [unhide HT]; exact Bool.false_ne_true), unhide O2⟩
        · have t0 : decide ((1 : Int) ≤ (m1 : Int)) = true := by simp; omega
          have t0n : decide (1 ≤ m1) = true := by simp; omega
          have t1 : decide ((m1 : Int) ≤ 12) = true := by simp; omega
          have t1n : decide (m1 ≤ 12) = true := by simp; omega
          have t2 : decide ((1 : Int) ≤ (m2 : Int)) = true := by simp; omega
          have t2n : decide (1 ≤ m2) = true := by simp; omega
          have t3 : decide ((m2 : Int) ≤ (D : Int)) = true := by simp; omega
          have t3n : decide (m2 ≤ D) = true := by simp; omega
          have t4 : decide ((m3 : Int) ≤ 23) = true := by simp; omega
          have t4n : decide (m3 ≤ 23) = true := by simp; omega
          have t5 : decide ((m4 : Int) ≤ 59) = true := by simp; omega
          have t5n : decide (m4 ≤ 59) = true := by simp; omega
          have t6 : decide ((m5 : Int) ≤ 59) = false := by simp; omega
          have t6n : decide (m5 ≤ 59) = false := by simp; omega
          have HT : Hid (timeP 2 b = false) := by show _ = _; rw [unhide HTd, unhide HYr]; unfold calP; rw [hD]; simp; omega
          clear hc hD HTd
          go_wp2
          try rw [hW]
          have b0 := (unhide HRd).six (k := 0) (by omega)
          have b1 := (unhide HRd).six (k := 1) (by omega)
          have b2 := (unhide HRd).six (k := 2) (by omega)
          have b3 := (unhide HRd).six (k := 3) (by omega)
          have b4 := (unhide HRd).six (k := 4) (by omega)
          have b5 := (unhide HRd).six (k := 5) (by omega)
          simp only [if_true] at b0
          simp only [if_neg (show ¬ 1 = 0 by omega), unhide Hm1] at b1
          simp only [if_neg (show ¬ 2 = 0 by omega), unhide Hm2] at b2
          simp only [if_neg (show ¬ 3 = 0 by omega), unhide Hm3] at b3
          simp only [if_neg (show ¬ 4 = 0 by omega), unhide Hm4] at b4
          simp only [if_neg (show ¬ 5 = 0 by omega), unhide Hm5] at b5
          clear a0 a1 a2 a3 a4 a5 hW
          have Hc : Hid (∀ n, Calls Tryz.prog 54 #[.int .i64 (Y : Int), .int .i64 (m1 : Int)] (W.drewN n) fun e w' => e = .returned (.int .i64 (D : Int)) ∧ ∃ q, w' = (W.drewN n).drewN q) := fun n => (unhide Hdy _).mono fun e w' h => ⟨h.1, 0, h.2⟩
          go_big_quiet (first | (go_at_call 54; refine Calls.quiet_of (unhide Hc _)) | fail)
          have HRq := hide ((unhide HRd).drewN6 nq)
          have HAq : Hid ((W.drewN nq).heap[A]? = some (.cells #[.int .i64 0, .int .i64 0, .int .i64 0, .int .i64 0, .int .i64 0, .int .i64 0] 94 (0, 0))) := by show _ = _; rw [heap_drewN6]; exact unhide HAd
          have HBq := hide (below_drewN6 (unhide HBd) nq)
          obtain ⟨o2, o3⟩ := unhide HEnd (fun k => if k = 0 then Y else partK 2 b k) (W.drewN nq) (unhide HAq) (unhide HBq)
          have O1 := hide (six_one (fun k => if k = 0 then Y else partK 2 b k))
          have O2 := hide o2
          have O3 := hide o3
          have HRw : Hid ((W.drewN nq).heap[O]? = some (.cells (six (fun k => if k = 0 then Y else partK 2 b k)).toArray 94 (0, 0))) := by have := unhide HRq; unfold RowAt at this; rw [List.append_nil] at this; exact this
          clear o2 o3
          go_wp2_with (first | (refine wpList_load_row rfl 94 _ rfl O rfl 94 _ (0, 0) _ (unhide HRw) Tryz.underlying94 rfl hsz6 ?_) | (refine wpList_store_row rfl 94 _ _ rfl A _ rfl rfl 94 _ (unhide HAq) hsz6 rfl (unhide O1) ?_))
          exact bodyPost_ret (results_row_tmp Tryz.results49 _ _ A 94 _ (0, 0) _ rfl (unhide O3) Tryz.underlying94 rfl hsz6 (.bool false) rfl) rfl ⟨_, by rw [unhide HT], fun h => absurd h (by rw [unhide HT]; exact Bool.false_ne_true), unhide O2⟩
        · have t0 : decide ((1 : Int) ≤ (m1 : Int)) = true := by simp; omega
          have t0n : decide (1 ≤ m1) = true := by simp; omega
          have t1 : decide ((m1 : Int) ≤ 12) = true := by simp; omega
          have t1n : decide (m1 ≤ 12) = true := by simp; omega
          have t2 : decide ((1 : Int) ≤ (m2 : Int)) = true := by simp; omega
          have t2n : decide (1 ≤ m2) = true := by simp; omega
          have t3 : decide ((m2 : Int) ≤ (D : Int)) = true := by simp; omega
          have t3n : decide (m2 ≤ D) = true := by simp; omega
          have t4 : decide ((m3 : Int) ≤ 23) = true := by simp; omega
          have t4n : decide (m3 ≤ 23) = true := by simp; omega
          have t5 : decide ((m4 : Int) ≤ 59) = true := by simp; omega
          have t5n : decide (m4 ≤ 59) = true := by simp; omega
          have t6 : decide ((m5 : Int) ≤ 59) = true := by simp; omega
          have t6n : decide (m5 ≤ 59) = true := by simp; omega
          have HT : Hid (timeP 2 b = true) := by show _ = _; rw [unhide HTd, unhide HYr]; unfold calP; rw [hD]; simp; omega
          clear hc hD HTd
          go_wp2
          try rw [hW]
          have b0 := (unhide HRd).six (k := 0) (by omega)
          have b1 := (unhide HRd).six (k := 1) (by omega)
          have b2 := (unhide HRd).six (k := 2) (by omega)
          have b3 := (unhide HRd).six (k := 3) (by omega)
          have b4 := (unhide HRd).six (k := 4) (by omega)
          have b5 := (unhide HRd).six (k := 5) (by omega)
          simp only [if_true] at b0
          simp only [if_neg (show ¬ 1 = 0 by omega), unhide Hm1] at b1
          simp only [if_neg (show ¬ 2 = 0 by omega), unhide Hm2] at b2
          simp only [if_neg (show ¬ 3 = 0 by omega), unhide Hm3] at b3
          simp only [if_neg (show ¬ 4 = 0 by omega), unhide Hm4] at b4
          simp only [if_neg (show ¬ 5 = 0 by omega), unhide Hm5] at b5
          clear a0 a1 a2 a3 a4 a5 hW
          have Hc : Hid (∀ n, Calls Tryz.prog 54 #[.int .i64 (Y : Int), .int .i64 (m1 : Int)] (W.drewN n) fun e w' => e = .returned (.int .i64 (D : Int)) ∧ ∃ q, w' = (W.drewN n).drewN q) := fun n => (unhide Hdy _).mono fun e w' h => ⟨h.1, 0, h.2⟩
          go_big_quiet (first | (go_at_call 54; refine Calls.quiet_of (unhide Hc _)) | fail)
          have HRq := hide ((unhide HRd).drewN6 nq)
          have HAq : Hid ((W.drewN nq).heap[A]? = some (.cells #[.int .i64 0, .int .i64 0, .int .i64 0, .int .i64 0, .int .i64 0, .int .i64 0] 94 (0, 0))) := by show _ = _; rw [heap_drewN6]; exact unhide HAd
          have HBq := hide (below_drewN6 (unhide HBd) nq)
          obtain ⟨o2, o3⟩ := unhide HEnd (fun k => if k = 0 then Y else partK 2 b k) (W.drewN nq) (unhide HAq) (unhide HBq)
          have O1 := hide (six_one (fun k => if k = 0 then Y else partK 2 b k))
          have O2 := hide o2
          have O3 := hide o3
          have HRw : Hid ((W.drewN nq).heap[O]? = some (.cells (six (fun k => if k = 0 then Y else partK 2 b k)).toArray 94 (0, 0))) := by have := unhide HRq; unfold RowAt at this; rw [List.append_nil] at this; exact this
          clear o2 o3
          go_wp2_with (first | (refine wpList_load_row rfl 94 _ rfl O rfl 94 _ (0, 0) _ (unhide HRw) Tryz.underlying94 rfl hsz6 ?_) | (refine wpList_store_row rfl 94 _ _ rfl A _ rfl rfl 94 _ (unhide HAq) hsz6 rfl (unhide O1) ?_))
          exact bodyPost_ret (results_row_tmp Tryz.results49 _ _ A 94 _ (0, 0) _ rfl (unhide O3) Tryz.underlying94 rfl hsz6 (.bool true) rfl) rfl ⟨_, by rw [unhide HT], fun _ => unhide HQ, unhide O2⟩
      · have k1 : decide ((Y1 : Int) < 1950) = false := by simp; omega
        have k1n : decide (Y1 < 1950) = false := by simp; omega
        have Yb : Y1 ≤ 100000 := by omega
        have HYr : Hid (yearK 2 b = Y1) := by show _ = _; unfold yearK; rw [if_pos rfl, unhide Hm0, if_neg h50]; omega
        have HQ : Hid ((six fun k => if k = 0 then Y1 else partK 2 b k).toArray = (six fun k => if k = 0 then yearK 2 b else partK 2 b k).toArray) := by show _ = _; rw [unhide HYr]
        obtain ⟨W, hW⟩ : ∃ W, wr.setCell ⟨O, 0, none⟩ (.int .i64 (Y1 : Int)) = W := ⟨_, rfl⟩
        have HRd : Hid (RowAt 94 W O [] (six fun k => if k = 0 then Y1 else partK 2 b k)) := by
          show RowAt _ _ _ _ _
          rw [← hW]
          exact unhide HR1
        have HAd : Hid (W.heap[A]? = some (.cells #[.int .i64 0, .int .i64 0, .int .i64 0, .int .i64 0, .int .i64 0, .int .i64 0] 94 (0, 0))) := by
          show W.heap[A]? = _
          rw [← hW]
          exact unhide HA1
        have HBd : Hid (Below w.heap.size w W) := by
          show Below _ _ W
          rw [← hW]
          exact unhide HB1
        have z0 : W.cell? ⟨O, 0, none⟩ = some (.int .i64 (Y1 : Int)) := by
          have := (unhide HR1).six (k := 0) (by omega)
          rw [← hW]
          simpa using this
        have Hdy := hide (fun w => days_any Y1 m1 (by omega) (by omega) w)
        obtain ⟨D, hD⟩ : ∃ D, daysP Y1 m1 = D := ⟨_, rfl⟩
        simp only [hD] at Hdy
        rcases (by omega : (m1 < 1) ∨ (1 ≤ m1 ∧ 12 < m1) ∨ (1 ≤ m1 ∧ m1 ≤ 12 ∧ m2 < 1) ∨ (1 ≤ m1 ∧ m1 ≤ 12 ∧ 1 ≤ m2 ∧ D < m2) ∨ (1 ≤ m1 ∧ m1 ≤ 12 ∧ 1 ≤ m2 ∧ m2 ≤ D ∧ 23 < m3) ∨ (1 ≤ m1 ∧ m1 ≤ 12 ∧ 1 ≤ m2 ∧ m2 ≤ D ∧ m3 ≤ 23 ∧ 59 < m4) ∨ (1 ≤ m1 ∧ m1 ≤ 12 ∧ 1 ≤ m2 ∧ m2 ≤ D ∧ m3 ≤ 23 ∧ m4 ≤ 59 ∧ 59 < m5) ∨ (1 ≤ m1 ∧ m1 ≤ 12 ∧ 1 ≤ m2 ∧ m2 ≤ D ∧ m3 ≤ 23 ∧ m4 ≤ 59 ∧ m5 ≤ 59)) with hc | hc | hc | hc | hc | hc | hc | hc
        · have t0 : decide ((1 : Int) ≤ (m1 : Int)) = false := by simp; omega
          have t0n : decide (1 ≤ m1) = false := by simp; omega
          have HT : Hid (timeP 2 b = false) := by show _ = _; rw [unhide HTd, unhide HYr]; unfold calP; rw [hD]; simp; omega
          clear hc hD HTd
          go_wp2
          try rw [hW]
          have b0 := (unhide HRd).six (k := 0) (by omega)
          have b1 := (unhide HRd).six (k := 1) (by omega)
          have b2 := (unhide HRd).six (k := 2) (by omega)
          have b3 := (unhide HRd).six (k := 3) (by omega)
          have b4 := (unhide HRd).six (k := 4) (by omega)
          have b5 := (unhide HRd).six (k := 5) (by omega)
          simp only [if_true] at b0
          simp only [if_neg (show ¬ 1 = 0 by omega), unhide Hm1] at b1
          simp only [if_neg (show ¬ 2 = 0 by omega), unhide Hm2] at b2
          simp only [if_neg (show ¬ 3 = 0 by omega), unhide Hm3] at b3
          simp only [if_neg (show ¬ 4 = 0 by omega), unhide Hm4] at b4
          simp only [if_neg (show ¬ 5 = 0 by omega), unhide Hm5] at b5
          clear a0 a1 a2 a3 a4 a5 hW
          have Hc : Hid (∀ n, Calls Tryz.prog 54 #[.int .i64 (Y1 : Int), .int .i64 (m1 : Int)] (W.drewN n) fun e w' => e = .returned (.int .i64 (D : Int)) ∧ ∃ q, w' = (W.drewN n).drewN q) := fun n => (unhide Hdy _).mono fun e w' h => ⟨h.1, 0, h.2⟩
          go_big_quiet (first | (go_at_call 54; refine Calls.quiet_of (unhide Hc _)) | fail)
          have HRq := hide ((unhide HRd).drewN6 nq)
          have HAq : Hid ((W.drewN nq).heap[A]? = some (.cells #[.int .i64 0, .int .i64 0, .int .i64 0, .int .i64 0, .int .i64 0, .int .i64 0] 94 (0, 0))) := by show _ = _; rw [heap_drewN6]; exact unhide HAd
          have HBq := hide (below_drewN6 (unhide HBd) nq)
          obtain ⟨o2, o3⟩ := unhide HEnd (fun k => if k = 0 then Y1 else partK 2 b k) (W.drewN nq) (unhide HAq) (unhide HBq)
          have O1 := hide (six_one (fun k => if k = 0 then Y1 else partK 2 b k))
          have O2 := hide o2
          have O3 := hide o3
          have HRw : Hid ((W.drewN nq).heap[O]? = some (.cells (six (fun k => if k = 0 then Y1 else partK 2 b k)).toArray 94 (0, 0))) := by have := unhide HRq; unfold RowAt at this; rw [List.append_nil] at this; exact this
          clear o2 o3
          go_wp2_with (first | (refine wpList_load_row rfl 94 _ rfl O rfl 94 _ (0, 0) _ (unhide HRw) Tryz.underlying94 rfl hsz6 ?_) | (refine wpList_store_row rfl 94 _ _ rfl A _ rfl rfl 94 _ (unhide HAq) hsz6 rfl (unhide O1) ?_))
          exact bodyPost_ret (results_row_tmp Tryz.results49 _ _ A 94 _ (0, 0) _ rfl (unhide O3) Tryz.underlying94 rfl hsz6 (.bool false) rfl) rfl ⟨_, by rw [unhide HT], fun h => absurd h (by rw [unhide HT]; exact Bool.false_ne_true), unhide O2⟩
        · have t0 : decide ((1 : Int) ≤ (m1 : Int)) = true := by simp; omega
          have t0n : decide (1 ≤ m1) = true := by simp; omega
          have t1 : decide ((m1 : Int) ≤ 12) = false := by simp; omega
          have t1n : decide (m1 ≤ 12) = false := by simp; omega
          have HT : Hid (timeP 2 b = false) := by show _ = _; rw [unhide HTd, unhide HYr]; unfold calP; rw [hD]; simp; omega
          clear hc hD HTd
          go_wp2
          try rw [hW]
          have b0 := (unhide HRd).six (k := 0) (by omega)
          have b1 := (unhide HRd).six (k := 1) (by omega)
          have b2 := (unhide HRd).six (k := 2) (by omega)
          have b3 := (unhide HRd).six (k := 3) (by omega)
          have b4 := (unhide HRd).six (k := 4) (by omega)
          have b5 := (unhide HRd).six (k := 5) (by omega)
          simp only [if_true] at b0
          simp only [if_neg (show ¬ 1 = 0 by omega), unhide Hm1] at b1
          simp only [if_neg (show ¬ 2 = 0 by omega), unhide Hm2] at b2
          simp only [if_neg (show ¬ 3 = 0 by omega), unhide Hm3] at b3
          simp only [if_neg (show ¬ 4 = 0 by omega), unhide Hm4] at b4
          simp only [if_neg (show ¬ 5 = 0 by omega), unhide Hm5] at b5
          clear a0 a1 a2 a3 a4 a5 hW
          have Hc : Hid (∀ n, Calls Tryz.prog 54 #[.int .i64 (Y1 : Int), .int .i64 (m1 : Int)] (W.drewN n) fun e w' => e = .returned (.int .i64 (D : Int)) ∧ ∃ q, w' = (W.drewN n).drewN q) := fun n => (unhide Hdy _).mono fun e w' h => ⟨h.1, 0, h.2⟩
          go_big_quiet (first | (go_at_call 54; refine Calls.quiet_of (unhide Hc _)) | fail)
          have HRq := hide ((unhide HRd).drewN6 nq)
          have HAq : Hid ((W.drewN nq).heap[A]? = some (.cells #[.int .i64 0, .int .i64 0, .int .i64 0, .int .i64 0, .int .i64 0, .int .i64 0] 94 (0, 0))) := by show _ = _; rw [heap_drewN6]; exact unhide HAd
          have HBq := hide (below_drewN6 (unhide HBd) nq)
          obtain ⟨o2, o3⟩ := unhide HEnd (fun k => if k = 0 then Y1 else partK 2 b k) (W.drewN nq) (unhide HAq) (unhide HBq)
          have O1 := hide (six_one (fun k => if k = 0 then Y1 else partK 2 b k))
          have O2 := hide o2
          have O3 := hide o3
          have HRw : Hid ((W.drewN nq).heap[O]? = some (.cells (six (fun k => if k = 0 then Y1 else partK 2 b k)).toArray 94 (0, 0))) := by have := unhide HRq; unfold RowAt at this; rw [List.append_nil] at this; exact this
          clear o2 o3
          go_wp2_with (first | (refine wpList_load_row rfl 94 _ rfl O rfl 94 _ (0, 0) _ (unhide HRw) Tryz.underlying94 rfl hsz6 ?_) | (refine wpList_store_row rfl 94 _ _ rfl A _ rfl rfl 94 _ (unhide HAq) hsz6 rfl (unhide O1) ?_))
          exact bodyPost_ret (results_row_tmp Tryz.results49 _ _ A 94 _ (0, 0) _ rfl (unhide O3) Tryz.underlying94 rfl hsz6 (.bool false) rfl) rfl ⟨_, by rw [unhide HT], fun h => absurd h (by rw [unhide HT]; exact Bool.false_ne_true), unhide O2⟩
        · have t0 : decide ((1 : Int) ≤ (m1 : Int)) = true := by simp; omega
          have t0n : decide (1 ≤ m1) = true := by simp; omega
          have t1 : decide ((m1 : Int) ≤ 12) = true := by simp; omega
          have t1n : decide (m1 ≤ 12) = true := by simp; omega
          have t2 : decide ((1 : Int) ≤ (m2 : Int)) = false := by simp; omega
          have t2n : decide (1 ≤ m2) = false := by simp; omega
          have HT : Hid (timeP 2 b = false) := by show _ = _; rw [unhide HTd, unhide HYr]; unfold calP; rw [hD]; simp; omega
          clear hc hD HTd
          go_wp2
          try rw [hW]
          have b0 := (unhide HRd).six (k := 0) (by omega)
          have b1 := (unhide HRd).six (k := 1) (by omega)
          have b2 := (unhide HRd).six (k := 2) (by omega)
          have b3 := (unhide HRd).six (k := 3) (by omega)
          have b4 := (unhide HRd).six (k := 4) (by omega)
          have b5 := (unhide HRd).six (k := 5) (by omega)
          simp only [if_true] at b0
          simp only [if_neg (show ¬ 1 = 0 by omega), unhide Hm1] at b1
          simp only [if_neg (show ¬ 2 = 0 by omega), unhide Hm2] at b2
          simp only [if_neg (show ¬ 3 = 0 by omega), unhide Hm3] at b3
          simp only [if_neg (show ¬ 4 = 0 by omega), unhide Hm4] at b4
          simp only [if_neg (show ¬ 5 = 0 by omega), unhide Hm5] at b5
          clear a0 a1 a2 a3 a4 a5 hW
          have Hc : Hid (∀ n, Calls Tryz.prog 54 #[.int .i64 (Y1 : Int), .int .i64 (m1 : Int)] (W.drewN n) fun e w' => e = .returned (.int .i64 (D : Int)) ∧ ∃ q, w' = (W.drewN n).drewN q) := fun n => (unhide Hdy _).mono fun e w' h => ⟨h.1, 0, h.2⟩
          go_big_quiet (first | (go_at_call 54; refine Calls.quiet_of (unhide Hc _)) | fail)
          have HRq := hide ((unhide HRd).drewN6 nq)
          have HAq : Hid ((W.drewN nq).heap[A]? = some (.cells #[.int .i64 0, .int .i64 0, .int .i64 0, .int .i64 0, .int .i64 0, .int .i64 0] 94 (0, 0))) := by show _ = _; rw [heap_drewN6]; exact unhide HAd
          have HBq := hide (below_drewN6 (unhide HBd) nq)
          obtain ⟨o2, o3⟩ := unhide HEnd (fun k => if k = 0 then Y1 else partK 2 b k) (W.drewN nq) (unhide HAq) (unhide HBq)
          have O1 := hide (six_one (fun k => if k = 0 then Y1 else partK 2 b k))
          have O2 := hide o2
          have O3 := hide o3
          have HRw : Hid ((W.drewN nq).heap[O]? = some (.cells (six (fun k => if k = 0 then Y1 else partK 2 b k)).toArray 94 (0, 0))) := by have := unhide HRq; unfold RowAt at this; rw [List.append_nil] at this; exact this
          clear o2 o3
          go_wp2_with (first | (refine wpList_load_row rfl 94 _ rfl O rfl 94 _ (0, 0) _ (unhide HRw) Tryz.underlying94 rfl hsz6 ?_) | (refine wpList_store_row rfl 94 _ _ rfl A _ rfl rfl 94 _ (unhide HAq) hsz6 rfl (unhide O1) ?_))
          exact bodyPost_ret (results_row_tmp Tryz.results49 _ _ A 94 _ (0, 0) _ rfl (unhide O3) Tryz.underlying94 rfl hsz6 (.bool false) rfl) rfl ⟨_, by rw [unhide HT], fun h => absurd h (by rw [unhide HT]; exact Bool.false_ne_true), unhide O2⟩
        · have t0 : decide ((1 : Int) ≤ (m1 : Int)) = true := by simp; omega
          have t0n : decide (1 ≤ m1) = true := by simp; omega
          have t1 : decide ((m1 : Int) ≤ 12) = true := by simp; omega
          have t1n : decide (m1 ≤ 12) = true := by simp; omega
          have t2 : decide ((1 : Int) ≤ (m2 : Int)) = true := by simp; omega
          have t2n : decide (1 ≤ m2) = true := by simp; omega
          have t3 : decide ((m2 : Int) ≤ (D : Int)) = false := by simp; omega
          have t3n : decide (m2 ≤ D) = false := by simp; omega
          have HT : Hid (timeP 2 b = false) := by show _ = _; rw [unhide HTd, unhide HYr]; unfold calP; rw [hD]; simp; omega
          clear hc hD HTd
          go_wp2
          try rw [hW]
          have b0 := (unhide HRd).six (k := 0) (by omega)
          have b1 := (unhide HRd).six (k := 1) (by omega)
          have b2 := (unhide HRd).six (k := 2) (by omega)
          have b3 := (unhide HRd).six (k := 3) (by omega)
          have b4 := (unhide HRd).six (k := 4) (by omega)
          have b5 := (unhide HRd).six (k := 5) (by omega)
          simp only [if_true] at b0
          simp only [if_neg (show ¬ 1 = 0 by omega), unhide Hm1] at b1
          simp only [if_neg (show ¬ 2 = 0 by omega), unhide Hm2] at b2
          simp only [if_neg (show ¬ 3 = 0 by omega), unhide Hm3] at b3
          simp only [if_neg (show ¬ 4 = 0 by omega), unhide Hm4] at b4
          simp only [if_neg (show ¬ 5 = 0 by omega), unhide Hm5] at b5
          clear a0 a1 a2 a3 a4 a5 hW
          have Hc : Hid (∀ n, Calls Tryz.prog 54 #[.int .i64 (Y1 : Int), .int .i64 (m1 : Int)] (W.drewN n) fun e w' => e = .returned (.int .i64 (D : Int)) ∧ ∃ q, w' = (W.drewN n).drewN q) := fun n => (unhide Hdy _).mono fun e w' h => ⟨h.1, 0, h.2⟩
          go_big_quiet (first | (go_at_call 54; refine Calls.quiet_of (unhide Hc _)) | fail)
          have HRq := hide ((unhide HRd).drewN6 nq)
          have HAq : Hid ((W.drewN nq).heap[A]? = some (.cells #[.int .i64 0, .int .i64 0, .int .i64 0, .int .i64 0, .int .i64 0, .int .i64 0] 94 (0, 0))) := by show _ = _; rw [heap_drewN6]; exact unhide HAd
          have HBq := hide (below_drewN6 (unhide HBd) nq)
          obtain ⟨o2, o3⟩ := unhide HEnd (fun k => if k = 0 then Y1 else partK 2 b k) (W.drewN nq) (unhide HAq) (unhide HBq)
          have O1 := hide (six_one (fun k => if k = 0 then Y1 else partK 2 b k))
          have O2 := hide o2
          have O3 := hide o3
          have HRw : Hid ((W.drewN nq).heap[O]? = some (.cells (six (fun k => if k = 0 then Y1 else partK 2 b k)).toArray 94 (0, 0))) := by have := unhide HRq; unfold RowAt at this; rw [List.append_nil] at this; exact this
          clear o2 o3
          go_wp2_with (first | (refine wpList_load_row rfl 94 _ rfl O rfl 94 _ (0, 0) _ (unhide HRw) Tryz.underlying94 rfl hsz6 ?_) | (refine wpList_store_row rfl 94 _ _ rfl A _ rfl rfl 94 _ (unhide HAq) hsz6 rfl (unhide O1) ?_))
          exact bodyPost_ret (results_row_tmp Tryz.results49 _ _ A 94 _ (0, 0) _ rfl (unhide O3) Tryz.underlying94 rfl hsz6 (.bool false) rfl) rfl ⟨_, by rw [unhide HT], fun h => absurd h (by rw [unhide HT]; exact Bool.false_ne_true), unhide O2⟩
        · have t0 : decide ((1 : Int) ≤ (m1 : Int)) = true := by simp; omega
          have t0n : decide (1 ≤ m1) = true := by simp; omega
          have t1 : decide ((m1 : Int) ≤ 12) = true := by simp; omega
          have t1n : decide (m1 ≤ 12) = true := by simp; omega
          have t2 : decide ((1 : Int) ≤ (m2 : Int)) = true := by simp; omega
          have t2n : decide (1 ≤ m2) = true := by simp; omega
          have t3 : decide ((m2 : Int) ≤ (D : Int)) = true := by simp; omega
          have t3n : decide (m2 ≤ D) = true := by simp; omega
          have t4 : decide ((m3 : Int) ≤ 23) = false := by simp; omega
          have t4n : decide (m3 ≤ 23) = false := by simp; omega
          have HT : Hid (timeP 2 b = false) := by show _ = _; rw [unhide HTd, unhide HYr]; unfold calP; rw [hD]; simp; omega
          clear hc hD HTd
          go_wp2
          try rw [hW]
          have b0 := (unhide HRd).six (k := 0) (by omega)
          have b1 := (unhide HRd).six (k := 1) (by omega)
          have b2 := (unhide HRd).six (k := 2) (by omega)
          have b3 := (unhide HRd).six (k := 3) (by omega)
          have b4 := (unhide HRd).six (k := 4) (by omega)
          have b5 := (unhide HRd).six (k := 5) (by omega)
          simp only [if_true] at b0
          simp only [if_neg (show ¬ 1 = 0 by omega), unhide Hm1] at b1
          simp only [if_neg (show ¬ 2 = 0 by omega), unhide Hm2] at b2
          simp only [if_neg (show ¬ 3 = 0 by omega), unhide Hm3] at b3
          simp only [if_neg (show ¬ 4 = 0 by omega), unhide Hm4] at b4
          simp only [if_neg (show ¬ 5 = 0 by omega), unhide Hm5] at b5
          clear a0 a1 a2 a3 a4 a5 hW
          have Hc : Hid (∀ n, Calls Tryz.prog 54 #[.int .i64 (Y1 : Int), .int .i64 (m1 : Int)] (W.drewN n) fun e w' => e = .returned (.int .i64 (D : Int)) ∧ ∃ q, w' = (W.drewN n).drewN q) := fun n => (unhide Hdy _).mono fun e w' h => ⟨h.1, 0, h.2⟩
          go_big_quiet (first | (go_at_call 54; refine Calls.quiet_of (unhide Hc _)) | fail)
          have HRq := hide ((unhide HRd).drewN6 nq)
          have HAq : Hid ((W.drewN nq).heap[A]? = some (.cells #[.int .i64 0, .int .i64 0, .int .i64 0, .int .i64 0, .int .i64 0, .int .i64 0] 94 (0, 0))) := by show _ = _; rw [heap_drewN6]; exact unhide HAd
          have HBq := hide (below_drewN6 (unhide HBd) nq)
          obtain ⟨o2, o3⟩ := unhide HEnd (fun k => if k = 0 then Y1 else partK 2 b k) (W.drewN nq) (unhide HAq) (unhide HBq)
          have O1 := hide (six_one (fun k => if k = 0 then Y1 else partK 2 b k))
          have O2 := hide o2
          have O3 := hide o3
          have HRw : Hid ((W.drewN nq).heap[O]? = some (.cells (six (fun k => if k = 0 then Y1 else partK 2 b k)).toArray 94 (0, 0))) := by have := unhide HRq; unfold RowAt at this; rw [List.append_nil] at this; exact this
          clear o2 o3
          go_wp2_with (first | (refine wpList_load_row rfl 94 _ rfl O rfl 94 _ (0, 0) _ (unhide HRw) Tryz.underlying94 rfl hsz6 ?_) | (refine wpList_store_row rfl 94 _ _ rfl A _ rfl rfl 94 _ (unhide HAq) hsz6 rfl (unhide O1) ?_))
          exact bodyPost_ret (results_row_tmp Tryz.results49 _ _ A 94 _ (0, 0) _ rfl (unhide O3) Tryz.underlying94 rfl hsz6 (.bool false) rfl) rfl ⟨_, by rw [unhide HT], fun h => absurd h (by rw [unhide HT]; exact Bool.false_ne_true), unhide O2⟩
        · have t0 : decide ((1 : Int) ≤ (m1 : Int)) = true := by simp; omega
          have t0n : decide (1 ≤ m1) = true := by simp; omega
          have t1 : decide ((m1 : Int) ≤ 12) = true := by simp; omega
          have t1n : decide (m1 ≤ 12) = true := by simp; omega
          have t2 : decide ((1 : Int) ≤ (m2 : Int)) = true := by simp; omega
          have t2n : decide (1 ≤ m2) = true := by simp; omega
          have t3 : decide ((m2 : Int) ≤ (D : Int)) = true := by simp; omega
          have t3n : decide (m2 ≤ D) = true := by simp; omega
          have t4 : decide ((m3 : Int) ≤ 23) = true := by simp; omega
          have t4n : decide (m3 ≤ 23) = true := by simp; omega
          have t5 : decide ((m4 : Int) ≤ 59) = false := by simp; omega
          have t5n : decide (m4 ≤ 59) = false := by simp; omega
          have HT : Hid (timeP 2 b = false) := by show _ = _; rw [unhide HTd, unhide HYr]; unfold calP; rw [hD]; simp; omega
          clear hc hD HTd
          go_wp2
          try rw [hW]
          have b0 := (unhide HRd).six (k := 0) (by omega)
          have b1 := (unhide HRd).six (k := 1) (by omega)
          have b2 := (unhide HRd).six (k := 2) (by omega)
          have b3 := (unhide HRd).six (k := 3) (by omega)
          have b4 := (unhide HRd).six (k := 4) (by omega)
          have b5 := (unhide HRd).six (k := 5) (by omega)
          simp only [if_true] at b0
          simp only [if_neg (show ¬ 1 = 0 by omega), unhide Hm1] at b1
          simp only [if_neg (show ¬ 2 = 0 by omega), unhide Hm2] at b2
          simp only [if_neg (show ¬ 3 = 0 by omega), unhide Hm3] at b3
          simp only [if_neg (show ¬ 4 = 0 by omega), unhide Hm4] at b4
          simp only [if_neg (show ¬ 5 = 0 by omega), unhide Hm5] at b5
          clear a0 a1 a2 a3 a4 a5 hW
          have Hc : Hid (∀ n, Calls Tryz.prog 54 #[.int .i64 (Y1 : Int), .int .i64 (m1 : Int)] (W.drewN n) fun e w' => e = .returned (.int .i64 (D : Int)) ∧ ∃ q, w' = (W.drewN n).drewN q) := fun n => (unhide Hdy _).mono fun e w' h => ⟨h.1, 0, h.2⟩
          go_big_quiet (first | (go_at_call 54; refine Calls.quiet_of (unhide Hc _)) | fail)
          have HRq := hide ((unhide HRd).drewN6 nq)
          have HAq : Hid ((W.drewN nq).heap[A]? = some (.cells #[.int .i64 0, .int .i64 0, .int .i64 0, .int .i64 0, .int .i64 0, .int .i64 0] 94 (0, 0))) := by show _ = _; rw [heap_drewN6]; exact unhide HAd
          have HBq := hide (below_drewN6 (unhide HBd) nq)
          obtain ⟨o2, o3⟩ := unhide HEnd (fun k => if k = 0 then Y1 else partK 2 b k) (W.drewN nq) (unhide HAq) (unhide HBq)
          have O1 := hide (six_one (fun k => if k = 0 then Y1 else partK 2 b k))
          have O2 := hide o2
          have O3 := hide o3
          have HRw : Hid ((W.drewN nq).heap[O]? = some (.cells (six (fun k => if k = 0 then Y1 else partK 2 b k)).toArray 94 (0, 0))) := by have := unhide HRq; unfold RowAt at this; rw [List.append_nil] at this; exact this
          clear o2 o3
          go_wp2_with (first | (refine wpList_load_row rfl 94 _ rfl O rfl 94 _ (0, 0) _ (unhide HRw) Tryz.underlying94 rfl hsz6 ?_) | (refine wpList_store_row rfl 94 _ _ rfl A _ rfl rfl 94 _ (unhide HAq) hsz6 rfl (unhide O1) ?_))
          exact bodyPost_ret (results_row_tmp Tryz.results49 _ _ A 94 _ (0, 0) _ rfl (unhide O3) Tryz.underlying94 rfl hsz6 (.bool false) rfl) rfl ⟨_, by rw [unhide HT], fun h => absurd h (by rw [unhide HT]; exact Bool.false_ne_true), unhide O2⟩
        · have t0 : decide ((1 : Int) ≤ (m1 : Int)) = true := by simp; omega
          have t0n : decide (1 ≤ m1) = true := by simp; omega
          have t1 : decide ((m1 : Int) ≤ 12) = true := by simp; omega
          have t1n : decide (m1 ≤ 12) = true := by simp; omega
          have t2 : decide ((1 : Int) ≤ (m2 : Int)) = true := by simp; omega
          have t2n : decide (1 ≤ m2) = true := by simp; omega
          have t3 : decide ((m2 : Int) ≤ (D : Int)) = true := by simp; omega
          have t3n : decide (m2 ≤ D) = true := by simp; omega
          have t4 : decide ((m3 : Int) ≤ 23) = true := by simp; omega
          have t4n : decide (m3 ≤ 23) = true := by simp; omega
          have t5 : decide ((m4 : Int) ≤ 59) = true := by simp; omega
          have t5n : decide (m4 ≤ 59) = true := by simp; omega
          have t6 : decide ((m5 : Int) ≤ 59) = false := by simp; omega
          have t6n : decide (m5 ≤ 59) = false := by simp; omega
          have HT : Hid (timeP 2 b = false) := by show _ = _; rw [unhide HTd, unhide HYr]; unfold calP; rw [hD]; simp; omega
          clear hc hD HTd
          go_wp2
          try rw [hW]
          have b0 := (unhide HRd).six (k := 0) (by omega)
          have b1 := (unhide HRd).six (k := 1) (by omega)
          have b2 := (unhide HRd).six (k := 2) (by omega)
          have b3 := (unhide HRd).six (k := 3) (by omega)
          have b4 := (unhide HRd).six (k := 4) (by omega)
          have b5 := (unhide HRd).six (k := 5) (by omega)
          simp only [if_true] at b0
          simp only [if_neg (show ¬ 1 = 0 by omega), unhide Hm1] at b1
          simp only [if_neg (show ¬ 2 = 0 by omega), unhide Hm2] at b2
          simp only [if_neg (show ¬ 3 = 0 by omega), unhide Hm3] at b3
          simp only [if_neg (show ¬ 4 = 0 by omega), unhide Hm4] at b4
          simp only [if_neg (show ¬ 5 = 0 by omega), unhide Hm5] at b5
          clear a0 a1 a2 a3 a4 a5 hW
          have Hc : Hid (∀ n, Calls Tryz.prog 54 #[.int .i64 (Y1 : Int), .int .i64 (m1 : Int)] (W.drewN n) fun e w' => e = .returned (.int .i64 (D : Int)) ∧ ∃ q, w' = (W.drewN n).drewN q) := fun n => (unhide Hdy _).mono fun e w' h => ⟨h.1, 0, h.2⟩
          go_big_quiet (first | (go_at_call 54; refine Calls.quiet_of (unhide Hc _)) | fail)
          have HRq := hide ((unhide HRd).drewN6 nq)
          have HAq : Hid ((W.drewN nq).heap[A]? = some (.cells #[.int .i64 0, .int .i64 0, .int .i64 0, .int .i64 0, .int .i64 0, .int .i64 0] 94 (0, 0))) := by show _ = _; rw [heap_drewN6]; exact unhide HAd
          have HBq := hide (below_drewN6 (unhide HBd) nq)
          obtain ⟨o2, o3⟩ := unhide HEnd (fun k => if k = 0 then Y1 else partK 2 b k) (W.drewN nq) (unhide HAq) (unhide HBq)
          have O1 := hide (six_one (fun k => if k = 0 then Y1 else partK 2 b k))
          have O2 := hide o2
          have O3 := hide o3
          have HRw : Hid ((W.drewN nq).heap[O]? = some (.cells (six (fun k => if k = 0 then Y1 else partK 2 b k)).toArray 94 (0, 0))) := by have := unhide HRq; unfold RowAt at this; rw [List.append_nil] at this; exact this
          clear o2 o3
          go_wp2_with (first | (refine wpList_load_row rfl 94 _ rfl O rfl 94 _ (0, 0) _ (unhide HRw) Tryz.underlying94 rfl hsz6 ?_) | (refine wpList_store_row rfl 94 _ _ rfl A _ rfl rfl 94 _ (unhide HAq) hsz6 rfl (unhide O1) ?_))
          exact bodyPost_ret (results_row_tmp Tryz.results49 _ _ A 94 _ (0, 0) _ rfl (unhide O3) Tryz.underlying94 rfl hsz6 (.bool false) rfl) rfl ⟨_, by rw [unhide HT], fun h => absurd h (by rw [unhide HT]; exact Bool.false_ne_true), unhide O2⟩
        · have t0 : decide ((1 : Int) ≤ (m1 : Int)) = true := by simp; omega
          have t0n : decide (1 ≤ m1) = true := by simp; omega
          have t1 : decide ((m1 : Int) ≤ 12) = true := by simp; omega
          have t1n : decide (m1 ≤ 12) = true := by simp; omega
          have t2 : decide ((1 : Int) ≤ (m2 : Int)) = true := by simp; omega
          have t2n : decide (1 ≤ m2) = true := by simp; omega
          have t3 : decide ((m2 : Int) ≤ (D : Int)) = true := by simp; omega
          have t3n : decide (m2 ≤ D) = true := by simp; omega
          have t4 : decide ((m3 : Int) ≤ 23) = true := by simp; omega
          have t4n : decide (m3 ≤ 23) = true := by simp; omega
          have t5 : decide ((m4 : Int) ≤ 59) = true := by simp; omega
          have t5n : decide (m4 ≤ 59) = true := by simp; omega
          have t6 : decide ((m5 : Int) ≤ 59) = true := by simp; omega
          have t6n : decide (m5 ≤ 59) = true := by simp; omega
          have HT : Hid (timeP 2 b = true) := by show _ = _; rw [unhide HTd, unhide HYr]; unfold calP; rw [hD]; simp; omega
          clear hc hD HTd
          go_wp2
          try rw [hW]
          have b0 := (unhide HRd).six (k := 0) (by omega)
          have b1 := (unhide HRd).six (k := 1) (by omega)
          have b2 := (unhide HRd).six (k := 2) (by omega)
          have b3 := (unhide HRd).six (k := 3) (by omega)
          have b4 := (unhide HRd).six (k := 4) (by omega)
          have b5 := (unhide HRd).six (k := 5) (by omega)
          simp only [if_true] at b0
          simp only [if_neg (show ¬ 1 = 0 by omega), unhide Hm1] at b1
          simp only [if_neg (show ¬ 2 = 0 by omega), unhide Hm2] at b2
          simp only [if_neg (show ¬ 3 = 0 by omega), unhide Hm3] at b3
          simp only [if_neg (show ¬ 4 = 0 by omega), unhide Hm4] at b4
          simp only [if_neg (show ¬ 5 = 0 by omega), unhide Hm5] at b5
          clear a0 a1 a2 a3 a4 a5 hW
          have Hc : Hid (∀ n, Calls Tryz.prog 54 #[.int .i64 (Y1 : Int), .int .i64 (m1 : Int)] (W.drewN n) fun e w' => e = .returned (.int .i64 (D : Int)) ∧ ∃ q, w' = (W.drewN n).drewN q) := fun n => (unhide Hdy _).mono fun e w' h => ⟨h.1, 0, h.2⟩
          go_big_quiet (first | (go_at_call 54; refine Calls.quiet_of (unhide Hc _)) | fail)
          have HRq := hide ((unhide HRd).drewN6 nq)
          have HAq : Hid ((W.drewN nq).heap[A]? = some (.cells #[.int .i64 0, .int .i64 0, .int .i64 0, .int .i64 0, .int .i64 0, .int .i64 0] 94 (0, 0))) := by show _ = _; rw [heap_drewN6]; exact unhide HAd
          have HBq := hide (below_drewN6 (unhide HBd) nq)
          obtain ⟨o2, o3⟩ := unhide HEnd (fun k => if k = 0 then Y1 else partK 2 b k) (W.drewN nq) (unhide HAq) (unhide HBq)
          have O1 := hide (six_one (fun k => if k = 0 then Y1 else partK 2 b k))
          have O2 := hide o2
          have O3 := hide o3
          have HRw : Hid ((W.drewN nq).heap[O]? = some (.cells (six (fun k => if k = 0 then Y1 else partK 2 b k)).toArray 94 (0, 0))) := by have := unhide HRq; unfold RowAt at this; rw [List.append_nil] at this; exact this
          clear o2 o3
          go_wp2_with (first | (refine wpList_load_row rfl 94 _ rfl O rfl 94 _ (0, 0) _ (unhide HRw) Tryz.underlying94 rfl hsz6 ?_) | (refine wpList_store_row rfl 94 _ _ rfl A _ rfl rfl 94 _ (unhide HAq) hsz6 rfl (unhide O1) ?_))
          exact bodyPost_ret (results_row_tmp Tryz.results49 _ _ A 94 _ (0, 0) _ rfl (unhide O3) Tryz.underlying94 rfl hsz6 (.bool true) rfl) rfl ⟨_, by rw [unhide HT], fun _ => unhide HQ, unhide O2⟩
end Go.Proofs.YtcofnockikninaaGreatDoor
/-
  The walk of the reference's Time, of a year of 4 digits.
-/
namespace Go.Proofs.YtcofnockikninaaGreatDoor
open Go.RowKit
set_option maxRecDepth 100000 in
set_option maxHeartbeats 40000000 in
theorem time_4 (w : World) (x : Value) (b : Bs) (hx : BytesAt w x b) (hl : b.length ≤ 1000000) :
    Calls Tryz.prog 49 #[x, .int .i64 4] w fun e w' => ∃ q : Nat → Nat, e = .returned (.tuple #[.agg (six q).toArray, .bool (timeP 4 b)]) ∧ (timeP 4 b = true → (six q).toArray = (six fun k => if k = 0 then yearK 4 b else partK 4 b k).toArray) ∧ Below w.heap.size w w' := by
  obtain ⟨sp, c, rfl, _, _, hc⟩ := bytes_open hx
  have HC := hide hc
  obtain ⟨N, hN⟩ : ∃ N, b.length = N := ⟨_, rfl⟩
  have HN := hide hN
  obtain ⟨w1, hw1⟩ : ∃ w1, w.alloc (.cells #[.int .i64 0, .int .i64 0, .int .i64 0, .int .i64 0, .int .i64 0, .int .i64 0] 94) = w1 := ⟨_, rfl⟩
  obtain ⟨w2, hw2⟩ : ∃ w2, w1.alloc (.cells #[.int .i64 0, .int .i64 0, .int .i64 0, .int .i64 0, .int .i64 0, .int .i64 0] 94) = w2 := ⟨_, rfl⟩
  have hb1 : Below w.heap.size w w1 := by rw [← hw1]; exact (Below.refl _ _).alloc (Nat.le_refl _) _
  have hb2 : Below w1.heap.size w1 w2 := by rw [← hw2]; exact (Below.refl _ _).alloc (Nat.le_refl _) _
  have Hb := hide (hb1.trans (hb2.mono hb1.size))
  have Hs : Hid (w1.heap.size = w.heap.size + 1 ∧ w2.heap.size = w.heap.size + 2) := by rw [← hw2, ← hw1]; exact ⟨by simp, by simp⟩
  have HRes : Hid (w2.heap[w.heap.size]? = some (.cells #[.int .i64 0, .int .i64 0, .int .i64 0, .int .i64 0, .int .i64 0, .int .i64 0] 94 (0, 0))) := by
    show _ = _
    rw [hb2.block w.heap.size (by have := (unhide Hs).1; omega), ← hw1]
    exact heap_alloc_new w _
  have HO : Hid (RowAt 94 w2 w1.heap.size [] (six fun k => accK 4 b 0 k)) := by
    show _ = _
    rw [← hw2, show six (fun k => accK 4 b 0 k) = [.int .i64 0, .int .i64 0, .int .i64 0, .int .i64 0, .int .i64 0, .int .i64 0] by simp [six, accK_zero, List.range, List.range.loop]]
    exact heap_alloc_new w1 _
  have HBy := hide ((hx.below hb1).below hb2)
  obtain ⟨A, hA⟩ : ∃ A, w.heap.size = A := ⟨_, rfl⟩
  obtain ⟨O, hO⟩ : ∃ O, w1.heap.size = O := ⟨_, rfl⟩
  rw [hN] at hl HBy HC
  rw [hA] at Hs HRes
  rw [hO] at Hs HO
  simp only [hN]
  clear hx hc hN hb1 hb2
  have hsz6 : (Tryz.prog.info? 94).map (·.size) = some 6 := by kernel_rfl
  have HEnd : Hid (∀ (g : Nat → Nat) (wr : World), wr.heap[A]? = some (.cells #[.int .i64 0, .int .i64 0, .int .i64 0, .int .i64 0, .int .i64 0, .int .i64 0] 94 (0, 0)) → Below w.heap.size w wr → Below w.heap.size w (wr.setRow A (six g).toArray) ∧ (wr.setRow A (six g).toArray).heap[A]? = some (.cells (six g).toArray 94 (0, 0))) := fun g wr h2 h3 => ⟨h3.grown (row := some A) ⟨rfl, rfl, rfl, by simp [World.setRow], fun i hi hne => by simp only [World.setRow]; rw [Array.getElem?_modify, if_neg (fun e => hne (by rw [e]))]⟩ h3.size (fun g hg => by cases hg; exact Nat.le_of_eq hA), setRow_heap wr A _ _ 94 (0, 0) h2⟩
  by_cases hlen : N = 15
  case neg =>
    have HT : Hid (timeP 4 b = false) := time_len (by have := unhide HN; omega)
    have d1 : ((N : Int) == 15) = false := by simp; omega
    have d1' : ((N : Int) != 15) = true := by simp; omega
    go_enter Tryz.func49, Tryz.ntmps49
    obtain ⟨o2, o3⟩ := unhide HEnd (fun k => accK 4 b 0 k) (w2) (unhide HRes) (unhide Hb)
    have O1 := hide (six_one (fun k => accK 4 b 0 k))
    have O2 := hide o2
    have O3 := hide o3
    have HRw : Hid ((w2).heap[O]? = some (.cells (six (fun k => accK 4 b 0 k)).toArray 94 (0, 0))) := by have := unhide HO; unfold RowAt at this; rw [List.append_nil] at this; exact this
    clear o2 o3
    go_wp2_with (first | (refine wpList_load_row rfl 94 _ rfl O rfl 94 _ (0, 0) _ (unhide HRw) Tryz.underlying94 rfl hsz6 ?_) | (refine wpList_store_row rfl 94 _ _ rfl A _ rfl rfl 94 _ (unhide HRes) hsz6 rfl (unhide O1) ?_))
    exact bodyPost_ret (results_row_tmp Tryz.results49 _ _ A 94 _ (0, 0) _ rfl (unhide O3) Tryz.underlying94 rfl hsz6 (.bool false) rfl) rfl ⟨_, by rw [unhide HT], fun h => absurd h (by rw [unhide HT]; exact Bool.false_ne_true), unhide O2⟩
  obtain ⟨ba, oa, rfl, _, hcell⟩ := unhide HC (fun e => by have := unhide HN; rw [e] at this; simp at this; omega)
  have Hcell : Hid (∀ k wr, k < N → Below w.heap.size w wr → wr.cell? ⟨ba, oa + k, none⟩ = some (.int .u8 ((b.getD k 0).toNat : Int))) := fun k wr hk hb => by rw [hb.cell (p := ⟨ba, oa + k, none⟩) (World.block_lt_of_cell? w _ (hcell k hk))]; exact hcell k hk
  clear hcell HC
  subst hlen
  have cz := unhide Hcell 14 w2 (by omega) (unhide Hb)
  obtain ⟨z, hz⟩ : ∃ z, (b.getD 14 0).toNat = z := ⟨_, rfl⟩
  have Hz := hide hz
  rw [hz] at cz
  clear hz
  by_cases hz90 : z = 90
  case neg =>
    have HT : Hid (timeP 4 b = false) := time_z (by show (b.getD 14 0).toNat ≠ 90; have := unhide Hz; omega)
    have d1 : ((z : Int) == 90) = false := by simp; omega
    have d1' : ((z : Int) != 90) = true := by simp; omega
    go_enter Tryz.func49, Tryz.ntmps49
    obtain ⟨o2, o3⟩ := unhide HEnd (fun k => accK 4 b 0 k) (w2) (unhide HRes) (unhide Hb)
    have O1 := hide (six_one (fun k => accK 4 b 0 k))
    have O2 := hide o2
    have O3 := hide o3
    have HRw : Hid ((w2).heap[O]? = some (.cells (six (fun k => accK 4 b 0 k)).toArray 94 (0, 0))) := by have := unhide HO; unfold RowAt at this; rw [List.append_nil] at this; exact this
    clear o2 o3
    go_wp2_with (first | (refine wpList_load_row rfl 94 _ rfl O rfl 94 _ (0, 0) _ (unhide HRw) Tryz.underlying94 rfl hsz6 ?_) | (refine wpList_store_row rfl 94 _ _ rfl A _ rfl rfl 94 _ (unhide HRes) hsz6 rfl (unhide O1) ?_))
    exact bodyPost_ret (results_row_tmp Tryz.results49 _ _ A 94 _ (0, 0) _ rfl (unhide O3) Tryz.underlying94 rfl hsz6 (.bool false) rfl) rfl ⟨_, by rw [unhide HT], fun h => absurd h (by rw [unhide HT]; exact Bool.false_ne_true), unhide O2⟩
  subst hz90
  go_enter Tryz.func49, Tryz.ntmps49
  go_wp2
  go_loopw [7] (fun ii wr => ∃ i : Nat, i ≤ 14 ∧ ii = .int .i64 (i : Int) ∧ Hid ((b.take i).all isDig = true) ∧ Hid (RowAt 94 wr O [] (six fun k => accK 4 b i k)) ∧ Hid (wr.heap[A]? = some (.cells #[.int .i64 0, .int .i64 0, .int .i64 0, .int .i64 0, .int .i64 0, .int .i64 0] 94 (0, 0))) ∧ Hid (Below w.heap.size w wr)) (fun ii _ => 14 - (intOf ii).toNat)
  case atStart => exact ⟨0, by omega, rfl, by rfl, HO, HRes, Hb⟩
  case round =>
    obtain ⟨i, hi, rfl, HD, HRo, HRe, HB⟩ := hrel
    clear HO HRes Hb cz hw1 hw2
    by_cases hlt : i < 14
    · have d1 : decide ((i : Int) < 14) = true := by simp; omega
      have d1n : decide (i < 14) = true := by simp; omega
      have i0 : (0 : Int) ≤ (i : Int) := by omega
      have i1 : (i : Int) < 15 := by omega
      have cp := unhide Hcell i wr (by omega) (unhide HB)
      obtain ⟨p, hp⟩ : ∃ p, (b.getD i 0).toNat = p := ⟨_, rfl⟩
      have Hp := hide hp
      rw [hp] at cp
      have Hil : Hid (i < b.length) := by show _ < _; have := unhide HN; omega
      clear hp
      by_cases h48 : p < 48
      · have HT : Hid (timeP 4 b = false) := time_notdig (unhide Hil) (by omega) (by unfold isDig; rw [unhide Hp]; simp; omega)
        have d2 : decide ((p : Int) < 48) = true := by simp; omega
        have d2n : decide (p < 48) = true := by simp; omega
        obtain ⟨o2, o3⟩ := unhide HEnd (fun k => accK 4 b i k) (wr) (unhide HRe) (unhide HB)
        have O1 := hide (six_one (fun k => accK 4 b i k))
        have O2 := hide o2
        have O3 := hide o3
        have HRw : Hid ((wr).heap[O]? = some (.cells (six (fun k => accK 4 b i k)).toArray 94 (0, 0))) := by have := unhide HRo; unfold RowAt at this; rw [List.append_nil] at this; exact this
        clear o2 o3
        go_wp2_with (first | (refine wpList_load_row rfl 94 _ rfl O rfl 94 _ (0, 0) _ (unhide HRw) Tryz.underlying94 rfl hsz6 ?_) | (refine wpList_store_row rfl 94 _ _ rfl A _ rfl rfl 94 _ (unhide HRe) hsz6 rfl (unhide O1) ?_))
        exact bodyPost_ret (results_row_tmp Tryz.results49 _ _ A 94 _ (0, 0) _ rfl (unhide O3) Tryz.underlying94 rfl hsz6 (.bool false) rfl) rfl ⟨_, by rw [unhide HT], fun h => absurd h (by rw [unhide HT]; exact Bool.false_ne_true), unhide O2⟩
      have d2 : decide ((p : Int) < 48) = false := by simp; omega
      have d2n : decide (p < 48) = false := by simp; omega
      by_cases h57 : 57 < p
      · have HT : Hid (timeP 4 b = false) := time_notdig (unhide Hil) (by omega) (by unfold isDig; rw [unhide Hp]; simp; omega)
        have d3 : decide ((57 : Int) < (p : Int)) = true := by simp; omega
        have d3n : decide (57 < p) = true := by simp; omega
        obtain ⟨o2, o3⟩ := unhide HEnd (fun k => accK 4 b i k) (wr) (unhide HRe) (unhide HB)
        have O1 := hide (six_one (fun k => accK 4 b i k))
        have O2 := hide o2
        have O3 := hide o3
        have HRw : Hid ((wr).heap[O]? = some (.cells (six (fun k => accK 4 b i k)).toArray 94 (0, 0))) := by have := unhide HRo; unfold RowAt at this; rw [List.append_nil] at this; exact this
        clear o2 o3
        go_wp2_with (first | (refine wpList_load_row rfl 94 _ rfl O rfl 94 _ (0, 0) _ (unhide HRw) Tryz.underlying94 rfl hsz6 ?_) | (refine wpList_store_row rfl 94 _ _ rfl A _ rfl rfl 94 _ (unhide HRe) hsz6 rfl (unhide O1) ?_))
        exact bodyPost_ret (results_row_tmp Tryz.results49 _ _ A 94 _ (0, 0) _ rfl (unhide O3) Tryz.underlying94 rfl hsz6 (.bool false) rfl) rfl ⟨_, by rw [unhide HT], fun h => absurd h (by rw [unhide HT]; exact Bool.false_ne_true), unhide O2⟩
      have d3 : decide ((57 : Int) < (p : Int)) = false := by simp; omega
      have d3n : decide (57 < p) = false := by simp; omega
      have HD2 : Hid ((b.take (i + 1)).all isDig = true) := by
        show _ = _
        rw [all_succ (unhide Hil), unhide HD]
        unfold isDig
        rw [unhide Hp]
        simp
        omega
      by_cases hyi : 4 ≤ i
      · have d4 : decide ((4 : Int) ≤ (i : Int)) = true := by simp; omega
        have d4n : decide (4 ≤ i) = true := by simp; omega
        obtain ⟨D, hD⟩ : ∃ D, i - 4 = D := ⟨_, rfl⟩
        obtain ⟨q, hq⟩ : ∃ q, D / 2 = q := ⟨_, rfl⟩
        obtain ⟨k, hk⟩ : ∃ k, 1 + q = k := ⟨_, rfl⟩
        have eD : (i : Int) - 4 = (D : Int) := by omega
        have eq2 : (D : Int) / 2 = (q : Int) := by omega
        have ek : (1 : Int) + (q : Int) = (k : Int) := by omega
        have hk6 : k < 6 := by omega
        have k0 : (0 : Int) ≤ (k : Int) := by omega
        have k6 : (k : Int) < 6 := by omega
        have uD : IntKind.i64.wrap (D : Int) = (D : Int) := IntWalk.i64_in _ (by omega)
        have uq : IntKind.i64.wrap (q : Int) = (q : Int) := IntWalk.i64_in _ (by omega)
        have uk : IntKind.i64.wrap (k : Int) = (k : Int) := IntWalk.i64_in _ (by omega)
        have hkof : kOf 4 i = k := by unfold kOf; rw [if_pos hyi]; omega
        obtain ⟨a, ha⟩ : ∃ a, accK 4 b i k = a := ⟨_, rfl⟩
        have hak : a ≤ 9999 := by rw [← ha]; exact accK_lt (by omega) (unhide HD) _
        have ck := (unhide HRo).six (k := k) (by omega)
        have fk : wr.frozen? ⟨O, k, none⟩ = false := (unhide HRo).frozen k
        simp only [ha] at ck
        obtain ⟨n2, hn2⟩ : ∃ n2, 10 * a = n2 := ⟨_, rfl⟩
        obtain ⟨n3, hn3⟩ : ∃ n3, n2 + p = n3 := ⟨_, rfl⟩
        obtain ⟨n4, hn4⟩ : ∃ n4, n3 - 48 = n4 := ⟨_, rfl⟩
        have e2 : (10 : Int) * (a : Int) = (n2 : Int) := by omega
        have e3 : (n2 : Int) + (p : Int) = (n3 : Int) := by omega
        have e4 : (n3 : Int) - 48 = (n4 : Int) := by omega
        have u2 : IntKind.i64.wrap (n2 : Int) = (n2 : Int) := IntWalk.i64_in _ (by omega)
        have u3 : IntKind.i64.wrap (n3 : Int) = (n3 : Int) := IntWalk.i64_in _ (by omega)
        have u4 : IntKind.i64.wrap (n4 : Int) = (n4 : Int) := IntWalk.i64_in _ (by omega)
        have up : IntKind.i64.wrap (p : Int) = (p : Int) := IntWalk.i64_in _ (by omega)
        have hn : accK 4 b (i + 1) k = n4 := by
          have h1 := accK_here (y := 4) (unhide Hil)
          rw [hkof, unhide Hp, ha] at h1
          omega
        have HR2 : Hid (RowAt 94 (wr.setCell ⟨O, k, none⟩ (.int .i64 (n4 : Int))).drew O [] (six fun k => accK 4 b (i + 1) k)) := by
          have h1 := (unhide HRo).put6 (k := k) (by omega) (fun k => accK 4 b (i + 1) k) (fun j hj => accK_other (by rw [hkof]; exact hj))
          simp only [hn] at h1
          exact h1.drew
        have HA2 : Hid ((wr.setCell ⟨O, k, none⟩ (.int .i64 (n4 : Int))).drew.heap[A]? = some (.cells #[.int .i64 0, .int .i64 0, .int .i64 0, .int .i64 0, .int .i64 0, .int .i64 0] 94 (0, 0))) := by
          show (wr.setCell ⟨O, k, none⟩ (.int .i64 (n4 : Int))).heap[A]? = _
          rw [heap_setCell_other _ _ _ _ (by show A ≠ O; have := (unhide Hs).1; omega)]
          exact unhide HRe
        have HB2 : Hid (Below w.heap.size w (wr.setCell ⟨O, k, none⟩ (.int .i64 (n4 : Int))).drew) := (below_set (unhide HB) (unhide HB).size O (by have := (unhide Hs).1; omega) k _).drew
        clear ha hn2 hn3 hn4 hn Hil HD HRo HRe HB h48 h57
        clear hD hq hk hkof hyi
        go_wp2
        go_region
        go_wp2
        go_roundw
        case rel =>
          first
            | exact ⟨i + 1, by omega, by go_num, HD2, HR2, HA2, HB2⟩
            | ((repeat apply Exists.intro); exact ⟨⟨i + 1, by omega, by go_num, HD2, HR2, HA2, HB2⟩, rfl⟩)
        case measure => simp [intOf]; omega
      · have d4 : decide ((4 : Int) ≤ (i : Int)) = false := by simp; omega
        have d4n : decide (4 ≤ i) = false := by simp; omega
        have hkof : kOf 4 i = 0 := by unfold kOf; rw [if_neg hyi]
        obtain ⟨a, ha⟩ : ∃ a, accK 4 b i 0 = a := ⟨_, rfl⟩
        have hak : a ≤ 9999 := by rw [← ha]; exact accK_lt (by omega) (unhide HD) _
        have ck := (unhide HRo).six (k := 0) (by omega)
        have fk : wr.frozen? ⟨O, 0, none⟩ = false := (unhide HRo).frozen 0
        simp only [ha] at ck
        obtain ⟨n2, hn2⟩ : ∃ n2, 10 * a = n2 := ⟨_, rfl⟩
        obtain ⟨n3, hn3⟩ : ∃ n3, n2 + p = n3 := ⟨_, rfl⟩
        obtain ⟨n4, hn4⟩ : ∃ n4, n3 - 48 = n4 := ⟨_, rfl⟩
        have e2 : (10 : Int) * (a : Int) = (n2 : Int) := by omega
        have e3 : (n2 : Int) + (p : Int) = (n3 : Int) := by omega
        have e4 : (n3 : Int) - 48 = (n4 : Int) := by omega
        have u2 : IntKind.i64.wrap (n2 : Int) = (n2 : Int) := IntWalk.i64_in _ (by omega)
        have u3 : IntKind.i64.wrap (n3 : Int) = (n3 : Int) := IntWalk.i64_in _ (by omega)
        have u4 : IntKind.i64.wrap (n4 : Int) = (n4 : Int) := IntWalk.i64_in _ (by omega)
        have up : IntKind.i64.wrap (p : Int) = (p : Int) := IntWalk.i64_in _ (by omega)
        have hn : accK 4 b (i + 1) 0 = n4 := by
          have h1 := accK_here (y := 4) (unhide Hil)
          rw [hkof, unhide Hp, ha] at h1
          omega
        have HR2 : Hid (RowAt 94 (wr.setCell ⟨O, 0, none⟩ (.int .i64 (n4 : Int))).drew O [] (six fun k => accK 4 b (i + 1) k)) := by
          have h1 := (unhide HRo).put6 (k := 0) (by omega) (fun k => accK 4 b (i + 1) k) (fun j hj => accK_other (by rw [hkof]; exact hj))
          simp only [hn] at h1
          exact h1.drew
        have HA2 : Hid ((wr.setCell ⟨O, 0, none⟩ (.int .i64 (n4 : Int))).drew.heap[A]? = some (.cells #[.int .i64 0, .int .i64 0, .int .i64 0, .int .i64 0, .int .i64 0, .int .i64 0] 94 (0, 0))) := by
          show (wr.setCell ⟨O, 0, none⟩ (.int .i64 (n4 : Int))).heap[A]? = _
          rw [heap_setCell_other _ _ _ _ (by show A ≠ O; have := (unhide Hs).1; omega)]
          exact unhide HRe
        have HB2 : Hid (Below w.heap.size w (wr.setCell ⟨O, 0, none⟩ (.int .i64 (n4 : Int))).drew) := (below_set (unhide HB) (unhide HB).size O (by have := (unhide Hs).1; omega) 0 _).drew
        clear ha hn2 hn3 hn4 hn Hil HD HRo HRe HB h48 h57
        clear hkof hyi
        go_wp2
        go_region
        go_wp2
        go_roundw
        case rel =>
          first
            | exact ⟨i + 1, by omega, by go_num, HD2, HR2, HA2, HB2⟩
            | ((repeat apply Exists.intro); exact ⟨⟨i + 1, by omega, by go_num, HD2, HR2, HA2, HB2⟩, rfl⟩)
        case measure => simp [intOf]; omega
    · obtain rfl : i = 14 := by omega
      have hTd := time_digs (y := 4) (b := b) (by have := unhide HN; omega) (unhide Hz) (unhide HD)
      have HRp : Hid (RowAt 94 wr O [] (six fun k => partK 4 b k)) := by
        have h1 := unhide HRo
        rw [six_congr (g := fun k => partK 4 b k) (fun k hk => accK_end (by omega))] at h1
        exact h1
      have hpl : ∀ k, k ≤ 5 → partK 4 b k ≤ 9999 := fun k hk => by rw [← accK_end hk]; exact accK_lt (by omega) (unhide HD) _
      obtain ⟨m0, hm0⟩ : ∃ m, partK 4 b 0 = m := ⟨_, rfl⟩
      have M0 : m0 ≤ 9999 := by rw [← hm0]; exact hpl 0 (by omega)
      have a0 := (unhide HRp).six (k := 0) (by omega)
      simp only [hm0] at a0
      obtain ⟨m1, hm1⟩ : ∃ m, partK 4 b 1 = m := ⟨_, rfl⟩
      have M1 : m1 ≤ 9999 := by rw [← hm1]; exact hpl 1 (by omega)
      have a1 := (unhide HRp).six (k := 1) (by omega)
      simp only [hm1] at a1
      obtain ⟨m2, hm2⟩ : ∃ m, partK 4 b 2 = m := ⟨_, rfl⟩
      have M2 : m2 ≤ 9999 := by rw [← hm2]; exact hpl 2 (by omega)
      have a2 := (unhide HRp).six (k := 2) (by omega)
      simp only [hm2] at a2
      obtain ⟨m3, hm3⟩ : ∃ m, partK 4 b 3 = m := ⟨_, rfl⟩
      have M3 : m3 ≤ 9999 := by rw [← hm3]; exact hpl 3 (by omega)
      have a3 := (unhide HRp).six (k := 3) (by omega)
      simp only [hm3] at a3
      obtain ⟨m4, hm4⟩ : ∃ m, partK 4 b 4 = m := ⟨_, rfl⟩
      have M4 : m4 ≤ 9999 := by rw [← hm4]; exact hpl 4 (by omega)
      have a4 := (unhide HRp).six (k := 4) (by omega)
      simp only [hm4] at a4
      obtain ⟨m5, hm5⟩ : ∃ m, partK 4 b 5 = m := ⟨_, rfl⟩
      have M5 : m5 ≤ 9999 := by rw [← hm5]; exact hpl 5 (by omega)
      have a5 := (unhide HRp).six (k := 5) (by omega)
      simp only [hm5] at a5
      have f0 : wr.frozen? ⟨O, 0, none⟩ = false := (unhide HRp).frozen 0
      rw [hm1, hm2, hm3, hm4, hm5] at hTd
      have HTd := hide hTd
      have Hm0 := hide hm0
      have Hm1 := hide hm1
      have Hm2 := hide hm2
      have Hm3 := hide hm3
      have Hm4 := hide hm4
      have Hm5 := hide hm5
      clear hTd hpl hm0 hm1 hm2 hm3 hm4 hm5 HRo HD Hcell hlt hi
      have x1 : decide (((14 : Nat) : Int) < 14) = false := by simp
      have HYr : Hid (yearK 4 b = m0) := by show _ = _; unfold yearK; rw [if_neg (by omega)]; exact unhide Hm0
      have HQ : Hid ((six fun k => partK 4 b k).toArray = (six fun k => if k = 0 then yearK 4 b else partK 4 b k).toArray) := by
        show _ = _
        refine congrArg List.toArray (six_congr fun k _ => ?_)
        by_cases e : k = 0
        · rw [if_pos e, e, unhide HYr]; exact unhide Hm0
        · rw [if_neg e]
      have HRd := HRp
      have HAd : Hid (wr.heap[A]? = some (.cells #[.int .i64 0, .int .i64 0, .int .i64 0, .int .i64 0, .int .i64 0, .int .i64 0] 94 (0, 0))) := unhide HRe
      have HBd := HB
      have Hdy := hide (fun w => days_any m0 m1 (by omega) (by omega) w)
      obtain ⟨D, hD⟩ : ∃ D, daysP m0 m1 = D := ⟨_, rfl⟩
      simp only [hD] at Hdy
      rcases (by omega : (m1 < 1) ∨ (1 ≤ m1 ∧ 12 < m1) ∨ (1 ≤ m1 ∧ m1 ≤ 12 ∧ m2 < 1) ∨ (1 ≤ m1 ∧ m1 ≤ 12 ∧ 1 ≤ m2 ∧ D < m2) ∨ (1 ≤ m1 ∧ m1 ≤ 12 ∧ 1 ≤ m2 ∧ m2 ≤ D ∧ 23 < m3) ∨ (1 ≤ m1 ∧ m1 ≤ 12 ∧ 1 ≤ m2 ∧ m2 ≤ D ∧ m3 ≤ 23 ∧ 59 < m4) ∨ (1 ≤ m1 ∧ m1 ≤ 12 ∧ 1 ≤ m2 ∧ m2 ≤ D ∧ m3 ≤ 23 ∧ m4 ≤ 59 ∧ 59 < m5) ∨ (1 ≤ m1 ∧ m1 ≤ 12 ∧ 1 ≤ m2 ∧ m2 ≤ D ∧ m3 ≤ 23 ∧ m4 ≤ 59 ∧ m5 ≤ 59)) with hc | hc | hc | hc | hc | hc | hc | hc
      · have t0 : decide ((1 : Int) ≤ (m1 : Int)) = false := by simp; omega
        have t0n : decide (1 ≤ m1) = false := by simp; omega
        have HT : Hid (timeP 4 b = false) := by show _ = _; rw [unhide HTd, unhide HYr]; unfold calP; rw [hD]; simp; omega
        clear hc hD HTd
        go_wp2
        have Hc : Hid (∀ n, Calls Tryz.prog 54 #[.int .i64 (m0 : Int), .int .i64 (m1 : Int)] (wr.drewN n) fun e w' => e = .returned (.int .i64 (D : Int)) ∧ ∃ q, w' = (wr.drewN n).drewN q) := fun n => (unhide Hdy _).mono fun e w' h => ⟨h.1, 0, h.2⟩
        go_big_quiet (first | (go_at_call 54; refine Calls.quiet_of (unhide Hc _)) | fail)
        have HRq := hide ((unhide HRd).drewN6 nq)
        have HAq : Hid ((wr.drewN nq).heap[A]? = some (.cells #[.int .i64 0, .int .i64 0, .int .i64 0, .int .i64 0, .int .i64 0, .int .i64 0] 94 (0, 0))) := by show _ = _; rw [heap_drewN6]; exact unhide HAd
        have HBq := hide (below_drewN6 (unhide HBd) nq)
        obtain ⟨o2, o3⟩ := unhide HEnd (fun k => partK 4 b k) (wr.drewN nq) (unhide HAq) (unhide HBq)
        have O1 := hide (six_one (fun k => partK 4 b k))
        have O2 := hide o2
        have O3 := hide o3
        have HRw : Hid ((wr.drewN nq).heap[O]? = some (.cells (six (fun k => partK 4 b k)).toArray 94 (0, 0))) := by have := unhide HRq; unfold RowAt at this; rw [List.append_nil] at this; exact this
        clear o2 o3
        go_wp2_with (first | (refine wpList_load_row rfl 94 _ rfl O rfl 94 _ (0, 0) _ (unhide HRw) Tryz.underlying94 rfl hsz6 ?_) | (refine wpList_store_row rfl 94 _ _ rfl A _ rfl rfl 94 _ (unhide HAq) hsz6 rfl (unhide O1) ?_))
        exact bodyPost_ret (results_row_tmp Tryz.results49 _ _ A 94 _ (0, 0) _ rfl (unhide O3) Tryz.underlying94 rfl hsz6 (.bool false) rfl) rfl ⟨_, by rw [unhide HT], fun h => absurd h (by rw [unhide HT]; exact Bool.false_ne_true), unhide O2⟩
      · have t0 : decide ((1 : Int) ≤ (m1 : Int)) = true := by simp; omega
        have t0n : decide (1 ≤ m1) = true := by simp; omega
        have t1 : decide ((m1 : Int) ≤ 12) = false := by simp; omega
        have t1n : decide (m1 ≤ 12) = false := by simp; omega
        have HT : Hid (timeP 4 b = false) := by show _ = _; rw [unhide HTd, unhide HYr]; unfold calP; rw [hD]; simp; omega
        clear hc hD HTd
        go_wp2
        have Hc : Hid (∀ n, Calls Tryz.prog 54 #[.int .i64 (m0 : Int), .int .i64 (m1 : Int)] (wr.drewN n) fun e w' => e = .returned (.int .i64 (D : Int)) ∧ ∃ q, w' = (wr.drewN n).drewN q) := fun n => (unhide Hdy _).mono fun e w' h => ⟨h.1, 0, h.2⟩
        go_big_quiet (first | (go_at_call 54; refine Calls.quiet_of (unhide Hc _)) | fail)
        have HRq := hide ((unhide HRd).drewN6 nq)
        have HAq : Hid ((wr.drewN nq).heap[A]? = some (.cells #[.int .i64 0, .int .i64 0, .int .i64 0, .int .i64 0, .int .i64 0, .int .i64 0] 94 (0, 0))) := by show _ = _; rw [heap_drewN6]; exact unhide HAd
        have HBq := hide (below_drewN6 (unhide HBd) nq)
        obtain ⟨o2, o3⟩ := unhide HEnd (fun k => partK 4 b k) (wr.drewN nq) (unhide HAq) (unhide HBq)
        have O1 := hide (six_one (fun k => partK 4 b k))
        have O2 := hide o2
        have O3 := hide o3
        have HRw : Hid ((wr.drewN nq).heap[O]? = some (.cells (six (fun k => partK 4 b k)).toArray 94 (0, 0))) := by have := unhide HRq; unfold RowAt at this; rw [List.append_nil] at this; exact this
        clear o2 o3
        go_wp2_with (first | (refine wpList_load_row rfl 94 _ rfl O rfl 94 _ (0, 0) _ (unhide HRw) Tryz.underlying94 rfl hsz6 ?_) | (refine wpList_store_row rfl 94 _ _ rfl A _ rfl rfl 94 _ (unhide HAq) hsz6 rfl (unhide O1) ?_))
        exact bodyPost_ret (results_row_tmp Tryz.results49 _ _ A 94 _ (0, 0) _ rfl (unhide O3) Tryz.underlying94 rfl hsz6 (.bool false) rfl) rfl ⟨_, by rw [unhide HT], fun h => absurd h (by rw [unhide HT]; exact Bool.false_ne_true), unhide O2⟩
      · have t0 : decide ((1 : Int) ≤ (m1 : Int)) = true := by simp; omega
        have t0n : decide (1 ≤ m1) = true := by simp; omega
        have t1 : decide ((m1 : Int) ≤ 12) = true := by simp; omega
        have t1n : decide (m1 ≤ 12) = true := by simp; omega
        have t2 : decide ((1 : Int) ≤ (m2 : Int)) = false := by simp; omega
        have t2n : decide (1 ≤ m2) = false := by simp; omega
        have HT : Hid (timeP 4 b = false) := by show _ = _; rw [unhide HTd, unhide HYr]; unfold calP; rw [hD]; simp; omega
        clear hc hD HTd
        go_wp2
        have Hc : Hid (∀ n, Calls Tryz.prog 54 #[.int .i64 (m0 : Int), .int .i64 (m1 : Int)] (wr.drewN n) fun e w' => e = .returned (.int .i64 (D : Int)) ∧ ∃ q, w' = (wr.drewN n).drewN q) := fun n => (unhide Hdy _).mono fun e w' h => ⟨h.1, 0, h.2⟩
        go_big_quiet (first | (go_at_call 54; refine Calls.quiet_of (unhide Hc _)) | fail)
        have HRq := hide ((unhide HRd).drewN6 nq)
        have HAq : Hid ((wr.drewN nq).heap[A]? = some (.cells #[.int .i64 0, .int .i64 0, .int .i64 0, .int .i64 0, .int .i64 0, .int .i64 0] 94 (0, 0))) := by show _ = _; rw [heap_drewN6]; exact unhide HAd
        have HBq := hide (below_drewN6 (unhide HBd) nq)
        obtain ⟨o2, o3⟩ := unhide HEnd (fun k => partK 4 b k) (wr.drewN nq) (unhide HAq) (unhide HBq)
        have O1 := hide (six_one (fun k => partK 4 b k))
        have O2 := hide o2
        have O3 := hide o3
        have HRw : Hid ((wr.drewN nq).heap[O]? = some (.cells (six (fun k => partK 4 b k)).toArray 94 (0, 0))) := by have := unhide HRq; unfold RowAt at this; rw [List.append_nil] at this; exact this
        clear o2 o3
        go_wp2_with (first | (refine wpList_load_row rfl 94 _ rfl O rfl 94 _ (0, 0) _ (unhide HRw) Tryz.underlying94 rfl hsz6 ?_) | (refine wpList_store_row rfl 94 _ _ rfl A _ rfl rfl 94 _ (unhide HAq) hsz6 rfl (unhide O1) ?_))
        exact bodyPost_ret (results_row_tmp Tryz.results49 _ _ A 94 _ (0, 0) _ rfl (unhide O3) Tryz.underlying94 rfl hsz6 (.bool false) rfl) rfl ⟨_, by rw [unhide HT], fun h => absurd h (by rw [unhide HT]; exact Bool.false_ne_true), unhide O2⟩
      · have t0 : decide ((1 : Int) ≤ (m1 : Int)) = true := by simp; omega
        have t0n : decide (1 ≤ m1) = true := by simp; omega
        have t1 : decide ((m1 : Int) ≤ 12) = true := by simp; omega
        have t1n : decide (m1 ≤ 12) = true := by simp; omega
        have t2 : decide ((1 : Int) ≤ (m2 : Int)) = true := by simp; omega
        have t2n : decide (1 ≤ m2) = true := by simp; omega
        have t3 : decide ((m2 : Int) ≤ (D : Int)) = false := by simp; omega
        have t3n : decide (m2 ≤ D) = false := by simp; omega
        have HT : Hid (timeP 4 b = false) := by show _ = _; rw [unhide HTd, unhide HYr]; unfold calP; rw [hD]; simp; omega
        clear hc hD HTd
        go_wp2
        have Hc : Hid (∀ n, Calls Tryz.prog 54 #[.int .i64 (m0 : Int), .int .i64 (m1 : Int)] (wr.drewN n) fun e w' => e = .returned (.int .i64 (D : Int)) ∧ ∃ q, w' = (wr.drewN n).drewN q) := fun n => (unhide Hdy _).mono fun e w' h => ⟨h.1, 0, h.2⟩
        go_big_quiet (first | (go_at_call 54; refine Calls.quiet_of (unhide Hc _)) | fail)
        have HRq := hide ((unhide HRd).drewN6 nq)
        have HAq : Hid ((wr.drewN nq).heap[A]? = some (.cells #[.int .i64 0, .int .i64 0, .int .i64 0, .int .i64 0, .int .i64 0, .int .i64 0] 94 (0, 0))) := by show _ = _; rw [heap_drewN6]; exact unhide HAd
        have HBq := hide (below_drewN6 (unhide HBd) nq)
        obtain ⟨o2, o3⟩ := unhide HEnd (fun k => partK 4 b k) (wr.drewN nq) (unhide HAq) (unhide HBq)
        have O1 := hide (six_one (fun k => partK 4 b k))
        have O2 := hide o2
        have O3 := hide o3
        have HRw : Hid ((wr.drewN nq).heap[O]? = some (.cells (six (fun k => partK 4 b k)).toArray 94 (0, 0))) := by have := unhide HRq; unfold RowAt at this; rw [List.append_nil] at this; exact this
        clear o2 o3
        go_wp2_with (first | (refine wpList_load_row rfl 94 _ rfl O rfl 94 _ (0, 0) _ (unhide HRw) Tryz.underlying94 rfl hsz6 ?_) | (refine wpList_store_row rfl 94 _ _ rfl A _ rfl rfl 94 _ (unhide HAq) hsz6 rfl (unhide O1) ?_))
        exact bodyPost_ret (results_row_tmp Tryz.results49 _ _ A 94 _ (0, 0) _ rfl (unhide O3) Tryz.underlying94 rfl hsz6 (.bool false) rfl) rfl ⟨_, by rw [unhide HT], fun h => absurd h (by rw [unhide HT]; exact Bool.false_ne_true), unhide O2⟩
      · have t0 : decide ((1 : Int) ≤ (m1 : Int)) = true := by simp; omega
        have t0n : decide (1 ≤ m1) = true := by simp; omega
        have t1 : decide ((m1 : Int) ≤ 12) = true := by simp; omega
        have t1n : decide (m1 ≤ 12) = true := by simp; omega
        have t2 : decide ((1 : Int) ≤ (m2 : Int)) = true := by simp; omega
        have t2n : decide (1 ≤ m2) = true := by simp; omega
        have t3 : decide ((m2 : Int) ≤ (D : Int)) = true := by simp; omega
        have t3n : decide (m2 ≤ D) = true := by simp; omega
        have t4 : decide ((m3 : Int) ≤ 23) = false := by simp; omega
        have t4n : decide (m3 ≤ 23) = false := by simp; omega
        have HT : Hid (timeP 4 b = false) := by show _ = _; rw [unhide HTd, unhide HYr]; unfold calP; rw [hD]; simp; omega
        clear hc hD HTd
        go_wp2
        have Hc : Hid (∀ n, Calls Tryz.prog 54 #[.int .i64 (m0 : Int), .int .i64 (m1 : Int)] (wr.drewN n) fun e w' => e = .returned (.int .i64 (D : Int)) ∧ ∃ q, w' = (wr.drewN n).drewN q) := fun n => (unhide Hdy _).mono fun e w' h => ⟨h.1, 0, h.2⟩
        go_big_quiet (first | (go_at_call 54; refine Calls.quiet_of (unhide Hc _)) | fail)
        have HRq := hide ((unhide HRd).drewN6 nq)
        have HAq : Hid ((wr.drewN nq).heap[A]? = some (.cells #[.int .i64 0, .int .i64 0, .int .i64 0, .int .i64 0, .int .i64 0, .int .i64 0] 94 (0, 0))) := by show _ = _; rw [heap_drewN6]; exact unhide HAd
        have HBq := hide (below_drewN6 (unhide HBd) nq)
        obtain ⟨o2, o3⟩ := unhide HEnd (fun k => partK 4 b k) (wr.drewN nq) (unhide HAq) (unhide HBq)
        have O1 := hide (six_one (fun k => partK 4 b k))
        have O2 := hide o2
        have O3 := hide o3
        have HRw : Hid ((wr.drewN nq).heap[O]? = some (.cells (six (fun k => partK 4 b k)).toArray 94 (0, 0))) := by have := unhide HRq; unfold RowAt at this; rw [List.append_nil] at this; exact this
        clear o2 o3
        go_wp2_with (first | (refine wpList_load_row rfl 94 _ rfl O rfl 94 _ (0, 0) _ (unhide HRw) Tryz.underlying94 rfl hsz6 ?_) | (refine wpList_store_row rfl 94 _ _ rfl A _ rfl rfl 94 _ (unhide HAq) hsz6 rfl (unhide O1) ?_))
        exact bodyPost_ret (results_row_tmp Tryz.results49 _ _ A 94 _ (0, 0) _ rfl (unhide O3) Tryz.underlying94 rfl hsz6 (.bool false) rfl) rfl ⟨_, by rw [unhide HT], fun h => absurd h (by rw [unhide HT]; exact Bool.false_ne_true), unhide O2⟩
      · have t0 : decide ((1 : Int) ≤ (m1 : Int)) = true := by simp; omega
        have t0n : decide (1 ≤ m1) = true := by simp; omega
        have t1 : decide ((m1 : Int) ≤ 12) = true := by simp; omega
        have t1n : decide (m1 ≤ 12) = true := by simp; omega
        have t2 : decide ((1 : Int) ≤ (m2 : Int)) = true := by simp; omega
        have t2n : decide (1 ≤ m2) = true := by simp; omega
        have t3 : decide ((m2 : Int) ≤ (D : Int)) = true := by simp; omega
        have t3n : decide (m2 ≤ D) = true := by simp; omega
        have t4 : decide ((m3 : Int) ≤ 23) = true := by simp; omega
        have t4n : decide (m3 ≤ 23) = true := by simp; omega
        have t5 : decide ((m4 : Int) ≤ 59) = false := by simp; omega
        have t5n : decide (m4 ≤ 59) = false := by simp; omega
        have HT : Hid (timeP 4 b = false) := by show _ = _; rw [unhide HTd, unhide HYr]; unfold calP; rw [hD]; simp; omega
        clear hc hD HTd
        go_wp2
        have Hc : Hid (∀ n, Calls Tryz.prog 54 #[.int .i64 (m0 : Int), .int .i64 (m1 : Int)] (wr.drewN n) fun e w' => e = .returned (.int .i64 (D : Int)) ∧ ∃ q, w' = (wr.drewN n).drewN q) := fun n => (unhide Hdy _).mono fun e w' h => ⟨h.1, 0, h.2⟩
        go_big_quiet (first | (go_at_call 54; refine Calls.quiet_of (unhide Hc _)) | fail)
        have HRq := hide ((unhide HRd).drewN6 nq)
        have HAq : Hid ((wr.drewN nq).heap[A]? = some (.cells #[.int .i64 0, .int .i64 0, .int .i64 0, .int .i64 0, .int .i64 0, .int .i64 0] 94 (0, 0))) := by show _ = _; rw [heap_drewN6]; exact unhide HAd
        have HBq := hide (below_drewN6 (unhide HBd) nq)
        obtain ⟨o2, o3⟩ := unhide HEnd (fun k => partK 4 b k) (wr.drewN nq) (unhide HAq) (unhide HBq)
        have O1 := hide (six_one (fun k => partK 4 b k))
        have O2 := hide o2
        have O3 := hide o3
        have HRw : Hid ((wr.drewN nq).heap[O]? = some (.cells (six (fun k => partK 4 b k)).toArray 94 (0, 0))) := by have := unhide HRq; unfold RowAt at this; rw [List.append_nil] at this; exact this
        clear o2 o3
        go_wp2_with (first | (refine wpList_load_row rfl 94 _ rfl O rfl 94 _ (0, 0) _ (unhide HRw) Tryz.underlying94 rfl hsz6 ?_) | (refine wpList_store_row rfl 94 _ _ rfl A _ rfl rfl 94 _ (unhide HAq) hsz6 rfl (unhide O1) ?_))
        exact bodyPost_ret (results_row_tmp Tryz.results49 _ _ A 94 _ (0, 0) _ rfl (unhide O3) Tryz.underlying94 rfl hsz6 (.bool false) rfl) rfl ⟨_, by rw [unhide HT], fun h => absurd h (by rw [unhide HT]; exact Bool.false_ne_true), unhide O2⟩
      · have t0 : decide ((1 : Int) ≤ (m1 : Int)) = true := by simp; omega
        have t0n : decide (1 ≤ m1) = true := by simp; omega
        have t1 : decide ((m1 : Int) ≤ 12) = true := by simp; omega
        have t1n : decide (m1 ≤ 12) = true := by simp; omega
        have t2 : decide ((1 : Int) ≤ (m2 : Int)) = true := by simp; omega
        have t2n : decide (1 ≤ m2) = true := by simp; omega
        have t3 : decide ((m2 : Int) ≤ (D : Int)) = true := by simp; omega
        have t3n : decide (m2 ≤ D) = true := by simp; omega
        have t4 : decide ((m3 : Int) ≤ 23) = true := by simp; omega
        have t4n : decide (m3 ≤ 23) = true := by simp; omega
        have t5 : decide ((m4 : Int) ≤ 59) = true := by simp; omega
        have t5n : decide (m4 ≤ 59) = true := by simp; omega
        have t6 : decide ((m5 : Int) ≤ 59) = false := by simp; omega
        have t6n : decide (m5 ≤ 59) = false := by simp; omega
        have HT : Hid (timeP 4 b = false) := by show _ = _; rw [unhide HTd, unhide HYr]; unfold calP; rw [hD]; simp; omega
        clear hc hD HTd
        go_wp2
        have Hc : Hid (∀ n, Calls Tryz.prog 54 #[.int .i64 (m0 : Int), .int .i64 (m1 : Int)] (wr.drewN n) fun e w' => e = .returned (.int .i64 (D : Int)) ∧ ∃ q, w' = (wr.drewN n).drewN q) := fun n => (unhide Hdy _).mono fun e w' h => ⟨h.1, 0, h.2⟩
        go_big_quiet (first | (go_at_call 54; refine Calls.quiet_of (unhide Hc _)) | fail)
        have HRq := hide ((unhide HRd).drewN6 nq)
        have HAq : Hid ((wr.drewN nq).heap[A]? = some (.cells #[.int .i64 0, .int .i64 0, .int .i64 0, .int .i64 0, .int .i64 0, .int .i64 0] 94 (0, 0))) := by show _ = _; rw [heap_drewN6]; exact unhide HAd
        have HBq := hide (below_drewN6 (unhide HBd) nq)
        obtain ⟨o2, o3⟩ := unhide HEnd (fun k => partK 4 b k) (wr.drewN nq) (unhide HAq) (unhide HBq)
        have O1 := hide (six_one (fun k => partK 4 b k))
        have O2 := hide o2
        have O3 := hide o3
        have HRw : Hid ((wr.drewN nq).heap[O]? = some (.cells (six (fun k => partK 4 b k)).toArray 94 (0, 0))) := by have := unhide HRq; unfold RowAt at this; rw [List.append_nil] at this; exact this
        clear o2 o3
        go_wp2_with (first | (refine wpList_load_row rfl 94 _ rfl O rfl 94 _ (0, 0) _ (unhide HRw) Tryz.underlying94 rfl hsz6 ?_) | (refine wpList_store_row rfl 94 _ _ rfl A _ rfl rfl 94 _ (unhide HAq) hsz6 rfl (unhide O1) ?_))
        exact bodyPost_ret (results_row_tmp Tryz.results49 _ _ A 94 _ (0, 0) _ rfl (unhide O3) Tryz.underlying94 rfl hsz6 (.bool false) rfl) rfl ⟨_, by rw [unhide HT], fun h => absurd h (by rw [unhide HT]; exact Bool.false_ne_true), unhide O2⟩
      · have t0 : decide ((1 : Int) ≤ (m1 : Int)) = true := by simp; omega
        have t0n : decide (1 ≤ m1) = true := by simp; omega
        have t1 : decide ((m1 : Int) ≤ 12) = true := by simp; omega
        have t1n : decide (m1 ≤ 12) = true := by simp; omega
        have t2 : decide ((1 : Int) ≤ (m2 : Int)) = true := by simp; omega
        have t2n : decide (1 ≤ m2) = true := by simp; omega
        have t3 : decide ((m2 : Int) ≤ (D : Int)) = true := by simp; omega
        have t3n : decide (m2 ≤ D) = true := by simp; omega
        have t4 : decide ((m3 : Int) ≤ 23) = true := by simp; omega
        have t4n : decide (m3 ≤ 23) = true := by simp; omega
        have t5 : decide ((m4 : Int) ≤ 59) = true := by simp; omega
        have t5n : decide (m4 ≤ 59) = true := by simp; omega
        have t6 : decide ((m5 : Int) ≤ 59) = true := by simp; omega
        have t6n : decide (m5 ≤ 59) = true := by simp; omega
        have HT : Hid (timeP 4 b = true) := by show _ = _; rw [unhide HTd, unhide HYr]; unfold calP; rw [hD]; simp; omega
        clear hc hD HTd
        go_wp2
        have Hc : Hid (∀ n, Calls Tryz.prog 54 #[.int .i64 (m0 : Int), .int .i64 (m1 : Int)] (wr.drewN n) fun e w' => e = .returned (.int .i64 (D : Int)) ∧ ∃ q, w' = (wr.drewN n).drewN q) := fun n => (unhide Hdy _).mono fun e w' h => ⟨h.1, 0, h.2⟩
        go_big_quiet (first | (go_at_call 54; refine Calls.quiet_of (unhide Hc _)) | fail)
        have HRq := hide ((unhide HRd).drewN6 nq)
        have HAq : Hid ((wr.drewN nq).heap[A]? = some (.cells #[.int .i64 0, .int .i64 0, .int .i64 0, .int .i64 0, .int .i64 0, .int .i64 0] 94 (0, 0))) := by show _ = _; rw [heap_drewN6]; exact unhide HAd
        have HBq := hide (below_drewN6 (unhide HBd) nq)
        obtain ⟨o2, o3⟩ := unhide HEnd (fun k => partK 4 b k) (wr.drewN nq) (unhide HAq) (unhide HBq)
        have O1 := hide (six_one (fun k => partK 4 b k))
        have O2 := hide o2
        have O3 := hide o3
        have HRw : Hid ((wr.drewN nq).heap[O]? = some (.cells (six (fun k => partK 4 b k)).toArray 94 (0, 0))) := by have := unhide HRq; unfold RowAt at this; rw [List.append_nil] at this; exact this
        clear o2 o3
        go_wp2_with (first | (refine wpList_load_row rfl 94 _ rfl O rfl 94 _ (0, 0) _ (unhide HRw) Tryz.underlying94 rfl hsz6 ?_) | (refine wpList_store_row rfl 94 _ _ rfl A _ rfl rfl 94 _ (unhide HAq) hsz6 rfl (unhide O1) ?_))
        exact bodyPost_ret (results_row_tmp Tryz.results49 _ _ A 94 _ (0, 0) _ rfl (unhide O3) Tryz.underlying94 rfl hsz6 (.bool true) rfl) rfl ⟨_, by rw [unhide HT], fun _ => unhide HQ, unhide O2⟩
end Go.Proofs.YtcofnockikninaaGreatDoor
