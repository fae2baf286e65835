/-
  PROVED HERE: at the commit of this claim, called with any slice of slices of bytes, chancerylaw01.ShaPieces returns true and leaves its arguments as they were.
  Its conditions: those of the given tied card alone (the two tables start as the program's text lays them; each argument takes less than 2^47 bytes); it speaks of the pruned copy of the project that the seat holds.
-/
import Derived.Test.YtodcpcdhkghgnaaDoorRow
import Derived.Test.YtodcpcdhkghgnaaDoorPieces
import Derived.Deep.Slices
import Derived.SizedLaws
namespace Go.Proofs.YtodcpcdhkghgnaaDoor
namespace shaPieces
open Go.ChangeShapes Go.WideShapes Go.ChangeAt Go.RowKit
/-- WHAT A READING OF ONE PIECE GIVES. -/
theorem piece_of {H : Type} {enc : TypeId × Value → H} {W : World} {fuel : Nat} {v : Value} {d : DataW H} {pl : List MemPlace}
    (hf : DataW.trod enc Tryd.prog W 0 (fun _ => true) true fuel 22 [v] = some (d, pl)) : ∃ (s : Option Addr) (l : List UInt8) (c : Nat), v = .slice s l.length c ∧ BytesAt W (.slice s l.length c) l ∧ (l = [] ∨ ∃ e sp, d = .slice e sp ∧ l.length ≤ e.length + sp.length) := by
  have hf' := hf
  rcases open_ints Tryd.underlying22 Tryd.underlying5 (by kernel_rfl) hf with ⟨hcs, _⟩ | ⟨y, n, c, zs, hcs, _, hl, hm, hz, hx, _⟩
  · obtain rfl : v = .slice none 0 0 := by simpa using hcs
    obtain ⟨l, h0, _, hb⟩ := bytes_arg (a := none) (len := 0) (cap := 0) hf'
    have hl0 : l = [] := List.eq_nil_of_length_eq_zero h0.symm
    subst hl0
    exact ⟨none, [], 0, rfl, hb, Or.inl rfl⟩
  · obtain rfl : v = .slice (some y) n c := by simpa using hcs
    obtain ⟨l, rfl, _, hb⟩ := bytes_arg hf'
    refine ⟨some y, l, c, rfl, hb, Or.inr ⟨_, _, (Prod.ext_iff.1 hx).1, ?_⟩⟩
    have hz' : zs.length = c := by simpa using hz
    simp [lits]
    omega
theorem mem_all {H : Type} {e : TypeId} {d : DataW H} {n : Nat} (hn : n ∈ d.weights Tryd.prog e) : ∀ {l : List (DataW H)}, d ∈ l → n ∈ DataW.weightsAll Tryd.prog e l
  | a :: r, hd => by
    rw [DataW.weightsAll, List.mem_append]
    rcases List.mem_cons.1 hd with h | h
    · exact Or.inl (h ▸ hn)
    · exact Or.inr (mem_all hn h)
/-- EACH PIECE IS OF THE FORM's REACH. -/
theorem piece_reach {H : Type} {ds : List (DataW H)} (h : (DataW.weightsEach Tryd.prog [27] ds).all (· ≤ reachBytes) = true) {es sp e' sp' : List (DataW H)} (hd : ds[0]? = some (.slice es sp)) (hx : DataW.slice e' sp' ∈ es) : e'.length + sp'.length ≤ 140737488351232 := by
  have hb : Tryd.prog.bytesOf 5 = 1 := by kernel_rfl
  have key : (e'.length + sp'.length) * Tryd.prog.bytesOf 5 ≤ reachBytes := by
    refine of_decide_eq_true (List.all_eq_true.1 h _ (DataW.weights_mem_each (j := 0) (t := 27) rfl hd _ ?_))
    rw [DataW.weights]
    simp only [Tryd.underlying27, List.mem_cons, List.mem_append]
    refine Or.inr (Or.inl (mem_all ?_ hx))
    simp [DataW.weights, Tryd.underlying22]
  rw [hb, Nat.mul_one] at key
  exact key
/-- WHAT A READING OF THE PIECES GIVES. -/
theorem pieces_arg {H : Type} {enc : TypeId × Value → H} {W : World} {a : Option Addr} {len cap fuel : Nat} {d : DataW H} {pl : List MemPlace}
    (hf : DataW.trod enc Tryd.prog W 0 (fun _ => true) true fuel 27 (Value.slice a len cap).cells.toList = some (d, pl)) (h : (DataW.weightsEach Tryd.prog [27] [d]).all (· ≤ reachBytes) = true) :
    ∃ L : List (List UInt8), len = L.length ∧ PiecesAt W a L := by
  rcases Go.Deep.open_slice1 Tryd.underlying27 (by kernel_rfl) hf with ⟨hcs, _⟩ | ⟨y, n, c, m, n', V, D, Pl, hcs, _, hl, hm, hmm, hx, hall⟩
  · simp [Value.cells] at hcs
    obtain ⟨rfl, rfl, rfl⟩ := hcs
    exact ⟨[], rfl, fun i hi => by simp at hi⟩
  · simp [Value.cells] at hcs
    obtain ⟨rfl, rfl, rfl⟩ := hcs
    have hmc : m = cap := by simpa using hmm
    subst hmc
    have hd : d = .slice ((List.range len).map D) ((List.range (m - len)).map fun j => D (len + j)) := (Prod.ext_iff.1 hx).1
    have hp : ∀ i, i < len → ∃ l : List UInt8, ∃ b o s c, (some y : Option Addr) = some ⟨b, o, none⟩ ∧ W.cell? ⟨b, o + i, none⟩ = some (.slice s l.length c) ∧ BytesAt W (.slice s l.length c) l ∧ l.length ≤ 140737488351232 := fun i hi => by
      obtain ⟨h1, h2⟩ := hall i (by omega)
      obtain ⟨s, l, c, hv, hb, hr⟩ := piece_of h2
      obtain ⟨b, o, sub⟩ := y
      have hs : sub = none := by simpa [Addr.add] using World.cell?_spot (hall 0 (by omega)).1
      subst hs
      rw [Addr.add_mid, hv] at h1
      refine ⟨l, b, o, s, c, rfl, h1, hb, ?_⟩
      rcases hr with rfl | ⟨e, sp, he, hle⟩
      · simp
      · have := piece_reach h (es := (List.range len).map D) (sp := (List.range (m - len)).map fun j => D (len + j)) (e' := e) (sp' := sp) (by rw [hd]; rfl) (List.mem_map.2 ⟨i, List.mem_range.2 hi, he⟩)
        omega
    obtain ⟨f, hfl⟩ := Go.Deep.choose_lt (α := List UInt8) hp
    refine ⟨(List.range len).map f, by simp, fun i hi => ?_⟩
    have hi' : i < len := by simpa using hi
    have e : ((List.range len).map f).getD i [] = f i := by simp [List.getD_eq_getElem?_getD, hi']
    rw [e]
    exact hfl i hi'
theorem contract (H : Type) (enc : TypeId × Value → H) (W : World) (base : Nat) (args : Array Value) (ds gs : List (DataW H)) (before : List MemPlace)
    (hval : ∀ (j : Nat) t v, Tryd.f4.params[j]? = some t → args[j]? = some v → Value.okWide Tryd.prog W .any base t v)
    (hW : DataW.Whole enc Tryd.prog Tryd.f4.params.toList Rows.shaPiecesSpec.vars false W args.toList ds gs before)
    (hsz : (DataW.weightsEach Tryd.prog (Tryd.f4.params.toList ++ (OpenSpec.ofChange Rows.shaPiecesSpec).bare.plain.varTypes Tryd.prog) (ds ++ gs)).all (· ≤ reachBytes) = true) (hL : laidMetH Tryd.prog Rows.shaPiecesRow.laid W) :
    Calls Tryd.prog 4 args W fun e W' => ∃ v, e = .returned v ∧ Rows.shaPiecesSpec.post enc Tryd.prog Tryd.f4 false true false false W args v W' := by
  have hW' := hW
  obtain ⟨p, q, hA0, hV, rfl, hfz, hnd⟩ := hW
  have hA : DataW.TrodAll enc Tryd.prog W 0 (fun _ => true) true Tryd.f4.params.toList args.toList ds p := hA0
  rw [Tryd.params4] at hA hval hsz
  obtain ⟨v0, vs0, d0, ds0, p0, q0, hargs, rfl, rfl, h0, r0⟩ := trodAll_cons hA
  obtain ⟨rfl, rfl, rfl⟩ := trodAll_nil r0
  obtain rfl : args = #[v0] := by cases args; simp_all
  obtain ⟨rfl, rfl⟩ := trodVars_none hV
  obtain ⟨a0, len0, cap0, rfl⟩ := okWide_slice Tryd.underlying27 (hval 0 27 v0 rfl rfl)
  have k0 := h0
  have lt0 : ∀ x ∈ p0, x.block < W.heap.size := by obtain ⟨m, hm⟩ := k0; exact DataW.trod_lt m _ _ _ hm
  obtain ⟨fuel, hf⟩ := h0
  obtain ⟨L, rfl, hP⟩ := pieces_arg hf hsz
  clear hA0
  refine (pieces_any W (ready_of_laid hL) a0 cap0 L hP).mono fun e W' ⟨he, bel⟩ => ?_
  subst he
  exact ⟨_, rfl, _, _, _, [], _, [], hW', trodAll_mk1 (shut_bool Tryd.underlying4 _), (trodAll_cons_mk (Below.trod laidOut (by kernel_rfl) (of_decide_eq_true (by kernel_rfl)) k0 bel lt0) trodAll_mk0), rfl, bel.frame _, fun h => by cases h⟩
theorem laid_met (os : Os) : laidMet Tryd.prog Rows.shaPiecesRow.laid ((withTabs (World.holding Tryd.prog os ⟨#[], #[], []⟩)).forCall (fun _ _ => 0) ⟨#[], #[.slice none 0 0], []⟩).memory :=
  laidMet_of_run' 8 (by kernel_rfl) (by kernel_rfl)
theorem reads (os : Os) {H : Type} (enc : TypeId × Value → H) : ∃ ds places, DataW.whole enc Tryd.prog ((withTabs (World.holding Tryd.prog os ⟨#[], #[], []⟩)).forCall (fun _ _ => 0) ⟨#[], #[.slice none 0 0], []⟩).memory Tryd.f4.params.toList Rows.shaPiecesSpec.vars false (#[.slice none 0 0] : Array Value).toList 8 = some (ds, [], places) :=
  ⟨[.nil], [], by kernel_rfl⟩
set_option maxRecDepth 100000 in
theorem lifted (os : Os) (started : os.Started) (H : Type) (enc : TypeId × Value → H) (F : Stop.Interp) :
    ReturnsInHanded {} Tryd.checked os 4 .any ((OpenSpec.ofChange Rows.shaPiecesSpec).preRow enc Tryd.prog Tryd.f4 Rows.shaPiecesRow.domain false Rows.shaPiecesRow.laid) (((OpenSpec.ofChange Rows.shaPiecesSpec).at F).post enc Tryd.prog Tryd.f4 false true false false) := by
  obtain ⟨ds, places, hx⟩ := reads os enc
  refine returnsInHanded_of_row (C := Tryd.checked) (s := OpenSpec.ofChange Rows.shaPiecesSpec) own started (by kernel_rfl) Tryd.func4
    (witness_row_at (enc := enc) (C := Tryd.checked) false (withTabs (World.holding Tryd.prog os ⟨#[], #[], []⟩)) #[.slice none 0 0] rfl (by kernel_rfl) (by kernel_rfl) (by kernel_rfl)
      (OpenSpec.preRow_of_cond 8 hx (by kernel_rfl) (fun k hk => by cases hk) (by kernel_rfl) (laid_met os))) ?_
  intro W base args ds gs before hval hW _ _ hsz hL _ _
  exact contract H enc W base args ds gs before hval hW hsz hL
theorem said : Rows.ShaPiecesSaid :=
  OpenClaim.holds_of_cond 4 Tryd.f4 rfl rfl rfl rfl rfl rfl rfl ⟨rfl, rfl, rfl, rfl, rfl⟩ rfl rfl rfl rfl rfl (by kernel_rfl) Tryd.func4 (by kernel_rfl)
    (of_decide_eq_true (by kernel_rfl)) (by unfold Func.isWrapper; first | (rw [if_pos (by decide +kernel)]; kernel_rfl) | (rw [if_neg (by decide +kernel)]; exact ⟨rfl, rfl⟩))
    (fun os started H enc _ F => by rw [OpenClaim.pre_eq_preRow]; exact lifted os started H enc F)
theorem plain (f : FuncId) (fn : Func) (hf : Tryd.pinned.checked.prog.funcNamed "chancery/chancerylaw01.ShaPieces" = some f) (hfn : Tryd.pinned.checked.prog.funcs[f]? = some fn) :
    false = Tryd.pinned.checked.prog.looks [] ∧ ∀ (j : Nat) t, fn.params[j]? = some t → Tryd.pinned.checked.prog.wantsStandIn t = false := by
  obtain rfl : f = 4 := Option.some.inj ((show Tryd.prog.funcNamed "chancery/chancerylaw01.ShaPieces" = some 4 by kernel_rfl).symm.trans hf) |>.symm
  obtain rfl : fn = Tryd.f4 := (Option.some.inj (Tryd.func4.symm.trans hfn)).symm
  refine ⟨by kernel_rfl, fun j t ht => ?_⟩
  rw [Tryd.params4] at ht
  have hm : t ∈ [27] := by simpa using Array.mem_of_getElem? ht
  have hall : ([27].all fun u => !Tryd.prog.wantsStandIn u) = true := by kernel_rfl
  exact (show Tryd.prog.wantsStandIn t = false by simpa using List.all_eq_true.1 hall t hm)
theorem card : Rows.ShaPiecesCardSaid :=
  Claim7.holds_tied_plain_at .later [] _ _ _ _ said (fun _ h => by cases h) (by kernel_rfl) (fun _ h => by cases h) shaPieces_row_tie rfl ⟨rfl, rfl⟩ (by kernel_rfl) rfl plain (by kernel_rfl)
end shaPieces
theorem shaPieces_card : Rows.ShaPiecesCardSaid := shaPieces.card
#print axioms shaPieces_card
end Go.Proofs.YtodcpcdhkghgnaaDoor
