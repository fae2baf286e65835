/- Parts of the walk. -/
import Derived.Test.YtcofnockikninaaGreatDoorZgNj
import Derived.Test.YtcofnockikninaaGreatDoorCards
import Derived.Test.YtcofnockikninaaGreatDoorTie
import Derived.ProofKit
import Derived.OpenShut
import Derived.ShutString
import Derived.ChangeOld
import Derived.Below
import Derived.Deep.DeepHandedRow
import Derived.Lib.LaidTab
import Derived.Lib.LaidU8T
import Derived.Lib.SmallJoins
import Derived.Stop.LaidErr
import Derived.Shelf.Vars
import Derived.Test.YtcofnockikninaaGreatDoorZgNn
import Derived.Deep.SlicePairs
import Derived.SizedLaws
set_option maxRecDepth 100000
namespace Go.Proofs.YtcofnockikninaaGreatDoor
open Go.ChangeShapes Go.WideShapes Go.ChangeAt Go.RowKit Go.Joins Go.Deep
theorem own : ownKnob Tryz.prog.godebug = none := by kernel_rfl
theorem laidOut : laidOutB Tryz.prog = true := by kernel_rfl
def ren9 : Go.Shelf.Ren := ⟨fun x => x, fun | 119 => 143 | 138 => 145 | 139 => 146 | n => n, fun | 3 => 0 | 4 => 1 | n => n⟩
theorem types9 : U8Types Tryz.prog ren9 := ⟨by kernel_rfl, by kernel_rfl, by kernel_rfl, by kernel_rfl⟩
theorem extra9 : U8Extra Tryz.prog ren9 := ⟨by kernel_rfl, by kernel_rfl, by kernel_rfl, by kernel_rfl, by kernel_rfl, by kernel_rfl, by kernel_rfl⟩
theorem first9 : Rows.laid_unicode_utf8_first = Lib.firstData := by kernel_rfl
theorem accept9 : (Rows.laid_unicode_utf8_acceptRanges : DataW Unit) = Lib.acceptData := by kernel_rfl
theorem pow9 : (Rows.laid_internal_strconv_uint64pow10 : DataW Unit) = Lib.tabData .u64 Lib.pow10Tab := by kernel_rfl
theorem tabIs_of_reads {P : Program} {W : World} {name : String} {k : IntKind} {zs : List Int} {g : Nat} {t e : TypeId} {n : Nat}
  (hg : P.globalNamed name = some g) (hty : (P.globals[g]?).map (·.type) = some t) (ht : P.underlying t = some (.array n e)) (he : P.underlying e = some (.int k)) (hce : P.cellsOf e = 1) (hct : P.cellsOf t = n)
  (h : Lib.VarReads P W name (Lib.tabData k zs)) : Lib.TabIs P W name k zs := by
 obtain ⟨g', t', cs, fuel, p, hg', ht', hvar, hd⟩ := h
 obtain rfl := Option.some.inj (hg.symm.trans hg')
 obtain rfl := Option.some.inj (hty.symm.trans ht')
 unfold Lib.TabIs
 rw [hvar, ← Lib.cells_of_tab ht he hce hct hd]
theorem ready_of_laid {W : World} (h : laidMetH Tryz.prog [("math/bits.deBruijn32tab", Rows.laid_math_bits_deBruijn32tab), ("math/bits.deBruijn64tab", Rows.laid_math_bits_deBruijn64tab), ("internal/strconv.uint64pow10", Rows.laid_internal_strconv_uint64pow10), ("unicode/utf8.acceptRanges", Rows.laid_unicode_utf8_acceptRanges), ("unicode/utf8.first", Rows.laid_unicode_utf8_first)] W) (hsh : W.ShapedOpen Tryz.prog) : N.Rdy W := by
 rw [MakeChecks.laidMetH_plain _ _ _ (by kernel_rfl)] at h
 have h1 := Lib.laidMet.reads h (n := "unicode/utf8.first") (d := Rows.laid_unicode_utf8_first) (by simp)
 have h2 := Lib.laidMet.reads h (n := "unicode/utf8.acceptRanges") (d := Rows.laid_unicode_utf8_acceptRanges) (by simp)
 have h3 := Lib.laidMet.reads h (n := "internal/strconv.uint64pow10") (d := Rows.laid_internal_strconv_uint64pow10) (by simp)
 rw [first9] at h1
 rw [accept9] at h2
 rw [pow9] at h3
 exact ⟨utf8Tabs_of_readsT types9 extra9 h1 h2, tabIs_of_reads (g := 2) (t := 188) (e := 163) (n := 20) (by kernel_rfl) (by kernel_rfl) (by kernel_rfl) (by kernel_rfl) (by kernel_rfl) (by kernel_rfl) h3,
  cell_of_shapedOpen_int (g := 3) (t := 3) (zero := #[.int .i64 0]) (k := .i64) hsh (of_decide_eq_true (by kernel_rfl)) (by kernel_rfl) rfl (by kernel_rfl) (by kernel_rfl) Tryz.underlying3⟩
theorem open_bool {H : Type} {enc : TypeId × Value → H} {w : World} {base : Nat} {spare : Nat → Bool} {held : Bool} {r : Reach} {b0 : Nat} {v : Value} {d : DataW H} {ps : List MemPlace} (hval : Value.okWide Tryz.prog w r b0 4 v) (hd : DataW.Trod enc Tryz.prog w base spare held 4 v d ps) :
  ∃ b, v = .bool b ∧ d = .lit (.bool b) ∧ ps = [] := by
 obtain ⟨b, rfl⟩ := okWide_bool Tryz.underlying4 hval
 obtain ⟨fuel, hf⟩ := hd
 obtain ⟨b', h, hx⟩ := DataW.trod_bool Tryz.underlying4 hf
 simp [Value.cells] at h
 subst h
 simp only [Prod.mk.injEq] at hx
 exact ⟨b, rfl, hx.1, hx.2⟩
def tabCells : DataW Unit → Array Value
 | .agg l => (l.map fun | .lit x => x.value | _ => undef).toArray
 | _ => #[]
def putTab (g : Nat) (cs : Array Value) (w : World) : World :=
 { w with heap := w.heap.modify g fun
   | .cells _ t frozen => .cells cs t frozen
   | o => o }
def withTabs (w : World) : World :=
 putTab 0 ((List.range 256).map fun c => Value.int .u8 (Lib.firstT c : Int)).toArray (putTab 1 ((List.range 16).flatMap fun i => [Value.int .u8 (Lib.accLo i : Int), Value.int .u8 (Lib.accHi i : Int)]).toArray
  (putTab 2 (tabCells Rows.laid_internal_strconv_uint64pow10) (putTab 4 (tabCells Rows.laid_math_bits_deBruijn32tab) (putTab 5 (tabCells Rows.laid_math_bits_deBruijn64tab) w))))
open Go.ChangeShapes Go.WideShapes Go.ChangeAt Go.RowKit Go.Deep
theorem mem_allN {H : Type} {e : TypeId} {d : DataW H} {n : Nat} (hn : n ∈ d.weights Tryz.prog e) : ∀ {l : List (DataW H)}, d ∈ l → n ∈ DataW.weightsAll Tryz.prog e l
 | a :: r, hd => by
  rw [DataW.weightsAll, List.mem_append]
  rcases List.mem_cons.1 hd with h | h
  ·exact Or.inl (h ▸ hn)
  ·exact Or.inr (mem_allN hn h)
theorem bytesA : Tryz.prog.bytesOf 103 = 32 := by kernel_rfl
theorem dn_arg {H : Type} {enc : TypeId × Value → H} {W : World} {a : Option Addr} {len cap fuel : Nat} {d : DataW H} {pl : List MemPlace}
  (hf : DataW.trod enc Tryz.prog W 0 (fun _ => true) true fuel 53 (Value.slice a len cap).cells.toList = some (d, pl)) (hw : ∀ n ∈ d.weights Tryz.prog 53, n ≤ reachBytes) :
  ∃ l : List (Bs × Bs), l.length = len ∧ len ≤ 281474976710656 ∧ DnAt W (.slice a len cap) l ∧ ∀ x ∈ l, x.1.length ≤ 281474976710656 ∧ x.2.length ≤ 281474976710656 := by
 have hr := reachBytes_lt
 rcases open_slice_pairs Tryz.underlying53 Tryz.underlying103 (by kernel_rfl) rfl rfl (by kernel_rfl) (by kernel_rfl) hf with ⟨hcs, _⟩ | ⟨y, n, c, m, k, V0, V1, D0, D1, P0, P1, hcs, _, hl, hm, hmm, hx, hall⟩
 ·simp [Value.cells] at hcs
  obtain ⟨rfl, rfl, rfl⟩ := hcs
  exact ⟨[], rfl, by omega, dn_nil _, fun x h => by cases h⟩
 ·simp [Value.cells] at hcs
  obtain ⟨rfl, rfl, rfl⟩ := hcs
  have hmc : m = cap := by simpa using hmm
  subst hmc
  have hd : d = .slice ((List.range len).map fun i => .agg [D0 i, D1 i]) ((List.range (m - len)).map fun j => .agg [D0 (len + j), D1 (len + j)]) := (Prod.ext_iff.1 hx).1
  have hp : ∀ i, i < len → ∃ q : ByteArray × ByteArray, W.cell? (y.add (i * 2)) = some (.string q.1) ∧ W.cell? (y.add (i * 2 + 1)) = some (.string q.2) ∧ D0 i = .lit (.string q.1.data.toList) ∧ D1 i = .lit (.string q.2.data.toList) := fun i hi => by
   obtain ⟨h1, h2, h3, h4⟩ := hall i (by omega)
   obtain ⟨u, e1, e2, _⟩ := DataW.trod_string Tryz.underlying9 h3
   obtain ⟨z, e3, e4, _⟩ := DataW.trod_string Tryz.underlying9 h4
   simp only [List.cons.injEq, and_true] at e1 e3
   exact ⟨(u, z), by rw [h1, e1], by rw [h2, e3], (Prod.ext_iff.1 e2).1, (Prod.ext_iff.1 e4).1⟩
  obtain ⟨f, hfl⟩ := choose_lt hp
  have hw1 : (len + (m - len)) * 32 ≤ reachBytes := by
   refine hw _ ?_
   rw [hd, DataW.weights]
   simp only [Tryz.underlying53, bytesA, List.length_map, List.length_range, List.mem_cons, true_or]
  have hll : ((List.range len).map fun i => (N.bs (f i).1, N.bs (f i).2)).length = len := by simp
  refine ⟨(List.range len).map fun i => (N.bs (f i).1, N.bs (f i).2), hll, by omega, ⟨some y, m, by rw [hll], by rw [hll]; exact hl, fun h => (by cases h), fun hne => ?_⟩, fun x hxm => ?_⟩
  ·have hpos : 0 < len := by
    rcases Nat.eq_zero_or_pos len with h | h
    ·subst h; simp at hne
    ·exact h
   obtain ⟨b, o, s⟩ := y
   have hs : s = none := by
    have c0 := (hfl 0 hpos).1
    cases s with
    | none => rfl
    | some k => simp [Addr.add, World.cell?] at c0; split at c0 <;> simp at c0
   subst hs
   refine ⟨b, o, rfl, fun i x hi => ?_⟩
   have hil : i < len := by
    have := (List.getElem?_eq_some_iff.1 hi).1
    rw [hll] at this; exact this
   rw [List.getElem?_map, List.getElem?_range hil] at hi
   simp only [Option.map_some, Option.some.injEq] at hi
   subst hi
   obtain ⟨h1, h2, _⟩ := hfl i hil
   rw [Addr.add_mid] at h1 h2
   simp only [N.st_bs]
   exact ⟨h1, by rw [Nat.add_assoc]; exact h2⟩
  ·obtain ⟨i, hi, rfl⟩ := List.mem_map.1 hxm
   obtain ⟨_, _, h3, h4⟩ := hfl i (List.mem_range.1 hi)
   have key : ∀ z : Nat, z ∈ (DataW.agg [D0 i, D1 i]).weights Tryz.prog 103 → z ≤ reachBytes := fun z hz => by
    refine hw _ ?_
    rw [hd, DataW.weights]
    simp only [Tryz.underlying53, List.mem_cons, List.mem_append]
    exact Or.inr (Or.inl (mem_allN hz (List.mem_map.2 ⟨i, hi, rfl⟩)))
   have g1 := key (f i).1.data.toList.length (by rw [h3, h4]; simp [DataW.weights, DataW.weightsEach, Tryz.underlying103])
   have g2 := key (f i).2.data.toList.length (by rw [h3, h4]; simp [DataW.weights, DataW.weightsEach, Tryz.underlying103])
   exact ⟨by show (f i).1.data.toList.length ≤ _; omega, by show (f i).2.data.toList.length ≤ _; omega⟩
open Go.ChangeShapes Go.WideShapes Go.ChangeAt Go.RowKit Go.Joins Go.Deep
theorem ib_ofInt (z : Int) (h : (Lit.int .u8 z).wf = true) : ((UInt8.ofNat z.toNat).toNat : Int) = z := by
 have hb := bounds_u8 h
 rw [UInt8.toNat_ofNat']
 omega
theorem bytes_arg {H : Type} {enc : TypeId × Value → H} {W : World} {a : Option Addr} {len cap : Nat} {fuel : Nat} {x : DataW H × List MemPlace}
  (hf : DataW.trod enc Tryz.prog W 0 (fun _ => true) true fuel 22 (Value.slice a len cap).cells.toList = some x) : ∃ l : Bs, len = l.length ∧ (l.length : Int) ≤ 9223372036854775807 ∧ BytesAt W (.slice a l.length cap) l := by
 rcases open_ints Tryz.underlying22 Tryz.underlying5 (by kernel_rfl) hf with ⟨hcs, _⟩ | ⟨y, l, c, zs, hcs, _, hl, hm, hz, _, hcell, hwz⟩
 ·simp [Value.cells] at hcs
  obtain ⟨rfl, rfl, rfl⟩ := hcs
  exact ⟨[], rfl, by decide, vals_nil _⟩
 ·simp [Value.cells] at hcs
  obtain ⟨rfl, rfl, rfl⟩ := hcs
  have hz' : zs.length = cap := by simpa using hz
  have hll : ((zs.take len).map fun z => UInt8.ofNat z.toNat).length = len := by simp; omega
  have hlv : (((zs.take len).map fun z => UInt8.ofNat z.toNat).map bv).length = len := by rw [List.length_map, hll]
  refine ⟨(zs.take len).map fun z => UInt8.ofNat z.toNat, hll.symm, by rw [hll]; simp only [maxLen] at hm; omega, some y, cap, by rw [hlv, hll], by rw [hlv]; exact hl, fun h => (by cases h), fun hne => ?_⟩
  have hpos : 0 < len := by
   rcases Nat.eq_zero_or_pos len with h | h
   ·subst h; simp at hne
   ·exact h
  have c0 := hcell 0 (by omega)
  obtain ⟨b, o, s⟩ := y
  have hs : s = none := by
   cases s with
   | none => rfl
   | some k => simp [Addr.add, World.cell?] at c0; split at c0 <;> simp at c0
  subst hs
  refine ⟨b, o, rfl, fun j v hv => ?_⟩
  have hj : j < len := by
   have := (List.getElem?_eq_some_iff.1 hv).1
   rw [hlv] at this; exact this
  have hc := hcell j (by omega)
  rw [Addr.add_mid] at hc
  rw [hc]
  rw [List.getElem?_map, List.getElem?_map, List.getElem?_take, if_pos hj] at hv
  have hjz : j < zs.length := by omega
  rw [List.getElem?_eq_getElem hjz] at hv
  simp only [Option.map_some, Option.some.injEq] at hv
  rw [← hv]
  unfold bv
  rw [ib_ofInt _ (hwz _ (List.getElem_mem hjz)), List.getD_eq_getElem?_getD, List.getElem?_eq_getElem hjz]
  rfl
open Go.ChangeShapes Go.WideShapes Go.ChangeAt Go.RowKit Go.Joins Go.Deep
theorem cells3 : Tryz.prog.cellsOf 3 = 1 := by kernel_rfl
theorem cells4 : Tryz.prog.cellsOf 4 = 1 := by kernel_rfl
theorem cellsB : Tryz.prog.cellsOf 22 = 1 := by kernel_rfl
theorem cellsDs : Tryz.prog.cellsOf 23 = 1 := by kernel_rfl
theorem cellsD : Tryz.prog.cellsOf 25 = 5 := by kernel_rfl
theorem list5 {α : Type} {l : List α} (h : l.length = 5) : ∃ a b c d e, l = [a, b, c, d, e] := by
 match l, h with
 | [a, b, c, d, e], _ => exact ⟨a, b, c, d, e, rfl⟩
theorem pick_all {α : Type} {Q : Nat → α → Prop} : ∀ n, (∀ i, i < n → ∃ k, Q i k) → ∃ ks : List α, ks.length = n ∧ ∀ i k, ks[i]? = some k → Q i k
 | 0, _ => ⟨[], rfl, fun i k h => by simp at h⟩
 | n + 1, h => by
  obtain ⟨ks, hl, hk⟩ := pick_all n (fun i hi => h i (by omega))
  obtain ⟨k, hq⟩ := h n (by omega)
  refine ⟨ks ++ [k], by simp [hl], fun i k' hi => ?_⟩
  by_cases hin : i < n
  ·rw [List.getElem?_append_left (by omega)] at hi
   exact hk i k' hi
  ·have := (List.getElem?_eq_some_iff.1 hi).1
   rw [List.length_append, List.length_singleton, hl] at this
   obtain rfl : i = n := by omega
   rw [List.getElem?_append_right (by omega), hl, Nat.sub_self] at hi
   simp at hi
   subst hi
   exact hq
theorem value_trod {H : Type} {enc : TypeId × Value → H} {W : World} (fuel : Nat) : ∀ (cs : List Value) (x : DataW H × List MemPlace), DataW.trod enc Tryz.prog W 0 (fun _ => true) true fuel 25 cs = some x → ∃ v : DV, VAt fuel (fun _ => True) W cs v := by
 induction fuel using Nat.strongRecOn with
 | ind fuel ih =>
 intro cs x h
 cases fuel with
 | zero => simp [DataW.trod] at h
 | succ fuel =>
  simp only [DataW.trod, Tryz.underlying25, cellsD] at h
  split at h
  case isFalse => cases h
  rename_i hl
  obtain ⟨xs, hm, _⟩ := Option.map_eq_some_iff.1 h
  obtain ⟨y0, _, f0⟩ := Lib.mapM_at hm 0 _ rfl
  obtain ⟨y1, _, f1⟩ := Lib.mapM_at hm 1 _ rfl
  obtain ⟨y2, _, f2⟩ := Lib.mapM_at hm 2 _ rfl
  obtain ⟨y3, _, f3⟩ := Lib.mapM_at hm 3 _ rfl
  obtain ⟨y4, _, f4⟩ := Lib.mapM_at hm 4 _ rfl
  obtain ⟨c0, c1, c2, c3, c4, rfl⟩ := list5 hl
  have F0 : DataW.trod enc Tryz.prog W 0 (fun _ => true) true fuel 3 [c0] = some y0 := by simpa [cells3] using f0
  have F1 : DataW.trod enc Tryz.prog W 0 (fun _ => true) true fuel 3 [c1] = some y1 := by simpa [cells3] using f1
  have F2 : DataW.trod enc Tryz.prog W 0 (fun _ => true) true fuel 4 [c2] = some y2 := by simpa [cells4] using f2
  have F3 : DataW.trod enc Tryz.prog W 0 (fun _ => true) true fuel 22 [c3] = some y3 := by simpa [cellsB] using f3
  have F4 : DataW.trod enc Tryz.prog W 0 (fun _ => true) true fuel 23 [c4] = some y4 := by simpa [cellsDs] using f4
  obtain ⟨z0, e0, _, _⟩ := DataW.trod_int Tryz.underlying3 F0
  obtain ⟨z1, e1, _, _⟩ := DataW.trod_int Tryz.underlying3 F1
  obtain ⟨z2, e2, _⟩ := DataW.trod_bool Tryz.underlying4 F2
  simp only [List.cons.injEq, and_true] at e0 e1 e2
  clear f0 f1 f2 f3 f4 F0 F1 F2
  subst e0 e1 e2
  obtain ⟨sb, lb, cb, rfl⟩ : ∃ sb lb cb, c3 = .slice sb lb cb := by
   rcases DataW.trod_slice Tryz.underlying22 F3 with ⟨e, _⟩ | ⟨a, len, cap, _, _, _, _, e, _⟩
   ·simp only [List.cons.injEq, and_true] at e
    exact ⟨_, _, _, e⟩
   ·simp only [List.cons.injEq, and_true] at e
    exact ⟨_, _, _, e⟩
  obtain ⟨bs, rfl, hbl, hby⟩ := bytes_arg (show DataW.trod enc Tryz.prog W 0 (fun _ => true) true fuel 22 (Value.slice sb lb cb).cells.toList = some y3 from F3)
  rcases DataW.trod_slice Tryz.underlying23 F4 with ⟨e, _⟩ | ⟨a, len, cap, elems, rest, n, hfn, e, _, _, hlc, hcm, hel, hat, _, _⟩
  ·simp only [List.cons.injEq, and_true] at e
   subst e
   exact ⟨.mk z0 z1 z2 bs [], .slice sb bs.length cb, none, 0, rfl, hby, fun _ _ _ => trivial, ⟨by simp only [DV.bytes]; omega, by simp [DV.kids]⟩, by simp [DV.kids], fun _ => rfl, fun h => absurd rfl h⟩
  ·simp only [List.cons.injEq, and_true] at e
   subst e
   subst hfn
   rw [cellsD] at hat
   have hsp0 : 0 < len → a.spot = none := fun hi => by
    have h1 := hat 0 hi
    rw [List.getElem?_eq_getElem (by omega)] at h1
    obtain ⟨ds, hds, htr⟩ := Option.bind_eq_some_iff.1 h1
    obtain ⟨_, hlen, hcell⟩ := World.cells?_some hds
    have h0 := hcell 0 (by omega)
    rw [List.getElem?_eq_getElem (by omega)] at h0
    obtain ⟨b, o, s⟩ := a
    cases s with
    | none => rfl
    | some k => simp [Addr.add, World.cell?] at h0; split at h0 <;> simp at h0
   have hk : ∀ i, i < len → ∃ k : DV, ∃ ds, a.spot = none ∧ CellsAt W a.block (a.off + i * 5) ds ∧ VAt (n + 1) (fun _ => True) W ds k := fun i hi => by
    have h1 := hat i hi
    rw [List.getElem?_eq_getElem (by omega)] at h1
    obtain ⟨ds, hds, htr⟩ := Option.bind_eq_some_iff.1 h1
    obtain ⟨k, hv⟩ := ih n (by omega) ds _ htr
    obtain ⟨_, hlen, hcell⟩ := World.cells?_some hds
    have hspot : a.spot = none := hsp0 (by omega)
    refine ⟨k, ds, hspot, fun j u hu => ?_, hv.more (by omega)⟩
    have hj : j < 5 := by have := (List.getElem?_eq_some_iff.1 hu).1; omega
    have h2 := hcell j hj
    obtain ⟨b, o, s⟩ := a
    simp only at hspot
    subst hspot
    rw [Addr.add_mid, Addr.add_mid] at h2
    rw [h2]
    exact hu
   obtain ⟨ks, hkl, hks⟩ := pick_all len hk
   refine ⟨.mk z0 z1 z2 bs ks, .slice sb bs.length cb, some a, cap, by rw [← hkl]; rfl, hby, fun _ _ _ => trivial, ⟨by simp only [DV.bytes]; omega, by simp only [DV.kids, maxLen] at hcm ⊢; omega⟩, by simp only [DV.kids]; omega, fun h => (by cases h), fun hne => ?_⟩
   simp only [DV.kids] at hne ⊢
   have hpos : 0 < ks.length := List.length_pos_iff.2 hne
   obtain ⟨ds0, hsp, _⟩ := hks 0 ks[0] (List.getElem?_eq_getElem hpos)
   refine ⟨a.block, a.off, ?_, trivial, fun i k hik => ?_⟩
   ·obtain ⟨b, o, s⟩ := a
    simp only at hsp
    subst hsp
    rfl
   ·obtain ⟨ds, _, h1, h2⟩ := hks i k hik
    exact ⟨ds, h1, h2⟩
theorem value_arg {H : Type} {enc : TypeId × Value → H} {W : World} {b0 : Nat} {v : Value} {d : DataW H} {p : List MemPlace} (hv : Value.okWide Tryz.prog W .any b0 25 v) (h : DataW.Trod enc Tryz.prog W 0 (fun _ => true) true 25 v d p) : ∃ (cs : List Value) (dv : DV), v = .agg cs.toArray ∧ ValAt (fun _ => True) W cs dv := by
 obtain ⟨cs, rfl, _⟩ := okWide_struct Tryz.underlying25 hv
 obtain ⟨fuel, hf⟩ := h
 obtain ⟨dv, hd⟩ := value_trod fuel _ _ hf
 exact ⟨cs.toList, dv, by simp, fuel, hd⟩
open Go.ChangeShapes Go.WideShapes Go.ChangeAt Go.RowKit Go.Joins Go.Deep
theorem cells9 : Tryz.prog.cellsOf 9 = 1 := by kernel_rfl
theorem cellsDn : Tryz.prog.cellsOf 53 = 1 := by kernel_rfl
theorem cellsG : Tryz.prog.cellsOf 56 = 3 := by kernel_rfl
theorem list3 {α : Type} {l : List α} (h : l.length = 3) : ∃ a b c, l = [a, b, c] := by
 match l, h with
 | [a, b, c], _ => exact ⟨a, b, c, rfl⟩
theorem gen_arg {H : Type} {enc : TypeId × Value → H} {W : World} {b0 : Nat} {v : Value} {d : DataW H} {p : List MemPlace} (hv : Value.okWide Tryz.prog W .any b0 56 v) (h : DataW.Trod enc Tryz.prog W 0 (fun _ => true) true 56 v d p) (hw : ∀ n ∈ d.weights Tryz.prog 56, n ≤ reachBytes) :
  ∃ (cs : List Value) (g : Gen), v = .agg cs.toArray ∧ GenAt W cs g ∧ g.text.length ≤ 281474976710656 ∧ g.dir.length ≤ 281474976710656 ∧ ∀ a ∈ g.dir, a.1.length ≤ 281474976710656 ∧ a.2.length ≤ 281474976710656 := by
 have hr := reachBytes_lt
 obtain ⟨⟨cs⟩, rfl, _⟩ := okWide_struct Tryz.underlying56 hv
 obtain ⟨fuel, hf⟩ := h
 cases fuel with
 | zero => simp [DataW.trod] at hf
 | succ fuel =>
  simp only [DataW.trod, Tryz.underlying56, cellsG] at hf
  split at hf
  case isFalse => cases hf
  rename_i hl
  obtain ⟨xs, hm, hxe⟩ := Option.map_eq_some_iff.1 hf
  obtain ⟨y0, _, f0⟩ := Lib.mapM_at hm 0 _ rfl
  obtain ⟨y1, g1, f1⟩ := Lib.mapM_at hm 1 _ rfl
  obtain ⟨y2, g2, f2⟩ := Lib.mapM_at hm 2 _ rfl
  have hl' : cs.length = 3 := hl
  obtain ⟨c0, c1, c2, rfl⟩ := list3 hl'
  have F0 : DataW.trod enc Tryz.prog W 0 (fun _ => true) true fuel 3 [c0] = some y0 := by simpa [cells3, Value.cells] using f0
  have F1 : DataW.trod enc Tryz.prog W 0 (fun _ => true) true fuel 9 [c1] = some y1 := by simpa [cells9, Value.cells] using f1
  have F2 : DataW.trod enc Tryz.prog W 0 (fun _ => true) true fuel 53 [c2] = some y2 := by simpa [cellsDn, Value.cells] using f2
  have hd : d = .agg (xs.map fun x => x.1) := (Prod.ext_iff.1 hxe).1.symm
  have hwe : ∀ (j : Nat) (t : TypeId) (y : DataW H × List MemPlace), ([3, 9, 53] : List TypeId)[j]? = some t → xs[j]? = some y → ∀ z ∈ y.1.weights Tryz.prog t, z ≤ reachBytes := fun j t y ht hy z hz => by
   refine hw z ?_
   rw [hd, DataW.weights]
   simp only [Tryz.underlying56]
   exact DataW.weights_mem_each (ts := [3, 9, 53]) ht (by rw [List.getElem?_map, hy]; rfl) z hz
  obtain ⟨z0, e0, _, _⟩ := DataW.trod_int Tryz.underlying3 F0
  obtain ⟨u, e1, e2, _⟩ := DataW.trod_string Tryz.underlying9 F1
  simp only [List.cons.injEq, and_true] at e0 e1
  clear f0 f1 f2 F0 F1
  subst e0 e1
  obtain ⟨sp, n, c, rfl⟩ : ∃ sb lb cb, c2 = .slice sb lb cb := by
   rcases DataW.trod_slice Tryz.underlying53 F2 with ⟨e, _⟩ | ⟨a, len, cap, _, _, _, _, e, _⟩
   ·simp only [List.cons.injEq, and_true] at e
    exact ⟨_, _, _, e⟩
   ·simp only [List.cons.injEq, and_true] at e
    exact ⟨_, _, _, e⟩
  obtain ⟨l, hn, hb, hdn, hll⟩ := dn_arg (d := y2.1) (pl := y2.2) F2 (hwe 2 53 y2 rfl g2)
  have hu : u.data.toList.length ≤ reachBytes := hwe 1 9 y1 rfl g1 _ (by rw [(Prod.ext_iff.1 e2).1]; simp [DataW.weights])
  subst hn
  exact ⟨[.int .i64 z0, .string u, .slice sp l.length c], ⟨z0, N.bs u, l⟩, rfl, ⟨u, sp, c, rfl, rfl, hdn⟩, by show u.data.toList.length ≤ _; omega, hb, hll⟩
end Go.Proofs.YtcofnockikninaaGreatDoor
