/-
  The walk of the statement RoundPlaces: it returns true; nothing that was there has turned.
-/
import Derived.Test.YthciafobknaipaaOnly
namespace Go.Proofs.Ythciafobknaipaa
open Go.RowKit
/-- The slice's slices hold these numbers. -/
def IListsAt (w : World) (x : Value) (P : List (List Int)) : Prop := ∃ vs : List Value, vs.length = P.length ∧ ValsAt w x vs ∧ ∀ i, i < P.length → ValsAt w (vs.getD i undef) (ivals (P.getD i []))
theorem IListsAt.below {a b : World} {x : Value} {P : List (List Int)} (h : IListsAt a x P) (hb : Below a.heap.size a b) : IListsAt b x P := by
  obtain ⟨vs, h1, h2, h3⟩ := h
  exact ⟨vs, h1, h2.below hb, fun i hi => (h3 i hi).below hb⟩
theorem ilists_open {w : World} {x : Value} {P : List (List Int)} (h : IListsAt w x P) : ∃ sp c, x = .slice sp P.length c ∧ (P ≠ [] → ∃ b o, sp = some ⟨b, o, none⟩ ∧ b < w.heap.size ∧ ∀ i, i < P.length → ∃ s ci, w.cell? ⟨b, o + i, none⟩ = some (.slice s (P.getD i []).length ci) ∧ ((P.getD i []) ≠ [] → ∃ b2 o2, s = some ⟨b2, o2, none⟩ ∧ b2 < w.heap.size ∧ ∀ k, k < (P.getD i []).length → w.cell? ⟨b2, o2 + k, none⟩ = some (.int .i64 ((P.getD i []).getD k 0)))) := by
  obtain ⟨vs, hl, hv, hi⟩ := h
  have hv' := hv
  obtain ⟨sp, c, rfl, h1, h2, _⟩ := hv'
  refine ⟨sp, c, by rw [hl], fun hne => ?_⟩
  obtain ⟨b, o, c2, e, _, hb, hc⟩ := hv.cell (by intro e; rw [e] at hl; exact hne (List.eq_nil_of_length_eq_zero hl.symm))
  simp only [Value.slice.injEq] at e
  obtain ⟨rfl, _, _⟩ := e
  refine ⟨b, o, rfl, hb, fun i hil => ?_⟩
  obtain ⟨s, ci, es, _, _, hop⟩ := ints_open (hi i hil)
  exact ⟨s, ci, by rw [hc i (by rw [hl]; exact hil), es], hop⟩
/-- A list that is true at these places. -/
def hotTo (p : List Int) (t : Nat) : List Bool := (List.range 256).map fun (k : Nat) => (p.take t).contains (k : Int)
def hotB (p : List Int) : List Bool := hotTo p p.length
theorem len_hotTo (p : List Int) (t : Nat) : (hotTo p t).length = 256 := by simp [hotTo]
theorem hotTo_zero (p : List Int) : hotTo p 0 = List.replicate 256 false := by
  apply List.ext_getElem
  · rw [len_hotTo, List.length_replicate]
  · intro k h1 h2
    simp only [hotTo, List.getElem_map, List.getElem_range, List.getElem_replicate, List.take_zero]
    rfl
theorem hotTo_in (p : List Int) (t : Nat) (ht : t < p.length) (z : Nat) (hz : p.getD t 0 = (z : Int)) : (hotTo p t).set z true = hotTo p (t + 1) := by
  have hp : p[t] = (z : Int) := by rwa [List.getD_eq_getElem?_getD, List.getElem?_eq_getElem ht] at hz
  apply List.ext_getElem
  · rw [List.length_set, len_hotTo, len_hotTo]
  · intro k h1 h2
    rw [List.getElem_set]
    simp only [hotTo, List.getElem_map, List.getElem_range]
    rw [List.take_succ_eq_append_getElem ht, hp, Bool.eq_iff_iff]
    split
    · rename_i e; subst e; simp
    · rename_i e
      simp only [List.contains_iff_mem, List.mem_append, List.mem_singleton]
      constructor
      · exact Or.inl
      · rintro (h | h)
        · exact h
        · omega
theorem hotTo_out (p : List Int) (t : Nat) (ht : t < p.length) (hz : ¬ (0 ≤ p.getD t 0 ∧ p.getD t 0 < 256)) : hotTo p t = hotTo p (t + 1) := by
  have hp : p[t] = p.getD t 0 := by rw [List.getD_eq_getElem?_getD, List.getElem?_eq_getElem ht]; rfl
  unfold hotTo
  apply List.map_congr_left
  intro k hk
  rw [List.mem_range] at hk
  rw [List.take_succ_eq_append_getElem ht, hp, Bool.eq_iff_iff]
  simp only [List.contains_iff_mem, List.mem_append, List.mem_singleton]
  constructor
  · exact Or.inl
  · rintro (h | h)
    · exact h
    · omega
/-- What stands when i lists are made; all of it lies ahead of the block top. -/
structure ListsIn (w : World) (P : List (List Int)) (i top : Nat) (v : Value) (vs : List Value) (wr : World) : Prop where
  own : OwnV 45 wr w.heap.size v vs
  len : vs.length = i
  low : ∀ k, v.ownBlock = some k → k < top
  each : ∀ j, j < i → ∃ B, vs.getD j undef = .slice (some ⟨B, 0, none⟩) 256 256 ∧ w.heap.size ≤ B ∧ v.ownBlock ≠ some B ∧ B < top ∧ RowAt 4 wr B [] (tvals (hotB (P.getD j [])))
  le : top ≤ wr.heap.size
  bel : Below w.heap.size w wr
structure ListsMid (w : World) (P : List (List Int)) (i top t : Nat) (v : Value) (vs : List Value) (wr : World) : Prop where
  ins : ListsIn w P i top v vs wr
  list : RowAt 4 wr top [] (tvals (hotTo (P.getD i []) t))
theorem ListsIn.raise {w : World} {P : List (List Int)} {i top : Nat} {v : Value} {vs : List Value} {wr : World} (h : ListsIn w P i top v vs wr) : ListsIn w P i wr.heap.size v vs wr :=
  ⟨h.own, h.len, fun k hk => Nat.lt_of_lt_of_le (h.low k hk) h.le, fun j hj => by obtain ⟨B, h1, h2, h3, h4, h5⟩ := h.each j hj; exact ⟨B, h1, h2, h3, Nat.lt_of_lt_of_le h4 h.le, h5⟩, Nat.le_refl _, h.bel⟩
theorem ListsIn.begin {w : World} {P : List (List Int)} {i top : Nat} {v : Value} {vs : List Value} {wr W : World} (h : ListsIn w P i top v vs wr) (hr : RowAt 4 W wr.heap.size [] (List.replicate 256 (.bool false))) (hb : Below wr.heap.size wr W) : ListsMid w P i wr.heap.size 0 v vs W := by
  refine ⟨⟨h.own.below hb, h.len, h.raise.low, fun j hj => ?_, hb.size, h.bel.trans (hb.mono h.bel.size)⟩, ?_⟩
  · obtain ⟨B, h1, h2, h3, h4, h5⟩ := h.raise.each j hj
    exact ⟨B, h1, h2, h3, h4, h5.below hb⟩
  · rw [hotTo_zero]
    have e : tvals (List.replicate 256 false) = List.replicate 256 (.bool false) := by unfold tvals; rw [List.map_replicate]
    rw [e]; exact hr
theorem ListsMid.put {w : World} {P : List (List Int)} {i top t : Nat} {v : Value} {vs : List Value} {wr : World} (h : ListsMid w P i top t v vs wr) (ht : t < (P.getD i []).length) (z : Nat) (hz : (P.getD i []).getD t 0 = (z : Int)) (hz2 : z < 256) (htop : w.heap.size ≤ top) : ListsMid w P i top (t + 1) v vs (wr.setCell ⟨top, z, none⟩ (.bool true)) := by
  have hr := h.list.set z (by rw [len_tvals, len_hotTo]; exact hz2) (.bool true)
  rw [tvals_set, hotTo_in _ t ht z hz] at hr
  refine ⟨⟨h.ins.own.kept (grown_setCell (World.grownBy.refl wr (some top)) ⟨top, z, none⟩ _ rfl) (Or.inr fun e => by have := h.ins.low _ e; omega), h.ins.len, h.ins.low, fun j hj => ?_, by rw [World.size_setCell]; exact h.ins.le, h.ins.bel.setCell (p := ⟨top, z, none⟩) htop _⟩, hr⟩
  obtain ⟨B, h1, h2, h3, h4, h5⟩ := h.ins.each j hj
  exact ⟨B, h1, h2, h3, h4, h5.other _ _ (by show B ≠ top; omega)⟩
theorem ListsMid.pass {w : World} {P : List (List Int)} {i top t : Nat} {v : Value} {vs : List Value} {wr : World} (h : ListsMid w P i top t v vs wr) (ht : t < (P.getD i []).length) (hz : ¬ (0 ≤ (P.getD i []).getD t 0 ∧ (P.getD i []).getD t 0 < 256)) : ListsMid w P i top (t + 1) v vs wr := ⟨h.ins, by rw [← hotTo_out _ t ht hz]; exact h.list⟩
/-- The list is appended. -/
theorem ListsMid.append {w : World} {P : List (List Int)} {i top : Nat} {v v' : Value} {vs : List Value} {wr wA w' : World} (h : ListsMid w P i top (P.getD i []).length v vs wr) (hA : Below wr.heap.size wr wA) (htop : w.heap.size ≤ top) (ho : OwnV 45 w' w.heap.size v' (vs ++ [.slice (some ⟨top, 0, none⟩) 256 256])) (hg : wA.grownBy w' v.ownBlock) (hbl : v'.ownBlock = v.ownBlock ∨ v'.ownBlock = some wA.heap.size) :
    ListsIn w P (i + 1) w'.heap.size v' (vs ++ [.slice (some ⟨top, 0, none⟩) 256 256]) w' := by
  have hlt := h.list.lt
  have hs := hA.size
  have hgs := hg.size
  have apart : ∀ B, B < wr.heap.size → v.ownBlock ≠ some B → v'.ownBlock ≠ some B := fun B hB hne e => by
    rcases hbl with hb | hb
    · rw [hb] at e; exact hne e
    · rw [hb] at e; simp only [Option.some.injEq] at e; omega
  refine ⟨ho, by rw [List.length_append, h.ins.len]; rfl, fun k hk => (World.ownsRow.lt ho k hk).2, fun j hj => ?_, Nat.le_refl _, ?_⟩
  · rcases Nat.lt_or_ge j i with hji | hji
    · obtain ⟨B, h1, h2, h3, h4, h5⟩ := h.ins.each j hji
      have hB := h5.lt
      refine ⟨B, ?_, h2, apart B hB h3, by omega, ?_⟩
      · rw [List.getD_eq_getElem?_getD, List.getElem?_append_left (by rw [h.ins.len]; exact hji), ← List.getD_eq_getElem?_getD]; exact h1
      · exact (h5.below hA).grown hg (fun e => h3 e.symm)
    · obtain rfl : j = i := by omega
      have hne : v.ownBlock ≠ some top := fun e => by have := h.ins.low _ e; omega
      refine ⟨top, ?_, htop, apart top hlt hne, by omega, ?_⟩
      · rw [List.getD_eq_getElem?_getD, List.getElem?_append_right (by rw [h.ins.len]; exact Nat.le_refl _), h.ins.len, Nat.sub_self]; rfl
      · exact (h.list.below hA).grown hg (fun e => hne e.symm)
  · have hbA := h.ins.bel.trans (hA.mono h.ins.bel.size)
    exact hbA.grown hg hbA.size (fun k hk => h.ins.own.fresh k hk)
theorem ListsIn.lists {w : World} {P : List (List Int)} {top : Nat} {v : Value} {vs : List Value} {wr : World} (h : ListsIn w P P.length top v vs wr) : ListsAt wr v (P.map hotB) := by
  refine ⟨vs, by rw [List.length_map]; exact h.len, h.own.vals, fun i hi => ?_⟩
  rw [List.length_map] at hi
  obtain ⟨B, h1, _, _, _, h5⟩ := h.each i hi
  have e : (P.map hotB).getD i [] = hotB (P.getD i []) := by simp [List.getD_eq_getElem?_getD, hi]
  rw [h1, e]
  exact (h5.own (Nat.le_refl B) 256 256 (by rw [len_tvals]; exact len_hotTo _ _) (by simp) (by simp only [maxLen]; omega)).vals
set_option maxRecDepth 100000 in
set_option maxHeartbeats 4000000 in
theorem places_main {R : World → Prop} (C : Round R) (D : RoundH R) (w0 : World) (hR : R w0) (x : Value) (P : List (List Int)) (hx : IListsAt w0 x P) (hP : P.length ≤ 30) (hPl : ∀ l ∈ P, l.length ≤ 4611686018427387904) (most : Int) :
    Calls Try.prog 7 #[x, .int .i64 most] w0 fun e w' => e = .returned (.bool true) ∧ Below w0.heap.size w0 w' := by
  have HC := hide C
  have HD := hide D
  have HR := hide hR
  have HX := hide hx
  have HPl := hide hPl
  obtain ⟨sp, c, rfl, _⟩ := ilists_open hx
  have dl : decide (30 < (P.length : Int)) = false := by simp; omega
  have dl2 : decide (30 < P.length) = false := by simp; omega
  have pb : (P.length : Int) ≤ 30 := by omega
  clear C D hR hx hPl
  go_enter Try.func7, Try.ntmps7
  go_wp2_with fail
  refine (anchor_any (unhide HC) w0 (unhide HR)).mono ?_
  rintro e w ⟨rfl, hb1⟩
  have HR1 := hide ((unhide HC).below _ _ (unhide HR) hb1)
  have HB1 := hide hb1
  obtain ⟨sp1, c1, e1, hop⟩ := ilists_open ((unhide HX).below hb1)
  simp only [Value.slice.injEq] at e1
  obtain ⟨rfl, _, rfl⟩ := e1
  have HOP := hide hop
  have HI : Hid (ListsIn w P 0 w.heap.size (.slice none 0 0) [] w) := ⟨own_nil _ _ _, rfl, fun k hk => (by cases hk), fun j hj => (by omega), Nat.le_refl _, Below.refl _ _⟩
  clear hb1 HR HX hop
  go_wp2
  go_loopw [5, 24] (fun v ii wr => ∃ (i top : Nat) (vs : List Value), i ≤ P.length ∧ ii = .int .i64 (i : Int) ∧ Hid (ListsIn w P i top v vs wr)) (fun _ ii _ => P.length - (intOf ii).toNat)
  case atStart => exact ⟨0, _, [], by omega, rfl, HI⟩
  case round =>
    clear HI
    obtain ⟨i, top, vs, hi, rfl, HI⟩ := hrel
    rename World => wo
    by_cases hlt : i < P.length
    · obtain ⟨b, o, rfl, hb, hcell⟩ := unhide HOP (by intro e; rw [e] at hlt; simp at hlt)
      obtain ⟨s, ci, hci, hin⟩ := hcell i hlt
      have hci' : wo.cell? ⟨b, o + i, none⟩ = some (.slice s (P.getD i []).length ci) := by rw [(unhide HI).bel.cell hb]; exact hci
      have Hin := hide hin
      have hll := unhide HPl (P.getD i []) (by rw [List.getD_eq_getElem?_getD, List.getElem?_eq_getElem hlt]; exact List.getElem_mem hlt)
      obtain ⟨W, hmk, hrow, hbel⟩ := made_vals Et rfl wo .i64 .i64 256 256 256 rfl rfl (by omega)
      have HM := hide ((unhide HI).begin hrow hbel)
      have hwt : w.heap.size ≤ wo.heap.size := (unhide HI).bel.size
      obtain ⟨Bn, hBn⟩ : ∃ Bn, wo.heap.size = Bn := ⟨_, rfl⟩
      rw [hBn] at HM hwt hmk
      have i0 : (0 : Int) ≤ (i : Int) := by omega
      have i1 : (i : Int) < (P.length : Int) := by omega
      have lb : ((P.getD i []).length : Int) ≤ 4611686018427387904 := by omega
      obtain ⟨p, hp⟩ : ∃ p, P.getD i [] = p := ⟨_, rfl⟩
      rw [hp] at hci' Hin lb
      have Hp := hide hp
      clear hcell hci hin hll hrow hbel HI hb hp hBn
      go_wp2
      clear hmk hci'
      go_loopw [31] (fun tt wr => ∃ t : Nat, t ≤ p.length ∧ tt = .int .i64 (t : Int) ∧ Hid (ListsMid w P i Bn t u5 vs wr)) (fun tt _ => p.length - (intOf tt).toNat)
      case atStart => exact ⟨0, by omega, rfl, HM⟩
      case round =>
        clear HM
        obtain ⟨t, ht, rfl, HM⟩ := hrel
        by_cases htl : t < p.length
        · obtain ⟨b2, o2, rfl, hb2, hc2⟩ := unhide Hin (by intro e; rw [e] at htl; simp at htl)
          have e1 : wr.cell? ⟨b2, o2 + t, none⟩ = some (.int .i64 (p.getD t 0)) := by rw [(unhide HM).ins.bel.cell hb2]; exact hc2 t htl
          have htl' : t < (P.getD i []).length := by rw [unhide Hp]; exact htl
          have t0 : (0 : Int) ≤ (t : Int) := by omega
          have t1 : (t : Int) < (p.length : Int) := by omega
          clear hc2 hb2
          by_cases hz : 0 ≤ p.getD t 0 ∧ p.getD t 0 < 256
          · obtain ⟨z, hze⟩ : ∃ z : Nat, p.getD t 0 = (z : Int) := ⟨(p.getD t 0).toNat, by omega⟩
            have hz2 : z < 256 := by omega
            have c3 := (unhide HM).list.cell z (by rw [len_tvals, len_hotTo]; exact hz2)
            have f3 := (unhide HM).list.frozen z
            have HS := hide ((unhide HM).put htl' z (by rw [unhide Hp]; exact hze) hz2 hwt)
            generalize (tvals (hotTo (P.getD i []) t)).getD z undef = old at c3
            rw [hze] at e1
            have z0 : (0 : Int) ≤ (z : Int) := by omega
            have z1 : (z : Int) < 256 := by omega
            have d2 : decide ((z : Int) < 256) = true := by simp; omega
            have d2' : decide (z < 256) = true := by simp; omega
            clear HM hz hze htl'
            go_wp2
            go_roundw
            case rel =>
              first
                | exact ⟨t + 1, by omega, by go_num, HS⟩
                | ((repeat apply Exists.intro); exact ⟨⟨t + 1, by omega, by go_num, HS⟩, rfl⟩)
            case measure => simp [intOf]; omega
          · have HS := hide ((unhide HM).pass htl' (by rw [unhide Hp]; exact hz))
            generalize p.getD t 0 = y at e1 hz
            clear HM htl'
            by_cases hy : 0 ≤ y
            · have d1 : decide (0 ≤ y) = true := by simp; omega
              have d2 : decide (y < 256) = false := by simp; omega
              go_wp2
              go_roundw
              case rel =>
                first
                  | exact ⟨t + 1, by omega, by go_num, HS⟩
                  | ((repeat apply Exists.intro); exact ⟨⟨t + 1, by omega, by go_num, HS⟩, rfl⟩)
              case measure => simp [intOf]; omega
            · have d1 : decide (0 ≤ y) = false := by simp; omega
              go_wp2
              go_roundw
              case rel =>
                first
                  | exact ⟨t + 1, by omega, by go_num, HS⟩
                  | ((repeat apply Exists.intro); exact ⟨⟨t + 1, by omega, by go_num, HS⟩, rfl⟩)
              case measure => simp [intOf]; omega
        · have htt : t = (P.getD i []).length := by rw [unhide Hp]; omega
          obtain rfl : t = p.length := by omega
          have hM := unhide HM
          rw [htt] at hM
          have HM2 := hide hM
          have hbA : Below wr.heap.size wr (wr.alloc (.cells #[.slice (some ⟨Bn, 0, none⟩) 256 256] 45)) := (Below.refl _ _).alloc (Nat.le_refl _) _
          have HbA := hide hbA
          have HO := hide (hM.ins.own.alloc (.cells #[.slice (some ⟨Bn, 0, none⟩) 256 256] 45))
          have HV := hide (vals_new wr [.slice (some ⟨Bn, 0, none⟩) 256 256] 45)
          have Hs := hide (Nat.le_trans hM.ins.bel.size hbA.size)
          have Hl := hide (show vs.length + [Value.slice (some ⟨Bn, 0, none⟩) 256 256].length ≤ 1073741824 by rw [hM.ins.len, List.length_singleton]; omega)
          clear HM hM hbA htt
          go_wp2_with (at_builtin; refine wpList_append_vals El rfl _ _ rfl w.heap.size _ _ vs [.slice (some ⟨Bn, 0, none⟩) 256 256] rfl (unhide HO) rfl (unhide HV) (by simp [Value.oneCell']) (unhide Hs) (unhide Hl) ?_
                       intro v2 w2 hO2 hg2 hbl2
                       have HI2 := hide ((unhide HM2).append (unhide HbA) hwt hO2 hg2 hbl2)
                       clear hO2 hg2 hbl2)
          go_roundw
          case rel =>
            first
              | exact ⟨i + 1, _, _, by omega, by go_num, HI2⟩
              | ((repeat apply Exists.intro); exact ⟨⟨i + 1, _, _, by omega, by go_num, HI2⟩, rfl⟩)
          case measure => simp [intOf]; omega
    · obtain rfl : i = P.length := by omega
      have HLs := hide (unhide HI).lists
      have HBo := hide ((unhide HB1).trans ((unhide HI).bel.mono (unhide HB1).size))
      have HRo := hide ((unhide HC).below _ _ (unhide HR1) (unhide HI).bel)
      have hlen : (P.map hotB).length = P.length := by simp
      have h256 : ∀ l ∈ P.map hotB, l.length = 256 := fun l hl => by obtain ⟨q, _, rfl⟩ := List.mem_map.1 hl; exact len_hotTo _ _
      have H256 := hide h256
      obtain ⟨sv, cv, hv⟩ := (unhide HLs).form
      rw [hlen] at hv
      subst hv
      obtain ⟨L, hLe⟩ : ∃ L, P.map hotB = L := ⟨_, rfl⟩
      rw [hLe] at HLs H256 hlen
      have h1000 : Hid (∀ l ∈ L, l.length ≤ 1000) := fun l hl => by rw [unhide H256 l hl]; omega
      clear HI h256 hLe
      go_wp2_with fail
      refine ((unhide HD).packH wo _ L most (unhide HRo) (unhide HLs) (by omega) (unhide h1000)).mono ?_
      rintro e w2 (⟨hH, v2, rfl, hO2, hb2⟩ | ⟨hH, v2, rfl, hO2, hb2⟩)
      · have HLs2 := hide ((unhide HLs).below hb2)
        have HR2 := hide ((unhide HC).below _ _ (unhide HRo) hb2)
        have HB2 := hide ((unhide HBo).trans (hb2.mono (unhide HBo).size))
        have HO2 := hide hO2
        have HH := hide hH
        clear hO2 hb2 hH HLs HRo HBo
        go_wp2_with fail
        refine (refPackH_any w2 _ L most (unhide HLs2) (by omega) (fun l hl => by rw [unhide H256 l hl]; omega)).mono ?_
        rintro e w3 (⟨_, v3, rfl, hO3, hb3⟩ | ⟨hno, _⟩)
        · have hbl : (hintBytes most.toNat L).length ≤ 1000 := by
            have h := unhide HH
            have h0 := h.1
            have h1 := h.2.1
            have h2 := h.2.2.1
            have h4 := h.2.2.2.2
            rw [len_hint (by omega)]
            omega
          have h8 : ∀ z ∈ hintBytes most.toNat L, z < 256 := fun z hz => by
            have h := unhide HH
            have h0 := h.1
            have h1 := h.2.1
            have h3 := h.2.2.2.1
            have h4 := h.2.2.2.2
            unfold hintBytes at hz
            rw [List.append_assoc, List.mem_append, List.mem_append] at hz
            rcases hz with hz | hz | hz
            · unfold placesAll at hz
              obtain ⟨l, hl, hz⟩ := List.mem_flatMap.1 hz
              unfold placesOf at hz
              have := (List.mem_filter.1 hz).1
              rw [List.mem_range, h3 l hl] at this
              exact this
            · rw [List.eq_of_mem_replicate hz]; omega
            · unfold endsOf at hz
              obtain ⟨j, _, rfl⟩ := List.mem_map.1 hz
              have := placesAll_mono L (j + 1)
              omega
          have HLs3 := hide ((unhide HLs2).below hb3)
          have HR3 := hide ((unhide HC).below _ _ (unhide HR2) hb3)
          have HB3 := hide ((unhide HB2).trans (hb3.mono (unhide HB2).size))
          have HO2' := hide ((unhide HO2).below hb3)
          have HO3 := hide hO3
          have H8 := hide h8
          have HYES : Hid (HintsOf (hintBytes most.toNat L) (P.length : Int) most L) := ⟨unhide HH, by omega, rfl⟩
          generalize hintBytes most.toNat L = bs at HO2' HO3 H8 HYES hbl
          clear hO3 hb3 h8 HLs2 HR2 HB2 HO2
          go_wp2_with fail
          refine (bsame_eq w3 _ _ bs (unhide HO2').vals (unhide HO3).vals (by omega)).mono ?_
          rintro e w4 ⟨rfl, hb4⟩
          have HLs4 := hide ((unhide HLs3).below hb4)
          have HR4 := hide ((unhide HC).below _ _ (unhide HR3) hb4)
          have HB4 := hide ((unhide HB3).trans (hb4.mono (unhide HB3).size))
          have HO4 := hide ((unhide HO2').below hb4)
          clear hb4 HLs3 HR3 HB3 HO2' HO3
          go_wp2_with fail
          refine ((unhide HD).unpackH w4 _ bs (P.length : Int) most (unhide HR4) (unhide HO4).vals (unhide H8) hbl).mono ?_
          rintro e w5 (⟨L', hL', v5, rfl, hO5, hb5⟩ | ⟨hno, _⟩)
          · have hLL : L' = L := (hintsOf_only hL').trans (hintsOf_only (unhide HYES)).symm
            rw [hLL] at hO5
            have HLs5 := hide ((unhide HLs4).below hb5)
            have HB5 := hide ((unhide HB4).trans (hb5.mono (unhide HB4).size))
            have HO5 := hide hO5
            clear hO5 hb5 hL' hLL HLs4 HR4 HB4 HO4
            go_wp2_with fail
            refine (lsame_eq w5 _ _ L (unhide HO5) (unhide HLs5) (by omega) (unhide h1000)).mono ?_
            rintro e w5 ⟨rfl, rfl⟩
            go_wp2
            go_ret
            exact ⟨rfl, unhide HB5⟩
          · exact absurd (unhide HYES) (hno L)
        · exact absurd (unhide HH) hno
      · have HLs2 := hide ((unhide HLs).below hb2)
        have HB2 := hide ((unhide HBo).trans (hb2.mono (unhide HBo).size))
        have HO2 := hide hO2
        have HH := hide hH
        clear hO2 hb2 hH HLs HRo HBo
        go_wp2_with fail
        refine (refPackH_any w2 _ L most (unhide HLs2) (by omega) (fun l hl => by rw [unhide H256 l hl]; omega)).mono ?_
        rintro e w3 (⟨hyes, _⟩ | ⟨_, v3, rfl, hO3, hb3⟩)
        · exact absurd hyes (unhide HH)
        · have HB3 := hide ((unhide HB2).trans (hb3.mono (unhide HB2).size))
          have HO2' := hide ((unhide HO2).below hb3)
          have HO3 := hide hO3
          clear hO3 hb3 HLs2 HB2 HO2
          go_wp2_with fail
          refine (bsame_eq w3 _ _ [] (unhide HO2') (unhide HO3) (by simp)).mono ?_
          rintro e w4 ⟨rfl, hb4⟩
          have HB4 := hide ((unhide HB3).trans (hb4.mono (unhide HB3).size))
          clear hb4
          go_wp2
          go_ret
          exact ⟨rfl, unhide HB4⟩
set_option maxRecDepth 100000 in
set_option maxHeartbeats 2000000 in
theorem roundPlaces_any {R : World → Prop} (C : Round R) (D : RoundH R) (w : World) (hR : R w) (x : Value) (P : List (List Int)) (hx : IListsAt w x P) (hPl : ∀ l ∈ P, l.length ≤ 4611686018427387904) (most : Int) :
    Calls Try.prog 7 #[x, .int .i64 most] w fun e w' => e = .returned (.bool true) ∧ Below w.heap.size w w' := by
  by_cases hP : P.length ≤ 30
  · exact places_main C D w hR x P hx hP hPl most
  · have HC := hide C
    have HR := hide hR
    obtain ⟨sp, c, rfl, _⟩ := ilists_open hx
    have dl : decide (30 < (P.length : Int)) = true := by simp; omega
    have dl2 : decide (30 < P.length) = true := by simp; omega
    clear C D hR hx hPl
    go_enter Try.func7, Try.ntmps7
    go_wp2_with fail
    refine (anchor_any (unhide HC) w (unhide HR)).mono ?_
    rintro e w1 ⟨rfl, hb1⟩
    have HB1 := hide hb1
    clear hb1
    go_wp2
    go_ret
    exact ⟨rfl, unhide HB1⟩
end Go.Proofs.Ythciafobknaipaa
