/-
  StoreLays: a row of records beside a store; what a round's end leaves.
  append(s, make([]byte, k)...), onto a row of bytes of one's own.
  The walk of the reference's Mark.
-/
import Derived.Test.YtbjgknoipbekoaaGreatQ33
import Derived.Test.YtbjgknoipbekoaaGreatQ34
import Derived.Test.YtbjgknoipbekoaaGreatQ30
import Derived.Lib.AppendZerosOnto
import Derived.Test.YtbjgknoipbekoaaGreatQ3
namespace Go.Proofs.YtbjgknoipbekoaaGreat
open Go.RowKit
theorem ref_same {r : RS} {l : List Ch} (h : (refC r l).2 ≠ 0 ∨ l = []) : (refC r l).1 = r := by
  unfold refC at h ⊢
  split
  · rfl
  · split
    · rfl
    · split
      · rename_i h1 h2 h3
        rw [if_neg h1, if_neg h2, if_pos h3] at h
        exact (h.elim (fun h => h rfl) h2).elim
      · split
        · rfl
        · rename_i h1 h2 h3 h4
          rw [if_neg h1, if_neg h2, if_neg h3, if_neg h4] at h
          exact (h.elim (fun h => h rfl) h2).elim
theorem rec_same {r : RS} {l : List Ch} (h : (refC r l).2 ≠ 0 ∨ l = []) (rc : List Bs) : recC r rc l = rc := by
  unfold recC
  rw [if_pos h]
theorem rec_new {r r1 : RS} {l : List Ch} (h : refC r l = (r1, 0)) (hl : l ≠ []) (hg : r1.gen ≠ r.gen) (rc : List Bs) : recC r rc l = [wrL (allP r1.pairs)] := by
  unfold recC
  rw [h, if_neg (fun h => h.elim (fun h => h rfl) hl), if_pos hg]
theorem rec_more {r r1 : RS} {l : List Ch} (h : refC r l = (r1, 0)) (hl : l ≠ []) (hg : r1.gen = r.gen) (rc : List Bs) : recC r rc l = rc ++ [wrL l] := by
  unfold recC
  rw [h, if_neg (fun h => h.elim (fun h => h rfl) hl), if_neg (fun h => h hg)]
theorem ref_good {r r1 : RS} {l : List Ch} (h : refC r l = (r1, 0)) : RightL l := by
  unfold refC at h
  by_cases hl : RightL l
  · exact hl
  · rw [if_pos hl] at h
    exact absurd (Prod.mk.inj h).2 (by decide)
/-- Records are no longer than a record can be. -/
theorem stands_short {g : Nat} : ∀ {rs : List (Bs × Nat)} {l : List Bs} {low m : Nat}, Stands g l low m rs → ∀ x ∈ rs, x.1.length ≤ 65536
  | [], _, _, _, _, x, hx => by cases hx
  | (b, o) :: rs, l, low, m, h, x, hx => by
    rcases List.mem_cons.1 hx with rfl | h2
    · exact h.1.big
    · exact stands_short h.2 x h2
theorem own_single (w : World) (v : Value) (base : Nat) (hb : base ≤ w.heap.size) : OwnV 23 (w.alloc (.cells #[v] 23)) base (.slice (some ⟨w.heap.size, 0, none⟩) 1 1) [v] := ⟨rfl, Or.inr ⟨w.heap.size, 1, #[v], rfl, hb, heap_alloc_new w _, Nat.le_refl _, by simp [maxLen], rfl, rfl⟩⟩
/-- The blocks of B, and a row's own. -/
def B2 (B : Set_) (x : Value) : Set_ := fun j => B j ∨ x.ownBlock = some j
section
variable {X X' T : Set_} {w w' w0 : World} {base : Nat} {x : Value} {vs : List Value} {l : List Bs}
/-- What is written lies in X, and less is kept out. -/
theorem WtAt.past (h : WtAt X none_ none_ none_ w base x vs l) (ha : Aside T w w') (hT : ∀ k, T k → X k) (hX : ∀ k, k < w.heap.size → X' k → X k) : WtAt X' none_ none_ none_ w' base x vs l :=
  h.app (ha.mono fun j _ hj => Or.inl (hT j hj)) fun k hk ho => ⟨⟨fun h => ho.1.1 (hX k hk h), fun h => h⟩, fun h => h, fun h => h⟩
/-- A row of one. -/
theorem wt_single {v : Value} {b : Bs} (hv : BytesAt w v b) (hX : ∀ k, X k → k < w.heap.size) (hk : ∀ k, b ≠ [] → v.ownBlock = some k → ¬ X k ∧ k < w.heap.size) (hb : base ≤ w.heap.size) : WtAt X none_ none_ none_ (w.alloc (.cells #[v] 23)) base (.slice (some ⟨w.heap.size, 0, none⟩) 1 1) [v] [b] := by
  have hs : (w.alloc (.cells #[v] 23)).heap.size = w.heap.size + 1 := by simp
  refine ⟨own_single w v base hb, rfl, fun i u c h1 h2 => ?_, fun k hk2 => ?_⟩
  · match i, h1, h2 with
    | 0, h1, h2 =>
      simp only [List.getElem?_cons_zero, Option.some.injEq] at h1 h2
      subst h1
      subst h2
      refine ⟨hv.below ((Below.refl _ _).alloc (Nat.le_refl _) _), fun k hne hk1 => ⟨⟨⟨(hk k hne hk1).1, fun h => h⟩, fun h => h, fun h => h⟩, fun e => ?_, ?_⟩⟩
      · have h1 := (hk k hne hk1).2
        have h2 : w.heap.size = k := Option.some.inj e
        omega
      · have h1 := (hk k hne hk1).2
        omega
    | i + 1, h1, h2 => simp at h1
  · have h2 : w.heap.size = k := Option.some.inj hk2
    exact ⟨⟨fun h => by have := hX k h; omega, fun h => h⟩, fun h => h, fun h => h⟩
theorem WtAt.row_lt (h : WtAt X none_ none_ none_ w base x vs l) {k : Nat} (hk : x.ownBlock = some k) : base ≤ k ∧ k < w.heap.size ∧ ¬ X k := ⟨(World.ownsRow.lt h.own k hk).1, (World.ownsRow.lt h.own k hk).2, (h.off k hk).1.1⟩
end
section
variable {w0 w w' : World} {B B' X T : Set_} {A : Nat} {ps : List (Bs × Bs)} {h g u : Nat} {rv : Value}
theorem RV.setB (H : RV w0 w B X A ps h g u rv) (hB : ∀ j, j < w.heap.size → B' j → B j) : RV w0 w B' X A ps h g u rv :=
  ⟨H.row, fun hb => H.out (hB _ (lt_of_row H.row) hb), H.ge, H.prs.mono fun k hk h => ⟨fun hb => h.1 (hB k hk hb), h.2⟩⟩
theorem RV.stand (H : RV w0 w B X A ps h g u rv) (ha : Aside T w w') (hT : ∀ j, T j → B j) : RV w0 w' B X A ps h g u rv :=
  ⟨(ha.block A (lt_of_row H.row) fun h => H.out (hT A h)).trans H.row, H.out, H.ge, H.prs.aside ha fun k hk h => h.1 (hT k hk)⟩
end
/-- THE END OF A ROUND: the variable is written over. -/
theorem lay_end {PAt : Set_ → Set_ → World → Value → PS → Prop} {SAt : Set_ → Set_ → World → Value → Value → SS → Prop} (HP : Plate PAt) (HS : Store PAt SAt) {n k : Nat} {w w1 : World} {p t : Value} {B : Set_} {rc : List Bs} {A H g u H1 g1 u1 base : Nat} {ps ps1 : List (Bs × Bs)} {rv qv x : Value} {vs : List Value}
    (h1 : SysR PAt SAt n w w1 p t ⟨H1, g1, u1, ps1⟩ k B rc) (h2 : RV w w1 (B2 B x) (fun j => j = A) A ps H g u rv) (h3 : PrsAt (fun j => ¬ B2 B x j ∧ ¬ j = A) w1 qv ps1) (h4 : WtAt (fun j => B j ∨ j = A) none_ none_ none_ w1 base x vs rc) :
    ∃ W, W = put4 w1 A (.int .i64 (H1 : Int)) (.int .i64 (g1 : Int)) (.int .i64 (u1 : Int)) qv ∧ SysR PAt SAt n w W p t ⟨H1, g1, u1, ps1⟩ k B rc ∧ RV w W (B2 B x) (fun j => j = A) A ps1 H1 g1 u1 qv ∧ WtAt (fun j => B j ∨ j = A) none_ none_ none_ W base x vs rc := by
  have ha := put4_aside w1 A (.int .i64 (H1 : Int)) (.int .i64 (g1 : Int)) (.int .i64 (u1 : Int)) qv
  refine ⟨_, rfl, h1.aside HP HS ha (fun j hj hB => h2.out (Or.inl (hj ▸ hB))) (fun j hj => ?_), h2.put rfl h3, h4.past ha (fun k hk => Or.inr hk) fun k _ hk => hk⟩
  have e : j = A := hj
  rw [e]
  exact h2.ge
end Go.Proofs.YtbjgknoipbekoaaGreat
namespace Go.Proofs.YtbjgknoipbekoaaGreat
open Go.RowKit
theorem zero_cells (k : Nat) : Builtin.zeroCells (Value.int IntKind.u8 0).cells k = (List.replicate k (Value.int .u8 0)).toArray := by
  have h1 : (Value.int IntKind.u8 0).cells = #[Value.int IntKind.u8 0] := rfl
  apply Array.ext
  · simp [Builtin.zeroCells, h1]
  · intro j h2 h3
    simp [Builtin.zeroCells, h1, Nat.mod_one]
theorem zeros_append (w : World) (base : Nat) (v : Value) (l : Bs) (n k : Nat) (hown : OwnB w base v l) (hn : l.length = n) (h1 : 1 ≤ n) (hk : n + k ≤ 1000) (hb : base ≤ w.heap.size) (ty : TypeId) :
    ∃ v' w', (Builtin.append_ #[23, 3] ty #[v, .int .i64 (k : Int)]).run Tryz.prog w = .ok v' w' ∧ OwnB w' base v' (l ++ List.replicate k 0) ∧ w.grownBy w' v.ownBlock := by
  obtain ⟨hu, ⟨i, hi, hz, hsz, hby⟩, hone, _⟩ := Eb
  have htn : Tryz.prog.underlying 3 = some (.int .i64) := by kernel_rfl
  have hlm : (l.map bv).length = n := by rw [List.length_map, hn]
  have hwrap : IntKind.i64.wrap (k : Int) = k := by rw [IntKind.wrap_i64]; omega
  have hneg : ¬ ((k : Int) < 0) := by omega
  have h48i : ¬ (281474976710656 < (k : Int) * (i.bytes : Int)) := by rw [hby]; omega
  rcases hown.2 with ⟨rfl, hl0⟩ | ⟨g, cap, cur, rfl, hbg, hg, hnc, hcm, hcs, htake⟩
  · omega
  · rw [hlm] at hnc htake
    rw [Nat.mul_one] at hcs htake
    have hown' := hown
    simp only [OwnB, OwnV] at hown'
    rw [hlm] at hown' ⊢
    by_cases hk0 : k = 0
    · subst hk0
      refine ⟨.slice (some ⟨g, 0, none⟩) n cap, w, ?_, ?_, World.grownBy.refl _ _⟩
      · have hw0 : IntKind.i64.wrap (0 : Int) = 0 := by rw [IntKind.wrap_i64]; rfl
        simp [Builtin.append_, run_underlying hu, run_underlying htn, Go.sizeOf, typeInfo, hi, asInt, asIntOf, hw0, hnc, storeCells]
      · rw [List.replicate_zero, List.append_nil]
        show w.ownsRow base 5 1 _ (l.map bv).length (l.map bv)
        rw [hlm]
        exact hown'
    · have hrep : ∀ u ∈ List.replicate k (Value.int IntKind.u8 0), u.oneCell' = true := fun u hu => by rw [List.eq_of_mem_replicate hu]; rfl
      have hlr : ((l ++ List.replicate k 0).map bv) = l.map bv ++ List.replicate k (.int .u8 0) := by rw [List.map_append, List.map_replicate]; rfl
      have hll : (l.map bv ++ List.replicate k (Value.int IntKind.u8 0)).length = n + k := by rw [List.length_append, hlm, List.length_replicate]
      by_cases hroom : n + k ≤ cap
      · have hst := run_storeCells_at (P := Tryz.prog) g n 5 (List.replicate k (.int .u8 0)) 0 cur w hg (by rw [List.length_replicate]; omega) hrep
        simp only [Nat.add_zero, List.length_replicate] at hst
        refine ⟨.slice (some ⟨g, 0, none⟩) (n + k) cap, w.setRow g (cur.toList.take n ++ List.replicate k (Value.int .u8 0) ++ cur.toList.drop (n + k)).toArray, ?_, ?_, ⟨rfl, rfl, rfl, by simp, fun j _ hj => setRow_other w g j _ (fun e => hj (by simp [Value.ownBlock, e]))⟩⟩
        · simp [Builtin.append_, run_underlying hu, run_underlying htn, Go.sizeOf, typeInfo, zeroValue, hi, hz, hsz, asInt, asIntOf, hwrap, hneg, h48i, hk0, hroom, zero_cells, Addr.add_lit, hst]
        · show World.ownsRow _ base 5 1 _ ((l ++ List.replicate k 0).map bv).length ((l ++ List.replicate k 0).map bv)
          rw [hlr, hll]
          refine ⟨by rw [hll, Nat.mul_one], .inr ⟨g, cap, _, rfl, hbg, setRow_heap w g cur _ 5 _ hg, hroom, hcm, ?_, ?_⟩⟩
          · simp only [List.size_toArray, List.length_append, List.length_take, List.length_drop, Array.length_toList, List.length_replicate]
            omega
          · rw [htake, Nat.mul_one, ← hll]
            exact List.take_left
      · have holds : ∀ j u, (l.map bv)[j]? = some u → w.drew.cell? ((⟨g, 0, none⟩ : Addr).add j) = some u := hown.cells (g := g) rfl
        have hf := run_firstCells_some (P := Tryz.prog) w.drew i.size n ⟨g, 0, none⟩ n cap (l.map bv) (by rw [hsz, hlm, Nat.mul_one]) holds
        have hr := Go.Lib.run_append_grow_zeros (P := Tryz.prog) w 23 3 ty 5 i (.int .u8 0) .i64 .i64 hu htn hi hz (some ⟨g, 0, none⟩) n cap (l.map bv) hf k (by omega) (by omega) (by omega) (by omega) (by rw [hby]; omega) (growslice_fits (by omega) (by rw [hby]; omega))
        have hge := grownCap_ge w (n + k) cap 5
        have hcm2 : grownCap w (n + k) cap 5 ≤ maxLen := grownCap_le_maxLen w (n + k) cap 5 (by simp only [maxLen]; omega)
        refine ⟨_, _, hr, ?_, ⟨rfl, rfl, rfl, by simp, fun j hj _ => heap_alloc_old w.drew _ hj⟩⟩
        show World.ownsRow _ base 5 1 _ ((l ++ List.replicate k 0).map bv).length ((l ++ List.replicate k 0).map bv)
        rw [hlr, hll]
        refine ⟨by rw [hll, Nat.mul_one], .inr ⟨w.heap.size, _, _, rfl, hb, heap_alloc_new w.drew _, hge, hcm2, ?_, ?_⟩⟩
        · simp only [Array.size_append, List.size_toArray, zero_cells, hlm, List.length_replicate]
          omega
        · rw [zero_cells, zero_cells, Nat.mul_one]
          simp only [Array.toList_append]
          rw [← hll]
          exact List.take_left
end Go.Proofs.YtbjgknoipbekoaaGreat
namespace Go.Proofs.YtbjgknoipbekoaaGreat
open Go.RowKit
theorem ownb_row5 (w : World) : Row w (w.alloc (.cells #[] 5)) (.slice (some ⟨w.heap.size, 0, none⟩) 0 0) [] := ⟨ownb_empty w, (Below.refl _ _).alloc (Nat.le_refl _) _⟩
theorem nat_byte (w : World) (p : Nat) (hp : p < 256) : BytesAt (w.alloc (.cells #[.int .u8 (p : Int)] 5)) (.slice (some ⟨w.heap.size, 0, none⟩) 1 1) [UInt8.ofNat p] := by
  have h := bytes_new w [UInt8.ofNat p]
  have e : (UInt8.ofNat p).toNat = p := by rw [UInt8.toNat_ofNat', Nat.mod_eq_of_lt (by omega)]
  simp only [List.map_cons, List.map_nil, bv, e, List.length_cons, List.length_nil] at h
  exact h
theorem not_byte (x : UInt8) : UInt8.ofNat (255 - x.toNat) = 255 - x := by
  have h := x.toNat_lt
  apply UInt8.toNat_inj.1
  rw [UInt8.toNat_ofNat', Nat.mod_eq_of_lt (by omega), UInt8.toNat_sub_of_le _ _ (by rw [UInt8.le_iff_toNat_le]; show x.toNat ≤ 255; omega)]
  rfl
theorem not_take {b : Bs} {i : Nat} (h : i < b.length) : (b.take i).map (fun x => 255 - x) ++ [UInt8.ofNat (255 - (b.getD i 0).toNat)] = (b.take (i + 1)).map (fun x => 255 - x) := by
  rw [not_byte, List.take_add_one, List.getElem?_eq_getElem h, List.map_append, List.getD_eq_getElem?_getD, List.getElem?_eq_getElem h]
  rfl
set_option maxRecDepth 100000 in
set_option maxHeartbeats 4000000 in
theorem rmark_c (w : World) (g : Nat) (hg : g ≤ 4294967296) : GivesB w 30 #[.int .i64 (g : Int)] (markB g) := by
  have HB := hide (big_any w g 4 (by omega) (by omega))
  obtain ⟨bb, hbb⟩ : ∃ y, bigB g 4 = y := ⟨_, rfl⟩
  have hl4 : bb.length = 4 := by rw [← hbb]; exact big_len _ _
  have HM : Hid (bb ++ (bb.map fun x => 255 - x) ++ List.replicate 56 0 = markB g) := by show _ = _; rw [← hbb]; rfl
  rw [hbb] at HB
  have HL := hide hl4
  clear hbb hl4
  go_enter Tryz.func30, Tryz.ntmps30
  go_upto_region 2 with (go_at_call 55; refine (unhide HB).mono ?_; rintro e w1 ⟨v1, rfl, hR1⟩)
  obtain ⟨s1, c1, e1⟩ := hR1.own.form
  rw [unhide HL] at e1
  subst e1
  have HR1 := hide hR1
  have HRa := hide (ownb_row5 w1)
  have HXa : Hid (BytesAt (w1.alloc (.cells #[] 5)) (.slice s1 4 c1) bb) := hR1.bytes.below ((Below.refl _ _).alloc (Nat.le_refl _) _)
  have HLa : Hid (([] : Bs).length + bb.length ≤ 1073741824) := by show _ ≤ _; rw [unhide HL]; simp
  clear hR1 HB
  go_upto_region 3 with (first
    | (at_builtin; have _t := HRa; refine wpList_append_row rfl _ _ rfl (.slice (some ⟨w1.heap.size, 0, none⟩) 0 0) (.slice s1 4 c1) [] bb rfl (unhide HRa) rfl (unhide HXa) (unhide HLa) ?_
       intro va w5 hRa5
       rw [List.nil_append] at hRa5
       obtain ⟨sa, ca, ea⟩ := hRa5.own.form
       rw [unhide HL] at ea
       subst ea
       have HRa5 := hide hRa5
       clear hRa5 HRa))
  have HX5 := hide ((unhide HR1).bytes.below (unhide HRa5).b)
  have HRs : Hid (Row w1 w5 (.slice sa 4 ca) (bb ++ (bb.take 0).map fun x => 255 - x)) := by
    have h := unhide HRa5
    rw [List.take_zero, List.map_nil, List.append_nil]
    exact h
  clear HRa5 HXa HLa
  go_wp2
  go_loopw [4, 5] (fun ov ii wr => ∃ (i n c : Nat) (so : Option Addr), i ≤ 4 ∧ n = 4 + i ∧ ov = .slice so n c ∧ ii = .int .i64 (i : Int) ∧ Hid (Row w1 wr (.slice so n c) (bb ++ (bb.take i).map fun x => 255 - x))) (fun _ ii _ => 4 - (intOf ii).toNat)
  case atStart => exact ⟨0, 4, ca, sa, by omega, rfl, rfl, rfl, HRs⟩
  case round =>
    obtain ⟨i, n, c, so, hi, hn, rfl, rfl, HR⟩ := hrel
    clear HRs
    by_cases hlt : i < 4
    · have f1 : decide ((i : Int) < 4) = true := by simp; omega
      have f1n : decide (i < 4) = true := by simp; omega
      have j0 : (0 : Int) ≤ (i : Int) := by omega
      have j1 : (i : Int) < 4 := by omega
      have hx := (unhide HR1).bytes.below (unhide HR).b
      obtain ⟨sp, cp, e9, _, _, hcl⟩ := bytes_open hx
      obtain ⟨g0, o0, rfl, _, hcell⟩ := hcl (by intro e; have := unhide HL; rw [e] at this; simp at this)
      rw [unhide HL] at e9
      simp only [Value.slice.injEq] at e9
      obtain ⟨rfl, _, rfl⟩ := e9
      have k1 := hcell i (by rw [unhide HL]; exact hlt)
      have hp := (bb.getD i 0).toNat_lt
      have HT := hide (not_take (b := bb) (i := i) (by rw [unhide HL]; exact hlt))
      obtain ⟨p, hpe⟩ : ∃ p, (bb.getD i 0).toNat = p := ⟨_, rfl⟩
      rw [hpe] at k1 hp HT
      obtain ⟨q, hq⟩ : ∃ q, 255 - p = q := ⟨_, rfl⟩
      rw [hq] at HT
      have u8s : IntKind.u8.wrap (255 - (p : Int)) = (q : Int) := by rw [IntKind.wrap_u8']; omega
      have hqb : q < 256 := by omega
      have HQ := hide (nat_byte wr q hqb)
      have HR2 := hide ((unhide HR).call ((Below.refl _ _).alloc (Nat.le_refl _) (.cells #[.int .u8 (q : Int)] 5)))
      have HL2 : Hid ((bb ++ (bb.take i).map fun x => 255 - x).length + [UInt8.ofNat q].length ≤ 1073741824) := by show _ ≤ _; rw [List.length_append, List.length_map, List.length_take, unhide HL]; simp; omega
      have HL3 : Hid ((bb ++ (bb.take (i + 1)).map fun x => 255 - x).length = n + 1) := by show _ = _; rw [List.length_append, List.length_map, List.length_take, unhide HL]; omega
      have HNn := hide hn
      clear hx hcl hcell hpe hq hn HR
      go_wp2_with (at_builtin; have _t := HR2; refine wpList_append_row rfl _ _ rfl (.slice so n c) (.slice (some ⟨wr.heap.size, 0, none⟩) 1 1) _ [UInt8.ofNat q] rfl (unhide HR2) rfl (unhide HQ) (unhide HL2) ?_
                   intro vb w6 hRb6
                   rw [List.append_assoc, unhide HT] at hRb6
                   obtain ⟨sb, cb, eb⟩ := hRb6.own.form
                   rw [unhide HL3] at eb
                   subst eb
                   have HR6 := hide hRb6
                   clear hRb6)
      exact ⟨⟨i + 1, n + 1, cb, sb, hlt, by have := unhide HNn; omega, rfl, by go_num, HR6⟩, by simp [intOf]; omega⟩
    · obtain rfl : i = 4 := by omega
      subst hn
      have f1 : decide ((4 : Int) < 4) = false := by decide
      have HR4 : Hid (Row w1 wr (.slice so 8 c) (bb ++ bb.map fun x => 255 - x)) := by
        have h := unhide HR
        rw [List.take_of_length_le (by rw [unhide HL]; omega)] at h
        exact h
      obtain ⟨vz, wz, hrz, hoz, hgz2⟩ := zeros_append wr w1.heap.size (.slice so 8 c) (bb ++ bb.map fun x => 255 - x) 8 56 (unhide HR4).own (by rw [List.length_append, List.length_map, unhide HL]) (by decide) (by decide) (unhide HR4).b.size 23
      have Hz : Hid (Row w1 wz vz (bb ++ (bb.map fun x => 255 - x) ++ List.replicate 56 0)) := ⟨hoz, ownb_below (unhide HR4).own hgz2 (unhide HR4).b (unhide HR4).b.size⟩
      have Hrz := hide hrz
      clear hrz hoz hgz2 HR HR4
      go_wp2_with (at_builtin; refine Go.Lib.wpList_append_run _ rfl _ _ 23 3 rfl (.slice so 8 c) (.int .i64 56) rfl rfl vz wz (unhide Hrz) ?_)
      go_ret
      refine ⟨vz, rfl, ?_⟩
      have h := (unhide Hz).up (unhide HR1).b
      rw [unhide HM] at h
      exact h
end Go.Proofs.YtbjgknoipbekoaaGreat
