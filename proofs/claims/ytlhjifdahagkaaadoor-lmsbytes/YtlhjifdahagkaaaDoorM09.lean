/-
  The walk of the landed leaf.keyOf.
-/
import Derived.Test.YtlhjifdahagkaaaDoorM08
namespace Go.Proofs.YtlhjifdahagkaaaDoor
open Go.RowKit
theorem ValsAt.set_other {w : World} {x : Value} {cs : List Value} (h : ValsAt w x cs) (B i : Nat) (v : Value) (hne : x.ownBlock ≠ some B) : ValsAt (w.setCell ⟨B, i, none⟩ v) x cs :=
  ValsAt.grown h (grown_setCell (World.grownBy.refl _ _) ⟨B, i, none⟩ v rfl) hne
theorem dig_at {w : World} {db dc p : Nat} {D : Bs} {wd : Nat} (h : ValsAt w (.slice (some ⟨db, 0, none⟩) p dc) (dvals D wd p)) (i : Nat) (hi : i < p) : w.cell? ⟨db, i, none⟩ = some (.int .i64 (digit D wd i : Int)) := by
  obtain ⟨b', o', c', e', _, _, hc'⟩ := h.cell (by intro e0; have := congrArg List.length e0; rw [len_dvals] at this; simp at this; omega)
  simp only [Value.slice.injEq, Option.some.injEq, Addr.mk.injEq] at e'
  obtain ⟨⟨rfl, rfl, _⟩, _, _⟩ := e'
  have := hc' i (by rw [len_dvals]; exact hi)
  rw [Nat.zero_add] at this
  rw [this, dvals_get _ _ _ _ hi]
set_option maxRecDepth 100000 in
set_option maxHeartbeats 4000000 in
theorem keyof_c {R : World → Prop} {H : Bs → Bs} (C : CHash R H) (w0 : World) (hr : R w0) (xi xc xp xm : Value) (id cc ps msg : Bs) (hi : BytesAt w0 xi id) (hc : BytesAt w0 xc cc) (hps : BytesAt w0 xp ps) (hm : BytesAt w0 xm msg) (li : id.length ≤ 1000) (lc : cc.length ≤ 1000) (lm : msg.length ≤ 1000) (wd : Nat) (hw : IsW wd) (lps : ps.length = 32 * pW wd) (k : Int) (q : Nat) (hq : q < 4294967296) :
    GivesB w0 82 #[.agg #[.int .i64 (wd : Int), .int .i64 k, .int .i64 (pW wd : Int), .int .i64 (lsW wd : Int), xi, .int .i64 (q : Int)], xc, xp, xm] (H (head id q 0x8080 ++ endsOfSig H id wd q (digit (hashed H id q cc msg) wd) (fun i => part ps (32 * i) 32) (pW wd))) := by
  have hp2 := p_w hw
  have HMd := fun w hr' h1 h2 h3 => mdigits_c C w hr' xi xc xm id cc msg h1 h2 h3 li lc lm wd hw k q hq
  obtain ⟨p, hp⟩ : ∃ p, pW wd = p := ⟨_, rfl⟩
  obtain ⟨s, hls⟩ : ∃ s : Int, (lsW wd : Int) = s := ⟨_, rfl⟩
  rw [hp, hls] at HMd
  rw [hp] at hp2 lps
  rw [hp, hls]
  have HMh := hide HMd
  have hE2 := pow_w hw
  obtain ⟨E, hE⟩ : ∃ E, 2 ^ wd - 1 = E := ⟨_, rfl⟩
  have HLc := fun w (kk pp ss : Int) => last_c w wd hw kk pp ss
  obtain ⟨D, hD⟩ : ∃ D, hashed H id q cc msg = D := ⟨_, rfl⟩
  rw [hD] at HMh
  rw [hD]
  have hdl : ∀ i, digit D wd i ≤ E := fun i => by have := digit_lt D wd i; omega
  have Hdl := hide hdl
  have HEf : Hid (∀ i, ((List.range i).map fun i => steps H id q i (part ps (32 * i) 32) (digit D wd i) (E - digit D wd i)).flatten = endsOfSig H id wd q (digit D wd) (fun i => part ps (32 * i) 32) i) := fun i => by rw [← hE]; exact sig_flat H id wd q _ _ i
  rw [hE] at HLc hE2
  have HLh := hide HLc
  obtain ⟨G, hG⟩ : ∃ G : Nat → Bs, (fun i => steps H id q i (part ps (32 * i) 32) (digit D wd i) (E - digit D wd i)) = G := ⟨_, rfl⟩
  have hpl : ∀ i, i < p → (part ps (32 * i) 32).length = 32 := fun i hi => by unfold part; rw [List.length_take, List.length_drop]; omega
  have hGl : ∀ i, i < p → (G i).length = 32 := fun i hi => by rw [← hG]; exact len_steps H C.len _ _ _ _ _ _ (hpl i hi)
  have hGn : ∀ i, i < p → G i ≠ [] := fun i hi e => by have := hGl i hi; rw [e] at this; simp at this
  have HG : Hid (∀ i, steps H id q i (part ps (32 * i) 32) (digit D wd i) (E - digit D wd i) = G i) := fun i => by rw [← hG]
  have HEf2 : Hid (∀ i, ((List.range i).map G).flatten = endsOfSig H id wd q (digit D wd) (fun i => part ps (32 * i) 32) i) := fun i => by rw [← hG]; exact unhide HEf i
  have HGn := hide hGn
  have Hpl := hide hpl
  have hbA : Below w0.heap.size w0 (w0.alloc (.cells #[.int .i64 (wd : Int), .int .i64 k, .int .i64 (p : Int), .int .i64 s, xi, .int .i64 (q : Int)] 95)) := (Below.refl _ _).alloc (Nat.le_refl _) _
  have hK := agg_new w0 [.int .i64 (wd : Int), .int .i64 k, .int .i64 (p : Int), .int .i64 s, xi, .int .i64 (q : Int)] 95
  obtain ⟨wA, hwA⟩ : ∃ wA, w0.alloc (.cells #[.int .i64 (wd : Int), .int .i64 k, .int .i64 (p : Int), .int .i64 s, xi, .int .i64 (q : Int)] 95) = wA := ⟨_, rfl⟩
  have hsz : w0.heap.size < wA.heap.size := by rw [← hwA]; simp
  rw [hwA] at hbA hK
  obtain ⟨W1, hmk, hF1, hb1⟩ := made_fill wA p (by omega)
  obtain ⟨B, hB⟩ : ∃ B, wA.heap.size = B := ⟨_, rfl⟩
  rw [hB] at hmk hF1 hsz
  have hne : w0.heap.size ≠ B := by omega
  have hne' : B ≠ w0.heap.size := by omega
  obtain ⟨sp, pc, rfl, hpc, _, _⟩ := bytes_open hps
  have Hparts := hide (fun (f : Nat) (hf : f + 32 ≤ ps.length) => part_val hps hpc f 32 hf)
  obtain ⟨L, hL⟩ : ∃ L, ps.length = L := ⟨_, rfl⟩
  rw [hL] at lps Hparts
  rw [hL]
  have c2 := hK.c 2 _ rfl
  have hK1 := hK.below hb1
  have HX := hide (hi.below hbA)
  have HR := hide (C.below _ _ hr hbA)
  have Hc1 := hide (hc.below hbA)
  have Hm1 := hide (hm.below hbA)
  have HB := hide hbA
  have HK := hide hK
  have HC := hide C
  have HBe := hide hB
  have Hl := hide (And.intro li lps)
  have HW1 := hide hb1
  have HF1 : Hid (Fill W1 B p (fun j => if j < 0 then some (G j) else none)) := hide (hF1.less (fun i l _ h => by simp at h))
  have Hce := hide (fun i => len_endsOfSig H C.len id wd q (digit D wd) (fun i => part ps (32 * i) 32) i)
  have pb : (p : Int) ≤ 265 := by omega
  have pb0 : (0 : Int) ≤ (p : Int) := by omega
  have Eb1 : (E : Int) ≤ 255 := by omega
  have k0 := hK1.c 0 _ rfl
  have k1 := hK1.c 1 _ rfl
  have k2 := hK1.c 2 _ rfl
  have k3 := hK1.c 3 _ rfl
  have k4 := hK1.c 4 _ rfl
  have k5 := hK1.c 5 _ rfl
  clear hi hc hm hps hr hbA hK hK1 C hE hG HLc HMd hb1 hF1 hB hp hls hGl hGn HEf hdl hpl hD hL hpc lps
  go_enter Tryd.func82, Tryd.ntmps82
  go_wp2_with fail
  refine ((unhide HMh) W1 ((unhide HC).below _ _ (unhide HR) (unhide HW1)) ((unhide HX).below (unhide HW1)) ((unhide Hc1).below (unhide HW1)) ((unhide Hm1).below (unhide HW1))).mono ?_
  rintro e w2 ⟨vd, rfl, hO2, hb2⟩
  have HD2 := hide (OwnV.vals hO2)
  have Hdne : Hid (vd.ownBlock ≠ some B) := fun e => by
    have h1 := hO2.fresh B e
    have h2 := (unhide HF1).lt
    omega
  obtain ⟨db, dc, hvd, _, _, _⟩ := OwnV.cellAt hO2 (by intro e0; have := congrArg List.length e0; rw [len_dvals] at this; simp at this; omega)
  rw [len_dvals] at hvd
  subst hvd
  have HF2 := hide ((unhide HF1).below hb2)
  have HW2 := hide ((unhide HW1).trans (hb2.mono (unhide HW1).size))
  clear hO2 hb2 HF1 HW1 hmk k0 k1 k2 k3 k4 k5
  go_wp2
  go_loopw [21] (fun ii wr => ∃ i : Nat, i ≤ p ∧ ii = .int .i64 (i : Int) ∧ Hid (Fill wr B p (fun j => if j < i then some (G j) else none)) ∧ Hid (ValsAt wr (.slice (some ⟨db, 0, none⟩) p dc) (dvals D wd p)) ∧ Hid (Below wA.heap.size wA wr)) (fun ii _ => p - (intOf ii).toNat)
  case atStart => exact ⟨0, by omega, rfl, HF2, HD2, HW2⟩
  case round =>
    clear HF2 HD2 HW2 c2 hwA
    obtain ⟨i, hi, rfl, HF, HD, HW⟩ := hrel
    have ib : (i : Int) ≤ 265 := by omega
    have ib0 : (0 : Int) ≤ (i : Int) := by omega
    rename World => wc
    by_cases hlt : i < p
    · have il : (i : Int) < (p : Int) := by omega
      have HWd := hide (unhide HW).drew
      have HFd := hide (unhide HF).drew
      have HDd := hide ((unhide HD).drew)
      have HKc := hide ((unhide HK).below (unhide HW))
      have HKd := hide ((unhide HK).below (unhide HWd))
      have k0 := (unhide HKc).c 0 _ rfl
      have k1 := (unhide HKc).c 1 _ rfl
      have k2 := (unhide HKc).c 2 _ rfl
      have k3 := (unhide HKc).c 3 _ rfl
      have k4 := (unhide HKc).c 4 _ rfl
      have k5 := (unhide HKc).c 5 _ rfl
      have cd := dig_at (unhide HD) i hlt
      have hdg := unhide Hdl i
      obtain ⟨a, ha⟩ : ∃ a, 32 * i = a := ⟨_, rfl⟩
      obtain ⟨yp, syp, byp⟩ := unhide Hparts a (by have h1 := (unhide Hl).2; omega)
      obtain ⟨e, he⟩ : ∃ e, a + 32 = e := ⟨_, rfl⟩
      rw [he] at syp
      have ab : (a : Int) ≤ 10000 := by omega
      have eb : (e : Int) ≤ 10000 := by omega
      have x1 : (i : Int) * 32 = (a : Int) := by omega
      have x2 : IntKind.i64.wrap (a : Int) = (a : Int) := IntWalk.i64_in _ (by omega)
      have x3 : IntKind.i64.wrap ((i : Int) + 1) = (i : Int) + 1 := IntWalk.i64_in _ (by omega)
      have x4 : ((i : Int) + 1) * 32 = (e : Int) := by omega
      have x5 : IntKind.i64.wrap (e : Int) = (e : Int) := IntWalk.i64_in _ (by omega)
      have Byp : Hid (BytesAt w0 yp (part ps (32 * i) 32)) := by show BytesAt _ _ _; rw [ha]; exact byp
      have HGi := hide (unhide HG i)
      obtain ⟨dg, hdge⟩ : ∃ dg, digit D wd i = dg := ⟨_, rfl⟩
      rw [hdge] at cd hdg HGi
      have dgb : (dg : Int) ≤ 255 := by omega
      have dgb0 : (0 : Int) ≤ (dg : Int) := by omega
      clear ha he byp hdge
      go_wp2
      go_region_held3 (fun w' => w'.cell? ⟨w0.heap.size, 0, none⟩ = some (.int .i64 (wd : Int)) ∧ w'.cell? ⟨w0.heap.size, 1, none⟩ = some (.int .i64 k) ∧ w'.cell? ⟨w0.heap.size, 2, none⟩ = some (.int .i64 (p : Int)) ∧ w'.cell? ⟨w0.heap.size, 3, none⟩ = some (.int .i64 s) ∧ w'.cell? ⟨w0.heap.size, 4, none⟩ = some xi ∧ w'.cell? ⟨w0.heap.size, 5, none⟩ = some (.int .i64 (q : Int))) (go_keep)
        ((first
          | (go_at_call 74; refine ((unhide HLh) _ _ _ _).mono ?_; rintro e w3 ⟨rfl, hb3⟩; have HW3 := hide ((unhide HWd).trans (hb3.mono (unhide HWd).size)); have HF3 := hide ((unhide HFd).below hb3); have HD3 := hide ((unhide HDd).below hb3); have HK3 := hide ((unhide HKd).below hb3); have m0 := (unhide HK3).c 0 _ rfl; have m1 := (unhide HK3).c 1 _ rfl; have m2 := (unhide HK3).c 2 _ rfl; have m3 := (unhide HK3).c 3 _ rfl; have m4 := (unhide HK3).c 4 _ rfl; have m5 := (unhide HK3).c 5 _ rfl; clear hb3)
          | (go_at_call 73; refine (steps_c (unhide HC) w3 ((unhide HC).below _ _ (unhide HR) (unhide HW3)) _ _ _ _ xi yp id (part ps (32 * i) 32) ((unhide HX).below (unhide HW3)) (((unhide Byp).below (unhide HB)).below (unhide HW3)) (unhide Hl).1 (by rw [unhide Hpl i hlt]; omega) q i dg (E - dg) E hq (by omega) (by omega) (by omega)).mono ?_; rintro e w5 ⟨v5, rfl, hV5, _, hb5⟩; obtain ⟨s5, n5, c5, rfl⟩ := hV5.forms; have HV5 := hide hV5; have HW5 := hide ((unhide HW3).trans (hb5.mono (unhide HW3).size)); have HF5 := hide ((unhide HF3).below hb5); have HD5 := hide ((unhide HD3).below hb5); have HK5 := hide ((unhide HK3).below hb5); obtain ⟨u5, cB⟩ := (unhide HF5).cell i hlt; have fB := (unhide HF5).frozen i; have o0 := (unhide HK5).c 0 _ rfl; have o1 := (unhide HK5).c 1 _ rfl; have o2 := (unhide HK5).c 2 _ rfl; have o3 := (unhide HK5).c 3 _ rfl; have o4 := (unhide HK5).c 4 _ rfl; have o5 := (unhide HK5).c 5 _ rfl; clear hV5 hb5)))
      have HF6 : Hid (Fill (w5.setCell ⟨B, i, none⟩ (.slice s5 n5 c5)) B p (fun j => if j < i + 1 then some (G j) else none)) := by
        show Fill _ _ _ _
        have h5 := unhide HV5
        rw [unhide HGi] at h5
        refine ((unhide HF5).set i hlt _ (G i) h5 (unhide HGn i hlt)).less fun j l _ hl => ?_
        by_cases e : j = i
        · subst e; simpa using hl
        · simp only [if_neg e]
          by_cases h2 : j < i
          · rw [if_pos (show j < i + 1 by omega)] at hl; rw [if_pos h2]; exact hl
          · rw [if_neg (show ¬ j < i + 1 by omega)] at hl; cases hl
      have HW6 : Hid (Below wA.heap.size wA (w5.setCell ⟨B, i, none⟩ (.slice s5 n5 c5))) := hide ((unhide HW5).setCell (by have := unhide HBe; show _ ≤ B; omega) _)
      have HD6 := hide ((unhide HD5).set_other B i (.slice s5 n5 c5) (unhide Hdne))
      clear x1 x3 x4
      go_wp2
      go_roundw
      case rel =>
        first
          | exact ⟨i + 1, by omega, by go_num, HF6, HD6, HW6⟩
          | ((repeat apply Exists.intro); exact ⟨⟨i + 1, by omega, by go_num, HF6, HD6, HW6⟩, rfl⟩)
      case measure => simp [intOf]; omega
    · obtain rfl : i = p := by omega
      have di : decide ((i : Int) < (i : Int)) = false := by simp
      have HKc := hide ((unhide HK).below (unhide HW))
      have k4 := (unhide HKc).c 4 _ rfl
      have k5 := (unhide HKc).c 5 _ rfl
      have HL := hide ((unhide HF).list G (fun j hj => by rw [if_pos hj]))
      have hfl : ((List.range i).map G).flatten.length ≤ 1000000 := by rw [unhide HEf2, unhide Hce i (fun j hj => unhide Hpl j hj)]; omega
      go_wp2_with fail
      refine ((unhide HC).hash wc xi _ id q 0x8080 ((List.range i).map G) ((unhide HC).below _ _ (unhide HR) (unhide HW)) ((unhide HX).below (unhide HW)) (unhide HL) hq (by omega) (unhide Hl).1 hfl (by simp; omega)).mono ?_
      rintro e w6 ⟨v6, rfl, hR6⟩
      have HFi : Hid (Row w0 w6 v6 (H (head id q 0x8080 ++ endsOfSig H id wd q (digit D wd) (fun i => part ps (32 * i) 32) i))) := by
        show Row _ _ _ _
        rw [unhide HEf2] at hR6
        exact (hR6.up (unhide HW)).up (unhide HB)
      clear hR6
      go_wp2
      go_ret
      exact ⟨_, rfl, unhide HFi⟩
end Go.Proofs.YtlhjifdahagkaaaDoor
/-
  A list of slices of bytes that grows by appends; the walk of the landed leaf.sign.
-/
namespace Go.Proofs.YtlhjifdahagkaaaDoor
open Go.RowKit
/-- A row of slices that was begun at the world wb; its elements hold these bytes, in other blocks. -/
structure LRow (wb w : World) (v : Value) (ls : List Bs) : Prop where
  e : ∃ cs : List Value, OwnV 24 w wb.heap.size v cs ∧ cs.length = ls.length ∧ ∀ i, i < ls.length → ls.getD i [] ≠ [] ∧ BytesAt w (cs.getD i undef) (ls.getD i []) ∧ Apart v (cs.getD i undef)
  b : Below wb.heap.size wb w
theorem LRow.call {wb w w' : World} {v : Value} {ls : List Bs} (h : LRow wb w v ls) (hb : Below w.heap.size w w') : LRow wb w' v ls := by
  obtain ⟨⟨cs, h1, h2, h3⟩, h4⟩ := h
  exact ⟨⟨cs, h1.below hb, h2, fun i hi => ⟨(h3 i hi).1, (h3 i hi).2.1.below hb, (h3 i hi).2.2⟩⟩, h4.trans (hb.mono h4.size)⟩
theorem LRow.drew {wb w : World} {v : Value} {ls : List Bs} (h : LRow wb w v ls) : LRow wb w.drew v ls := h.call (Below.refl _ _).drew
theorem LRow.ll {wb w : World} {v : Value} {ls : List Bs} (h : LRow wb w v ls) : LL w v ls := by
  obtain ⟨⟨cs, h1, h2, h3⟩, h4⟩ := h
  exact ⟨cs, OwnV.vals h1, h2, fun i hi => (h3 i hi).2.1⟩
theorem LRow.old {wb w : World} {v : Value} {ls : List Bs} (h : LRow wb w v ls) (k : Nat) (hk : v.ownBlock = some k) : k < w.heap.size := by
  obtain ⟨⟨cs, h1, _, _⟩, _⟩ := h
  exact (World.ownsRow.lt h1 k hk).2
theorem LRow.grow {wb w w' : World} {v v' y : Value} {ls : List Bs} {cs : List Value} {m : Bs} (hown : OwnV 24 w wb.heap.size v cs) (hl : cs.length = ls.length) (he : ∀ i, i < ls.length → ls.getD i [] ≠ [] ∧ BytesAt w (cs.getD i undef) (ls.getD i []) ∧ Apart v (cs.getD i undef)) (hb : Below wb.heap.size wb w)
    (hy : BytesAt w y m) (hm : m ≠ []) (ha : Apart v y) (hown' : OwnV 24 w' wb.heap.size v' (cs ++ [y])) (hg : Grew w v w' v') : LRow wb w' v' (ls ++ [m]) := by
  refine ⟨⟨cs ++ [y], hown', by simp [hl], fun i hi => ?_⟩, own_below hown hg.1 hb hb.size⟩
  rw [List.length_append, List.length_singleton] at hi
  by_cases h : i < ls.length
  · have e1 : (ls ++ [m]).getD i [] = ls.getD i [] := by rw [List.getD_eq_getElem?_getD, List.getD_eq_getElem?_getD, List.getElem?_append_left h]
    have e2 : (cs ++ [y]).getD i undef = cs.getD i undef := by rw [List.getD_eq_getElem?_getD, List.getD_eq_getElem?_getD, List.getElem?_append_left (by omega)]
    rw [e1, e2]
    obtain ⟨h1, h2, h3⟩ := he i h
    obtain ⟨h4, h5⟩ := hg.bytes h3 h2 h1
    exact ⟨h1, h4, h5⟩
  · obtain rfl : i = ls.length := by omega
    have e1 : (ls ++ [m]).getD ls.length [] = m := by rw [List.getD_eq_getElem?_getD, List.getElem?_append_right (Nat.le_refl _)]; simp
    have e2 : (cs ++ [y]).getD ls.length undef = y := by rw [List.getD_eq_getElem?_getD, List.getElem?_append_right (by omega), hl]; simp
    rw [e1, e2]
    obtain ⟨h4, h5⟩ := hg.bytes ha hy hm
    exact ⟨hm, h4, h5⟩
/-- append of one slice, as a step of a region that draws. -/
theorem step_append_list {wb w : World} {ops : Array Oper} {o : Oper} {a : Act} {K : Act → World → Prop} {Q : Exit → Act → World → Prop} {E : Prop} (hgd : o.guard = none) (s x : Operand)
    (ho : o.op = .call { callee := .builtin .append, args := #[s, x], argTypes := #[63, 63] }) (v z y : Value) (ls : List Bs) (m : Bs) (hs : a.eval s = v) (hr : LRow wb w v ls)
    (hx : a.eval x = z) (hz : ValsAt w z [y]) (hy : BytesAt w y m) (hm : m ≠ []) (ha : Apart v y) (hlen : ls.length ≤ 1000000)
    (h : ∀ v' w', LRow wb w' v' (ls ++ [m]) → Grew w v w' v' → K (a.put o.dst v') w') : if Region.wanted o (yielded ops a.tmps) = true then Oper.wp Tryd.prog o a w K Q else E := by
  have hw : Region.wanted o (yielded ops a.tmps) = true := by simp [Region.wanted, hgd]
  rw [if_pos hw]
  obtain ⟨⟨cs, h1, h2, h3⟩, hb⟩ := hr
  obtain ⟨v', w', hrun, h4, h5, h6⟩ := run_append_vals Ebb w wb.heap.size v z cs [y] h1 hz (fun u hu => by rw [List.mem_singleton.1 hu]; obtain ⟨s1, n1, c1, rfl⟩ := hy.forms; rfl) hb.size (by simp; omega) o.type
  unfold Oper.wp execOp
  simp only [ho, resolve, invoke, builtin, Sem.run_bind, Sem.run_pure, Result.andThen_ok, List.map_toArray, List.map_cons, List.map_nil, hs, hx, hrun]
  exact h v' w' (LRow.grow h1 h2 h3 hb hy hm ha h4 ⟨h5, h6⟩) ⟨h5, h6⟩
/-- The same in a region that does not draw. -/
theorem wpList_append_list {wb w : World} {ops : Array Oper} {rest : List Oper} {o : Oper} {a : Act} {Q : Exit → Act → World → Prop} (hgd : o.guard = none) (s x : Operand)
    (ho : o.op = .call { callee := .builtin .append, args := #[s, x], argTypes := #[63, 63] }) (v z y : Value) (ls : List Bs) (m : Bs) (hs : a.eval s = v) (hr : LRow wb w v ls)
    (hx : a.eval x = z) (hz : ValsAt w z [y]) (hy : BytesAt w y m) (hm : m ≠ []) (ha : Apart v y) (hlen : ls.length ≤ 1000000)
    (h : ∀ v' w', LRow wb w' v' (ls ++ [m]) → Grew w v w' v' → wpList Tryd.prog ops Q rest (a.put o.dst v') w') : wpList Tryd.prog ops Q (o :: rest) a w := by
  obtain ⟨⟨cs, h1, h2, h3⟩, hb⟩ := hr
  exact wpList_append_vals Ebb hgd s x ho wb.heap.size v z cs [y] hs h1 hx hz (fun u hu => by rw [List.mem_singleton.1 hu]; obtain ⟨s1, n1, c1, rfl⟩ := hy.forms; rfl) hb.size (by simp; omega) fun v' w' h4 h5 h6 => h v' w' (LRow.grow h1 h2 h3 hb hy hm ha h4 ⟨h5, h6⟩) ⟨h5, h6⟩
/-- A literal's list. -/
theorem lrow_new (w : World) (cs : List Value) (ls : List Bs) (hl : cs.length = ls.length) (hn : cs.length ≤ 1000) (h : ∀ i, i < ls.length → ls.getD i [] ≠ [] ∧ BytesAt w (cs.getD i undef) (ls.getD i [])) : LRow w (w.alloc (.cells cs.toArray 24)) (.slice (some ⟨w.heap.size, 0, none⟩) cs.length cs.length) ls := by
  refine ⟨⟨cs, own_new 24 w cs (by simp only [maxLen]; omega), hl, fun i hi => ⟨(h i hi).1, (h i hi).2.below ((Below.refl _ _).alloc (Nat.le_refl _) _), fun k hk e => ?_⟩⟩, (Below.refl _ _).alloc (Nat.le_refl _) _⟩
  simp only [Value.ownBlock, Option.some.injEq] at hk
  have := ValsAt.old (h i hi).2 (by simpa using (h i hi).1) k e
  omega
theorem lrow_new2 (w : World) (a b : Value) (la lb : Bs) (ha : BytesAt w a la) (hb : BytesAt w b lb) (na : la ≠ []) (nb : lb ≠ []) : LRow w (w.alloc (.cells #[a, b] 24)) (.slice (some ⟨w.heap.size, 0, none⟩) 2 2) [la, lb] :=
  lrow_new w [a, b] [la, lb] rfl (by simp) fun i hi => by
    match i, hi with
    | 0, _ => exact ⟨na, ha⟩
    | 1, _ => exact ⟨nb, hb⟩
theorem lrow_new3 (w : World) (a b c : Value) (la lb lc : Bs) (ha : BytesAt w a la) (hb : BytesAt w b lb) (hc : BytesAt w c lc) (na : la ≠ []) (nb : lb ≠ []) (nc : lc ≠ []) : LRow w (w.alloc (.cells #[a, b, c] 24)) (.slice (some ⟨w.heap.size, 0, none⟩) 3 3) [la, lb, lc] :=
  lrow_new w [a, b, c] [la, lb, lc] rfl (by simp) fun i hi => by
    match i, hi with
    | 0, _ => exact ⟨na, ha⟩
    | 1, _ => exact ⟨nb, hb⟩
    | 2, _ => exact ⟨nc, hc⟩
theorem apart_new {wb wc w6 : World} {u x y : Value} {ls : List Bs} {l : Bs} (hL : LRow wb wc u ls) (hR : Row wc w6 x l) (hA : ∀ k, y.ownBlock = some k → w6.heap.size ≤ k ∨ x.ownBlock = some k) : Apart u y := fun k hk e => by
  have h1 := hL.old k hk
  have h2 := hR.b.size
  rcases hA k e with h3 | h3
  · omega
  · have h4 := hR.own.fresh k h3
    omega
theorem ne_of_len {l : Bs} {n : Nat} (h : l.length = n) (hn : 0 < n) : l ≠ [] := fun e => by rw [e] at h; simp at h; omega
theorem bars_flat (H : Bs → Bs) (id seed : Bs) (w q : Nat) (d : Nat → Nat) : ∀ p, ((List.range p).map fun i => steps H id q i (secret H id seed q i) 0 (d i)).flatten = bars H id seed w q d p
  | 0 => rfl
  | p + 1 => by rw [List.range_succ, List.map_append, List.flatten_append, bars_flat H id seed w q d p, bars]; simp
end Go.Proofs.YtlhjifdahagkaaaDoor
/-
  The walk of the landed leaf.sign.
-/
namespace Go.Proofs.YtlhjifdahagkaaaDoor
open Go.RowKit
/-- What a leaf signs, ahead of the tree's part. -/
def leafSig (H : Bs → Bs) (id seed : Bs) (wd q : Nat) (msg : Bs) : Bs :=
  big (tyW wd) 4 ++ rnd H id seed q ++ bars H id seed wd q (digit (hashed H id q (rnd H id seed q) msg) wd) (pW wd)
theorem len_leafSig (H : Bs → Bs) (hH : ∀ l, (H l).length = 32) (id seed : Bs) (wd q : Nat) (msg : Bs) : (leafSig H id seed wd q msg).length = 36 + 32 * pW wd := by
  unfold leafSig
  rw [List.length_append, List.length_append, len_big, len_bars H hH, show (rnd H id seed q).length = 32 from hH _]
set_option maxRecDepth 100000 in
set_option maxHeartbeats 4000000 in
theorem lsign_c {R : World → Prop} {H : Bs → Bs} (C : CHash R H) (w0 : World) (hr : R w0) (xi xs xm : Value) (id seed msg : Bs) (hi : BytesAt w0 xi id) (hs : BytesAt w0 xs seed) (hm : BytesAt w0 xm msg) (li : id.length ≤ 1000) (lse : seed.length ≤ 1000) (lm : msg.length ≤ 1000) (wd : Nat) (hw : IsW wd) (q : Nat) (hq : q < 4294967296) :
    GivesB w0 57 #[.agg #[.int .i64 (wd : Int), .int .i64 (tyW wd : Int), .int .i64 (pW wd : Int), .int .i64 (lsW wd : Int), xi, .int .i64 (q : Int)], xs, xm] (leafSig H id seed wd q msg) := by
  have hp2 := p_w hw
  have hE2 := pow_w hw
  obtain ⟨cc, hcc⟩ : ∃ cc, rnd H id seed q = cc := ⟨_, rfl⟩
  have lcc : cc.length = 32 := by rw [← hcc]; exact C.len _
  obtain ⟨D, hD⟩ : ∃ D, hashed H id q cc msg = D := ⟨_, rfl⟩
  obtain ⟨t, ht⟩ : ∃ t, tyW wd = t := ⟨_, rfl⟩
  have htb : t ≤ 4 := by rw [← ht]; rcases hw with rfl | rfl | rfl | rfl <;> decide
  have HMd := fun w xc hr' h1 h2 h3 => mdigits_c C w hr' xi xc xm id cc msg h1 h2 h3 li (by omega) lm wd hw (t : Int) q hq
  obtain ⟨p, hp⟩ : ∃ p, pW wd = p := ⟨_, rfl⟩
  obtain ⟨s, hls⟩ : ∃ s : Int, (lsW wd : Int) = s := ⟨_, rfl⟩
  have HLf : Hid (leafSig H id seed wd q msg = big t 4 ++ cc ++ bars H id seed wd q (digit D wd) p) := by
    show _ = _
    unfold leafSig
    rw [hcc, hD, hp, ht]
  rw [hp, hls, hD] at HMd
  rw [hp] at hp2
  rw [hp, hls, ht]
  have HMh := hide HMd
  have hdl : ∀ i, digit D wd i ≤ 255 := fun i => by have := digit_lt D wd i; omega
  have Hdl := hide hdl
  obtain ⟨G, hG⟩ : ∃ G : Nat → Bs, (fun i => steps H id q i (secret H id seed q i) 0 (digit D wd i)) = G := ⟨_, rfl⟩
  have hGl : ∀ i, (G i).length = 32 := fun i => by rw [← hG]; exact len_steps H C.len _ _ _ _ _ _ (C.len _)
  have hGn : ∀ i, G i ≠ [] := fun i => ne_of_len (hGl i) (by omega)
  have HG : Hid (∀ i, steps H id q i (secret H id seed q i) 0 (digit D wd i) = G i) := fun i => by rw [← hG]
  have HEf : Hid (∀ i, ((List.range i).map G).flatten = bars H id seed wd q (digit D wd) i) := fun i => by rw [← hG]; exact bars_flat H id seed wd q _ i
  have HGn := hide hGn
  have hbA : Below w0.heap.size w0 (w0.alloc (.cells #[.int .i64 (wd : Int), .int .i64 (t : Int), .int .i64 (p : Int), .int .i64 s, xi, .int .i64 (q : Int)] 95)) := (Below.refl _ _).alloc (Nat.le_refl _) _
  have hK := agg_new w0 [.int .i64 (wd : Int), .int .i64 (t : Int), .int .i64 (p : Int), .int .i64 s, xi, .int .i64 (q : Int)] 95
  obtain ⟨wA, hwA⟩ : ∃ wA, w0.alloc (.cells #[.int .i64 (wd : Int), .int .i64 (t : Int), .int .i64 (p : Int), .int .i64 s, xi, .int .i64 (q : Int)] 95) = wA := ⟨_, rfl⟩
  rw [hwA] at hbA hK
  have c4 := hK.c 4 _ rfl
  have c5 := hK.c 5 _ rfl
  have HX := hide (hi.below hbA)
  have HS := hide (hs.below hbA)
  have HM := hide (hm.below hbA)
  have HR := hide (C.below _ _ hr hbA)
  have HB := hide hbA
  have HK := hide hK
  have HC := hide C
  have Hl := hide (And.intro li lse)
  have Hcc := hide hcc
  have Hlc := hide lcc
  have tb : (t : Int) ≤ 4 := by omega
  have pb : (p : Int) ≤ 265 := by omega
  have pb0 : (0 : Int) ≤ (p : Int) := by omega
  clear hi hs hm hr hbA hK C hG HMd hp hls hGl hGn hdl hD hcc lcc ht
  go_enter Tryd.func57, Tryd.ntmps57
  go_wp2_with fail
  refine (secret_c (unhide HC) wA (unhide HR) xi xs id seed (unhide HX) (unhide HS) (unhide Hl).1 (unhide Hl).2 q 0xfffd hq (by omega)).mono ?_
  rintro e w1 ⟨v1, rfl, hR1⟩
  have HV1 : Hid (BytesAt w1 v1 cc) := by show BytesAt _ _ _; rw [← unhide Hcc]; exact hR1.bytes
  have HW1 := hide hR1.b
  have k1 := ((unhide HK).below hR1.b).c 1 _ rfl
  clear hR1 c4 c5 hwA
  go_wp2_with fail
  refine (four_any w1 t (by omega)).mono ?_
  rintro e w2 ⟨v2, rfl, hR2⟩
  have HV1' := hide ((unhide HV1).below hR2.b)
  have HW2 := hide ((unhide HW1).trans (hR2.b.mono (unhide HW1).size))
  obtain ⟨s1, n1, m1, rfl⟩ := (unhide HV1).forms
  obtain ⟨s2, n2, m2, rfl⟩ := hR2.bytes.forms
  have HL0 := lrow_new2 w2 _ _ (big t 4) cc hR2.bytes (unhide HV1') (ne_of_len (len_big t 4) (by omega)) (ne_of_len (unhide Hlc) (by omega))
  obtain ⟨w3, hw3⟩ : ∃ w3, w2.alloc (.cells #[.slice s2 n2 m2, .slice s1 n1 m1] 24) = w3 := ⟨_, rfl⟩
  rw [hw3] at HL0
  have HW3 := hide ((unhide HW2).trans (HL0.b.mono (unhide HW2).size))
  have HLh := hide HL0
  have HK3 := hide ((unhide HK).below (unhide HW3))
  have k0 := (unhide HK3).c 0 _ rfl
  have k1' := (unhide HK3).c 1 _ rfl
  have k2 := (unhide HK3).c 2 _ rfl
  have k3 := (unhide HK3).c 3 _ rfl
  have k4 := (unhide HK3).c 4 _ rfl
  have k5 := (unhide HK3).c 5 _ rfl
  have HV13 := hide ((unhide HV1').below HL0.b)
  clear hR2 k1 HL0 HV1 HV1'
  go_wp2_with fail
  refine ((unhide HMh) w3 _ ((unhide HC).below _ _ (unhide HR) (unhide HW3)) ((unhide HX).below (unhide HW3)) (unhide HV13) ((unhide HM).below (unhide HW3))).mono ?_
  rintro e w4 ⟨vd, rfl, hO4, hb4⟩
  have HO4 := hide hO4
  have HL4 : Hid (LRow w2 w4 (.slice (some ⟨w2.heap.size, 0, none⟩) 2 2) ([big t 4, cc] ++ (List.range 0).map G)) := hide (by simpa using (unhide HLh).call hb4)
  have Hap : Hid (Apart (.slice (some ⟨w2.heap.size, 0, none⟩) 2 2) vd) := fun k hk e => by
    have h1 := hO4.fresh k e
    have h2 := (unhide HLh).old k hk
    omega
  obtain ⟨db, dc, hvd, _, _, _⟩ := OwnV.cellAt hO4 (by intro e0; have := congrArg List.length e0; rw [len_dvals] at this; simp at this; omega)
  rw [len_dvals] at hvd
  subst hvd
  obtain ⟨base, hbase⟩ : ∃ base, w3.heap.size = base := ⟨_, rfl⟩
  rw [hbase] at HO4
  have HKw := hide ((unhide HK).below (unhide HW2))
  have HRw := hide ((unhide HC).below _ _ (unhide HR) (unhide HW2))
  have HXw := hide ((unhide HX).below (unhide HW2))
  have HSw := hide ((unhide HS).below (unhide HW2))
  clear hO4 hb4 k0 k1' k2 k3 k4 k5 HV13 HLh HW3 HK3 hw3 hbase
  go_wp2
  go_loopw [8, 26] (fun u ii wr => ∃ i : Nat, i ≤ p ∧ ii = .int .i64 (i : Int) ∧ Hid (LRow w2 wr u ([big t 4, cc] ++ (List.range i).map G)) ∧ Hid (OwnV 3 wr base (.slice (some ⟨db, 0, none⟩) p dc) (dvals D wd p)) ∧ Hid (Apart u (.slice (some ⟨db, 0, none⟩) p dc))) (fun _ ii _ => p - (intOf ii).toNat)
  case atStart => exact ⟨0, by omega, rfl, HL4, HO4, Hap⟩
  case round =>
    clear HL4 HO4 Hap
    obtain ⟨i, hi, rfl, HL, HO, Ha⟩ := hrel
    have ib : (i : Int) ≤ 265 := by omega
    have ib0 : (0 : Int) ≤ (i : Int) := by omega
    rename World => wc
    by_cases hlt : i < p
    · have il : (i : Int) < (p : Int) := by omega
      have HLd := hide (unhide HL).drew
      have HOd := hide (OwnV.drew (unhide HO))
      have HKc := hide ((unhide HKw).below (unhide HL).b)
      have HKd := hide ((unhide HKw).below (unhide HLd).b)
      have k0 := (unhide HKc).c 0 _ rfl
      have k1 := (unhide HKc).c 1 _ rfl
      have k2 := (unhide HKc).c 2 _ rfl
      have k3 := (unhide HKc).c 3 _ rfl
      have k4 := (unhide HKc).c 4 _ rfl
      have k5 := (unhide HKc).c 5 _ rfl
      have cd := dig_at (OwnV.vals (unhide HO)) i hlt
      have hdg := unhide Hdl i
      have HGi := hide (unhide HG i)
      obtain ⟨dg, hdge⟩ : ∃ dg, digit D wd i = dg := ⟨_, rfl⟩
      rw [hdge] at cd hdg HGi
      have dgb : (dg : Int) ≤ 255 := by omega
      have dgb0 : (0 : Int) ≤ (dg : Int) := by omega
      clear hdge
      go_wp2
      go_region_held3 (fun w' => w'.cell? ⟨w0.heap.size, 0, none⟩ = some (.int .i64 (wd : Int)) ∧ w'.cell? ⟨w0.heap.size, 1, none⟩ = some (.int .i64 (t : Int)) ∧ w'.cell? ⟨w0.heap.size, 2, none⟩ = some (.int .i64 (p : Int)) ∧ w'.cell? ⟨w0.heap.size, 3, none⟩ = some (.int .i64 s) ∧ w'.cell? ⟨w0.heap.size, 4, none⟩ = some xi ∧ w'.cell? ⟨w0.heap.size, 5, none⟩ = some (.int .i64 (q : Int))) (go_keep)
        ((first
          | (go_at_call 56; refine (secret_c (unhide HC) wc.drew ((unhide HC).below _ _ (unhide HRw) (unhide HLd).b) xi xs id seed ((unhide HXw).below (unhide HLd).b) ((unhide HSw).below (unhide HLd).b) (unhide Hl).1 (unhide Hl).2 q i hq (by omega)).mono ?_; rintro e w6 ⟨v6, rfl, hR6⟩; have HR6 := hide hR6; have HL6 := hide ((unhide HLd).call hR6.b); have HO6 := hide ((unhide HOd).below hR6.b); have HK6 := hide ((unhide HKd).below hR6.b); have n0 := (unhide HK6).c 0 _ rfl; have n1 := (unhide HK6).c 1 _ rfl; have n2 := (unhide HK6).c 2 _ rfl; have n3 := (unhide HK6).c 3 _ rfl; have n4 := (unhide HK6).c 4 _ rfl; have n5 := (unhide HK6).c 5 _ rfl; clear hR6)
          | (go_at_call 73; refine (steps_c (unhide HC) w6 ((unhide HC).below _ _ (unhide HRw) (unhide HL6).b) _ _ _ _ xi v6 id (secret H id seed q i) ((unhide HXw).below (unhide HL6).b) (unhide HR6).bytes (unhide Hl).1 (by rw [len_secret H (unhide HC).len]; omega) q i 0 dg dg hq (by omega) (Nat.zero_add _) (by omega)).mono ?_; rintro e w7 ⟨v7, rfl, hV7, hA7, hb7⟩; obtain ⟨s7, n7, c7, rfl⟩ := hV7.forms; have HV7 := hide hV7; have HL7 := hide ((unhide HL6).call hb7); have HO7 := hide ((unhide HO6).below hb7); have HK7 := hide ((unhide HK6).below hb7); have HA7 : Hid (Apart _ (Value.slice s7 n7 c7)) := hide (apart_new (unhide HLd) (unhide HR6) hA7); have hbl := (Below.refl w7.heap.size w7).alloc (Nat.le_refl _) (.cells #[Value.slice s7 n7 c7] 24); have HL8 := hide ((unhide HL7).call hbl); have HO8 := hide ((unhide HO7).below hbl); have HV8 := hide ((unhide HV7).below hbl); have HZ8 := hide (vals_new w7 [Value.slice s7 n7 c7] 24); have o0 := (unhide HK7).c 0 _ rfl; have o1 := (unhide HK7).c 1 _ rfl; have o2 := (unhide HK7).c 2 _ rfl; have o3 := (unhide HK7).c 3 _ rfl; have o4 := (unhide HK7).c 4 _ rfl; have o5 := (unhide HK7).c 5 _ rfl; clear hV7 hb7 hA7 hbl)
          | (refine step_append_list rfl _ _ rfl _ _ (Value.slice s7 n7 c7) ([big t 4, cc] ++ (List.range i).map G) (steps H id q i (secret H id seed q i) 0 dg) (by simp [Act.eval]) (unhide HL8) (by simp [Act.eval]) (unhide HZ8) (unhide HV8) (by rw [unhide HGi]; exact unhide HGn i) (unhide HA7) (by simp; omega) ?_; intro v9 w9 hL9 hg9; have HL9 := hide hL9; have HO9 := hide (hg9.kept (unhide Ha) (unhide HO8)); have HK9 := hide ((unhide HKw).below hL9.b); have p0 := (unhide HK9).c 0 _ rfl; have p1 := (unhide HK9).c 1 _ rfl; have p2 := (unhide HK9).c 2 _ rfl; have p3 := (unhide HK9).c 3 _ rfl; have p4 := (unhide HK9).c 4 _ rfl; have p5 := (unhide HK9).c 5 _ rfl; clear hL9 hg9)))
      have HLn : Hid (LRow w2 w9 v9 ([big t 4, cc] ++ (List.range (i + 1)).map G)) := by
        show LRow _ _ _ _
        have h9 := unhide HL9
        rw [unhide HGi, List.append_assoc] at h9
        rw [List.range_succ, List.map_append]
        exact h9
      have HOn := hide (unhide HO9).1
      have Han := hide (unhide HO9).2
      go_wp2
      go_roundw
      case rel =>
        first
          | exact ⟨i + 1, by omega, by go_num, HLn, HOn, Han⟩
          | ((repeat apply Exists.intro); exact ⟨⟨i + 1, by omega, by go_num, HLn, HOn, Han⟩, rfl⟩)
      case measure => simp [intOf]; omega
    · obtain rfl : i = p := by omega
      have di : decide ((i : Int) < (i : Int)) = false := by simp
      have hfe : ([big t 4, cc] ++ (List.range i).map G).flatten = leafSig H id seed wd q msg := by
        rw [unhide HLf, List.flatten_append, unhide HEf]; simp
      have hfl : ([big t 4, cc] ++ (List.range i).map G).flatten.length ≤ 1000000 := by
        rw [hfe, unhide HLf, List.length_append, List.length_append, len_big, unhide Hlc, len_bars H (unhide HC).len]; omega
      have Hfe := hide hfe
      clear hfe
      go_wp2_with fail
      refine (concat_any wc _ _ (unhide HL).ll hfl (by simp; omega)).mono ?_
      rintro e w6 ⟨v6, rfl, hR6⟩
      have HFi : Hid (Row w0 w6 v6 (leafSig H id seed wd q msg)) := by
        show Row _ _ _ _
        rw [unhide Hfe] at hR6
        exact ((hR6.up (unhide HL).b).up (unhide HW2)).up (unhide HB)
      clear hR6
      go_wp2
      go_ret
      exact ⟨_, rfl, unhide HFi⟩
end Go.Proofs.YtlhjifdahagkaaaDoor
/-
  The walks of the landed tree's small functions: leaves, at, leaf, kindOfHeight.
-/
namespace Go.Proofs.YtlhjifdahagkaaaDoor
open Go.RowKit
set_option maxRecDepth 100000 in
theorem kind_c (h : Nat) (hh : h ≤ 6) (w : World) : Calls Tryd.prog 53 #[.int .i64 (h : Int)] w fun e w' => e = .returned (.int .i64 (tyH h : Int)) ∧ w' = w := by
  by_cases h5 : h = 5
  · subst h5
    go_enter Tryd.func53, Tryd.ntmps53
    go_wp2
    go_ret
    exact ⟨rfl, rfl⟩
  · have d : ((h : Int) == 5) = false := by simp; omega
    have Hty : Hid (((tyH h : Nat) : Int) = 3758096384 + (h : Int)) := by show _ = _; unfold tyH; rw [if_neg h5]; simp
    clear h5
    go_enter Tryd.func53, Tryd.ntmps53
    go_wp2
    go_ret
    exact ⟨by rw [unhide Hty]; rfl, rfl⟩
set_option maxRecDepth 100000 in
set_option maxHeartbeats 1000000 in
theorem leaves_c (w : World) (h : Nat) (hh : h ≤ 6) (a b c d : Int) : Calls Tryd.prog 33 #[.agg #[.int .i64 (h : Int), .int .i64 a, .int .i64 b, .int .i64 c, .int .i64 d]] w fun e w' => e = .returned (.int .i64 ((2 ^ h : Nat) : Int)) ∧ Below w.heap.size w w' := by
  have hb : ∀ o : Obj, Below w.heap.size w (w.alloc o) := fun o => (Below.refl _ _).alloc (Nat.le_refl _) _
  have Hb := hide hb
  clear hb
  obtain rfl | rfl | rfl | rfl | rfl | rfl | rfl : h = 0 ∨ h = 1 ∨ h = 2 ∨ h = 3 ∨ h = 4 ∨ h = 5 ∨ h = 6 := by omega
  all_goals
    go_enter Tryd.func33, Tryd.ntmps33
    go_wp2
    go_ret
    exact ⟨rfl, unhide Hb _⟩
set_option maxRecDepth 100000 in
set_option maxHeartbeats 1000000 in
theorem at_c (w : World) (a b c d e : Int) (xi xs : Value) (id : Bs) (hi : BytesAt w xi id) (n : Int) : Calls Tryd.prog 49 #[.agg #[.int .i64 a, .int .i64 b, .int .i64 c, .int .i64 d, .int .i64 e, xi, xs], .int .i64 n] w fun e w' => e = .returned (.agg #[xi, .int .i64 n]) ∧ Below w.heap.size w w' := by
  obtain ⟨si, ni, ci, rfl⟩ := hi.forms
  have hb : ∀ o p : Obj, Below w.heap.size w ((w.alloc o).alloc p) := fun o p => ((Below.refl _ _).alloc (Nat.le_refl _) _).alloc (by simp) _
  have Hb := hide hb
  clear hb hi
  go_enter Tryd.func49, Tryd.ntmps49
  go_wp2
  exact bodyPost_ret (v := .agg #[.slice si ni ci, .int .i64 n]) (by simp [results, Tryd.results49, go_sem]) rfl ⟨rfl, unhide Hb _ _⟩
end Go.Proofs.YtlhjifdahagkaaaDoor
/-
  The walk of the landed tree.leaf.
-/
namespace Go.Proofs.YtlhjifdahagkaaaDoor
open Go.RowKit
theorem AggAt.fz {w : World} {t : TypeId} {cs : Array Value} {g : Nat} (h : w.heap[g]? = some (.cells cs t (0, 0))) (j : Nat) : w.frozen? ⟨g, j, none⟩ = false := frozen_of_row w g j _ t h
theorem cell_other {w : World} {g b : Nat} (hne : b ≠ g) (i j : Nat) (v : Value) : (w.setCell ⟨g, j, none⟩ v).cell? ⟨b, i, none⟩ = w.cell? ⟨b, i, none⟩ := World.cell?_of_block (heap_setCell_other _ _ _ _ hne)
set_option maxRecDepth 100000 in
set_option maxHeartbeats 2000000 in
theorem tleaf_c (w0 : World) (a b c d e : Int) (xi xs : Value) (id seed : Bs) (hi : BytesAt w0 xi id) (hs : BytesAt w0 xs seed) (n : Int) : Calls Tryd.prog 51 #[.agg #[.int .i64 a, .int .i64 b, .int .i64 c, .int .i64 d, .int .i64 e, xi, xs], .int .i64 n] w0 fun ee w' => ee = .returned (.agg #[.int .i64 b, .int .i64 c, .int .i64 d, .int .i64 e, xi, .int .i64 n]) ∧ Below w0.heap.size w0 w' := by
  obtain ⟨si, ni, ci, rfl⟩ := hi.forms
  obtain ⟨ss, ns, cs, rfl⟩ := hs.forms
  have hbA : Below w0.heap.size w0 (w0.alloc (.cells #[.int .i64 a, .int .i64 b, .int .i64 c, .int .i64 d, .int .i64 e, .slice si ni ci, .slice ss ns cs] 56)) := (Below.refl _ _).alloc (Nat.le_refl _) _
  have hK := agg_new w0 [.int .i64 a, .int .i64 b, .int .i64 c, .int .i64 d, .int .i64 e, .slice si ni ci, .slice ss ns cs] 56
  obtain ⟨wA, hwA⟩ : ∃ wA, w0.alloc (.cells #[.int .i64 a, .int .i64 b, .int .i64 c, .int .i64 d, .int .i64 e, .slice si ni ci, .slice ss ns cs] 56) = wA := ⟨_, rfl⟩
  rw [hwA] at hbA hK
  have hbZ : Below wA.heap.size wA (wA.alloc (.cells #[.int .i64 0, .int .i64 0, .int .i64 0, .int .i64 0, .slice none 0 0, .int .i64 0] 95)) := (Below.refl _ _).alloc (Nat.le_refl _) _
  have hZ := heap_alloc_new wA (.cells #[.int .i64 0, .int .i64 0, .int .i64 0, .int .i64 0, .slice none 0 0, .int .i64 0] 95)
  have hsz : wA.heap.size < (wA.alloc (.cells #[.int .i64 0, .int .i64 0, .int .i64 0, .int .i64 0, .slice none 0 0, .int .i64 0] 95)).heap.size := by simp
  obtain ⟨wB, hwB⟩ : ∃ wB, wA.alloc (.cells #[.int .i64 0, .int .i64 0, .int .i64 0, .int .i64 0, .slice none 0 0, .int .i64 0] 95) = wB := ⟨_, rfl⟩
  rw [hwB] at hbZ hZ hsz
  have hKd : AggAt wB.drew w0.heap.size _ := (hK.below hbZ).below (Below.refl _ _).drew
  have hKB := hK.below hbZ
  have c0 := hKB.c 0 _ rfl
  have c1 := hKB.c 1 _ rfl
  have c2 := hKB.c 2 _ rfl
  have c3 := hKB.c 3 _ rfl
  have c4 := hKB.c 4 _ rfl
  have c5 := hKB.c 5 _ rfl
  have c6 := hKB.c 6 _ rfl
  have HKd := hide hKd
  have HZ := hide hZ
  have hlt := hK.1
  have hbd : Below w0.heap.size w0 wB.drew := (hbA.trans (hbZ.mono hbA.size)).drew
  have HB := hide hbd
  have hle := hbA.size
  have hne : w0.heap.size ≠ wA.heap.size := by omega
  have Hat := hide (at_c wB.drew a b c d e (.slice si ni ci) (.slice ss ns cs) id (hi.below hbd) n)
  have Hsz := hide hsz
  have Hle := hide hle
  clear hi hs hbA hbZ hK hKd hKB hZ hbd hsz hle
  go_enter Tryd.func51, Tryd.ntmps51
  go_wp2
  go_region_held3 (fun w' => w'.cell? ⟨w0.heap.size, 0, none⟩ = some (.int .i64 a) ∧ w'.cell? ⟨w0.heap.size, 1, none⟩ = some (.int .i64 b) ∧ w'.cell? ⟨w0.heap.size, 2, none⟩ = some (.int .i64 c) ∧ w'.cell? ⟨w0.heap.size, 3, none⟩ = some (.int .i64 d) ∧ w'.cell? ⟨w0.heap.size, 4, none⟩ = some (.int .i64 e) ∧ w'.cell? ⟨w0.heap.size, 5, none⟩ = some (.slice si ni ci) ∧ w'.cell? ⟨w0.heap.size, 6, none⟩ = some (.slice ss ns cs)) ((first | (simp only [cell_other hne, and_self, *]; done) | go_keep))
    ((go_at_call 49; refine (unhide Hat).mono ?_; rintro ee w3 ⟨rfl, hb3⟩; have HK3 := hide ((unhide HKd).below hb3); have HB3 := hide ((unhide HB).trans (hb3.mono (unhide HB).size)); have hZ3 : w3.heap[wA.heap.size]? = some (.cells #[.int .i64 0, .int .i64 0, .int .i64 0, .int .i64 0, .slice none 0 0, .int .i64 0] 95 (0, 0)) := (hb3.block _ (unhide Hsz)).trans (unhide HZ); have m0 := (unhide HK3).c 0 _ rfl; have m1 := (unhide HK3).c 1 _ rfl; have m2 := (unhide HK3).c 2 _ rfl; have m3 := (unhide HK3).c 3 _ rfl; have m4 := (unhide HK3).c 4 _ rfl; have m5 := (unhide HK3).c 5 _ rfl; have m6 := (unhide HK3).c 6 _ rfl; have z0 : w3.cell? ⟨wA.heap.size, 0, none⟩ = some (.int .i64 0) := cell_of_row w3 wA.heap.size 0 _ 95 (0, 0) hZ3; have z1 : w3.cell? ⟨wA.heap.size, 1, none⟩ = some (.int .i64 0) := cell_of_row w3 wA.heap.size 1 _ 95 (0, 0) hZ3; have z2 : w3.cell? ⟨wA.heap.size, 2, none⟩ = some (.int .i64 0) := cell_of_row w3 wA.heap.size 2 _ 95 (0, 0) hZ3; have z3 : w3.cell? ⟨wA.heap.size, 3, none⟩ = some (.int .i64 0) := cell_of_row w3 wA.heap.size 3 _ 95 (0, 0) hZ3; have z4 : w3.cell? ⟨wA.heap.size, 4, none⟩ = some (.slice none 0 0) := cell_of_row w3 wA.heap.size 4 _ 95 (0, 0) hZ3; have z5 : w3.cell? ⟨wA.heap.size, 5, none⟩ = some (.int .i64 0) := cell_of_row w3 wA.heap.size 5 _ 95 (0, 0) hZ3; have fz := fun j => AggAt.fz hZ3 j; clear hb3 hZ3))
  have HF : Hid (Below w0.heap.size w0 ((((((w3.setCell ⟨wA.heap.size, 0, none⟩ (.int .i64 b)).setCell ⟨wA.heap.size, 1, none⟩ (.int .i64 c)).setCell ⟨wA.heap.size, 2, none⟩ (.int .i64 d)).setCell ⟨wA.heap.size, 3, none⟩ (.int .i64 e)).setCell ⟨wA.heap.size, 4, none⟩ (.slice si ni ci)).setCell ⟨wA.heap.size, 5, none⟩ (.int .i64 n))) := hide (((((((unhide HB3).setCell (unhide Hle) _).setCell (unhide Hle) _).setCell (unhide Hle) _).setCell (unhide Hle) _).setCell (unhide Hle) _).setCell (unhide Hle) _)
  go_wp2
  exact bodyPost_ret (v := .agg #[.int .i64 b, .int .i64 c, .int .i64 d, .int .i64 e, .slice si ni ci, .int .i64 n]) (by simp [results, Tryd.results51, go_sem, *]) rfl ⟨rfl, unhide HF⟩
end Go.Proofs.YtlhjifdahagkaaaDoor
/-
  The walks of the landed tree.below and grown.public.
-/
namespace Go.Proofs.YtlhjifdahagkaaaDoor
open Go.RowKit
theorem front16 (s : Option Addr) (n c : Nat) (hn : n = 32) (hc : n ≤ c) : ∀ w, (Instr.sliceAt 24 (.slice s n c) none (some (.int .i64 16)) none).run Tryd.prog w = .ok (.slice s 16 c) w := fun w => by
  have := slice_front s n c 16 (by omega) w
  simpa using this
theorem agg_apart {w : World} {g : Nat} {cs : Array Value} {t : TypeId} {fr : Nat × Nat} (h : w.heap[g]? = some (.cells cs t fr)) (hcs : ∀ (j : Nat) (v : Value), cs[j]? = some v → ∀ z, v ≠ .int .u8 z) {x : Value} {l : Bs} (hx : BytesAt w x l) (hl : l ≠ []) : x.ownBlock ≠ some g := by
  obtain ⟨sp, c, rfl, _, _, hc⟩ := bytes_open hx
  obtain ⟨b, o, rfl, _, hcell⟩ := hc hl
  intro e
  simp only [Value.ownBlock, Option.some.injEq] at e
  have hpos : 0 < l.length := Nat.pos_of_ne_zero fun e => hl (List.eq_nil_of_length_eq_zero e)
  have h0 := hcell 0 hpos
  rw [Nat.add_zero, e, cell_of_row w g o _ t fr h] at h0
  exact hcs o _ h0 _ rfl
theorem zero7 : ∀ (j : Nat) (v : Value), (#[.int .i64 0, .int .i64 0, .int .i64 0, .int .i64 0, .int .i64 0, .slice none 0 0, .slice none 0 0] : Array Value)[j]? = some v → ∀ z, v ≠ .int .u8 z := fun j v h z => by
  match j, h with
  | 0, h => cases h; simp
  | 1, h => cases h; simp
  | 2, h => cases h; simp
  | 3, h => cases h; simp
  | 4, h => cases h; simp
  | 5, h => cases h; simp
  | 6, h => cases h; simp
  | j + 7, h => cases h
set_option maxRecDepth 100000 in
set_option maxHeartbeats 4000000 in
theorem below_c {R : World → Prop} {H : Bs → Bs} (C : CHash R H) (w0 : World) (hr : R w0) (a b c d e : Int) (xi xs : Value) (id seed : Bs) (hi : BytesAt w0 xi id) (hs : BytesAt w0 xs seed) (li : id.length ≤ 1000) (lse : seed.length ≤ 1000) (q : Nat) (hq : q < 4294967296) :
    Calls Tryd.prog 34 #[.agg #[.int .i64 a, .int .i64 b, .int .i64 c, .int .i64 d, .int .i64 e, xi, xs], .int .i64 (q : Int)] w0 fun ee w' => ∃ yi ys, ee = .returned (.agg #[.int .i64 a, .int .i64 b, .int .i64 c, .int .i64 d, .int .i64 e, yi, ys]) ∧ BytesAt w' yi (subId H id seed q) ∧ BytesAt w' ys (subSeed H id seed q) ∧ Below w0.heap.size w0 w' := by
  obtain ⟨si, ni, ci, rfl⟩ := hi.forms
  obtain ⟨ss, ns, cs, rfl⟩ := hs.forms
  have hbA : Below w0.heap.size w0 (w0.alloc (.cells #[.int .i64 a, .int .i64 b, .int .i64 c, .int .i64 d, .int .i64 e, .slice si ni ci, .slice ss ns cs] 56)) := (Below.refl _ _).alloc (Nat.le_refl _) _
  have hK := agg_new w0 [.int .i64 a, .int .i64 b, .int .i64 c, .int .i64 d, .int .i64 e, .slice si ni ci, .slice ss ns cs] 56
  obtain ⟨wA, hwA⟩ : ∃ wA, w0.alloc (.cells #[.int .i64 a, .int .i64 b, .int .i64 c, .int .i64 d, .int .i64 e, .slice si ni ci, .slice ss ns cs] 56) = wA := ⟨_, rfl⟩
  rw [hwA] at hbA hK
  have hbZ : Below wA.heap.size wA (wA.alloc (.cells #[.int .i64 0, .int .i64 0, .int .i64 0, .int .i64 0, .int .i64 0, .slice none 0 0, .slice none 0 0] 56)) := (Below.refl _ _).alloc (Nat.le_refl _) _
  have hZ := heap_alloc_new wA (.cells #[.int .i64 0, .int .i64 0, .int .i64 0, .int .i64 0, .int .i64 0, .slice none 0 0, .slice none 0 0] 56)
  have hsz : wA.heap.size < (wA.alloc (.cells #[.int .i64 0, .int .i64 0, .int .i64 0, .int .i64 0, .int .i64 0, .slice none 0 0, .slice none 0 0] 56)).heap.size := by simp
  obtain ⟨wB, hwB⟩ : ∃ wB, wA.alloc (.cells #[.int .i64 0, .int .i64 0, .int .i64 0, .int .i64 0, .int .i64 0, .slice none 0 0, .slice none 0 0] 56) = wB := ⟨_, rfl⟩
  rw [hwB] at hbZ hZ hsz
  have hKB := hK.below hbZ
  have hbB : Below w0.heap.size w0 wB := hbA.trans (hbZ.mono hbA.size)
  have c0 := hKB.c 0 _ rfl
  have c1 := hKB.c 1 _ rfl
  have c2 := hKB.c 2 _ rfl
  have c3 := hKB.c 3 _ rfl
  have c4 := hKB.c 4 _ rfl
  have c5 := hKB.c 5 _ rfl
  have c6 := hKB.c 6 _ rfl
  have hle := hbA.size
  have hne : w0.heap.size ≠ wA.heap.size := by have := hK.1; omega
  have HK := hide hKB
  have HZ := hide (And.intro hsz hZ)
  have HB := hide hbB
  have Hle := hide hle
  have HX := hide (hi.below hbB)
  have HS := hide (hs.below hbB)
  have HR := hide (C.below _ _ hr hbB)
  have HC := hide C
  have Hl := hide (And.intro li lse)
  have hle2 : w0.heap.size ≤ wA.heap.size := hle
  clear hi hs hbA hbZ hK hKB hZ hbB hle C hr li lse
  go_enter Tryd.func34, Tryd.ntmps34
  go_wp2_with fail
  refine (at_c wB a b c d e _ _ id (unhide HX) (q : Int)).mono ?_
  rintro ee w1 ⟨rfl, hb1⟩
  have hbS : Below w1.heap.size w1 (w1.alloc (.cells #[.slice si ni ci, .int .i64 (q : Int)] 91)) := (Below.refl _ _).alloc (Nat.le_refl _) _
  have hKs := agg_new w1 [.slice si ni ci, .int .i64 (q : Int)] 91
  obtain ⟨wC, hwC⟩ : ∃ wC, w1.alloc (.cells #[.slice si ni ci, .int .i64 (q : Int)] 91) = wC := ⟨_, rfl⟩
  rw [hwC] at hbS hKs
  have hbC : Below wB.heap.size wB wC.drew := (hb1.trans (hbS.mono hb1.size)).drew
  have HbC := hide hbC
  have HKs := hide (hKs.below (Below.refl _ _).drew)
  have HKd := hide ((unhide HK).below hbC)
  have g0 := hKs.c 0 _ rfl
  have g1 := hKs.c 1 _ rfl
  have hKC := (unhide HK).below (hb1.trans (hbS.mono hb1.size))
  have d0 := hKC.c 0 _ rfl
  have d1 := hKC.c 1 _ rfl
  have d2 := hKC.c 2 _ rfl
  have d3 := hKC.c 3 _ rfl
  have d4 := hKC.c 4 _ rfl
  have d5 := hKC.c 5 _ rfl
  have d6 := hKC.c 6 _ rfl
  have hne2 : w1.heap.size ≠ wA.heap.size := by have := hb1.size; have := (unhide HZ).1; omega
  obtain ⟨K, hKe⟩ : ∃ K, w1.heap.size = K := ⟨_, rfl⟩
  rw [hKe] at hne2 g0 g1 HKs
  clear hb1 hbS hKs hbC hKC c0 c1 c2 c3 c4 c5 c6 hwA hwB
  go_wp2
  go_region_held3 (fun w' => w'.cell? ⟨w0.heap.size, 0, none⟩ = some (.int .i64 a) ∧ w'.cell? ⟨w0.heap.size, 1, none⟩ = some (.int .i64 b) ∧ w'.cell? ⟨w0.heap.size, 2, none⟩ = some (.int .i64 c) ∧ w'.cell? ⟨w0.heap.size, 3, none⟩ = some (.int .i64 d) ∧ w'.cell? ⟨w0.heap.size, 4, none⟩ = some (.int .i64 e) ∧ w'.cell? ⟨w0.heap.size, 5, none⟩ = some (.slice si ni ci) ∧ w'.cell? ⟨w0.heap.size, 6, none⟩ = some (.slice ss ns cs) ∧ w'.cell? ⟨K, 0, none⟩ = some (.slice si ni ci) ∧ w'.cell? ⟨K, 1, none⟩ = some (.int .i64 (q : Int))) ((first | (simp only [cell_other hne, cell_other hne2, and_self, *]; done) | go_keep))
    ((first
      | (go_at_call_of 56 (Value.int IntKind.i64 65535); refine (secret_c (unhide HC) wC.drew ((unhide HC).below _ _ (unhide HR) (unhide HbC)) _ _ id seed ((unhide HX).below (unhide HbC)) ((unhide HS).below (unhide HbC)) (unhide Hl).1 (unhide Hl).2 q 0xffff hq (by omega)).mono ?_; rintro ee w3 ⟨v3, rfl, hR3⟩; obtain ⟨s3, n3, rfl⟩ := hR3.own.form; have hl3 := len_secret H (unhide HC).len id seed q 0xffff; have hc3 : (secret H id seed q 65535).length ≤ n3 := (by obtain ⟨sp', c', e', h', _⟩ := hR3.bytes; simp only [Value.slice.injEq] at e'; rw [List.length_map] at h'; omega); rw [hl3] at hc3; have f16 := front16 s3 32 n3 rfl hc3; rw [hl3] at hR3; have HV3 : Hid (BytesAt w3 (.slice s3 16 n3) (subId H id seed q)) := hide (by have h5 := hR3.bytes; rw [← hl3] at h5; exact bytes_front h5 16 (by omega)); have HW3 := hide ((unhide HbC).trans (hR3.b.mono (unhide HbC).size)); have HK3 := hide ((unhide HKd).below hR3.b); have HKs3 := hide ((unhide HKs).below hR3.b); have m0 := (unhide HK3).c 0 _ rfl; have m1 := (unhide HK3).c 1 _ rfl; have m2 := (unhide HK3).c 2 _ rfl; have m3 := (unhide HK3).c 3 _ rfl; have m4 := (unhide HK3).c 4 _ rfl; have m5 := (unhide HK3).c 5 _ rfl; have m6 := (unhide HK3).c 6 _ rfl; have h0 := (unhide HKs3).c 0 _ rfl; have h1 := (unhide HKs3).c 1 _ rfl; clear hR3 hc3)
      | (go_at_call_of 56 (Value.int IntKind.i64 65534); refine (secret_c (unhide HC) w3 ((unhide HC).below _ _ (unhide HR) (unhide HW3)) _ _ id seed ((unhide HX).below (unhide HW3)) ((unhide HS).below (unhide HW3)) (unhide Hl).1 (unhide Hl).2 q 0xfffe hq (by omega)).mono ?_; rintro ee w4 ⟨v4, rfl, hR4⟩; obtain ⟨s4, n4, c4, rfl⟩ := hR4.bytes.forms; have HV4 : Hid (BytesAt w4 _ (subSeed H id seed q)) := hide hR4.bytes; have HV34 := hide ((unhide HV3).below hR4.b); have HW4 := hide ((unhide HW3).trans (hR4.b.mono (unhide HW3).size)); have HK4 := hide ((unhide HK3).below hR4.b); have HKs4 := hide ((unhide HKs3).below hR4.b); have hZ4 : w4.heap[wA.heap.size]? = some (.cells #[.int .i64 0, .int .i64 0, .int .i64 0, .int .i64 0, .int .i64 0, .slice none 0 0, .slice none 0 0] 56 (0, 0)) := ((unhide HW4).block _ (unhide HZ).1).trans (unhide HZ).2; have o0 := (unhide HK4).c 0 _ rfl; have o1 := (unhide HK4).c 1 _ rfl; have o2 := (unhide HK4).c 2 _ rfl; have o3 := (unhide HK4).c 3 _ rfl; have o4 := (unhide HK4).c 4 _ rfl; have o5 := (unhide HK4).c 5 _ rfl; have o6 := (unhide HK4).c 6 _ rfl; have i0 := (unhide HKs4).c 0 _ rfl; have i1 := (unhide HKs4).c 1 _ rfl; have z0 : w4.cell? ⟨wA.heap.size, 0, none⟩ = some (.int .i64 0) := cell_of_row w4 wA.heap.size 0 _ 56 (0, 0) hZ4; have z1 : w4.cell? ⟨wA.heap.size, 1, none⟩ = some (.int .i64 0) := cell_of_row w4 wA.heap.size 1 _ 56 (0, 0) hZ4; have z2 : w4.cell? ⟨wA.heap.size, 2, none⟩ = some (.int .i64 0) := cell_of_row w4 wA.heap.size 2 _ 56 (0, 0) hZ4; have z3 : w4.cell? ⟨wA.heap.size, 3, none⟩ = some (.int .i64 0) := cell_of_row w4 wA.heap.size 3 _ 56 (0, 0) hZ4; have z4 : w4.cell? ⟨wA.heap.size, 4, none⟩ = some (.int .i64 0) := cell_of_row w4 wA.heap.size 4 _ 56 (0, 0) hZ4; have z5 : w4.cell? ⟨wA.heap.size, 5, none⟩ = some (.slice none 0 0) := cell_of_row w4 wA.heap.size 5 _ 56 (0, 0) hZ4; have z6 : w4.cell? ⟨wA.heap.size, 6, none⟩ = some (.slice none 0 0) := cell_of_row w4 wA.heap.size 6 _ 56 (0, 0) hZ4; have fz := fun j => AggAt.fz hZ4 j; have Hap3 := hide (agg_apart hZ4 zero7 (unhide HV34) (ne_of_len (by unfold subId; rw [List.length_take, hl3]; rfl) (show 0 < 16 by omega))); have Hap4 := hide (agg_apart hZ4 zero7 hR4.bytes (ne_of_len (len_secret H (unhide HC).len id seed q 0xfffe) (by omega))); clear hR4 hZ4)))
  obtain ⟨W, hW⟩ : ∃ W, ((((((w4.setCell ⟨wA.heap.size, 0, none⟩ (.int .i64 a)).setCell ⟨wA.heap.size, 1, none⟩ (.int .i64 b)).setCell ⟨wA.heap.size, 2, none⟩ (.int .i64 c)).setCell ⟨wA.heap.size, 3, none⟩ (.int .i64 d)).setCell ⟨wA.heap.size, 4, none⟩ (.int .i64 e)).setCell ⟨wA.heap.size, 5, none⟩ (.slice s3 16 n3)).setCell ⟨wA.heap.size, 6, none⟩ (.slice s4 n4 c4) = W := ⟨_, rfl⟩
  have HF1 : Hid (BytesAt W (.slice s3 16 n3) (subId H id seed q)) := by
    show BytesAt _ _ _
    rw [← hW]
    repeat' refine BytesAt.set_other ?_ _ _ _ (unhide Hap3)
    exact unhide HV34
  have HF2 : Hid (BytesAt W (.slice s4 n4 c4) (subSeed H id seed q)) := by
    show BytesAt _ _ _
    rw [← hW]
    repeat' refine BytesAt.set_other ?_ _ _ _ (unhide Hap4)
    exact unhide HV4
  have HF3 : Hid (Below w0.heap.size w0 W) := by
    show Below _ _ _
    rw [← hW]
    exact ((((((((unhide HB).trans ((unhide HW4).mono (unhide HB).size)).setCell hle2 _).setCell hle2 _).setCell hle2 _).setCell hle2 _).setCell hle2 _).setCell hle2 _).setCell hle2 _
  have r0 : W.cell? ⟨wA.heap.size, 0, none⟩ = some (.int .i64 a) := by rw [← hW]; simp [go_sem, z0]
  have r1 : W.cell? ⟨wA.heap.size, 1, none⟩ = some (.int .i64 b) := by rw [← hW]; simp [go_sem, z1]
  have r2 : W.cell? ⟨wA.heap.size, 2, none⟩ = some (.int .i64 c) := by rw [← hW]; simp [go_sem, z2]
  have r3 : W.cell? ⟨wA.heap.size, 3, none⟩ = some (.int .i64 d) := by rw [← hW]; simp [go_sem, z3]
  have r4 : W.cell? ⟨wA.heap.size, 4, none⟩ = some (.int .i64 e) := by rw [← hW]; simp [go_sem, z4]
  have r5 : W.cell? ⟨wA.heap.size, 5, none⟩ = some (.slice s3 16 n3) := by rw [← hW]; simp [go_sem, z5]
  have r6 : W.cell? ⟨wA.heap.size, 6, none⟩ = some (.slice s4 n4 c4) := by rw [← hW]; simp [go_sem, z6]
  rw [hW]
  clear hW z0 z1 z2 z3 z4 z5 z6 o0 o1 o2 o3 o4 o5 o6 fz
  go_wp2
  exact bodyPost_ret (v := .agg #[.int .i64 a, .int .i64 b, .int .i64 c, .int .i64 d, .int .i64 e, .slice s3 16 n3, .slice s4 n4 c4]) (by simp [results, Tryd.results34, go_sem, r0, r1, r2, r3, r4, r5, r6]) rfl ⟨_, _, rfl, unhide HF1, unhide HF2, unhide HF3⟩
end Go.Proofs.YtlhjifdahagkaaaDoor
/-
  The walks of the landed grown.public and public.bytes.
-/
namespace Go.Proofs.YtlhjifdahagkaaaDoor
open Go.RowKit
set_option maxRecDepth 100000 in
set_option maxHeartbeats 2000000 in
theorem gpub_c (w0 : World) (a b c d e : Int) (xi xs : Value) (id seed root : Bs) (B n k : Nat) (hi : BytesAt w0 xi id) (hs : BytesAt w0 xs seed) (xr : Value) (hcell : w0.cell? ⟨B, 1, none⟩ = some xr) (hx : BytesAt w0 xr root) (hn : 1 < n) (hnb : n ≤ 1000) :
    Calls Tryd.prog 28 #[.agg #[.int .i64 a, .int .i64 b, .int .i64 c, .int .i64 d, .int .i64 e, xi, xs, .slice (some ⟨B, 0, none⟩) n k]] w0 fun ee w' => ee = .returned (.agg #[.int .i64 a, .int .i64 b, .int .i64 c, .int .i64 d, .int .i64 e, xi, xr]) ∧ Below w0.heap.size w0 w' := by
  obtain ⟨si, ni, ci, rfl⟩ := hi.forms
  obtain ⟨ss, ns, cs, rfl⟩ := hs.forms
  obtain ⟨sr, nr, cr, rfl⟩ := hx.forms
  have hBl := World.block_lt_of_cell? w0 _ hcell
  have hb : ∀ o p : Obj, Below w0.heap.size w0 (((w0.alloc o).alloc p).drew) := fun o p => (((Below.refl _ _).alloc (Nat.le_refl _) _).alloc (by simp) _).drew
  have Hb := hide hb
  have hn1 : (1 : Int) < (n : Int) := by omega
  have hne1 : B ≠ w0.heap.size := by simp at hBl; omega
  have hne2 : B ≠ w0.heap.size + 1 := by simp at hBl; omega
  have hlt : B < w0.heap.size := hBl
  clear hb hi hs hx
  go_enter Tryd.func28, Tryd.ntmps28
  go_wp2
  go_region
  go_wp2
  exact bodyPost_ret (v := .agg #[.int .i64 a, .int .i64 b, .int .i64 c, .int .i64 d, .int .i64 e, .slice si ni ci, .slice sr nr cr]) (by simp [results, Tryd.results28, go_sem]) rfl ⟨rfl, unhide Hb _ _⟩
end Go.Proofs.YtlhjifdahagkaaaDoor
