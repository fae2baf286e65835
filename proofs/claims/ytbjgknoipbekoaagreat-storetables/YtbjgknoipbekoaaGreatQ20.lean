/-
  The walk of the landed store's cutChange.
-/
import Derived.Test.YtbjgknoipbekoaaGreatQ19
import Derived.Deep.Cut
import Derived.Test.YtbjgknoipbekoaaGreatQ3
namespace Go.Proofs.YtbjgknoipbekoaaGreat
open Go.RowKit
/-- One change is read as the code reads it. -/
theorem rd1_cut (t : UInt8) (b : Bs) : rd1 (t :: b) = if t = 0 then (match cutP b 1 with | none => none | some (k, r) => if goodN k.length 0 true then some (⟨k, [], true⟩, r) else none) else if t = 1 then (match cutP b 1 with | none => none | some (k, r) => match cutP r 4 with | none => none | some (v, r2) => if goodN k.length v.length false then some (⟨k, v, false⟩, r2) else none) else none := by
  cases b with
  | nil => simp [rd1, cutP]
  | cons n r =>
    have h1 : ¬ (n :: r).length < 1 := by simp
    have hn : numB ((n :: r).take 1) = n.toNat := by simp [numB]
    have hd : (n :: r).drop 1 = r := rfl
    unfold rd1
    simp only
    unfold cutP
    rw [if_neg h1, hn, hd]
    by_cases hl : r.length < n.toNat
    · rw [if_pos hl, if_pos (Or.inr (Or.inr hl))]
      simp
    · rw [if_neg hl]
      have hk : (r.take n.toNat).length = n.toNat := by rw [List.length_take]; omega
      by_cases hg : n.toNat < 1 ∨ 32 < n.toNat
      · have hg' : ∀ v g, goodN (r.take n.toNat).length v g = false := fun v g => by
          rw [hk]
          unfold goodN
          rcases hg with hg | hg
          · rw [decide_eq_false (show ¬ 1 ≤ n.toNat by omega)]; rfl
          · rw [decide_eq_false (show ¬ n.toNat ≤ 32 by omega)]; simp
        rw [if_pos (by omega)]
        simp only [hg']
        split
        · simp
        · split
          · by_cases h4 : (r.drop n.toNat).length < 4
            · rw [if_pos h4]
            · rw [if_neg h4]
              split <;> rfl
          · rfl
      · have hg' : ∀ v g, goodN (r.take n.toNat).length v g = (g || decide (v ≤ 8192)) := fun v g => by
          rw [hk]
          unfold goodN
          rw [decide_eq_true (show 1 ≤ n.toNat by omega), decide_eq_true (show n.toNat ≤ 32 by omega)]
          rfl
        rw [if_neg (by omega)]
        simp only [hg']
        split
        · simp
        · split
          · by_cases h4 : (r.drop n.toNat).length < 4
            · rw [if_pos h4, if_pos h4]
            · rw [if_neg h4, if_neg h4]
              by_cases h5 : ((r.drop n.toNat).drop 4).length < numB ((r.drop n.toNat).take 4)
              · rw [if_pos (Or.inr h5), if_pos h5]
              · rw [if_neg h5]
                have hv : (((r.drop n.toNat).drop 4).take (numB ((r.drop n.toNat).take 4))).length = numB ((r.drop n.toNat).take 4) := by rw [List.length_take]; omega
                simp only [hv, Bool.false_or, decide_eq_true_eq]
                by_cases h6 : 8192 < numB ((r.drop n.toNat).take 4)
                · rw [if_pos (Or.inl h6), if_neg (by omega)]
                · rw [if_neg (by omega), if_pos (by omega)]
          · rfl
theorem results_cell3 {fn : Func} {p u v : Tmp} {ty : TypeId} (h : fn.results = #[.cell p ty, .tmp u, .tmp v]) (tmps : Array Value) (w : World) (g : Nat) (cs : Array Value)
    (hp : tmps.getD p undef = .pointer (some ⟨g, 0, none⟩)) (hl : (loadVar ty ⟨g, 0, none⟩).run Tryz.prog w = .ok (.agg cs) w) :
    (results fn tmps).run Tryz.prog w = .ok (.tuple #[.agg cs, tmps.getD u undef, tmps.getD v undef]) w := by
  have hp' : tmps[p]?.getD undef = .pointer (some ⟨g, 0, none⟩) := by simpa using hp
  simp [results, h, hp', asAddr, hl]
/-- A struct of three cells in its block. -/
def S3 (w : World) (A : Nat) (a b c : Value) : Prop := RowAt 72 w A [] [a, b, c]
theorem S3.new (w : World) (a b c : Value) : S3 (w.alloc (.cells #[a, b, c] 72)) w.heap.size a b c := (MapKept.heap_alloc w _).1
theorem S3.below {w w' : World} {A : Nat} {a b c : Value} (h : S3 w A a b c) (hb : Below w.heap.size w w') : S3 w' A a b c := RowAt.below h hb
theorem S3.c0 {w : World} {A : Nat} {a b c : Value} (h : S3 w A a b c) : w.cell? ⟨A, 0, none⟩ = some a := RowAt.cell h 0 (by simp)
theorem S3.c1 {w : World} {A : Nat} {a b c : Value} (h : S3 w A a b c) : w.cell? ⟨A, 1, none⟩ = some b := RowAt.cell h 1 (by simp)
theorem S3.c2 {w : World} {A : Nat} {a b c : Value} (h : S3 w A a b c) : w.cell? ⟨A, 2, none⟩ = some c := RowAt.cell h 2 (by simp)
theorem S3.z {w : World} {A : Nat} {a b c : Value} (h : S3 w A a b c) (i : Nat) : w.frozen? ⟨A, i, none⟩ = false := RowAt.frozen h i
theorem S3.put0 {w : World} {A : Nat} {a b c : Value} (h : S3 w A a b c) (u : Value) : S3 (w.setCell ⟨A, 0, none⟩ u) A u b c := RowAt.set h 0 (by simp) u
theorem S3.put1 {w : World} {A : Nat} {a b c : Value} (h : S3 w A a b c) (u : Value) : S3 (w.setCell ⟨A, 1, none⟩ u) A a u c := RowAt.set h 1 (by simp) u
theorem set_new {w0 w : World} {A i : Nat} (hb : Below w0.heap.size w0 w) (hA : w0.heap.size ≤ A) (u : Value) : Below w0.heap.size w0 (w.setCell ⟨A, i, none⟩ u) := hb.trans (Aside.below (S := fun k => k = A) (Aside.of_grown (setCell_grown A i u) fun k e => (Option.some.inj e).symm) hb.size fun k hk => by omega)
theorem drewN_below (w : World) (q : Nat) : Below w.heap.size w (w.drewN q) := below_drewNb (Below.refl _ _) q
theorem info_ch : (Tryz.prog.info? 72).map (·.size) = some 3 := by kernel_rfl
theorem S3.load {w : World} {A : Nat} {a b c : Value} (h : S3 w A a b c) : (loadVar 72 ⟨A, 0, none⟩).run Tryz.prog w = .ok (.agg #[a, b, c]) w := run_loadVar_row w A 72 72 #[a, b, c] (0, 0) _ h Tryz.underlying72 rfl info_ch
/-- What cutting a change off tells. -/
def CutC (K : Set_) (w w' : World) (b : Bs) (e : Ending) : Prop := ∃ (s1 s2 sr : Option Addr) (n1 n2 nr c1 c2 cr : Nat) (g : Bool), e = .returned (.tuple #[.agg #[.slice s1 n1 c1, .slice s2 n2 c2, .bool g], .slice sr nr cr, .bool (rd1 b).isSome]) ∧ (∀ c r, rd1 b = some (c, r) → c.gone = g ∧ ElS K w' (.slice s1 n1 c1) c.key ∧ ElS K w' (.slice s2 n2 c2) c.val ∧ ElS K w' (.slice sr nr cr) r) ∧ Below w.heap.size w w'
set_option maxRecDepth 100000 in
set_option maxHeartbeats 4000000 in
theorem scut_no {K : Set_} {w : World} {x : Value} {t : UInt8} {b : Bs} (hx : ElS K w x (t :: b)) (hb : (t :: b).length ≤ 1000000) (h0 : t ≠ 0) (h1 : t ≠ 1) :
    Calls Tryz.prog 88 #[x] w fun e w' => CutC K w w' (t :: b) e := by
  obtain ⟨sp, c, rfl, hlc, hn, hcell⟩ := bytes_open hx.at_
  obtain ⟨bb, oo, rfl, hlt, hc⟩ := hcell (by simp)
  have k0 : w.cell? ⟨bb, oo, none⟩ = some (.int .u8 (t.toNat : Int)) := by
    have := hc 0 (by simp)
    simpa using this
  obtain ⟨N, hN⟩ : ∃ N, (t :: b).length = N := ⟨_, rfl⟩
  have hN1 : 1 ≤ N := by rw [← hN]; simp
  have HX1 := hide (hx.rest 1 (by simp))
  obtain ⟨N1, hN1'⟩ : ∃ y, N - 1 = y := ⟨_, rfl⟩
  obtain ⟨c1, hc1⟩ : ∃ y, c - 1 = y := ⟨_, rfl⟩
  obtain ⟨sx, hsx⟩ : ∃ y, cutAt (some ⟨bb, oo, none⟩) c 1 = y := ⟨_, rfl⟩
  rw [hN] at hlc hb HX1 ⊢
  have hsl : ∀ w, (Instr.sliceAt 23 (.slice (some ⟨bb, oo, none⟩) N c) (some (.int .i64 1)) none none).run Tryz.prog w = .ok (.slice sx N1 c1) w := fun w => by rw [← hsx, ← hN1', ← hc1]; exact slice_rest (some ⟨bb, oo, none⟩) N c 1 (by omega) w
  rw [hN1', hc1, hsx, show (t :: b).drop 1 = b from rfl] at HX1
  have hbl : b.length ≤ 1000000 := by have : (t :: b).length = b.length + 1 := rfl; omega
  obtain ⟨p, hp⟩ : ∃ p, t.toNat = p := ⟨_, rfl⟩
  rw [hp] at k0
  have HP := hide hp
  have j0 : (0 : Int) < (N : Int) := by omega
  have HRD := hide (rd1_cut t b)
  clear hx hn hcell hc hN hp hN1' hc1 hsx
  have p0 : p ≠ 0 := fun e => h0 (UInt8.toNat_inj.1 (by rw [unhide HP, e]; rfl))
  have p1 : p ≠ 1 := fun e => h1 (UInt8.toNat_inj.1 (by rw [unhide HP, e]; rfl))
  have e0 : rd1 (t :: b) = none := by rw [unhide HRD, if_neg h0, if_neg h1]
  have HE := hide e0
  have d1 : decide ((p : Int) ≠ 1) = true := by simp; omega
  have d2 : decide ((p : Int) ≠ 0) = true := by simp; omega
  have d1b : ((p : Int) != 1) = true := by simp; omega
  have d2b : ((p : Int) != 0) = true := by simp; omega
  have HB1 : Hid (Below w.heap.size w (w.alloc (.cells #[.slice none 0 0, .slice none 0 0, .bool false] 72))) := (Below.refl _ _).alloc (Nat.le_refl _) _
  have HS1 := hide (S3.new w (.slice none 0 0) (.slice none 0 0) (.bool false))
  clear HRD HX1 h0 h1 e0
  go_enter Tryz.func88, Tryz.ntmps88
  go_wp2
  (try simp only [Exit.inBlock, Exit.then])
  refine bodyPost_ret (results_cell3 Tryz.results88 _ _ w.heap.size #[.slice none 0 0, .slice none 0 0, .bool false] rfl (unhide HS1).load) rfl ?_
  refine ⟨none, none, none, 0, 0, 0, 0, 0, 0, false, by rw [unhide HE]; rfl, fun c r h => ?_, unhide HB1⟩
  rw [unhide HE] at h
  cases h
set_option maxRecDepth 100000 in
set_option maxHeartbeats 4000000 in
theorem scut_g1 {K : Set_} {w : World} {x : Value} {t : UInt8} {b : Bs} (hx : ElS K w x (t :: b)) (hb : (t :: b).length ≤ 1000000) (ht : t = 0) (hk : cutP b 1 = none) :
    Calls Tryz.prog 88 #[x] w fun e w' => CutC K w w' (t :: b) e := by
  obtain ⟨sp, c, rfl, hlc, hn, hcell⟩ := bytes_open hx.at_
  obtain ⟨bb, oo, rfl, hlt, hc⟩ := hcell (by simp)
  have k0 : w.cell? ⟨bb, oo, none⟩ = some (.int .u8 (t.toNat : Int)) := by
    have := hc 0 (by simp)
    simpa using this
  obtain ⟨N, hN⟩ : ∃ N, (t :: b).length = N := ⟨_, rfl⟩
  have hN1 : 1 ≤ N := by rw [← hN]; simp
  have HX1 := hide (hx.rest 1 (by simp))
  obtain ⟨N1, hN1'⟩ : ∃ y, N - 1 = y := ⟨_, rfl⟩
  obtain ⟨c1, hc1⟩ : ∃ y, c - 1 = y := ⟨_, rfl⟩
  obtain ⟨sx, hsx⟩ : ∃ y, cutAt (some ⟨bb, oo, none⟩) c 1 = y := ⟨_, rfl⟩
  rw [hN] at hlc hb HX1 ⊢
  have hsl : ∀ w, (Instr.sliceAt 23 (.slice (some ⟨bb, oo, none⟩) N c) (some (.int .i64 1)) none none).run Tryz.prog w = .ok (.slice sx N1 c1) w := fun w => by rw [← hsx, ← hN1', ← hc1]; exact slice_rest (some ⟨bb, oo, none⟩) N c 1 (by omega) w
  rw [hN1', hc1, hsx, show (t :: b).drop 1 = b from rfl] at HX1
  have hbl : b.length ≤ 1000000 := by have : (t :: b).length = b.length + 1 := rfl; omega
  obtain ⟨p, hp⟩ : ∃ p, t.toNat = p := ⟨_, rfl⟩
  rw [hp] at k0
  have HP := hide hp
  have j0 : (0 : Int) < (N : Int) := by omega
  have HRD := hide (rd1_cut t b)
  clear hx hn hcell hc hN hp hN1' hc1 hsx
  have HE : Hid (rd1 (t :: b) = none) := by show _ = _; rw [unhide HRD, ht, hk]; rfl
  have p0 : p = 0 := by rw [← unhide HP, ht]; rfl
  subst p0
  have d1 : decide ((0 : Int) ≠ 1) = true := by decide
  have d2 : decide ((0 : Int) ≠ 0) = false := by decide
  go_enter Tryz.func88, Tryz.ntmps88
  go_upto_region 4 with fail
  obtain ⟨W1, hW1⟩ : ∃ y, w.alloc (.cells #[.slice none 0 0, .slice none 0 0, .bool true] 72) = y := ⟨_, rfl⟩
  have HB1 : Hid (Below w.heap.size w W1) := by rw [← hW1]; exact (Below.refl _ _).alloc (Nat.le_refl _) _
  have HS1 : Hid (S3 W1 w.heap.size (.slice none 0 0) (.slice none 0 0) (.bool true)) := by rw [← hW1]; exact S3.new w _ _ _
  rw [hW1]
  clear hW1 k0 d1 d2 HRD HP
  have Hc := hide (scutp_c 1 ((unhide HX1).aside (S := none_) (Aside.of_below (unhide HB1)) fun _ h => h.elim) (by omega) (by omega) hbl)
  rw [hk] at Hc
  go_upto_region 5 with (first
    | (go_at_call 103; refine (unhide Hc).mono ?_
       rintro e W2 ⟨⟨pv, rv, rfl, hpv, hrv⟩, q, hq⟩
       obtain ⟨s1, q1, e1, _⟩ := bytes_open hpv.at_
       obtain ⟨sr, qr, er, _⟩ := bytes_open hrv.at_
       subst e1
       subst er
       have hb2 : Below W1.heap.size W1 W2 := by rw [hq]; exact drewN_below W1 q
       have hs2 := (unhide HS1).below hb2
       have m0 := hs2.c0
       have z0 := hs2.z 0
       obtain ⟨W3, hW3⟩ : ∃ y, W2.setCell ⟨w.heap.size, 0, none⟩ (.slice s1 0 q1) = y := ⟨_, rfl⟩
       have HS3 : Hid (S3 W3 w.heap.size (.slice s1 0 q1) (.slice none 0 0) (.bool true)) := by rw [← hW3]; exact hs2.put0 _
       have HB3 : Hid (Below w.heap.size w W3) := by rw [← hW3]; exact set_new ((unhide HB1).trans (hb2.mono (unhide HB1).size)) (Nat.le_refl _) _
       have HPV := hide hpv
       have HRV := hide hrv
       have HA3 : Hid (Aside (fun k => k = w.heap.size) W2 W3) := by rw [← hW3]; exact Aside.of_grown (setCell_grown _ 0 _) fun k e => (Option.some.inj e).symm
       clear hb2 hs2 hq hpv hrv))
  clear hk
  have n0 := (unhide HS3).c0
  have n1 := (unhide HS3).c1
  have n2 := (unhide HS3).c2
  go_upto_region 7 with fail
  refine wp_region_held_drew (S := fun w' => w'.cell? ⟨w.heap.size, 0, none⟩ = some (.slice s1 0 q1) ∧ w'.cell? ⟨w.heap.size, 1, none⟩ = some (.slice none 0 0) ∧ w'.cell? ⟨w.heap.size, 2, none⟩ = some (.bool true)) (by kernel_rfl) (⟨n0, n1, n2⟩) (fun hHeld => ?_)
  refine wpAnyH_take (i := 0) (oi := { dst := some 42, op := Op.load 72 (Operand.tmp 2), type := 72, pos := "change.go:78", after := #[], guard := none }) (v := ?_) rfl (by kernel_rfl) (by kernel_rfl) (by kernel_rfl) (fun _ _ _ h => h) (Or.inl ⟨by rfl, ?b1⟩) (by assumption) ?_
  case b1 => (intro w_ hSw; obtain ⟨p0, p1, p2⟩ := hSw; go_simp; try with_reducible rfl)
  simp only [Act.put, List.setIfInBounds_toArray, List.set_cons_zero, List.set_cons_succ]
  refine wpAnyH_take (i := 1) (oi := { dst := some 43, op := Op.move (Operand.tmp 3), type := 23, pos := "change.go:78", after := #[{ on := 7, ground := Ground.gcOnly Departure.lateStores }], guard := none }) (v := ?_) rfl (by kernel_rfl) (by kernel_rfl) (by kernel_rfl) (fun _ _ _ h => h) (Or.inl ⟨by rfl, ?b2⟩) (by assumption) ?_
  case b2 => (intro w_ hSw; obtain ⟨_, _, _⟩ := hSw; go_simp; try with_reducible rfl)
  simp only [Act.put, List.setIfInBounds_toArray, List.set_cons_zero, List.set_cons_succ]
  refine wpAnyH_take (i := 2) (oi := { dst := some 44, op := Op.move (Operand.tmp 4), type := 4, pos := "change.go:78", after := #[], guard := none }) (v := ?_) rfl (by kernel_rfl) (by kernel_rfl) (by kernel_rfl) (fun _ _ _ h => h) (Or.inl ⟨by rfl, ?b3⟩) (by assumption) ?_
  case b3 => (intro w_ hSw; obtain ⟨_, _, _⟩ := hSw; go_simp; try with_reducible rfl)
  simp only [Act.put, List.setIfInBounds_toArray, List.set_cons_zero, List.set_cons_succ]
  refine wpAnyH_take (i := 3) (oi := { dst := some 45, op := Op.move (Operand.tmp 44), type := 4, pos := "change.go:78", after := #[{ on := 2, ground := Ground.data }], guard := none }) (v := ?_) rfl (by kernel_rfl) (by kernel_rfl) (by kernel_rfl) (fun _ _ _ h => h) (Or.inl ⟨by rfl, ?b4⟩) (by assumption) ?_
  case b4 => (intro w_ hSw; obtain ⟨_, _, _⟩ := hSw; go_simp; try with_reducible rfl)
  simp only [Act.put, List.setIfInBounds_toArray, List.set_cons_zero, List.set_cons_succ]
  have HS7 : Hid (S3 W3.drew w.heap.size (.slice s1 0 q1) (.slice none 0 0) (.bool true)) := (unhide HS3).below (Below.refl _ _).drew
  have HB7 : Hid (Below w.heap.size w W3.drew) := (unhide HB3).drew
  have HB78 : Hid (Below W3.heap.size W3 W3.drew) := (Below.refl _ _).drew
  refine wpAnyH_take (i := 4) (oi := { dst := some 46, op := Op.load 72 (Operand.tmp 2), type := 72, pos := "change.go:78", after := #[{ on := 3, ground := Ground.guard }], guard := some (3, true) }) (v := undef) rfl (by kernel_rfl) (by kernel_rfl) (by kernel_rfl) (fun _ _ _ h => h) (Or.inr ⟨by rfl, rfl⟩) (by assumption) ?_
  simp only [Act.put, List.setIfInBounds_toArray, List.set_cons_zero, List.set_cons_succ]
  refine wpAnyH_take (i := 5) (oi := { dst := some 47, op := Op.call { callee := Callee.value (Operand.func 69), args := #[Operand.tmp 46], argTypes := #[72] }, type := 4, pos := "change.go:78", after := #[{ on := 4, ground := Ground.data }, { on := 3, ground := Ground.chain }, { on := 3, ground := Ground.guard }], guard := some (3, true) }) (v := undef) rfl (by kernel_rfl) (by kernel_rfl) (by kernel_rfl) (fun _ _ _ h => h) (Or.inr ⟨by rfl, rfl⟩) (by assumption) ?_
  simp only [Act.put, List.setIfInBounds_toArray, List.set_cons_zero, List.set_cons_succ]
  refine wpAnyH_take (i := 6) (oi := { dst := some 48, op := Op.pick (Operand.tmp 45) (Operand.tmp 47) (Operand.const (Value.bool false)), type := 4, pos := "change.go:78", after := #[{ on := 3, ground := Ground.data }, { on := 5, ground := Ground.data }, { on := 8, ground := Ground.gcOnly Departure.lateStores }], guard := none }) (v := ?_) rfl (by kernel_rfl) (by kernel_rfl) (by kernel_rfl) (fun _ _ _ h => h) (Or.inl ⟨by rfl, ?b5⟩) (by assumption) ?_
  case b5 => (intro w_ hSw; obtain ⟨_, _, _⟩ := hSw; go_simp; try with_reducible rfl)
  simp only [Act.put, List.setIfInBounds_toArray, List.set_cons_zero, List.set_cons_succ]
  refine wpAnyH_ready (rs := [7]) (by kernel_rfl) (by simp) ?_
  refine AllReadyH.cons (o := { dst := none, op := Op.store 72 (Operand.tmp 2) (Operand.tmp 42), type := 0, pos := "change.go:78", after := #[{ on := 0, ground := Ground.data }, { on := 5, ground := Ground.chain }, { on := 0, ground := Ground.phase }, { on := 1, ground := Ground.textOnly Departure.lateStores }, { on := 2, ground := Ground.textOnly Departure.lateStores }, { on := 3, ground := Ground.textOnly Departure.lateStores }, { on := 4, ground := Ground.phase }, { on := 5, ground := Ground.textOnly Departure.lateStoresUnsure }, { on := 6, ground := Ground.textOnly Departure.lateStores }], guard := none }) rfl (fun K_ hK_ => ?_) AllReadyH.nil
  rw [if_pos (by rfl)]
  refine wp_store_row 72 _ _ rfl w.heap.size #[.slice s1 0 q1, .slice none 0 0, .bool true] rfl rfl 72 _ (unhide HS7) info_ch rfl (by simp [Value.oneCell']) ?_
  obtain ⟨W8, hW8⟩ : ∃ y, W3.drew.setRow w.heap.size #[.slice s1 0 q1, .slice none 0 0, .bool true] = y := ⟨_, rfl⟩
  have HS8 : Hid (S3 W8 w.heap.size (.slice s1 0 q1) (.slice none 0 0) (.bool true)) := by rw [← hW8]; exact setRow_heap _ w.heap.size _ _ 72 _ (unhide HS7)
  have HB8 : Hid (Below w.heap.size w W8) := by rw [← hW8]; exact (unhide HB7).trans ⟨rfl, rfl, rfl, by simp, fun k hk => setRow_other _ _ k _ (by omega)⟩
  have HA8 : Hid (Aside (fun k => k = w.heap.size) W3 W8) := by rw [← hW8]; exact (Aside.of_below (unhide HB78)).trans (T := fun k => k = w.heap.size) ⟨rfl, rfl, rfl, by simp, fun k _ hk => setRow_other _ _ k _ hk⟩ fun _ _ h => h
  rw [hW8]
  clear hW8
  refine hK_.out _ _ (⟨(unhide HS8).c0, (unhide HS8).c1, (unhide HS8).c2⟩) (fun hHeld => ?_)
  clear hK_ K_
  (try simp only [Act.put])
  refine wpAnyH_take (i := 8) (oi := { dst := some 3, op := Op.assign (Operand.tmp 43), type := 23, pos := "change.go:78", after := #[{ on := 1, ground := Ground.data }, { on := 7, ground := Ground.chain }, { on := 0, ground := Ground.phase }, { on := 1, ground := Ground.phase }, { on := 2, ground := Ground.textOnly Departure.lateStores }, { on := 3, ground := Ground.textOnly Departure.lateStores }, { on := 4, ground := Ground.phase }, { on := 5, ground := Ground.textOnly Departure.lateStoresUnsure }, { on := 6, ground := Ground.textOnly Departure.lateStores }, { on := 7, ground := Ground.phase }], guard := none }) (v := ?_) rfl (by kernel_rfl) (by kernel_rfl) (by kernel_rfl) (fun _ _ _ h => h) (Or.inl ⟨by rfl, ?b6⟩) (by assumption) ?_
  case b6 => (intro w_ hSw; obtain ⟨_, _, _⟩ := hSw; go_simp; try with_reducible rfl)
  simp only [Act.put, List.setIfInBounds_toArray, List.set_cons_zero, List.set_cons_succ]
  refine wpAnyH_take (i := 9) (oi := { dst := some 4, op := Op.assign (Operand.tmp 48), type := 4, pos := "change.go:78", after := #[{ on := 6, ground := Ground.data }, { on := 8, ground := Ground.chain }, { on := 0, ground := Ground.phase }, { on := 1, ground := Ground.phase }, { on := 2, ground := Ground.phase }, { on := 3, ground := Ground.phase }, { on := 4, ground := Ground.phase }, { on := 5, ground := Ground.phase }, { on := 6, ground := Ground.phase }, { on := 7, ground := Ground.phase }, { on := 8, ground := Ground.phase }], guard := none }) (v := ?_) rfl (by kernel_rfl) (by kernel_rfl) (by kernel_rfl) (fun _ _ _ h => h) (Or.inl ⟨by rfl, ?b7⟩) (by assumption) ?_
  case b7 => (intro w_ hSw; obtain ⟨_, _, _⟩ := hSw; go_simp; try with_reducible rfl)
  simp only [Act.put, List.setIfInBounds_toArray, List.set_cons_zero, List.set_cons_succ]
  refine wpAnyH_done (by kernel_rfl) ?_ _
  go_wp2
  (try simp only [Exit.inBlock, Exit.then])
  refine bodyPost_ret (results_cell3 Tryz.results88 _ _ w.heap.size #[.slice s1 0 q1, .slice none 0 0, .bool true] rfl (unhide HS8).load) rfl ?_
  refine ⟨s1, none, sr, 0, 0, 0, q1, 0, qr, true, by rw [unhide HE]; rfl, fun c r h => ?_, unhide HB8⟩
  rw [unhide HE] at h
  cases h
set_option maxRecDepth 100000 in
set_option maxHeartbeats 4000000 in
theorem scut_s1 {K : Set_} {w : World} {x : Value} {t : UInt8} {b : Bs} (hx : ElS K w x (t :: b)) (hb : (t :: b).length ≤ 1000000) (ht : t = 1) (hk : cutP b 1 = none) :
    Calls Tryz.prog 88 #[x] w fun e w' => CutC K w w' (t :: b) e := by
  obtain ⟨sp, c, rfl, hlc, hn, hcell⟩ := bytes_open hx.at_
  obtain ⟨bb, oo, rfl, hlt, hc⟩ := hcell (by simp)
  have k0 : w.cell? ⟨bb, oo, none⟩ = some (.int .u8 (t.toNat : Int)) := by
    have := hc 0 (by simp)
    simpa using this
  obtain ⟨N, hN⟩ : ∃ N, (t :: b).length = N := ⟨_, rfl⟩
  have hN1 : 1 ≤ N := by rw [← hN]; simp
  have HX1 := hide (hx.rest 1 (by simp))
  obtain ⟨N1, hN1'⟩ : ∃ y, N - 1 = y := ⟨_, rfl⟩
  obtain ⟨c1, hc1⟩ : ∃ y, c - 1 = y := ⟨_, rfl⟩
  obtain ⟨sx, hsx⟩ : ∃ y, cutAt (some ⟨bb, oo, none⟩) c 1 = y := ⟨_, rfl⟩
  rw [hN] at hlc hb HX1 ⊢
  have hsl : ∀ w, (Instr.sliceAt 23 (.slice (some ⟨bb, oo, none⟩) N c) (some (.int .i64 1)) none none).run Tryz.prog w = .ok (.slice sx N1 c1) w := fun w => by rw [← hsx, ← hN1', ← hc1]; exact slice_rest (some ⟨bb, oo, none⟩) N c 1 (by omega) w
  rw [hN1', hc1, hsx, show (t :: b).drop 1 = b from rfl] at HX1
  have hbl : b.length ≤ 1000000 := by have : (t :: b).length = b.length + 1 := rfl; omega
  obtain ⟨p, hp⟩ : ∃ p, t.toNat = p := ⟨_, rfl⟩
  rw [hp] at k0
  have HP := hide hp
  have j0 : (0 : Int) < (N : Int) := by omega
  have HRD := hide (rd1_cut t b)
  clear hx hn hcell hc hN hp hN1' hc1 hsx
  have HE : Hid (rd1 (t :: b) = none) := by show _ = _; rw [unhide HRD, ht, hk]; rfl
  have p0 : p = 1 := by rw [← unhide HP, ht]; rfl
  subst p0
  have d1 : decide ((1 : Int) ≠ 1) = false := by decide
  have d2 : decide ((1 : Int) ≠ 0) = true := by decide
  go_enter Tryz.func88, Tryz.ntmps88
  go_upto_region 4 with fail
  obtain ⟨W1, hW1⟩ : ∃ y, w.alloc (.cells #[.slice none 0 0, .slice none 0 0, .bool false] 72) = y := ⟨_, rfl⟩
  have HB1 : Hid (Below w.heap.size w W1) := by rw [← hW1]; exact (Below.refl _ _).alloc (Nat.le_refl _) _
  have HS1 : Hid (S3 W1 w.heap.size (.slice none 0 0) (.slice none 0 0) (.bool false)) := by rw [← hW1]; exact S3.new w _ _ _
  rw [hW1]
  clear hW1 k0 d1 d2 HRD HP
  have Hc := hide (scutp_c 1 ((unhide HX1).aside (S := none_) (Aside.of_below (unhide HB1)) fun _ h => h.elim) (by omega) (by omega) hbl)
  rw [hk] at Hc
  go_upto_region 5 with (first
    | (go_at_call 103; refine (unhide Hc).mono ?_
       rintro e W2 ⟨⟨pv, rv, rfl, hpv, hrv⟩, q, hq⟩
       obtain ⟨s1, q1, e1, _⟩ := bytes_open hpv.at_
       obtain ⟨sr, qr, er, _⟩ := bytes_open hrv.at_
       subst e1
       subst er
       have hb2 : Below W1.heap.size W1 W2 := by rw [hq]; exact drewN_below W1 q
       have hs2 := (unhide HS1).below hb2
       have m0 := hs2.c0
       have z0 := hs2.z 0
       obtain ⟨W3, hW3⟩ : ∃ y, W2.setCell ⟨w.heap.size, 0, none⟩ (.slice s1 0 q1) = y := ⟨_, rfl⟩
       have HS3 : Hid (S3 W3 w.heap.size (.slice s1 0 q1) (.slice none 0 0) (.bool false)) := by rw [← hW3]; exact hs2.put0 _
       have HB3 : Hid (Below w.heap.size w W3) := by rw [← hW3]; exact set_new ((unhide HB1).trans (hb2.mono (unhide HB1).size)) (Nat.le_refl _) _
       have HPV := hide hpv
       have HRV := hide hrv
       have HA3 : Hid (Aside (fun k => k = w.heap.size) W2 W3) := by rw [← hW3]; exact Aside.of_grown (setCell_grown _ 0 _) fun k e => (Option.some.inj e).symm
       clear hb2 hs2 hq hpv hrv))
  clear hk
  have n0 := (unhide HS3).c0
  have n1 := (unhide HS3).c1
  have n2 := (unhide HS3).c2
  go_upto_region 7 with fail
  refine wp_region_held_drew (S := fun w' => w'.cell? ⟨w.heap.size, 0, none⟩ = some (.slice s1 0 q1) ∧ w'.cell? ⟨w.heap.size, 1, none⟩ = some (.slice none 0 0) ∧ w'.cell? ⟨w.heap.size, 2, none⟩ = some (.bool false)) (by kernel_rfl) (⟨n0, n1, n2⟩) (fun hHeld => ?_)
  refine wpAnyH_take (i := 0) (oi := { dst := some 42, op := Op.load 72 (Operand.tmp 2), type := 72, pos := "change.go:78", after := #[], guard := none }) (v := ?_) rfl (by kernel_rfl) (by kernel_rfl) (by kernel_rfl) (fun _ _ _ h => h) (Or.inl ⟨by rfl, ?c1⟩) (by assumption) ?_
  case c1 => (intro w_ hSw; obtain ⟨p0, p1, p2⟩ := hSw; go_simp; try with_reducible rfl)
  simp only [Act.put, List.setIfInBounds_toArray, List.set_cons_zero, List.set_cons_succ]
  refine wpAnyH_take (i := 1) (oi := { dst := some 43, op := Op.move (Operand.tmp 3), type := 23, pos := "change.go:78", after := #[{ on := 7, ground := Ground.gcOnly Departure.lateStores }], guard := none }) (v := ?_) rfl (by kernel_rfl) (by kernel_rfl) (by kernel_rfl) (fun _ _ _ h => h) (Or.inl ⟨by rfl, ?c2⟩) (by assumption) ?_
  case c2 => (intro w_ hSw; obtain ⟨_, _, _⟩ := hSw; go_simp; try with_reducible rfl)
  simp only [Act.put, List.setIfInBounds_toArray, List.set_cons_zero, List.set_cons_succ]
  refine wpAnyH_take (i := 2) (oi := { dst := some 44, op := Op.move (Operand.tmp 4), type := 4, pos := "change.go:78", after := #[], guard := none }) (v := ?_) rfl (by kernel_rfl) (by kernel_rfl) (by kernel_rfl) (fun _ _ _ h => h) (Or.inl ⟨by rfl, ?c3⟩) (by assumption) ?_
  case c3 => (intro w_ hSw; obtain ⟨_, _, _⟩ := hSw; go_simp; try with_reducible rfl)
  simp only [Act.put, List.setIfInBounds_toArray, List.set_cons_zero, List.set_cons_succ]
  refine wpAnyH_take (i := 3) (oi := { dst := some 45, op := Op.move (Operand.tmp 44), type := 4, pos := "change.go:78", after := #[{ on := 2, ground := Ground.data }], guard := none }) (v := ?_) rfl (by kernel_rfl) (by kernel_rfl) (by kernel_rfl) (fun _ _ _ h => h) (Or.inl ⟨by rfl, ?c4⟩) (by assumption) ?_
  case c4 => (intro w_ hSw; obtain ⟨_, _, _⟩ := hSw; go_simp; try with_reducible rfl)
  simp only [Act.put, List.setIfInBounds_toArray, List.set_cons_zero, List.set_cons_succ]
  have HS7 : Hid (S3 W3.drew w.heap.size (.slice s1 0 q1) (.slice none 0 0) (.bool false)) := (unhide HS3).below (Below.refl _ _).drew
  have HB7 : Hid (Below w.heap.size w W3.drew) := (unhide HB3).drew
  have HB78 : Hid (Below W3.heap.size W3 W3.drew) := (Below.refl _ _).drew
  refine wpAnyH_take (i := 4) (oi := { dst := some 46, op := Op.load 72 (Operand.tmp 2), type := 72, pos := "change.go:78", after := #[{ on := 3, ground := Ground.guard }], guard := some (3, true) }) (v := undef) rfl (by kernel_rfl) (by kernel_rfl) (by kernel_rfl) (fun _ _ _ h => h) (Or.inr ⟨by rfl, rfl⟩) (by assumption) ?_
  simp only [Act.put, List.setIfInBounds_toArray, List.set_cons_zero, List.set_cons_succ]
  refine wpAnyH_take (i := 5) (oi := { dst := some 47, op := Op.call { callee := Callee.value (Operand.func 69), args := #[Operand.tmp 46], argTypes := #[72] }, type := 4, pos := "change.go:78", after := #[{ on := 4, ground := Ground.data }, { on := 3, ground := Ground.chain }, { on := 3, ground := Ground.guard }], guard := some (3, true) }) (v := undef) rfl (by kernel_rfl) (by kernel_rfl) (by kernel_rfl) (fun _ _ _ h => h) (Or.inr ⟨by rfl, rfl⟩) (by assumption) ?_
  simp only [Act.put, List.setIfInBounds_toArray, List.set_cons_zero, List.set_cons_succ]
  refine wpAnyH_take (i := 6) (oi := { dst := some 48, op := Op.pick (Operand.tmp 45) (Operand.tmp 47) (Operand.const (Value.bool false)), type := 4, pos := "change.go:78", after := #[{ on := 3, ground := Ground.data }, { on := 5, ground := Ground.data }, { on := 8, ground := Ground.gcOnly Departure.lateStores }], guard := none }) (v := ?_) rfl (by kernel_rfl) (by kernel_rfl) (by kernel_rfl) (fun _ _ _ h => h) (Or.inl ⟨by rfl, ?c5⟩) (by assumption) ?_
  case c5 => (intro w_ hSw; obtain ⟨_, _, _⟩ := hSw; go_simp; try with_reducible rfl)
  simp only [Act.put, List.setIfInBounds_toArray, List.set_cons_zero, List.set_cons_succ]
  refine wpAnyH_ready (rs := [7]) (by kernel_rfl) (by simp) ?_
  refine AllReadyH.cons (o := { dst := none, op := Op.store 72 (Operand.tmp 2) (Operand.tmp 42), type := 0, pos := "change.go:78", after := #[{ on := 0, ground := Ground.data }, { on := 5, ground := Ground.chain }, { on := 0, ground := Ground.phase }, { on := 1, ground := Ground.textOnly Departure.lateStores }, { on := 2, ground := Ground.textOnly Departure.lateStores }, { on := 3, ground := Ground.textOnly Departure.lateStores }, { on := 4, ground := Ground.phase }, { on := 5, ground := Ground.textOnly Departure.lateStoresUnsure }, { on := 6, ground := Ground.textOnly Departure.lateStores }], guard := none }) rfl (fun K_ hK_ => ?_) AllReadyH.nil
  rw [if_pos (by rfl)]
  refine wp_store_row 72 _ _ rfl w.heap.size #[.slice s1 0 q1, .slice none 0 0, .bool false] rfl rfl 72 _ (unhide HS7) info_ch rfl (by simp [Value.oneCell']) ?_
  obtain ⟨W8, hW8⟩ : ∃ y, W3.drew.setRow w.heap.size #[.slice s1 0 q1, .slice none 0 0, .bool false] = y := ⟨_, rfl⟩
  have HS8 : Hid (S3 W8 w.heap.size (.slice s1 0 q1) (.slice none 0 0) (.bool false)) := by rw [← hW8]; exact setRow_heap _ w.heap.size _ _ 72 _ (unhide HS7)
  have HB8 : Hid (Below w.heap.size w W8) := by rw [← hW8]; exact (unhide HB7).trans ⟨rfl, rfl, rfl, by simp, fun k hk => setRow_other _ _ k _ (by omega)⟩
  have HA8 : Hid (Aside (fun k => k = w.heap.size) W3 W8) := by rw [← hW8]; exact (Aside.of_below (unhide HB78)).trans (T := fun k => k = w.heap.size) ⟨rfl, rfl, rfl, by simp, fun k _ hk => setRow_other _ _ k _ hk⟩ fun _ _ h => h
  rw [hW8]
  clear hW8
  refine hK_.out _ _ (⟨(unhide HS8).c0, (unhide HS8).c1, (unhide HS8).c2⟩) (fun hHeld => ?_)
  clear hK_ K_
  (try simp only [Act.put])
  refine wpAnyH_take (i := 8) (oi := { dst := some 3, op := Op.assign (Operand.tmp 43), type := 23, pos := "change.go:78", after := #[{ on := 1, ground := Ground.data }, { on := 7, ground := Ground.chain }, { on := 0, ground := Ground.phase }, { on := 1, ground := Ground.phase }, { on := 2, ground := Ground.textOnly Departure.lateStores }, { on := 3, ground := Ground.textOnly Departure.lateStores }, { on := 4, ground := Ground.phase }, { on := 5, ground := Ground.textOnly Departure.lateStoresUnsure }, { on := 6, ground := Ground.textOnly Departure.lateStores }, { on := 7, ground := Ground.phase }], guard := none }) (v := ?_) rfl (by kernel_rfl) (by kernel_rfl) (by kernel_rfl) (fun _ _ _ h => h) (Or.inl ⟨by rfl, ?c6⟩) (by assumption) ?_
  case c6 => (intro w_ hSw; obtain ⟨_, _, _⟩ := hSw; go_simp; try with_reducible rfl)
  simp only [Act.put, List.setIfInBounds_toArray, List.set_cons_zero, List.set_cons_succ]
  refine wpAnyH_take (i := 9) (oi := { dst := some 4, op := Op.assign (Operand.tmp 48), type := 4, pos := "change.go:78", after := #[{ on := 6, ground := Ground.data }, { on := 8, ground := Ground.chain }, { on := 0, ground := Ground.phase }, { on := 1, ground := Ground.phase }, { on := 2, ground := Ground.phase }, { on := 3, ground := Ground.phase }, { on := 4, ground := Ground.phase }, { on := 5, ground := Ground.phase }, { on := 6, ground := Ground.phase }, { on := 7, ground := Ground.phase }, { on := 8, ground := Ground.phase }], guard := none }) (v := ?_) rfl (by kernel_rfl) (by kernel_rfl) (by kernel_rfl) (fun _ _ _ h => h) (Or.inl ⟨by rfl, ?c7⟩) (by assumption) ?_
  case c7 => (intro w_ hSw; obtain ⟨_, _, _⟩ := hSw; go_simp; try with_reducible rfl)
  simp only [Act.put, List.setIfInBounds_toArray, List.set_cons_zero, List.set_cons_succ]
  refine wpAnyH_done (by kernel_rfl) ?_ _
  go_wp2
  (try simp only [Exit.inBlock, Exit.then])
  refine bodyPost_ret (results_cell3 Tryz.results88 _ _ w.heap.size #[.slice s1 0 q1, .slice none 0 0, .bool false] rfl (unhide HS8).load) rfl ?_
  refine ⟨s1, none, sr, 0, 0, 0, q1, 0, qr, false, by rw [unhide HE]; rfl, fun c r h => ?_, unhide HB8⟩
  rw [unhide HE] at h
  cases h
set_option maxRecDepth 100000 in
set_option maxHeartbeats 4000000 in
theorem scut_g2 {K : Set_} {w : World} {x : Value} {t : UInt8} {b : Bs} (hx : ElS K w x (t :: b)) (hb : (t :: b).length ≤ 1000000) (hKw : ¬ K w.heap.size) {kb rb : Bs} (ht : t = 0) (hk : cutP b 1 = some (kb, rb)) {KN : Nat} (hKN : kb.length = KN) :
    Calls Tryz.prog 88 #[x] w fun e w' => CutC K w w' (t :: b) e := by
  obtain ⟨sp, c, rfl, hlc, hn, hcell⟩ := bytes_open hx.at_
  obtain ⟨bb, oo, rfl, hlt, hc⟩ := hcell (by simp)
  have k0 : w.cell? ⟨bb, oo, none⟩ = some (.int .u8 (t.toNat : Int)) := by
    have := hc 0 (by simp)
    simpa using this
  obtain ⟨N, hN⟩ : ∃ N, (t :: b).length = N := ⟨_, rfl⟩
  have hN1 : 1 ≤ N := by rw [← hN]; simp
  have HX1 := hide (hx.rest 1 (by simp))
  obtain ⟨N1, hN1'⟩ : ∃ y, N - 1 = y := ⟨_, rfl⟩
  obtain ⟨c1, hc1⟩ : ∃ y, c - 1 = y := ⟨_, rfl⟩
  obtain ⟨sx, hsx⟩ : ∃ y, cutAt (some ⟨bb, oo, none⟩) c 1 = y := ⟨_, rfl⟩
  rw [hN] at hlc hb HX1 ⊢
  have hsl : ∀ w, (Instr.sliceAt 23 (.slice (some ⟨bb, oo, none⟩) N c) (some (.int .i64 1)) none none).run Tryz.prog w = .ok (.slice sx N1 c1) w := fun w => by rw [← hsx, ← hN1', ← hc1]; exact slice_rest (some ⟨bb, oo, none⟩) N c 1 (by omega) w
  rw [hN1', hc1, hsx, show (t :: b).drop 1 = b from rfl] at HX1
  have hbl : b.length ≤ 1000000 := by have : (t :: b).length = b.length + 1 := rfl; omega
  obtain ⟨p, hp⟩ : ∃ p, t.toNat = p := ⟨_, rfl⟩
  rw [hp] at k0
  have HP := hide hp
  have j0 : (0 : Int) < (N : Int) := by omega
  have HRD := hide (rd1_cut t b)
  clear hx hn hcell hc hN hp hN1' hc1 hsx
  have HE : Hid (rd1 (t :: b) = if goodN KN 0 true then some (⟨kb, [], true⟩, rb) else none) := by show _ = _; rw [unhide HRD, ht, hk, ← hKN]; rfl
  have HKN := hide hKN
  clear hKN
  have p0 : p = 0 := by rw [← unhide HP, ht]; rfl
  subst p0
  have d1 : decide ((0 : Int) ≠ 1) = true := by decide
  have d2 : decide ((0 : Int) ≠ 0) = false := by decide
  go_enter Tryz.func88, Tryz.ntmps88
  go_upto_region 4 with fail
  obtain ⟨W1, hW1⟩ : ∃ y, w.alloc (.cells #[.slice none 0 0, .slice none 0 0, .bool true] 72) = y := ⟨_, rfl⟩
  have HB1 : Hid (Below w.heap.size w W1) := by rw [← hW1]; exact (Below.refl _ _).alloc (Nat.le_refl _) _
  have HS1 : Hid (S3 W1 w.heap.size (.slice none 0 0) (.slice none 0 0) (.bool true)) := by rw [← hW1]; exact S3.new w _ _ _
  rw [hW1]
  clear hW1 k0 d1 d2 HRD HP
  have Hc := hide (scutp_c 1 ((unhide HX1).aside (S := none_) (Aside.of_below (unhide HB1)) fun _ h => h.elim) (by omega) (by omega) hbl)
  rw [hk] at Hc
  go_upto_region 5 with (first
    | (go_at_call 103; refine (unhide Hc).mono ?_
       rintro e W2 ⟨⟨pv, rv, rfl, hpv, hrv⟩, q, hq⟩
       simp only [Option.getD_some] at hpv hrv
       obtain ⟨s1, q1, e1, _⟩ := bytes_open hpv.at_
       obtain ⟨sr, qr, er, _⟩ := bytes_open hrv.at_
       rw [unhide HKN] at e1
       subst e1
       subst er
       have hb2 : Below W1.heap.size W1 W2 := by rw [hq]; exact drewN_below W1 q
       have hs2 := (unhide HS1).below hb2
       have m0 := hs2.c0
       have z0 := hs2.z 0
       obtain ⟨W3, hW3⟩ : ∃ y, W2.setCell ⟨w.heap.size, 0, none⟩ (.slice s1 KN q1) = y := ⟨_, rfl⟩
       have HS3 : Hid (S3 W3 w.heap.size (.slice s1 KN q1) (.slice none 0 0) (.bool true)) := by rw [← hW3]; exact hs2.put0 _
       have HB3 : Hid (Below w.heap.size w W3) := by rw [← hW3]; exact set_new ((unhide HB1).trans (hb2.mono (unhide HB1).size)) (Nat.le_refl _) _
       have HPV := hide hpv
       have HRV := hide hrv
       have HA3 : Hid (Aside (fun k => k = w.heap.size) W2 W3) := by rw [← hW3]; exact Aside.of_grown (setCell_grown _ 0 _) fun k e => (Option.some.inj e).symm
       clear hb2 hs2 hq hpv hrv))
  clear hk
  have n0 := (unhide HS3).c0
  have n1 := (unhide HS3).c1
  have n2 := (unhide HS3).c2
  have Hg := hide (fun w' => cgood_c w' s1 none KN 0 q1 0 true)
  obtain ⟨gd, hgd⟩ : ∃ y, goodN KN 0 true = y := ⟨_, rfl⟩
  rw [hgd] at Hg HE
  clear hgd
  go_upto_region 7 with fail
  refine wp_region_held_drew (S := fun w' => w'.cell? ⟨w.heap.size, 0, none⟩ = some (.slice s1 KN q1) ∧ w'.cell? ⟨w.heap.size, 1, none⟩ = some (.slice none 0 0) ∧ w'.cell? ⟨w.heap.size, 2, none⟩ = some (.bool true)) (by kernel_rfl) (⟨n0, n1, n2⟩) (fun hHeld => ?_)
  refine wpAnyH_take (i := 0) (oi := { dst := some 42, op := Op.load 72 (Operand.tmp 2), type := 72, pos := "change.go:78", after := #[], guard := none }) (v := ?_) rfl (by kernel_rfl) (by kernel_rfl) (by kernel_rfl) (fun _ _ _ h => h) (Or.inl ⟨by rfl, ?d1⟩) (by assumption) ?_
  case d1 => (intro w_ hSw; obtain ⟨p0, p1, p2⟩ := hSw; go_simp; try with_reducible rfl)
  simp only [Act.put, List.setIfInBounds_toArray, List.set_cons_zero, List.set_cons_succ]
  refine wpAnyH_take (i := 1) (oi := { dst := some 43, op := Op.move (Operand.tmp 3), type := 23, pos := "change.go:78", after := #[{ on := 7, ground := Ground.gcOnly Departure.lateStores }], guard := none }) (v := ?_) rfl (by kernel_rfl) (by kernel_rfl) (by kernel_rfl) (fun _ _ _ h => h) (Or.inl ⟨by rfl, ?d2⟩) (by assumption) ?_
  case d2 => (intro w_ hSw; obtain ⟨_, _, _⟩ := hSw; go_simp; try with_reducible rfl)
  simp only [Act.put, List.setIfInBounds_toArray, List.set_cons_zero, List.set_cons_succ]
  refine wpAnyH_take (i := 2) (oi := { dst := some 44, op := Op.move (Operand.tmp 4), type := 4, pos := "change.go:78", after := #[], guard := none }) (v := ?_) rfl (by kernel_rfl) (by kernel_rfl) (by kernel_rfl) (fun _ _ _ h => h) (Or.inl ⟨by rfl, ?d3⟩) (by assumption) ?_
  case d3 => (intro w_ hSw; obtain ⟨_, _, _⟩ := hSw; go_simp; try with_reducible rfl)
  simp only [Act.put, List.setIfInBounds_toArray, List.set_cons_zero, List.set_cons_succ]
  refine wpAnyH_take (i := 3) (oi := { dst := some 45, op := Op.move (Operand.tmp 44), type := 4, pos := "change.go:78", after := #[{ on := 2, ground := Ground.data }], guard := none }) (v := ?_) rfl (by kernel_rfl) (by kernel_rfl) (by kernel_rfl) (fun _ _ _ h => h) (Or.inl ⟨by rfl, ?d4⟩) (by assumption) ?_
  case d4 => (intro w_ hSw; obtain ⟨_, _, _⟩ := hSw; go_simp; try with_reducible rfl)
  simp only [Act.put, List.setIfInBounds_toArray, List.set_cons_zero, List.set_cons_succ]
  refine wpAnyH_take (i := 4) (oi := { dst := some 46, op := Op.load 72 (Operand.tmp 2), type := 72, pos := "change.go:78", after := #[{ on := 3, ground := Ground.guard }], guard := some (3, true) }) (v := ?_) rfl (by kernel_rfl) (by kernel_rfl) (by kernel_rfl) (fun _ _ _ h => h) (Or.inl ⟨by rfl, ?d5⟩) (by assumption) ?_
  case d5 => (intro w_ hSw; obtain ⟨p0, p1, p2⟩ := hSw; go_simp; try with_reducible rfl)
  simp only [Act.put, List.setIfInBounds_toArray, List.set_cons_zero, List.set_cons_succ]
  refine wpAnyH_ready (rs := [5]) (by kernel_rfl) (by simp) ?_
  refine AllReadyH.cons (o := { dst := some 47, op := Op.call { callee := Callee.value (Operand.func 69), args := #[Operand.tmp 46], argTypes := #[72] }, type := 4, pos := "change.go:78", after := #[{ on := 4, ground := Ground.data }, { on := 3, ground := Ground.chain }, { on := 3, ground := Ground.guard }], guard := some (3, true) }) rfl (fun K_ hK_ => ?_) AllReadyH.nil
  rw [if_pos (by rfl)]
  go_simp
  go_at_call 69
  refine (unhide Hg _).mono ?_
  rintro e W7 ⟨rfl, hb7⟩
  have HS7 : Hid (S3 W7 w.heap.size (.slice s1 KN q1) (.slice none 0 0) (.bool true)) := ((unhide HS3).below (Below.refl _ _).drew).below hb7
  have HB7 : Hid (Below w.heap.size w W7) := (unhide HB3).drew.trans (hb7.mono (unhide HB3).size)
  have HB78 : Hid (Below W3.heap.size W3 W7) := (Below.refl _ _).drew.trans (hb7.mono (Nat.le_refl _))
  clear hb7
  go_simp
  refine hK_.out _ _ (⟨(unhide HS7).c0, (unhide HS7).c1, (unhide HS7).c2⟩) (fun hHeld => ?_)
  clear hK_ K_
  (try simp only [Act.put, List.setIfInBounds_toArray, List.set_cons_zero, List.set_cons_succ])
  refine wpAnyH_take (i := 6) (oi := { dst := some 48, op := Op.pick (Operand.tmp 45) (Operand.tmp 47) (Operand.const (Value.bool false)), type := 4, pos := "change.go:78", after := #[{ on := 3, ground := Ground.data }, { on := 5, ground := Ground.data }, { on := 8, ground := Ground.gcOnly Departure.lateStores }], guard := none }) (v := ?_) rfl (by kernel_rfl) (by kernel_rfl) (by kernel_rfl) (fun _ _ _ h => h) (Or.inl ⟨by rfl, ?d6⟩) (by assumption) ?_
  case d6 => (intro w_ hSw; obtain ⟨_, _, _⟩ := hSw; go_simp; try with_reducible rfl)
  simp only [Act.put, List.setIfInBounds_toArray, List.set_cons_zero, List.set_cons_succ]
  refine wpAnyH_ready (rs := [7]) (by kernel_rfl) (by simp) ?_
  refine AllReadyH.cons (o := { dst := none, op := Op.store 72 (Operand.tmp 2) (Operand.tmp 42), type := 0, pos := "change.go:78", after := #[{ on := 0, ground := Ground.data }, { on := 5, ground := Ground.chain }, { on := 0, ground := Ground.phase }, { on := 1, ground := Ground.textOnly Departure.lateStores }, { on := 2, ground := Ground.textOnly Departure.lateStores }, { on := 3, ground := Ground.textOnly Departure.lateStores }, { on := 4, ground := Ground.phase }, { on := 5, ground := Ground.textOnly Departure.lateStoresUnsure }, { on := 6, ground := Ground.textOnly Departure.lateStores }], guard := none }) rfl (fun K_ hK_ => ?_) AllReadyH.nil
  rw [if_pos (by rfl)]
  refine wp_store_row 72 _ _ rfl w.heap.size #[.slice s1 KN q1, .slice none 0 0, .bool true] rfl rfl 72 _ (unhide HS7) info_ch rfl (by simp [Value.oneCell']) ?_
  obtain ⟨W8, hW8⟩ : ∃ y, W7.setRow w.heap.size #[.slice s1 KN q1, .slice none 0 0, .bool true] = y := ⟨_, rfl⟩
  have HS8 : Hid (S3 W8 w.heap.size (.slice s1 KN q1) (.slice none 0 0) (.bool true)) := by rw [← hW8]; exact setRow_heap _ w.heap.size _ _ 72 _ (unhide HS7)
  have HB8 : Hid (Below w.heap.size w W8) := by rw [← hW8]; exact (unhide HB7).trans ⟨rfl, rfl, rfl, by simp, fun k hk => setRow_other _ _ k _ (by omega)⟩
  have HA8 : Hid (Aside (fun k => k = w.heap.size) W3 W8) := by rw [← hW8]; exact (Aside.of_below (unhide HB78)).trans (T := fun k => k = w.heap.size) ⟨rfl, rfl, rfl, by simp, fun k _ hk => setRow_other _ _ k _ hk⟩ fun _ _ h => h
  rw [hW8]
  clear hW8
  refine hK_.out _ _ (⟨(unhide HS8).c0, (unhide HS8).c1, (unhide HS8).c2⟩) (fun hHeld => ?_)
  clear hK_ K_
  (try simp only [Act.put])
  refine wpAnyH_take (i := 8) (oi := { dst := some 3, op := Op.assign (Operand.tmp 43), type := 23, pos := "change.go:78", after := #[{ on := 1, ground := Ground.data }, { on := 7, ground := Ground.chain }, { on := 0, ground := Ground.phase }, { on := 1, ground := Ground.phase }, { on := 2, ground := Ground.textOnly Departure.lateStores }, { on := 3, ground := Ground.textOnly Departure.lateStores }, { on := 4, ground := Ground.phase }, { on := 5, ground := Ground.textOnly Departure.lateStoresUnsure }, { on := 6, ground := Ground.textOnly Departure.lateStores }, { on := 7, ground := Ground.phase }], guard := none }) (v := ?_) rfl (by kernel_rfl) (by kernel_rfl) (by kernel_rfl) (fun _ _ _ h => h) (Or.inl ⟨by rfl, ?d7⟩) (by assumption) ?_
  case d7 => (intro w_ hSw; obtain ⟨_, _, _⟩ := hSw; go_simp; try with_reducible rfl)
  simp only [Act.put, List.setIfInBounds_toArray, List.set_cons_zero, List.set_cons_succ]
  refine wpAnyH_take (i := 9) (oi := { dst := some 4, op := Op.assign (Operand.tmp 48), type := 4, pos := "change.go:78", after := #[{ on := 6, ground := Ground.data }, { on := 8, ground := Ground.chain }, { on := 0, ground := Ground.phase }, { on := 1, ground := Ground.phase }, { on := 2, ground := Ground.phase }, { on := 3, ground := Ground.phase }, { on := 4, ground := Ground.phase }, { on := 5, ground := Ground.phase }, { on := 6, ground := Ground.phase }, { on := 7, ground := Ground.phase }, { on := 8, ground := Ground.phase }], guard := none }) (v := ?_) rfl (by kernel_rfl) (by kernel_rfl) (by kernel_rfl) (fun _ _ _ h => h) (Or.inl ⟨by rfl, ?d8⟩) (by assumption) ?_
  case d8 => (intro w_ hSw; obtain ⟨_, _, _⟩ := hSw; go_simp; try with_reducible rfl)
  simp only [Act.put, List.setIfInBounds_toArray, List.set_cons_zero, List.set_cons_succ]
  refine wpAnyH_done (by kernel_rfl) ?_ _
  go_wp2
  (try simp only [Exit.inBlock, Exit.then])
  refine bodyPost_ret (results_cell3 Tryz.results88 _ _ w.heap.size #[.slice s1 KN q1, .slice none 0 0, .bool true] rfl (unhide HS8).load) rfl ?_
  have hA := (unhide HA3).trans (T := fun k => k = w.heap.size) (unhide HA8) fun _ _ h => h
  refine ⟨s1, none, sr, KN, 0, rb.length, q1, 0, qr, true, by rw [unhide HE]; cases gd <;> rfl, fun c r h => ?_, unhide HB8⟩
  rw [unhide HE] at h
  cases gd
  · cases h
  · simp only [if_true, Option.some.injEq, Prod.mk.injEq] at h
    obtain ⟨rfl, rfl⟩ := h
    exact ⟨rfl, (unhide HPV).aside hA fun k hk => hk ▸ hKw, ElS.nil _ _, (unhide HRV).aside hA fun k hk => hk ▸ hKw⟩
set_option maxRecDepth 100000 in
set_option maxHeartbeats 4000000 in
theorem scut_s2 {K : Set_} {w : World} {x : Value} {t : UInt8} {b : Bs} (hx : ElS K w x (t :: b)) (hb : (t :: b).length ≤ 1000000) (hKw : ¬ K w.heap.size) {kb rb : Bs} (ht : t = 1) (hk : cutP b 1 = some (kb, rb)) {KN : Nat} (hKN : kb.length = KN) {RN : Nat} (hRN : rb.length = RN) (hRB : RN ≤ 1000000) (hv : cutP rb 4 = none) :
    Calls Tryz.prog 88 #[x] w fun e w' => CutC K w w' (t :: b) e := by
  obtain ⟨sp, c, rfl, hlc, hn, hcell⟩ := bytes_open hx.at_
  obtain ⟨bb, oo, rfl, hlt, hc⟩ := hcell (by simp)
  have k0 : w.cell? ⟨bb, oo, none⟩ = some (.int .u8 (t.toNat : Int)) := by
    have := hc 0 (by simp)
    simpa using this
  obtain ⟨N, hN⟩ : ∃ N, (t :: b).length = N := ⟨_, rfl⟩
  have hN1 : 1 ≤ N := by rw [← hN]; simp
  have HX1 := hide (hx.rest 1 (by simp))
  obtain ⟨N1, hN1'⟩ : ∃ y, N - 1 = y := ⟨_, rfl⟩
  obtain ⟨c1, hc1⟩ : ∃ y, c - 1 = y := ⟨_, rfl⟩
  obtain ⟨sx, hsx⟩ : ∃ y, cutAt (some ⟨bb, oo, none⟩) c 1 = y := ⟨_, rfl⟩
  rw [hN] at hlc hb HX1 ⊢
  have hsl : ∀ w, (Instr.sliceAt 23 (.slice (some ⟨bb, oo, none⟩) N c) (some (.int .i64 1)) none none).run Tryz.prog w = .ok (.slice sx N1 c1) w := fun w => by rw [← hsx, ← hN1', ← hc1]; exact slice_rest (some ⟨bb, oo, none⟩) N c 1 (by omega) w
  rw [hN1', hc1, hsx, show (t :: b).drop 1 = b from rfl] at HX1
  have hbl : b.length ≤ 1000000 := by have : (t :: b).length = b.length + 1 := rfl; omega
  obtain ⟨p, hp⟩ : ∃ p, t.toNat = p := ⟨_, rfl⟩
  rw [hp] at k0
  have HP := hide hp
  have j0 : (0 : Int) < (N : Int) := by omega
  have HRD := hide (rd1_cut t b)
  clear hx hn hcell hc hN hp hN1' hc1 hsx
  have HE : Hid (rd1 (t :: b) = none) := by show _ = _; rw [unhide HRD, ht, hk]; simp [hv]
  have HKN := hide hKN
  have HRN := hide hRN
  have HRB : Hid (rb.length ≤ 1000000) := by show _ ≤ _; omega
  clear hKN hRN
  have p0 : p = 1 := by rw [← unhide HP, ht]; rfl
  subst p0
  have d1 : decide ((1 : Int) ≠ 1) = false := by decide
  have d2 : decide ((1 : Int) ≠ 0) = true := by decide
  go_enter Tryz.func88, Tryz.ntmps88
  go_upto_region 4 with fail
  obtain ⟨W1, hW1⟩ : ∃ y, w.alloc (.cells #[.slice none 0 0, .slice none 0 0, .bool false] 72) = y := ⟨_, rfl⟩
  have HB1 : Hid (Below w.heap.size w W1) := by rw [← hW1]; exact (Below.refl _ _).alloc (Nat.le_refl _) _
  have HS1 : Hid (S3 W1 w.heap.size (.slice none 0 0) (.slice none 0 0) (.bool false)) := by rw [← hW1]; exact S3.new w _ _ _
  rw [hW1]
  clear hW1 k0 d1 d2 HRD HP
  have Hc := hide (scutp_c 1 ((unhide HX1).aside (S := none_) (Aside.of_below (unhide HB1)) fun _ h => h.elim) (by omega) (by omega) hbl)
  rw [hk] at Hc
  go_upto_region 5 with (first
    | (go_at_call 103; refine (unhide Hc).mono ?_
       rintro e W2 ⟨⟨pv, rv, rfl, hpv, hrv⟩, q, hq⟩
       simp only [Option.getD_some] at hpv hrv
       obtain ⟨s1, q1, e1, _⟩ := bytes_open hpv.at_
       obtain ⟨sr, qr, er, _⟩ := bytes_open hrv.at_
       rw [unhide HKN] at e1
       subst e1
       rw [unhide HRN] at er
       subst er
       have hb2 : Below W1.heap.size W1 W2 := by rw [hq]; exact drewN_below W1 q
       have hs2 := (unhide HS1).below hb2
       have m0 := hs2.c0
       have z0 := hs2.z 0
       obtain ⟨W3, hW3⟩ : ∃ y, W2.setCell ⟨w.heap.size, 0, none⟩ (.slice s1 KN q1) = y := ⟨_, rfl⟩
       have HS3 : Hid (S3 W3 w.heap.size (.slice s1 KN q1) (.slice none 0 0) (.bool false)) := by rw [← hW3]; exact hs2.put0 _
       have HB3 : Hid (Below w.heap.size w W3) := by rw [← hW3]; exact set_new ((unhide HB1).trans (hb2.mono (unhide HB1).size)) (Nat.le_refl _) _
       have HPV := hide hpv
       have HRV := hide hrv
       have HA3 : Hid (Aside (fun k => k = w.heap.size) W2 W3) := by rw [← hW3]; exact Aside.of_grown (setCell_grown _ 0 _) fun k e => (Option.some.inj e).symm
       clear hb2 hs2 hq hpv hrv))
  clear hk
  have n0 := (unhide HS3).c0
  have n1 := (unhide HS3).c1
  have n2 := (unhide HS3).c2
  have HRV3 := hide ((unhide HRV).aside (unhide HA3) fun k hk => hk ▸ hKw)
  have Hc2 := hide (scutp_c 4 (unhide HRV3) (by omega) (by omega) (by have := unhide HRB; omega))
  rw [hv] at Hc2
  go_upto_region 7 with (first
    | (go_at_call 103; refine (unhide Hc2).mono ?_
       rintro e W4 ⟨⟨pv, rv, rfl, hpv, hrv⟩, q, hq⟩
       skip
       obtain ⟨s2, q2, e2, _⟩ := bytes_open hpv.at_
       obtain ⟨st, qt, et, _⟩ := bytes_open hrv.at_
       subst e2
       subst et
       have hb4 : Below W3.heap.size W3 W4 := by rw [hq]; exact drewN_below W3 q
       have hs4 := (unhide HS3).below hb4
       have m1 := hs4.c1
       have z1 := hs4.z 1
       obtain ⟨W5, hW5⟩ : ∃ y, W4.setCell ⟨w.heap.size, 1, none⟩ (.slice s2 0 q2) = y := ⟨_, rfl⟩
       have HS5 : Hid (S3 W5 w.heap.size (.slice s1 KN q1) (.slice s2 0 q2) (.bool false)) := by rw [← hW5]; exact hs4.put1 _
       have HB5 : Hid (Below w.heap.size w W5) := by rw [← hW5]; exact set_new ((unhide HB3).trans (hb4.mono (unhide HB3).size)) (Nat.le_refl _) _
       have HPV2 := hide hpv
       have HRV2 := hide hrv
       have HA34 : Hid (Aside (fun k => k = w.heap.size) W3 W4) := Aside.of_below hb4
       have HA5 : Hid (Aside (fun k => k = w.heap.size) W4 W5) := by rw [← hW5]; exact Aside.of_grown (setCell_grown _ 1 _) fun k e => (Option.some.inj e).symm
       clear hb4 hs4 hq hpv hrv n0 n1 n2))
  clear hv
  have n0 := (unhide HS5).c0
  have n1 := (unhide HS5).c1
  have n2 := (unhide HS5).c2
  refine wp_region_held_drew (S := fun w' => w'.cell? ⟨w.heap.size, 0, none⟩ = some (.slice s1 KN q1) ∧ w'.cell? ⟨w.heap.size, 1, none⟩ = some (.slice s2 0 q2) ∧ w'.cell? ⟨w.heap.size, 2, none⟩ = some (.bool false)) (by kernel_rfl) (⟨n0, n1, n2⟩) (fun hHeld => ?_)
  refine wpAnyH_take (i := 0) (oi := { dst := some 42, op := Op.load 72 (Operand.tmp 2), type := 72, pos := "change.go:78", after := #[], guard := none }) (v := ?_) rfl (by kernel_rfl) (by kernel_rfl) (by kernel_rfl) (fun _ _ _ h => h) (Or.inl ⟨by rfl, ?e1⟩) (by assumption) ?_
  case e1 => (intro w_ hSw; obtain ⟨p0, p1, p2⟩ := hSw; go_simp; try with_reducible rfl)
  simp only [Act.put, List.setIfInBounds_toArray, List.set_cons_zero, List.set_cons_succ]
  refine wpAnyH_take (i := 1) (oi := { dst := some 43, op := Op.move (Operand.tmp 3), type := 23, pos := "change.go:78", after := #[{ on := 7, ground := Ground.gcOnly Departure.lateStores }], guard := none }) (v := ?_) rfl (by kernel_rfl) (by kernel_rfl) (by kernel_rfl) (fun _ _ _ h => h) (Or.inl ⟨by rfl, ?e2⟩) (by assumption) ?_
  case e2 => (intro w_ hSw; obtain ⟨_, _, _⟩ := hSw; go_simp; try with_reducible rfl)
  simp only [Act.put, List.setIfInBounds_toArray, List.set_cons_zero, List.set_cons_succ]
  refine wpAnyH_take (i := 2) (oi := { dst := some 44, op := Op.move (Operand.tmp 4), type := 4, pos := "change.go:78", after := #[], guard := none }) (v := ?_) rfl (by kernel_rfl) (by kernel_rfl) (by kernel_rfl) (fun _ _ _ h => h) (Or.inl ⟨by rfl, ?e3⟩) (by assumption) ?_
  case e3 => (intro w_ hSw; obtain ⟨_, _, _⟩ := hSw; go_simp; try with_reducible rfl)
  simp only [Act.put, List.setIfInBounds_toArray, List.set_cons_zero, List.set_cons_succ]
  refine wpAnyH_take (i := 3) (oi := { dst := some 45, op := Op.move (Operand.tmp 44), type := 4, pos := "change.go:78", after := #[{ on := 2, ground := Ground.data }], guard := none }) (v := ?_) rfl (by kernel_rfl) (by kernel_rfl) (by kernel_rfl) (fun _ _ _ h => h) (Or.inl ⟨by rfl, ?e4⟩) (by assumption) ?_
  case e4 => (intro w_ hSw; obtain ⟨_, _, _⟩ := hSw; go_simp; try with_reducible rfl)
  simp only [Act.put, List.setIfInBounds_toArray, List.set_cons_zero, List.set_cons_succ]
  have HS7 : Hid (S3 W5.drew w.heap.size (.slice s1 KN q1) (.slice s2 0 q2) (.bool false)) := (unhide HS5).below (Below.refl _ _).drew
  have HB7 : Hid (Below w.heap.size w W5.drew) := (unhide HB5).drew
  have HB78 : Hid (Below W5.heap.size W5 W5.drew) := (Below.refl _ _).drew
  refine wpAnyH_take (i := 4) (oi := { dst := some 46, op := Op.load 72 (Operand.tmp 2), type := 72, pos := "change.go:78", after := #[{ on := 3, ground := Ground.guard }], guard := some (3, true) }) (v := undef) rfl (by kernel_rfl) (by kernel_rfl) (by kernel_rfl) (fun _ _ _ h => h) (Or.inr ⟨by rfl, rfl⟩) (by assumption) ?_
  simp only [Act.put, List.setIfInBounds_toArray, List.set_cons_zero, List.set_cons_succ]
  refine wpAnyH_take (i := 5) (oi := { dst := some 47, op := Op.call { callee := Callee.value (Operand.func 69), args := #[Operand.tmp 46], argTypes := #[72] }, type := 4, pos := "change.go:78", after := #[{ on := 4, ground := Ground.data }, { on := 3, ground := Ground.chain }, { on := 3, ground := Ground.guard }], guard := some (3, true) }) (v := undef) rfl (by kernel_rfl) (by kernel_rfl) (by kernel_rfl) (fun _ _ _ h => h) (Or.inr ⟨by rfl, rfl⟩) (by assumption) ?_
  simp only [Act.put, List.setIfInBounds_toArray, List.set_cons_zero, List.set_cons_succ]
  refine wpAnyH_take (i := 6) (oi := { dst := some 48, op := Op.pick (Operand.tmp 45) (Operand.tmp 47) (Operand.const (Value.bool false)), type := 4, pos := "change.go:78", after := #[{ on := 3, ground := Ground.data }, { on := 5, ground := Ground.data }, { on := 8, ground := Ground.gcOnly Departure.lateStores }], guard := none }) (v := ?_) rfl (by kernel_rfl) (by kernel_rfl) (by kernel_rfl) (fun _ _ _ h => h) (Or.inl ⟨by rfl, ?e5⟩) (by assumption) ?_
  case e5 => (intro w_ hSw; obtain ⟨_, _, _⟩ := hSw; go_simp; try with_reducible rfl)
  simp only [Act.put, List.setIfInBounds_toArray, List.set_cons_zero, List.set_cons_succ]
  refine wpAnyH_ready (rs := [7]) (by kernel_rfl) (by simp) ?_
  refine AllReadyH.cons (o := { dst := none, op := Op.store 72 (Operand.tmp 2) (Operand.tmp 42), type := 0, pos := "change.go:78", after := #[{ on := 0, ground := Ground.data }, { on := 5, ground := Ground.chain }, { on := 0, ground := Ground.phase }, { on := 1, ground := Ground.textOnly Departure.lateStores }, { on := 2, ground := Ground.textOnly Departure.lateStores }, { on := 3, ground := Ground.textOnly Departure.lateStores }, { on := 4, ground := Ground.phase }, { on := 5, ground := Ground.textOnly Departure.lateStoresUnsure }, { on := 6, ground := Ground.textOnly Departure.lateStores }], guard := none }) rfl (fun K_ hK_ => ?_) AllReadyH.nil
  rw [if_pos (by rfl)]
  refine wp_store_row 72 _ _ rfl w.heap.size #[.slice s1 KN q1, .slice s2 0 q2, .bool false] rfl rfl 72 _ (unhide HS7) info_ch rfl (by simp [Value.oneCell']) ?_
  obtain ⟨W8, hW8⟩ : ∃ y, W5.drew.setRow w.heap.size #[.slice s1 KN q1, .slice s2 0 q2, .bool false] = y := ⟨_, rfl⟩
  have HS8 : Hid (S3 W8 w.heap.size (.slice s1 KN q1) (.slice s2 0 q2) (.bool false)) := by rw [← hW8]; exact setRow_heap _ w.heap.size _ _ 72 _ (unhide HS7)
  have HB8 : Hid (Below w.heap.size w W8) := by rw [← hW8]; exact (unhide HB7).trans ⟨rfl, rfl, rfl, by simp, fun k hk => setRow_other _ _ k _ (by omega)⟩
  have HA8 : Hid (Aside (fun k => k = w.heap.size) W5 W8) := by rw [← hW8]; exact (Aside.of_below (unhide HB78)).trans (T := fun k => k = w.heap.size) ⟨rfl, rfl, rfl, by simp, fun k _ hk => setRow_other _ _ k _ hk⟩ fun _ _ h => h
  rw [hW8]
  clear hW8
  refine hK_.out _ _ (⟨(unhide HS8).c0, (unhide HS8).c1, (unhide HS8).c2⟩) (fun hHeld => ?_)
  clear hK_ K_
  (try simp only [Act.put])
  refine wpAnyH_take (i := 8) (oi := { dst := some 3, op := Op.assign (Operand.tmp 43), type := 23, pos := "change.go:78", after := #[{ on := 1, ground := Ground.data }, { on := 7, ground := Ground.chain }, { on := 0, ground := Ground.phase }, { on := 1, ground := Ground.phase }, { on := 2, ground := Ground.textOnly Departure.lateStores }, { on := 3, ground := Ground.textOnly Departure.lateStores }, { on := 4, ground := Ground.phase }, { on := 5, ground := Ground.textOnly Departure.lateStoresUnsure }, { on := 6, ground := Ground.textOnly Departure.lateStores }, { on := 7, ground := Ground.phase }], guard := none }) (v := ?_) rfl (by kernel_rfl) (by kernel_rfl) (by kernel_rfl) (fun _ _ _ h => h) (Or.inl ⟨by rfl, ?e6⟩) (by assumption) ?_
  case e6 => (intro w_ hSw; obtain ⟨_, _, _⟩ := hSw; go_simp; try with_reducible rfl)
  simp only [Act.put, List.setIfInBounds_toArray, List.set_cons_zero, List.set_cons_succ]
  refine wpAnyH_take (i := 9) (oi := { dst := some 4, op := Op.assign (Operand.tmp 48), type := 4, pos := "change.go:78", after := #[{ on := 6, ground := Ground.data }, { on := 8, ground := Ground.chain }, { on := 0, ground := Ground.phase }, { on := 1, ground := Ground.phase }, { on := 2, ground := Ground.phase }, { on := 3, ground := Ground.phase }, { on := 4, ground := Ground.phase }, { on := 5, ground := Ground.phase }, { on := 6, ground := Ground.phase }, { on := 7, ground := Ground.phase }, { on := 8, ground := Ground.phase }], guard := none }) (v := ?_) rfl (by kernel_rfl) (by kernel_rfl) (by kernel_rfl) (fun _ _ _ h => h) (Or.inl ⟨by rfl, ?e7⟩) (by assumption) ?_
  case e7 => (intro w_ hSw; obtain ⟨_, _, _⟩ := hSw; go_simp; try with_reducible rfl)
  simp only [Act.put, List.setIfInBounds_toArray, List.set_cons_zero, List.set_cons_succ]
  refine wpAnyH_done (by kernel_rfl) ?_ _
  go_wp2
  (try simp only [Exit.inBlock, Exit.then])
  refine bodyPost_ret (results_cell3 Tryz.results88 _ _ w.heap.size #[.slice s1 KN q1, .slice s2 0 q2, .bool false] rfl (unhide HS8).load) rfl ?_
  refine ⟨s1, s2, st, KN, 0, 0, q1, q2, qt, false, by rw [unhide HE]; rfl, fun c r h => ?_, unhide HB8⟩
  rw [unhide HE] at h
  cases h
set_option maxRecDepth 100000 in
set_option maxHeartbeats 4000000 in
theorem scut_s3 {K : Set_} {w : World} {x : Value} {t : UInt8} {b : Bs} (hx : ElS K w x (t :: b)) (hb : (t :: b).length ≤ 1000000) (hKw : ¬ K w.heap.size) {kb rb : Bs} (ht : t = 1) (hk : cutP b 1 = some (kb, rb)) {KN : Nat} (hKN : kb.length = KN) {RN : Nat} (hRN : rb.length = RN) (hRB : RN ≤ 1000000) {vb r2 : Bs} (hv : cutP rb 4 = some (vb, r2)) {VN : Nat} (hVN : vb.length = VN) :
    Calls Tryz.prog 88 #[x] w fun e w' => CutC K w w' (t :: b) e := by
  obtain ⟨sp, c, rfl, hlc, hn, hcell⟩ := bytes_open hx.at_
  obtain ⟨bb, oo, rfl, hlt, hc⟩ := hcell (by simp)
  have k0 : w.cell? ⟨bb, oo, none⟩ = some (.int .u8 (t.toNat : Int)) := by
    have := hc 0 (by simp)
    simpa using this
  obtain ⟨N, hN⟩ : ∃ N, (t :: b).length = N := ⟨_, rfl⟩
  have hN1 : 1 ≤ N := by rw [← hN]; simp
  have HX1 := hide (hx.rest 1 (by simp))
  obtain ⟨N1, hN1'⟩ : ∃ y, N - 1 = y := ⟨_, rfl⟩
  obtain ⟨c1, hc1⟩ : ∃ y, c - 1 = y := ⟨_, rfl⟩
  obtain ⟨sx, hsx⟩ : ∃ y, cutAt (some ⟨bb, oo, none⟩) c 1 = y := ⟨_, rfl⟩
  rw [hN] at hlc hb HX1 ⊢
  have hsl : ∀ w, (Instr.sliceAt 23 (.slice (some ⟨bb, oo, none⟩) N c) (some (.int .i64 1)) none none).run Tryz.prog w = .ok (.slice sx N1 c1) w := fun w => by rw [← hsx, ← hN1', ← hc1]; exact slice_rest (some ⟨bb, oo, none⟩) N c 1 (by omega) w
  rw [hN1', hc1, hsx, show (t :: b).drop 1 = b from rfl] at HX1
  have hbl : b.length ≤ 1000000 := by have : (t :: b).length = b.length + 1 := rfl; omega
  obtain ⟨p, hp⟩ : ∃ p, t.toNat = p := ⟨_, rfl⟩
  rw [hp] at k0
  have HP := hide hp
  have j0 : (0 : Int) < (N : Int) := by omega
  have HRD := hide (rd1_cut t b)
  clear hx hn hcell hc hN hp hN1' hc1 hsx
  have HE : Hid (rd1 (t :: b) = if goodN KN VN false then some (⟨kb, vb, false⟩, r2) else none) := by show _ = _; rw [unhide HRD, ht, hk]; simp [hv, hKN, hVN]
  have HKN := hide hKN
  have HRN := hide hRN
  have HRB : Hid (rb.length ≤ 1000000) := by show _ ≤ _; omega
  have HVN := hide hVN
  clear hKN hRN hVN
  have p0 : p = 1 := by rw [← unhide HP, ht]; rfl
  subst p0
  have d1 : decide ((1 : Int) ≠ 1) = false := by decide
  have d2 : decide ((1 : Int) ≠ 0) = true := by decide
  go_enter Tryz.func88, Tryz.ntmps88
  go_upto_region 4 with fail
  obtain ⟨W1, hW1⟩ : ∃ y, w.alloc (.cells #[.slice none 0 0, .slice none 0 0, .bool false] 72) = y := ⟨_, rfl⟩
  have HB1 : Hid (Below w.heap.size w W1) := by rw [← hW1]; exact (Below.refl _ _).alloc (Nat.le_refl _) _
  have HS1 : Hid (S3 W1 w.heap.size (.slice none 0 0) (.slice none 0 0) (.bool false)) := by rw [← hW1]; exact S3.new w _ _ _
  rw [hW1]
  clear hW1 k0 d1 d2 HRD HP
  have Hc := hide (scutp_c 1 ((unhide HX1).aside (S := none_) (Aside.of_below (unhide HB1)) fun _ h => h.elim) (by omega) (by omega) hbl)
  rw [hk] at Hc
  go_upto_region 5 with (first
    | (go_at_call 103; refine (unhide Hc).mono ?_
       rintro e W2 ⟨⟨pv, rv, rfl, hpv, hrv⟩, q, hq⟩
       simp only [Option.getD_some] at hpv hrv
       obtain ⟨s1, q1, e1, _⟩ := bytes_open hpv.at_
       obtain ⟨sr, qr, er, _⟩ := bytes_open hrv.at_
       rw [unhide HKN] at e1
       subst e1
       rw [unhide HRN] at er
       subst er
       have hb2 : Below W1.heap.size W1 W2 := by rw [hq]; exact drewN_below W1 q
       have hs2 := (unhide HS1).below hb2
       have m0 := hs2.c0
       have z0 := hs2.z 0
       obtain ⟨W3, hW3⟩ : ∃ y, W2.setCell ⟨w.heap.size, 0, none⟩ (.slice s1 KN q1) = y := ⟨_, rfl⟩
       have HS3 : Hid (S3 W3 w.heap.size (.slice s1 KN q1) (.slice none 0 0) (.bool false)) := by rw [← hW3]; exact hs2.put0 _
       have HB3 : Hid (Below w.heap.size w W3) := by rw [← hW3]; exact set_new ((unhide HB1).trans (hb2.mono (unhide HB1).size)) (Nat.le_refl _) _
       have HPV := hide hpv
       have HRV := hide hrv
       have HA3 : Hid (Aside (fun k => k = w.heap.size) W2 W3) := by rw [← hW3]; exact Aside.of_grown (setCell_grown _ 0 _) fun k e => (Option.some.inj e).symm
       clear hb2 hs2 hq hpv hrv))
  clear hk
  have n0 := (unhide HS3).c0
  have n1 := (unhide HS3).c1
  have n2 := (unhide HS3).c2
  have HRV3 := hide ((unhide HRV).aside (unhide HA3) fun k hk => hk ▸ hKw)
  have Hc2 := hide (scutp_c 4 (unhide HRV3) (by omega) (by omega) (by have := unhide HRB; omega))
  rw [hv] at Hc2
  go_upto_region 7 with (first
    | (go_at_call 103; refine (unhide Hc2).mono ?_
       rintro e W4 ⟨⟨pv, rv, rfl, hpv, hrv⟩, q, hq⟩
       simp only [Option.getD_some] at hpv hrv
       obtain ⟨s2, q2, e2, _⟩ := bytes_open hpv.at_
       obtain ⟨st, qt, et, _⟩ := bytes_open hrv.at_
       rw [unhide HVN] at e2
       subst e2
       subst et
       have hb4 : Below W3.heap.size W3 W4 := by rw [hq]; exact drewN_below W3 q
       have hs4 := (unhide HS3).below hb4
       have m1 := hs4.c1
       have z1 := hs4.z 1
       obtain ⟨W5, hW5⟩ : ∃ y, W4.setCell ⟨w.heap.size, 1, none⟩ (.slice s2 VN q2) = y := ⟨_, rfl⟩
       have HS5 : Hid (S3 W5 w.heap.size (.slice s1 KN q1) (.slice s2 VN q2) (.bool false)) := by rw [← hW5]; exact hs4.put1 _
       have HB5 : Hid (Below w.heap.size w W5) := by rw [← hW5]; exact set_new ((unhide HB3).trans (hb4.mono (unhide HB3).size)) (Nat.le_refl _) _
       have HPV2 := hide hpv
       have HRV2 := hide hrv
       have HA34 : Hid (Aside (fun k => k = w.heap.size) W3 W4) := Aside.of_below hb4
       have HA5 : Hid (Aside (fun k => k = w.heap.size) W4 W5) := by rw [← hW5]; exact Aside.of_grown (setCell_grown _ 1 _) fun k e => (Option.some.inj e).symm
       clear hb4 hs4 hq hpv hrv n0 n1 n2))
  clear hv
  have n0 := (unhide HS5).c0
  have n1 := (unhide HS5).c1
  have n2 := (unhide HS5).c2
  have Hg := hide (fun w' => cgood_c w' s1 s2 KN VN q1 q2 false)
  obtain ⟨gd, hgd⟩ : ∃ y, goodN KN VN false = y := ⟨_, rfl⟩
  rw [hgd] at Hg HE
  clear hgd
  refine wp_region_held_drew (S := fun w' => w'.cell? ⟨w.heap.size, 0, none⟩ = some (.slice s1 KN q1) ∧ w'.cell? ⟨w.heap.size, 1, none⟩ = some (.slice s2 VN q2) ∧ w'.cell? ⟨w.heap.size, 2, none⟩ = some (.bool false)) (by kernel_rfl) (⟨n0, n1, n2⟩) (fun hHeld => ?_)
  refine wpAnyH_take (i := 0) (oi := { dst := some 42, op := Op.load 72 (Operand.tmp 2), type := 72, pos := "change.go:78", after := #[], guard := none }) (v := ?_) rfl (by kernel_rfl) (by kernel_rfl) (by kernel_rfl) (fun _ _ _ h => h) (Or.inl ⟨by rfl, ?f1⟩) (by assumption) ?_
  case f1 => (intro w_ hSw; obtain ⟨p0, p1, p2⟩ := hSw; go_simp; try with_reducible rfl)
  simp only [Act.put, List.setIfInBounds_toArray, List.set_cons_zero, List.set_cons_succ]
  refine wpAnyH_take (i := 1) (oi := { dst := some 43, op := Op.move (Operand.tmp 3), type := 23, pos := "change.go:78", after := #[{ on := 7, ground := Ground.gcOnly Departure.lateStores }], guard := none }) (v := ?_) rfl (by kernel_rfl) (by kernel_rfl) (by kernel_rfl) (fun _ _ _ h => h) (Or.inl ⟨by rfl, ?f2⟩) (by assumption) ?_
  case f2 => (intro w_ hSw; obtain ⟨_, _, _⟩ := hSw; go_simp; try with_reducible rfl)
  simp only [Act.put, List.setIfInBounds_toArray, List.set_cons_zero, List.set_cons_succ]
  refine wpAnyH_take (i := 2) (oi := { dst := some 44, op := Op.move (Operand.tmp 4), type := 4, pos := "change.go:78", after := #[], guard := none }) (v := ?_) rfl (by kernel_rfl) (by kernel_rfl) (by kernel_rfl) (fun _ _ _ h => h) (Or.inl ⟨by rfl, ?f3⟩) (by assumption) ?_
  case f3 => (intro w_ hSw; obtain ⟨_, _, _⟩ := hSw; go_simp; try with_reducible rfl)
  simp only [Act.put, List.setIfInBounds_toArray, List.set_cons_zero, List.set_cons_succ]
  refine wpAnyH_take (i := 3) (oi := { dst := some 45, op := Op.move (Operand.tmp 44), type := 4, pos := "change.go:78", after := #[{ on := 2, ground := Ground.data }], guard := none }) (v := ?_) rfl (by kernel_rfl) (by kernel_rfl) (by kernel_rfl) (fun _ _ _ h => h) (Or.inl ⟨by rfl, ?f4⟩) (by assumption) ?_
  case f4 => (intro w_ hSw; obtain ⟨_, _, _⟩ := hSw; go_simp; try with_reducible rfl)
  simp only [Act.put, List.setIfInBounds_toArray, List.set_cons_zero, List.set_cons_succ]
  refine wpAnyH_take (i := 4) (oi := { dst := some 46, op := Op.load 72 (Operand.tmp 2), type := 72, pos := "change.go:78", after := #[{ on := 3, ground := Ground.guard }], guard := some (3, true) }) (v := ?_) rfl (by kernel_rfl) (by kernel_rfl) (by kernel_rfl) (fun _ _ _ h => h) (Or.inl ⟨by rfl, ?f5⟩) (by assumption) ?_
  case f5 => (intro w_ hSw; obtain ⟨p0, p1, p2⟩ := hSw; go_simp; try with_reducible rfl)
  simp only [Act.put, List.setIfInBounds_toArray, List.set_cons_zero, List.set_cons_succ]
  refine wpAnyH_ready (rs := [5]) (by kernel_rfl) (by simp) ?_
  refine AllReadyH.cons (o := { dst := some 47, op := Op.call { callee := Callee.value (Operand.func 69), args := #[Operand.tmp 46], argTypes := #[72] }, type := 4, pos := "change.go:78", after := #[{ on := 4, ground := Ground.data }, { on := 3, ground := Ground.chain }, { on := 3, ground := Ground.guard }], guard := some (3, true) }) rfl (fun K_ hK_ => ?_) AllReadyH.nil
  rw [if_pos (by rfl)]
  go_simp
  go_at_call 69
  refine (unhide Hg _).mono ?_
  rintro e W7 ⟨rfl, hb7⟩
  have HS7 : Hid (S3 W7 w.heap.size (.slice s1 KN q1) (.slice s2 VN q2) (.bool false)) := ((unhide HS5).below (Below.refl _ _).drew).below hb7
  have HB7 : Hid (Below w.heap.size w W7) := (unhide HB5).drew.trans (hb7.mono (unhide HB5).size)
  have HB78 : Hid (Below W5.heap.size W5 W7) := (Below.refl _ _).drew.trans (hb7.mono (Nat.le_refl _))
  clear hb7
  go_simp
  refine hK_.out _ _ (⟨(unhide HS7).c0, (unhide HS7).c1, (unhide HS7).c2⟩) (fun hHeld => ?_)
  clear hK_ K_
  (try simp only [Act.put, List.setIfInBounds_toArray, List.set_cons_zero, List.set_cons_succ])
  refine wpAnyH_take (i := 6) (oi := { dst := some 48, op := Op.pick (Operand.tmp 45) (Operand.tmp 47) (Operand.const (Value.bool false)), type := 4, pos := "change.go:78", after := #[{ on := 3, ground := Ground.data }, { on := 5, ground := Ground.data }, { on := 8, ground := Ground.gcOnly Departure.lateStores }], guard := none }) (v := ?_) rfl (by kernel_rfl) (by kernel_rfl) (by kernel_rfl) (fun _ _ _ h => h) (Or.inl ⟨by rfl, ?f6⟩) (by assumption) ?_
  case f6 => (intro w_ hSw; obtain ⟨_, _, _⟩ := hSw; go_simp; try with_reducible rfl)
  simp only [Act.put, List.setIfInBounds_toArray, List.set_cons_zero, List.set_cons_succ]
  refine wpAnyH_ready (rs := [7]) (by kernel_rfl) (by simp) ?_
  refine AllReadyH.cons (o := { dst := none, op := Op.store 72 (Operand.tmp 2) (Operand.tmp 42), type := 0, pos := "change.go:78", after := #[{ on := 0, ground := Ground.data }, { on := 5, ground := Ground.chain }, { on := 0, ground := Ground.phase }, { on := 1, ground := Ground.textOnly Departure.lateStores }, { on := 2, ground := Ground.textOnly Departure.lateStores }, { on := 3, ground := Ground.textOnly Departure.lateStores }, { on := 4, ground := Ground.phase }, { on := 5, ground := Ground.textOnly Departure.lateStoresUnsure }, { on := 6, ground := Ground.textOnly Departure.lateStores }], guard := none }) rfl (fun K_ hK_ => ?_) AllReadyH.nil
  rw [if_pos (by rfl)]
  refine wp_store_row 72 _ _ rfl w.heap.size #[.slice s1 KN q1, .slice s2 VN q2, .bool false] rfl rfl 72 _ (unhide HS7) info_ch rfl (by simp [Value.oneCell']) ?_
  obtain ⟨W8, hW8⟩ : ∃ y, W7.setRow w.heap.size #[.slice s1 KN q1, .slice s2 VN q2, .bool false] = y := ⟨_, rfl⟩
  have HS8 : Hid (S3 W8 w.heap.size (.slice s1 KN q1) (.slice s2 VN q2) (.bool false)) := by rw [← hW8]; exact setRow_heap _ w.heap.size _ _ 72 _ (unhide HS7)
  have HB8 : Hid (Below w.heap.size w W8) := by rw [← hW8]; exact (unhide HB7).trans ⟨rfl, rfl, rfl, by simp, fun k hk => setRow_other _ _ k _ (by omega)⟩
  have HA8 : Hid (Aside (fun k => k = w.heap.size) W5 W8) := by rw [← hW8]; exact (Aside.of_below (unhide HB78)).trans (T := fun k => k = w.heap.size) ⟨rfl, rfl, rfl, by simp, fun k _ hk => setRow_other _ _ k _ hk⟩ fun _ _ h => h
  rw [hW8]
  clear hW8
  refine hK_.out _ _ (⟨(unhide HS8).c0, (unhide HS8).c1, (unhide HS8).c2⟩) (fun hHeld => ?_)
  clear hK_ K_
  (try simp only [Act.put])
  refine wpAnyH_take (i := 8) (oi := { dst := some 3, op := Op.assign (Operand.tmp 43), type := 23, pos := "change.go:78", after := #[{ on := 1, ground := Ground.data }, { on := 7, ground := Ground.chain }, { on := 0, ground := Ground.phase }, { on := 1, ground := Ground.phase }, { on := 2, ground := Ground.textOnly Departure.lateStores }, { on := 3, ground := Ground.textOnly Departure.lateStores }, { on := 4, ground := Ground.phase }, { on := 5, ground := Ground.textOnly Departure.lateStoresUnsure }, { on := 6, ground := Ground.textOnly Departure.lateStores }, { on := 7, ground := Ground.phase }], guard := none }) (v := ?_) rfl (by kernel_rfl) (by kernel_rfl) (by kernel_rfl) (fun _ _ _ h => h) (Or.inl ⟨by rfl, ?f7⟩) (by assumption) ?_
  case f7 => (intro w_ hSw; obtain ⟨_, _, _⟩ := hSw; go_simp; try with_reducible rfl)
  simp only [Act.put, List.setIfInBounds_toArray, List.set_cons_zero, List.set_cons_succ]
  refine wpAnyH_take (i := 9) (oi := { dst := some 4, op := Op.assign (Operand.tmp 48), type := 4, pos := "change.go:78", after := #[{ on := 6, ground := Ground.data }, { on := 8, ground := Ground.chain }, { on := 0, ground := Ground.phase }, { on := 1, ground := Ground.phase }, { on := 2, ground := Ground.phase }, { on := 3, ground := Ground.phase }, { on := 4, ground := Ground.phase }, { on := 5, ground := Ground.phase }, { on := 6, ground := Ground.phase }, { on := 7, ground := Ground.phase }, { on := 8, ground := Ground.phase }], guard := none }) (v := ?_) rfl (by kernel_rfl) (by kernel_rfl) (by kernel_rfl) (fun _ _ _ h => h) (Or.inl ⟨by rfl, ?f8⟩) (by assumption) ?_
  case f8 => (intro w_ hSw; obtain ⟨_, _, _⟩ := hSw; go_simp; try with_reducible rfl)
  simp only [Act.put, List.setIfInBounds_toArray, List.set_cons_zero, List.set_cons_succ]
  refine wpAnyH_done (by kernel_rfl) ?_ _
  go_wp2
  (try simp only [Exit.inBlock, Exit.then])
  refine bodyPost_ret (results_cell3 Tryz.results88 _ _ w.heap.size #[.slice s1 KN q1, .slice s2 VN q2, .bool false] rfl (unhide HS8).load) rfl ?_
  have hA8 := (unhide HA5).trans (T := fun k => k = w.heap.size) (unhide HA8) fun _ _ h => h
  have hA := (unhide HA3).trans (T := fun k => k = w.heap.size) ((unhide HA34).trans (T := fun k => k = w.heap.size) hA8 fun _ _ h => h) fun _ _ h => h
  refine ⟨s1, s2, st, KN, VN, r2.length, q1, q2, qt, false, by rw [unhide HE]; cases gd <;> rfl, fun c r h => ?_, unhide HB8⟩
  rw [unhide HE] at h
  cases gd
  · cases h
  · simp only [if_true, Option.some.injEq, Prod.mk.injEq] at h
    obtain ⟨rfl, rfl⟩ := h
    exact ⟨rfl, (unhide HPV).aside hA fun k hk => hk ▸ hKw, (unhide HPV2).aside hA8 fun k hk => hk ▸ hKw, (unhide HRV2).aside hA8 fun k hk => hk ▸ hKw⟩
theorem cutP_le {b k r : Bs} {n : Nat} (h : cutP b n = some (k, r)) : r.length ≤ b.length := by
  unfold cutP at h
  split at h
  · cases h
  · split at h
    · cases h
    · simp only [Option.some.injEq, Prod.mk.injEq] at h
      rw [← h.2, List.length_drop, List.length_drop]
      omega
/-- THE LANDED cutChange. -/
theorem scut_c {K : Set_} {w : World} {x : Value} {b : Bs} (hx : ElS K w x b) (hb : b.length ≤ 1000000) (hne : b ≠ []) (hKw : ¬ K w.heap.size) : Calls Tryz.prog 88 #[x] w fun e w' => CutC K w w' b e := by
  cases b with
  | nil => exact absurd rfl hne
  | cons t b =>
    by_cases h0 : t = 0
    · cases hk : cutP b 1 with
      | none => exact scut_g1 hx hb h0 hk
      | some z => obtain ⟨kb, rb⟩ := z; exact scut_g2 hx hb hKw h0 hk rfl
    · by_cases h1 : t = 1
      · cases hk : cutP b 1 with
        | none => exact scut_s1 hx hb h1 hk
        | some z =>
          obtain ⟨kb, rb⟩ := z
          have h2 := cutP_le hk
          have h3 : rb.length ≤ 1000000 := by have : (t :: b).length = b.length + 1 := rfl; omega
          cases hv : cutP rb 4 with
          | none => exact scut_s2 hx hb hKw h1 hk rfl rfl h3 hv
          | some y => obtain ⟨vb, r2⟩ := y; exact scut_s3 hx hb hKw h1 hk rfl rfl h3 hv rfl
      · exact scut_no hx hb h0 h1
end Go.Proofs.YtbjgknoipbekoaaGreat
