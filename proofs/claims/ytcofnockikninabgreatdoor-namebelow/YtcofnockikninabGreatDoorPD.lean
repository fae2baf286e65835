/-
  The walks of the landed isUniversal, isRight.
-/
import Derived.Test.YtcofnockikninabGreatDoorNf
import Derived.Test.YtcofnockikninabGreatDoorMC
import Derived.Test.YtcofnockikninabGreatDoorPF
import Derived.Test.YtcofnockikninabGreatDoorVform
namespace Go.Proofs.YtcofnockikninabGreatDoor
open Go.RowKit
theorem right_err (v : DV) : rightV v = decide (errOf (writeTop formD v) = 0) := by
  unfold rightV
  cases h : writeTop formD v with
  | no e => simp [errOf, top_pos formD v e h]
  | yes b => simp [errOf]
namespace N
open K
theorem dcells_one (c t : Int) (m : Bool) (s1 s2 : Option Addr) (a b p q : Nat) : ((dcells c t m (.slice s1 a p) (.slice s2 b q)).toArray).all (·.oneCell') = true := by simp [dcells, Value.oneCell']
set_option maxRecDepth 100000 in
set_option maxHeartbeats 4000000 in
theorem isuni_c (w : World) (c t : Int) (m : Bool) (s1 s2 : Option Addr) (a b p q : Nat) (g : Int) (A B : Bool) (hA : (c == 0) = A) (hB : (t == g) = B) :
    Calls Tryz.prog 20 #[.agg (dcells c t m (.slice s1 a p) (.slice s2 b q)).toArray, .int .i64 g] w fun e w' => e = .returned (.bool (A && B)) ∧ Below w.heap.size w w' := by
  have hA2 := Blk.new (Below.refl w.heap.size w) #[.int .i64 c, .int .i64 t, .bool m, .slice s1 a p, .slice s2 b q] 36
  obtain ⟨w1, hw1⟩ : ∃ w1, w.alloc (.cells #[.int .i64 c, .int .i64 t, .bool m, .slice s1 a p, .slice s2 b q] 36) = w1 := ⟨_, rfl⟩
  obtain ⟨X, eX⟩ : ∃ X, w.heap.size = X := ⟨_, rfl⟩
  rw [hw1, eX] at hA2
  have k0 := hA2.cell 0 _ rfl
  have k1 := hA2.cell 1 _ rfl
  have HA2 := hide hA2
  have HX := hide eX
  unfold dcells
  clear hA2
  cases A <;> cases B <;>
    (go_enter Tryz.func20, Tryz.ntmps20
     go_wp2
     go_ret
     exact ⟨rfl, (unhide HA2).b⟩)
set_option maxRecDepth 100000 in
set_option maxHeartbeats 4000000 in
theorem isright_c (w : World) (S : Nat → Prop) (cs : List Value) (v : DV) (hT : Tabs w) (hv : ValAt S w cs v) (hw : weight v ≤ 1000000) :
    Calls Tryz.prog 21 #[.agg cs.toArray] w fun e w' => e = .returned (.bool (rightV v)) ∧ Below w.heap.size w w' := by
  obtain ⟨s1, c1, s2, c2, rfl⟩ := hv.form
  obtain ⟨kc, hkc⟩ : ∃ kc, v.cls = kc := ⟨_, rfl⟩
  obtain ⟨kt, hkt⟩ : ∃ kt, v.tag = kt := ⟨_, rfl⟩
  obtain ⟨km, hkm⟩ : ∃ km, v.made = km := ⟨_, rfl⟩
  obtain ⟨kl, hkl⟩ : ∃ kl, v.bytes.length = kl := ⟨_, rfl⟩
  obtain ⟨kk, hkk⟩ : ∃ kk, v.kids.length = kk := ⟨_, rfl⟩
  simp only [hkc, hkt, hkm, hkl, hkk] at hv ⊢
  clear hkc hkt hkm hkl hkk
  have hA := Blk.new (Below.refl w.heap.size w) #[.int .i64 kc, .int .i64 kt, .bool km, .slice s1 kl c1, .slice s2 kk c2] 36
  obtain ⟨w1, hw1⟩ : ∃ w1, w.alloc (.cells #[.int .i64 kc, .int .i64 kt, .bool km, .slice s1 kl c1, .slice s2 kk c2] 36) = w1 := ⟨_, rfl⟩
  obtain ⟨X, eX⟩ : ∃ X, w.heap.size = X := ⟨_, rfl⟩
  rw [hw1, eX] at hA
  have Hwr := hide (write_c w1 S _ v (hT.below hA.b) (hv.below hA.b) hw)
  unfold dcells at Hwr ⊢
  have k0 := hA.cell 0 _ rfl
  have k1 := hA.cell 1 _ rfl
  have k2 := hA.cell 2 _ rfl
  have k3 := hA.cell 3 _ rfl
  have k4 := hA.cell 4 _ rfl
  have HA := hide hA
  obtain ⟨er, her⟩ : ∃ er, errOf (writeTop formD v) = er := ⟨_, rfl⟩
  rw [her] at Hwr
  obtain ⟨U, hU⟩ : ∃ U, ((er : Int) == 0) = U := ⟨_, rfl⟩
  have HT : Hid (rightV v = U) := by
    show _ = _
    rw [right_err, her, ← hU]
    by_cases h : er = 0 <;> simp [h]
  clear hA hv hw hT her
  cases U <;>
    (go_enter Tryz.func21, Tryz.ntmps21
     go_wp2_with fail
     refine (unhide Hwr).mono ?_
     rintro e w2 ⟨x, rfl, hO, hb2⟩
     have HA2 := hide ((unhide HA).call hb2)
     obtain ⟨px, qx, rfl⟩ := hO.form
     clear hO hb2 k0 k1 k2 k3 k4 HA
     go_wp2
     go_ret
     exact ⟨by rw [unhide HT]; rfl, (unhide HA2).b⟩)
end N
end Go.Proofs.YtcofnockikninabGreatDoor
/-
  Rows of numbers; the walk of the landed groupsOf.
-/
namespace Go.Proofs.YtcofnockikninabGreatDoor
open Go.RowKit
theorem Eints : Elem Tryz.prog 53 3 (.int .i64 0) 8 := elem_of Tryz.underlying53 (by kernel_rfl) rfl (by omega)
/-- A row of numbers that was begun at the world wb. -/
structure RowN (wb w : World) (v : Value) (l : List Nat) : Prop where
  own : OwnV 3 w wb.heap.size v (l.map nv)
  b : Below wb.heap.size wb w
theorem RowN.call {wb w w' : World} {v : Value} {l : List Nat} (h : RowN wb w v l) (hb : Below w.heap.size w w') : RowN wb w' v l := ⟨OwnV.below h.own hb, h.b.trans (hb.mono h.b.size)⟩
theorem RowN.lit {wb w : World} {v : Value} {l : List Nat} (h : RowN wb w v l) (o : Obj) : RowN wb (w.alloc o) v l := h.call ((Below.refl _ _).alloc (Nat.le_refl _) _)
theorem RowN.form {wb w : World} {v : Value} {l : List Nat} (h : RowN wb w v l) : ∃ sp c, v = .slice sp l.length c := by
  obtain ⟨sp, c, e⟩ := OwnV.form h.own
  rw [List.length_map] at e
  exact ⟨sp, c, e⟩
theorem one_nums (l : List Nat) : ∀ u ∈ l.map nv, u.oneCell' = true := fun u hu => by obtain ⟨x, _, rfl⟩ := List.mem_map.1 hu; rfl
theorem wpList_append_nums {wb w : World} {ops : Array Oper} {rest : List Oper} {o : Oper} {a : Act} {Q : Exit → Act → World → Prop} (hgd : o.guard = none) (s x : Operand)
    (ho : o.op = .call { callee := .builtin .append, args := #[s, x], argTypes := #[53, 53] }) (v y : Value) (l m : List Nat) (hs : a.eval s = v) (hr : RowN wb w v l)
    (hx : a.eval x = y) (hy : ValsAt w y (m.map nv)) (hlen : l.length + m.length ≤ 1073741824)
    (h : ∀ v' w', RowN wb w' v' (l ++ m) → wpList Tryz.prog ops Q rest (a.put o.dst v') w') : wpList Tryz.prog ops Q (o :: rest) a w :=
  wpList_append_vals Eints hgd s x ho wb.heap.size v y (l.map nv) (m.map nv) hs hr.own hx hy (one_nums m) hr.b.size (by simpa using hlen) fun v' w' h1 h2 _ => h v' w' ⟨by rw [List.map_append]; exact h1, own_below hr.own h2 hr.b hr.b.size⟩
theorem one_num (w : World) (n : Nat) : ValsAt (w.alloc (.cells #[.int .i64 (n : Int)] 3)) (.slice (some ⟨w.heap.size, 0, none⟩) 1 1) ([n].map nv) := vals_new w ([n].map nv) 3
namespace N
open K
set_option maxRecDepth 100000 in
set_option maxHeartbeats 8000000 in
theorem groupsof_c (w : World) (x : Value) (b : Bs) (hx : BytesAt w x b) (hr : oidP b = true) (hl : b.length ≤ 1000000) :
    Calls Tryz.prog 22 #[x] w fun e w' => ∃ (v : Value) (ok : Bool), e = .returned (.tuple #[v, .bool ok]) ∧ ((∃ gs, oidG b = some gs ∧ gs ≠ [] ∧ ok = true ∧ RowN w w' v gs) ∨ (oidG b = none ∧ ok = false ∧ v = .slice none 0 0)) ∧ Below w.heap.size w w' := by
  obtain ⟨sp, c, rfl, _, _, _⟩ := bytes_open hx
  obtain ⟨N, hN⟩ : ∃ N, b.length = N := ⟨_, rfl⟩
  have HN := hide hN
  rw [hN] at hx hl ⊢
  have HX : Hid (∀ (k : Nat) (wr : World), k < N → Below w.heap.size w wr → ∃ (ba oa p : Nat), sp = some ⟨ba, oa, none⟩ ∧ (b.getD k 0).toNat = p ∧ p < 256 ∧ wr.cell? ⟨ba, oa + k, none⟩ = some (.int .u8 (p : Int))) := fun k wr hk hb => by
    obtain ⟨ba, oa, p, e1, e2, e3, e4⟩ := byte_at (hx.below hb) hN k hk
    exact ⟨ba, oa, p, e1, e2, e3, e4⟩
  have HRt := hide hr
  clear hx hN hr
  go_enter Tryz.func22, Tryz.ntmps22
  go_wp2
  go_loopw [4, 5, 10] (fun bb nn ii wr => ∃ (k n M cv : Nat) (sv : Option Addr) (gs : List Nat), k ≤ N ∧ M ≤ 19 ∧ n < 1099511627776 ∧ bb = .slice sv M cv ∧ nn = .int .i64 (n : Int) ∧ ii = .int .i64 (k : Int) ∧ Hid (gs.length = M) ∧ Hid (gFold (b.take k) = some (gs, n)) ∧ Hid (RowN w wr (.slice sv M cv) gs)) (fun _ _ ii _ => N - (intOf ii).toNat)
  case atStart => exact ⟨0, 0, 0, 0, none, [], by omega, by omega, by omega, rfl, rfl, rfl, rfl, rfl, ⟨own_nil 3 _ _, Below.refl _ _⟩⟩
  case round =>
    obtain ⟨k, n, M, cv, sv, gs, hk, hM, hn, rfl, rfl, rfl, HM, HG, HR⟩ := hrel
    by_cases hlt : k < N
    · obtain ⟨ba, oa, p, rfl, hp, hp2, hc⟩ := unhide HX k wr hlt (unhide HR).b
      have f1 : decide ((k : Int) < (N : Int)) = true := by simp; omega
      have f1n : decide (k < N) = true := by simp; omega
      have k0 : (0 : Int) ≤ (k : Int) := by omega
      have k1 : (k : Int) < (N : Int) := by omega
      obtain ⟨q, hq⟩ : ∃ q, p % 128 = q := ⟨_, rfl⟩
      obtain ⟨a2, ha2⟩ : ∃ a2, n * 128 = a2 := ⟨_, rfl⟩
      obtain ⟨a3, ha3⟩ : ∃ a3, a2 + q = a3 := ⟨_, rfl⟩
      have hand : bits .andNot .u8 (p : Int) 128 = (q : Int) := by rw [← hq]; exact low7 ⟨p, hp2⟩
      have e2 : (n : Int) * 128 = (a2 : Int) := by omega
      have u2 : IntKind.i64.wrap (a2 : Int) = (a2 : Int) := IntWalk.i64_in _ (by omega)
      have uq : IntKind.i64.wrap (q : Int) = (q : Int) := IntWalk.i64_in _ (by omega)
      have hor : bits .or .i64 (a2 : Int) (q : Int) = (a3 : Int) := by
        rw [or_i64 a2 q (by omega) (by omega), ← ha3, ← ha2]
        congr 1
        exact or_add n q 7 (by omega)
      have HS : Hid (gFold (b.take (k + 1)) = if 1099511627776 ≤ a3 then none else some (if p < 128 then (gs ++ [a3], 0) else (gs, a3))) := by
        show _ = _
        rw [gFold_take (by have := unhide HN; omega), unhide HG]
        show gStep (gs, n) (b.getD k 0) = _
        unfold gStep
        rw [hp, hq]
        simp only [show 128 * n + q = a3 by omega]
      clear hp hq
      by_cases hbig : 1099511627776 ≤ a3
      · have HF : Hid (oidG b = none) := by
          refine oidG_no (i := k + 1) ?_
          rw [unhide HS, if_pos hbig]
        have z1 : decide ((1099511627775 : Int) < (a3 : Int)) = true := by simp; omega
        have z1n : decide (1099511627775 < a3) = true := by simp; omega
        clear HS HG ha2 ha3
        go_wp2
        go_ret2
        exact ⟨_, _, rfl, Or.inr ⟨unhide HF, rfl, rfl⟩, (unhide HR).b⟩
      have z1 : decide ((1099511627775 : Int) < (a3 : Int)) = false := by simp; omega
      have z1n : decide (1099511627775 < a3) = false := by simp; omega
      have HS2 : Hid (gFold (b.take (k + 1)) = some (if p < 128 then (gs ++ [a3], 0) else (gs, a3))) := by show _ = _; rw [unhide HS, if_neg hbig]
      by_cases h19 : M = 19
      · have HF : Hid (oidG b = none) := oidG_many (unhide HRt) (by have := unhide HN; omega) (unhide HG) (by have := unhide HM; omega)
        subst h19
        clear HS HG HS2 ha2 ha3
        go_wp2
        go_ret2
        exact ⟨_, _, rfl, Or.inr ⟨unhide HF, rfl, rfl⟩, (unhide HR).b⟩
      have z2 : ((M : Int) + 1 == 20) = false := by simp; omega
      by_cases h128 : p < 128
      · have z3 : decide ((p : Int) < 128) = true := by simp; omega
        have z3n : decide (p < 128) = true := by simp; omega
        have HS3 : Hid (gFold (b.take (k + 1)) = some (gs ++ [a3], 0)) := by show _ = _; rw [unhide HS2, if_pos h128]
        have HY := hide (one_num wr a3)
        have HR2 := hide ((unhide HR).lit (.cells #[.int .i64 (a3 : Int)] 3))
        obtain ⟨M3, hM3⟩ : ∃ M3, M + 1 = M3 := ⟨_, rfl⟩
        have HM3 : Hid ((gs ++ [a3]).length = M3) := by show _ = _; rw [List.length_append, unhide HM, ← hM3]; rfl
        have hM4 : M3 ≤ 19 := by omega
        have HM5 := hide hM3
        clear HS HG HS2 HR ha2 ha3 hM3
        go_wp2_with (at_builtin; refine wpList_append_nums rfl _ _ rfl (.slice sv M cv) (.slice (some ⟨wr.heap.size, 0, none⟩) 1 1) gs [a3] rfl (unhide HR2) rfl (unhide HY) (by rw [unhide HM]; simp; omega) ?_
                     intro v3 W3 hR3
                     obtain ⟨p3, q3, rfl⟩ := hR3.form
                     rw [unhide HM3] at hR3 ⊢
                     have HR3 := hide hR3
                     clear hR3)
        go_roundw
        case rel =>
          first
            | exact ⟨k + 1, 0, M3, q3, p3, gs ++ [a3], by omega, hM4, by omega, rfl, rfl, by go_num, HM3, HS3, HR3⟩
            | ((repeat apply Exists.intro); exact ⟨⟨k + 1, 0, M3, q3, p3, gs ++ [a3], by omega, hM4, by omega, rfl, rfl, by go_num, HM3, HS3, HR3⟩, rfl⟩)
        case measure => simp [intOf]; omega
      · have z3 : decide ((p : Int) < 128) = false := by simp; omega
        have z3n : decide (p < 128) = false := by simp; omega
        have HS3 : Hid (gFold (b.take (k + 1)) = some (gs, a3)) := by show _ = _; rw [unhide HS2, if_neg h128]
        clear HS HG HS2 ha2 ha3
        go_wp2
        go_roundw
        case rel =>
          first
            | exact ⟨k + 1, a3, M, cv, sv, gs, by omega, hM, by omega, rfl, rfl, by go_num, HM, HS3, HR⟩
            | ((repeat apply Exists.intro); exact ⟨⟨k + 1, a3, M, cv, sv, gs, by omega, hM, by omega, rfl, rfl, by go_num, HM, HS3, HR⟩, rfl⟩)
        case measure => simp [intOf]; omega
    · have f1 : decide ((k : Int) < (N : Int)) = false := by simp; omega
      have f1n : decide (k < N) = false := by simp; omega
      have hG : gFold b = some (gs, n) := by
        have := unhide HG
        rw [List.take_of_length_le (by have := unhide HN; omega)] at this
        exact this
      have HF : Hid (oidG b = some gs ∧ gs ≠ []) := by
        refine ⟨?_, (oidG_end (unhide HRt) hG).2⟩
        unfold oidG
        rw [hG]
        simp only
        rw [if_pos (by have := unhide HM; omega)]
      clear hG HG
      go_wp2
      go_ret2
      exact ⟨_, _, rfl, Or.inl ⟨gs, (unhide HF).1, (unhide HF).2, rfl, unhide HR⟩, (unhide HR).b⟩
end N
end Go.Proofs.YtcofnockikninabGreatDoor
