/-
  The walks of the landed centuryOf, momentOf.
-/
import Derived.Test.YtcofnockikninabGreatDoorN0
import Derived.Test.YtcofnockikninabGreatDoorPE
import Derived.Test.YtcofnockikninabGreatDoorPF
namespace Go.Proofs.YtcofnockikninabGreatDoor
open Go.RowKit
namespace N
open K
def seven (f : Nat → Nat) : List Value := (List.range 7).map fun k => .int .i64 (f k : Int)
theorem seven_len (f : Nat → Nat) : (seven f).length = 7 := by simp [seven]
theorem seven_get (f : Nat → Nat) {k : Nat} (hk : k < 7) : (seven f).getD k undef = .int .i64 (f k : Int) := by
  rw [List.getD_eq_getElem?_getD, List.getElem?_eq_getElem (by rw [seven_len]; exact hk)]
  simp [seven]
theorem seven_set (f g : Nat → Nat) {k : Nat} (h : ∀ j, j ≠ k → g j = f j) : (seven f).set k (.int .i64 (g k : Int)) = seven g := by
  refine List.ext_getElem (by simp [seven]) fun j h1 h2 => ?_
  rw [List.getElem_set]
  split
  · rename_i e
    subst e
    simp [seven]
  · rename_i e
    simp [seven, h j (fun e2 => e e2.symm)]
def sevTo (b : Bs) (i k : Nat) : Nat := if k < i then twoAt b (2 * k) else 0
theorem cent_c (w : World) (s : ByteArray) (A : Bool) (hA : Op.bytesLess s.toList [53, 48] = A) : Calls Tryz.prog 24 #[.string s] w fun e w' => e = .returned (.string (if A = true then st [50, 48] else st [49, 57])) ∧ w' = w := by
  cases A <;> (go_enter Tryz.func24, Tryz.ntmps24; go_wp2; go_ret; exact ⟨rfl, rfl⟩)
set_option maxRecDepth 100000 in
set_option maxHeartbeats 8000000 in
theorem moment7_c (w : World) (s : ByteArray) (hs : 14 ≤ s.size) (hs2 : s.size ≤ 100) (hd : ∀ i, i < 14 → isDig ((bs s).getD i 0) = true) :
    Calls Tryz.prog 25 #[.string s] w fun e w' => e = .returned (.agg (seven fun k => twoAt (bs s) (2 * k)).toArray) ∧ Below w.heap.size w w' := by
  obtain ⟨w1, hw1⟩ : ∃ w1, w.alloc (.cells #[.int .i64 0, .int .i64 0, .int .i64 0, .int .i64 0, .int .i64 0, .int .i64 0, .int .i64 0] 59) = w1 := ⟨_, rfl⟩
  obtain ⟨w2, hw2⟩ : ∃ w2, w1.alloc (.cells #[.int .i64 0, .int .i64 0, .int .i64 0, .int .i64 0, .int .i64 0, .int .i64 0, .int .i64 0] 59) = w2 := ⟨_, rfl⟩
  obtain ⟨R, hR⟩ : ∃ R, w.heap.size = R := ⟨_, rfl⟩
  obtain ⟨O, hO⟩ : ∃ O, w1.heap.size = O := ⟨_, rfl⟩
  have e0 : (#[.int .i64 0, .int .i64 0, .int .i64 0, .int .i64 0, .int .i64 0, .int .i64 0, .int .i64 0] : Array Value) = (seven (sevTo (bs s) 0)).toArray := by simp [seven, sevTo, List.range, List.range.loop]
  have HR1 : Hid (Blk w w1 R (seven (sevTo (bs s) 0)).toArray 59) := by rw [← hw1, ← hR, e0]; exact Blk.new (Below.refl _ _) _ _
  have HR2 : Hid (Blk w w2 R (seven (sevTo (bs s) 0)).toArray 59) := by rw [← hw2]; exact (unhide HR1).lit _
  have HO2 : Hid (Blk w w2 O (seven (sevTo (bs s) 0)).toArray 59) := by rw [← hw2, ← hO, e0]; exact Blk.new (unhide HR1).b _ _
  have HRO : Hid (R ≠ O) := by have := (unhide HR1).lt; show _ ≠ _; omega
  have HD : Hid (∀ k, k < 14 → ∃ p, ((bs s).getD k 0).toNat = p ∧ 48 ≤ p ∧ p ≤ 57) := fun k hk => by
    have := hd k hk
    simp only [isDig, Bool.and_eq_true, decide_eq_true_eq] at this
    exact ⟨_, rfl, this.1, this.2⟩
  clear hd e0
  go_enter Tryz.func25, Tryz.ntmps25
  go_wp2
  clear hw1 hw2 hO HR1
  have HRe := hide hR
  clear hR
  go_loopw [5] (fun ii wr => ∃ i : Nat, i ≤ 7 ∧ ii = .int .i64 (i : Int) ∧ Hid (Blk w wr R (seven (sevTo (bs s) 0)).toArray 59) ∧ Hid (Blk w wr O (seven (sevTo (bs s) i)).toArray 59)) (fun ii _ => 7 - (intOf ii).toNat)
  case atStart => exact ⟨0, by omega, rfl, HR2, HO2⟩
  case round =>
    obtain ⟨i, hi, rfl, HR, HO⟩ := hrel
    clear HR2 HO2
    by_cases hlt : i < 7
    · have d1 : decide ((i : Int) < 7) = true := by simp; omega
      have d1n : decide (i < 7) = true := by simp; omega
      have i0 : (0 : Int) ≤ (i : Int) := by omega
      have i1 : (i : Int) < 7 := by omega
      obtain ⟨F, hF⟩ : ∃ F, 2 * i = F := ⟨_, rfl⟩
      obtain ⟨E, hE⟩ : ∃ E, F + 1 = E := ⟨_, rfl⟩
      have eF : (2 : Int) * (i : Int) = (F : Int) := by omega
      have eE : (F : Int) + 1 = (E : Int) := by omega
      have uF : IntKind.i64.wrap (F : Int) = (F : Int) := IntWalk.i64_in _ (by omega)
      have uE : IntKind.i64.wrap (E : Int) = (E : Int) := IntWalk.i64_in _ (by omega)
      obtain ⟨p, hp, hp1, hp2⟩ := unhide HD F (by omega)
      obtain ⟨q, hq, hq1, hq2⟩ := unhide HD E (by omega)
      have ixF : ∀ w, (Instr.index 9 (.string s) (.int .i64 (F : Int))).run Tryz.prog w = .ok (.int .u8 (p : Int)) w := fun w => index_str s F (by omega) p hp w
      have ixE : ∀ w, (Instr.index 9 (.string s) (.int .i64 (E : Int))).run Tryz.prog w = .ok (.int .u8 (q : Int)) w := fun w => index_str s E (by omega) q hq w
      obtain ⟨P, hP⟩ : ∃ P, p - 48 = P := ⟨_, rfl⟩
      obtain ⟨Q, hQ⟩ : ∃ Q, q - 48 = Q := ⟨_, rfl⟩
      obtain ⟨N, hN⟩ : ∃ N, 10 * P + Q = N := ⟨_, rfl⟩
      have eP : (p : Int) - 48 = (P : Int) := by omega
      have eQ : (q : Int) - 48 = (Q : Int) := by omega
      have eN : (10 : Int) * (P : Int) + (Q : Int) = (N : Int) := by omega
      have uP : IntKind.u8.wrap (P : Int) = (P : Int) := by rw [IntKind.wrap_u8']; omega
      have uQ : IntKind.u8.wrap (Q : Int) = (Q : Int) := by rw [IntKind.wrap_u8']; omega
      have uP2 : IntKind.i64.wrap (P : Int) = (P : Int) := IntWalk.i64_in _ (by omega)
      have uQ2 : IntKind.i64.wrap (Q : Int) = (Q : Int) := IntWalk.i64_in _ (by omega)
      have uN : IntKind.i64.wrap (N : Int) = (N : Int) := IntWalk.i64_in _ (by omega)
      have uPP : IntKind.i64.wrap ((10 : Int) * (P : Int)) = (10 : Int) * (P : Int) := IntWalk.i64_in _ (by omega)
      have ck : wr.cell? ⟨O, i, none⟩ = some (.int .i64 (sevTo (bs s) i i : Int)) := (unhide HO).cell i _ (by have := seven_get (sevTo (bs s) i) hlt; rw [List.getD_eq_getElem?_getD, List.getElem?_eq_getElem (by rw [seven_len]; exact hlt), Option.getD_some] at this; rw [List.getElem?_toArray, List.getElem?_eq_getElem (by rw [seven_len]; exact hlt), this])
      have fk : wr.frozen? ⟨O, i, none⟩ = false := (unhide HO).frozen i
      have HO3 : Hid (Blk w (wr.setCell ⟨O, i, none⟩ (.int .i64 (N : Int))) O (seven (sevTo (bs s) (i + 1))).toArray 59) := by
        have h1 := (unhide HO).put i (by rw [seven_len]; exact hlt) (.int .i64 (N : Int))
        have e : (seven (sevTo (bs s) i)).set i (.int .i64 (N : Int)) = seven (sevTo (bs s) (i + 1)) := by
          have h2 := seven_set (sevTo (bs s) i) (sevTo (bs s) (i + 1)) (k := i) (fun j hj => by
            unfold sevTo
            by_cases h : j < i
            · rw [if_pos (by omega), if_pos h]
            · rw [if_neg (by omega), if_neg h])
          have e3 : sevTo (bs s) (i + 1) i = N := by
            unfold sevTo twoAt
            rw [if_pos (by omega), hF, hE, hp, hq, hP, hQ, hN]
          rw [e3] at h2
          exact h2
        rw [e] at h1
        exact h1
      have HR3 : Hid (Blk w (wr.setCell ⟨O, i, none⟩ (.int .i64 (N : Int))) R (seven (sevTo (bs s) 0)).toArray 59) := by
        refine ⟨?_, (unhide HO3).b, (unhide HR).ge⟩
        rw [heap_setCell_other _ _ _ _ (unhide HRO)]
        exact (unhide HR).res
      clear hF hE hp hq hP hQ hN HR HO
      go_wp2
      go_region
      clear ixF ixE ck fk
      have HO4 := hide (unhide HO3).drew
      have HR4 := hide (unhide HR3).drew
      go_wp2
      go_roundw
      case rel =>
        first
          | exact ⟨i + 1, by omega, by go_num, HR4, HO4⟩
          | ((repeat apply Exists.intro); exact ⟨⟨i + 1, by omega, by go_num, HR4, HO4⟩, rfl⟩)
      case measure => simp [intOf]; omega
    · obtain rfl : i = 7 := by omega
      have d1 : decide ((7 : Int) < 7) = false := by simp
      have e7 : seven (sevTo (bs s) 7) = seven fun k => twoAt (bs s) (2 * k) := by
        refine List.ext_getElem (by simp [seven]) fun j h1 h2 => ?_
        have : j < 7 := by rw [seven_len] at h1; exact h1
        simp [seven, sevTo, this]
      have hsz : (Tryz.prog.info? 59).map (·.size) = some 7 := by kernel_rfl
      have H7 : Hid (((seven fun k => twoAt (bs s) (2 * k)).toArray).all (·.oneCell') = true) := by show _ = true; simp [seven, Value.oneCell', List.range, List.range.loop]
      rw [e7] at HO
      have HRr := hide (unhide HR).res
      have HOr := hide (unhide HO).res
      have hz : ((seven fun k => twoAt (bs s) (2 * k)).toArray).size = 7 := by simp [seven]
      have hz0 : ((seven (sevTo (bs s) 0)).toArray).size = 7 := by simp [seven]
      obtain ⟨Z, hZ⟩ : ∃ Z, (seven fun k => twoAt (bs s) (2 * k)).toArray = Z := ⟨_, rfl⟩
      obtain ⟨Z0, hZ0⟩ : ∃ Z0, (seven (sevTo (bs s) 0)).toArray = Z0 := ⟨_, rfl⟩
      rw [hZ] at HOr H7 hz HO
      have HZ := hide hZ
      rw [hZ0] at HRr hz0 HR
      clear hZ hZ0 e7
      go_wp2_with (first
        | (refine wpList_load_row rfl 59 _ rfl O rfl 59 _ (0, 0) _ (unhide HOr) Tryz.underlying59 rfl (by rw [hz]; exact hsz) ?_)
        | (refine wpList_store_row rfl 59 _ _ rfl R _ rfl rfl 59 _ (unhide HRr) (by rw [hz]; exact hsz) (by rw [hz, hz0]) (unhide H7) ?_))
      exact bodyPost_ret (results_cell_row Tryz.results25 _ _ R 59 Z (0, 0) _ rfl (setRow_heap wr R _ _ 59 (0, 0) (unhide HRr)) Tryz.underlying59 rfl (by rw [hz]; exact hsz)) rfl ⟨by rw [unhide HZ], ((unhide HR).set Z).b⟩
end N
end Go.Proofs.YtcofnockikninabGreatDoor
