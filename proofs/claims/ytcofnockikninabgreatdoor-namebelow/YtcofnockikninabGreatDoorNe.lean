/-
  The walks of the landed questions of runes, and every.
-/
import Derived.Test.YtcofnockikninabGreatDoorKb
import Derived.Lib.OthersKept
import Derived.Deep.LoopGhost
namespace Go.Proofs.YtcofnockikninabGreatDoor
open Go.RowKit
def digN (r : Nat) : Bool := decide (48 ≤ r) && decide (r ≤ 57)
def capN (r : Nat) : Bool := decide (65 ≤ r) && decide (r ≤ 90)
def labN (r : Nat) : Bool := digN r || capN r || (decide (97 ≤ r) && decide (r ≤ 122)) || decide (r = 45)
def prnN (r : Nat) : Bool := decide (r < 128) && printP (UInt8.ofNat r)
namespace N
/-- The bytes of a text. -/
abbrev bs (s : ByteArray) : Bs := s.data.toList
theorem bs_len (s : ByteArray) : (bs s).length = s.size := rfl
theorem take_snocB {b : Bs} {i : Nat} (hi : i < b.length) : b.take (i + 1) = b.take i ++ [b.getD i 0] := by
  rw [List.take_add_one, List.getElem?_eq_getElem hi, List.getD_eq_getElem?_getD, List.getElem?_eq_getElem hi]; rfl
theorem bs_get (s : ByteArray) {k : Nat} (h : k < s.size) : (bs s).getD k 0 = s[k]'h := by
  rw [List.getD_eq_getElem?_getD, List.getElem?_eq_getElem (by rw [bs_len]; exact h), Option.getD_some]
  simp [bs]
  rfl
theorem isasc_c (r : Nat) (hr : r ≤ 2147483647) (w : World) : Calls Tryz.prog 36 #[.int .i32 (r : Int)] w fun e w' => e = .returned (.bool (decide (r < 128))) ∧ w' = w := by
  obtain ⟨A, hA⟩ : ∃ A, decide (r < 128) = A := ⟨_, rfl⟩
  have a1 : decide ((r : Int) < 128) = A := by rw [← hA, decide_eq_decide]; omega
  rw [hA]
  cases A <;> (go_enter Tryz.func36, Tryz.ntmps36; go_wp2; go_ret; exact ⟨rfl, rfl⟩)
theorem isdigit_c (r : Nat) (hr : r ≤ 2147483647) (w : World) : Calls Tryz.prog 99 #[.int .i32 (r : Int)] w fun e w' => e = .returned (.bool (digN r)) ∧ w' = w := by
  obtain ⟨A, hA⟩ : ∃ A, decide (48 ≤ r) = A := ⟨_, rfl⟩
  obtain ⟨B, hB⟩ : ∃ B, decide (r ≤ 57) = B := ⟨_, rfl⟩
  have a1 : decide ((48 : Int) ≤ (r : Int)) = A := by rw [← hA, decide_eq_decide]; omega
  have b1 : decide ((r : Int) ≤ 57) = B := by rw [← hB, decide_eq_decide]; omega
  have HT : Hid (digN r = (A && B)) := by show _ = _; unfold digN; rw [hA, hB]
  cases A <;> cases B <;> (go_enter Tryz.func99, Tryz.ntmps99; go_wp2; go_ret; exact ⟨by rw [unhide HT]; rfl, rfl⟩)
theorem iscap_c (r : Nat) (hr : r ≤ 2147483647) (w : World) : Calls Tryz.prog 77 #[.int .i32 (r : Int)] w fun e w' => e = .returned (.bool (capN r)) ∧ w' = w := by
  obtain ⟨A, hA⟩ : ∃ A, decide (65 ≤ r) = A := ⟨_, rfl⟩
  obtain ⟨B, hB⟩ : ∃ B, decide (r ≤ 90) = B := ⟨_, rfl⟩
  have a1 : decide ((65 : Int) ≤ (r : Int)) = A := by rw [← hA, decide_eq_decide]; omega
  have b1 : decide ((r : Int) ≤ 90) = B := by rw [← hB, decide_eq_decide]; omega
  have HT : Hid (capN r = (A && B)) := by show _ = _; unfold capN; rw [hA, hB]
  cases A <;> cases B <;> (go_enter Tryz.func77, Tryz.ntmps77; go_wp2; go_ret; exact ⟨by rw [unhide HT]; rfl, rfl⟩)
theorem maylabel_c (r : Nat) (hr : r ≤ 2147483647) (w : World) : Calls Tryz.prog 68 #[.int .i32 (r : Int)] w fun e w' => e = .returned (.bool (labN r)) ∧ w' = w := by
  have HD := hide (isdigit_c r hr w)
  have HC := hide (iscap_c r hr w)
  obtain ⟨D, hD⟩ : ∃ D, digN r = D := ⟨_, rfl⟩
  obtain ⟨C, hC⟩ : ∃ C, capN r = C := ⟨_, rfl⟩
  obtain ⟨A, hA⟩ : ∃ A, decide (97 ≤ r) = A := ⟨_, rfl⟩
  obtain ⟨B, hB⟩ : ∃ B, decide (r ≤ 122) = B := ⟨_, rfl⟩
  obtain ⟨E, hE⟩ : ∃ E, decide (r = 45) = E := ⟨_, rfl⟩
  rw [hD] at HD
  rw [hC] at HC
  have a1 : decide ((97 : Int) ≤ (r : Int)) = A := by rw [← hA, decide_eq_decide]; omega
  have b1 : decide ((r : Int) ≤ 122) = B := by rw [← hB, decide_eq_decide]; omega
  have e1 : ((r : Int) == 45) = E := by rw [← hE]; by_cases h : r = 45 <;> simp [h] <;> omega
  have HT : Hid (labN r = (D || C || (A && B) || E)) := by show _ = _; unfold labN; rw [hD, hC, hA, hB, hE]
  clear hD hC hE
  cases D <;> cases C <;> cases A <;> cases B <;> cases E <;>
    (go_enter Tryz.func68, Tryz.ntmps68
     go_wp2_with (first
       | (go_at_call 99; refine (unhide HD).mono ?_; rintro e w' ⟨rfl, hw⟩; obtain rfl := hw)
       | (go_at_call 77; refine (unhide HC).mono ?_; rintro e w' ⟨rfl, hw⟩; obtain rfl := hw))
     go_ret
     exact ⟨by rw [unhide HT]; rfl, rfl⟩)
theorem isprint_c (r : Nat) (hr : r ≤ 2147483647) (w : World) : Calls Tryz.prog 61 #[.int .i32 (r : Int)] w fun e w' => e = .returned (.bool (prnN r)) ∧ w' = w := by
  have HA := hide (isasc_c r hr w)
  by_cases h : r < 128
  · obtain ⟨c, hc⟩ : ∃ c : UInt8, UInt8.ofNat r = c := ⟨_, rfl⟩
    have hcr : c.toNat = r := by rw [← hc, UInt8.toNat_ofNat']; omega
    have HP := hide (K.print_c c w)
    rw [hcr] at HP
    rw [decide_eq_true h] at HA
    have u : IntKind.u8.wrap (r : Int) = (r : Int) := by rw [IntKind.wrap_u8']; omega
    have HT : Hid (prnN r = printP c) := by show _ = _; unfold prnN; rw [hc, decide_eq_true h]; rfl
    clear hc hcr
    go_enter Tryz.func61, Tryz.ntmps61
    go_wp2_with (first
       | (go_at_call 36; refine (unhide HA).mono ?_; rintro e w' ⟨rfl, hw⟩; obtain rfl := hw)
       | (go_at_call 86; refine (unhide HP).mono ?_; rintro e w' ⟨rfl, hw⟩; obtain rfl := hw))
    go_ret
    exact ⟨by rw [unhide HT]; rfl, rfl⟩
  · rw [decide_eq_false h] at HA
    have HT : Hid (prnN r = false) := by show _ = _; unfold prnN; rw [decide_eq_false h]; rfl
    go_enter Tryz.func61, Tryz.ntmps61
    go_wp2_with (go_at_call 36; refine (unhide HA).mono ?_; rintro e w' ⟨rfl, hw⟩; obtain rfl := hw)
    go_ret
    exact ⟨by rw [unhide HT]; rfl, rfl⟩
/-- A question of runes. -/
structure Quest (f : Nat) (Q : Nat → Bool) : Prop where
  enters : ∀ args w, (callFunc f args).run Tryz.prog w = .ok (.enter f args) w
  asks : ∀ (r : Nat) (w : World), r ≤ 2147483647 → Calls Tryz.prog f #[.int .i32 (r : Int)] w fun e w' => e = .returned (.bool (Q r)) ∧ w' = w
  high : ∀ r : Nat, 128 ≤ r → Q r = false
set_option maxRecDepth 100000 in
set_option maxHeartbeats 4000000 in
theorem every_c (f : Nat) (Q : Nat → Bool) (hq : Quest f Q) (s : ByteArray) (hs : s.size ≤ 1000000000) (w : World) :
    Calls Tryz.prog 35 #[.string s, .func (.func f) #[] #[]] w fun e w' => e = .returned (.bool ((bs s).all fun c => Q c.toNat)) ∧ Below w.heap.size w w' := by
  obtain ⟨ANS, hA⟩ : ∃ ANS, ((bs s).all fun c => Q c.toNat) = ANS := ⟨_, rfl⟩
  rw [hA]
  have HA := hide hA
  have hen := hq.enters
  have HQ := hide hq
  obtain ⟨IT, hIT⟩ : ∃ IT, w.heap.size = IT := ⟨_, rfl⟩
  have H0 : Hid ((w.iter s 0).heap[IT]? = some (.stringIter s 0)) := by show _ = _; rw [← hIT]; exact World.iter_heap w s 0
  have HB0 : Hid (Below IT w (w.iter s 0)) := by show Below _ _ _; rw [← hIT]; exact (Below.refl _ _).alloc (Nat.le_refl _) _
  obtain ⟨w1, hw1⟩ : ∃ w1, w.iter s 0 = w1 := ⟨_, rfl⟩
  rw [hw1] at H0 HB0
  clear hA hq
  go_enter Tryz.func35, Tryz.ntmps35
  go_wp2
  have HIT := hide hIT
  clear hw1 hIT
  go_loopg [6] (s.size + 1) (fun gk r wr => Hid (Below IT w wr) ∧ ∃ pos : Nat, Hid (wr.heap[IT]? = some (.stringIter s pos)) ∧ pos ≤ s.size ∧ s.size < gk + pos ∧ Hid (((bs s).take pos).all (fun c => Q c.toNat) = true))
  case atStart => exact ⟨HB0, 0, H0, by omega, by omega, rfl⟩
  case round =>
    clear HB0 H0
    obtain ⟨HB, pos, HI, hp, hg, HT⟩ := hrel
    by_cases hlt : pos < s.size
    · obtain ⟨g', rfl⟩ : ∃ g', gk = g' + 1 := ⟨gk - 1, by omega⟩
      obtain ⟨d, hd⟩ : ∃ d, Utf8.decode s pos = d := ⟨_, rfl⟩
      obtain ⟨r, l⟩ := d
      have hr : r ≤ 2147483647 := by have := decode_le s pos; rw [hd] at this; exact this
      have hnx : ∀ ty, (Instr.next (.pointer (some ⟨IT, 0, none⟩)) true ty).run Tryz.prog wr = .ok (.tuple #[.bool true, .int .i64 pos, .int .i32 (r : Int)]) (wr.iterAt IT s (pos + l)) := fun ty => by
        have := Lib.run_next_any_at (P := Tryz.prog) wr IT s pos ty (unhide HI) hlt
        rw [hd] at this
        exact this
      have HI2 := hide (Lib.iterAt_heap wr IT s pos (pos + l) (unhide HI))
      have HB2 := hide (Lib.below_iterAt (unhide HB) (k := IT) (Nat.le_refl _) s (pos + l))
      obtain ⟨W1, hW1⟩ : ∃ W1, wr.iterAt IT s (pos + l) = W1 := ⟨_, rfl⟩
      rw [hW1] at HI2 HB2
      simp only [hW1] at hnx
      have HC := hide ((unhide HQ).asks r W1 hr)
      obtain ⟨u, hu⟩ : ∃ u, Q r = u := ⟨_, rfl⟩
      rw [hu] at HC
      have key : (128 ≤ r ∧ u = false ∧ Q ((bs s).getD pos 0).toNat = false) ∨ (l = 1 ∧ Q ((bs s).getD pos 0).toNat = u) := by
        rw [bs_get s hlt]
        by_cases ha : (s[pos]'hlt).toNat < 128
        · have := decode_ascii s pos hlt ha
          rw [hd] at this
          simp only [Prod.mk.injEq] at this
          exact Or.inr ⟨this.2, by rw [← this.1]; exact hu⟩
        · have := (decode_high s pos hlt (by omega)).1
          rw [hd] at this
          exact Or.inl ⟨this, by rw [← hu]; exact (unhide HQ).high r this, (unhide HQ).high _ (by omega)⟩
      cases u with
      | false =>
        have HF : Hid (ANS = false) := by
          show _ = _
          rw [← unhide HA]
          refine K.all_not (k := pos) (by rw [bs_len]; exact hlt) ?_
          rcases key with ⟨_, _, h⟩ | ⟨_, h⟩ <;> exact h
        clear hd hW1 hu key HI HB HT HI2 HQ HA
        go_wp2_with fail
        refine (unhide HC).mono ?_
        rintro e w2 ⟨rfl, rfl⟩
        go_wp2
        go_ret
        exact ⟨by rw [unhide HF]; rfl, by rw [unhide HIT]; exact unhide HB2⟩
      | true =>
        have hl1 : l = 1 := by
          rcases key with ⟨_, h, _⟩ | ⟨h, _⟩
          · cases h
          · exact h
        have HT2 : Hid (((bs s).take (pos + 1)).all (fun c => Q c.toNat) = true) := by
          show _ = _
          rcases key with ⟨_, h, _⟩ | ⟨_, h⟩
          · cases h
          · rw [take_snocB (by rw [bs_len]; exact hlt), List.all_append, unhide HT, List.all_cons, h]
            rfl
        rw [hl1] at HI2
        clear hd hW1 hu key HI HB HT HQ HA hl1
        go_wp2_with fail
        refine (unhide HC).mono ?_
        rintro e w2 ⟨rfl, rfl⟩
        go_wp2
        go_roundg g'
        case measure => omega
        case rel => exact ⟨HB2, pos + 1, HI2, by omega, by omega, HT2⟩
    · have hnx : ∀ ty, (Instr.next (.pointer (some ⟨IT, 0, none⟩)) true ty).run Tryz.prog wr = .ok (.tuple #[.bool false]) wr := fun ty => Lib.run_next_end_at wr IT s pos ty (unhide HI) hlt
      have HF : Hid (ANS = true) := by
        show _ = _
        have h1 := unhide HT
        rw [List.take_of_length_le (by rw [bs_len]; omega)] at h1
        rw [← unhide HA, h1]
      clear HI HT HQ HA
      go_wp2
      go_ret
      exact ⟨by rw [unhide HF]; rfl, by rw [unhide HIT]; exact unhide HB⟩
end N
end Go.Proofs.YtcofnockikninabGreatDoor
