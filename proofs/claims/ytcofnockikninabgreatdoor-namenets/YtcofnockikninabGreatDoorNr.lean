/-
  The walk of the landed addressWithin.
-/
import Derived.Test.YtcofnockikninabGreatDoorPC
import Derived.BigQuiet
import Derived.Deep.QuietTactic
namespace Go.Proofs.YtcofnockikninabGreatDoor
open Go.RowKit
/-- Is an address within a net? -/
def addrTo (a l : Bs) (h n : Nat) : Bool := (List.range n).all fun i => decide ((a.getD i 0).toNat &&& (l.getD (h + i) 0).toNat = (l.getD i 0).toNat &&& (l.getD (h + i) 0).toNat)
def addrW (a l : Bs) : Bool := decide (a.length = l.length / 2) && addrTo a l (l.length / 2) (l.length / 2)
theorem addrTo_succ (a l : Bs) (h n : Nat) : addrTo a l h (n + 1) = (addrTo a l h n && decide ((a.getD n 0).toNat &&& (l.getD (h + n) 0).toNat = (l.getD n 0).toNat &&& (l.getD (h + n) 0).toNat)) := by
  unfold addrTo
  rw [List.range_succ, List.all_append]
  simp
theorem addrTo_no {a l : Bs} {h n m : Nat} (hn : n ≤ m) (hf : addrTo a l h n = false) : addrTo a l h m = false := by
  induction m with
  | zero => have : n = 0 := by omega
            subst this; exact hf
  | succ m ih =>
    by_cases e : n = m + 1
    · subst e; exact hf
    · rw [addrTo_succ, ih (by omega)]; rfl
namespace N
open K
theorem and_u8 (p q : Nat) (hp : p < 256) (hq : q < 256) : bits .and .u8 (p : Int) (q : Int) = ((p &&& q : Nat) : Int) := by
  have e : ∀ n : Nat, n < 256 → (BitVec.ofInt 8 (n : Int)).toNat = n := fun n hn => by rw [BitVec.toNat_ofInt]; omega
  have hx : p &&& q < 256 := Nat.lt_of_le_of_lt Nat.and_le_left hp
  show IntKind.u8.wrap ((BitVec.ofInt 8 (p : Int) &&& BitVec.ofInt 8 (q : Int)).toNat : Int) = _
  rw [BitVec.toNat_and, e p hp, e q hq, IntKind.wrap_u8']
  omega
set_option maxRecDepth 100000 in
set_option maxHeartbeats 4000000 in
theorem addrw_c (w : World) (s l : ByteArray) (hs : s.size ≤ 1000000) (hl : l.size ≤ 1000000) :
    Calls Tryz.prog 16 #[.string s, .string l] w fun e w' => e = .returned (.bool (addrW (bs s) (bs l))) ∧ Below w.heap.size w w' := by
  obtain ⟨A, hA⟩ : ∃ A, s.size = A := ⟨_, rfl⟩
  obtain ⟨L, hL⟩ : ∃ L, l.size = L := ⟨_, rfl⟩
  obtain ⟨H, hH⟩ : ∃ H, L / 2 = H := ⟨_, rfl⟩
  have eH : (L : Int) / 2 = (H : Int) := by omega
  have bA : A ≤ 1000000 := by omega
  have bL : L ≤ 1000000 := by omega
  have bH : H ≤ 1000000 := by omega
  have HAe := hide hA
  have HLe := hide hL
  have HHe := hide hH
  have HT : Hid (addrW (bs s) (bs l) = (decide (A = H) && addrTo (bs s) (bs l) H H)) := by show _ = _; unfold addrW; rw [bs_len, bs_len, hA, hL, hH]
  have Hb := hide (Below.refl w.heap.size w)
  clear hH hs hl
  by_cases hAH : A = H
  · have z1 : ((A : Int) == (H : Int)) = true := by simp; omega
    have z1n : ((A : Int) != (H : Int)) = false := by simp; omega
    have HT2 : Hid (addrW (bs s) (bs l) = addrTo (bs s) (bs l) H H) := by show _ = _; rw [unhide HT, decide_eq_true hAH]; rfl
    clear HT
    have Hah := hide hAH
    clear hAH
    go_enter Tryz.func16, Tryz.ntmps16
    go_wp2
    clear hA hL z1 z1n
    go_loopw [16] (fun ii wr => ∃ k : Nat, k ≤ H ∧ ii = .int .i64 (k : Int) ∧ Hid (addrTo (bs s) (bs l) H k = true) ∧ Hid (Below w.heap.size w wr)) (fun ii _ => H - (intOf ii).toNat)
    case atStart => exact ⟨0, by omega, rfl, rfl, Hb⟩
    case round =>
      obtain ⟨k, hk, rfl, HE, HB⟩ := hrel
      clear Hb
      by_cases hlt : k < H
      · have f1 : decide ((k : Int) < (H : Int)) = true := by simp; omega
        have f1n : decide (k < H) = true := by simp; omega
        obtain ⟨m, hm⟩ : ∃ m, H + k = m := ⟨_, rfl⟩
        have em : (H : Int) + (k : Int) = (m : Int) := by omega
        obtain ⟨p, hp⟩ : ∃ p, ((bs s).getD k 0).toNat = p := ⟨_, rfl⟩
        obtain ⟨q, hq⟩ : ∃ q, ((bs l).getD k 0).toNat = q := ⟨_, rfl⟩
        obtain ⟨r, hr⟩ : ∃ r, ((bs l).getD m 0).toNat = r := ⟨_, rfl⟩
        have hp2 : p < 256 := by rw [← hp]; exact ((bs s).getD k 0).toNat_lt
        have hq2 : q < 256 := by rw [← hq]; exact ((bs l).getD k 0).toNat_lt
        have hr2 : r < 256 := by rw [← hr]; exact ((bs l).getD m 0).toNat_lt
        have hks : k < s.size := by have := unhide HAe; have := unhide Hah; omega
        have hkl : k < l.size := by have := unhide HLe; have := unhide HHe; omega
        have hml : m < l.size := by have := unhide HLe; have := unhide HHe; omega
        have ix1 : ∀ w, (Instr.index 9 (.string s) (.int .i64 (k : Int))).run Tryz.prog w = .ok (.int .u8 (p : Int)) w := fun w => index_str s k hks p hp w
        have ix2 : ∀ w, (Instr.index 9 (.string l) (.int .i64 (k : Int))).run Tryz.prog w = .ok (.int .u8 (q : Int)) w := fun w => index_str l k hkl q hq w
        have ix3 : ∀ w, (Instr.index 9 (.string l) (.int .i64 (m : Int))).run Tryz.prog w = .ok (.int .u8 (r : Int)) w := fun w => index_str l m hml r hr w
        obtain ⟨x, hx⟩ : ∃ x, p &&& r = x := ⟨_, rfl⟩
        obtain ⟨y, hy⟩ : ∃ y, q &&& r = y := ⟨_, rfl⟩
        have a1 : bits .and .u8 (p : Int) (r : Int) = (x : Int) := by rw [and_u8 p r hp2 hr2, hx]
        have a2 : bits .and .u8 (q : Int) (r : Int) = (y : Int) := by rw [and_u8 q r hq2 hr2, hy]
        obtain ⟨U, hU⟩ : ∃ U, decide (x = y) = U := ⟨_, rfl⟩
        have u1 : ((x : Int) == (y : Int)) = U := by rw [← hU]; by_cases h : x = y <;> simp [h] <;> omega
        have u2 : ((x : Int) != (y : Int)) = !U := by rw [← u1]; rfl
        have HS : Hid (addrTo (bs s) (bs l) H (k + 1) = U) := by
          show _ = _
          rw [addrTo_succ, unhide HE, hm, hp, hq, hr, hx, hy, hU]
          rfl
        clear hp hq hr hx hy hU hm HE hks hkl hml
        cases U with
        | false =>
          simp only [Bool.not_false] at u2
          have HF : Hid (addrW (bs s) (bs l) = false) := by show _ = _; rw [unhide HT2]; exact addrTo_no (n := k + 1) (by omega) (unhide HS)
          go_wp2
          go_region
          go_wp2
          go_ret
          exact ⟨by rw [unhide HF]; rfl, (unhide HB).drew⟩
        | true =>
          simp only [Bool.not_true] at u2
          go_wp2
          go_region
          have HB2 := hide (unhide HB).drew
          go_wp2
          go_roundw
          case rel =>
            first
              | exact ⟨k + 1, by omega, by go_num, HS, HB2⟩
              | ((repeat apply Exists.intro); exact ⟨⟨k + 1, by omega, by go_num, HS, HB2⟩, rfl⟩)
          case measure => simp [intOf]; omega
      · have f1 : decide ((k : Int) < (H : Int)) = false := by simp; omega
        have f1n : decide (k < H) = false := by simp; omega
        have HF : Hid (addrW (bs s) (bs l) = true) := by
          show _ = _
          have e : k = H := by omega
          rw [unhide HT2]
          rw [e] at HE
          exact unhide HE
        clear HE
        go_wp2
        go_ret
        exact ⟨by rw [unhide HF]; rfl, unhide HB⟩
  · have z1 : ((A : Int) == (H : Int)) = false := by simp; omega
    have z1n : ((A : Int) != (H : Int)) = true := by simp; omega
    have HT2 : Hid (addrW (bs s) (bs l) = false) := by show _ = _; rw [unhide HT, decide_eq_false hAH]; rfl
    clear HT hAH
    go_enter Tryz.func16, Tryz.ntmps16
    go_wp2
    go_ret
    exact ⟨by rw [unhide HT2]; rfl, unhide Hb⟩
end N
end Go.Proofs.YtcofnockikninabGreatDoor
