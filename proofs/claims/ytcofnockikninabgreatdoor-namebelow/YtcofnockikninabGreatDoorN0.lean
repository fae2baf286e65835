/-
  Texts: what the walks want to know of strings.
-/
import Derived.Test.YtcofnockikninabGreatDoorNe
import Derived.Laws.IdiomStrings
namespace Go.Proofs.YtcofnockikninabGreatDoor
open Go.RowKit
namespace N
/-- The text of bytes. -/
abbrev st (l : Bs) : ByteArray := ⟨l.toArray⟩
theorem bs_st (l : Bs) : bs (st l) = l := by simp [bs]
theorem st_bs (s : ByteArray) : st (bs s) = s := by cases s; simp [bs, st]
theorem st_size (l : Bs) : (st l).size = l.length := by simp [ByteArray.size]
theorem st_append (a b : Bs) : st a ++ st b = st (a ++ b) := ByteArray.mk_append_mk a b
theorem toList_bs (s : ByteArray) : s.toList = bs s := ByteArray.toList_eq s
theorem st_inj {a b : Bs} (h : st a = st b) : a = b := by rw [← bs_st a, h, bs_st]
/-- string(b). -/
theorem conv_str {w : World} {x : Value} {l : Bs} (h : BytesAt w x l) : (convert 22 9 x).run Tryz.prog w = .ok (.string (st l)) w := by
  obtain ⟨sp, c, rfl, _, hn, hc⟩ := bytes_open h
  by_cases hl : l = []
  · subst hl
    cases sp with
    | none =>
      rw [run_convert_bytes_string w 22 9 5 none _ _ Tryz.underlying22 Tryz.underlying5 Tryz.underlying9]
      simp [Conv.bytesToString]
      rfl
    | some a => exact run_convert_bytes_back w 22 9 5 a c [] Tryz.underlying22 Tryz.underlying5 Tryz.underlying9 (fun j hj => by simp at hj)
  · obtain ⟨b, o, rfl, _, hcell⟩ := hc hl
    refine run_convert_bytes_back w 22 9 5 ⟨b, o, none⟩ c l Tryz.underlying22 Tryz.underlying5 Tryz.underlying9 (fun j hj => ?_)
    have := hcell j hj
    rw [List.getD_eq_getElem?_getD, List.getElem?_eq_getElem hj, Option.getD_some] at this
    have e : (⟨b, o, none⟩ : Addr).add j = ⟨b, o + j, none⟩ := by unfold Addr.add; split <;> simp_all
    rw [e]
    exact this
/-- s[k]. -/
theorem index_str (s : ByteArray) (k : Nat) (h : k < s.size) (p : Nat) (hp : ((bs s).getD k 0).toNat = p) (w : World) : (Instr.index 9 (.string s) (.int .i64 (k : Int))).run Tryz.prog w = .ok (.int .u8 (p : Int)) w := by
  rw [run_index_string w 9 s .i64 (k : Int) Tryz.underlying9, dif_pos ⟨by omega, by omega⟩, ← hp, bs_get s h]
  rfl
/-- a + b. -/
theorem cat_str (a b c : Bs) (h : a ++ b = c) (hl : a.length + b.length ≤ 1000000000) (w : World) : (Op.stringOp .add (st a) (st b)).run Tryz.prog w = .ok (.string (st c)) w := by
  rw [run_string_add_sum w _ _ (by rw [st_size, st_size]; omega), st_append, h]
theorem eql_str (a b : ByteArray) : (a.toList == b.toList) = decide (bs a = bs b) := by
  rw [toList_bs, toList_bs]
  by_cases h : bs a = bs b
  · rw [decide_eq_true h]; simp [h]
  · rw [decide_eq_false h]; simpa using h
end N
end Go.Proofs.YtcofnockikninabGreatDoor
