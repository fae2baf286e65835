/-
  The methods of the landed feed, for one that is held (s).
-/
import Derived.Test.YtbblhogdfdpipaaHd17
import Derived.Test.YtbblhogdfdpipaaMe17s
import Derived.Test.YtbblhogdfdpipaaJn17s
import Derived.Test.YtbblhogdfdpipaaTl17s
namespace Go.Proofs.Ytbblhogdfdpipaa
open Go.RowKit
theorem news_o (w0 w : World) (hb : Below w0.heap.size w0 w) : Calls Try.prog 14 #[] w fun e w' => ∃ P, e = .returned (.pointer (some ⟨P, 0, none⟩)) ∧ OneF KS w0 w' P [] := by
  refine (news_c w).mono ?_
  rintro e w' ⟨p, rfl, hF, hb'⟩
  obtain ⟨P, rfl⟩ := hF.form
  exact ⟨P, rfl, _, hF, fun k hk => Nat.le_trans hb.size hk.1, hb.trans (hb'.mono hb.size)⟩
theorem news_t {w0 w : World} {P : Nat} {R : Rs ByteArray} (h : OneF KS w0 w P R) : Calls Try.prog 14 #[] w fun e w' => ∃ Q, e = .returned (.pointer (some ⟨Q, 0, none⟩)) ∧ TwoF KS w0 w' P Q R [] := by
  refine (news_c w).mono ?_
  rintro e w' ⟨p, rfl, hF, hb'⟩
  obtain ⟨Q, rfl⟩ := hF.form
  exact ⟨Q, rfl, h.two hF hb'⟩
section
variable {w : World} {P : Nat} {R : Rs ByteArray} {F : World → Rs ByteArray → Prop}
theorem joins_h (h : Hold KS w P R F) (n : Int) (hl : R.length ≤ 1000000) : Calls Try.prog 15 #[.pointer (some ⟨P, 0, none⟩), .int .i64 n] w fun e w' => e = .returned (.int .i64 (joinN R n)) ∧ F w' (joinR R n) := by
  obtain ⟨X, h1, h2⟩ := h
  refine (joins_c h1 n hl).mono ?_
  rintro e w' ⟨rfl, ht⟩
  exact ⟨rfl, h2 _ _ ht⟩
theorem tells_h (h : Hold KS w P R F) (x : ByteArray) (hlo : ∀ n b, rd R n = some b → b.lost < 1000000000) : Calls Try.prog 16 #[.pointer (some ⟨P, 0, none⟩), .string x] w fun e w' => e = .returned (.int .i64 (live R : Int)) ∧ F w' (tellR R x) := by
  obtain ⟨X, h1, h2⟩ := h
  refine (tells_c h1 x hlo).mono ?_
  rintro e w' ⟨rfl, ht⟩
  exact ⟨rfl, h2 _ _ ht⟩
theorem tkVs_eq (o : Option ByteArray) : tkVs o = .tuple #[KS.val (o.getD ⟨#[]⟩), .bool o.isSome] := by cases o <;> rfl
theorem takes_h (h : Hold KS w P R F) (n : Int) : Calls Try.prog 18 #[.pointer (some ⟨P, 0, none⟩), .int .i64 n] w fun e w' => e = .returned (.tuple #[.string ((takeV R n).getD ⟨#[]⟩), .bool (takeV R n).isSome]) ∧ F w' (takeR R n) := by
  obtain ⟨X, h1, h2⟩ := h
  refine (takes_c h1 n).mono ?_
  rintro e w' ⟨rfl, hF, ha⟩
  refine ⟨by rw [tkVs_eq]; rfl, h2 _ _ ⟨X, hF, ha, fun _ hk => Or.inl hk⟩⟩
theorem waitss_h (h : Hold KS w P R F) (n : Int) : Calls Try.prog 19 #[.pointer (some ⟨P, 0, none⟩), .int .i64 n] w fun e w' => e = .returned (.int .i64 (waitsN R n : Int)) ∧ w' = w := by
  obtain ⟨X, h1, h2⟩ := h
  exact waitss_c h1 n
theorem losts_h (h : Hold KS w P R F) (n : Int) : Calls Try.prog 17 #[.pointer (some ⟨P, 0, none⟩), .int .i64 n] w fun e w' => e = .returned (.int .i64 (lostN R n : Int)) ∧ w' = w := by
  obtain ⟨X, h1, h2⟩ := h
  exact losts_c h1 n
end
end Go.Proofs.Ytbblhogdfdpipaa
