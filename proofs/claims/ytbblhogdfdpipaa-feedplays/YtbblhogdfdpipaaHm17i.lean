/-
  The methods of the landed feed, for one that is held (i).
-/
import Derived.Test.YtbblhogdfdpipaaHd17
import Derived.Test.YtbblhogdfdpipaaMe17i
import Derived.Test.YtbblhogdfdpipaaJn17i
import Derived.Test.YtbblhogdfdpipaaTl17i
namespace Go.Proofs.Ytbblhogdfdpipaa
open Go.RowKit
theorem newi_o (w0 w : World) (hb : Below w0.heap.size w0 w) : Calls Try.prog 7 #[] w fun e w' => ∃ P, e = .returned (.pointer (some ⟨P, 0, none⟩)) ∧ OneF KI w0 w' P [] := by
  refine (newi_c w).mono ?_
  rintro e w' ⟨p, rfl, hF, hb'⟩
  obtain ⟨P, rfl⟩ := hF.form
  exact ⟨P, rfl, _, hF, fun k hk => Nat.le_trans hb.size hk.1, hb.trans (hb'.mono hb.size)⟩
theorem newi_t {w0 w : World} {P : Nat} {R : Rs Int} (h : OneF KI w0 w P R) : Calls Try.prog 7 #[] w fun e w' => ∃ Q, e = .returned (.pointer (some ⟨Q, 0, none⟩)) ∧ TwoF KI w0 w' P Q R [] := by
  refine (newi_c w).mono ?_
  rintro e w' ⟨p, rfl, hF, hb'⟩
  obtain ⟨Q, rfl⟩ := hF.form
  exact ⟨Q, rfl, h.two hF hb'⟩
section
variable {w : World} {P : Nat} {R : Rs Int} {F : World → Rs Int → Prop}
theorem joini_h (h : Hold KI w P R F) (n : Int) (hl : R.length ≤ 1000000) : Calls Try.prog 8 #[.pointer (some ⟨P, 0, none⟩), .int .i64 n] w fun e w' => e = .returned (.int .i64 (joinN R n)) ∧ F w' (joinR R n) := by
  obtain ⟨X, h1, h2⟩ := h
  refine (joini_c h1 n hl).mono ?_
  rintro e w' ⟨rfl, ht⟩
  exact ⟨rfl, h2 _ _ ht⟩
theorem telli_h (h : Hold KI w P R F) (x : Int) (hlo : ∀ n b, rd R n = some b → b.lost < 1000000000) : Calls Try.prog 10 #[.pointer (some ⟨P, 0, none⟩), .int .i64 x] w fun e w' => e = .returned (.int .i64 (live R : Int)) ∧ F w' (tellR R x) := by
  obtain ⟨X, h1, h2⟩ := h
  refine (telli_c h1 x hlo).mono ?_
  rintro e w' ⟨rfl, ht⟩
  exact ⟨rfl, h2 _ _ ht⟩
theorem tkVi_eq (o : Option Int) : tkVi o = .tuple #[KI.val (o.getD 0), .bool o.isSome] := by cases o <;> rfl
theorem takei_h (h : Hold KI w P R F) (n : Int) : Calls Try.prog 11 #[.pointer (some ⟨P, 0, none⟩), .int .i64 n] w fun e w' => e = .returned (.tuple #[.int .i64 ((takeV R n).getD 0), .bool (takeV R n).isSome]) ∧ F w' (takeR R n) := by
  obtain ⟨X, h1, h2⟩ := h
  refine (takei_c h1 n).mono ?_
  rintro e w' ⟨rfl, hF, ha⟩
  refine ⟨by rw [tkVi_eq]; rfl, h2 _ _ ⟨X, hF, ha, fun _ hk => Or.inl hk⟩⟩
theorem waitsi_h (h : Hold KI w P R F) (n : Int) : Calls Try.prog 12 #[.pointer (some ⟨P, 0, none⟩), .int .i64 n] w fun e w' => e = .returned (.int .i64 (waitsN R n : Int)) ∧ w' = w := by
  obtain ⟨X, h1, h2⟩ := h
  exact waitsi_c h1 n
theorem losti_h (h : Hold KI w P R F) (n : Int) : Calls Try.prog 13 #[.pointer (some ⟨P, 0, none⟩), .int .i64 n] w fun e w' => e = .returned (.int .i64 (lostN R n : Int)) ∧ w' = w := by
  obtain ⟨X, h1, h2⟩ := h
  exact losti_c h1 n
theorem leavei_h (h : Hold KI w P R F) (n : Int) : Calls Try.prog 9 #[.pointer (some ⟨P, 0, none⟩), .int .i64 n] w fun e w' => e = .returned (.bool (rd R n).isSome) ∧ F w' (leaveR R n) := by
  obtain ⟨X, h1, h2⟩ := h
  refine (leavei_c h1 n).mono ?_
  rintro e w' ⟨rfl, hF, ha⟩
  exact ⟨rfl, h2 _ _ ⟨X, hF, ha, fun _ hk => Or.inl hk⟩⟩
end
end Go.Proofs.Ytbblhogdfdpipaa
