/-
  The landed packings of hints keep what is promised of them.
-/
import Derived.Test.YthciafobknaipaaKept
import Derived.Test.YthciafobknaipaaCodeF
import Derived.Test.YthciafobknaipaaOnly
namespace Go.Proofs.Ythciafobknaipaa
theorem roundH_kept : RoundH (fun _ => True) where
  packH := fun w x L most _ hx hL hLl => packH_any w x L most hx hL hLl
  unpackH := fun w x b n m _ hx h8 hl => unpackH_any w x b n m hx h8 hl
end Go.Proofs.Ythciafobknaipaa
