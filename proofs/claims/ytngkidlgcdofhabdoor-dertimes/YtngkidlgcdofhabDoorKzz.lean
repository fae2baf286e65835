/-
  The record of layer 9's promises is kept by the landed code.
-/
import Derived.Test.YtngkidlgcdofhabDoorKza
import Derived.Test.YtngkidlgcdofhabDoorKxw
namespace Go.Proofs.YtngkidlgcdofhabDoor
open Go.RowKit
namespace K
/-- Reading and writing as the plain words say, where the two tables of unicode/utf8 lie in memory. -/
theorem der_kept : Der Tabs := ⟨fun _ _ h hb => h.below hb, fun w x b hR hx hl => read_top w x b hR hx hl, fun w S cs v hR hv hw => write_c w S cs v hR hv hw⟩
end K
end Go.Proofs.YtngkidlgcdofhabDoor
