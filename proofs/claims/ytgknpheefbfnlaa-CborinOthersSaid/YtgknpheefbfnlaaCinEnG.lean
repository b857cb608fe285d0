/-
  CborinOthers, over the program as it landed.
-/
import Derived.Test.YtgknpheefbfnlaaLc
import Derived.Test.YtgknpheefbfnlaaGi
namespace Go.Proofs.Ytgknpheefbfnlaa
open Go.RowKit
open Go.Lib
theorem others_end (b : UInt8) (o : Bool) (w : World) : Calls Try.prog 9 #[.int .u8 b.toNat, .bool o] w fun r w' => r = .returned (.bool true) ∧ Below w.heap.size w w' := cothers_row call_any cinP_all b o w
end Go.Proofs.Ytgknpheefbfnlaa
