/-
  CborinChecks, over the program as it landed.
-/
import Derived.Test.YtgknpheefbfnlaaEd
import Derived.Test.YtgknpheefbfnlaaGi
namespace Go.Proofs.Ytgknpheefbfnlaa
open Go.RowKit
open Go.Lib
theorem checks_end (x : ByteArray) (d : Int) (w : World) : Calls Try.prog 3 #[.string x, .int .i64 d] w fun r w' => r = .returned (.bool true) ∧ Below w.heap.size w w' := cchecks_row call_any x d w
end Go.Proofs.Ytgknpheefbfnlaa
