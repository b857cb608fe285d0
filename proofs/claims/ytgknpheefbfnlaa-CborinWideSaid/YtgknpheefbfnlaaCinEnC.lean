/-
  CborinWide, over the program as it landed.
-/
import Derived.Test.YtgknpheefbfnlaaWf
import Derived.Test.YtgknpheefbfnlaaGi
import Derived.Lib.SmallJoins
namespace Go.Proofs.Ytgknpheefbfnlaa
open Go.RowKit
open Go.Lib
theorem wide_end (y : Bool) (v : Nat) (hv : v < 18446744073709551616) (n : Int) (w : World) : Calls Try.prog 12 #[.agg #[.bool y, .int .u64 v], .int .i64 n] w fun r w' => r = .returned (.bool true) ∧ Below w.heap.size w w' := cwide_row call_any y v hv n w
end Go.Proofs.Ytgknpheefbfnlaa
