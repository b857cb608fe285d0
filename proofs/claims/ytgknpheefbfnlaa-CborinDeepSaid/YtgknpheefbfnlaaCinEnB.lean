/-
  CborinDeep, over the program as it landed.
-/
import Derived.Test.YtgknpheefbfnlaaLa
import Derived.Test.YtgknpheefbfnlaaGi
namespace Go.Proofs.Ytgknpheefbfnlaa
open Go.RowKit
open Go.Lib
theorem deep_end (n d : Int) (w : World) : Calls Try.prog 6 #[.int .i64 n, .int .i64 d] w fun r w' => r = .returned (.bool true) ∧ Below w.heap.size w w' := cdeep_row call_any n d w
end Go.Proofs.Ytgknpheefbfnlaa
