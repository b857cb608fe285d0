/-
  CborinCounts, over the program as it landed.
-/
import Derived.Test.YtgknpheefbfnlaaLe
import Derived.Test.YtgknpheefbfnlaaGi
namespace Go.Proofs.Ytgknpheefbfnlaa
open Go.RowKit
open Go.Lib
theorem counts_end (n : Int) (m : Bool) (g : Nat) (hg : g < 18446744073709551616) (w : World) : Calls Try.prog 10 #[.int .i64 n, .bool m, .int .u64 g] w fun r w' => r = .returned (.bool true) ∧ Below w.heap.size w w' := ccounts_row call_any cinP_all n m g hg w
end Go.Proofs.Ytgknpheefbfnlaa
