/-
  CborinTexts, over the program as it landed.
-/
import Derived.Test.YtgknpheefbfnlaaLk
import Derived.Test.YtgknpheefbfnlaaGi
import Derived.Test.YtgknpheefbfnlaaGk
namespace Go.Proofs.Ytgknpheefbfnlaa
open Go.RowKit
open Go.Lib
theorem texts_end' (n : Int) (c : UInt8) (o : Bool) (w : World) : Calls Try.prog 7 #[.int .i64 n, .int .u8 c.toNat, .bool o] w fun r w' => r = .returned (.bool true) ∧ Below w.heap.size w w' := ctexts_row call_any rhead_any cinP_all n c o w
end Go.Proofs.Ytgknpheefbfnlaa
