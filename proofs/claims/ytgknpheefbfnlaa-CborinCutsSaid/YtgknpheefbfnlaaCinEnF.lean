/-
  CborinCuts, over the program as it landed.
-/
import Derived.Test.YtgknpheefbfnlaaLb
import Derived.Test.YtgknpheefbfnlaaGi
import Derived.Test.YtgknpheefbfnlaaGk
namespace Go.Proofs.Ytgknpheefbfnlaa
open Go.RowKit
open Go.Lib
theorem cuts_end (A : Option Addr) (n cp : Nat) (Li : Nat → Int) (k : Int) (b : UInt8) (w : World) (hL : DLAt w w.heap.size A n Li) : Calls Try.prog 5 #[.slice A n cp, .int .i64 k, .int .u8 b.toNat] w fun r w' => r = .returned (.bool true) ∧ Below w.heap.size w w' := ccuts_row call_any rhead_any A n cp Li k b w hL
end Go.Proofs.Ytgknpheefbfnlaa
