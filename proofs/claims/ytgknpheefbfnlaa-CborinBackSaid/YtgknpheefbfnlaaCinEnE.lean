/-
  CborinBack, over the program as it landed.
-/
import Derived.Test.YtgknpheefbfnlaaLb
import Derived.Test.YtgknpheefbfnlaaGi
import Derived.Test.YtgknpheefbfnlaaGk
namespace Go.Proofs.Ytgknpheefbfnlaa
open Go.RowKit
open Go.Lib
theorem back_end (A : Option Addr) (n cp : Nat) (Li : Nat → Int) (d : Int) (o : Bool) (w : World) (hL : DLAt w w.heap.size A n Li) : Calls Try.prog 4 #[.slice A n cp, .int .i64 d, .bool o] w fun r w' => r = .returned (.bool true) ∧ Below w.heap.size w w' := cback_row call_any rhead_any A n cp Li d o w hL
end Go.Proofs.Ytgknpheefbfnlaa
