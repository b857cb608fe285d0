/-
  A part as a value.
-/
import Derived.Test.YtkfidnfnehnhoaaBlk
namespace Go.Proofs.Ytkfidnfnehnhoaa
open Go.RowKit
open Go.Lib
/-- A part, as a value. -/
def valE (e : Ev) : Value :=
  if e.k = 1 then .iface 4 (.bool e.y) else if e.k = 2 then .iface 59 (.agg #[.bool e.y, .int .u64 e.m]) else if e.k = 3 then .iface 66 (.string e.t)
  else if e.k = 4 then .iface 67 (.string e.t) else if e.k = 5 then .iface 50 (.agg #[.bool false, .int .i64 e.c]) else if e.k = 6 then .iface 50 (.agg #[.bool true, .int .i64 e.c])
  else if e.k = 7 then .iface 52 (.agg #[]) else .nilIface
end Go.Proofs.Ytkfidnfnehnhoaa
