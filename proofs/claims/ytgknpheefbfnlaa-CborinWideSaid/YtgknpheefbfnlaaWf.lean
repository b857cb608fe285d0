/-
  LAW of chapter 13: CborinWide.
-/
import Derived.Test.YtgknpheefbfnlaaWb
import Derived.Test.YtgknpheefbfnlaaWc
import Derived.Test.YtgknpheefbfnlaaWd
import Derived.Test.YtgknpheefbfnlaaWe
/-
  LAWS of chapter 13, over CinAll: CborinWide.
-/
namespace Go.Proofs.Ytgknpheefbfnlaa
open Go.RowKit
open Go.Lib
theorem cwide_row (H : CinAll) (y : Bool) (v : Nat) (hv : v < 18446744073709551616) (n : Int) (w : World) :
    Calls Try.prog 12 #[.agg #[.bool y, .int .u64 v], .int .i64 n] w fun r w' => r = .returned (.bool true) ∧ Below w.heap.size w w' := by
  have hn := mod4_ref n
  have h4 : (n % 4).toNat < 4 := by omega
  generalize (n % 4).toNat = K at hn h4
  match K, h4 with
  | 0, _ =>
    by_cases h : v < 256
    · cases y
      · exact cwide_0f H v n w h hn
      · exact cwide_0t H v n w h hn
    · exact cwide_out0 H y v n w h hn
  | 1, _ =>
    by_cases h : v < 65536
    · cases y
      · exact cwide_1f H v n w h hn
      · exact cwide_1t H v n w h hn
    · exact cwide_out1 H y v n w h hn
  | 2, _ =>
    by_cases h : v < 4294967296
    · cases y
      · exact cwide_2f H v n w h hn
      · exact cwide_2t H v n w h hn
    · exact cwide_out2 H y v n w h hn
  | 3, _ =>
    cases y
    · exact cwide_3f H v n w hv hn
    · exact cwide_3t H v n w hv hn
end Go.Proofs.Ytgknpheefbfnlaa
