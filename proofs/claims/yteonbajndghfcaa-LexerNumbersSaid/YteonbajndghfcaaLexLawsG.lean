/-
  LAWS of chapter 10: LexerNumbers, as a row has its arguments.
-/
import Derived.Test.YteonbajndghfcaaLexLawsD
namespace Go.Proofs.Yteonbajndghfcaa
open Go.RowKit
open Go.Lib
theorem numbers_row (m : Bool) (v : Nat) (hv : v < 18446744073709551616) (n : Int) (w : World) (hn : 0 ≤ n ∧ n ≤ 255) :
    Calls Try.prog 6 #[.agg #[.bool m, .int .u64 v], .int .u8 n] w fun e w' => e = .returned (.bool true) ∧ Below w.heap.size w w' := by
  have h := toNat_ofNat n.toNat (by omega)
  have := numbers_any m v hv (UInt8.ofNat n.toNat) w
  rw [h, show ((n.toNat : Nat) : Int) = n by omega] at this
  exact this
end Go.Proofs.Yteonbajndghfcaa
