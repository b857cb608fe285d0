/-
  CONTRACT of math/bits.Div64 where decimal.Print calls it.
-/
import Derived.Test.YtkaionchipljgaaDoorDecFmt
import Derived.Test.YtkaionchipljgaaDoorKit
namespace Go.Proofs.YtkaionchipljgaaDoor
open Go.RowKit
open Go.Lib
set_option maxHeartbeats 1000000 in
theorem div_small (u : Nat) (hu : u < 18446744073709551616) (w : World) :
    Calls Tryd.prog 16 #[.int .u64 0, .int .u64 u, .int .u64 10] w fun e w' => e = .returned (.tuple #[.int .u64 ((u / 10 : Nat) : Int), .int .u64 ((u % 10 : Nat) : Int)]) ∧ ∃ q, w' = w.drewN q := by
  go_enter Tryd.func16, Tryd.ntmps16
  go_wp2
  go_quiet (fail)
  go_wp2
  go_ret2
  exact ⟨by simp, _, rfl⟩
theorem lz10 (w : World) : Calls Tryd.prog 21 #[.int .u64 10] w fun e w' => e = .returned (.int .i64 60) ∧ w' = w := by
  have h := bits_LeadingZeros64 10 w (by omega) (by omega)
  rw [show (64 - (Lib.bitLen (10 : Int).toNat : Int)) = 60 by decide] at h
  exact h
set_option maxHeartbeats 1000000 in
set_option maxRecDepth 100000 in
theorem div_big (w : World) :
    Calls Tryd.prog 16 #[.int .u64 1, .int .u64 0, .int .u64 10] w fun e w' => e = .returned (.tuple #[.int .u64 1844674407370955161, .int .u64 6]) ∧ w' = w := by
  have b1 : bits .and .u64 11529215046068469760 4294967295 = 0 := by decide
  have b2 : bits .or .u64 1152921504606846976 0 = 1152921504606846976 := by decide
  have b3 : bits .and .u64 0 4294967295 = 0 := by decide
  go_enter Tryd.func16, Tryd.ntmps16
  go_wp2_with (go_at_call 21; refine (lz10 _).mono ?_; rintro e w' ⟨rfl, rfl⟩)
  refine wp_loop_once ?_
  go_wp2
  refine wp_loop_once ?_
  go_wp2
  go_ret2
  exact ⟨rfl, rfl⟩
end Go.Proofs.YtkaionchipljgaaDoor
