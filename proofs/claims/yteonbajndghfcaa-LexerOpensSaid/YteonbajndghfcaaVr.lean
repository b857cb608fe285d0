/-
  THE SHELF AT THIS DUMP, IN PLAIN WORDS: utf8.ValidRune.
-/
import Derived.Shelf.Small.Utf8
import Derived.Below
import Derived.Test.YteonbajndghfcaaProg
namespace Go.Proofs.Yteonbajndghfcaa
open Go.Shelf
open Go.RowKit
def lays119_ren : Go.Shelf.Ren := ⟨fun | 119 => 54 | n => n, fun | 21 => 21 | 4 => 4 | n => n, fun | n => n⟩
theorem lays119 : Go.Proofs.Lays.n119 Try.prog lays119_ren := {
  mixed := by kernel_rfl
  f119 := Try.func54.trans (congrArg some (by kernel_rfl))
  t4 := Try.underlying4
  a4 := Try.isAgg4
  z4 := Try.sizeOf4
  v4 := Try.zeroValue4
  t21 := Try.underlying21
  a21 := Try.isAgg21
  z21 := Try.sizeOf21
  v21 := Try.zeroValue21 }
/-- utf8.ValidRune by the shelf. -/
theorem utf8_ValidRune (r : Int) (w : World) :
    Calls Try.prog 54 #[.int .i32 r] w fun e w' => e = .returned (.bool (Lib.validRune r)) ∧ w' = w := Any.utf8_ValidRune lays119 r w
end Go.Proofs.Yteonbajndghfcaa
