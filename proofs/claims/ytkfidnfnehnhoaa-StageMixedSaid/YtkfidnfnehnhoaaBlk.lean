/-
  GENERAL (of the program the type api.Ev alone): a part as a plain one; a block and all that it holds; frames by steps.
-/
import Derived.Test.YtkfidnfnehnhoaaEvs
import Derived.Test.YtkfidnfnehnhoaaUp
import Derived.Test.YtkfidnfnehnhoaaProg
import Derived.WalkKit
import Derived.WalkLawsBesides
import Derived.WalkSpells
import Derived.Laws.StructEq
import Derived.Lib.Hide
import Derived.Deep.RegionWith
import Derived.Deep.QuietTactic
import Derived.BigQuiet
import Derived.Handy
namespace Go.Proofs.Ytkfidnfnehnhoaa
open Go.RowKit
open Go.Lib
/-- A part, as a plain one. -/
def evV (e : Ev) : Value := .agg #[.int .i64 e.k, .bool e.y, .int .u64 e.m, .string e.t, .int .i64 e.c]
/-- The cells of a plain part's block. -/
theorem Blk.ev {w : World} {b : Nat} {k : Int} {y : Bool} {m : Int} {t : ByteArray} {c : Int} {T : TypeId} (h : Blk w b #[.int .i64 k, .bool y, .int .u64 m, .string t, .int .i64 c] T) :
    (w.cell? ⟨b, 0, none⟩ = some (.int .i64 k) ∧ w.cell? ⟨b, 1, none⟩ = some (.bool y) ∧ w.cell? ⟨b, 2, none⟩ = some (.int .u64 m) ∧ w.cell? ⟨b, 3, none⟩ = some (.string t) ∧ w.cell? ⟨b, 4, none⟩ = some (.int .i64 c)) ∧
    (w.frozen? ⟨b, 0, none⟩ = false ∧ w.frozen? ⟨b, 1, none⟩ = false ∧ w.frozen? ⟨b, 2, none⟩ = false ∧ w.frozen? ⟨b, 3, none⟩ = false ∧ w.frozen? ⟨b, 4, none⟩ = false) :=
  ⟨⟨h.cell 0, h.cell 1, h.cell 2, h.cell 3, h.cell 4⟩, ⟨h.froz 0, h.froz 1, h.froz 2, h.froz 3, h.froz 4⟩⟩
/-- What a plain part's call makes of a value that is none. -/
def evZ : Ev := ⟨0, false, 0, ⟨#[]⟩, 0⟩
end Go.Proofs.Ytkfidnfnehnhoaa
