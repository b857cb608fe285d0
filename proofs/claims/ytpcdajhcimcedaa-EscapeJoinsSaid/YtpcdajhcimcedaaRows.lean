/-
  No cell of these rows narrows 'for every input' (looked for: loops, veiled, ifaces, maps, wideKeys, modest, calm, conditions, laid).
  DERIVED. THE GIVEN ROWS OF THIS SEAT. 6 by the template 'for every input the law returns true; each argument reads behind the call as it read before'; 0 by the template 'total and deterministic' (their statements: YtpcdajhcimcedaaTotals.lean).
  GIVEN WITH THE SEED: the statements are not yours to turn. If you find one false, say at which input.
  Laid BY PROGRAM, IN A SANDBOX (cutbox-rows.mjs): the forced cells as the released guide's own fill.sh prints them over the translation 9d8d9ebce284cdea… (all of the seat's roots in one cut). By AI agents, Wed Nov 11 2026. No macro, syntax, notation, axiom, sorry.
-/
import Derived.Test.YtpcdajhcimcedaaChecked
import GoSem.Claim
import GoSem.ClaimJoined
import GoSem.ClaimMapViews
import Derived.JoinedTies
import Derived.KernelRfl
namespace Go.Proofs.Ytpcdajhcimcedaa
/- THE CELL 'sum', in the pinned program and in every row, IS THE sha256 OF THE DUMP (.gsa) THAT YtpcdajhcimcedaaProg.lean LOADS. Nothing in Lean hashes anything: it is a label: what it is worth is what the hold of that sum in a sandbox is worth. -/
noncomputable def Try.pinned : Pinned := { name := "ytpcdajhcimcedaa", sum := "9d8d9ebce284cdead3c0a6e1eedc79afc5e6a6196b876a78db40db3dc63f30ec", checked := Try.checked }
namespace Rows
def none {H : Type} : Left H := { results := [], args := [] }

/-- 'truchmanlaw5.EscapeTells': WHATEVER THE INPUT: true; the input reads as it did. -/
def escapeTellsSpec : ChangeSpec := { name := "escapeTells", fn := fun _ => fun
  | [d1, d2] => { results := [.lit (.bool true)], args := [d1, d2] }
  | _ => none }
def escapeTellsRow : OpenClaim := { program := "ytpcdajhcimcedaa", sum := "9d8d9ebce284cdead3c0a6e1eedc79afc5e6a6196b876a78db40db3dc63f30ec", func := "truchman/truchmanlaw5.EscapeTells", spec := "escapeTells", inPlace := ["internal/abi.NoEscape"], apart := false }
def EscapeTellsSaid : Prop := escapeTellsRow.holds Try.pinned (OpenSpec.ofChange escapeTellsSpec)

/-- ITS FALSE NEIGHBOUR: 'it returns false'. Refute it at one input. -/
def escapeTellsWrong : ChangeSpec := { name := "escapeTells", fn := fun _ => fun
  | [d1, d2] => { results := [.lit (.bool false)], args := [d1, d2] }
  | _ => none }
def EscapeTellsWrongFalsely : Prop := escapeTellsRow.holds Try.pinned (OpenSpec.ofChange escapeTellsWrong)

/-- 'truchmanlaw5.EscapeBack': WHATEVER THE INPUT: true; the input reads as it did. -/
def escapeBackSpec : ChangeSpec := { name := "escapeBack", fn := fun _ => fun
  | [d] => { results := [.lit (.bool true)], args := [d] }
  | _ => none }
def escapeBackRow : OpenClaim := { program := "ytpcdajhcimcedaa", sum := "9d8d9ebce284cdead3c0a6e1eedc79afc5e6a6196b876a78db40db3dc63f30ec", func := "truchman/truchmanlaw5.EscapeBack", spec := "escapeBack", inPlace := ["internal/abi.NoEscape"], apart := false }
def EscapeBackSaid : Prop := escapeBackRow.holds Try.pinned (OpenSpec.ofChange escapeBackSpec)

/-- ITS FALSE NEIGHBOUR: 'it returns false'. Refute it at one input. -/
def escapeBackWrong : ChangeSpec := { name := "escapeBack", fn := fun _ => fun
  | [d] => { results := [.lit (.bool false)], args := [d] }
  | _ => none }
def EscapeBackWrongFalsely : Prop := escapeBackRow.holds Try.pinned (OpenSpec.ofChange escapeBackWrong)

/-- 'truchmanlaw5.EscapePairs': WHATEVER THE INPUT: true; the input reads as it did. -/
def escapePairsSpec : ChangeSpec := { name := "escapePairs", fn := fun _ => fun
  | [d1, d2] => { results := [.lit (.bool true)], args := [d1, d2] }
  | _ => none }
def escapePairsRow : OpenClaim := { program := "ytpcdajhcimcedaa", sum := "9d8d9ebce284cdead3c0a6e1eedc79afc5e6a6196b876a78db40db3dc63f30ec", func := "truchman/truchmanlaw5.EscapePairs", spec := "escapePairs", inPlace := ["internal/abi.NoEscape"], unfollowed := true, recurses := true, apart := false }
def EscapePairsSaid : Prop := escapePairsRow.holds Try.pinned (OpenSpec.ofChange escapePairsSpec)

/-- ITS FALSE NEIGHBOUR: 'it returns false'. Refute it at one input. -/
def escapePairsWrong : ChangeSpec := { name := "escapePairs", fn := fun _ => fun
  | [d1, d2] => { results := [.lit (.bool false)], args := [d1, d2] }
  | _ => none }
def EscapePairsWrongFalsely : Prop := escapePairsRow.holds Try.pinned (OpenSpec.ofChange escapePairsWrong)

/-- 'truchmanlaw5.EscapeSigns': WHATEVER THE INPUT: true; the input reads as it did. -/
def escapeSignsSpec : ChangeSpec := { name := "escapeSigns", fn := fun _ => fun
  | [d] => { results := [.lit (.bool true)], args := [d] }
  | _ => none }
def escapeSignsRow : OpenClaim := { program := "ytpcdajhcimcedaa", sum := "9d8d9ebce284cdead3c0a6e1eedc79afc5e6a6196b876a78db40db3dc63f30ec", func := "truchman/truchmanlaw5.EscapeSigns", spec := "escapeSigns", inPlace := ["internal/abi.NoEscape"], apart := false }
def EscapeSignsSaid : Prop := escapeSignsRow.holds Try.pinned (OpenSpec.ofChange escapeSignsSpec)

/-- ITS FALSE NEIGHBOUR: 'it returns false'. Refute it at one input. -/
def escapeSignsWrong : ChangeSpec := { name := "escapeSigns", fn := fun _ => fun
  | [d] => { results := [.lit (.bool false)], args := [d] }
  | _ => none }
def EscapeSignsWrongFalsely : Prop := escapeSignsRow.holds Try.pinned (OpenSpec.ofChange escapeSignsWrong)

/-- 'truchmanlaw5.EscapeJoins': WHATEVER THE INPUT: true; the input reads as it did. -/
def escapeJoinsSpec : ChangeSpec := { name := "escapeJoins", fn := fun _ => fun
  | [d1, d2] => { results := [.lit (.bool true)], args := [d1, d2] }
  | _ => none }
def escapeJoinsRow : OpenClaim := { program := "ytpcdajhcimcedaa", sum := "9d8d9ebce284cdead3c0a6e1eedc79afc5e6a6196b876a78db40db3dc63f30ec", func := "truchman/truchmanlaw5.EscapeJoins", spec := "escapeJoins", inPlace := ["internal/abi.NoEscape"], apart := false }
def EscapeJoinsSaid : Prop := escapeJoinsRow.holds Try.pinned (OpenSpec.ofChange escapeJoinsSpec)

/-- ITS FALSE NEIGHBOUR: 'it returns false'. Refute it at one input. -/
def escapeJoinsWrong : ChangeSpec := { name := "escapeJoins", fn := fun _ => fun
  | [d1, d2] => { results := [.lit (.bool false)], args := [d1, d2] }
  | _ => none }
def EscapeJoinsWrongFalsely : Prop := escapeJoinsRow.holds Try.pinned (OpenSpec.ofChange escapeJoinsWrong)

/-- 'truchmanlaw5.EscapeOpens': WHATEVER THE INPUT: true; the input reads as it did. -/
def escapeOpensSpec : ChangeSpec := { name := "escapeOpens", fn := fun _ => fun
  | [d1, d2] => { results := [.lit (.bool true)], args := [d1, d2] }
  | _ => none }
def escapeOpensRow : OpenClaim := { program := "ytpcdajhcimcedaa", sum := "9d8d9ebce284cdead3c0a6e1eedc79afc5e6a6196b876a78db40db3dc63f30ec", func := "truchman/truchmanlaw5.EscapeOpens", spec := "escapeOpens", inPlace := ["internal/abi.NoEscape"], apart := false }
def EscapeOpensSaid : Prop := escapeOpensRow.holds Try.pinned (OpenSpec.ofChange escapeOpensSpec)

/-- ITS FALSE NEIGHBOUR: 'it returns false'. Refute it at one input. -/
def escapeOpensWrong : ChangeSpec := { name := "escapeOpens", fn := fun _ => fun
  | [d1, d2] => { results := [.lit (.bool false)], args := [d1, d2] }
  | _ => none }
def EscapeOpensWrongFalsely : Prop := escapeOpensRow.holds Try.pinned (OpenSpec.ofChange escapeOpensWrong)

/- THE SECOND FORM. 'bulk': how many values and letters a reading holds, each counted each time it is reached (what is shared counts as often as it is met; a slice's spare places count too). A statement '..UptoSaid' is the law's where the arguments, and the package variables that the reading takes, are together of bulk at most 1048576: NARROWER than '..Said'. Prove '..Said' where nothing that the law and all that it calls make is longer than what came in: it says more and counts as full. Else prove '..UptoSaid'. A law counts once. -/
mutual
def uptoBulk {H : Type} : DataW H → Nat
  | .lit (.string bytes) => bytes.length + 1
  | .lit _ => 1
  | .nil => 1
  | .ptr d => uptoBulk d + 1
  | .slice elems spare => uptoBulkAll elems + uptoBulkAll spare + 1
  | .agg parts => uptoBulkAll parts + 1
  | .iface _ d => uptoBulk d + 1
  | .map entries => uptoBulkEntries entries + 1
  | .held _ => 1
def uptoBulkAll {H : Type} : List (DataW H) → Nat
  | [] => 0
  | d :: r => uptoBulk d + uptoBulkAll r
def uptoBulkEntries {H : Type} : List (Lit × DataW H) → Nat
  | [] => 0
  | x :: r => uptoBulkEntry x + uptoBulkEntries r
def uptoBulkEntry {H : Type} : Lit × DataW H → Nat
  | (.string bytes, d) => bytes.length + uptoBulk d + 1
  | (_, d) => uptoBulk d + 1
 end
def uptoSmall : (H : Type) → List (DataW H) → Bool := fun _ ds => decide (uptoBulkAll ds ≤ 1048576)
def OpenSpec.upto (s : _root_.Go.ChangeSpec) : _root_.Go.OpenSpec := { _root_.Go.OpenSpec.ofChange s with cond := some uptoSmall }

/-- 'truchmanlaw5.EscapeTells', WHERE WHAT IT READS IS OF BULK AT MOST 1048576: true; the input reads as it did. -/
def escapeTellsUptoRow : OpenClaim := { program := "ytpcdajhcimcedaa", sum := "9d8d9ebce284cdead3c0a6e1eedc79afc5e6a6196b876a78db40db3dc63f30ec", func := "truchman/truchmanlaw5.EscapeTells", spec := "escapeTells", inPlace := ["internal/abi.NoEscape"], apart := false, narrowed := true }
def EscapeTellsUptoSaid : Prop := escapeTellsUptoRow.holds Try.pinned (OpenSpec.upto escapeTellsSpec)

/-- 'truchmanlaw5.EscapeBack', WHERE WHAT IT READS IS OF BULK AT MOST 1048576: true; the input reads as it did. -/
def escapeBackUptoRow : OpenClaim := { program := "ytpcdajhcimcedaa", sum := "9d8d9ebce284cdead3c0a6e1eedc79afc5e6a6196b876a78db40db3dc63f30ec", func := "truchman/truchmanlaw5.EscapeBack", spec := "escapeBack", inPlace := ["internal/abi.NoEscape"], apart := false, narrowed := true }
def EscapeBackUptoSaid : Prop := escapeBackUptoRow.holds Try.pinned (OpenSpec.upto escapeBackSpec)

/-- 'truchmanlaw5.EscapePairs', WHERE WHAT IT READS IS OF BULK AT MOST 1048576: true; the input reads as it did. -/
def escapePairsUptoRow : OpenClaim := { program := "ytpcdajhcimcedaa", sum := "9d8d9ebce284cdead3c0a6e1eedc79afc5e6a6196b876a78db40db3dc63f30ec", func := "truchman/truchmanlaw5.EscapePairs", spec := "escapePairs", inPlace := ["internal/abi.NoEscape"], unfollowed := true, recurses := true, apart := false, narrowed := true }
def EscapePairsUptoSaid : Prop := escapePairsUptoRow.holds Try.pinned (OpenSpec.upto escapePairsSpec)

/-- 'truchmanlaw5.EscapeSigns', WHERE WHAT IT READS IS OF BULK AT MOST 1048576: true; the input reads as it did. -/
def escapeSignsUptoRow : OpenClaim := { program := "ytpcdajhcimcedaa", sum := "9d8d9ebce284cdead3c0a6e1eedc79afc5e6a6196b876a78db40db3dc63f30ec", func := "truchman/truchmanlaw5.EscapeSigns", spec := "escapeSigns", inPlace := ["internal/abi.NoEscape"], apart := false, narrowed := true }
def EscapeSignsUptoSaid : Prop := escapeSignsUptoRow.holds Try.pinned (OpenSpec.upto escapeSignsSpec)

/-- 'truchmanlaw5.EscapeJoins', WHERE WHAT IT READS IS OF BULK AT MOST 1048576: true; the input reads as it did. -/
def escapeJoinsUptoRow : OpenClaim := { program := "ytpcdajhcimcedaa", sum := "9d8d9ebce284cdead3c0a6e1eedc79afc5e6a6196b876a78db40db3dc63f30ec", func := "truchman/truchmanlaw5.EscapeJoins", spec := "escapeJoins", inPlace := ["internal/abi.NoEscape"], apart := false, narrowed := true }
def EscapeJoinsUptoSaid : Prop := escapeJoinsUptoRow.holds Try.pinned (OpenSpec.upto escapeJoinsSpec)

/-- 'truchmanlaw5.EscapeOpens', WHERE WHAT IT READS IS OF BULK AT MOST 1048576: true; the input reads as it did. -/
def escapeOpensUptoRow : OpenClaim := { program := "ytpcdajhcimcedaa", sum := "9d8d9ebce284cdead3c0a6e1eedc79afc5e6a6196b876a78db40db3dc63f30ec", func := "truchman/truchmanlaw5.EscapeOpens", spec := "escapeOpens", inPlace := ["internal/abi.NoEscape"], apart := false, narrowed := true }
def EscapeOpensUptoSaid : Prop := escapeOpensUptoRow.holds Try.pinned (OpenSpec.upto escapeOpensSpec)

end Rows
end Go.Proofs.Ytpcdajhcimcedaa
