/-
  NARROWER THAN 'FOR EVERY INPUT', by the rows' own cells (each row's printed sentence says how): FailTells: laid · FailSums: laid · FailNames: laid · FailApart: laid · FailWords: laid.
  DERIVED. THE GIVEN ROWS OF THIS SEAT. 5 by the template 'for every input the law returns true; each argument reads behind the call as it read before'; 0 by the template 'total and deterministic' (their statements: YthlcemaiefldfaaDoorTotals.lean).
  GIVEN WITH THE SEED: the statements are not yours to turn. If you find one false, say at which input.
  Laid BY PROGRAM, IN A SANDBOX (cutbox-rows.mjs): the forced cells as the released guide's own fill.sh prints them over the translation 7970d065d285e28d… (all of the seat's roots in one cut). By AI agents, Wed Nov 11 2026. No macro, syntax, notation, axiom, sorry.
-/
import Derived.Test.YthlcemaiefldfaaDoorChecked
import GoSem.Claim
import GoSem.ClaimJoined
import GoSem.ClaimMapViews
import Derived.JoinedTies
import Derived.KernelRfl
namespace Go.Proofs.YthlcemaiefldfaaDoor
/- THE CELL 'sum', in the pinned program and in every row, IS THE sha256 OF THE DUMP (.gsa) THAT YthlcemaiefldfaaDoorProg.lean LOADS. Nothing in Lean hashes anything: it is a label: what it is worth is what the hold of that sum in a sandbox is worth. -/
noncomputable def Tryd.pinned : Pinned := { name := "ythlcemaiefldfaadoor", sum := "7970d065d285e28d7b3c7df199457f98e9fdf9d54f7c9c79aa524bcd891284d5", checked := Tryd.checked }
namespace Rows
def none {H : Type} : Left H := { results := [], args := [] }

/- WHAT THE LISTED PACKAGE-LEVEL VARIABLES READ AS WHEN THE CALL BEGINS. Each datum BY PROGRAM (the guide's laid-datum.mjs) off the statement by which the dump's own 'gosem.cut.vars' lays the variable. In a bare row this is a premise. The card (YthlcemaiefldfaaDoorCards.lean) ties it to the program's text. -/
def laid_truchman_fail_names {H : Type} : DataW H := .agg [.lit (.string [111, 107]), .lit (.string [97, 114, 103]), .lit (.string [102, 111, 114, 109]), .lit (.string [109, 111, 114, 101]), .lit (.string [100, 101, 101, 112]), .lit (.string [108, 97, 114, 103, 101]), .lit (.string [102, 108, 111, 97, 116]), .lit (.string [114, 97, 110, 103, 101]), .lit (.string [107, 105, 110, 100]), .lit (.string [117, 116, 102]), .lit (.string [115, 116, 97, 103, 101]), .lit (.string [98, 117, 100, 103, 101, 116]), .lit (.string [116, 105, 109, 101]), .lit (.string [99, 97, 110, 99, 101, 108]), .lit (.string [115, 116, 97, 116, 101]), .lit (.string [102, 117, 108, 108])]

/-- 'truchmanlaw1.FailTells': WHATEVER THE INPUT: true; the input reads as it did. -/
def failTellsSpec : ChangeSpec := { name := "failTells", fn := fun _ => fun
  | [d1, d2, d3, d4, d5] => { results := [.lit (.bool true)], args := [d1, d2, d3, d4, d5] }
  | _ => none }
def failTellsRow : OpenClaim := { program := "ythlcemaiefldfaadoor", sum := "7970d065d285e28d7b3c7df199457f98e9fdf9d54f7c9c79aa524bcd891284d5", func := "truchman/truchmanlaw1.FailTells", spec := "failTells", unfollowed := true, recurses := true, named := ["truchman/fail.names"], apart := false, laid := [("truchman/fail.names", laid_truchman_fail_names)] }
def FailTellsSaid : Prop := failTellsRow.holds Tryd.pinned (OpenSpec.ofChange failTellsSpec)

/-- ITS FALSE NEIGHBOUR: 'it returns false'. Refute it at one input. -/
def failTellsWrong : ChangeSpec := { name := "failTells", fn := fun _ => fun
  | [d1, d2, d3, d4, d5] => { results := [.lit (.bool false)], args := [d1, d2, d3, d4, d5] }
  | _ => none }
def FailTellsWrongFalsely : Prop := failTellsRow.holds Tryd.pinned (OpenSpec.ofChange failTellsWrong)

/-- 'truchmanlaw1.FailSums': WHATEVER THE INPUT: true; the input reads as it did. -/
def failSumsSpec : ChangeSpec := { name := "failSums", fn := fun _ => fun
  | [d1, d2] => { results := [.lit (.bool true)], args := [d1, d2] }
  | _ => none }
def failSumsRow : OpenClaim := { program := "ythlcemaiefldfaadoor", sum := "7970d065d285e28d7b3c7df199457f98e9fdf9d54f7c9c79aa524bcd891284d5", func := "truchman/truchmanlaw1.FailSums", spec := "failSums", unfollowed := true, recurses := true, named := ["truchman/fail.names"], apart := false, laid := [("truchman/fail.names", laid_truchman_fail_names)] }
def FailSumsSaid : Prop := failSumsRow.holds Tryd.pinned (OpenSpec.ofChange failSumsSpec)

/-- ITS FALSE NEIGHBOUR: 'it returns false'. Refute it at one input. -/
def failSumsWrong : ChangeSpec := { name := "failSums", fn := fun _ => fun
  | [d1, d2] => { results := [.lit (.bool false)], args := [d1, d2] }
  | _ => none }
def FailSumsWrongFalsely : Prop := failSumsRow.holds Tryd.pinned (OpenSpec.ofChange failSumsWrong)

/-- 'truchmanlaw1.FailNames': WHATEVER THE INPUT: true; the input reads as it did. -/
def failNamesSpec : ChangeSpec := { name := "failNames", fn := fun _ => fun
  | [d1, d2] => { results := [.lit (.bool true)], args := [d1, d2] }
  | _ => none }
def failNamesRow : OpenClaim := { program := "ythlcemaiefldfaadoor", sum := "7970d065d285e28d7b3c7df199457f98e9fdf9d54f7c9c79aa524bcd891284d5", func := "truchman/truchmanlaw1.FailNames", spec := "failNames", unfollowed := true, recurses := true, named := ["truchman/fail.names"], apart := false, laid := [("truchman/fail.names", laid_truchman_fail_names)] }
def FailNamesSaid : Prop := failNamesRow.holds Tryd.pinned (OpenSpec.ofChange failNamesSpec)

/-- ITS FALSE NEIGHBOUR: 'it returns false'. Refute it at one input. -/
def failNamesWrong : ChangeSpec := { name := "failNames", fn := fun _ => fun
  | [d1, d2] => { results := [.lit (.bool false)], args := [d1, d2] }
  | _ => none }
def FailNamesWrongFalsely : Prop := failNamesRow.holds Tryd.pinned (OpenSpec.ofChange failNamesWrong)

/-- 'truchmanlaw1.FailApart': WHATEVER THE INPUT: true; the input reads as it did. -/
def failApartSpec : ChangeSpec := { name := "failApart", fn := fun _ => fun
  | [d1, d2, d3, d4] => { results := [.lit (.bool true)], args := [d1, d2, d3, d4] }
  | _ => none }
def failApartRow : OpenClaim := { program := "ythlcemaiefldfaadoor", sum := "7970d065d285e28d7b3c7df199457f98e9fdf9d54f7c9c79aa524bcd891284d5", func := "truchman/truchmanlaw1.FailApart", spec := "failApart", unfollowed := true, recurses := true, named := ["truchman/fail.names"], apart := false, laid := [("truchman/fail.names", laid_truchman_fail_names)] }
def FailApartSaid : Prop := failApartRow.holds Tryd.pinned (OpenSpec.ofChange failApartSpec)

/-- ITS FALSE NEIGHBOUR: 'it returns false'. Refute it at one input. -/
def failApartWrong : ChangeSpec := { name := "failApart", fn := fun _ => fun
  | [d1, d2, d3, d4] => { results := [.lit (.bool false)], args := [d1, d2, d3, d4] }
  | _ => none }
def FailApartWrongFalsely : Prop := failApartRow.holds Tryd.pinned (OpenSpec.ofChange failApartWrong)

/-- 'truchmanlaw1.FailWords': WHATEVER THE INPUT: true; the input reads as it did. -/
def failWordsSpec : ChangeSpec := { name := "failWords", fn := fun _ => fun
  | [d1, d2, d3, d4] => { results := [.lit (.bool true)], args := [d1, d2, d3, d4] }
  | _ => none }
def failWordsRow : OpenClaim := { program := "ythlcemaiefldfaadoor", sum := "7970d065d285e28d7b3c7df199457f98e9fdf9d54f7c9c79aa524bcd891284d5", func := "truchman/truchmanlaw1.FailWords", spec := "failWords", unfollowed := true, recurses := true, named := ["truchman/fail.names"], apart := false, laid := [("truchman/fail.names", laid_truchman_fail_names)] }
def FailWordsSaid : Prop := failWordsRow.holds Tryd.pinned (OpenSpec.ofChange failWordsSpec)

/-- ITS FALSE NEIGHBOUR: 'it returns false'. Refute it at one input. -/
def failWordsWrong : ChangeSpec := { name := "failWords", fn := fun _ => fun
  | [d1, d2, d3, d4] => { results := [.lit (.bool false)], args := [d1, d2, d3, d4] }
  | _ => none }
def FailWordsWrongFalsely : Prop := failWordsRow.holds Tryd.pinned (OpenSpec.ofChange failWordsWrong)

/- THE SECOND FORM. 'bulk': how many values and letters a reading holds, each counted each time it is reached (what is shared counts as often as it is met; a slice's spare places count too). A statement '..UptoSaid' is the law's where the arguments, and the package variables that the reading takes, are together of bulk at most 1048576: NARROWER than '..Said'. Prove '..Said' where nothing that the law and all that it calls make is longer than what came in: it says more and counts as full. Else prove '..UptoSaid'. A law counts once. -/
mutual
def uptoBulk {H : Type} : DataW H → Nat
  | .lit (.string bytes) => bytes.length + 1
  | .lit _ => 1
  | .nil => 1
  | .ptr d => uptoBulk d + 1
  | .slice elems spare => uptoBulkAll elems + uptoBulkAll spare + 1
  | .agg parts => uptoBulkAll parts + 1
  | .iface _ d => uptoBulk d + 1
  | .map entries => uptoBulkEntries entries + 1
  | .held _ => 1
def uptoBulkAll {H : Type} : List (DataW H) → Nat
  | [] => 0
  | d :: r => uptoBulk d + uptoBulkAll r
def uptoBulkEntries {H : Type} : List (Lit × DataW H) → Nat
  | [] => 0
  | x :: r => uptoBulkEntry x + uptoBulkEntries r
def uptoBulkEntry {H : Type} : Lit × DataW H → Nat
  | (.string bytes, d) => bytes.length + uptoBulk d + 1
  | (_, d) => uptoBulk d + 1
 end
def uptoSmall : (H : Type) → List (DataW H) → Bool := fun _ ds => decide (uptoBulkAll ds ≤ 1048576)
def OpenSpec.upto (s : _root_.Go.ChangeSpec) : _root_.Go.OpenSpec := { _root_.Go.OpenSpec.ofChange s with cond := some uptoSmall }

/-- 'truchmanlaw1.FailTells', WHERE WHAT IT READS IS OF BULK AT MOST 1048576: true; the input reads as it did. -/
def failTellsUptoRow : OpenClaim := { program := "ythlcemaiefldfaadoor", sum := "7970d065d285e28d7b3c7df199457f98e9fdf9d54f7c9c79aa524bcd891284d5", func := "truchman/truchmanlaw1.FailTells", spec := "failTells", unfollowed := true, recurses := true, named := ["truchman/fail.names"], apart := false, laid := [("truchman/fail.names", laid_truchman_fail_names)], narrowed := true }
def FailTellsUptoSaid : Prop := failTellsUptoRow.holds Tryd.pinned (OpenSpec.upto failTellsSpec)

/-- 'truchmanlaw1.FailSums', WHERE WHAT IT READS IS OF BULK AT MOST 1048576: true; the input reads as it did. -/
def failSumsUptoRow : OpenClaim := { program := "ythlcemaiefldfaadoor", sum := "7970d065d285e28d7b3c7df199457f98e9fdf9d54f7c9c79aa524bcd891284d5", func := "truchman/truchmanlaw1.FailSums", spec := "failSums", unfollowed := true, recurses := true, named := ["truchman/fail.names"], apart := false, laid := [("truchman/fail.names", laid_truchman_fail_names)], narrowed := true }
def FailSumsUptoSaid : Prop := failSumsUptoRow.holds Tryd.pinned (OpenSpec.upto failSumsSpec)

/-- 'truchmanlaw1.FailNames', WHERE WHAT IT READS IS OF BULK AT MOST 1048576: true; the input reads as it did. -/
def failNamesUptoRow : OpenClaim := { program := "ythlcemaiefldfaadoor", sum := "7970d065d285e28d7b3c7df199457f98e9fdf9d54f7c9c79aa524bcd891284d5", func := "truchman/truchmanlaw1.FailNames", spec := "failNames", unfollowed := true, recurses := true, named := ["truchman/fail.names"], apart := false, laid := [("truchman/fail.names", laid_truchman_fail_names)], narrowed := true }
def FailNamesUptoSaid : Prop := failNamesUptoRow.holds Tryd.pinned (OpenSpec.upto failNamesSpec)

/-- 'truchmanlaw1.FailApart', WHERE WHAT IT READS IS OF BULK AT MOST 1048576: true; the input reads as it did. -/
def failApartUptoRow : OpenClaim := { program := "ythlcemaiefldfaadoor", sum := "7970d065d285e28d7b3c7df199457f98e9fdf9d54f7c9c79aa524bcd891284d5", func := "truchman/truchmanlaw1.FailApart", spec := "failApart", unfollowed := true, recurses := true, named := ["truchman/fail.names"], apart := false, laid := [("truchman/fail.names", laid_truchman_fail_names)], narrowed := true }
def FailApartUptoSaid : Prop := failApartUptoRow.holds Tryd.pinned (OpenSpec.upto failApartSpec)

/-- 'truchmanlaw1.FailWords', WHERE WHAT IT READS IS OF BULK AT MOST 1048576: true; the input reads as it did. -/
def failWordsUptoRow : OpenClaim := { program := "ythlcemaiefldfaadoor", sum := "7970d065d285e28d7b3c7df199457f98e9fdf9d54f7c9c79aa524bcd891284d5", func := "truchman/truchmanlaw1.FailWords", spec := "failWords", unfollowed := true, recurses := true, named := ["truchman/fail.names"], apart := false, laid := [("truchman/fail.names", laid_truchman_fail_names)], narrowed := true }
def FailWordsUptoSaid : Prop := failWordsUptoRow.holds Tryd.pinned (OpenSpec.upto failWordsSpec)

end Rows
end Go.Proofs.YthlcemaiefldfaaDoor
