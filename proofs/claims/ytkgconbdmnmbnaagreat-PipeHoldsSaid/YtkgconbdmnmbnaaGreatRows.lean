/-
  No cell of these rows narrows 'for every input' (looked for: loops, veiled, ifaces, maps, wideKeys, modest, calm, conditions, laid).
  DERIVED. THE GIVEN ROWS OF THIS SEAT. 8 by the template 'for every input the law returns true; each argument reads behind the call as it read before'; 0 by the template 'total and deterministic' (their statements: YtkgconbdmnmbnaaGreatTotals.lean).
  GIVEN WITH THE SEED: the statements are not yours to turn. If you find one false, say at which input.
  Laid BY PROGRAM, IN A SANDBOX (cutbox-rows.mjs): the forced cells as the released guide's own fill.sh prints them over the translation 2a7b2d756da1bf38… (all of the seat's roots in one cut). By AI agents, Wed Nov 11 2026. No macro, syntax, notation, axiom, sorry.
-/
import Derived.Test.YtkgconbdmnmbnaaGreatChecked
import GoSem.Claim
import GoSem.ClaimJoined
import GoSem.ClaimMapViews
import Derived.JoinedTies
import Derived.KernelRfl
namespace Go.Proofs.YtkgconbdmnmbnaaGreat
/- THE CELL 'sum', in the pinned program and in every row, IS THE sha256 OF THE DUMP (.gsa) THAT YtkgconbdmnmbnaaGreatProg.lean LOADS. Nothing in Lean hashes anything: it is a label: what it is worth is what the hold of that sum in a sandbox is worth. -/
noncomputable def Tryz.pinned : Pinned := { name := "ytkgconbdmnmbnaagreat", sum := "2a7b2d756da1bf38463afbb383ea05a1a2e811f85564cc7eef37d6cd1abbda06", checked := Tryz.checked }
namespace Rows
def none {H : Type} : Left H := { results := [], args := [] }

/-- 'truchmanlaw18.PipePrefix': WHATEVER THE INPUT: true; the input reads as it did. -/
def pipePrefixSpec : ChangeSpec := { name := "pipePrefix", fn := fun _ => fun
  | [d1, d2, d3, d4] => { results := [.lit (.bool true)], args := [d1, d2, d3, d4] }
  | _ => none }
def pipePrefixRow : OpenClaim := { program := "ytkgconbdmnmbnaagreat", sum := "2a7b2d756da1bf38463afbb383ea05a1a2e811f85564cc7eef37d6cd1abbda06", func := "truchman/truchmanlaw18.PipePrefix", spec := "pipePrefix", inPlace := ["internal/abi.NoEscape"], unfollowed := true, recurses := true, apart := false }
def PipePrefixSaid : Prop := pipePrefixRow.holds Tryz.pinned (OpenSpec.ofChange pipePrefixSpec)

/-- ITS FALSE NEIGHBOUR: 'it returns false'. Refute it at one input. -/
def pipePrefixWrong : ChangeSpec := { name := "pipePrefix", fn := fun _ => fun
  | [d1, d2, d3, d4] => { results := [.lit (.bool false)], args := [d1, d2, d3, d4] }
  | _ => none }
def PipePrefixWrongFalsely : Prop := pipePrefixRow.holds Tryz.pinned (OpenSpec.ofChange pipePrefixWrong)

/-- 'truchmanlaw18.PipeHolds': WHATEVER THE INPUT: true; the input reads as it did. -/
def pipeHoldsSpec : ChangeSpec := { name := "pipeHolds", fn := fun _ => fun
  | [d1, d2] => { results := [.lit (.bool true)], args := [d1, d2] }
  | _ => none }
def pipeHoldsRow : OpenClaim := { program := "ytkgconbdmnmbnaagreat", sum := "2a7b2d756da1bf38463afbb383ea05a1a2e811f85564cc7eef37d6cd1abbda06", func := "truchman/truchmanlaw18.PipeHolds", spec := "pipeHolds", inPlace := ["internal/abi.NoEscape"], unfollowed := true, recurses := true, apart := false }
def PipeHoldsSaid : Prop := pipeHoldsRow.holds Tryz.pinned (OpenSpec.ofChange pipeHoldsSpec)

/-- ITS FALSE NEIGHBOUR: 'it returns false'. Refute it at one input. -/
def pipeHoldsWrong : ChangeSpec := { name := "pipeHolds", fn := fun _ => fun
  | [d1, d2] => { results := [.lit (.bool false)], args := [d1, d2] }
  | _ => none }
def PipeHoldsWrongFalsely : Prop := pipeHoldsRow.holds Tryz.pinned (OpenSpec.ofChange pipeHoldsWrong)

/-- 'truchmanlaw18.PipeOver': WHATEVER THE INPUT: true; the input reads as it did. -/
def pipeOverSpec : ChangeSpec := { name := "pipeOver", fn := fun _ => fun
  | [d1, d2, d3] => { results := [.lit (.bool true)], args := [d1, d2, d3] }
  | _ => none }
def pipeOverRow : OpenClaim := { program := "ytkgconbdmnmbnaagreat", sum := "2a7b2d756da1bf38463afbb383ea05a1a2e811f85564cc7eef37d6cd1abbda06", func := "truchman/truchmanlaw18.PipeOver", spec := "pipeOver", inPlace := ["internal/abi.NoEscape"], unfollowed := true, recurses := true, apart := false }
def PipeOverSaid : Prop := pipeOverRow.holds Tryz.pinned (OpenSpec.ofChange pipeOverSpec)

/-- ITS FALSE NEIGHBOUR: 'it returns false'. Refute it at one input. -/
def pipeOverWrong : ChangeSpec := { name := "pipeOver", fn := fun _ => fun
  | [d1, d2, d3] => { results := [.lit (.bool false)], args := [d1, d2, d3] }
  | _ => none }
def PipeOverWrongFalsely : Prop := pipeOverRow.holds Tryz.pinned (OpenSpec.ofChange pipeOverWrong)

/-- 'truchmanlaw18.PipeKinds': WHATEVER THE INPUT: true; the input reads as it did. -/
def pipeKindsSpec : ChangeSpec := { name := "pipeKinds", fn := fun _ => fun
  | [d1, d2] => { results := [.lit (.bool true)], args := [d1, d2] }
  | _ => none }
def pipeKindsRow : OpenClaim := { program := "ytkgconbdmnmbnaagreat", sum := "2a7b2d756da1bf38463afbb383ea05a1a2e811f85564cc7eef37d6cd1abbda06", func := "truchman/truchmanlaw18.PipeKinds", spec := "pipeKinds", inPlace := ["internal/abi.NoEscape"], unfollowed := true, recurses := true, apart := false }
def PipeKindsSaid : Prop := pipeKindsRow.holds Tryz.pinned (OpenSpec.ofChange pipeKindsSpec)

/-- ITS FALSE NEIGHBOUR: 'it returns false'. Refute it at one input. -/
def pipeKindsWrong : ChangeSpec := { name := "pipeKinds", fn := fun _ => fun
  | [d1, d2] => { results := [.lit (.bool false)], args := [d1, d2] }
  | _ => none }
def PipeKindsWrongFalsely : Prop := pipeKindsRow.holds Tryz.pinned (OpenSpec.ofChange pipeKindsWrong)

/-- 'truchmanlaw18.PipeDeep': WHATEVER THE INPUT: true; the input reads as it did. -/
def pipeDeepSpec : ChangeSpec := { name := "pipeDeep", fn := fun _ => fun
  | [d1, d2, d3, d4] => { results := [.lit (.bool true)], args := [d1, d2, d3, d4] }
  | _ => none }
def pipeDeepRow : OpenClaim := { program := "ytkgconbdmnmbnaagreat", sum := "2a7b2d756da1bf38463afbb383ea05a1a2e811f85564cc7eef37d6cd1abbda06", func := "truchman/truchmanlaw18.PipeDeep", spec := "pipeDeep", inPlace := ["internal/abi.NoEscape"], unfollowed := true, recurses := true, apart := false }
def PipeDeepSaid : Prop := pipeDeepRow.holds Tryz.pinned (OpenSpec.ofChange pipeDeepSpec)

/-- ITS FALSE NEIGHBOUR: 'it returns false'. Refute it at one input. -/
def pipeDeepWrong : ChangeSpec := { name := "pipeDeep", fn := fun _ => fun
  | [d1, d2, d3, d4] => { results := [.lit (.bool false)], args := [d1, d2, d3, d4] }
  | _ => none }
def PipeDeepWrongFalsely : Prop := pipeDeepRow.holds Tryz.pinned (OpenSpec.ofChange pipeDeepWrong)

/-- 'truchmanlaw18.PipeBlobs': WHATEVER THE INPUT: true; the input reads as it did. -/
def pipeBlobsSpec : ChangeSpec := { name := "pipeBlobs", fn := fun _ => fun
  | [d1, d2, d3] => { results := [.lit (.bool true)], args := [d1, d2, d3] }
  | _ => none }
def pipeBlobsRow : OpenClaim := { program := "ytkgconbdmnmbnaagreat", sum := "2a7b2d756da1bf38463afbb383ea05a1a2e811f85564cc7eef37d6cd1abbda06", func := "truchman/truchmanlaw18.PipeBlobs", spec := "pipeBlobs", inPlace := ["internal/abi.NoEscape"], unfollowed := true, recurses := true, apart := false }
def PipeBlobsSaid : Prop := pipeBlobsRow.holds Tryz.pinned (OpenSpec.ofChange pipeBlobsSpec)

/-- ITS FALSE NEIGHBOUR: 'it returns false'. Refute it at one input. -/
def pipeBlobsWrong : ChangeSpec := { name := "pipeBlobs", fn := fun _ => fun
  | [d1, d2, d3] => { results := [.lit (.bool false)], args := [d1, d2, d3] }
  | _ => none }
def PipeBlobsWrongFalsely : Prop := pipeBlobsRow.holds Tryz.pinned (OpenSpec.ofChange pipeBlobsWrong)

/-- 'truchmanlaw18.PipeLong': WHATEVER THE INPUT: true; the input reads as it did. -/
def pipeLongSpec : ChangeSpec := { name := "pipeLong", fn := fun _ => fun
  | [d1, d2, d3] => { results := [.lit (.bool true)], args := [d1, d2, d3] }
  | _ => none }
def pipeLongRow : OpenClaim := { program := "ytkgconbdmnmbnaagreat", sum := "2a7b2d756da1bf38463afbb383ea05a1a2e811f85564cc7eef37d6cd1abbda06", func := "truchman/truchmanlaw18.PipeLong", spec := "pipeLong", inPlace := ["internal/abi.NoEscape"], unfollowed := true, recurses := true, apart := false }
def PipeLongSaid : Prop := pipeLongRow.holds Tryz.pinned (OpenSpec.ofChange pipeLongSpec)

/-- ITS FALSE NEIGHBOUR: 'it returns false'. Refute it at one input. -/
def pipeLongWrong : ChangeSpec := { name := "pipeLong", fn := fun _ => fun
  | [d1, d2, d3] => { results := [.lit (.bool false)], args := [d1, d2, d3] }
  | _ => none }
def PipeLongWrongFalsely : Prop := pipeLongRow.holds Tryz.pinned (OpenSpec.ofChange pipeLongWrong)

/-- 'truchmanlaw18.PipeStages': WHATEVER THE INPUT: true; the input reads as it did. -/
def pipeStagesSpec : ChangeSpec := { name := "pipeStages", fn := fun _ => fun
  | [d1, d2] => { results := [.lit (.bool true)], args := [d1, d2] }
  | _ => none }
def pipeStagesRow : OpenClaim := { program := "ytkgconbdmnmbnaagreat", sum := "2a7b2d756da1bf38463afbb383ea05a1a2e811f85564cc7eef37d6cd1abbda06", func := "truchman/truchmanlaw18.PipeStages", spec := "pipeStages", inPlace := ["internal/abi.NoEscape"], unfollowed := true, recurses := true, apart := false }
def PipeStagesSaid : Prop := pipeStagesRow.holds Tryz.pinned (OpenSpec.ofChange pipeStagesSpec)

/-- ITS FALSE NEIGHBOUR: 'it returns false'. Refute it at one input. -/
def pipeStagesWrong : ChangeSpec := { name := "pipeStages", fn := fun _ => fun
  | [d1, d2] => { results := [.lit (.bool false)], args := [d1, d2] }
  | _ => none }
def PipeStagesWrongFalsely : Prop := pipeStagesRow.holds Tryz.pinned (OpenSpec.ofChange pipeStagesWrong)

/- THE SECOND FORM. 'bulk': how many values and letters a reading holds, each counted each time it is reached (what is shared counts as often as it is met; a slice's spare places count too). A statement '..UptoSaid' is the law's where the arguments, and the package variables that the reading takes, are together of bulk at most 1048576: NARROWER than '..Said'. Prove '..Said' where nothing that the law and all that it calls make is longer than what came in: it says more and counts as full. Else prove '..UptoSaid'. A law counts once. -/
mutual
def uptoBulk {H : Type} : DataW H → Nat
  | .lit (.string bytes) => bytes.length + 1
  | .lit _ => 1
  | .nil => 1
  | .ptr d => uptoBulk d + 1
  | .slice elems spare => uptoBulkAll elems + uptoBulkAll spare + 1
  | .agg parts => uptoBulkAll parts + 1
  | .iface _ d => uptoBulk d + 1
  | .map entries => uptoBulkEntries entries + 1
  | .held _ => 1
def uptoBulkAll {H : Type} : List (DataW H) → Nat
  | [] => 0
  | d :: r => uptoBulk d + uptoBulkAll r
def uptoBulkEntries {H : Type} : List (Lit × DataW H) → Nat
  | [] => 0
  | x :: r => uptoBulkEntry x + uptoBulkEntries r
def uptoBulkEntry {H : Type} : Lit × DataW H → Nat
  | (.string bytes, d) => bytes.length + uptoBulk d + 1
  | (_, d) => uptoBulk d + 1
 end
def uptoSmall : (H : Type) → List (DataW H) → Bool := fun _ ds => decide (uptoBulkAll ds ≤ 1048576)
def OpenSpec.upto (s : _root_.Go.ChangeSpec) : _root_.Go.OpenSpec := { _root_.Go.OpenSpec.ofChange s with cond := some uptoSmall }

/-- 'truchmanlaw18.PipePrefix', WHERE WHAT IT READS IS OF BULK AT MOST 1048576: true; the input reads as it did. -/
def pipePrefixUptoRow : OpenClaim := { program := "ytkgconbdmnmbnaagreat", sum := "2a7b2d756da1bf38463afbb383ea05a1a2e811f85564cc7eef37d6cd1abbda06", func := "truchman/truchmanlaw18.PipePrefix", spec := "pipePrefix", inPlace := ["internal/abi.NoEscape"], unfollowed := true, recurses := true, apart := false, narrowed := true }
def PipePrefixUptoSaid : Prop := pipePrefixUptoRow.holds Tryz.pinned (OpenSpec.upto pipePrefixSpec)

/-- 'truchmanlaw18.PipeHolds', WHERE WHAT IT READS IS OF BULK AT MOST 1048576: true; the input reads as it did. -/
def pipeHoldsUptoRow : OpenClaim := { program := "ytkgconbdmnmbnaagreat", sum := "2a7b2d756da1bf38463afbb383ea05a1a2e811f85564cc7eef37d6cd1abbda06", func := "truchman/truchmanlaw18.PipeHolds", spec := "pipeHolds", inPlace := ["internal/abi.NoEscape"], unfollowed := true, recurses := true, apart := false, narrowed := true }
def PipeHoldsUptoSaid : Prop := pipeHoldsUptoRow.holds Tryz.pinned (OpenSpec.upto pipeHoldsSpec)

/-- 'truchmanlaw18.PipeOver', WHERE WHAT IT READS IS OF BULK AT MOST 1048576: true; the input reads as it did. -/
def pipeOverUptoRow : OpenClaim := { program := "ytkgconbdmnmbnaagreat", sum := "2a7b2d756da1bf38463afbb383ea05a1a2e811f85564cc7eef37d6cd1abbda06", func := "truchman/truchmanlaw18.PipeOver", spec := "pipeOver", inPlace := ["internal/abi.NoEscape"], unfollowed := true, recurses := true, apart := false, narrowed := true }
def PipeOverUptoSaid : Prop := pipeOverUptoRow.holds Tryz.pinned (OpenSpec.upto pipeOverSpec)

/-- 'truchmanlaw18.PipeKinds', WHERE WHAT IT READS IS OF BULK AT MOST 1048576: true; the input reads as it did. -/
def pipeKindsUptoRow : OpenClaim := { program := "ytkgconbdmnmbnaagreat", sum := "2a7b2d756da1bf38463afbb383ea05a1a2e811f85564cc7eef37d6cd1abbda06", func := "truchman/truchmanlaw18.PipeKinds", spec := "pipeKinds", inPlace := ["internal/abi.NoEscape"], unfollowed := true, recurses := true, apart := false, narrowed := true }
def PipeKindsUptoSaid : Prop := pipeKindsUptoRow.holds Tryz.pinned (OpenSpec.upto pipeKindsSpec)

/-- 'truchmanlaw18.PipeDeep', WHERE WHAT IT READS IS OF BULK AT MOST 1048576: true; the input reads as it did. -/
def pipeDeepUptoRow : OpenClaim := { program := "ytkgconbdmnmbnaagreat", sum := "2a7b2d756da1bf38463afbb383ea05a1a2e811f85564cc7eef37d6cd1abbda06", func := "truchman/truchmanlaw18.PipeDeep", spec := "pipeDeep", inPlace := ["internal/abi.NoEscape"], unfollowed := true, recurses := true, apart := false, narrowed := true }
def PipeDeepUptoSaid : Prop := pipeDeepUptoRow.holds Tryz.pinned (OpenSpec.upto pipeDeepSpec)

/-- 'truchmanlaw18.PipeBlobs', WHERE WHAT IT READS IS OF BULK AT MOST 1048576: true; the input reads as it did. -/
def pipeBlobsUptoRow : OpenClaim := { program := "ytkgconbdmnmbnaagreat", sum := "2a7b2d756da1bf38463afbb383ea05a1a2e811f85564cc7eef37d6cd1abbda06", func := "truchman/truchmanlaw18.PipeBlobs", spec := "pipeBlobs", inPlace := ["internal/abi.NoEscape"], unfollowed := true, recurses := true, apart := false, narrowed := true }
def PipeBlobsUptoSaid : Prop := pipeBlobsUptoRow.holds Tryz.pinned (OpenSpec.upto pipeBlobsSpec)

/-- 'truchmanlaw18.PipeLong', WHERE WHAT IT READS IS OF BULK AT MOST 1048576: true; the input reads as it did. -/
def pipeLongUptoRow : OpenClaim := { program := "ytkgconbdmnmbnaagreat", sum := "2a7b2d756da1bf38463afbb383ea05a1a2e811f85564cc7eef37d6cd1abbda06", func := "truchman/truchmanlaw18.PipeLong", spec := "pipeLong", inPlace := ["internal/abi.NoEscape"], unfollowed := true, recurses := true, apart := false, narrowed := true }
def PipeLongUptoSaid : Prop := pipeLongUptoRow.holds Tryz.pinned (OpenSpec.upto pipeLongSpec)

/-- 'truchmanlaw18.PipeStages', WHERE WHAT IT READS IS OF BULK AT MOST 1048576: true; the input reads as it did. -/
def pipeStagesUptoRow : OpenClaim := { program := "ytkgconbdmnmbnaagreat", sum := "2a7b2d756da1bf38463afbb383ea05a1a2e811f85564cc7eef37d6cd1abbda06", func := "truchman/truchmanlaw18.PipeStages", spec := "pipeStages", inPlace := ["internal/abi.NoEscape"], unfollowed := true, recurses := true, apart := false, narrowed := true }
def PipeStagesUptoSaid : Prop := pipeStagesUptoRow.holds Tryz.pinned (OpenSpec.upto pipeStagesSpec)

end Rows
end Go.Proofs.YtkgconbdmnmbnaaGreat
