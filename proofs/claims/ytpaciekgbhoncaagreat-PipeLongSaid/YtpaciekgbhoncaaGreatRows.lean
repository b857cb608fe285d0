/-
  No cell of these rows narrows 'for every input' (looked for: loops, veiled, ifaces, maps, wideKeys, modest, calm, conditions, laid).
  DERIVED. THE GIVEN ROWS OF THIS SEAT. 8 by the template 'for every input the law returns true; each argument reads behind the call as it read before'; 0 by the template 'total and deterministic' (their statements: YtpaciekgbhoncaaGreatTotals.lean).
  GIVEN WITH THE SEED: the statements are not yours to turn. If you find one false, say at which input.
  Laid BY PROGRAM, IN A SANDBOX (cutbox-rows.mjs): the forced cells as the released guide's own fill.sh prints them over the translation 2e67485f762ba43c… (all of the seat's roots in one cut). By AI agents, Wed Nov 11 2026. No macro, syntax, notation, axiom, sorry.
-/
import Derived.Test.YtpaciekgbhoncaaGreatChecked
import GoSem.Claim
import GoSem.ClaimJoined
import GoSem.ClaimMapViews
import Derived.JoinedTies
import Derived.KernelRfl
namespace Go.Proofs.YtpaciekgbhoncaaGreat
/- THE CELL 'sum', in the pinned program and in every row, IS THE sha256 OF THE DUMP (.gsa) THAT YtpaciekgbhoncaaGreatProg.lean LOADS. Nothing in Lean hashes anything: it is a label: what it is worth is what the hold of that sum in a sandbox is worth. -/
noncomputable def Tryz.pinned : Pinned := { name := "ytpaciekgbhoncaagreat", sum := "2e67485f762ba43c7abc9f7f6a71becfb916c0bb1879d616786d979011623b0c", checked := Tryz.checked }
namespace Rows
def none {H : Type} : Left H := { results := [], args := [] }

/-- 'truchmanlaw19.HelloBegins': WHATEVER THE INPUT: true; the input reads as it did. -/
def helloBeginsSpec : ChangeSpec := { name := "helloBegins", fn := fun _ => fun
  | [d1, d2, d3] => { results := [.lit (.bool true)], args := [d1, d2, d3] }
  | _ => none }
def helloBeginsRow : OpenClaim := { program := "ytpaciekgbhoncaagreat", sum := "2e67485f762ba43c7abc9f7f6a71becfb916c0bb1879d616786d979011623b0c", func := "truchman/truchmanlaw19.HelloBegins", spec := "helloBegins", inPlace := ["internal/abi.NoEscape"], unfollowed := true, recurses := true, apart := false }
def HelloBeginsSaid : Prop := helloBeginsRow.holds Tryz.pinned (OpenSpec.ofChange helloBeginsSpec)

/-- ITS FALSE NEIGHBOUR: 'it returns false'. Refute it at one input. -/
def helloBeginsWrong : ChangeSpec := { name := "helloBegins", fn := fun _ => fun
  | [d1, d2, d3] => { results := [.lit (.bool false)], args := [d1, d2, d3] }
  | _ => none }
def HelloBeginsWrongFalsely : Prop := helloBeginsRow.holds Tryz.pinned (OpenSpec.ofChange helloBeginsWrong)

/-- 'truchmanlaw19.HelloBatches': WHATEVER THE INPUT: true; the input reads as it did. -/
def helloBatchesSpec : ChangeSpec := { name := "helloBatches", fn := fun _ => fun
  | [d1, d2] => { results := [.lit (.bool true)], args := [d1, d2] }
  | _ => none }
def helloBatchesRow : OpenClaim := { program := "ytpaciekgbhoncaagreat", sum := "2e67485f762ba43c7abc9f7f6a71becfb916c0bb1879d616786d979011623b0c", func := "truchman/truchmanlaw19.HelloBatches", spec := "helloBatches", inPlace := ["internal/abi.NoEscape"], unfollowed := true, recurses := true, apart := false }
def HelloBatchesSaid : Prop := helloBatchesRow.holds Tryz.pinned (OpenSpec.ofChange helloBatchesSpec)

/-- ITS FALSE NEIGHBOUR: 'it returns false'. Refute it at one input. -/
def helloBatchesWrong : ChangeSpec := { name := "helloBatches", fn := fun _ => fun
  | [d1, d2] => { results := [.lit (.bool false)], args := [d1, d2] }
  | _ => none }
def HelloBatchesWrongFalsely : Prop := helloBatchesRow.holds Tryz.pinned (OpenSpec.ofChange helloBatchesWrong)

/-- 'truchmanlaw19.HelloWords': WHATEVER THE INPUT: true; the input reads as it did. -/
def helloWordsSpec : ChangeSpec := { name := "helloWords", fn := fun _ => fun
  | [d] => { results := [.lit (.bool true)], args := [d] }
  | _ => none }
def helloWordsRow : OpenClaim := { program := "ytpaciekgbhoncaagreat", sum := "2e67485f762ba43c7abc9f7f6a71becfb916c0bb1879d616786d979011623b0c", func := "truchman/truchmanlaw19.HelloWords", spec := "helloWords", inPlace := ["internal/abi.NoEscape"], unfollowed := true, recurses := true, apart := false }
def HelloWordsSaid : Prop := helloWordsRow.holds Tryz.pinned (OpenSpec.ofChange helloWordsSpec)

/-- ITS FALSE NEIGHBOUR: 'it returns false'. Refute it at one input. -/
def helloWordsWrong : ChangeSpec := { name := "helloWords", fn := fun _ => fun
  | [d] => { results := [.lit (.bool false)], args := [d] }
  | _ => none }
def HelloWordsWrongFalsely : Prop := helloWordsRow.holds Tryz.pinned (OpenSpec.ofChange helloWordsWrong)

/-- 'truchmanlaw19.HelloSetups': WHATEVER THE INPUT: true; the input reads as it did. -/
def helloSetupsSpec : ChangeSpec := { name := "helloSetups", fn := fun _ => fun
  | [d1, d2] => { results := [.lit (.bool true)], args := [d1, d2] }
  | _ => none }
def helloSetupsRow : OpenClaim := { program := "ytpaciekgbhoncaagreat", sum := "2e67485f762ba43c7abc9f7f6a71becfb916c0bb1879d616786d979011623b0c", func := "truchman/truchmanlaw19.HelloSetups", spec := "helloSetups", inPlace := ["internal/abi.NoEscape"], unfollowed := true, recurses := true, apart := false }
def HelloSetupsSaid : Prop := helloSetupsRow.holds Tryz.pinned (OpenSpec.ofChange helloSetupsSpec)

/-- ITS FALSE NEIGHBOUR: 'it returns false'. Refute it at one input. -/
def helloSetupsWrong : ChangeSpec := { name := "helloSetups", fn := fun _ => fun
  | [d1, d2] => { results := [.lit (.bool false)], args := [d1, d2] }
  | _ => none }
def HelloSetupsWrongFalsely : Prop := helloSetupsRow.holds Tryz.pinned (OpenSpec.ofChange helloSetupsWrong)

/-- 'truchmanlaw19.HelloOnly': WHATEVER THE INPUT: true; the input reads as it did. -/
def helloOnlySpec : ChangeSpec := { name := "helloOnly", fn := fun _ => fun
  | [d1, d2] => { results := [.lit (.bool true)], args := [d1, d2] }
  | _ => none }
def helloOnlyRow : OpenClaim := { program := "ytpaciekgbhoncaagreat", sum := "2e67485f762ba43c7abc9f7f6a71becfb916c0bb1879d616786d979011623b0c", func := "truchman/truchmanlaw19.HelloOnly", spec := "helloOnly", inPlace := ["internal/abi.NoEscape"], unfollowed := true, recurses := true, apart := false }
def HelloOnlySaid : Prop := helloOnlyRow.holds Tryz.pinned (OpenSpec.ofChange helloOnlySpec)

/-- ITS FALSE NEIGHBOUR: 'it returns false'. Refute it at one input. -/
def helloOnlyWrong : ChangeSpec := { name := "helloOnly", fn := fun _ => fun
  | [d1, d2] => { results := [.lit (.bool false)], args := [d1, d2] }
  | _ => none }
def HelloOnlyWrongFalsely : Prop := helloOnlyRow.holds Tryz.pinned (OpenSpec.ofChange helloOnlyWrong)

/-- 'truchmanlaw19.HelloShort': WHATEVER THE INPUT: true; the input reads as it did. -/
def helloShortSpec : ChangeSpec := { name := "helloShort", fn := fun _ => fun
  | [d1, d2, d3] => { results := [.lit (.bool true)], args := [d1, d2, d3] }
  | _ => none }
def helloShortRow : OpenClaim := { program := "ytpaciekgbhoncaagreat", sum := "2e67485f762ba43c7abc9f7f6a71becfb916c0bb1879d616786d979011623b0c", func := "truchman/truchmanlaw19.HelloShort", spec := "helloShort", inPlace := ["internal/abi.NoEscape"], unfollowed := true, recurses := true, apart := false }
def HelloShortSaid : Prop := helloShortRow.holds Tryz.pinned (OpenSpec.ofChange helloShortSpec)

/-- ITS FALSE NEIGHBOUR: 'it returns false'. Refute it at one input. -/
def helloShortWrong : ChangeSpec := { name := "helloShort", fn := fun _ => fun
  | [d1, d2, d3] => { results := [.lit (.bool false)], args := [d1, d2, d3] }
  | _ => none }
def HelloShortWrongFalsely : Prop := helloShortRow.holds Tryz.pinned (OpenSpec.ofChange helloShortWrong)

/-- 'truchmanlaw18.PipeBlobs': WHATEVER THE INPUT: true; the input reads as it did. -/
def pipeBlobsSpec : ChangeSpec := { name := "pipeBlobs", fn := fun _ => fun
  | [d1, d2, d3] => { results := [.lit (.bool true)], args := [d1, d2, d3] }
  | _ => none }
def pipeBlobsRow : OpenClaim := { program := "ytpaciekgbhoncaagreat", sum := "2e67485f762ba43c7abc9f7f6a71becfb916c0bb1879d616786d979011623b0c", func := "truchman/truchmanlaw18.PipeBlobs", spec := "pipeBlobs", inPlace := ["internal/abi.NoEscape"], unfollowed := true, recurses := true, apart := false }
def PipeBlobsSaid : Prop := pipeBlobsRow.holds Tryz.pinned (OpenSpec.ofChange pipeBlobsSpec)

/-- ITS FALSE NEIGHBOUR: 'it returns false'. Refute it at one input. -/
def pipeBlobsWrong : ChangeSpec := { name := "pipeBlobs", fn := fun _ => fun
  | [d1, d2, d3] => { results := [.lit (.bool false)], args := [d1, d2, d3] }
  | _ => none }
def PipeBlobsWrongFalsely : Prop := pipeBlobsRow.holds Tryz.pinned (OpenSpec.ofChange pipeBlobsWrong)

/-- 'truchmanlaw18.PipeLong': WHATEVER THE INPUT: true; the input reads as it did. -/
def pipeLongSpec : ChangeSpec := { name := "pipeLong", fn := fun _ => fun
  | [d1, d2, d3] => { results := [.lit (.bool true)], args := [d1, d2, d3] }
  | _ => none }
def pipeLongRow : OpenClaim := { program := "ytpaciekgbhoncaagreat", sum := "2e67485f762ba43c7abc9f7f6a71becfb916c0bb1879d616786d979011623b0c", func := "truchman/truchmanlaw18.PipeLong", spec := "pipeLong", inPlace := ["internal/abi.NoEscape"], unfollowed := true, recurses := true, apart := false }
def PipeLongSaid : Prop := pipeLongRow.holds Tryz.pinned (OpenSpec.ofChange pipeLongSpec)

/-- ITS FALSE NEIGHBOUR: 'it returns false'. Refute it at one input. -/
def pipeLongWrong : ChangeSpec := { name := "pipeLong", fn := fun _ => fun
  | [d1, d2, d3] => { results := [.lit (.bool false)], args := [d1, d2, d3] }
  | _ => none }
def PipeLongWrongFalsely : Prop := pipeLongRow.holds Tryz.pinned (OpenSpec.ofChange pipeLongWrong)

/- THE SECOND FORM. 'bulk': how many values and letters a reading holds, each counted each time it is reached (what is shared counts as often as it is met; a slice's spare places count too). A statement '..UptoSaid' is the law's where the arguments, and the package variables that the reading takes, are together of bulk at most 1048576: NARROWER than '..Said'. Prove '..Said' where nothing that the law and all that it calls make is longer than what came in: it says more and counts as full. Else prove '..UptoSaid'. A law counts once. -/
mutual
def uptoBulk {H : Type} : DataW H → Nat
  | .lit (.string bytes) => bytes.length + 1
  | .lit _ => 1
  | .nil => 1
  | .ptr d => uptoBulk d + 1
  | .slice elems spare => uptoBulkAll elems + uptoBulkAll spare + 1
  | .agg parts => uptoBulkAll parts + 1
  | .iface _ d => uptoBulk d + 1
  | .map entries => uptoBulkEntries entries + 1
  | .held _ => 1
def uptoBulkAll {H : Type} : List (DataW H) → Nat
  | [] => 0
  | d :: r => uptoBulk d + uptoBulkAll r
def uptoBulkEntries {H : Type} : List (Lit × DataW H) → Nat
  | [] => 0
  | x :: r => uptoBulkEntry x + uptoBulkEntries r
def uptoBulkEntry {H : Type} : Lit × DataW H → Nat
  | (.string bytes, d) => bytes.length + uptoBulk d + 1
  | (_, d) => uptoBulk d + 1
 end
def uptoSmall : (H : Type) → List (DataW H) → Bool := fun _ ds => decide (uptoBulkAll ds ≤ 1048576)
def OpenSpec.upto (s : _root_.Go.ChangeSpec) : _root_.Go.OpenSpec := { _root_.Go.OpenSpec.ofChange s with cond := some uptoSmall }

/-- 'truchmanlaw19.HelloBegins', WHERE WHAT IT READS IS OF BULK AT MOST 1048576: true; the input reads as it did. -/
def helloBeginsUptoRow : OpenClaim := { program := "ytpaciekgbhoncaagreat", sum := "2e67485f762ba43c7abc9f7f6a71becfb916c0bb1879d616786d979011623b0c", func := "truchman/truchmanlaw19.HelloBegins", spec := "helloBegins", inPlace := ["internal/abi.NoEscape"], unfollowed := true, recurses := true, apart := false, narrowed := true }
def HelloBeginsUptoSaid : Prop := helloBeginsUptoRow.holds Tryz.pinned (OpenSpec.upto helloBeginsSpec)

/-- 'truchmanlaw19.HelloBatches', WHERE WHAT IT READS IS OF BULK AT MOST 1048576: true; the input reads as it did. -/
def helloBatchesUptoRow : OpenClaim := { program := "ytpaciekgbhoncaagreat", sum := "2e67485f762ba43c7abc9f7f6a71becfb916c0bb1879d616786d979011623b0c", func := "truchman/truchmanlaw19.HelloBatches", spec := "helloBatches", inPlace := ["internal/abi.NoEscape"], unfollowed := true, recurses := true, apart := false, narrowed := true }
def HelloBatchesUptoSaid : Prop := helloBatchesUptoRow.holds Tryz.pinned (OpenSpec.upto helloBatchesSpec)

/-- 'truchmanlaw19.HelloWords', WHERE WHAT IT READS IS OF BULK AT MOST 1048576: true; the input reads as it did. -/
def helloWordsUptoRow : OpenClaim := { program := "ytpaciekgbhoncaagreat", sum := "2e67485f762ba43c7abc9f7f6a71becfb916c0bb1879d616786d979011623b0c", func := "truchman/truchmanlaw19.HelloWords", spec := "helloWords", inPlace := ["internal/abi.NoEscape"], unfollowed := true, recurses := true, apart := false, narrowed := true }
def HelloWordsUptoSaid : Prop := helloWordsUptoRow.holds Tryz.pinned (OpenSpec.upto helloWordsSpec)

/-- 'truchmanlaw19.HelloSetups', WHERE WHAT IT READS IS OF BULK AT MOST 1048576: true; the input reads as it did. -/
def helloSetupsUptoRow : OpenClaim := { program := "ytpaciekgbhoncaagreat", sum := "2e67485f762ba43c7abc9f7f6a71becfb916c0bb1879d616786d979011623b0c", func := "truchman/truchmanlaw19.HelloSetups", spec := "helloSetups", inPlace := ["internal/abi.NoEscape"], unfollowed := true, recurses := true, apart := false, narrowed := true }
def HelloSetupsUptoSaid : Prop := helloSetupsUptoRow.holds Tryz.pinned (OpenSpec.upto helloSetupsSpec)

/-- 'truchmanlaw19.HelloOnly', WHERE WHAT IT READS IS OF BULK AT MOST 1048576: true; the input reads as it did. -/
def helloOnlyUptoRow : OpenClaim := { program := "ytpaciekgbhoncaagreat", sum := "2e67485f762ba43c7abc9f7f6a71becfb916c0bb1879d616786d979011623b0c", func := "truchman/truchmanlaw19.HelloOnly", spec := "helloOnly", inPlace := ["internal/abi.NoEscape"], unfollowed := true, recurses := true, apart := false, narrowed := true }
def HelloOnlyUptoSaid : Prop := helloOnlyUptoRow.holds Tryz.pinned (OpenSpec.upto helloOnlySpec)

/-- 'truchmanlaw19.HelloShort', WHERE WHAT IT READS IS OF BULK AT MOST 1048576: true; the input reads as it did. -/
def helloShortUptoRow : OpenClaim := { program := "ytpaciekgbhoncaagreat", sum := "2e67485f762ba43c7abc9f7f6a71becfb916c0bb1879d616786d979011623b0c", func := "truchman/truchmanlaw19.HelloShort", spec := "helloShort", inPlace := ["internal/abi.NoEscape"], unfollowed := true, recurses := true, apart := false, narrowed := true }
def HelloShortUptoSaid : Prop := helloShortUptoRow.holds Tryz.pinned (OpenSpec.upto helloShortSpec)

/-- 'truchmanlaw18.PipeBlobs', WHERE WHAT IT READS IS OF BULK AT MOST 1048576: true; the input reads as it did. -/
def pipeBlobsUptoRow : OpenClaim := { program := "ytpaciekgbhoncaagreat", sum := "2e67485f762ba43c7abc9f7f6a71becfb916c0bb1879d616786d979011623b0c", func := "truchman/truchmanlaw18.PipeBlobs", spec := "pipeBlobs", inPlace := ["internal/abi.NoEscape"], unfollowed := true, recurses := true, apart := false, narrowed := true }
def PipeBlobsUptoSaid : Prop := pipeBlobsUptoRow.holds Tryz.pinned (OpenSpec.upto pipeBlobsSpec)

/-- 'truchmanlaw18.PipeLong', WHERE WHAT IT READS IS OF BULK AT MOST 1048576: true; the input reads as it did. -/
def pipeLongUptoRow : OpenClaim := { program := "ytpaciekgbhoncaagreat", sum := "2e67485f762ba43c7abc9f7f6a71becfb916c0bb1879d616786d979011623b0c", func := "truchman/truchmanlaw18.PipeLong", spec := "pipeLong", inPlace := ["internal/abi.NoEscape"], unfollowed := true, recurses := true, apart := false, narrowed := true }
def PipeLongUptoSaid : Prop := pipeLongUptoRow.holds Tryz.pinned (OpenSpec.upto pipeLongSpec)

end Rows
end Go.Proofs.YtpaciekgbhoncaaGreat
