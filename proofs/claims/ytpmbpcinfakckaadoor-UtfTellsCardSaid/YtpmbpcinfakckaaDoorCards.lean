/-
  DERIVED. GIVEN WITH THE SEED: THE CARDS: each row of YtpmbpcinfakckaaDoorRows.lean that lists a variable, with what it lists TIED to the program's text (the seventh form; the later family's looks); each row that meets fmt, with fmt's text TOLD by the authors' own Lean function (tested against real Go, not proved from fmt's source: count such statements apart). THE CARD IS WHAT COUNTS. Prove the row's statement (the work); the ties are given (YtpmbpcinfakckaaDoorTie.lean); close each card by the builder's one call (the guide's Derived/Test/ToyasCard.lean, 'card_holds'). Laid BY PROGRAM, IN A SANDBOX (cutbox-door.mjs). By AI agents, Wed Nov 11 2026. No macro, syntax, notation, axiom, sorry.
-/
import Derived.Test.YtpmbpcinfakckaaDoorRows
import GoSem.ClaimSeven
namespace Go.Proofs.YtpmbpcinfakckaaDoor
namespace Rows

/-- THE TIED CARD OF 'truchmanlaw4.UtfTells'. -/
def utfTellsCard : Claim7 := { stood := { row := utfTellsRow, standIns := [], harness := (true, "82729d09bb2265bc969adced8e278b1f71de029d6cadeb33f7585bc5f64b2e22"), looks := false }, kinds := [], alts := [], laidByText := true, laidKinds := [.data, .pinned], laidTests := true, laidLooks := .later }
def UtfTellsCardSaid : Prop := Claim7.holds Tryd.pinned (.plain (OpenSpec.ofChange utfTellsSpec)) utfTellsCard

/-- THE TIED CARD OF 'truchmanlaw4.UtfRunes'. -/
def utfRunesCard : Claim7 := { stood := { row := utfRunesRow, standIns := [], harness := (true, "82729d09bb2265bc969adced8e278b1f71de029d6cadeb33f7585bc5f64b2e22"), looks := false }, kinds := [], alts := [], laidByText := true, laidKinds := [.data, .pinned], laidTests := true, laidLooks := .later }
def UtfRunesCardSaid : Prop := Claim7.holds Tryd.pinned (.plain (OpenSpec.ofChange utfRunesSpec)) utfRunesCard

/-- THE TIED CARD OF 'truchmanlaw4.UtfCuts'. -/
def utfCutsCard : Claim7 := { stood := { row := utfCutsRow, standIns := [], harness := (true, "82729d09bb2265bc969adced8e278b1f71de029d6cadeb33f7585bc5f64b2e22"), looks := false }, kinds := [], alts := [], laidByText := true, laidKinds := [.data, .pinned], laidTests := true, laidLooks := .later }
def UtfCutsCardSaid : Prop := Claim7.holds Tryd.pinned (.plain (OpenSpec.ofChange utfCutsSpec)) utfCutsCard

/-- THE TIED CARD OF 'truchmanlaw4.UtfLengths'. -/
def utfLengthsCard : Claim7 := { stood := { row := utfLengthsRow, standIns := [], harness := (true, "82729d09bb2265bc969adced8e278b1f71de029d6cadeb33f7585bc5f64b2e22"), looks := false }, kinds := [], alts := [], laidByText := true, laidKinds := [.data, .pinned], laidTests := true, laidLooks := .later }
def UtfLengthsCardSaid : Prop := Claim7.holds Tryd.pinned (.plain (OpenSpec.ofChange utfLengthsSpec)) utfLengthsCard

/-- THE TIED CARD OF 'truchmanlaw4.UtfBad'. -/
def utfBadCard : Claim7 := { stood := { row := utfBadRow, standIns := [], harness := (true, "82729d09bb2265bc969adced8e278b1f71de029d6cadeb33f7585bc5f64b2e22"), looks := false }, kinds := [], alts := [], laidByText := true, laidKinds := [.data, .pinned], laidTests := true, laidLooks := .later }
def UtfBadCardSaid : Prop := Claim7.holds Tryd.pinned (.plain (OpenSpec.ofChange utfBadSpec)) utfBadCard

/-- THE TIED CARD OF 'truchmanlaw4.UtfAscii'. -/
def utfAsciiCard : Claim7 := { stood := { row := utfAsciiRow, standIns := [], harness := (true, "82729d09bb2265bc969adced8e278b1f71de029d6cadeb33f7585bc5f64b2e22"), looks := false }, kinds := [], alts := [], laidByText := true, laidKinds := [.data, .pinned], laidTests := true, laidLooks := .later }
def UtfAsciiCardSaid : Prop := Claim7.holds Tryd.pinned (.plain (OpenSpec.ofChange utfAsciiSpec)) utfAsciiCard

/-- THE SECOND FORM's CARD OF 'truchmanlaw4.UtfTells'. -/
def utfTellsUptoCard : Claim7 := { stood := { row := utfTellsUptoRow, standIns := [], harness := (true, "82729d09bb2265bc969adced8e278b1f71de029d6cadeb33f7585bc5f64b2e22"), looks := false }, kinds := [], alts := [], laidByText := true, laidKinds := [.data, .pinned], laidTests := true, laidLooks := .later }
def UtfTellsUptoCardSaid : Prop := Claim7.holds Tryd.pinned (.plain (OpenSpec.upto utfTellsSpec)) utfTellsUptoCard

/-- THE SECOND FORM's CARD OF 'truchmanlaw4.UtfRunes'. -/
def utfRunesUptoCard : Claim7 := { stood := { row := utfRunesUptoRow, standIns := [], harness := (true, "82729d09bb2265bc969adced8e278b1f71de029d6cadeb33f7585bc5f64b2e22"), looks := false }, kinds := [], alts := [], laidByText := true, laidKinds := [.data, .pinned], laidTests := true, laidLooks := .later }
def UtfRunesUptoCardSaid : Prop := Claim7.holds Tryd.pinned (.plain (OpenSpec.upto utfRunesSpec)) utfRunesUptoCard

/-- THE SECOND FORM's CARD OF 'truchmanlaw4.UtfCuts'. -/
def utfCutsUptoCard : Claim7 := { stood := { row := utfCutsUptoRow, standIns := [], harness := (true, "82729d09bb2265bc969adced8e278b1f71de029d6cadeb33f7585bc5f64b2e22"), looks := false }, kinds := [], alts := [], laidByText := true, laidKinds := [.data, .pinned], laidTests := true, laidLooks := .later }
def UtfCutsUptoCardSaid : Prop := Claim7.holds Tryd.pinned (.plain (OpenSpec.upto utfCutsSpec)) utfCutsUptoCard

/-- THE SECOND FORM's CARD OF 'truchmanlaw4.UtfLengths'. -/
def utfLengthsUptoCard : Claim7 := { stood := { row := utfLengthsUptoRow, standIns := [], harness := (true, "82729d09bb2265bc969adced8e278b1f71de029d6cadeb33f7585bc5f64b2e22"), looks := false }, kinds := [], alts := [], laidByText := true, laidKinds := [.data, .pinned], laidTests := true, laidLooks := .later }
def UtfLengthsUptoCardSaid : Prop := Claim7.holds Tryd.pinned (.plain (OpenSpec.upto utfLengthsSpec)) utfLengthsUptoCard

/-- THE SECOND FORM's CARD OF 'truchmanlaw4.UtfBad'. -/
def utfBadUptoCard : Claim7 := { stood := { row := utfBadUptoRow, standIns := [], harness := (true, "82729d09bb2265bc969adced8e278b1f71de029d6cadeb33f7585bc5f64b2e22"), looks := false }, kinds := [], alts := [], laidByText := true, laidKinds := [.data, .pinned], laidTests := true, laidLooks := .later }
def UtfBadUptoCardSaid : Prop := Claim7.holds Tryd.pinned (.plain (OpenSpec.upto utfBadSpec)) utfBadUptoCard

/-- THE SECOND FORM's CARD OF 'truchmanlaw4.UtfAscii'. -/
def utfAsciiUptoCard : Claim7 := { stood := { row := utfAsciiUptoRow, standIns := [], harness := (true, "82729d09bb2265bc969adced8e278b1f71de029d6cadeb33f7585bc5f64b2e22"), looks := false }, kinds := [], alts := [], laidByText := true, laidKinds := [.data, .pinned], laidTests := true, laidLooks := .later }
def UtfAsciiUptoCardSaid : Prop := Claim7.holds Tryd.pinned (.plain (OpenSpec.upto utfAsciiSpec)) utfAsciiUptoCard
end Rows
end Go.Proofs.YtpmbpcinfakckaaDoor
