/-
  DERIVED. GIVEN WITH THE SEED: THE CARDS: each row of YtlcgajcceapioaaDoorRows.lean that lists a variable, with what it lists TIED to the program's text (the seventh form; the later family's looks); each row that meets fmt, with fmt's text TOLD by the authors' own Lean function (tested against real Go, not proved from fmt's source: count such statements apart). THE CARD IS WHAT COUNTS. Prove the row's statement (the work); the ties are given (YtlcgajcceapioaaDoorTie.lean); close each card by the builder's one call (the guide's Derived/Test/ToyasCard.lean, 'card_holds'). Laid BY PROGRAM, IN A SANDBOX (cutbox-door.mjs). By AI agents, Wed Nov 11 2026. No macro, syntax, notation, axiom, sorry.
-/
import Derived.Test.YtlcgajcceapioaaDoorRows
import GoSem.ClaimSeven
namespace Go.Proofs.YtlcgajcceapioaaDoor
namespace Rows

/-- THE TIED CARD OF 'arbiterlaw3.ScanPieces'. -/
def scanPiecesCard : Claim7 := { stood := { row := scanPiecesRow, standIns := [], harness := (true, "9fb0ad4484ae02bb3b4bbff0b505ca16b81121696188cd49b283483e22c2990f"), looks := false }, kinds := [], alts := [], laidByText := true, laidKinds := [.data, .data], laidTests := true, laidLooks := .later }
def ScanPiecesCardSaid : Prop := Claim7.holds Tryd.pinned (.plain (OpenSpec.ofChange scanPiecesSpec)) scanPiecesCard

/-- THE TIED CARD OF 'arbiterlaw3.ScanQuotes'. -/
def scanQuotesCard : Claim7 := { stood := { row := scanQuotesRow, standIns := [], harness := (true, "9fb0ad4484ae02bb3b4bbff0b505ca16b81121696188cd49b283483e22c2990f"), looks := false }, kinds := [], alts := [], laidByText := true, laidKinds := [.data, .data, .data, .pinned], laidTests := true, laidLooks := .later }
def ScanQuotesCardSaid : Prop := Claim7.holds Tryd.pinned (.plain (OpenSpec.ofChange scanQuotesSpec)) scanQuotesCard

/-- THE TIED CARD OF 'arbiterlaw4.SexpTokens'. -/
def sexpTokensCard : Claim7 := { stood := { row := sexpTokensRow, standIns := [], harness := (true, "9fb0ad4484ae02bb3b4bbff0b505ca16b81121696188cd49b283483e22c2990f"), looks := false }, kinds := [], alts := [], laidByText := true, laidKinds := [.data, .data, .pinned], laidTests := true, laidLooks := .later }
def SexpTokensCardSaid : Prop := Claim7.holds Tryd.pinned (.plain (OpenSpec.ofChange sexpTokensSpec)) sexpTokensCard

/-- THE TIED CARD OF 'arbiterlaw4.SexpParts'. -/
def sexpPartsCard : Claim7 := { stood := { row := sexpPartsRow, standIns := [], harness := (true, "9fb0ad4484ae02bb3b4bbff0b505ca16b81121696188cd49b283483e22c2990f"), looks := false }, kinds := [], alts := [], laidByText := true, laidKinds := [.data, .data, .pinned], laidTests := true, laidLooks := .later }
def SexpPartsCardSaid : Prop := Claim7.holds Tryd.pinned (.plain (OpenSpec.ofChange sexpPartsSpec)) sexpPartsCard

/-- THE TIED CARD OF 'arbiterlaw4.SexpJoined'. -/
def sexpJoinedCard : Claim7 := { stood := { row := sexpJoinedRow, standIns := [], harness := (true, "9fb0ad4484ae02bb3b4bbff0b505ca16b81121696188cd49b283483e22c2990f"), looks := false }, kinds := [], alts := [], laidByText := true, laidKinds := [.data, .data, .pinned], laidTests := true, laidLooks := .later }
def SexpJoinedCardSaid : Prop := Claim7.holds Tryd.pinned (.plain (OpenSpec.ofChange sexpJoinedSpec)) sexpJoinedCard

/-- THE TIED CARD OF 'arbitertop.TopCut'. -/
def topCutCard : Claim7 := { stood := { row := topCutRow, standIns := [], harness := (true, "9fb0ad4484ae02bb3b4bbff0b505ca16b81121696188cd49b283483e22c2990f"), looks := false }, kinds := [], alts := [], laidByText := true, laidKinds := [.data, .data], laidTests := true, laidLooks := .later }
def TopCutCardSaid : Prop := Claim7.holds Tryd.pinned (.plain (OpenSpec.ofChange topCutSpec)) topCutCard

/-- THE SECOND FORM's CARD OF 'arbiterlaw3.ScanPieces'. -/
def scanPiecesUptoCard : Claim7 := { stood := { row := scanPiecesUptoRow, standIns := [], harness := (true, "9fb0ad4484ae02bb3b4bbff0b505ca16b81121696188cd49b283483e22c2990f"), looks := false }, kinds := [], alts := [], laidByText := true, laidKinds := [.data, .data], laidTests := true, laidLooks := .later }
def ScanPiecesUptoCardSaid : Prop := Claim7.holds Tryd.pinned (.plain (OpenSpec.upto scanPiecesSpec)) scanPiecesUptoCard

/-- THE SECOND FORM's CARD OF 'arbiterlaw3.ScanQuotes'. -/
def scanQuotesUptoCard : Claim7 := { stood := { row := scanQuotesUptoRow, standIns := [], harness := (true, "9fb0ad4484ae02bb3b4bbff0b505ca16b81121696188cd49b283483e22c2990f"), looks := false }, kinds := [], alts := [], laidByText := true, laidKinds := [.data, .data, .data, .pinned], laidTests := true, laidLooks := .later }
def ScanQuotesUptoCardSaid : Prop := Claim7.holds Tryd.pinned (.plain (OpenSpec.upto scanQuotesSpec)) scanQuotesUptoCard

/-- THE SECOND FORM's CARD OF 'arbiterlaw4.SexpTokens'. -/
def sexpTokensUptoCard : Claim7 := { stood := { row := sexpTokensUptoRow, standIns := [], harness := (true, "9fb0ad4484ae02bb3b4bbff0b505ca16b81121696188cd49b283483e22c2990f"), looks := false }, kinds := [], alts := [], laidByText := true, laidKinds := [.data, .data, .pinned], laidTests := true, laidLooks := .later }
def SexpTokensUptoCardSaid : Prop := Claim7.holds Tryd.pinned (.plain (OpenSpec.upto sexpTokensSpec)) sexpTokensUptoCard

/-- THE SECOND FORM's CARD OF 'arbiterlaw4.SexpParts'. -/
def sexpPartsUptoCard : Claim7 := { stood := { row := sexpPartsUptoRow, standIns := [], harness := (true, "9fb0ad4484ae02bb3b4bbff0b505ca16b81121696188cd49b283483e22c2990f"), looks := false }, kinds := [], alts := [], laidByText := true, laidKinds := [.data, .data, .pinned], laidTests := true, laidLooks := .later }
def SexpPartsUptoCardSaid : Prop := Claim7.holds Tryd.pinned (.plain (OpenSpec.upto sexpPartsSpec)) sexpPartsUptoCard

/-- THE SECOND FORM's CARD OF 'arbiterlaw4.SexpJoined'. -/
def sexpJoinedUptoCard : Claim7 := { stood := { row := sexpJoinedUptoRow, standIns := [], harness := (true, "9fb0ad4484ae02bb3b4bbff0b505ca16b81121696188cd49b283483e22c2990f"), looks := false }, kinds := [], alts := [], laidByText := true, laidKinds := [.data, .data, .pinned], laidTests := true, laidLooks := .later }
def SexpJoinedUptoCardSaid : Prop := Claim7.holds Tryd.pinned (.plain (OpenSpec.upto sexpJoinedSpec)) sexpJoinedUptoCard

/-- THE SECOND FORM's CARD OF 'arbitertop.TopCut'. -/
def topCutUptoCard : Claim7 := { stood := { row := topCutUptoRow, standIns := [], harness := (true, "9fb0ad4484ae02bb3b4bbff0b505ca16b81121696188cd49b283483e22c2990f"), looks := false }, kinds := [], alts := [], laidByText := true, laidKinds := [.data, .data], laidTests := true, laidLooks := .later }
def TopCutUptoCardSaid : Prop := Claim7.holds Tryd.pinned (.plain (OpenSpec.upto topCutSpec)) topCutUptoCard
end Rows
end Go.Proofs.YtlcgajcceapioaaDoor
