/-
  DERIVED. GIVEN WITH THE SEED: THE CARDS: each row of YtjbalgjdcdmjjaaDoorRows.lean that lists a variable, with what it lists TIED to the program's text (the seventh form; the later family's looks); each row that meets fmt, with fmt's text TOLD by the authors' own Lean function (tested against real Go, not proved from fmt's source: count such statements apart). THE CARD IS WHAT COUNTS. Prove the row's statement (the work); the ties are given (YtjbalgjdcdmjjaaDoorTie.lean); close each card by the builder's one call (the guide's Derived/Test/ToyasCard.lean, 'card_holds'). Laid BY PROGRAM, IN A SANDBOX (cutbox-door.mjs). By AI agents, Wed Nov 11 2026. No macro, syntax, notation, axiom, sorry.
-/
import Derived.Test.YtjbalgjdcdmjjaaDoorRows
import GoSem.ClaimSeven
namespace Go.Proofs.YtjbalgjdcdmjjaaDoor
namespace Rows

/-- THE TIED CARD OF 'arbiterlaw3.ScanPieces'. -/
def scanPiecesCard : Claim7 := { stood := { row := scanPiecesRow, standIns := [], harness := (true, "107509278a6ed6c29fea0b83d2d20e117964e076deefd356813d9bc80f29bb4e"), looks := false }, kinds := [], alts := [], laidByText := true, laidKinds := [.data, .data], laidTests := true, laidLooks := .later }
def ScanPiecesCardSaid : Prop := Claim7.holds Tryd.pinned (.plain (OpenSpec.ofChange scanPiecesSpec)) scanPiecesCard

/-- THE TIED CARD OF 'arbiterlaw4.SexpKept'. -/
def sexpKeptCard : Claim7 := { stood := { row := sexpKeptRow, standIns := [], harness := (true, "107509278a6ed6c29fea0b83d2d20e117964e076deefd356813d9bc80f29bb4e"), looks := false }, kinds := [], alts := [], laidByText := true, laidKinds := [.data, .data, .pinned], laidTests := true, laidLooks := .later }
def SexpKeptCardSaid : Prop := Claim7.holds Tryd.pinned (.plain (OpenSpec.ofChange sexpKeptSpec)) sexpKeptCard

/-- THE SECOND FORM's CARD OF 'arbiterlaw3.ScanPieces'. -/
def scanPiecesUptoCard : Claim7 := { stood := { row := scanPiecesUptoRow, standIns := [], harness := (true, "107509278a6ed6c29fea0b83d2d20e117964e076deefd356813d9bc80f29bb4e"), looks := false }, kinds := [], alts := [], laidByText := true, laidKinds := [.data, .data], laidTests := true, laidLooks := .later }
def ScanPiecesUptoCardSaid : Prop := Claim7.holds Tryd.pinned (.plain (OpenSpec.upto scanPiecesSpec)) scanPiecesUptoCard

/-- THE SECOND FORM's CARD OF 'arbiterlaw4.SexpKept'. -/
def sexpKeptUptoCard : Claim7 := { stood := { row := sexpKeptUptoRow, standIns := [], harness := (true, "107509278a6ed6c29fea0b83d2d20e117964e076deefd356813d9bc80f29bb4e"), looks := false }, kinds := [], alts := [], laidByText := true, laidKinds := [.data, .data, .pinned], laidTests := true, laidLooks := .later }
def SexpKeptUptoCardSaid : Prop := Claim7.holds Tryd.pinned (.plain (OpenSpec.upto sexpKeptSpec)) sexpKeptUptoCard
end Rows
end Go.Proofs.YtjbalgjdcdmjjaaDoor
