/-
  DERIVED. GIVEN WITH THE SEED: THE CARDS: each row of YtigcakppnbfpkaaDoorRows.lean that lists a variable, with what it lists TIED to the program's text (the seventh form; the later family's looks); each row that meets fmt, with fmt's text TOLD by the authors' own Lean function (tested against real Go, not proved from fmt's source: count such statements apart). THE CARD IS WHAT COUNTS. Prove the row's statement (the work); the ties are given (YtigcakppnbfpkaaDoorTie.lean); close each card by the builder's one call (the guide's Derived/Test/ToyasCard.lean, 'card_holds'). Laid BY PROGRAM, IN A SANDBOX (cutbox-door.mjs). By AI agents, Wed Nov 11 2026. No macro, syntax, notation, axiom, sorry.
-/
import Derived.Test.YtigcakppnbfpkaaDoorRows
import GoSem.ClaimSeven
namespace Go.Proofs.YtigcakppnbfpkaaDoor
namespace Rows

/-- THE TIED CARD OF 'arbiterlaw3.ScanBack'. -/
def scanBackCard : Claim7 := { stood := { row := scanBackRow, standIns := [], harness := (true, "dff36d454e0fc789c392e0f326265948dd987e02cc251d7289e4acc5f53240d2"), looks := false }, kinds := [], alts := [], laidByText := true, laidKinds := [.data, .data, .pinned], laidTests := true, laidLooks := .later }
def ScanBackCardSaid : Prop := Claim7.holds Tryd.pinned (.plain (OpenSpec.ofChange scanBackSpec)) scanBackCard

/-- THE TIED CARD OF 'arbiterlaw4.SexpBack'. -/
def sexpBackCard : Claim7 := { stood := { row := sexpBackRow, standIns := [], harness := (true, "dff36d454e0fc789c392e0f326265948dd987e02cc251d7289e4acc5f53240d2"), looks := false }, kinds := [], alts := [], laidByText := true, laidKinds := [.data, .data, .pinned], laidTests := true, laidLooks := .later }
def SexpBackCardSaid : Prop := Claim7.holds Tryd.pinned (.plain (OpenSpec.ofChange sexpBackSpec)) sexpBackCard

/-- THE TIED CARD OF 'arbiterlaw4.SexpKept'. -/
def sexpKeptCard : Claim7 := { stood := { row := sexpKeptRow, standIns := [], harness := (true, "dff36d454e0fc789c392e0f326265948dd987e02cc251d7289e4acc5f53240d2"), looks := false }, kinds := [], alts := [], laidByText := true, laidKinds := [.data, .data, .pinned], laidTests := true, laidLooks := .later }
def SexpKeptCardSaid : Prop := Claim7.holds Tryd.pinned (.plain (OpenSpec.ofChange sexpKeptSpec)) sexpKeptCard

/-- THE SECOND FORM's CARD OF 'arbiterlaw3.ScanBack'. -/
def scanBackUptoCard : Claim7 := { stood := { row := scanBackUptoRow, standIns := [], harness := (true, "dff36d454e0fc789c392e0f326265948dd987e02cc251d7289e4acc5f53240d2"), looks := false }, kinds := [], alts := [], laidByText := true, laidKinds := [.data, .data, .pinned], laidTests := true, laidLooks := .later }
def ScanBackUptoCardSaid : Prop := Claim7.holds Tryd.pinned (.plain (OpenSpec.upto scanBackSpec)) scanBackUptoCard

/-- THE SECOND FORM's CARD OF 'arbiterlaw4.SexpBack'. -/
def sexpBackUptoCard : Claim7 := { stood := { row := sexpBackUptoRow, standIns := [], harness := (true, "dff36d454e0fc789c392e0f326265948dd987e02cc251d7289e4acc5f53240d2"), looks := false }, kinds := [], alts := [], laidByText := true, laidKinds := [.data, .data, .pinned], laidTests := true, laidLooks := .later }
def SexpBackUptoCardSaid : Prop := Claim7.holds Tryd.pinned (.plain (OpenSpec.upto sexpBackSpec)) sexpBackUptoCard

/-- THE SECOND FORM's CARD OF 'arbiterlaw4.SexpKept'. -/
def sexpKeptUptoCard : Claim7 := { stood := { row := sexpKeptUptoRow, standIns := [], harness := (true, "dff36d454e0fc789c392e0f326265948dd987e02cc251d7289e4acc5f53240d2"), looks := false }, kinds := [], alts := [], laidByText := true, laidKinds := [.data, .data, .pinned], laidTests := true, laidLooks := .later }
def SexpKeptUptoCardSaid : Prop := Claim7.holds Tryd.pinned (.plain (OpenSpec.upto sexpKeptSpec)) sexpKeptUptoCard
end Rows
end Go.Proofs.YtigcakppnbfpkaaDoor
