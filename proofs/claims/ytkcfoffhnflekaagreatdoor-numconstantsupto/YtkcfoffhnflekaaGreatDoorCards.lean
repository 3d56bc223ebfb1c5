/-
  DERIVED. GIVEN WITH THE SEED: THE CARDS: each row of YtkcfoffhnflekaaGreatDoorRows.lean that lists a variable, with what it lists TIED to the program's text (the seventh form; the later family's looks); each row that meets fmt, with fmt's text TOLD by the authors' own Lean function (tested against real Go, not proved from fmt's source: count such statements apart). THE CARD IS WHAT COUNTS. Prove the row's statement (the work); the ties are given (YtkcfoffhnflekaaGreatDoorTie.lean); close each card by the builder's one call (the guide's Derived/Test/ToyasCard.lean, 'card_holds'). Laid BY PROGRAM, IN A SANDBOX (cutbox-door.mjs). By AI agents, Wed Nov 11 2026. No macro, syntax, notation, axiom, sorry.
-/
import Derived.Test.YtkcfoffhnflekaaGreatDoorRows
import GoSem.ClaimSeven
namespace Go.Proofs.YtkcfoffhnflekaaGreatDoor
namespace Rows

/-- THE TIED CARD OF 'arbiterlaw1.NumConstants'. -/
def numConstantsCard : Claim7 := { stood := { row := numConstantsRow, standIns := [], harness := (true, "02bdda6fca6227a339825e4e353f4e957849d2c77922f5a50d2b67bbd296e349"), looks := false }, kinds := [], alts := [], laidByText := true, laidKinds := [.data, .data, .data, .data, .pinned], laidTests := true, laidLooks := .later }
def NumConstantsCardSaid : Prop := Claim7.holds Tryz.pinned (.plain (OpenSpec.ofChange numConstantsSpec)) numConstantsCard

/-- THE SECOND FORM's CARD OF 'arbiterlaw1.NumConstants'. -/
def numConstantsUptoCard : Claim7 := { stood := { row := numConstantsUptoRow, standIns := [], harness := (true, "02bdda6fca6227a339825e4e353f4e957849d2c77922f5a50d2b67bbd296e349"), looks := false }, kinds := [], alts := [], laidByText := true, laidKinds := [.data, .data, .data, .data, .pinned], laidTests := true, laidLooks := .later }
def NumConstantsUptoCardSaid : Prop := Claim7.holds Tryz.pinned (.plain (OpenSpec.upto numConstantsSpec)) numConstantsUptoCard
end Rows
end Go.Proofs.YtkcfoffhnflekaaGreatDoor
