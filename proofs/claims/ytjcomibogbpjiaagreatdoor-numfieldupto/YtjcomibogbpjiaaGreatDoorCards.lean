/-
  DERIVED. GIVEN WITH THE SEED: THE CARDS: each row of YtjcomibogbpjiaaGreatDoorRows.lean that lists a variable, with what it lists TIED to the program's text (the seventh form; the later family's looks); each row that meets fmt, with fmt's text TOLD by the authors' own Lean function (tested against real Go, not proved from fmt's source: count such statements apart). THE CARD IS WHAT COUNTS. Prove the row's statement (the work); the ties are given (YtjcomibogbpjiaaGreatDoorTie.lean); close each card by the builder's one call (the guide's Derived/Test/ToyasCard.lean, 'card_holds'). Laid BY PROGRAM, IN A SANDBOX (cutbox-door.mjs). By AI agents, Wed Nov 11 2026. No macro, syntax, notation, axiom, sorry.
-/
import Derived.Test.YtjcomibogbpjiaaGreatDoorRows
import GoSem.ClaimSeven
namespace Go.Proofs.YtjcomibogbpjiaaGreatDoor
namespace Rows

/-- THE TIED CARD OF 'arbiterlaw1.NumField'. -/
def numFieldCard : Claim7 := { stood := { row := numFieldRow, standIns := [], harness := (true, "f0d5863f4ff8e6c52531241e62fb1ab2f847eebfc1b7d4e8a20a4731407dd50b"), looks := false }, kinds := [], alts := [], laidByText := true, laidKinds := [.data, .data, .data, .data, .pinned], laidTests := true, laidLooks := .later }
def NumFieldCardSaid : Prop := Claim7.holds Tryz.pinned (.plain (OpenSpec.ofChange numFieldSpec)) numFieldCard

/-- THE SECOND FORM's CARD OF 'arbiterlaw1.NumField'. -/
def numFieldUptoCard : Claim7 := { stood := { row := numFieldUptoRow, standIns := [], harness := (true, "f0d5863f4ff8e6c52531241e62fb1ab2f847eebfc1b7d4e8a20a4731407dd50b"), looks := false }, kinds := [], alts := [], laidByText := true, laidKinds := [.data, .data, .data, .data, .pinned], laidTests := true, laidLooks := .later }
def NumFieldUptoCardSaid : Prop := Claim7.holds Tryz.pinned (.plain (OpenSpec.upto numFieldSpec)) numFieldUptoCard
end Rows
end Go.Proofs.YtjcomibogbpjiaaGreatDoor
