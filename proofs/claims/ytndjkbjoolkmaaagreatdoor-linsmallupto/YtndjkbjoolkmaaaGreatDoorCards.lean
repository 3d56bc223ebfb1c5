/-
  DERIVED. GIVEN WITH THE SEED: THE CARDS: each row of YtndjkbjoolkmaaaGreatDoorRows.lean that lists a variable, with what it lists TIED to the program's text (the seventh form; the later family's looks); each row that meets fmt, with fmt's text TOLD by the authors' own Lean function (tested against real Go, not proved from fmt's source: count such statements apart). THE CARD IS WHAT COUNTS. Prove the row's statement (the work); the ties are given (YtndjkbjoolkmaaaGreatDoorTie.lean); close each card by the builder's one call (the guide's Derived/Test/ToyasCard.lean, 'card_holds'). Laid BY PROGRAM, IN A SANDBOX (cutbox-door.mjs). By AI agents, Wed Nov 11 2026. No macro, syntax, notation, axiom, sorry.
-/
import Derived.Test.YtndjkbjoolkmaaaGreatDoorRows
import GoSem.ClaimSeven
namespace Go.Proofs.YtndjkbjoolkmaaaGreatDoor
namespace Rows

/-- THE TIED CARD OF 'arbiterlaw2.LinSmall'. -/
def linSmallCard : Claim7 := { stood := { row := linSmallRow, standIns := [], harness := (true, "562c485dc9587cf99b74cf31ad533ca11a2c68659f941a436f3e2860d6546722"), looks := false }, kinds := [], alts := [], laidByText := true, laidKinds := [.data, .data, .data, .data, .wider, .wider, .pinned], laidTests := true, laidLooks := .later }
def LinSmallCardSaid : Prop := Claim7.holds Tryz.pinned (.plain (OpenSpec.ofChange linSmallSpec)) linSmallCard

/-- THE SECOND FORM's CARD OF 'arbiterlaw2.LinSmall'. -/
def linSmallUptoCard : Claim7 := { stood := { row := linSmallUptoRow, standIns := [], harness := (true, "562c485dc9587cf99b74cf31ad533ca11a2c68659f941a436f3e2860d6546722"), looks := false }, kinds := [], alts := [], laidByText := true, laidKinds := [.data, .data, .data, .data, .wider, .wider, .pinned], laidTests := true, laidLooks := .later }
def LinSmallUptoCardSaid : Prop := Claim7.holds Tryz.pinned (.plain (OpenSpec.upto linSmallSpec)) linSmallUptoCard
end Rows
end Go.Proofs.YtndjkbjoolkmaaaGreatDoor
