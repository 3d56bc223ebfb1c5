/-
  DERIVED. GIVEN WITH THE SEED: THE CARDS: each row of YtlepicdpelkmlaaGreatDoorRows.lean that lists a variable, with what it lists TIED to the program's text (the seventh form; the later family's looks); each row that meets fmt, with fmt's text TOLD by the authors' own Lean function (tested against real Go, not proved from fmt's source: count such statements apart). THE CARD IS WHAT COUNTS. Prove the row's statement (the work); the ties are given (YtlepicdpelkmlaaGreatDoorTie.lean); close each card by the builder's one call (the guide's Derived/Test/ToyasCard.lean, 'card_holds'). Laid BY PROGRAM, IN A SANDBOX (cutbox-door.mjs). By AI agents, Wed Nov 11 2026. No macro, syntax, notation, axiom, sorry.
-/
import Derived.Test.YtlepicdpelkmlaaGreatDoorRows
import GoSem.ClaimSeven
namespace Go.Proofs.YtlepicdpelkmlaaGreatDoor
namespace Rows

/-- THE TIED CARD OF 'arbiterlaw2.LinPicks'. -/
def linPicksCard : Claim7 := { stood := { row := linPicksRow, standIns := [], harness := (true, "2855698aa724cf06c3a14d55989fa5f78ff51af68477949b6782cf6a7e1ba0f0"), looks := false }, kinds := [], alts := [], laidByText := true, laidKinds := [.data, .data, .data, .data, .wider, .wider, .pinned], laidTests := true, laidLooks := .later }
def LinPicksCardSaid : Prop := Claim7.holds Tryz.pinned (.plain (OpenSpec.ofChange linPicksSpec)) linPicksCard

/-- THE SECOND FORM's CARD OF 'arbiterlaw2.LinPicks'. -/
def linPicksUptoCard : Claim7 := { stood := { row := linPicksUptoRow, standIns := [], harness := (true, "2855698aa724cf06c3a14d55989fa5f78ff51af68477949b6782cf6a7e1ba0f0"), looks := false }, kinds := [], alts := [], laidByText := true, laidKinds := [.data, .data, .data, .data, .wider, .wider, .pinned], laidTests := true, laidLooks := .later }
def LinPicksUptoCardSaid : Prop := Claim7.holds Tryz.pinned (.plain (OpenSpec.upto linPicksSpec)) linPicksUptoCard
end Rows
end Go.Proofs.YtlepicdpelkmlaaGreatDoor
