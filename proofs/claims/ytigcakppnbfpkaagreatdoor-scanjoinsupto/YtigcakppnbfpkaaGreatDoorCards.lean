/-
  DERIVED. GIVEN WITH THE SEED: THE CARDS: each row of YtigcakppnbfpkaaGreatDoorRows.lean that lists a variable, with what it lists TIED to the program's text (the seventh form; the later family's looks); each row that meets fmt, with fmt's text TOLD by the authors' own Lean function (tested against real Go, not proved from fmt's source: count such statements apart). THE CARD IS WHAT COUNTS. Prove the row's statement (the work); the ties are given (YtigcakppnbfpkaaGreatDoorTie.lean); close each card by the builder's one call (the guide's Derived/Test/ToyasCard.lean, 'card_holds'). Laid BY PROGRAM, IN A SANDBOX (cutbox-door.mjs). By AI agents, Wed Nov 11 2026. No macro, syntax, notation, axiom, sorry.
-/
import Derived.Test.YtigcakppnbfpkaaGreatDoorRows
import GoSem.ClaimSeven
namespace Go.Proofs.YtigcakppnbfpkaaGreatDoor
namespace Rows

/-- THE TIED CARD OF 'arbiterlaw3.ScanJoins'. -/
def scanJoinsCard : Claim7 := { stood := { row := scanJoinsRow, standIns := [], harness := (true, "eaad9fc79114fc2f69c37124fff2a65977f9f0da6feb9cce59c7d7aea333685e"), looks := false }, kinds := [], alts := [], laidByText := true, laidKinds := [.data, .data, .data, .pinned], laidTests := true, laidLooks := .later }
def ScanJoinsCardSaid : Prop := Claim7.holds Tryz.pinned (.plain (OpenSpec.ofChange scanJoinsSpec)) scanJoinsCard

/-- THE TIED CARD OF 'arbiterlaw4.SexpShows'. -/
def sexpShowsCard : Claim7 := { stood := { row := sexpShowsRow, standIns := [], harness := (true, "eaad9fc79114fc2f69c37124fff2a65977f9f0da6feb9cce59c7d7aea333685e"), looks := false }, kinds := [], alts := [], laidByText := true, laidKinds := [.data, .data, .data, .pinned], laidTests := true, laidLooks := .later }
def SexpShowsCardSaid : Prop := Claim7.holds Tryz.pinned (.plain (OpenSpec.ofChange sexpShowsSpec)) sexpShowsCard

/-- THE TIED CARD OF 'arbitertop.TopText'. -/
def topTextCard : Claim7 := { stood := { row := topTextRow, standIns := [], harness := (true, "eaad9fc79114fc2f69c37124fff2a65977f9f0da6feb9cce59c7d7aea333685e"), looks := false }, kinds := [], alts := [], laidByText := true, laidKinds := [.data, .data, .data, .pinned], laidTests := true, laidLooks := .later }
def TopTextCardSaid : Prop := Claim7.holds Tryz.pinned (.plain (OpenSpec.ofChange topTextSpec)) topTextCard

/-- THE SECOND FORM's CARD OF 'arbiterlaw3.ScanJoins'. -/
def scanJoinsUptoCard : Claim7 := { stood := { row := scanJoinsUptoRow, standIns := [], harness := (true, "eaad9fc79114fc2f69c37124fff2a65977f9f0da6feb9cce59c7d7aea333685e"), looks := false }, kinds := [], alts := [], laidByText := true, laidKinds := [.data, .data, .data, .pinned], laidTests := true, laidLooks := .later }
def ScanJoinsUptoCardSaid : Prop := Claim7.holds Tryz.pinned (.plain (OpenSpec.upto scanJoinsSpec)) scanJoinsUptoCard

/-- THE SECOND FORM's CARD OF 'arbiterlaw4.SexpShows'. -/
def sexpShowsUptoCard : Claim7 := { stood := { row := sexpShowsUptoRow, standIns := [], harness := (true, "eaad9fc79114fc2f69c37124fff2a65977f9f0da6feb9cce59c7d7aea333685e"), looks := false }, kinds := [], alts := [], laidByText := true, laidKinds := [.data, .data, .data, .pinned], laidTests := true, laidLooks := .later }
def SexpShowsUptoCardSaid : Prop := Claim7.holds Tryz.pinned (.plain (OpenSpec.upto sexpShowsSpec)) sexpShowsUptoCard

/-- THE SECOND FORM's CARD OF 'arbitertop.TopText'. -/
def topTextUptoCard : Claim7 := { stood := { row := topTextUptoRow, standIns := [], harness := (true, "eaad9fc79114fc2f69c37124fff2a65977f9f0da6feb9cce59c7d7aea333685e"), looks := false }, kinds := [], alts := [], laidByText := true, laidKinds := [.data, .data, .data, .pinned], laidTests := true, laidLooks := .later }
def TopTextUptoCardSaid : Prop := Claim7.holds Tryz.pinned (.plain (OpenSpec.upto topTextSpec)) topTextUptoCard
end Rows
end Go.Proofs.YtigcakppnbfpkaaGreatDoor
