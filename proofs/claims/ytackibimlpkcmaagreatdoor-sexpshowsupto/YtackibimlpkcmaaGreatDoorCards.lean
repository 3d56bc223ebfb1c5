/-
  DERIVED. GIVEN WITH THE SEED: THE CARDS: each row of YtackibimlpkcmaaGreatDoorRows.lean that lists a variable, with what it lists TIED to the program's text (the seventh form; the later family's looks); each row that meets fmt, with fmt's text TOLD by the authors' own Lean function (tested against real Go, not proved from fmt's source: count such statements apart). THE CARD IS WHAT COUNTS. Prove the row's statement (the work); the ties are given (YtackibimlpkcmaaGreatDoorTie.lean); close each card by the builder's one call (the guide's Derived/Test/ToyasCard.lean, 'card_holds'). Laid BY PROGRAM, IN A SANDBOX (cutbox-door.mjs). By AI agents, Wed Nov 11 2026. No macro, syntax, notation, axiom, sorry.
-/
import Derived.Test.YtackibimlpkcmaaGreatDoorRows
import GoSem.ClaimSeven
namespace Go.Proofs.YtackibimlpkcmaaGreatDoor
namespace Rows

/-- THE TIED CARD OF 'arbiterlaw4.SexpShows'. -/
def sexpShowsCard : Claim7 := { stood := { row := sexpShowsRow, standIns := [], harness := (true, "2f895bb22b015566886f24eb3c40b1d2dffa83faed47b251704e0412b2794621"), looks := false }, kinds := [], alts := [], laidByText := true, laidKinds := [.data, .data, .data, .pinned], laidTests := true, laidLooks := .later }
def SexpShowsCardSaid : Prop := Claim7.holds Tryz.pinned (.plain (OpenSpec.ofChange sexpShowsSpec)) sexpShowsCard

/-- THE TIED CARD OF 'arbitertop.TopText'. -/
def topTextCard : Claim7 := { stood := { row := topTextRow, standIns := [], harness := (true, "2f895bb22b015566886f24eb3c40b1d2dffa83faed47b251704e0412b2794621"), looks := false }, kinds := [], alts := [], laidByText := true, laidKinds := [.data, .data, .data, .pinned], laidTests := true, laidLooks := .later }
def TopTextCardSaid : Prop := Claim7.holds Tryz.pinned (.plain (OpenSpec.ofChange topTextSpec)) topTextCard

/-- THE SECOND FORM's CARD OF 'arbiterlaw4.SexpShows'. -/
def sexpShowsUptoCard : Claim7 := { stood := { row := sexpShowsUptoRow, standIns := [], harness := (true, "2f895bb22b015566886f24eb3c40b1d2dffa83faed47b251704e0412b2794621"), looks := false }, kinds := [], alts := [], laidByText := true, laidKinds := [.data, .data, .data, .pinned], laidTests := true, laidLooks := .later }
def SexpShowsUptoCardSaid : Prop := Claim7.holds Tryz.pinned (.plain (OpenSpec.upto sexpShowsSpec)) sexpShowsUptoCard

/-- THE SECOND FORM's CARD OF 'arbitertop.TopText'. -/
def topTextUptoCard : Claim7 := { stood := { row := topTextUptoRow, standIns := [], harness := (true, "2f895bb22b015566886f24eb3c40b1d2dffa83faed47b251704e0412b2794621"), looks := false }, kinds := [], alts := [], laidByText := true, laidKinds := [.data, .data, .data, .pinned], laidTests := true, laidLooks := .later }
def TopTextUptoCardSaid : Prop := Claim7.holds Tryz.pinned (.plain (OpenSpec.upto topTextSpec)) topTextUptoCard
end Rows
end Go.Proofs.YtackibimlpkcmaaGreatDoor
