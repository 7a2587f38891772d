/-
  DERIVED. GIVEN WITH THE SEED: THE CARDS: each row of YtifhaihddimdfaaGreatDoorRows.lean that lists a variable, with what it lists TIED to the program's text (the seventh form; the later family's looks); each row that meets fmt, with fmt's text TOLD by the authors' own Lean function (tested against real Go, not proved from fmt's source: count such statements apart). THE CARD IS WHAT COUNTS. Prove the row's statement (the work); the ties are given (YtifhaihddimdfaaGreatDoorTie.lean); close each card by the builder's one call (the guide's Derived/Test/ToyasCard.lean, 'card_holds'). Laid BY PROGRAM, IN A SANDBOX (cutbox-door.mjs). By AI agents, Wed Nov 11 2026. No macro, syntax, notation, axiom, sorry.
-/
import Derived.Test.YtifhaihddimdfaaGreatDoorRows
import GoSem.ClaimSeven
namespace Go.Proofs.YtifhaihddimdfaaGreatDoor
namespace Rows

/-- THE TIED CARD OF 'laws.FnSeals'. -/
def fnSealsCard : Claim7 := { stood := { row := fnSealsRow, standIns := [], harness := (true, "16417fa94c9709e46d354e6668aa2ae3ec2140e546bb9d3fbd289a7ed8c8dda2"), looks := true }, kinds := [], alts := [], laidByText := true, laidKinds := [.handle, .data, .data], laidTests := true, laidLooks := .later }
def FnSealsCardSaid : Prop := Claim7.holds Tryz.pinned (.plain (OpenSpec.ofChange fnSealsSpec)) fnSealsCard

/-- THE TIED CARD OF 'laws.FnCommits'. -/
def fnCommitsCard : Claim7 := { stood := { row := fnCommitsRow, standIns := [], harness := (true, "16417fa94c9709e46d354e6668aa2ae3ec2140e546bb9d3fbd289a7ed8c8dda2"), looks := true }, kinds := [], alts := [], laidByText := true, laidKinds := [.handle, .data, .data], laidTests := true, laidLooks := .later }
def FnCommitsCardSaid : Prop := Claim7.holds Tryz.pinned (.plain (OpenSpec.ofChange fnCommitsSpec)) fnCommitsCard

/-- THE TIED CARD OF 'laws.FnExactCommitsRight'. -/
def fnExactCommitsRightCard : Claim7 := { stood := { row := fnExactCommitsRightRow, standIns := [], harness := (true, "16417fa94c9709e46d354e6668aa2ae3ec2140e546bb9d3fbd289a7ed8c8dda2"), looks := true }, kinds := [], alts := [], laidByText := true, laidKinds := [.handle, .data, .data], laidTests := true, laidLooks := .later }
def FnExactCommitsRightCardSaid : Prop := Claim7.holds Tryz.pinned (.plain (OpenSpec.ofChange fnExactCommitsRightSpec)) fnExactCommitsRightCard

/-- THE SECOND FORM's CARD OF 'laws.FnSeals'. -/
def fnSealsUptoCard : Claim7 := { stood := { row := fnSealsUptoRow, standIns := [], harness := (true, "16417fa94c9709e46d354e6668aa2ae3ec2140e546bb9d3fbd289a7ed8c8dda2"), looks := true }, kinds := [], alts := [], laidByText := true, laidKinds := [.handle, .data, .data], laidTests := true, laidLooks := .later }
def FnSealsUptoCardSaid : Prop := Claim7.holds Tryz.pinned (.plain (OpenSpec.upto fnSealsSpec)) fnSealsUptoCard

/-- THE SECOND FORM's CARD OF 'laws.FnCommits'. -/
def fnCommitsUptoCard : Claim7 := { stood := { row := fnCommitsUptoRow, standIns := [], harness := (true, "16417fa94c9709e46d354e6668aa2ae3ec2140e546bb9d3fbd289a7ed8c8dda2"), looks := true }, kinds := [], alts := [], laidByText := true, laidKinds := [.handle, .data, .data], laidTests := true, laidLooks := .later }
def FnCommitsUptoCardSaid : Prop := Claim7.holds Tryz.pinned (.plain (OpenSpec.upto fnCommitsSpec)) fnCommitsUptoCard

/-- THE SECOND FORM's CARD OF 'laws.FnExactCommitsRight'. -/
def fnExactCommitsRightUptoCard : Claim7 := { stood := { row := fnExactCommitsRightUptoRow, standIns := [], harness := (true, "16417fa94c9709e46d354e6668aa2ae3ec2140e546bb9d3fbd289a7ed8c8dda2"), looks := true }, kinds := [], alts := [], laidByText := true, laidKinds := [.handle, .data, .data], laidTests := true, laidLooks := .later }
def FnExactCommitsRightUptoCardSaid : Prop := Claim7.holds Tryz.pinned (.plain (OpenSpec.upto fnExactCommitsRightSpec)) fnExactCommitsRightUptoCard
end Rows
end Go.Proofs.YtifhaihddimdfaaGreatDoor
