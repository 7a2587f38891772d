/-
  DERIVED. GIVEN WITH THE SEED: THE CARDS: each row of YtibalolpgaoppaaGreatDoorRows.lean that lists a variable, with what it lists TIED to the program's text (the seventh form; the later family's looks); each row that meets fmt, with fmt's text TOLD by the authors' own Lean function (tested against real Go, not proved from fmt's source: count such statements apart). THE CARD IS WHAT COUNTS. Prove the row's statement (the work); the ties are given (YtibalolpgaoppaaGreatDoorTie.lean); close each card by the builder's one call (the guide's Derived/Test/ToyasCard.lean, 'card_holds'). Laid BY PROGRAM, IN A SANDBOX (cutbox-door.mjs). By AI agents, Wed Nov 11 2026. No macro, syntax, notation, axiom, sorry.
-/
import Derived.Test.YtibalolpgaoppaaGreatDoorRows
import GoSem.ClaimSeven
namespace Go.Proofs.YtibalolpgaoppaaGreatDoor
namespace Rows

/-- THE TIED CARD OF 'laws.FnSeals'. -/
def fnSealsCard : Claim7 := { stood := { row := fnSealsRow, standIns := [], harness := (true, "2afe33840bbcb421a5024dc978bd1e0a2a8ede1ec9e728ec45baeb988107c69b"), looks := true }, kinds := [], alts := [], laidByText := true, laidKinds := [.handle, .data, .data], laidTests := true, laidLooks := .later }
def FnSealsCardSaid : Prop := Claim7.holds Tryz.pinned (.plain (OpenSpec.ofChange fnSealsSpec)) fnSealsCard

/-- THE TIED CARD OF 'laws.FnCommits'. -/
def fnCommitsCard : Claim7 := { stood := { row := fnCommitsRow, standIns := [], harness := (true, "2afe33840bbcb421a5024dc978bd1e0a2a8ede1ec9e728ec45baeb988107c69b"), looks := true }, kinds := [], alts := [], laidByText := true, laidKinds := [.handle, .data, .data], laidTests := true, laidLooks := .later }
def FnCommitsCardSaid : Prop := Claim7.holds Tryz.pinned (.plain (OpenSpec.ofChange fnCommitsSpec)) fnCommitsCard

/-- THE TIED CARD OF 'laws.FnExactSealRight'. -/
def fnExactSealRightCard : Claim7 := { stood := { row := fnExactSealRightRow, standIns := [], harness := (true, "2afe33840bbcb421a5024dc978bd1e0a2a8ede1ec9e728ec45baeb988107c69b"), looks := true }, kinds := [], alts := [], laidByText := true, laidKinds := [.handle, .data, .data], laidTests := true, laidLooks := .later }
def FnExactSealRightCardSaid : Prop := Claim7.holds Tryz.pinned (.plain (OpenSpec.ofChange fnExactSealRightSpec)) fnExactSealRightCard

/-- THE TIED CARD OF 'laws.FnExactCommittersOf'. -/
def fnExactCommittersOfCard : Claim7 := { stood := { row := fnExactCommittersOfRow, standIns := [], harness := (true, "2afe33840bbcb421a5024dc978bd1e0a2a8ede1ec9e728ec45baeb988107c69b"), looks := true }, kinds := [], alts := [], laidByText := true, laidKinds := [.handle, .data, .data], laidTests := true, laidLooks := .later }
def FnExactCommittersOfCardSaid : Prop := Claim7.holds Tryz.pinned (.plain (OpenSpec.ofChange fnExactCommittersOfSpec)) fnExactCommittersOfCard

/-- THE SECOND FORM's CARD OF 'laws.FnSeals'. -/
def fnSealsUptoCard : Claim7 := { stood := { row := fnSealsUptoRow, standIns := [], harness := (true, "2afe33840bbcb421a5024dc978bd1e0a2a8ede1ec9e728ec45baeb988107c69b"), looks := true }, kinds := [], alts := [], laidByText := true, laidKinds := [.handle, .data, .data], laidTests := true, laidLooks := .later }
def FnSealsUptoCardSaid : Prop := Claim7.holds Tryz.pinned (.plain (OpenSpec.upto fnSealsSpec)) fnSealsUptoCard

/-- THE SECOND FORM's CARD OF 'laws.FnCommits'. -/
def fnCommitsUptoCard : Claim7 := { stood := { row := fnCommitsUptoRow, standIns := [], harness := (true, "2afe33840bbcb421a5024dc978bd1e0a2a8ede1ec9e728ec45baeb988107c69b"), looks := true }, kinds := [], alts := [], laidByText := true, laidKinds := [.handle, .data, .data], laidTests := true, laidLooks := .later }
def FnCommitsUptoCardSaid : Prop := Claim7.holds Tryz.pinned (.plain (OpenSpec.upto fnCommitsSpec)) fnCommitsUptoCard

/-- THE SECOND FORM's CARD OF 'laws.FnExactSealRight'. -/
def fnExactSealRightUptoCard : Claim7 := { stood := { row := fnExactSealRightUptoRow, standIns := [], harness := (true, "2afe33840bbcb421a5024dc978bd1e0a2a8ede1ec9e728ec45baeb988107c69b"), looks := true }, kinds := [], alts := [], laidByText := true, laidKinds := [.handle, .data, .data], laidTests := true, laidLooks := .later }
def FnExactSealRightUptoCardSaid : Prop := Claim7.holds Tryz.pinned (.plain (OpenSpec.upto fnExactSealRightSpec)) fnExactSealRightUptoCard

/-- THE SECOND FORM's CARD OF 'laws.FnExactCommittersOf'. -/
def fnExactCommittersOfUptoCard : Claim7 := { stood := { row := fnExactCommittersOfUptoRow, standIns := [], harness := (true, "2afe33840bbcb421a5024dc978bd1e0a2a8ede1ec9e728ec45baeb988107c69b"), looks := true }, kinds := [], alts := [], laidByText := true, laidKinds := [.handle, .data, .data], laidTests := true, laidLooks := .later }
def FnExactCommittersOfUptoCardSaid : Prop := Claim7.holds Tryz.pinned (.plain (OpenSpec.upto fnExactCommittersOfSpec)) fnExactCommittersOfUptoCard
end Rows
end Go.Proofs.YtibalolpgaoppaaGreatDoor
