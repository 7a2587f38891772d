/-
  DERIVED. GIVEN WITH THE SEED: THE CARDS: each row of YtbncoiljklagkaaGreatDoorRows.lean that lists a variable, with what it lists TIED to the program's text (the seventh form; the later family's looks); each row that meets fmt, with fmt's text TOLD by the authors' own Lean function (tested against real Go, not proved from fmt's source: count such statements apart). THE CARD IS WHAT COUNTS. Prove the row's statement (the work); the ties are given (YtbncoiljklagkaaGreatDoorTie.lean); close each card by the builder's one call (the guide's Derived/Test/ToyasCard.lean, 'card_holds'). Laid BY PROGRAM, IN A SANDBOX (cutbox-door.mjs). By AI agents, Wed Nov 11 2026. No macro, syntax, notation, axiom, sorry.
-/
import Derived.Test.YtbncoiljklagkaaGreatDoorRows
import GoSem.ClaimSeven
namespace Go.Proofs.YtbncoiljklagkaaGreatDoor
namespace Rows

/-- THE TIED CARD OF 'laws.FnExactSignHeader'. -/
def fnExactSignHeaderCard : Claim7 := { stood := { row := fnExactSignHeaderRow, standIns := [], harness := (true, "dcd518e16c73001a9d1180eb6b69aa22bb8c30f5c10d9e9b708a922df1144db7"), looks := false }, kinds := [], alts := [], laidByText := true, laidKinds := [.data, .data], laidTests := true, laidLooks := .later }
def FnExactSignHeaderCardSaid : Prop := Claim7.holds Tryz.pinned (.plain (OpenSpec.ofChange fnExactSignHeaderSpec)) fnExactSignHeaderCard

/-- THE SECOND FORM's CARD OF 'laws.FnExactSignHeader'. -/
def fnExactSignHeaderUptoCard : Claim7 := { stood := { row := fnExactSignHeaderUptoRow, standIns := [], harness := (true, "dcd518e16c73001a9d1180eb6b69aa22bb8c30f5c10d9e9b708a922df1144db7"), looks := false }, kinds := [], alts := [], laidByText := true, laidKinds := [.data, .data], laidTests := true, laidLooks := .later }
def FnExactSignHeaderUptoCardSaid : Prop := Claim7.holds Tryz.pinned (.plain (OpenSpec.upto fnExactSignHeaderSpec)) fnExactSignHeaderUptoCard
end Rows
end Go.Proofs.YtbncoiljklagkaaGreatDoor
