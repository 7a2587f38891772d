/-
  DERIVED. GIVEN WITH THE SEED: THE CARDS: each row of YtnmbdannipebnaaGreatDoorRows.lean that lists a variable, with what it lists TIED to the program's text (the seventh form; the later family's looks); each row that meets fmt, with fmt's text TOLD by the authors' own Lean function (tested against real Go, not proved from fmt's source: count such statements apart). THE CARD IS WHAT COUNTS. Prove the row's statement (the work); the ties are given (YtnmbdannipebnaaGreatDoorTie.lean); close each card by the builder's one call (the guide's Derived/Test/ToyasCard.lean, 'card_holds'). Laid BY PROGRAM, IN A SANDBOX (cutbox-door.mjs). By AI agents, Wed Nov 11 2026. No macro, syntax, notation, axiom, sorry.
-/
import Derived.Test.YtnmbdannipebnaaGreatDoorRows
import GoSem.ClaimSeven
namespace Go.Proofs.YtnmbdannipebnaaGreatDoor
namespace Rows

/-- THE TIED CARD OF 'laws.FnExactCheckNext'. -/
def fnExactCheckNextCard : Claim7 := { stood := { row := fnExactCheckNextRow, standIns := [], harness := (true, "fa13d8cf75996c74695e1eed8891bbb34e1f1c157148803bbb0f845bcaa318f6"), looks := true }, kinds := [], alts := [], laidByText := true, laidKinds := [.handle, .data, .data], laidTests := true, laidLooks := .later }
def FnExactCheckNextCardSaid : Prop := Claim7.holds Tryz.pinned (.plain (OpenSpec.ofChange fnExactCheckNextSpec)) fnExactCheckNextCard

/-- THE TIED CARD OF 'laws.FnExactMakeNext'. -/
def fnExactMakeNextCard : Claim7 := { stood := { row := fnExactMakeNextRow, standIns := [], harness := (true, "fa13d8cf75996c74695e1eed8891bbb34e1f1c157148803bbb0f845bcaa318f6"), looks := true }, kinds := [], alts := [], laidByText := true, laidKinds := [.data, .data], laidTests := true, laidLooks := .later }
def FnExactMakeNextCardSaid : Prop := Claim7.holds Tryz.pinned (.plain (OpenSpec.ofChange fnExactMakeNextSpec)) fnExactMakeNextCard

/-- THE SECOND FORM's CARD OF 'laws.FnExactCheckNext'. -/
def fnExactCheckNextUptoCard : Claim7 := { stood := { row := fnExactCheckNextUptoRow, standIns := [], harness := (true, "fa13d8cf75996c74695e1eed8891bbb34e1f1c157148803bbb0f845bcaa318f6"), looks := true }, kinds := [], alts := [], laidByText := true, laidKinds := [.handle, .data, .data], laidTests := true, laidLooks := .later }
def FnExactCheckNextUptoCardSaid : Prop := Claim7.holds Tryz.pinned (.plain (OpenSpec.upto fnExactCheckNextSpec)) fnExactCheckNextUptoCard

/-- THE SECOND FORM's CARD OF 'laws.FnExactMakeNext'. -/
def fnExactMakeNextUptoCard : Claim7 := { stood := { row := fnExactMakeNextUptoRow, standIns := [], harness := (true, "fa13d8cf75996c74695e1eed8891bbb34e1f1c157148803bbb0f845bcaa318f6"), looks := true }, kinds := [], alts := [], laidByText := true, laidKinds := [.data, .data], laidTests := true, laidLooks := .later }
def FnExactMakeNextUptoCardSaid : Prop := Claim7.holds Tryz.pinned (.plain (OpenSpec.upto fnExactMakeNextSpec)) fnExactMakeNextUptoCard
end Rows
end Go.Proofs.YtnmbdannipebnaaGreatDoor
