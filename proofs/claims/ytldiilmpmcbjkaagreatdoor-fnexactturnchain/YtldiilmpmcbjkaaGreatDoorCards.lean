/-
  DERIVED. GIVEN WITH THE SEED: THE CARDS: each row of YtldiilmpmcbjkaaGreatDoorRows.lean that lists a variable, with what it lists TIED to the program's text (the seventh form; the later family's looks); each row that meets fmt, with fmt's text TOLD by the authors' own Lean function (tested against real Go, not proved from fmt's source: count such statements apart). THE CARD IS WHAT COUNTS. Prove the row's statement (the work); the ties are given (YtldiilmpmcbjkaaGreatDoorTie.lean); close each card by the builder's one call (the guide's Derived/Test/ToyasCard.lean, 'card_holds'). Laid BY PROGRAM, IN A SANDBOX (cutbox-door.mjs). By AI agents, Wed Nov 11 2026. No macro, syntax, notation, axiom, sorry.
-/
import Derived.Test.YtldiilmpmcbjkaaGreatDoorRows
import GoSem.ClaimSeven
namespace Go.Proofs.YtldiilmpmcbjkaaGreatDoor
namespace Rows

/-- THE TIED CARD OF 'laws.FnExactTurnChain'. -/
def fnExactTurnChainCard : Claim7 := { stood := { row := fnExactTurnChainRow, standIns := [], harness := (true, "a8f2b759658fecd7f4ce94ffbfb496fea80bcb403f389d9c7ee857082e0c5336"), looks := false }, kinds := [], alts := [], laidByText := true, laidKinds := [.data, .data], laidTests := true, laidLooks := .later }
def FnExactTurnChainCardSaid : Prop := Claim7.holds Tryz.pinned (.plain (OpenSpec.ofChange fnExactTurnChainSpec)) fnExactTurnChainCard

/-- THE SECOND FORM's CARD OF 'laws.FnExactTurnChain'. -/
def fnExactTurnChainUptoCard : Claim7 := { stood := { row := fnExactTurnChainUptoRow, standIns := [], harness := (true, "a8f2b759658fecd7f4ce94ffbfb496fea80bcb403f389d9c7ee857082e0c5336"), looks := false }, kinds := [], alts := [], laidByText := true, laidKinds := [.data, .data], laidTests := true, laidLooks := .later }
def FnExactTurnChainUptoCardSaid : Prop := Claim7.holds Tryz.pinned (.plain (OpenSpec.upto fnExactTurnChainSpec)) fnExactTurnChainUptoCard
end Rows
end Go.Proofs.YtldiilmpmcbjkaaGreatDoor
