/-
  DERIVED. GIVEN WITH THE SEED: THE CARDS: each row of YtjdeobifhgdffaaDoorRows.lean that lists a variable, with what it lists TIED to the program's text (the seventh form; the later family's looks); each row that meets fmt, with fmt's text TOLD by the authors' own Lean function (tested against real Go, not proved from fmt's source: count such statements apart). THE CARD IS WHAT COUNTS. Prove the row's statement (the work); the ties are given (YtjdeobifhgdffaaDoorTie.lean); close each card by the builder's one call (the guide's Derived/Test/ToyasCard.lean, 'card_holds'). Laid BY PROGRAM, IN A SANDBOX (cutbox-door.mjs). By AI agents, Wed Nov 11 2026. No macro, syntax, notation, axiom, sorry.
-/
import Derived.Test.YtjdeobifhgdffaaDoorRows
import GoSem.ClaimSeven
namespace Go.Proofs.YtjdeobifhgdffaaDoor
namespace Rows

/-- THE TIED CARD OF 'laws.FnHashes'. -/
def fnHashesCard : Claim7 := { stood := { row := fnHashesRow, standIns := [], harness := (true, "8fb82aef3546d4fbe102ab085a09d54084eaa6e19a48c78496d940167a67fe92"), looks := false }, kinds := [], alts := [], laidByText := true, laidKinds := [.data, .data], laidTests := true, laidLooks := .later }
def FnHashesCardSaid : Prop := Claim7.holds Tryd.pinned (.plain (OpenSpec.ofChange fnHashesSpec)) fnHashesCard

/-- THE TIED CARD OF 'laws.FnLanes'. -/
def fnLanesCard : Claim7 := { stood := { row := fnLanesRow, standIns := [], harness := (true, "8fb82aef3546d4fbe102ab085a09d54084eaa6e19a48c78496d940167a67fe92"), looks := false }, kinds := [], alts := [], laidByText := true, laidKinds := [.data, .data], laidTests := true, laidLooks := .later }
def FnLanesCardSaid : Prop := Claim7.holds Tryd.pinned (.plain (OpenSpec.ofChange fnLanesSpec)) fnLanesCard

/-- THE TIED CARD OF 'laws.FnExactKeccakOf'. -/
def fnExactKeccakOfCard : Claim7 := { stood := { row := fnExactKeccakOfRow, standIns := [], harness := (true, "8fb82aef3546d4fbe102ab085a09d54084eaa6e19a48c78496d940167a67fe92"), looks := false }, kinds := [], alts := [], laidByText := true, laidKinds := [.data, .data], laidTests := true, laidLooks := .later }
def FnExactKeccakOfCardSaid : Prop := Claim7.holds Tryd.pinned (.plain (OpenSpec.ofChange fnExactKeccakOfSpec)) fnExactKeccakOfCard

/-- THE TIED CARD OF 'laws.FnExactHashText'. -/
def fnExactHashTextCard : Claim7 := { stood := { row := fnExactHashTextRow, standIns := [], harness := (true, "8fb82aef3546d4fbe102ab085a09d54084eaa6e19a48c78496d940167a67fe92"), looks := false }, kinds := [], alts := [], laidByText := true, laidKinds := [.data, .data], laidTests := true, laidLooks := .later }
def FnExactHashTextCardSaid : Prop := Claim7.holds Tryd.pinned (.plain (OpenSpec.ofChange fnExactHashTextSpec)) fnExactHashTextCard

/-- THE SECOND FORM's CARD OF 'laws.FnHashes'. -/
def fnHashesUptoCard : Claim7 := { stood := { row := fnHashesUptoRow, standIns := [], harness := (true, "8fb82aef3546d4fbe102ab085a09d54084eaa6e19a48c78496d940167a67fe92"), looks := false }, kinds := [], alts := [], laidByText := true, laidKinds := [.data, .data], laidTests := true, laidLooks := .later }
def FnHashesUptoCardSaid : Prop := Claim7.holds Tryd.pinned (.plain (OpenSpec.upto fnHashesSpec)) fnHashesUptoCard

/-- THE SECOND FORM's CARD OF 'laws.FnLanes'. -/
def fnLanesUptoCard : Claim7 := { stood := { row := fnLanesUptoRow, standIns := [], harness := (true, "8fb82aef3546d4fbe102ab085a09d54084eaa6e19a48c78496d940167a67fe92"), looks := false }, kinds := [], alts := [], laidByText := true, laidKinds := [.data, .data], laidTests := true, laidLooks := .later }
def FnLanesUptoCardSaid : Prop := Claim7.holds Tryd.pinned (.plain (OpenSpec.upto fnLanesSpec)) fnLanesUptoCard

/-- THE SECOND FORM's CARD OF 'laws.FnExactKeccakOf'. -/
def fnExactKeccakOfUptoCard : Claim7 := { stood := { row := fnExactKeccakOfUptoRow, standIns := [], harness := (true, "8fb82aef3546d4fbe102ab085a09d54084eaa6e19a48c78496d940167a67fe92"), looks := false }, kinds := [], alts := [], laidByText := true, laidKinds := [.data, .data], laidTests := true, laidLooks := .later }
def FnExactKeccakOfUptoCardSaid : Prop := Claim7.holds Tryd.pinned (.plain (OpenSpec.upto fnExactKeccakOfSpec)) fnExactKeccakOfUptoCard

/-- THE SECOND FORM's CARD OF 'laws.FnExactHashText'. -/
def fnExactHashTextUptoCard : Claim7 := { stood := { row := fnExactHashTextUptoRow, standIns := [], harness := (true, "8fb82aef3546d4fbe102ab085a09d54084eaa6e19a48c78496d940167a67fe92"), looks := false }, kinds := [], alts := [], laidByText := true, laidKinds := [.data, .data], laidTests := true, laidLooks := .later }
def FnExactHashTextUptoCardSaid : Prop := Claim7.holds Tryd.pinned (.plain (OpenSpec.upto fnExactHashTextSpec)) fnExactHashTextUptoCard
end Rows
end Go.Proofs.YtjdeobifhgdffaaDoor
