/-
  DERIVED. GIVEN WITH THE SEED: THE CARDS: each row of YtpkfgffgldjceaaDoorRows.lean that lists a variable, with what it lists TIED to the program's text (the seventh form; the later family's looks); each row that meets fmt, with fmt's text TOLD by the authors' own Lean function (tested against real Go, not proved from fmt's source: count such statements apart). THE CARD IS WHAT COUNTS. Prove the row's statement (the work); the ties are given (YtpkfgffgldjceaaDoorTie.lean); close each card by the builder's one call (the guide's Derived/Test/ToyasCard.lean, 'card_holds'). Laid BY PROGRAM, IN A SANDBOX (cutbox-door.mjs). By AI agents, Wed Nov 11 2026. No macro, syntax, notation, axiom, sorry.
-/
import Derived.Test.YtpkfgffgldjceaaDoorRows
import GoSem.ClaimSeven
namespace Go.Proofs.YtpkfgffgldjceaaDoor
namespace Rows

/-- THE TIED CARD OF 'laws.FnExactSnapText'. -/
def fnExactSnapTextCard : Claim7 := { stood := { row := fnExactSnapTextRow, standIns := [], harness := (true, "b4ff2abf42c82de64edaba61cb364a2e0ae132760394bf979e47db4b6f9b2c16"), looks := false }, kinds := [], alts := [], laidByText := true, laidKinds := [.data, .data, .data], laidTests := true, laidLooks := .later }
def FnExactSnapTextCardSaid : Prop := Claim7.holds Tryd.pinned (.plain (OpenSpec.ofChange fnExactSnapTextSpec)) fnExactSnapTextCard

/-- THE TIED CARD OF 'laws.FnExactWordsOf'. -/
def fnExactWordsOfCard : Claim7 := { stood := { row := fnExactWordsOfRow, standIns := [], harness := (true, "b4ff2abf42c82de64edaba61cb364a2e0ae132760394bf979e47db4b6f9b2c16"), looks := false }, kinds := [], alts := [], laidByText := true, laidKinds := [.data, .pinned], laidTests := true, laidLooks := .later }
def FnExactWordsOfCardSaid : Prop := Claim7.holds Tryd.pinned (.plain (OpenSpec.ofChange fnExactWordsOfSpec)) fnExactWordsOfCard

/-- THE SECOND FORM's CARD OF 'laws.FnExactSnapText'. -/
def fnExactSnapTextUptoCard : Claim7 := { stood := { row := fnExactSnapTextUptoRow, standIns := [], harness := (true, "b4ff2abf42c82de64edaba61cb364a2e0ae132760394bf979e47db4b6f9b2c16"), looks := false }, kinds := [], alts := [], laidByText := true, laidKinds := [.data, .data, .data], laidTests := true, laidLooks := .later }
def FnExactSnapTextUptoCardSaid : Prop := Claim7.holds Tryd.pinned (.plain (OpenSpec.upto fnExactSnapTextSpec)) fnExactSnapTextUptoCard

/-- THE SECOND FORM's CARD OF 'laws.FnExactWordsOf'. -/
def fnExactWordsOfUptoCard : Claim7 := { stood := { row := fnExactWordsOfUptoRow, standIns := [], harness := (true, "b4ff2abf42c82de64edaba61cb364a2e0ae132760394bf979e47db4b6f9b2c16"), looks := false }, kinds := [], alts := [], laidByText := true, laidKinds := [.data, .pinned], laidTests := true, laidLooks := .later }
def FnExactWordsOfUptoCardSaid : Prop := Claim7.holds Tryd.pinned (.plain (OpenSpec.upto fnExactWordsOfSpec)) fnExactWordsOfUptoCard
end Rows
end Go.Proofs.YtpkfgffgldjceaaDoor
