/-
  DERIVED. GIVEN WITH THE SEED: THE CARDS: each row of YtjjbkbinjmfnlaaGreatDoorRows.lean that lists a variable, with what it lists TIED to the program's text (the seventh form; the later family's looks); each row that meets fmt, with fmt's text TOLD by the authors' own Lean function (tested against real Go, not proved from fmt's source: count such statements apart). THE CARD IS WHAT COUNTS. Prove the row's statement (the work); the ties are given (YtjjbkbinjmfnlaaGreatDoorTie.lean); close each card by the builder's one call (the guide's Derived/Test/ToyasCard.lean, 'card_holds'). Laid BY PROGRAM, IN A SANDBOX (cutbox-door.mjs). By AI agents, Wed Nov 11 2026. No macro, syntax, notation, axiom, sorry.
-/
import Derived.Test.YtjjbkbinjmfnlaaGreatDoorRows
import GoSem.ClaimSeven
namespace Go.Proofs.YtjjbkbinjmfnlaaGreatDoor
namespace Rows

/-- THE TIED CARD OF 'laws.FnExactLineOf'. -/
def fnExactLineOfCard : Claim7 := { stood := { row := fnExactLineOfRow, standIns := [], harness := (true, "522ef8968a07804e586ede56a732b14749c85d9770b1404d42bc4966e4cff48a"), looks := false }, kinds := [], alts := [], laidByText := true, laidKinds := [.data, .data], laidTests := true, laidLooks := .later }
def FnExactLineOfCardSaid : Prop := Claim7.holds Tryz.pinned (.plain (OpenSpec.ofChange fnExactLineOfSpec)) fnExactLineOfCard

/-- THE TIED CARD OF 'laws.FnExactIsBetter'. -/
def fnExactIsBetterCard : Claim7 := { stood := { row := fnExactIsBetterRow, standIns := [], harness := (true, "522ef8968a07804e586ede56a732b14749c85d9770b1404d42bc4966e4cff48a"), looks := false }, kinds := [], alts := [], laidByText := true, laidKinds := [.data, .data], laidTests := true, laidLooks := .later }
def FnExactIsBetterCardSaid : Prop := Claim7.holds Tryz.pinned (.plain (OpenSpec.ofChange fnExactIsBetterSpec)) fnExactIsBetterCard

/-- THE TIED CARD OF 'laws.FnExactHeadOf'. -/
def fnExactHeadOfCard : Claim7 := { stood := { row := fnExactHeadOfRow, standIns := [], harness := (true, "522ef8968a07804e586ede56a732b14749c85d9770b1404d42bc4966e4cff48a"), looks := false }, kinds := [], alts := [], laidByText := true, laidKinds := [.data, .data], laidTests := true, laidLooks := .later }
def FnExactHeadOfCardSaid : Prop := Claim7.holds Tryz.pinned (.plain (OpenSpec.ofChange fnExactHeadOfSpec)) fnExactHeadOfCard

/-- THE TIED CARD OF 'laws.FnExactCanonOf'. -/
def fnExactCanonOfCard : Claim7 := { stood := { row := fnExactCanonOfRow, standIns := [], harness := (true, "522ef8968a07804e586ede56a732b14749c85d9770b1404d42bc4966e4cff48a"), looks := false }, kinds := [], alts := [], laidByText := true, laidKinds := [.data, .data], laidTests := true, laidLooks := .later }
def FnExactCanonOfCardSaid : Prop := Claim7.holds Tryz.pinned (.plain (OpenSpec.ofChange fnExactCanonOfSpec)) fnExactCanonOfCard

/-- THE TIED CARD OF 'laws.FnExactAtNumber'. -/
def fnExactAtNumberCard : Claim7 := { stood := { row := fnExactAtNumberRow, standIns := [], harness := (true, "522ef8968a07804e586ede56a732b14749c85d9770b1404d42bc4966e4cff48a"), looks := false }, kinds := [], alts := [], laidByText := true, laidKinds := [.data, .data], laidTests := true, laidLooks := .later }
def FnExactAtNumberCardSaid : Prop := Claim7.holds Tryz.pinned (.plain (OpenSpec.ofChange fnExactAtNumberSpec)) fnExactAtNumberCard

/-- THE TIED CARD OF 'laws.FnExactCommonOf'. -/
def fnExactCommonOfCard : Claim7 := { stood := { row := fnExactCommonOfRow, standIns := [], harness := (true, "522ef8968a07804e586ede56a732b14749c85d9770b1404d42bc4966e4cff48a"), looks := false }, kinds := [], alts := [], laidByText := true, laidKinds := [.data, .data], laidTests := true, laidLooks := .later }
def FnExactCommonOfCardSaid : Prop := Claim7.holds Tryz.pinned (.plain (OpenSpec.ofChange fnExactCommonOfSpec)) fnExactCommonOfCard

/-- THE SECOND FORM's CARD OF 'laws.FnExactLineOf'. -/
def fnExactLineOfUptoCard : Claim7 := { stood := { row := fnExactLineOfUptoRow, standIns := [], harness := (true, "522ef8968a07804e586ede56a732b14749c85d9770b1404d42bc4966e4cff48a"), looks := false }, kinds := [], alts := [], laidByText := true, laidKinds := [.data, .data], laidTests := true, laidLooks := .later }
def FnExactLineOfUptoCardSaid : Prop := Claim7.holds Tryz.pinned (.plain (OpenSpec.upto fnExactLineOfSpec)) fnExactLineOfUptoCard

/-- THE SECOND FORM's CARD OF 'laws.FnExactIsBetter'. -/
def fnExactIsBetterUptoCard : Claim7 := { stood := { row := fnExactIsBetterUptoRow, standIns := [], harness := (true, "522ef8968a07804e586ede56a732b14749c85d9770b1404d42bc4966e4cff48a"), looks := false }, kinds := [], alts := [], laidByText := true, laidKinds := [.data, .data], laidTests := true, laidLooks := .later }
def FnExactIsBetterUptoCardSaid : Prop := Claim7.holds Tryz.pinned (.plain (OpenSpec.upto fnExactIsBetterSpec)) fnExactIsBetterUptoCard

/-- THE SECOND FORM's CARD OF 'laws.FnExactHeadOf'. -/
def fnExactHeadOfUptoCard : Claim7 := { stood := { row := fnExactHeadOfUptoRow, standIns := [], harness := (true, "522ef8968a07804e586ede56a732b14749c85d9770b1404d42bc4966e4cff48a"), looks := false }, kinds := [], alts := [], laidByText := true, laidKinds := [.data, .data], laidTests := true, laidLooks := .later }
def FnExactHeadOfUptoCardSaid : Prop := Claim7.holds Tryz.pinned (.plain (OpenSpec.upto fnExactHeadOfSpec)) fnExactHeadOfUptoCard

/-- THE SECOND FORM's CARD OF 'laws.FnExactCanonOf'. -/
def fnExactCanonOfUptoCard : Claim7 := { stood := { row := fnExactCanonOfUptoRow, standIns := [], harness := (true, "522ef8968a07804e586ede56a732b14749c85d9770b1404d42bc4966e4cff48a"), looks := false }, kinds := [], alts := [], laidByText := true, laidKinds := [.data, .data], laidTests := true, laidLooks := .later }
def FnExactCanonOfUptoCardSaid : Prop := Claim7.holds Tryz.pinned (.plain (OpenSpec.upto fnExactCanonOfSpec)) fnExactCanonOfUptoCard

/-- THE SECOND FORM's CARD OF 'laws.FnExactAtNumber'. -/
def fnExactAtNumberUptoCard : Claim7 := { stood := { row := fnExactAtNumberUptoRow, standIns := [], harness := (true, "522ef8968a07804e586ede56a732b14749c85d9770b1404d42bc4966e4cff48a"), looks := false }, kinds := [], alts := [], laidByText := true, laidKinds := [.data, .data], laidTests := true, laidLooks := .later }
def FnExactAtNumberUptoCardSaid : Prop := Claim7.holds Tryz.pinned (.plain (OpenSpec.upto fnExactAtNumberSpec)) fnExactAtNumberUptoCard

/-- THE SECOND FORM's CARD OF 'laws.FnExactCommonOf'. -/
def fnExactCommonOfUptoCard : Claim7 := { stood := { row := fnExactCommonOfUptoRow, standIns := [], harness := (true, "522ef8968a07804e586ede56a732b14749c85d9770b1404d42bc4966e4cff48a"), looks := false }, kinds := [], alts := [], laidByText := true, laidKinds := [.data, .data], laidTests := true, laidLooks := .later }
def FnExactCommonOfUptoCardSaid : Prop := Claim7.holds Tryz.pinned (.plain (OpenSpec.upto fnExactCommonOfSpec)) fnExactCommonOfUptoCard
end Rows
end Go.Proofs.YtjjbkbinjmfnlaaGreatDoor
