/-
  DERIVED. GIVEN WITH THE SEED: THE CARDS: each row of YtbncoiljklagkaaDoorRows.lean that lists a variable, with what it lists TIED to the program's text (the seventh form; the later family's looks); each row that meets fmt, with fmt's text TOLD by the authors' own Lean function (tested against real Go, not proved from fmt's source: count such statements apart). THE CARD IS WHAT COUNTS. Prove the row's statement (the work); the ties are given (YtbncoiljklagkaaDoorTie.lean); close each card by the builder's one call (the guide's Derived/Test/ToyasCard.lean, 'card_holds'). Laid BY PROGRAM, IN A SANDBOX (cutbox-door.mjs). By AI agents, Wed Nov 11 2026. No macro, syntax, notation, axiom, sorry.
-/
import Derived.Test.YtbncoiljklagkaaDoorRows
import GoSem.ClaimSeven
namespace Go.Proofs.YtbncoiljklagkaaDoor
namespace Rows

/-- THE TIED CARD OF 'laws.FnExactHashOf'. -/
def fnExactHashOfCard : Claim7 := { stood := { row := fnExactHashOfRow, standIns := [], harness := (true, "c4363c0b734e90b220c868ce2a1ed21bff34629fef80a1c44f6f4e19ff8a53db"), looks := false }, kinds := [], alts := [], laidByText := true, laidKinds := [.data, .data], laidTests := true, laidLooks := .later }
def FnExactHashOfCardSaid : Prop := Claim7.holds Tryd.pinned (.plain (OpenSpec.ofChange fnExactHashOfSpec)) fnExactHashOfCard

/-- THE TIED CARD OF 'laws.FnExactSealHash'. -/
def fnExactSealHashCard : Claim7 := { stood := { row := fnExactSealHashRow, standIns := [], harness := (true, "c4363c0b734e90b220c868ce2a1ed21bff34629fef80a1c44f6f4e19ff8a53db"), looks := false }, kinds := [], alts := [], laidByText := true, laidKinds := [.data, .data], laidTests := true, laidLooks := .later }
def FnExactSealHashCardSaid : Prop := Claim7.holds Tryd.pinned (.plain (OpenSpec.ofChange fnExactSealHashSpec)) fnExactSealHashCard

/-- THE TIED CARD OF 'laws.FnExactSealOf'. -/
def fnExactSealOfCard : Claim7 := { stood := { row := fnExactSealOfRow, standIns := [], harness := (true, "c4363c0b734e90b220c868ce2a1ed21bff34629fef80a1c44f6f4e19ff8a53db"), looks := false }, kinds := [], alts := [], laidByText := true, laidKinds := [.data, .data], laidTests := true, laidLooks := .later }
def FnExactSealOfCardSaid : Prop := Claim7.holds Tryd.pinned (.plain (OpenSpec.ofChange fnExactSealOfSpec)) fnExactSealOfCard

/-- THE TIED CARD OF 'laws.FnExactCommitOf'. -/
def fnExactCommitOfCard : Claim7 := { stood := { row := fnExactCommitOfRow, standIns := [], harness := (true, "c4363c0b734e90b220c868ce2a1ed21bff34629fef80a1c44f6f4e19ff8a53db"), looks := false }, kinds := [], alts := [], laidByText := true, laidKinds := [.data, .data], laidTests := true, laidLooks := .later }
def FnExactCommitOfCardSaid : Prop := Claim7.holds Tryd.pinned (.plain (OpenSpec.ofChange fnExactCommitOfSpec)) fnExactCommitOfCard

/-- THE TIED CARD OF 'laws.FnExactCommitHeader'. -/
def fnExactCommitHeaderCard : Claim7 := { stood := { row := fnExactCommitHeaderRow, standIns := [], harness := (true, "c4363c0b734e90b220c868ce2a1ed21bff34629fef80a1c44f6f4e19ff8a53db"), looks := false }, kinds := [], alts := [], laidByText := true, laidKinds := [.data, .data], laidTests := true, laidLooks := .later }
def FnExactCommitHeaderCardSaid : Prop := Claim7.holds Tryd.pinned (.plain (OpenSpec.ofChange fnExactCommitHeaderSpec)) fnExactCommitHeaderCard

/-- THE SECOND FORM's CARD OF 'laws.FnExactHashOf'. -/
def fnExactHashOfUptoCard : Claim7 := { stood := { row := fnExactHashOfUptoRow, standIns := [], harness := (true, "c4363c0b734e90b220c868ce2a1ed21bff34629fef80a1c44f6f4e19ff8a53db"), looks := false }, kinds := [], alts := [], laidByText := true, laidKinds := [.data, .data], laidTests := true, laidLooks := .later }
def FnExactHashOfUptoCardSaid : Prop := Claim7.holds Tryd.pinned (.plain (OpenSpec.upto fnExactHashOfSpec)) fnExactHashOfUptoCard

/-- THE SECOND FORM's CARD OF 'laws.FnExactSealHash'. -/
def fnExactSealHashUptoCard : Claim7 := { stood := { row := fnExactSealHashUptoRow, standIns := [], harness := (true, "c4363c0b734e90b220c868ce2a1ed21bff34629fef80a1c44f6f4e19ff8a53db"), looks := false }, kinds := [], alts := [], laidByText := true, laidKinds := [.data, .data], laidTests := true, laidLooks := .later }
def FnExactSealHashUptoCardSaid : Prop := Claim7.holds Tryd.pinned (.plain (OpenSpec.upto fnExactSealHashSpec)) fnExactSealHashUptoCard

/-- THE SECOND FORM's CARD OF 'laws.FnExactSealOf'. -/
def fnExactSealOfUptoCard : Claim7 := { stood := { row := fnExactSealOfUptoRow, standIns := [], harness := (true, "c4363c0b734e90b220c868ce2a1ed21bff34629fef80a1c44f6f4e19ff8a53db"), looks := false }, kinds := [], alts := [], laidByText := true, laidKinds := [.data, .data], laidTests := true, laidLooks := .later }
def FnExactSealOfUptoCardSaid : Prop := Claim7.holds Tryd.pinned (.plain (OpenSpec.upto fnExactSealOfSpec)) fnExactSealOfUptoCard

/-- THE SECOND FORM's CARD OF 'laws.FnExactCommitOf'. -/
def fnExactCommitOfUptoCard : Claim7 := { stood := { row := fnExactCommitOfUptoRow, standIns := [], harness := (true, "c4363c0b734e90b220c868ce2a1ed21bff34629fef80a1c44f6f4e19ff8a53db"), looks := false }, kinds := [], alts := [], laidByText := true, laidKinds := [.data, .data], laidTests := true, laidLooks := .later }
def FnExactCommitOfUptoCardSaid : Prop := Claim7.holds Tryd.pinned (.plain (OpenSpec.upto fnExactCommitOfSpec)) fnExactCommitOfUptoCard

/-- THE SECOND FORM's CARD OF 'laws.FnExactCommitHeader'. -/
def fnExactCommitHeaderUptoCard : Claim7 := { stood := { row := fnExactCommitHeaderUptoRow, standIns := [], harness := (true, "c4363c0b734e90b220c868ce2a1ed21bff34629fef80a1c44f6f4e19ff8a53db"), looks := false }, kinds := [], alts := [], laidByText := true, laidKinds := [.data, .data], laidTests := true, laidLooks := .later }
def FnExactCommitHeaderUptoCardSaid : Prop := Claim7.holds Tryd.pinned (.plain (OpenSpec.upto fnExactCommitHeaderSpec)) fnExactCommitHeaderUptoCard
end Rows
end Go.Proofs.YtbncoiljklagkaaDoor
