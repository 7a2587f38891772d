/-
  NARROWER THAN 'FOR EVERY INPUT', by the rows' own cells (each row's printed sentence says how): FnExactLineOf: laid · FnExactIsBetter: laid · FnExactHeadOf: laid · FnExactCanonOf: laid · FnExactAtNumber: laid · FnExactCommonOf: laid.
  DERIVED. THE GIVEN ROWS OF THIS SEAT. 6 by the template 'for every input the law returns true; each argument reads behind the call as it read before'; 0 by the template 'total and deterministic' (their statements: YtjjbkbinjmfnlaaGreatDoorTotals.lean).
  GIVEN WITH THE SEED: the statements are not yours to turn. If you find one false, say at which input.
  Laid BY PROGRAM, IN A SANDBOX (cutbox-rows.mjs): the forced cells as the released guide's own fill.sh prints them over the translation acd6e3ceb8d6b370… (all of the seat's roots in one cut). By AI agents, Wed Nov 11 2026. No macro, syntax, notation, axiom, sorry.
-/
import Derived.Test.YtjjbkbinjmfnlaaGreatDoorChecked
import GoSem.Claim
import GoSem.ClaimJoined
import GoSem.ClaimMapViews
import Derived.JoinedTies
import Derived.KernelRfl
namespace Go.Proofs.YtjjbkbinjmfnlaaGreatDoor
/- THE CELL 'sum', in the pinned program and in every row, IS THE sha256 OF THE DUMP (.gsa) THAT YtjjbkbinjmfnlaaGreatDoorProg.lean LOADS. Nothing in Lean hashes anything: it is a label: what it is worth is what the hold of that sum in a sandbox is worth. -/
noncomputable def Tryz.pinned : Pinned := { name := "ytjjbkbinjmfnlaagreatdoor", sum := "acd6e3ceb8d6b370fa258345b36d9a396c80241810bb747d902e605fa0767a9e", checked := Tryz.checked }
namespace Rows
def none {H : Type} : Left H := { results := [], args := [] }

/- WHAT THE LISTED PACKAGE-LEVEL VARIABLES READ AS WHEN THE CALL BEGINS. Each datum BY PROGRAM (the guide's laid-datum.mjs) off the statement by which the dump's own 'gosem.cut.vars' lays the variable. In a bare row this is a premise. The card (YtjjbkbinjmfnlaaGreatDoorCards.lean) ties it to the program's text. -/
def laid_loop_example_g00383_impl_laneOffsets {H : Type} : DataW H := .agg [.lit (.int .i64 0), .lit (.int .i64 1), .lit (.int .i64 62), .lit (.int .i64 28), .lit (.int .i64 27), .lit (.int .i64 36), .lit (.int .i64 44), .lit (.int .i64 6), .lit (.int .i64 55), .lit (.int .i64 20), .lit (.int .i64 3), .lit (.int .i64 10), .lit (.int .i64 43), .lit (.int .i64 25), .lit (.int .i64 39), .lit (.int .i64 41), .lit (.int .i64 45), .lit (.int .i64 15), .lit (.int .i64 21), .lit (.int .i64 8), .lit (.int .i64 18), .lit (.int .i64 2), .lit (.int .i64 61), .lit (.int .i64 56), .lit (.int .i64 14)]
def laid_loop_example_g00383_impl_roundConstants {H : Type} : DataW H := .agg [.lit (.int .u64 1), .lit (.int .u64 32898), .lit (.int .u64 9223372036854808714), .lit (.int .u64 9223372039002292224), .lit (.int .u64 32907), .lit (.int .u64 2147483649), .lit (.int .u64 9223372039002292353), .lit (.int .u64 9223372036854808585), .lit (.int .u64 138), .lit (.int .u64 136), .lit (.int .u64 2147516425), .lit (.int .u64 2147483658), .lit (.int .u64 2147516555), .lit (.int .u64 9223372036854775947), .lit (.int .u64 9223372036854808713), .lit (.int .u64 9223372036854808579), .lit (.int .u64 9223372036854808578), .lit (.int .u64 9223372036854775936), .lit (.int .u64 32778), .lit (.int .u64 9223372039002259466), .lit (.int .u64 9223372039002292353), .lit (.int .u64 9223372036854808704), .lit (.int .u64 2147483649), .lit (.int .u64 9223372039002292232)]

/-- 'laws.FnExactLineOf': WHATEVER THE INPUT: true; the input reads as it did. -/
def fnExactLineOfSpec : ChangeSpec := { name := "fnExactLineOf", vars := ["loop.example/g00383/impl.roundConstants", "loop.example/g00383/impl.laneOffsets"], fn := fun _ => fun
  | [d1, d2, g1, g2] => { results := [.lit (.bool true)], args := [d1, d2], vars := [g1, g2] }
  | _ => none }
def fnExactLineOfRow : OpenClaim := { program := "ytjjbkbinjmfnlaagreatdoor", sum := "acd6e3ceb8d6b370fa258345b36d9a396c80241810bb747d902e605fa0767a9e", func := "loop.example/g00383/laws.FnExactLineOf", spec := "fnExactLineOf", inPlace := ["internal/bytealg.Compare"], unfollowed := true, recurses := true, named := ["loop.example/g00383/impl.roundConstants", "loop.example/g00383/impl.laneOffsets"], apart := false, laid := [("loop.example/g00383/impl.laneOffsets", laid_loop_example_g00383_impl_laneOffsets), ("loop.example/g00383/impl.roundConstants", laid_loop_example_g00383_impl_roundConstants)] }
def FnExactLineOfSaid : Prop := fnExactLineOfRow.holds Tryz.pinned (OpenSpec.ofChange fnExactLineOfSpec)

/-- ITS FALSE NEIGHBOUR: 'it returns false'. Refute it at one input. -/
def fnExactLineOfWrong : ChangeSpec := { name := "fnExactLineOf", vars := ["loop.example/g00383/impl.roundConstants", "loop.example/g00383/impl.laneOffsets"], fn := fun _ => fun
  | [d1, d2, g1, g2] => { results := [.lit (.bool false)], args := [d1, d2], vars := [g1, g2] }
  | _ => none }
def FnExactLineOfWrongFalsely : Prop := fnExactLineOfRow.holds Tryz.pinned (OpenSpec.ofChange fnExactLineOfWrong)

/-- 'laws.FnExactIsBetter': WHATEVER THE INPUT: true; the input reads as it did. -/
def fnExactIsBetterSpec : ChangeSpec := { name := "fnExactIsBetter", vars := ["loop.example/g00383/impl.roundConstants", "loop.example/g00383/impl.laneOffsets"], fn := fun _ => fun
  | [d1, d2, d3, g1, g2] => { results := [.lit (.bool true)], args := [d1, d2, d3], vars := [g1, g2] }
  | _ => none }
def fnExactIsBetterRow : OpenClaim := { program := "ytjjbkbinjmfnlaagreatdoor", sum := "acd6e3ceb8d6b370fa258345b36d9a396c80241810bb747d902e605fa0767a9e", func := "loop.example/g00383/laws.FnExactIsBetter", spec := "fnExactIsBetter", inPlace := ["internal/bytealg.Compare"], unfollowed := true, recurses := true, named := ["loop.example/g00383/impl.roundConstants", "loop.example/g00383/impl.laneOffsets"], apart := false, laid := [("loop.example/g00383/impl.laneOffsets", laid_loop_example_g00383_impl_laneOffsets), ("loop.example/g00383/impl.roundConstants", laid_loop_example_g00383_impl_roundConstants)] }
def FnExactIsBetterSaid : Prop := fnExactIsBetterRow.holds Tryz.pinned (OpenSpec.ofChange fnExactIsBetterSpec)

/-- ITS FALSE NEIGHBOUR: 'it returns false'. Refute it at one input. -/
def fnExactIsBetterWrong : ChangeSpec := { name := "fnExactIsBetter", vars := ["loop.example/g00383/impl.roundConstants", "loop.example/g00383/impl.laneOffsets"], fn := fun _ => fun
  | [d1, d2, d3, g1, g2] => { results := [.lit (.bool false)], args := [d1, d2, d3], vars := [g1, g2] }
  | _ => none }
def FnExactIsBetterWrongFalsely : Prop := fnExactIsBetterRow.holds Tryz.pinned (OpenSpec.ofChange fnExactIsBetterWrong)

/-- 'laws.FnExactHeadOf': WHATEVER THE INPUT: true; the input reads as it did. -/
def fnExactHeadOfSpec : ChangeSpec := { name := "fnExactHeadOf", vars := ["loop.example/g00383/impl.roundConstants", "loop.example/g00383/impl.laneOffsets"], fn := fun _ => fun
  | [d, g1, g2] => { results := [.lit (.bool true)], args := [d], vars := [g1, g2] }
  | _ => none }
def fnExactHeadOfRow : OpenClaim := { program := "ytjjbkbinjmfnlaagreatdoor", sum := "acd6e3ceb8d6b370fa258345b36d9a396c80241810bb747d902e605fa0767a9e", func := "loop.example/g00383/laws.FnExactHeadOf", spec := "fnExactHeadOf", inPlace := ["internal/bytealg.Compare"], unfollowed := true, recurses := true, named := ["loop.example/g00383/impl.roundConstants", "loop.example/g00383/impl.laneOffsets"], apart := false, laid := [("loop.example/g00383/impl.laneOffsets", laid_loop_example_g00383_impl_laneOffsets), ("loop.example/g00383/impl.roundConstants", laid_loop_example_g00383_impl_roundConstants)] }
def FnExactHeadOfSaid : Prop := fnExactHeadOfRow.holds Tryz.pinned (OpenSpec.ofChange fnExactHeadOfSpec)

/-- ITS FALSE NEIGHBOUR: 'it returns false'. Refute it at one input. -/
def fnExactHeadOfWrong : ChangeSpec := { name := "fnExactHeadOf", vars := ["loop.example/g00383/impl.roundConstants", "loop.example/g00383/impl.laneOffsets"], fn := fun _ => fun
  | [d, g1, g2] => { results := [.lit (.bool false)], args := [d], vars := [g1, g2] }
  | _ => none }
def FnExactHeadOfWrongFalsely : Prop := fnExactHeadOfRow.holds Tryz.pinned (OpenSpec.ofChange fnExactHeadOfWrong)

/-- 'laws.FnExactCanonOf': WHATEVER THE INPUT: true; the input reads as it did. -/
def fnExactCanonOfSpec : ChangeSpec := { name := "fnExactCanonOf", vars := ["loop.example/g00383/impl.roundConstants", "loop.example/g00383/impl.laneOffsets"], fn := fun _ => fun
  | [d, g1, g2] => { results := [.lit (.bool true)], args := [d], vars := [g1, g2] }
  | _ => none }
def fnExactCanonOfRow : OpenClaim := { program := "ytjjbkbinjmfnlaagreatdoor", sum := "acd6e3ceb8d6b370fa258345b36d9a396c80241810bb747d902e605fa0767a9e", func := "loop.example/g00383/laws.FnExactCanonOf", spec := "fnExactCanonOf", inPlace := ["internal/bytealg.Compare"], unfollowed := true, recurses := true, named := ["loop.example/g00383/impl.roundConstants", "loop.example/g00383/impl.laneOffsets"], apart := false, laid := [("loop.example/g00383/impl.laneOffsets", laid_loop_example_g00383_impl_laneOffsets), ("loop.example/g00383/impl.roundConstants", laid_loop_example_g00383_impl_roundConstants)] }
def FnExactCanonOfSaid : Prop := fnExactCanonOfRow.holds Tryz.pinned (OpenSpec.ofChange fnExactCanonOfSpec)

/-- ITS FALSE NEIGHBOUR: 'it returns false'. Refute it at one input. -/
def fnExactCanonOfWrong : ChangeSpec := { name := "fnExactCanonOf", vars := ["loop.example/g00383/impl.roundConstants", "loop.example/g00383/impl.laneOffsets"], fn := fun _ => fun
  | [d, g1, g2] => { results := [.lit (.bool false)], args := [d], vars := [g1, g2] }
  | _ => none }
def FnExactCanonOfWrongFalsely : Prop := fnExactCanonOfRow.holds Tryz.pinned (OpenSpec.ofChange fnExactCanonOfWrong)

/-- 'laws.FnExactAtNumber': WHATEVER THE INPUT: true; the input reads as it did. -/
def fnExactAtNumberSpec : ChangeSpec := { name := "fnExactAtNumber", vars := ["loop.example/g00383/impl.roundConstants", "loop.example/g00383/impl.laneOffsets"], fn := fun _ => fun
  | [d1, d2, g1, g2] => { results := [.lit (.bool true)], args := [d1, d2], vars := [g1, g2] }
  | _ => none }
def fnExactAtNumberRow : OpenClaim := { program := "ytjjbkbinjmfnlaagreatdoor", sum := "acd6e3ceb8d6b370fa258345b36d9a396c80241810bb747d902e605fa0767a9e", func := "loop.example/g00383/laws.FnExactAtNumber", spec := "fnExactAtNumber", inPlace := ["internal/bytealg.Compare"], unfollowed := true, recurses := true, named := ["loop.example/g00383/impl.roundConstants", "loop.example/g00383/impl.laneOffsets"], apart := false, laid := [("loop.example/g00383/impl.laneOffsets", laid_loop_example_g00383_impl_laneOffsets), ("loop.example/g00383/impl.roundConstants", laid_loop_example_g00383_impl_roundConstants)] }
def FnExactAtNumberSaid : Prop := fnExactAtNumberRow.holds Tryz.pinned (OpenSpec.ofChange fnExactAtNumberSpec)

/-- ITS FALSE NEIGHBOUR: 'it returns false'. Refute it at one input. -/
def fnExactAtNumberWrong : ChangeSpec := { name := "fnExactAtNumber", vars := ["loop.example/g00383/impl.roundConstants", "loop.example/g00383/impl.laneOffsets"], fn := fun _ => fun
  | [d1, d2, g1, g2] => { results := [.lit (.bool false)], args := [d1, d2], vars := [g1, g2] }
  | _ => none }
def FnExactAtNumberWrongFalsely : Prop := fnExactAtNumberRow.holds Tryz.pinned (OpenSpec.ofChange fnExactAtNumberWrong)

/-- 'laws.FnExactCommonOf': WHATEVER THE INPUT: true; the input reads as it did. -/
def fnExactCommonOfSpec : ChangeSpec := { name := "fnExactCommonOf", vars := ["loop.example/g00383/impl.roundConstants", "loop.example/g00383/impl.laneOffsets"], fn := fun _ => fun
  | [d1, d2, d3, g1, g2] => { results := [.lit (.bool true)], args := [d1, d2, d3], vars := [g1, g2] }
  | _ => none }
def fnExactCommonOfRow : OpenClaim := { program := "ytjjbkbinjmfnlaagreatdoor", sum := "acd6e3ceb8d6b370fa258345b36d9a396c80241810bb747d902e605fa0767a9e", func := "loop.example/g00383/laws.FnExactCommonOf", spec := "fnExactCommonOf", inPlace := ["internal/bytealg.Compare"], unfollowed := true, recurses := true, named := ["loop.example/g00383/impl.roundConstants", "loop.example/g00383/impl.laneOffsets"], apart := false, laid := [("loop.example/g00383/impl.laneOffsets", laid_loop_example_g00383_impl_laneOffsets), ("loop.example/g00383/impl.roundConstants", laid_loop_example_g00383_impl_roundConstants)] }
def FnExactCommonOfSaid : Prop := fnExactCommonOfRow.holds Tryz.pinned (OpenSpec.ofChange fnExactCommonOfSpec)

/-- ITS FALSE NEIGHBOUR: 'it returns false'. Refute it at one input. -/
def fnExactCommonOfWrong : ChangeSpec := { name := "fnExactCommonOf", vars := ["loop.example/g00383/impl.roundConstants", "loop.example/g00383/impl.laneOffsets"], fn := fun _ => fun
  | [d1, d2, d3, g1, g2] => { results := [.lit (.bool false)], args := [d1, d2, d3], vars := [g1, g2] }
  | _ => none }
def FnExactCommonOfWrongFalsely : Prop := fnExactCommonOfRow.holds Tryz.pinned (OpenSpec.ofChange fnExactCommonOfWrong)

/- THE SECOND FORM. 'bulk': how many values and letters a reading holds, each counted each time it is reached (what is shared counts as often as it is met; a slice's spare places count too). A statement '..UptoSaid' is the law's where the arguments, and the package variables that the reading takes, are together of bulk at most 1048576: NARROWER than '..Said'. Prove '..Said' where nothing that the law and all that it calls make is longer than what came in: it says more and counts as full. Else prove '..UptoSaid'. A law counts once. -/
mutual
def uptoBulk {H : Type} : DataW H → Nat
  | .lit (.string bytes) => bytes.length + 1
  | .lit _ => 1
  | .nil => 1
  | .ptr d => uptoBulk d + 1
  | .slice elems spare => uptoBulkAll elems + uptoBulkAll spare + 1
  | .agg parts => uptoBulkAll parts + 1
  | .iface _ d => uptoBulk d + 1
  | .map entries => uptoBulkEntries entries + 1
  | .held _ => 1
def uptoBulkAll {H : Type} : List (DataW H) → Nat
  | [] => 0
  | d :: r => uptoBulk d + uptoBulkAll r
def uptoBulkEntries {H : Type} : List (Lit × DataW H) → Nat
  | [] => 0
  | x :: r => uptoBulkEntry x + uptoBulkEntries r
def uptoBulkEntry {H : Type} : Lit × DataW H → Nat
  | (.string bytes, d) => bytes.length + uptoBulk d + 1
  | (_, d) => uptoBulk d + 1
 end
def uptoSmall : (H : Type) → List (DataW H) → Bool := fun _ ds => decide (uptoBulkAll ds ≤ 1048576)
def OpenSpec.upto (s : _root_.Go.ChangeSpec) : _root_.Go.OpenSpec := { _root_.Go.OpenSpec.ofChange s with cond := some uptoSmall }

/-- 'laws.FnExactLineOf', WHERE WHAT IT READS IS OF BULK AT MOST 1048576: true; the input reads as it did. -/
def fnExactLineOfUptoRow : OpenClaim := { program := "ytjjbkbinjmfnlaagreatdoor", sum := "acd6e3ceb8d6b370fa258345b36d9a396c80241810bb747d902e605fa0767a9e", func := "loop.example/g00383/laws.FnExactLineOf", spec := "fnExactLineOf", inPlace := ["internal/bytealg.Compare"], unfollowed := true, recurses := true, named := ["loop.example/g00383/impl.roundConstants", "loop.example/g00383/impl.laneOffsets"], apart := false, laid := [("loop.example/g00383/impl.laneOffsets", laid_loop_example_g00383_impl_laneOffsets), ("loop.example/g00383/impl.roundConstants", laid_loop_example_g00383_impl_roundConstants)], narrowed := true }
def FnExactLineOfUptoSaid : Prop := fnExactLineOfUptoRow.holds Tryz.pinned (OpenSpec.upto fnExactLineOfSpec)

/-- 'laws.FnExactIsBetter', WHERE WHAT IT READS IS OF BULK AT MOST 1048576: true; the input reads as it did. -/
def fnExactIsBetterUptoRow : OpenClaim := { program := "ytjjbkbinjmfnlaagreatdoor", sum := "acd6e3ceb8d6b370fa258345b36d9a396c80241810bb747d902e605fa0767a9e", func := "loop.example/g00383/laws.FnExactIsBetter", spec := "fnExactIsBetter", inPlace := ["internal/bytealg.Compare"], unfollowed := true, recurses := true, named := ["loop.example/g00383/impl.roundConstants", "loop.example/g00383/impl.laneOffsets"], apart := false, laid := [("loop.example/g00383/impl.laneOffsets", laid_loop_example_g00383_impl_laneOffsets), ("loop.example/g00383/impl.roundConstants", laid_loop_example_g00383_impl_roundConstants)], narrowed := true }
def FnExactIsBetterUptoSaid : Prop := fnExactIsBetterUptoRow.holds Tryz.pinned (OpenSpec.upto fnExactIsBetterSpec)

/-- 'laws.FnExactHeadOf', WHERE WHAT IT READS IS OF BULK AT MOST 1048576: true; the input reads as it did. -/
def fnExactHeadOfUptoRow : OpenClaim := { program := "ytjjbkbinjmfnlaagreatdoor", sum := "acd6e3ceb8d6b370fa258345b36d9a396c80241810bb747d902e605fa0767a9e", func := "loop.example/g00383/laws.FnExactHeadOf", spec := "fnExactHeadOf", inPlace := ["internal/bytealg.Compare"], unfollowed := true, recurses := true, named := ["loop.example/g00383/impl.roundConstants", "loop.example/g00383/impl.laneOffsets"], apart := false, laid := [("loop.example/g00383/impl.laneOffsets", laid_loop_example_g00383_impl_laneOffsets), ("loop.example/g00383/impl.roundConstants", laid_loop_example_g00383_impl_roundConstants)], narrowed := true }
def FnExactHeadOfUptoSaid : Prop := fnExactHeadOfUptoRow.holds Tryz.pinned (OpenSpec.upto fnExactHeadOfSpec)

/-- 'laws.FnExactCanonOf', WHERE WHAT IT READS IS OF BULK AT MOST 1048576: true; the input reads as it did. -/
def fnExactCanonOfUptoRow : OpenClaim := { program := "ytjjbkbinjmfnlaagreatdoor", sum := "acd6e3ceb8d6b370fa258345b36d9a396c80241810bb747d902e605fa0767a9e", func := "loop.example/g00383/laws.FnExactCanonOf", spec := "fnExactCanonOf", inPlace := ["internal/bytealg.Compare"], unfollowed := true, recurses := true, named := ["loop.example/g00383/impl.roundConstants", "loop.example/g00383/impl.laneOffsets"], apart := false, laid := [("loop.example/g00383/impl.laneOffsets", laid_loop_example_g00383_impl_laneOffsets), ("loop.example/g00383/impl.roundConstants", laid_loop_example_g00383_impl_roundConstants)], narrowed := true }
def FnExactCanonOfUptoSaid : Prop := fnExactCanonOfUptoRow.holds Tryz.pinned (OpenSpec.upto fnExactCanonOfSpec)

/-- 'laws.FnExactAtNumber', WHERE WHAT IT READS IS OF BULK AT MOST 1048576: true; the input reads as it did. -/
def fnExactAtNumberUptoRow : OpenClaim := { program := "ytjjbkbinjmfnlaagreatdoor", sum := "acd6e3ceb8d6b370fa258345b36d9a396c80241810bb747d902e605fa0767a9e", func := "loop.example/g00383/laws.FnExactAtNumber", spec := "fnExactAtNumber", inPlace := ["internal/bytealg.Compare"], unfollowed := true, recurses := true, named := ["loop.example/g00383/impl.roundConstants", "loop.example/g00383/impl.laneOffsets"], apart := false, laid := [("loop.example/g00383/impl.laneOffsets", laid_loop_example_g00383_impl_laneOffsets), ("loop.example/g00383/impl.roundConstants", laid_loop_example_g00383_impl_roundConstants)], narrowed := true }
def FnExactAtNumberUptoSaid : Prop := fnExactAtNumberUptoRow.holds Tryz.pinned (OpenSpec.upto fnExactAtNumberSpec)

/-- 'laws.FnExactCommonOf', WHERE WHAT IT READS IS OF BULK AT MOST 1048576: true; the input reads as it did. -/
def fnExactCommonOfUptoRow : OpenClaim := { program := "ytjjbkbinjmfnlaagreatdoor", sum := "acd6e3ceb8d6b370fa258345b36d9a396c80241810bb747d902e605fa0767a9e", func := "loop.example/g00383/laws.FnExactCommonOf", spec := "fnExactCommonOf", inPlace := ["internal/bytealg.Compare"], unfollowed := true, recurses := true, named := ["loop.example/g00383/impl.roundConstants", "loop.example/g00383/impl.laneOffsets"], apart := false, laid := [("loop.example/g00383/impl.laneOffsets", laid_loop_example_g00383_impl_laneOffsets), ("loop.example/g00383/impl.roundConstants", laid_loop_example_g00383_impl_roundConstants)], narrowed := true }
def FnExactCommonOfUptoSaid : Prop := fnExactCommonOfUptoRow.holds Tryz.pinned (OpenSpec.upto fnExactCommonOfSpec)

end Rows
end Go.Proofs.YtjjbkbinjmfnlaaGreatDoor
