/-
  NARROWER THAN 'FOR EVERY INPUT', by the rows' own cells (each row's printed sentence says how): FnExactHashOf: laid · FnExactSealHash: laid · FnExactSealOf: laid · FnExactCommitOf: laid · FnExactCommitHeader: laid.
  DERIVED. THE GIVEN ROWS OF THIS SEAT. 5 by the template 'for every input the law returns true; each argument reads behind the call as it read before'; 0 by the template 'total and deterministic' (their statements: YtbncoiljklagkaaDoorTotals.lean).
  GIVEN WITH THE SEED: the statements are not yours to turn. If you find one false, say at which input.
  Laid BY PROGRAM, IN A SANDBOX (cutbox-rows.mjs): the forced cells as the released guide's own fill.sh prints them over the translation b02581e0cf9e87c3… (all of the seat's roots in one cut). By AI agents, Wed Nov 11 2026. No macro, syntax, notation, axiom, sorry.
-/
import Derived.Test.YtbncoiljklagkaaDoorChecked
import GoSem.Claim
import GoSem.ClaimJoined
import GoSem.ClaimMapViews
import Derived.JoinedTies
import Derived.KernelRfl
namespace Go.Proofs.YtbncoiljklagkaaDoor
/- THE CELL 'sum', in the pinned program and in every row, IS THE sha256 OF THE DUMP (.gsa) THAT YtbncoiljklagkaaDoorProg.lean LOADS. Nothing in Lean hashes anything: it is a label: what it is worth is what the hold of that sum in a sandbox is worth. -/
noncomputable def Tryd.pinned : Pinned := { name := "ytbncoiljklagkaadoor", sum := "b02581e0cf9e87c3d577eaeb50d6ff32a3c7b6f98178d3e685becce85273b8e0", checked := Tryd.checked }
namespace Rows
def none {H : Type} : Left H := { results := [], args := [] }

/- WHAT THE LISTED PACKAGE-LEVEL VARIABLES READ AS WHEN THE CALL BEGINS. Each datum BY PROGRAM (the guide's laid-datum.mjs) off the statement by which the dump's own 'gosem.cut.vars' lays the variable. In a bare row this is a premise. The card (YtbncoiljklagkaaDoorCards.lean) ties it to the program's text. -/
def laid_loop_example_g00383_impl_laneOffsets {H : Type} : DataW H := .agg [.lit (.int .i64 0), .lit (.int .i64 1), .lit (.int .i64 62), .lit (.int .i64 28), .lit (.int .i64 27), .lit (.int .i64 36), .lit (.int .i64 44), .lit (.int .i64 6), .lit (.int .i64 55), .lit (.int .i64 20), .lit (.int .i64 3), .lit (.int .i64 10), .lit (.int .i64 43), .lit (.int .i64 25), .lit (.int .i64 39), .lit (.int .i64 41), .lit (.int .i64 45), .lit (.int .i64 15), .lit (.int .i64 21), .lit (.int .i64 8), .lit (.int .i64 18), .lit (.int .i64 2), .lit (.int .i64 61), .lit (.int .i64 56), .lit (.int .i64 14)]
def laid_loop_example_g00383_impl_roundConstants {H : Type} : DataW H := .agg [.lit (.int .u64 1), .lit (.int .u64 32898), .lit (.int .u64 9223372036854808714), .lit (.int .u64 9223372039002292224), .lit (.int .u64 32907), .lit (.int .u64 2147483649), .lit (.int .u64 9223372039002292353), .lit (.int .u64 9223372036854808585), .lit (.int .u64 138), .lit (.int .u64 136), .lit (.int .u64 2147516425), .lit (.int .u64 2147483658), .lit (.int .u64 2147516555), .lit (.int .u64 9223372036854775947), .lit (.int .u64 9223372036854808713), .lit (.int .u64 9223372036854808579), .lit (.int .u64 9223372036854808578), .lit (.int .u64 9223372036854775936), .lit (.int .u64 32778), .lit (.int .u64 9223372039002259466), .lit (.int .u64 9223372039002292353), .lit (.int .u64 9223372036854808704), .lit (.int .u64 2147483649), .lit (.int .u64 9223372039002292232)]

/-- 'laws.FnExactHashOf': WHATEVER THE INPUT: true; the input reads as it did. -/
def fnExactHashOfSpec : ChangeSpec := { name := "fnExactHashOf", vars := ["loop.example/g00383/impl.roundConstants", "loop.example/g00383/impl.laneOffsets"], fn := fun _ => fun
  | [d, g1, g2] => { results := [.lit (.bool true)], args := [d], vars := [g1, g2] }
  | _ => none }
def fnExactHashOfRow : OpenClaim := { program := "ytbncoiljklagkaadoor", sum := "b02581e0cf9e87c3d577eaeb50d6ff32a3c7b6f98178d3e685becce85273b8e0", func := "loop.example/g00383/laws.FnExactHashOf", spec := "fnExactHashOf", inPlace := ["internal/bytealg.Compare"], unfollowed := true, recurses := true, named := ["loop.example/g00383/impl.roundConstants", "loop.example/g00383/impl.laneOffsets"], apart := false, laid := [("loop.example/g00383/impl.laneOffsets", laid_loop_example_g00383_impl_laneOffsets), ("loop.example/g00383/impl.roundConstants", laid_loop_example_g00383_impl_roundConstants)] }
def FnExactHashOfSaid : Prop := fnExactHashOfRow.holds Tryd.pinned (OpenSpec.ofChange fnExactHashOfSpec)

/-- ITS FALSE NEIGHBOUR: 'it returns false'. Refute it at one input. -/
def fnExactHashOfWrong : ChangeSpec := { name := "fnExactHashOf", vars := ["loop.example/g00383/impl.roundConstants", "loop.example/g00383/impl.laneOffsets"], fn := fun _ => fun
  | [d, g1, g2] => { results := [.lit (.bool false)], args := [d], vars := [g1, g2] }
  | _ => none }
def FnExactHashOfWrongFalsely : Prop := fnExactHashOfRow.holds Tryd.pinned (OpenSpec.ofChange fnExactHashOfWrong)

/-- 'laws.FnExactSealHash': WHATEVER THE INPUT: true; the input reads as it did. -/
def fnExactSealHashSpec : ChangeSpec := { name := "fnExactSealHash", vars := ["loop.example/g00383/impl.roundConstants", "loop.example/g00383/impl.laneOffsets"], fn := fun _ => fun
  | [d, g1, g2] => { results := [.lit (.bool true)], args := [d], vars := [g1, g2] }
  | _ => none }
def fnExactSealHashRow : OpenClaim := { program := "ytbncoiljklagkaadoor", sum := "b02581e0cf9e87c3d577eaeb50d6ff32a3c7b6f98178d3e685becce85273b8e0", func := "loop.example/g00383/laws.FnExactSealHash", spec := "fnExactSealHash", inPlace := ["internal/bytealg.Compare"], unfollowed := true, recurses := true, named := ["loop.example/g00383/impl.roundConstants", "loop.example/g00383/impl.laneOffsets"], apart := false, laid := [("loop.example/g00383/impl.laneOffsets", laid_loop_example_g00383_impl_laneOffsets), ("loop.example/g00383/impl.roundConstants", laid_loop_example_g00383_impl_roundConstants)] }
def FnExactSealHashSaid : Prop := fnExactSealHashRow.holds Tryd.pinned (OpenSpec.ofChange fnExactSealHashSpec)

/-- ITS FALSE NEIGHBOUR: 'it returns false'. Refute it at one input. -/
def fnExactSealHashWrong : ChangeSpec := { name := "fnExactSealHash", vars := ["loop.example/g00383/impl.roundConstants", "loop.example/g00383/impl.laneOffsets"], fn := fun _ => fun
  | [d, g1, g2] => { results := [.lit (.bool false)], args := [d], vars := [g1, g2] }
  | _ => none }
def FnExactSealHashWrongFalsely : Prop := fnExactSealHashRow.holds Tryd.pinned (OpenSpec.ofChange fnExactSealHashWrong)

/-- 'laws.FnExactSealOf': WHATEVER THE INPUT: true; the input reads as it did. -/
def fnExactSealOfSpec : ChangeSpec := { name := "fnExactSealOf", vars := ["loop.example/g00383/impl.roundConstants", "loop.example/g00383/impl.laneOffsets"], fn := fun _ => fun
  | [d1, d2, g1, g2] => { results := [.lit (.bool true)], args := [d1, d2], vars := [g1, g2] }
  | _ => none }
def fnExactSealOfRow : OpenClaim := { program := "ytbncoiljklagkaadoor", sum := "b02581e0cf9e87c3d577eaeb50d6ff32a3c7b6f98178d3e685becce85273b8e0", func := "loop.example/g00383/laws.FnExactSealOf", spec := "fnExactSealOf", named := ["loop.example/g00383/impl.roundConstants", "loop.example/g00383/impl.laneOffsets"], apart := false, laid := [("loop.example/g00383/impl.laneOffsets", laid_loop_example_g00383_impl_laneOffsets), ("loop.example/g00383/impl.roundConstants", laid_loop_example_g00383_impl_roundConstants)] }
def FnExactSealOfSaid : Prop := fnExactSealOfRow.holds Tryd.pinned (OpenSpec.ofChange fnExactSealOfSpec)

/-- ITS FALSE NEIGHBOUR: 'it returns false'. Refute it at one input. -/
def fnExactSealOfWrong : ChangeSpec := { name := "fnExactSealOf", vars := ["loop.example/g00383/impl.roundConstants", "loop.example/g00383/impl.laneOffsets"], fn := fun _ => fun
  | [d1, d2, g1, g2] => { results := [.lit (.bool false)], args := [d1, d2], vars := [g1, g2] }
  | _ => none }
def FnExactSealOfWrongFalsely : Prop := fnExactSealOfRow.holds Tryd.pinned (OpenSpec.ofChange fnExactSealOfWrong)

/-- 'laws.FnExactCommitOf': WHATEVER THE INPUT: true; the input reads as it did. -/
def fnExactCommitOfSpec : ChangeSpec := { name := "fnExactCommitOf", vars := ["loop.example/g00383/impl.roundConstants", "loop.example/g00383/impl.laneOffsets"], fn := fun _ => fun
  | [d1, d2, g1, g2] => { results := [.lit (.bool true)], args := [d1, d2], vars := [g1, g2] }
  | _ => none }
def fnExactCommitOfRow : OpenClaim := { program := "ytbncoiljklagkaadoor", sum := "b02581e0cf9e87c3d577eaeb50d6ff32a3c7b6f98178d3e685becce85273b8e0", func := "loop.example/g00383/laws.FnExactCommitOf", spec := "fnExactCommitOf", named := ["loop.example/g00383/impl.roundConstants", "loop.example/g00383/impl.laneOffsets"], apart := false, laid := [("loop.example/g00383/impl.laneOffsets", laid_loop_example_g00383_impl_laneOffsets), ("loop.example/g00383/impl.roundConstants", laid_loop_example_g00383_impl_roundConstants)] }
def FnExactCommitOfSaid : Prop := fnExactCommitOfRow.holds Tryd.pinned (OpenSpec.ofChange fnExactCommitOfSpec)

/-- ITS FALSE NEIGHBOUR: 'it returns false'. Refute it at one input. -/
def fnExactCommitOfWrong : ChangeSpec := { name := "fnExactCommitOf", vars := ["loop.example/g00383/impl.roundConstants", "loop.example/g00383/impl.laneOffsets"], fn := fun _ => fun
  | [d1, d2, g1, g2] => { results := [.lit (.bool false)], args := [d1, d2], vars := [g1, g2] }
  | _ => none }
def FnExactCommitOfWrongFalsely : Prop := fnExactCommitOfRow.holds Tryd.pinned (OpenSpec.ofChange fnExactCommitOfWrong)

/-- 'laws.FnExactCommitHeader': WHATEVER THE INPUT: true; the input reads as it did. -/
def fnExactCommitHeaderSpec : ChangeSpec := { name := "fnExactCommitHeader", vars := ["loop.example/g00383/impl.roundConstants", "loop.example/g00383/impl.laneOffsets"], fn := fun _ => fun
  | [d1, d2, g1, g2] => { results := [.lit (.bool true)], args := [d1, d2], vars := [g1, g2] }
  | _ => none }
def fnExactCommitHeaderRow : OpenClaim := { program := "ytbncoiljklagkaadoor", sum := "b02581e0cf9e87c3d577eaeb50d6ff32a3c7b6f98178d3e685becce85273b8e0", func := "loop.example/g00383/laws.FnExactCommitHeader", spec := "fnExactCommitHeader", inPlace := ["internal/bytealg.Compare"], unfollowed := true, recurses := true, named := ["loop.example/g00383/impl.roundConstants", "loop.example/g00383/impl.laneOffsets"], apart := false, laid := [("loop.example/g00383/impl.laneOffsets", laid_loop_example_g00383_impl_laneOffsets), ("loop.example/g00383/impl.roundConstants", laid_loop_example_g00383_impl_roundConstants)] }
def FnExactCommitHeaderSaid : Prop := fnExactCommitHeaderRow.holds Tryd.pinned (OpenSpec.ofChange fnExactCommitHeaderSpec)

/-- ITS FALSE NEIGHBOUR: 'it returns false'. Refute it at one input. -/
def fnExactCommitHeaderWrong : ChangeSpec := { name := "fnExactCommitHeader", vars := ["loop.example/g00383/impl.roundConstants", "loop.example/g00383/impl.laneOffsets"], fn := fun _ => fun
  | [d1, d2, g1, g2] => { results := [.lit (.bool false)], args := [d1, d2], vars := [g1, g2] }
  | _ => none }
def FnExactCommitHeaderWrongFalsely : Prop := fnExactCommitHeaderRow.holds Tryd.pinned (OpenSpec.ofChange fnExactCommitHeaderWrong)

/- THE SECOND FORM. 'bulk': how many values and letters a reading holds, each counted each time it is reached (what is shared counts as often as it is met; a slice's spare places count too). A statement '..UptoSaid' is the law's where the arguments, and the package variables that the reading takes, are together of bulk at most 1048576: NARROWER than '..Said'. Prove '..Said' where nothing that the law and all that it calls make is longer than what came in: it says more and counts as full. Else prove '..UptoSaid'. A law counts once. -/
mutual
def uptoBulk {H : Type} : DataW H → Nat
  | .lit (.string bytes) => bytes.length + 1
  | .lit _ => 1
  | .nil => 1
  | .ptr d => uptoBulk d + 1
  | .slice elems spare => uptoBulkAll elems + uptoBulkAll spare + 1
  | .agg parts => uptoBulkAll parts + 1
  | .iface _ d => uptoBulk d + 1
  | .map entries => uptoBulkEntries entries + 1
  | .held _ => 1
def uptoBulkAll {H : Type} : List (DataW H) → Nat
  | [] => 0
  | d :: r => uptoBulk d + uptoBulkAll r
def uptoBulkEntries {H : Type} : List (Lit × DataW H) → Nat
  | [] => 0
  | x :: r => uptoBulkEntry x + uptoBulkEntries r
def uptoBulkEntry {H : Type} : Lit × DataW H → Nat
  | (.string bytes, d) => bytes.length + uptoBulk d + 1
  | (_, d) => uptoBulk d + 1
 end
def uptoSmall : (H : Type) → List (DataW H) → Bool := fun _ ds => decide (uptoBulkAll ds ≤ 1048576)
def OpenSpec.upto (s : _root_.Go.ChangeSpec) : _root_.Go.OpenSpec := { _root_.Go.OpenSpec.ofChange s with cond := some uptoSmall }

/-- 'laws.FnExactHashOf', WHERE WHAT IT READS IS OF BULK AT MOST 1048576: true; the input reads as it did. -/
def fnExactHashOfUptoRow : OpenClaim := { program := "ytbncoiljklagkaadoor", sum := "b02581e0cf9e87c3d577eaeb50d6ff32a3c7b6f98178d3e685becce85273b8e0", func := "loop.example/g00383/laws.FnExactHashOf", spec := "fnExactHashOf", inPlace := ["internal/bytealg.Compare"], unfollowed := true, recurses := true, named := ["loop.example/g00383/impl.roundConstants", "loop.example/g00383/impl.laneOffsets"], apart := false, laid := [("loop.example/g00383/impl.laneOffsets", laid_loop_example_g00383_impl_laneOffsets), ("loop.example/g00383/impl.roundConstants", laid_loop_example_g00383_impl_roundConstants)], narrowed := true }
def FnExactHashOfUptoSaid : Prop := fnExactHashOfUptoRow.holds Tryd.pinned (OpenSpec.upto fnExactHashOfSpec)

/-- 'laws.FnExactSealHash', WHERE WHAT IT READS IS OF BULK AT MOST 1048576: true; the input reads as it did. -/
def fnExactSealHashUptoRow : OpenClaim := { program := "ytbncoiljklagkaadoor", sum := "b02581e0cf9e87c3d577eaeb50d6ff32a3c7b6f98178d3e685becce85273b8e0", func := "loop.example/g00383/laws.FnExactSealHash", spec := "fnExactSealHash", inPlace := ["internal/bytealg.Compare"], unfollowed := true, recurses := true, named := ["loop.example/g00383/impl.roundConstants", "loop.example/g00383/impl.laneOffsets"], apart := false, laid := [("loop.example/g00383/impl.laneOffsets", laid_loop_example_g00383_impl_laneOffsets), ("loop.example/g00383/impl.roundConstants", laid_loop_example_g00383_impl_roundConstants)], narrowed := true }
def FnExactSealHashUptoSaid : Prop := fnExactSealHashUptoRow.holds Tryd.pinned (OpenSpec.upto fnExactSealHashSpec)

/-- 'laws.FnExactSealOf', WHERE WHAT IT READS IS OF BULK AT MOST 1048576: true; the input reads as it did. -/
def fnExactSealOfUptoRow : OpenClaim := { program := "ytbncoiljklagkaadoor", sum := "b02581e0cf9e87c3d577eaeb50d6ff32a3c7b6f98178d3e685becce85273b8e0", func := "loop.example/g00383/laws.FnExactSealOf", spec := "fnExactSealOf", named := ["loop.example/g00383/impl.roundConstants", "loop.example/g00383/impl.laneOffsets"], apart := false, laid := [("loop.example/g00383/impl.laneOffsets", laid_loop_example_g00383_impl_laneOffsets), ("loop.example/g00383/impl.roundConstants", laid_loop_example_g00383_impl_roundConstants)], narrowed := true }
def FnExactSealOfUptoSaid : Prop := fnExactSealOfUptoRow.holds Tryd.pinned (OpenSpec.upto fnExactSealOfSpec)

/-- 'laws.FnExactCommitOf', WHERE WHAT IT READS IS OF BULK AT MOST 1048576: true; the input reads as it did. -/
def fnExactCommitOfUptoRow : OpenClaim := { program := "ytbncoiljklagkaadoor", sum := "b02581e0cf9e87c3d577eaeb50d6ff32a3c7b6f98178d3e685becce85273b8e0", func := "loop.example/g00383/laws.FnExactCommitOf", spec := "fnExactCommitOf", named := ["loop.example/g00383/impl.roundConstants", "loop.example/g00383/impl.laneOffsets"], apart := false, laid := [("loop.example/g00383/impl.laneOffsets", laid_loop_example_g00383_impl_laneOffsets), ("loop.example/g00383/impl.roundConstants", laid_loop_example_g00383_impl_roundConstants)], narrowed := true }
def FnExactCommitOfUptoSaid : Prop := fnExactCommitOfUptoRow.holds Tryd.pinned (OpenSpec.upto fnExactCommitOfSpec)

/-- 'laws.FnExactCommitHeader', WHERE WHAT IT READS IS OF BULK AT MOST 1048576: true; the input reads as it did. -/
def fnExactCommitHeaderUptoRow : OpenClaim := { program := "ytbncoiljklagkaadoor", sum := "b02581e0cf9e87c3d577eaeb50d6ff32a3c7b6f98178d3e685becce85273b8e0", func := "loop.example/g00383/laws.FnExactCommitHeader", spec := "fnExactCommitHeader", inPlace := ["internal/bytealg.Compare"], unfollowed := true, recurses := true, named := ["loop.example/g00383/impl.roundConstants", "loop.example/g00383/impl.laneOffsets"], apart := false, laid := [("loop.example/g00383/impl.laneOffsets", laid_loop_example_g00383_impl_laneOffsets), ("loop.example/g00383/impl.roundConstants", laid_loop_example_g00383_impl_roundConstants)], narrowed := true }
def FnExactCommitHeaderUptoSaid : Prop := fnExactCommitHeaderUptoRow.holds Tryd.pinned (OpenSpec.upto fnExactCommitHeaderSpec)

end Rows
end Go.Proofs.YtbncoiljklagkaaDoor
