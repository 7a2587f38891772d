/-
  No cell of these rows narrows 'for every input' (looked for: loops, veiled, ifaces, maps, wideKeys, modest, calm, conditions, laid).
  DERIVED. THE GIVEN ROWS OF THIS SEAT. 2 by the template 'for every input the law returns true; each argument reads behind the call as it read before'; 0 by the template 'total and deterministic' (their statements: YtlenpjbkbjdbeabTotals.lean).
  GIVEN WITH THE SEED: the statements are not yours to turn. If you find one false, say at which input.
  Laid BY PROGRAM, IN A SANDBOX (cutbox-rows.mjs): the forced cells as the released guide's own fill.sh prints them over the translation 4956515d948b812a… (all of the seat's roots in one cut). By AI agents, Wed Nov 11 2026. No macro, syntax, notation, axiom, sorry.
-/
import Derived.Test.YtlenpjbkbjdbeabChecked
import GoSem.Claim
import GoSem.ClaimJoined
import GoSem.ClaimMapViews
import Derived.JoinedTies
import Derived.KernelRfl
namespace Go.Proofs.Ytlenpjbkbjdbeab
/- THE CELL 'sum', in the pinned program and in every row, IS THE sha256 OF THE DUMP (.gsa) THAT YtlenpjbkbjdbeabProg.lean LOADS. Nothing in Lean hashes anything: it is a label: what it is worth is what the hold of that sum in a sandbox is worth. -/
noncomputable def Try.pinned : Pinned := { name := "ytlenpjbkbjdbeab", sum := "4956515d948b812ab359fa15bbfe07ba4bb5a35206c61df0d254631162afbaf4", checked := Try.checked }
namespace Rows
def none {H : Type} : Left H := { results := [], args := [] }

/-- 'laws.FnExactSignersFault': WHATEVER THE INPUT: true; the input reads as it did. -/
def fnExactSignersFaultSpec : ChangeSpec := { name := "fnExactSignersFault", fn := fun _ => fun
  | [d] => { results := [.lit (.bool true)], args := [d] }
  | _ => none }
def fnExactSignersFaultRow : OpenClaim := { program := "ytlenpjbkbjdbeab", sum := "4956515d948b812ab359fa15bbfe07ba4bb5a35206c61df0d254631162afbaf4", func := "loop.example/g00383/laws.FnExactSignersFault", spec := "fnExactSignersFault", inPlace := ["internal/bytealg.Compare"], apart := false }
def FnExactSignersFaultSaid : Prop := fnExactSignersFaultRow.holds Try.pinned (OpenSpec.ofChange fnExactSignersFaultSpec)

/-- ITS FALSE NEIGHBOUR: 'it returns false'. Refute it at one input. -/
def fnExactSignersFaultWrong : ChangeSpec := { name := "fnExactSignersFault", fn := fun _ => fun
  | [d] => { results := [.lit (.bool false)], args := [d] }
  | _ => none }
def FnExactSignersFaultWrongFalsely : Prop := fnExactSignersFaultRow.holds Try.pinned (OpenSpec.ofChange fnExactSignersFaultWrong)

/-- 'laws.FnExactSameHeaders': WHATEVER THE INPUT: true; the input reads as it did. -/
def fnExactSameHeadersSpec : ChangeSpec := { name := "fnExactSameHeaders", fn := fun _ => fun
  | [d1, d2] => { results := [.lit (.bool true)], args := [d1, d2] }
  | _ => none }
def fnExactSameHeadersRow : OpenClaim := { program := "ytlenpjbkbjdbeab", sum := "4956515d948b812ab359fa15bbfe07ba4bb5a35206c61df0d254631162afbaf4", func := "loop.example/g00383/laws.FnExactSameHeaders", spec := "fnExactSameHeaders", unfollowed := true, recurses := true, apart := false }
def FnExactSameHeadersSaid : Prop := fnExactSameHeadersRow.holds Try.pinned (OpenSpec.ofChange fnExactSameHeadersSpec)

/-- ITS FALSE NEIGHBOUR: 'it returns false'. Refute it at one input. -/
def fnExactSameHeadersWrong : ChangeSpec := { name := "fnExactSameHeaders", fn := fun _ => fun
  | [d1, d2] => { results := [.lit (.bool false)], args := [d1, d2] }
  | _ => none }
def FnExactSameHeadersWrongFalsely : Prop := fnExactSameHeadersRow.holds Try.pinned (OpenSpec.ofChange fnExactSameHeadersWrong)

/- THE SECOND FORM. 'bulk': how many values and letters a reading holds, each counted each time it is reached (what is shared counts as often as it is met; a slice's spare places count too). A statement '..UptoSaid' is the law's where the arguments, and the package variables that the reading takes, are together of bulk at most 1048576: NARROWER than '..Said'. Prove '..Said' where nothing that the law and all that it calls make is longer than what came in: it says more and counts as full. Else prove '..UptoSaid'. A law counts once. -/
mutual
def uptoBulk {H : Type} : DataW H → Nat
  | .lit (.string bytes) => bytes.length + 1
  | .lit _ => 1
  | .nil => 1
  | .ptr d => uptoBulk d + 1
  | .slice elems spare => uptoBulkAll elems + uptoBulkAll spare + 1
  | .agg parts => uptoBulkAll parts + 1
  | .iface _ d => uptoBulk d + 1
  | .map entries => uptoBulkEntries entries + 1
  | .held _ => 1
def uptoBulkAll {H : Type} : List (DataW H) → Nat
  | [] => 0
  | d :: r => uptoBulk d + uptoBulkAll r
def uptoBulkEntries {H : Type} : List (Lit × DataW H) → Nat
  | [] => 0
  | x :: r => uptoBulkEntry x + uptoBulkEntries r
def uptoBulkEntry {H : Type} : Lit × DataW H → Nat
  | (.string bytes, d) => bytes.length + uptoBulk d + 1
  | (_, d) => uptoBulk d + 1
 end
def uptoSmall : (H : Type) → List (DataW H) → Bool := fun _ ds => decide (uptoBulkAll ds ≤ 1048576)
def OpenSpec.upto (s : _root_.Go.ChangeSpec) : _root_.Go.OpenSpec := { _root_.Go.OpenSpec.ofChange s with cond := some uptoSmall }

/-- 'laws.FnExactSignersFault', WHERE WHAT IT READS IS OF BULK AT MOST 1048576: true; the input reads as it did. -/
def fnExactSignersFaultUptoRow : OpenClaim := { program := "ytlenpjbkbjdbeab", sum := "4956515d948b812ab359fa15bbfe07ba4bb5a35206c61df0d254631162afbaf4", func := "loop.example/g00383/laws.FnExactSignersFault", spec := "fnExactSignersFault", inPlace := ["internal/bytealg.Compare"], apart := false, narrowed := true }
def FnExactSignersFaultUptoSaid : Prop := fnExactSignersFaultUptoRow.holds Try.pinned (OpenSpec.upto fnExactSignersFaultSpec)

/-- 'laws.FnExactSameHeaders', WHERE WHAT IT READS IS OF BULK AT MOST 1048576: true; the input reads as it did. -/
def fnExactSameHeadersUptoRow : OpenClaim := { program := "ytlenpjbkbjdbeab", sum := "4956515d948b812ab359fa15bbfe07ba4bb5a35206c61df0d254631162afbaf4", func := "loop.example/g00383/laws.FnExactSameHeaders", spec := "fnExactSameHeaders", unfollowed := true, recurses := true, apart := false, narrowed := true }
def FnExactSameHeadersUptoSaid : Prop := fnExactSameHeadersUptoRow.holds Try.pinned (OpenSpec.upto fnExactSameHeadersSpec)

end Rows
end Go.Proofs.Ytlenpjbkbjdbeab
