/-
  No cell of these rows narrows 'for every input' (looked for: loops, veiled, ifaces, maps, wideKeys, modest, calm, conditions, laid).
  DERIVED. THE GIVEN ROWS OF THIS SEAT. 6 by the template 'for every input the law returns true; each argument reads behind the call as it read before'; 0 by the template 'total and deterministic' (their statements: YtakkhocaloigeaaTotals.lean).
  GIVEN WITH THE SEED: the statements are not yours to turn. If you find one false, say at which input.
  Laid BY PROGRAM, IN A SANDBOX (cutbox-rows.mjs): the forced cells as the released guide's own fill.sh prints them over the translation d8aef36ca06970fd… (all of the seat's roots in one cut). By AI agents, Wed Nov 11 2026. No macro, syntax, notation, axiom, sorry.
-/
import Derived.Test.YtakkhocaloigeaaChecked
import GoSem.Claim
import GoSem.ClaimJoined
import GoSem.ClaimMapViews
import Derived.JoinedTies
import Derived.KernelRfl
namespace Go.Proofs.Ytakkhocaloigeaa
/- THE CELL 'sum', in the pinned program and in every row, IS THE sha256 OF THE DUMP (.gsa) THAT YtakkhocaloigeaaProg.lean LOADS. Nothing in Lean hashes anything: it is a label: what it is worth is what the hold of that sum in a sandbox is worth. -/
noncomputable def Try.pinned : Pinned := { name := "ytakkhocaloigeaa", sum := "d8aef36ca06970fd1cd38a111c2d4140b59d40b4662fdbeaba0cc59ac82dd748", checked := Try.checked }
namespace Rows
def none {H : Type} : Left H := { results := [], args := [] }

/-- 'laws.FnWides': WHATEVER THE INPUT: true; the input reads as it did. -/
def fnWidesSpec : ChangeSpec := { name := "fnWides", fn := fun _ => fun
  | [d] => { results := [.lit (.bool true)], args := [d] }
  | _ => none }
def fnWidesRow : OpenClaim := { program := "ytakkhocaloigeaa", sum := "d8aef36ca06970fd1cd38a111c2d4140b59d40b4662fdbeaba0cc59ac82dd748", func := "loop.example/g00383/laws.FnWides", spec := "fnWides", apart := false }
def FnWidesSaid : Prop := fnWidesRow.holds Try.pinned (OpenSpec.ofChange fnWidesSpec)

/-- ITS FALSE NEIGHBOUR: 'it returns false'. Refute it at one input. -/
def fnWidesWrong : ChangeSpec := { name := "fnWides", fn := fun _ => fun
  | [d] => { results := [.lit (.bool false)], args := [d] }
  | _ => none }
def FnWidesWrongFalsely : Prop := fnWidesRow.holds Try.pinned (OpenSpec.ofChange fnWidesWrong)

/-- 'laws.FnOrders': WHATEVER THE INPUT: true; the input reads as it did. -/
def fnOrdersSpec : ChangeSpec := { name := "fnOrders", fn := fun _ => fun
  | [d] => { results := [.lit (.bool true)], args := [d] }
  | _ => none }
def fnOrdersRow : OpenClaim := { program := "ytakkhocaloigeaa", sum := "d8aef36ca06970fd1cd38a111c2d4140b59d40b4662fdbeaba0cc59ac82dd748", func := "loop.example/g00383/laws.FnOrders", spec := "fnOrders", apart := false }
def FnOrdersSaid : Prop := fnOrdersRow.holds Try.pinned (OpenSpec.ofChange fnOrdersSpec)

/-- ITS FALSE NEIGHBOUR: 'it returns false'. Refute it at one input. -/
def fnOrdersWrong : ChangeSpec := { name := "fnOrders", fn := fun _ => fun
  | [d] => { results := [.lit (.bool false)], args := [d] }
  | _ => none }
def FnOrdersWrongFalsely : Prop := fnOrdersRow.holds Try.pinned (OpenSpec.ofChange fnOrdersWrong)

/-- 'laws.FnExactWideFault': WHATEVER THE INPUT: true; the input reads as it did. -/
def fnExactWideFaultSpec : ChangeSpec := { name := "fnExactWideFault", fn := fun _ => fun
  | [d] => { results := [.lit (.bool true)], args := [d] }
  | _ => none }
def fnExactWideFaultRow : OpenClaim := { program := "ytakkhocaloigeaa", sum := "d8aef36ca06970fd1cd38a111c2d4140b59d40b4662fdbeaba0cc59ac82dd748", func := "loop.example/g00383/laws.FnExactWideFault", spec := "fnExactWideFault", apart := false }
def FnExactWideFaultSaid : Prop := fnExactWideFaultRow.holds Try.pinned (OpenSpec.ofChange fnExactWideFaultSpec)

/-- ITS FALSE NEIGHBOUR: 'it returns false'. Refute it at one input. -/
def fnExactWideFaultWrong : ChangeSpec := { name := "fnExactWideFault", fn := fun _ => fun
  | [d] => { results := [.lit (.bool false)], args := [d] }
  | _ => none }
def FnExactWideFaultWrongFalsely : Prop := fnExactWideFaultRow.holds Try.pinned (OpenSpec.ofChange fnExactWideFaultWrong)

/-- 'laws.FnExactWideOf': WHATEVER THE INPUT: true; the input reads as it did. -/
def fnExactWideOfSpec : ChangeSpec := { name := "fnExactWideOf", fn := fun _ => fun
  | [d] => { results := [.lit (.bool true)], args := [d] }
  | _ => none }
def fnExactWideOfRow : OpenClaim := { program := "ytakkhocaloigeaa", sum := "d8aef36ca06970fd1cd38a111c2d4140b59d40b4662fdbeaba0cc59ac82dd748", func := "loop.example/g00383/laws.FnExactWideOf", spec := "fnExactWideOf", apart := false }
def FnExactWideOfSaid : Prop := fnExactWideOfRow.holds Try.pinned (OpenSpec.ofChange fnExactWideOfSpec)

/-- ITS FALSE NEIGHBOUR: 'it returns false'. Refute it at one input. -/
def fnExactWideOfWrong : ChangeSpec := { name := "fnExactWideOf", fn := fun _ => fun
  | [d] => { results := [.lit (.bool false)], args := [d] }
  | _ => none }
def FnExactWideOfWrongFalsely : Prop := fnExactWideOfRow.holds Try.pinned (OpenSpec.ofChange fnExactWideOfWrong)

/-- 'laws.FnExactAddWide': WHATEVER THE INPUT: true; the input reads as it did. -/
def fnExactAddWideSpec : ChangeSpec := { name := "fnExactAddWide", fn := fun _ => fun
  | [d1, d2] => { results := [.lit (.bool true)], args := [d1, d2] }
  | _ => none }
def fnExactAddWideRow : OpenClaim := { program := "ytakkhocaloigeaa", sum := "d8aef36ca06970fd1cd38a111c2d4140b59d40b4662fdbeaba0cc59ac82dd748", func := "loop.example/g00383/laws.FnExactAddWide", spec := "fnExactAddWide", apart := false }
def FnExactAddWideSaid : Prop := fnExactAddWideRow.holds Try.pinned (OpenSpec.ofChange fnExactAddWideSpec)

/-- ITS FALSE NEIGHBOUR: 'it returns false'. Refute it at one input. -/
def fnExactAddWideWrong : ChangeSpec := { name := "fnExactAddWide", fn := fun _ => fun
  | [d1, d2] => { results := [.lit (.bool false)], args := [d1, d2] }
  | _ => none }
def FnExactAddWideWrongFalsely : Prop := fnExactAddWideRow.holds Try.pinned (OpenSpec.ofChange fnExactAddWideWrong)

/-- 'laws.FnExactCompareWide': WHATEVER THE INPUT: true; the input reads as it did. -/
def fnExactCompareWideSpec : ChangeSpec := { name := "fnExactCompareWide", fn := fun _ => fun
  | [d1, d2] => { results := [.lit (.bool true)], args := [d1, d2] }
  | _ => none }
def fnExactCompareWideRow : OpenClaim := { program := "ytakkhocaloigeaa", sum := "d8aef36ca06970fd1cd38a111c2d4140b59d40b4662fdbeaba0cc59ac82dd748", func := "loop.example/g00383/laws.FnExactCompareWide", spec := "fnExactCompareWide", apart := false }
def FnExactCompareWideSaid : Prop := fnExactCompareWideRow.holds Try.pinned (OpenSpec.ofChange fnExactCompareWideSpec)

/-- ITS FALSE NEIGHBOUR: 'it returns false'. Refute it at one input. -/
def fnExactCompareWideWrong : ChangeSpec := { name := "fnExactCompareWide", fn := fun _ => fun
  | [d1, d2] => { results := [.lit (.bool false)], args := [d1, d2] }
  | _ => none }
def FnExactCompareWideWrongFalsely : Prop := fnExactCompareWideRow.holds Try.pinned (OpenSpec.ofChange fnExactCompareWideWrong)

/- THE SECOND FORM. 'bulk': how many values and letters a reading holds, each counted each time it is reached (what is shared counts as often as it is met; a slice's spare places count too). A statement '..UptoSaid' is the law's where the arguments, and the package variables that the reading takes, are together of bulk at most 1048576: NARROWER than '..Said'. Prove '..Said' where nothing that the law and all that it calls make is longer than what came in: it says more and counts as full. Else prove '..UptoSaid'. A law counts once. -/
mutual
def uptoBulk {H : Type} : DataW H → Nat
  | .lit (.string bytes) => bytes.length + 1
  | .lit _ => 1
  | .nil => 1
  | .ptr d => uptoBulk d + 1
  | .slice elems spare => uptoBulkAll elems + uptoBulkAll spare + 1
  | .agg parts => uptoBulkAll parts + 1
  | .iface _ d => uptoBulk d + 1
  | .map entries => uptoBulkEntries entries + 1
  | .held _ => 1
def uptoBulkAll {H : Type} : List (DataW H) → Nat
  | [] => 0
  | d :: r => uptoBulk d + uptoBulkAll r
def uptoBulkEntries {H : Type} : List (Lit × DataW H) → Nat
  | [] => 0
  | x :: r => uptoBulkEntry x + uptoBulkEntries r
def uptoBulkEntry {H : Type} : Lit × DataW H → Nat
  | (.string bytes, d) => bytes.length + uptoBulk d + 1
  | (_, d) => uptoBulk d + 1
 end
def uptoSmall : (H : Type) → List (DataW H) → Bool := fun _ ds => decide (uptoBulkAll ds ≤ 1048576)
def OpenSpec.upto (s : _root_.Go.ChangeSpec) : _root_.Go.OpenSpec := { _root_.Go.OpenSpec.ofChange s with cond := some uptoSmall }

/-- 'laws.FnWides', WHERE WHAT IT READS IS OF BULK AT MOST 1048576: true; the input reads as it did. -/
def fnWidesUptoRow : OpenClaim := { program := "ytakkhocaloigeaa", sum := "d8aef36ca06970fd1cd38a111c2d4140b59d40b4662fdbeaba0cc59ac82dd748", func := "loop.example/g00383/laws.FnWides", spec := "fnWides", apart := false, narrowed := true }
def FnWidesUptoSaid : Prop := fnWidesUptoRow.holds Try.pinned (OpenSpec.upto fnWidesSpec)

/-- 'laws.FnOrders', WHERE WHAT IT READS IS OF BULK AT MOST 1048576: true; the input reads as it did. -/
def fnOrdersUptoRow : OpenClaim := { program := "ytakkhocaloigeaa", sum := "d8aef36ca06970fd1cd38a111c2d4140b59d40b4662fdbeaba0cc59ac82dd748", func := "loop.example/g00383/laws.FnOrders", spec := "fnOrders", apart := false, narrowed := true }
def FnOrdersUptoSaid : Prop := fnOrdersUptoRow.holds Try.pinned (OpenSpec.upto fnOrdersSpec)

/-- 'laws.FnExactWideFault', WHERE WHAT IT READS IS OF BULK AT MOST 1048576: true; the input reads as it did. -/
def fnExactWideFaultUptoRow : OpenClaim := { program := "ytakkhocaloigeaa", sum := "d8aef36ca06970fd1cd38a111c2d4140b59d40b4662fdbeaba0cc59ac82dd748", func := "loop.example/g00383/laws.FnExactWideFault", spec := "fnExactWideFault", apart := false, narrowed := true }
def FnExactWideFaultUptoSaid : Prop := fnExactWideFaultUptoRow.holds Try.pinned (OpenSpec.upto fnExactWideFaultSpec)

/-- 'laws.FnExactWideOf', WHERE WHAT IT READS IS OF BULK AT MOST 1048576: true; the input reads as it did. -/
def fnExactWideOfUptoRow : OpenClaim := { program := "ytakkhocaloigeaa", sum := "d8aef36ca06970fd1cd38a111c2d4140b59d40b4662fdbeaba0cc59ac82dd748", func := "loop.example/g00383/laws.FnExactWideOf", spec := "fnExactWideOf", apart := false, narrowed := true }
def FnExactWideOfUptoSaid : Prop := fnExactWideOfUptoRow.holds Try.pinned (OpenSpec.upto fnExactWideOfSpec)

/-- 'laws.FnExactAddWide', WHERE WHAT IT READS IS OF BULK AT MOST 1048576: true; the input reads as it did. -/
def fnExactAddWideUptoRow : OpenClaim := { program := "ytakkhocaloigeaa", sum := "d8aef36ca06970fd1cd38a111c2d4140b59d40b4662fdbeaba0cc59ac82dd748", func := "loop.example/g00383/laws.FnExactAddWide", spec := "fnExactAddWide", apart := false, narrowed := true }
def FnExactAddWideUptoSaid : Prop := fnExactAddWideUptoRow.holds Try.pinned (OpenSpec.upto fnExactAddWideSpec)

/-- 'laws.FnExactCompareWide', WHERE WHAT IT READS IS OF BULK AT MOST 1048576: true; the input reads as it did. -/
def fnExactCompareWideUptoRow : OpenClaim := { program := "ytakkhocaloigeaa", sum := "d8aef36ca06970fd1cd38a111c2d4140b59d40b4662fdbeaba0cc59ac82dd748", func := "loop.example/g00383/laws.FnExactCompareWide", spec := "fnExactCompareWide", apart := false, narrowed := true }
def FnExactCompareWideUptoSaid : Prop := fnExactCompareWideUptoRow.holds Try.pinned (OpenSpec.upto fnExactCompareWideSpec)

end Rows
end Go.Proofs.Ytakkhocaloigeaa
