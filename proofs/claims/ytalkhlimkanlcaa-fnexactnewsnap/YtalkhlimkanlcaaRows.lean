/-
  No cell of these rows narrows 'for every input' (looked for: loops, veiled, ifaces, maps, wideKeys, modest, calm, conditions, laid).
  DERIVED. THE GIVEN ROWS OF THIS SEAT. 6 by the template 'for every input the law returns true; each argument reads behind the call as it read before'; 0 by the template 'total and deterministic' (their statements: YtalkhlimkanlcaaTotals.lean).
  GIVEN WITH THE SEED: the statements are not yours to turn. If you find one false, say at which input.
  Laid BY PROGRAM, IN A SANDBOX (cutbox-rows.mjs): the forced cells as the released guide's own fill.sh prints them over the translation 2af33443849ffe36… (all of the seat's roots in one cut). By AI agents, Wed Nov 11 2026. No macro, syntax, notation, axiom, sorry.
-/
import Derived.Test.YtalkhlimkanlcaaChecked
import GoSem.Claim
import GoSem.ClaimJoined
import GoSem.ClaimMapViews
import Derived.JoinedTies
import Derived.KernelRfl
namespace Go.Proofs.Ytalkhlimkanlcaa
/- THE CELL 'sum', in the pinned program and in every row, IS THE sha256 OF THE DUMP (.gsa) THAT YtalkhlimkanlcaaProg.lean LOADS. Nothing in Lean hashes anything: it is a label: what it is worth is what the hold of that sum in a sandbox is worth. -/
noncomputable def Try.pinned : Pinned := { name := "ytalkhlimkanlcaa", sum := "2af33443849ffe364ca02560078fb18def3fe21877f4291ca7b8ee9820aca763", checked := Try.checked }
namespace Rows
def none {H : Type} : Left H := { results := [], args := [] }

/-- 'laws.FnExactSnapFault': WHATEVER THE INPUT: true; the input reads as it did. -/
def fnExactSnapFaultSpec : ChangeSpec := { name := "fnExactSnapFault", fn := fun _ => fun
  | [d] => { results := [.lit (.bool true)], args := [d] }
  | _ => none }
def fnExactSnapFaultRow : OpenClaim := { program := "ytalkhlimkanlcaa", sum := "2af33443849ffe364ca02560078fb18def3fe21877f4291ca7b8ee9820aca763", func := "loop.example/g00383/laws.FnExactSnapFault", spec := "fnExactSnapFault", inPlace := ["internal/bytealg.Compare"], unfollowed := true, recurses := true, plainKeys := false, apart := false }
def FnExactSnapFaultSaid : Prop := fnExactSnapFaultRow.holds Try.pinned (OpenSpec.ofChange fnExactSnapFaultSpec)

/-- ITS FALSE NEIGHBOUR: 'it returns false'. Refute it at one input. -/
def fnExactSnapFaultWrong : ChangeSpec := { name := "fnExactSnapFault", fn := fun _ => fun
  | [d] => { results := [.lit (.bool false)], args := [d] }
  | _ => none }
def FnExactSnapFaultWrongFalsely : Prop := fnExactSnapFaultRow.holds Try.pinned (OpenSpec.ofChange fnExactSnapFaultWrong)

/-- 'laws.FnExactNewSnap': WHATEVER THE INPUT: true; the input reads as it did. -/
def fnExactNewSnapSpec : ChangeSpec := { name := "fnExactNewSnap", fn := fun _ => fun
  | [d] => { results := [.lit (.bool true)], args := [d] }
  | _ => none }
def fnExactNewSnapRow : OpenClaim := { program := "ytalkhlimkanlcaa", sum := "2af33443849ffe364ca02560078fb18def3fe21877f4291ca7b8ee9820aca763", func := "loop.example/g00383/laws.FnExactNewSnap", spec := "fnExactNewSnap", inPlace := ["internal/bytealg.Compare"], plainKeys := false, apart := false }
def FnExactNewSnapSaid : Prop := fnExactNewSnapRow.holds Try.pinned (OpenSpec.ofChange fnExactNewSnapSpec)

/-- ITS FALSE NEIGHBOUR: 'it returns false'. Refute it at one input. -/
def fnExactNewSnapWrong : ChangeSpec := { name := "fnExactNewSnap", fn := fun _ => fun
  | [d] => { results := [.lit (.bool false)], args := [d] }
  | _ => none }
def FnExactNewSnapWrongFalsely : Prop := fnExactNewSnapRow.holds Try.pinned (OpenSpec.ofChange fnExactNewSnapWrong)

/-- 'laws.FnExactTallyOf': WHATEVER THE INPUT: true; the input reads as it did. -/
def fnExactTallyOfSpec : ChangeSpec := { name := "fnExactTallyOf", fn := fun _ => fun
  | [d1, d2] => { results := [.lit (.bool true)], args := [d1, d2] }
  | _ => none }
def fnExactTallyOfRow : OpenClaim := { program := "ytalkhlimkanlcaa", sum := "2af33443849ffe364ca02560078fb18def3fe21877f4291ca7b8ee9820aca763", func := "loop.example/g00383/laws.FnExactTallyOf", spec := "fnExactTallyOf", inPlace := ["internal/bytealg.Compare"], unfollowed := true, recurses := true, plainKeys := false, apart := false }
def FnExactTallyOfSaid : Prop := fnExactTallyOfRow.holds Try.pinned (OpenSpec.ofChange fnExactTallyOfSpec)

/-- ITS FALSE NEIGHBOUR: 'it returns false'. Refute it at one input. -/
def fnExactTallyOfWrong : ChangeSpec := { name := "fnExactTallyOf", fn := fun _ => fun
  | [d1, d2] => { results := [.lit (.bool false)], args := [d1, d2] }
  | _ => none }
def FnExactTallyOfWrongFalsely : Prop := fnExactTallyOfRow.holds Try.pinned (OpenSpec.ofChange fnExactTallyOfWrong)

/-- 'laws.FnExactTurnOf': WHATEVER THE INPUT: true; the input reads as it did. -/
def fnExactTurnOfSpec : ChangeSpec := { name := "fnExactTurnOf", fn := fun _ => fun
  | [d1, d2, d3] => { results := [.lit (.bool true)], args := [d1, d2, d3] }
  | _ => none }
def fnExactTurnOfRow : OpenClaim := { program := "ytalkhlimkanlcaa", sum := "2af33443849ffe364ca02560078fb18def3fe21877f4291ca7b8ee9820aca763", func := "loop.example/g00383/laws.FnExactTurnOf", spec := "fnExactTurnOf", inPlace := ["internal/bytealg.Compare"], unfollowed := true, recurses := true, plainKeys := false, apart := false }
def FnExactTurnOfSaid : Prop := fnExactTurnOfRow.holds Try.pinned (OpenSpec.ofChange fnExactTurnOfSpec)

/-- ITS FALSE NEIGHBOUR: 'it returns false'. Refute it at one input. -/
def fnExactTurnOfWrong : ChangeSpec := { name := "fnExactTurnOf", fn := fun _ => fun
  | [d1, d2, d3] => { results := [.lit (.bool false)], args := [d1, d2, d3] }
  | _ => none }
def FnExactTurnOfWrongFalsely : Prop := fnExactTurnOfRow.holds Try.pinned (OpenSpec.ofChange fnExactTurnOfWrong)

/-- 'laws.FnExactWasRecent': WHATEVER THE INPUT: true; the input reads as it did. -/
def fnExactWasRecentSpec : ChangeSpec := { name := "fnExactWasRecent", fn := fun _ => fun
  | [d1, d2, d3] => { results := [.lit (.bool true)], args := [d1, d2, d3] }
  | _ => none }
def fnExactWasRecentRow : OpenClaim := { program := "ytalkhlimkanlcaa", sum := "2af33443849ffe364ca02560078fb18def3fe21877f4291ca7b8ee9820aca763", func := "loop.example/g00383/laws.FnExactWasRecent", spec := "fnExactWasRecent", inPlace := ["internal/bytealg.Compare"], unfollowed := true, recurses := true, plainKeys := false, apart := false }
def FnExactWasRecentSaid : Prop := fnExactWasRecentRow.holds Try.pinned (OpenSpec.ofChange fnExactWasRecentSpec)

/-- ITS FALSE NEIGHBOUR: 'it returns false'. Refute it at one input. -/
def fnExactWasRecentWrong : ChangeSpec := { name := "fnExactWasRecent", fn := fun _ => fun
  | [d1, d2, d3] => { results := [.lit (.bool false)], args := [d1, d2, d3] }
  | _ => none }
def FnExactWasRecentWrongFalsely : Prop := fnExactWasRecentRow.holds Try.pinned (OpenSpec.ofChange fnExactWasRecentWrong)

/-- 'laws.FnExactSameSnaps': WHATEVER THE INPUT: true; the input reads as it did. -/
def fnExactSameSnapsSpec : ChangeSpec := { name := "fnExactSameSnaps", fn := fun _ => fun
  | [d1, d2] => { results := [.lit (.bool true)], args := [d1, d2] }
  | _ => none }
def fnExactSameSnapsRow : OpenClaim := { program := "ytalkhlimkanlcaa", sum := "2af33443849ffe364ca02560078fb18def3fe21877f4291ca7b8ee9820aca763", func := "loop.example/g00383/laws.FnExactSameSnaps", spec := "fnExactSameSnaps", unfollowed := true, recurses := true, plainKeys := false, apart := false }
def FnExactSameSnapsSaid : Prop := fnExactSameSnapsRow.holds Try.pinned (OpenSpec.ofChange fnExactSameSnapsSpec)

/-- ITS FALSE NEIGHBOUR: 'it returns false'. Refute it at one input. -/
def fnExactSameSnapsWrong : ChangeSpec := { name := "fnExactSameSnaps", fn := fun _ => fun
  | [d1, d2] => { results := [.lit (.bool false)], args := [d1, d2] }
  | _ => none }
def FnExactSameSnapsWrongFalsely : Prop := fnExactSameSnapsRow.holds Try.pinned (OpenSpec.ofChange fnExactSameSnapsWrong)

/- THE SECOND FORM. 'bulk': how many values and letters a reading holds, each counted each time it is reached (what is shared counts as often as it is met; a slice's spare places count too). A statement '..UptoSaid' is the law's where the arguments, and the package variables that the reading takes, are together of bulk at most 1048576: NARROWER than '..Said'. Prove '..Said' where nothing that the law and all that it calls make is longer than what came in: it says more and counts as full. Else prove '..UptoSaid'. A law counts once. -/
mutual
def uptoBulk {H : Type} : DataW H → Nat
  | .lit (.string bytes) => bytes.length + 1
  | .lit _ => 1
  | .nil => 1
  | .ptr d => uptoBulk d + 1
  | .slice elems spare => uptoBulkAll elems + uptoBulkAll spare + 1
  | .agg parts => uptoBulkAll parts + 1
  | .iface _ d => uptoBulk d + 1
  | .map entries => uptoBulkEntries entries + 1
  | .held _ => 1
def uptoBulkAll {H : Type} : List (DataW H) → Nat
  | [] => 0
  | d :: r => uptoBulk d + uptoBulkAll r
def uptoBulkEntries {H : Type} : List (Lit × DataW H) → Nat
  | [] => 0
  | x :: r => uptoBulkEntry x + uptoBulkEntries r
def uptoBulkEntry {H : Type} : Lit × DataW H → Nat
  | (.string bytes, d) => bytes.length + uptoBulk d + 1
  | (_, d) => uptoBulk d + 1
 end
def uptoSmall : (H : Type) → List (DataW H) → Bool := fun _ ds => decide (uptoBulkAll ds ≤ 1048576)
def OpenSpec.upto (s : _root_.Go.ChangeSpec) : _root_.Go.OpenSpec := { _root_.Go.OpenSpec.ofChange s with cond := some uptoSmall }

/-- 'laws.FnExactSnapFault', WHERE WHAT IT READS IS OF BULK AT MOST 1048576: true; the input reads as it did. -/
def fnExactSnapFaultUptoRow : OpenClaim := { program := "ytalkhlimkanlcaa", sum := "2af33443849ffe364ca02560078fb18def3fe21877f4291ca7b8ee9820aca763", func := "loop.example/g00383/laws.FnExactSnapFault", spec := "fnExactSnapFault", inPlace := ["internal/bytealg.Compare"], unfollowed := true, recurses := true, plainKeys := false, apart := false, narrowed := true }
def FnExactSnapFaultUptoSaid : Prop := fnExactSnapFaultUptoRow.holds Try.pinned (OpenSpec.upto fnExactSnapFaultSpec)

/-- 'laws.FnExactNewSnap', WHERE WHAT IT READS IS OF BULK AT MOST 1048576: true; the input reads as it did. -/
def fnExactNewSnapUptoRow : OpenClaim := { program := "ytalkhlimkanlcaa", sum := "2af33443849ffe364ca02560078fb18def3fe21877f4291ca7b8ee9820aca763", func := "loop.example/g00383/laws.FnExactNewSnap", spec := "fnExactNewSnap", inPlace := ["internal/bytealg.Compare"], plainKeys := false, apart := false, narrowed := true }
def FnExactNewSnapUptoSaid : Prop := fnExactNewSnapUptoRow.holds Try.pinned (OpenSpec.upto fnExactNewSnapSpec)

/-- 'laws.FnExactTallyOf', WHERE WHAT IT READS IS OF BULK AT MOST 1048576: true; the input reads as it did. -/
def fnExactTallyOfUptoRow : OpenClaim := { program := "ytalkhlimkanlcaa", sum := "2af33443849ffe364ca02560078fb18def3fe21877f4291ca7b8ee9820aca763", func := "loop.example/g00383/laws.FnExactTallyOf", spec := "fnExactTallyOf", inPlace := ["internal/bytealg.Compare"], unfollowed := true, recurses := true, plainKeys := false, apart := false, narrowed := true }
def FnExactTallyOfUptoSaid : Prop := fnExactTallyOfUptoRow.holds Try.pinned (OpenSpec.upto fnExactTallyOfSpec)

/-- 'laws.FnExactTurnOf', WHERE WHAT IT READS IS OF BULK AT MOST 1048576: true; the input reads as it did. -/
def fnExactTurnOfUptoRow : OpenClaim := { program := "ytalkhlimkanlcaa", sum := "2af33443849ffe364ca02560078fb18def3fe21877f4291ca7b8ee9820aca763", func := "loop.example/g00383/laws.FnExactTurnOf", spec := "fnExactTurnOf", inPlace := ["internal/bytealg.Compare"], unfollowed := true, recurses := true, plainKeys := false, apart := false, narrowed := true }
def FnExactTurnOfUptoSaid : Prop := fnExactTurnOfUptoRow.holds Try.pinned (OpenSpec.upto fnExactTurnOfSpec)

/-- 'laws.FnExactWasRecent', WHERE WHAT IT READS IS OF BULK AT MOST 1048576: true; the input reads as it did. -/
def fnExactWasRecentUptoRow : OpenClaim := { program := "ytalkhlimkanlcaa", sum := "2af33443849ffe364ca02560078fb18def3fe21877f4291ca7b8ee9820aca763", func := "loop.example/g00383/laws.FnExactWasRecent", spec := "fnExactWasRecent", inPlace := ["internal/bytealg.Compare"], unfollowed := true, recurses := true, plainKeys := false, apart := false, narrowed := true }
def FnExactWasRecentUptoSaid : Prop := fnExactWasRecentUptoRow.holds Try.pinned (OpenSpec.upto fnExactWasRecentSpec)

/-- 'laws.FnExactSameSnaps', WHERE WHAT IT READS IS OF BULK AT MOST 1048576: true; the input reads as it did. -/
def fnExactSameSnapsUptoRow : OpenClaim := { program := "ytalkhlimkanlcaa", sum := "2af33443849ffe364ca02560078fb18def3fe21877f4291ca7b8ee9820aca763", func := "loop.example/g00383/laws.FnExactSameSnaps", spec := "fnExactSameSnaps", unfollowed := true, recurses := true, plainKeys := false, apart := false, narrowed := true }
def FnExactSameSnapsUptoSaid : Prop := fnExactSameSnapsUptoRow.holds Try.pinned (OpenSpec.upto fnExactSameSnapsSpec)

end Rows
end Go.Proofs.Ytalkhlimkanlcaa
