/-
  No cell of these rows narrows 'for every input' (looked for: loops, veiled, ifaces, maps, wideKeys, modest, calm, conditions, laid).
  DERIVED. THE GIVEN ROWS OF THIS SEAT. 5 by the template 'for every input the law returns true; each argument reads behind the call as it read before'; 0 by the template 'total and deterministic' (their statements: YtcgiibifcnefhagTotals.lean).
  GIVEN WITH THE SEED: the statements are not yours to turn. If you find one false, say at which input.
  Laid BY PROGRAM, IN A SANDBOX (cutbox-rows.mjs): the forced cells as the released guide's own fill.sh prints them over the translation d21a09189a4f9a92… (all of the seat's roots in one cut). By AI agents, Wed Nov 11 2026. No macro, syntax, notation, axiom, sorry.
-/
import Derived.Test.YtcgiibifcnefhagChecked
import GoSem.Claim
import GoSem.ClaimJoined
import GoSem.ClaimMapViews
import Derived.JoinedTies
import Derived.KernelRfl
namespace Go.Proofs.Ytcgiibifcnefhag
/- THE CELL 'sum', in the pinned program and in every row, IS THE sha256 OF THE DUMP (.gsa) THAT YtcgiibifcnefhagProg.lean LOADS. Nothing in Lean hashes anything: it is a label: what it is worth is what the hold of that sum in a sandbox is worth. -/
noncomputable def Try.pinned : Pinned := { name := "ytcgiibifcnefhag", sum := "d21a09189a4f9a92801a23850090829a09cce24e0a9a5e4429a2f41bce49c1d8", checked := Try.checked }
namespace Rows
def none {H : Type} : Left H := { results := [], args := [] }

/-- 'laws.FnExactBytesOfHex': WHATEVER THE INPUT: true; the input reads as it did. -/
def fnExactBytesOfHexSpec : ChangeSpec := { name := "fnExactBytesOfHex", fn := fun _ => fun
  | [d] => { results := [.lit (.bool true)], args := [d] }
  | _ => none }
def fnExactBytesOfHexRow : OpenClaim := { program := "ytcgiibifcnefhag", sum := "d21a09189a4f9a92801a23850090829a09cce24e0a9a5e4429a2f41bce49c1d8", func := "loop.example/g00383/laws.FnExactBytesOfHex", spec := "fnExactBytesOfHex", apart := false }
def FnExactBytesOfHexSaid : Prop := fnExactBytesOfHexRow.holds Try.pinned (OpenSpec.ofChange fnExactBytesOfHexSpec)

/-- ITS FALSE NEIGHBOUR: 'it returns false'. Refute it at one input. -/
def fnExactBytesOfHexWrong : ChangeSpec := { name := "fnExactBytesOfHex", fn := fun _ => fun
  | [d] => { results := [.lit (.bool false)], args := [d] }
  | _ => none }
def FnExactBytesOfHexWrongFalsely : Prop := fnExactBytesOfHexRow.holds Try.pinned (OpenSpec.ofChange fnExactBytesOfHexWrong)

/-- 'laws.FnExactSameBytes': WHATEVER THE INPUT: true; the input reads as it did. -/
def fnExactSameBytesSpec : ChangeSpec := { name := "fnExactSameBytes", fn := fun _ => fun
  | [d1, d2] => { results := [.lit (.bool true)], args := [d1, d2] }
  | _ => none }
def fnExactSameBytesRow : OpenClaim := { program := "ytcgiibifcnefhag", sum := "d21a09189a4f9a92801a23850090829a09cce24e0a9a5e4429a2f41bce49c1d8", func := "loop.example/g00383/laws.FnExactSameBytes", spec := "fnExactSameBytes", apart := false }
def FnExactSameBytesSaid : Prop := fnExactSameBytesRow.holds Try.pinned (OpenSpec.ofChange fnExactSameBytesSpec)

/-- ITS FALSE NEIGHBOUR: 'it returns false'. Refute it at one input. -/
def fnExactSameBytesWrong : ChangeSpec := { name := "fnExactSameBytes", fn := fun _ => fun
  | [d1, d2] => { results := [.lit (.bool false)], args := [d1, d2] }
  | _ => none }
def FnExactSameBytesWrongFalsely : Prop := fnExactSameBytesRow.holds Try.pinned (OpenSpec.ofChange fnExactSameBytesWrong)

/-- 'laws.FnExactIsAhead': WHATEVER THE INPUT: true; the input reads as it did. -/
def fnExactIsAheadSpec : ChangeSpec := { name := "fnExactIsAhead", fn := fun _ => fun
  | [d1, d2] => { results := [.lit (.bool true)], args := [d1, d2] }
  | _ => none }
def fnExactIsAheadRow : OpenClaim := { program := "ytcgiibifcnefhag", sum := "d21a09189a4f9a92801a23850090829a09cce24e0a9a5e4429a2f41bce49c1d8", func := "loop.example/g00383/laws.FnExactIsAhead", spec := "fnExactIsAhead", inPlace := ["internal/bytealg.Compare"], apart := false }
def FnExactIsAheadSaid : Prop := fnExactIsAheadRow.holds Try.pinned (OpenSpec.ofChange fnExactIsAheadSpec)

/-- ITS FALSE NEIGHBOUR: 'it returns false'. Refute it at one input. -/
def fnExactIsAheadWrong : ChangeSpec := { name := "fnExactIsAhead", fn := fun _ => fun
  | [d1, d2] => { results := [.lit (.bool false)], args := [d1, d2] }
  | _ => none }
def FnExactIsAheadWrongFalsely : Prop := fnExactIsAheadRow.holds Try.pinned (OpenSpec.ofChange fnExactIsAheadWrong)

/-- 'laws.FnExactShortBytes': WHATEVER THE INPUT: true; the input reads as it did. -/
def fnExactShortBytesSpec : ChangeSpec := { name := "fnExactShortBytes", fn := fun _ => fun
  | [d] => { results := [.lit (.bool true)], args := [d] }
  | _ => none }
def fnExactShortBytesRow : OpenClaim := { program := "ytcgiibifcnefhag", sum := "d21a09189a4f9a92801a23850090829a09cce24e0a9a5e4429a2f41bce49c1d8", func := "loop.example/g00383/laws.FnExactShortBytes", spec := "fnExactShortBytes", recurses := true, apart := false }
def FnExactShortBytesSaid : Prop := fnExactShortBytesRow.holds Try.pinned (OpenSpec.ofChange fnExactShortBytesSpec)

/-- ITS FALSE NEIGHBOUR: 'it returns false'. Refute it at one input. -/
def fnExactShortBytesWrong : ChangeSpec := { name := "fnExactShortBytes", fn := fun _ => fun
  | [d] => { results := [.lit (.bool false)], args := [d] }
  | _ => none }
def FnExactShortBytesWrongFalsely : Prop := fnExactShortBytesRow.holds Try.pinned (OpenSpec.ofChange fnExactShortBytesWrong)

/-- 'laws.FnExactBytesShort': WHATEVER THE INPUT: true; the input reads as it did. -/
def fnExactBytesShortSpec : ChangeSpec := { name := "fnExactBytesShort", fn := fun _ => fun
  | [d] => { results := [.lit (.bool true)], args := [d] }
  | _ => none }
def fnExactBytesShortRow : OpenClaim := { program := "ytcgiibifcnefhag", sum := "d21a09189a4f9a92801a23850090829a09cce24e0a9a5e4429a2f41bce49c1d8", func := "loop.example/g00383/laws.FnExactBytesShort", spec := "fnExactBytesShort", apart := false }
def FnExactBytesShortSaid : Prop := fnExactBytesShortRow.holds Try.pinned (OpenSpec.ofChange fnExactBytesShortSpec)

/-- ITS FALSE NEIGHBOUR: 'it returns false'. Refute it at one input. -/
def fnExactBytesShortWrong : ChangeSpec := { name := "fnExactBytesShort", fn := fun _ => fun
  | [d] => { results := [.lit (.bool false)], args := [d] }
  | _ => none }
def FnExactBytesShortWrongFalsely : Prop := fnExactBytesShortRow.holds Try.pinned (OpenSpec.ofChange fnExactBytesShortWrong)

/- THE SECOND FORM. 'bulk': how many values and letters a reading holds, each counted each time it is reached (what is shared counts as often as it is met; a slice's spare places count too). A statement '..UptoSaid' is the law's where the arguments, and the package variables that the reading takes, are together of bulk at most 1048576: NARROWER than '..Said'. Prove '..Said' where nothing that the law and all that it calls make is longer than what came in: it says more and counts as full. Else prove '..UptoSaid'. A law counts once. -/
mutual
def uptoBulk {H : Type} : DataW H → Nat
  | .lit (.string bytes) => bytes.length + 1
  | .lit _ => 1
  | .nil => 1
  | .ptr d => uptoBulk d + 1
  | .slice elems spare => uptoBulkAll elems + uptoBulkAll spare + 1
  | .agg parts => uptoBulkAll parts + 1
  | .iface _ d => uptoBulk d + 1
  | .map entries => uptoBulkEntries entries + 1
  | .held _ => 1
def uptoBulkAll {H : Type} : List (DataW H) → Nat
  | [] => 0
  | d :: r => uptoBulk d + uptoBulkAll r
def uptoBulkEntries {H : Type} : List (Lit × DataW H) → Nat
  | [] => 0
  | x :: r => uptoBulkEntry x + uptoBulkEntries r
def uptoBulkEntry {H : Type} : Lit × DataW H → Nat
  | (.string bytes, d) => bytes.length + uptoBulk d + 1
  | (_, d) => uptoBulk d + 1
 end
def uptoSmall : (H : Type) → List (DataW H) → Bool := fun _ ds => decide (uptoBulkAll ds ≤ 1048576)
def OpenSpec.upto (s : _root_.Go.ChangeSpec) : _root_.Go.OpenSpec := { _root_.Go.OpenSpec.ofChange s with cond := some uptoSmall }

/-- 'laws.FnExactBytesOfHex', WHERE WHAT IT READS IS OF BULK AT MOST 1048576: true; the input reads as it did. -/
def fnExactBytesOfHexUptoRow : OpenClaim := { program := "ytcgiibifcnefhag", sum := "d21a09189a4f9a92801a23850090829a09cce24e0a9a5e4429a2f41bce49c1d8", func := "loop.example/g00383/laws.FnExactBytesOfHex", spec := "fnExactBytesOfHex", apart := false, narrowed := true }
def FnExactBytesOfHexUptoSaid : Prop := fnExactBytesOfHexUptoRow.holds Try.pinned (OpenSpec.upto fnExactBytesOfHexSpec)

/-- 'laws.FnExactSameBytes', WHERE WHAT IT READS IS OF BULK AT MOST 1048576: true; the input reads as it did. -/
def fnExactSameBytesUptoRow : OpenClaim := { program := "ytcgiibifcnefhag", sum := "d21a09189a4f9a92801a23850090829a09cce24e0a9a5e4429a2f41bce49c1d8", func := "loop.example/g00383/laws.FnExactSameBytes", spec := "fnExactSameBytes", apart := false, narrowed := true }
def FnExactSameBytesUptoSaid : Prop := fnExactSameBytesUptoRow.holds Try.pinned (OpenSpec.upto fnExactSameBytesSpec)

/-- 'laws.FnExactIsAhead', WHERE WHAT IT READS IS OF BULK AT MOST 1048576: true; the input reads as it did. -/
def fnExactIsAheadUptoRow : OpenClaim := { program := "ytcgiibifcnefhag", sum := "d21a09189a4f9a92801a23850090829a09cce24e0a9a5e4429a2f41bce49c1d8", func := "loop.example/g00383/laws.FnExactIsAhead", spec := "fnExactIsAhead", inPlace := ["internal/bytealg.Compare"], apart := false, narrowed := true }
def FnExactIsAheadUptoSaid : Prop := fnExactIsAheadUptoRow.holds Try.pinned (OpenSpec.upto fnExactIsAheadSpec)

/-- 'laws.FnExactShortBytes', WHERE WHAT IT READS IS OF BULK AT MOST 1048576: true; the input reads as it did. -/
def fnExactShortBytesUptoRow : OpenClaim := { program := "ytcgiibifcnefhag", sum := "d21a09189a4f9a92801a23850090829a09cce24e0a9a5e4429a2f41bce49c1d8", func := "loop.example/g00383/laws.FnExactShortBytes", spec := "fnExactShortBytes", recurses := true, apart := false, narrowed := true }
def FnExactShortBytesUptoSaid : Prop := fnExactShortBytesUptoRow.holds Try.pinned (OpenSpec.upto fnExactShortBytesSpec)

/-- 'laws.FnExactBytesShort', WHERE WHAT IT READS IS OF BULK AT MOST 1048576: true; the input reads as it did. -/
def fnExactBytesShortUptoRow : OpenClaim := { program := "ytcgiibifcnefhag", sum := "d21a09189a4f9a92801a23850090829a09cce24e0a9a5e4429a2f41bce49c1d8", func := "loop.example/g00383/laws.FnExactBytesShort", spec := "fnExactBytesShort", apart := false, narrowed := true }
def FnExactBytesShortUptoSaid : Prop := fnExactBytesShortUptoRow.holds Try.pinned (OpenSpec.upto fnExactBytesShortSpec)

end Rows
end Go.Proofs.Ytcgiibifcnefhag
