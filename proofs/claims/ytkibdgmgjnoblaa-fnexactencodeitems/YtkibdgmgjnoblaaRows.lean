/-
  No cell of these rows narrows 'for every input' (looked for: loops, veiled, ifaces, maps, wideKeys, modest, calm, conditions, laid).
  DERIVED. THE GIVEN ROWS OF THIS SEAT. 4 by the template 'for every input the law returns true; each argument reads behind the call as it read before'; 0 by the template 'total and deterministic' (their statements: YtkibdgmgjnoblaaTotals.lean).
  GIVEN WITH THE SEED: the statements are not yours to turn. If you find one false, say at which input.
  Laid BY PROGRAM, IN A SANDBOX (cutbox-rows.mjs): the forced cells as the released guide's own fill.sh prints them over the translation ce3ecca2c1aa53fe… (all of the seat's roots in one cut). By AI agents, Wed Nov 11 2026. No macro, syntax, notation, axiom, sorry.
-/
import Derived.Test.YtkibdgmgjnoblaaChecked
import GoSem.Claim
import GoSem.ClaimJoined
import GoSem.ClaimMapViews
import Derived.JoinedTies
import Derived.KernelRfl
namespace Go.Proofs.Ytkibdgmgjnoblaa
/- THE CELL 'sum', in the pinned program and in every row, IS THE sha256 OF THE DUMP (.gsa) THAT YtkibdgmgjnoblaaProg.lean LOADS. Nothing in Lean hashes anything: it is a label: what it is worth is what the hold of that sum in a sandbox is worth. -/
noncomputable def Try.pinned : Pinned := { name := "ytkibdgmgjnoblaa", sum := "ce3ecca2c1aa53fe366bfbcdd2c210887ddf3d4a164d1d221655a464bcd04415", checked := Try.checked }
namespace Rows
def none {H : Type} : Left H := { results := [], args := [] }

/-- 'laws.FnParts': WHATEVER THE INPUT: true; the input reads as it did. -/
def fnPartsSpec : ChangeSpec := { name := "fnParts", fn := fun _ => fun
  | [d] => { results := [.lit (.bool true)], args := [d] }
  | _ => none }
def fnPartsRow : OpenClaim := { program := "ytkibdgmgjnoblaa", sum := "ce3ecca2c1aa53fe366bfbcdd2c210887ddf3d4a164d1d221655a464bcd04415", func := "loop.example/g00383/laws.FnParts", spec := "fnParts", unfollowed := true, recurses := true, apart := false }
def FnPartsSaid : Prop := fnPartsRow.holds Try.pinned (OpenSpec.ofChange fnPartsSpec)

/-- ITS FALSE NEIGHBOUR: 'it returns false'. Refute it at one input. -/
def fnPartsWrong : ChangeSpec := { name := "fnParts", fn := fun _ => fun
  | [d] => { results := [.lit (.bool false)], args := [d] }
  | _ => none }
def FnPartsWrongFalsely : Prop := fnPartsRow.holds Try.pinned (OpenSpec.ofChange fnPartsWrong)

/-- 'laws.FnExactItemsFault': WHATEVER THE INPUT: true; the input reads as it did. -/
def fnExactItemsFaultSpec : ChangeSpec := { name := "fnExactItemsFault", fn := fun _ => fun
  | [d] => { results := [.lit (.bool true)], args := [d] }
  | _ => none }
def fnExactItemsFaultRow : OpenClaim := { program := "ytkibdgmgjnoblaa", sum := "ce3ecca2c1aa53fe366bfbcdd2c210887ddf3d4a164d1d221655a464bcd04415", func := "loop.example/g00383/laws.FnExactItemsFault", spec := "fnExactItemsFault", unfollowed := true, recurses := true, apart := false }
def FnExactItemsFaultSaid : Prop := fnExactItemsFaultRow.holds Try.pinned (OpenSpec.ofChange fnExactItemsFaultSpec)

/-- ITS FALSE NEIGHBOUR: 'it returns false'. Refute it at one input. -/
def fnExactItemsFaultWrong : ChangeSpec := { name := "fnExactItemsFault", fn := fun _ => fun
  | [d] => { results := [.lit (.bool false)], args := [d] }
  | _ => none }
def FnExactItemsFaultWrongFalsely : Prop := fnExactItemsFaultRow.holds Try.pinned (OpenSpec.ofChange fnExactItemsFaultWrong)

/-- 'laws.FnExactEncodeItems': WHATEVER THE INPUT: true; the input reads as it did. -/
def fnExactEncodeItemsSpec : ChangeSpec := { name := "fnExactEncodeItems", fn := fun _ => fun
  | [d] => { results := [.lit (.bool true)], args := [d] }
  | _ => none }
def fnExactEncodeItemsRow : OpenClaim := { program := "ytkibdgmgjnoblaa", sum := "ce3ecca2c1aa53fe366bfbcdd2c210887ddf3d4a164d1d221655a464bcd04415", func := "loop.example/g00383/laws.FnExactEncodeItems", spec := "fnExactEncodeItems", unfollowed := true, recurses := true, apart := false }
def FnExactEncodeItemsSaid : Prop := fnExactEncodeItemsRow.holds Try.pinned (OpenSpec.ofChange fnExactEncodeItemsSpec)

/-- ITS FALSE NEIGHBOUR: 'it returns false'. Refute it at one input. -/
def fnExactEncodeItemsWrong : ChangeSpec := { name := "fnExactEncodeItems", fn := fun _ => fun
  | [d] => { results := [.lit (.bool false)], args := [d] }
  | _ => none }
def FnExactEncodeItemsWrongFalsely : Prop := fnExactEncodeItemsRow.holds Try.pinned (OpenSpec.ofChange fnExactEncodeItemsWrong)

/-- 'laws.FnExactPartsOf': WHATEVER THE INPUT: true; the input reads as it did. -/
def fnExactPartsOfSpec : ChangeSpec := { name := "fnExactPartsOf", fn := fun _ => fun
  | [d1, d2] => { results := [.lit (.bool true)], args := [d1, d2] }
  | _ => none }
def fnExactPartsOfRow : OpenClaim := { program := "ytkibdgmgjnoblaa", sum := "ce3ecca2c1aa53fe366bfbcdd2c210887ddf3d4a164d1d221655a464bcd04415", func := "loop.example/g00383/laws.FnExactPartsOf", spec := "fnExactPartsOf", unfollowed := true, recurses := true, apart := false }
def FnExactPartsOfSaid : Prop := fnExactPartsOfRow.holds Try.pinned (OpenSpec.ofChange fnExactPartsOfSpec)

/-- ITS FALSE NEIGHBOUR: 'it returns false'. Refute it at one input. -/
def fnExactPartsOfWrong : ChangeSpec := { name := "fnExactPartsOf", fn := fun _ => fun
  | [d1, d2] => { results := [.lit (.bool false)], args := [d1, d2] }
  | _ => none }
def FnExactPartsOfWrongFalsely : Prop := fnExactPartsOfRow.holds Try.pinned (OpenSpec.ofChange fnExactPartsOfWrong)

/- THE SECOND FORM. 'bulk': how many values and letters a reading holds, each counted each time it is reached (what is shared counts as often as it is met; a slice's spare places count too). A statement '..UptoSaid' is the law's where the arguments, and the package variables that the reading takes, are together of bulk at most 1048576: NARROWER than '..Said'. Prove '..Said' where nothing that the law and all that it calls make is longer than what came in: it says more and counts as full. Else prove '..UptoSaid'. A law counts once. -/
mutual
def uptoBulk {H : Type} : DataW H → Nat
  | .lit (.string bytes) => bytes.length + 1
  | .lit _ => 1
  | .nil => 1
  | .ptr d => uptoBulk d + 1
  | .slice elems spare => uptoBulkAll elems + uptoBulkAll spare + 1
  | .agg parts => uptoBulkAll parts + 1
  | .iface _ d => uptoBulk d + 1
  | .map entries => uptoBulkEntries entries + 1
  | .held _ => 1
def uptoBulkAll {H : Type} : List (DataW H) → Nat
  | [] => 0
  | d :: r => uptoBulk d + uptoBulkAll r
def uptoBulkEntries {H : Type} : List (Lit × DataW H) → Nat
  | [] => 0
  | x :: r => uptoBulkEntry x + uptoBulkEntries r
def uptoBulkEntry {H : Type} : Lit × DataW H → Nat
  | (.string bytes, d) => bytes.length + uptoBulk d + 1
  | (_, d) => uptoBulk d + 1
 end
def uptoSmall : (H : Type) → List (DataW H) → Bool := fun _ ds => decide (uptoBulkAll ds ≤ 1048576)
def OpenSpec.upto (s : _root_.Go.ChangeSpec) : _root_.Go.OpenSpec := { _root_.Go.OpenSpec.ofChange s with cond := some uptoSmall }

/-- 'laws.FnParts', WHERE WHAT IT READS IS OF BULK AT MOST 1048576: true; the input reads as it did. -/
def fnPartsUptoRow : OpenClaim := { program := "ytkibdgmgjnoblaa", sum := "ce3ecca2c1aa53fe366bfbcdd2c210887ddf3d4a164d1d221655a464bcd04415", func := "loop.example/g00383/laws.FnParts", spec := "fnParts", unfollowed := true, recurses := true, apart := false, narrowed := true }
def FnPartsUptoSaid : Prop := fnPartsUptoRow.holds Try.pinned (OpenSpec.upto fnPartsSpec)

/-- 'laws.FnExactItemsFault', WHERE WHAT IT READS IS OF BULK AT MOST 1048576: true; the input reads as it did. -/
def fnExactItemsFaultUptoRow : OpenClaim := { program := "ytkibdgmgjnoblaa", sum := "ce3ecca2c1aa53fe366bfbcdd2c210887ddf3d4a164d1d221655a464bcd04415", func := "loop.example/g00383/laws.FnExactItemsFault", spec := "fnExactItemsFault", unfollowed := true, recurses := true, apart := false, narrowed := true }
def FnExactItemsFaultUptoSaid : Prop := fnExactItemsFaultUptoRow.holds Try.pinned (OpenSpec.upto fnExactItemsFaultSpec)

/-- 'laws.FnExactEncodeItems', WHERE WHAT IT READS IS OF BULK AT MOST 1048576: true; the input reads as it did. -/
def fnExactEncodeItemsUptoRow : OpenClaim := { program := "ytkibdgmgjnoblaa", sum := "ce3ecca2c1aa53fe366bfbcdd2c210887ddf3d4a164d1d221655a464bcd04415", func := "loop.example/g00383/laws.FnExactEncodeItems", spec := "fnExactEncodeItems", unfollowed := true, recurses := true, apart := false, narrowed := true }
def FnExactEncodeItemsUptoSaid : Prop := fnExactEncodeItemsUptoRow.holds Try.pinned (OpenSpec.upto fnExactEncodeItemsSpec)

/-- 'laws.FnExactPartsOf', WHERE WHAT IT READS IS OF BULK AT MOST 1048576: true; the input reads as it did. -/
def fnExactPartsOfUptoRow : OpenClaim := { program := "ytkibdgmgjnoblaa", sum := "ce3ecca2c1aa53fe366bfbcdd2c210887ddf3d4a164d1d221655a464bcd04415", func := "loop.example/g00383/laws.FnExactPartsOf", spec := "fnExactPartsOf", unfollowed := true, recurses := true, apart := false, narrowed := true }
def FnExactPartsOfUptoSaid : Prop := fnExactPartsOfUptoRow.holds Try.pinned (OpenSpec.upto fnExactPartsOfSpec)

end Rows
end Go.Proofs.Ytkibdgmgjnoblaa
