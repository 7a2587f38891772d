/- What is proved here: a block of two cells, read later on. It holds for every program. -/
import Derived.Test.YtpcokoejmodmaaaBase
import Derived.WalkKit
namespace Go.Proofs.Ytpcokoejmodmaaa
open Go.RowKit
set_option linter.unusedVariables false

/-- A block of two cells. -/
def Two (W : World) (b : Nat) (x y : Value) : Prop := W.cell? ⟨b, 0, none⟩ = some x ∧ W.cell? ⟨b, 1, none⟩ = some y ∧ b < W.heap.size

theorem Two.below {W W' : World} {b : Nat} {x y : Value} (h : Two W b x y) {C : Nat} (hb : Below C W W') (hC : W.heap.size ≤ C) : Two W' b x y :=
  ⟨(hb.cell (Nat.lt_of_lt_of_le h.2.2 hC)).trans h.1, (hb.cell (Nat.lt_of_lt_of_le h.2.2 hC)).trans h.2.1, Nat.lt_of_lt_of_le h.2.2 hb.size⟩

theorem Two.new (w : World) (x y : Value) (t : TypeId) : Two (w.alloc (Obj.cells #[x, y] t)) w.heap.size x y := by
  refine ⟨by simp, by simp, by simp⟩

end Go.Proofs.Ytpcokoejmodmaaa
