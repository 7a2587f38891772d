/- What is proved here: the cells of a list of numbers that was just laid. It holds for every program. -/
import Derived.Test.YtpcokoejmodmaaaBase
import Derived.WalkKit
namespace Go.Proofs.Ytpcokoejmodmaaa
open Go.RowKit
set_option linter.unusedVariables false

theorem cells_new {w : World} (L : List Int) (t : TypeId) : ∀ i, i < L.length → (w.alloc (Obj.cells (L.map (Value.int .i64)).toArray t)).cell? ⟨w.heap.size, i, none⟩ = some (.int .i64 (L.getD i 0)) := by
  intro i hi
  rw [World.cell?_alloc_new]
  simp [hi]

end Go.Proofs.Ytpcokoejmodmaaa
