/- What is proved here: what is known behind the block of an answer that was laid first; it holds for every program. -/
import Derived.Test.YtndkdngojjhinaaBase
namespace Go.Proofs.Ytndkdngojjhinaa
open Go.RowKit
set_option linter.unusedVariables false
set_option maxRecDepth 100000

/-- What is known behind the block of the answer. -/
theorem behind_res {w w2 : World} {T : TypeId} (hbel : Below (w.heap.size + 1) (w.alloc (.cells #[.int .i64 0, .slice none 0 0] T)) w2) :
    w2.cell? ⟨w.heap.size, 0, none⟩ = some (.int .i64 0) ∧ w2.cell? ⟨w.heap.size, 1, none⟩ = some (.slice none 0 0) ∧ w2.frozen? ⟨w.heap.size, 0, none⟩ = false ∧ w2.frozen? ⟨w.heap.size, 1, none⟩ = false ∧ Below w.heap.size w w2 ∧ w.heap.size + 1 ≤ w2.heap.size :=
  ⟨(hbel.cell (by simp)).trans (by simp), (hbel.cell (by simp)).trans (by simp), (hbel.frozen (by simp)).trans (by simp), (hbel.frozen (by simp)).trans (by simp), (below_alloc w _).trans (hbel.mono (by omega)), by have := hbel.size; simp at this; omega⟩

end Go.Proofs.Ytndkdngojjhinaa
