/- What is proved here: the block of an answer of numbers, read and written, and two numbers to be appended. -/
import Derived.Test.YtjdeobifhgdffaaDoorBase
import Derived.Test.YtjdeobifhgdffaaDoorIBase
import Derived.Test.YtjdeobifhgdffaaDoorRound
import Derived.Test.YtjdeobifhgdffaaDoorOwnG
import Derived.WalkKit
namespace Go.Proofs.YtjdeobifhgdffaaDoor
open Go.RowKit
set_option linter.unusedVariables false

/-- A block of an answer that is laid: its code and its list. -/
def RBlk (w : World) (b : Nat) (c : Int) (v : Value) : Prop := w.heap[b]? = some (.cells #[.int .i64 c, v] 36 (0, 0))

theorem RBlk.below {w w' : World} {b C : Nat} {c : Int} {v : Value} (h : RBlk w b c v) (hb : Below C w w') (hC : b < C) : RBlk w' b c v := by
  unfold RBlk
  rw [hb.block b hC]; exact h

theorem news2 (w : World) (x y : Value) (t : TypeId) : ∀ (j : Nat) (u : Value), [x, y][j]? = some u → (w.alloc (.cells #[x, y] t)).cell? ((⟨w.heap.size, 0, none⟩ : Addr).add j) = some u := by
  intro j u hj
  rw [add_none, Nat.zero_add, World.cell?_alloc_new]
  match j, hj with
  | 0, hj => simpa using hj
  | 1, hj => simpa using hj

theorem RBlk.set {w : World} {b : Nat} {c : Int} {v : Value} (h : RBlk w b c v) (v' : Value) : RBlk (w.setCell ⟨b, 1, none⟩ v') b c v' := by
  unfold RBlk at *
  show (w.heap.modify b _)[b]? = _
  simp [Array.getElem?_modify, h]

theorem RBlk.other {w : World} {b b' : Nat} {c : Int} {v : Value} (h : RBlk w b c v) (i : Nat) (v' : Value) (hb : b ≠ b') : RBlk (w.setCell ⟨b', i, none⟩ v') b c v := by
  unfold RBlk at *
  rw [heap_setCell_other _ ⟨b', i, none⟩ b _ hb]; exact h

theorem RBlk.lt {w : World} {b : Nat} {c : Int} {v : Value} (h : RBlk w b c v) : b < w.heap.size := lt_of_block h

theorem RBlk.cells {w : World} {b : Nat} {c : Int} {v : Value} (h : RBlk w b c v) : w.cell? ⟨b, 0, none⟩ = some (.int .i64 c) ∧ w.cell? ⟨b, 1, none⟩ = some v ∧ w.frozen? ⟨b, 0, none⟩ = false ∧ w.frozen? ⟨b, 1, none⟩ = false := res_facts h

end Go.Proofs.YtjdeobifhgdffaaDoor
