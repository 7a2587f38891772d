/- What is proved here: blocks of lanes in a world (64 unsigned bits each), read and written; they hold for every program. -/
import Derived.Test.YtjdeobifhgdffaaDoorBase
import Derived.Test.YtjdeobifhgdffaaDoorKMath
import Derived.WalkKit
import Derived.Deep.MidRow
namespace Go.Proofs.YtjdeobifhgdffaaDoor
open Go.RowKit
set_option linter.unusedVariables false

/-- Lanes as values. -/
def vals (Z : List Nat) : List Value := Z.map fun (a : Nat) => Value.int .u64 (a : Int)

/-- A block of lanes. -/
def UBlk (w : World) (b : Nat) (Z : List Nat) (t : TypeId) : Prop := w.heap[b]? = some (.cells (vals Z).toArray t (0, 0))

theorem UBlk.cell {w : World} {b : Nat} {Z : List Nat} {t : TypeId} (h : UBlk w b Z t) (i : Nat) (hi : i < Z.length) : w.cell? ⟨b, i, none⟩ = some (.int .u64 (Z.getD i 0 : Int)) := by
  simp [World.cell?, show w.heap[b]? = _ from h, hi, vals]

theorem UBlk.free {w : World} {b : Nat} {Z : List Nat} {t : TypeId} (h : UBlk w b Z t) (i : Nat) : w.frozen? ⟨b, i, none⟩ = false := frozen_of_row w b i _ t h

theorem UBlk.set {w : World} {b : Nat} {Z : List Nat} {t : TypeId} (h : UBlk w b Z t) (i v : Nat) : UBlk (w.setCell ⟨b, i, none⟩ (.int .u64 (v : Int))) b (Z.set i v) t := by
  have := heap_setCell_same w b i _ t (.int .u64 (v : Int)) h
  unfold UBlk
  rw [this]
  simp [vals, List.map_set]

theorem UBlk.other {w : World} {b b' : Nat} {Z : List Nat} {t : TypeId} (h : UBlk w b Z t) (i : Nat) (v : Value) (hb : b ≠ b') : UBlk (w.setCell ⟨b', i, none⟩ v) b Z t := by
  unfold UBlk
  rw [heap_setCell_other w ⟨b', i, none⟩ b v hb]
  exact h

theorem UBlk.lt {w : World} {b : Nat} {Z : List Nat} {t : TypeId} (h : UBlk w b Z t) : b < w.heap.size := lt_of_block h

theorem UBlk.below {w w' : World} {b C : Nat} {Z : List Nat} {t : TypeId} (h : UBlk w b Z t) (hb : Below C w w') (hC : b < C) : UBlk w' b Z t := by
  unfold UBlk
  rw [hb.block b hC]
  exact h

theorem UBlk.new (w : World) (Z : List Nat) (t : TypeId) : UBlk (w.alloc (.cells (vals Z).toArray t)) w.heap.size Z t := by
  show (w.heap.push _)[w.heap.size]? = _
  simp

theorem UBlk.next {w : World} {b : Nat} {Z : List Nat} {t : TypeId} (h : UBlk w b Z t) (o : Obj) : UBlk (w.alloc o) b Z t := h.below (below_alloc w o) h.lt

theorem all_u (Z : List Nat) : (vals Z).toArray.all (·.oneCell') = true :=
  all_oneCell_toArray (fun v hv => by obtain ⟨x, _, rfl⟩ := List.mem_map.1 hv; rfl)

end Go.Proofs.YtjdeobifhgdffaaDoor
