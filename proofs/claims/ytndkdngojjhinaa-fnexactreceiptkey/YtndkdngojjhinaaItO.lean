/- What is proved here: plain facts on slices of items that a call made itself: the block of the items, and a block of bytes for each; they hold for every program. -/
import Derived.Test.YtndkdngojjhinaaItF
import Derived.Laws.OwnMore
namespace Go.Proofs.Ytndkdngojjhinaa
open Go.RowKit
set_option linter.unusedVariables false
set_option maxRecDepth 100000

/-- A block that holds these values, none of it frozen. -/
def VBlk (w : World) (g : Nat) (vs : List Value) (T : TypeId) : Prop := w.heap[g]? = some (.cells vs.toArray T (0, 0))

theorem VBlk.cell {w : World} {g : Nat} {vs : List Value} {T : TypeId} (h : VBlk w g vs T) (i : Nat) : w.cell? ⟨g, i, none⟩ = vs[i]? := by
  simp [World.cell?, show w.heap[g]? = _ from h]

theorem VBlk.free {w : World} {g : Nat} {vs : List Value} {T : TypeId} (h : VBlk w g vs T) (i : Nat) : w.frozen? ⟨g, i, none⟩ = false := frozen_of_row w g i _ T h

theorem VBlk.set {w : World} {g : Nat} {vs : List Value} {T : TypeId} (h : VBlk w g vs T) (i : Nat) (x : Value) : VBlk (w.setCell ⟨g, i, none⟩ x) g (vs.set i x) T := by
  have := heap_setCell_same w g i _ T x h
  unfold VBlk
  rw [this]
  simp

theorem VBlk.lt {w : World} {g : Nat} {vs : List Value} {T : TypeId} (h : VBlk w g vs T) : g < w.heap.size := lt_of_block h

theorem VBlk.below {w w' : World} {g C : Nat} {vs : List Value} {T : TypeId} (h : VBlk w g vs T) (hb : Below C w w') (hC : g < C) : VBlk w' g vs T := by
  unfold VBlk
  rw [hb.block g hC]
  exact h

theorem size_set (w : World) (a : Addr) (v : Value) : (w.setCell a v).heap.size = w.heap.size := by simp [World.setCell]

/-- Of the items 'its' the first k lie in the block g, each with its bytes in a block of its own, all these blocks rising. -/
def OUpto (w : World) (g : Nat) (its : List It) (k len : Nat) (T : TypeId) (C : Nat) : Prop :=
  ∃ (vs : List Value) (f : Nat → Nat), VBlk w g vs T ∧ vs.length = len * 3 ∧ (∀ i, i < k → g < f i ∧ f i < C) ∧ (∀ i j, i < j → j < k → f i < f j) ∧
    ∀ i it, i < k → its[i]? = some it → vs[i * 3]? = some (.bool it.l) ∧ vs[i * 3 + 1]? = some (.int .i64 it.p) ∧ vs[i * 3 + 2]? = some (.slice (some ⟨f i, 0, none⟩) it.z.length it.z.length) ∧
      w.ownsRow (g + 1) 5 1 (.slice (some ⟨f i, 0, none⟩) it.z.length it.z.length) it.z.length (it.z.map (Value.int .u8))

/-- All of them. -/
def OIts (w : World) (g : Nat) (its : List It) (T : TypeId) (C : Nat) : Prop := OUpto w g its its.length its.length T C

theorem OUpto.lt {w : World} {g : Nat} {its : List It} {k len : Nat} {T : TypeId} {C : Nat} (h : OUpto w g its k len T C) : g < w.heap.size := by
  obtain ⟨_, _, h, _⟩ := h
  exact h.lt

theorem OUpto.below {w w' : World} {g : Nat} {its : List It} {k len : Nat} {T : TypeId} {C : Nat} (h : OUpto w g its k len T C) {B : Nat} (hb : Below B w w') (hB : w.heap.size ≤ B) : OUpto w' g its k len T C := by
  obtain ⟨vs, f, h1, h2, h3, h4, h5⟩ := h
  refine ⟨vs, f, h1.below hb (Nat.lt_of_lt_of_le h1.lt hB), h2, h3, h4, fun i it hi hit => ?_⟩
  obtain ⟨q1, q2, q3, q4⟩ := h5 i it hi hit
  exact ⟨q1, q2, q3, own_below q4 hb hB⟩

theorem OUpto.zero {w : World} {g : Nat} {its : List It} {len : Nat} {T : TypeId} {vs : List Value} {C : Nat} (h : VBlk w g vs T) (hl : vs.length = len * 3) : OUpto w g its 0 len T C :=
  ⟨vs, fun _ => 0, h, hl, fun i hi => absurd hi (Nat.not_lt_zero _), fun i j _ hj => absurd hj (Nat.not_lt_zero _), fun i it hi => absurd hi (Nat.not_lt_zero _)⟩

/-- What is there at the place of the next one. -/
theorem OUpto.slot {w : World} {g : Nat} {its : List It} {k len : Nat} {T : TypeId} {C : Nat} (h : OUpto w g its k len T C) (hk : k < len) :
    (∃ u, w.cell? ⟨g, k * 3, none⟩ = some u) ∧ (∃ u, w.cell? ⟨g, k * 3 + 1, none⟩ = some u) ∧ (∃ u, w.cell? ⟨g, k * 3 + 2, none⟩ = some u) ∧ ∀ i, w.frozen? ⟨g, i, none⟩ = false := by
  obtain ⟨vs, f, h1, h2, _⟩ := h
  refine ⟨?_, ?_, ?_, fun i => h1.free i⟩
  all_goals
    rw [h1.cell]
    exact ⟨_, List.getElem?_eq_getElem (by omega)⟩

/-- One item more. -/
theorem OUpto.step {w w2 : World} {g m : Nat} {its : List It} {k len : Nat} {T : TypeId} {it : It} (h : OUpto w g its k len T w.heap.size) (hk : k < len) (hit : its[k]? = some it) (hb : Below w.heap.size w w2) (hm : w.heap.size ≤ m) (hm2 : m < w2.heap.size)
    (ho : w2.ownsRow (g + 1) 5 1 (.slice (some ⟨m, 0, none⟩) it.z.length it.z.length) it.z.length (it.z.map (Value.int .u8))) :
    OUpto (((w2.setCell ⟨g, k * 3, none⟩ (.bool it.l)).setCell ⟨g, k * 3 + 1, none⟩ (.int .i64 it.p)).setCell ⟨g, k * 3 + 2, none⟩ (.slice (some ⟨m, 0, none⟩) it.z.length it.z.length)) g its (k + 1) len T w2.heap.size := by
  have h' := h.below hb (Nat.le_refl _)
  have hgl := h.lt
  obtain ⟨vs, f, h1, h2, h3, h4, h5⟩ := h
  obtain ⟨q1, q2, q3⟩ : VBlk w2 g vs T ∧ (∀ i, i < k → f i < w.heap.size) ∧ True := ⟨h1.below hb h1.lt, fun i hi => (h3 i hi).2, trivial⟩
  have hlt : ∀ {B : Nat} {v : Value} {n : Nat} {xs : List Value} {W : World}, W.ownsRow (g + 1) 5 1 v n xs → ∀ i u, (W.setCell ⟨g, i, none⟩ u).ownsRow (g + 1) 5 1 v n xs := fun h i u => ownsRow_setCell_below h (Nat.lt_succ_self g) u
  refine ⟨((vs.set (k * 3) (.bool it.l)).set (k * 3 + 1) (.int .i64 it.p)).set (k * 3 + 2) (.slice (some ⟨m, 0, none⟩) it.z.length it.z.length), fun i => if i = k then m else f i, ((q1.set _ _).set _ _).set _ _, by simp [h2], fun i hi => ?_, fun i j hij hj => ?_, fun i jt hi hjt => ?_⟩
  · dsimp only
    split
    · exact ⟨by omega, hm2⟩
    · have := h3 i (by omega)
      exact ⟨this.1, Nat.lt_of_lt_of_le this.2 hb.size⟩
  · dsimp only
    rw [if_neg (by omega)]
    split
    · have := q2 i (by omega); omega
    · exact h4 i j hij (by omega)
  · dsimp only
    by_cases e : i = k
    · subst e
      rw [if_pos rfl]
      obtain rfl : jt = it := by rw [hit] at hjt; exact (Option.some.inj hjt).symm
      refine ⟨?_, ?_, ?_, hlt (B := 0) (hlt (B := 0) (hlt (B := 0) ho _ _) _ _) _ _⟩
      · rw [List.getElem?_set_ne (by omega), List.getElem?_set_ne (by omega), List.getElem?_set_self (by omega)]
      · rw [List.getElem?_set_ne (by omega), List.getElem?_set_self (by simp; omega)]
      · rw [List.getElem?_set_self (by simp; omega)]
    · rw [if_neg e]
      obtain ⟨p1, p2, p3, p4⟩ := h5 i jt (by omega) hjt
      refine ⟨?_, ?_, ?_, hlt (B := 0) (hlt (B := 0) (hlt (B := 0) (own_below p4 hb (Nat.le_refl _)) _ _) _ _) _ _⟩
      · rw [List.getElem?_set_ne (by omega), List.getElem?_set_ne (by omega), List.getElem?_set_ne (by omega)]; exact p1
      · rw [List.getElem?_set_ne (by omega), List.getElem?_set_ne (by omega), List.getElem?_set_ne (by omega)]; exact p2
      · rw [List.getElem?_set_ne (by omega), List.getElem?_set_ne (by omega), List.getElem?_set_ne (by omega)]; exact p3

/-- What is owned reads as items. -/
theorem OIts.row {w : World} {g : Nat} {its : List It} {T : TypeId} {C : Nat} (h : OIts w g its T C) (hok : ∀ it ∈ its, ItOk it) (hz : ∀ it ∈ its, ∀ x ∈ it.z, 0 ≤ x ∧ x ≤ 255) : ItRow w (some ⟨g, 0, none⟩) its.length its := by
  obtain ⟨vs, f, h1, h2, h3, h4, h5⟩ := h
  refine ⟨rfl, hok, fun _ => ⟨g, 0, rfl, fun i it hi => ?_⟩⟩
  have hil := (List.getElem?_eq_some_iff.1 hi).1
  obtain ⟨q1, q2, q3, q4⟩ := h5 i it hil hi
  refine ⟨some ⟨f i, 0, none⟩, it.z.length, it.z.length, ?_, ?_, ?_, BRow.own q4 (hz it (List.mem_of_getElem? hi))⟩
  all_goals
    rw [h1.cell]
    simpa using by assumption

end Go.Proofs.Ytndkdngojjhinaa
