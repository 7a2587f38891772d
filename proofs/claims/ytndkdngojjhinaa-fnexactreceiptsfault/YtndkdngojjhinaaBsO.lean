/- What is proved here: plain facts on slices of slices of bytes that a call made itself: the block of the slices, and a block of bytes for each; they hold for every program. -/
import Derived.Test.YtndkdngojjhinaaBsB
import Derived.Laws.OwnMore
namespace Go.Proofs.Ytndkdngojjhinaa
open Go.RowKit
set_option linter.unusedVariables false
set_option maxRecDepth 100000

/-- A block that holds these values, none of it frozen. -/
def SBlk (w : World) (g : Nat) (vs : List Value) (T : TypeId) : Prop := w.heap[g]? = some (.cells vs.toArray T (0, 0))

theorem SBlk.cell {w : World} {g : Nat} {vs : List Value} {T : TypeId} (h : SBlk w g vs T) (i : Nat) : w.cell? ⟨g, i, none⟩ = vs[i]? := by
  simp [World.cell?, show w.heap[g]? = _ from h]

theorem SBlk.free {w : World} {g : Nat} {vs : List Value} {T : TypeId} (h : SBlk w g vs T) (i : Nat) : w.frozen? ⟨g, i, none⟩ = false := frozen_of_row w g i _ T h

theorem SBlk.set {w : World} {g : Nat} {vs : List Value} {T : TypeId} (h : SBlk w g vs T) (i : Nat) (x : Value) : SBlk (w.setCell ⟨g, i, none⟩ x) g (vs.set i x) T := by
  have := heap_setCell_same w g i _ T x h
  unfold SBlk
  rw [this]
  simp

theorem SBlk.lt {w : World} {g : Nat} {vs : List Value} {T : TypeId} (h : SBlk w g vs T) : g < w.heap.size := lt_of_block h

theorem SBlk.below {w w' : World} {g C : Nat} {vs : List Value} {T : TypeId} (h : SBlk w g vs T) (hb : Below C w w') (hC : g < C) : SBlk w' g vs T := by
  unfold SBlk
  rw [hb.block g hC]
  exact h

theorem SBlk.new (w : World) (vs : Array Value) (T : TypeId) : SBlk (w.alloc (.cells vs T)) w.heap.size vs.toList T := by
  unfold SBlk World.alloc
  simp

theorem SBlk.next {w : World} {g : Nat} {vs : List Value} {T : TypeId} (h : SBlk w g vs T) (o : Obj) : SBlk (w.alloc o) g vs T := h.below (below_alloc w o) h.lt

theorem SBlk.other {w : World} {g g' i : Nat} {vs : List Value} {T : TypeId} {v : Value} (h : SBlk w g vs T) (hne : g ≠ g') : SBlk (w.setCell ⟨g', i, none⟩ v) g vs T := by
  unfold SBlk
  rw [heap_setCell_other w ⟨g', i, none⟩ g v hne]
  exact h

theorem size_set' (w : World) (a : Addr) (v : Value) : (w.setCell a v).heap.size = w.heap.size := by simp [World.setCell]

theorem own_sblk {w : World} {B g n : Nat} {e : TypeId} {size : Nat} {xs : List Value} (h : w.ownsRow B e size (.slice (some ⟨g, 0, none⟩) n n) n xs) : ∃ vs, SBlk w g vs e ∧ vs.length = n * size := by
  rcases h.2 with ⟨h', _⟩ | ⟨g', cap', cur, h', hb, hg, hnc, hcm, hcs, htake⟩
  · simp at h'
  · simp only [Value.slice.injEq, Option.some.injEq, Addr.mk.injEq, and_true, true_and] at h'
    obtain ⟨rfl, rfl⟩ := h'
    exact ⟨cur.toList, by unfold SBlk; simpa using hg, by simpa using hcs⟩

/-- Of the slices 'zss' the first k lie in the block g, each with its bytes in a block of its own, all these blocks rising. -/
def BUpto (w : World) (g : Nat) (zss : List (List Int)) (k len : Nat) (T : TypeId) (C : Nat) : Prop :=
  ∃ (vs : List Value) (f : Nat → Nat), SBlk w g vs T ∧ vs.length = len ∧ (∀ i, i < k → g < f i ∧ f i < C) ∧ (∀ i j, i < j → j < k → f i < f j) ∧
    ∀ i z, i < k → zss[i]? = some z → vs[i]? = some (.slice (some ⟨f i, 0, none⟩) z.length z.length) ∧
      w.ownsRow (g + 1) 5 1 (.slice (some ⟨f i, 0, none⟩) z.length z.length) z.length (z.map (Value.int .u8))

/-- All of them. -/
def OBss (w : World) (g : Nat) (zss : List (List Int)) (T : TypeId) (C : Nat) : Prop := BUpto w g zss zss.length zss.length T C

theorem BUpto.lt {w : World} {g : Nat} {zss : List (List Int)} {k len : Nat} {T : TypeId} {C : Nat} (h : BUpto w g zss k len T C) : g < w.heap.size := by
  obtain ⟨_, _, h, _⟩ := h
  exact h.lt

theorem BUpto.below {w w' : World} {g : Nat} {zss : List (List Int)} {k len : Nat} {T : TypeId} {C : Nat} (h : BUpto w g zss k len T C) {B : Nat} (hb : Below B w w') (hB : w.heap.size ≤ B) : BUpto w' g zss k len T C := by
  obtain ⟨vs, f, h1, h2, h3, h4, h5⟩ := h
  refine ⟨vs, f, h1.below hb (Nat.lt_of_lt_of_le h1.lt hB), h2, h3, h4, fun i z hi hit => ?_⟩
  obtain ⟨q3, q4⟩ := h5 i z hi hit
  exact ⟨q3, own_below q4 hb hB⟩

theorem BUpto.zero {w : World} {g : Nat} {zss : List (List Int)} {len : Nat} {T : TypeId} {vs : List Value} {C : Nat} (h : SBlk w g vs T) (hl : vs.length = len) : BUpto w g zss 0 len T C :=
  ⟨vs, fun _ => 0, h, hl, fun i hi => absurd hi (Nat.not_lt_zero _), fun i j _ hj => absurd hj (Nat.not_lt_zero _), fun i it hi => absurd hi (Nat.not_lt_zero _)⟩

/-- What is there at the place of the next one. -/
theorem BUpto.slot {w : World} {g : Nat} {zss : List (List Int)} {k len : Nat} {T : TypeId} {C : Nat} (h : BUpto w g zss k len T C) (hk : k < len) :
    (∃ u, w.cell? ⟨g, k, none⟩ = some u) ∧ ∀ i, w.frozen? ⟨g, i, none⟩ = false := by
  obtain ⟨vs, f, h1, h2, _⟩ := h
  refine ⟨?_, fun i => h1.free i⟩
  rw [h1.cell]
  exact ⟨_, List.getElem?_eq_getElem (by omega)⟩

/-- One more. -/
theorem BUpto.step {w w2 : World} {g m : Nat} {zss : List (List Int)} {k len : Nat} {T : TypeId} {z : List Int} (h : BUpto w g zss k len T w.heap.size) (hk : k < len) (hit : zss[k]? = some z) (hb : Below w.heap.size w w2) (hm : w.heap.size ≤ m) (hm2 : m < w2.heap.size)
    (ho : w2.ownsRow (g + 1) 5 1 (.slice (some ⟨m, 0, none⟩) z.length z.length) z.length (z.map (Value.int .u8))) :
    BUpto (w2.setCell ⟨g, k, none⟩ (.slice (some ⟨m, 0, none⟩) z.length z.length)) g zss (k + 1) len T w2.heap.size := by
  have hgl := h.lt
  obtain ⟨vs, f, h1, h2, h3, h4, h5⟩ := h
  obtain ⟨q1, q2⟩ : SBlk w2 g vs T ∧ (∀ i, i < k → f i < w.heap.size) := ⟨h1.below hb h1.lt, fun i hi => (h3 i hi).2⟩
  have hlt : ∀ {v : Value} {n : Nat} {xs : List Value} {W : World}, W.ownsRow (g + 1) 5 1 v n xs → ∀ i u, (W.setCell ⟨g, i, none⟩ u).ownsRow (g + 1) 5 1 v n xs := fun h i u => ownsRow_setCell_below h (Nat.lt_succ_self g) u
  refine ⟨vs.set k (.slice (some ⟨m, 0, none⟩) z.length z.length), fun i => if i = k then m else f i, q1.set _ _, by simp [h2], fun i hi => ?_, fun i j hij hj => ?_, fun i jt hi hjt => ?_⟩
  · dsimp only
    split
    · exact ⟨by omega, hm2⟩
    · have := h3 i (by omega)
      exact ⟨this.1, Nat.lt_of_lt_of_le this.2 hb.size⟩
  · dsimp only
    rw [if_neg (by omega)]
    split
    · have := q2 i (by omega); omega
    · exact h4 i j hij (by omega)
  · dsimp only
    by_cases e : i = k
    · subst e
      rw [if_pos rfl]
      obtain rfl : jt = z := by rw [hit] at hjt; exact (Option.some.inj hjt).symm
      refine ⟨?_, hlt ho _ _⟩
      rw [List.getElem?_set_self (by omega)]
    · rw [if_neg e]
      obtain ⟨p3, p4⟩ := h5 i jt (by omega) hjt
      refine ⟨?_, hlt (own_below p4 hb (Nat.le_refl _)) _ _⟩
      rw [List.getElem?_set_ne (by omega)]; exact p3

theorem BUpto.stored {w : World} {g g' j : Nat} {zss : List (List Int)} {k len : Nat} {T : TypeId} {C : Nat} {v : Value} (h : BUpto w g zss k len T C) (hg : g' < g) : BUpto (w.setCell ⟨g', j, none⟩ v) g zss k len T C := by
  obtain ⟨vs, f, h1, h2, h3, h4, h5⟩ := h
  refine ⟨vs, f, h1.other (by omega), h2, h3, h4, fun i z hi hit => ?_⟩
  obtain ⟨q3, q4⟩ := h5 i z hi hit
  exact ⟨q3, ownsRow_setCell_below q4 (by show g' < g + 1; omega) _⟩

/-- What is owned reads so. -/
theorem OBss.row {w : World} {g : Nat} {zss : List (List Int)} {T : TypeId} {C : Nat} (h : OBss w g zss T C) (hok : ∀ z ∈ zss, z.length ≤ maxLen) (hz : ∀ z ∈ zss, ∀ x ∈ z, 0 ≤ x ∧ x ≤ 255) : BsRow w (some ⟨g, 0, none⟩) zss.length zss := by
  obtain ⟨vs, f, h1, h2, h3, h4, h5⟩ := h
  refine ⟨rfl, hok, fun _ => ⟨g, 0, rfl, fun i z hi => ?_⟩⟩
  have hil := (List.getElem?_eq_some_iff.1 hi).1
  obtain ⟨q3, q4⟩ := h5 i z hil hi
  refine ⟨some ⟨f i, 0, none⟩, z.length, z.length, ?_, BRow.own q4 (hz z (List.mem_of_getElem? hi))⟩
  rw [h1.cell]
  simpa using q3

end Go.Proofs.Ytndkdngojjhinaa
