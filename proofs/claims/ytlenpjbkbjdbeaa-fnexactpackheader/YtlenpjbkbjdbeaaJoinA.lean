import Derived.Test.YtlenpjbkbjdbeaaItF
import Derived.Laws.OwnMore
import Derived.Test.YtlenpjbkbjdbeaaOwnG
import Derived.Test.YtlenpjbkbjdbeaaPkF
import Derived.Test.YtlenpjbkbjdbeaaEncG
/- What is proved here: plain facts on slices of items that a call made itself: the block of the items, and a block of bytes for each; they hold for every program. -/
namespace Go.Proofs.Ytlenpjbkbjdbeaa
open Go.RowKit
set_option linter.unusedVariables false

/-- A block that holds these values, none of it frozen. -/
def VBlk (w : World) (g : Nat) (vs : List Value) (T : TypeId) : Prop := w.heap[g]? = some (.cells vs.toArray T (0, 0))

theorem VBlk.cell {w : World} {g : Nat} {vs : List Value} {T : TypeId} (h : VBlk w g vs T) (i : Nat) : w.cell? ⟨g, i, none⟩ = vs[i]? := by
  simp [World.cell?, show w.heap[g]? = _ from h]

theorem VBlk.free {w : World} {g : Nat} {vs : List Value} {T : TypeId} (h : VBlk w g vs T) (i : Nat) : w.frozen? ⟨g, i, none⟩ = false := frozen_of_row w g i _ T h

theorem VBlk.set {w : World} {g : Nat} {vs : List Value} {T : TypeId} (h : VBlk w g vs T) (i : Nat) (x : Value) : VBlk (w.setCell ⟨g, i, none⟩ x) g (vs.set i x) T := by
  have := heap_setCell_same w g i _ T x h
  unfold VBlk
  rw [this]
  simp

theorem VBlk.lt {w : World} {g : Nat} {vs : List Value} {T : TypeId} (h : VBlk w g vs T) : g < w.heap.size := lt_of_block h

theorem VBlk.below {w w' : World} {g C : Nat} {vs : List Value} {T : TypeId} (h : VBlk w g vs T) (hb : Below C w w') (hC : g < C) : VBlk w' g vs T := by
  unfold VBlk
  rw [hb.block g hC]
  exact h

theorem size_set (w : World) (a : Addr) (v : Value) : (w.setCell a v).heap.size = w.heap.size := by simp [World.setCell]

/-- Of the items 'its' the first k lie in the block g, each with its bytes in a block of its own, all these blocks rising. -/
def OUpto (w : World) (g : Nat) (its : List It) (k len : Nat) (T : TypeId) (C : Nat) : Prop :=
  ∃ (vs : List Value) (f : Nat → Nat), VBlk w g vs T ∧ vs.length = len * 3 ∧ (∀ i, i < k → g < f i ∧ f i < C) ∧ (∀ i j, i < j → j < k → f i < f j) ∧
    ∀ i it, i < k → its[i]? = some it → vs[i * 3]? = some (.bool it.l) ∧ vs[i * 3 + 1]? = some (.int .i64 it.p) ∧ vs[i * 3 + 2]? = some (.slice (some ⟨f i, 0, none⟩) it.z.length it.z.length) ∧
      w.ownsRow (g + 1) 5 1 (.slice (some ⟨f i, 0, none⟩) it.z.length it.z.length) it.z.length (it.z.map (Value.int .u8))

/-- All of them. -/
def OIts (w : World) (g : Nat) (its : List It) (T : TypeId) (C : Nat) : Prop := OUpto w g its its.length its.length T C

theorem OUpto.lt {w : World} {g : Nat} {its : List It} {k len : Nat} {T : TypeId} {C : Nat} (h : OUpto w g its k len T C) : g < w.heap.size := by
  obtain ⟨_, _, h, _⟩ := h
  exact h.lt

theorem OUpto.below {w w' : World} {g : Nat} {its : List It} {k len : Nat} {T : TypeId} {C : Nat} (h : OUpto w g its k len T C) {B : Nat} (hb : Below B w w') (hB : w.heap.size ≤ B) : OUpto w' g its k len T C := by
  obtain ⟨vs, f, h1, h2, h3, h4, h5⟩ := h
  refine ⟨vs, f, h1.below hb (Nat.lt_of_lt_of_le h1.lt hB), h2, h3, h4, fun i it hi hit => ?_⟩
  obtain ⟨q1, q2, q3, q4⟩ := h5 i it hi hit
  exact ⟨q1, q2, q3, own_below q4 hb hB⟩

theorem OUpto.zero {w : World} {g : Nat} {its : List It} {len : Nat} {T : TypeId} {vs : List Value} {C : Nat} (h : VBlk w g vs T) (hl : vs.length = len * 3) : OUpto w g its 0 len T C :=
  ⟨vs, fun _ => 0, h, hl, fun i hi => absurd hi (Nat.not_lt_zero _), fun i j _ hj => absurd hj (Nat.not_lt_zero _), fun i it hi => absurd hi (Nat.not_lt_zero _)⟩

/-- What is there at the place of the next one. -/
theorem OUpto.slot {w : World} {g : Nat} {its : List It} {k len : Nat} {T : TypeId} {C : Nat} (h : OUpto w g its k len T C) (hk : k < len) :
    (∃ u, w.cell? ⟨g, k * 3, none⟩ = some u) ∧ (∃ u, w.cell? ⟨g, k * 3 + 1, none⟩ = some u) ∧ (∃ u, w.cell? ⟨g, k * 3 + 2, none⟩ = some u) ∧ ∀ i, w.frozen? ⟨g, i, none⟩ = false := by
  obtain ⟨vs, f, h1, h2, _⟩ := h
  refine ⟨?_, ?_, ?_, fun i => h1.free i⟩
  all_goals
    rw [h1.cell]
    exact ⟨_, List.getElem?_eq_getElem (by omega)⟩

/-- One item more. -/
theorem OUpto.step {w w2 : World} {g m : Nat} {its : List It} {k len : Nat} {T : TypeId} {it : It} (h : OUpto w g its k len T w.heap.size) (hk : k < len) (hit : its[k]? = some it) (hb : Below w.heap.size w w2) (hm : w.heap.size ≤ m) (hm2 : m < w2.heap.size)
    (ho : w2.ownsRow (g + 1) 5 1 (.slice (some ⟨m, 0, none⟩) it.z.length it.z.length) it.z.length (it.z.map (Value.int .u8))) :
    OUpto (((w2.setCell ⟨g, k * 3, none⟩ (.bool it.l)).setCell ⟨g, k * 3 + 1, none⟩ (.int .i64 it.p)).setCell ⟨g, k * 3 + 2, none⟩ (.slice (some ⟨m, 0, none⟩) it.z.length it.z.length)) g its (k + 1) len T w2.heap.size := by
  have h' := h.below hb (Nat.le_refl _)
  have hgl := h.lt
  obtain ⟨vs, f, h1, h2, h3, h4, h5⟩ := h
  obtain ⟨q1, q2, q3⟩ : VBlk w2 g vs T ∧ (∀ i, i < k → f i < w.heap.size) ∧ True := ⟨h1.below hb h1.lt, fun i hi => (h3 i hi).2, trivial⟩
  have hlt : ∀ {B : Nat} {v : Value} {n : Nat} {xs : List Value} {W : World}, W.ownsRow (g + 1) 5 1 v n xs → ∀ i u, (W.setCell ⟨g, i, none⟩ u).ownsRow (g + 1) 5 1 v n xs := fun h i u => ownsRow_setCell_below h (Nat.lt_succ_self g) u
  refine ⟨((vs.set (k * 3) (.bool it.l)).set (k * 3 + 1) (.int .i64 it.p)).set (k * 3 + 2) (.slice (some ⟨m, 0, none⟩) it.z.length it.z.length), fun i => if i = k then m else f i, ((q1.set _ _).set _ _).set _ _, by simp [h2], fun i hi => ?_, fun i j hij hj => ?_, fun i jt hi hjt => ?_⟩
  · dsimp only
    split
    · exact ⟨by omega, hm2⟩
    · have := h3 i (by omega)
      exact ⟨this.1, Nat.lt_of_lt_of_le this.2 hb.size⟩
  · dsimp only
    rw [if_neg (by omega)]
    split
    · have := q2 i (by omega); omega
    · exact h4 i j hij (by omega)
  · dsimp only
    by_cases e : i = k
    · subst e
      rw [if_pos rfl]
      obtain rfl : jt = it := by rw [hit] at hjt; exact (Option.some.inj hjt).symm
      refine ⟨?_, ?_, ?_, hlt (B := 0) (hlt (B := 0) (hlt (B := 0) ho _ _) _ _) _ _⟩
      · rw [List.getElem?_set_ne (by omega), List.getElem?_set_ne (by omega), List.getElem?_set_self (by omega)]
      · rw [List.getElem?_set_ne (by omega), List.getElem?_set_self (by simp; omega)]
      · rw [List.getElem?_set_self (by simp; omega)]
    · rw [if_neg e]
      obtain ⟨p1, p2, p3, p4⟩ := h5 i jt (by omega) hjt
      refine ⟨?_, ?_, ?_, hlt (B := 0) (hlt (B := 0) (hlt (B := 0) (own_below p4 hb (Nat.le_refl _)) _ _) _ _) _ _⟩
      · rw [List.getElem?_set_ne (by omega), List.getElem?_set_ne (by omega), List.getElem?_set_ne (by omega)]; exact p1
      · rw [List.getElem?_set_ne (by omega), List.getElem?_set_ne (by omega), List.getElem?_set_ne (by omega)]; exact p2
      · rw [List.getElem?_set_ne (by omega), List.getElem?_set_ne (by omega), List.getElem?_set_ne (by omega)]; exact p3

/-- What is owned reads as items. -/
theorem OIts.row {w : World} {g : Nat} {its : List It} {T : TypeId} {C : Nat} (h : OIts w g its T C) (hok : ∀ it ∈ its, ItOk it) (hz : ∀ it ∈ its, ∀ x ∈ it.z, 0 ≤ x ∧ x ≤ 255) : ItRow w (some ⟨g, 0, none⟩) its.length its := by
  obtain ⟨vs, f, h1, h2, h3, h4, h5⟩ := h
  refine ⟨rfl, hok, fun _ => ⟨g, 0, rfl, fun i it hi => ?_⟩⟩
  have hil := (List.getElem?_eq_some_iff.1 hi).1
  obtain ⟨q1, q2, q3, q4⟩ := h5 i it hil hi
  refine ⟨some ⟨f i, 0, none⟩, it.z.length, it.z.length, ?_, ?_, ?_, BRow.own q4 (hz it (List.mem_of_getElem? hi))⟩
  all_goals
    rw [h1.cell]
    simpa using by assumption

end Go.Proofs.Ytlenpjbkbjdbeaa

/- What is proved here: slices of items whose empty bytes have no room: plain facts. -/
namespace Go.Proofs.Ytlenpjbkbjdbeaa
open Go.RowKit
set_option linter.unusedVariables false

/-- No item's bytes are a bare nil with some room. -/
def ItNil (w : World) (a : Option Addr) (len : Nat) : Prop := ∀ b off, a = some ⟨b, off, none⟩ → ∀ i, i < len → ∃ sa sl sc, w.cell? ⟨b, off + i * 3 + 2, none⟩ = some (.slice sa sl sc) ∧ (sa = none → sc = 0)

theorem ItNil.below {w w' : World} {a : Option Addr} {len : Nat} (h : ItNil w a len) {B : Nat} (hb : Below B w w') (hB : w.heap.size ≤ B) : ItNil w' a len := by
  intro b off e i hi
  obtain ⟨sa, sl, sc, hc, hn⟩ := h b off e i hi
  exact ⟨sa, sl, sc, (hb.cell (Nat.lt_of_lt_of_le (lt_of_cell hc) hB)).trans hc, hn⟩

def ItRowN (w : World) (a : Option Addr) (len : Nat) (its : List It) : Prop := ItRow w a len its ∧ ItNil w a len

theorem ItRowN.below {w w' : World} {a : Option Addr} {len : Nat} {its : List It} (h : ItRowN w a len its) {B : Nat} (hb : Below B w w') (hB : w.heap.size ≤ B) : ItRowN w' a len its := ⟨h.1.below hb hB, h.2.below hb hB⟩

theorem OIts.nilOk {w : World} {g : Nat} {its : List It} {T : TypeId} {C : Nat} (h : OIts w g its T C) : ItNil w (some ⟨g, 0, none⟩) its.length := by
  obtain ⟨vs, f, h1, h2, h3, h4, h5⟩ := h
  intro b off e i hi
  simp only [Option.some.injEq, Addr.mk.injEq, and_true] at e
  obtain ⟨rfl, rfl⟩ := e
  obtain ⟨_, _, q3, _⟩ := h5 i _ hi (List.getElem?_eq_getElem hi)
  exact ⟨_, _, _, by rw [h1.cell, Nat.zero_add]; exact q3, fun e => by cases e⟩

/-- One item of a row, its bytes no bare nil with some room. -/
theorem ItRowN.at {w : World} {a : Option Addr} {len : Nat} {its : List It} (h : ItRowN w a len its) (hp : 0 < len) :
    ∃ b off, a = some ⟨b, off, none⟩ ∧ b < w.heap.size ∧ ∀ i it, its[i]? = some it → ∃ sa sc, w.cell? ⟨b, off + i * 3, none⟩ = some (.bool it.l) ∧ w.cell? ⟨b, off + i * 3 + 1, none⟩ = some (.int .i64 it.p) ∧ w.cell? ⟨b, off + i * 3 + 2, none⟩ = some (.slice sa it.z.length sc) ∧ BRow w sa it.z.length it.z ∧ (sa = none → sc = 0) := by
  obtain ⟨b, off, e, hb, k⟩ := h.1.at hp
  refine ⟨b, off, e, hb, fun i it hi => ?_⟩
  obtain ⟨sa, sl, sc, c0, c1, c2, hr⟩ := k i it hi
  have hil : i < len := by rw [← h.1.1]; exact (List.getElem?_eq_some_iff.1 hi).1
  obtain ⟨sa', sl', sc', hc, hn⟩ := h.2 b off e i hil
  rw [c2] at hc
  simp only [Option.some.injEq, Value.slice.injEq] at hc
  obtain ⟨rfl, rfl, rfl⟩ := hc
  have := hr.1
  subst this
  exact ⟨sa, sc, c0, c1, c2, hr, hn⟩

/-- Rows of other elements lie in other blocks. -/
theorem own_apart {w : World} {B B' s s' n n' : Nat} {e e' : TypeId} {v v' : Value} {xs xs' : List Value} (h : w.ownsRow B e s v n xs) (h' : w.ownsRow B' e' s' v' n' xs') (he : e ≠ e') : ∀ g, v'.ownBlock = some g → some g ≠ v.ownBlock := by
  intro g hg heq
  rcases h.2 with ⟨q, _⟩ | ⟨b, cap, cur, q, _, hb, _⟩
  · rw [q] at heq; simp [Value.ownBlock] at heq
  · rcases h'.2 with ⟨q', _⟩ | ⟨b', cap', cur', q', _, hb', _⟩
    · rw [q'] at hg; simp [Value.ownBlock] at hg
    · rw [q] at heq; rw [q'] at hg
      simp [Value.ownBlock] at heq hg
      subst hg
      subst heq
      rw [hb] at hb'
      simp at hb'
      exact he hb'.2

end Go.Proofs.Ytlenpjbkbjdbeaa

/- What is proved here: items that a call makes one by one: a row of three cells an item, each with bytes of its own, kept while the row grows and other memory is written. -/
namespace Go.Proofs.Ytlenpjbkbjdbeaa
open Go.RowKit
set_option linter.unusedVariables false

/-- The cells of items whose bytes lie in the given slices. -/
def cellsOf : List It → List Value → List Value
  | [], _ => []
  | it :: its, v :: vs => .bool it.l :: .int .i64 it.p :: v :: cellsOf its vs
  | _ :: _, [] => []

theorem cellsOf_length : ∀ (its : List It) (vs : List Value), vs.length = its.length → (cellsOf its vs).length = its.length * 3
  | [], _, _ => rfl
  | it :: its, v :: vs, h => by
    have := cellsOf_length its vs (by simpa using h)
    simp [cellsOf, this]
    omega
  | _ :: _, [], h => by simp at h

theorem cellsOf_snoc : ∀ (its : List It) (vs : List Value) (it : It) (v : Value), vs.length = its.length → cellsOf (its ++ [it]) (vs ++ [v]) = cellsOf its vs ++ [.bool it.l, .int .i64 it.p, v]
  | [], [], it, v, _ => rfl
  | x :: its, u :: vs, it, v, h => by
    have := cellsOf_snoc its vs it v (by simpa using h)
    simp [cellsOf, this]
  | [], _ :: _, _, _, h => by simp at h
  | _ :: _, [], _, _, h => by simp at h

theorem cellsOf_at : ∀ (its : List It) (vs : List Value) (i : Nat) (it : It) (v : Value), vs.length = its.length → its[i]? = some it → vs[i]? = some v →
    (cellsOf its vs)[i * 3]? = some (.bool it.l) ∧ (cellsOf its vs)[i * 3 + 1]? = some (.int .i64 it.p) ∧ (cellsOf its vs)[i * 3 + 2]? = some v
  | [], _, i, it, v, _, h, _ => by simp at h
  | _ :: _, [], _, _, _, h, _, _ => by simp at h
  | x :: its, u :: vs, 0, it, v, h, h1, h2 => by
    simp at h1 h2
    subst h1 h2
    exact ⟨rfl, rfl, rfl⟩
  | x :: its, u :: vs, i + 1, it, v, h, h1, h2 => by
    have := cellsOf_at its vs i it v (by simpa using h) (by simpa using h1) (by simpa using h2)
    rw [show (i + 1) * 3 = i * 3 + 1 + 1 + 1 by omega, show i * 3 + 1 + 1 + 1 + 1 = i * 3 + 1 + 1 + 1 + 1 from rfl]
    simpa [cellsOf] using this

/-- Items that were made: their row, and the bytes of each, all behind a block B. -/
def MkR (W : World) (B : Nat) (v : Value) (n : Nat) (its : List It) : Prop :=
  its.length = n ∧ (∀ it ∈ its, ItOk it ∧ it.z.length ≤ 1000 ∧ ∀ x ∈ it.z, 0 ≤ x ∧ x ≤ 255) ∧ ∃ vs : List Value, vs.length = its.length ∧ W.ownsRow B 66 3 v n (cellsOf its vs) ∧
    ∀ (i : Nat) (it : It) (u : Value), its[i]? = some it → vs[i]? = some u → W.ownsRow B 5 1 u it.z.length (it.z.map (Value.int .u8))

theorem MkR.nil (W : World) (B : Nat) : MkR W B (.slice none 0 0) 0 [] :=
  ⟨rfl, fun it h => by simp at h, [], rfl, World.ownsRow_nil _ _ _ _, fun i it u h _ => by simp at h⟩

theorem MkR.below {W W' : World} {B C n : Nat} {v : Value} {its : List It} (h : MkR W B v n its) (hb : Below C W W') (hC : W.heap.size ≤ C) : MkR W' B v n its := by
  obtain ⟨h1, h2, vs, h3, h4, h5⟩ := h
  exact ⟨h1, h2, vs, h3, own_below h4 hb hC, fun i it u hi hu => own_below (h5 i it u hi hu) hb hC⟩

/-- The source is written: nothing of it lies there. -/
theorem MkR.source {W W' : World} {B b n : Nat} {v : Value} {its : List It} (h : MkR W B v n its) (hg : W.grownBy W' (some b)) (hb : b < B) : MkR W' B v n its := by
  obtain ⟨h1, h2, vs, h3, h4, h5⟩ := h
  exact ⟨h1, h2, vs, h3, own_grown h4 hg (fun g e e2 => by have := (h4.lt g e).1; have := Option.some.inj e2; omega), fun i it u hi hu => own_grown (h5 i it u hi hu) hg (fun g e e2 => by have := ((h5 i it u hi hu).lt g e).1; have := Option.some.inj e2; omega)⟩

/-- One item more. -/
theorem MkR.snoc {W W' : World} {B n : Nat} {v v' u : Value} {its : List It} {vs : List Value} {it : It} (h1 : its.length = n) (h2 : ∀ it ∈ its, ItOk it ∧ it.z.length ≤ 1000 ∧ ∀ x ∈ it.z, 0 ≤ x ∧ x ≤ 255) (h3 : vs.length = its.length) (h4 : W.ownsRow B 66 3 v n (cellsOf its vs))
    (h5 : ∀ (i : Nat) (it : It) (u : Value), its[i]? = some it → vs[i]? = some u → W.ownsRow B 5 1 u it.z.length (it.z.map (Value.int .u8))) (hu : W.ownsRow B 5 1 u it.z.length (it.z.map (Value.int .u8))) (hok : ItOk it ∧ it.z.length ≤ 1000 ∧ ∀ x ∈ it.z, 0 ≤ x ∧ x ≤ 255)
    (hown : W'.ownsRow B 66 3 v' (n + 1) (cellsOf its vs ++ [.bool it.l, .int .i64 it.p, u])) (hg : W.grownBy W' v.ownBlock) : MkR W' B v' (n + 1) (its ++ [it]) := by
  have keep : ∀ {q : Value} {m : Nat} {xs : List Value}, W.ownsRow B 5 1 q m xs → W'.ownsRow B 5 1 q m xs := fun hq => own_grown hq hg (own_apart h4 hq (by decide))
  refine ⟨by simp [h1], fun x hx => ?_, vs ++ [u], by simp [h3], by rw [cellsOf_snoc its vs it u h3]; exact hown, fun i x q hi hq => ?_⟩
  · rcases List.mem_append.1 hx with hx | hx
    · exact h2 x hx
    · rw [List.mem_singleton.1 hx]; exact hok
  · by_cases hlt : i < its.length
    · rw [List.getElem?_append_left hlt] at hi
      rw [List.getElem?_append_left (by omega)] at hq
      exact keep (h5 i x q hi hq)
    · rw [List.getElem?_append_right (by omega)] at hi
      rw [List.getElem?_append_right (by omega)] at hq
      rw [h3] at hq
      cases hk : i - its.length with
      | zero =>
        rw [hk] at hi hq
        simp at hi hq
        subst hi hq
        exact keep hu
      | succ m => rw [hk] at hi; simp at hi

end Go.Proofs.Ytlenpjbkbjdbeaa

/- What is proved here: items that a call makes one by one, their bytes in slices that were there or in new ones: kept while the row grows. -/
namespace Go.Proofs.Ytlenpjbkbjdbeaa
open Go.RowKit
set_option linter.unusedVariables false

/-- The bytes z lie behind a slice that was there at w0, or in a row that the call owns. -/
def Src (w0 : World) (B : Nat) (W : World) (u : Value) (z : List Int) : Prop :=
  (∃ sa sl sc, u = .slice sa sl sc ∧ BRow w0 sa sl z ∧ (sa = none → sc = 0)) ∨ (W.ownsRow B 5 1 u z.length (z.map (Value.int .u8)) ∧ ∀ x ∈ z, 0 ≤ x ∧ x ≤ 255)

theorem Src.below {w0 W W' : World} {B C : Nat} {u : Value} {z : List Int} (h : Src w0 B W u z) (hb : Below C W W') (hC : W.heap.size ≤ C) : Src w0 B W' u z := by
  rcases h with h | ⟨h, hz⟩
  · exact .inl h
  · exact .inr ⟨own_below h hb hC, hz⟩

theorem Src.grown {w0 W W' : World} {B B' s n : Nat} {e : TypeId} {u v : Value} {z : List Int} {xs : List Value} (h : Src w0 B W u z) (hv : W.ownsRow B' e s v n xs) (he : e ≠ 5) (hg : W.grownBy W' v.ownBlock) : Src w0 B W' u z := by
  rcases h with h | ⟨h, hz⟩
  · exact .inl h
  · exact .inr ⟨own_grown h hg (own_apart hv h he), hz⟩

/-- What a source reads as. -/
theorem Src.reads {w0 W : World} {B : Nat} {u : Value} {z : List Int} (h : Src w0 B W u z) (hb : Below B w0 W) (hB : w0.heap.size ≤ B) : ∃ sa sl sc, u = .slice sa sl sc ∧ BRow W sa sl z ∧ (sa = none → sc = 0) := by
  rcases h with ⟨sa, sl, sc, rfl, hr, hn⟩ | ⟨h, hz⟩
  · exact ⟨sa, sl, sc, rfl, hr.below hb hB, hn⟩
  · obtain ⟨sa, sc, rfl⟩ := own_shape h
    refine ⟨sa, z.length, sc, rfl, BRow.own2 h hz, fun e => ?_⟩
    subst e
    rcases h.2 with ⟨q, _⟩ | ⟨g, cap, cur, q, _⟩
    · simp only [Value.slice.injEq] at q; exact q.2.2
    · simp at q

/-- Items that were made. -/
def HkR (w0 : World) (B : Nat) (W : World) (v : Value) (n : Nat) (its : List It) : Prop :=
  its.length = n ∧ (∀ it ∈ its, ItOk it) ∧ Below B w0 W ∧ ∃ vs : List Value, vs.length = its.length ∧ W.ownsRow B 66 3 v n (cellsOf its vs) ∧ ∀ (i : Nat) (it : It) (u : Value), its[i]? = some it → vs[i]? = some u → Src w0 B W u it.z

theorem HkR.below {w0 W W' : World} {B C n : Nat} {v : Value} {its : List It} (h : HkR w0 B W v n its) (hb : Below C W W') (hC : W.heap.size ≤ C) (hB : B ≤ W.heap.size) : HkR w0 B W' v n its := by
  obtain ⟨h1, h2, hb0, vs, h3, h4, h5⟩ := h
  exact ⟨h1, h2, hb0.trans (hb.mono (by omega)), vs, h3, own_below h4 hb hC, fun i it u hi hu => (h5 i it u hi hu).below hb hC⟩

/-- One item more. -/
theorem HkR.snoc {w0 W W' : World} {B n : Nat} {v v' u : Value} {its : List It} {it : It} {vs : List Value} (h1 : its.length = n) (h2 : ∀ it ∈ its, ItOk it) (hb0 : Below B w0 W) (h3 : vs.length = its.length) (h4 : W.ownsRow B 66 3 v n (cellsOf its vs)) (h5 : ∀ (i : Nat) (it : It) (u : Value), its[i]? = some it → vs[i]? = some u → Src w0 B W u it.z)
    (hB : B ≤ W.heap.size) (hu : Src w0 B W u it.z) (hok : ItOk it) (hown : W'.ownsRow B 66 3 v' (n + 1) (cellsOf its vs ++ [.bool it.l, .int .i64 it.p, u])) (hg : W.grownBy W' v.ownBlock) : HkR w0 B W' v' (n + 1) (its ++ [it]) := by
  refine ⟨by simp [h1], fun x hx => ?_, hb0.grown hg hB (fun q e => (h4.lt q e).1), vs ++ [u], by simp [h3], by rw [cellsOf_snoc its vs it u h3]; exact hown, fun i x q hi hq => ?_⟩
  · rcases List.mem_append.1 hx with hx | hx
    · exact h2 x hx
    · rw [List.mem_singleton.1 hx]; exact hok
  · by_cases hlt : i < its.length
    · rw [List.getElem?_append_left hlt] at hi
      rw [List.getElem?_append_left (by omega)] at hq
      exact (h5 i x q hi hq).grown h4 (by decide) hg
    · rw [List.getElem?_append_right (by omega)] at hi
      rw [List.getElem?_append_right (by omega)] at hq
      rw [h3] at hq
      cases hk : i - its.length with
      | zero =>
        rw [hk] at hi hq
        simp at hi hq
        subst hi hq
        exact hu.grown h4 (by decide) hg
      | succ m => rw [hk] at hi; simp at hi

/-- What was made reads as items. -/
theorem HkR.row {w0 W : World} {B n cap : Nat} {a : Option Addr} {its : List It} (h : HkR w0 B W (.slice a n cap) n its) (hB : w0.heap.size ≤ B) : ItRowN W a n its := by
  obtain ⟨h1, h2, hb0, vs, h3, h4, h5⟩ := h
  have key0 : ∀ (i : Nat) (it : It), its[i]? = some it → ∃ u, vs[i]? = some u := fun i it hi => ⟨_, List.getElem?_eq_getElem (by have := (List.getElem?_eq_some_iff.1 hi).1; omega)⟩
  refine ⟨⟨h1, h2, fun hp => ?_⟩, fun b off e i hi => ?_⟩
  · obtain ⟨g, c, e⟩ := own_some h4 hp
    cases e
    refine ⟨g, 0, rfl, fun i it hi => ?_⟩
    have hlt : i < its.length := (List.getElem?_eq_some_iff.1 hi).1
    obtain ⟨u, hu⟩ := key0 i it hi
    obtain ⟨c0, c1, c2⟩ := cellsOf_at its vs i it u h3 hi hu
    obtain ⟨sa, sl, sc, rfl, hr, _⟩ := (h5 i it u hi hu).reads hb0 hB
    rw [Nat.zero_add]
    have key : ∀ k v, k < n * 3 → (cellsOf its vs)[k]? = some v → W.cell? ⟨g, k, none⟩ = some v := fun k v hk hv => by rw [h4.cellAt k hk]; exact hv
    exact ⟨sa, sl, sc, key _ _ (by omega) c0, key _ _ (by omega) c1, key _ _ (by omega) c2, hr⟩
  · have hp : 0 < n := by omega
    obtain ⟨g, c, e'⟩ := own_some h4 hp
    cases e'
    simp only [Option.some.injEq, Addr.mk.injEq, and_true] at e
    obtain ⟨rfl, rfl⟩ := e
    obtain ⟨it, hit⟩ : ∃ it, its[i]? = some it := ⟨_, List.getElem?_eq_getElem (by omega)⟩
    obtain ⟨u, hu⟩ := key0 i it hit
    obtain ⟨_, _, c2⟩ := cellsOf_at its vs i it u h3 hit hu
    obtain ⟨sa, sl, sc, rfl, _, hn⟩ := (h5 i it u hit hu).reads hb0 hB
    refine ⟨sa, sl, sc, ?_, hn⟩
    rw [Nat.zero_add, h4.cellAt _ (by omega)]
    exact c2

/-- The parts that are handed over: in a slice that was there, or in a row that the call owns. -/
def PRow (w0 : World) (B : Nat) (W : World) (pa : Option Addr) (pn : Nat) (zss : List (List Int)) : Prop :=
  zss.length = pn ∧ (∀ z ∈ zss, z.length ≤ maxLen) ∧ ∃ us : List Value, us.length = pn ∧ (∀ (i : Nat) (z : List Int) (u : Value), zss[i]? = some z → us[i]? = some u → Src w0 B W u z) ∧
    ((∃ b off, pa = some ⟨b, off, none⟩ ∧ ∀ (i : Nat) (u : Value), us[i]? = some u → w0.cell? ⟨b, off + i, none⟩ = some u) ∨ (∃ pc, W.ownsRow B 22 1 (.slice pa pn pc) pn us) ∨ pn = 0)

theorem PRow.below {w0 W W' : World} {B C pn : Nat} {pa : Option Addr} {zss : List (List Int)} (h : PRow w0 B W pa pn zss) (hb : Below C W W') (hC : W.heap.size ≤ C) : PRow w0 B W' pa pn zss := by
  obtain ⟨h1, h2, us, h3, h4, h5⟩ := h
  refine ⟨h1, h2, us, h3, fun i z u hz hu => (h4 i z u hz hu).below hb hC, ?_⟩
  rcases h5 with h5 | ⟨pc, h5⟩ | h5
  · exact .inl h5
  · exact .inr (.inl ⟨pc, own_below h5 hb hC⟩)
  · exact .inr (.inr h5)

theorem PRow.grown {w0 W W' : World} {B pn n : Nat} {pa : Option Addr} {zss : List (List Int)} {v : Value} {xs : List Value} (h : PRow w0 B W pa pn zss) (hv : W.ownsRow B 66 3 v n xs) (hg : W.grownBy W' v.ownBlock) : PRow w0 B W' pa pn zss := by
  obtain ⟨h1, h2, us, h3, h4, h5⟩ := h
  refine ⟨h1, h2, us, h3, fun i z u hz hu => (h4 i z u hz hu).grown hv (by decide) hg, ?_⟩
  rcases h5 with h5 | ⟨pc, h5⟩ | h5
  · exact .inl h5
  · exact .inr (.inl ⟨pc, own_grown h5 hg (own_apart hv h5 (by decide))⟩)
  · exact .inr (.inr h5)

/-- The part at a place. -/
theorem PRow.at {w0 W : World} {B pn : Nat} {pa : Option Addr} {zss : List (List Int)} (h : PRow w0 B W pa pn zss) (hb : Below B w0 W) (hB : w0.heap.size ≤ B) {k : Nat} {z : List Int} (hk : zss[k]? = some z) :
    ∃ b off sa sl sc, pa = some ⟨b, off, none⟩ ∧ W.cell? ⟨b, off + k, none⟩ = some (.slice sa sl sc) ∧ Src w0 B W (.slice sa sl sc) z := by
  obtain ⟨h1, h2, us, h3, h4, h5⟩ := h
  have hkl : k < pn := by have := (List.getElem?_eq_some_iff.1 hk).1; omega
  obtain ⟨u, hu⟩ : ∃ u, us[k]? = some u := ⟨_, List.getElem?_eq_getElem (by omega)⟩
  have hs := h4 k z u hk hu
  obtain ⟨sa, sl, sc, rfl, _, _⟩ := hs.reads hb hB
  rcases h5 with ⟨b, off, e, hc⟩ | ⟨pc, h5⟩ | h5
  · have c := hc k _ hu
    exact ⟨b, off, sa, sl, sc, e, (hb.cell (Nat.lt_of_lt_of_le (lt_of_cell c) hB)).trans c, hs⟩
  · obtain ⟨g, c, e⟩ := own_some h5 (by omega)
    cases e
    exact ⟨g, 0, sa, sl, sc, rfl, by rw [Nat.zero_add, h5.cellAt k (by omega)]; exact hu, hs⟩
  · omega

end Go.Proofs.Ytlenpjbkbjdbeaa

/- What is proved here: the items of a header without a fault have none, and encoded they are its bytes; no program is named. -/
namespace Go.Proofs.Ytlenpjbkbjdbeaa
open Go.RowKit
set_option linter.unusedVariables false

/-- A leaf and a list. -/
def lf (p : Int) (z : List Int) : It := ⟨false, p, z⟩
def ls (p : Int) : It := ⟨true, p, []⟩

def hA (h : Hd) : List It := [ls (-1), lf 0 h.p, lf 0 (shortF 7 h.n1), lf 0 (shortF 7 h.n2), lf 0 (shortF 7 h.n3), lf 0 h.t, lf 0 (shortF 7 h.n5), ls 0]
def hC (h : Hd) : List It := [lf 0 h.r, lf 0 h.g, lf 0 h.e, ls 0]

/-- The items of a header. -/
def hIts (h : Hd) : List It := hA h ++ h.s.map (lf 7) ++ hC h ++ h.k.map (lf ((11 + h.s.length : Nat) : Int))

theorem hIts_len (h : Hd) : (hIts h).length = 12 + h.s.length + h.k.length := by
  unfold hIts hA hC
  simp
  omega

theorem at_A (h : Hd) (j : Nat) (hj : j < 8) : (hIts h)[j]? = (hA h)[j]? := by
  unfold hIts
  have hl : (hA h).length = 8 := rfl
  rw [List.getElem?_append_left (by simp; omega), List.getElem?_append_left (by simp; omega), List.getElem?_append_left (by omega)]

theorem at_S (h : Hd) (i : Nat) (hi : i < h.s.length) : (hIts h)[8 + i]? = some (lf 7 h.s[i]) := by
  unfold hIts
  have hl : (hA h).length = 8 := rfl
  rw [List.getElem?_append_left (by simp; omega), List.getElem?_append_left (by simp; omega), List.getElem?_append_right (by omega), hl, Nat.add_sub_cancel_left]
  simp [hi]

theorem at_C (h : Hd) (i : Nat) (hi : i < 4) : (hIts h)[8 + h.s.length + i]? = (hC h)[i]? := by
  unfold hIts
  have hl : (hA h).length = 8 := rfl
  have hc : (hC h).length = 4 := rfl
  rw [List.getElem?_append_left (by simp; omega), List.getElem?_append_right (by simp; omega)]
  congr 1
  simp
  omega

theorem at_K (h : Hd) (i : Nat) (hi : i < h.k.length) : (hIts h)[12 + h.s.length + i]? = some (lf ((11 + h.s.length : Nat) : Int) h.k[i]) := by
  unfold hIts
  have hl : (hA h).length = 8 := rfl
  have hc : (hC h).length = 4 := rfl
  have e : 12 + h.s.length + i - (hA h ++ h.s.map (lf 7) ++ hC h).length = i := by simp; omega
  rw [List.getElem?_append_right (by simp; omega), e]
  simp [hi]

/-- What each item is. -/
theorem cls {h : Hd} (gd : HGood h) (j : Nat) (it : It) (hit : (hIts h)[j]? = some it) :
    (j = 0 ∧ it = ls (-1)) ∨ (1 ≤ j ∧ j ≤ 6 ∧ ∃ z, it = lf 0 z ∧ z.length ≤ 300) ∨ (j = 7 ∧ it = ls 0) ∨ (8 ≤ j ∧ j < 8 + h.s.length ∧ ∃ z, it = lf 7 z ∧ z.length ≤ 300) ∨
    (8 + h.s.length ≤ j ∧ j < 11 + h.s.length ∧ ∃ z, it = lf 0 z ∧ z.length ≤ 300) ∨ (j = 11 + h.s.length ∧ it = ls 0) ∨
    (12 + h.s.length ≤ j ∧ j < 12 + h.s.length + h.k.length ∧ ∃ z, it = lf ((11 + h.s.length : Nat) : Int) z ∧ z.length ≤ 300) := by
  have hl := (List.getElem?_eq_some_iff.1 hit).1
  rw [hIts_len] at hl
  have s1 := sh_length h.n1
  have s2 := sh_length h.n2
  have s3 := sh_length h.n3
  have s5 := sh_length h.n5
  have g1 := gd.p
  have g2 := gd.t
  have g3 := gd.r
  have g4 := gd.g
  have g5 := gd.e
  rcases Nat.lt_or_ge j 8 with h8 | h8
  · rw [at_A h j h8] at hit
    match j, h8 with
    | 0, _ => left; exact ⟨rfl, by simpa [hA] using hit.symm⟩
    | 1, _ => right; left; exact ⟨by omega, by omega, h.p, by simpa [hA] using hit.symm, by omega⟩
    | 2, _ => right; left; exact ⟨by omega, by omega, shortF 7 h.n1, by simpa [hA] using hit.symm, by omega⟩
    | 3, _ => right; left; exact ⟨by omega, by omega, shortF 7 h.n2, by simpa [hA] using hit.symm, by omega⟩
    | 4, _ => right; left; exact ⟨by omega, by omega, shortF 7 h.n3, by simpa [hA] using hit.symm, by omega⟩
    | 5, _ => right; left; exact ⟨by omega, by omega, h.t, by simpa [hA] using hit.symm, by omega⟩
    | 6, _ => right; left; exact ⟨by omega, by omega, shortF 7 h.n5, by simpa [hA] using hit.symm, by omega⟩
    | 7, _ => right; right; left; exact ⟨rfl, by simpa [hA] using hit.symm⟩
  · rcases Nat.lt_or_ge j (8 + h.s.length) with hs | hs
    · obtain ⟨i, rfl⟩ : ∃ i, j = 8 + i := ⟨j - 8, by omega⟩
      rw [at_S h i (by omega)] at hit
      have hz := gd.sz h.s[i] (List.getElem_mem _)
      right; right; right; left
      exact ⟨by omega, by omega, _, (Option.some.inj hit).symm, by omega⟩
    · rcases Nat.lt_or_ge j (12 + h.s.length) with hc | hc
      · obtain ⟨i, rfl⟩ : ∃ i, j = 8 + h.s.length + i := ⟨j - (8 + h.s.length), by omega⟩
        rw [at_C h i (by omega)] at hit
        have hi : i < 4 := by omega
        match i, hi with
        | 0, _ => right; right; right; right; left; exact ⟨by omega, by omega, h.r, by simpa [hC] using hit.symm, by omega⟩
        | 1, _ => right; right; right; right; left; exact ⟨by omega, by omega, h.g, by simpa [hC] using hit.symm, by omega⟩
        | 2, _ => right; right; right; right; left; exact ⟨by omega, by omega, h.e, by simpa [hC] using hit.symm, by omega⟩
        | 3, _ => right; right; right; right; right; left; exact ⟨by omega, by simpa [hC] using hit.symm⟩
      · obtain ⟨i, rfl⟩ : ∃ i, j = 12 + h.s.length + i := ⟨j - (12 + h.s.length), by omega⟩
        rw [at_K h i (by omega)] at hit
        have hz := gd.kz h.k[i] (List.getElem_mem _)
        right; right; right; right; right; right
        exact ⟨by omega, by omega, _, (Option.some.inj hit).symm, by omega⟩

theorem it_at (h : Hd) (j : Nat) (hj : j < 12 + h.s.length + h.k.length) : ∃ it, (hIts h)[j]? = some it := ⟨_, List.getElem?_eq_getElem (by rw [hIts_len]; exact hj)⟩

theorem way0 (h : Hd) : IsWay (hIts h) ((0 : Nat) : Int) [0] := ⟨rfl, ls (-1), at_A h 0 (by omega), by show (-1 : Int) ≤ -1; omega, by show (-1 : Int) < ((0 : Nat) : Int); omega, rfl⟩

theorem way_up (h : Hd) {j q : Nat} {it : It} {ws : List Nat} (hit : (hIts h)[j]? = some it) (hp : it.p = (q : Int)) (hq : q < j) (hw : IsWay (hIts h) (q : Int) ws) : IsWay (hIts h) (j : Int) (j :: ws) :=
  ⟨rfl, it, hit, by omega, by omega, by rw [hp]; exact hw⟩

theorem way7 (h : Hd) : IsWay (hIts h) ((7 : Nat) : Int) [7, 0] := way_up (q := 0) h (at_A h 7 (by omega)) rfl (by omega) (way0 h)
theorem way11 (h : Hd) : IsWay (hIts h) ((11 + h.s.length : Nat) : Int) [11 + h.s.length, 0] := way_up (q := 0) h (by have := at_C h 3 (by omega); rw [show 8 + h.s.length + 3 = 11 + h.s.length by omega] at this; exact this) rfl (by omega) (way0 h)

/-- The way up from each item. -/
theorem way_all {h : Hd} (gd : HGood h) (j : Nat) (hj : j < 12 + h.s.length + h.k.length) : ∃ ws, IsWay (hIts h) (j : Int) ws ∧ 0 ∈ ws ∧ ws.length ≤ 3 ∧ (7 ≤ j → j < 8 + h.s.length → 7 ∈ ws) ∧ (11 + h.s.length ≤ j → 11 + h.s.length ∈ ws) := by
  obtain ⟨it, hit⟩ := it_at h j hj
  rcases cls gd j it hit with ⟨rfl, rfl⟩ | ⟨h1, h2, z, rfl, _⟩ | ⟨rfl, rfl⟩ | ⟨h1, h2, z, rfl, _⟩ | ⟨h1, h2, z, rfl, _⟩ | ⟨rfl, rfl⟩ | ⟨h1, h2, z, rfl, _⟩
  · exact ⟨[0], way0 h, by simp, by simp, fun a => by omega, fun a => by omega⟩
  · exact ⟨[j, 0], way_up (q := 0) h hit rfl (by omega) (way0 h), by simp, by simp, fun a => by omega, fun a => by omega⟩
  · exact ⟨[7, 0], way7 h, by simp, by simp, fun _ _ => by simp, fun a => by omega⟩
  · exact ⟨[j, 7, 0], way_up (q := 7) h hit rfl (by omega) (way7 h), by simp, by simp, fun _ _ => by simp, fun a => by omega⟩
  · exact ⟨[j, 0], way_up (q := 0) h hit rfl (by omega) (way0 h), by simp, by simp, fun _ a => by omega, fun a => by omega⟩
  · exact ⟨[11 + h.s.length, 0], way11 h, by simp, by simp, fun _ a => by omega, fun _ => by simp⟩
  · exact ⟨[j, 11 + h.s.length, 0], way_up (q := 11 + h.s.length) h hit rfl (by omega) (way11 h), by simp, by simp, fun _ a => by omega, fun _ => by simp⟩

theorem lAt_of {h : Hd} {q : Nat} {p : Int} (hq : (hIts h)[q]? = some (ls p)) : lAt (hIts h) q = true := by unfold lAt; rw [hq]; rfl

theorem flt_leaf {h : Hd} (gd : HGood h) {j q : Nat} {l : Bool} {z : List Int} (hz : z.length ≤ 300) (hlz : l = true → z = []) (hj : j < 12 + h.s.length + h.k.length) (hq : q < j) (hl : lAt (hIts h) q = true) (hup : ∀ ws, IsWay (hIts h) (((j - 1 : Nat) : Nat) : Int) ws → q ∈ ws) (hit : (hIts h)[j]? = some ⟨l, (q : Int), z⟩) :
    fltAt (hIts h) j ⟨l, (q : Int), z⟩ = 0 := by
  obtain ⟨ws, w1, w2, w3, _⟩ := way_all gd j hj
  obtain ⟨vs, v1, _⟩ := way_all gd (j - 1) (by omega)
  have e1 : (j : Int) - 1 = ((j - 1 : Nat) : Int) := by omega
  unfold fltAt
  rw [if_neg (fun hh => by rw [hlz hh.1] at hh; simp at hh), if_neg (by show ¬ 300 < z.length; omega), if_neg (by omega), if_neg (by show ¬ ((q : Int) < 0 ∨ (j : Int) ≤ (q : Int)); omega)]
  show (if lAt (hIts h) (q : Int).toNat = true ∧ (q : Int).toNat ∈ upL (hIts h) ((j : Int) - 1) then (if 5 < (upL (hIts h) j).length then 2 else 0) else 1) = 0
  rw [Int.toNat_natCast, e1, v1.up (by rw [hIts_len]; omega), if_pos ⟨hl, hup vs v1⟩, w1.up (by rw [hIts_len]; omega), if_neg (by omega)]

theorem hIts_flt {h : Hd} (gd : HGood h) : itemsFlt (hIts h) = 0 := by
  have hs := gd.s
  have hk := gd.k
  unfold itemsFlt
  rw [if_neg (by rw [hIts_len]; omega)]
  have l0 : lAt (hIts h) 0 = true := lAt_of (at_A h 0 (by omega))
  have l7 : lAt (hIts h) 7 = true := lAt_of (at_A h 7 (by omega))
  have l11 : lAt (hIts h) (11 + h.s.length) = true := lAt_of (p := 0) (by have := at_C h 3 (by omega); rw [show 8 + h.s.length + 3 = 11 + h.s.length by omega] at this; exact this)
  have u0 : ∀ j, j < 12 + h.s.length + h.k.length → ∀ ws, IsWay (hIts h) ((j : Nat) : Int) ws → 0 ∈ ws := fun j hj ws hw => by
    obtain ⟨vs, v1, v2, _⟩ := way_all gd j hj
    rw [hw.unique v1]; exact v2
  have all : ∀ j it, (hIts h)[j]? = some it → fltAt (hIts h) j it = 0 := fun j it hit => by
    have hj : j < 12 + h.s.length + h.k.length := by have := (List.getElem?_eq_some_iff.1 hit).1; rwa [hIts_len] at this
    rcases cls gd j it hit with ⟨rfl, rfl⟩ | ⟨h1, h2, z, rfl, hz⟩ | ⟨rfl, rfl⟩ | ⟨h1, h2, z, rfl, hz⟩ | ⟨h1, h2, z, rfl, hz⟩ | ⟨rfl, rfl⟩ | ⟨h1, h2, z, rfl, hz⟩
    · rfl
    · exact flt_leaf gd (q := 0) hz (fun e => by cases e) hj (by omega) l0 (u0 (j - 1) (by omega)) hit
    · exact flt_leaf gd (q := 0) (by simp) (fun _ => rfl) hj (by omega) l0 (u0 (7 - 1) (by omega)) hit
    · exact flt_leaf gd (q := 7) hz (fun e => by cases e) hj (by omega) l7 (fun ws hw => by
        obtain ⟨vs, v1, _, _, v4, _⟩ := way_all gd (j - 1) (by omega)
        rw [hw.unique v1]; exact v4 (by omega) (by omega)) hit
    · exact flt_leaf gd (q := 0) hz (fun e => by cases e) hj (by omega) l0 (u0 (j - 1) (by omega)) hit
    · exact flt_leaf gd (q := 0) (by simp) (fun _ => rfl) hj (by omega) l0 (u0 (11 + h.s.length - 1) (by omega)) hit
    · exact flt_leaf gd (q := 11 + h.s.length) hz (fun e => by cases e) hj (by omega) l11 (fun ws hw => by
        obtain ⟨vs, v1, _, _, _, v5⟩ := way_all gd (j - 1) (by omega)
        rw [hw.unique v1]; exact v5 (by omega)) hit
  have from0 : ∀ (n k : Nat), k + n = (hIts h).length → fltFrom (hIts h) k ((hIts h).drop k) = 0 := by
    intro n
    induction n with
    | zero => intro k e; exact fltFrom_end _ _ (by omega)
    | succ n ih =>
      intro k e
      obtain ⟨it, hit⟩ := it_at h k (by rw [hIts_len] at e; omega)
      rw [fltFrom_step _ k it hit, if_pos (all k it hit)]
      exact ih (k + 1) (by omega)
  simpa using from0 (hIts h).length 0 (by omega)

end Go.Proofs.Ytlenpjbkbjdbeaa
