/- What is proved here: slices of items whose empty bytes have no room: plain facts. -/
import Derived.Test.YtndkdngojjhinaaItO
namespace Go.Proofs.Ytndkdngojjhinaa
open Go.RowKit
set_option linter.unusedVariables false
set_option maxRecDepth 100000

/-- No item's bytes are a bare nil with some room. -/
def ItNil (w : World) (a : Option Addr) (len : Nat) : Prop := ∀ b off, a = some ⟨b, off, none⟩ → ∀ i, i < len → ∃ sa sl sc, w.cell? ⟨b, off + i * 3 + 2, none⟩ = some (.slice sa sl sc) ∧ (sa = none → sc = 0)

theorem ItNil.below {w w' : World} {a : Option Addr} {len : Nat} (h : ItNil w a len) {B : Nat} (hb : Below B w w') (hB : w.heap.size ≤ B) : ItNil w' a len := by
  intro b off e i hi
  obtain ⟨sa, sl, sc, hc, hn⟩ := h b off e i hi
  exact ⟨sa, sl, sc, (hb.cell (Nat.lt_of_lt_of_le (lt_of_cell hc) hB)).trans hc, hn⟩

def ItRowN (w : World) (a : Option Addr) (len : Nat) (its : List It) : Prop := ItRow w a len its ∧ ItNil w a len

theorem ItRowN.below {w w' : World} {a : Option Addr} {len : Nat} {its : List It} (h : ItRowN w a len its) {B : Nat} (hb : Below B w w') (hB : w.heap.size ≤ B) : ItRowN w' a len its := ⟨h.1.below hb hB, h.2.below hb hB⟩

theorem OIts.nilOk {w : World} {g : Nat} {its : List It} {T : TypeId} {C : Nat} (h : OIts w g its T C) : ItNil w (some ⟨g, 0, none⟩) its.length := by
  obtain ⟨vs, f, h1, h2, h3, h4, h5⟩ := h
  intro b off e i hi
  simp only [Option.some.injEq, Addr.mk.injEq, and_true] at e
  obtain ⟨rfl, rfl⟩ := e
  obtain ⟨_, _, q3, _⟩ := h5 i _ hi (List.getElem?_eq_getElem hi)
  exact ⟨_, _, _, by rw [h1.cell, Nat.zero_add]; exact q3, fun e => by cases e⟩

/-- One item of a row, its bytes no bare nil with some room. -/
theorem ItRowN.at {w : World} {a : Option Addr} {len : Nat} {its : List It} (h : ItRowN w a len its) (hp : 0 < len) :
    ∃ b off, a = some ⟨b, off, none⟩ ∧ b < w.heap.size ∧ ∀ i it, its[i]? = some it → ∃ sa sc, w.cell? ⟨b, off + i * 3, none⟩ = some (.bool it.l) ∧ w.cell? ⟨b, off + i * 3 + 1, none⟩ = some (.int .i64 it.p) ∧ w.cell? ⟨b, off + i * 3 + 2, none⟩ = some (.slice sa it.z.length sc) ∧ BRow w sa it.z.length it.z ∧ (sa = none → sc = 0) := by
  obtain ⟨b, off, e, hb, k⟩ := h.1.at hp
  refine ⟨b, off, e, hb, fun i it hi => ?_⟩
  obtain ⟨sa, sl, sc, c0, c1, c2, hr⟩ := k i it hi
  have hil : i < len := by rw [← h.1.1]; exact (List.getElem?_eq_some_iff.1 hi).1
  obtain ⟨sa', sl', sc', hc, hn⟩ := h.2 b off e i hil
  rw [c2] at hc
  simp only [Option.some.injEq, Value.slice.injEq] at hc
  obtain ⟨rfl, rfl, rfl⟩ := hc
  have := hr.1
  subst this
  exact ⟨sa, sc, c0, c1, c2, hr, hn⟩

/-- Rows of other elements lie in other blocks. -/
theorem own_apart {w : World} {B B' s s' n n' : Nat} {e e' : TypeId} {v v' : Value} {xs xs' : List Value} (h : w.ownsRow B e s v n xs) (h' : w.ownsRow B' e' s' v' n' xs') (he : e ≠ e') : ∀ g, v'.ownBlock = some g → some g ≠ v.ownBlock := by
  intro g hg heq
  rcases h.2 with ⟨q, _⟩ | ⟨b, cap, cur, q, _, hb, _⟩
  · rw [q] at heq; simp [Value.ownBlock] at heq
  · rcases h'.2 with ⟨q', _⟩ | ⟨b', cap', cur', q', _, hb', _⟩
    · rw [q'] at hg; simp [Value.ownBlock] at hg
    · rw [q] at heq; rw [q'] at hg
      simp [Value.ownBlock] at heq hg
      subst hg
      subst heq
      rw [hb] at hb'
      simp at hb'
      exact he hb'.2

end Go.Proofs.Ytndkdngojjhinaa
