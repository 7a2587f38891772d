/- What is proved here: items that a call makes one by one: a row of three cells an item, each with bytes of its own, kept while the row grows and other memory is written. -/
import Derived.Test.YtpcokoejmodmaaaItN
import Derived.Test.YtpcokoejmodmaaaOwnG
namespace Go.Proofs.Ytpcokoejmodmaaa
open Go.RowKit
set_option linter.unusedVariables false

/-- The cells of items whose bytes lie in the given slices. -/
def cellsOf : List It → List Value → List Value
  | [], _ => []
  | it :: its, v :: vs => .bool it.l :: .int .i64 it.p :: v :: cellsOf its vs
  | _ :: _, [] => []

theorem cellsOf_length : ∀ (its : List It) (vs : List Value), vs.length = its.length → (cellsOf its vs).length = its.length * 3
  | [], _, _ => rfl
  | it :: its, v :: vs, h => by
    have := cellsOf_length its vs (by simpa using h)
    simp [cellsOf, this]
    omega
  | _ :: _, [], h => by simp at h

theorem cellsOf_snoc : ∀ (its : List It) (vs : List Value) (it : It) (v : Value), vs.length = its.length → cellsOf (its ++ [it]) (vs ++ [v]) = cellsOf its vs ++ [.bool it.l, .int .i64 it.p, v]
  | [], [], it, v, _ => rfl
  | x :: its, u :: vs, it, v, h => by
    have := cellsOf_snoc its vs it v (by simpa using h)
    simp [cellsOf, this]
  | [], _ :: _, _, _, h => by simp at h
  | _ :: _, [], _, _, h => by simp at h

theorem cellsOf_at : ∀ (its : List It) (vs : List Value) (i : Nat) (it : It) (v : Value), vs.length = its.length → its[i]? = some it → vs[i]? = some v →
    (cellsOf its vs)[i * 3]? = some (.bool it.l) ∧ (cellsOf its vs)[i * 3 + 1]? = some (.int .i64 it.p) ∧ (cellsOf its vs)[i * 3 + 2]? = some v
  | [], _, i, it, v, _, h, _ => by simp at h
  | _ :: _, [], _, _, _, h, _, _ => by simp at h
  | x :: its, u :: vs, 0, it, v, h, h1, h2 => by
    simp at h1 h2
    subst h1 h2
    exact ⟨rfl, rfl, rfl⟩
  | x :: its, u :: vs, i + 1, it, v, h, h1, h2 => by
    have := cellsOf_at its vs i it v (by simpa using h) (by simpa using h1) (by simpa using h2)
    rw [show (i + 1) * 3 = i * 3 + 1 + 1 + 1 by omega, show i * 3 + 1 + 1 + 1 + 1 = i * 3 + 1 + 1 + 1 + 1 from rfl]
    simpa [cellsOf] using this

/-- Items that were made: their row, and the bytes of each, all behind a block B. -/
def MkR (W : World) (B : Nat) (v : Value) (n : Nat) (its : List It) : Prop :=
  its.length = n ∧ (∀ it ∈ its, ItOk it ∧ it.z.length ≤ 1000 ∧ ∀ x ∈ it.z, 0 ≤ x ∧ x ≤ 255) ∧ ∃ vs : List Value, vs.length = its.length ∧ W.ownsRow B 32 3 v n (cellsOf its vs) ∧
    ∀ (i : Nat) (it : It) (u : Value), its[i]? = some it → vs[i]? = some u → W.ownsRow B 5 1 u it.z.length (it.z.map (Value.int .u8))

theorem MkR.nil (W : World) (B : Nat) : MkR W B (.slice none 0 0) 0 [] :=
  ⟨rfl, fun it h => by simp at h, [], rfl, World.ownsRow_nil _ _ _ _, fun i it u h _ => by simp at h⟩

theorem MkR.below {W W' : World} {B C n : Nat} {v : Value} {its : List It} (h : MkR W B v n its) (hb : Below C W W') (hC : W.heap.size ≤ C) : MkR W' B v n its := by
  obtain ⟨h1, h2, vs, h3, h4, h5⟩ := h
  exact ⟨h1, h2, vs, h3, own_below h4 hb hC, fun i it u hi hu => own_below (h5 i it u hi hu) hb hC⟩

/-- The source is written: nothing of it lies there. -/
theorem MkR.source {W W' : World} {B b n : Nat} {v : Value} {its : List It} (h : MkR W B v n its) (hg : W.grownBy W' (some b)) (hb : b < B) : MkR W' B v n its := by
  obtain ⟨h1, h2, vs, h3, h4, h5⟩ := h
  exact ⟨h1, h2, vs, h3, own_grown h4 hg (fun g e e2 => by have := (h4.lt g e).1; have := Option.some.inj e2; omega), fun i it u hi hu => own_grown (h5 i it u hi hu) hg (fun g e e2 => by have := ((h5 i it u hi hu).lt g e).1; have := Option.some.inj e2; omega)⟩

/-- One item more. -/
theorem MkR.snoc {W W' : World} {B n : Nat} {v v' u : Value} {its : List It} {vs : List Value} {it : It} (h1 : its.length = n) (h2 : ∀ it ∈ its, ItOk it ∧ it.z.length ≤ 1000 ∧ ∀ x ∈ it.z, 0 ≤ x ∧ x ≤ 255) (h3 : vs.length = its.length) (h4 : W.ownsRow B 32 3 v n (cellsOf its vs))
    (h5 : ∀ (i : Nat) (it : It) (u : Value), its[i]? = some it → vs[i]? = some u → W.ownsRow B 5 1 u it.z.length (it.z.map (Value.int .u8))) (hu : W.ownsRow B 5 1 u it.z.length (it.z.map (Value.int .u8))) (hok : ItOk it ∧ it.z.length ≤ 1000 ∧ ∀ x ∈ it.z, 0 ≤ x ∧ x ≤ 255)
    (hown : W'.ownsRow B 32 3 v' (n + 1) (cellsOf its vs ++ [.bool it.l, .int .i64 it.p, u])) (hg : W.grownBy W' v.ownBlock) : MkR W' B v' (n + 1) (its ++ [it]) := by
  have keep : ∀ {q : Value} {m : Nat} {xs : List Value}, W.ownsRow B 5 1 q m xs → W'.ownsRow B 5 1 q m xs := fun hq => own_grown hq hg (own_apart h4 hq (by decide))
  refine ⟨by simp [h1], fun x hx => ?_, vs ++ [u], by simp [h3], by rw [cellsOf_snoc its vs it u h3]; exact hown, fun i x q hi hq => ?_⟩
  · rcases List.mem_append.1 hx with hx | hx
    · exact h2 x hx
    · rw [List.mem_singleton.1 hx]; exact hok
  · by_cases hlt : i < its.length
    · rw [List.getElem?_append_left hlt] at hi
      rw [List.getElem?_append_left (by omega)] at hq
      exact keep (h5 i x q hi hq)
    · rw [List.getElem?_append_right (by omega)] at hi
      rw [List.getElem?_append_right (by omega)] at hq
      rw [h3] at hq
      cases hk : i - its.length with
      | zero =>
        rw [hk] at hi hq
        simp at hi hq
        subst hi hq
        exact keep hu
      | succ m => rw [hk] at hi; simp at hi

end Go.Proofs.Ytpcokoejmodmaaa
