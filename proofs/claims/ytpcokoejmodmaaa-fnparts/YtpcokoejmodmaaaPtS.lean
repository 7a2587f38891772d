/- What is proved here: one field of an item that was made is written, and what was made reads as items. -/
import Derived.Test.YtpcokoejmodmaaaPtM
namespace Go.Proofs.Ytpcokoejmodmaaa
open Go.RowKit
set_option linter.unusedVariables false

theorem cellsOf_setL : ∀ (its : List It) (vs : List Value) (i : Nat) (it : It) (q : Bool), vs.length = its.length → its[i]? = some it → (cellsOf its vs).set (i * 3) (.bool q) = cellsOf (its.set i ⟨q, it.p, it.z⟩) vs
  | [], _, i, it, q, _, h => by simp at h
  | _ :: _, [], _, _, _, h, _ => by simp at h
  | x :: its, u :: vs, 0, it, q, h, h1 => by simp at h1; subst h1; rfl
  | x :: its, u :: vs, i + 1, it, q, h, h1 => by
    have := cellsOf_setL its vs i it q (by simpa using h) (by simpa using h1)
    rw [show (i + 1) * 3 = i * 3 + 1 + 1 + 1 by omega]
    simp [cellsOf, this]

theorem cellsOf_setP : ∀ (its : List It) (vs : List Value) (i : Nat) (it : It) (q : Int), vs.length = its.length → its[i]? = some it → (cellsOf its vs).set (i * 3 + 1) (.int .i64 q) = cellsOf (its.set i ⟨it.l, q, it.z⟩) vs
  | [], _, i, it, q, _, h => by simp at h
  | _ :: _, [], _, _, _, h, _ => by simp at h
  | x :: its, u :: vs, 0, it, q, h, h1 => by simp at h1; subst h1; rfl
  | x :: its, u :: vs, i + 1, it, q, h, h1 => by
    have := cellsOf_setP its vs i it q (by simpa using h) (by simpa using h1)
    rw [show (i + 1) * 3 + 1 = i * 3 + 1 + 1 + 1 + 1 by omega]
    simp [cellsOf, this]

theorem cellsOf_setB : ∀ (its : List It) (vs : List Value) (i : Nat) (it : It) (z : List Int) (v : Value), vs.length = its.length → its[i]? = some it → (cellsOf its vs).set (i * 3 + 2) v = cellsOf (its.set i ⟨it.l, it.p, z⟩) (vs.set i v)
  | [], _, i, it, z, v, _, h => by simp at h
  | _ :: _, [], _, _, _, _, h, _ => by simp at h
  | x :: its, u :: vs, 0, it, z, v, h, h1 => by simp at h1; subst h1; rfl
  | x :: its, u :: vs, i + 1, it, z, v, h, h1 => by
    have := cellsOf_setB its vs i it z v (by simpa using h) (by simpa using h1)
    rw [show (i + 1) * 3 + 2 = i * 3 + 2 + 1 + 1 + 1 by omega]
    simp [cellsOf, this]

/-- What was made reads as items. -/
theorem MkR.row {W : World} {B n cap : Nat} {a : Option Addr} {its : List It} (h : MkR W B (.slice a n cap) n its) : ItRow W a n its := by
  obtain ⟨h1, h2, vs, h3, h4, h5⟩ := h
  refine ⟨h1, fun it hi => (h2 it hi).1, fun hp => ?_⟩
  obtain ⟨g, c, e⟩ := own_some h4 hp
  cases e
  refine ⟨g, 0, rfl, fun i it hi => ?_⟩
  have hlt : i < its.length := (List.getElem?_eq_some_iff.1 hi).1
  obtain ⟨u, hu⟩ : ∃ u, vs[i]? = some u := ⟨_, List.getElem?_eq_getElem (by omega)⟩
  obtain ⟨c0, c1, c2⟩ := cellsOf_at its vs i it u h3 hi hu
  have hb := h5 i it u hi hu
  obtain ⟨sa, sc, hs⟩ := own_shape hb
  rw [Nat.zero_add]
  have key : ∀ k v, k < n * 3 → (cellsOf its vs)[k]? = some v → W.cell? ⟨g, k, none⟩ = some v := fun k v hk hv => by rw [h4.cellAt k hk]; exact hv
  refine ⟨sa, it.z.length, sc, key _ _ (by omega) c0, key _ _ (by omega) c1, by rw [← hs]; exact key _ _ (by omega) c2, ?_⟩
  rw [hs] at hb
  exact BRow.own2 hb (h2 it (List.mem_of_getElem? hi)).2.2

theorem mem_set_it {its : List It} {i : Nat} {x y : It} (h : y ∈ its.set i x) : y = x ∨ y ∈ its := by
  rcases List.mem_or_eq_of_mem_set h with e | e
  · exact .inr e
  · exact .inl e

/-- The field List of an item is written. -/
theorem MkR.setL {W : World} {B n cap g : Nat} {its : List It} (h : MkR W B (.slice (some ⟨g, 0, none⟩) n cap) n its) (i : Nat) (it : It) (hi : its[i]? = some it) (q : Bool) :
    MkR (W.setCell ⟨g, i * 3, none⟩ (.bool q)) B (.slice (some ⟨g, 0, none⟩) n cap) n (its.set i ⟨q, it.p, it.z⟩) ∧ W.grownBy (W.setCell ⟨g, i * 3, none⟩ (.bool q)) (some g) := by
  obtain ⟨h1, h2, vs, h3, h4, h5⟩ := h
  have R := h4.stored (i * 3) (.bool q)
  rw [cellsOf_setL its vs i it q h3 hi] at R
  have hit := h2 it (List.mem_of_getElem? hi)
  refine ⟨⟨by simpa using h1, fun y hy => ?_, vs, by simpa using h3, R.1, fun k y u hk hu => ?_⟩, R.2⟩
  · rcases mem_set_it hy with e | e
    · rw [e]; exact hit
    · exact h2 y e
  · have keep : ∀ {p : Value} {m : Nat} {xs : List Value}, W.ownsRow B 5 1 p m xs → (W.setCell ⟨g, i * 3, none⟩ (.bool q)).ownsRow B 5 1 p m xs := fun hq => own_grown hq R.2 (own_apart h4 hq (by decide))
    by_cases e : k = i
    · subst e
      rw [List.getElem?_set_self (List.getElem?_eq_some_iff.1 hi).1] at hk
      cases hk
      exact keep (h5 k it u hi hu)
    · rw [List.getElem?_set_ne (fun e2 => e e2.symm)] at hk
      exact keep (h5 k y u hk hu)

/-- The field Parent of an item is written. -/
theorem MkR.setP {W : World} {B n cap g : Nat} {its : List It} (h : MkR W B (.slice (some ⟨g, 0, none⟩) n cap) n its) (i : Nat) (it : It) (hi : its[i]? = some it) (q : Int) (hq : -9223372036854775808 ≤ q ∧ q ≤ 9223372036854775807) :
    MkR (W.setCell ⟨g, i * 3 + 1, none⟩ (.int .i64 q)) B (.slice (some ⟨g, 0, none⟩) n cap) n (its.set i ⟨it.l, q, it.z⟩) ∧ W.grownBy (W.setCell ⟨g, i * 3 + 1, none⟩ (.int .i64 q)) (some g) := by
  obtain ⟨h1, h2, vs, h3, h4, h5⟩ := h
  have R := h4.stored (i * 3 + 1) (.int .i64 q)
  rw [cellsOf_setP its vs i it q h3 hi] at R
  have hit := h2 it (List.mem_of_getElem? hi)
  refine ⟨⟨by simpa using h1, fun y hy => ?_, vs, by simpa using h3, R.1, fun k y u hk hu => ?_⟩, R.2⟩
  · rcases mem_set_it hy with e | e
    · rw [e]; exact ⟨⟨hq.1, hq.2, hit.1.2.2⟩, hit.2⟩
    · exact h2 y e
  · have keep : ∀ {p : Value} {m : Nat} {xs : List Value}, W.ownsRow B 5 1 p m xs → (W.setCell ⟨g, i * 3 + 1, none⟩ (.int .i64 q)).ownsRow B 5 1 p m xs := fun hq => own_grown hq R.2 (own_apart h4 hq (by decide))
    by_cases e : k = i
    · subst e
      rw [List.getElem?_set_self (List.getElem?_eq_some_iff.1 hi).1] at hk
      cases hk
      exact keep (h5 k it u hi hu)
    · rw [List.getElem?_set_ne (fun e2 => e e2.symm)] at hk
      exact keep (h5 k y u hk hu)

/-- The field Bytes of an item is written. -/
theorem MkR.setB {W : World} {B n cap g : Nat} {its : List It} (h : MkR W B (.slice (some ⟨g, 0, none⟩) n cap) n its) (i : Nat) (it : It) (hi : its[i]? = some it) (v : Value) (z : List Int) (hv : W.ownsRow B 5 1 v z.length (z.map (Value.int .u8))) (hz : z.length ≤ 1000) (hr : ∀ x ∈ z, 0 ≤ x ∧ x ≤ 255) :
    MkR (W.setCell ⟨g, i * 3 + 2, none⟩ v) B (.slice (some ⟨g, 0, none⟩) n cap) n (its.set i ⟨it.l, it.p, z⟩) ∧ W.grownBy (W.setCell ⟨g, i * 3 + 2, none⟩ v) (some g) := by
  obtain ⟨h1, h2, vs, h3, h4, h5⟩ := h
  have R := h4.stored (i * 3 + 2) v
  rw [cellsOf_setB its vs i it z v h3 hi] at R
  have hit := h2 it (List.mem_of_getElem? hi)
  have hil := (List.getElem?_eq_some_iff.1 hi).1
  refine ⟨⟨by simpa using h1, fun y hy => ?_, vs.set i v, by simpa using h3, R.1, fun k y u hk hu => ?_⟩, R.2⟩
  · rcases mem_set_it hy with e | e
    · rw [e]; exact ⟨⟨hit.1.1, hit.1.2.1, by show z.length ≤ maxLen; unfold maxLen; omega⟩, hz, hr⟩
    · exact h2 y e
  · have keep : ∀ {p : Value} {m : Nat} {xs : List Value}, W.ownsRow B 5 1 p m xs → (W.setCell ⟨g, i * 3 + 2, none⟩ v).ownsRow B 5 1 p m xs := fun hq => own_grown hq R.2 (own_apart h4 hq (by decide))
    by_cases e : k = i
    · subst e
      rw [List.getElem?_set_self hil] at hk
      rw [List.getElem?_set_self (by omega)] at hu
      cases hk
      cases hu
      exact keep hv
    · rw [List.getElem?_set_ne (fun e2 => e e2.symm)] at hk hu
      exact keep (h5 k y u hk hu)

end Go.Proofs.Ytpcokoejmodmaaa
