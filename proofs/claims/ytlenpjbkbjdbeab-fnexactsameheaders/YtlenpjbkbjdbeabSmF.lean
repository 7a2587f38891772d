/- What is proved here: plain facts on whether two headers are the same; no program is named. -/
import Derived.Test.YtlenpjbkbjdbeabHdB
namespace Go.Proofs.Ytlenpjbkbjdbeab
open Go.RowKit
set_option linter.unusedVariables false

/-- Whether two lists of bytes are the same, as strings. -/
def sameLs : List (List Int) → List (List Int) → Bool
  | [], [] => true
  | a :: as, b :: bs => strEq a b && sameLs as bs
  | _, _ => false

theorem sameLs_length : ∀ (a b : List (List Int)), sameLs a b = true → a.length = b.length
  | [], [], _ => rfl
  | [], _ :: _, h => by simp [sameLs] at h
  | _ :: _, [], h => by simp [sameLs] at h
  | a :: as, b :: bs, h => by
    simp [sameLs] at h
    simp [sameLs_length as bs h.2]

theorem sameLs_step (a b : List (List Int)) (k : Nat) (x y : List Int) (hx : a[k]? = some x) (hy : b[k]? = some y) : sameLs (a.drop k) (b.drop k) = (strEq x y && sameLs (a.drop (k + 1)) (b.drop (k + 1))) := by
  obtain ⟨h1, e1⟩ := List.getElem?_eq_some_iff.1 hx
  obtain ⟨h2, e2⟩ := List.getElem?_eq_some_iff.1 hy
  rw [List.drop_eq_getElem_cons h1, List.drop_eq_getElem_cons h2, e1, e2]
  rfl

theorem sameLs_end (a b : List (List Int)) (k : Nat) (h1 : a.length = k) (h2 : b.length = k) : sameLs (a.drop k) (b.drop k) = true := by
  rw [List.drop_eq_nil_of_le (by omega), List.drop_eq_nil_of_le (by omega)]
  rfl

theorem sameLs_len (a b : List (List Int)) (h : a.length ≠ b.length) : sameLs a b = false := by
  rw [Bool.eq_false_iff]
  intro e
  exact h (sameLs_length a b e)

/-- Whether two headers are the same. -/
def sameHd (h k : Hd) : Bool := strEq h.p k.p && (h.n1 == k.n1) && (h.n2 == k.n2) && (h.n3 == k.n3) && strEq h.t k.t && (h.n5 == k.n5) && sameLs h.s k.s && strEq h.r k.r && strEq h.g k.g && strEq h.e k.e && sameLs h.k k.k

theorem bool11 (c0 c1 c2 c3 c4 c5 c6 c7 c8 c9 c10 : Bool) : ((c1 && c2 && c3) && (c0 && c7) && (c8 && c9 && c10) && (c4 && c5 && c6)) = (c0 && c1 && c2 && c3 && c4 && c5 && c6 && c7 && c8 && c9 && c10) := by
  ac_rfl

end Go.Proofs.Ytlenpjbkbjdbeab
