/- What is proved here: plain facts on the parts of an item; no program is named. -/
import Derived.Test.YtndkdngojjhinaaItW
namespace Go.Proofs.Ytndkdngojjhinaa
open Go.RowKit
set_option linter.unusedVariables false
set_option maxRecDepth 100000

/-- The places below k whose parent is a given one. -/
def partsUp (its : List It) (at_ : Int) : Nat → List Int
  | 0 => []
  | k + 1 => partsUp its at_ k ++ (match its[k]? with
    | some it => if it.p = at_ then [(k : Int)] else []
    | none => [])

theorem partsUp_yes {its : List It} {at_ : Int} {k : Nat} {it : It} (h : its[k]? = some it) (hp : it.p = at_) : partsUp its at_ (k + 1) = partsUp its at_ k ++ [(k : Int)] := by
  show partsUp its at_ k ++ _ = _
  rw [h]; simp [hp]

theorem partsUp_no {its : List It} {at_ : Int} {k : Nat} {it : It} (h : its[k]? = some it) (hp : it.p ≠ at_) : partsUp its at_ (k + 1) = partsUp its at_ k := by
  show partsUp its at_ k ++ _ = _
  rw [h]; simp [hp]

theorem partsUp_length (its : List It) (at_ : Int) : ∀ k, (partsUp its at_ k).length ≤ k
  | 0 => Nat.le_refl _
  | k + 1 => by
    have := partsUp_length its at_ k
    unfold partsUp
    split
    · split <;> simp <;> omega
    · simp; omega

/-- What PartsOf answers: its code and its list. -/
def poCode (its : List It) (at_ : Int) : Int := if itemsFlt its = 0 then (if 0 ≤ at_ ∧ at_ ≤ (its.length : Int) - 1 then 0 else 3) else itemsFlt its
def poList (its : List It) (at_ : Int) : List Int := if itemsFlt its = 0 ∧ 0 ≤ at_ ∧ at_ ≤ (its.length : Int) - 1 then partsUp its at_ its.length else []

theorem poList_length (its : List It) (at_ : Int) : (poList its at_).length ≤ its.length := by
  unfold poList
  split
  · exact partsUp_length _ _ _
  · simp

end Go.Proofs.Ytndkdngojjhinaa
