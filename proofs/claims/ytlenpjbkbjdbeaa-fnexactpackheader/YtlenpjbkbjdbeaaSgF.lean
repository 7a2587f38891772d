/- What is proved here: plain facts on the fault of a list of signers; no program is named. -/
import Derived.Test.YtlenpjbkbjdbeaaAhd
import Derived.Test.YtlenpjbkbjdbeaaBsB
namespace Go.Proofs.Ytlenpjbkbjdbeaa
open Go.RowKit
set_option linter.unusedVariables false

/-- Whether the signer at a place has a fault: no address, or not behind the one ahead. -/
def sgBad (zss : List (List Int)) (k : Nat) (z : List Int) : Bool := z.length != 4 || (decide (0 < k) && !aheadB (zss.getD (k - 1) []) z)

/-- The first fault among the signers from a place on. -/
def sgFrom (zss : List (List Int)) : Nat → List (List Int) → Int
  | _, [] => 0
  | k, z :: r => if sgBad zss k z = true then 1 else sgFrom zss (k + 1) r

def sgFlt (zss : List (List Int)) : Int := if 7 < zss.length then 2 else sgFrom zss 0 zss

theorem sgFrom_step (zss : List (List Int)) (k : Nat) (z : List Int) (h : zss[k]? = some z) : sgFrom zss k (zss.drop k) = if sgBad zss k z = true then 1 else sgFrom zss (k + 1) (zss.drop (k + 1)) := by
  obtain ⟨hk, e⟩ := List.getElem?_eq_some_iff.1 h
  rw [List.drop_eq_getElem_cons hk, e]
  rfl

theorem sgFrom_end (zss : List (List Int)) (k : Nat) (h : zss.length ≤ k) : sgFrom zss k (zss.drop k) = 0 := by
  rw [List.drop_eq_nil_of_le h]; rfl

theorem sgFrom_cases (zss : List (List Int)) : ∀ (r : List (List Int)) (k : Nat), sgFrom zss k r = 0 ∨ sgFrom zss k r = 1
  | [], k => .inl rfl
  | z :: r, k => by
    unfold sgFrom
    split
    · exact .inr rfl
    · exact sgFrom_cases zss r (k + 1)

theorem sgFlt_cases (zss : List (List Int)) : sgFlt zss = 0 ∨ sgFlt zss = 1 ∨ sgFlt zss = 2 := by
  unfold sgFlt
  split
  · omega
  · rcases sgFrom_cases zss zss 0 with h | h <;> omega

end Go.Proofs.Ytlenpjbkbjdbeaa
