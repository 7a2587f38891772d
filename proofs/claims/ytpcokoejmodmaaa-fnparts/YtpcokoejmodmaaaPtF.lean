/- What is proved here: plain facts on the parts of items: each lies behind its parent, and all but the first one are parts of just one. -/
import Derived.Test.YtpcokoejmodmaaaPartF
import Derived.Test.YtpcokoejmodmaaaItW
namespace Go.Proofs.Ytpcokoejmodmaaa
open Go.RowKit
set_option linter.unusedVariables false

/-- What a part is. -/
theorem partsUp_mem (its : List It) (at_ : Int) : ∀ k x, x ∈ partsUp its at_ k → ∃ (j : Nat) (it : It), x = (j : Int) ∧ j < k ∧ its[j]? = some it ∧ it.p = at_
  | 0, x, h => by simp [partsUp] at h
  | k + 1, x, h => by
    rw [partsUp, List.mem_append] at h
    rcases h with h | h
    · obtain ⟨j, it, e, hj, h1, h2⟩ := partsUp_mem its at_ k x h
      exact ⟨j, it, e, by omega, h1, h2⟩
    · cases hk : its[k]? with
      | none => rw [hk] at h; simp at h
      | some it =>
        rw [hk] at h
        by_cases hp : it.p = at_
        · simp [hp] at h
          exact ⟨k, it, h, by omega, hk, hp⟩
        · simp [hp] at h

/-- How many parts the first I items have, among the first k. -/
def partSum (its : List It) (k : Nat) : Nat → Nat
  | 0 => 0
  | I + 1 => partSum its k I + (partsUp its (I : Int) k).length

theorem partSum_step (its : List It) (k : Nat) (it : It) (h : its[k]? = some it) : ∀ I, partSum its (k + 1) I = partSum its k I + (if 0 ≤ it.p ∧ it.p < (I : Int) then 1 else 0)
  | 0 => by
    rw [partSum, partSum, if_neg (by omega)]
  | I + 1 => by
    have ih := partSum_step its k it h I
    rw [partSum, partSum, ih]
    by_cases hp : it.p = (I : Int)
    · rw [partsUp_yes h hp, if_neg (by omega), if_pos (by omega)]
      simp
      omega
    · rw [partsUp_no h hp]
      by_cases hq : 0 ≤ it.p ∧ it.p < (I : Int)
      · rw [if_pos hq, if_pos (by omega)]; omega
      · rw [if_neg hq, if_neg (by omega)]; omega

theorem partSum_zero (its : List It) : ∀ I, partSum its 0 I = 0
  | 0 => rfl
  | I + 1 => by rw [partSum, partSum_zero its I]; rfl

/-- All but the first one are parts of just one. -/
theorem partSum_all (its : List It) (hu : UpOk its its.length) : ∀ k, k ≤ its.length → 0 < k → partSum its k its.length = k - 1
  | 0, _, h => by omega
  | k + 1, hk, _ => by
    obtain ⟨it, hit⟩ : ∃ it, its[k]? = some it := ⟨_, List.getElem?_eq_getElem (by omega)⟩
    have h := hu k it (by omega) hit
    rw [partSum_step its k it hit]
    rcases Nat.eq_zero_or_pos k with e | e
    · subst e
      rw [partSum_zero, if_neg (by have := h.1 rfl; omega)]
    · rw [partSum_all its hu k (by omega) e, if_pos (by have := h.2 e; omega)]
      omega

end Go.Proofs.Ytpcokoejmodmaaa
