/- What is proved here: plain facts on items without a fault and their parts; no program is named. -/
import Derived.Test.YtpcokoejmodmaaaPtF
namespace Go.Proofs.Ytpcokoejmodmaaa
open Go.RowKit
set_option linter.unusedVariables false

theorem ptZero (its : List It) : ∀ (r : List It) (k : Nat), fltFrom its k r = 0 → ∀ (i : Nat) (it : It), r[i]? = some it → fltAt its (k + i) it = 0
  | [], k, _, i, it, hi => by simp at hi
  | a :: r, k, h, i, it, hi => by
    unfold fltFrom at h
    split at h
    · rename_i h0
      cases i with
      | zero => simp at hi; subst hi; simpa using h0
      | succ i =>
        have := ptZero its r (k + 1) h i it (by simpa using hi)
        rwa [show k + (i + 1) = k + 1 + i by omega]
    · omega

theorem upOk_of {its : List It} (h : itemsFlt its = 0) : UpOk its its.length ∧ 0 < its.length ∧ its.length ≤ 200 := by
  unfold itemsFlt at h
  split at h
  · omega
  · refine ⟨fun j it _ hit => fltAt_up (its := its) ?_, by omega, by omega⟩
    have := ptZero its its 0 h j it hit
    rwa [Nat.zero_add] at this

theorem po_zero {its : List It} {k : Int} (h : poCode its k = 0) : itemsFlt its = 0 := by
  unfold poCode at h
  split at h
  · assumption
  · exact absurd h (by assumption)

theorem po_at {its : List It} (hf : itemsFlt its = 0) (i : Nat) (hi : i < its.length) : poCode its (i : Int) = 0 ∧ poList its (i : Int) = partsUp its (i : Int) its.length := by
  refine ⟨?_, ?_⟩
  · unfold poCode; rw [if_pos hf, if_pos (by omega)]
  · unfold poList; rw [if_pos (by omega)]

theorem partSum_le (its : List It) (I : Nat) : ∀ k, k ≤ its.length → partSum its k I ≤ k
  | 0, _ => by rw [partSum_zero]; exact Nat.le_refl _
  | k + 1, hk => by
    obtain ⟨it, hit⟩ : ∃ it, its[k]? = some it := ⟨_, List.getElem?_eq_getElem (by omega)⟩
    have ih := partSum_le its I k (by omega)
    rw [partSum_step its k it hit]
    split <;> omega

/-- What is known of a part. -/
theorem part_at {its : List It} (hU : UpOk its its.length) {I : Nat} {q : Nat} (hq : q < (partsUp its (I : Int) its.length).length) :
    ∃ (j : Nat) (it : It), (partsUp its (I : Int) its.length).getD q 0 = (j : Int) ∧ I < j ∧ j < its.length ∧ its[j]? = some it ∧ it.p = (I : Int) := by
  have hm : (partsUp its (I : Int) its.length).getD q 0 ∈ partsUp its (I : Int) its.length := by
    rw [getD_at _ _ hq]; exact List.getElem_mem hq
  obtain ⟨j, it, e, hj, hit, hp⟩ := partsUp_mem its _ _ _ hm
  obtain ⟨u0, u1⟩ := hU j it hj hit
  refine ⟨j, it, e, ?_, hj, hit, hp⟩
  rcases Nat.eq_zero_or_pos j with e0 | e0
  · have := u0 e0; omega
  · have := u1 e0; omega

end Go.Proofs.Ytpcokoejmodmaaa
