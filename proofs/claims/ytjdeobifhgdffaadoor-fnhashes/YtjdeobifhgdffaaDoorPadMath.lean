/- What is proved here: plain facts on bytes that are padded to a multiple of 136; no program is named. -/
import Derived.Test.YtjdeobifhgdffaaDoorBase
namespace Go.Proofs.YtjdeobifhgdffaaDoor
set_option linter.unusedVariables false

/-- How many bytes there are behind the padding. -/
def padLen (n : Nat) : Nat := 136 * (n / 136 + 1)

theorem padLen_lt (n : Nat) : n < padLen n ∧ padLen n ≤ n + 136 ∧ padLen n % 136 = 0 := by unfold padLen; omega

theorem padLen_first (n m : Nat) (h1 : n < m) (h2 : m ≤ padLen n) (h3 : m % 136 = 0) : m = padLen n := by unfold padLen at h2 ⊢; omega

/-- The last byte of the padding. -/
def padLast (n : Nat) : Int := if n + 1 = padLen n then 129 else 128

/-- The bytes, a byte 1, and k zeros. -/
def padRaw (zs : List Int) (k : Nat) : List Int := zs ++ 1 :: List.replicate k 0

/-- Padded bytes. -/
def padB (zs : List Int) : List Int := (padRaw zs (padLen zs.length - zs.length - 1)).set (padLen zs.length - 1) (padLast zs.length)

theorem padRaw_length (zs : List Int) (k : Nat) : (padRaw zs k).length = zs.length + 1 + k := by simp [padRaw]; omega

theorem padRaw_succ (zs : List Int) (k : Nat) : padRaw zs (k + 1) = padRaw zs k ++ [0] := by
  unfold padRaw
  rw [List.replicate_succ', List.append_assoc]
  rfl

theorem padB_length (zs : List Int) : (padB zs).length = padLen zs.length := by
  have := padLen_lt zs.length
  unfold padB
  rw [List.length_set, padRaw_length]
  omega

theorem padRaw_range (zs : List Int) (k : Nat) (h : ∀ x ∈ zs, 0 ≤ x ∧ x ≤ 255) : ∀ x ∈ padRaw zs k, 0 ≤ x ∧ x ≤ 255 := by
  intro x hx
  unfold padRaw at hx
  rcases List.mem_append.1 hx with hx | hx
  · exact h x hx
  · rcases List.mem_cons.1 hx with rfl | hx
    · omega
    · rw [List.eq_of_mem_replicate hx]; omega

theorem padB_range (zs : List Int) (h : ∀ x ∈ zs, 0 ≤ x ∧ x ≤ 255) : ∀ x ∈ padB zs, 0 ≤ x ∧ x ≤ 255 := by
  intro x hx
  rcases List.mem_or_eq_of_mem_set hx with h' | h'
  · exact padRaw_range zs _ h x h'
  · subst h'; unfold padLast; split <;> omega

/-- What stands last ahead of the xor. -/
theorem padRaw_last (zs : List Int) : (padRaw zs (padLen zs.length - zs.length - 1)).getD (padLen zs.length - 1) 0 = if zs.length + 1 = padLen zs.length then 1 else 0 := by
  have hp := padLen_lt zs.length
  have hl := padRaw_length zs (padLen zs.length - zs.length - 1)
  rw [getD_at _ _ (by omega)]
  unfold padRaw
  rw [List.getElem_append_right (by omega)]
  split
  · rename_i he
    have e : padLen zs.length - 1 - zs.length = 0 := by omega
    simp [e]
  · rename_i he
    obtain ⟨q, hq⟩ : ∃ q, padLen zs.length - 1 - zs.length = q + 1 := ⟨padLen zs.length - 2 - zs.length, by omega⟩
    simp [hq]

end Go.Proofs.YtjdeobifhgdffaaDoor
