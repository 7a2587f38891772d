/- What is proved here: plain facts on wide numbers: what their limbs are worth, that sums add up, and that the order of limbs is the order of numbers. -/
import Derived.Test.YtpcokoejmodmaaaWdG
namespace Go.Proofs.Ytpcokoejmodmaaa
open Go.RowKit
set_option linter.unusedVariables false

/-- What the k lowest limbs are worth. -/
def numW (L : List Int) : Nat → Int
  | 0 => 0
  | k + 1 => numW L k + L.getD k 0 * 4294967296 ^ k

/-- Limbs that are words. -/
def Wd (L : List Int) : Prop := ∀ i, 0 ≤ L.getD i 0 ∧ L.getD i 0 ≤ 4294967295

theorem pow_pos (k : Nat) : (0 : Int) < 4294967296 ^ k := Int.pow_pos (by decide)

theorem numW_range {L : List Int} (h : Wd L) : ∀ k, 0 ≤ numW L k ∧ numW L k < 4294967296 ^ k
  | 0 => by simp [numW]
  | k + 1 => by
    have ih := numW_range h k
    have hk := h k
    have hp := pow_pos k
    have m1 : L.getD k 0 * 4294967296 ^ k ≤ 4294967295 * 4294967296 ^ k := Int.mul_le_mul_of_nonneg_right hk.2 (Int.le_of_lt hp)
    have m0 : 0 ≤ L.getD k 0 * 4294967296 ^ k := Int.mul_nonneg hk.1 (Int.le_of_lt hp)
    have e : (4294967296 : Int) ^ (k + 1) = 4294967296 ^ k * 4294967296 := Int.pow_succ _ _
    rw [numW, e]
    generalize L.getD k 0 * 4294967296 ^ k = p at m0 m1
    generalize (4294967296 : Int) ^ k = q at ih m1 hp
    omega

/-- Which of two numbers is more. -/
theorem cmpW_num {A B : List Int} (hA : Wd A) (hB : Wd B) : ∀ k, cmpW A B k = cmpI (numW A k) (numW B k)
  | 0 => by simp [cmpW, numW, cmpI]
  | k + 1 => by
    have ih := cmpW_num hA hB k
    have ra := numW_range hA k
    have rb := numW_range hB k
    have hp := pow_pos k
    rw [numW, numW]
    rcases Int.lt_trichotomy (A.getD k 0) (B.getD k 0) with h | h | h
    · have m : (A.getD k 0 + 1) * 4294967296 ^ k ≤ B.getD k 0 * 4294967296 ^ k := Int.mul_le_mul_of_nonneg_right (by omega) (Int.le_of_lt hp)
      rw [Int.add_mul, Int.one_mul] at m
      rw [cmpW_other A B k (by rw [cmpI_less h]; decide), cmpI_less h, cmpI_less]
      omega
    · rw [cmpW_same A B k (by rw [h]; exact cmpI_same (Int.lt_irrefl _) (Int.lt_irrefl _)), ih, h]
      unfold cmpI
      generalize B.getD k 0 * 4294967296 ^ k = p
      have e1 : (numW A k + p < numW B k + p) ↔ (numW A k < numW B k) := by omega
      have e2 : (numW B k + p < numW A k + p) ↔ (numW B k < numW A k) := by omega
      simp only [e1, e2]
    · have m : (B.getD k 0 + 1) * 4294967296 ^ k ≤ A.getD k 0 * 4294967296 ^ k := Int.mul_le_mul_of_nonneg_right (by omega) (Int.le_of_lt hp)
      rw [Int.add_mul, Int.one_mul] at m
      rw [cmpW_other A B k (by rw [cmpI_more h]; decide), cmpI_more h, cmpI_more]
      omega


end Go.Proofs.Ytpcokoejmodmaaa
