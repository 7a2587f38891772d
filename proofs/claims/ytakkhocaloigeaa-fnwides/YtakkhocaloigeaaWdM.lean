/- What is proved here: plain facts on wide numbers: what their limbs are worth, that sums add up, and that the order of limbs is the order of numbers. -/
import Derived.Test.YtakkhocaloigeaaWdG
import Derived.Test.YtakkhocaloigeaaWdR
namespace Go.Proofs.Ytakkhocaloigeaa
open Go.RowKit
set_option linter.unusedVariables false

/-- What the k lowest limbs are worth. -/
def numW (L : List Int) : Nat → Int
  | 0 => 0
  | k + 1 => numW L k + L.getD k 0 * 4294967296 ^ k

/-- Limbs that are words. -/
def Wd (L : List Int) : Prop := ∀ i, 0 ≤ L.getD i 0 ∧ L.getD i 0 ≤ 4294967295

theorem pow_pos (k : Nat) : (0 : Int) < 4294967296 ^ k := Int.pow_pos (by decide)

theorem numW_range {L : List Int} (h : Wd L) : ∀ k, 0 ≤ numW L k ∧ numW L k < 4294967296 ^ k
  | 0 => by simp [numW]
  | k + 1 => by
    have ih := numW_range h k
    have hk := h k
    have hp := pow_pos k
    have m1 : L.getD k 0 * 4294967296 ^ k ≤ 4294967295 * 4294967296 ^ k := Int.mul_le_mul_of_nonneg_right hk.2 (Int.le_of_lt hp)
    have m0 : 0 ≤ L.getD k 0 * 4294967296 ^ k := Int.mul_nonneg hk.1 (Int.le_of_lt hp)
    have e : (4294967296 : Int) ^ (k + 1) = 4294967296 ^ k * 4294967296 := Int.pow_succ _ _
    rw [numW, e]
    generalize L.getD k 0 * 4294967296 ^ k = p at m0 m1
    generalize (4294967296 : Int) ^ k = q at ih m1 hp
    omega

/-- Which of two numbers is more. -/
theorem cmpW_num {A B : List Int} (hA : Wd A) (hB : Wd B) : ∀ k, cmpW A B k = cmpI (numW A k) (numW B k)
  | 0 => by simp [cmpW, numW, cmpI]
  | k + 1 => by
    have ih := cmpW_num hA hB k
    have ra := numW_range hA k
    have rb := numW_range hB k
    have hp := pow_pos k
    rw [numW, numW]
    rcases Int.lt_trichotomy (A.getD k 0) (B.getD k 0) with h | h | h
    · have m : (A.getD k 0 + 1) * 4294967296 ^ k ≤ B.getD k 0 * 4294967296 ^ k := Int.mul_le_mul_of_nonneg_right (by omega) (Int.le_of_lt hp)
      rw [Int.add_mul, Int.one_mul] at m
      rw [cmpW_other A B k (by rw [cmpI_less h]; decide), cmpI_less h, cmpI_less]
      omega
    · rw [cmpW_same A B k (by rw [h]; exact cmpI_same (Int.lt_irrefl _) (Int.lt_irrefl _)), ih, h]
      unfold cmpI
      generalize B.getD k 0 * 4294967296 ^ k = p
      have e1 : (numW A k + p < numW B k + p) ↔ (numW A k < numW B k) := by omega
      have e2 : (numW B k + p < numW A k + p) ↔ (numW B k < numW A k) := by omega
      simp only [e1, e2]
    · have m : (B.getD k 0 + 1) * 4294967296 ^ k ≤ A.getD k 0 * 4294967296 ^ k := Int.mul_le_mul_of_nonneg_right (by omega) (Int.le_of_lt hp)
      rw [Int.add_mul, Int.one_mul] at m
      rw [cmpW_other A B k (by rw [cmpI_more h]; decide), cmpI_more h, cmpI_more]
      omega

theorem sum_num {xs ys : List Int} : ∀ k, k ≤ 8 → numW xs k + numW ys k = numW (sumL xs ys) k + caW xs ys k * 4294967296 ^ k
  | 0, _ => by simp [numW, caW]
  | k + 1, h => by
    have ih := sum_num (xs := xs) (ys := ys) k (by omega)
    rw [numW, numW, numW, sumL_at xs ys k (by omega)]
    have e : (4294967296 : Int) ^ (k + 1) = 4294967296 ^ k * 4294967296 := Int.pow_succ _ _
    have hs : xs.getD k 0 + ys.getD k 0 + caW xs ys k = suW xs ys k + caW xs ys (k + 1) * 4294967296 := by
      unfold suW
      rw [caW]
      have := Int.emod_add_mul_ediv (xs.getD k 0 + ys.getD k 0 + caW xs ys k) 4294967296
      omega
    rw [e]
    have hm := congrArg (fun z => z * (4294967296 : Int) ^ k) hs
    simp only [Int.add_mul] at hm
    have e2 : caW xs ys (k + 1) * (4294967296 ^ k * 4294967296) = caW xs ys (k + 1) * 4294967296 * 4294967296 ^ k := by
      rw [Int.mul_comm (4294967296 ^ k) 4294967296, Int.mul_assoc]
    rw [e2]
    generalize xs.getD k 0 * 4294967296 ^ k = p1 at hm
    generalize ys.getD k 0 * 4294967296 ^ k = p2 at hm
    generalize suW xs ys k * 4294967296 ^ k = p3 at hm
    generalize caW xs ys (k + 1) * 4294967296 * 4294967296 ^ k = p4 at hm
    generalize caW xs ys k * 4294967296 ^ k = p5 at hm ih
    omega

theorem caW_comm (xs ys : List Int) : ∀ k, caW xs ys k = caW ys xs k
  | 0 => rfl
  | k + 1 => by rw [caW, caW, caW_comm xs ys k, Int.add_comm (xs.getD k 0)]

theorem sumL_comm (xs ys : List Int) : sumL xs ys = sumL ys xs := by
  unfold sumL
  refine List.map_congr_left fun k _ => ?_
  unfold suW
  rw [caW_comm xs ys k, Int.add_comm (xs.getD k 0)]

theorem Wd_sum (xs ys : List Int) : Wd (sumL xs ys) := by
  intro i
  by_cases hi : i < 8
  · rw [sumL_at xs ys i hi]
    unfold suW
    omega
  · rw [List.getD_eq_getElem?_getD, List.getElem?_eq_none (by rw [sumL_length]; omega)]
    simp

theorem wf_of (L : List Int) (h : L.length = 8) (hw : Wd L) : wfCode L = 0 := by
  refine wf_ok L h ?_
  rw [List.all_eq_true]
  intro x hx
  obtain ⟨i, hi, rfl⟩ := List.getElem_of_mem (List.mem_of_mem_take hx)
  have := hw i
  rw [getD_at _ _ hi] at this
  exact decide_eq_true this

/-- Eight zeros. -/
def z8 : List Int := [0, 0, 0, 0, 0, 0, 0, 0]
theorem z8_at (i : Nat) : z8.getD i 0 = 0 := by
  match i with
  | 0 | 1 | 2 | 3 | 4 | 5 | 6 | 7 => rfl
  | n + 8 => rfl
theorem Wd_z8 : Wd z8 := fun i => by rw [z8_at]; decide
theorem num_z8 : ∀ k, numW z8 k = 0
  | 0 => rfl
  | k + 1 => by rw [numW, num_z8 k, z8_at]; simp

theorem ca_z8 {xs : List Int} (hx : Wd xs) : ∀ k, caW xs z8 k = 0
  | 0 => rfl
  | k + 1 => by
    rw [caW, ca_z8 hx k, z8_at]
    have := hx k
    omega

theorem sum_z8 {xs : List Int} (hl : xs.length = 8) (hx : Wd xs) : sumL xs z8 = xs := by
  refine List.ext_getElem (by rw [sumL_length, hl]) fun i h1 h2 => ?_
  have e := sumL_at xs z8 i (by omega)
  rw [getD_at _ _ h1] at e
  rw [e]
  unfold suW
  rw [ca_z8 hx i, z8_at, getD_at _ _ h2]
  have := hx i
  rw [getD_at _ _ h2] at this
  omega

/-- A sum is more than one of its parts just as the other part is more than nothing. -/
theorem sum_more {xs ys : List Int} (hx : Wd xs) (hy : Wd ys) (hc : caW xs ys 8 = 0) : cmpW (sumL xs ys) xs 8 = cmpW ys z8 8 ∧ 0 ≤ cmpW ys z8 8 := by
  have e := sum_num (xs := xs) (ys := ys) 8 (Nat.le_refl _)
  have ry := numW_range hy 8
  rw [hc, Int.zero_mul, Int.add_zero] at e
  rw [cmpW_num (Wd_sum xs ys) hx, cmpW_num hy Wd_z8, num_z8, ← e]
  generalize numW xs 8 = p
  generalize numW ys 8 = q at ry
  unfold cmpI
  refine ⟨?_, ?_⟩
  · have e1 : (p + q < p) ↔ (q < 0) := by omega
    have e2 : (p < p + q) ↔ (0 < q) := by omega
    simp only [e1, e2]
  · split
    · omega
    · split <;> decide

end Go.Proofs.Ytakkhocaloigeaa
