/- What is proved here: plain facts on lanes of 64 bits and their two words: xor, and, the complement, turning. They hold for every program. No condition beyond those written in each theorem. -/
import Derived.WalkKit
import Derived.Laws.BitsAllLaws
import Derived.Laws.Bits64b
namespace Go.Proofs.YtjdeobifhgdffaaDoor
open Go.RowKit
set_option linter.unusedVariables false

/-- The two words of a lane. -/
def hiW (z : Nat) : Nat := z / 4294967296
def loW (z : Nat) : Nat := z % 4294967296

theorem hi_xor (a b : Nat) : hiW (a ^^^ b) = hiW a ^^^ hiW b := Nat.xor_div_two_pow (n := 32)
theorem lo_xor (a b : Nat) : loW (a ^^^ b) = loW a ^^^ loW b := Nat.xor_mod_two_pow (n := 32)
theorem hi_and (a b : Nat) : hiW (a &&& b) = hiW a &&& hiW b := Nat.and_div_two_pow (n := 32)
theorem lo_and (a b : Nat) : loW (a &&& b) = loW a &&& loW b := Nat.and_mod_two_pow (n := 32)

theorem hi_lt (a : Nat) (h : a < 18446744073709551616) : hiW a < 4294967296 := by unfold hiW; omega
theorem lo_lt (a : Nat) : loW a < 4294967296 := by unfold loW; omega
theorem hi_not (a : Nat) (h : a < 18446744073709551616) : hiW (18446744073709551615 - a) = 4294967295 - hiW a := by unfold hiW; omega
theorem lo_not (a : Nat) (h : a < 18446744073709551616) : loW (18446744073709551615 - a) = 4294967295 - loW a := by unfold loW; omega

theorem lane_eq (a : Nat) : hiW a * 4294967296 + loW a = a := by unfold hiW loW; omega

/-- A lane turned by n bits. -/
def rotL (a n : Nat) : Nat := a * 2 ^ n % 18446744073709551616 + a / 2 ^ (64 - n)

theorem pow_split (n m : Nat) : 2 ^ (n + m) = 2 ^ n * 2 ^ m := Nat.pow_add 2 n m

theorem rot_words (h l P Q : Nat) (hP : P * Q = 4294967296) (hP0 : 0 < P) (hQ0 : 0 < Q) (hh : h < 4294967296) (hl : l < 4294967296) :
    (h * 4294967296 + l) * P % 18446744073709551616 + (h * 4294967296 + l) / (4294967296 * Q) = (h * P % 4294967296 + l / Q) * 4294967296 + (l * P % 4294967296 + h / Q) := by
  have e1 : h * P / 4294967296 = h / Q := by rw [← hP, Nat.mul_comm h P]; exact Nat.mul_div_mul_left h Q hP0
  have e2 : l * P / 4294967296 = l / Q := by rw [← hP, Nat.mul_comm l P]; exact Nat.mul_div_mul_left l Q hP0
  have e3 : (h * 4294967296 + l) / (4294967296 * Q) = h / Q := by
    rw [← Nat.div_div_eq_div_mul]
    congr 1
    omega
  have e4 : (h * 4294967296 + l) * P = h * P * 4294967296 + l * P := by rw [Nat.add_mul]; congr 1; rw [Nat.mul_right_comm]
  rw [e3, e4]
  have d1 := Nat.div_add_mod (h * P) 4294967296
  have d2 := Nat.div_add_mod (l * P) 4294967296
  rw [e1] at d1
  rw [e2] at d2
  have q1 : l / Q < P := by
    rw [Nat.div_lt_iff_lt_mul hQ0, hP]; exact hl
  -- r of h is a multiple of P
  have r1 : h * P % 4294967296 = P * (h % Q) := by rw [← hP, Nat.mul_comm h P, Nat.mul_mod_mul_left]
  have r2 : P * (h % Q) + P ≤ 4294967296 := by
    have hm : h % Q + 1 ≤ Q := Nat.mod_lt h hQ0
    have := Nat.mul_le_mul_left P hm
    rw [hP, Nat.mul_add] at this
    omega
  rw [r1] at d1 ⊢
  generalize P * (h % Q) = R at *
  generalize l * P % 4294967296 = R' at *
  have hR' : R' < 4294967296 := by
    rw [show R' = l * P - 4294967296 * (l / Q) by omega]
    have := Nat.mod_lt (l * P) (show 0 < 4294967296 by decide)
    omega
  generalize h * P = HP at *
  generalize l * P = LP at *
  generalize h / Q = A at *
  generalize l / Q = B at *
  omega

theorem rot_parts (a n : Nat) (ha : a < 18446744073709551616) (hn : n ≤ 31) (hn1 : 1 ≤ n) :
    rotL a n = (hiW a * 2 ^ n % 4294967296 + loW a / 2 ^ (32 - n)) * 4294967296 + (loW a * 2 ^ n % 4294967296 + hiW a / 2 ^ (32 - n)) := by
  have hP : 2 ^ n * 2 ^ (32 - n) = 4294967296 := by rw [← pow_split, show n + (32 - n) = 32 by omega]
  have := rot_words (hiW a) (loW a) (2 ^ n) (2 ^ (32 - n)) hP (Nat.two_pow_pos _) (Nat.two_pow_pos _) (hi_lt a ha) (lo_lt a)
  rw [lane_eq] at this
  unfold rotL
  rw [show 64 - n = 32 + (32 - n) by omega, pow_split]
  exact this

theorem word_sum (h l P Q : Nat) (hP : P * Q = 4294967296) (hP0 : 0 < P) (hQ0 : 0 < Q) (hl : l < 4294967296) : h * P % 4294967296 + l / Q < 4294967296 := by
  have q1 : l / Q < P := by rw [Nat.div_lt_iff_lt_mul hQ0, hP]; exact hl
  have r1 : h * P % 4294967296 = P * (h % Q) := by rw [← hP, Nat.mul_comm h P, Nat.mul_mod_mul_left]
  have r2 : P * (h % Q) + P ≤ 4294967296 := by
    have hm : h % Q + 1 ≤ Q := Nat.mod_lt h hQ0
    have := Nat.mul_le_mul_left P hm
    rw [hP, Nat.mul_add] at this
    omega
  omega

theorem rot_small (a n : Nat) (ha : a < 18446744073709551616) (hn : n ≤ 31) (hn1 : 1 ≤ n) :
    hiW (rotL a n) = hiW a * 2 ^ n % 4294967296 + loW a / 2 ^ (32 - n) ∧ loW (rotL a n) = loW a * 2 ^ n % 4294967296 + hiW a / 2 ^ (32 - n) := by
  have hP : 2 ^ n * 2 ^ (32 - n) = 4294967296 := by rw [← pow_split, show n + (32 - n) = 32 by omega]
  rw [rot_parts a n ha hn hn1]
  have w1 := word_sum (hiW a) (loW a) _ _ hP (Nat.two_pow_pos _) (Nat.two_pow_pos _) (lo_lt a)
  have w2 := word_sum (loW a) (hiW a) _ _ hP (Nat.two_pow_pos _) (Nat.two_pow_pos _) (hi_lt a ha)
  generalize hiW a * 2 ^ n % 4294967296 + loW a / 2 ^ (32 - n) = A at *
  generalize loW a * 2 ^ n % 4294967296 + hiW a / 2 ^ (32 - n) = B at *
  unfold hiW loW
  omega

theorem rot_lt (a n : Nat) (ha : a < 18446744073709551616) (hn : n ≤ 63) : rotL a n < 18446744073709551616 := by
  have hP : 2 ^ (64 - n) * 2 ^ n = 18446744073709551616 := by rw [← pow_split, show (64 - n) + n = 64 by omega]
  have q : a / 2 ^ (64 - n) < 2 ^ n := by rw [Nat.div_lt_iff_lt_mul (Nat.two_pow_pos _), Nat.mul_comm, hP]; exact ha
  have r1 : a * 2 ^ n % 18446744073709551616 = 2 ^ n * (a % 2 ^ (64 - n)) := by rw [← hP, Nat.mul_comm (2 ^ (64 - n)), Nat.mul_comm a, Nat.mul_mod_mul_left]
  have r2 : 2 ^ n * (a % 2 ^ (64 - n)) + 2 ^ n ≤ 18446744073709551616 := by
    have hm : a % 2 ^ (64 - n) + 1 ≤ 2 ^ (64 - n) := Nat.mod_lt a (Nat.two_pow_pos _)
    have := Nat.mul_le_mul_left (2 ^ n) hm
    rw [Nat.mul_comm (2 ^ n) (2 ^ (64 - n)), hP, Nat.mul_add] at this
    omega
  unfold rotL
  omega

theorem rot_zero (a : Nat) (ha : a < 18446744073709551616) : rotL a 0 = a := by
  unfold rotL
  have : a / 2 ^ (64 - 0) = 0 := Nat.div_eq_of_lt (by simpa using ha)
  omega

theorem rot_half (a : Nat) (ha : a < 18446744073709551616) : hiW (rotL a 32) = loW a ∧ loW (rotL a 32) = hiW a := by
  unfold rotL hiW loW
  simp only [show (2 : Nat) ^ 32 = 4294967296 by decide]
  omega

theorem rot_swap (h l : Nat) (hh : h < 4294967296) (hl : l < 4294967296) : rotL (h * 4294967296 + l) 32 = l * 4294967296 + h := by
  unfold rotL
  simp only [show (2 : Nat) ^ 32 = 4294967296 by decide]
  omega

theorem rot_big (a n : Nat) (ha : a < 18446744073709551616) (hn : n ≤ 31) (hn1 : 1 ≤ n) : rotL a (n + 32) = rotL (rotL a 32) n := by
  have hP : 2 ^ n * 2 ^ (32 - n) = 4294967296 := by rw [← pow_split, show n + (32 - n) = 32 by omega]
  have hh := hi_lt a ha
  have hl := lo_lt a
  have hs : rotL a 32 = loW a * 4294967296 + hiW a := by
    have := rot_swap (hiW a) (loW a) hh hl
    rwa [lane_eq] at this
  rw [hs]
  have h1 : hiW (loW a * 4294967296 + hiW a) = loW a := by unfold hiW loW at *; omega
  have h2 : loW (loW a * 4294967296 + hiW a) = hiW a := by unfold hiW loW at *; omega
  rw [rot_parts _ n (by omega) hn hn1, h1, h2]
  unfold rotL
  rw [show 64 - (n + 32) = 32 - n by omega, pow_split]
  have e : a * (2 ^ n * 2 ^ 32) % 18446744073709551616 = (loW a * 2 ^ n % 4294967296) * 4294967296 := by
    have : a * (2 ^ n * 2 ^ 32) = (a * 2 ^ n) * 4294967296 := by rw [← Nat.mul_assoc]
    rw [this]
    have e2 : a * 2 ^ n % 4294967296 = loW a * 2 ^ n % 4294967296 := by unfold loW; rw [Nat.mod_mul_mod]
    generalize a * 2 ^ n = X at *
    omega
  rw [e]
  have e3 : a / 2 ^ (32 - n) = hiW a * 2 ^ n + loW a / 2 ^ (32 - n) := by
    conv => lhs; rw [← lane_eq a]
    rw [← hP, ← Nat.mul_assoc, Nat.mul_comm (hiW a * 2 ^ n), Nat.mul_add_div (Nat.two_pow_pos _)]
  rw [e3]
  have d := Nat.div_add_mod (hiW a * 2 ^ n) 4294967296
  have e5 : hiW a * 2 ^ n / 4294967296 = hiW a / 2 ^ (32 - n) := by rw [← hP, Nat.mul_comm (hiW a)]; exact Nat.mul_div_mul_left _ _ (Nat.two_pow_pos _)
  rw [e5] at d
  generalize hiW a * 2 ^ n % 4294967296 = R at *
  generalize hiW a * 2 ^ n = X at *
  generalize hiW a / 2 ^ (32 - n) = A at *
  generalize loW a / 2 ^ (32 - n) = B at *
  generalize loW a * 2 ^ n % 4294967296 = R' at *
  omega

end Go.Proofs.YtjdeobifhgdffaaDoor
