/- What is proved here: plain facts on the digits of a wide number: which of them its text shows. -/
import Derived.Test.YtpcokoejmodmaaaBase
import Derived.Test.YtpcokoejmodmaaaHexEnc
import Derived.Test.YtpcokoejmodmaaaWdA
namespace Go.Proofs.Ytpcokoejmodmaaa
open Go.RowKit
set_option linter.unusedVariables false

/-- The digit at a place, counted from the lowest one on. -/
def dig (xs : List Int) (p : Nat) : Int := xs.getD (p / 8) 0 / 2 ^ (4 * (p % 8)) % 16

theorem dig_range (xs : List Int) (p : Nat) : 0 ≤ dig xs p ∧ dig xs p < 16 := by unfold dig; omega

/-- How many digits are shown, of so many lowest ones. -/
def cnt (d : Nat → Int) : Nat → Nat
  | 0 => 0
  | k + 1 => if k ≠ 0 ∧ d k = 0 then cnt d k else k + 1

/-- So many lowest digits as signs, the highest one first. -/
def dn (d : Nat → Int) : Nat → List Int
  | 0 => []
  | k + 1 => hd (d k) :: dn d k

theorem dn_length (d : Nat → Int) : ∀ k, (dn d k).length = k
  | 0 => rfl
  | k + 1 => by simp [dn, dn_length d k]

theorem cnt_le (d : Nat → Int) : ∀ k, cnt d k ≤ k
  | 0 => Nat.le_refl _
  | k + 1 => by
    have := cnt_le d k
    unfold cnt
    split <;> omega

theorem cnt_pos (d : Nat → Int) : ∀ k, 0 < k → 0 < cnt d k
  | 0, h => by omega
  | k + 1, _ => by
    unfold cnt
    split
    next h => exact cnt_pos d k (by omega)
    next h => omega

theorem cnt_zero (d : Nat → Int) (k : Nat) (h : 0 < k) (hz : d k = 0) : cnt d (k + 1) = cnt d k := by
  unfold cnt
  rw [if_pos ⟨by omega, hz⟩]
  cases k with
  | zero => omega
  | succ k => rw [cnt]

theorem cnt_stop (d : Nat → Int) (k : Nat) (h : k = 0 ∨ d k ≠ 0) : cnt d (k + 1) = k + 1 := by
  rw [cnt, if_neg]
  rintro ⟨h1, h2⟩
  rcases h with h | h
  · exact h1 h
  · exact h h2

theorem dn_at (d : Nat → Int) : ∀ (k i : Nat), i < k → (dn d k).getD i 0 = hd (d (k - 1 - i))
  | 0, i, h => by omega
  | k + 1, 0, h => by simp [dn]
  | k + 1, i + 1, h => by
    have := dn_at d k i (by omega)
    have e : k + 1 - 1 - (i + 1) = k - 1 - i := by omega
    rw [e, ← this]
    simp [dn]

theorem hd_zero {v : Int} (h0 : 0 ≤ v) (h1 : v < 16) : hd v = 48 ↔ v = 0 := by
  unfold hd
  split <;> omega

theorem dn_range (d : Nat → Int) (hr : ∀ p, 0 ≤ d p ∧ d p < 16) : ∀ k, ∀ x ∈ dn d k, 0 ≤ x ∧ x ≤ 255
  | 0, x, h => by simp [dn] at h
  | k + 1, x, h => by
    rcases List.mem_cons.1 h with rfl | h
    · exact hd_range _ (hr k).1 (hr k).2
    · exact dn_range d hr k x h

/-- What is shown in the end, some signs being shown and so many digits left. -/
def fin (d : Nat → Int) (acc : List Int) (m : Nat) : List Int :=
  if acc = [] then (if m = 0 then [48] else dn d (cnt d m)) else acc ++ dn d m

theorem fin_add (d : Nat → Int) (acc : List Int) (m : Nat) (h : acc ≠ [] ∨ d m ≠ 0) : fin d acc (m + 1) = fin d (acc ++ [hd (d m)]) m := by
  unfold fin
  rw [if_neg (show acc ++ [hd (d m)] ≠ [] by simp)]
  by_cases ha : acc = []
  · subst ha
    rw [if_pos rfl, if_neg (by omega), cnt_stop d m (by rcases h with h | h; exact absurd rfl h; exact .inr h)]
    rfl
  · rw [if_neg ha]
    simp [dn]

theorem fin_skip (d : Nat → Int) (m : Nat) (h : d m = 0) : fin d [] (m + 1) = fin d [] m := by
  unfold fin
  rw [if_pos rfl, if_pos rfl, if_neg (by omega)]
  by_cases hm : m = 0
  · subst hm
    rw [if_pos rfl, cnt_stop d 0 (.inl rfl)]
    simp [dn, h, hd]
  · rw [if_neg hm, cnt_zero d m (by omega) h]

theorem fin_start (d : Nat → Int) (m : Nat) (h : m ≠ 0) : fin d [] m = dn d (cnt d m) := by
  unfold fin
  rw [if_pos rfl, if_neg h]
theorem fin_none (d : Nat → Int) : fin d [] 0 = [48] := by
  unfold fin
  rw [if_pos rfl, if_pos rfl]
theorem fin_some (d : Nat → Int) (acc : List Int) (h : acc ≠ []) : fin d acc 0 = acc := by
  unfold fin
  rw [if_neg h]
  simp [dn]

/-- The code and the text of WideText. -/
def wtText (xs : List Int) : ByteArray := if wfCode xs = 0 then strOfNums (dn (dig xs) (cnt (dig xs) 64)) else strOfNums []

end Go.Proofs.Ytpcokoejmodmaaa
