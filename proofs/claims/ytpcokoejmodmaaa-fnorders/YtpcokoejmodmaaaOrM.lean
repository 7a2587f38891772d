/- What is proved here: plain facts on the order of wide numbers and of their texts: the digits' order is the numbers', and texts tell it by their lengths and, where these are the same, sign by sign. -/
import Derived.Test.YtpcokoejmodmaaaWdL
import Derived.Test.YtpcokoejmodmaaaWtF
namespace Go.Proofs.Ytpcokoejmodmaaa
open Go.RowKit
set_option linter.unusedVariables false

/-- What the k lowest digits are worth. -/
def numD (d : Nat → Int) : Nat → Int
  | 0 => 0
  | k + 1 => numD d k + d k * 16 ^ k

/-- Which of two rows of digits is more, by the highest places first. -/
def cmpD (d e : Nat → Int) : Nat → Int
  | 0 => 0
  | k + 1 => if cmpI (d k) (e k) = 0 then cmpD d e k else cmpI (d k) (e k)

/-- Digits. -/
def Dg (d : Nat → Int) : Prop := ∀ p, 0 ≤ d p ∧ d p < 16

theorem pow16_pos (k : Nat) : (0 : Int) < 16 ^ k := Int.pow_pos (by decide)

theorem numD_range {d : Nat → Int} (h : Dg d) : ∀ k, 0 ≤ numD d k ∧ numD d k < 16 ^ k
  | 0 => by simp [numD]
  | k + 1 => by
    have ih := numD_range h k
    have hk := h k
    have hp := pow16_pos k
    have m1 : d k * 16 ^ k ≤ 15 * 16 ^ k := Int.mul_le_mul_of_nonneg_right (by omega) (Int.le_of_lt hp)
    have m0 : 0 ≤ d k * 16 ^ k := Int.mul_nonneg hk.1 (Int.le_of_lt hp)
    have e : (16 : Int) ^ (k + 1) = 16 ^ k * 16 := Int.pow_succ _ _
    rw [numD, e]
    generalize d k * 16 ^ k = p at m0 m1
    generalize (16 : Int) ^ k = q at ih m1 hp
    omega

theorem cmpD_num {d e : Nat → Int} (hA : Dg d) (hB : Dg e) : ∀ k, cmpD d e k = cmpI (numD d k) (numD e k)
  | 0 => by simp [cmpD, numD, cmpI]
  | k + 1 => by
    have ih := cmpD_num hA hB k
    have ra := numD_range hA k
    have rb := numD_range hB k
    have hp := pow16_pos k
    rw [numD, numD]
    rcases Int.lt_trichotomy (d k) (e k) with h | h | h
    · have m : (d k + 1) * 16 ^ k ≤ e k * 16 ^ k := Int.mul_le_mul_of_nonneg_right (by omega) (Int.le_of_lt hp)
      rw [Int.add_mul, Int.one_mul] at m
      rw [cmpD, cmpI_less h, if_neg (by decide), cmpI_less]
      omega
    · rw [cmpD, h, if_pos (cmpI_same (Int.lt_irrefl _) (Int.lt_irrefl _)), ih]
      unfold cmpI
      generalize e k * 16 ^ k = p
      have e1 : (numD d k + p < numD e k + p) ↔ (numD d k < numD e k) := by omega
      have e2 : (numD e k + p < numD d k + p) ↔ (numD e k < numD d k) := by omega
      simp only [e1, e2]
    · have m : (e k + 1) * 16 ^ k ≤ d k * 16 ^ k := Int.mul_le_mul_of_nonneg_right (by omega) (Int.le_of_lt hp)
      rw [Int.add_mul, Int.one_mul] at m
      rw [cmpD, cmpI_more h, if_neg (by decide), cmpI_more]
      omega

theorem limb_digits (x : Int) (h0 : 0 ≤ x) (h1 : x ≤ 4294967295) : x = x / 2 ^ (4 * 0) % 16 * 16 ^ 0 + x / 2 ^ (4 * 1) % 16 * 16 ^ 1 + x / 2 ^ (4 * 2) % 16 * 16 ^ 2 + x / 2 ^ (4 * 3) % 16 * 16 ^ 3 + x / 2 ^ (4 * 4) % 16 * 16 ^ 4 + x / 2 ^ (4 * 5) % 16 * 16 ^ 5 + x / 2 ^ (4 * 6) % 16 * 16 ^ 6 + x / 2 ^ (4 * 7) % 16 * 16 ^ 7 := by
  rw [show (2 : Int) ^ (4 * 0) = 1 from rfl, show (2 : Int) ^ (4 * 1) = 16 from rfl, show (2 : Int) ^ (4 * 2) = 256 from rfl, show (2 : Int) ^ (4 * 3) = 4096 from rfl, show (2 : Int) ^ (4 * 4) = 65536 from rfl, show (2 : Int) ^ (4 * 5) = 1048576 from rfl, show (2 : Int) ^ (4 * 6) = 16777216 from rfl, show (2 : Int) ^ (4 * 7) = 268435456 from rfl,
    show (16 : Int) ^ 0 = 1 from rfl, show (16 : Int) ^ 1 = 16 from rfl, show (16 : Int) ^ 2 = 256 from rfl, show (16 : Int) ^ 3 = 4096 from rfl, show (16 : Int) ^ 4 = 65536 from rfl, show (16 : Int) ^ 5 = 1048576 from rfl, show (16 : Int) ^ 6 = 16777216 from rfl, show (16 : Int) ^ 7 = 268435456 from rfl]
  omega

theorem dig_at (xs : List Int) (m q : Nat) (hq : q < 8) : dig xs (8 * m + q) = xs.getD m 0 / 2 ^ (4 * q) % 16 := by
  unfold dig
  rw [show (8 * m + q) / 8 = m by omega, show (8 * m + q) % 8 = q by omega]

theorem numD_W {xs : List Int} (h : Wd xs) : ∀ m, numD (dig xs) (8 * m) = numW xs m
  | 0 => rfl
  | m + 1 => by
    have ih := numD_W h m
    have hx := h m
    have hl := limb_digits (xs.getD m 0) hx.1 hx.2
    have hP : ∀ q, (16 : Int) ^ (8 * m + q) = 16 ^ q * 4294967296 ^ m := fun q => by
      rw [Int.pow_add, Int.pow_mul, show (16 : Int) ^ 8 = 4294967296 from rfl, Int.mul_comm]
    have e : numD (dig xs) (8 * (m + 1)) = numD (dig xs) (8 * m) + dig xs (8 * m + 0) * 16 ^ (8 * m + 0) + dig xs (8 * m + 1) * 16 ^ (8 * m + 1) + dig xs (8 * m + 2) * 16 ^ (8 * m + 2) + dig xs (8 * m + 3) * 16 ^ (8 * m + 3) + dig xs (8 * m + 4) * 16 ^ (8 * m + 4) + dig xs (8 * m + 5) * 16 ^ (8 * m + 5) + dig xs (8 * m + 6) * 16 ^ (8 * m + 6) + dig xs (8 * m + 7) * 16 ^ (8 * m + 7) := rfl
    rw [e, ih, numW, dig_at xs m 0 (by omega), dig_at xs m 1 (by omega), dig_at xs m 2 (by omega), dig_at xs m 3 (by omega), dig_at xs m 4 (by omega), dig_at xs m 5 (by omega), dig_at xs m 6 (by omega), dig_at xs m 7 (by omega)]
    rw [hP 0, hP 1, hP 2, hP 3, hP 4, hP 5, hP 6, hP 7]
    generalize (4294967296 : Int) ^ m = P
    have hm := congrArg (fun z => z * P) hl
    simp only [Int.add_mul, Int.mul_assoc] at hm
    rw [hm]
    simp only [Int.add_assoc]

/-- The order of limbs is that of the digits. -/
theorem cmpW_dig {xs ys : List Int} (hx : Wd xs) (hy : Wd ys) : cmpW xs ys 8 = cmpD (dig xs) (dig ys) 64 := by
  rw [cmpW_num hx hy, cmpD_num (dig_range xs) (dig_range ys), ← numD_W hx 8, ← numD_W hy 8]

/-- Beyond the digits that are shown there are zeros. -/
theorem cnt_above (d : Nat → Int) : ∀ k p, cnt d k ≤ p → p < k → d p = 0
  | 0, p, _, h => by omega
  | k + 1, p, h1, h2 => by
    by_cases hz : k ≠ 0 ∧ d k = 0
    · rw [cnt, if_pos hz] at h1
      by_cases hp : p = k
      · rw [hp]; exact hz.2
      · exact cnt_above d k p h1 (by omega)
    · rw [cnt, if_neg hz] at h1
      omega

/-- The highest digit that is shown is not 0, but where it is the only one. -/
theorem cnt_top (d : Nat → Int) : ∀ k, 1 < cnt d k → d (cnt d k - 1) ≠ 0
  | 0, h => by simp [cnt] at h
  | k + 1, h => by
    by_cases hz : k ≠ 0 ∧ d k = 0
    · rw [cnt, if_pos hz] at h ⊢
      exact cnt_top d k h
    · rw [cnt, if_neg hz] at h ⊢
      intro e
      exact hz ⟨by omega, by simpa using e⟩

theorem cmpD_drop (d e : Nat → Int) (c : Nat) : ∀ k, c ≤ k → (∀ p, c ≤ p → p < k → d p = e p) → cmpD d e k = cmpD d e c
  | 0, h, _ => by rw [Nat.le_zero.1 h]
  | k + 1, h, hs => by
    by_cases hc : c = k + 1
    · rw [hc]
    · rw [cmpD, hs k (by omega) (by omega), if_pos (cmpI_same (Int.lt_irrefl _) (Int.lt_irrefl _))]
      exact cmpD_drop d e c k (by omega) (fun p h1 h2 => hs p h1 (by omega))

/-- A shorter text is a less number. -/
theorem cnt_less {d e : Nat → Int} (hd : Dg d) (he : Dg e) (h : cnt d 64 < cnt e 64) : cmpD d e 64 = -1 := by
  have h1 := cnt_pos d 64 (by omega)
  have h2 := cnt_le e 64
  obtain ⟨c, hc⟩ : ∃ c, cnt e 64 = c + 1 := ⟨cnt e 64 - 1, by omega⟩
  have ht := cnt_top e 64 (by omega)
  rw [hc, Nat.add_sub_cancel] at ht
  have hz := cnt_above d 64 c (by omega) (by omega)
  rw [cmpD_drop d e (c + 1) 64 (by omega) (fun p a b => by rw [cnt_above d 64 p (by omega) b, cnt_above e 64 p (by omega) b]), cmpD]
  have hl : d c < e c := by have := he c; omega
  rw [cmpI_less hl, if_neg (by decide)]

theorem cmpD_swap (d e : Nat → Int) : ∀ k, cmpD d e k = - cmpD e d k
  | 0 => rfl
  | k + 1 => by
    have ih := cmpD_swap d e k
    rw [cmpD, cmpD]
    rcases Int.lt_trichotomy (d k) (e k) with h | h | h
    · rw [cmpI_less h, cmpI_more h]; rfl
    · rw [h, if_pos (cmpI_same (Int.lt_irrefl _) (Int.lt_irrefl _)), if_pos (cmpI_same (Int.lt_irrefl _) (Int.lt_irrefl _))]; exact ih
    · rw [cmpI_more h, cmpI_less h]; rfl

theorem hd_mono {u v : Int} (hu : 0 ≤ u ∧ u < 16) (hv : 0 ≤ v ∧ v < 16) : (hd u < hd v ↔ u < v) ∧ (hd u = hd v ↔ u = v) := by
  unfold hd
  split <;> split <;> omega

/-- Whether a list of signs comes ahead of another one. -/
def lexL : List Int → List Int → Bool
  | [], [] => false
  | [], _ :: _ => true
  | _ :: _, [] => false
  | x :: xs, y :: ys => if x < y then true else if y < x then false else lexL xs ys

/-- Texts of one length tell the order sign by sign. -/
theorem lex_dn {d e : Nat → Int} (hd' : Dg d) (he : Dg e) : ∀ k, lexL (dn d k) (dn e k) = decide (cmpD d e k < 0)
  | 0 => rfl
  | k + 1 => by
    have ih := lex_dn hd' he k
    have m := hd_mono (hd' k) (he k)
    have m' := hd_mono (he k) (hd' k)
    rw [dn, dn, lexL, cmpD]
    rcases Int.lt_trichotomy (d k) (e k) with h | h | h
    · rw [if_pos (m.1.2 h), cmpI_less h, if_neg (by decide)]; rfl
    · rw [if_neg (fun a => absurd (m.1.1 a) (by omega)), if_neg (fun a => absurd (m'.1.1 a) (by omega)), h, if_pos (cmpI_same (Int.lt_irrefl _) (Int.lt_irrefl _)), ih]
    · rw [if_neg (fun a => absurd (m.1.1 a) (by omega)), if_pos (m'.1.2 h), cmpI_more h, if_neg (by decide)]; rfl

/-- The same signs, the same digits. -/
theorem dn_same {d e : Nat → Int} (hd' : Dg d) (he : Dg e) : ∀ k, dn d k = dn e k ↔ cmpD d e k = 0
  | 0 => by simp [dn, cmpD]
  | k + 1 => by
    have ih := dn_same hd' he k
    have m := hd_mono (hd' k) (he k)
    rw [dn, dn, cmpD, List.cons.injEq]
    rcases Int.lt_trichotomy (d k) (e k) with h | h | h
    · rw [cmpI_less h, if_neg (by decide)]
      exact ⟨fun a => absurd (m.2.1 a.1) (by omega), fun a => absurd a (by decide)⟩
    · rw [h, if_pos (cmpI_same (Int.lt_irrefl _) (Int.lt_irrefl _)), ih]
      exact ⟨fun a => a.2, fun a => ⟨rfl, a⟩⟩
    · rw [cmpI_more h, if_neg (by decide)]
      exact ⟨fun a => absurd (m.2.1 a.1) (by omega), fun a => absurd a (by decide)⟩

/-- Where the lengths are the same, the order is that of the digits shown. -/
theorem cnt_same {d e : Nat → Int} (h : cnt d 64 = cnt e 64) : cmpD d e 64 = cmpD d e (cnt d 64) :=
  cmpD_drop d e (cnt d 64) 64 (cnt_le d 64) (fun p a b => by rw [cnt_above d 64 p a b, cnt_above e 64 p (by omega) b])

end Go.Proofs.Ytpcokoejmodmaaa
