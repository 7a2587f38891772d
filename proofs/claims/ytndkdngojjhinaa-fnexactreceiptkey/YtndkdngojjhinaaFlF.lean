/- What is proved here: a whole number below 2^53 is the same behind float64 and back; no program is named. -/
import Derived.Laws.FloatArith
import Derived.KernelRfl
namespace Go.Proofs.Ytndkdngojjhinaa
open Go.RowKit
set_option linter.unusedVariables false
set_option maxRecDepth 100000

theorem cut_none (n : Nat) (neg : Bool) : Ieee.Toward.even.cut neg n 0 = n := by
  unfold Ieee.Toward.cut
  have h0 : (1 : Nat) <<< min 0 (n.log2 + 2) = 1 := by rw [Nat.zero_min]; rfl
  simp only [h0, Nat.div_one, Nat.mod_one, Nat.mul_zero]
  have a2 : ((1 : Nat) == 0) = false := rfl
  simp [a2]

theorem cut_zero (n d : Nat) (hd : d ≤ n.log2 + 2) : Ieee.Toward.zero.cut false n d = n / 2 ^ d := by
  unfold Ieee.Toward.cut
  have h0 : (1 : Nat) <<< min d (n.log2 + 2) = 2 ^ d := by rw [Nat.min_eq_left hd, Nat.one_shiftLeft]
  simp only [h0]
  rfl

theorem log2_unique {n L : Nat} (h0 : 2 ^ L ≤ n) (h1 : n < 2 ^ (L + 1)) : n.log2 = L := by
  have hn : n ≠ 0 := by have := Nat.two_pow_pos L; omega
  have a := (Nat.le_log2 hn).2 h0
  have b := (Nat.log2_lt hn).2 h1
  omega

theorem f64_word (n : Nat) (h0 : 0 < n) (h : n < 2 ^ 53) : ∃ L, L ≤ 52 ∧ n * 2 ^ (52 - L) < 2 ^ 53 ∧ 2 ^ 52 ≤ n * 2 ^ (52 - L) ∧ (FloatKind.f64).nearest (n : Int) = (L + 1022) * 2 ^ 52 + n * 2 ^ (52 - L) := by
  have hn : n ≠ 0 := by omega
  have hL : n.log2 < 53 := (Nat.log2_lt hn).2 h
  obtain ⟨L, hLe⟩ : ∃ L, n.log2 = L := ⟨_, rfl⟩
  have l0 : 2 ^ L ≤ n := by rw [← hLe]; exact Nat.log2_self_le hn
  have l1 : n < 2 ^ (L + 1) := by rw [← hLe]; exact Nat.lt_log2_self
  have hL52 : L ≤ 52 := by omega
  have e1 : 2 ^ L * 2 ^ (52 - L) = 2 ^ 52 := by rw [← Nat.pow_add, show L + (52 - L) = 52 by omega]
  have e2 : 2 ^ (L + 1) * 2 ^ (52 - L) = 2 ^ 53 := by rw [← Nat.pow_add, show L + 1 + (52 - L) = 53 by omega]
  have b1 : n * 2 ^ (52 - L) < 2 ^ 53 := by rw [← e2]; exact Nat.mul_lt_mul_of_pos_right l1 (Nat.two_pow_pos _)
  have b0 : 2 ^ 52 ≤ n * 2 ^ (52 - L) := by rw [← e1]; exact Nat.mul_le_mul_right _ l0
  refine ⟨L, hL52, b1, b0, ?_⟩
  unfold FloatKind.nearest FloatKind.encode FloatKind.format Ieee.Format.write
  simp only
  unfold Ieee.Format.nearest
  rw [if_neg (by simpa using hn)]
  have hneg : decide ((n : Int) < 0) = false := decide_eq_false (by omega)
  have hlp : Ieee.double.leastPlace = -1074 := by kernel_rfl
  have hfb : Ieee.double.fractionBits = 52 := rfl
  have hbi : Ieee.double.binade = 2 ^ 52 := rfl
  have hinf : Ieee.double.infRung = 2047 * 2 ^ 52 := by kernel_rfl
  simp only [hneg, hlp, hfb, hbi, hinf, Int.natAbs_natCast, hLe]
  have hlast : max ((0 : Int) + (L : Nat) - (52 : Nat)) (-1074) = (L : Int) - 52 := by omega
  rw [hlast]
  have t1 : ((0 : Int) - ((L : Int) - 52)).toNat = 52 - L := by omega
  have t2 : ((L : Int) - 52 - 0).toNat = 0 := by omega
  have t3 : ((L : Int) - 52 - -1074).toNat = L + 1022 := by omega
  rw [t1, t2, t3, cut_none, Nat.shiftLeft_eq]
  unfold Ieee.Format.word
  simp only [Bool.false_eq_true, if_false]
  rw [Nat.min_eq_left]
  omega

theorem dec_word (L m W : Nat) (hL : L ≤ 52) (b0 : 4503599627370496 ≤ m) (b1 : m < 9007199254740992) (hW : W = (L + 1022) * 4503599627370496 + m) : (FloatKind.f64).decode W = .number false m ((L : Int) - 52) := by
  unfold FloatKind.decode FloatKind.format Ieee.Format.read
  have hlp : Ieee.double.leastPlace = -1074 := by kernel_rfl
  have hbi : Ieee.double.binade = 4503599627370496 := by kernel_rfl
  have hinf : Ieee.double.infRung = 2047 * 4503599627370496 := by kernel_rfl
  have hsw : Ieee.double.signWeight = 9223372036854775808 := by kernel_rfl
  simp only [hlp, hbi, hinf, hsw]
  have d0 : W / 9223372036854775808 = 0 := Nat.div_eq_of_lt (by omega)
  have d1 : W % 9223372036854775808 = W := Nat.mod_eq_of_lt (by omega)
  have d2 : W / 4503599627370496 = L + 1023 := by omega
  have d3 : W % 4503599627370496 = m - 4503599627370496 := by omega
  rw [d0, d1, if_neg (by omega), if_pos (by omega), d2, d3]
  have f1 : 4503599627370496 + (m - 4503599627370496) = m := by omega
  have f2 : (-1074 : Int) + ((L + 1023 - 1 : Nat) : Int) = (L : Int) - 52 := by omega
  rw [f1, f2]
  rfl

theorem toInt_word (n L m : Nat) (hL : L ≤ 52) (hm : n * 2 ^ (52 - L) = m) (hlog : m.log2 = 52) : (Ieee.Datum.number false m ((L : Int) - 52)).toInt .zero = some (n : Int) := by
  unfold Ieee.Datum.toInt Ieee.Datum.integral
  have t1 : ((L : Int) - 52).toNat = 0 := by omega
  have t2 : (-((L : Int) - 52)).toNat = 52 - L := by omega
  simp only [t1, t2, Nat.shiftLeft_zero]
  rw [cut_zero m (52 - L) (by rw [hlog]; omega), ← hm, Nat.mul_div_cancel _ (Nat.two_pow_pos _)]
  simp only [Ieee.signed, Nat.shiftLeft_zero, Bool.false_eq_true, if_false]

theorem i64_in53 (n : Nat) (h : n < 9007199254740992) : IntKind.i64.min ≤ (n : Int) ∧ (n : Int) ≤ IntKind.i64.max := by
  have a : IntKind.i64.min = -9223372036854775808 := by kernel_rfl
  have b : IntKind.i64.max = 9223372036854775807 := by kernel_rfl
  rw [a, b]; omega

theorem log_word (m : Nat) (b0 : 2 ^ 52 ≤ m) (b1 : m < 2 ^ 53) : m.log2 = 52 := by
  have hm0 : m ≠ 0 := by omega
  have a := (Nat.le_log2 hm0).2 b0
  have b := (Nat.log2_lt hm0).2 b1
  omega

/-- A whole number is the same behind float64 and back. -/
theorem f64_back (n : Nat) (h : n < 9007199254740992) : floatToIntVal .f64 ((FloatKind.f64).nearest (n : Int)) .i64 = some (n : Int) := by
  by_cases h0 : n = 0
  · subst h0; kernel_rfl
  · obtain ⟨L, hL, b1, b0, e⟩ := f64_word n (by omega) (by omega)
    obtain ⟨m, hm⟩ : ∃ m, n * 2 ^ (52 - L) = m := ⟨_, rfl⟩
    rw [hm] at b1 b0 e
    have hlog := log_word m b0 b1
    obtain ⟨W, hW⟩ : ∃ W, (FloatKind.f64).nearest (n : Int) = W := ⟨_, rfl⟩
    rw [hW] at e
    have hd := dec_word L m W hL (by omega) (by omega) (by omega)
    have ht := toInt_word n L m hL hm hlog
    have hi := i64_in53 n h
    rw [hW]
    clear hW e b0 b1 hm hlog
    unfold floatToIntVal
    rw [hd, ht]
    exact if_pos hi

end Go.Proofs.Ytndkdngojjhinaa
