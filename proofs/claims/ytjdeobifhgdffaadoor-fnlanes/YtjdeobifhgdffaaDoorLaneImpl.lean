/- What is proved here: the program's small functions on lanes: whether a number is a word, a lane of two words, its two words, a lane turned. -/
import Derived.Test.YtjdeobifhgdffaaDoorChecked
import Derived.Test.YtjdeobifhgdffaaDoorBase
import Derived.Test.YtjdeobifhgdffaaDoorTurn
import Derived.Test.YtjdeobifhgdffaaDoorTurnSpec
import Derived.Test.YtjdeobifhgdffaaDoorLaneMath
import Derived.WalkKit
import Derived.WalkLawsBesides
import Derived.WalkSmall
import Derived.WalkSpells
import Derived.RegionTactic
import Derived.BigRegion
import Derived.Laws.BitsAllLaws
import Derived.KernelRfl
namespace Go.Proofs.YtjdeobifhgdffaaDoor
open Go.RowKit
set_option linter.unusedVariables false

set_option maxHeartbeats 1000000 in
theorem isWord_any (n : Int) (w : World) : Calls Tryd.prog 37 #[.int .i64 n] w fun e w' => e = .returned (.bool (isWord n)) ∧ w' = w := by
  by_cases h0 : 0 ≤ n
  · by_cases h1 : n ≤ 4294967295
    · have e0 : decide (0 ≤ n) = true := decide_eq_true h0
      have e1 : decide (n ≤ 4294967295) = true := decide_eq_true h1
      go_enter Tryd.func37, Tryd.ntmps37
      go_wp2
      go_ret
      exact ⟨ret_bool (by simp [isWord, h0, h1]), rfl⟩
    · have e0 : decide (0 ≤ n) = true := decide_eq_true h0
      have e1 : decide (n ≤ 4294967295) = false := decide_eq_false h1
      go_enter Tryd.func37, Tryd.ntmps37
      go_wp2
      go_ret
      exact ⟨ret_bool (by simp [isWord, h0, h1]), rfl⟩
  · have e0 : decide (0 ≤ n) = false := decide_eq_false h0
    go_enter Tryd.func37, Tryd.ntmps37
    go_wp2
    go_ret
    exact ⟨ret_bool (by rw [isWord, decide_eq_false (by omega)]), rfl⟩

theorem wraps_u64 (n : Int) (h₀ : 0 ≤ n) (h₁ : n < 2 ^ 64) : IntKind.u64.wrap n = n := by rw [IntKind.wrap_u64]; omega

theorem or_join (x y : Nat) (i : Nat) (hx : x % 2 ^ i = 0) (hy : y < 2 ^ i) (hs : x < 18446744073709551616) (hy2 : y < 18446744073709551616) : bits .or .u64 (x : Int) (y : Int) = ((x + y : Nat) : Int) := by
  have := bits_join .u64 64 (by decide) wraps_u64 i (x : Int) (y : Int) (by omega) (by exact_mod_cast hx) (by omega) (by omega) (by exact_mod_cast hy) (by omega)
  rw [this]; simp

set_option maxHeartbeats 1000000 in
theorem laneOf_any (h l : Nat) (hh : h < 4294967296) (hl : l < 4294967296) (w : World) :
    Calls Tryd.prog 39 #[.int .i64 (h : Int), .int .i64 (l : Int)] w fun e w' => e = .returned (.int .u64 ((h * 4294967296 + l : Nat) : Int)) ∧ w' = w := by
  go_enter Tryd.func39, Tryd.ntmps39
  go_wp2_with fail
  go_ret
  refine ⟨ret_int ?_, rfl⟩
  have := or_join (h * 4294967296) l 32 (by omega) (by omega) (by omega) (by omega)
  rw [← this]; simp

set_option maxHeartbeats 1000000 in
theorem highWord_any (a : Nat) (ha : a < 18446744073709551616) (w : World) :
    Calls Tryd.prog 40 #[.int .u64 (a : Int)] w fun e w' => e = .returned (.int .i64 (hiW a : Int)) ∧ w' = w := by
  go_enter Tryd.func40, Tryd.ntmps40
  go_wp2_with fail
  go_ret
  refine ⟨ret_int ?_, rfl⟩
  simp [hiW]

set_option maxHeartbeats 1000000 in
theorem lowWord_any (a : Nat) (ha : a < 18446744073709551616) (w : World) :
    Calls Tryd.prog 41 #[.int .u64 (a : Int)] w fun e w' => e = .returned (.int .i64 (loW a : Int)) ∧ w' = w := by
  go_enter Tryd.func41, Tryd.ntmps41
  go_wp2_with fail
  go_ret
  refine ⟨ret_int ?_, rfl⟩
  have e : bits .and .u64 (a : Int) 4294967295 = (loW a : Int) := by
    have := bits_mask .u64 64 (by decide) wraps_u64 32 (by decide) (a : Int) (by omega) (by omega)
    rw [show (2 : Int) ^ 32 - 1 = 4294967295 by decide] at this
    rw [this, show (2 : Int) ^ 32 = 4294967296 by decide]
    simp [loW]
  have hl := lo_lt a
  rw [e]
  exact IntWalk.wrap64_in _ ⟨by omega, by omega⟩

set_option maxHeartbeats 1000000 in
theorem rotl_any (a n : Nat) (ha : a < 18446744073709551616) (hn : n ≤ 63) (w : World) :
    Calls Tryd.prog 38 #[.int .u64 (a : Int), .int .i64 (n : Int)] w fun e w' => e = .returned (.int .u64 (rotL a n : Int)) ∧ w' = w := by
  have hm : bits .and .u64 (n : Int) 63 = (n : Int) := by
    have := bits_mask .u64 64 (by decide) wraps_u64 6 (by decide) (n : Int) (by omega) (by omega)
    rw [show (2 : Int) ^ 6 - 1 = 63 by decide] at this
    rw [this, show (2 : Int) ^ 6 = 64 by decide]
    omega
  go_enter Tryd.func38, Tryd.ntmps38
  go_wp2_with fail
  go_ret
  refine ⟨ret_int ?_, rfl⟩
  have hP : 2 ^ (64 - n) * 2 ^ n = 18446744073709551616 := by rw [← pow_split, show (64 - n) + n = 64 by omega]
  have q : a / 2 ^ (64 - n) < 2 ^ n := by rw [Nat.div_lt_iff_lt_mul (Nat.two_pow_pos _), Nat.mul_comm, hP]; exact ha
  have r1 : a * 2 ^ n % 18446744073709551616 % 2 ^ n = 0 := by
    rw [← hP, Nat.mod_mul_left_mod]; exact Nat.mul_mod_left _ _
  have := or_join (a * 2 ^ n % 18446744073709551616) (a / 2 ^ (64 - n)) n r1 q (by omega) (Nat.lt_of_le_of_lt (Nat.div_le_self _ _) ha)
  rw [IntKind.wrap_u64]
  unfold rotL
  rw [← this]
  simp

end Go.Proofs.YtjdeobifhgdffaaDoor
