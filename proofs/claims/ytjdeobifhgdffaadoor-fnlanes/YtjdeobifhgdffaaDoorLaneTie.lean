/- What is proved here: the model's turning of a lane by words is the turning of its 64 bits. -/
import Derived.Test.YtjdeobifhgdffaaDoorTurn
import Derived.Test.YtjdeobifhgdffaaDoorLaneMath
namespace Go.Proofs.YtjdeobifhgdffaaDoor
open Go.RowKit
set_option linter.unusedVariables false

theorem turnW_nat (h l n m : Nat) : turnW (h : Int) (l : Int) (2 ^ n) (2 ^ m) = ((h * 2 ^ n % 4294967296 + l / 2 ^ m : Nat) : Int) := by
  unfold turnW
  simp

theorem turn_tie (a n : Nat) (ha : a < 18446744073709551616) (hn : n ≤ 63) : laneTurn (hiW a : Int) (loW a : Int) (n : Int) = ((hiW (rotL a n) : Int), (loW (rotL a n) : Int)) := by
  unfold laneTurn
  by_cases h0 : n = 0
  · subst h0
    rw [rot_zero a ha]
    rfl
  · rw [if_neg (by omega)]
    by_cases h1 : n < 32
    · rw [if_pos (by omega), Int.toNat_natCast, show (32 - (n : Int)).toNat = 32 - n by omega, turnW_nat, turnW_nat]
      have := rot_small a n ha (by omega) (by omega)
      rw [this.1, this.2]
    · rw [if_neg (by omega)]
      by_cases h2 : n = 32
      · subst h2
        rw [if_pos (by omega), (rot_half a ha).1, (rot_half a ha).2]
      · rw [if_neg (by omega)]
        obtain ⟨m, rfl⟩ : ∃ m, n = m + 32 := ⟨n - 32, by omega⟩
        rw [show (((m + 32 : Nat) : Int) - 32).toNat = m by omega, show (32 - (((m + 32 : Nat) : Int) - 32)).toNat = 32 - m by omega, turnW_nat, turnW_nat]
        rw [rot_big a m ha (by omega) (by omega)]
        have := rot_small (rotL a 32) m (rot_lt a 32 ha (by omega)) (by omega) (by omega)
        rw [this.1, this.2, (rot_half a ha).1, (rot_half a ha).2]

theorem hi_join (h l : Nat) (hl : l < 4294967296) : hiW (h * 4294967296 + l) = h := by unfold hiW; omega
theorem lo_join (h l : Nat) (hl : l < 4294967296) : loW (h * 4294967296 + l) = l := by unfold loW; omega

end Go.Proofs.YtjdeobifhgdffaaDoor
