/- What is proved here: the model's xor and turning of lanes, told by their 64 bits. -/
import Derived.Test.YtjdeobifhgdffaaDoorLane
import Derived.Test.YtjdeobifhgdffaaDoorLaneTie
import Derived.Test.YtjdeobifhgdffaaDoorKMath
namespace Go.Proofs.YtjdeobifhgdffaaDoor
open Go.RowKit
set_option linter.unusedVariables false

theorem xorW_nat (a b : Nat) (ha : a < 4294967296) (hb : b < 4294967296) : xorW (a : Int) (b : Int) = ((a ^^^ b : Nat) : Int) := by
  have hx : a ^^^ b < 2 ^ 32 := Nat.xor_lt_two_pow (by omega) (by omega)
  show IntKind.i64.wrap ((BitVec.ofInt 64 (a : Int) ^^^ BitVec.ofInt 64 (b : Int)).toNat : Int) = _
  rw [BitVec.toNat_xor, ofInt_u64 a (by omega), ofInt_u64 b (by omega), IntKind.wrap_i64]
  omega

theorem andW_nat (a b : Nat) (ha : a < 4294967296) (hb : b < 4294967296) : bits .and .i64 (a : Int) (b : Int) = ((a &&& b : Nat) : Int) :=
  (bits_nat .i64 32 (by decide) (fun n h0 h1 => by rw [IntKind.wrap_i64]; omega) a b (by omega) (by omega)).1

theorem l2Xor_lane (a b : Nat) (ha : a < 18446744073709551616) (hb : b < 18446744073709551616) (w : World) :
    Calls Tryd.prog 53 #[.agg #[.int .i64 (hiW a : Int), .int .i64 (loW a : Int)], .agg #[.int .i64 (hiW b : Int), .int .i64 (loW b : Int)]] w
      fun e w' => e = .returned (.agg #[.int .i64 (hiW (a ^^^ b) : Int), .int .i64 (loW (a ^^^ b) : Int)]) ∧ Below w.heap.size w w' := by
  have h := l2Xor_any (hiW a : Int) (loW a : Int) (hiW b : Int) (loW b : Int) w
  rw [xorW_nat _ _ (hi_lt a ha) (hi_lt b hb), xorW_nat _ _ (lo_lt a) (lo_lt b), ← hi_xor, ← lo_xor] at h
  exact h

theorem l2Turn_lane (a n : Nat) (ha : a < 18446744073709551616) (hn : n ≤ 63) (w : World) :
    Calls Tryd.prog 44 #[.agg #[.int .i64 (hiW a : Int), .int .i64 (loW a : Int)], .int .i64 (n : Int)] w
      fun e w' => e = .returned (.agg #[.int .i64 (hiW (rotL a n) : Int), .int .i64 (loW (rotL a n) : Int)]) ∧ Below w.heap.size w w' := by
  have h1 := hi_lt a ha
  have h2 := lo_lt a
  have h := l2Turn_any (hiW a : Int) (loW a : Int) (n : Int) w (by omega) (by omega) (by omega) (by omega)
  rw [turn_tie a n ha hn] at h
  exact h

/-- The and of a complement with a lane, by words. -/
theorem chi_word_hi (p q : Nat) (hp : p < 18446744073709551616) (hq : q < 18446744073709551616) : bits .and .i64 (4294967295 - (hiW p : Int)) (hiW q : Int) = (hiW ((18446744073709551615 - p) &&& q) : Int) := by
  have h1 := hi_lt p hp
  rw [show (4294967295 - (hiW p : Int)) = ((4294967295 - hiW p : Nat) : Int) by omega, andW_nat _ _ (by omega) (hi_lt q hq), hi_and, hi_not p hp]

theorem chi_word_lo (p q : Nat) (hp : p < 18446744073709551616) : bits .and .i64 (4294967295 - (loW p : Int)) (loW q : Int) = (loW ((18446744073709551615 - p) &&& q) : Int) := by
  have h1 := lo_lt p
  rw [show (4294967295 - (loW p : Int)) = ((4294967295 - loW p : Nat) : Int) by omega, andW_nat _ _ (by omega) (lo_lt q), lo_and, lo_not p hp]

end Go.Proofs.YtjdeobifhgdffaaDoor
