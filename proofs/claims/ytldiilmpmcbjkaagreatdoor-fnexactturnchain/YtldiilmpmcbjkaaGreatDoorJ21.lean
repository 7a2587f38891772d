/- What is proved here: the model's turning of a lane by words is the turning of its 64 bits. -/
import Derived.Test.YtldiilmpmcbjkaaGreatDoorJ1
import Derived.BigRegion
import Derived.Test.YtldiilmpmcbjkaaGreatDoorChecked
import Derived.WalkKit
import Derived.WalkLawsBesides
import Derived.WalkSmall
import Derived.WalkSpells
import Derived.RegionTactic
import Derived.Laws.BitsLemmas
import Derived.KernelRfl
namespace Go.Proofs.YtldiilmpmcbjkaaGreatDoor
open Go.RowKit
set_option linter.unusedVariables false
set_option maxRecDepth 100000

theorem turnW_nat (h l n m : Nat) : turnW (h : Int) (l : Int) (2 ^ n) (2 ^ m) = ((h * 2 ^ n % 4294967296 + l / 2 ^ m : Nat) : Int) := by
  unfold turnW
  simp

theorem turn_tie (a n : Nat) (ha : a < 18446744073709551616) (hn : n ≤ 63) : laneTurn (hiW a : Int) (loW a : Int) (n : Int) = ((hiW (rotL a n) : Int), (loW (rotL a n) : Int)) := by
  unfold laneTurn
  by_cases h0 : n = 0
  · subst h0
    rw [rot_zero a ha]
    rfl
  · rw [if_neg (by omega)]
    by_cases h1 : n < 32
    · rw [if_pos (by omega), Int.toNat_natCast, show (32 - (n : Int)).toNat = 32 - n by omega, turnW_nat, turnW_nat]
      have := rot_small a n ha (by omega) (by omega)
      rw [this.1, this.2]
    · rw [if_neg (by omega)]
      by_cases h2 : n = 32
      · subst h2
        rw [if_pos (by omega), (rot_half a ha).1, (rot_half a ha).2]
      · rw [if_neg (by omega)]
        obtain ⟨m, rfl⟩ : ∃ m, n = m + 32 := ⟨n - 32, by omega⟩
        rw [show (((m + 32 : Nat) : Int) - 32).toNat = m by omega, show (32 - (((m + 32 : Nat) : Int) - 32)).toNat = 32 - m by omega, turnW_nat, turnW_nat]
        rw [rot_big a m ha (by omega) (by omega)]
        have := rot_small (rotL a 32) m (rot_lt a 32 ha (by omega)) (by omega) (by omega)
        rw [this.1, this.2, (rot_half a ha).1, (rot_half a ha).2]

theorem hi_join (h l : Nat) (hl : l < 4294967296) : hiW (h * 4294967296 + l) = h := by unfold hiW; omega
theorem lo_join (h l : Nat) (hl : l < 4294967296) : loW (h * 4294967296 + l) = l := by unfold loW; omega

end Go.Proofs.YtldiilmpmcbjkaaGreatDoor

/- What is proved here: the model's xor and turning of lanes, told by their 64 bits. -/
namespace Go.Proofs.YtldiilmpmcbjkaaGreatDoor
open Go.RowKit
set_option linter.unusedVariables false
set_option maxRecDepth 100000

theorem xorW_nat (a b : Nat) (ha : a < 4294967296) (hb : b < 4294967296) : xorW (a : Int) (b : Int) = ((a ^^^ b : Nat) : Int) := by
  have hx : a ^^^ b < 2 ^ 32 := Nat.xor_lt_two_pow (by omega) (by omega)
  show IntKind.i64.wrap ((BitVec.ofInt 64 (a : Int) ^^^ BitVec.ofInt 64 (b : Int)).toNat : Int) = _
  rw [BitVec.toNat_xor, ofInt_u64 a (by omega), ofInt_u64 b (by omega), IntKind.wrap_i64]
  omega

theorem andW_nat (a b : Nat) (ha : a < 4294967296) (hb : b < 4294967296) : bits .and .i64 (a : Int) (b : Int) = ((a &&& b : Nat) : Int) :=
  (bits_nat .i64 32 (by decide) (fun n h0 h1 => by rw [IntKind.wrap_i64]; omega) a b (by omega) (by omega)).1

theorem l2Xor_lane (a b : Nat) (ha : a < 18446744073709551616) (hb : b < 18446744073709551616) (w : World) :
    Calls Tryz.prog 101 #[.agg #[.int .i64 (hiW a : Int), .int .i64 (loW a : Int)], .agg #[.int .i64 (hiW b : Int), .int .i64 (loW b : Int)]] w
      fun e w' => e = .returned (.agg #[.int .i64 (hiW (a ^^^ b) : Int), .int .i64 (loW (a ^^^ b) : Int)]) ∧ Below w.heap.size w w' := by
  have h := l2Xor_any (hiW a : Int) (loW a : Int) (hiW b : Int) (loW b : Int) w
  rw [xorW_nat _ _ (hi_lt a ha) (hi_lt b hb), xorW_nat _ _ (lo_lt a) (lo_lt b), ← hi_xor, ← lo_xor] at h
  exact h

theorem l2Turn_lane (a n : Nat) (ha : a < 18446744073709551616) (hn : n ≤ 63) (w : World) :
    Calls Tryz.prog 140 #[.agg #[.int .i64 (hiW a : Int), .int .i64 (loW a : Int)], .int .i64 (n : Int)] w
      fun e w' => e = .returned (.agg #[.int .i64 (hiW (rotL a n) : Int), .int .i64 (loW (rotL a n) : Int)]) ∧ Below w.heap.size w w' := by
  have h1 := hi_lt a ha
  have h2 := lo_lt a
  have h := l2Turn_any (hiW a : Int) (loW a : Int) (n : Int) w (by omega) (by omega) (by omega) (by omega)
  rw [turn_tie a n ha hn] at h
  exact h

/-- The and of a complement with a lane, by words. -/
theorem chi_word_hi (p q : Nat) (hp : p < 18446744073709551616) (hq : q < 18446744073709551616) : bits .and .i64 (4294967295 - (hiW p : Int)) (hiW q : Int) = (hiW ((18446744073709551615 - p) &&& q) : Int) := by
  have h1 := hi_lt p hp
  rw [show (4294967295 - (hiW p : Int)) = ((4294967295 - hiW p : Nat) : Int) by omega, andW_nat _ _ (by omega) (hi_lt q hq), hi_and, hi_not p hp]

theorem chi_word_lo (p q : Nat) (hp : p < 18446744073709551616) : bits .and .i64 (4294967295 - (loW p : Int)) (loW q : Int) = (loW ((18446744073709551615 - p) &&& q) : Int) := by
  have h1 := lo_lt p
  rw [show (4294967295 - (loW p : Int)) = ((4294967295 - loW p : Nat) : Int) by omega, andW_nat _ _ (by omega) (lo_lt q), lo_and, lo_not p hp]

end Go.Proofs.YtldiilmpmcbjkaaGreatDoor

/- What is proved here: the model's xor and turning of lanes once more, with the blocks that they lay behind them counted. -/
namespace Go.Proofs.YtldiilmpmcbjkaaGreatDoor
open Go.RowKit
set_option linter.unusedVariables false
set_option maxRecDepth 100000

set_option maxHeartbeats 1000000 in
theorem l2Turn_smallE (h l n : Int) (w : World) (hh : 0 ≤ h ∧ h ≤ 4294967295) (hl : 0 ≤ l ∧ l ≤ 4294967295) (hn : 1 ≤ n) (hn2 : n ≤ 31) :
    Calls Tryz.prog 140 #[.agg #[.int .i64 h, .int .i64 l], .int .i64 n] w fun e w' => e = .returned (.agg #[.int .i64 (turnW h l (2 ^ n.toNat) (2 ^ (32 - n).toNat)), .int .i64 (turnW l h (2 ^ n.toNat) (2 ^ (32 - n).toNat))]) ∧ ∃ o p n, w' = ((w.alloc o).alloc p).drewN n := by
  have hne : (n == 0) = false := by rw [beq_eq_false_iff_ne]; omega
  have hu := pow_up n.toNat (by omega)
  have hd := pow_up (32 - n).toNat (by omega)
  have hu4 := hu.2.2.2 (by omega)
  have HU := hide hu
  have HD := hide hd
  clear hu hd
  go_enter Tryz.func140, Tryz.ntmps140
  go_wp2_with fail
  rw [(unhide HU).1, (unhide HD).1]
  have hu1 := (unhide HU).2.1
  have hd1 := (unhide HD).2.1
  generalize hgu : (2 : Int) ^ n.toNat = up at hu1 hu4
  generalize hgd : (2 : Int) ^ (32 - n).toNat = down at hd1
  have HGU := hide hgu
  have HGD := hide hgd
  clear hgu hgd HU HD
  obtain ⟨e1, e2, e3, e4⟩ := turn_facts h l up down hh hl hu1 hu4 hd1
  obtain ⟨f1, f2, f3, f4⟩ := turn_facts l h up down hl hh hu1 hu4 hd1
  have hdz : (down == 0) = false := by rw [beq_eq_false_iff_ne]; omega
  go_region
  all_goals
    go_wp2_with fail
    exact bodyPost_ret (v := .agg #[.int .i64 (turnW h l up down), .int .i64 (turnW l h up down)]) (by simp [results, Tryz.results140, go_sem]) rfl ⟨by rw [unhide HGU, unhide HGD], _, _, 1, rfl⟩

set_option maxHeartbeats 1000000 in
theorem l2Turn_zeroE (h l : Int) (w : World) :
    Calls Tryz.prog 140 #[.agg #[.int .i64 h, .int .i64 l], .int .i64 0] w fun e w' => e = .returned (.agg #[.int .i64 h, .int .i64 l]) ∧ ∃ o p n, w' = ((w.alloc o).alloc p).drewN n := by
  go_enter Tryz.func140, Tryz.ntmps140
  go_wp2_with fail
  exact bodyPost_ret (v := .agg #[.int .i64 h, .int .i64 l]) (by simp [results, Tryz.results140, go_sem]) rfl ⟨rfl, _, _, 0, rfl⟩

set_option maxHeartbeats 1000000 in
theorem l2Turn_bigE (h l n : Int) (w : World) (hh : 0 ≤ h ∧ h ≤ 4294967295) (hl : 0 ≤ l ∧ l ≤ 4294967295) (hn : 33 ≤ n) (hn2 : n ≤ 63) :
    Calls Tryz.prog 140 #[.agg #[.int .i64 h, .int .i64 l], .int .i64 n] w fun e w' => e = .returned (.agg #[.int .i64 (turnW l h (2 ^ (n - 32).toNat) (2 ^ (32 - (n - 32)).toNat)), .int .i64 (turnW h l (2 ^ (n - 32).toNat) (2 ^ (32 - (n - 32)).toNat))]) ∧ ∃ o p n, w' = ((w.alloc o).alloc p).drewN n := by
  have hne : (n - 32 == 0) = false := by rw [beq_eq_false_iff_ne]; omega
  have hu := pow_up (n - 32).toNat (by omega)
  have hd := pow_up (32 - (n - 32)).toNat (by omega)
  have hu4 := hu.2.2.2 (by omega)
  have HU := hide hu
  have HD := hide hd
  clear hu hd
  go_enter Tryz.func140, Tryz.ntmps140
  go_wp2_with fail
  rw [(unhide HU).1, (unhide HD).1]
  have hu1 := (unhide HU).2.1
  have hd1 := (unhide HD).2.1
  generalize hgu : (2 : Int) ^ (n - 32).toNat = up at hu1 hu4
  generalize hgd : (2 : Int) ^ (32 - (n - 32)).toNat = down at hd1
  have HGU := hide hgu
  have HGD := hide hgd
  clear hgu hgd HU HD
  obtain ⟨e1, e2, e3, e4⟩ := turn_facts h l up down hh hl hu1 hu4 hd1
  obtain ⟨f1, f2, f3, f4⟩ := turn_facts l h up down hl hh hu1 hu4 hd1
  have hdz : (down == 0) = false := by rw [beq_eq_false_iff_ne]; omega
  go_region
  all_goals
    go_wp2_with fail
    exact bodyPost_ret (v := .agg #[.int .i64 (turnW l h up down), .int .i64 (turnW h l up down)]) (by simp [results, Tryz.results140, go_sem]) rfl ⟨by rw [unhide HGU, unhide HGD], _, _, 1, rfl⟩

set_option maxHeartbeats 1000000 in
theorem l2Turn_halfE (h l : Int) (w : World) :
    Calls Tryz.prog 140 #[.agg #[.int .i64 h, .int .i64 l], .int .i64 32] w fun e w' => e = .returned (.agg #[.int .i64 l, .int .i64 h]) ∧ ∃ o p n, w' = ((w.alloc o).alloc p).drewN n := by
  go_enter Tryz.func140, Tryz.ntmps140
  go_wp2_with fail
  exact bodyPost_ret (v := .agg #[.int .i64 l, .int .i64 h]) (by simp [results, Tryz.results140, go_sem]) rfl ⟨rfl, _, _, 0, rfl⟩


theorem l2Turn_anyE (h l n : Int) (w : World) (hh : 0 ≤ h ∧ h ≤ 4294967295) (hl : 0 ≤ l ∧ l ≤ 4294967295) (hn : 0 ≤ n) (hn2 : n ≤ 63) :
    Calls Tryz.prog 140 #[.agg #[.int .i64 h, .int .i64 l], .int .i64 n] w fun e w' => e = .returned (.agg #[.int .i64 (laneTurn h l n).1, .int .i64 (laneTurn h l n).2]) ∧ ∃ o p n, w' = ((w.alloc o).alloc p).drewN n := by
  unfold laneTurn
  by_cases h0 : n = 0
  · subst h0
    rw [if_pos rfl]
    exact l2Turn_zeroE h l w
  · rw [if_neg h0]
    by_cases h1 : n < 32
    · rw [if_pos h1]
      exact l2Turn_smallE h l n w hh hl (by omega) (by omega)
    · rw [if_neg h1]
      by_cases h2 : n = 32
      · subst h2
        rw [if_pos rfl]
        exact l2Turn_halfE h l w
      · rw [if_neg h2]
        exact l2Turn_bigE h l n w hh hl (by omega) hn2


theorem l2Xor_anyE (a b c d : Int) (w : World) :
    Calls Tryz.prog 101 #[.agg #[.int .i64 a, .int .i64 b], .agg #[.int .i64 c, .int .i64 d]] w fun e w' => e = .returned (.agg #[.int .i64 (xorW a c), .int .i64 (xorW b d)]) ∧ ∃ o p q, w' = ((w.alloc o).alloc p).alloc q := by
  go_enter Tryz.func101, Tryz.ntmps101
  go_wp2_with fail
  exact bodyPost_ret (v := .agg #[.int .i64 (xorW a c), .int .i64 (xorW b d)]) (by simp [results, Tryz.results101, go_sem, xorW]) rfl ⟨rfl, _, _, _, rfl⟩

theorem l2Xor_laneE (a b : Nat) (ha : a < 18446744073709551616) (hb : b < 18446744073709551616) (w : World) :
    Calls Tryz.prog 101 #[.agg #[.int .i64 (hiW a : Int), .int .i64 (loW a : Int)], .agg #[.int .i64 (hiW b : Int), .int .i64 (loW b : Int)]] w
      fun e w' => e = .returned (.agg #[.int .i64 (hiW (a ^^^ b) : Int), .int .i64 (loW (a ^^^ b) : Int)]) ∧ ∃ o p q, w' = ((w.alloc o).alloc p).alloc q := by
  have h := l2Xor_anyE (hiW a : Int) (loW a : Int) (hiW b : Int) (loW b : Int) w
  rw [xorW_nat _ _ (hi_lt a ha) (hi_lt b hb), xorW_nat _ _ (lo_lt a) (lo_lt b), ← hi_xor, ← lo_xor] at h
  exact h

theorem l2Turn_laneE (a n : Nat) (ha : a < 18446744073709551616) (hn : n ≤ 63) (w : World) :
    Calls Tryz.prog 140 #[.agg #[.int .i64 (hiW a : Int), .int .i64 (loW a : Int)], .int .i64 (n : Int)] w
      fun e w' => e = .returned (.agg #[.int .i64 (hiW (rotL a n) : Int), .int .i64 (loW (rotL a n) : Int)]) ∧ ∃ o p n, w' = ((w.alloc o).alloc p).drewN n := by
  have h1 := hi_lt a ha
  have h2 := lo_lt a
  have h := l2Turn_anyE (hiW a : Int) (loW a : Int) (n : Int) w (by omega) (by omega) (by omega) (by omega)
  rw [turn_tie a n ha hn] at h
  exact h

end Go.Proofs.YtldiilmpmcbjkaaGreatDoor
