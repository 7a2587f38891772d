/- What is proved here: the model's xor and turning of lanes once more, with the blocks that they lay behind them counted. -/
import Derived.Test.YtjdeobifhgdffaaDoorLaneSpec
import Derived.BigRegion
import Derived.Test.YtjdeobifhgdffaaDoorChecked
import Derived.Test.YtjdeobifhgdffaaDoorBase
import Derived.Test.YtjdeobifhgdffaaDoorInfo
import Derived.WalkKit
import Derived.WalkLawsBesides
import Derived.WalkSmall
import Derived.WalkSpells
import Derived.RegionTactic
import Derived.BigRegion
import Derived.Laws.BitsLemmas
import Derived.KernelRfl
namespace Go.Proofs.YtjdeobifhgdffaaDoor
open Go.RowKit
set_option linter.unusedVariables false

set_option maxHeartbeats 1000000 in
theorem l2Turn_smallE (h l n : Int) (w : World) (hh : 0 ≤ h ∧ h ≤ 4294967295) (hl : 0 ≤ l ∧ l ≤ 4294967295) (hn : 1 ≤ n) (hn2 : n ≤ 31) :
    Calls Tryd.prog 44 #[.agg #[.int .i64 h, .int .i64 l], .int .i64 n] w fun e w' => e = .returned (.agg #[.int .i64 (turnW h l (2 ^ n.toNat) (2 ^ (32 - n).toNat)), .int .i64 (turnW l h (2 ^ n.toNat) (2 ^ (32 - n).toNat))]) ∧ ∃ o p n, w' = ((w.alloc o).alloc p).drewN n := by
  have hne : (n == 0) = false := by rw [beq_eq_false_iff_ne]; omega
  have hu := pow_up n.toNat (by omega)
  have hd := pow_up (32 - n).toNat (by omega)
  have hu4 := hu.2.2.2 (by omega)
  have HU := hide hu
  have HD := hide hd
  clear hu hd
  go_enter Tryd.func44, Tryd.ntmps44
  go_wp2_with fail
  rw [(unhide HU).1, (unhide HD).1]
  have hu1 := (unhide HU).2.1
  have hd1 := (unhide HD).2.1
  generalize hgu : (2 : Int) ^ n.toNat = up at hu1 hu4
  generalize hgd : (2 : Int) ^ (32 - n).toNat = down at hd1
  have HGU := hide hgu
  have HGD := hide hgd
  clear hgu hgd HU HD
  obtain ⟨e1, e2, e3, e4⟩ := turn_facts h l up down hh hl hu1 hu4 hd1
  obtain ⟨f1, f2, f3, f4⟩ := turn_facts l h up down hl hh hu1 hu4 hd1
  have hdz : (down == 0) = false := by rw [beq_eq_false_iff_ne]; omega
  go_region
  all_goals
    go_wp2_with fail
    exact bodyPost_ret (v := .agg #[.int .i64 (turnW h l up down), .int .i64 (turnW l h up down)]) (by simp [results, Tryd.results44, go_sem]) rfl ⟨by rw [unhide HGU, unhide HGD], _, _, 1, rfl⟩

set_option maxHeartbeats 1000000 in
theorem l2Turn_zeroE (h l : Int) (w : World) :
    Calls Tryd.prog 44 #[.agg #[.int .i64 h, .int .i64 l], .int .i64 0] w fun e w' => e = .returned (.agg #[.int .i64 h, .int .i64 l]) ∧ ∃ o p n, w' = ((w.alloc o).alloc p).drewN n := by
  go_enter Tryd.func44, Tryd.ntmps44
  go_wp2_with fail
  exact bodyPost_ret (v := .agg #[.int .i64 h, .int .i64 l]) (by simp [results, Tryd.results44, go_sem]) rfl ⟨rfl, _, _, 0, rfl⟩

set_option maxHeartbeats 1000000 in
theorem l2Turn_bigE (h l n : Int) (w : World) (hh : 0 ≤ h ∧ h ≤ 4294967295) (hl : 0 ≤ l ∧ l ≤ 4294967295) (hn : 33 ≤ n) (hn2 : n ≤ 63) :
    Calls Tryd.prog 44 #[.agg #[.int .i64 h, .int .i64 l], .int .i64 n] w fun e w' => e = .returned (.agg #[.int .i64 (turnW l h (2 ^ (n - 32).toNat) (2 ^ (32 - (n - 32)).toNat)), .int .i64 (turnW h l (2 ^ (n - 32).toNat) (2 ^ (32 - (n - 32)).toNat))]) ∧ ∃ o p n, w' = ((w.alloc o).alloc p).drewN n := by
  have hne : (n - 32 == 0) = false := by rw [beq_eq_false_iff_ne]; omega
  have hu := pow_up (n - 32).toNat (by omega)
  have hd := pow_up (32 - (n - 32)).toNat (by omega)
  have hu4 := hu.2.2.2 (by omega)
  have HU := hide hu
  have HD := hide hd
  clear hu hd
  go_enter Tryd.func44, Tryd.ntmps44
  go_wp2_with fail
  rw [(unhide HU).1, (unhide HD).1]
  have hu1 := (unhide HU).2.1
  have hd1 := (unhide HD).2.1
  generalize hgu : (2 : Int) ^ (n - 32).toNat = up at hu1 hu4
  generalize hgd : (2 : Int) ^ (32 - (n - 32)).toNat = down at hd1
  have HGU := hide hgu
  have HGD := hide hgd
  clear hgu hgd HU HD
  obtain ⟨e1, e2, e3, e4⟩ := turn_facts h l up down hh hl hu1 hu4 hd1
  obtain ⟨f1, f2, f3, f4⟩ := turn_facts l h up down hl hh hu1 hu4 hd1
  have hdz : (down == 0) = false := by rw [beq_eq_false_iff_ne]; omega
  go_region
  all_goals
    go_wp2_with fail
    exact bodyPost_ret (v := .agg #[.int .i64 (turnW l h up down), .int .i64 (turnW h l up down)]) (by simp [results, Tryd.results44, go_sem]) rfl ⟨by rw [unhide HGU, unhide HGD], _, _, 1, rfl⟩

set_option maxHeartbeats 1000000 in
theorem l2Turn_halfE (h l : Int) (w : World) :
    Calls Tryd.prog 44 #[.agg #[.int .i64 h, .int .i64 l], .int .i64 32] w fun e w' => e = .returned (.agg #[.int .i64 l, .int .i64 h]) ∧ ∃ o p n, w' = ((w.alloc o).alloc p).drewN n := by
  go_enter Tryd.func44, Tryd.ntmps44
  go_wp2_with fail
  exact bodyPost_ret (v := .agg #[.int .i64 l, .int .i64 h]) (by simp [results, Tryd.results44, go_sem]) rfl ⟨rfl, _, _, 0, rfl⟩


theorem l2Turn_anyE (h l n : Int) (w : World) (hh : 0 ≤ h ∧ h ≤ 4294967295) (hl : 0 ≤ l ∧ l ≤ 4294967295) (hn : 0 ≤ n) (hn2 : n ≤ 63) :
    Calls Tryd.prog 44 #[.agg #[.int .i64 h, .int .i64 l], .int .i64 n] w fun e w' => e = .returned (.agg #[.int .i64 (laneTurn h l n).1, .int .i64 (laneTurn h l n).2]) ∧ ∃ o p n, w' = ((w.alloc o).alloc p).drewN n := by
  unfold laneTurn
  by_cases h0 : n = 0
  · subst h0
    rw [if_pos rfl]
    exact l2Turn_zeroE h l w
  · rw [if_neg h0]
    by_cases h1 : n < 32
    · rw [if_pos h1]
      exact l2Turn_smallE h l n w hh hl (by omega) (by omega)
    · rw [if_neg h1]
      by_cases h2 : n = 32
      · subst h2
        rw [if_pos rfl]
        exact l2Turn_halfE h l w
      · rw [if_neg h2]
        exact l2Turn_bigE h l n w hh hl (by omega) hn2


theorem l2Xor_anyE (a b c d : Int) (w : World) :
    Calls Tryd.prog 53 #[.agg #[.int .i64 a, .int .i64 b], .agg #[.int .i64 c, .int .i64 d]] w fun e w' => e = .returned (.agg #[.int .i64 (xorW a c), .int .i64 (xorW b d)]) ∧ ∃ o p q, w' = ((w.alloc o).alloc p).alloc q := by
  go_enter Tryd.func53, Tryd.ntmps53
  go_wp2_with fail
  exact bodyPost_ret (v := .agg #[.int .i64 (xorW a c), .int .i64 (xorW b d)]) (by simp [results, Tryd.results53, go_sem, xorW]) rfl ⟨rfl, _, _, _, rfl⟩

theorem l2Xor_laneE (a b : Nat) (ha : a < 18446744073709551616) (hb : b < 18446744073709551616) (w : World) :
    Calls Tryd.prog 53 #[.agg #[.int .i64 (hiW a : Int), .int .i64 (loW a : Int)], .agg #[.int .i64 (hiW b : Int), .int .i64 (loW b : Int)]] w
      fun e w' => e = .returned (.agg #[.int .i64 (hiW (a ^^^ b) : Int), .int .i64 (loW (a ^^^ b) : Int)]) ∧ ∃ o p q, w' = ((w.alloc o).alloc p).alloc q := by
  have h := l2Xor_anyE (hiW a : Int) (loW a : Int) (hiW b : Int) (loW b : Int) w
  rw [xorW_nat _ _ (hi_lt a ha) (hi_lt b hb), xorW_nat _ _ (lo_lt a) (lo_lt b), ← hi_xor, ← lo_xor] at h
  exact h

theorem l2Turn_laneE (a n : Nat) (ha : a < 18446744073709551616) (hn : n ≤ 63) (w : World) :
    Calls Tryd.prog 44 #[.agg #[.int .i64 (hiW a : Int), .int .i64 (loW a : Int)], .int .i64 (n : Int)] w
      fun e w' => e = .returned (.agg #[.int .i64 (hiW (rotL a n) : Int), .int .i64 (loW (rotL a n) : Int)]) ∧ ∃ o p n, w' = ((w.alloc o).alloc p).drewN n := by
  have h1 := hi_lt a ha
  have h2 := lo_lt a
  have h := l2Turn_anyE (hiW a : Int) (loW a : Int) (n : Int) w (by omega) (by omega) (by omega) (by omega)
  rw [turn_tie a n ha hn] at h
  exact h

end Go.Proofs.YtjdeobifhgdffaaDoor
