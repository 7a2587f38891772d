/- What is proved here: what the model's TurnLane answers for every three numbers: the code and the two words, in new memory. -/
import Derived.Test.YtjdeobifhgdffaaDoorChecked
import Derived.Test.YtjdeobifhgdffaaDoorBase
import Derived.Test.YtjdeobifhgdffaaDoorInfo
import Derived.WalkKit
import Derived.WalkLawsBesides
import Derived.WalkSmall
import Derived.WalkSpells
import Derived.RegionTactic
import Derived.BigRegion
import Derived.Laws.BitsLemmas
import Derived.KernelRfl
namespace Go.Proofs.YtjdeobifhgdffaaDoor
open Go.RowKit
set_option linter.unusedVariables false

theorem i64_fits (n : Int) (h0 : 0 ≤ n) (h1 : n ≤ 9223372036854775807) : IntKind.i64.wrap n = n := by
  rw [IntKind.wrap_i64]; omega

theorem pow_up (k : Nat) (h : k ≤ 32) : wrap64 (2 ^ k) = 2 ^ k ∧ 1 ≤ (2 : Int) ^ k ∧ (2 : Int) ^ k ≤ 4294967296 ∧ (k ≤ 31 → (2 : Int) ^ k ≤ 2147483648) := by
  rcases (by omega : k = 0 ∨ k = 1 ∨ k = 2 ∨ k = 3 ∨ k = 4 ∨ k = 5 ∨ k = 6 ∨ k = 7 ∨ k = 8 ∨ k = 9 ∨ k = 10 ∨ k = 11 ∨ k = 12 ∨ k = 13 ∨ k = 14 ∨ k = 15 ∨ k = 16 ∨ k = 17 ∨ k = 18 ∨ k = 19 ∨ k = 20 ∨ k = 21 ∨ k = 22 ∨ k = 23 ∨ k = 24 ∨ k = 25 ∨ k = 26 ∨ k = 27 ∨ k = 28 ∨ k = 29 ∨ k = 30 ∨ k = 31 ∨ k = 32) with r | r | r | r | r | r | r | r | r | r | r | r | r | r | r | r | r | r | r | r | r | r | r | r | r | r | r | r | r | r | r | r | r <;> subst r <;> exact ⟨IntWalk.wrap64_in _ (by decide), by decide, by decide, fun h => by first | decide | omega⟩

theorem mul_fits (h up : Int) (hh : 0 ≤ h ∧ h ≤ 4294967295) (h1 : 1 ≤ up) (h2 : up ≤ 2147483648) : 0 ≤ h * up ∧ h * up ≤ 9223372034707292160 := by
  refine ⟨Int.mul_nonneg hh.1 (by omega), ?_⟩
  exact Int.le_trans (Int.mul_le_mul_of_nonneg_right hh.2 (by omega)) (by omega)

/-- One word of a lane that is turned by less than a word. -/
def turnW (h l up down : Int) : Int := h * up % 4294967296 + l / down

theorem turn_facts (h l up down : Int) (hh : 0 ≤ h ∧ h ≤ 4294967295) (hl : 0 ≤ l ∧ l ≤ 4294967295) (h1 : 1 ≤ up) (h2 : up ≤ 2147483648) (h3 : 1 ≤ down) :
    IntKind.i64.wrap (h * up) = h * up ∧ (h * up).tmod 4294967296 = h * up % 4294967296 ∧ IntKind.i64.wrap (l.tdiv down) = l / down ∧ IntKind.i64.wrap (h * up % 4294967296 + l / down) = turnW h l up down := by
  have hm := mul_fits h up hh h1 h2
  have hq0 : 0 ≤ l / down := Int.ediv_nonneg hl.1 (by omega)
  have hq1 : l / down ≤ l := Int.ediv_le_self _ hl.1
  refine ⟨i64_fits _ hm.1 (by omega), Int.tmod_eq_emod_of_nonneg hm.1, ?_, ?_⟩
  · rw [Int.tdiv_eq_ediv_of_nonneg hl.1]
    exact i64_fits _ hq0 (by omega)
  · unfold turnW
    exact i64_fits _ (by omega) (by omega)

set_option maxHeartbeats 1000000 in
theorem l2Turn_small (h l n : Int) (w : World) (hh : 0 ≤ h ∧ h ≤ 4294967295) (hl : 0 ≤ l ∧ l ≤ 4294967295) (hn : 1 ≤ n) (hn2 : n ≤ 31) :
    Calls Tryd.prog 44 #[.agg #[.int .i64 h, .int .i64 l], .int .i64 n] w fun e w' => e = .returned (.agg #[.int .i64 (turnW h l (2 ^ n.toNat) (2 ^ (32 - n).toNat)), .int .i64 (turnW l h (2 ^ n.toNat) (2 ^ (32 - n).toNat))]) ∧ Below w.heap.size w w' := by
  have hne : (n == 0) = false := by rw [beq_eq_false_iff_ne]; omega
  have hu := pow_up n.toNat (by omega)
  have hd := pow_up (32 - n).toNat (by omega)
  have hu4 := hu.2.2.2 (by omega)
  have HU := hide hu
  have HD := hide hd
  clear hu hd
  go_enter Tryd.func44, Tryd.ntmps44
  go_wp2_with fail
  rw [(unhide HU).1, (unhide HD).1]
  have hu1 := (unhide HU).2.1
  have hd1 := (unhide HD).2.1
  generalize hgu : (2 : Int) ^ n.toNat = up at hu1 hu4
  generalize hgd : (2 : Int) ^ (32 - n).toNat = down at hd1
  have HGU := hide hgu
  have HGD := hide hgd
  clear hgu hgd HU HD
  obtain ⟨e1, e2, e3, e4⟩ := turn_facts h l up down hh hl hu1 hu4 hd1
  obtain ⟨f1, f2, f3, f4⟩ := turn_facts l h up down hl hh hu1 hu4 hd1
  have hdz : (down == 0) = false := by rw [beq_eq_false_iff_ne]; omega
  have HB : Hid (∀ o p, Below w.heap.size w ((w.alloc o).alloc p)) := fun o p => ((Below.refl _ _).alloc (Nat.le_refl _) o).alloc (by simp) p
  go_region
  all_goals
    go_wp2_with fail
    exact bodyPost_ret (v := .agg #[.int .i64 (turnW h l up down), .int .i64 (turnW l h up down)]) (by simp [results, Tryd.results44, go_sem]) rfl ⟨by rw [unhide HGU, unhide HGD], ((unhide HB) _ _).drew⟩

set_option maxHeartbeats 1000000 in
theorem l2Turn_zero (h l : Int) (w : World) :
    Calls Tryd.prog 44 #[.agg #[.int .i64 h, .int .i64 l], .int .i64 0] w fun e w' => e = .returned (.agg #[.int .i64 h, .int .i64 l]) ∧ Below w.heap.size w w' := by
  have HB : Hid (∀ o p, Below w.heap.size w ((w.alloc o).alloc p)) := fun o p => ((Below.refl _ _).alloc (Nat.le_refl _) o).alloc (by simp) p
  go_enter Tryd.func44, Tryd.ntmps44
  go_wp2_with fail
  exact bodyPost_ret (v := .agg #[.int .i64 h, .int .i64 l]) (by simp [results, Tryd.results44, go_sem]) rfl ⟨rfl, (unhide HB) _ _⟩

set_option maxHeartbeats 1000000 in
theorem l2Turn_big (h l n : Int) (w : World) (hh : 0 ≤ h ∧ h ≤ 4294967295) (hl : 0 ≤ l ∧ l ≤ 4294967295) (hn : 33 ≤ n) (hn2 : n ≤ 63) :
    Calls Tryd.prog 44 #[.agg #[.int .i64 h, .int .i64 l], .int .i64 n] w fun e w' => e = .returned (.agg #[.int .i64 (turnW l h (2 ^ (n - 32).toNat) (2 ^ (32 - (n - 32)).toNat)), .int .i64 (turnW h l (2 ^ (n - 32).toNat) (2 ^ (32 - (n - 32)).toNat))]) ∧ Below w.heap.size w w' := by
  have hne : (n - 32 == 0) = false := by rw [beq_eq_false_iff_ne]; omega
  have hu := pow_up (n - 32).toNat (by omega)
  have hd := pow_up (32 - (n - 32)).toNat (by omega)
  have hu4 := hu.2.2.2 (by omega)
  have HU := hide hu
  have HD := hide hd
  clear hu hd
  go_enter Tryd.func44, Tryd.ntmps44
  go_wp2_with fail
  rw [(unhide HU).1, (unhide HD).1]
  have hu1 := (unhide HU).2.1
  have hd1 := (unhide HD).2.1
  generalize hgu : (2 : Int) ^ (n - 32).toNat = up at hu1 hu4
  generalize hgd : (2 : Int) ^ (32 - (n - 32)).toNat = down at hd1
  have HGU := hide hgu
  have HGD := hide hgd
  clear hgu hgd HU HD
  obtain ⟨e1, e2, e3, e4⟩ := turn_facts h l up down hh hl hu1 hu4 hd1
  obtain ⟨f1, f2, f3, f4⟩ := turn_facts l h up down hl hh hu1 hu4 hd1
  have hdz : (down == 0) = false := by rw [beq_eq_false_iff_ne]; omega
  have HB : Hid (∀ o p, Below w.heap.size w ((w.alloc o).alloc p)) := fun o p => ((Below.refl _ _).alloc (Nat.le_refl _) o).alloc (by simp) p
  go_region
  all_goals
    go_wp2_with fail
    exact bodyPost_ret (v := .agg #[.int .i64 (turnW l h up down), .int .i64 (turnW h l up down)]) (by simp [results, Tryd.results44, go_sem]) rfl ⟨by rw [unhide HGU, unhide HGD], ((unhide HB) _ _).drew⟩

set_option maxHeartbeats 1000000 in
theorem l2Turn_half (h l : Int) (w : World) :
    Calls Tryd.prog 44 #[.agg #[.int .i64 h, .int .i64 l], .int .i64 32] w fun e w' => e = .returned (.agg #[.int .i64 l, .int .i64 h]) ∧ Below w.heap.size w w' := by
  have HB : Hid (∀ o p, Below w.heap.size w ((w.alloc o).alloc p)) := fun o p => ((Below.refl _ _).alloc (Nat.le_refl _) o).alloc (by simp) p
  go_enter Tryd.func44, Tryd.ntmps44
  go_wp2_with fail
  exact bodyPost_ret (v := .agg #[.int .i64 l, .int .i64 h]) (by simp [results, Tryd.results44, go_sem]) rfl ⟨rfl, (unhide HB) _ _⟩


/-- A lane turned by n bits: its two words. -/
def laneTurn (h l n : Int) : Int × Int :=
  if n = 0 then (h, l) else if n < 32 then (turnW h l (2 ^ n.toNat) (2 ^ (32 - n).toNat), turnW l h (2 ^ n.toNat) (2 ^ (32 - n).toNat))
  else if n = 32 then (l, h) else (turnW l h (2 ^ (n - 32).toNat) (2 ^ (32 - (n - 32)).toNat), turnW h l (2 ^ (n - 32).toNat) (2 ^ (32 - (n - 32)).toNat))

theorem l2Turn_any (h l n : Int) (w : World) (hh : 0 ≤ h ∧ h ≤ 4294967295) (hl : 0 ≤ l ∧ l ≤ 4294967295) (hn : 0 ≤ n) (hn2 : n ≤ 63) :
    Calls Tryd.prog 44 #[.agg #[.int .i64 h, .int .i64 l], .int .i64 n] w fun e w' => e = .returned (.agg #[.int .i64 (laneTurn h l n).1, .int .i64 (laneTurn h l n).2]) ∧ Below w.heap.size w w' := by
  unfold laneTurn
  by_cases h0 : n = 0
  · subst h0
    rw [if_pos rfl]
    exact l2Turn_zero h l w
  · rw [if_neg h0]
    by_cases h1 : n < 32
    · rw [if_pos h1]
      exact l2Turn_small h l n w hh hl (by omega) (by omega)
    · rw [if_neg h1]
      by_cases h2 : n = 32
      · subst h2
        rw [if_pos rfl]
        exact l2Turn_half h l w
      · rw [if_neg h2]
        exact l2Turn_big h l n w hh hl (by omega) hn2

end Go.Proofs.YtjdeobifhgdffaaDoor
