/- What is proved here: two wide numbers held against each other, by the program and by the model. -/
import Derived.Test.YtpcokoejmodmaaaWdD
import Derived.Test.YtpcokoejmodmaaaWdE
import Derived.BigQuiet
import Derived.Deep.QuietTactic
namespace Go.Proofs.Ytpcokoejmodmaaa
open Go.RowKit
set_option linter.unusedVariables false

/-- Which of two numbers is more. -/
def cmpI (x y : Int) : Int := if x < y then -1 else if y < x then 1 else 0

/-- Which of two lists is more, by its highest places first, below a place. -/
def cmpW (xs ys : List Int) : Nat → Int
  | 0 => 0
  | k + 1 => if cmpI (xs.getD k 0) (ys.getD k 0) = 0 then cmpW xs ys k else cmpI (xs.getD k 0) (ys.getD k 0)

theorem cmpI_same {x y : Int} (h : ¬ x < y) (h2 : ¬ y < x) : cmpI x y = 0 := by unfold cmpI; rw [if_neg h, if_neg h2]
theorem cmpI_less {x y : Int} (h : x < y) : cmpI x y = -1 := by unfold cmpI; rw [if_pos h]
theorem cmpI_more {x y : Int} (h : y < x) : cmpI x y = 1 := by unfold cmpI; rw [if_neg (by omega), if_pos h]
theorem cmpW_same (xs ys : List Int) (k : Nat) (h : cmpI (xs.getD k 0) (ys.getD k 0) = 0) : cmpW xs ys (k + 1) = cmpW xs ys k := by rw [cmpW, if_pos h]
theorem cmpW_other (xs ys : List Int) (k : Nat) (h : cmpI (xs.getD k 0) (ys.getD k 0) ≠ 0) : cmpW xs ys (k + 1) = cmpI (xs.getD k 0) (ys.getD k 0) := by rw [cmpW, if_neg h]

set_option maxHeartbeats 1000000 in
theorem isNaN_any (x : Int) (w : World) : Calls Try.prog 45 #[.int .i64 x] w fun e w' => e = .returned (.bool false) ∧ w' = w := by
  have hx : (x != x) = false := by simp
  go_enter Try.func45, Try.ntmps45
  go_wp2_with fail
  go_ret
  exact ⟨rfl, rfl⟩

set_option maxHeartbeats 1000000 in
theorem cmp_any (x y : Int) (w : World) : Calls Try.prog 39 #[.int .i64 x, .int .i64 y] w fun e w' => e = .returned (.int .i64 (cmpI x y)) ∧ w' = w := by
  by_cases h1 : x < y
  · have d1 : decide (x < y) = true := decide_eq_true h1
    have E := hide (cmpI_less h1)
    clear h1
    go_enter Try.func39, Try.ntmps39
    go_wp2_with fail
    refine (isNaN_any _ _).mono ?_
    rintro e w' ⟨rfl, rfl⟩
    go_wp2_with fail
    refine (isNaN_any _ _).mono ?_
    rintro e w' ⟨rfl, rfl⟩
    go_wp2_with fail
    go_ret
    exact ⟨ret_int (unhide E).symm, rfl⟩
  · by_cases h2 : y < x
    · have d1 : decide (x < y) = false := decide_eq_false h1
      have d2 : decide (y < x) = true := decide_eq_true h2
      have E := hide (cmpI_more h2)
      clear h1 h2
      go_enter Try.func39, Try.ntmps39
      go_wp2_with fail
      refine (isNaN_any _ _).mono ?_
      rintro e w' ⟨rfl, rfl⟩
      go_wp2_with fail
      refine (isNaN_any _ _).mono ?_
      rintro e w' ⟨rfl, rfl⟩
      go_wp2_with fail
      go_ret
      exact ⟨ret_int (unhide E).symm, rfl⟩
    · have d1 : decide (x < y) = false := decide_eq_false h1
      have d2 : decide (y < x) = false := decide_eq_false h2
      have E := hide (cmpI_same h1 h2)
      clear h1 h2
      go_enter Try.func39, Try.ntmps39
      go_wp2_with fail
      refine (isNaN_any _ _).mono ?_
      rintro e w' ⟨rfl, rfl⟩
      go_wp2_with fail
      refine (isNaN_any _ _).mono ?_
      rintro e w' ⟨rfl, rfl⟩
      go_wp2_with fail
      go_ret
      exact ⟨ret_int (unhide E).symm, rfl⟩

set_option maxHeartbeats 2000000 in
theorem compare_any (xs ys : List Int) (hx : xs.length = 8) (hy : ys.length = 8) (w : World) :
    Calls Try.prog 26 #[.agg (nvals xs).toArray, .agg (nvals ys).toArray] w fun e w' => e = .returned (.int .i64 (cmpW xs ys 8)) ∧ Below w.heap.size w w' := by
  obtain ⟨w1, hw1⟩ : ∃ w1, w1 = (w.alloc (.cells (nvals xs).toArray 53)).alloc (.cells (nvals ys).toArray 53) := ⟨_, rfl⟩
  have e1 := hw1.symm
  have G1 : Below w.heap.size w w1 := by rw [hw1]; exact (below_alloc w _).alloc (by simp) _
  have X1 : NBlk w1 w.heap.size xs 53 := by
    rw [hw1]
    exact (NBlk.new w xs _).next _
  have Y1 : NBlk w1 (w.heap.size + 1) ys 53 := by
    have := NBlk.new (w.alloc (.cells (nvals xs).toArray 53)) ys 53
    rw [show (w.alloc (.cells (nvals xs).toArray 53)).heap.size = w.heap.size + 1 by simp] at this
    rw [hw1]
    exact this
  have HX := hide X1
  have HY := hide Y1
  have HG := hide G1
  have CS := hide (cmpW_same xs ys)
  have CO := hide (cmpW_other xs ys)
  clear X1 Y1 G1 hw1
  generalize nvals xs = V at e1 ⊢
  generalize nvals ys = U at e1 ⊢
  have CZ := hide (show cmpW xs ys 0 = 0 from rfl)
  generalize hR : cmpW xs ys = R at CS CO CZ ⊢
  clear hR
  go_enter Try.func26, Try.ntmps26
  go_wp2_with (rw [e1])
  go_loopw [8] (fun i wr => ∃ k : Nat, k ≤ 8 ∧ i = .int .i64 k ∧ R 8 = R (8 - k) ∧ NBlk wr w.heap.size xs 53 ∧ NBlk wr (w.heap.size + 1) ys 53 ∧ Below w.heap.size w wr) (fun i _ => 8 - (intOf i).toNat)
  case atStart => exact ⟨0, Nat.zero_le _, rfl, rfl, unhide HX, unhide HY, unhide HG⟩
  case round =>
    obtain ⟨k, hk, rfl, hpre, hX, hY, hG⟩ := hrel
    clear HX HY HG
    by_cases hlt : k < 8
    · have hdk : decide ((k : Int) < 8) = true := decide_eq_true (by omega)
      obtain ⟨m, hm⟩ : ∃ m, k + m = 7 := ⟨7 - k, by omega⟩
      have m0 : (7 : Int) - (k : Int) = (m : Int) := by omega
      have m1 : IntKind.i64.wrap (m : Int) = (m : Int) := by rw [IntKind.wrap_i64]; omega
      have j0 : (0 : Int) ≤ (m : Int) := by omega
      have j1 : (m : Int) < 8 := by omega
      have c1 := hX.cell m (by omega)
      have c2 := hY.cell m (by omega)
      have HX := hide hX
      have HY := hide hY
      have HG := hide hG
      clear hX hY hG
      rw [show 8 - k = m + 1 by omega] at hpre
      have hs := (unhide CS) m
      have ho := (unhide CO) m
      generalize xs.getD m 0 = x at c1 hs ho
      generalize ys.getD m 0 = y at c2 hs ho
      have HP := hide hpre
      have HS := hide hs
      have HO := hide ho
      clear hpre hs ho
      have HCC : Hid (∀ W, Calls Try.prog 39 #[.int .i64 x, .int .i64 y] W fun e w' => e = .returned (.int .i64 (cmpI x y)) ∧ w' = W) := fun W => cmp_any x y W
      generalize cmpI x y = c at HS HO HCC
      have HM := hide hm
      clear hm
      by_cases hc : c = 0
      · have hd : (c != 0) = false := by simp [hc]
        have HT := hide ((unhide HP).trans ((unhide HS) hc))
        clear hc HO HS HP
        go_wp2_with fail
        go_quiet ((go_at_call 39; exact Calls.quiet_of_same ((unhide HCC) _)))
        go_wp2_with fail
        go_roundw
        case rel => exact ⟨k + 1, by omega, by go_num, by rw [unhide HT]; congr 1; have := unhide HM; omega, unhide HX, unhide HY, below_drewN (unhide HG) _⟩
        case measure => simp [intOf]; omega
      · have hd : (c != 0) = true := by simp [hc]
        have HT := hide ((unhide HP).trans ((unhide HO) hc))
        clear hc HO HS HP
        go_wp2_with fail
        go_quiet ((go_at_call 39; exact Calls.quiet_of_same ((unhide HCC) _)))
        go_wp2_with fail
        go_ret
        exact ⟨ret_int (unhide HT).symm, below_drewN (unhide HG) _⟩
    · obtain rfl : k = 8 := by omega
      have hdk : decide (((8 : Nat) : Int) < 8) = false := rfl
      have HT := hide (hpre.trans (unhide CZ))
      clear hpre
      go_wp2_with fail
      go_ret
      exact ⟨ret_int (unhide HT).symm, hG⟩

set_option maxHeartbeats 2000000 in
theorem l4Compare_any (a b : Nat) (oa ob ca cb : Nat) (xs ys : List Int) (w : World) (hx : IRow w (some ⟨a, oa, none⟩) 8 xs) (hy : IRow w (some ⟨b, ob, none⟩) 8 ys) :
    Calls Try.prog 28 #[.slice (some ⟨a, oa, none⟩) 8 ca, .slice (some ⟨b, ob, none⟩) 8 cb] w fun e w' => e = .returned (.int .i64 (cmpW xs ys 8)) ∧ Below w.heap.size w w' := by
  have CX : Hid (∀ i, i < 8 → w.cell? ⟨a, oa + i, none⟩ = some (.int .i64 (xs.getD i 0))) := fun i hi => by have := hx.2.2.2 _ rfl i hi; rwa [add_none] at this
  have CY : Hid (∀ i, i < 8 → w.cell? ⟨b, ob + i, none⟩ = some (.int .i64 (ys.getD i 0))) := fun i hi => by have := hy.2.2.2 _ rfl i hi; rwa [add_none] at this
  have CS := hide (cmpW_same xs ys)
  have CO := hide (cmpW_other xs ys)
  have CZ := hide (show cmpW xs ys 0 = 0 from rfl)
  clear hx hy
  generalize hR : cmpW xs ys = R at CS CO CZ ⊢
  clear hR
  go_enter Try.func28, Try.ntmps28
  go_wp2_with fail
  go_loopw [5] (fun i wr => ∃ k nn : Nat, k ≤ 8 ∧ i = .int .i64 ((k : Int) - 1) ∧ R 8 = R k ∧ wr = w.drewN nn) (fun i _ => (intOf i + 1).toNat)
  case atStart => exact ⟨8, 0, Nat.le_refl _, rfl, rfl, rfl⟩
  case round =>
    obtain ⟨k, nn, hk, rfl, hpre, rfl⟩ := hrel
    by_cases hlt : 0 < k
    · obtain ⟨m, rfl⟩ : ∃ m, k = m + 1 := ⟨k - 1, by omega⟩
      have m0 : ((m + 1 : Nat) : Int) - 1 = (m : Int) := by omega
      rw [m0]
      have hdk : decide ((m : Int) ≥ 0) = true := decide_eq_true (by omega)
      have hdk2 : decide ((0 : Int) ≤ (m : Int)) = true := decide_eq_true (by omega)
      have j0 : (0 : Int) ≤ (m : Int) := by omega
      have j1 : (m : Int) < 8 := by omega
      have c1 := (unhide CX) m (by omega)
      have c2 := (unhide CY) m (by omega)
      have hs := (unhide CS) m
      have ho := (unhide CO) m
      generalize xs.getD m 0 = x at c1 hs ho
      generalize ys.getD m 0 = y at c2 hs ho
      have HP := hide hpre
      have HS := hide hs
      have HO := hide ho
      clear hpre hs ho
      by_cases h1 : x < y
      · have d1 : decide (x < y) = true := decide_eq_true h1
        have HT := hide ((unhide HP).trans (((unhide HO) (by rw [cmpI_less h1]; decide)).trans (cmpI_less h1)))
        clear h1 HO HS HP
        go_wp2_with fail
        go_quiet (fail)
        go_wp2_with fail
        go_ret
        exact ⟨ret_int (unhide HT).symm, below_drewN (below_drewN (Below.refl _ _) _) _⟩
      · have d1 : decide (x < y) = false := decide_eq_false h1
        by_cases h2 : y < x
        · have d2 : decide (y < x) = true := decide_eq_true h2
          have HT := hide ((unhide HP).trans (((unhide HO) (by rw [cmpI_more h2]; decide)).trans (cmpI_more h2)))
          clear h1 h2 HO HS HP
          go_wp2_with fail
          go_quiet (fail)
          go_wp2_with fail
          go_quiet (fail)
          go_wp2_with fail
          go_ret
          exact ⟨ret_int (unhide HT).symm, below_drewN (below_drewN (below_drewN (Below.refl _ _) _) _) _⟩
        · have d2 : decide (y < x) = false := decide_eq_false h2
          have HT := hide ((unhide HP).trans ((unhide HS) (cmpI_same h1 h2)))
          clear h1 h2 HO HS HP
          go_wp2_with fail
          go_quiet (fail)
          go_wp2_with fail
          go_quiet (fail)
          go_wp2_with fail
          go_roundw
          case rel => exact ⟨m, _, by omega, by go_num, unhide HT, rfl⟩
          case measure => simp [intOf]
    · obtain rfl : k = 0 := by omega
      have HT := hide (hpre.trans (unhide CZ))
      clear hpre
      have hdk : decide (((0 : Nat) : Int) - 1 ≥ 0) = false := rfl
      go_wp2_with fail
      go_ret
      exact ⟨ret_int (unhide HT).symm, below_drewN (Below.refl _ _) _⟩

end Go.Proofs.Ytpcokoejmodmaaa
