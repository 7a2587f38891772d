/- What is proved here: WideFault of the program and of the model, for every slice of numbers, and that of two numbers, one after the other. -/
import Derived.Test.YtpcokoejmodmaaaChecked
import Derived.Test.YtpcokoejmodmaaaBase
import Derived.Test.YtpcokoejmodmaaaIBase
import Derived.Test.YtpcokoejmodmaaaIn
import Derived.WalkKit
import Derived.WalkLawsBesides
import Derived.WalkSmall
import Derived.WalkSpells
import Derived.KernelRfl
namespace Go.Proofs.Ytpcokoejmodmaaa
open Go.RowKit
set_option linter.unusedVariables false

set_option maxHeartbeats 1000000 in
theorem isWord_any (n : Int) (w : World) : Calls Try.prog 40 #[.int .i64 n] w fun e w' => e = .returned (.bool (isWord n)) ∧ w' = w := by
  by_cases h0 : 0 ≤ n
  · by_cases h1 : n ≤ 4294967295
    · have e0 : decide (0 ≤ n) = true := decide_eq_true h0
      have e1 : decide (n ≤ 4294967295) = true := decide_eq_true h1
      go_enter Try.func40, Try.ntmps40
      go_wp2
      go_ret
      exact ⟨ret_bool (by simp [isWord, h0, h1]), rfl⟩
    · have e0 : decide (0 ≤ n) = true := decide_eq_true h0
      have e1 : decide (n ≤ 4294967295) = false := decide_eq_false h1
      go_enter Try.func40, Try.ntmps40
      go_wp2
      go_ret
      exact ⟨ret_bool (by simp [isWord, h0, h1]), rfl⟩
  · have e0 : decide (0 ≤ n) = false := decide_eq_false h0
    go_enter Try.func40, Try.ntmps40
    go_wp2
    go_ret
    exact ⟨ret_bool (by rw [isWord, decide_eq_false (by omega)]), rfl⟩

set_option maxHeartbeats 1000000 in
theorem word_any (v : Int) (w : World) : Calls Try.prog 41 #[.int .i64 v] w fun e w' => e = .returned (.bool (isWord v)) ∧ w' = w := by
  have HI := hide (show ∀ W, Calls Try.prog 20 #[.int .i64 v, .int .i64 0, .int .i64 4294967295] W fun e w' => e = .returned (.bool (isWord v)) ∧ w' = W from in_any v 0 4294967295)
  go_enter Try.func41, Try.ntmps41
  go_wp2_with fail
  refine ((unhide HI) _).mono ?_
  rintro e w' ⟨rfl, rfl⟩
  go_wp2_with fail
  go_ret
  exact ⟨rfl, rfl⟩

/-- The code of a wide number. -/
def wfCode (xs : List Int) : Int := if xs.length = 8 then (if xs.all isWord then 0 else 3) else 1

theorem wf_len (xs : List Int) (h : xs.length ≠ 8) : wfCode xs = 1 := by unfold wfCode; rw [if_neg h]
theorem wf_ok (xs : List Int) (h : xs.length = 8) (hk : (xs.take 8).all isWord = true) : wfCode xs = 0 := by
  rw [List.take_of_length_le (by omega)] at hk
  unfold wfCode; rw [if_pos h, if_pos hk]
theorem wf_bad (xs : List Int) (h : xs.length = 8) (k : Nat) (hk : k < 8) (hb : isWord (xs.getD k 0) = false) : wfCode xs = 3 := by
  unfold wfCode
  rw [if_pos h, if_neg]
  intro ha
  rw [List.all_eq_true] at ha
  have := ha (xs.getD k 0) (by rw [getD_at _ _ (by omega)]; exact List.getElem_mem _)
  rw [hb] at this; cases this
theorem wf_step (xs : List Int) (k : Nat) (hk : k < xs.length) (hp : (xs.take k).all isWord = true) (hb : isWord (xs.getD k 0) = true) : (xs.take (k + 1)).all isWord = true := by
  rw [List.take_succ_eq_append_getElem hk, List.all_append, hp]
  rw [getD_at _ _ hk] at hb
  simp [hb]
/-- What a code of 0 says. -/
theorem wf_zero (xs : List Int) (h : wfCode xs = 0) : xs.length = 8 ∧ ∀ i, 0 ≤ xs.getD i 0 ∧ xs.getD i 0 ≤ 4294967295 := by
  unfold wfCode at h
  split at h
  case isTrue hl =>
    split at h
    case isTrue ha =>
      refine ⟨hl, fun i => ?_⟩
      by_cases hi : i < xs.length
      · rw [List.all_eq_true] at ha
        have := ha (xs.getD i 0) (by rw [getD_at _ _ hi]; exact List.getElem_mem _)
        exact of_decide_eq_true this
      · rw [List.getD_eq_getElem?_getD, List.getElem?_eq_none (by omega)]
        simp
    case isFalse => cases h
  case isFalse => cases h

set_option maxHeartbeats 2000000 in
theorem implWFault_any (a : Option Addr) (n cap : Nat) (xs : List Int) (w : World) (h : IRow w a n xs) (hl : n ≤ 1048576) :
    Calls Try.prog 29 #[.slice a n cap] w fun e w' => e = .returned (.int .i64 (wfCode xs)) ∧ w' = w := by
  have hxl := h.1
  by_cases hn : n = 8
  · subst hn
    obtain ⟨b, off, rfl, hb, hc⟩ := h.at (by omega)
    have HC := hide hc
    have WK := hide (wf_ok xs hxl)
    have WB := hide (wf_bad xs hxl)
    have WS := hide (fun k (hk : k < 8) => wf_step xs k (by omega))
    clear h hc
    go_enter Try.func29, Try.ntmps29
    go_wp2
    go_loop [10] (fun i => ∃ k : Nat, k ≤ 8 ∧ i = .int .i64 k ∧ (xs.take k).all isWord = true) (fun i => 8 - (intOf i).toNat)
    case atStart => exact ⟨0, Nat.zero_le _, rfl, by simp⟩
    case round =>
      obtain ⟨k, hk, rfl, hpre⟩ := hrel
      by_cases hlt : k < 8
      · have hck := (unhide HC) k hlt
        have hs := (unhide WS) k hlt hpre
        have hb' := (unhide WB) k hlt
        have HP := hide hpre
        clear hpre
        generalize xs.getD k 0 = x at hck hs hb'
        have HS := hide hs
        have HB := hide hb'
        clear hs hb'
        have HW := hide (isWord_any x w)
        by_cases hx : isWord x = true
        · rw [hx] at HW
          have HT := hide ((unhide HS) hx)
          clear hx
          go_wp2_with fail
          refine (unhide HW).mono ?_
          rintro e w' ⟨rfl, rfl⟩
          go_wp2_with fail
          go_round
          case rel => exact ⟨k + 1, by omega, by go_num, unhide HT⟩
          case measure => simp [intOf]; omega
        · have hx' : isWord x = false := by simpa using hx
          rw [hx'] at HW
          have HT := hide ((unhide HB) hx')
          clear hx hx'
          go_wp2_with fail
          refine (unhide HW).mono ?_
          rintro e w' ⟨rfl, rfl⟩
          go_wp2_with fail
          go_ret
          exact ⟨ret_int (unhide HT).symm, rfl⟩
      · obtain rfl : k = 8 := by omega
        have HT := hide ((unhide WK) hpre)
        clear hpre
        go_wp2_with fail
        go_ret
        exact ⟨ret_int (unhide HT).symm, rfl⟩
  · have hlen : (((n : Nat) : Int) != 8) = true := by simp; omega
    have e := wf_len xs (by omega)
    have HE := hide e
    clear e h
    go_enter Try.func29, Try.ntmps29
    go_wp2
    go_ret
    exact ⟨ret_int (unhide HE).symm, rfl⟩

set_option maxHeartbeats 2000000 in
theorem l4Fault_any (a : Option Addr) (n cap : Nat) (xs : List Int) (w : World) (h : IRow w a n xs) (hl : n ≤ 1048576) :
    Calls Try.prog 31 #[.slice a n cap] w fun e w' => e = .returned (.int .i64 (wfCode xs)) ∧ w' = w := by
  have hxl := h.1
  by_cases hn : n = 8
  · subst hn
    obtain ⟨b, off, rfl, hb, hc⟩ := h.at (by omega)
    have HC := hide hc
    have WK := hide (wf_ok xs hxl)
    have WB := hide (wf_bad xs hxl)
    have WS := hide (fun k (hk : k < 8) => wf_step xs k (by omega))
    clear h hc
    go_enter Try.func31, Try.ntmps31
    go_wp2
    go_loop [3] (fun i => ∃ k : Nat, k ≤ 8 ∧ i = .int .i64 k ∧ (xs.take k).all isWord = true) (fun i => 8 - (intOf i).toNat)
    case atStart => exact ⟨0, Nat.zero_le _, rfl, by simp⟩
    case round =>
      obtain ⟨k, hk, rfl, hpre⟩ := hrel
      by_cases hlt : k < 8
      · have hck := (unhide HC) k hlt
        have hs := (unhide WS) k hlt hpre
        have hb' := (unhide WB) k hlt
        have HP := hide hpre
        clear hpre
        generalize xs.getD k 0 = x at hck hs hb'
        have HS := hide hs
        have HB := hide hb'
        clear hs hb'
        have HW := hide (word_any x w)
        by_cases hx : isWord x = true
        · rw [hx] at HW
          have HT := hide ((unhide HS) hx)
          clear hx
          go_wp2_with fail
          refine (unhide HW).mono ?_
          rintro e w' ⟨rfl, rfl⟩
          go_wp2_with fail
          go_round
          case rel => exact ⟨k + 1, by omega, by go_num, unhide HT⟩
          case measure => simp [intOf]; omega
        · have hx' : isWord x = false := by simpa using hx
          rw [hx'] at HW
          have HT := hide ((unhide HB) hx')
          clear hx hx'
          go_wp2_with fail
          refine (unhide HW).mono ?_
          rintro e w' ⟨rfl, rfl⟩
          go_wp2_with fail
          go_ret
          exact ⟨ret_int (unhide HT).symm, rfl⟩
      · obtain rfl : k = 8 := by omega
        have HT := hide ((unhide WK) hpre)
        clear hpre
        go_wp2_with fail
        go_ret
        exact ⟨ret_int (unhide HT).symm, rfl⟩
  · have hlen : (((n : Nat) : Int) != 8) = true := by simp; omega
    have e := wf_len xs (by omega)
    have HE := hide e
    clear e h
    go_enter Try.func31, Try.ntmps31
    go_wp2
    go_ret
    exact ⟨ret_int (unhide HE).symm, rfl⟩

end Go.Proofs.Ytpcokoejmodmaaa
