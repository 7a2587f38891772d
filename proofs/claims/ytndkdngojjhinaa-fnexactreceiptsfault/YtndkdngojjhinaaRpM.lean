/- What is proved here: what the model's ReceiptsFault answers. -/
import Derived.Test.YtndkdngojjhinaaRpK0
import Derived.Test.YtndkdngojjhinaaIn
namespace Go.Proofs.Ytndkdngojjhinaa
open Go.RowKit
set_option linter.unusedVariables false
set_option maxRecDepth 100000

set_option maxHeartbeats 2000000 in
theorem l14Fault_any (a : Option Addr) (len cap : Nat) (zss : List (List Int)) (w : World) (h : BsRow w a len zss) (hl : len ≤ 1048576) (hz : ∀ z ∈ zss, z.length ≤ 1048576) :
    Calls Try.prog 16 #[.slice a len cap] w fun e w' => e = .returned (.int .i64 (rpFlt zss)) ∧ w' = w := by
  have hil := h.1
  by_cases h2 : 10 < len
  · have HE : Hid (rpFlt zss = 2) := by show _ = _; unfold rpFlt; rw [if_pos (by rw [hil]; exact h2)]
    have hd : decide ((10 : Int) < (len : Int)) = true := decide_eq_true (by omega)
    clear h hil hz
    go_enter Try.func16, Try.ntmps16
    go_wp2_with fail
    go_ret
    exact ⟨ret_int (unhide HE).symm, rfl⟩
  · have d2 : decide ((10 : Int) < (len : Int)) = false := decide_eq_false (by omega)
    have HE : Hid (rpFlt zss = rpFrom zss) := by show _ = _; unfold rpFlt; rw [if_neg (by omega)]
    have HL := hide hil
    have HZ := hide hz
    have HC : Hid (0 < len → ∃ b off, a = some ⟨b, off, none⟩ ∧ b < w.heap.size ∧ ∀ i z, zss[i]? = some z → BsAt w b (off + i) z) := h.at
    have HW := hide h
    have hl10 : len ≤ 10 := by omega
    clear h hil hz
    go_enter Try.func16, Try.ntmps16
    go_wp2_with fail
    go_loop [3] (fun i => ∃ k : Nat, k ≤ len ∧ i = .int .i64 k ∧ rpFrom zss = rpFrom (zss.drop k)) (fun i => len - (intOf i).toNat)
    case atStart => exact ⟨0, Nat.zero_le _, rfl, by simp⟩
    case round =>
      obtain ⟨k, hk, rfl, hpre⟩ := hrel
      by_cases hlt : k < len
      · obtain ⟨z, hit⟩ : ∃ z, zss[k]? = some z := ⟨_, List.getElem?_eq_getElem (by rw [unhide HL]; exact hlt)⟩
        have hst := rpFrom_step zss k z hit
        rw [← hpre] at hst
        have hzz := (unhide HZ) z (List.mem_of_getElem? hit)
        obtain ⟨b, off, rfl, hb, hc⟩ := (unhide HC) (by omega)
        obtain ⟨s1, n1, d1, p0, r1⟩ := (hc k z hit)
        have hzl : z.length = n1 := r1.1
        rw [hzl] at hst hzz
        have i1 : (0 : Int) ≤ (k : Int) := by omega
        have i2 : (k : Int) < (len : Int) := by omega
        have i3 : decide ((k : Int) < (len : Int)) = true := decide_eq_true i2
        have i4 : decide (k < len) = true := decide_eq_true hlt
        have HI := hide (fun (W : World) => in_any (n1 : Int) 1 60 W)
        have HST := hide hst
        by_cases h4 : 1 ≤ n1 ∧ n1 ≤ 60
        · have d4 : decide ((1 : Int) ≤ (n1 : Int) ∧ (n1 : Int) ≤ 60) = true := decide_eq_true (by omega)
          rw [d4] at HI
          rw [if_pos h4] at HST
          clear hst hpre hit h4 d4 r1 hc hzl
          go_wp2_with fail
          refine ((unhide HI) _).mono ?_
          rintro e w1 ⟨rfl, rfl⟩
          go_wp2_with fail
          go_round
          case rel => exact ⟨k + 1, by omega, by go_num, unhide HST⟩
          case measure => simp [intOf]; omega
        · have d4 : decide ((1 : Int) ≤ (n1 : Int) ∧ (n1 : Int) ≤ 60) = false := decide_eq_false (by omega)
          rw [d4] at HI
          rw [if_neg h4] at HST
          clear hst hpre hit h4 d4 r1 hc hzl
          go_wp2_with fail
          refine ((unhide HI) _).mono ?_
          rintro e w1 ⟨rfl, rfl⟩
          go_wp2_with fail
          go_ret
          exact ⟨ret_int (by rw [unhide HE, unhide HST]), rfl⟩
      · obtain rfl : k = len := by omega
        rw [List.drop_of_length_le (by rw [unhide HL]; exact Nat.le_refl _)] at hpre
        have HP := hide hpre
        clear hpre
        go_wp2_with fail
        go_ret
        exact ⟨ret_int (by rw [unhide HE, unhide HP]; rfl), rfl⟩

theorem specReceipts_any (a : Option Addr) (len cap : Nat) (zss : List (List Int)) (w : World) (h : BsRow w a len zss) (hl : len ≤ 1048576) (hz : ∀ z ∈ zss, z.length ≤ 1048576) :
    Calls Try.prog 6 #[.slice a len cap] w fun e w' => e = .returned (.int .i64 (rpFlt zss)) ∧ w' = w := by
  have HF := hide (l14Fault_any a len cap zss w h hl hz)
  clear h hz
  generalize rpFlt zss = c at HF
  go_enter Try.func6, Try.ntmps6
  go_wp2_with fail
  refine (unhide HF).mono ?_
  rintro e w' ⟨rfl, rfl⟩
  go_wp2_with fail
  go_ret
  exact ⟨rfl, rfl⟩

end Go.Proofs.Ytndkdngojjhinaa
