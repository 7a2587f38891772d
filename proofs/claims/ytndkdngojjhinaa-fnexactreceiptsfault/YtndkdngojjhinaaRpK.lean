/- What is proved here: what the program's ReceiptsFault answers. -/
import Derived.Test.YtndkdngojjhinaaRpK0
import Derived.Test.YtndkdngojjhinaaRpJ
namespace Go.Proofs.Ytndkdngojjhinaa
open Go.RowKit
set_option linter.unusedVariables false
set_option maxRecDepth 100000

set_option maxHeartbeats 2000000 in
theorem implReceipts_any (a : Option Addr) (len cap : Nat) (zss : List (List Int)) (w : World) (h : BsRow w a len zss) (hl : len ≤ 1048576) (hz : ∀ z ∈ zss, z.length ≤ 1048576) :
    Calls Try.prog 8 #[.slice a len cap] w fun e w' => e = .returned (.int .i64 (rpFlt zss)) ∧ Below w.heap.size w w' := by
  have hil := h.1
  by_cases h2 : 10 < len
  · have HE : Hid (rpFlt zss = 2) := by show _ = _; unfold rpFlt; rw [if_pos (by rw [hil]; exact h2)]
    have hd : decide ((10 : Int) < (len : Int)) = true := decide_eq_true (by omega)
    clear h hil hz
    go_enter Try.func8, Try.ntmps8
    go_wp2_with fail
    go_ret
    exact ⟨ret_int (unhide HE).symm, Below.refl _ _⟩
  · have d2 : decide ((10 : Int) < (len : Int)) = false := decide_eq_false (by omega)
    have HE : Hid (rpFlt zss = rpFrom zss) := by show _ = _; unfold rpFlt; rw [if_neg (by omega)]
    have HS := hide (spansOf_any a len cap zss w h hl)
    have HL := hide hil
    have HZ := hide hz
    have hl10 : len ≤ 10 := by omega
    clear h hil hz
    go_enter Try.func8, Try.ntmps8
    go_wp2_with fail
    refine (unhide HS).mono ?_
    rintro e w1 ⟨a', cap', rfl, o1, b1⟩
    rcases Nat.eq_zero_or_pos len with h0 | hp
    · subst h0
      have HN : Hid (zss = []) := List.length_eq_zero_iff.1 (unhide HL)
      have HB := hide b1
      clear o1 b1
      go_wp2_with fail
      refine wp_loop_rounds 1 ?_
      rw [rounds_succ]
      go_wp2_with fail
      go_ret
      exact ⟨ret_int (by rw [unhide HE, unhide HN]; rfl), unhide HB⟩
    · obtain ⟨blk, c2, hv2⟩ := own_some o1 (by omega)
      simp only [Value.slice.injEq] at hv2
      obtain ⟨rfl, _, rfl⟩ := hv2
      have HC : Hid (∀ k z, zss[k]? = some z → k < len → w1.cell? ⟨blk, k, none⟩ = some (spV k z.length)) := fun k z hk hkl => by
        rw [o1.cellAt k (by omega)]
        exact spRow_at zss k z hk
      have HB := hide b1
      clear o1 b1
      go_wp2_with fail
      go_loop [11] (fun i => ∃ k : Nat, k ≤ len ∧ i = .int .i64 k ∧ rpFrom zss = rpFrom (zss.drop k)) (fun i => len - (intOf i).toNat)
      case atStart => exact ⟨0, Nat.zero_le _, rfl, by simp⟩
      case round =>
        obtain ⟨k, hk, rfl, hpre⟩ := hrel
        by_cases hlt : k < len
        · obtain ⟨z, hit⟩ : ∃ z, zss[k]? = some z := ⟨_, List.getElem?_eq_getElem (by rw [unhide HL]; exact hlt)⟩
          have hst := rpFrom_step zss k z hit
          rw [← hpre] at hst
          have hzz := (unhide HZ) z (List.mem_of_getElem? hit)
          have c0 := (unhide HC) k z hit hlt
          have HLN := hide (fun (W : World) => spLength_any k z.length W (by omega))
          have i1 : (0 : Int) ≤ (k : Int) := by omega
          have i2 : (k : Int) < (len : Int) := by omega
          have HI := hide (rWithin_any (z.length : Int) 1 60 w1)
          unfold spV at c0 HLN
          generalize (FloatKind.f64).nearest ((k : Nat) : Int) = x0 at c0 HLN
          generalize (FloatKind.f64).nearest ((z.length : Nat) : Int) = y0 at c0 HLN
          have HST := hide hst
          by_cases h4 : 1 ≤ z.length ∧ z.length ≤ 60
          · have d4 : decide ((1 : Int) ≤ (z.length : Int) ∧ (z.length : Int) ≤ 60) = true := decide_eq_true (by omega)
            rw [d4] at HI
            rw [if_pos h4] at HST
            clear hst hpre hit h4 d4
            generalize z.length = n1 at HLN HI hzz
            go_wp2_with fail
            refine ((unhide HLN) _).mono ?_
            rintro e w2 ⟨rfl, rfl⟩
            go_wp2_with fail
            refine (unhide HI).mono ?_
            rintro e w3 ⟨rfl, rfl⟩
            go_wp2_with fail
            go_round
            case rel => exact ⟨k + 1, by omega, by go_num, unhide HST⟩
            case measure => simp [intOf]; omega
          · have d4 : decide ((1 : Int) ≤ (z.length : Int) ∧ (z.length : Int) ≤ 60) = false := decide_eq_false (by omega)
            rw [d4] at HI
            rw [if_neg h4] at HST
            clear hst hpre hit h4 d4
            generalize z.length = n1 at HLN HI hzz
            go_wp2_with fail
            refine ((unhide HLN) _).mono ?_
            rintro e w2 ⟨rfl, rfl⟩
            go_wp2_with fail
            refine (unhide HI).mono ?_
            rintro e w3 ⟨rfl, rfl⟩
            go_wp2_with fail
            go_ret
            exact ⟨ret_int (by rw [unhide HE, unhide HST]), unhide HB⟩
        · obtain rfl : k = len := by omega
          rw [List.drop_of_length_le (by rw [unhide HL]; exact Nat.le_refl _)] at hpre
          have HP := hide hpre
          clear hpre
          go_wp2_with fail
          go_ret
          exact ⟨ret_int (by rw [unhide HE, unhide HP]; rfl), unhide HB⟩

end Go.Proofs.Ytndkdngojjhinaa
