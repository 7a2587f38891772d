/- What is proved here: the contracts of the laws' helper functions that count the bytes of slices of slices of bytes (szByteS, szByteSS). -/
import Derived.Test.YtndkdngojjhinaaChecked
import Derived.Test.YtndkdngojjhinaaBase
import Derived.Test.YtndkdngojjhinaaBsB
import Derived.WalkKit
import Derived.WalkLawsBesides
import Derived.WalkSmall
import Derived.KernelRfl
import Derived.WalkSpells
namespace Go.Proofs.Ytndkdngojjhinaa
open Go.RowKit
set_option linter.unusedVariables false
set_option maxRecDepth 100000

theorem szB1_any (a : Option Addr) (n cap : Nat) (left : Int) (w : World) (h0 : 0 ≤ left) (h1 : left ≤ 1099511627776) (hn : n ≤ maxLen) :
    Calls Try.prog 15 #[.slice a n cap, .int .i64 left] w fun e w' => e = .returned (.int .i64 (if left - n < 0 then -1 else left - n)) ∧ w' = w := by
  unfold maxLen at hn
  by_cases h : left - n < 0
  · rw [if_pos h]
    have hd : decide (left - (n : Int) < 0) = true := decide_eq_true h
    go_enter Try.func15, Try.ntmps15
    go_wp2
    go_ret
    exact ⟨rfl, rfl⟩
  · rw [if_neg h]
    have hd : decide (left - (n : Int) < 0) = false := decide_eq_false h
    go_enter Try.func15, Try.ntmps15
    go_wp2
    go_ret
    exact ⟨rfl, rfl⟩

set_option maxHeartbeats 1000000 in
theorem szByteSS_any (a : Option Addr) (len cap : Nat) (zss : List (List Int)) (left : Int) (w : World) (h : BsRow w a len zss) (hl : len ≤ maxLen) (h0 : 0 ≤ left) (h1 : left ≤ 1099511627776) :
    Calls Try.prog 5 #[.slice a len cap, .int .i64 left] w fun e w' => e = .returned (.int .i64 (szBss left zss)) ∧ w' = w := by
  unfold maxLen at hl
  have hil := h.1
  by_cases hs : left - len < 0
  · have e : szBss left zss = -1 := if_pos (by rw [hil]; exact hs)
    rw [e]
    have hd : decide (left - (len : Int) < 0) = true := decide_eq_true hs
    go_enter Try.func5, Try.ntmps5
    go_wp2_with fail
    go_ret
    exact ⟨rfl, rfl⟩
  · have e : szBss left zss = szBs (left - len) zss := by rw [← hil]; exact if_neg (by rw [hil]; exact hs)
    have HE := hide e
    have hd : decide (left - (len : Int) < 0) = false := decide_eq_false hs
    clear e
    rcases Nat.eq_zero_or_pos len with hz | hp
    · subst hz
      have hn : zss = [] := List.length_eq_zero_iff.1 hil
      subst hn
      clear h
      go_enter Try.func5, Try.ntmps5
      go_wp2_with fail
      refine wp_loop_rounds 1 ?_
      rw [rounds_succ]
      go_wp2_with fail
      go_ret
      exact ⟨ret_int (by rw [unhide HE]; simp [szBs]), rfl⟩
    · obtain ⟨b, off, rfl, hb, hc⟩ := h.at hp
      have hok := h.2.1
      have HC := hide hc
      have HK := hide hok
      have HL := hide hil
      clear h hc hok hil
      go_enter Try.func5, Try.ntmps5
      go_wp2_with fail
      go_loop [1, 5] (fun q i => ∃ (k : Nat) (L : Int), k ≤ len ∧ i = .int .i64 k ∧ q = .int .i64 L ∧ 0 ≤ L ∧ L ≤ left ∧ szBs (left - len) zss = szBs L (zss.drop k)) (fun _ i => len - (intOf i).toNat)
      case atStart => exact ⟨0, _, Nat.zero_le _, rfl, rfl, by omega, by omega, by simp⟩
      case round =>
        obtain ⟨k, L, hk, rfl, rfl, hL0, hL1, hrest⟩ := hrel
        by_cases hlt : k < len
        · obtain ⟨z, hit⟩ : ∃ z, zss[k]? = some z := ⟨_, List.getElem?_eq_getElem (by rw [unhide HL]; exact hlt)⟩
          have hat := unhide HC k z hit
          have hio := unhide HK z (List.mem_of_getElem? hit)
          have hst := szBs_step zss k z L hit
          obtain ⟨sa, sl, sc, c0, hbrow⟩ := hat
          have hsl : z.length = sl := hbrow.1
          rw [hsl] at hst hio
          have HR := hide hrest
          have HS := hide hst
          have i1 : (0 : Int) ≤ (k : Int) := by omega
          have i2 : (k : Int) < (len : Int) := by omega
          clear hbrow hsl hrest hst hit
          by_cases hneg : L - sl < 0
          · have HZ := hide (fun W => szB1_any sa sl sc L W hL0 (by omega) hio)
            rw [if_pos hneg] at HS
            simp only [if_pos hneg] at HZ
            go_wp2_with fail
            refine ((unhide HZ) _).mono ?_
            rintro e w1 ⟨rfl, rfl⟩
            go_wp2_with fail
            go_ret
            exact ⟨ret_int (by rw [unhide HE, unhide HR, unhide HS]), rfl⟩
          · have HZ := hide (fun W => szB1_any sa sl sc L W hL0 (by omega) hio)
            rw [if_neg hneg] at HS
            simp only [if_neg hneg] at HZ
            have hd2 : decide (L - (sl : Int) < 0) = false := decide_eq_false hneg
            go_wp2_with fail
            refine ((unhide HZ) _).mono ?_
            rintro e w1 ⟨rfl, rfl⟩
            go_wp2_with fail
            go_round
            case rel => exact ⟨k + 1, L - sl, by omega, by go_num, rfl, by omega, by omega, by rw [unhide HR, unhide HS]⟩
            case measure => simp [intOf]; omega
        · obtain rfl : k = len := by omega
          have hend : zss.drop k = [] := List.drop_eq_nil_of_le (by rw [unhide HL]; exact Nat.le_refl _)
          rw [hend] at hrest
          have HR := hide hrest
          clear hrest hend
          go_wp2_with fail
          go_ret
          exact ⟨ret_int (by rw [unhide HE, unhide HR]; rfl), rfl⟩

end Go.Proofs.Ytndkdngojjhinaa
