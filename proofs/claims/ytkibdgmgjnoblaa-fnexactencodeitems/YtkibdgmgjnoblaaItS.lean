/- What is proved here: the contracts of the laws' helper functions on slices of items that count them and copy them (szItemS, toItemS). -/
import Derived.Test.YtkibdgmgjnoblaaChecked
import Derived.Test.YtkibdgmgjnoblaaBase
import Derived.Test.YtkibdgmgjnoblaaInfo
import Derived.Test.YtkibdgmgjnoblaaByteS
import Derived.Test.YtkibdgmgjnoblaaItF
import Derived.WalkKit
import Derived.WalkLawsBesides
import Derived.WalkSmall
import Derived.KernelRfl
import Derived.WalkSpells
namespace Go.Proofs.Ytkibdgmgjnoblaa
open Go.RowKit
set_option linter.unusedVariables false

theorem szByteS_any (a : Option Addr) (n cap : Nat) (left : Int) (w : World) (h0 : 0 ≤ left) (h1 : left ≤ 1099511627776) (hn : n ≤ maxLen) :
    Calls Try.prog 48 #[.slice a n cap, .int .i64 left] w fun e w' => e = .returned (.int .i64 (if left - n < 0 then -1 else left - n)) ∧ w' = w := by
  unfold maxLen at hn
  by_cases h : left - n < 0
  · rw [if_pos h]
    have hd : decide (left - (n : Int) < 0) = true := decide_eq_true h
    go_enter Try.func48, Try.ntmps48
    go_wp2
    go_ret
    exact ⟨rfl, rfl⟩
  · rw [if_neg h]
    have hd : decide (left - (n : Int) < 0) = false := decide_eq_false h
    go_enter Try.func48, Try.ntmps48
    go_wp2
    go_ret
    exact ⟨rfl, rfl⟩

theorem szItem_any (l : Bool) (p : Int) (a : Option Addr) (n cap : Nat) (left : Int) (w : World) (h0 : 0 ≤ left) (h1 : left ≤ 1099511627776) (hn : n ≤ maxLen) :
    Calls Try.prog 32 #[.agg #[.bool l, .int .i64 p, .slice a n cap], .int .i64 left] w fun e w' => e = .returned (.int .i64 (if left - n < 0 then -1 else left - n)) ∧ Below w.heap.size w w' := by
  have HB := hide (below_alloc w (.cells #[.bool l, .int .i64 p, .slice a n cap] 56))
  have HS := hide (fun W => szByteS_any a n cap left W h0 h1 hn)
  by_cases h : left - n < 0
  · rw [if_pos h] at HS ⊢
    go_enter Try.func32, Try.ntmps32
    go_wp2_with fail
    refine ((unhide HS) _).mono ?_
    rintro e w' ⟨rfl, rfl⟩
    go_wp2_with fail
    go_ret
    exact ⟨rfl, unhide HB⟩
  · rw [if_neg h] at HS ⊢
    have hd : decide (left - (n : Int) < 0) = false := decide_eq_false h
    go_enter Try.func32, Try.ntmps32
    go_wp2_with fail
    refine ((unhide HS) _).mono ?_
    rintro e w' ⟨rfl, rfl⟩
    go_wp2_with fail
    go_ret
    exact ⟨rfl, unhide HB⟩

set_option maxHeartbeats 1000000 in
theorem szItemS_any (a : Option Addr) (len cap : Nat) (its : List It) (left : Int) (w : World) (h : ItRow w a len its) (hl : len ≤ maxLen) (h0 : 0 ≤ left) (h1 : left ≤ 1099511627776) :
    Calls Try.prog 12 #[.slice a len cap, .int .i64 left] w fun e w' => e = .returned (.int .i64 (szAll left its)) ∧ Below w.heap.size w w' := by
  unfold maxLen at hl
  have hil := h.1
  by_cases hs : left - len < 0
  · have e : szAll left its = -1 := if_pos (by rw [hil]; exact hs)
    rw [e]
    have hd : decide (left - (len : Int) < 0) = true := decide_eq_true hs
    go_enter Try.func12, Try.ntmps12
    go_wp2_with fail
    go_ret
    exact ⟨rfl, Below.refl _ _⟩
  · have e : szAll left its = szIts (left - len) its := by rw [← hil]; exact if_neg (by rw [hil]; exact hs)
    have HE := hide e
    have hd : decide (left - (len : Int) < 0) = false := decide_eq_false hs
    clear e
    rcases Nat.eq_zero_or_pos len with hz | hp
    · subst hz
      have hn : its = [] := List.length_eq_zero_iff.1 hil
      subst hn
      clear h
      go_enter Try.func12, Try.ntmps12
      go_wp2_with fail
      refine wp_loop_rounds 1 ?_
      rw [rounds_succ]
      go_wp2_with fail
      go_ret
      exact ⟨ret_int (by rw [unhide HE]; simp [szIts]), Below.refl _ _⟩
    · obtain ⟨b, off, rfl, hb, hc⟩ := h.at hp
      have hok := h.2.1
      have HC := hide hc
      have HK := hide hok
      have HL := hide hil
      clear h hc hok hil
      go_enter Try.func12, Try.ntmps12
      go_wp2_with fail
      go_loopw [1, 5] (fun q i wr => ∃ (k : Nat) (L : Int), k ≤ len ∧ i = .int .i64 k ∧ q = .int .i64 L ∧ 0 ≤ L ∧ L ≤ left ∧ szIts (left - len) its = szIts L (its.drop k) ∧ Below w.heap.size w wr) (fun _ i _ => len - (intOf i).toNat)
      case atStart => exact ⟨0, _, Nat.zero_le _, rfl, rfl, by omega, by omega, by simp, Below.refl _ _⟩
      case round =>
        obtain ⟨k, L, hk, rfl, rfl, hL0, hL1, hrest, hbr⟩ := hrel
        by_cases hlt : k < len
        · obtain ⟨it, hit⟩ : ∃ it, its[k]? = some it := ⟨_, List.getElem?_eq_getElem (by rw [unhide HL]; exact hlt)⟩
          have hat := (unhide HC k it hit).below hbr (Nat.le_refl _)
          have hio := (unhide HK it (List.mem_of_getElem? hit)).2.2
          have hst := szIts_step its k it L hit
          obtain ⟨sa, sl, sc, c0, c1, c2, hbrow⟩ := hat
          have hsl : it.z.length = sl := hbrow.1
          rw [hsl] at hst hio
          have HR := hide hrest
          have HS := hide hst
          have HB := hide hbr
          have i1 : (0 : Int) ≤ (k : Int) := by omega
          have i2 : (k : Int) < (len : Int) := by omega
          generalize it.l = bl at c0
          generalize it.p = bp at c1
          clear hbrow hsl hrest hst hbr hit
          by_cases hneg : L - sl < 0
          · have HZ := hide (fun W => szItem_any bl bp sa sl sc L W hL0 (by omega) hio)
            rw [if_pos hneg] at HZ HS
            go_wp2_with fail
            refine ((unhide HZ) _).mono ?_
            rintro e w1 ⟨rfl, b1⟩
            go_wp2_with fail
            go_ret
            exact ⟨ret_int (by rw [unhide HE, unhide HR, unhide HS]), (unhide HB).trans (b1.mono (unhide HB).size)⟩
          · have HZ := hide (fun W => szItem_any bl bp sa sl sc L W hL0 (by omega) hio)
            rw [if_neg hneg] at HZ HS
            have hd2 : decide (L - (sl : Int) < 0) = false := decide_eq_false hneg
            go_wp2_with fail
            refine ((unhide HZ) _).mono ?_
            rintro e w1 ⟨rfl, b1⟩
            go_wp2_with fail
            go_roundw
            case rel => exact ⟨k + 1, L - sl, by omega, by go_num, rfl, by omega, by omega, by rw [unhide HR, unhide HS], (unhide HB).trans (b1.mono (unhide HB).size)⟩
            case measure => simp [intOf]; omega
        · obtain rfl : k = len := by omega
          have hend : its.drop k = [] := List.drop_eq_nil_of_le (by rw [unhide HL]; exact Nat.le_refl _)
          rw [hend] at hrest
          have HR := hide hrest
          clear hrest hend
          go_wp2_with fail
          go_ret
          exact ⟨ret_int (by rw [unhide HE, unhide HR]; rfl), hbr⟩

end Go.Proofs.Ytkibdgmgjnoblaa
