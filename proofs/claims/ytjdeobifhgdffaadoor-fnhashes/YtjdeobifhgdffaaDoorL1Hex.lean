/- What is proved here: what the model's l1Hex answers for slices of at most 2^20 bytes. -/
import Derived.Test.YtjdeobifhgdffaaDoorChecked
import Derived.Test.YtjdeobifhgdffaaDoorBase
import Derived.Test.YtjdeobifhgdffaaDoorInfo
import Derived.Test.YtjdeobifhgdffaaDoorHexEnc
import Derived.Test.YtjdeobifhgdffaaDoorLDig
import Derived.WalkKit
import Derived.WalkLawsBesides
import Derived.WalkSmall
import Derived.BigQuiet
import Derived.Deep.QuietTactic
import Derived.WalkSpells
import Derived.KernelRfl
namespace Go.Proofs.YtjdeobifhgdffaaDoor
open Go.RowKit
set_option linter.unusedVariables false

theorem u8_div (x : Int) (h0 : 0 ≤ x) (h1 : x ≤ 255) : IntKind.u8.wrap (x.tdiv 16) = x / 16 ∧ x.tmod 16 = x % 16 := by
  have e : x.tdiv 16 = x / 16 := Int.tdiv_eq_ediv_of_nonneg h0
  have e2 : x.tmod 16 = x % 16 := Int.tmod_eq_emod_of_nonneg h0
  rw [e, e2]
  refine ⟨?_, rfl⟩
  simp [IntKind.wrap, IntKind.bits, IntKind.signed]
  omega

set_option maxHeartbeats 1000000 in
theorem l1Hex_any (a : Option Addr) (len cap : Nat) (xs : List Int) (w : World) (h : BRow w a len xs) (hl : len ≤ 1048576) :
    Calls Tryd.prog 49 #[.slice a len cap] w fun e w' => e = .returned (.string (strOfNums (hexEnc xs))) ∧ ∃ n, w' = w.drewN n := by
  rcases Nat.eq_zero_or_pos len with h0 | hp
  · subst h0
    have hx : xs = [] := List.length_eq_zero_iff.1 h.1
    subst hx
    clear h hl
    go_enter Tryd.func49, Tryd.ntmps49
    go_wp2
    refine wp_loop_rounds 1 ?_
    rw [rounds_succ]
    go_wp2
    go_ret
    exact ⟨rfl, 0, rfl⟩
  · obtain ⟨b, off, rfl, hb, hc⟩ := h.at hp
    have hxl := h.1
    have hxb := h.2.1
    have HC := hide hc
    have HXB := hide hxb
    clear h hc hxb
    go_enter Tryd.func49, Tryd.ntmps49
    go_wp2
    go_loopw [3, 4] (fun o i wr => ∃ k n : Nat, k ≤ len ∧ i = .int .i64 k ∧ o = .string (strOfNums (hexEnc (xs.take k))) ∧ wr = w.drewN n) (fun _ i _ => len - (intOf i).toNat)
    case atStart => exact ⟨0, 0, Nat.zero_le _, rfl, rfl, rfl⟩
    case round =>
      obtain ⟨k, n, hk, rfl, rfl, hwr⟩ := hrel
      have HWR := hide hwr
      by_cases hlt : k < len
      · have hck : wr.cell? ⟨b, off + k, none⟩ = some (.int .u8 (xs.getD k 0)) := by
          rw [hwr]; exact (unhide HC) k hlt
        clear hwr
        have hxk := (unhide HXB) (xs.getD k 0) (by rw [getD_at _ _ (by omega)]; exact List.getElem_mem _)
        have HS := hide (hexEnc_snoc xs k (by omega))
        have hsz := hexEnc_length (xs.take k)
        have hsz2 : (strOfNums (hexEnc (xs.take k))).size = 2 * k := by
          rw [strOfNums_size, hsz, List.length_take]; omega
        have i1 : (0 : Int) ≤ (k : Int) := by omega
        have i2 : (k : Int) < (len : Int) := by omega
        clear hsz
        generalize xs.getD k 0 = x at hck hxk HS
        generalize hexEnc (xs.take k) = L at HS hsz2
        obtain ⟨e1, e2⟩ := u8_div x hxk.1 hxk.2
        go_wp2
        go_quiet ((go_at_call 61; exact Calls.quiet_of_same (l1Digit_any _ _ (by omega) (by omega))))
        go_wp2
        go_roundw
        case rel => exact ⟨k + 1, n + nq, by omega, by go_num, by rw [str_snoc _ _ (by omega) (by omega), str_snoc _ _ (by omega) (by omega), unhide HS]; simp, by rw [unhide HWR]; exact World.drewN_drewN ..⟩
        case measure => simp [intOf]; omega
      · obtain rfl : k = len := by omega
        clear hwr
        go_wp2
        go_ret
        refine ⟨?_, n, unhide HWR⟩
        rw [List.take_of_length_le (by omega)]
        rfl

/-- The code and the text that HexOf gives. -/
def hoCode (xs : List Int) : Int := if 1200 < xs.length then 2 else 0
def hoText (xs : List Int) : ByteArray := if 1200 < xs.length then strOfNums [] else strOfNums (hexEnc xs)

end Go.Proofs.YtjdeobifhgdffaaDoor
