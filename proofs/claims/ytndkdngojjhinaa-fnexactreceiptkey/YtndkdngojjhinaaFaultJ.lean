/- What is proved here: what the program's ItemsFault answers: the first fault of items. -/
import Derived.Test.YtndkdngojjhinaaFaultI
namespace Go.Proofs.Ytndkdngojjhinaa
open Go.RowKit
set_option linter.unusedVariables false
set_option maxRecDepth 100000

set_option maxHeartbeats 2000000 in
theorem implFault_any (a : Option Addr) (len cap : Nat) (its : List It) (w : World) (h : ItRow w a len its) (hl : len ≤ 1048576) :
    Calls Try.prog 32 #[.slice a len cap] w fun e w' => e = .returned (.int .i64 (itemsFlt its)) ∧ Below w.heap.size w w' := by
  have hil := h.1
  by_cases h1 : len < 1
  · have HE : Hid (itemsFlt its = 2) := by show _ = _; unfold itemsFlt; rw [if_pos (.inl (by rw [hil]; exact h1))]
    have hd : decide ((len : Int) < 1) = true := decide_eq_true (by omega)
    clear h hil
    go_enter Try.func32, Try.ntmps32
    go_wp2_with fail
    go_ret
    exact ⟨ret_int (unhide HE).symm, Below.refl _ _⟩
  · have d1 : decide ((len : Int) < 1) = false := decide_eq_false (by omega)
    by_cases h2 : 200 < len
    · have HE : Hid (itemsFlt its = 2) := by show _ = _; unfold itemsFlt; rw [if_pos (.inr (by rw [hil]; exact h2))]
      have hd : decide ((200 : Int) < (len : Int)) = true := decide_eq_true (by omega)
      clear h hil
      go_enter Try.func32, Try.ntmps32
      go_wp2_with fail
      go_ret
      exact ⟨ret_int (unhide HE).symm, Below.refl _ _⟩
    · have d2 : decide ((200 : Int) < (len : Int)) = false := decide_eq_false (by omega)
      have HE : Hid (itemsFlt its = fltFrom its 0 its) := by show _ = _; unfold itemsFlt; rw [if_neg (by omega)]
      have HW := hide (fun (W : World) (hb : Below w.heap.size w W) => h.below hb (Nat.le_refl _))
      have HL := hide hil
      clear h hil
      go_enter Try.func32, Try.ntmps32
      go_wp2_with fail
      go_loopw [15] (fun i wr => ∃ k : Nat, k ≤ len ∧ i = .int .i64 k ∧ UpOk its k ∧ fltFrom its 0 its = fltFrom its k (its.drop k) ∧ Below w.heap.size w wr) (fun i _ => len - (intOf i).toNat)
      case atStart => exact ⟨0, Nat.zero_le _, rfl, fun j it hj => absurd hj (Nat.not_lt_zero _), by simp, Below.refl _ _⟩
      case round =>
        obtain ⟨k, hk, rfl, hup, hpre, hbr⟩ := hrel
        by_cases hlt : k < len
        · obtain ⟨it, hit⟩ : ∃ it, its[k]? = some it := ⟨_, List.getElem?_eq_getElem (by rw [unhide HL]; exact hlt)⟩
          have hst := fltFrom_step its k it hit
          rw [← hpre] at hst
          have HF := hide (itemFault_any a len cap its k it wr ((unhide HW) wr hbr) hl hit hup)
          have HN : Hid (fltAt its k it = 0 → UpOk its (k + 1)) := fun e => upOk_step hup hit (fltAt_up e).1 (fltAt_up e).2
          have HS := hide hst
          have HB := hide hbr
          generalize fltAt its k it = c at HF HN HS
          have i2 : decide ((k : Int) < (len : Int)) = true := decide_eq_true (by omega)
          clear hst hpre hbr hup hit
          by_cases hc : c = 0
          · have HN1 := hide ((unhide HN) hc)
            have HS1 : Hid (fltFrom its 0 its = fltFrom its (k + 1) (its.drop (k + 1))) := by show _ = _; rw [unhide HS, if_pos hc]
            clear HN HS
            subst hc
            go_wp2_with fail
            refine (unhide HF).mono ?_
            rintro e w1 ⟨rfl, b1⟩
            go_wp2_with fail
            go_roundw
            case rel => exact ⟨k + 1, by omega, by go_num, unhide HN1, unhide HS1, (unhide HB).trans (b1.mono (unhide HB).size)⟩
            case measure => simp [intOf]; omega
          · have hne : (c != 0) = true := by simp [hc]
            go_wp2_with fail
            refine (unhide HF).mono ?_
            rintro e w1 ⟨rfl, b1⟩
            go_wp2_with fail
            go_ret
            exact ⟨ret_int (by rw [unhide HE, unhide HS, if_neg hc]), (unhide HB).trans (b1.mono (unhide HB).size)⟩
        · obtain rfl : k = len := by omega
          have e := fltFrom_end its k (by rw [unhide HL]; exact Nat.le_refl _)
          rw [e] at hpre
          have HP := hide hpre
          have i2 : decide ((k : Int) < (k : Int)) = false := decide_eq_false (by omega)
          clear e hpre hup
          go_wp2_with fail
          go_ret
          exact ⟨ret_int (by rw [unhide HE, unhide HP]), hbr⟩

end Go.Proofs.Ytndkdngojjhinaa
