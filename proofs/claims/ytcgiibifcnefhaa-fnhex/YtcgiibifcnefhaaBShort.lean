/- What is proved here: what BytesShort answers, in the program and in the model, for slices of at most 2^20 bytes: the same code and the same number. -/
import Derived.Test.YtcgiibifcnefhaaChecked
import Derived.Test.YtcgiibifcnefhaaBase
import Derived.Test.YtcgiibifcnefhaaShortNum
import Derived.WalkKit
import Derived.WalkLawsBesides
import Derived.WalkSpells
import Derived.KernelRfl
namespace Go.Proofs.Ytcgiibifcnefhaa
open Go.RowKit
set_option linter.unusedVariables false

set_option maxHeartbeats 1000000 in
theorem implBShort_any (a : Option Addr) (len cap : Nat) (xs : List Int) (w : World) (h : BRow w a len xs) (hl : len ≤ 1048576) :
    Calls Try.prog 10 #[.slice a len cap] w fun e w' => e = .returned (.agg #[.int .i64 (codeB xs), .int .i64 (valB xs)]) ∧ Below w.heap.size w w' := by
  by_cases h7 : 7 < len
  · have e := bad_res (bad_long (xs := xs) (by rw [h.1]; exact h7))
    rw [e.1, e.2]
    clear h e
    go_enter Try.func10, Try.ntmps10
    go_wp2
    exact bodyPost_ret (v := .agg #[.int .i64 5, .int .i64 0]) (by simp [results, Try.results10, go_sem]) rfl ⟨rfl, (Below.refl _ _).alloc (Nat.le_refl _) _⟩
  · rcases Nat.eq_zero_or_pos len with h0 | hp
    · subst h0
      have hx : xs = [] := List.length_eq_zero_iff.1 h.1
      subst hx
      have e : codeB [] = 0 ∧ valB [] = 0 := by decide
      rw [e.1, e.2]
      clear h e
      go_enter Try.func10, Try.ntmps10
      go_wp2
      refine wp_loop_rounds 1 ?_
      rw [rounds_succ]
      go_wp2
      exact bodyPost_ret (v := .agg #[.int .i64 0, .int .i64 0]) (by simp [results, Try.results10, go_sem]) rfl ⟨rfl, ((Below.refl _ _).alloc (Nat.le_refl _) _)⟩
    · obtain ⟨b, off, rfl, hb, hc⟩ := h.at hp
      have hxl := h.1
      have hxb := h.2.1
      have hc' : ∀ (o : Obj) (i : Nat), i < len → (w.alloc o).cell? ⟨b, off + i, none⟩ = some (.int .u8 (xs.getD i 0)) := fun o i hi => by
        rw [Below.cell ((Below.refl w.heap.size w).alloc (Nat.le_refl _) o) hb]; exact hc i hi
      have hz : ∀ o : Obj, (w.alloc o).cell? ⟨b, off, none⟩ = some (.int .u8 (xs.getD 0 0)) := fun o => hc' o 0 hp
      have HC := hide hc'
      have HXB := hide hxb
      have hr0 := range_at xs hxb 0 (by omega)
      have HX0 : Hid (∃ x0, x0 = xs.getD 0 0) := ⟨_, rfl⟩
      clear h hc hc' hxb
      by_cases hx0 : xs.getD 0 0 = 0
      · have e := bad_res (bad_zero (by omega) hx0)
        rw [e.1, e.2]
        rw [hx0] at hz
        clear e hx0 hr0
        have i2 : (0 : Int) < (len : Int) := by omega
        go_enter Try.func10, Try.ntmps10
        go_wp2
        exact bodyPost_ret (v := .agg #[.int .i64 5, .int .i64 0]) (by simp [results, Try.results10, go_sem]) rfl ⟨rfl, (Below.refl _ _).alloc (Nat.le_refl _) _⟩
      · have G := @bad_none xs (by omega) (fun _ => hx0)
        have HG := hide G
        clear G
        generalize xs.getD 0 0 = x0 at hz hx0 hr0
        have hne : (x0 == 0) = false := by rw [beq_eq_false_iff_ne]; exact hx0
        have i2 : (0 : Int) < (len : Int) := by omega
        go_enter Try.func10, Try.ntmps10
        go_wp2
        go_loop [3, 23] (fun v i => ∃ k : Nat, k ≤ len ∧ i = .int .i64 k ∧ v = .int .i64 (numB (xs.take k))) (fun _ i => len - (intOf i).toNat)
        case atStart => exact ⟨0, Nat.zero_le _, rfl, rfl⟩
        case round =>
          obtain ⟨k, hk, rfl, rfl⟩ := hrel
          by_cases hlt : k < len
          · have hck := fun o => (unhide HC) o k hlt
            have hxk := range_at xs (unhide HXB) k (by omega)
            have hbd := numB_bd6 xs (unhide HXB) k (by omega)
            have HS := hide (numB_snoc xs k (by omega))
            generalize xs.getD k 0 = x at hck hxk HS
            generalize numB (xs.take k) = v at hbd HS
            go_wp2
            go_round
            case rel => exact ⟨k + 1, by omega, by go_num, by rw [unhide HS]⟩
            case measure => simp [intOf]; omega
          · obtain rfl : k = len := by omega
            have hbd := numB_bd7 xs (unhide HXB) (by omega)
            rw [List.take_of_length_le (by omega)]
            by_cases hbig : 1125899906842624 < numB xs
            · have HE := hide (bad_res (bad_big hbig))
              generalize numB xs = v at hbig hbd
              go_wp2
              rw [(unhide HE).1, (unhide HE).2]
              exact bodyPost_ret (v := .agg #[.int .i64 5, .int .i64 0]) (by simp [results, Try.results10, go_sem]) rfl ⟨rfl, (Below.refl _ _).alloc (Nat.le_refl _) _⟩
            · have HE := hide (good_res ((unhide HG) (by omega)))
              generalize numB xs = v at hbig hbd HE
              go_wp2
              rw [(unhide HE).1, (unhide HE).2]
              exact bodyPost_ret (v := .agg #[.int .i64 0, .int .i64 v]) (by simp [results, Try.results10, go_sem]) rfl ⟨rfl, (Below.refl _ _).alloc (Nat.le_refl _) _⟩

set_option maxHeartbeats 1000000 in
theorem l1Number_any (a : Option Addr) (len cap : Nat) (xs : List Int) (w : World) (h : BRow w a len xs) (hl : len ≤ 1048576) :
    Calls Try.prog 28 #[.slice a len cap] w fun e w' => (∃ m : Int, e = .returned (.tuple #[.int .i64 m, .bool (!badB xs)]) ∧ (badB xs = false → m = numB xs)) ∧ w' = w := by
  by_cases h7 : 7 < len
  · have e := bad_long (xs := xs) (by rw [h.1]; exact h7)
    have HE := hide e
    clear h e
    go_enter Try.func28, Try.ntmps28
    go_wp2
    go_ret2
    exact ⟨⟨0, ret_tup rfl (by rw [unhide HE]; rfl), fun e => by rw [unhide HE] at e; cases e⟩, rfl⟩
  · rcases Nat.eq_zero_or_pos len with h0 | hp
    · subst h0
      have hx : xs = [] := List.length_eq_zero_iff.1 h.1
      subst hx
      have e : badB [] = false := by decide
      have HE := hide e
      clear h e
      go_enter Try.func28, Try.ntmps28
      go_wp2
      refine wp_loop_rounds 1 ?_
      rw [rounds_succ]
      go_wp2
      go_ret2
      exact ⟨⟨0, ret_tup rfl (by rw [unhide HE]; rfl), fun _ => rfl⟩, rfl⟩
    · obtain ⟨b, off, rfl, hb, hc⟩ := h.at hp
      have hxl := h.1
      have hxb := h.2.1
      have hz : w.cell? ⟨b, off, none⟩ = some (.int .u8 (xs.getD 0 0)) := hc 0 hp
      have HC := hide hc
      have HXB := hide hxb
      have hr0 := range_at xs hxb 0 (by omega)
      clear h hc hxb
      by_cases hx0 : xs.getD 0 0 = 0
      · have e := bad_zero (by omega) hx0
        rw [hx0] at hz
        have HE := hide e
        clear e hx0 hr0
        have i2 : (0 : Int) < (len : Int) := by omega
        go_enter Try.func28, Try.ntmps28
        go_wp2
        go_ret2
        exact ⟨⟨0, ret_tup rfl (by rw [unhide HE]; rfl), fun e => by rw [unhide HE] at e; cases e⟩, rfl⟩
      · have G := @bad_none xs (by omega) (fun _ => hx0)
        have HG := hide G
        clear G
        generalize xs.getD 0 0 = x0 at hz hx0 hr0
        have hne : (x0 == 0) = false := by rw [beq_eq_false_iff_ne]; exact hx0
        have i2 : (0 : Int) < (len : Int) := by omega
        go_enter Try.func28, Try.ntmps28
        go_wp2
        go_loop [4, 5] (fun v i => ∃ k : Nat, k ≤ len ∧ i = .int .i64 k ∧ v = .int .i64 (numB (xs.take k))) (fun _ i => len - (intOf i).toNat)
        case atStart => exact ⟨0, Nat.zero_le _, rfl, rfl⟩
        case round =>
          obtain ⟨k, hk, rfl, rfl⟩ := hrel
          by_cases hlt : k < len
          · have hck := (unhide HC) k hlt
            have hxk := range_at xs (unhide HXB) k (by omega)
            have hbd := numB_bd6 xs (unhide HXB) k (by omega)
            have HS := hide (numB_snoc xs k (by omega))
            generalize xs.getD k 0 = x at hck hxk HS
            generalize numB (xs.take k) = v at hbd HS
            go_wp2
            go_round
            case rel => exact ⟨k + 1, by omega, by go_num, by rw [unhide HS, Int.mul_comm 256 v]⟩
            case measure => simp [intOf]; omega
          · obtain rfl : k = len := by omega
            have hbd := numB_bd7 xs (unhide HXB) (by omega)
            rw [List.take_of_length_le (by omega)]
            by_cases hbig : 1125899906842624 < numB xs
            · have HE := hide (bad_big hbig)
              generalize numB xs = v at hbig hbd
              go_wp2
              go_ret2
              exact ⟨⟨v, ret_tup rfl (by rw [unhide HE]; exact decide_eq_false (by omega)), fun e => by rw [unhide HE] at e; cases e⟩, rfl⟩
            · have HE := hide ((unhide HG) (by omega))
              generalize hv : numB xs = v at hbig hbd
              have HV := hide hv
              clear hv
              go_wp2
              go_ret2
              exact ⟨⟨v, ret_tup rfl (by rw [unhide HE]; rfl), fun _ => (unhide HV).symm⟩, rfl⟩

set_option maxHeartbeats 1000000 in
theorem specBShort_any (a : Option Addr) (len cap : Nat) (xs : List Int) (w : World) (h : BRow w a len xs) (hl : len ≤ 1048576) :
    Calls Try.prog 13 #[.slice a len cap] w fun e w' => e = .returned (.agg #[.int .i64 (codeB xs), .int .i64 (valB xs)]) ∧ Below w.heap.size w w' := by
  have H := fun o => l1Number_any a len cap xs (w.alloc o) (h.below ((Below.refl w.heap.size w).alloc (Nat.le_refl _) o) (Nat.le_refl _)) hl
  have HH := hide H
  clear H
  cases hb : badB xs with
  | true =>
    have HE := hide (bad_res hb)
    go_enter Try.func13, Try.ntmps13
    go_wp2_with fail
    refine ((unhide HH) _).mono ?_
    rintro e w1 ⟨⟨m, rfl, _⟩, rfl⟩
    rw [hb]
    go_wp2
    rw [(unhide HE).1, (unhide HE).2]
    exact bodyPost_ret (v := .agg #[.int .i64 5, .int .i64 0]) (by simp [results, Try.results13, go_sem]) rfl ⟨rfl, (Below.refl _ _).alloc (Nat.le_refl _) _⟩
  | false =>
    have HE := hide (good_res hb)
    go_enter Try.func13, Try.ntmps13
    go_wp2_with fail
    refine ((unhide HH) _).mono ?_
    rintro e w1 ⟨⟨m, rfl, hm⟩, rfl⟩
    have hm := hm hb
    subst hm
    rw [hb]
    generalize numB xs = m at HE
    go_wp2
    rw [(unhide HE).1, (unhide HE).2]
    exact bodyPost_ret (v := .agg #[.int .i64 0, .int .i64 m]) (by simp [results, Try.results13, go_sem]) rfl ⟨rfl, (Below.refl _ _).alloc (Nat.le_refl _) _⟩

end Go.Proofs.Ytcgiibifcnefhaa
