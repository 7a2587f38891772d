/- What is proved here: AddWide of the program and of the model, for every two slices of numbers. -/
import Derived.Test.YtakkhocaloigeaaWdQ
namespace Go.Proofs.Ytakkhocaloigeaa
open Go.RowKit
set_option linter.unusedVariables false

/-- The code and the limbs of AddWide. -/
def awCode (xs ys : List Int) : Int := if wf2 xs ys = 0 then (if caW xs ys 8 = 0 then 0 else 10) else wf2 xs ys
def awList (xs ys : List Int) : List Int := if wf2 xs ys = 0 ∧ caW xs ys 8 = 0 then sumL xs ys else []

theorem awList_length (xs ys : List Int) : (awList xs ys).length ≤ 8 := by
  unfold awList
  split
  · rw [sumL_length]; omega
  · simp

theorem aw_fault (xs ys : List Int) (h : wf2 xs ys ≠ 0) : awCode xs ys = wf2 xs ys ∧ awList xs ys = [] := ⟨if_neg h, if_neg (fun e => h e.1)⟩
theorem aw_full (xs ys : List Int) (h : wf2 xs ys = 0) (hc : caW xs ys 8 ≠ 0) : awCode xs ys = 10 ∧ awList xs ys = [] := ⟨by unfold awCode; rw [if_pos h, if_neg hc], if_neg (fun e => hc e.2)⟩
theorem aw_ok (xs ys : List Int) (h : wf2 xs ys = 0) (hc : caW xs ys 8 = 0) : awCode xs ys = 0 ∧ awList xs ys = sumL xs ys := ⟨by unfold awCode; rw [if_pos h, if_pos hc], if_pos ⟨h, hc⟩⟩

theorem wf2_both (xs ys : List Int) (h : wf2 xs ys = 0) : wfCode xs = 0 ∧ wfCode ys = 0 := by
  unfold wf2 at h
  split at h
  · exact ⟨by assumption, h⟩
  · contradiction

set_option maxHeartbeats 4000000 in
theorem implAW_any (a b : Option Addr) (n m cap cap2 : Nat) (xs ys : List Int) (w : World) (h : IRow w a n xs) (h2 : IRow w b m ys) (hl : n ≤ 1048576) (hl2 : m ≤ 1048576) :
    Calls Try.prog 11 #[.slice a n cap, .slice b m cap2] w fun e w' => ∃ a' cap', e = .returned (.agg #[.int .i64 (awCode xs ys), .slice a' (awList xs ys).length cap']) ∧
      w'.ownsRow w.heap.size 2 1 (.slice a' (awList xs ys).length cap') (awList xs ys).length ((awList xs ys).map (Value.int .i64)) ∧ Below w.heap.size w w' := by
  obtain ⟨w0, hw0⟩ : ∃ w0, w0 = w.alloc (.cells #[.int .i64 0, .slice none 0 0] 28) := ⟨_, rfl⟩
  have e0 := hw0.symm
  have hb0 : Below w.heap.size w w0 := by rw [hw0]; exact below_alloc w _
  have hres : w0.heap[w.heap.size]? = some (.cells #[.int .i64 0, .slice none 0 0] 28 (0, 0)) := by
    rw [hw0]
    show (w.heap.push _)[w.heap.size]? = _
    simp
  have hx0 := h.below hb0 (Nat.le_refl _)
  have hy0 := h2.below hb0 (Nat.le_refl _)
  have HF := hide (bothFault_any a b n m cap cap2 xs ys w0 hx0 hy0 hl hl2)
  have hs0 : w.heap.size < w0.heap.size := lt_of_block hres
  clear hw0
  by_cases hc : wf2 xs ys = 0
  · obtain ⟨hcx, hcy⟩ := wf2_both xs ys hc
    obtain ⟨hxl, hxr⟩ := wf_zero xs hcx
    obtain ⟨hyl, hyr⟩ := wf_zero ys hcy
    have EOK := hide (aw_ok xs ys hc)
    have EFU := hide (aw_full xs ys hc)
    rw [hc] at HF
    obtain rfl : n = 8 := by rw [← h.1]; exact hxl
    obtain rfl : m = 8 := by rw [← h2.1]; exact hyl
    obtain ⟨ba, oa, rfl, hba, hca⟩ := h.at (by omega)
    obtain ⟨bb, ob, rfl, hbb, hcb⟩ := h2.at (by omega)
    have HX := hide hx0
    have HY := hide hy0
    have HPL := hide (plus_any xs ys hxl hyl hxr hyr)
    have HWX := hide (fun W (hW : IRow W (some ⟨ba, oa, none⟩) 8 xs) => wideIn_any ba oa cap xs W hW)
    have HWY := hide (fun W (hW : IRow W (some ⟨bb, ob, none⟩) 8 ys) => wideIn_any bb ob cap2 ys W hW)
    have HSL := hide (sumL_length xs ys)
    have HLO := hide (limbsOf_any (sumL xs ys) (sumL_length xs ys))
    generalize sumL xs ys = SL at HSL HLO HPL EOK
    generalize awCode xs ys = ac at EOK EFU ⊢
    generalize awList xs ys = al at EOK EFU ⊢
    generalize caW xs ys 8 = c at HPL EOK EFU
    have HB := hide hb0
    have HR := hide hres
    clear hc hcx hcy hca hcb h h2 hx0 hy0 hb0 hres hxl hyl hxr hyr
    generalize nvals xs = V at HPL HWX
    generalize nvals ys = U at HPL HWY
    by_cases hc0 : c = 0
    · obtain ⟨rfl, rfl⟩ := (unhide EOK) hc0
      have hd : (c != 0) = false := by simp [hc0]
      rw [unhide HSL]
      clear EOK EFU hc0
      go_enter Try.func11, Try.ntmps11
      go_wp2_with (rw [e0])
      refine (unhide HF).mono ?_
      rintro e w' ⟨rfl, rfl⟩
      go_wp2_with fail
      refine ((unhide HWX) _ (unhide HX)).mono ?_
      rintro e w2 ⟨rfl, b2⟩
      go_wp2_with fail
      refine ((unhide HWY) _ ((unhide HY).below b2 (Nat.le_refl _))).mono ?_
      rintro e w3 ⟨rfl, b3⟩
      go_wp2_with fail
      refine ((unhide HPL) _).mono ?_
      rintro e w4 ⟨rfl, b4⟩
      have k3 := b2.trans (b3.mono b2.size)
      have k4 := k3.trans (b4.mono k3.size)
      clear b2 b3 b4 k3
      obtain ⟨w5, hw5⟩ : ∃ w5, w5 = w4.alloc (.cells #[.int .i64 0, .int .i64 0, .int .i64 0, .int .i64 0, .int .i64 0, .int .i64 0, .int .i64 0, .int .i64 0] 52) := ⟨_, rfl⟩
      have e5 := hw5.symm
      have S5 : NBlk w5 w4.heap.size (List.replicate 8 0) 52 := by
        rw [hw5]
        exact NBlk.new w4 (List.replicate 8 0) _
      have G5 : Below w4.heap.size w4 w5 := by rw [hw5]; exact below_alloc w4 _
      obtain ⟨w6, hst, S6, K6, O6⟩ := store8 S5 (by simp) (unhide HSL)
      have HST := hide hst
      have HLD := hide (load8 S6 (unhide HSL))
      have k6 := k4.trans ((G5.trans (K6 _ (Nat.le_refl _))).mono k4.size)
      have HK := hide k6
      clear hst S6 K6 O6 S5 G5 hw5 k4 k6
      generalize nvals al = S8 at HST HLD HLO
      go_wp2_with (first | rw [e5] | refine wpList_store_by rfl 52 _ _ rfl _ _ rfl rfl _ (unhide HST) ?_ | refine wpList_load_by rfl 52 _ rfl _ _ rfl (unhide HLD) ?_)
      refine ((unhide HLO) _).mono ?_
      rintro e w7 ⟨rfl, o7, b7⟩
      have k7 := (unhide HK).trans (b7.mono (unhide HK).size)
      have G7 := (unhide HB).trans (k7.mono (unhide HB).size)
      have R7 := (k7.block _ hs0).trans (unhide HR)
      have hs6 : w.heap.size < w6.heap.size := Nat.lt_of_lt_of_le hs0 (unhide HK).size
      obtain ⟨q0, q1, f0, f1⟩ := res_facts R7
      have HO := hide o7
      have HG := hide G7
      clear b7 k7 R7 o7 G7
      go_wp2_with fail
      refine bodyPost_ret (v := .agg #[.int .i64 0, .slice (some ⟨w6.heap.size + 1, 0, none⟩) 8 8]) (by simp [results, Try.results11, go_sem, q0, q1]) rfl ⟨_, 8, rfl, ?_, ?_⟩
      · exact ownsRow_base (ownsRow_setCell_below (ownsRow_setCell_below (unhide HO) hs6 _) hs6 _) (Nat.le_of_lt hs6)
      · exact ((unhide HG).setCell (by simp) _).setCell (by simp) _
    · obtain ⟨rfl, rfl⟩ := (unhide EFU) hc0
      have hd : (c != 0) = true := by simp [hc0]
      clear EOK EFU hc0
      go_enter Try.func11, Try.ntmps11
      go_wp2_with (rw [e0])
      refine (unhide HF).mono ?_
      rintro e w' ⟨rfl, rfl⟩
      go_wp2_with fail
      refine ((unhide HWX) _ (unhide HX)).mono ?_
      rintro e w2 ⟨rfl, b2⟩
      go_wp2_with fail
      refine ((unhide HWY) _ ((unhide HY).below b2 (Nat.le_refl _))).mono ?_
      rintro e w3 ⟨rfl, b3⟩
      go_wp2_with fail
      refine ((unhide HPL) _).mono ?_
      rintro e w4 ⟨rfl, b4⟩
      have k3 := b2.trans (b3.mono b2.size)
      have k4 := k3.trans (b4.mono k3.size)
      clear b2 b3 b4 k3
      obtain ⟨w5, hw5⟩ : ∃ w5, w5 = w4.alloc (.cells #[.int .i64 0, .int .i64 0, .int .i64 0, .int .i64 0, .int .i64 0, .int .i64 0, .int .i64 0, .int .i64 0] 52) := ⟨_, rfl⟩
      have e5 := hw5.symm
      have S5 : NBlk w5 w4.heap.size (List.replicate 8 0) 52 := by
        rw [hw5]
        exact NBlk.new w4 (List.replicate 8 0) _
      have G5 : Below w4.heap.size w4 w5 := by rw [hw5]; exact below_alloc w4 _
      obtain ⟨w6, hst, S6, K6, O6⟩ := store8 S5 (by simp) (unhide HSL)
      have HST := hide hst
      have k6 := k4.trans ((G5.trans (K6 _ (Nat.le_refl _))).mono k4.size)
      have G6 := (unhide HB).trans (k6.mono (unhide HB).size)
      have R6 := (k6.block _ hs0).trans (unhide HR)
      obtain ⟨q0, q1, f0, f1⟩ := res_facts R6
      have HG := hide G6
      clear hst S6 K6 O6 S5 G5 hw5 k4 k6 R6 G6
      generalize nvals SL = S8 at HST HLO
      go_wp2_with (first | rw [e5] | refine wpList_store_by rfl 52 _ _ rfl _ _ rfl rfl _ (unhide HST) ?_)
      exact bodyPost_ret (v := .agg #[.int .i64 10, .slice none 0 0]) (by simp [results, Try.results11, go_sem, q0, q1]) rfl ⟨none, 0, rfl, World.ownsRow_nil _ _ _ _, ((unhide HG).setCell (by simp) _).setCell (by simp) _⟩
  · obtain ⟨ea, el⟩ := aw_fault xs ys hc
    rw [ea, el]
    have hd : (wf2 xs ys != 0) = true := by simp [hc]
    generalize wf2 xs ys = c at HF hd
    obtain ⟨q0, q1, f0, f1⟩ := res_facts hres
    clear ea el h h2 hx0 hy0 hc hres
    go_enter Try.func11, Try.ntmps11
    go_wp2_with (rw [e0])
    refine (unhide HF).mono ?_
    rintro e w' ⟨rfl, rfl⟩
    go_wp2_with fail
    exact bodyPost_ret (v := .agg #[.int .i64 c, .slice none 0 0]) (by simp [results, Try.results11, go_sem, q0, q1]) rfl ⟨none, 0, rfl, World.ownsRow_nil _ _ _ _, (hb0.setCell (by simp) _).setCell (by simp) _⟩

set_option maxHeartbeats 4000000 in
theorem specAW_any (a b : Option Addr) (n m cap cap2 : Nat) (xs ys : List Int) (w : World) (h : IRow w a n xs) (h2 : IRow w b m ys) (hl : n ≤ 1048576) (hl2 : m ≤ 1048576) :
    Calls Try.prog 12 #[.slice a n cap, .slice b m cap2] w fun e w' => ∃ a' cap', e = .returned (.agg #[.int .i64 (awCode xs ys), .slice a' (awList xs ys).length cap']) ∧
      w'.ownsRow w.heap.size 2 1 (.slice a' (awList xs ys).length cap') (awList xs ys).length ((awList xs ys).map (Value.int .i64)) ∧ Below w.heap.size w w' := by
  obtain ⟨w0, hw0⟩ : ∃ w0, w0 = w.alloc (.cells #[.int .i64 0, .slice none 0 0] 28) := ⟨_, rfl⟩
  have e0 := hw0.symm
  have hb0 : Below w.heap.size w w0 := by rw [hw0]; exact below_alloc w _
  have hres : w0.heap[w.heap.size]? = some (.cells #[.int .i64 0, .slice none 0 0] 28 (0, 0)) := by
    rw [hw0]
    show (w.heap.push _)[w.heap.size]? = _
    simp
  have hx0 := h.below hb0 (Nat.le_refl _)
  have hy0 := h2.below hb0 (Nat.le_refl _)
  have HF := hide (l4Two_any a b n m cap cap2 xs ys w0 hx0 hy0 hl hl2)
  have hs0 : w.heap.size < w0.heap.size := lt_of_block hres
  clear hw0
  by_cases hc : wf2 xs ys = 0
  · obtain ⟨hcx, hcy⟩ := wf2_both xs ys hc
    obtain ⟨hxl, hxr⟩ := wf_zero xs hcx
    obtain ⟨hyl, hyr⟩ := wf_zero ys hcy
    have EOK := hide (aw_ok xs ys hc)
    have EFU := hide (aw_full xs ys hc)
    rw [hc] at HF
    obtain rfl : n = 8 := by rw [← h.1]; exact hxl
    obtain rfl : m = 8 := by rw [← h2.1]; exact hyl
    obtain ⟨ba, oa, rfl, hba, hca⟩ := h.at (by omega)
    obtain ⟨bb, ob, rfl, hbb, hcb⟩ := h2.at (by omega)
    have HSL := hide (sumL_length xs ys)
    have HLO := hide (l4Add_any ba bb oa ob cap cap2 xs ys w0 hx0 hy0 hxr hyr)
    generalize sumL xs ys = SL at HSL HLO EOK
    generalize awCode xs ys = ac at EOK EFU ⊢
    generalize awList xs ys = al at EOK EFU ⊢
    generalize caW xs ys 8 = c at HLO EOK EFU
    have HB := hide hb0
    have HR := hide hres
    clear hc hcx hcy hca hcb h h2 hx0 hy0 hb0 hres hxl hyl hxr hyr
    by_cases hc0 : c = 0
    · obtain ⟨rfl, rfl⟩ := (unhide EOK) hc0
      have hd : (c == 0) = true := by simp [hc0]
      rw [hd] at HLO
      rw [unhide HSL]
      clear EOK EFU hc0 hd
      go_enter Try.func12, Try.ntmps12
      go_wp2_with (rw [e0])
      refine (unhide HF).mono ?_
      rintro e w' ⟨rfl, rfl⟩
      go_wp2_with fail
      refine (unhide HLO).mono ?_
      rintro e w7 ⟨a7, c7, rfl, o7, k7⟩
      have G7 := (unhide HB).trans (k7.mono (unhide HB).size)
      have R7 := (k7.block _ hs0).trans (unhide HR)
      obtain ⟨q0, q1, f0, f1⟩ := res_facts R7
      have HO := hide o7
      have HG := hide G7
      clear k7 R7 o7 G7
      go_wp2_with fail
      refine bodyPost_ret (v := .agg #[.int .i64 0, .slice a7 8 c7]) (by simp [results, Try.results12, go_sem, q0, q1]) rfl ⟨_, c7, rfl, ?_, ?_⟩
      · exact ownsRow_base (ownsRow_setCell_below (ownsRow_setCell_below (unhide HO) hs0 _) hs0 _) (Nat.le_of_lt hs0)
      · exact ((unhide HG).setCell (by simp) _).setCell (by simp) _
    · obtain ⟨rfl, rfl⟩ := (unhide EFU) hc0
      have hd : (c == 0) = false := by simp [hc0]
      rw [hd] at HLO
      clear EOK EFU hc0 hd
      go_enter Try.func12, Try.ntmps12
      go_wp2_with (rw [e0])
      refine (unhide HF).mono ?_
      rintro e w' ⟨rfl, rfl⟩
      go_wp2_with fail
      refine (unhide HLO).mono ?_
      rintro e w7 ⟨a7, c7, rfl, o7, k7⟩
      have G7 := (unhide HB).trans (k7.mono (unhide HB).size)
      have R7 := (k7.block _ hs0).trans (unhide HR)
      obtain ⟨q0, q1, f0, f1⟩ := res_facts R7
      have HG := hide G7
      clear k7 R7 o7 G7
      go_wp2_with fail
      exact bodyPost_ret (v := .agg #[.int .i64 10, .slice none 0 0]) (by simp [results, Try.results12, go_sem, q0, q1]) rfl ⟨none, 0, rfl, World.ownsRow_nil _ _ _ _, ((unhide HG).setCell (by simp) _).setCell (by simp) _⟩
  · obtain ⟨ea, el⟩ := aw_fault xs ys hc
    rw [ea, el]
    have hd : (wf2 xs ys != 0) = true := by simp [hc]
    generalize wf2 xs ys = c at HF hd
    obtain ⟨q0, q1, f0, f1⟩ := res_facts hres
    clear ea el h h2 hx0 hy0 hc hres
    go_enter Try.func12, Try.ntmps12
    go_wp2_with (rw [e0])
    refine (unhide HF).mono ?_
    rintro e w' ⟨rfl, rfl⟩
    go_wp2_with fail
    exact bodyPost_ret (v := .agg #[.int .i64 c, .slice none 0 0]) (by simp [results, Try.results12, go_sem, q0, q1]) rfl ⟨none, 0, rfl, World.ownsRow_nil _ _ _ _, (hb0.setCell (by simp) _).setCell (by simp) _⟩

end Go.Proofs.Ytakkhocaloigeaa
