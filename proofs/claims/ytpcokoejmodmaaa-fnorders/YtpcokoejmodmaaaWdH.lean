/- What is proved here: CompareWide of the program and of the model, for every two slices of numbers. -/
import Derived.Test.YtpcokoejmodmaaaWdG
namespace Go.Proofs.Ytpcokoejmodmaaa
open Go.RowKit
set_option linter.unusedVariables false

/-- What CompareWide answers beside the code. -/
def cwVal (xs ys : List Int) : Int := if wf2 xs ys = 0 then cmpW xs ys 8 else 0

theorem wf2_zero (xs ys : List Int) (h : wf2 xs ys = 0) : wfCode xs = 0 ∧ wfCode ys = 0 := by
  unfold wf2 at h
  split at h
  · exact ⟨by assumption, h⟩
  · contradiction

theorem cell2_facts {w : World} {b : Nat} {x y : Value} {t : TypeId} (h : w.heap[b]? = some (.cells #[x, y] t (0, 0))) : w.cell? ⟨b, 0, none⟩ = some x ∧ w.cell? ⟨b, 1, none⟩ = some y ∧ w.frozen? ⟨b, 0, none⟩ = false ∧ w.frozen? ⟨b, 1, none⟩ = false := res_facts h

set_option maxHeartbeats 2000000 in
theorem implCW_any (a b : Option Addr) (n m cap cap2 : Nat) (xs ys : List Int) (w : World) (h : IRow w a n xs) (h2 : IRow w b m ys) (hl : n ≤ 1048576) (hl2 : m ≤ 1048576) :
    Calls Try.prog 11 #[.slice a n cap, .slice b m cap2] w fun e w' => e = .returned (.agg #[.int .i64 (wf2 xs ys), .int .i64 (cwVal xs ys)]) ∧ Below w.heap.size w w' := by
  obtain ⟨w0, hw0⟩ : ∃ w0, w0 = w.alloc (.cells #[.int .i64 0, .int .i64 0] 37) := ⟨_, rfl⟩
  have e0 := hw0.symm
  have hb0 : Below w.heap.size w w0 := by rw [hw0]; exact below_alloc w _
  have hres : w0.heap[w.heap.size]? = some (.cells #[.int .i64 0, .int .i64 0] 37 (0, 0)) := by
    rw [hw0]
    show (w.heap.push _)[w.heap.size]? = _
    simp
  have hx0 := h.below hb0 (Nat.le_refl _)
  have hy0 := h2.below hb0 (Nat.le_refl _)
  have HF := hide (bothFault_any a b n m cap cap2 xs ys w0 hx0 hy0 hl hl2)
  have hs0 : w.heap.size < w0.heap.size := lt_of_block hres
  clear hw0
  by_cases hc : wf2 xs ys = 0
  · obtain ⟨hcx, hcy⟩ := wf2_zero xs ys hc
    have hxl := (wf_zero xs hcx).1
    have hyl := (wf_zero ys hcy).1
    have ev : cwVal xs ys = cmpW xs ys 8 := if_pos hc
    rw [ev, hc]
    rw [hc] at HF
    obtain rfl : n = 8 := by rw [← h.1]; exact hxl
    obtain rfl : m = 8 := by rw [← h2.1]; exact hyl
    obtain ⟨ba, oa, rfl, hba, hca⟩ := h.at (by omega)
    obtain ⟨bb, ob, rfl, hbb, hcb⟩ := h2.at (by omega)
    have HX := hide hx0
    have HY := hide hy0
    have HCM := hide (compare_any xs ys hxl hyl)
    have HWX := hide (fun W (hW : IRow W (some ⟨ba, oa, none⟩) 8 xs) => wideIn_any ba oa cap xs W hW)
    have HWY := hide (fun W (hW : IRow W (some ⟨bb, ob, none⟩) 8 ys) => wideIn_any bb ob cap2 ys W hW)
    generalize cmpW xs ys 8 = c at HCM
    have HB := hide hb0
    have HR := hide hres
    clear ev hc hcx hcy hca hcb h h2 hx0 hy0 hb0 hres hxl hyl
    generalize nvals xs = V at HCM HWX
    generalize nvals ys = U at HCM HWY
    go_enter Try.func11, Try.ntmps11
    go_wp2_with (rw [e0])
    refine (unhide HF).mono ?_
    rintro e w' ⟨rfl, rfl⟩
    go_wp2_with fail
    refine ((unhide HWX) _ (unhide HX)).mono ?_
    rintro e w2 ⟨rfl, b2⟩
    go_wp2_with fail
    refine ((unhide HWY) _ ((unhide HY).below b2 (Nat.le_refl _))).mono ?_
    rintro e w3 ⟨rfl, b3⟩
    go_wp2_with fail
    refine ((unhide HCM) _).mono ?_
    rintro e w4 ⟨rfl, b4⟩
    have k3 := b2.trans (b3.mono b2.size)
    have k4 := k3.trans (b4.mono k3.size)
    have G4 := (unhide HB).trans (k4.mono (unhide HB).size)
    have R4 := (k4.block _ hs0).trans (unhide HR)
    obtain ⟨q0, q1, f0, f1⟩ := cell2_facts R4
    clear b2 b3 b4 k3 k4 R4
    go_wp2_with fail
    exact bodyPost_ret (v := .agg #[.int .i64 0, .int .i64 c]) (by simp [results, Try.results11, go_sem, q0, q1]) rfl ⟨rfl, (G4.setCell (by simp) _).setCell (by simp) _⟩
  · have ev : cwVal xs ys = 0 := if_neg hc
    have hd : (wf2 xs ys != 0) = true := by simp [hc]
    rw [ev]
    generalize wf2 xs ys = c at HF hd
    obtain ⟨q0, q1, f0, f1⟩ := cell2_facts hres
    clear ev h h2 hx0 hy0 hc hres
    go_enter Try.func11, Try.ntmps11
    go_wp2_with (rw [e0])
    refine (unhide HF).mono ?_
    rintro e w' ⟨rfl, rfl⟩
    go_wp2_with fail
    exact bodyPost_ret (v := .agg #[.int .i64 c, .int .i64 0]) (by simp [results, Try.results11, go_sem, q0, q1]) rfl ⟨rfl, (hb0.setCell (by simp) _).setCell (by simp) _⟩

set_option maxHeartbeats 2000000 in
theorem specCW_any (a b : Option Addr) (n m cap cap2 : Nat) (xs ys : List Int) (w : World) (h : IRow w a n xs) (h2 : IRow w b m ys) (hl : n ≤ 1048576) (hl2 : m ≤ 1048576) :
    Calls Try.prog 12 #[.slice a n cap, .slice b m cap2] w fun e w' => e = .returned (.agg #[.int .i64 (wf2 xs ys), .int .i64 (cwVal xs ys)]) ∧ Below w.heap.size w w' := by
  obtain ⟨w0, hw0⟩ : ∃ w0, w0 = w.alloc (.cells #[.int .i64 0, .int .i64 0] 37) := ⟨_, rfl⟩
  have e0 := hw0.symm
  have hb0 : Below w.heap.size w w0 := by rw [hw0]; exact below_alloc w _
  have hres : w0.heap[w.heap.size]? = some (.cells #[.int .i64 0, .int .i64 0] 37 (0, 0)) := by
    rw [hw0]
    show (w.heap.push _)[w.heap.size]? = _
    simp
  have hx0 := h.below hb0 (Nat.le_refl _)
  have hy0 := h2.below hb0 (Nat.le_refl _)
  have HF := hide (l4Two_any a b n m cap cap2 xs ys w0 hx0 hy0 hl hl2)
  have hs0 : w.heap.size < w0.heap.size := lt_of_block hres
  clear hw0
  by_cases hc : wf2 xs ys = 0
  · obtain ⟨hcx, hcy⟩ := wf2_zero xs ys hc
    have hxl := (wf_zero xs hcx).1
    have hyl := (wf_zero ys hcy).1
    have ev : cwVal xs ys = cmpW xs ys 8 := if_pos hc
    rw [ev, hc]
    rw [hc] at HF
    obtain rfl : n = 8 := by rw [← h.1]; exact hxl
    obtain rfl : m = 8 := by rw [← h2.1]; exact hyl
    obtain ⟨ba, oa, rfl, hba, hca⟩ := h.at (by omega)
    obtain ⟨bb, ob, rfl, hbb, hcb⟩ := h2.at (by omega)
    have HCM := hide (l4Compare_any ba bb oa ob cap cap2 xs ys w0 hx0 hy0)
    generalize cmpW xs ys 8 = c at HCM
    have HB := hide hb0
    have HR := hide hres
    clear ev hc hcx hcy hca hcb h h2 hx0 hy0 hb0 hres hxl hyl
    go_enter Try.func12, Try.ntmps12
    go_wp2_with (rw [e0])
    refine (unhide HF).mono ?_
    rintro e w' ⟨rfl, rfl⟩
    go_wp2_with fail
    refine (unhide HCM).mono ?_
    rintro e w4 ⟨rfl, k4⟩
    have G4 := (unhide HB).trans (k4.mono (unhide HB).size)
    have R4 := (k4.block _ hs0).trans (unhide HR)
    obtain ⟨q0, q1, f0, f1⟩ := cell2_facts R4
    clear k4 R4
    go_wp2_with fail
    exact bodyPost_ret (v := .agg #[.int .i64 0, .int .i64 c]) (by simp [results, Try.results12, go_sem, q0, q1]) rfl ⟨rfl, (G4.setCell (by simp) _).setCell (by simp) _⟩
  · have ev : cwVal xs ys = 0 := if_neg hc
    have hd : (wf2 xs ys != 0) = true := by simp [hc]
    rw [ev]
    generalize wf2 xs ys = c at HF hd
    obtain ⟨q0, q1, f0, f1⟩ := cell2_facts hres
    clear ev h h2 hx0 hy0 hc hres
    go_enter Try.func12, Try.ntmps12
    go_wp2_with (rw [e0])
    refine (unhide HF).mono ?_
    rintro e w' ⟨rfl, rfl⟩
    go_wp2_with fail
    exact bodyPost_ret (v := .agg #[.int .i64 c, .int .i64 0]) (by simp [results, Try.results12, go_sem, q0, q1]) rfl ⟨rfl, (hb0.setCell (by simp) _).setCell (by simp) _⟩

end Go.Proofs.Ytpcokoejmodmaaa
