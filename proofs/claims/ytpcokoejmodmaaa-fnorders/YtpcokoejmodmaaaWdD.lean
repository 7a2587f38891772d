/- What is proved here: the faults of two wide numbers, one after the other, of the program and of the model. -/
import Derived.Test.YtpcokoejmodmaaaWdA
namespace Go.Proofs.Ytpcokoejmodmaaa
open Go.RowKit
set_option linter.unusedVariables false

/-- The code of two wide numbers. -/
def wf2 (xs ys : List Int) : Int := if wfCode xs = 0 then wfCode ys else wfCode xs

set_option maxHeartbeats 2000000 in
theorem bothFault_any (a b : Option Addr) (n m cap cap2 : Nat) (xs ys : List Int) (w : World) (h : IRow w a n xs) (h2 : IRow w b m ys) (hl : n ≤ 1048576) (hl2 : m ≤ 1048576) :
    Calls Try.prog 24 #[.slice a n cap, .slice b m cap2] w fun e w' => e = .returned (.int .i64 (wf2 xs ys)) ∧ w' = w := by
  have H1 := hide (implWFault_any a n cap xs w h hl)
  have H2 := hide (implWFault_any b m cap2 ys w h2 hl2)
  clear h h2 hl hl2
  unfold wf2
  generalize wfCode xs = c at H1
  generalize wfCode ys = d at H2
  by_cases hc : c = 0
  · have hd : (c != 0) = false := by simp [hc]
    rw [if_pos hc]
    clear hc
    go_enter Try.func24, Try.ntmps24
    go_wp2_with fail
    refine (unhide H1).mono ?_
    rintro e w' ⟨rfl, rfl⟩
    go_wp2_with fail
    refine (unhide H2).mono ?_
    rintro e w' ⟨rfl, rfl⟩
    go_wp2_with fail
    go_ret
    exact ⟨rfl, rfl⟩
  · have hd : (c != 0) = true := by simp [hc]
    rw [if_neg hc]
    clear hc
    go_enter Try.func24, Try.ntmps24
    go_wp2_with fail
    refine (unhide H1).mono ?_
    rintro e w' ⟨rfl, rfl⟩
    go_wp2_with fail
    go_ret
    exact ⟨rfl, rfl⟩

set_option maxHeartbeats 2000000 in
theorem l4Two_any (a b : Option Addr) (n m cap cap2 : Nat) (xs ys : List Int) (w : World) (h : IRow w a n xs) (h2 : IRow w b m ys) (hl : n ≤ 1048576) (hl2 : m ≤ 1048576) :
    Calls Try.prog 27 #[.slice a n cap, .slice b m cap2] w fun e w' => e = .returned (.int .i64 (wf2 xs ys)) ∧ w' = w := by
  have H1 := hide (l4Fault_any a n cap xs w h hl)
  have H2 := hide (l4Fault_any b m cap2 ys w h2 hl2)
  clear h h2 hl hl2
  unfold wf2
  generalize wfCode xs = c at H1
  generalize wfCode ys = d at H2
  by_cases hc : c = 0
  · have hd : (c != 0) = false := by simp [hc]
    rw [if_pos hc]
    clear hc
    go_enter Try.func27, Try.ntmps27
    go_wp2_with fail
    refine (unhide H1).mono ?_
    rintro e w' ⟨rfl, rfl⟩
    go_wp2_with fail
    refine (unhide H2).mono ?_
    rintro e w' ⟨rfl, rfl⟩
    go_wp2_with fail
    go_ret
    exact ⟨rfl, rfl⟩
  · have hd : (c != 0) = true := by simp [hc]
    rw [if_neg hc]
    clear hc
    go_enter Try.func27, Try.ntmps27
    go_wp2_with fail
    refine (unhide H1).mono ?_
    rintro e w' ⟨rfl, rfl⟩
    go_wp2_with fail
    go_ret
    exact ⟨rfl, rfl⟩

end Go.Proofs.Ytpcokoejmodmaaa
