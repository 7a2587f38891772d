/- What is proved here: the model's WideFault, and the faults of two wide numbers, of the program and of the model. -/
import Derived.Test.YtakkhocaloigeaaWdA
namespace Go.Proofs.Ytakkhocaloigeaa
open Go.RowKit
set_option linter.unusedVariables false

set_option maxHeartbeats 2000000 in
theorem specWFault_any (a : Option Addr) (n cap : Nat) (xs : List Int) (w : World) (h : IRow w a n xs) (hl : n ≤ 1048576) :
    Calls Try.prog 23 #[.slice a n cap] w fun e w' => e = .returned (.int .i64 (wfCode xs)) ∧ w' = w := by
  have HI := hide (l4Fault_any a n cap xs w h hl)
  generalize wfCode xs = c at HI
  clear h hl
  go_enter Try.func23, Try.ntmps23
  go_wp2_with fail
  refine (unhide HI).mono ?_
  rintro e w' ⟨rfl, rfl⟩
  go_wp2_with fail
  go_ret
  exact ⟨rfl, rfl⟩

end Go.Proofs.Ytakkhocaloigeaa
