/- What is proved here: what the laws' own small function lwBig answers. -/
import Derived.Test.YtakkhocaloigeaaChecked
import Derived.Test.YtakkhocaloigeaaBase
import Derived.WalkKit
import Derived.KernelRfl
namespace Go.Proofs.Ytakkhocaloigeaa
open Go.RowKit
set_option linter.unusedVariables false

set_option maxHeartbeats 1000000 in
theorem lwBig_any (a : Option Addr) (len cap : Nat) (w : World) : Calls Try.prog 9 #[.slice a len cap] w fun e w' => e = .returned (.bool (decide (1048576 < (len : Int)))) ∧ w' = w := by
  go_enter Try.func9, Try.ntmps9
  go_wp2
  go_ret
  exact ⟨rfl, rfl⟩

end Go.Proofs.Ytakkhocaloigeaa
