/- What is proved here: what the laws' own small function lwBig answers. -/
import Derived.Test.YtjdeobifhgdffaaDoorChecked
import Derived.Test.YtjdeobifhgdffaaDoorBase
import Derived.WalkKit
import Derived.KernelRfl
namespace Go.Proofs.YtjdeobifhgdffaaDoor
open Go.RowKit
set_option linter.unusedVariables false

set_option maxHeartbeats 1000000 in
theorem lwBig_any (a : Option Addr) (len cap : Nat) (w : World) : Calls Tryd.prog 7 #[.slice a len cap] w fun e w' => e = .returned (.bool (decide (1048576 < (len : Int)))) ∧ w' = w := by
  go_enter Tryd.func7, Tryd.ntmps7
  go_wp2
  go_ret
  exact ⟨rfl, rfl⟩

end Go.Proofs.YtjdeobifhgdffaaDoor
