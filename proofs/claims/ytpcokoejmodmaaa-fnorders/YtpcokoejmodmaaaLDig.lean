/- What is proved here: what the model's l1Digit answers. -/
import Derived.Test.YtpcokoejmodmaaaChecked
import Derived.Test.YtpcokoejmodmaaaBase
import Derived.Test.YtpcokoejmodmaaaHexEnc
import Derived.WalkKit
import Derived.WalkLawsBesides
import Derived.WalkSmall
import Derived.WalkSpells
import Derived.KernelRfl
namespace Go.Proofs.Ytpcokoejmodmaaa
open Go.RowKit
set_option linter.unusedVariables false

set_option maxHeartbeats 1000000 in
theorem l1Digit_any (v : Int) (w : World) (h0 : 0 ≤ v) (h1 : v < 16) : Calls Try.prog 32 #[.int .u8 v] w fun e w' => e = .returned (.string (digs.extract v.toNat (v.toNat + 1))) ∧ w' = w := by
  obtain ⟨n, rfl⟩ := Int.eq_ofNat_of_zero_le h0
  go_enter Try.func32, Try.ntmps32
  go_wp2
  go_ret
  exact ⟨rfl, rfl⟩

end Go.Proofs.Ytpcokoejmodmaaa
