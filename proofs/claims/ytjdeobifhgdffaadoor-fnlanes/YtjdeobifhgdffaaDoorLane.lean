/- What is proved here: the model's xor of two lanes gives the xor of their words, and writes into no memory that was there. -/
import Derived.Test.YtjdeobifhgdffaaDoorChecked
import Derived.Test.YtjdeobifhgdffaaDoorBase
import Derived.Test.YtjdeobifhgdffaaDoorTurn
import Derived.WalkKit
import Derived.WalkLawsBesides
import Derived.WalkSmall
import Derived.WalkSpells
import Derived.RegionTactic
import Derived.BigRegion
import Derived.Laws.BitsAllLaws
import Derived.KernelRfl
namespace Go.Proofs.YtjdeobifhgdffaaDoor
open Go.RowKit
set_option linter.unusedVariables false

/-- The xor of two words. -/
def xorW (a b : Int) : Int := bits .xor .i64 a b

set_option maxHeartbeats 1000000 in
theorem l2Xor_any (a b c d : Int) (w : World) :
    Calls Tryd.prog 53 #[.agg #[.int .i64 a, .int .i64 b], .agg #[.int .i64 c, .int .i64 d]] w fun e w' => e = .returned (.agg #[.int .i64 (xorW a c), .int .i64 (xorW b d)]) ∧ Below w.heap.size w w' := by
  have HB : Hid (∀ o p q, Below w.heap.size w (((w.alloc o).alloc p).alloc q)) := fun o p q => (((Below.refl _ _).alloc (Nat.le_refl _) o).alloc (by simp) p).alloc (by simp; omega) q
  go_enter Tryd.func53, Tryd.ntmps53
  go_wp2_with fail
  exact bodyPost_ret (v := .agg #[.int .i64 (xorW a c), .int .i64 (xorW b d)]) (by simp [results, Tryd.results53, go_sem, xorW]) rfl ⟨rfl, (unhide HB) _ _ _⟩

end Go.Proofs.YtjdeobifhgdffaaDoor
