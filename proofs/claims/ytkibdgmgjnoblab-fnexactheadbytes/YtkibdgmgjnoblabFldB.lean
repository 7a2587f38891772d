/- What is proved here: what the fields of a BytesResult that lies as one value are. -/
import Derived.Test.YtkibdgmgjnoblabChecked
import Derived.WalkKit
import Derived.KernelRfl
namespace Go.Proofs.Ytkibdgmgjnoblab
open Go.RowKit
set_option linter.unusedVariables false

theorem fldB0 (x y : Value) (w : World) : (Instr.field 30 (.agg #[x, y]) 0).run Try.prog w = .ok x w := by kernel_rfl
theorem fldB1 (x y : Value) (w : World) : (Instr.field 30 (.agg #[x, y]) 1).run Try.prog w = .ok y w := by kernel_rfl

end Go.Proofs.Ytkibdgmgjnoblab
