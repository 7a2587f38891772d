/- What is proved here: what the fields of a BytesResult that lies as one value are. -/
import Derived.Test.YtndkdngojjhinaaChecked
import Derived.WalkKit
import Derived.KernelRfl
namespace Go.Proofs.Ytndkdngojjhinaa
open Go.RowKit
set_option linter.unusedVariables false
set_option maxRecDepth 100000

theorem fldB0 (x y : Value) (w : World) : (Instr.field 30 (.agg #[x, y]) 0).run Try.prog w = .ok x w := by kernel_rfl
theorem fldB1 (x y : Value) (w : World) : (Instr.field 30 (.agg #[x, y]) 1).run Try.prog w = .ok y w := by kernel_rfl

end Go.Proofs.Ytndkdngojjhinaa
