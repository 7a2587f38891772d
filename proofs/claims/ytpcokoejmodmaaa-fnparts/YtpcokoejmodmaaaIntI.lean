/- What is proved here: a closed fact of the program's table of types. -/
import Derived.Test.YtpcokoejmodmaaaChecked
import Derived.Test.YtpcokoejmodmaaaBase
import Derived.WalkKit
import Derived.WalkLawsBesides
import Derived.KernelRfl
namespace Go.Proofs.Ytpcokoejmodmaaa
open Go.RowKit
set_option linter.unusedVariables false

theorem info2 : (Try.prog.info? 2).map (fun i => (i.zero, i.size, i.bytes)) = some (some (.int .i64 0), 1, 8) := by kernel_rfl

end Go.Proofs.Ytpcokoejmodmaaa
