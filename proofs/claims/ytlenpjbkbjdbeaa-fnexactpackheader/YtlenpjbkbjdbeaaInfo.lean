/- What is proved here: closed facts of the program's table of types. -/
import Derived.Test.YtlenpjbkbjdbeaaChecked
import Derived.Test.YtlenpjbkbjdbeaaBase
import Derived.WalkKit
import Derived.WalkLawsBesides
import Derived.KernelRfl
namespace Go.Proofs.Ytlenpjbkbjdbeaa
open Go.RowKit
set_option linter.unusedVariables false

theorem info5 : (Try.prog.info? 5).map (fun i => (i.zero, i.size, i.bytes)) = some (some (.int .u8 0), 1, 1) := by kernel_rfl

end Go.Proofs.Ytlenpjbkbjdbeaa
