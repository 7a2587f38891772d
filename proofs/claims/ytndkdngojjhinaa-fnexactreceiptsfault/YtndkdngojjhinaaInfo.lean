/- What is proved here: closed facts of the program's table of types. -/
import Derived.Test.YtndkdngojjhinaaChecked
import Derived.Test.YtndkdngojjhinaaBase
import Derived.WalkKit
import Derived.WalkLawsBesides
import Derived.KernelRfl
namespace Go.Proofs.Ytndkdngojjhinaa
open Go.RowKit
set_option linter.unusedVariables false
set_option maxRecDepth 100000

theorem info5 : (Try.prog.info? 5).map (fun i => (i.zero, i.size, i.bytes)) = some (some (.int .u8 0), 1, 1) := by kernel_rfl

end Go.Proofs.Ytndkdngojjhinaa
