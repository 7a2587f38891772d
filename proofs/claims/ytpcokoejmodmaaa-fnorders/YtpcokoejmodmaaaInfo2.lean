/- What is proved here: what the program says of the type int64. -/
import Derived.Test.YtpcokoejmodmaaaChecked
import Derived.KernelRfl
namespace Go.Proofs.Ytpcokoejmodmaaa

theorem info2 : (Try.prog.info? 2).map (fun i => (i.zero, i.size, i.bytes)) = some (some (.int .i64 0), 1, 8) := by kernel_rfl

end Go.Proofs.Ytpcokoejmodmaaa
