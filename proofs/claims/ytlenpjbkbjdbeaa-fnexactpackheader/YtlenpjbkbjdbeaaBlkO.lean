/- What is proved here: what the program's blockOf answers: the same eleven cells. -/
import Derived.Test.YtlenpjbkbjdbeaaChecked
import Derived.Test.YtlenpjbkbjdbeaaHdB
import Derived.WalkKit
import Derived.WalkLawsBesides
import Derived.WalkSmall
import Derived.KernelRfl
import Derived.WalkSpells
namespace Go.Proofs.Ytlenpjbkbjdbeaa
open Go.RowKit
set_option linter.unusedVariables false

set_option maxHeartbeats 4000000 in
theorem blockOf_any (x : HS) (h : Hd) (w : World) : Calls Try.prog 21 #[.agg (hvals x h)] w fun e w' => e = .returned (.agg (hvals x h)) ∧ Below w.heap.size w w' := by
  unfold hvals
  go_enter Try.func21, Try.ntmps21
  go_wp2_with fail
  refine bodyPost_ret (v := .agg #[.slice x.p.a x.p.n x.p.c, .int .i64 h.n1, .int .i64 h.n2, .int .i64 h.n3, .slice x.t.a x.t.n x.t.c, .int .i64 h.n5, .slice x.s.a x.s.n x.s.c, .slice x.r.a x.r.n x.r.c, .slice x.g.a x.g.n x.g.c, .slice x.e.a x.e.n x.e.c, .slice x.k.a x.k.n x.k.c]) (by simp [results, Try.results21, go_sem]) rfl ⟨rfl, ?_⟩
  exact ((Below.refl w.heap.size w).alloc (Nat.le_refl _) _).alloc (by simp) _

end Go.Proofs.Ytlenpjbkbjdbeaa
