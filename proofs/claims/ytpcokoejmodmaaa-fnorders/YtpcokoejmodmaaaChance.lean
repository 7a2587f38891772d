/- What is proved here: the model's chance, a draw that says yes or no. -/
import Derived.Test.YtpcokoejmodmaaaSrc
namespace Go.Proofs.Ytpcokoejmodmaaa
open Go.RowKit
set_option linter.unusedVariables false

set_option maxHeartbeats 1000000 in
theorem chance_any (b : Nat) (t n : Int) (w : World) (h : SrcOk w b t) (ht : 0 ≤ t) (ht2 : t ≤ 1000000) (hn : 1 ≤ n) (hn2 : n ≤ 1048576) :
    Calls Try.prog 23 #[.pointer (some ⟨b, 0, none⟩), .int .i64 n] w fun e w' => (∃ v, e = .returned (.bool v)) ∧ SrcOk w' b (t + 1) ∧ w.grownBy w' (some b) := by
  have HN := hide (next_any b t n w h ht ht2 hn hn2)
  clear h
  go_enter Try.func23, Try.ntmps23
  go_wp2_with fail
  refine (unhide HN).mono ?_
  rintro e w1 ⟨⟨v, rfl, hv0, hv1⟩, s1, g1⟩
  go_wp2_with fail
  go_ret
  exact ⟨⟨_, rfl⟩, s1, g1⟩

end Go.Proofs.Ytpcokoejmodmaaa
