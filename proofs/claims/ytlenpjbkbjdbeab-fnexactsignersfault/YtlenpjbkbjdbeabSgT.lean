/- What is proved here: what the model's SignersFault answers. -/
import Derived.Test.YtlenpjbkbjdbeabSgS
namespace Go.Proofs.Ytlenpjbkbjdbeab
open Go.RowKit
set_option linter.unusedVariables false

theorem specSigners_any (a : Option Addr) (len cap : Nat) (zss : List (List Int)) (w : World) (h : BsRow w a len zss) (hl : len ≤ 1048576) :
    Calls Try.prog 6 #[.slice a len cap] w fun e w' => e = .returned (.int .i64 (sgFlt zss)) ∧ ∃ n, w' = w.drewN n := by
  have HF := hide (l5Signers_any a len cap zss w h hl)
  clear h
  generalize sgFlt zss = c at HF
  go_enter Try.func6, Try.ntmps6
  go_wp2_with fail
  refine (unhide HF).mono ?_
  rintro e w' ⟨rfl, n, rfl⟩
  go_wp2_with fail
  go_ret
  exact ⟨rfl, n, rfl⟩

end Go.Proofs.Ytlenpjbkbjdbeab
