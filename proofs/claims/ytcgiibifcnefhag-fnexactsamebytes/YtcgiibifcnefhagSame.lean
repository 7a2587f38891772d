/- What is proved here: what SameBytes answers, in the program and in the model, for slices of bytes of any length: whether the two are the same as strings. -/
import Derived.Test.YtcgiibifcnefhagChecked
import Derived.Test.YtcgiibifcnefhagBase
import Derived.WalkKit
import Derived.KernelRfl
namespace Go.Proofs.Ytcgiibifcnefhag
open Go.RowKit
set_option linter.unusedVariables false

theorem specSame_any (a b : Option Addr) (la ca lb cb : Nat) (xs ys : List Int) (w : World) (ha : BRow w a la xs) (hb : BRow w b lb ys) :
    Calls Try.prog 13 #[.slice a la ca, .slice b lb cb] w fun e w' => e = .returned (.bool (strEq xs ys)) ∧ w' = w := by
  have h1 := conv_any (P := Try.prog) w 22 5 9 Try.underlying22 Try.underlying5 Try.underlying9 a la ca xs ha
  have h2 := conv_any (P := Try.prog) w 22 5 9 Try.underlying22 Try.underlying5 Try.underlying9 b lb cb ys hb
  clear ha hb
  go_enter Try.func13, Try.ntmps13
  go_wp2
  go_ret
  exact ⟨rfl, rfl⟩

theorem implSame_any (a b : Option Addr) (la ca lb cb : Nat) (xs ys : List Int) (w : World) (ha : BRow w a la xs) (hb : BRow w b lb ys) :
    Calls Try.prog 15 #[.slice a la ca, .slice b lb cb] w fun e w' => e = .returned (.bool (strEq xs ys)) ∧ w' = w := by
  have h1 := conv_any (P := Try.prog) w 22 5 9 Try.underlying22 Try.underlying5 Try.underlying9 a la ca xs ha
  have h2 := conv_any (P := Try.prog) w 22 5 9 Try.underlying22 Try.underlying5 Try.underlying9 b lb cb ys hb
  clear ha hb
  go_enter Try.func15, Try.ntmps15
  go_wp2
  go_ret
  exact ⟨rfl, rfl⟩

end Go.Proofs.Ytcgiibifcnefhag
