/- What is proved here: what SameBytes and the laws' own comparison answer, for slices of bytes of any length: whether the two are the same as strings. -/
import Derived.Test.YtcgiibifcnefhaaChecked
import Derived.Test.YtcgiibifcnefhaaBase
import Derived.WalkKit
import Derived.KernelRfl
namespace Go.Proofs.Ytcgiibifcnefhaa
open Go.RowKit
set_option linter.unusedVariables false

theorem lwSame_any (a b : Option Addr) (la ca lb cb : Nat) (xs ys : List Int) (w : World) (ha : BRow w a la xs) (hb : BRow w b lb ys) :
    Calls Try.prog 11 #[.slice a la ca, .slice b lb cb] w fun e w' => e = .returned (.bool (strEq xs ys)) ∧ w' = w := by
  have h1 := conv_any (P := Try.prog) w 22 5 9 Try.underlying22 Try.underlying5 Try.underlying9 a la ca xs ha
  have h2 := conv_any (P := Try.prog) w 22 5 9 Try.underlying22 Try.underlying5 Try.underlying9 b lb cb ys hb
  clear ha hb
  go_enter Try.func11, Try.ntmps11
  go_wp2
  go_ret
  exact ⟨rfl, rfl⟩

theorem implSame_any (a b : Option Addr) (la ca lb cb : Nat) (xs ys : List Int) (w : World) (ha : BRow w a la xs) (hb : BRow w b lb ys) :
    Calls Try.prog 18 #[.slice a la ca, .slice b lb cb] w fun e w' => e = .returned (.bool (strEq xs ys)) ∧ w' = w := by
  have h1 := conv_any (P := Try.prog) w 22 5 9 Try.underlying22 Try.underlying5 Try.underlying9 a la ca xs ha
  have h2 := conv_any (P := Try.prog) w 22 5 9 Try.underlying22 Try.underlying5 Try.underlying9 b lb cb ys hb
  clear ha hb
  go_enter Try.func18, Try.ntmps18
  go_wp2
  go_ret
  exact ⟨rfl, rfl⟩

end Go.Proofs.Ytcgiibifcnefhaa
