/- What is proved here: what the program's spanOf and its methods answer: a place and a length as one complex number. -/
import Derived.Test.YtndkdngojjhinaaChecked
import Derived.Test.YtndkdngojjhinaaFlF
import Derived.Test.YtndkdngojjhinaaBase
import Derived.WalkKit
import Derived.WalkLawsBesides
import Derived.WalkSmall
import Derived.KernelRfl
namespace Go.Proofs.Ytndkdngojjhinaa
open Go.RowKit
set_option linter.unusedVariables false
set_option maxRecDepth 100000

/-- A receipt's place and its length. -/
def spV (i n : Nat) : Value := .complex .f64 ((FloatKind.f64).nearest (i : Int)) ((FloatKind.f64).nearest (n : Int))

theorem spanOf_any (i n c : Nat) (a : Option Addr) (w : World) : Calls Try.prog 29 #[.int .i64 i, .slice a n c] w fun e w' => e = .returned (spV i n) ∧ w' = w := by
  unfold spV
  go_enter Try.func29, Try.ntmps29
  go_wp2_with fail
  go_ret
  exact ⟨rfl, rfl⟩

theorem spLength_any (i n : Nat) (w : World) (h : n < 9007199254740992) : Calls Try.prog 20 #[spV i n] w fun e w' => e = .returned (.int .i64 n) ∧ w' = w := by
  have hb := f64_back n h
  unfold spV
  generalize (FloatKind.f64).nearest (n : Int) = b at hb
  generalize (FloatKind.f64).nearest (i : Int) = a
  have hc : ∀ W : World, (convert 50 2 (Value.float .f64 b)).run Try.prog W = .ok (.int .i64 n) W := fun W => run_convert_float_int W 50 2 .f64 .i64 b n (by kernel_rfl) (by kernel_rfl) hb
  go_enter Try.func20, Try.ntmps20
  go_wp2_with fail
  go_ret
  exact ⟨rfl, rfl⟩

end Go.Proofs.Ytndkdngojjhinaa
