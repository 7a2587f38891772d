/- What is proved here: what the program's isWithin answers, and the first fault of receipts as a function. -/
import Derived.Test.YtndkdngojjhinaaRpJ
namespace Go.Proofs.Ytndkdngojjhinaa
open Go.RowKit
set_option linter.unusedVariables false
set_option maxRecDepth 100000

/-- The first fault of receipts. -/
def rpFrom : List (List Int) → Int
  | [] => 0
  | z :: r => if 1 ≤ z.length ∧ z.length ≤ 60 then rpFrom r else 1
def rpFlt (zss : List (List Int)) : Int := if 10 < zss.length then 2 else rpFrom zss

theorem rpFrom_step (zss : List (List Int)) (k : Nat) (z : List Int) (h : zss[k]? = some z) : rpFrom (zss.drop k) = if 1 ≤ z.length ∧ z.length ≤ 60 then rpFrom (zss.drop (k + 1)) else 1 := by
  obtain ⟨hk, e⟩ := List.getElem?_eq_some_iff.1 h
  rw [List.drop_eq_getElem_cons hk, e, rpFrom]

theorem rWithin_any (v lo hi : Int) (w : World) : Calls Try.prog 19 #[.int .i64 v, .int .i64 lo, .int .i64 hi] w fun e w' => e = .returned (.bool (decide (lo ≤ v ∧ v ≤ hi))) ∧ w' = w := by
  by_cases h0 : lo ≤ v
  · have e0 : decide (lo ≤ v) = true := decide_eq_true h0
    by_cases h1 : v ≤ hi
    · have e1 : decide (v ≤ hi) = true := decide_eq_true h1
      have e : decide (lo ≤ v ∧ v ≤ hi) = true := decide_eq_true ⟨h0, h1⟩
      rw [e]
      clear e
      go_enter Try.func19, Try.ntmps19
      go_wp2_with fail
      go_ret
      exact ⟨rfl, rfl⟩
    · have e1 : decide (v ≤ hi) = false := decide_eq_false h1
      have e : decide (lo ≤ v ∧ v ≤ hi) = false := decide_eq_false (fun h => h1 h.2)
      rw [e]
      clear e
      go_enter Try.func19, Try.ntmps19
      go_wp2_with fail
      go_ret
      exact ⟨rfl, rfl⟩
  · have e0 : decide (lo ≤ v) = false := decide_eq_false h0
    have e : decide (lo ≤ v ∧ v ≤ hi) = false := decide_eq_false (fun h => h0 h.1)
    rw [e]
    clear e
    go_enter Try.func19, Try.ntmps19
    go_wp2_with fail
    go_ret
    exact ⟨rfl, rfl⟩

end Go.Proofs.Ytndkdngojjhinaa
