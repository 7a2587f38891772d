/- What is proved here: what the model's HeadBytes answers: the code and the head of an item, in new memory. -/
import Derived.Test.YtkibdgmgjnoblabHeadS
import Derived.Test.YtkibdgmgjnoblabIn
import Derived.WalkKit
import Derived.WalkLawsBesides
import Derived.WalkSmall
import Derived.WalkSpells
import Derived.KernelRfl
namespace Go.Proofs.Ytkibdgmgjnoblab
open Go.RowKit
set_option linter.unusedVariables false

set_option maxHeartbeats 1000000 in
theorem specHead_any (l : Bool) (n : Int) (w : World) :
    Calls Try.prog 10 #[.bool l, .int .i64 n] w fun e w' => ∃ a cap, e = .returned (.agg #[.int .i64 (hdCode n), .slice a (hdBytes l n).length cap]) ∧
      w'.ownsRow w.heap.size 5 1 (.slice a (hdBytes l n).length cap) (hdBytes l n).length ((hdBytes l n).map (Value.int .u8)) ∧ Below w.heap.size w w' := by
  by_cases hr : 0 ≤ n ∧ n ≤ 1200
  · have e1 : hdCode n = 0 := if_pos hr
    have e2 : hdBytes l n = headL l n := if_pos hr
    rw [e1, e2]
    obtain ⟨h0, h1⟩ := hr
    have HH := hide (fun W => l3Head_any l n W h0 (by omega))
    clear e1 e2
    generalize headL l n = L at HH
    go_enter Try.func10, Try.ntmps10
    go_wp2_with fail
    refine (in_yes n 0 1200 _ h0 h1).mono ?_
    rintro e w1 ⟨rfl, rfl⟩
    go_wp2_with fail
    refine ((unhide HH) _).mono ?_
    rintro e w2 ⟨a, cap, rfl, hown, hbel⟩
    have hsz : (w.alloc (.cells #[.int .i64 0, .slice none 0 0] 30)).heap.size = w.heap.size + 1 := by simp
    rw [hsz] at hown hbel
    have q0 : w2.cell? ⟨w.heap.size, 0, none⟩ = some (.int .i64 0) := (hbel.cell (by simp)).trans (by simp)
    have q1 : w2.cell? ⟨w.heap.size, 1, none⟩ = some (.slice none 0 0) := (hbel.cell (by simp)).trans (by simp)
    have f0 : w2.frozen? ⟨w.heap.size, 0, none⟩ = false := (hbel.frozen (by simp)).trans (by simp)
    have f1 : w2.frozen? ⟨w.heap.size, 1, none⟩ = false := (hbel.frozen (by simp)).trans (by simp)
    have hb2 : Below w.heap.size w w2 := ((Below.refl _ _).alloc (Nat.le_refl _) _).trans (hbel.mono (by omega))
    have HB := hide hb2
    have HO := hide hown
    clear hb2 hown hbel hsz
    go_wp2_with fail
    refine bodyPost_ret (v := .agg #[.int .i64 0, .slice a L.length cap]) (by simp [results, Try.results10, go_sem, q0, q1]) rfl ⟨a, cap, rfl, ?_, ?_⟩
    · exact ownsRow_base (ownsRow_setCell_below (ownsRow_setCell_below (unhide HO) (by simp) _) (by simp) _) (by omega)
    · exact ((unhide HB).setCell (by simp) _).setCell (by simp) _
  · have e1 : hdCode n = 3 := if_neg hr
    have e2 : hdBytes l n = [] := if_neg hr
    rw [e1, e2]
    go_enter Try.func10, Try.ntmps10
    go_wp2_with fail
    refine (in_no n 0 1200 _ (by omega)).mono ?_
    rintro e w1 ⟨rfl, rfl⟩
    go_wp2_with fail
    exact bodyPost_ret (v := .agg #[.int .i64 3, .slice none 0 0]) (by simp [results, Try.results10, go_sem]) rfl ⟨none, 0, rfl, World.ownsRow_nil _ _ _ _, (Below.refl _ _).alloc (Nat.le_refl _) _⟩

end Go.Proofs.Ytkibdgmgjnoblab
