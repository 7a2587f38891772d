/- What is proved here: what the model's KeccakOf and HashText answer. -/
import Derived.Test.YtjdeobifhgdffaaDoorKcT
import Derived.Test.YtjdeobifhgdffaaDoorL1Hex
import Derived.WalkSmall
namespace Go.Proofs.YtjdeobifhgdffaaDoor
open Go.RowKit
set_option linter.unusedVariables false

set_option maxHeartbeats 2000000 in
theorem specKc_any (a : Option Addr) (n cap : Nat) (zs : List Int) (w : World) (h : BRow w a n zs) (hcap : a = none → cap = 0) (hn : n ≤ 1048576) :
    Calls Tryd.prog 10 #[.slice a n cap] w fun e w' => ∃ a' cap', e = .returned (.agg #[.int .i64 (kcCode zs), .slice a' (kcBytes zs).length cap']) ∧
      w'.ownsRow w.heap.size 5 1 (.slice a' (kcBytes zs).length cap') (kcBytes zs).length ((kcBytes zs).map (Value.int .u8)) ∧ Below w.heap.size w w' := by
  have hzl := h.1
  by_cases hm : 1200 < n
  · have e1 : kcCode zs = 2 := if_pos (by omega)
    have e2 : kcBytes zs = [] := if_pos (by omega)
    rw [e1, e2]
    clear h e1 e2
    go_enter Tryd.func10, Tryd.ntmps10
    go_wp2_with fail
    exact bodyPost_ret (v := .agg #[.int .i64 2, .slice none 0 0]) (by simp [results, Tryd.results10, go_sem]) rfl ⟨none, 0, rfl, World.ownsRow_nil _ _ _ _, (Below.refl _ _).alloc (Nat.le_refl _) _⟩
  · have e1 : kcCode zs = 0 := if_neg (by omega)
    have e2 : kcBytes zs = hashOf (spAt (padB zs) (padLen n / 136)) := by unfold kcBytes; rw [if_neg (by omega), hzl]
    have e3 : (hashOf (spAt (padB zs) (padLen n / 136))).length = 32 := hashOf_length _
    rw [e1, e2, e3]
    have H := fun o => l2Keccak_any a n cap zs (w.alloc o) (h.below (below_alloc w o) (Nat.le_refl _)) hcap (by omega)
    have HH := hide H
    clear h e1 e2 e3 H
    generalize hashOf (spAt (padB zs) (padLen n / 136)) = L at HH
    go_enter Tryd.func10, Tryd.ntmps10
    go_wp2_with fail
    refine ((unhide HH) _).mono ?_
    rintro e w2 ⟨g, c, rfl, hown, hbel⟩
    have hsz : (w.alloc (.cells #[.int .i64 0, .slice none 0 0] 26)).heap.size = w.heap.size + 1 := by simp
    rw [hsz] at hown hbel
    have q0 : w2.cell? ⟨w.heap.size, 0, none⟩ = some (.int .i64 0) := (hbel.cell (by simp)).trans (by simp)
    have q1 : w2.cell? ⟨w.heap.size, 1, none⟩ = some (.slice none 0 0) := (hbel.cell (by simp)).trans (by simp)
    have f0 : w2.frozen? ⟨w.heap.size, 0, none⟩ = false := (hbel.frozen (by simp)).trans (by simp)
    have f1 : w2.frozen? ⟨w.heap.size, 1, none⟩ = false := (hbel.frozen (by simp)).trans (by simp)
    have hb2 : Below w.heap.size w w2 := ((Below.refl _ _).alloc (Nat.le_refl _) _).trans (hbel.mono (by omega))
    have HB := hide hb2
    have HO := hide hown
    clear hb2 hown hbel hsz
    go_wp2_with fail
    refine bodyPost_ret (v := .agg #[.int .i64 0, .slice (some ⟨g, 0, none⟩) 32 c]) (by simp [results, Tryd.results10, go_sem, q0, q1]) rfl ⟨_, c, rfl, ?_, ?_⟩
    · exact ownsRow_base (ownsRow_setCell_below (ownsRow_setCell_below (unhide HO) (by simp) _) (by simp) _) (by omega)
    · exact ((unhide HB).setCell (by simp) _).setCell (by simp) _

end Go.Proofs.YtjdeobifhgdffaaDoor
