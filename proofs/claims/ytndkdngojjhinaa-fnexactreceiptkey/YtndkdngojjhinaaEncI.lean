/- What is proved here: what the program's headOf answers: the head of an item, in new memory. -/
import Derived.Test.YtndkdngojjhinaaChecked
import Derived.Test.YtndkdngojjhinaaHeadI
import Derived.Test.YtndkdngojjhinaaEncG
import Derived.Test.YtndkdngojjhinaaItN
import Derived.WalkKit
import Derived.WalkLawsBesides
import Derived.WalkSmall
import Derived.WalkSpells
import Derived.KernelRfl
namespace Go.Proofs.Ytndkdngojjhinaa
open Go.RowKit
set_option linter.unusedVariables false
set_option maxRecDepth 100000

set_option maxHeartbeats 2000000 in
theorem headOf_any (l : Bool) (p : Int) (sa : Option Addr) (sl sc : Nat) (z : List Int) (n : Nat) (w : World) (h : BRow w sa sl z) (hn : l = false → n = sl) :
    Calls Try.prog 37 #[.agg #[.bool l, .int .i64 p, .slice sa sl sc], .int .i64 (n : Int)] w fun e w' => ∃ a' cap', e = .returned (.slice a' (hdI ⟨l, p, z⟩ n).length cap') ∧
      w'.ownsRow w.heap.size 5 1 (.slice a' (hdI ⟨l, p, z⟩ n).length cap') (hdI ⟨l, p, z⟩ n).length ((hdI ⟨l, p, z⟩ n).map (Value.int .u8)) ∧ Below w.heap.size w w' := by
  have hzl := h.1
  by_cases t : l = false ∧ n = 1 ∧ z.getD 0 0 < 128
  · have e : hdI ⟨l, p, z⟩ n = [] := if_pos t
    rw [e]
    obtain ⟨rfl, rfl, h128⟩ := t
    have hs1 : sl = 1 := (hn rfl).symm
    subst hs1
    obtain ⟨b, off, rfl, hbl, hcell⟩ := h.at (by omega)
    have c0 := hcell 0 (by omega)
    rw [Nat.add_zero] at c0
    have c0' : ∀ o, (w.alloc o).cell? ⟨b, off, none⟩ = some (.int .u8 (z.getD 0 0)) := fun o => ((below_alloc w o).cell hbl).trans c0
    generalize z.getD 0 0 = x at c0 h128 c0'
    have d1 : decide (x < 128) = true := decide_eq_true h128
    clear h hcell e hn c0
    go_enter Try.func37, Try.ntmps37
    go_wp2_with fail
    go_ret
    exact ⟨none, 0, rfl, World.ownsRow_nil _ _ _ _, below_alloc w _⟩
  · have e : hdI ⟨l, p, z⟩ n = hdBytes l n := if_neg t
    rw [e]
    have HH : Hid (∀ W, Calls Try.prog 40 #[.bool l, .int .i64 (n : Int)] W fun e w' => ∃ a cap c, e = .returned (.agg #[.int .i64 c, .slice a (hdBytes l n).length cap]) ∧ w'.ownsRow W.heap.size 5 1 (.slice a (hdBytes l n).length cap) (hdBytes l n).length ((hdBytes l n).map (Value.int .u8)) ∧ Below W.heap.size W w') := fun W =>
      (implHead_any l n W).mono fun e w' ⟨a, cap, he, ho, hb⟩ => ⟨a, cap, _, he, ho, hb⟩
    have hfd := fldB1
    generalize hdBytes l n = L at HH
    cases l
    · by_cases n1 : n = 1
      · subst n1
        have hs1 : sl = 1 := (hn rfl).symm
        subst hs1
        obtain ⟨b, off, rfl, hbl, hcell⟩ := h.at (by omega)
        have c0 := hcell 0 (by omega)
        rw [Nat.add_zero] at c0
        have c0' : ∀ o, (w.alloc o).cell? ⟨b, off, none⟩ = some (.int .u8 (z.getD 0 0)) := fun o => ((below_alloc w o).cell hbl).trans c0
        have h128 : ¬ z.getD 0 0 < 128 := fun hh => t ⟨rfl, rfl, hh⟩
        generalize z.getD 0 0 = x at c0 h128 c0'
        have d1 : decide (x < 128) = false := decide_eq_false h128
        clear h hcell e hn c0 t
        go_enter Try.func37, Try.ntmps37
        go_wp2_with fail
        refine ((unhide HH) _).mono ?_
        rintro e w2 ⟨a2, c2, cc, rfl, o2, b2⟩
        go_wp2_with fail
        go_ret
        exact ⟨a2, c2, rfl, ownsRow_base o2 (by simp), (below_alloc w _).trans (b2.mono (by simp))⟩
      · have d1 : (((n : Nat) : Int) == 1) = false := by simp; omega
        clear h e hn t
        go_enter Try.func37, Try.ntmps37
        go_wp2_with fail
        refine ((unhide HH) _).mono ?_
        rintro e w2 ⟨a2, c2, cc, rfl, o2, b2⟩
        go_wp2_with fail
        go_ret
        exact ⟨a2, c2, rfl, ownsRow_base o2 (by simp), (below_alloc w _).trans (b2.mono (by simp))⟩
    · clear h e hn t
      go_enter Try.func37, Try.ntmps37
      go_wp2_with fail
      refine ((unhide HH) _).mono ?_
      rintro e w2 ⟨a2, c2, cc, rfl, o2, b2⟩
      go_wp2_with fail
      go_ret
      exact ⟨a2, c2, rfl, ownsRow_base o2 (by simp), (below_alloc w _).trans (b2.mono (by simp))⟩

end Go.Proofs.Ytndkdngojjhinaa
