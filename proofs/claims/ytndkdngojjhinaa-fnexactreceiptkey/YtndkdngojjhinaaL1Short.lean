/- What is proved here: what the model's l1Short answers: the bytes of a number, in new memory. -/
import Derived.Test.YtndkdngojjhinaaChecked
import Derived.Test.YtndkdngojjhinaaBase
import Derived.Test.YtndkdngojjhinaaInfo
import Derived.Test.YtndkdngojjhinaaShortF
import Derived.WalkKit
import Derived.WalkLawsBesides
import Derived.WalkSmall
import Derived.WalkSpells
import Derived.KernelRfl
namespace Go.Proofs.Ytndkdngojjhinaa
open Go.RowKit
set_option linter.unusedVariables false
set_option maxRecDepth 100000

set_option maxHeartbeats 1000000 in
theorem l1Short_zero (w : World) : Calls Try.prog 31 #[.int .i64 0] w fun e w' => ∃ a cap, e = .returned (.slice a 0 cap) ∧
      w'.ownsRow w.heap.size 5 1 (.slice a 0 cap) 0 [] ∧ Below w.heap.size w w' := by
  go_enter Try.func31, Try.ntmps31
  go_wp2_with fail
  go_ret
  refine ⟨some ⟨w.heap.size, 0, none⟩, 0, rfl, ?_, (Below.refl _ _).alloc (Nat.le_refl _) _⟩
  exact World.ownsRow_lit w #[] 0 (Nat.le_refl _) (by unfold maxLen; omega) rfl

set_option maxHeartbeats 1000000 in
theorem l1Short_any (k : Nat) : ∀ (n : Int) (w : World), 0 ≤ n → n < 256 ^ k → n < 72057594037927936 → k ≤ 7 →
    Calls Try.prog 31 #[.int .i64 n] w fun e w' => ∃ a cap, e = .returned (.slice a (shortF k n).length cap) ∧
      w'.ownsRow w.heap.size 5 1 (.slice a (shortF k n).length cap) (shortF k n).length ((shortF k n).map (Value.int .u8)) ∧ Below w.heap.size w w' := by
  induction k with
  | zero =>
    intro n w h0 h1 _ _
    obtain rfl : n = 0 := by simp at h1; omega
    rw [shortF_zero]
    exact l1Short_zero w
  | succ k ih =>
    intro n w h0 h1 h2 hk
    by_cases hn : n = 0
    · subst hn
      rw [shortF_zero]
      exact l1Short_zero w
    · obtain ⟨i0, hi, hz0, hz1, hz2⟩ := info_parts info5
      obtain ⟨k', hk', hd⟩ := pow_step n (k + 1) (by omega) h1
      obtain rfl : k = k' := by omega
      have IH := ih (n / 256) w (by omega) hd (by omega) (by omega)
      have HI := hide IH
      have HS := hide (shortF_succ k n (by omega))
      have hL := shortF_length k (n / 256)
      have hne : (n == 0) = false := by rw [beq_eq_false_iff_ne]; exact hn
      clear IH ih hk' hd h1
      generalize shortF k (n / 256) = L at HI HS hL
      go_enter Try.func31, Try.ntmps31
      go_wp2_with fail
      refine (unhide HI).mono ?_
      rintro e w1 ⟨a, cap, rfl, hown, hbel⟩
      go_wp2_with (at_builtin; refine wpList_append_own _ rfl _ _ 28 rfl w.heap.size 5 i0 (.int .u8 0) 1 1 Try.underlying28 hi hz0 hz1 hz2 rfl (by decide) _ _ _ rfl (hown.alloc _) ⟨w1.heap.size, 0, none⟩ 1 1 [.int .u8 (n % 256)] rfl rfl ?c1 ?c2 ?c3 ?c4 ?c5 ?_)
      case c1 => exact cell_one_new _ _ _
      case c2 => intro u hu; simp at hu; subst hu; rfl
      case c3 => unfold maxLen; omega
      case c4 => omega
      case c5 => have := hbel.size; simp; omega
      intro v' w2 hown2 hgrow _
      obtain ⟨a2, cap2, hv⟩ := own_shape hown2
      have hb2 : Below w.heap.size w w2 := (hbel.alloc hbel.size _).grown hgrow (by have := hbel.size; simp; omega) (fun g e => (hown.lt g e).1)
      rw [hv] at hown2
      rw [hv]
      have HO := hide hown2
      have HB := hide hb2
      clear hown2 hb2 hgrow hown hbel
      go_wp2_with fail
      go_ret
      refine ⟨a2, cap2, ?_, ?_, unhide HB⟩
      · rw [unhide HS]; simp
      · rw [unhide HS]; simpa using unhide HO

end Go.Proofs.Ytndkdngojjhinaa
