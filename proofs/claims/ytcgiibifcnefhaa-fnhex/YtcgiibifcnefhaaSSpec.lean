/- What is proved here: what the model's ShortBytes answers, for every number: the code and the bytes, in new memory. -/
import Derived.Test.YtcgiibifcnefhaaChecked
import Derived.Test.YtcgiibifcnefhaaBase
import Derived.Test.YtcgiibifcnefhaaInfo
import Derived.Test.YtcgiibifcnefhaaShortF
import Derived.Test.YtcgiibifcnefhaaSBytes
import Derived.WalkKit
import Derived.WalkLawsBesides
import Derived.WalkSmall
import Derived.WalkSpells
import Derived.KernelRfl
namespace Go.Proofs.Ytcgiibifcnefhaa
open Go.RowKit
set_option linter.unusedVariables false

set_option maxHeartbeats 1000000 in
theorem l1Short_zero (w : World) : Calls Try.prog 27 #[.int .i64 0] w fun e w' => ∃ a cap, e = .returned (.slice a 0 cap) ∧
      w'.ownsRow w.heap.size 5 1 (.slice a 0 cap) 0 [] ∧ Below w.heap.size w w' := by
  go_enter Try.func27, Try.ntmps27
  go_wp2_with fail
  go_ret
  refine ⟨some ⟨w.heap.size, 0, none⟩, 0, rfl, ?_, (Below.refl _ _).alloc (Nat.le_refl _) _⟩
  exact World.ownsRow_lit w #[] 0 (Nat.le_refl _) (by unfold maxLen; omega) rfl

set_option maxHeartbeats 1000000 in
theorem l1Short_any (k : Nat) : ∀ (n : Int) (w : World), 0 ≤ n → n < 256 ^ k → n < 72057594037927936 → k ≤ 7 →
    Calls Try.prog 27 #[.int .i64 n] w fun e w' => ∃ a cap, e = .returned (.slice a (shortF k n).length cap) ∧
      w'.ownsRow w.heap.size 5 1 (.slice a (shortF k n).length cap) (shortF k n).length ((shortF k n).map (Value.int .u8)) ∧ Below w.heap.size w w' := by
  induction k with
  | zero =>
    intro n w h0 h1 _ _
    obtain rfl : n = 0 := by simp at h1; omega
    rw [shortF_zero]
    exact l1Short_zero w
  | succ k ih =>
    intro n w h0 h1 h2 hk
    by_cases hn : n = 0
    · subst hn
      rw [shortF_zero]
      exact l1Short_zero w
    · obtain ⟨i0, hi, hz0, hz1, hz2⟩ := info_parts info5
      obtain ⟨k', hk', hd⟩ := pow_step n (k + 1) (by omega) h1
      obtain rfl : k = k' := by omega
      have IH := ih (n / 256) w (by omega) hd (by omega) (by omega)
      have HI := hide IH
      have HS := hide (shortF_succ k n (by omega))
      have hL := shortF_length k (n / 256)
      have hne : (n == 0) = false := by rw [beq_eq_false_iff_ne]; exact hn
      clear IH ih hk' hd h1
      generalize shortF k (n / 256) = L at HI HS hL
      go_enter Try.func27, Try.ntmps27
      go_wp2_with fail
      refine (unhide HI).mono ?_
      rintro e w1 ⟨a, cap, rfl, hown, hbel⟩
      go_wp2_with (at_builtin; refine wpList_append_own _ rfl _ _ 22 rfl w.heap.size 5 i0 (.int .u8 0) 1 1 Try.underlying22 hi hz0 hz1 hz2 rfl (by decide) _ _ _ rfl (hown.alloc _) ⟨w1.heap.size, 0, none⟩ 1 1 [.int .u8 (n % 256)] rfl rfl ?c1 ?c2 ?c3 ?c4 ?c5 ?_)
      case c1 => exact cell_one_new _ _ _
      case c2 => intro u hu; simp at hu; subst hu; rfl
      case c3 => unfold maxLen; omega
      case c4 => omega
      case c5 => have := hbel.size; simp; omega
      intro v' w2 hown2 hgrow _
      obtain ⟨a2, cap2, hv⟩ := own_shape hown2
      have hb2 : Below w.heap.size w w2 := (hbel.alloc hbel.size _).grown hgrow (by have := hbel.size; simp; omega) (fun g e => (hown.lt g e).1)
      rw [hv] at hown2
      rw [hv]
      have HO := hide hown2
      have HB := hide hb2
      clear hown2 hb2 hgrow hown hbel
      go_wp2_with fail
      go_ret
      refine ⟨a2, cap2, ?_, ?_, unhide HB⟩
      · rw [unhide HS]; simp
      · rw [unhide HS]; simpa using unhide HO

set_option maxHeartbeats 1000000 in
theorem shortNum_in (n : Int) (w : World) (h0 : 0 ≤ n) (h1 : n ≤ 1125899906842624) : Calls Try.prog 33 #[.int .i64 n] w fun e w' => e = .returned (.bool true) ∧ w' = w := by
  go_enter Try.func33, Try.ntmps33
  go_wp2
  go_ret
  exact ⟨ret_bool (by simp), rfl⟩

set_option maxHeartbeats 1000000 in
theorem shortNum_out (n : Int) (w : World) (h : n < 0 ∨ 1125899906842624 < n) : Calls Try.prog 33 #[.int .i64 n] w fun e w' => e = .returned (.bool false) ∧ w' = w := by
  rcases h with h | h
  · have h' : decide (0 ≤ n) = false := decide_eq_false (by omega)
    go_enter Try.func33, Try.ntmps33
    go_wp2
    go_ret
    exact ⟨ret_bool (by simp), rfl⟩
  · have h0 : 0 ≤ n := by omega
    go_enter Try.func33, Try.ntmps33
    go_wp2
    go_ret
    exact ⟨ret_bool (by simp; omega), rfl⟩

set_option maxHeartbeats 1000000 in
theorem specShort_any (n : Int) (w : World) :
    Calls Try.prog 19 #[.int .i64 n] w fun e w' => ∃ a cap, e = .returned (.agg #[.int .i64 (sbCode n), .slice a (sbBytes n).length cap]) ∧
      w'.ownsRow w.heap.size 5 1 (.slice a (sbBytes n).length cap) (sbBytes n).length ((sbBytes n).map (Value.int .u8)) ∧ Below w.heap.size w w' := by
  by_cases hr : 0 ≤ n ∧ n ≤ 1125899906842624
  · have e1 : sbCode n = 0 := if_pos hr
    have e2 : sbBytes n = shortF 7 n := if_pos hr
    rw [e1, e2]
    obtain ⟨h0, h1⟩ := hr
    have e : (256 : Int) ^ 7 = 72057594037927936 := by decide
    have H := fun W => l1Short_any 7 n W h0 (by rw [e]; omega) (by omega) (Nat.le_refl _)
    have HH := hide H
    clear e e1 e2 H
    generalize shortF 7 n = L at HH
    go_enter Try.func19, Try.ntmps19
    go_wp2_with fail
    refine (shortNum_in n _ h0 h1).mono ?_
    rintro e w1 ⟨rfl, rfl⟩
    go_wp2_with fail
    refine ((unhide HH) _).mono ?_
    rintro e w2 ⟨a, cap, rfl, hown, hbel⟩
    have hsz : (w.alloc (.cells #[.int .i64 0, .slice none 0 0] 26)).heap.size = w.heap.size + 1 := by simp
    rw [hsz] at hown hbel
    have q0 : w2.cell? ⟨w.heap.size, 0, none⟩ = some (.int .i64 0) := (hbel.cell (by simp)).trans (by simp)
    have q1 : w2.cell? ⟨w.heap.size, 1, none⟩ = some (.slice none 0 0) := (hbel.cell (by simp)).trans (by simp)
    have f0 : w2.frozen? ⟨w.heap.size, 0, none⟩ = false := (hbel.frozen (by simp)).trans (by simp)
    have f1 : w2.frozen? ⟨w.heap.size, 1, none⟩ = false := (hbel.frozen (by simp)).trans (by simp)
    have hb2 : Below w.heap.size w w2 := ((Below.refl _ _).alloc (Nat.le_refl _) _).trans (hbel.mono (by omega))
    have HB := hide hb2
    have HO := hide hown
    clear hb2 hown hbel hsz
    go_wp2_with fail
    refine bodyPost_ret (v := .agg #[.int .i64 0, .slice a L.length cap]) (by simp [results, Try.results19, go_sem, q0, q1]) rfl ⟨a, cap, rfl, ?_, ?_⟩
    · exact ownsRow_base (ownsRow_setCell_below (ownsRow_setCell_below (unhide HO) (by simp) _) (by simp) _) (by omega)
    · exact ((unhide HB).setCell (by simp) _).setCell (by simp) _
  · have e1 : sbCode n = 3 := if_neg hr
    have e2 : sbBytes n = [] := if_neg hr
    rw [e1, e2]
    go_enter Try.func19, Try.ntmps19
    go_wp2_with fail
    refine (shortNum_out n _ (by omega)).mono ?_
    rintro e w1 ⟨rfl, rfl⟩
    go_wp2_with fail
    exact bodyPost_ret (v := .agg #[.int .i64 3, .slice none 0 0]) (by simp [results, Try.results19, go_sem]) rfl ⟨none, 0, rfl, World.ownsRow_nil _ _ _ _, (Below.refl _ _).alloc (Nat.le_refl _) _⟩

end Go.Proofs.Ytcgiibifcnefhaa
