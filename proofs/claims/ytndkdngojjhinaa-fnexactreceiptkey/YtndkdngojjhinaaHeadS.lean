/- What is proved here: what the model's l3Head answers: the head of an item, in new memory. -/
import Derived.Test.YtndkdngojjhinaaChecked
import Derived.Test.YtndkdngojjhinaaBase
import Derived.Test.YtndkdngojjhinaaInfo
import Derived.Test.YtndkdngojjhinaaHeadF
import Derived.Test.YtndkdngojjhinaaOwnSrc
import Derived.Test.YtndkdngojjhinaaL1Short
import Derived.WalkKit
import Derived.WalkLawsBesides
import Derived.WalkSmall
import Derived.WalkSpells
import Derived.KernelRfl
namespace Go.Proofs.Ytndkdngojjhinaa
open Go.RowKit
set_option linter.unusedVariables false
set_option maxRecDepth 100000

set_option maxHeartbeats 1000000 in
theorem l3Head_small (l : Bool) (n : Int) (w : World) (h0 : 0 ≤ n) (h1 : n ≤ 55) :
    Calls Try.prog 35 #[.bool l, .int .i64 n] w fun e w' => ∃ a cap, e = .returned (.slice a (headL l n).length cap) ∧
      w'.ownsRow w.heap.size 5 1 (.slice a (headL l n).length cap) (headL l n).length ((headL l n).map (Value.int .u8)) ∧ Below w.heap.size w w' := by
  have e : headL l n = [headB l + n] := if_pos h1
  rw [e]
  have hd : decide (n ≤ 55) = true := decide_eq_true h1
  cases l
  all_goals
    go_enter Try.func35, Try.ntmps35
    go_wp2_with fail
    go_ret
    refine ⟨some ⟨w.heap.size, 0, none⟩, 1, rfl, ?_, (Below.refl _ _).alloc (Nat.le_refl _) _⟩
    exact World.ownsRow_lit w #[.int .u8 _] 1 (Nat.le_refl _) (by unfold maxLen; omega) rfl

set_option maxHeartbeats 1000000 in
theorem l3Head_long (l : Bool) (n : Int) (w : World) (h0 : 55 < n) (h1 : n < 16777216) :
    Calls Try.prog 35 #[.bool l, .int .i64 n] w fun e w' => ∃ a cap, e = .returned (.slice a (headL l n).length cap) ∧
      w'.ownsRow w.heap.size 5 1 (.slice a (headL l n).length cap) (headL l n).length ((headL l n).map (Value.int .u8)) ∧ Below w.heap.size w w' := by
  obtain ⟨i0, hi, hz0, hz1, hz2⟩ := info_parts info5
  have e : headL l n = (headB l + 55 + (shortF 7 n).length) :: shortF 7 n := if_neg (by omega)
  rw [e]
  have hd : decide (n ≤ 55) = false := decide_eq_false (by omega)
  have p : (256 : Int) ^ 7 = 72057594037927936 := by decide
  have HH := hide (l1Short_any 7 n w (by omega) (by rw [p]; omega) (by omega) (Nat.le_refl _))
  have hs3 := shortF_small n (by omega) h1
  have hs0 := shortF_pos n (by omega)
  have hrg := hide (shortF_range 7 n)
  clear e p
  generalize shortF 7 n = L at HH hs3 hs0 hrg
  cases l
  all_goals
    go_enter Try.func35, Try.ntmps35
    go_wp2_with fail
    refine (unhide HH).mono ?_
    rintro e w1 ⟨a, cap, rfl, hown, hbel⟩
    obtain ⟨g, cap', hv⟩ := own_some hown hs0
    simp only [Value.slice.injEq] at hv
    obtain ⟨rfl, _, rfl⟩ := hv
    have hr := BRow.own hown (unhide hrg)
    go_wp2_with (at_builtin; refine wpList_append_own _ rfl _ _ 28 rfl w.heap.size 5 i0 (.int .u8 0) 1 1 Try.underlying28 hi hz0 hz1 hz2 rfl (by decide) _ 1 [.int .u8 _] rfl (World.ownsRow_lit w1 #[.int .u8 _] 1 hbel.size (by unfold maxLen; omega) rfl) ⟨g, 0, none⟩ L.length _ (L.map (Value.int .u8)) rfl (by simp) ?c1 ?c2 ?c3 ?c4 ?c5 ?_)
    case c1 =>
      intro j u hj
      exact own_src hown _ j u hj
    case c2 => intro u hu; obtain ⟨x, _, rfl⟩ := List.mem_map.1 hu; rfl
    case c3 => unfold maxLen; omega
    case c4 => omega
    case c5 => have := hbel.size; simp; omega
    intro v' w2 hown2 hgrow _
    obtain ⟨a2, cap2, hv⟩ := own_shape hown2
    have hb2 : Below w.heap.size w w2 := (hbel.alloc hbel.size _).grown hgrow (by have := hbel.size; simp; omega) (fun g e => by cases e; exact hbel.size)
    rw [hv] at hown2
    rw [hv]
    have HO := hide hown2
    have HB := hide hb2
    clear hown2 hb2 hgrow hown hbel hr
    go_wp2_with fail
    go_ret
    refine ⟨a2, cap2, ?_, ?_, unhide HB⟩
    · rw [Nat.add_comm]; rfl
    · have := unhide HO
      rw [Nat.add_comm] at this
      simpa [headB] using this

theorem l3Head_any (l : Bool) (n : Int) (w : World) (h0 : 0 ≤ n) (h1 : n < 16777216) :
    Calls Try.prog 35 #[.bool l, .int .i64 n] w fun e w' => ∃ a cap, e = .returned (.slice a (headL l n).length cap) ∧
      w'.ownsRow w.heap.size 5 1 (.slice a (headL l n).length cap) (headL l n).length ((headL l n).map (Value.int .u8)) ∧ Below w.heap.size w w' := by
  by_cases h : n ≤ 55
  · exact l3Head_small l n w h0 h
  · exact l3Head_long l n w (by omega) h1

end Go.Proofs.Ytndkdngojjhinaa
