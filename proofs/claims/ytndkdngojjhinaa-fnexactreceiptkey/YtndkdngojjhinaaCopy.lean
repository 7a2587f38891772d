/- What is proved here: the model's copy of bytes gives the same bytes in new memory. -/
import Derived.Test.YtndkdngojjhinaaChecked
import Derived.Test.YtndkdngojjhinaaBase
import Derived.Test.YtndkdngojjhinaaInfo
import Derived.Laws.AppendOwnNone
import Derived.WalkKit
import Derived.WalkLawsBesides
import Derived.WalkSmall
import Derived.WalkSpells
import Derived.KernelRfl
namespace Go.Proofs.Ytndkdngojjhinaa
open Go.RowKit
set_option linter.unusedVariables false
set_option maxRecDepth 100000

set_option maxHeartbeats 1000000 in
theorem copy_any (a : Option Addr) (n cap : Nat) (zs : List Int) (w : World) (h : BRow w a n zs) (hcap : a = none → cap = 0) (hn : n ≤ 1048576) :
    Calls Try.prog 34 #[.slice a n cap] w fun e w' => ∃ (a' : Option Addr) (cap' : Nat), e = .returned (.slice a' n cap') ∧ w'.ownsRow w.heap.size 5 1 (.slice a' n cap') n (zs.map (Value.int .u8)) ∧ Below w.heap.size w w' := by
  obtain ⟨i0, hi, hz0, hz1, hz2⟩ := info_parts info5
  have hown0 : (w.alloc (.cells #[] 5)).ownsRow w.heap.size 5 1 (.slice (some ⟨w.heap.size, 0, none⟩) 0 0) 0 [] := World.ownsRow_lit w #[] 0 (Nat.le_refl _) (by unfold maxLen; omega) rfl
  have hb := below_alloc w (.cells #[] 5)
  have hr := h.below hb (Nat.le_refl _)
  cases a with
  | none =>
    obtain rfl : n = 0 := h.2.2.1 rfl
    obtain rfl : zs = [] := List.length_eq_zero_iff.1 h.1
    obtain rfl : cap = 0 := hcap rfl
    have HB := hide hb
    clear h hr hb
    go_enter Try.func34, Try.ntmps34
    go_wp2_with (at_builtin; refine wpList_append_own_none rfl _ _ 28 rfl w.heap.size 5 i0 1 Try.underlying28 hi _ _ _ rfl hown0 rfl ?_)
    go_ret
    exact ⟨_, _, rfl, hown0, unhide HB⟩
  | some x =>
    have HR := hide hr
    have hzl := h.1
    clear h hr
    go_enter Try.func34, Try.ntmps34
    go_wp2_with (at_builtin; refine wpList_append_own _ rfl _ _ 28 rfl w.heap.size 5 i0 (.int .u8 0) 1 1 Try.underlying28 hi hz0 hz1 hz2 rfl (by decide) _ _ _ rfl hown0 x n cap (zs.map (Value.int .u8)) rfl ?c0 ?c1 ?c2 ?c3 ?c4 ?c5 ?_)
    case c0 => simp [hzl]
    case c1 =>
      intro j u hj
      have hjl : j < zs.length := by have := (List.getElem?_eq_some_iff.1 hj).1; simpa using this
      rw [(unhide HR).2.2.2 x rfl j (by omega)]
      rw [List.getElem?_map, List.getElem?_eq_getElem hjl] at hj
      rw [getD_at _ _ hjl]
      exact hj
    case c2 => intro u hu; obtain ⟨z, _, rfl⟩ := List.mem_map.1 hu; rfl
    case c3 => unfold maxLen; omega
    case c4 => omega
    case c5 => simp
    intro v' w2 hown2 hgrow _
    obtain ⟨a2, cap2, hvv⟩ := own_shape hown2
    have hb2 : Below w.heap.size w w2 := hb.grown hgrow (by simp) (fun g e => by simp [Value.ownBlock] at e; omega)
    rw [hvv] at hown2
    rw [hvv]
    have HO := hide hown2
    have HB := hide hb2
    clear hown2 hb2 hgrow hvv hown0 hb
    go_wp2_with fail
    go_ret
    refine ⟨a2, cap2, ?_, ?_, unhide HB⟩
    · simp
    · simpa using unhide HO

end Go.Proofs.Ytndkdngojjhinaa
