/- What is proved here: what the model's l3Piece and l3Wrap answer: bytes as an item, and what is in a list as an item, in new memory. -/
import Derived.Test.YtndkdngojjhinaaChecked
import Derived.Test.YtndkdngojjhinaaHeadS
import Derived.Test.YtndkdngojjhinaaCopy
import Derived.Test.YtndkdngojjhinaaAppB
import Derived.Test.YtndkdngojjhinaaEncG
import Derived.WalkKit
import Derived.WalkLawsBesides
import Derived.WalkSmall
import Derived.WalkSpells
import Derived.KernelRfl
namespace Go.Proofs.Ytndkdngojjhinaa
open Go.RowKit
set_option linter.unusedVariables false
set_option maxRecDepth 100000

/-- The head of bytes. -/
def pieceHd (z : List Int) : List Int := if z.length = 1 ∧ z.getD 0 0 < 128 then [] else headL false z.length

set_option maxHeartbeats 1000000 in
theorem l3Piece_any (a : Option Addr) (n cap : Nat) (z : List Int) (w : World) (h : BRow w a n z) (hc : a = none → cap = 0) (hn : n ≤ 1048576) :
    Calls Try.prog 30 #[.slice a n cap] w fun e w' => ∃ a' cap', e = .returned (.slice a' (pieceHd z ++ z).length cap') ∧
      w'.ownsRow w.heap.size 5 1 (.slice a' (pieceHd z ++ z).length cap') (pieceHd z ++ z).length ((pieceHd z ++ z).map (Value.int .u8)) ∧ Below w.heap.size w w' := by
  obtain ⟨i0, hi, hz0, hz1, hz2⟩ := info_parts info5
  have hzl := h.1
  by_cases t : n = 1 ∧ z.getD 0 0 < 128
  · obtain ⟨rfl, h128⟩ := t
    have e : pieceHd z = [] := if_pos ⟨hzl, h128⟩
    rw [e, List.nil_append]
    have HC := hide (copy_any a 1 cap z w h hc (by omega))
    obtain ⟨b, off, rfl, _, hcell⟩ := h.at (by omega)
    have c0 := hcell 0 (by omega)
    rw [Nat.add_zero] at c0
    generalize z.getD 0 0 = x at c0 h128
    have d1 : decide (x < 128) = true := decide_eq_true h128
    rw [hzl]
    clear h hc e hcell
    go_enter Try.func30, Try.ntmps30
    go_wp2_with fail
    refine (unhide HC).mono ?_
    rintro e w1 ⟨a1, c1, rfl, o1, b1⟩
    go_wp2_with fail
    go_ret
    exact ⟨a1, c1, rfl, o1, b1⟩
  · have e : pieceHd z = headL false n := by unfold pieceHd; rw [if_neg (by rw [hzl]; exact t), hzl]
    rw [e]
    have HH := hide (l3Head_any false n w (by omega) (by omega))
    have hhl := headL_length false n
    have HR := hide (fun (W : World) (hb : Below w.heap.size w W) => h.below hb (Nat.le_refl _))
    generalize headL false n = L at HH hhl
    have HL : Hid ((L ++ z).length = L.length + n) := by show _ = _; rw [List.length_append, hzl]
    by_cases t1 : n = 1
    · subst t1
      obtain ⟨b, off, rfl, _, hcell⟩ := h.at (by omega)
      have c0 := hcell 0 (by omega)
      rw [Nat.add_zero] at c0
      have h128 : ¬ z.getD 0 0 < 128 := fun hh => t ⟨rfl, hh⟩
      generalize z.getD 0 0 = x at c0 h128
      have d1 : decide (x < 128) = false := decide_eq_false h128
      clear h e hcell t hzl
      go_enter Try.func30, Try.ntmps30
      go_wp2_with fail
      refine (unhide HH).mono ?_
      rintro e w1 ⟨a1, c1, rfl, o1, b1⟩
      have hr := (unhide HR) w1 b1
      go_wp2_with (at_builtin; refine wpList_append_brow _ rfl _ _ 28 rfl w.heap.size i0 Try.underlying28 hi hz0 hz1 hz2 _ L.length L rfl o1 _ 1 cap z rfl hr hc (by omega) b1.size ?_)
      intro a2 c2 w2 o2 g2
      have hb2 : Below w.heap.size w w2 := b1.grown g2 b1.size (fun g e => (o1.lt g e).1)
      have HO := hide o2
      have HB := hide hb2
      clear o2 hb2 g2 o1 b1 hr
      go_wp2_with fail
      go_ret
      refine ⟨a2, c2, ?_, ?_, unhide HB⟩
      · rw [unhide HL]; rfl
      · rw [unhide HL, List.map_append]; exact unhide HO
    · have d1 : (((n : Nat) : Int) == 1) = false := by simp; omega
      clear h e t hzl
      go_enter Try.func30, Try.ntmps30
      go_wp2_with fail
      refine (unhide HH).mono ?_
      rintro e w1 ⟨a1, c1, rfl, o1, b1⟩
      have hr := (unhide HR) w1 b1
      go_wp2_with (at_builtin; refine wpList_append_brow _ rfl _ _ 28 rfl w.heap.size i0 Try.underlying28 hi hz0 hz1 hz2 _ L.length L rfl o1 a n cap z rfl hr hc (by omega) b1.size ?_)
      intro a2 c2 w2 o2 g2
      have hb2 : Below w.heap.size w w2 := b1.grown g2 b1.size (fun g e => (o1.lt g e).1)
      have HO := hide o2
      have HB := hide hb2
      clear o2 hb2 g2 o1 b1 hr
      go_wp2_with fail
      go_ret
      refine ⟨a2, c2, ?_, ?_, unhide HB⟩
      · rw [unhide HL]; rfl
      · rw [unhide HL, List.map_append]; exact unhide HO

end Go.Proofs.Ytndkdngojjhinaa
