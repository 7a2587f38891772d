/- What is proved here: what the program's spansOf answers: each receipt's place and length, in new memory. -/
import Derived.Test.YtndkdngojjhinaaRpI
import Derived.Test.YtndkdngojjhinaaBsB
import Derived.WalkSpells
namespace Go.Proofs.Ytndkdngojjhinaa
open Go.RowKit
set_option linter.unusedVariables false
set_option maxRecDepth 100000

/-- The receipts' places and lengths. -/
def spRow (zss : List (List Int)) : List Value := zss.mapIdx (fun i z => spV i z.length)

theorem spRow_length (zss : List (List Int)) : (spRow zss).length = zss.length := by unfold spRow; simp

theorem spRow_step (zss : List (List Int)) (k : Nat) (z : List Int) (h : zss[k]? = some z) : spRow (zss.take (k + 1)) = spRow (zss.take k) ++ [spV k z.length] := by
  obtain ⟨hk, e⟩ := List.getElem?_eq_some_iff.1 h
  unfold spRow
  rw [List.take_succ_eq_append_getElem hk, List.mapIdx_append, e]
  have hl : (zss.take k).length = k := by rw [List.length_take]; omega
  simp [hl]

theorem spRow_at (zss : List (List Int)) (k : Nat) (z : List Int) (h : zss[k]? = some z) : (spRow zss)[k]? = some (spV k z.length) := by
  unfold spRow
  simp [h]

theorem infoSpan : (Try.prog.info? 40).map (fun i => (i.zero, i.size, i.bytes)) = some (some (.complex .f64 0 0), 1, 16) := by kernel_rfl

set_option maxHeartbeats 2000000 in
theorem spansOf_any (a : Option Addr) (len cap : Nat) (zss : List (List Int)) (w : World) (h : BsRow w a len zss) (hl : len ≤ 1048576) :
    Calls Try.prog 18 #[.slice a len cap] w fun e w' => ∃ a' cap', e = .returned (.slice a' len cap') ∧
      w'.ownsRow w.heap.size 40 1 (.slice a' len cap') len (spRow zss) ∧ Below w.heap.size w w' := by
  obtain ⟨i0, hi, hz0, hz1, hz2⟩ := info_parts infoSpan
  have hil := h.1
  rcases Nat.eq_zero_or_pos len with h0 | hp
  · subst h0
    obtain rfl : zss = [] := List.length_eq_zero_iff.1 hil
    clear h
    go_enter Try.func18, Try.ntmps18
    go_wp2_with fail
    refine wp_loop_rounds 1 ?_
    rw [rounds_succ]
    go_wp2_with fail
    go_ret
    exact ⟨none, 0, rfl, World.ownsRow_nil _ _ _ _, Below.refl _ _⟩
  · obtain ⟨b, off, rfl, hb, hc⟩ := h.at hp
    have HC := hide hc
    have HL := hide hil
    clear h hc hil
    go_enter Try.func18, Try.ntmps18
    go_wp2_with fail
    go_loopw [3, 8] (fun s i wr => ∃ (k : Nat) (a' : Option Addr) (cap' : Nat), k ≤ len ∧ i = .int .i64 k ∧ s = .slice a' k cap' ∧ wr.ownsRow w.heap.size 40 1 (.slice a' k cap') k (spRow (zss.take k)) ∧ Below w.heap.size w wr) (fun _ i _ => len - (intOf i).toNat)
    case atStart => exact ⟨0, none, 0, Nat.zero_le _, rfl, rfl, World.ownsRow_nil _ _ _ _, Below.refl _ _⟩
    case round =>
      obtain ⟨k, a', cap', hk, rfl, rfl, hown, hbr⟩ := hrel
      by_cases hlt : k < len
      · obtain ⟨z, hit⟩ : ∃ z, zss[k]? = some z := ⟨_, List.getElem?_eq_getElem (by rw [unhide HL]; exact hlt)⟩
        obtain ⟨s1, n1, d1, p0, r1⟩ := ((unhide HC) k z hit).below hbr (Nat.le_refl _)
        have hzl : z.length = n1 := r1.1
        have hs := spRow_step zss k z hit
        rw [hzl] at hs
        have HS := hide hs
        have i1 : (0 : Int) ≤ (k : Int) := by omega
        have i2 : (k : Int) < (len : Int) := by omega
        have i3 : decide ((k : Int) < (len : Int)) = true := decide_eq_true i2
        have HSP := hide (fun (W : World) => spanOf_any k n1 d1 s1 W)
        have hsz := hbr.size
        have HBR := hide hbr
        have hrow : ∀ g, (Value.slice a' k cap').ownBlock = some g → w.heap.size ≤ g := fun g e => (hown.lt g e).1
        generalize spRow (zss.take k) = L at hown HS
        unfold spV at HS HSP
        generalize (FloatKind.f64).nearest ((k : Nat) : Int) = x0 at HS HSP
        generalize (FloatKind.f64).nearest ((n1 : Nat) : Int) = y0 at HS HSP
        clear r1 hit hzl hs hbr
        go_wp2_with fail
        refine ((unhide HSP) _).mono ?_
        rintro e w1 ⟨rfl, rfl⟩
        go_wp2_with (at_builtin; refine wpList_append_own _ rfl _ _ 37 rfl w.heap.size 40 i0 (.complex .f64 0 0) 1 16 Try.underlying37 hi hz0 hz1 hz2 rfl (by decide) _ _ _ rfl (hown.alloc _) ⟨w1.heap.size, 0, none⟩ 1 1 [.complex .f64 x0 y0] rfl rfl ?c1 ?c2 ?c3 ?c4 ?c5 ?_)
        case c1 => intro j u hj; cases j with
          | zero => simp at hj; subst hj; simp [Addr.add]
          | succ j => simp at hj
        case c2 => intro u hu; simp at hu; subst hu; rfl
        case c3 => unfold maxLen; omega
        case c4 => omega
        case c5 => simp; omega
        intro v' w2 hown2 hgrow _
        obtain ⟨a2, cap2, hv⟩ := own_shape hown2
        have hb2 : Below w.heap.size w w2 := ((unhide HBR).alloc (by omega) _).grown hgrow (by simp; omega) (fun g e => hrow g e)
        rw [hv] at hown2
        rw [hv]
        have HO := hide hown2
        have HB := hide hb2
        clear hown2 hb2 hgrow hown
        go_wp2_with fail
        go_roundw
        case rel => exact ⟨k + 1, a2, cap2, by omega, by go_num, rfl, by rw [unhide HS]; exact unhide HO, unhide HB⟩
        case measure => simp [intOf]; omega
      · obtain rfl : k = len := by omega
        have HO := hide hown
        have HB := hide hbr
        rw [List.take_of_length_le (by rw [unhide HL]; exact Nat.le_refl _)] at HO
        clear hown hbr
        go_wp2_with fail
        go_ret
        exact ⟨a', cap', rfl, unhide HO, unhide HB⟩

end Go.Proofs.Ytndkdngojjhinaa
