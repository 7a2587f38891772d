/- What is proved here: the model's draws of bytes and numbers return, write into no memory that was there, and give bytes of bounded length. -/
import Derived.Test.YtpcokoejmodmaaaChecked
import Derived.Test.YtpcokoejmodmaaaBase
import Derived.Test.YtpcokoejmodmaaaInfo
import Derived.Test.YtpcokoejmodmaaaNext
import Derived.Test.YtpcokoejmodmaaaSrcN
import Derived.WalkKit
import Derived.WalkLawsBesides
import Derived.WalkSmall
import Derived.WalkSpells
import Derived.KernelRfl
namespace Go.Proofs.Ytpcokoejmodmaaa
open Go.RowKit
set_option linter.unusedVariables false

set_option maxHeartbeats 1000000 in
theorem some_any (b : Nat) (t : Int) (n : Nat) (w : World) (h : SrcOk w b t) (ht : 0 ≤ t) (ht2 : t ≤ 100000) (hn2 : n ≤ 400) :
    Calls Try.prog 42 #[.pointer (some ⟨b, 0, none⟩), .int .i64 (n : Int)] w fun e w' => ∃ (g cap : Nat) (zs : List Int), e = .returned (.slice (some ⟨g, 0, none⟩) n cap) ∧ zs.length = n ∧ (∀ x ∈ zs, 0 ≤ x ∧ x ≤ 255) ∧
      w'.ownsRow w.heap.size 5 1 (.slice (some ⟨g, 0, none⟩) n cap) n (zs.map (Value.int .u8)) ∧ SrcOk w' b (t + n) ∧ w.grownBy w' (some b) := by
  obtain ⟨i0, hi, hz0, hz1, hz2⟩ := info_parts info5
  have hbl := h.lt
  have HH := hide h
  clear h
  go_enter Try.func42, Try.ntmps42
  go_wp2_with fail
  go_loopw [1, 5] (fun i v wr => ∃ (k g cap : Nat) (zs : List Int), k ≤ n ∧ i = .int .i64 ((n : Int) - k) ∧ v = .slice (some ⟨g, 0, none⟩) k cap ∧ zs.length = k ∧ (∀ x ∈ zs, 0 ≤ x ∧ x ≤ 255) ∧
      wr.ownsRow w.heap.size 5 1 (.slice (some ⟨g, 0, none⟩) k cap) k (zs.map (Value.int .u8)) ∧ SrcOk wr b (t + k) ∧ w.grownBy wr (some b)) (fun i _ _ => (intOf i).toNat)
  case atStart =>
    refine ⟨0, w.heap.size, 0, [], Nat.zero_le _, by simp, rfl, rfl, fun x hx => by simp at hx, ?_, ?_, World.grownBy_alloc w _ _⟩
    · exact World.ownsRow_lit w #[] 0 (Nat.le_refl _) (by unfold maxLen; omega) rfl
    · simpa using (unhide HH).below (below_alloc w _) (Nat.le_refl _)
  case round =>
    obtain ⟨k, g, cap, zs, hk, rfl, rfl, hzl, hzr, hown, hsrc, hgr⟩ := hrel
    clear HH
    by_cases hlt : k < n
    · have hsz := hgr.size
      have HN := hide (next_any b (t + k) 256 wr hsrc (by omega) (by omega) (by omega) (by omega))
      have HG := hide hgr
      have HZ := hide hzr
      clear hsrc hgr hzr
      go_wp2_with fail
      refine (unhide HN).mono ?_
      rintro e w1 ⟨⟨v, rfl, hv0, hv1⟩, hsrc1, hg1⟩
      have hown1 : w1.ownsRow w.heap.size 5 1 (.slice (some ⟨g, 0, none⟩) k cap) k (zs.map (Value.int .u8)) := hown.kept hg1 (by
        refine .inr (fun e => ?_)
        have h1 := (hown.lt g rfl).1
        simp [Value.ownBlock] at e
        omega)
      have hsz1 := hg1.size
      clear HN
      go_wp2_with (at_builtin; refine wpList_append_own _ rfl _ _ 22 rfl w.heap.size 5 i0 (.int .u8 0) 1 1 Try.underlying22 hi hz0 hz1 hz2 rfl (by decide) _ _ _ rfl (hown1.alloc _) ⟨w1.heap.size, 0, none⟩ 1 1 [.int .u8 v] rfl rfl ?c1 ?c2 ?c3 ?c4 ?c5 ?_)
      case c1 => exact cell_one_new _ _ _
      case c2 => intro u hu; simp at hu; subst hu; rfl
      case c3 => unfold maxLen; omega
      case c4 => omega
      case c5 => simp; omega
      intro v' w2 hown2 hgrow _
      obtain ⟨g2, cap2, hvv⟩ := own_some hown2 (by omega)
      have hrow : ∀ q, (Value.slice (some ⟨g, 0, none⟩) k cap).ownBlock = some q → w.heap.size ≤ q := fun q e => (hown.lt q e).1
      have hs2 : SrcOk w2 b (t + ((k + 1 : Nat) : Int)) := by
        rw [show t + ((k + 1 : Nat) : Int) = t + k + 1 from by omega]
        exact (hsrc1.below (below_alloc w1 _) (Nat.le_refl _)).grown hgrow (fun q e => by have := hrow q e; omega)
      have hg2 : w.grownBy w2 (some b) := by
        have hga := World.grownBy_alloc w1 (Obj.cells #[Value.int IntKind.u8 v] 5) (some b)
        have h01 := grownBy_trans (grownBy_trans (unhide HG) hg1) hga
        refine ⟨hgrow.os.trans h01.os, hgrow.tape.trans h01.tape, hgrow.output.trans h01.output, Nat.le_trans h01.size hgrow.size, fun q hq hne => ?_⟩
        rw [hgrow.block q (Nat.lt_of_lt_of_le hq h01.size) (fun e => by have := hrow q e.symm; omega)]
        exact h01.block q hq hne
      rw [hvv] at hown2
      rw [hvv]
      have HO := hide hown2
      have HS2 := hide hs2
      have HG2 := hide hg2
      clear hown2 hs2 hg2 hgrow hown1 hown hrow hsrc1 hg1 hvv
      go_wp2_with fail
      go_roundw
      case rel =>
        refine ⟨k + 1, g2, cap2, zs ++ [v], by omega, by go_num, rfl, by simp [hzl], ?_, by simpa using unhide HO, unhide HS2, unhide HG2⟩
        intro x hx
        rcases List.mem_append.1 hx with hx | hx
        · exact (unhide HZ) x hx
        · simp at hx; omega
      case measure => simp [intOf]; omega
    · obtain rfl : k = n := by omega
      have HO := hide hown
      have HS := hide hsrc
      have HG := hide hgr
      clear hown hsrc hgr
      go_wp2_with fail
      go_ret
      exact ⟨g, cap, zs, rfl, hzl, hzr, unhide HO, unhide HS, unhide HG⟩

end Go.Proofs.Ytpcokoejmodmaaa
