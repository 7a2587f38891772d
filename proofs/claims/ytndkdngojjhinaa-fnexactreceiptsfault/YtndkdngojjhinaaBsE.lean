/- What is proved here: the contract of the laws' helper function that compares slices of slices of bytes (eqByteSS). -/
import Derived.Test.YtndkdngojjhinaaChecked
import Derived.Test.YtndkdngojjhinaaBase
import Derived.Test.YtndkdngojjhinaaByteS
import Derived.Test.YtndkdngojjhinaaBsB
import Derived.WalkKit
import Derived.WalkLawsBesides
import Derived.WalkSmall
import Derived.Deep.RegionWith
import Derived.KernelRfl
import Derived.WalkSpells
namespace Go.Proofs.Ytndkdngojjhinaa
open Go.RowKit
set_option linter.unusedVariables false
set_option maxRecDepth 100000

set_option maxHeartbeats 2000000 in
theorem eqByteSS_any (a b : Option Addr) (la ca lb cb : Nat) (xs ys : List (List Int)) (w : World) (ha : BsRow w a la xs) (hb : BsRow w b lb ys) (hl : la ≤ 1048576) (hl2 : lb ≤ 1048576) (hx : ∀ z ∈ xs, z.length ≤ 1048576) (hy : ∀ z ∈ ys, z.length ≤ 1048576) :
    Calls Try.prog 9 #[.slice a la ca, .slice b lb cb] w fun e w' => e = .returned (.bool (sameBs xs ys)) ∧ ∃ n, w' = w.drewN n := by
  have hxl := ha.1
  have hyl := hb.1
  by_cases hne : la = lb
  · subst hne
    have hlen : (((la : Nat) : Int) != ((la : Nat) : Int)) = false := by simp
    rcases Nat.eq_zero_or_pos la with h0 | hp
    · subst h0
      have hx : xs = [] := List.length_eq_zero_iff.1 hxl
      have hy : ys = [] := List.length_eq_zero_iff.1 hyl
      subst hx hy
      clear ha hb
      go_enter Try.func9, Try.ntmps9
      go_wp2_with fail
      refine wp_loop_rounds 1 ?_
      rw [rounds_succ]
      go_wp2_with fail
      go_ret
      exact ⟨rfl, 0, rfl⟩
    · obtain ⟨ba, oa, rfl, hba, hca⟩ := ha.at hp
      obtain ⟨bb, ob, rfl, hbb, hcb⟩ := hb.at hp
      have HCA := hide hca
      have HCB := hide hcb
      have HX := hide hx
      have HY := hide hy
      have HXL := hide hxl
      have HYL := hide hyl
      clear ha hb hca hcb hx hy hxl hyl
      go_enter Try.func9, Try.ntmps9
      go_wp2_with fail
      go_loopw [5] (fun i wr => ∃ k n : Nat, k ≤ la ∧ i = .int .i64 k ∧ sameBs xs ys = sameBs (xs.drop k) (ys.drop k) ∧ wr = w.drewN n) (fun i _ => la - (intOf i).toNat)
      case atStart => exact ⟨0, 0, Nat.zero_le _, rfl, by simp, rfl⟩
      case round =>
        obtain ⟨k, n, hk, rfl, hpre, rfl⟩ := hrel
        by_cases hlt : k < la
        · obtain ⟨x, hix⟩ : ∃ z, xs[k]? = some z := ⟨_, List.getElem?_eq_getElem (by rw [unhide HXL]; exact hlt)⟩
          obtain ⟨y, hiy⟩ : ∃ z, ys[k]? = some z := ⟨_, List.getElem?_eq_getElem (by rw [unhide HYL]; exact hlt)⟩
          have hst := sameBs_step xs ys k x y hix hiy
          rw [← hpre] at hst
          obtain ⟨s1, n1, d1, p0, r1⟩ := (unhide HCA) k x hix
          obtain ⟨s2, n2, d2, q0, r2⟩ := (unhide HCB) k y hiy
          have m1 : n1 ≤ 1048576 := by rw [← r1.1]; exact (unhide HX) x (List.mem_of_getElem? hix)
          have m2 : n2 ≤ 1048576 := by rw [← r2.1]; exact (unhide HY) y (List.mem_of_getElem? hiy)
          have HEQ := hide (fun (m : Nat) => eqByteS_any s1 s2 n1 d1 n2 d2 x y (w.drewN m) (r1.below (B := w.heap.size) (below_drewN (Below.refl _ _) m) (Nat.le_refl _)) (r2.below (B := w.heap.size) (below_drewN (Below.refl _ _) m) (Nat.le_refl _)) m1 m2)
          have HP := hide hpre
          have HS := hide hst
          have i1 : (0 : Int) ≤ (k : Int) := by omega
          have i2 : (k : Int) < (la : Int) := by omega
          clear r1 r2 hst hpre hix hiy m1 m2
          generalize sameB x y = sb at HEQ HS
          go_wp2_with fail
          go_region_with (first | (go_at_call 21; refine ((unhide HEQ) (n + 1)).mono ?_; rintro e w1 ⟨rfl, m, rfl⟩))
          all_goals
            cases sb
            · go_wp2_with fail
              go_ret
              exact ⟨ret_bool (by rw [unhide HS]; rfl), _, by first | rfl | exact World.drewN_drewN ..⟩
            · go_wp2_with fail
              go_roundw
              case rel => exact ⟨k + 1, _, by omega, by go_num, by rw [unhide HS]; simp, by first | rfl | exact World.drewN_drewN ..⟩
              case measure => simp [intOf]; omega
        · obtain rfl : k = la := by omega
          have e := sameBs_end xs ys k (unhide HXL) (unhide HYL)
          rw [e] at hpre
          have HE := hide hpre
          clear e hpre
          go_wp2_with fail
          go_ret
          exact ⟨ret_bool (unhide HE).symm, n, rfl⟩
  · have hlen : (((la : Nat) : Int) != ((lb : Nat) : Int)) = true := by simp; omega
    have HE := hide (sameBs_len xs ys (by rw [hxl, hyl]; exact hne))
    clear ha hb hxl hyl
    go_enter Try.func9, Try.ntmps9
    go_wp2_with fail
    go_ret
    exact ⟨ret_bool (unhide HE).symm, 0, rfl⟩

end Go.Proofs.Ytndkdngojjhinaa
