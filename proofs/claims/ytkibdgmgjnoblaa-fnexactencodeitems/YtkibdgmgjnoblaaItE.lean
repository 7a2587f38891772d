/- What is proved here: the contracts of the laws' helper functions that compare items (eqItem, eqItemS). -/
import Derived.Test.YtkibdgmgjnoblaaChecked
import Derived.Test.YtkibdgmgjnoblaaBase
import Derived.Test.YtkibdgmgjnoblaaByteS
import Derived.Test.YtkibdgmgjnoblaaItF
import Derived.WalkKit
import Derived.WalkLawsBesides
import Derived.WalkSmall
import Derived.Deep.RegionWith
import Derived.KernelRfl
import Derived.WalkSpells
namespace Go.Proofs.Ytkibdgmgjnoblaa
open Go.RowKit
set_option linter.unusedVariables false

theorem below_two (w : World) (o1 o2 : Obj) : Below w.heap.size w ((w.alloc o1).alloc o2) := ((Below.refl _ _).alloc (Nat.le_refl _) _).alloc (by simp) _

set_option maxHeartbeats 1000000 in
theorem eqItem_any (l1 l2 : Bool) (p1 p2 : Int) (a1 a2 : Option Addr) (n1 n2 c1 c2 : Nat) (z1 z2 : List Int) (w : World) (h1 : BRow w a1 n1 z1) (h2 : BRow w a2 n2 z2) (hn1 : n1 ≤ 1048576) (hn2 : n2 ≤ 1048576) :
    Calls Try.prog 35 #[.agg #[.bool l1, .int .i64 p1, .slice a1 n1 c1], .agg #[.bool l2, .int .i64 p2, .slice a2 n2 c2]] w fun e w' => e = .returned (.bool (sameIt ⟨l1, p1, z1⟩ ⟨l2, p2, z2⟩)) ∧ Below w.heap.size w w' := by
  have HR := hide (fun (W : World) (hb : Below w.heap.size w W) => eqByteS_any a1 a2 n1 c1 n2 c2 z1 z2 W (h1.below hb (Nat.le_refl _)) (h2.below hb (Nat.le_refl _)) hn1 hn2)
  have HB := hide (below_two w (.cells #[.bool l1, .int .i64 p1, .slice a1 n1 c1] 32) (.cells #[.bool l2, .int .i64 p2, .slice a2 n2 c2] 32))
  clear h1 h2
  by_cases hl : l1 = l2
  · subst hl
    have e1 : (l1 == l1) = true := by simp
    by_cases hp : p1 = p2
    · subst hp
      have e2 : (p1 != p1) = false := by simp
      have HE : Hid (sameIt ⟨l1, p1, z1⟩ ⟨l1, p1, z2⟩ = sameB z1 z2) := by show _ = _; simp [sameIt]
      go_enter Try.func35, Try.ntmps35
      go_wp2_with fail
      refine ((unhide HR) _ (unhide HB)).mono ?_
      rintro e w1 ⟨rfl, m, rfl⟩
      generalize sameB z1 z2 = sb at HE
      cases sb
      all_goals
        go_wp2_with fail
        go_ret
        exact ⟨ret_bool (unhide HE).symm, below_drewN (unhide HB) m⟩
    · have e2 : (p1 != p2) = true := by simp [hp]
      have HE : Hid (sameIt ⟨l1, p1, z1⟩ ⟨l1, p2, z2⟩ = false) := by show _ = _; simp [sameIt, hp]
      go_enter Try.func35, Try.ntmps35
      go_wp2_with fail
      go_ret
      exact ⟨ret_bool (unhide HE).symm, unhide HB⟩
  · have HE : Hid (sameIt ⟨l1, p1, z1⟩ ⟨l2, p2, z2⟩ = false) := by show _ = _; simp [sameIt, hl]
    cases l1 <;> cases l2
    · exact absurd rfl hl
    · go_enter Try.func35, Try.ntmps35
      go_wp2_with fail
      go_ret
      exact ⟨ret_bool (unhide HE).symm, unhide HB⟩
    · go_enter Try.func35, Try.ntmps35
      go_wp2_with fail
      go_ret
      exact ⟨ret_bool (unhide HE).symm, unhide HB⟩
    · exact absurd rfl hl

set_option maxHeartbeats 2000000 in
theorem eqItemS_any (a b : Option Addr) (la ca lb cb : Nat) (xs ys : List It) (w : World) (ha : ItRow w a la xs) (hb : ItRow w b lb ys) (hl : la ≤ 1048576) (hl2 : lb ≤ 1048576) (hx : ∀ it ∈ xs, it.z.length ≤ 1048576) (hy : ∀ it ∈ ys, it.z.length ≤ 1048576) :
    Calls Try.prog 16 #[.slice a la ca, .slice b lb cb] w fun e w' => e = .returned (.bool (sameIts xs ys)) ∧ Below w.heap.size w w' := by
  have hxl := ha.1
  have hyl := hb.1
  by_cases hne : la = lb
  · subst hne
    have hlen : (((la : Nat) : Int) != ((la : Nat) : Int)) = false := by simp
    rcases Nat.eq_zero_or_pos la with h0 | hp
    · subst h0
      have hx : xs = [] := List.length_eq_zero_iff.1 hxl
      have hy : ys = [] := List.length_eq_zero_iff.1 hyl
      subst hx hy
      clear ha hb
      go_enter Try.func16, Try.ntmps16
      go_wp2_with fail
      refine wp_loop_rounds 1 ?_
      rw [rounds_succ]
      go_wp2_with fail
      go_ret
      exact ⟨rfl, Below.refl _ _⟩
    · obtain ⟨ba, oa, rfl, hba, hca⟩ := ha.at hp
      obtain ⟨bb, ob, rfl, hbb, hcb⟩ := hb.at hp
      have HCA := hide hca
      have HCB := hide hcb
      have HX := hide hx
      have HY := hide hy
      have HXL := hide hxl
      have HYL := hide hyl
      clear ha hb hca hcb hx hy hxl hyl
      go_enter Try.func16, Try.ntmps16
      go_wp2_with fail
      go_loopw [5] (fun i wr => ∃ k : Nat, k ≤ la ∧ i = .int .i64 k ∧ sameIts xs ys = sameIts (xs.drop k) (ys.drop k) ∧ Below w.heap.size w wr) (fun i _ => la - (intOf i).toNat)
      case atStart => exact ⟨0, Nat.zero_le _, rfl, by simp, Below.refl _ _⟩
      case round =>
        obtain ⟨k, hk, rfl, hpre, hbr⟩ := hrel
        by_cases hlt : k < la
        · obtain ⟨x, hix⟩ : ∃ it, xs[k]? = some it := ⟨_, List.getElem?_eq_getElem (by rw [unhide HXL]; exact hlt)⟩
          obtain ⟨y, hiy⟩ : ∃ it, ys[k]? = some it := ⟨_, List.getElem?_eq_getElem (by rw [unhide HYL]; exact hlt)⟩
          have hst := sameIts_step xs ys k x y hix hiy
          rw [← hpre] at hst
          obtain ⟨s1, n1, d1, p0, p1, p2, r1⟩ := ((unhide HCA) k x hix).below hbr (Nat.le_refl _)
          obtain ⟨s2, n2, d2, q0, q1, q2, r2⟩ := ((unhide HCB) k y hiy).below hbr (Nat.le_refl _)
          have m1 : n1 ≤ 1048576 := by rw [← r1.1]; exact (unhide HX) x (List.mem_of_getElem? hix)
          have m2 : n2 ≤ 1048576 := by rw [← r2.1]; exact (unhide HY) y (List.mem_of_getElem? hiy)
          obtain ⟨xl, xp, xz⟩ := x
          obtain ⟨yl, yp, yz⟩ := y
          have HEQ := hide (eqItem_any xl yl xp yp s1 s2 n1 n2 d1 d2 xz yz wr.drew (r1.below (B := wr.heap.size) ((Below.refl _ _).drew) (Nat.le_refl _)) (r2.below (B := wr.heap.size) ((Below.refl _ _).drew) (Nat.le_refl _)) m1 m2)
          have HP := hide hpre
          have HS := hide hst
          have HB := hide hbr
          have i1 : (0 : Int) ≤ (k : Int) := by omega
          have i2 : (k : Int) < (la : Int) := by omega
          clear r1 r2 hst hpre hbr hix hiy m1 m2
          generalize sameIt ⟨xl, xp, xz⟩ ⟨yl, yp, yz⟩ = sb at HEQ HS
          go_wp2_with fail
          go_region_with (first | (go_at_call 35; refine (unhide HEQ).mono ?_; rintro e w1 ⟨rfl, b1⟩))
          all_goals
            have HB1 := hide ((unhide HB).trans ((((Below.refl _ _).drew).trans b1 : Below wr.heap.size wr w1).mono (unhide HB).size))
            clear b1
            cases sb
            · go_wp2_with fail
              go_ret
              exact ⟨ret_bool (by rw [unhide HS]; rfl), unhide HB1⟩
            · go_wp2_with fail
              go_roundw
              case rel => exact ⟨k + 1, by omega, by go_num, by rw [unhide HS]; simp, unhide HB1⟩
              case measure => simp [intOf]; omega
        · obtain rfl : k = la := by omega
          have e := sameIts_end xs ys k (unhide HXL) (unhide HYL)
          rw [e] at hpre
          have HE := hide hpre
          clear e hpre
          go_wp2_with fail
          go_ret
          exact ⟨ret_bool (unhide HE).symm, hbr⟩
  · have hlen : (((la : Nat) : Int) != ((lb : Nat) : Int)) = true := by simp; omega
    have HE := hide (sameIts_len xs ys (by rw [hxl, hyl]; exact hne))
    clear ha hb hxl hyl
    go_enter Try.func16, Try.ntmps16
    go_wp2_with fail
    go_ret
    exact ⟨ret_bool (unhide HE).symm, Below.refl _ _⟩

end Go.Proofs.Ytkibdgmgjnoblaa
