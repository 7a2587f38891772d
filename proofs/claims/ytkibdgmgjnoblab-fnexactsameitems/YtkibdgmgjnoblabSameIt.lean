/- What is proved here: what SameItems answers, in the model and in the program: whether two slices of items are the same, field by field. -/
import Derived.Test.YtkibdgmgjnoblabChecked
import Derived.Test.YtkibdgmgjnoblabSame2
import Derived.Test.YtkibdgmgjnoblabItF
import Derived.WalkKit
import Derived.WalkLawsBesides
import Derived.WalkSmall
import Derived.BigQuiet
import Derived.Deep.QuietTactic
import Derived.KernelRfl
import Derived.WalkSpells
namespace Go.Proofs.Ytkibdgmgjnoblab
open Go.RowKit
set_option linter.unusedVariables false

/-- Whether two items, two lists of them, are the same, their bytes as strings. -/
def eqIt (a b : It) : Bool := a.l == b.l && a.p == b.p && strEq a.z b.z
def eqIts : List It → List It → Bool
  | [], [] => true
  | a :: r, b :: s => eqIt a b && eqIts r s
  | _, _ => false

theorem eqIts_step (a b : List It) (k : Nat) (x y : It) (hx : a[k]? = some x) (hy : b[k]? = some y) : eqIts (a.drop k) (b.drop k) = (eqIt x y && eqIts (a.drop (k + 1)) (b.drop (k + 1))) := by
  obtain ⟨h1, e1⟩ := List.getElem?_eq_some_iff.1 hx
  obtain ⟨h2, e2⟩ := List.getElem?_eq_some_iff.1 hy
  rw [List.drop_eq_getElem_cons h1, List.drop_eq_getElem_cons h2, e1, e2]
  rfl

theorem eqIts_end (a b : List It) (k : Nat) (h1 : a.length = k) (h2 : b.length = k) : eqIts (a.drop k) (b.drop k) = true := by
  rw [List.drop_eq_nil_of_le (by omega), List.drop_eq_nil_of_le (by omega)]
  rfl

theorem eqIts_length : ∀ (a b : List It), eqIts a b = true → a.length = b.length
  | [], [], _ => rfl
  | [], _ :: _, h => by simp [eqIts] at h
  | _ :: _, [], h => by simp [eqIts] at h
  | a :: r, b :: s, h => by
    simp [eqIts] at h
    simp [eqIts_length r s h.2]

theorem eqIts_len (a b : List It) (h : a.length ≠ b.length) : eqIts a b = false := by
  rw [Bool.eq_false_iff]
  intro e
  exact h (eqIts_length a b e)

set_option maxHeartbeats 4000000 in
theorem specSameItems_any (a b : Option Addr) (la ca lb cb : Nat) (xs ys : List It) (w : World) (ha : IRow w a la xs) (hb : IRow w b lb ys) (hl : la ≤ 1048576) (hl2 : lb ≤ 1048576) :
    Calls Try.prog 6 #[.slice a la ca, .slice b lb cb] w fun e w' => e = .returned (.bool (eqIts xs ys)) ∧ ∃ n, w' = w.drewN n := by
  have hxl := ha.1
  have hyl := hb.1
  by_cases hne : la = lb
  · subst hne
    have hlen : (((la : Nat) : Int) != ((la : Nat) : Int)) = false := by simp
    rcases Nat.eq_zero_or_pos la with h0 | hp
    · subst h0
      have hx : xs = [] := List.length_eq_zero_iff.1 hxl
      have hy : ys = [] := List.length_eq_zero_iff.1 hyl
      subst hx hy
      clear ha hb
      go_enter Try.func6, Try.ntmps6
      go_wp2_with fail
      refine wp_loop_rounds 1 ?_
      rw [rounds_succ]
      go_wp2_with fail
      go_ret
      exact ⟨rfl, 0, rfl⟩
    · obtain ⟨ba, oa, rfl, hba, hca⟩ := ha.at hp
      obtain ⟨bb, ob, rfl, hbb, hcb⟩ := hb.at hp
      have HCA := hide hca
      have HCB := hide hcb
      have HXL := hide hxl
      have HYL := hide hyl
      clear ha hb hca hcb hxl hyl
      go_enter Try.func6, Try.ntmps6
      go_wp2_with fail
      go_loopw [5] (fun i wr => ∃ k n : Nat, k ≤ la ∧ i = .int .i64 k ∧ eqIts xs ys = eqIts (xs.drop k) (ys.drop k) ∧ wr = w.drewN n) (fun i _ => la - (intOf i).toNat)
      case atStart => exact ⟨0, 0, Nat.zero_le _, rfl, by simp, rfl⟩
      case round =>
        obtain ⟨k, n, hk, rfl, hpre, hwr⟩ := hrel
        have hbw : Below w.heap.size w wr := by rw [hwr]; exact below_drewN (Below.refl _ _) n
        have HW := hide hwr
        clear hwr
        by_cases hlt : k < la
        · obtain ⟨x, hix⟩ : ∃ it, xs[k]? = some it := ⟨_, List.getElem?_eq_getElem (by rw [unhide HXL]; exact hlt)⟩
          obtain ⟨y, hiy⟩ : ∃ it, ys[k]? = some it := ⟨_, List.getElem?_eq_getElem (by rw [unhide HYL]; exact hlt)⟩
          have hst := eqIts_step xs ys k x y hix hiy
          rw [← hpre] at hst
          obtain ⟨s1, n1, d1, p0, p1, p2, r1⟩ := ((unhide HCA) k x hix).below hbw (Nat.le_refl _)
          obtain ⟨s2, n2, d2, q0, q1, q2, r2⟩ := ((unhide HCB) k y hiy).below hbw (Nat.le_refl _)
          obtain ⟨xl, xp, xz⟩ := x
          obtain ⟨yl, yp, yz⟩ := y
          have i1 : (0 : Int) ≤ (k : Int) := by omega
          have i2 : (k : Int) < (la : Int) := by omega
          simp only at p0 p1 p2 q0 q1 q2 r1 r2
          have HS := hide hst
          have HSB := hide (fun m => l1Same_any s1 s2 n1 d1 n2 d2 xz yz (wr.drewN m) (r1.below (B := wr.heap.size) (below_drewN (Below.refl _ _) m) (Nat.le_refl _)) (r2.below (B := wr.heap.size) (below_drewN (Below.refl _ _) m) (Nat.le_refl _)))
          clear r1 r2 hst hpre hix hiy hbw
          by_cases hxy : xl = yl
          · subst hxy
            have e1 : (xl == xl) = true := by simp
            have e1' : (xl != xl) = false := by simp
            by_cases hpp : xp = yp
            · subst hpp
              have e2 : (xp != xp) = false := by simp
              have hq : eqIt ⟨xl, xp, xz⟩ ⟨xl, xp, yz⟩ = strEq xz yz := by simp [eqIt]
              rw [hq] at HS
              clear hq
              generalize strEq xz yz = sb at HS HSB
              go_wp2_with fail
              go_quiet ((go_at_call 16; exact Calls.quiet_of_same ((unhide HSB) _)))
              cases sb
              · go_wp2_with fail
                go_ret
                exact ⟨ret_bool (by rw [unhide HS]; rfl), _, by rw [unhide HW]; exact World.drewN_drewN ..⟩
              · go_wp2_with fail
                go_roundw
                case rel => exact ⟨k + 1, _, by omega, by go_num, by rw [unhide HS]; simp, by rw [unhide HW]; exact World.drewN_drewN ..⟩
                case measure => simp [intOf]; omega
            · have e2 : (xp != yp) = true := by simp [hpp]
              have hq : eqIt ⟨xl, xp, xz⟩ ⟨xl, yp, yz⟩ = false := by simp [eqIt, hpp]
              rw [hq] at HS
              clear hq
              go_wp2_with fail
              go_quiet (fail)
              go_wp2_with fail
              go_ret
              exact ⟨ret_bool (by rw [unhide HS]; rfl), _, by rw [unhide HW]; exact World.drewN_drewN ..⟩
          · have hq : eqIt ⟨xl, xp, xz⟩ ⟨yl, yp, yz⟩ = false := by simp [eqIt, hxy]
            rw [hq] at HS
            clear hq
            cases xl <;> cases yl
            · exact absurd rfl hxy
            · go_wp2_with fail
              go_quiet (fail)
              go_wp2_with fail
              go_ret
              exact ⟨ret_bool (by rw [unhide HS]; rfl), _, by rw [unhide HW]; exact World.drewN_drewN ..⟩
            · go_wp2_with fail
              go_quiet (fail)
              go_wp2_with fail
              go_ret
              exact ⟨ret_bool (by rw [unhide HS]; rfl), _, by rw [unhide HW]; exact World.drewN_drewN ..⟩
            · exact absurd rfl hxy
        · obtain rfl : k = la := by omega
          have e := eqIts_end xs ys k (unhide HXL) (unhide HYL)
          rw [e] at hpre
          have HE := hide hpre
          clear e hpre
          go_wp2_with fail
          go_ret
          exact ⟨ret_bool (unhide HE).symm, n, unhide HW⟩
  · have hlen : (((la : Nat) : Int) != ((lb : Nat) : Int)) = true := by simp; omega
    have HE := hide (eqIts_len xs ys (by rw [hxl, hyl]; exact hne))
    clear ha hb hxl hyl
    go_enter Try.func6, Try.ntmps6
    go_wp2_with fail
    go_ret
    exact ⟨ret_bool (unhide HE).symm, 0, rfl⟩

set_option maxHeartbeats 4000000 in
theorem implSameItems_any (a b : Option Addr) (la ca lb cb : Nat) (xs ys : List It) (w : World) (ha : IRow w a la xs) (hb : IRow w b lb ys) (hl : la ≤ 1048576) (hl2 : lb ≤ 1048576) :
    Calls Try.prog 8 #[.slice a la ca, .slice b lb cb] w fun e w' => e = .returned (.bool (eqIts xs ys)) ∧ ∃ n, w' = w.drewN n := by
  have hxl := ha.1
  have hyl := hb.1
  by_cases hne : la = lb
  · subst hne
    have hlen : (((la : Nat) : Int) != ((la : Nat) : Int)) = false := by simp
    rcases Nat.eq_zero_or_pos la with h0 | hp
    · subst h0
      have hx : xs = [] := List.length_eq_zero_iff.1 hxl
      have hy : ys = [] := List.length_eq_zero_iff.1 hyl
      subst hx hy
      clear ha hb
      go_enter Try.func8, Try.ntmps8
      go_wp2_with fail
      refine wp_loop_rounds 1 ?_
      rw [rounds_succ]
      go_wp2_with fail
      go_ret
      exact ⟨rfl, 0, rfl⟩
    · obtain ⟨ba, oa, rfl, hba, hca⟩ := ha.at hp
      obtain ⟨bb, ob, rfl, hbb, hcb⟩ := hb.at hp
      have HCA := hide hca
      have HCB := hide hcb
      have HXL := hide hxl
      have HYL := hide hyl
      clear ha hb hca hcb hxl hyl
      go_enter Try.func8, Try.ntmps8
      go_wp2_with fail
      go_loopw [13] (fun i wr => ∃ k n : Nat, k ≤ la ∧ i = .int .i64 k ∧ eqIts xs ys = eqIts (xs.drop k) (ys.drop k) ∧ wr = w.drewN n) (fun i _ => la - (intOf i).toNat)
      case atStart => exact ⟨0, 0, Nat.zero_le _, rfl, by simp, rfl⟩
      case round =>
        obtain ⟨k, n, hk, rfl, hpre, hwr⟩ := hrel
        have hbw : Below w.heap.size w wr := by rw [hwr]; exact below_drewN (Below.refl _ _) n
        have HW := hide hwr
        clear hwr
        by_cases hlt : k < la
        · obtain ⟨x, hix⟩ : ∃ it, xs[k]? = some it := ⟨_, List.getElem?_eq_getElem (by rw [unhide HXL]; exact hlt)⟩
          obtain ⟨y, hiy⟩ : ∃ it, ys[k]? = some it := ⟨_, List.getElem?_eq_getElem (by rw [unhide HYL]; exact hlt)⟩
          have hst := eqIts_step xs ys k x y hix hiy
          rw [← hpre] at hst
          obtain ⟨s1, n1, d1, p0, p1, p2, r1⟩ := ((unhide HCA) k x hix).below hbw (Nat.le_refl _)
          obtain ⟨s2, n2, d2, q0, q1, q2, r2⟩ := ((unhide HCB) k y hiy).below hbw (Nat.le_refl _)
          obtain ⟨xl, xp, xz⟩ := x
          obtain ⟨yl, yp, yz⟩ := y
          have i1 : (0 : Int) ≤ (k : Int) := by omega
          have i2 : (k : Int) < (la : Int) := by omega
          simp only at p0 p1 p2 q0 q1 q2 r1 r2
          have HS := hide hst
          have HSB := hide (fun m => implSame_any s1 s2 n1 d1 n2 d2 xz yz (wr.drewN m) (r1.below (B := wr.heap.size) (below_drewN (Below.refl _ _) m) (Nat.le_refl _)) (r2.below (B := wr.heap.size) (below_drewN (Below.refl _ _) m) (Nat.le_refl _)))
          clear r1 r2 hst hpre hix hiy hbw
          by_cases hxy : xl = yl
          · subst hxy
            have e1 : (xl == xl) = true := by simp
            have e1' : (xl != xl) = false := by simp
            by_cases hpp : xp = yp
            · subst hpp
              have e2 : (xp != xp) = false := by simp
              have hq : eqIt ⟨xl, xp, xz⟩ ⟨xl, xp, yz⟩ = strEq xz yz := by simp [eqIt]
              rw [hq] at HS
              clear hq
              generalize strEq xz yz = sb at HS HSB
              go_wp2_with fail
              go_quiet ((go_at_call 18; exact Calls.quiet_of_same ((unhide HSB) _)))
              cases sb
              · go_wp2_with fail
                go_ret
                exact ⟨ret_bool (by rw [unhide HS]; rfl), _, by rw [unhide HW]; exact World.drewN_drewN ..⟩
              · go_wp2_with fail
                go_roundw
                case rel => exact ⟨k + 1, _, by omega, by go_num, by rw [unhide HS]; simp, by rw [unhide HW]; exact World.drewN_drewN ..⟩
                case measure => simp [intOf]; omega
            · have e2 : (xp != yp) = true := by simp [hpp]
              have hq : eqIt ⟨xl, xp, xz⟩ ⟨xl, yp, yz⟩ = false := by simp [eqIt, hpp]
              rw [hq] at HS
              clear hq
              go_wp2_with fail
              go_quiet (fail)
              go_wp2_with fail
              go_ret
              exact ⟨ret_bool (by rw [unhide HS]; rfl), _, by rw [unhide HW]; exact World.drewN_drewN ..⟩
          · have hq : eqIt ⟨xl, xp, xz⟩ ⟨yl, yp, yz⟩ = false := by simp [eqIt, hxy]
            rw [hq] at HS
            clear hq
            cases xl <;> cases yl
            · exact absurd rfl hxy
            · go_wp2_with fail
              go_quiet (fail)
              go_wp2_with fail
              go_ret
              exact ⟨ret_bool (by rw [unhide HS]; rfl), _, by rw [unhide HW]; exact World.drewN_drewN ..⟩
            · go_wp2_with fail
              go_quiet (fail)
              go_wp2_with fail
              go_ret
              exact ⟨ret_bool (by rw [unhide HS]; rfl), _, by rw [unhide HW]; exact World.drewN_drewN ..⟩
            · exact absurd rfl hxy
        · obtain rfl : k = la := by omega
          have e := eqIts_end xs ys k (unhide HXL) (unhide HYL)
          rw [e] at hpre
          have HE := hide hpre
          clear e hpre
          go_wp2_with fail
          go_ret
          exact ⟨ret_bool (unhide HE).symm, n, unhide HW⟩
  · have hlen : (((la : Nat) : Int) != ((lb : Nat) : Int)) = true := by simp; omega
    have HE := hide (eqIts_len xs ys (by rw [hxl, hyl]; exact hne))
    clear ha hb hxl hyl
    go_enter Try.func8, Try.ntmps8
    go_wp2_with fail
    go_ret
    exact ⟨ret_bool (unhide HE).symm, 0, rfl⟩

end Go.Proofs.Ytkibdgmgjnoblab
