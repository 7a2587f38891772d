/- What is proved here: what the program's SameHeaders answers, and what it calls: sameLists (slices.EqualFunc over SameBytes), sameVotes, blockOf, same. -/
import Derived.Test.YtlenpjbkbjdbeabSmF
import Derived.Test.YtlenpjbkbjdbeabSame2
import Derived.Test.YtlenpjbkbjdbeabHdE
import Derived.Test.YtlenpjbkbjdbeabBlkO
import Derived.WalkKit
import Derived.WalkSmall
import Derived.Deep.RegionWith
import Derived.BigRegion
import Derived.Deep.DeepCutAuto
import Derived.Deep.CutBlock
import Derived.WalkSpells
namespace Go.Proofs.Ytlenpjbkbjdbeab
open Go.RowKit
set_option linter.unusedVariables false

set_option maxHeartbeats 2000000 in
theorem equalFunc_any (a b : Option Addr) (la ca lb cb : Nat) (xs ys : List (List Int)) (w : World) (ha : BsRow w a la xs) (hb : BsRow w b lb ys) (hl : la ≤ 1048576) (hl2 : lb ≤ 1048576) :
    Calls Try.prog 33 #[.slice a la ca, .slice b lb cb, .func (.func 28) #[] #[]] w fun e w' => e = .returned (.bool (sameLs xs ys)) ∧ w' = w := by
  have hxl := ha.1
  have hyl := hb.1
  by_cases hne : la = lb
  · subst hne
    have hlen : (((la : Nat) : Int) != ((la : Nat) : Int)) = false := by simp
    rcases Nat.eq_zero_or_pos la with h0 | hp
    · subst h0
      have hx : xs = [] := List.length_eq_zero_iff.1 hxl
      have hy : ys = [] := List.length_eq_zero_iff.1 hyl
      subst hx hy
      clear ha hb
      go_enter Try.func33, Try.ntmps33
      go_wp2_with fail
      refine wp_loop_rounds 1 ?_
      rw [rounds_succ]
      go_wp2_with fail
      go_ret
      exact ⟨rfl, rfl⟩
    · obtain ⟨ba, oa, rfl, hba, hca⟩ := ha.at hp
      obtain ⟨bb, ob, rfl, hbb, hcb⟩ := hb.at hp
      have HCA := hide hca
      have HCB := hide hcb
      have HXL := hide hxl
      have HYL := hide hyl
      clear ha hb hca hcb hxl hyl
      go_enter Try.func33, Try.ntmps33
      go_wp2_with fail
      go_loop [17] (fun i => ∃ k : Nat, k ≤ la ∧ i = .int .i64 k ∧ sameLs xs ys = sameLs (xs.drop k) (ys.drop k)) (fun i => la - (intOf i).toNat)
      case atStart => exact ⟨0, Nat.zero_le _, rfl, by simp⟩
      case round =>
        obtain ⟨k, hk, rfl, hpre⟩ := hrel
        by_cases hlt : k < la
        · obtain ⟨x, hix⟩ : ∃ z, xs[k]? = some z := ⟨_, List.getElem?_eq_getElem (by rw [unhide HXL]; exact hlt)⟩
          obtain ⟨y, hiy⟩ : ∃ z, ys[k]? = some z := ⟨_, List.getElem?_eq_getElem (by rw [unhide HYL]; exact hlt)⟩
          have hst := sameLs_step xs ys k x y hix hiy
          rw [← hpre] at hst
          obtain ⟨s1, n1, d1, p0, r1⟩ := (unhide HCA) k x hix
          obtain ⟨s2, n2, d2, q0, r2⟩ := (unhide HCB) k y hiy
          have HEQ := hide (implSame_any s1 s2 n1 d1 n2 d2 x y w r1 r2)
          have HS := hide hst
          have i1 : (0 : Int) ≤ (k : Int) := by omega
          have i2 : (k : Int) < (la : Int) := by omega
          clear r1 r2 hst hpre hix hiy
          generalize strEq x y = sb at HEQ HS
          go_wp2_with fail
          refine (unhide HEQ).mono ?_
          rintro e w1 ⟨rfl, rfl⟩
          cases sb
          · go_wp2_with fail
            go_ret
            exact ⟨ret_bool (by rw [unhide HS]; rfl), rfl⟩
          · go_wp2_with fail
            go_round
            case rel => exact ⟨k + 1, by omega, by go_num, by rw [unhide HS]; simp⟩
            case measure => simp [intOf]; omega
        · obtain rfl : k = la := by omega
          have e := sameLs_end xs ys k (unhide HXL) (unhide HYL)
          rw [e] at hpre
          have HE := hide hpre
          clear e hpre
          go_wp2_with fail
          go_ret
          exact ⟨ret_bool (unhide HE).symm, rfl⟩
  · have hlen : (((la : Nat) : Int) != ((lb : Nat) : Int)) = true := by simp; omega
    have HE := hide (sameLs_len xs ys (by rw [hxl, hyl]; exact hne))
    clear ha hb hxl hyl
    go_enter Try.func33, Try.ntmps33
    go_wp2_with fail
    go_ret
    exact ⟨ret_bool (unhide HE).symm, rfl⟩

theorem implSame_to (a b : Option Addr) (la ca lb cb : Nat) (xs ys : List Int) (c : Bool) (w : World) (ha : BRow w a la xs) (hb : BRow w b lb ys) (e : strEq xs ys = c) :
    Calls Try.prog 28 #[.slice a la ca, .slice b lb cb] w fun e w' => e = .returned (.bool c) ∧ w' = w := by
  subst e; exact implSame_any a b la ca lb cb xs ys w ha hb

set_option maxHeartbeats 1000000 in
theorem sameLists_to (a b : Option Addr) (la ca lb cb : Nat) (xs ys : List (List Int)) (c : Bool) (w : World) (ha : BsRow w a la xs) (hb : BsRow w b lb ys) (hl : la ≤ 1048576) (hl2 : lb ≤ 1048576) (e : sameLs xs ys = c) :
    Calls Try.prog 29 #[.slice a la ca, .slice b lb cb] w fun e w' => e = .returned (.bool c) ∧ w' = w := by
  have HF := hide (equalFunc_any a b la ca lb cb xs ys w ha hb hl hl2)
  rw [e] at HF
  clear ha hb e
  go_enter Try.func29, Try.ntmps29
  go_wp2_with fail
  refine (unhide HF).mono ?_
  rintro e w' ⟨rfl, rfl⟩
  go_wp2_with fail
  go_ret
  exact ⟨rfl, rfl⟩

end Go.Proofs.Ytlenpjbkbjdbeab
