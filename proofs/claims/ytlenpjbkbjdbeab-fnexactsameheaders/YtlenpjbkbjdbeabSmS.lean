/- What is proved here: what the model's l5SameLists, l5Same and SameHeaders answer. -/
import Derived.Test.YtlenpjbkbjdbeabSmF
import Derived.Test.YtlenpjbkbjdbeabSame2
import Derived.Test.YtlenpjbkbjdbeabHdE
import Derived.Test.YtlenpjbkbjdbeabLexQ
import Derived.WalkKit
import Derived.WalkSmall
import Derived.Deep.RegionWith
import Derived.BigQuiet
import Derived.Deep.QuietTactic
import Derived.WalkSpells
namespace Go.Proofs.Ytlenpjbkbjdbeab
open Go.RowKit
set_option linter.unusedVariables false

set_option maxHeartbeats 2000000 in
theorem l5SameLists_any (a b : Option Addr) (la ca lb cb : Nat) (xs ys : List (List Int)) (w : World) (ha : BsRow w a la xs) (hb : BsRow w b lb ys) (hl : la ≤ 1048576) (hl2 : lb ≤ 1048576) :
    Calls Try.prog 27 #[.slice a la ca, .slice b lb cb] w fun e w' => e = .returned (.bool (sameLs xs ys)) ∧ ∃ n, w' = w.drewN n := by
  have hxl := ha.1
  have hyl := hb.1
  by_cases hne : la = lb
  · subst hne
    have hlen : (((la : Nat) : Int) != ((la : Nat) : Int)) = false := by simp
    rcases Nat.eq_zero_or_pos la with h0 | hp
    · subst h0
      have hx : xs = [] := List.length_eq_zero_iff.1 hxl
      have hy : ys = [] := List.length_eq_zero_iff.1 hyl
      subst hx hy
      clear ha hb
      go_enter Try.func27, Try.ntmps27
      go_wp2_with fail
      refine wp_loop_rounds 1 ?_
      rw [rounds_succ]
      go_wp2_with fail
      go_ret
      exact ⟨rfl, 0, rfl⟩
    · obtain ⟨ba, oa, rfl, hba, hca⟩ := ha.at hp
      obtain ⟨bb, ob, rfl, hbb, hcb⟩ := hb.at hp
      have HCA := hide hca
      have HCB := hide hcb
      have HXL := hide hxl
      have HYL := hide hyl
      clear ha hb hca hcb hxl hyl
      go_enter Try.func27, Try.ntmps27
      go_wp2_with fail
      go_loopw [5] (fun i wr => ∃ k n : Nat, k ≤ la ∧ i = .int .i64 k ∧ sameLs xs ys = sameLs (xs.drop k) (ys.drop k) ∧ wr = w.drewN n) (fun i _ => la - (intOf i).toNat)
      case atStart => exact ⟨0, 0, Nat.zero_le _, rfl, by simp, rfl⟩
      case round =>
        obtain ⟨k, n, hk, rfl, hpre, hw⟩ := hrel
        have hbw : Below w.heap.size w wr := by rw [hw]; exact below_drewN (Below.refl _ _) n
        have HW := hide hw
        clear hw
        by_cases hlt : k < la
        · obtain ⟨x, hix⟩ : ∃ z, xs[k]? = some z := ⟨_, List.getElem?_eq_getElem (by rw [unhide HXL]; exact hlt)⟩
          obtain ⟨y, hiy⟩ : ∃ z, ys[k]? = some z := ⟨_, List.getElem?_eq_getElem (by rw [unhide HYL]; exact hlt)⟩
          have hst := sameLs_step xs ys k x y hix hiy
          rw [← hpre] at hst
          obtain ⟨s1, n1, d1, p0, r1⟩ := ((unhide HCA) k x hix).below hbw (Nat.le_refl _)
          obtain ⟨s2, n2, d2, q0, r2⟩ := ((unhide HCB) k y hiy).below hbw (Nat.le_refl _)
          have HEQ := hide (fun (m : Nat) => l1Same_any s1 s2 n1 d1 n2 d2 x y (wr.drewN m) (r1.below (B := wr.heap.size) (below_drewN (Below.refl _ _) m) (Nat.le_refl _)) (r2.below (B := wr.heap.size) (below_drewN (Below.refl _ _) m) (Nat.le_refl _)))
          have HS := hide hst
          have i1 : (0 : Int) ≤ (k : Int) := by omega
          have i2 : (k : Int) < (la : Int) := by omega
          clear r1 r2 hst hpre hix hiy hbw
          generalize strEq x y = sb at HEQ HS
          go_wp2_with fail
          go_quiet ((go_at_call 26; exact Calls.quiet_of_same ((unhide HEQ) _)))
          cases sb
          · go_wp2_with fail
            go_ret
            exact ⟨ret_bool (by rw [unhide HS]; rfl), _, by rw [unhide HW]; first | rfl | exact World.drewN_drewN ..⟩
          · go_wp2_with fail
            go_roundw
            case rel => exact ⟨k + 1, _, by omega, by go_num, by rw [unhide HS]; simp, by rw [unhide HW]; first | rfl | exact World.drewN_drewN ..⟩
            case measure => simp [intOf]; omega
        · obtain rfl : k = la := by omega
          have e := sameLs_end xs ys k (unhide HXL) (unhide HYL)
          rw [e] at hpre
          have HE := hide hpre
          clear e hpre
          go_wp2_with fail
          go_ret
          exact ⟨ret_bool (unhide HE).symm, n, unhide HW⟩
  · have hlen : (((la : Nat) : Int) != ((lb : Nat) : Int)) = true := by simp; omega
    have HE := hide (sameLs_len xs ys (by rw [hxl, hyl]; exact hne))
    clear ha hb hxl hyl
    go_enter Try.func27, Try.ntmps27
    go_wp2_with fail
    go_ret
    exact ⟨ret_bool (unhide HE).symm, 0, rfl⟩

theorem l1Same_to (a b : Option Addr) (la ca lb cb : Nat) (xs ys : List Int) (c : Bool) (w : World) (ha : BRow w a la xs) (hb : BRow w b lb ys) (e : strEq xs ys = c) :
    Calls Try.prog 26 #[.slice a la ca, .slice b lb cb] w fun e w' => e = .returned (.bool c) ∧ w' = w := by
  subst e; exact l1Same_any a b la ca lb cb xs ys w ha hb

theorem l5SameLists_to (a b : Option Addr) (la ca lb cb : Nat) (xs ys : List (List Int)) (c : Bool) (w : World) (ha : BsRow w a la xs) (hb : BsRow w b lb ys) (hl : la ≤ 1048576) (hl2 : lb ≤ 1048576) (e : sameLs xs ys = c) :
    Calls Try.prog 27 #[.slice a la ca, .slice b lb cb] w fun e w' => e = .returned (.bool c) ∧ ∃ n, w' = w.drewN n := by
  subst e; exact l5SameLists_any a b la ca lb cb xs ys w ha hb hl hl2

set_option maxRecDepth 100000 in
set_option maxHeartbeats 16000000 in
theorem l5Same_any (ga gb : Nat) (x y : HS) (h k : Hd) (T : TypeId) (w : World) (sa : SBlk w ga (hvals x h).toList T) (sb : SBlk w gb (hvals y k).toList T) (o : HOk w x h) (q : HOk w y k) (mx : HSm h) (my : HSm k) :
    Calls Try.prog 21 #[.pointer (some ⟨ga, 0, none⟩), .pointer (some ⟨gb, 0, none⟩)] w fun e w' => e = .returned (.bool (sameHd h k)) ∧ ∃ n, w' = w.drewN n := by
  unfold hvals at sa sb
  have x0 := sa.cell 0
  have y0 := sb.cell 0
  have x1 := sa.cell 1
  have y1 := sb.cell 1
  have x2 := sa.cell 2
  have y2 := sb.cell 2
  have x3 := sa.cell 3
  have y3 := sb.cell 3
  have x4 := sa.cell 4
  have y4 := sb.cell 4
  have x5 := sa.cell 5
  have y5 := sb.cell 5
  have x6 := sa.cell 6
  have y6 := sb.cell 6
  have x7 := sa.cell 7
  have y7 := sb.cell 7
  have x8 := sa.cell 8
  have y8 := sb.cell 8
  have x9 := sa.cell 9
  have y9 := sb.cell 9
  have x10 := sa.cell 10
  have y10 := sb.cell 10
  simp only [List.getElem?_cons_zero, List.getElem?_cons_succ] at x0 y0 x1 y1 x2 y2 x3 y3 x4 y4 x5 y5 x6 y6 x7 y7 x8 y8 x9 y9 x10 y10
  obtain ⟨c0, e0⟩ : ∃ c, (strEq h.p k.p) = c := ⟨_, rfl⟩
  obtain ⟨c1, e1⟩ : ∃ c, ((h.n1 == k.n1)) = c := ⟨_, rfl⟩
  obtain ⟨c2, e2⟩ : ∃ c, ((h.n2 == k.n2)) = c := ⟨_, rfl⟩
  obtain ⟨c3, e3⟩ : ∃ c, ((h.n3 == k.n3)) = c := ⟨_, rfl⟩
  obtain ⟨c4, e4⟩ : ∃ c, (strEq h.t k.t) = c := ⟨_, rfl⟩
  obtain ⟨c5, e5⟩ : ∃ c, ((h.n5 == k.n5)) = c := ⟨_, rfl⟩
  obtain ⟨c6, e6⟩ : ∃ c, (sameLs h.s k.s) = c := ⟨_, rfl⟩
  obtain ⟨c7, e7⟩ : ∃ c, (strEq h.r k.r) = c := ⟨_, rfl⟩
  obtain ⟨c8, e8⟩ : ∃ c, (strEq h.g k.g) = c := ⟨_, rfl⟩
  obtain ⟨c9, e9⟩ : ∃ c, (strEq h.e k.e) = c := ⟨_, rfl⟩
  obtain ⟨c10, e10⟩ : ∃ c, (sameLs h.k k.k) = c := ⟨_, rfl⟩
  have HE : Hid (sameHd h k = (c0 && c1 && c2 && c3 && c4 && c5 && c6 && c7 && c8 && c9 && c10)) := by
    show _ = _
    unfold sameHd
    rw [e0, e1, e2, e3, e4, e5, e6, e7, e8, e9, e10]
  have C0 := hide (fun (m : Nat) => l1Same_to x.p.a y.p.a x.p.n x.p.c y.p.n y.p.c h.p k.p c0 (w.drewN m) (o.p.below (below_drewN (Below.refl _ _) m) (Nat.le_refl _)) (q.p.below (below_drewN (Below.refl _ _) m) (Nat.le_refl _)) e0)
  clear e0
  have E1 := hide e1
  clear e1
  have E2 := hide e2
  clear e2
  have E3 := hide e3
  clear e3
  have C4 := hide (fun (m : Nat) => l1Same_to x.t.a y.t.a x.t.n x.t.c y.t.n y.t.c h.t k.t c4 (w.drewN m) (o.t.below (below_drewN (Below.refl _ _) m) (Nat.le_refl _)) (q.t.below (below_drewN (Below.refl _ _) m) (Nat.le_refl _)) e4)
  clear e4
  have E5 := hide e5
  clear e5
  have C6 := hide (fun (m : Nat) => l5SameLists_to x.s.a y.s.a x.s.n x.s.c y.s.n y.s.c h.s k.s c6 (w.drewN m) (o.s.below (below_drewN (Below.refl _ _) m) (Nat.le_refl _)) (q.s.below (below_drewN (Below.refl _ _) m) (Nat.le_refl _)) (by have := o.s.1; have := mx.s; omega) (by have := q.s.1; have := my.s; omega) e6)
  clear e6
  have C7 := hide (fun (m : Nat) => l1Same_to x.r.a y.r.a x.r.n x.r.c y.r.n y.r.c h.r k.r c7 (w.drewN m) (o.r.below (below_drewN (Below.refl _ _) m) (Nat.le_refl _)) (q.r.below (below_drewN (Below.refl _ _) m) (Nat.le_refl _)) e7)
  clear e7
  have C8 := hide (fun (m : Nat) => l1Same_to x.g.a y.g.a x.g.n x.g.c y.g.n y.g.c h.g k.g c8 (w.drewN m) (o.g.below (below_drewN (Below.refl _ _) m) (Nat.le_refl _)) (q.g.below (below_drewN (Below.refl _ _) m) (Nat.le_refl _)) e8)
  clear e8
  have C9 := hide (fun (m : Nat) => l1Same_to x.e.a y.e.a x.e.n x.e.c y.e.n y.e.c h.e k.e c9 (w.drewN m) (o.e.below (below_drewN (Below.refl _ _) m) (Nat.le_refl _)) (q.e.below (below_drewN (Below.refl _ _) m) (Nat.le_refl _)) e9)
  clear e9
  have C10 := hide (fun (m : Nat) => l5SameLists_to x.k.a y.k.a x.k.n x.k.c y.k.n y.k.c h.k k.k c10 (w.drewN m) (o.k.below (below_drewN (Below.refl _ _) m) (Nat.le_refl _)) (q.k.below (below_drewN (Below.refl _ _) m) (Nat.le_refl _)) (by have := o.k.1; have := mx.k; omega) (by have := q.k.1; have := my.k; omega) e10)
  clear e10
  have HLEX : ∀ l : List Oper, l = opsOf Try.f21 1 → Region.lexB .any l.toArray = true := fun l e => e ▸ l5SameLex
  clear sa sb o q mx my
  go_enter Try.func21, Try.ntmps21
  go_wp2_with fail
  refine wp_region_quiet_lit (by kernel_rfl) (HLEX _ (by kernel_rfl)) ?_
  clear HLEX
  simp only [List.append]
  cases c0
  · repeat (go_big_quiet_step ((first | (go_at_call_of 26 (x.p.a); exact Calls.quiet_of_same ((unhide C0) _)) | (go_at_call_of 26 (x.t.a); exact Calls.quiet_of_same ((unhide C4) _)) | (go_at_call_of 26 (x.r.a); exact Calls.quiet_of_same ((unhide C7) _)) | (go_at_call_of 26 (x.g.a); exact Calls.quiet_of_same ((unhide C8) _)) | (go_at_call_of 26 (x.e.a); exact Calls.quiet_of_same ((unhide C9) _)) | (go_at_call_of 27 (x.s.a); exact Calls.quiet_of ((unhide C6) _)) | (go_at_call_of 27 (x.k.a); exact Calls.quiet_of ((unhide C10) _)))))
    refine wpQuiet_nil ?_
    intro _ hw'
    obtain ⟨nq, hw''⟩ := hw'
    subst hw''
    go_wp2_with fail
    go_ret
    exact ⟨ret_bool (by rw [unhide HE]; simp), _, rfl⟩
  have e1 := unhide E1
  cases c1
  · repeat (go_big_quiet_step ((first | (go_at_call_of 26 (x.p.a); exact Calls.quiet_of_same ((unhide C0) _)) | (go_at_call_of 26 (x.t.a); exact Calls.quiet_of_same ((unhide C4) _)) | (go_at_call_of 26 (x.r.a); exact Calls.quiet_of_same ((unhide C7) _)) | (go_at_call_of 26 (x.g.a); exact Calls.quiet_of_same ((unhide C8) _)) | (go_at_call_of 26 (x.e.a); exact Calls.quiet_of_same ((unhide C9) _)) | (go_at_call_of 27 (x.s.a); exact Calls.quiet_of ((unhide C6) _)) | (go_at_call_of 27 (x.k.a); exact Calls.quiet_of ((unhide C10) _)))))
    refine wpQuiet_nil ?_
    intro _ hw'
    obtain ⟨nq, hw''⟩ := hw'
    subst hw''
    go_wp2_with fail
    go_ret
    exact ⟨ret_bool (by rw [unhide HE]; simp), _, rfl⟩
  have e2 := unhide E2
  cases c2
  · repeat (go_big_quiet_step ((first | (go_at_call_of 26 (x.p.a); exact Calls.quiet_of_same ((unhide C0) _)) | (go_at_call_of 26 (x.t.a); exact Calls.quiet_of_same ((unhide C4) _)) | (go_at_call_of 26 (x.r.a); exact Calls.quiet_of_same ((unhide C7) _)) | (go_at_call_of 26 (x.g.a); exact Calls.quiet_of_same ((unhide C8) _)) | (go_at_call_of 26 (x.e.a); exact Calls.quiet_of_same ((unhide C9) _)) | (go_at_call_of 27 (x.s.a); exact Calls.quiet_of ((unhide C6) _)) | (go_at_call_of 27 (x.k.a); exact Calls.quiet_of ((unhide C10) _)))))
    refine wpQuiet_nil ?_
    intro _ hw'
    obtain ⟨nq, hw''⟩ := hw'
    subst hw''
    go_wp2_with fail
    go_ret
    exact ⟨ret_bool (by rw [unhide HE]; simp), _, rfl⟩
  have e3 := unhide E3
  cases c3
  · repeat (go_big_quiet_step ((first | (go_at_call_of 26 (x.p.a); exact Calls.quiet_of_same ((unhide C0) _)) | (go_at_call_of 26 (x.t.a); exact Calls.quiet_of_same ((unhide C4) _)) | (go_at_call_of 26 (x.r.a); exact Calls.quiet_of_same ((unhide C7) _)) | (go_at_call_of 26 (x.g.a); exact Calls.quiet_of_same ((unhide C8) _)) | (go_at_call_of 26 (x.e.a); exact Calls.quiet_of_same ((unhide C9) _)) | (go_at_call_of 27 (x.s.a); exact Calls.quiet_of ((unhide C6) _)) | (go_at_call_of 27 (x.k.a); exact Calls.quiet_of ((unhide C10) _)))))
    refine wpQuiet_nil ?_
    intro _ hw'
    obtain ⟨nq, hw''⟩ := hw'
    subst hw''
    go_wp2_with fail
    go_ret
    exact ⟨ret_bool (by rw [unhide HE]; simp), _, rfl⟩
  cases c4
  · repeat (go_big_quiet_step ((first | (go_at_call_of 26 (x.p.a); exact Calls.quiet_of_same ((unhide C0) _)) | (go_at_call_of 26 (x.t.a); exact Calls.quiet_of_same ((unhide C4) _)) | (go_at_call_of 26 (x.r.a); exact Calls.quiet_of_same ((unhide C7) _)) | (go_at_call_of 26 (x.g.a); exact Calls.quiet_of_same ((unhide C8) _)) | (go_at_call_of 26 (x.e.a); exact Calls.quiet_of_same ((unhide C9) _)) | (go_at_call_of 27 (x.s.a); exact Calls.quiet_of ((unhide C6) _)) | (go_at_call_of 27 (x.k.a); exact Calls.quiet_of ((unhide C10) _)))))
    refine wpQuiet_nil ?_
    intro _ hw'
    obtain ⟨nq, hw''⟩ := hw'
    subst hw''
    go_wp2_with fail
    go_ret
    exact ⟨ret_bool (by rw [unhide HE]; simp), _, rfl⟩
  have e5 := unhide E5
  cases c5
  · repeat (go_big_quiet_step ((first | (go_at_call_of 26 (x.p.a); exact Calls.quiet_of_same ((unhide C0) _)) | (go_at_call_of 26 (x.t.a); exact Calls.quiet_of_same ((unhide C4) _)) | (go_at_call_of 26 (x.r.a); exact Calls.quiet_of_same ((unhide C7) _)) | (go_at_call_of 26 (x.g.a); exact Calls.quiet_of_same ((unhide C8) _)) | (go_at_call_of 26 (x.e.a); exact Calls.quiet_of_same ((unhide C9) _)) | (go_at_call_of 27 (x.s.a); exact Calls.quiet_of ((unhide C6) _)) | (go_at_call_of 27 (x.k.a); exact Calls.quiet_of ((unhide C10) _)))))
    refine wpQuiet_nil ?_
    intro _ hw'
    obtain ⟨nq, hw''⟩ := hw'
    subst hw''
    go_wp2_with fail
    go_ret
    exact ⟨ret_bool (by rw [unhide HE]; simp), _, rfl⟩
  cases c6
  · repeat (go_big_quiet_step ((first | (go_at_call_of 26 (x.p.a); exact Calls.quiet_of_same ((unhide C0) _)) | (go_at_call_of 26 (x.t.a); exact Calls.quiet_of_same ((unhide C4) _)) | (go_at_call_of 26 (x.r.a); exact Calls.quiet_of_same ((unhide C7) _)) | (go_at_call_of 26 (x.g.a); exact Calls.quiet_of_same ((unhide C8) _)) | (go_at_call_of 26 (x.e.a); exact Calls.quiet_of_same ((unhide C9) _)) | (go_at_call_of 27 (x.s.a); exact Calls.quiet_of ((unhide C6) _)) | (go_at_call_of 27 (x.k.a); exact Calls.quiet_of ((unhide C10) _)))))
    refine wpQuiet_nil ?_
    intro _ hw'
    obtain ⟨nq, hw''⟩ := hw'
    subst hw''
    go_wp2_with fail
    go_ret
    exact ⟨ret_bool (by rw [unhide HE]; simp), _, rfl⟩
  cases c7
  · repeat (go_big_quiet_step ((first | (go_at_call_of 26 (x.p.a); exact Calls.quiet_of_same ((unhide C0) _)) | (go_at_call_of 26 (x.t.a); exact Calls.quiet_of_same ((unhide C4) _)) | (go_at_call_of 26 (x.r.a); exact Calls.quiet_of_same ((unhide C7) _)) | (go_at_call_of 26 (x.g.a); exact Calls.quiet_of_same ((unhide C8) _)) | (go_at_call_of 26 (x.e.a); exact Calls.quiet_of_same ((unhide C9) _)) | (go_at_call_of 27 (x.s.a); exact Calls.quiet_of ((unhide C6) _)) | (go_at_call_of 27 (x.k.a); exact Calls.quiet_of ((unhide C10) _)))))
    refine wpQuiet_nil ?_
    intro _ hw'
    obtain ⟨nq, hw''⟩ := hw'
    subst hw''
    go_wp2_with fail
    go_ret
    exact ⟨ret_bool (by rw [unhide HE]; simp), _, rfl⟩
  cases c8
  · repeat (go_big_quiet_step ((first | (go_at_call_of 26 (x.p.a); exact Calls.quiet_of_same ((unhide C0) _)) | (go_at_call_of 26 (x.t.a); exact Calls.quiet_of_same ((unhide C4) _)) | (go_at_call_of 26 (x.r.a); exact Calls.quiet_of_same ((unhide C7) _)) | (go_at_call_of 26 (x.g.a); exact Calls.quiet_of_same ((unhide C8) _)) | (go_at_call_of 26 (x.e.a); exact Calls.quiet_of_same ((unhide C9) _)) | (go_at_call_of 27 (x.s.a); exact Calls.quiet_of ((unhide C6) _)) | (go_at_call_of 27 (x.k.a); exact Calls.quiet_of ((unhide C10) _)))))
    refine wpQuiet_nil ?_
    intro _ hw'
    obtain ⟨nq, hw''⟩ := hw'
    subst hw''
    go_wp2_with fail
    go_ret
    exact ⟨ret_bool (by rw [unhide HE]; simp), _, rfl⟩
  cases c9
  · repeat (go_big_quiet_step ((first | (go_at_call_of 26 (x.p.a); exact Calls.quiet_of_same ((unhide C0) _)) | (go_at_call_of 26 (x.t.a); exact Calls.quiet_of_same ((unhide C4) _)) | (go_at_call_of 26 (x.r.a); exact Calls.quiet_of_same ((unhide C7) _)) | (go_at_call_of 26 (x.g.a); exact Calls.quiet_of_same ((unhide C8) _)) | (go_at_call_of 26 (x.e.a); exact Calls.quiet_of_same ((unhide C9) _)) | (go_at_call_of 27 (x.s.a); exact Calls.quiet_of ((unhide C6) _)) | (go_at_call_of 27 (x.k.a); exact Calls.quiet_of ((unhide C10) _)))))
    refine wpQuiet_nil ?_
    intro _ hw'
    obtain ⟨nq, hw''⟩ := hw'
    subst hw''
    go_wp2_with fail
    go_ret
    exact ⟨ret_bool (by rw [unhide HE]; simp), _, rfl⟩
  repeat (go_big_quiet_step ((first | (go_at_call_of 26 (x.p.a); exact Calls.quiet_of_same ((unhide C0) _)) | (go_at_call_of 26 (x.t.a); exact Calls.quiet_of_same ((unhide C4) _)) | (go_at_call_of 26 (x.r.a); exact Calls.quiet_of_same ((unhide C7) _)) | (go_at_call_of 26 (x.g.a); exact Calls.quiet_of_same ((unhide C8) _)) | (go_at_call_of 26 (x.e.a); exact Calls.quiet_of_same ((unhide C9) _)) | (go_at_call_of 27 (x.s.a); exact Calls.quiet_of ((unhide C6) _)) | (go_at_call_of 27 (x.k.a); exact Calls.quiet_of ((unhide C10) _)))))
  refine wpQuiet_nil ?_
  intro _ hw'
  obtain ⟨nq, hw''⟩ := hw'
  subst hw''
  go_wp2_with fail
  go_ret
  exact ⟨ret_bool (by rw [unhide HE]; simp), _, rfl⟩

theorem specSameHeaders_any (x y : HS) (h k : Hd) (w : World) (o : HOk w x h) (q : HOk w y k) (mx : HSm h) (my : HSm k) :
    Calls Try.prog 11 #[.agg (hvals x h), .agg (hvals y k)] w fun e w' => e = .returned (.bool (sameHd h k)) ∧ Below w.heap.size w w' := by
  obtain ⟨k0, k1, k2, k3⟩ := two_blk w (hvals x h) (hvals y k) 33 33
  have HC := hide (l5Same_any w.heap.size (w.heap.size + 1) x y h k _ _ k0 k1 (o.below k2 (Nat.le_refl _)) (q.below k2 (Nat.le_refl _)) mx my)
  have HB := hide k2
  clear o q mx my k0 k1 k2 k3
  generalize sameHd h k = c at HC
  unfold hvals at HC HB ⊢
  go_enter Try.func11, Try.ntmps11
  go_wp2_with fail
  refine (unhide HC).mono ?_
  rintro e w' ⟨rfl, n, rfl⟩
  go_wp2_with fail
  go_ret
  exact ⟨rfl, below_drewN (unhide HB) n⟩

end Go.Proofs.Ytlenpjbkbjdbeab
