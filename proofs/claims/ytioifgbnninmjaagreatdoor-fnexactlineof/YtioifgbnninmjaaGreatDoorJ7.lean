/- What is proved here: what the program's HeaderFault answers, and what it calls: the fault of a header. -/
import Derived.Test.YtioifgbnninmjaaGreatDoorJ6
import Derived.WalkKit
import Derived.WalkSmall
import Derived.Deep.DeepCutAuto
import Derived.Deep.CutBlock
import Derived.WalkSpells
import Derived.Deep.RegionWith
import Derived.BigQuiet
import Derived.Deep.QuietTactic
import Derived.Test.YtioifgbnninmjaaGreatDoorJ2
import Derived.Test.YtioifgbnninmjaaGreatDoorJ5
import Derived.Test.YtioifgbnninmjaaGreatDoorJ1
import Derived.OpenShut
namespace Go.Proofs.YtioifgbnninmjaaGreatDoor
open Go.RowKit
set_option linter.unusedVariables false
set_option maxRecDepth 100000

theorem isHash_any (a : Option Addr) (n cap : Nat) (w : World) : Calls Tryz.prog 132 #[.slice a n cap] w fun e w' => e = .returned (.bool (((n : Nat) : Int) == 32)) ∧ w' = w := by
  go_enter Tryz.func132, Tryz.ntmps132
  go_wp2_with fail
  go_ret
  exact ⟨rfl, rfl⟩

theorem isWithin_any (v lo hi : Int) (w : World) : Calls Tryz.prog 37 #[.int .i64 v, .int .i64 lo, .int .i64 hi] w fun e w' => e = .returned (.bool (within v lo hi)) ∧ w' = w := by
  unfold within
  by_cases h0 : lo ≤ v
  · have e0 : decide (lo ≤ v) = true := decide_eq_true h0
    by_cases h1 : v ≤ hi
    · have e1 : decide (v ≤ hi) = true := decide_eq_true h1
      have e : decide (lo ≤ v ∧ v ≤ hi) = true := decide_eq_true ⟨h0, h1⟩
      rw [e]
      clear e
      go_enter Tryz.func37, Tryz.ntmps37
      go_wp2_with fail
      go_ret
      exact ⟨rfl, rfl⟩
    · have e1 : decide (v ≤ hi) = false := decide_eq_false h1
      have e : decide (lo ≤ v ∧ v ≤ hi) = false := decide_eq_false (fun h => h1 h.2)
      rw [e]
      clear e
      go_enter Tryz.func37, Tryz.ntmps37
      go_wp2_with fail
      go_ret
      exact ⟨rfl, rfl⟩
  · have e0 : decide (lo ≤ v) = false := decide_eq_false h0
    have e : decide (lo ≤ v ∧ v ≤ hi) = false := decide_eq_false (fun h => h0 h.1)
    rw [e]
    clear e
    go_enter Tryz.func37, Tryz.ntmps37
    go_wp2_with fail
    go_ret
    exact ⟨rfl, rfl⟩

theorem isWithin_to (v lo hi : Int) (c : Bool) (w : World) (e : within v lo hi = c) : Calls Tryz.prog 37 #[.int .i64 v, .int .i64 lo, .int .i64 hi] w fun e w' => e = .returned (.bool c) ∧ w' = w := by
  subst e; exact isWithin_any v lo hi w

theorem isNumber_to (v : Int) (c : Bool) (w : World) (e : within v 0 1099511627776 = c) : Calls Tryz.prog 135 #[.int .i64 v] w fun e w' => e = .returned (.bool c) ∧ w' = w := by
  have HI := hide (isWithin_to v 0 1099511627776 c w e)
  clear e
  go_enter Tryz.func135, Tryz.ntmps135
  go_wp2_with fail
  refine (unhide HI).mono ?_
  rintro e w' ⟨rfl, rfl⟩
  go_wp2_with fail
  go_ret
  exact ⟨rfl, rfl⟩

theorem hasNonce_to (x : HS) (h : Hd) (c : Bool) (w : World) (e : within h.n5 0 2 = c) : Calls Tryz.prog 136 #[.agg #[.slice x.t.a x.t.n x.t.c, .int .i64 h.n5, .slice x.s.a x.s.n x.s.c]] w fun e w' => e = .returned (.bool c) ∧ Below w.heap.size w w' := by
  have HI := hide (fun W => isWithin_to h.n5 0 2 c W e)
  have HB := hide (below_alloc w (.cells #[.slice x.t.a x.t.n x.t.c, .int .i64 h.n5, .slice x.s.a x.s.n x.s.c] 141))
  clear e
  go_enter Tryz.func136, Tryz.ntmps136
  go_wp2_with fail
  refine ((unhide HI) _).mono ?_
  rintro e w' ⟨rfl, rfl⟩
  go_wp2_with fail
  go_ret
  exact ⟨rfl, unhide HB⟩

theorem hasAim_to (x : HS) (h : Hd) (b2 b3 : Bool) (w : World) (e2 : (((x.t.n : Nat) : Int) != 0) = b2) (e3 : (((x.t.n : Nat) : Int) != 4) = b3) :
    Calls Tryz.prog 133 #[.agg #[.slice x.t.a x.t.n x.t.c, .int .i64 h.n5, .slice x.s.a x.s.n x.s.c]] w fun e w' => e = .returned (.bool (!(b2 && b3))) ∧ Below w.heap.size w w' := by
  have HI := hide (fun W => isAddr_any x.t.a x.t.n x.t.c W)
  have HB := hide (below_alloc w (.cells #[.slice x.t.a x.t.n x.t.c, .int .i64 h.n5, .slice x.s.a x.s.n x.s.c] 141))
  have f2 : (((x.t.n : Nat) : Int) == 0) = !b2 := by rw [← e2]; simp [bne]
  have f3 : (((x.t.n : Nat) : Int) == 4) = !b3 := by rw [← e3]; simp [bne]
  simp only [f3] at HI
  clear e2 e3 f3
  cases b2
  · have f2' : (((x.t.n : Nat) : Int) == 0) = true := f2
    clear f2
    go_enter Tryz.func133, Tryz.ntmps133
    go_wp2_with fail
    go_ret
    exact ⟨rfl, unhide HB⟩
  · have f2' : (((x.t.n : Nat) : Int) == 0) = false := f2
    clear f2
    go_enter Tryz.func133, Tryz.ntmps133
    go_wp2_with fail
    refine ((unhide HI) _).mono ?_
    rintro e w' ⟨rfl, rfl⟩
    go_wp2_with fail
    go_ret
    exact ⟨ret_bool (by cases b3 <;> rfl), unhide HB⟩

theorem votesFault_any (x : HS) (h : Hd) (w : World) (o : BsRow w x.s.a x.s.n h.s) (hl : x.s.n ≤ 1048576) : Calls Tryz.prog 104 #[.agg #[.slice x.t.a x.t.n x.t.c, .int .i64 h.n5, .slice x.s.a x.s.n x.s.c]] w fun e w' => e = .returned (.int .i64 (sgFlt h.s)) ∧ Below w.heap.size w w' := by
  have hb := below_alloc w (.cells #[.slice x.t.a x.t.n x.t.c, .int .i64 h.n5, .slice x.s.a x.s.n x.s.c] 141)
  have HI := hide (implSigners_any x.s.a x.s.n x.s.c h.s _ (o.below hb (Nat.le_refl _)) hl)
  have HB := hide hb
  clear o hb
  generalize sgFlt h.s = q at HI
  go_enter Tryz.func104, Tryz.ntmps104
  go_wp2_with fail
  refine (unhide HI).mono ?_
  rintro e w' ⟨rfl, rfl⟩
  go_wp2_with fail
  go_ret
  exact ⟨rfl, unhide HB⟩

set_option maxHeartbeats 4000000 in
theorem commitsFault_any (x : HS) (h : Hd) (w : World) (o : BsRow w x.k.a x.k.n h.k) (hkl : x.k.n ≤ 1048576) : Calls Tryz.prog 105 #[.agg (hvals x h)] w fun e w' => e = .returned (.int .i64 (coFlt h.k)) ∧ Below w.heap.size w w' := by
  have k0 := SBlk.new w (hvals x h) 143
  have hb := below_alloc w (.cells (hvals x h) 143)
  obtain ⟨x0, x1, x2, x3, x4, x5, x6, x7, x8, x9, x10⟩ := hcells k0
  have HK := hide (o.below hb (Nat.le_refl _))
  have HB := hide hb
  obtain ⟨W0, e0⟩ : ∃ W0, w.alloc (.cells (hvals x h) 143) = W0 := ⟨_, rfl⟩
  rw [e0] at x10 HK HB
  clear o hb k0 x0 x1 x2 x3 x4 x5 x6 x7 x8 x9
  unfold hvals at e0 ⊢
  by_cases h7 : 7 < x.k.n
  · have d7 : decide ((7 : Int) < (x.k.n : Int)) = true := decide_eq_true (by omega)
    go_enter Tryz.func105, Tryz.ntmps105
    go_wp2_with (rw [e0])
    go_ret
    refine ⟨ret_int ?_, by first | exact unhide HB | (rw [e0]; exact unhide HB)⟩
    unfold coFlt; rw [if_pos (by rw [(unhide HK).1]; exact h7)]
  · have d7 : decide ((7 : Int) < (x.k.n : Int)) = false := decide_eq_false (by omega)
    have HE3 : Hid (coFlt h.k = coFrom h.k) := by
      show _ = _
      unfold coFlt; rw [if_neg (by rw [(unhide HK).1]; exact h7)]
    go_enter Tryz.func105, Tryz.ntmps105
    go_upto_region 1 with (rw [e0])
    try rw [e0]
    clear e0
    go_wp2_with fail
    go_loop [12] (fun i => ∃ k : Nat, k ≤ x.k.n ∧ i = .int .i64 k ∧ coFrom h.k = coFrom (h.k.drop k)) (fun i => x.k.n - (intOf i).toNat)
    case atStart => exact ⟨0, Nat.zero_le _, rfl, by simp⟩
    case round =>
      obtain ⟨k, hk, rfl, hpre⟩ := hrel
      by_cases hlt : k < x.k.n
      · obtain ⟨z, hit⟩ : ∃ z, h.k[k]? = some z := ⟨_, List.getElem?_eq_getElem (by rw [(unhide HK).1]; exact hlt)⟩
        have hst := coFrom_step h.k k z hit
        rw [← hpre] at hst
        obtain ⟨bb, off, hba, _, hcc⟩ := (unhide HK).at (by omega)
        obtain ⟨s1, m1, d1, p0, r1⟩ := hcc k z hit
        have hzl : z.length = m1 := r1.1
        rw [hzl] at hst
        have HS := hide hst
        have i1 : (0 : Int) ≤ (k : Int) := by omega
        have i2 : (k : Int) < (x.k.n : Int) := by omega
        clear r1 hst hpre hit hzl hcc x10
        by_cases h8 : m1 = 8
        · have d8 : (((m1 : Nat) : Int) != 8) = false := by simp [h8]
          rw [if_pos h8] at HS
          clear h8
          rw [hba]
          clear hba
          go_wp2_with fail
          go_round
          case rel => exact ⟨k + 1, by omega, by go_num, unhide HS⟩
          case measure => simp [intOf]; omega
        · have d8 : (((m1 : Nat) : Int) != 8) = true := by simp; omega
          rw [if_neg h8] at HS
          clear h8
          rw [hba]
          clear hba
          go_wp2_with fail
          go_ret
          exact ⟨ret_int (by rw [unhide HE3, unhide HS]), unhide HB⟩
      · obtain rfl : k = x.k.n := by omega
        have e := coFrom_end h.k x.k.n (by rw [(unhide HK).1]; exact Nat.le_refl _)
        rw [e] at hpre
        have HP := hide hpre
        clear e hpre
        go_wp2_with fail
        go_ret
        exact ⟨ret_int (by rw [unhide HE3, unhide HP]), unhide HB⟩

end Go.Proofs.YtioifgbnninmjaaGreatDoor

/- What is proved here: what the model's l5Signers answers: the first fault of a list of signers. -/
namespace Go.Proofs.YtioifgbnninmjaaGreatDoor
open Go.RowKit
set_option linter.unusedVariables false
set_option maxRecDepth 100000

set_option maxHeartbeats 2000000 in
theorem l5Signers_any (a : Option Addr) (len cap : Nat) (zss : List (List Int)) (w : World) (h : BsRow w a len zss) (hl : len ≤ 1048576) :
    Calls Tryz.prog 82 #[.slice a len cap] w fun e w' => e = .returned (.int .i64 (sgFlt zss)) ∧ ∃ n, w' = w.drewN n := by
  have hil := h.1
  by_cases h2 : 7 < len
  · have HE : Hid (sgFlt zss = 2) := by show _ = _; unfold sgFlt; rw [if_pos (by rw [hil]; exact h2)]
    have hd : decide ((7 : Int) < (len : Int)) = true := decide_eq_true (by omega)
    clear h hil
    go_enter Tryz.func82, Tryz.ntmps82
    go_wp2_with fail
    go_ret
    exact ⟨ret_int (unhide HE).symm, 0, rfl⟩
  · have d2 : decide ((7 : Int) < (len : Int)) = false := decide_eq_false (by omega)
    have HE : Hid (sgFlt zss = sgFrom zss 0 zss) := by show _ = _; unfold sgFlt; rw [if_neg (by omega)]
    rcases Nat.eq_zero_or_pos len with h0 | hp
    · subst h0
      have hn : zss = [] := List.length_eq_zero_iff.1 hil
      subst hn
      clear h
      go_enter Tryz.func82, Tryz.ntmps82
      go_wp2_with fail
      refine wp_loop_rounds 1 ?_
      rw [rounds_succ]
      go_wp2_with fail
      go_ret
      exact ⟨ret_int (by rw [unhide HE]; rfl), 0, rfl⟩
    · obtain ⟨b, off, rfl, hb, hc⟩ := h.at hp
      have HC := hide hc
      have HL := hide hil
      clear h hc hil
      go_enter Tryz.func82, Tryz.ntmps82
      go_wp2_with fail
      go_loopw [3] (fun i wr => ∃ k n : Nat, k ≤ len ∧ i = .int .i64 k ∧ sgFrom zss 0 zss = sgFrom zss k (zss.drop k) ∧ wr = w.drewN n) (fun i _ => len - (intOf i).toNat)
      case atStart => exact ⟨0, 0, Nat.zero_le _, rfl, by simp, rfl⟩
      case round =>
        obtain ⟨k, n, hk, rfl, hpre, hw⟩ := hrel
        have hbw : Below w.heap.size w wr := by rw [hw]; exact below_drewN (Below.refl _ _) n
        have HW := hide hw
        clear hw
        by_cases hlt : k < len
        · obtain ⟨z, hit⟩ : ∃ z, zss[k]? = some z := ⟨_, List.getElem?_eq_getElem (by rw [unhide HL]; exact hlt)⟩
          have hst := sgFrom_step zss k z hit
          rw [← hpre] at hst
          obtain ⟨s1, n1, d1, p0, r1⟩ := ((unhide HC) k z hit).below hbw (Nat.le_refl _)
          have hzl : z.length = n1 := r1.1
          have HS := hide hst
          have i1 : (0 : Int) ≤ (k : Int) := by omega
          have i2 : (k : Int) < (len : Int) := by omega
          by_cases h4 : n1 = 4
          · have d4 : (((n1 : Nat) : Int) != 4) = false := by simp [h4]
            by_cases k0 : k = 0
            · have e : sgBad zss k z = false := by unfold sgBad; simp [hzl, h4, k0]
              rw [e, if_neg (by simp)] at HS
              have dk : decide ((0 : Int) < (k : Int)) = false := decide_eq_false (by omega)
              have dk' : decide (0 < k) = false := decide_eq_false (by omega)
              clear r1 hst hpre hit hzl e k0 h4 hbw
              go_wp2_with fail
              go_quiet (fail)
              all_goals
                go_wp2_with fail
                go_roundw
                case rel => exact ⟨k + 1, _, by omega, by go_num, unhide HS, by rw [unhide HW]; first | rfl | exact World.drewN_drewN ..⟩
                case measure => simp [intOf]; omega
            · obtain ⟨j, hj⟩ : ∃ j : Nat, k - 1 = j := ⟨_, rfl⟩
              obtain ⟨y, hiy⟩ : ∃ y, zss[j]? = some y := ⟨_, List.getElem?_eq_getElem (by rw [unhide HL]; omega)⟩
              obtain ⟨s2, n2, d2', q0, r2⟩ := ((unhide HC) j y hiy).below hbw (Nat.le_refl _)
              have hgd : zss.getD (k - 1) [] = y := by rw [hj, List.getD_eq_getElem?_getD, hiy]; rfl
              have e : sgBad zss k z = !aheadB y z := by unfold sgBad; rw [hgd, hzl, h4]; simp; omega
              rw [e] at HS
              have dk : decide ((0 : Int) < (k : Int)) = true := decide_eq_true (by omega)
              have dk' : decide (0 < k) = true := decide_eq_true (by omega)
              have j1 : (0 : Int) ≤ (j : Int) := by omega
              have j2 : (j : Int) < (len : Int) := by omega
              have hwr : IntKind.i64.wrap ((k : Int) - 1) = (j : Int) := by rw [IntKind.wrap_i64]; omega
              have HA := hide (fun (m : Nat) => l1Ahead_any s2 s1 n2 d2' n1 d1 y z (wr.drewN m) (r2.below (B := wr.heap.size) (below_drewN (Below.refl _ _) m) (Nat.le_refl _)) (r1.below (B := wr.heap.size) (below_drewN (Below.refl _ _) m) (Nat.le_refl _)))
              clear r1 r2 hst hpre hit hiy hzl hgd e k0 h4 hj hbw
              generalize aheadB y z = sb at HA HS
              cases sb
              · go_wp2_with fail
                go_quiet ((go_at_call 110; exact Calls.quiet_of_same ((unhide HA) _)))
                all_goals
                  go_wp2_with fail
                  go_ret
                  exact ⟨ret_int (by rw [unhide HE, unhide HS]; rfl), _, by rw [unhide HW]; first | rfl | exact World.drewN_drewN ..⟩
              · go_wp2_with fail
                go_quiet ((go_at_call 110; exact Calls.quiet_of_same ((unhide HA) _)))
                all_goals
                  go_wp2_with fail
                  go_roundw
                  case rel => exact ⟨k + 1, _, by omega, by go_num, by rw [unhide HS]; rfl, by rw [unhide HW]; first | rfl | exact World.drewN_drewN ..⟩
                  case measure => simp [intOf]; omega
          · have d4 : (((n1 : Nat) : Int) != 4) = true := by simp; omega
            have e : sgBad zss k z = true := by unfold sgBad; simp [hzl, h4]
            rw [e, if_pos rfl] at HS
            clear r1 hst hpre hit hzl e h4 hbw
            go_wp2_with fail
            go_quiet (fail)
            all_goals
              go_wp2_with fail
              go_ret
              exact ⟨ret_int (by rw [unhide HE, unhide HS]), _, by rw [unhide HW]; first | rfl | exact World.drewN_drewN ..⟩
        · obtain rfl : k = len := by omega
          have e := sgFrom_end zss k (by rw [unhide HL]; exact Nat.le_refl _)
          rw [e] at hpre
          have HP := hide hpre
          clear e hpre
          go_wp2_with fail
          go_ret
          exact ⟨ret_int (by rw [unhide HE, unhide HP]), n, unhide HW⟩

end Go.Proofs.YtioifgbnninmjaaGreatDoor

/- What is proved here: what the model's l5Number, l5Fault and HeaderFault answer: the fault of a header. -/
namespace Go.Proofs.YtioifgbnninmjaaGreatDoor
open Go.RowKit
set_option linter.unusedVariables false
set_option maxRecDepth 100000

theorem l5Number_any (v : Int) (w : World) : Calls Tryz.prog 81 #[.int .i64 v] w fun e w' => e = .returned (.bool (within v 0 1099511627776)) ∧ w' = w := by
  have HI := hide (in_any v 0 1099511627776 w)
  unfold within
  generalize decide (0 ≤ v ∧ v ≤ 1099511627776) = c at HI
  go_enter Tryz.func81, Tryz.ntmps81
  go_wp2_with fail
  refine (unhide HI).mono ?_
  rintro e w' ⟨rfl, rfl⟩
  go_wp2_with fail
  go_ret
  exact ⟨rfl, rfl⟩

set_option maxRecDepth 100000 in
set_option maxHeartbeats 8000000 in
theorem l5Fault_any (g : Nat) (x : HS) (h : Hd) (T : TypeId) (w : World) (sb : SBlk w g (hvals x h).toList T) (o : HOk w x h) (m : HSm h) :
    Calls Tryz.prog 44 #[.pointer (some ⟨g, 0, none⟩)] w fun e w' => e = .returned (.int .i64 (hdFlt h)) ∧ ∃ n, w' = w.drewN n := by
  obtain ⟨x0, x1, x2, x3, x4, x5, x6, x7, x8, x9, x10⟩ := hcells sb
  have HC := hide (hcells sb)
  obtain ⟨b1, e1⟩ : ∃ b, (((x.p.n : Nat) : Int) != 32) = b := ⟨_, rfl⟩
  obtain ⟨b2, e2⟩ : ∃ b, (((x.t.n : Nat) : Int) != 0) = b := ⟨_, rfl⟩
  obtain ⟨b3, e3⟩ : ∃ b, (((x.t.n : Nat) : Int) != 4) = b := ⟨_, rfl⟩
  obtain ⟨b4, e4⟩ : ∃ b, (((x.r.n : Nat) : Int) != 32) = b := ⟨_, rfl⟩
  obtain ⟨b5, e5⟩ : ∃ b, (((x.g.n : Nat) : Int) != 4) = b := ⟨_, rfl⟩
  obtain ⟨b6, e6⟩ : ∃ b, (((x.e.n : Nat) : Int) != 0) = b := ⟨_, rfl⟩
  obtain ⟨b7, e7⟩ : ∃ b, (((x.e.n : Nat) : Int) != 4) = b := ⟨_, rfl⟩
  have HL : Hid (hdLen h = (b1 || (b2 && b3) || b4 || b5 || (b6 && b7))) := by
    show _ = _
    unfold hdLen
    rw [o.p.1, o.t.1, o.r.1, o.g.1, o.e.1, e1, e2, e3, e4, e5, e6, e7]
  obtain ⟨c1, f1⟩ : ∃ c, within h.n1 0 1099511627776 = c := ⟨_, rfl⟩
  obtain ⟨c2, f2⟩ : ∃ c, within h.n2 0 1099511627776 = c := ⟨_, rfl⟩
  obtain ⟨c3, f3⟩ : ∃ c, within h.n3 0 9 = c := ⟨_, rfl⟩
  obtain ⟨c5, f5⟩ : ∃ c, within h.n5 0 2 = c := ⟨_, rfl⟩
  have HN : Hid (hdNum h = (c1 && c2 && c3 && c5)) := by
    show _ = _
    unfold hdNum
    rw [f1, f2, f3, f5]
  have D1 := hide (fun W => l5Number_any h.n1 W)
  have D2 := hide (fun W => l5Number_any h.n2 W)
  have D3 := hide (fun W => in_any h.n3 0 9 W)
  have D5 := hide (fun W => in_any h.n5 0 2 W)
  simp only [f1] at D1
  simp only [f2] at D2
  simp only [show decide (0 ≤ h.n3 ∧ h.n3 ≤ 9) = c3 from f3] at D3
  simp only [show decide (0 ≤ h.n5 ∧ h.n5 ≤ 2) = c5 from f5] at D5
  have HSG := hide (l5Signers_any x.s.a x.s.n x.s.c h.s w o.s (by have := o.s.1; have := m.s; omega))
  have HE : Hid (hdFlt h = if hdLen h = true then 1 else if hdNum h = false then 3 else if sgFlt h.s = 0 then coFlt h.k else sgFlt h.s) := rfl
  have HK := hide o.k
  have hkl : x.k.n ≤ 1048576 := by have := o.k.1; have := m.k; omega
  clear o m f1 f2 f3 f5 sb
  generalize sgFlt h.s = q at HSG HE
  go_enter Tryz.func44, Tryz.ntmps44
  go_upto_region 1 with fail
  go_cut [58] (fun s wx => s = .bool (b1 || (b2 && b3) || b4 || b5 || (b6 && b7)) ∧ wx = w)
  case first =>
    cases b1
    case true =>
      go_wp2_with fail
      go_meet
      exact ⟨rfl, rfl⟩
    cases b4
    case true =>
      cases b2
      · go_wp2_with fail
        go_meet
        exact ⟨by simp, rfl⟩
      cases b3
      all_goals
        go_wp2_with fail
        go_meet
        exact ⟨by simp, rfl⟩
    cases b5
    case true =>
      cases b2
      · go_wp2_with fail
        go_meet
        exact ⟨by simp, rfl⟩
      cases b3
      all_goals
        go_wp2_with fail
        go_meet
        exact ⟨by simp, rfl⟩
    cases b6
    · cases b2
      · go_wp2_with fail
        go_meet
        exact ⟨by simp, rfl⟩
      cases b3
      all_goals
        go_wp2_with fail
        go_meet
        exact ⟨by simp, rfl⟩
    cases b2
    · go_wp2_with fail
      go_meet
      exact ⟨by simp, rfl⟩
    cases b3
    all_goals
      go_wp2_with fail
      go_meet
      exact ⟨by simp, rfl⟩
  case rest =>
    obtain ⟨rfl, hwc⟩ := hcut
    rw [hwc]
    clear hwc e1 e2 e3 e4 e5 e6 e7
    generalize hlb : (b1 || (b2 && b3) || b4 || b5 || (b6 && b7)) = lb
    rw [hlb] at HL
    clear hlb
    cases lb
    case true =>
      go_wp2_with fail
      go_ret
      exact ⟨ret_int (by rw [unhide HE, unhide HL, if_pos rfl]), 0, rfl⟩
    go_wp2_with fail
    refine ((unhide D1) _).mono ?_
    rintro e w' ⟨rfl, rfl⟩
    cases c1
    · go_wp2_with fail
      go_ret
      exact ⟨ret_int (by rw [unhide HE, unhide HL, unhide HN]; simp), 0, rfl⟩
    go_wp2_with fail
    refine ((unhide D2) _).mono ?_
    rintro e w' ⟨rfl, rfl⟩
    cases c2
    · go_wp2_with fail
      go_ret
      exact ⟨ret_int (by rw [unhide HE, unhide HL, unhide HN]; simp), 0, rfl⟩
    go_wp2_with fail
    refine ((unhide D3) _).mono ?_
    rintro e w' ⟨rfl, rfl⟩
    cases c3
    · go_wp2_with fail
      go_ret
      exact ⟨ret_int (by rw [unhide HE, unhide HL, unhide HN]; simp), 0, rfl⟩
    go_wp2_with fail
    refine ((unhide D5) _).mono ?_
    rintro e w' ⟨rfl, rfl⟩
    cases c5
    · go_wp2_with fail
      go_ret
      exact ⟨ret_int (by rw [unhide HE, unhide HL, unhide HN]; simp), 0, rfl⟩
    go_wp2_with fail
    refine (unhide HSG).mono ?_
    rintro e w1 ⟨rfl, n1, rfl⟩
    by_cases hq : q = 0
    · subst hq
      have HE2 : Hid (hdFlt h = coFlt h.k) := by
        show _ = _
        rw [unhide HE, unhide HL, unhide HN]; simp
      clear HE HL HN D1 D2 D3 D5 HSG x0 x1 x2 x3 x4 x5 x6 x7 x8 x9
      by_cases h7 : 7 < x.k.n
      · have d7 : decide ((7 : Int) < (x.k.n : Int)) = true := decide_eq_true (by omega)
        go_wp2_with fail
        go_ret
        refine ⟨ret_int ?_, n1, rfl⟩
        rw [unhide HE2]; unfold coFlt; rw [if_pos (by rw [(unhide HK).1]; exact h7)]
      have d7 : decide ((7 : Int) < (x.k.n : Int)) = false := decide_eq_false (by omega)
      have HE3 : Hid (hdFlt h = coFrom h.k) := by
        show _ = _
        rw [unhide HE2]; unfold coFlt; rw [if_neg (by rw [(unhide HK).1]; exact h7)]
      clear HE2
      go_wp2_with fail
      go_loop [4] (fun i => ∃ k : Nat, k ≤ x.k.n ∧ i = .int .i64 k ∧ coFrom h.k = coFrom (h.k.drop k)) (fun i => x.k.n - (intOf i).toNat)
      case atStart => exact ⟨0, Nat.zero_le _, rfl, by simp⟩
      case round =>
        obtain ⟨k, hk, rfl, hpre⟩ := hrel
        by_cases hlt : k < x.k.n
        · obtain ⟨z, hit⟩ : ∃ z, h.k[k]? = some z := ⟨_, List.getElem?_eq_getElem (by rw [(unhide HK).1]; exact hlt)⟩
          have hst := coFrom_step h.k k z hit
          rw [← hpre] at hst
          obtain ⟨bb, off, hba, _, hcc⟩ := (unhide HK).at (by omega)
          obtain ⟨s1, m1, d1, p0, r1⟩ := hcc k z hit
          have hzl : z.length = m1 := r1.1
          rw [hzl] at hst
          have HS := hide hst
          have x10' := x10
          rw [hba] at x10'
          have i1 : (0 : Int) ≤ (k : Int) := by omega
          have i2 : (k : Int) < (x.k.n : Int) := by omega
          clear r1 hst hpre hit hzl hcc hba x10
          by_cases h8 : m1 = 8
          · have d8 : (((m1 : Nat) : Int) != 8) = false := by simp [h8]
            rw [if_pos h8] at HS
            clear h8
            go_wp2_with fail
            go_round
            case rel => exact ⟨k + 1, by omega, by go_num, unhide HS⟩
            case measure => simp [intOf]; omega
          · have d8 : (((m1 : Nat) : Int) != 8) = true := by simp; omega
            rw [if_neg h8] at HS
            clear h8
            go_wp2_with fail
            go_ret
            exact ⟨ret_int (by rw [unhide HE3, unhide HS]), n1, rfl⟩
        · obtain rfl : k = x.k.n := by omega
          have e := coFrom_end h.k x.k.n (by rw [(unhide HK).1]; exact Nat.le_refl _)
          rw [e] at hpre
          have HP := hide hpre
          clear e hpre
          go_wp2_with fail
          go_ret
          exact ⟨ret_int (by rw [unhide HE3, unhide HP]), n1, rfl⟩
    · have hne : (q != 0) = true := by simp [hq]
      have HE2 : Hid (hdFlt h = q) := by
        show _ = _
        rw [unhide HE, unhide HL, unhide HN, if_neg (by simp), if_neg (by simp), if_neg hq]
      clear HE HL HN D1 D2 D3 D5 HSG hq
      go_wp2_with fail
      go_ret
      exact ⟨ret_int (unhide HE2).symm, n1, rfl⟩

end Go.Proofs.YtioifgbnninmjaaGreatDoor

/- What is proved here: what ConfigFault and IsCheckpoint answer, in the program and in the model; the laws' copy of a setting; how an argument that is a setting reads. -/
namespace Go.Proofs.YtioifgbnninmjaaGreatDoor
open Go.RowKit
set_option linter.unusedVariables false
set_option maxRecDepth 100000

/-- A setting: mode, period, epoch. -/
abbrev Cf := Int × Int × Int
def cfvals (x : Cf) : Array Value := #[.int .i64 x.1, .int .i64 x.2.1, .int .i64 x.2.2]

/-- The fault of a setting. -/
def cfFlt (x : Cf) : Int := if within x.1 1 2 = true ∧ within x.2.1 1 100 = true ∧ within x.2.2 1 100 = true then 0 else 3

/-- Whether a block is a checkpoint. -/
def cfCk (x : Cf) (n : Int) : Bool := decide (cfFlt x = 0) && within n 0 1099511627776 && decide (n % x.2.2 = 0)

theorem cf_field {H : Type} {enc : TypeId × Value → H} {w : World} {sp : Nat → Bool} {held : Bool} {t u : TypeId} {fs : Array Field} {fuel : Nat} {cs : List Value} {y : DataW H × List MemPlace} (ht : Tryz.prog.underlying t = some (.struct fs)) (h : DataW.trod enc Tryz.prog w 0 sp held fuel t cs = some y) (i : Nat) (f : Field) (hf : fs[i]? = some f) (hu : f.type = u) {o : Nat} (ho : f.offset = o) (ut : Tryz.prog.underlying u = some (.int .i64)) (hc : Tryz.prog.cellsOf u = 1) (hl : o + 1 ≤ cs.length) :
    ∃ n, (cs.drop o).take 1 = [.int .i64 n] := by
  obtain ⟨d, ps⟩ := y
  obtain ⟨xs, m, _, _, _, hxl, hfs⟩ := DataW.trod_struct ht h
  have g := hfs i f hf
  have hi : i < xs.length := by rw [hxl]; exact (Array.getElem?_eq_some_iff.1 hf).1
  rw [List.getElem?_eq_getElem hi, hu, ho, hc] at g
  have hl1 : ((cs.drop o).take 1).length = 1 := by rw [List.length_take, List.length_drop]; omega
  generalize (cs.drop o).take 1 = l at g hl1
  match l, hl1 with
  | [v], _ =>
    obtain ⟨n, rfl, hn⟩ := field_int ut g
    exact ⟨n, rfl⟩

theorem open_config {H : Type} {enc : TypeId × Value → H} {w : World} {sp : Nat → Bool} {held : Bool} {v : Value} {d : DataW H} {ps : List MemPlace} (hv : ∃ cs, v = .agg cs ∧ cs.size = Tryz.prog.cellsOf 23) (h : DataW.Trod enc Tryz.prog w 0 sp held 23 v d ps) :
    ∃ x, v = .agg (cfvals x) := by
  obtain ⟨cs, rfl, hs⟩ := hv
  obtain ⟨fuel, h⟩ := h
  have h' : DataW.trod enc Tryz.prog w 0 sp held fuel 23 cs.toList = some (d, ps) := h
  have h3 : Tryz.prog.cellsOf 23 = 3 := by kernel_rfl
  have hl : cs.toList.length = 3 := by rw [Array.length_toList, hs, h3]
  obtain ⟨m, q0⟩ := cf_field Tryz.underlying23 h' 0 _ rfl rfl (o := 0) rfl Tryz.underlying2 (by kernel_rfl) (by omega)
  obtain ⟨p, q1⟩ := cf_field Tryz.underlying23 h' 1 _ rfl rfl (o := 1) rfl Tryz.underlying2 (by kernel_rfl) (by omega)
  obtain ⟨e, q2⟩ := cf_field Tryz.underlying23 h' 2 _ rfl rfl (o := 2) rfl Tryz.underlying2 (by kernel_rfl) (by omega)
  refine ⟨(m, p, e), ?_⟩
  obtain ⟨l⟩ := cs
  match l, hl with
  | [a, b, c], _ =>
    simp at q0 q1 q2
    subst q0 q1 q2
    rfl

set_option maxHeartbeats 4000000 in
theorem toConfig_any (x : Cf) (w : World) : Calls Tryz.prog 14 #[.agg (cfvals x)] w fun r w' => r = .returned (.agg (cfvals x)) ∧ Below w.heap.size w w' := by
  obtain ⟨m, p, e⟩ := x
  unfold cfvals
  go_enter Tryz.func14, Tryz.ntmps14
  go_wp2
  refine bodyPost_ret (v := .agg #[.int .i64 m, .int .i64 p, .int .i64 e]) (by simp [results, Tryz.results14, go_sem]) rfl ⟨rfl, ?_⟩
  exact (((Below.refl _ _).alloc (Nat.le_refl _) _).alloc (by simp) _).alloc (by simp; omega) _

theorem isSpan_to (v : Int) (c : Bool) (w : World) (e : within v 1 100 = c) : Calls Tryz.prog 71 #[.int .i64 v] w fun e w' => e = .returned (.bool c) ∧ w' = w := by
  have HI := hide (isWithin_to v 1 100 c w e)
  clear e
  go_enter Tryz.func71, Tryz.ntmps71
  go_wp2_with fail
  refine (unhide HI).mono ?_
  rintro e w' ⟨rfl, rfl⟩
  go_wp2_with fail
  go_ret
  exact ⟨rfl, rfl⟩

theorem within_two {m : Int} : within m 1 2 = (m == 1 || m == 2) := by
  unfold within
  by_cases h : 1 ≤ m ∧ m ≤ 2
  · rw [decide_eq_true h]
    have : m = 1 ∨ m = 2 := by omega
    rcases this with rfl | rfl <;> rfl
  · rw [decide_eq_false h]
    have h1 : (m == 1) = false := by rw [beq_eq_false_iff_ne]; omega
    have h2 : (m == 2) = false := by rw [beq_eq_false_iff_ne]; omega
    rw [h1, h2]; rfl

set_option maxHeartbeats 4000000 in
theorem implConfigFault_any (x : Cf) (w : World) : Calls Tryz.prog 36 #[.agg (cfvals x)] w fun r w' => r = .returned (.int .i64 (cfFlt x)) ∧ Below w.heap.size w w' := by
  obtain ⟨m, p, e⟩ := x
  unfold cfvals cfFlt
  simp only
  rw [within_two]
  have HP := hide (fun W => isSpan_to p _ W rfl)
  have HE := hide (fun W => isSpan_to e _ W rfl)
  generalize within p 1 100 = bp at HP ⊢
  generalize within e 1 100 = be at HE ⊢
  obtain ⟨f, hf⟩ : ∃ f : Int, f = (if (m == 1 || m == 2) = true ∧ bp = true ∧ be = true then 0 else 3) := ⟨_, rfl⟩
  rw [← hf]
  have HF := hide hf
  clear hf
  have kr := SBlk.new w #[.int .i64 m, .int .i64 p, .int .i64 e] 29
  have bb := hide (below_alloc w (.cells #[.int .i64 m, .int .i64 p, .int .i64 e] 29))
  obtain ⟨W0, e0⟩ : ∃ W, w.alloc (.cells #[.int .i64 m, .int .i64 p, .int .i64 e] 29) = W := ⟨_, rfl⟩
  rw [e0] at kr bb
  have r0 := kr.cell 0
  have r1 := kr.cell 1
  have r2 := kr.cell 2
  simp only [List.getElem?_cons_zero, List.getElem?_cons_succ] at r0 r1 r2
  clear kr
  cases h1 : (m == 1) <;> cases h2 : (m == 2)
  · go_enter Tryz.func36, Tryz.ntmps36
    go_wp2_with (rw [e0])
    go_ret
    exact ⟨by rw [unhide HF]; simp [h1, h2], unhide bb⟩
  all_goals
    cases bp
    · go_enter Tryz.func36, Tryz.ntmps36
      go_wp2_with (rw [e0])
      refine ((unhide HP) _).mono ?_
      rintro r w1 ⟨rfl, rfl⟩
      go_wp2_with fail
      go_ret
      exact ⟨by rw [unhide HF]; simp [h1, h2], unhide bb⟩
    cases be
    all_goals
      go_enter Tryz.func36, Tryz.ntmps36
      go_wp2_with (rw [e0])
      refine ((unhide HP) _).mono ?_
      rintro r w1 ⟨rfl, rfl⟩
      go_wp2_with fail
      refine ((unhide HE) _).mono ?_
      rintro r w1 ⟨rfl, rfl⟩
      go_wp2_with fail
      go_ret
      exact ⟨by rw [unhide HF]; simp [h1, h2], unhide bb⟩

set_option maxHeartbeats 4000000 in
theorem l8Fault_any (g : Nat) (x : Cf) (T : TypeId) (w : World) (sb : SBlk w g (cfvals x).toList T) : Calls Tryz.prog 43 #[.pointer (some ⟨g, 0, none⟩)] w fun r w' => r = .returned (.int .i64 (cfFlt x)) ∧ w' = w := by
  obtain ⟨m, p, e⟩ := x
  have r0 := sb.cell 0
  have r1 := sb.cell 1
  have r2 := sb.cell 2
  simp only [cfvals, List.getElem?_cons_zero, List.getElem?_cons_succ] at r0 r1 r2
  clear sb
  unfold cfFlt
  simp only
  have HM := hide (fun W => in_any m 1 2 W)
  have HP := hide (fun W => in_any p 1 100 W)
  have HE := hide (fun W => in_any e 1 100 W)
  rw [show decide (1 ≤ m ∧ m ≤ 2) = within m 1 2 from rfl] at HM
  rw [show decide (1 ≤ p ∧ p ≤ 100) = within p 1 100 from rfl] at HP
  rw [show decide (1 ≤ e ∧ e ≤ 100) = within e 1 100 from rfl] at HE
  generalize within m 1 2 = bm at HM ⊢
  generalize within p 1 100 = bp at HP ⊢
  generalize within e 1 100 = be at HE ⊢
  obtain ⟨f, hf⟩ : ∃ f : Int, f = (if bm = true ∧ bp = true ∧ be = true then 0 else 3) := ⟨_, rfl⟩
  rw [← hf]
  have HF := hide hf
  clear hf
  cases bm
  · go_enter Tryz.func43, Tryz.ntmps43
    go_wp2_with fail
    refine ((unhide HM) _).mono ?_
    rintro r w1 ⟨rfl, rfl⟩
    go_wp2_with fail
    go_ret
    exact ⟨by rw [unhide HF]; simp, rfl⟩
  cases bp
  · go_enter Tryz.func43, Tryz.ntmps43
    go_wp2_with fail
    refine ((unhide HM) _).mono ?_
    rintro r w1 ⟨rfl, rfl⟩
    go_wp2_with fail
    refine ((unhide HP) _).mono ?_
    rintro r w1 ⟨rfl, rfl⟩
    go_wp2_with fail
    go_ret
    exact ⟨by rw [unhide HF]; simp, rfl⟩
  cases be
  all_goals
    go_enter Tryz.func43, Tryz.ntmps43
    go_wp2_with fail
    refine ((unhide HM) _).mono ?_
    rintro r w1 ⟨rfl, rfl⟩
    go_wp2_with fail
    refine ((unhide HP) _).mono ?_
    rintro r w1 ⟨rfl, rfl⟩
    go_wp2_with fail
    refine ((unhide HE) _).mono ?_
    rintro r w1 ⟨rfl, rfl⟩
    go_wp2_with fail
    go_ret
    exact ⟨by rw [unhide HF]; simp, rfl⟩

/-- What is known of a setting without a fault. -/
theorem cf_ok {x : Cf} (h : cfFlt x = 0) : (x.1 = 1 ∨ x.1 = 2) ∧ (1 ≤ x.2.1 ∧ x.2.1 ≤ 100) ∧ (1 ≤ x.2.2 ∧ x.2.2 ≤ 100) := by
  unfold cfFlt at h
  split at h
  · rename_i q
    obtain ⟨q1, q2, q3⟩ := q
    unfold within at q1 q2 q3
    have := of_decide_eq_true q1
    have := of_decide_eq_true q2
    have := of_decide_eq_true q3
    omega
  · omega

end Go.Proofs.YtioifgbnninmjaaGreatDoor

/- What is proved here: the contract of the laws' helper function markHeader: it writes into the header's own blocks alone. -/
namespace Go.Proofs.YtioifgbnninmjaaGreatDoor
open Go.RowKit
set_option linter.unusedVariables false
set_option maxRecDepth 100000

theorem BUpto.only {B C D : Nat} {w w' : World} (h : OnlyH B C w w') {g : Nat} {zss : List (List Int)} {k len : Nat} {T : TypeId} (hs : BUpto w g zss k len T D) (hg : C ≤ g) : BUpto w' g zss k len T D := by
  obtain ⟨vs, f, h1, h2, h3, h4, h5⟩ := hs
  refine ⟨vs, f, h.sblk h1 hg, h2, h3, h4, fun i z hi hz => ?_⟩
  obtain ⟨q1, q2⟩ := h5 i z hi hz
  exact ⟨q1, h.own q2 (by omega)⟩

/-- As HOwn, all below C. -/
def HOwnC (w : World) (B C : Nat) (x : HS) (h : Hd) : Prop :=
  ∃ g1 g2 g3 g4 g5 g6 g7 : Nat, x = ⟨⟨some ⟨g1, 0, none⟩, h.p.length, h.p.length⟩, ⟨some ⟨g2, 0, none⟩, h.t.length, h.t.length⟩, ⟨some ⟨g3, 0, none⟩, h.s.length, h.s.length⟩, ⟨some ⟨g4, 0, none⟩, h.r.length, h.r.length⟩, ⟨some ⟨g5, 0, none⟩, h.g.length, h.g.length⟩, ⟨some ⟨g6, 0, none⟩, h.e.length, h.e.length⟩, ⟨some ⟨g7, 0, none⟩, h.k.length, h.k.length⟩⟩ ∧
    (B ≤ g1 ∧ g1 < g2 ∧ g2 < g3 ∧ g3 < g4 ∧ g4 < g5 ∧ g5 < g6 ∧ g6 < g7 ∧ g7 < C) ∧
    w.ownsRow g1 5 1 (.slice (some ⟨g1, 0, none⟩) h.p.length h.p.length) h.p.length (h.p.map (Value.int .u8)) ∧
    w.ownsRow g2 5 1 (.slice (some ⟨g2, 0, none⟩) h.t.length h.t.length) h.t.length (h.t.map (Value.int .u8)) ∧
    OBss w g3 h.s 36 g4 ∧
    w.ownsRow g4 5 1 (.slice (some ⟨g4, 0, none⟩) h.r.length h.r.length) h.r.length (h.r.map (Value.int .u8)) ∧
    w.ownsRow g5 5 1 (.slice (some ⟨g5, 0, none⟩) h.g.length h.g.length) h.g.length (h.g.map (Value.int .u8)) ∧
    w.ownsRow g6 5 1 (.slice (some ⟨g6, 0, none⟩) h.e.length h.e.length) h.e.length (h.e.map (Value.int .u8)) ∧
    OBss w g7 h.k 36 C

theorem HOwn.c {w : World} {B : Nat} {x : HS} {h : Hd} (o : HOwn w B x h) : HOwnC w B w.heap.size x h := by
  obtain ⟨g1, g2, g3, g4, g5, g6, g7, e, ⟨a1, a2, a3, a4, a5, a6, a7⟩, o1, o2, o3, o4, o5, o6, o7⟩ := o
  exact ⟨g1, g2, g3, g4, g5, g6, g7, e, ⟨a1, a2, a3, a4, a5, a6, a7, BUpto.lt o7⟩, o1, o2, o3, o4, o5, o6, o7⟩

theorem HOwnC.below {w w' : World} {B C D : Nat} {x : HS} {h : Hd} (o : HOwnC w B C x h) (hb : Below D w w') (hD : w.heap.size ≤ D) : HOwnC w' B C x h := by
  obtain ⟨g1, g2, g3, g4, g5, g6, g7, e, a, o1, o2, o3, o4, o5, o6, o7⟩ := o
  exact ⟨g1, g2, g3, g4, g5, g6, g7, e, a, own_below o1 hb hD, own_below o2 hb hD, BUpto.below o3 hb hD, own_below o4 hb hD, own_below o5 hb hD, own_below o6 hb hD, BUpto.below o7 hb hD⟩

set_option maxRecDepth 100000 in
set_option maxHeartbeats 4000000 in
theorem markHeader_any (x : HS) (h : Hd) (B C : Nat) (w : World) (o : HOwnC w B C x h) (hC : C ≤ w.heap.size) (m : HSm h) (ht : hTot h ≤ 1048576) :
    Calls Tryz.prog 19 #[.agg (hvals x h), .int .i64 1] w fun e w' => e = .returned (.int .i64 (1 + (hTot h : Nat))) ∧ OnlyH B C w w' := by
  have kb := SBlk.new w (hvals x h) 45
  have bb := below_alloc w (.cells (hvals x h) 45)
  obtain ⟨W0, eb⟩ : ∃ W0, w.alloc (.cells (hvals x h) 45) = W0 := ⟨_, rfl⟩
  rw [eb] at kb bb
  obtain ⟨g1, g2, g3, g4, g5, g6, g7, rfl, ⟨a1, a2, a3, a4, a5, a6, a7, a8⟩, o1, o2, o3, o4, o5, o6, o7⟩ := o.below bb (Nat.le_refl _)
  have on : OnlyH B C w W0 := ⟨bb.mono (by omega), fun q hq hl => bb.block q hl⟩
  have tp : h.p.length ≤ 1048576 := m.p
  unfold hTot at ht
  have HTOT : Hid ((hTot h : Nat) = h.p.length + h.t.length + bsum h.s + h.r.length + h.g.length + h.e.length + bsum h.k) := rfl
  generalize hTot h = tot at HTOT ⊢
  have hgb : C ≤ w.heap.size := hC
  unfold hvals at kb eb ⊢
  have HM := hide m
  clear o m
  go_enter Tryz.func19, Tryz.ntmps19
  go_upto_region 1 with (rw [eb])
  try rw [eb]
  clear eb bb
  have c1 := kb.cell 0
  simp only [List.getElem?_cons_zero] at c1
  have D1 := hide (markB_only g1 h.p.length h.p 1 W0 o1 (by omega) (by omega) (by omega))
  go_wp2_with fail
  refine (unhide D1).mono ?_
  rintro e w1 ⟨rfl, n1⟩
  have o2 := n1.own o2 (by omega)
  have o3 := BUpto.only n1 o3 (by omega)
  have o4 := n1.own o4 (by omega)
  have o5 := n1.own o5 (by omega)
  have o6 := n1.own o6 (by omega)
  have o7 := BUpto.only n1 o7 (by omega)
  have kb := n1.sblk kb (by omega)
  have on := on.trans (n1.mono (B' := B) (C' := C) (by omega) (by omega))
  clear n1 c1 D1
  have c2 := kb.cell 4
  simp only [List.getElem?_cons_zero, List.getElem?_cons_succ] at c2
  obtain ⟨K1, eK1⟩ : ∃ K : Int, K = 1 + (h.p.length : Nat) := ⟨_, rfl⟩
  have bK1 : 0 ≤ K1 ∧ K1 ≤ 1048577 := by omega
  have D2 := hide (markB_only g2 h.t.length h.t K1 w1 o2 (by omega) (by omega) (by omega))
  have EK1 := hide eK1
  clear eK1
  go_wp2_with fail
  rw [← unhide EK1]
  refine (unhide D2).mono ?_
  rintro e w2 ⟨rfl, n2⟩
  have o3 := BUpto.only n2 o3 (by omega)
  have o4 := n2.own o4 (by omega)
  have o5 := n2.own o5 (by omega)
  have o6 := n2.own o6 (by omega)
  have o7 := BUpto.only n2 o7 (by omega)
  have kb := n2.sblk kb (by omega)
  have on := on.trans (n2.mono (B' := B) (C' := C) (by omega) (by omega))
  clear n2 c2 D2
  have c3 := kb.cell 6
  simp only [List.getElem?_cons_zero, List.getElem?_cons_succ] at c3
  obtain ⟨K2, eK2⟩ : ∃ K : Int, K = K1 + (h.t.length : Nat) := ⟨_, rfl⟩
  have bK2 : 0 ≤ K2 ∧ K2 ≤ 1048577 := by have q1 := unhide EK1; omega
  have D3 := hide (markSS_any g3 h.s 36 g4 K2 w2 o3 (by omega) (unhide HM).s (by omega) (by omega) (by omega))
  have EK2 := hide eK2
  clear eK2
  go_wp2_with fail
  rw [← unhide EK2]
  refine (unhide D3).mono ?_
  rintro e w3 ⟨rfl, n3⟩
  have o4 := n3.own o4 (by omega)
  have o5 := n3.own o5 (by omega)
  have o6 := n3.own o6 (by omega)
  have o7 := BUpto.only n3 o7 (by omega)
  have kb := n3.sblk kb (by omega)
  have on := on.trans (n3.mono (B' := B) (C' := C) (by omega) (by omega))
  clear n3 c3 D3
  have c4 := kb.cell 7
  simp only [List.getElem?_cons_zero, List.getElem?_cons_succ] at c4
  obtain ⟨K3, eK3⟩ : ∃ K : Int, K = K2 + (bsum h.s : Nat) := ⟨_, rfl⟩
  have bK3 : 0 ≤ K3 ∧ K3 ≤ 1048577 := by have q1 := unhide EK1; have q2 := unhide EK2; omega
  have D4 := hide (markB_only g4 h.r.length h.r K3 w3 o4 (by omega) (by omega) (by omega))
  have EK3 := hide eK3
  clear eK3
  go_wp2_with fail
  rw [← unhide EK3]
  refine (unhide D4).mono ?_
  rintro e w4 ⟨rfl, n4⟩
  have o5 := n4.own o5 (by omega)
  have o6 := n4.own o6 (by omega)
  have o7 := BUpto.only n4 o7 (by omega)
  have kb := n4.sblk kb (by omega)
  have on := on.trans (n4.mono (B' := B) (C' := C) (by omega) (by omega))
  clear n4 c4 D4
  have c5 := kb.cell 8
  simp only [List.getElem?_cons_zero, List.getElem?_cons_succ] at c5
  obtain ⟨K4, eK4⟩ : ∃ K : Int, K = K3 + (h.r.length : Nat) := ⟨_, rfl⟩
  have bK4 : 0 ≤ K4 ∧ K4 ≤ 1048577 := by have q1 := unhide EK1; have q2 := unhide EK2; have q3 := unhide EK3; omega
  have D5 := hide (markB_only g5 h.g.length h.g K4 w4 o5 (by omega) (by omega) (by omega))
  have EK4 := hide eK4
  clear eK4
  go_wp2_with fail
  rw [← unhide EK4]
  refine (unhide D5).mono ?_
  rintro e w5 ⟨rfl, n5⟩
  have o6 := n5.own o6 (by omega)
  have o7 := BUpto.only n5 o7 (by omega)
  have kb := n5.sblk kb (by omega)
  have on := on.trans (n5.mono (B' := B) (C' := C) (by omega) (by omega))
  clear n5 c5 D5
  have c6 := kb.cell 9
  simp only [List.getElem?_cons_zero, List.getElem?_cons_succ] at c6
  obtain ⟨K5, eK5⟩ : ∃ K : Int, K = K4 + (h.g.length : Nat) := ⟨_, rfl⟩
  have bK5 : 0 ≤ K5 ∧ K5 ≤ 1048577 := by have q1 := unhide EK1; have q2 := unhide EK2; have q3 := unhide EK3; have q4 := unhide EK4; omega
  have D6 := hide (markB_only g6 h.e.length h.e K5 w5 o6 (by omega) (by omega) (by omega))
  have EK5 := hide eK5
  clear eK5
  go_wp2_with fail
  rw [← unhide EK5]
  refine (unhide D6).mono ?_
  rintro e w6 ⟨rfl, n6⟩
  have o7 := BUpto.only n6 o7 (by omega)
  have kb := n6.sblk kb (by omega)
  have on := on.trans (n6.mono (B' := B) (C' := C) (by omega) (by omega))
  clear n6 c6 D6
  have c7 := kb.cell 10
  simp only [List.getElem?_cons_zero, List.getElem?_cons_succ] at c7
  obtain ⟨K6, eK6⟩ : ∃ K : Int, K = K5 + (h.e.length : Nat) := ⟨_, rfl⟩
  have bK6 : 0 ≤ K6 ∧ K6 ≤ 1048577 := by have q1 := unhide EK1; have q2 := unhide EK2; have q3 := unhide EK3; have q4 := unhide EK4; have q5 := unhide EK5; omega
  have D7 := hide (markSS_any g7 h.k 36 C K6 w6 o7 (by omega) (unhide HM).k (by omega) (by omega) (by omega))
  have EK6 := hide eK6
  clear eK6
  go_wp2_with fail
  rw [← unhide EK6]
  refine (unhide D7).mono ?_
  rintro e w7 ⟨rfl, n7⟩
  have kb := n7.sblk kb (by omega)
  have on := on.trans (n7.mono (B' := B) (C' := C) (by omega) (by omega))
  clear n7 c7 D7
  go_wp2_with fail
  go_ret
  refine ⟨ret_int ?_, on⟩
  have t := unhide HTOT
  have t1 := unhide EK1
  have t2 := unhide EK2
  have t3 := unhide EK3
  have t4 := unhide EK4
  have t5 := unhide EK5
  have t6 := unhide EK6
  omega

end Go.Proofs.YtioifgbnninmjaaGreatDoor

/- What is proved here: plain facts on slices of items in a world, and how an argument that is such a slice reads; they hold for every program. -/
namespace Go.Proofs.YtioifgbnninmjaaGreatDoor
open Go.RowKit
set_option linter.unusedVariables false
set_option maxRecDepth 100000

/-- An item: whether it is a list, its parent, its bytes. -/
structure It where
  l : Bool
  p : Int
  z : List Int

/-- The item 'it' lies at three cells. -/
def ItAt (w : World) (b o : Nat) (it : It) : Prop :=
  ∃ sa sl sc, w.cell? ⟨b, o, none⟩ = some (.bool it.l) ∧ w.cell? ⟨b, o + 1, none⟩ = some (.int .i64 it.p) ∧ w.cell? ⟨b, o + 2, none⟩ = some (.slice sa sl sc) ∧ BRow w sa sl it.z

/-- What the numbers of an item keep to. -/
def ItOk (it : It) : Prop := -9223372036854775808 ≤ it.p ∧ it.p ≤ 9223372036854775807 ∧ it.z.length ≤ maxLen

/-- The slice 'a', of 'len' items, reads as 'its'. -/
def ItRow (w : World) (a : Option Addr) (len : Nat) (its : List It) : Prop :=
  its.length = len ∧ (∀ it ∈ its, ItOk it) ∧ (0 < len → ∃ b off, a = some ⟨b, off, none⟩ ∧ ∀ i it, its[i]? = some it → ItAt w b (off + i * 3) it)

theorem ItAt.lt {w : World} {b o : Nat} {it : It} (h : ItAt w b o it) : b < w.heap.size := by
  obtain ⟨_, _, _, h, _⟩ := h
  exact lt_of_cell h

theorem ItAt.below {w w' : World} {b o : Nat} {it : It} (h : ItAt w b o it) {B : Nat} (hb : Below B w w') (hB : w.heap.size ≤ B) : ItAt w' b o it := by
  have hl := Nat.lt_of_lt_of_le h.lt hB
  obtain ⟨sa, sl, sc, h1, h2, h3, h4⟩ := h
  exact ⟨sa, sl, sc, (hb.cell hl).trans h1, (hb.cell hl).trans h2, (hb.cell hl).trans h3, h4.below hb hB⟩

theorem ItRow.below {w w' : World} {a : Option Addr} {len : Nat} {its : List It} (h : ItRow w a len its) {B : Nat} (hb : Below B w w') (hB : w.heap.size ≤ B) : ItRow w' a len its := by
  refine ⟨h.1, h.2.1, fun hp => ?_⟩
  obtain ⟨b, off, e, k⟩ := h.2.2 hp
  exact ⟨b, off, e, fun i it hi => (k i it hi).below hb hB⟩

theorem ItRow.at {w : World} {a : Option Addr} {len : Nat} {its : List It} (h : ItRow w a len its) (hp : 0 < len) :
    ∃ b off, a = some ⟨b, off, none⟩ ∧ b < w.heap.size ∧ ∀ i it, its[i]? = some it → ItAt w b (off + i * 3) it := by
  obtain ⟨b, off, e, k⟩ := h.2.2 hp
  refine ⟨b, off, e, ?_, k⟩
  have hl : 0 < its.length := by rw [h.1]; exact hp
  exact (k 0 its[0] (List.getElem?_eq_getElem hl)).lt

theorem ItRow.bytes {w : World} {a : Option Addr} {len : Nat} {its : List It} (h : ItRow w a len its) : ∀ it ∈ its, ∀ x ∈ it.z, 0 ≤ x ∧ x ≤ 255 := by
  intro it hit
  obtain ⟨i, hi⟩ := List.getElem?_of_mem hit
  have hl := (List.getElem?_eq_some_iff.1 hi).1
  obtain ⟨b, off, _, k⟩ := h.2.2 (by rw [← h.1]; omega)
  obtain ⟨_, _, _, _, _, _, hb⟩ := k i it hi
  exact hb.2.1

theorem add_add (x : Addr) (hx : x.spot = none) (i j : Nat) : (x.add i).add j = ⟨x.block, x.off + i + j, none⟩ := by
  obtain ⟨b, o, s⟩ := x
  simp only at hx
  subst hx
  rw [add_none, add_none]

/-- How an argument that is a slice of items reads. -/
theorem open_items {H : Type} {enc : TypeId × Value → H} {P : Program} {w : World} {sp : Nat → Bool} {held : Bool} {t e tb ti ts tu : TypeId} {fs : Array Field} {f0 f1 f2 : Field} {v : Value} {d : DataW H} {ps : List MemPlace}
    (ht : P.underlying t = some (.slice e)) (he : P.underlying e = some (.struct fs)) (hc : P.cellsOf e = 3)
    (h0 : fs[0]? = some f0) (h1 : fs[1]? = some f1) (h2 : fs[2]? = some f2)
    (o0 : f0.offset = 0) (o1 : f1.offset = 1) (o2 : f2.offset = 2) (t0 : f0.type = tb) (t1 : f1.type = ti) (t2 : f2.type = ts)
    (c0 : P.cellsOf tb = 1) (c1 : P.cellsOf ti = 1) (c2 : P.cellsOf ts = 1) (cu : P.cellsOf tu = 1)
    (ub : P.underlying tb = some .bool) (ui : P.underlying ti = some (.int .i64)) (us : P.underlying ts = some (.slice tu)) (uu : P.underlying tu = some (.int .u8))
    (hv : ∃ a len cap, v = .slice a len cap) (h : DataW.Trod enc P w 0 sp held t v d ps) : ∃ a len cap its, v = .slice a len cap ∧ len ≤ maxLen ∧ ItRow w a len its := by
  obtain ⟨a, len, cap, rfl⟩ := hv
  obtain ⟨fuel, h⟩ := h
  rcases DataW.trod_slice ht h with ⟨hn, _⟩ | ⟨x, len', cap', elems, rest, n, _, hcs, _, _, hl, hm, hlen, hel, _⟩
  · have hn' : [Value.slice a len cap] = [Value.slice none 0 0] := hn
    simp only [List.cons.injEq, Value.slice.injEq, and_true] at hn'
    obtain ⟨rfl, rfl, rfl⟩ := hn'
    exact ⟨none, 0, 0, [], rfl, Nat.zero_le _, rfl, fun it hi => by simp at hi, fun hp => absurd hp (Nat.lt_irrefl _)⟩
  · have hcs' : [Value.slice a len cap] = [Value.slice (some x) len' cap'] := hcs
    simp only [List.cons.injEq, Value.slice.injEq, and_true] at hcs'
    obtain ⟨rfl, rfl, rfl⟩ := hcs'
    have each : ∀ i, i < len → ∃ it : It, ItOk it ∧ x.spot = none ∧ ItAt w x.block (x.off + i * 3) it := by
      intro i hi
      have hE := hel i hi
      have hi' : i < elems.length := by omega
      rw [List.getElem?_eq_getElem hi', Option.bind_eq_some_iff, hc] at hE
      obtain ⟨cs, hcells, htr⟩ := hE
      obtain ⟨_, hcl, hcell⟩ := World.cells?_some hcells
      obtain ⟨xs, m, _, _, _, hxl, hf⟩ := DataW.trod_struct he htr
      have hs3 : 3 ≤ xs.length := by
        rw [hxl]
        have := (Array.getElem?_eq_some_iff.1 h2).1
        omega
      have g0 := hf 0 f0 h0
      have g1 := hf 1 f1 h1
      have g2 := hf 2 f2 h2
      rw [List.getElem?_eq_getElem (by omega)] at g0 g1 g2
      rw [t0, o0, c0] at g0
      rw [t1, o1, c1] at g1
      rw [t2, o2, c2] at g2
      obtain ⟨bl, e0, _⟩ := DataW.trod_bool ub g0
      obtain ⟨pn, e1, _, hwf⟩ := DataW.trod_int ui g1
      match cs, hcl with
      | [x0, x1, x2], _ =>
        simp only [List.drop_zero, List.drop_succ_cons, List.take_succ_cons, List.take_zero, List.cons.injEq, and_true] at e0 e1 g2
        subst e0 e1
        have k0 : w.cell? ((x.add (i * 3)).add 0) = some (.bool bl) := hcell 0 (by omega)
        have k1 : w.cell? ((x.add (i * 3)).add 1) = some (.int .i64 pn) := hcell 1 (by omega)
        have k2 : w.cell? ((x.add (i * 3)).add 2) = some x2 := hcell 2 (by omega)
        have hsp : x.spot = none := by
          have hk := World.cell?_spot k0
          by_cases hi0 : i * 3 = 0
          · simpa [Addr.add, hi0] using hk
          · cases i with
            | zero => simp at hi0
            | succ j =>
              have hE0 := hel 0 (by omega)
              rw [List.getElem?_eq_getElem (by omega), Option.bind_eq_some_iff, hc] at hE0
              obtain ⟨cs0, hcells0, _⟩ := hE0
              obtain ⟨_, hcl0, hcell0⟩ := World.cells?_some hcells0
              have q := hcell0 0 (by omega)
              rw [List.getElem?_eq_getElem (by omega)] at q
              simpa [Addr.add] using World.cell?_spot q
        rw [add_add x hsp] at k0 k1 k2
        have hb := bounds_i64 hwf
        rcases ChangeShapes.open_ints us uu cu g2 with ⟨e2, _⟩ | ⟨sa, sl, sc, zs, e2, _, hsl, hsm, hzl, _, hzc, hzw⟩
        · simp only [List.cons.injEq, and_true] at e2
          subst e2
          exact ⟨⟨bl, pn, []⟩, ⟨hb.1, hb.2, Nat.zero_le _⟩, hsp, none, 0, 0, k0, k1, k2, rfl, fun n hn => by simp at hn, fun _ => rfl, fun y hy => by cases hy⟩
        · simp only [List.cons.injEq, and_true] at e2
          subst e2
          have hzl' : sl ≤ zs.length := by rw [hzl]; split <;> omega
          refine ⟨⟨bl, pn, zs.take sl⟩, ⟨hb.1, hb.2, by simp; omega⟩, hsp, some sa, sl, sc, k0, k1, k2, by simp; omega, fun n hn => ?_, (fun e => (by cases e)), fun y hy j hj => ?_⟩
          · exact bounds_u8 (hzw n (List.mem_of_mem_take hn))
          · cases hy
            rw [hzc j (by omega), getD_at _ j (by omega), getD_at _ j (by simp; omega), List.getElem_take]
    have build : ∀ m, m ≤ len → ∃ its : List It, its.length = m ∧ (∀ it ∈ its, ItOk it) ∧ ∀ i it, its[i]? = some it → ItAt w x.block (x.off + i * 3) it := by
      intro m
      induction m with
      | zero => intro _; exact ⟨[], rfl, fun it hi => by simp at hi, fun i it hi => by simp at hi⟩
      | succ m ih =>
        intro hm'
        obtain ⟨its, q1, q2, q3⟩ := ih (by omega)
        obtain ⟨it, r1, _, r2⟩ := each m (by omega)
        refine ⟨its ++ [it], by simp [q1], fun y hy => ?_, fun i y hy => ?_⟩
        · rcases List.mem_append.1 hy with h' | h'
          · exact q2 y h'
          · simp at h'; subst h'; exact r1
        · rcases Nat.lt_or_ge i m with h' | h'
          · rw [List.getElem?_append_left (by omega)] at hy
            exact q3 i y hy
          · have hi : i < (its ++ [it]).length := (List.getElem?_eq_some_iff.1 hy).1
            simp at hi
            obtain rfl : i = m := by omega
            rw [List.getElem?_append_right (by omega), q1, Nat.sub_self] at hy
            simp at hy
            subst hy
            exact r2
    obtain ⟨its, q1, q2, q3⟩ := build len (Nat.le_refl _)
    refine ⟨some x, len, cap, its, rfl, Nat.le_trans hl hm, q1, q2, fun hp => ⟨x.block, x.off, ?_, q3⟩⟩
    obtain ⟨_, _, hsp, _⟩ := each 0 hp
    obtain ⟨b, o, s⟩ := x
    simp only at hsp
    subst hsp
    rfl

end Go.Proofs.YtioifgbnninmjaaGreatDoor

/- What is proved here: plain facts on lists of items: how great they are, and whether two are the same; no program is named. -/
namespace Go.Proofs.YtioifgbnninmjaaGreatDoor
open Go.RowKit
set_option linter.unusedVariables false
set_option maxRecDepth 100000

/-- What is left of a number behind the bytes of items: below 0 at the first time: -1. -/
def szIts : Int → List It → Int
  | left, [] => left
  | left, it :: r => if left - it.z.length < 0 then -1 else szIts (left - it.z.length) r

def szAll (left : Int) (its : List It) : Int := if left - its.length < 0 then -1 else szIts (left - its.length) its

/-- All bytes of items. -/
def bytesOf (its : List It) : Nat := (its.map fun it => it.z.length).sum

theorem szIts_bd (its : List It) : ∀ left, 0 ≤ left → szIts left its ≤ left := by
  induction its with
  | nil => intro left _; exact Int.le_refl _
  | cons it r ih =>
    intro left h
    unfold szIts
    split
    · omega
    · exact Int.le_trans (ih _ (by omega)) (by omega)

theorem szIts_ge (its : List It) : ∀ left, 0 ≤ left → -1 ≤ szIts left its := by
  induction its with
  | nil => intro left h; unfold szIts; omega
  | cons it r ih =>
    intro left h
    unfold szIts
    split
    · omega
    · exact ih _ (by omega)

theorem szIts_sum (its : List It) : ∀ left, 0 ≤ szIts left its → (bytesOf its : Int) ≤ left := by
  induction its with
  | nil => intro left h; simpa [szIts, bytesOf] using h
  | cons it r ih =>
    intro left h
    unfold szIts at h
    split at h
    · omega
    · have := ih _ h
      simp [bytesOf] at this ⊢
      omega

theorem bytesOf_mem {its : List It} {it : It} (h : it ∈ its) : it.z.length ≤ bytesOf its := by
  induction its with
  | nil => simp at h
  | cons a r ih =>
    rcases List.mem_cons.1 h with e | e
    · subst e; simp [bytesOf]
    · have := ih e; simp [bytesOf] at this ⊢; omega

theorem szAll_ok {left : Int} {its : List It} (h : 0 ≤ szAll left its) : (its.length : Int) + bytesOf its ≤ left := by
  unfold szAll at h
  split at h
  · omega
  · have := szIts_sum its _ h
    omega

theorem szAll_le (left : Int) (its : List It) (h : 0 ≤ left) : szAll left its ≤ left := by
  unfold szAll
  split
  · omega
  · exact Int.le_trans (szIts_bd its _ (by omega)) (by omega)

/-- One item more. -/
theorem szIts_step (its : List It) (k : Nat) (it : It) (left : Int) (h : its[k]? = some it) : szIts left (its.drop k) = if left - it.z.length < 0 then -1 else szIts (left - it.z.length) (its.drop (k + 1)) := by
  obtain ⟨hk, e⟩ := List.getElem?_eq_some_iff.1 h
  rw [List.drop_eq_getElem_cons hk, e]
  rfl

/-- Whether two items, two lists of them, are the same. -/
def sameIt (a b : It) : Bool := a.l == b.l && a.p == b.p && sameB a.z b.z
def sameIts : List It → List It → Bool
  | [], [] => true
  | a :: ar, b :: bs => sameIt a b && sameIts ar bs
  | _, _ => false

theorem sameIt_self (a : It) : sameIt a a = true := by simp [sameIt, sameB]

theorem sameIts_self (a : List It) : sameIts a a = true := by
  induction a with
  | nil => rfl
  | cons a r ih => simp [sameIts, sameIt_self, ih]

theorem sameIts_length : ∀ (a b : List It), sameIts a b = true → a.length = b.length
  | [], [], _ => rfl
  | [], _ :: _, h => by simp [sameIts] at h
  | _ :: _, [], h => by simp [sameIts] at h
  | a :: ar, b :: bs, h => by
    simp [sameIts] at h
    simp [sameIts_length ar bs h.2]

theorem sameIts_step (a b : List It) (k : Nat) (x y : It) (hx : a[k]? = some x) (hy : b[k]? = some y) : sameIts (a.drop k) (b.drop k) = (sameIt x y && sameIts (a.drop (k + 1)) (b.drop (k + 1))) := by
  obtain ⟨h1, e1⟩ := List.getElem?_eq_some_iff.1 hx
  obtain ⟨h2, e2⟩ := List.getElem?_eq_some_iff.1 hy
  rw [List.drop_eq_getElem_cons h1, List.drop_eq_getElem_cons h2, e1, e2]
  rfl

theorem sameIts_end (a b : List It) (k : Nat) (h1 : a.length = k) (h2 : b.length = k) : sameIts (a.drop k) (b.drop k) = true := by
  rw [List.drop_eq_nil_of_le (by omega), List.drop_eq_nil_of_le (by omega)]
  rfl

theorem sameIts_len (a b : List It) (h : a.length ≠ b.length) : sameIts a b = false := by
  rw [Bool.eq_false_iff]
  intro e
  exact h (sameIts_length a b e)

end Go.Proofs.YtioifgbnninmjaaGreatDoor
