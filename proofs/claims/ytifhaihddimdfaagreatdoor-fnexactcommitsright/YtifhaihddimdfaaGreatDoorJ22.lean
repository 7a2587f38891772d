/- What is proved here: what the model's l5Signers answers: the first fault of a list of signers. -/
import Derived.Test.YtifhaihddimdfaaGreatDoorJ6
import Derived.WalkKit
import Derived.WalkSmall
import Derived.Deep.RegionWith
import Derived.BigQuiet
import Derived.Deep.QuietTactic
import Derived.WalkSpells
import Derived.Test.YtifhaihddimdfaaGreatDoorJ2
import Derived.Deep.DeepCutAuto
import Derived.Deep.CutBlock
import Derived.Test.YtifhaihddimdfaaGreatDoorJ12
import Derived.Test.YtifhaihddimdfaaGreatDoorJ17
import Derived.Test.YtifhaihddimdfaaGreatDoorJ21
import Derived.Test.YtifhaihddimdfaaGreatDoorJ13
import Derived.Test.YtifhaihddimdfaaGreatDoorJ8
import Derived.Test.YtifhaihddimdfaaGreatDoorJ4
import Derived.Deep.RegionHeld3
import Derived.Test.YtifhaihddimdfaaGreatDoorJ16
import Derived.Test.YtifhaihddimdfaaGreatDoorJ5
namespace Go.Proofs.YtifhaihddimdfaaGreatDoor
open Go.RowKit
set_option linter.unusedVariables false
set_option maxRecDepth 100000

set_option maxHeartbeats 2000000 in
theorem l5Signers_any (a : Option Addr) (len cap : Nat) (zss : List (List Int)) (w : World) (h : BsRow w a len zss) (hl : len ≤ 1048576) :
    Calls Tryz.prog 55 #[.slice a len cap] w fun e w' => e = .returned (.int .i64 (sgFlt zss)) ∧ ∃ n, w' = w.drewN n := by
  have hil := h.1
  by_cases h2 : 7 < len
  · have HE : Hid (sgFlt zss = 2) := by show _ = _; unfold sgFlt; rw [if_pos (by rw [hil]; exact h2)]
    have hd : decide ((7 : Int) < (len : Int)) = true := decide_eq_true (by omega)
    clear h hil
    go_enter Tryz.func55, Tryz.ntmps55
    go_wp2_with fail
    go_ret
    exact ⟨ret_int (unhide HE).symm, 0, rfl⟩
  · have d2 : decide ((7 : Int) < (len : Int)) = false := decide_eq_false (by omega)
    have HE : Hid (sgFlt zss = sgFrom zss 0 zss) := by show _ = _; unfold sgFlt; rw [if_neg (by omega)]
    rcases Nat.eq_zero_or_pos len with h0 | hp
    · subst h0
      have hn : zss = [] := List.length_eq_zero_iff.1 hil
      subst hn
      clear h
      go_enter Tryz.func55, Tryz.ntmps55
      go_wp2_with fail
      refine wp_loop_rounds 1 ?_
      rw [rounds_succ]
      go_wp2_with fail
      go_ret
      exact ⟨ret_int (by rw [unhide HE]; rfl), 0, rfl⟩
    · obtain ⟨b, off, rfl, hb, hc⟩ := h.at hp
      have HC := hide hc
      have HL := hide hil
      clear h hc hil
      go_enter Tryz.func55, Tryz.ntmps55
      go_wp2_with fail
      go_loopw [3] (fun i wr => ∃ k n : Nat, k ≤ len ∧ i = .int .i64 k ∧ sgFrom zss 0 zss = sgFrom zss k (zss.drop k) ∧ wr = w.drewN n) (fun i _ => len - (intOf i).toNat)
      case atStart => exact ⟨0, 0, Nat.zero_le _, rfl, by simp, rfl⟩
      case round =>
        obtain ⟨k, n, hk, rfl, hpre, hw⟩ := hrel
        have hbw : Below w.heap.size w wr := by rw [hw]; exact below_drewN (Below.refl _ _) n
        have HW := hide hw
        clear hw
        by_cases hlt : k < len
        · obtain ⟨z, hit⟩ : ∃ z, zss[k]? = some z := ⟨_, List.getElem?_eq_getElem (by rw [unhide HL]; exact hlt)⟩
          have hst := sgFrom_step zss k z hit
          rw [← hpre] at hst
          obtain ⟨s1, n1, d1, p0, r1⟩ := ((unhide HC) k z hit).below hbw (Nat.le_refl _)
          have hzl : z.length = n1 := r1.1
          have HS := hide hst
          have i1 : (0 : Int) ≤ (k : Int) := by omega
          have i2 : (k : Int) < (len : Int) := by omega
          by_cases h4 : n1 = 4
          · have d4 : (((n1 : Nat) : Int) != 4) = false := by simp [h4]
            by_cases k0 : k = 0
            · have e : sgBad zss k z = false := by unfold sgBad; simp [hzl, h4, k0]
              rw [e, if_neg (by simp)] at HS
              have dk : decide ((0 : Int) < (k : Int)) = false := decide_eq_false (by omega)
              have dk' : decide (0 < k) = false := decide_eq_false (by omega)
              clear r1 hst hpre hit hzl e k0 h4 hbw
              go_wp2_with fail
              go_quiet (fail)
              all_goals
                go_wp2_with fail
                go_roundw
                case rel => exact ⟨k + 1, _, by omega, by go_num, unhide HS, by rw [unhide HW]; first | rfl | exact World.drewN_drewN ..⟩
                case measure => simp [intOf]; omega
            · obtain ⟨j, hj⟩ : ∃ j : Nat, k - 1 = j := ⟨_, rfl⟩
              obtain ⟨y, hiy⟩ : ∃ y, zss[j]? = some y := ⟨_, List.getElem?_eq_getElem (by rw [unhide HL]; omega)⟩
              obtain ⟨s2, n2, d2', q0, r2⟩ := ((unhide HC) j y hiy).below hbw (Nat.le_refl _)
              have hgd : zss.getD (k - 1) [] = y := by rw [hj, List.getD_eq_getElem?_getD, hiy]; rfl
              have e : sgBad zss k z = !aheadB y z := by unfold sgBad; rw [hgd, hzl, h4]; simp; omega
              rw [e] at HS
              have dk : decide ((0 : Int) < (k : Int)) = true := decide_eq_true (by omega)
              have dk' : decide (0 < k) = true := decide_eq_true (by omega)
              have j1 : (0 : Int) ≤ (j : Int) := by omega
              have j2 : (j : Int) < (len : Int) := by omega
              have hwr : IntKind.i64.wrap ((k : Int) - 1) = (j : Int) := by rw [IntKind.wrap_i64]; omega
              have HA := hide (fun (m : Nat) => l1Ahead_any s2 s1 n2 d2' n1 d1 y z (wr.drewN m) (r2.below (B := wr.heap.size) (below_drewN (Below.refl _ _) m) (Nat.le_refl _)) (r1.below (B := wr.heap.size) (below_drewN (Below.refl _ _) m) (Nat.le_refl _)))
              clear r1 r2 hst hpre hit hiy hzl hgd e k0 h4 hj hbw
              generalize aheadB y z = sb at HA HS
              cases sb
              · go_wp2_with fail
                go_quiet ((go_at_call 94; exact Calls.quiet_of_same ((unhide HA) _)))
                all_goals
                  go_wp2_with fail
                  go_ret
                  exact ⟨ret_int (by rw [unhide HE, unhide HS]; rfl), _, by rw [unhide HW]; first | rfl | exact World.drewN_drewN ..⟩
              · go_wp2_with fail
                go_quiet ((go_at_call 94; exact Calls.quiet_of_same ((unhide HA) _)))
                all_goals
                  go_wp2_with fail
                  go_roundw
                  case rel => exact ⟨k + 1, _, by omega, by go_num, by rw [unhide HS]; rfl, by rw [unhide HW]; first | rfl | exact World.drewN_drewN ..⟩
                  case measure => simp [intOf]; omega
          · have d4 : (((n1 : Nat) : Int) != 4) = true := by simp; omega
            have e : sgBad zss k z = true := by unfold sgBad; simp [hzl, h4]
            rw [e, if_pos rfl] at HS
            clear r1 hst hpre hit hzl e h4 hbw
            go_wp2_with fail
            go_quiet (fail)
            all_goals
              go_wp2_with fail
              go_ret
              exact ⟨ret_int (by rw [unhide HE, unhide HS]), _, by rw [unhide HW]; first | rfl | exact World.drewN_drewN ..⟩
        · obtain rfl : k = len := by omega
          have e := sgFrom_end zss k (by rw [unhide HL]; exact Nat.le_refl _)
          rw [e] at hpre
          have HP := hide hpre
          clear e hpre
          go_wp2_with fail
          go_ret
          exact ⟨ret_int (by rw [unhide HE, unhide HP]), n, unhide HW⟩

end Go.Proofs.YtifhaihddimdfaaGreatDoor

/- What is proved here: what the model's l5Number, l5Fault and HeaderFault answer: the fault of a header. -/
namespace Go.Proofs.YtifhaihddimdfaaGreatDoor
open Go.RowKit
set_option linter.unusedVariables false
set_option maxRecDepth 100000

theorem l5Number_any (v : Int) (w : World) : Calls Tryz.prog 80 #[.int .i64 v] w fun e w' => e = .returned (.bool (within v 0 1099511627776)) ∧ w' = w := by
  have HI := hide (in_any v 0 1099511627776 w)
  unfold within
  generalize decide (0 ≤ v ∧ v ≤ 1099511627776) = c at HI
  go_enter Tryz.func80, Tryz.ntmps80
  go_wp2_with fail
  refine (unhide HI).mono ?_
  rintro e w' ⟨rfl, rfl⟩
  go_wp2_with fail
  go_ret
  exact ⟨rfl, rfl⟩

set_option maxRecDepth 100000 in
set_option maxHeartbeats 8000000 in
theorem l5Fault_any (g : Nat) (x : HS) (h : Hd) (T : TypeId) (w : World) (sb : SBlk w g (hvals x h).toList T) (o : HOk w x h) (m : HSm h) :
    Calls Tryz.prog 37 #[.pointer (some ⟨g, 0, none⟩)] w fun e w' => e = .returned (.int .i64 (hdFlt h)) ∧ ∃ n, w' = w.drewN n := by
  obtain ⟨x0, x1, x2, x3, x4, x5, x6, x7, x8, x9, x10⟩ := hcells sb
  have HC := hide (hcells sb)
  obtain ⟨b1, e1⟩ : ∃ b, (((x.p.n : Nat) : Int) != 32) = b := ⟨_, rfl⟩
  obtain ⟨b2, e2⟩ : ∃ b, (((x.t.n : Nat) : Int) != 0) = b := ⟨_, rfl⟩
  obtain ⟨b3, e3⟩ : ∃ b, (((x.t.n : Nat) : Int) != 4) = b := ⟨_, rfl⟩
  obtain ⟨b4, e4⟩ : ∃ b, (((x.r.n : Nat) : Int) != 32) = b := ⟨_, rfl⟩
  obtain ⟨b5, e5⟩ : ∃ b, (((x.g.n : Nat) : Int) != 4) = b := ⟨_, rfl⟩
  obtain ⟨b6, e6⟩ : ∃ b, (((x.e.n : Nat) : Int) != 0) = b := ⟨_, rfl⟩
  obtain ⟨b7, e7⟩ : ∃ b, (((x.e.n : Nat) : Int) != 4) = b := ⟨_, rfl⟩
  have HL : Hid (hdLen h = (b1 || (b2 && b3) || b4 || b5 || (b6 && b7))) := by
    show _ = _
    unfold hdLen
    rw [o.p.1, o.t.1, o.r.1, o.g.1, o.e.1, e1, e2, e3, e4, e5, e6, e7]
  obtain ⟨c1, f1⟩ : ∃ c, within h.n1 0 1099511627776 = c := ⟨_, rfl⟩
  obtain ⟨c2, f2⟩ : ∃ c, within h.n2 0 1099511627776 = c := ⟨_, rfl⟩
  obtain ⟨c3, f3⟩ : ∃ c, within h.n3 0 9 = c := ⟨_, rfl⟩
  obtain ⟨c5, f5⟩ : ∃ c, within h.n5 0 2 = c := ⟨_, rfl⟩
  have HN : Hid (hdNum h = (c1 && c2 && c3 && c5)) := by
    show _ = _
    unfold hdNum
    rw [f1, f2, f3, f5]
  have D1 := hide (fun W => l5Number_any h.n1 W)
  have D2 := hide (fun W => l5Number_any h.n2 W)
  have D3 := hide (fun W => in_any h.n3 0 9 W)
  have D5 := hide (fun W => in_any h.n5 0 2 W)
  simp only [f1] at D1
  simp only [f2] at D2
  simp only [show decide (0 ≤ h.n3 ∧ h.n3 ≤ 9) = c3 from f3] at D3
  simp only [show decide (0 ≤ h.n5 ∧ h.n5 ≤ 2) = c5 from f5] at D5
  have HSG := hide (l5Signers_any x.s.a x.s.n x.s.c h.s w o.s (by have := o.s.1; have := m.s; omega))
  have HE : Hid (hdFlt h = if hdLen h = true then 1 else if hdNum h = false then 3 else if sgFlt h.s = 0 then coFlt h.k else sgFlt h.s) := rfl
  have HK := hide o.k
  have hkl : x.k.n ≤ 1048576 := by have := o.k.1; have := m.k; omega
  clear o m f1 f2 f3 f5 sb
  generalize sgFlt h.s = q at HSG HE
  go_enter Tryz.func37, Tryz.ntmps37
  go_upto_region 1 with fail
  go_cut [58] (fun s wx => s = .bool (b1 || (b2 && b3) || b4 || b5 || (b6 && b7)) ∧ wx = w)
  case first =>
    cases b1
    case true =>
      go_wp2_with fail
      go_meet
      exact ⟨rfl, rfl⟩
    cases b4
    case true =>
      cases b2
      · go_wp2_with fail
        go_meet
        exact ⟨by simp, rfl⟩
      cases b3
      all_goals
        go_wp2_with fail
        go_meet
        exact ⟨by simp, rfl⟩
    cases b5
    case true =>
      cases b2
      · go_wp2_with fail
        go_meet
        exact ⟨by simp, rfl⟩
      cases b3
      all_goals
        go_wp2_with fail
        go_meet
        exact ⟨by simp, rfl⟩
    cases b6
    · cases b2
      · go_wp2_with fail
        go_meet
        exact ⟨by simp, rfl⟩
      cases b3
      all_goals
        go_wp2_with fail
        go_meet
        exact ⟨by simp, rfl⟩
    cases b2
    · go_wp2_with fail
      go_meet
      exact ⟨by simp, rfl⟩
    cases b3
    all_goals
      go_wp2_with fail
      go_meet
      exact ⟨by simp, rfl⟩
  case rest =>
    obtain ⟨rfl, hwc⟩ := hcut
    rw [hwc]
    clear hwc e1 e2 e3 e4 e5 e6 e7
    generalize hlb : (b1 || (b2 && b3) || b4 || b5 || (b6 && b7)) = lb
    rw [hlb] at HL
    clear hlb
    cases lb
    case true =>
      go_wp2_with fail
      go_ret
      exact ⟨ret_int (by rw [unhide HE, unhide HL, if_pos rfl]), 0, rfl⟩
    go_wp2_with fail
    refine ((unhide D1) _).mono ?_
    rintro e w' ⟨rfl, rfl⟩
    cases c1
    · go_wp2_with fail
      go_ret
      exact ⟨ret_int (by rw [unhide HE, unhide HL, unhide HN]; simp), 0, rfl⟩
    go_wp2_with fail
    refine ((unhide D2) _).mono ?_
    rintro e w' ⟨rfl, rfl⟩
    cases c2
    · go_wp2_with fail
      go_ret
      exact ⟨ret_int (by rw [unhide HE, unhide HL, unhide HN]; simp), 0, rfl⟩
    go_wp2_with fail
    refine ((unhide D3) _).mono ?_
    rintro e w' ⟨rfl, rfl⟩
    cases c3
    · go_wp2_with fail
      go_ret
      exact ⟨ret_int (by rw [unhide HE, unhide HL, unhide HN]; simp), 0, rfl⟩
    go_wp2_with fail
    refine ((unhide D5) _).mono ?_
    rintro e w' ⟨rfl, rfl⟩
    cases c5
    · go_wp2_with fail
      go_ret
      exact ⟨ret_int (by rw [unhide HE, unhide HL, unhide HN]; simp), 0, rfl⟩
    go_wp2_with fail
    refine (unhide HSG).mono ?_
    rintro e w1 ⟨rfl, n1, rfl⟩
    by_cases hq : q = 0
    · subst hq
      have HE2 : Hid (hdFlt h = coFlt h.k) := by
        show _ = _
        rw [unhide HE, unhide HL, unhide HN]; simp
      clear HE HL HN D1 D2 D3 D5 HSG x0 x1 x2 x3 x4 x5 x6 x7 x8 x9
      by_cases h7 : 7 < x.k.n
      · have d7 : decide ((7 : Int) < (x.k.n : Int)) = true := decide_eq_true (by omega)
        go_wp2_with fail
        go_ret
        refine ⟨ret_int ?_, n1, rfl⟩
        rw [unhide HE2]; unfold coFlt; rw [if_pos (by rw [(unhide HK).1]; exact h7)]
      have d7 : decide ((7 : Int) < (x.k.n : Int)) = false := decide_eq_false (by omega)
      have HE3 : Hid (hdFlt h = coFrom h.k) := by
        show _ = _
        rw [unhide HE2]; unfold coFlt; rw [if_neg (by rw [(unhide HK).1]; exact h7)]
      clear HE2
      go_wp2_with fail
      go_loop [4] (fun i => ∃ k : Nat, k ≤ x.k.n ∧ i = .int .i64 k ∧ coFrom h.k = coFrom (h.k.drop k)) (fun i => x.k.n - (intOf i).toNat)
      case atStart => exact ⟨0, Nat.zero_le _, rfl, by simp⟩
      case round =>
        obtain ⟨k, hk, rfl, hpre⟩ := hrel
        by_cases hlt : k < x.k.n
        · obtain ⟨z, hit⟩ : ∃ z, h.k[k]? = some z := ⟨_, List.getElem?_eq_getElem (by rw [(unhide HK).1]; exact hlt)⟩
          have hst := coFrom_step h.k k z hit
          rw [← hpre] at hst
          obtain ⟨bb, off, hba, _, hcc⟩ := (unhide HK).at (by omega)
          obtain ⟨s1, m1, d1, p0, r1⟩ := hcc k z hit
          have hzl : z.length = m1 := r1.1
          rw [hzl] at hst
          have HS := hide hst
          have x10' := x10
          rw [hba] at x10'
          have i1 : (0 : Int) ≤ (k : Int) := by omega
          have i2 : (k : Int) < (x.k.n : Int) := by omega
          clear r1 hst hpre hit hzl hcc hba x10
          by_cases h8 : m1 = 8
          · have d8 : (((m1 : Nat) : Int) != 8) = false := by simp [h8]
            rw [if_pos h8] at HS
            clear h8
            go_wp2_with fail
            go_round
            case rel => exact ⟨k + 1, by omega, by go_num, unhide HS⟩
            case measure => simp [intOf]; omega
          · have d8 : (((m1 : Nat) : Int) != 8) = true := by simp; omega
            rw [if_neg h8] at HS
            clear h8
            go_wp2_with fail
            go_ret
            exact ⟨ret_int (by rw [unhide HE3, unhide HS]), n1, rfl⟩
        · obtain rfl : k = x.k.n := by omega
          have e := coFrom_end h.k x.k.n (by rw [(unhide HK).1]; exact Nat.le_refl _)
          rw [e] at hpre
          have HP := hide hpre
          clear e hpre
          go_wp2_with fail
          go_ret
          exact ⟨ret_int (by rw [unhide HE3, unhide HP]), n1, rfl⟩
    · have hne : (q != 0) = true := by simp [hq]
      have HE2 : Hid (hdFlt h = q) := by
        show _ = _
        rw [unhide HE, unhide HL, unhide HN, if_neg (by simp), if_neg (by simp), if_neg hq]
      clear HE HL HN D1 D2 D3 D5 HSG hq
      go_wp2_with fail
      go_ret
      exact ⟨ret_int (unhide HE2).symm, n1, rfl⟩

end Go.Proofs.YtifhaihddimdfaaGreatDoor

/- What is proved here: what the model's l5Hash and l5SealHash answer for a header without a fault: the hash of its bytes in new memory. -/
namespace Go.Proofs.YtifhaihddimdfaaGreatDoor
open Go.RowKit
set_option linter.unusedVariables false
set_option maxRecDepth 100000

set_option maxRecDepth 100000 in
set_option maxHeartbeats 8000000 in
theorem l5Hash_any (x : HS) (h : Hd) (w : World) (o : HOk w x h) (nn : HNil w x) (hf : hdFlt h = 0) :
    Calls Tryz.prog 57 #[.agg (hvals x h)] w fun e w' => ∃ d c, e = .returned (.slice (some ⟨d, 0, none⟩) 32 c) ∧
      w'.ownsRow w.heap.size 5 1 (.slice (some ⟨d, 0, none⟩) 32 c) 32 ((kcBytes (packL (noK h))).map (Value.int .u8)) ∧ Below w.heap.size w w' := by
  have hg := hdFlt_noK hf
  have kb := SBlk.new w (hvals x h) 26
  have bb := below_alloc w (.cells (hvals x h) 26)
  obtain ⟨W0, eb⟩ : ∃ W0, w.alloc (.cells (hvals x h) 26) = W0 := ⟨_, rfl⟩
  rw [eb] at kb bb
  have kb3 : SBlk (W0.setCell ⟨w.heap.size, 10, none⟩ (.slice none 0 0)) w.heap.size (hvals (xNoK x) (noK h)).toList 26 := kb.set 10 _
  have b3 := bb.setCell (p := ⟨w.heap.size, 10, none⟩) (Nat.le_refl _) (.slice none 0 0)
  have fz : W0.frozen? ⟨w.heap.size, 10, none⟩ = false := kb.free 10
  have cz := kb.cell 10
  simp only [hvals, List.getElem?_cons_zero, List.getElem?_cons_succ] at cz
  obtain ⟨W3, e3⟩ : ∃ W3, W0.setCell ⟨w.heap.size, 10, none⟩ (.slice none 0 0) = W3 := ⟨_, rfl⟩
  rw [e3] at kb3 b3
  have ok := (o.below b3 (Nat.le_refl _)).noK
  have D1 := hide (l5Pack_any w.heap.size (xNoK x) (noK h) _ W3 kb3 ok (nn.below b3 (Nat.le_refl _)).noK (good_of hg))
  have HRG := hide (packL_rng hg ok)
  have hl := packL_le hg
  have hpos := packL_pos (noK h)
  have HKC : Hid (∀ (W' : World) (g c : Nat), BRow W' (some ⟨g, 0, none⟩) (packL (noK h)).length (packL (noK h)) → Calls Tryz.prog 96 #[.slice (some ⟨g, 0, none⟩) (packL (noK h)).length c] W' fun e w' => ∃ d c', e = .returned (.slice (some ⟨d, 0, none⟩) 32 c') ∧ w'.ownsRow W'.heap.size 5 1 (.slice (some ⟨d, 0, none⟩) 32 c') 32 ((kcBytes (packL (noK h))).map (Value.int .u8)) ∧ Below W'.heap.size W' w') := fun W' g c hr => by
    have K := l2Keccak_any (some ⟨g, 0, none⟩) (packL (noK h)).length c (packL (noK h)) W' hr (fun e => by cases e) hl
    have e : kcBytes (packL (noK h)) = hashOf (spAt (padB (packL (noK h))) (padLen (packL (noK h)).length / 136)) := if_neg (by omega)
    rw [e]
    exact K
  clear o nn ok kb kb3 bb hf hg
  generalize kcBytes (packL (noK h)) = KB at HKC ⊢
  generalize packL (noK h) = PL at D1 HKC HRG hl hpos
  have HB3 := hide b3
  have E3 := hide e3
  have EB := hide eb
  clear b3 e3 eb
  unfold hvals at EB ⊢
  go_enter Tryz.func57, Tryz.ntmps57
  go_upto_region 1 with fail
  rw [unhide EB]
  clear EB
  go_upto_region 2 with fail
  rw [unhide E3]
  clear E3
  go_wp2_with fail
  refine (unhide D1).mono ?_
  rintro e w4 ⟨a4, c4, rfl, o4, b4⟩
  obtain ⟨g4, c', he⟩ := own_some o4 hpos
  simp only [Value.slice.injEq] at he
  obtain ⟨rfl, -, rfl⟩ := he
  have row4 := BRow.own o4 (unhide HRG)
  have HB4 := hide ((unhide HB3).trans (b4.mono (unhide HB3).size))
  clear b4 o4 fz cz
  go_wp2_with fail
  refine ((unhide HKC) _ g4 c4 row4).mono ?_
  rintro e w5 ⟨d5, c5, rfl, o5, b5⟩
  have hwz : w.heap.size ≤ w4.heap.size := (unhide HB4).size
  have HB5 := hide ((unhide HB4).trans (b5.mono hwz))
  go_wp2_with fail
  go_ret
  exact ⟨d5, c5, rfl, ownsRow_base o5 hwz, unhide HB5⟩

set_option maxRecDepth 100000 in
set_option maxHeartbeats 8000000 in
theorem l5SealHash_any (x : HS) (h : Hd) (w : World) (o : HOk w x h) (nn : HNil w x) (hf : hdFlt h = 0) :
    Calls Tryz.prog 83 #[.agg (hvals x h)] w fun e w' => ∃ d c, e = .returned (.slice (some ⟨d, 0, none⟩) 32 c) ∧
      w'.ownsRow w.heap.size 5 1 (.slice (some ⟨d, 0, none⟩) 32 c) 32 ((kcBytes (packL (noK (noE h)))).map (Value.int .u8)) ∧ Below w.heap.size w w' := by
  have kb := SBlk.new w (hvals x h) 26
  have bb := below_alloc w (.cells (hvals x h) 26)
  obtain ⟨W0, eb⟩ : ∃ W0, w.alloc (.cells (hvals x h) 26) = W0 := ⟨_, rfl⟩
  rw [eb] at kb bb
  have kb3 : SBlk (W0.setCell ⟨w.heap.size, 9, none⟩ (.slice none 0 0)) w.heap.size (hvals (xNoE x) (noE h)).toList 26 := kb.set 9 _
  have b3 := bb.setCell (p := ⟨w.heap.size, 9, none⟩) (Nat.le_refl _) (.slice none 0 0)
  have fz : W0.frozen? ⟨w.heap.size, 9, none⟩ = false := kb.free 9
  have cz := kb.cell 9
  simp only [hvals, List.getElem?_cons_zero, List.getElem?_cons_succ] at cz
  obtain ⟨W3, e3⟩ : ∃ W3, W0.setCell ⟨w.heap.size, 9, none⟩ (.slice none 0 0) = W3 := ⟨_, rfl⟩
  rw [e3] at kb3 b3
  have D1 := hide (l5Hash_any (xNoE x) (noE h) W3 (o.below b3 (Nat.le_refl _)).noE (nn.below b3 (Nat.le_refl _)).noE (hdFlt_noE hf))
  obtain ⟨y0, y1, y2, y3, y4, y5, y6, y7, y8, y9, y10⟩ := hcells kb3
  clear o nn kb kb3 bb hf
  generalize kcBytes (packL (noK (noE h))) = KB at D1 ⊢
  have HB3 := hide b3
  have E3 := hide e3
  have EB := hide eb
  clear b3 e3 eb
  unfold hvals at EB D1 ⊢
  go_enter Tryz.func83, Tryz.ntmps83
  go_upto_region 1 with fail
  rw [unhide EB]
  clear EB
  go_upto_region 2 with fail
  rw [unhide E3]
  clear E3
  go_wp2_with fail
  refine (unhide D1).mono ?_
  rintro e w5 ⟨d5, c5, rfl, o5, b5⟩
  have hwz : w.heap.size ≤ W3.heap.size := (unhide HB3).size
  have HB5 := hide ((unhide HB3).trans (b5.mono hwz))
  go_wp2_with fail
  go_ret
  exact ⟨d5, c5, rfl, ownsRow_base o5 hwz, unhide HB5⟩

end Go.Proofs.YtifhaihddimdfaaGreatDoor

/- What is proved here: what the model's l6Seal, l6Commit, SealOf and CommitOf answer: the code, and a seal or a commit in new memory. -/
namespace Go.Proofs.YtifhaihddimdfaaGreatDoor
open Go.RowKit
set_option linter.unusedVariables false
set_option maxRecDepth 100000

/-- l2Keccak over a row that is owned. -/
theorem l2Kc_own {B : Nat} (a : Option Addr) (n cap : Nat) (zs : List Int) (w : World) (h : w.ownsRow B 5 1 (.slice a n cap) n (zs.map (Value.int .u8))) (hr : ∀ x ∈ zs, 0 ≤ x ∧ x ≤ 255) (hn : n ≤ 1200) :
    Calls Tryz.prog 96 #[.slice a n cap] w fun e w' => ∃ d c', e = .returned (.slice (some ⟨d, 0, none⟩) 32 c') ∧ 32 ≤ c' ∧
      w'.ownsRow w.heap.size 5 1 (.slice (some ⟨d, 0, none⟩) 32 c') 32 ((kcBytes zs).map (Value.int .u8)) ∧ Below w.heap.size w w' := by
  have hl : zs.length = n := by have := h.1; simpa using this
  have e : kcBytes zs = hashOf (spAt (padB zs) (padLen n / 136)) := by unfold kcBytes; rw [if_neg (by omega), hl]
  rw [e]
  refine (l2Keccak_any a n cap zs w (BRow.own2 h hr) (own_cap h) hn).mono ?_
  rintro e w' ⟨d, c', rfl, ho, hb⟩
  refine ⟨d, c', rfl, ?_, ho, hb⟩
  rcases ho.2 with ⟨h', _⟩ | ⟨g, cap', cur, h', _, _, hnc, _⟩
  · simp at h'
  · simp only [Value.slice.injEq] at h'; rw [h'.2.2]; exact hnc

set_option maxHeartbeats 4000000 in
theorem l6Seal_any (a : Option Addr) (n c : Nat) (b : Option Addr) (m d : Nat) (xs ys : List Int) (w : World) (h : BRow w a n xs) (k : BRow w b m ys) (hc : a = none → c = 0) (hd : b = none → d = 0) (hn : n ≤ 600) (hm : m ≤ 600) :
    Calls Tryz.prog 82 #[.slice a n c, .slice b m d] w fun e w' => ∃ g c', e = .returned (.slice (some ⟨g, 0, none⟩) 4 c') ∧
      w'.ownsRow w.heap.size 5 1 (.slice (some ⟨g, 0, none⟩) 4 c') 4 ((sealL xs ys).map (Value.int .u8)) ∧ Below w.heap.size w w' := by
  obtain ⟨i0, hi, hz0, hz1, hz2⟩ := info_parts info5
  have D1 := hide (copy_any a n c xs w h hc (by omega))
  have HR := hide (fun (W : World) (hb : Below w.heap.size w W) => k.below hb (Nat.le_refl _))
  have HRG := hide (append_rng h.2.1 k.2.1)
  have HD := hide hd
  clear h k hc hd
  go_enter Tryz.func82, Tryz.ntmps82
  go_wp2_with fail
  refine (unhide D1).mono ?_
  rintro e w2 ⟨a2, c2, rfl, o2, b2⟩
  have r2 := (unhide HR) w2 b2
  go_wp2_with (at_builtin; refine wpList_append_brow _ rfl _ _ 22 rfl w.heap.size i0 Tryz.underlying22 hi hz0 hz1 hz2 _ n xs rfl o2 b m d ys rfl r2 (unhide HD) (by omega) b2.size ?_)
  intro a3 c3 w3 o3 g3
  have B3 : Below w.heap.size w w3 := b2.grown g3 b2.size (fun g e => (o2.lt g e).1)
  have D3 := hide (l2Kc_own a3 (n + m) c3 (xs ++ ys) w3 (by rw [List.map_append]; exact o3) (unhide HRG) (by omega))
  have HB3 := hide B3
  clear o3 B3 g3 r2 o2 b2 D1
  go_wp2_with fail
  refine (unhide D3).mono ?_
  rintro e w4 ⟨g4, c4, rfl, hc4, o4, b4⟩
  have HB4 := hide ((unhide HB3).trans (b4.mono (unhide HB3).size))
  have o5 := own_take (ownsRow_base o4 (unhide HB3).size) (m := 4) (by omega)
  rw [← List.map_take] at o5
  have HO5 := hide o5
  clear D3 o4 o5 b4
  go_wp2_with fail
  go_ret
  exact ⟨g4, c4, rfl, unhide HO5, unhide HB4⟩

set_option maxHeartbeats 4000000 in
theorem l6Commit_any (a : Option Addr) (n c : Nat) (b : Option Addr) (m d : Nat) (xs ys : List Int) (w : World) (h : BRow w a n xs) (k : BRow w b m ys) (hc : a = none → c = 0) (hd : b = none → d = 0) (hn : n ≤ 400) (hm : m ≤ 600) :
    Calls Tryz.prog 58 #[.slice a n c, .slice b m d] w fun e w' => ∃ a' c', e = .returned (.slice a' (n + 4) c') ∧
      w'.ownsRow w.heap.size 5 1 (.slice a' (n + 4) c') (n + 4) ((xs ++ markL xs ys).map (Value.int .u8)) ∧ Below w.heap.size w w' := by
  obtain ⟨i0, hi, hz0, hz1, hz2⟩ := info_parts info5
  have hxl := h.1
  have hyl := k.1
  have HC := hide (fun (W : World) (hb : Below w.heap.size w W) => copy_any a n c xs W (h.below hb (Nat.le_refl _)) hc (by omega))
  have HR := hide (fun (W : World) (hb : Below w.heap.size w W) => k.below hb (Nat.le_refl _))
  have HRG := hide (append_rng h.2.1 (one_rng k.2.1))
  have HMR := hide (markL_rng h.2.1 k.2.1)
  have HD := hide hd
  have HOne : Hid (∀ (W : World), BRow (W.alloc (.cells #[.int .u8 1] 5)) (some ⟨W.heap.size, 0, none⟩) 1 [1]) := fun W => ⟨rfl, fun x hx => by simp at hx; omega, fun e => (by cases e), fun y hy j hj => by
    cases hy
    obtain rfl : j = 0 := by omega
    rw [add_none, Nat.zero_add, World.cell?_alloc_new]
    rfl⟩
  have hke : xs ++ [1] ++ ys = xs ++ 1 :: ys := by simp
  have HKE := hide hke
  have hmk : markL xs ys = (kcBytes (xs ++ 1 :: ys)).take 4 := rfl
  have HMK := hide hmk
  clear h k hc hd hke hmk
  have D1 := hide ((unhide HC) w (Below.refl _ _))
  go_enter Tryz.func58, Tryz.ntmps58
  go_wp2_with fail
  refine (unhide D1).mono ?_
  rintro e w2 ⟨a2, c2, rfl, o2, b2⟩
  have bo := below_alloc w2 (.cells #[.int .u8 1] 5)
  have o2' := own_below o2 bo (Nat.le_refl _)
  have b2' := b2.trans (bo.mono b2.size)
  have r2 := (unhide HOne) w2
  have e2 : xs.map (Value.int .u8) = xs.map (Value.int .u8) := rfl
  go_wp2_with (at_builtin; refine wpList_append_brow _ rfl _ _ 22 rfl w.heap.size i0 Tryz.underlying22 hi hz0 hz1 hz2 _ n xs rfl o2' (some ⟨w2.heap.size, 0, none⟩) 1 1 [1] rfl r2 (fun e => by cases e) (by omega) b2'.size ?_)
  intro a3 c3 w3 o3 g3
  have B3 : Below w.heap.size w w3 := b2'.grown g3 b2'.size (fun g e => (o2'.lt g e).1)
  have o3 : w3.ownsRow w.heap.size 5 1 (.slice a3 (n + 1) c3) (n + 1) ((xs ++ [1]).map (Value.int .u8)) := by simpa using o3
  have r3 := (unhide HR) w3 B3
  clear e2 r2 o2' o2 b2 bo b2' D1
  go_wp2_with (at_builtin; refine wpList_append_brow _ rfl _ _ 22 rfl w.heap.size i0 Tryz.underlying22 hi hz0 hz1 hz2 _ (n + 1) (xs ++ [1]) rfl o3 b m d ys rfl r3 (unhide HD) (by omega) B3.size ?_)
  intro a4 c4 w4 o4 g4
  have B4 : Below w.heap.size w w4 := B3.grown g4 B3.size (fun g e => (o3.lt g e).1)
  have o4 : w4.ownsRow w.heap.size 5 1 (.slice a4 (n + 1 + m) c4) (n + 1 + m) ((xs ++ 1 :: ys).map (Value.int .u8)) := by simpa using o4
  have HO4 := hide o4
  have HB4 := hide B4
  have D4 := hide ((unhide HC) w4 B4)
  clear o4 g4 B4 r3 o3 B3 g3 HC HR
  go_wp2_with fail
  refine (unhide D4).mono ?_
  rintro e w5 ⟨a5, c5, rfl, o5, b5⟩
  have hz45 : w4.heap.size ≤ w5.heap.size := b5.size
  have o45 := own_below (unhide HO4) b5 (Nat.le_refl _)
  have D5 := hide (l2Kc_own a4 (n + 1 + m) c4 (xs ++ 1 :: ys) w5 o45 (unhide HRG) (by omega))
  have HB5 := hide ((unhide HB4).trans (b5.mono (unhide HB4).size))
  have HO5 := hide (ownsRow_base o5 (unhide HB4).size)
  clear D4 o5 b5 o45 HO4
  go_wp2_with fail
  refine (unhide D5).mono ?_
  rintro e w6 ⟨g6, c6, rfl, hc6, o6, b6⟩
  have B6 := (unhide HB5).trans (b6.mono (unhide HB5).size)
  have o7 := own_take o6 (m := 4) (by omega)
  rw [← List.map_take, ← unhide HMK] at o7
  have r7 := BRow.own o7 (unhide HMR)
  have O6 := own_below (unhide HO5) b6 (Nat.le_refl _)
  clear D5 o6 o7 b6 HO5
  go_wp2_with (at_builtin; refine wpList_append_brow _ rfl _ _ 22 rfl w.heap.size i0 Tryz.underlying22 hi hz0 hz1 hz2 _ n xs rfl O6 (some ⟨g6, 0, none⟩) 4 c6 (markL xs ys) rfl r7 (fun e => by cases e) (by omega) B6.size ?_)
  intro a8 c8 w8 o8 g8
  have B8 : Below w.heap.size w w8 := B6.grown g8 B6.size (fun g e => (O6.lt g e).1)
  have HO8 := hide o8
  have HB8 := hide B8
  clear o8 B8 g8 O6 r7 B6
  go_wp2_with fail
  go_ret
  exact ⟨a8, c8, rfl, by simpa using unhide HO8, unhide HB8⟩

end Go.Proofs.YtifhaihddimdfaaGreatDoor

/- What is proved here: what the model's l6Committers answers for a header without a fault: who committed, in memory of its own, and a code. -/
namespace Go.Proofs.YtifhaihddimdfaaGreatDoor
open Go.RowKit
set_option linter.unusedVariables false
set_option maxRecDepth 100000

theorem hasN_take (zss : List (List Int)) (z : List Int) (j : Nat) : hasN (zss.take j) z j = hasN zss z j := by
  unfold hasN
  rw [List.take_take, Nat.min_self]

set_option maxHeartbeats 8000000 in
theorem l6Committers_any (g : Nat) (x : HS) (h : Hd) (T : TypeId) (w : World) (sb : SBlk w g (hvals x h).toList T) (o : HOk w x h) (nn : HNil w x) (bc : BsCap w x.k.a x.k.n) (hf : hdFlt h = 0) :
    Calls Tryz.prog 66 #[.pointer (some ⟨g, 0, none⟩)] w fun e w' => ∃ (s : Sl) (d : Nat → Nat), e = .returned (.tuple #[.slice s.a s.n s.c, .int .i64 (coCode h)]) ∧ CS w' w.heap.size d 6 8 s (coAns h) ∧ Below w.heap.size w w' := by
  obtain ⟨i0, hi, hz0, hz1, hz2⟩ := info_parts infoSB
  have ba0 := below_alloc w (.cells #[] 22)
  have o0 : (w.alloc (.cells #[] 22)).ownsRow w.heap.size 22 1 (.slice (some ⟨w.heap.size, 0, none⟩) 0 0) 0 (([] : List Sl).map Sl.v) := World.ownsRow_lit w #[] 0 (Nat.le_refl _) (by unfold maxLen; omega) rfl
  have hc0 : CS (w.alloc (.cells #[] 22)) w.heap.size (fun _ => 6) 6 8 ⟨some ⟨w.heap.size, 0, none⟩, 0, 0⟩ [] := ⟨rfl, [], rfl, o0, (fun _ _ => rfl), fun i e z he => by simp at he⟩
  have HRR := hide (fun (W : World) (hb : Below w.heap.size w W) => hcells (sb.below hb sb.lt))
  obtain ⟨x0, x1, x2, x3, x4, x5, x6, x7, x8, x9, x10⟩ := (unhide HRR) _ ba0
  have D1 := hide (l5Hash_any x h _ (o.below ba0 (Nat.le_refl _)) (nn.below ba0 (Nat.le_refl _)) hf)
  have e2 : (hash1 h).length = 32 := kcBytes_good (packL_le (hdFlt_noK hf))
  have hhr : ∀ y ∈ hash1 h, 0 ≤ y ∧ y ≤ 255 := kcBytes_range _ (packL_rng (hdFlt_noK hf) o.noK)
  have HHR := hide hhr
  have HH2 := hide e2
  have HK := hide (fun (W : World) (hb : Below w.heap.size w W) => And.intro (o.k.below hb (Nat.le_refl _)) (bc.below hb (Nat.le_refl _)))
  have HKZ : Hid (∀ z ∈ h.k, z.length = 8) := fun z hz => by
    have hk : coFlt h.k = 0 := by
      unfold hdFlt at hf
      split at hf
      · omega
      · split at hf
        · omega
        · split at hf
          · exact hf
          · rename_i q; exact absurd hf q
    unfold coFlt at hk
    split at hk
    · omega
    · exact coFrom_zero h.k hk z hz
  have HKL := hide o.k.1
  have HK7 : Hid (x.k.n ≤ 7) := by show _ ≤ _; rw [← o.k.1]; exact (good_of hf).k
  have HCC : Hid (coCode h = if coAll h h.k = true then (if twiceN (coAd h.k) h.k.length = true then 6 else 0) else 7) := if_pos hf
  have HAA : Hid (coAns h = if coAll h h.k = true ∧ twiceN (coAd h.k) h.k.length = false then coAd h.k else []) := by show _ = _; unfold coAns; simp only [hf, true_and]
  have HC0 := hide hc0
  have HBA := hide ba0
  clear o nn bc hf sb ba0 o0 hc0 e2 hhr
  generalize coCode h = CC at HCC ⊢
  generalize coAns h = AA at HAA ⊢
  unfold hvals at D1
  go_enter Tryz.func66, Tryz.ntmps66
  go_wp2_with fail
  refine (unhide D1).mono ?_
  rintro e w1 ⟨dh, ch, rfl, oh, bh⟩
  obtain ⟨d2, hd2⟩ : ∃ d2 : Nat → Nat, d2 = fun q => if (w.alloc (.cells #[] 22)).heap.size ≤ q then 12 else 6 := ⟨_, rfl⟩
  have HOH : Hid (CB w1 w.heap.size d2 12 ⟨some ⟨dh, 0, none⟩, 32, ch⟩ (hash1 h)) := by show CB _ _ _ _ _ _; rw [hd2]; exact CB.new (d := fun _ => 6) (unhide HH2).symm (unhide HHR) oh (unhide HBA).size
  have HC1 := hide (((unhide HC0).recol (d' := d2) (fun q hq => by rw [hd2]; exact if_neg (by omega))).below bh (Nat.le_refl _))
  have HB1 := hide ((unhide HBA).trans (bh.mono (unhide HBA).size))
  have HCA : Hid (coAll h (h.k.take 0) = true) := rfl
  have hw1 : w.heap.size ≤ w1.heap.size := (unhide HB1).size
  clear x0 x1 x2 x3 x4 x5 x6 x7 x8 x9 x10 D1 oh bh HC0 HBA hd2
  go_wp2_with fail
  go_loopw [4, 6] (fun c i wr => ∃ (k : Nat) (u : Sl) (d : Nat → Nat), k ≤ x.k.n ∧ i = .int .i64 k ∧ c = .slice u.a u.n u.c ∧ coAll h (h.k.take k) = true ∧ CS wr w.heap.size d 6 8 u ((coAd h.k).take k) ∧ CB wr w.heap.size d 12 ⟨some ⟨dh, 0, none⟩, 32, ch⟩ (hash1 h) ∧ Below w.heap.size w wr) (fun _ i _ => x.k.n - (intOf i).toNat)
  case atStart => exact ⟨0, ⟨some ⟨w.heap.size, 0, none⟩, 0, 0⟩, _, Nat.zero_le _, rfl, rfl, unhide HCA, unhide HC1, unhide HOH, unhide HB1⟩
  case round =>
    obtain ⟨k, u, d, hk, rfl, rfl, hca, hcs, hch, hbr⟩ := hrel
    have hhs := hch.brow
    clear HCA HC1 HOH HB1
    have hn7 := unhide HK7
    have hwr : w.heap.size ≤ wr.heap.size := hbr.size
    obtain ⟨krow, kcap⟩ := (unhide HK) wr hbr
    obtain ⟨x0, x1, x2, x3, x4, x5, x6, x7, x8, x9, x10⟩ := (unhide HRR) wr hbr
    clear x0 x1 x2 x3 x4 x5 x6 x7 x8 x9
    by_cases hlt : k < x.k.n
    · obtain ⟨z, hit⟩ : ∃ z, h.k[k]? = some z := ⟨_, List.getElem?_eq_getElem (by rw [unhide HKL]; exact hlt)⟩
      obtain ⟨b0, off, hxa, _, hat⟩ := krow.at (by omega)
      obtain ⟨s1, n1, d1, c0, r1⟩ := hat k z hit
      obtain ⟨s1', n1', d1', c0', hcp⟩ := kcap b0 off hxa k hlt
      rw [c0] at c0'
      simp only [Option.some.injEq, Value.slice.injEq] at c0'
      obtain ⟨rfl, rfl, rfl⟩ := c0'
      have hz8 := (unhide HKZ) z (List.mem_of_getElem? hit)
      have hn1 : n1 = 8 := by have := r1.1; omega
      subst hn1
      obtain ⟨zb, zo, rfl, _, _⟩ := r1.at (by omega)
      have hz4 : (z.take 4).length = 4 := by rw [List.length_take]; omega
      have hzr : ∀ y ∈ z.take 4, 0 ≤ y ∧ y ≤ 255 := fun y hy => r1.2.1 y (List.mem_of_mem_take hy)
      rw [hxa] at x10
      have HHD : Hid (∀ W, Below wr.heap.size wr W → W.cell? ⟨g, 10, none⟩ = some (.slice (some ⟨b0, off, none⟩) x.k.n x.k.c) ∧ W.cell? ⟨b0, off + k, none⟩ = some (.slice (some ⟨zb, zo, none⟩) 8 d1)) := fun W hb => ⟨(hb.cell (lt_of_cell x10)).trans x10, (hb.cell (lt_of_cell c0)).trans c0⟩
      have HCO : Hid (∀ W, Below wr.heap.size wr W → Calls Tryz.prog 58 #[.slice (some ⟨zb, zo, none⟩) 4 d1, .slice (some ⟨dh, 0, none⟩) 32 ch] W fun e w' => ∃ a3 c3, e = .returned (.slice a3 8 c3) ∧ BRow w' a3 8 (z.take 4 ++ markL (z.take 4) (hash1 h)) ∧ Below wr.heap.size wr w') := fun W hb => by
        refine (l6Commit_any (some ⟨zb, zo, none⟩) 4 d1 (some ⟨dh, 0, none⟩) 32 ch (z.take 4) (hash1 h) W ((r1.below hb (Nat.le_refl _)).take (by omega)) (hhs.below hb (Nat.le_refl _)) (fun e => by cases e) (fun e => by cases e) (by omega) (by omega)).mono ?_
        rintro e w' ⟨a3, c3, rfl, ho3, hb'⟩
        exact ⟨a3, c3, rfl, BRow.own2 ho3 (append_rng hzr (markL_rng hzr (unhide HHR))), hb.trans (hb'.mono hb.size)⟩
      have HSM : Hid (∀ W a3 c3, Below wr.heap.size wr W → BRow W a3 8 (z.take 4 ++ markL (z.take 4) (hash1 h)) → Calls Tryz.prog 87 #[.slice (some ⟨zb, zo, none⟩) 8 d1, .slice a3 8 c3] W fun e w' => e = .returned (.bool (coOk h z)) ∧ Below wr.heap.size wr w') := fun W a3 c3 hb hr => by
        refine (l1Same_any (some ⟨zb, zo, none⟩) a3 8 d1 8 c3 z _ W (r1.below hb (Nat.le_refl _)) hr).mono ?_
        rintro e w' ⟨rfl, rfl⟩
        exact ⟨rfl, hb⟩
      have HCP : Hid (∀ W, Below wr.heap.size wr W → Calls Tryz.prog 65 #[.slice (some ⟨zb, zo, none⟩) 4 d1] W fun e w' => ∃ (a' : Option Addr) (cap' : Nat), e = .returned (.slice a' 4 cap') ∧ w'.ownsRow W.heap.size 5 1 (.slice a' 4 cap') 4 ((z.take 4).map (Value.int .u8)) ∧ Below W.heap.size W w') := fun W hb => copy_any (some ⟨zb, zo, none⟩) 4 d1 (z.take 4) W ((r1.below hb (Nat.le_refl _)).take (by omega)) (fun e => by cases e) (by omega)
      have hs := coAll_succ h h.k k z hit
      rw [hca, Bool.true_and] at hs
      have HS := hide hs
      have HBD := hide (coAll_bad h h.k k z hit)
      have HTS := hide (coAd_snoc h.k k z hit)
      have htl : ((coAd h.k).take k).length = k := by rw [List.length_take, coAd_length]; have := unhide HKL; omega
      have htn : u.n = k := by rw [hcs.1]; exact htl
      have HTL := hide htl
      have HTN := hide htn
      have HZR := hide hzr
      have HZ4 := hide hz4
      have HCS := hide hcs
      have HHS := hide hch
      have HB := hide hbr
      generalize z.take 4 ++ markL (z.take 4) (hash1 h) = CM at HCO HSM
      generalize coOk h z = t at HSM HS HBD
      have k1 : (0 : Int) ≤ (k : Int) := by omega
      have k2 : (k : Int) < (x.k.n : Int) := by omega
      have hd4 : 4 ≤ d1 := by omega
      clear hs hat r1 hit hca hbr krow kcap hz8 hz4 hzr hcs hhs hch htl htn hxa
      go_wp2_with fail
      go_region_held3 (fun W => W.cell? ⟨g, 10, none⟩ = some (.slice (some ⟨b0, off, none⟩) x.k.n x.k.c) ∧ W.cell? ⟨b0, off + k, none⟩ = some (.slice (some ⟨zb, zo, none⟩) 8 d1))
        (exact (unhide HHD) _ (by first | assumption | exact Below.refl wr.heap.size wr | exact (Below.refl wr.heap.size wr).drew | exact below_drewN (Below.refl wr.heap.size wr) _ | exact below_drewN (by assumption) _))
        (first
          | (go_at_call 58; refine ((unhide HCO) _ (by first | exact (Below.refl wr.heap.size wr).drew | exact below_drewN (Below.refl wr.heap.size wr) _)).mono ?_; rintro e w3 ⟨a3, c3, rfl, r3, K3⟩)
          | (go_at_call 87; refine ((unhide HSM) _ a3 c3 K3 r3).mono ?_; rintro e w5 ⟨rfl, K5⟩))
      all_goals
        have HCS5 := hide ((unhide HCS).below K5 (Nat.le_refl _))
        have HHS5 := hide ((unhide HHS).below K5 (Nat.le_refl _))
        have HB5 := hide ((unhide HB).trans (K5.mono hwr))
        have hw5 : w.heap.size ≤ w5.heap.size := (unhide HB5).size
        have DA := hide ((unhide HCP) w5 K5)
        clear HHD HCO HSM HCP K3 K5 r3 HCS HHS HB c0 x10
        cases t
        · have hcf := (unhide HBD) rfl
          have HCV : Hid (CC = 7) := by show _ = _; rw [unhide HCC, if_neg (by rw [hcf]; simp)]
          have HAV : Hid (AA = []) := by show _ = _; rw [unhide HAA, if_neg (fun q => by rw [hcf] at q; cases q.1)]
          clear HBD HS hcf HCC HAA
          go_wp2_with fail
          go_ret2
          exact ⟨⟨none, 0, 0⟩, fun _ => 0, by rw [unhide HCV]; rfl, by rw [unhide HAV]; exact CS.nil _ _ _ _ _, unhide HB5⟩
        · clear HBD
          go_wp2_with fail
          refine (unhide DA).mono ?_
          rintro e w6 ⟨a2, c2, rfl, o2, b2⟩
          have ba := below_alloc w6 (.cells #[.slice a2 4 c2] 22)
          have hs2 : w5.heap.size ≤ w6.heap.size := b2.size
          obtain ⟨d', hd'⟩ : ∃ d' : Nat → Nat, d' = fun g => if w5.heap.size ≤ g then 8 + 3 * k else d g := ⟨_, rfl⟩
          have cz : CB w6 w.heap.size d' (8 + 3 * k) ⟨a2, 4, c2⟩ (z.take 4) := by rw [hd']; exact CB.new (unhide HZ4).symm (unhide HZR) o2 hw5
          have cs2 := ((unhide HCS5).recol (d' := d') (fun g hg => by rw [hd']; exact if_neg (by omega))).below b2 (Nat.le_refl _)
          obtain ⟨h1, es, h2, h3, h4, h5⟩ := cs2.below ba (Nat.le_refl _)
          have HCZ := hide (cz.below ba (Nat.le_refl _))
          have H1 := hide h1
          have H2 := hide h2
          have H4 := hide h4
          have H5 := hide h5
          have bb3 := b2.trans (ba.mono b2.size)
          have B3 := (unhide HB5).trans (bb3.mono hw5)
          have HHS6 := hide (((unhide HHS5).recol (d' := d') (fun g hg => by rw [hd']; exact if_neg (by omega))).below bb3 (Nat.le_refl _))
          have hsz3 : w.heap.size ≤ (w6.alloc (.cells #[.slice a2 4 c2] 22)).heap.size := B3.size
          have hnk : u.n ≤ 1048576 := by have := unhide HTN; omega
          clear h1 h2 h4 h5 cz cs2
          go_wp2_with (at_builtin; refine wpList_append_own_at _ rfl _ _ 24 rfl w.heap.size 22 i0 (.slice none 0 0) 1 24 Tryz.underlying24 hi hz0 hz1 hz2 rfl (by decide) _ _ _ rfl h3 ⟨w6.heap.size, 0, none⟩ 1 1 [.slice a2 4 c2] rfl rfl ?c1 ?c2 ?c3 ?c4 ?c5 ?_)
          case c1 => exact one_at' _ _ _
          case c2 => intro u hu; simp at hu; subst hu; rfl
          case c3 => unfold maxLen; omega
          case c4 => omega
          case c5 => exact hsz3
          intro v' w7 hown2 hgrow _ hblk
          obtain ⟨a6, c6, hv6⟩ := own_shape hown2
          subst hv6
          have SN := CS.mkSnoc (r := 6) (c := 8) (fun i => by omega) hsz3 (unhide H1) (unhide H2) h3 (unhide H4) (unhide H5) (by rw [unhide HTL]; exact unhide HCZ) hown2 hgrow (by rw [show (w6.alloc (.cells #[.slice a2 4 c2] 22)).heap.size = w6.heap.size + 1 by simp]; exact hblk)
          rw [← unhide HTS] at SN
          have B6 : Below w.heap.size w w7 := B3.grown hgrow hsz3 (fun g e => (h3.lt g e).1)
          have HS6 := hide SN.1
          have HB6 := hide B6
          have HH6 := hide (((unhide HHS6).recol (fun g hg => if_neg (by omega))).only SN.2 (by omega))
          clear SN B6 hown2 hgrow hblk H1 H2 h3 H4 H5 HCZ B3 ba o2 b2 DA HCS5 HHS5 HB5 hd' bb3 HHS6
          go_wp2_with fail
          refine And.intro ?inv ?measure
          case measure => simp [intOf]; omega
          case inv =>
            have R : ∀ v, v = Value.int .i64 ((k + 1 : Nat) : Int) → ∃ (k' : Nat) (u' : Sl) (d : Nat → Nat), k' ≤ x.k.n ∧ v = .int .i64 k' ∧ Value.slice a6 (u.n + 1) c6 = .slice u'.a u'.n u'.c ∧ coAll h (h.k.take k') = true ∧ CS w7 w.heap.size d 6 8 u' ((coAd h.k).take k') ∧ CB w7 w.heap.size d 12 ⟨some ⟨dh, 0, none⟩, 32, ch⟩ (hash1 h) ∧ Below w.heap.size w w7 := fun v hv => ⟨k + 1, ⟨a6, u.n + 1, c6⟩, _, by omega, hv, rfl, unhide HS, unhide HS6, unhide HH6, unhide HB6⟩
            first
              | exact R _ (by go_num)
              | ((repeat apply Exists.intro); exact ⟨R _ (by go_num), rfl⟩)
    · obtain rfl : k = x.k.n := by omega
      have et : (coAd h.k).take x.k.n = coAd h.k := List.take_of_length_le (by rw [coAd_length, unhide HKL]; exact Nat.le_refl _)
      rw [et] at hcs
      have et2 : h.k.take x.k.n = h.k := List.take_of_length_le (by rw [unhide HKL]; exact Nat.le_refl _)
      rw [et2] at hca
      have hun : u.n = h.k.length := by rw [hcs.1, coAd_length]
      have hub : BsRow wr u.a u.n (coAd h.k) := hcs.bsrow (fun z hz => by
        obtain ⟨y, hy, rfl⟩ := List.mem_map.1 hz
        have := (unhide HKZ) y hy
        unfold maxLen
        rw [List.length_take]; omega)
      have huc : u.n ≤ u.c := by
        obtain ⟨_, es, _, h3, _, _⟩ := hcs
        rcases h3.2 with ⟨h', _⟩ | ⟨g, cap', cur, h', _, _, hnc, _⟩
        · simp only [Value.slice.injEq] at h'; omega
        · simp only [Value.slice.injEq] at h'; rw [h'.2.2]; exact hnc
      obtain ⟨ua, un, uc⟩ := u
      simp only at hun hub huc
      have hl7 : h.k.length ≤ 7 := by have := unhide HKL; omega
      subst hun
      have HUB := hide hub
      have HTM := hide (twiceN_mono (coAd h.k))
      have HCL := hide (coAd_length h.k)
      have HCS := hide hcs
      have HB := hide hbr
      have HC1 : Hid (CC = if twiceN (coAd h.k) h.k.length = true then 6 else 0) := by show _ = _; rw [unhide HCC, if_pos hca]
      have HA1 : Hid (AA = if twiceN (coAd h.k) h.k.length = false then coAd h.k else []) := by show _ = _; rw [unhide HAA]; simp only [hca, true_and]
      clear et et2 hcs hub hbr hca hhs hch krow kcap HCC HAA
      obtain ⟨w8, rfl⟩ : ∃ W, W = wr := ⟨wr, rfl⟩
      go_wp2_with fail
      go_loopw [8] (fun i wr' => ∃ j : Nat, j ≤ h.k.length ∧ i = .int .i64 j ∧ twiceN (coAd h.k) j = false ∧ Below w8.heap.size w8 wr') (fun i _ => h.k.length - (intOf i).toNat)
      case atStart => exact ⟨0, Nat.zero_le _, rfl, rfl, Below.refl _ _⟩
      case round =>
        obtain ⟨j, hj, rfl, hfz, hb8⟩ := hrel
        by_cases hlt2 : j < h.k.length
        · obtain ⟨z, hit⟩ : ∃ z, (coAd h.k)[j]? = some z := ⟨_, List.getElem?_eq_getElem (by rw [unhide HCL]; exact hlt2)⟩
          have hub8 := (unhide HUB).below hb8 (Nat.le_refl _)
          obtain ⟨b0, off, rfl, _, hat⟩ := hub8.at (by omega)
          obtain ⟨s1, n1, d1, c0, r1⟩ := hat j z hit
          have hgd : (coAd h.k).getD j [] = z := by rw [List.getD_eq_getElem?_getD, hit]; rfl
          have HT1 : Hid (twiceN (coAd h.k) (j + 1) = hasN (coAd h.k) z j) := by show _ = _; unfold twiceN; rw [hfz, hgd, Bool.false_or]
          have HHD : Hid (∀ W, Below wr.heap.size wr W → W.cell? ⟨b0, off + j, none⟩ = some (.slice s1 n1 d1)) := fun W hb => (hb.cell (lt_of_cell c0)).trans c0
          have HD : Hid (∀ W, Below wr.heap.size wr W → Calls Tryz.prog 103 #[.slice (some ⟨b0, off, none⟩) j uc, .slice s1 n1 d1] W fun e w' => e = .returned (.bool (twiceN (coAd h.k) (j + 1))) ∧ Below wr.heap.size wr w') := fun W hb => by
            have D := l6Has_any (some ⟨b0, off, none⟩) j uc ((coAd h.k).take j) s1 n1 d1 z W ((hub8.below hb (Nat.le_refl _)).take (by omega)) (r1.below hb (Nat.le_refl _)) (by omega)
            rw [hasN_take, ← unhide HT1] at D
            refine D.mono ?_
            rintro e w' ⟨rfl, rfl⟩
            exact ⟨rfl, hb⟩
          have HTW := hide (fun (q : twiceN (coAd h.k) (j + 1) = true) => (unhide HTM) (j + 1) h.k.length (by omega) q)
          obtain ⟨t, et⟩ : ∃ t, t = twiceN (coAd h.k) (j + 1) := ⟨_, rfl⟩
          have ET := hide et
          rw [← et] at HD
          have k1 : (0 : Int) ≤ (j : Int) := by omega
          have k2 : (j : Int) < (h.k.length : Int) := by omega
          have k3 : (j : Int) ≤ (uc : Int) := by omega
          have k4 : j ≤ uc := by omega
          have HB8 := hide hb8
          clear hat r1 hit hgd hfz et HT1 hub8 hb8
          go_wp2_with fail
          go_region_held3 (fun W => W.cell? ⟨b0, off + j, none⟩ = some (.slice s1 n1 d1))
            (exact (unhide HHD) _ (by first | assumption | exact Below.refl wr.heap.size wr | exact (Below.refl wr.heap.size wr).drew | exact below_drewN (Below.refl wr.heap.size wr) _ | exact below_drewN (by assumption) _))
            (first | (go_at_call 103; refine ((unhide HD) _ (by first | exact (Below.refl wr.heap.size wr).drew | exact below_drewN (Below.refl wr.heap.size wr) _)).mono ?_; rintro e w5 ⟨rfl, K5⟩))
          all_goals
            have HN := hide ((unhide HB8).trans (K5.mono (unhide HB8).size))
            clear HHD HD K5 c0
            cases t
            · go_wp2_with fail
              refine And.intro ?inv ?measure
              case measure => simp [intOf]; omega
              case inv =>
                have R : ∀ v, v = Value.int .i64 ((j + 1 : Nat) : Int) → ∃ j' : Nat, j' ≤ h.k.length ∧ v = .int .i64 j' ∧ twiceN (coAd h.k) j' = false ∧ Below w8.heap.size w8 w5 := fun v hv => ⟨j + 1, by omega, hv, (unhide ET).symm, unhide HN⟩
                first
                  | exact R _ (by go_num)
                  | ((repeat apply Exists.intro); exact ⟨R _ (by go_num), rfl⟩)
            · have hh := (unhide HTW) (unhide ET).symm
              have HCV : Hid (CC = 6) := by show _ = _; rw [unhide HC1, if_pos hh]
              have HAV : Hid (AA = []) := by show _ = _; rw [unhide HA1, if_neg (by rw [hh]; simp)]
              have HBF := hide ((unhide HB).trans ((unhide HN).mono (unhide HB).size))
              clear hh
              go_wp2_with fail
              go_ret2
              exact ⟨⟨none, 0, 0⟩, fun _ => 0, by rw [unhide HCV]; rfl, by rw [unhide HAV]; exact CS.nil _ _ _ _ _, unhide HBF⟩
        · obtain rfl : j = h.k.length := by omega
          have HCV : Hid (CC = 0) := by show _ = _; rw [unhide HC1, if_neg (by rw [hfz]; simp)]
          have HAV : Hid (AA = coAd h.k) := by show _ = _; rw [unhide HA1, if_pos hfz]
          have HCS8 := hide ((unhide HCS).below hb8 (Nat.le_refl _))
          have HBF := hide ((unhide HB).trans (hb8.mono (unhide HB).size))
          clear hfz hb8
          go_wp2_with fail
          go_ret2
          exact ⟨⟨ua, h.k.length, uc⟩, d, by rw [unhide HCV]; rfl, by rw [unhide HAV]; exact unhide HCS8, unhide HBF⟩

end Go.Proofs.YtifhaihddimdfaaGreatDoor

/- What is proved here: what the model's CommittersOf answers: the fault of a header, or who committed, in memory of its own, and a code. -/
namespace Go.Proofs.YtifhaihddimdfaaGreatDoor
open Go.RowKit
set_option linter.unusedVariables false
set_option maxRecDepth 100000

set_option maxHeartbeats 8000000 in
theorem specCommitters_any (x : HS) (h : Hd) (w : World) (o : HOk w x h) (nn : HNil w x) (bc : BsCap w x.k.a x.k.n) (m : HSm h) :
    Calls Tryz.prog 24 #[.agg (hvals x h)] w fun e w' => ∃ (s : Sl) (d : Nat → Nat), e = .returned (.agg #[.int .i64 (coCode h), .slice s.a s.n s.c]) ∧ CS w' w.heap.size d 6 8 s (coAns h) ∧ Below w.heap.size w w' := by
  have kb := SBlk.new w (hvals x h) 26
  have bb := below_alloc w (.cells (hvals x h) 26)
  have zb : (w.alloc (.cells (hvals x h) 26)).heap.size = w.heap.size + 1 := by simp
  obtain ⟨Wa, ea⟩ : ∃ W, w.alloc (.cells (hvals x h) 26) = W := ⟨_, rfl⟩
  rw [ea] at kb bb zb
  have kr := SBlk.new Wa #[.int .i64 0, .slice none 0 0] 42
  replace kb := kb.next (.cells #[.int .i64 0, .slice none 0 0] 42)
  replace bb := bb.trans ((below_alloc Wa (.cells #[.int .i64 0, .slice none 0 0] 42)).mono bb.size)
  have z1 : (Wa.alloc (.cells #[.int .i64 0, .slice none 0 0] 42)).heap.size = w.heap.size + 2 := by simp; omega
  rw [zb] at kr
  obtain ⟨W1, eb⟩ : ∃ W, Wa.alloc (.cells #[.int .i64 0, .slice none 0 0] 42) = W := ⟨_, rfl⟩
  rw [eb] at kr kb bb z1
  have D1 := hide (l5Fault_any w.heap.size x h _ W1 kb (o.below bb (Nat.le_refl _)) m)
  have HKR := hide (fun (W : World) (hb : Below (w.heap.size + 2) W1 W) => kr.below hb (by omega))
  have HCM : Hid (hdFlt h = 0 → ∀ W, Below (w.heap.size + 2) W1 W → Calls Tryz.prog 66 #[.pointer (some ⟨w.heap.size, 0, none⟩)] W fun e w' => ∃ (s : Sl) (d : Nat → Nat), e = .returned (.tuple #[.slice s.a s.n s.c, .int .i64 (coCode h)]) ∧ CS w' (w.heap.size + 2) d 6 8 s (coAns h) ∧ Below (w.heap.size + 2) W1 w') := fun hf W hb => by
    have b1 := bb.trans (hb.mono (by omega))
    have hz := hb.size
    refine (l6Committers_any w.heap.size x h _ W (kb.below hb (by omega)) (o.below b1 (Nat.le_refl _)) (nn.below b1 (Nat.le_refl _)) (bc.below b1 (Nat.le_refl _)) hf).mono ?_
    rintro e w' ⟨s, d, rfl, hc, hb'⟩
    exact ⟨s, d, rfl, hc.base (by omega), hb.trans (hb'.mono (by omega))⟩
  have HC0 : Hid (hdFlt h ≠ 0 → coCode h = hdFlt h) := fun q => if_neg q
  have HA0 : Hid (hdFlt h ≠ 0 → coAns h = []) := fun q => if_neg (fun z => q z.1)
  have HBB := hide bb
  have EA := hide ea
  have EB := hide eb
  clear ea eb o nn bc m kb kr bb zb
  generalize coCode h = CC at HCM HC0 ⊢
  generalize coAns h = AA at HCM HA0 ⊢
  generalize hdFlt h = q at D1 HCM HC0 HA0
  unfold hvals at EA ⊢
  go_enter Tryz.func24, Tryz.ntmps24
  go_upto_region 1 with fail
  rw [unhide EA, unhide EB]
  clear EA EB
  go_wp2_with fail
  refine (unhide D1).mono ?_
  rintro e w2' ⟨rfl, n2, rfl⟩
  obtain ⟨w2, ew2⟩ : ∃ W, W1.drewN n2 = W := ⟨_, rfl⟩
  have b2 : Below W1.heap.size W1 w2 := by rw [← ew2]; exact below_drewN (Below.refl _ _) n2
  rw [ew2]
  have L2 : Hid (Below (w.heap.size + 2) W1 w2) := b2.mono (by omega)
  clear b2 D1 ew2
  by_cases hq : q = 0
  · subst hq
    have D2 := hide ((unhide HCM) (by first | exact rfl | trivial) w2 (unhide L2))
    clear HCM HC0 HA0
    go_wp2_with fail
    refine (unhide D2).mono ?_
    rintro e w3 ⟨s, d, rfl, hc3, b3⟩
    have kr := (unhide HKR) w3 b3
    have r0 := kr.cell 0
    have r1 := kr.cell 1
    have f0 := kr.free 0
    have f1 := kr.free 1
    simp only [List.getElem?_cons_zero, List.getElem?_cons_succ] at r0 r1
    have HCS := hide hc3
    have HB3 := hide ((unhide HBB).trans (b3.mono (by omega)))
    clear kr D2 hc3 b3
    go_wp2_with fail
    refine bodyPost_ret (v := .agg #[.int .i64 CC, .slice s.a s.n s.c]) (by simp [results, Tryz.results24, go_sem, r0, r1]) rfl ⟨s, d, rfl, ?_, ?_⟩
    · refine CS.base (B := w.heap.size + 2) ?_ (by omega)
      repeat (refine CS.set ?_ (by show w.heap.size + 1 < w.heap.size + 2; omega))
      exact unhide HCS
    · repeat (refine Below.setCell ?_ (by show w.heap.size ≤ w.heap.size + 1; omega) _)
      exact unhide HB3
  · have hne : (q != 0) = true := by simp [hq]
    have kr := (unhide HKR) w2 (unhide L2)
    have r0 := kr.cell 0
    have r1 := kr.cell 1
    have f0 := kr.free 0
    have f1 := kr.free 1
    simp only [List.getElem?_cons_zero, List.getElem?_cons_succ] at r0 r1
    have HCV : Hid (CC = q) := (unhide HC0) hq
    have HAV : Hid (AA = []) := (unhide HA0) hq
    have HB2 := hide ((unhide HBB).trans ((unhide L2).mono (by omega)))
    clear hq kr HC0 HA0 HCM
    go_wp2_with fail
    refine bodyPost_ret (v := .agg #[.int .i64 q, .slice none 0 0]) (by simp [results, Tryz.results24, go_sem, r0, r1]) rfl ⟨⟨none, 0, 0⟩, fun _ => 0, by rw [unhide HCV], by rw [unhide HAV]; exact CS.nil _ _ _ _ _, ?_⟩
    repeat (refine Below.setCell ?_ (by show w.heap.size ≤ w.heap.size + 1; omega) _)
    exact unhide HB2

end Go.Proofs.YtifhaihddimdfaaGreatDoor

/- What is proved here: the contracts of the laws' helper functions that mark a header that a call made, and look for the marks later (markHeader, heldHeader). -/
namespace Go.Proofs.YtifhaihddimdfaaGreatDoor
open Go.RowKit
set_option linter.unusedVariables false
set_option maxRecDepth 100000

end Go.Proofs.YtifhaihddimdfaaGreatDoor

/- What is proved here: the twelve cells of a HeaderResult, and the contracts of the laws' helper functions over one (eqHeaderResult, markHeaderResult, heldHeaderResult). -/
namespace Go.Proofs.YtifhaihddimdfaaGreatDoor
open Go.RowKit
set_option linter.unusedVariables false
set_option maxRecDepth 100000

/-- The twelve cells of a HeaderResult. -/
def hrvals (c : Int) (x : HS) (h : Hd) : Array Value := #[.int .i64 c, .slice x.p.a x.p.n x.p.c, .int .i64 h.n1, .int .i64 h.n2, .int .i64 h.n3, .slice x.t.a x.t.n x.t.c, .int .i64 h.n5, .slice x.s.a x.s.n x.s.c, .slice x.r.a x.r.n x.r.c, .slice x.g.a x.g.n x.g.c, .slice x.e.a x.e.n x.e.c, .slice x.k.a x.k.n x.k.c]

theorem hrcells {W : World} {g : Nat} {c : Int} {x : HS} {h : Hd} {T : TypeId} (b : SBlk W g (hrvals c x h).toList T) : W.cell? ⟨g, 0, none⟩ = some (.int .i64 c) ∧ W.cell? ⟨g, 1, none⟩ = some (.slice x.p.a x.p.n x.p.c) ∧ W.cell? ⟨g, 2, none⟩ = some (.int .i64 h.n1) ∧ W.cell? ⟨g, 3, none⟩ = some (.int .i64 h.n2) ∧ W.cell? ⟨g, 4, none⟩ = some (.int .i64 h.n3) ∧ W.cell? ⟨g, 5, none⟩ = some (.slice x.t.a x.t.n x.t.c) ∧ W.cell? ⟨g, 6, none⟩ = some (.int .i64 h.n5) ∧ W.cell? ⟨g, 7, none⟩ = some (.slice x.s.a x.s.n x.s.c) ∧ W.cell? ⟨g, 8, none⟩ = some (.slice x.r.a x.r.n x.r.c) ∧ W.cell? ⟨g, 9, none⟩ = some (.slice x.g.a x.g.n x.g.c) ∧ W.cell? ⟨g, 10, none⟩ = some (.slice x.e.a x.e.n x.e.c) ∧ W.cell? ⟨g, 11, none⟩ = some (.slice x.k.a x.k.n x.k.c) :=
  ⟨b.cell 0, b.cell 1, b.cell 2, b.cell 3, b.cell 4, b.cell 5, b.cell 6, b.cell 7, b.cell 8, b.cell 9, b.cell 10, b.cell 11⟩

/-- No header. -/
def hd0 : Hd := ⟨[], 0, 0, 0, [], 0, [], [], [], [], []⟩
def hs0 : HS := ⟨⟨none, 0, 0⟩, ⟨none, 0, 0⟩, ⟨none, 0, 0⟩, ⟨none, 0, 0⟩, ⟨none, 0, 0⟩, ⟨none, 0, 0⟩, ⟨none, 0, 0⟩⟩

theorem ch0 (w : World) (B : Nat) (d : Nat → Nat) : CH w B d hs0 hd0 := ⟨CB.nil _ _ _ _, CB.nil _ _ _ _, CS.nil _ _ _ _ _, CB.nil _ _ _ _, CB.nil _ _ _ _, CB.nil _ _ _ _, CS.nil _ _ _ _ _⟩

end Go.Proofs.YtifhaihddimdfaaGreatDoor

/- What is proved here: plain facts on a header's marks, and that what is written elsewhere leaves a header. -/
namespace Go.Proofs.YtifhaihddimdfaaGreatDoor
open Go.RowKit
set_option linter.unusedVariables false
set_option maxRecDepth 100000

theorem CB.onlyH {B B' C j : Nat} {d : Nat → Nat} {w w' : World} {s : Sl} {z : List Int} (h : CB w B d j s z) (o : OnlyH B' C w w') (hC : C ≤ B) : CB w' B d j s z := ⟨h.len, h.rng, o.own h.own hC, h.col⟩

theorem CS.onlyH {B B' C r c : Nat} {d : Nat → Nat} {w w' : World} {s : Sl} {zss : List (List Int)} (h : CS w B d r c s zss) (o : OnlyH B' C w w') (hC : C ≤ B) : CS w' B d r c s zss := by
  obtain ⟨h1, es, h2, h3, h4, h5⟩ := h
  exact ⟨h1, es, h2, o.own h3 hC, h4, fun i e z he hz => (h5 i e z he hz).onlyH o hC⟩

theorem CH.onlyH {B B' C : Nat} {d : Nat → Nat} {w w' : World} {x : HS} {h : Hd} (q : CH w B d x h) (o : OnlyH B' C w w') (hC : C ≤ B) : CH w' B d x h :=
  ⟨q.p.onlyH o hC, q.t.onlyH o hC, q.s.onlyH o hC, q.r.onlyH o hC, q.g.onlyH o hC, q.e.onlyH o hC, q.k.onlyH o hC⟩

theorem mkss_mem : ∀ (zss : List (List Int)) (k : Int) (z : List Int), z ∈ mkss k zss → ∃ y ∈ zss, z.length = y.length
  | [], k, z, h => by simp [mkss] at h
  | a :: r, k, z, h => by
    rw [mkss] at h
    rcases List.mem_cons.1 h with e | e
    · exact ⟨a, by simp, by rw [e, marks_length]⟩
    · obtain ⟨y, hy, he⟩ := mkss_mem r _ z e
      exact ⟨y, by simp [hy], he⟩

theorem mkH_sm {h : Hd} (k : Int) (m : HSm h) : HSm (mkH k h) := by
  refine ⟨?_, ?_, ?_, fun z hz => ?_, ?_, ?_, ?_, ?_, fun z hz => ?_⟩
  · show (marks _ _).length ≤ _; rw [marks_length]; exact m.p
  · show (marks _ _).length ≤ _; rw [marks_length]; exact m.t
  · show (mkss _ _).length ≤ _; rw [mkss_length]; exact m.s
  · obtain ⟨y, hy, he⟩ := mkss_mem _ _ z hz; rw [he]; exact m.sz y hy
  · show (marks _ _).length ≤ _; rw [marks_length]; exact m.r
  · show (marks _ _).length ≤ _; rw [marks_length]; exact m.g
  · show (marks _ _).length ≤ _; rw [marks_length]; exact m.e
  · show (mkss _ _).length ≤ _; rw [mkss_length]; exact m.k
  · obtain ⟨y, hy, he⟩ := mkss_mem _ _ z hz; rw [he]; exact m.kz y hy

end Go.Proofs.YtifhaihddimdfaaGreatDoor
