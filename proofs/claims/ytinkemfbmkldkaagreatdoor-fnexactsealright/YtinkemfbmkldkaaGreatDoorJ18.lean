/- What is proved here: what the model's l5Signers answers: the first fault of a list of signers. -/
import Derived.Test.YtinkemfbmkldkaaGreatDoorJ6
import Derived.WalkKit
import Derived.WalkSmall
import Derived.Deep.RegionWith
import Derived.BigQuiet
import Derived.Deep.QuietTactic
import Derived.WalkSpells
import Derived.Test.YtinkemfbmkldkaaGreatDoorJ2
import Derived.Deep.DeepCutAuto
import Derived.Deep.CutBlock
import Derived.Test.YtinkemfbmkldkaaGreatDoorJ12
import Derived.Test.YtinkemfbmkldkaaGreatDoorJ13
import Derived.Test.YtinkemfbmkldkaaGreatDoorJ17
import Derived.Test.YtinkemfbmkldkaaGreatDoorJ11
import Derived.Test.YtinkemfbmkldkaaGreatDoorJ8
import Derived.Test.YtinkemfbmkldkaaGreatDoorJ4
import Derived.Deep.RegionHeld3
import Derived.Test.YtinkemfbmkldkaaGreatDoorChecked
import Derived.Test.YtinkemfbmkldkaaGreatDoorJ1
import Derived.KernelRfl
import Derived.WalkLawsBesides
import Derived.BigRegion
import Derived.Deep.AppendLies
namespace Go.Proofs.YtinkemfbmkldkaaGreatDoor
open Go.RowKit
set_option linter.unusedVariables false
set_option maxRecDepth 100000

set_option maxHeartbeats 2000000 in
theorem l5Signers_any (a : Option Addr) (len cap : Nat) (zss : List (List Int)) (w : World) (h : BsRow w a len zss) (hl : len ≤ 1048576) :
    Calls Tryz.prog 55 #[.slice a len cap] w fun e w' => e = .returned (.int .i64 (sgFlt zss)) ∧ ∃ n, w' = w.drewN n := by
  have hil := h.1
  by_cases h2 : 7 < len
  · have HE : Hid (sgFlt zss = 2) := by show _ = _; unfold sgFlt; rw [if_pos (by rw [hil]; exact h2)]
    have hd : decide ((7 : Int) < (len : Int)) = true := decide_eq_true (by omega)
    clear h hil
    go_enter Tryz.func55, Tryz.ntmps55
    go_wp2_with fail
    go_ret
    exact ⟨ret_int (unhide HE).symm, 0, rfl⟩
  · have d2 : decide ((7 : Int) < (len : Int)) = false := decide_eq_false (by omega)
    have HE : Hid (sgFlt zss = sgFrom zss 0 zss) := by show _ = _; unfold sgFlt; rw [if_neg (by omega)]
    rcases Nat.eq_zero_or_pos len with h0 | hp
    · subst h0
      have hn : zss = [] := List.length_eq_zero_iff.1 hil
      subst hn
      clear h
      go_enter Tryz.func55, Tryz.ntmps55
      go_wp2_with fail
      refine wp_loop_rounds 1 ?_
      rw [rounds_succ]
      go_wp2_with fail
      go_ret
      exact ⟨ret_int (by rw [unhide HE]; rfl), 0, rfl⟩
    · obtain ⟨b, off, rfl, hb, hc⟩ := h.at hp
      have HC := hide hc
      have HL := hide hil
      clear h hc hil
      go_enter Tryz.func55, Tryz.ntmps55
      go_wp2_with fail
      go_loopw [3] (fun i wr => ∃ k n : Nat, k ≤ len ∧ i = .int .i64 k ∧ sgFrom zss 0 zss = sgFrom zss k (zss.drop k) ∧ wr = w.drewN n) (fun i _ => len - (intOf i).toNat)
      case atStart => exact ⟨0, 0, Nat.zero_le _, rfl, by simp, rfl⟩
      case round =>
        obtain ⟨k, n, hk, rfl, hpre, hw⟩ := hrel
        have hbw : Below w.heap.size w wr := by rw [hw]; exact below_drewN (Below.refl _ _) n
        have HW := hide hw
        clear hw
        by_cases hlt : k < len
        · obtain ⟨z, hit⟩ : ∃ z, zss[k]? = some z := ⟨_, List.getElem?_eq_getElem (by rw [unhide HL]; exact hlt)⟩
          have hst := sgFrom_step zss k z hit
          rw [← hpre] at hst
          obtain ⟨s1, n1, d1, p0, r1⟩ := ((unhide HC) k z hit).below hbw (Nat.le_refl _)
          have hzl : z.length = n1 := r1.1
          have HS := hide hst
          have i1 : (0 : Int) ≤ (k : Int) := by omega
          have i2 : (k : Int) < (len : Int) := by omega
          by_cases h4 : n1 = 4
          · have d4 : (((n1 : Nat) : Int) != 4) = false := by simp [h4]
            by_cases k0 : k = 0
            · have e : sgBad zss k z = false := by unfold sgBad; simp [hzl, h4, k0]
              rw [e, if_neg (by simp)] at HS
              have dk : decide ((0 : Int) < (k : Int)) = false := decide_eq_false (by omega)
              have dk' : decide (0 < k) = false := decide_eq_false (by omega)
              clear r1 hst hpre hit hzl e k0 h4 hbw
              go_wp2_with fail
              go_quiet (fail)
              all_goals
                go_wp2_with fail
                go_roundw
                case rel => exact ⟨k + 1, _, by omega, by go_num, unhide HS, by rw [unhide HW]; first | rfl | exact World.drewN_drewN ..⟩
                case measure => simp [intOf]; omega
            · obtain ⟨j, hj⟩ : ∃ j : Nat, k - 1 = j := ⟨_, rfl⟩
              obtain ⟨y, hiy⟩ : ∃ y, zss[j]? = some y := ⟨_, List.getElem?_eq_getElem (by rw [unhide HL]; omega)⟩
              obtain ⟨s2, n2, d2', q0, r2⟩ := ((unhide HC) j y hiy).below hbw (Nat.le_refl _)
              have hgd : zss.getD (k - 1) [] = y := by rw [hj, List.getD_eq_getElem?_getD, hiy]; rfl
              have e : sgBad zss k z = !aheadB y z := by unfold sgBad; rw [hgd, hzl, h4]; simp; omega
              rw [e] at HS
              have dk : decide ((0 : Int) < (k : Int)) = true := decide_eq_true (by omega)
              have dk' : decide (0 < k) = true := decide_eq_true (by omega)
              have j1 : (0 : Int) ≤ (j : Int) := by omega
              have j2 : (j : Int) < (len : Int) := by omega
              have hwr : IntKind.i64.wrap ((k : Int) - 1) = (j : Int) := by rw [IntKind.wrap_i64]; omega
              have HA := hide (fun (m : Nat) => l1Ahead_any s2 s1 n2 d2' n1 d1 y z (wr.drewN m) (r2.below (B := wr.heap.size) (below_drewN (Below.refl _ _) m) (Nat.le_refl _)) (r1.below (B := wr.heap.size) (below_drewN (Below.refl _ _) m) (Nat.le_refl _)))
              clear r1 r2 hst hpre hit hiy hzl hgd e k0 h4 hj hbw
              generalize aheadB y z = sb at HA HS
              cases sb
              · go_wp2_with fail
                go_quiet ((go_at_call 95; exact Calls.quiet_of_same ((unhide HA) _)))
                all_goals
                  go_wp2_with fail
                  go_ret
                  exact ⟨ret_int (by rw [unhide HE, unhide HS]; rfl), _, by rw [unhide HW]; first | rfl | exact World.drewN_drewN ..⟩
              · go_wp2_with fail
                go_quiet ((go_at_call 95; exact Calls.quiet_of_same ((unhide HA) _)))
                all_goals
                  go_wp2_with fail
                  go_roundw
                  case rel => exact ⟨k + 1, _, by omega, by go_num, by rw [unhide HS]; rfl, by rw [unhide HW]; first | rfl | exact World.drewN_drewN ..⟩
                  case measure => simp [intOf]; omega
          · have d4 : (((n1 : Nat) : Int) != 4) = true := by simp; omega
            have e : sgBad zss k z = true := by unfold sgBad; simp [hzl, h4]
            rw [e, if_pos rfl] at HS
            clear r1 hst hpre hit hzl e h4 hbw
            go_wp2_with fail
            go_quiet (fail)
            all_goals
              go_wp2_with fail
              go_ret
              exact ⟨ret_int (by rw [unhide HE, unhide HS]), _, by rw [unhide HW]; first | rfl | exact World.drewN_drewN ..⟩
        · obtain rfl : k = len := by omega
          have e := sgFrom_end zss k (by rw [unhide HL]; exact Nat.le_refl _)
          rw [e] at hpre
          have HP := hide hpre
          clear e hpre
          go_wp2_with fail
          go_ret
          exact ⟨ret_int (by rw [unhide HE, unhide HP]), n, unhide HW⟩

end Go.Proofs.YtinkemfbmkldkaaGreatDoor

/- What is proved here: what the model's l5Number, l5Fault and HeaderFault answer: the fault of a header. -/
namespace Go.Proofs.YtinkemfbmkldkaaGreatDoor
open Go.RowKit
set_option linter.unusedVariables false
set_option maxRecDepth 100000

theorem l5Number_any (v : Int) (w : World) : Calls Tryz.prog 81 #[.int .i64 v] w fun e w' => e = .returned (.bool (within v 0 1099511627776)) ∧ w' = w := by
  have HI := hide (in_any v 0 1099511627776 w)
  unfold within
  generalize decide (0 ≤ v ∧ v ≤ 1099511627776) = c at HI
  go_enter Tryz.func81, Tryz.ntmps81
  go_wp2_with fail
  refine (unhide HI).mono ?_
  rintro e w' ⟨rfl, rfl⟩
  go_wp2_with fail
  go_ret
  exact ⟨rfl, rfl⟩

set_option maxRecDepth 100000 in
set_option maxHeartbeats 8000000 in
theorem l5Fault_any (g : Nat) (x : HS) (h : Hd) (T : TypeId) (w : World) (sb : SBlk w g (hvals x h).toList T) (o : HOk w x h) (m : HSm h) :
    Calls Tryz.prog 37 #[.pointer (some ⟨g, 0, none⟩)] w fun e w' => e = .returned (.int .i64 (hdFlt h)) ∧ ∃ n, w' = w.drewN n := by
  obtain ⟨x0, x1, x2, x3, x4, x5, x6, x7, x8, x9, x10⟩ := hcells sb
  have HC := hide (hcells sb)
  obtain ⟨b1, e1⟩ : ∃ b, (((x.p.n : Nat) : Int) != 32) = b := ⟨_, rfl⟩
  obtain ⟨b2, e2⟩ : ∃ b, (((x.t.n : Nat) : Int) != 0) = b := ⟨_, rfl⟩
  obtain ⟨b3, e3⟩ : ∃ b, (((x.t.n : Nat) : Int) != 4) = b := ⟨_, rfl⟩
  obtain ⟨b4, e4⟩ : ∃ b, (((x.r.n : Nat) : Int) != 32) = b := ⟨_, rfl⟩
  obtain ⟨b5, e5⟩ : ∃ b, (((x.g.n : Nat) : Int) != 4) = b := ⟨_, rfl⟩
  obtain ⟨b6, e6⟩ : ∃ b, (((x.e.n : Nat) : Int) != 0) = b := ⟨_, rfl⟩
  obtain ⟨b7, e7⟩ : ∃ b, (((x.e.n : Nat) : Int) != 4) = b := ⟨_, rfl⟩
  have HL : Hid (hdLen h = (b1 || (b2 && b3) || b4 || b5 || (b6 && b7))) := by
    show _ = _
    unfold hdLen
    rw [o.p.1, o.t.1, o.r.1, o.g.1, o.e.1, e1, e2, e3, e4, e5, e6, e7]
  obtain ⟨c1, f1⟩ : ∃ c, within h.n1 0 1099511627776 = c := ⟨_, rfl⟩
  obtain ⟨c2, f2⟩ : ∃ c, within h.n2 0 1099511627776 = c := ⟨_, rfl⟩
  obtain ⟨c3, f3⟩ : ∃ c, within h.n3 0 9 = c := ⟨_, rfl⟩
  obtain ⟨c5, f5⟩ : ∃ c, within h.n5 0 2 = c := ⟨_, rfl⟩
  have HN : Hid (hdNum h = (c1 && c2 && c3 && c5)) := by
    show _ = _
    unfold hdNum
    rw [f1, f2, f3, f5]
  have D1 := hide (fun W => l5Number_any h.n1 W)
  have D2 := hide (fun W => l5Number_any h.n2 W)
  have D3 := hide (fun W => in_any h.n3 0 9 W)
  have D5 := hide (fun W => in_any h.n5 0 2 W)
  simp only [f1] at D1
  simp only [f2] at D2
  simp only [show decide (0 ≤ h.n3 ∧ h.n3 ≤ 9) = c3 from f3] at D3
  simp only [show decide (0 ≤ h.n5 ∧ h.n5 ≤ 2) = c5 from f5] at D5
  have HSG := hide (l5Signers_any x.s.a x.s.n x.s.c h.s w o.s (by have := o.s.1; have := m.s; omega))
  have HE : Hid (hdFlt h = if hdLen h = true then 1 else if hdNum h = false then 3 else if sgFlt h.s = 0 then coFlt h.k else sgFlt h.s) := rfl
  have HK := hide o.k
  have hkl : x.k.n ≤ 1048576 := by have := o.k.1; have := m.k; omega
  clear o m f1 f2 f3 f5 sb
  generalize sgFlt h.s = q at HSG HE
  go_enter Tryz.func37, Tryz.ntmps37
  go_upto_region 1 with fail
  go_cut [58] (fun s wx => s = .bool (b1 || (b2 && b3) || b4 || b5 || (b6 && b7)) ∧ wx = w)
  case first =>
    cases b1
    case true =>
      go_wp2_with fail
      go_meet
      exact ⟨rfl, rfl⟩
    cases b4
    case true =>
      cases b2
      · go_wp2_with fail
        go_meet
        exact ⟨by simp, rfl⟩
      cases b3
      all_goals
        go_wp2_with fail
        go_meet
        exact ⟨by simp, rfl⟩
    cases b5
    case true =>
      cases b2
      · go_wp2_with fail
        go_meet
        exact ⟨by simp, rfl⟩
      cases b3
      all_goals
        go_wp2_with fail
        go_meet
        exact ⟨by simp, rfl⟩
    cases b6
    · cases b2
      · go_wp2_with fail
        go_meet
        exact ⟨by simp, rfl⟩
      cases b3
      all_goals
        go_wp2_with fail
        go_meet
        exact ⟨by simp, rfl⟩
    cases b2
    · go_wp2_with fail
      go_meet
      exact ⟨by simp, rfl⟩
    cases b3
    all_goals
      go_wp2_with fail
      go_meet
      exact ⟨by simp, rfl⟩
  case rest =>
    obtain ⟨rfl, hwc⟩ := hcut
    rw [hwc]
    clear hwc e1 e2 e3 e4 e5 e6 e7
    generalize hlb : (b1 || (b2 && b3) || b4 || b5 || (b6 && b7)) = lb
    rw [hlb] at HL
    clear hlb
    cases lb
    case true =>
      go_wp2_with fail
      go_ret
      exact ⟨ret_int (by rw [unhide HE, unhide HL, if_pos rfl]), 0, rfl⟩
    go_wp2_with fail
    refine ((unhide D1) _).mono ?_
    rintro e w' ⟨rfl, rfl⟩
    cases c1
    · go_wp2_with fail
      go_ret
      exact ⟨ret_int (by rw [unhide HE, unhide HL, unhide HN]; simp), 0, rfl⟩
    go_wp2_with fail
    refine ((unhide D2) _).mono ?_
    rintro e w' ⟨rfl, rfl⟩
    cases c2
    · go_wp2_with fail
      go_ret
      exact ⟨ret_int (by rw [unhide HE, unhide HL, unhide HN]; simp), 0, rfl⟩
    go_wp2_with fail
    refine ((unhide D3) _).mono ?_
    rintro e w' ⟨rfl, rfl⟩
    cases c3
    · go_wp2_with fail
      go_ret
      exact ⟨ret_int (by rw [unhide HE, unhide HL, unhide HN]; simp), 0, rfl⟩
    go_wp2_with fail
    refine ((unhide D5) _).mono ?_
    rintro e w' ⟨rfl, rfl⟩
    cases c5
    · go_wp2_with fail
      go_ret
      exact ⟨ret_int (by rw [unhide HE, unhide HL, unhide HN]; simp), 0, rfl⟩
    go_wp2_with fail
    refine (unhide HSG).mono ?_
    rintro e w1 ⟨rfl, n1, rfl⟩
    by_cases hq : q = 0
    · subst hq
      have HE2 : Hid (hdFlt h = coFlt h.k) := by
        show _ = _
        rw [unhide HE, unhide HL, unhide HN]; simp
      clear HE HL HN D1 D2 D3 D5 HSG x0 x1 x2 x3 x4 x5 x6 x7 x8 x9
      by_cases h7 : 7 < x.k.n
      · have d7 : decide ((7 : Int) < (x.k.n : Int)) = true := decide_eq_true (by omega)
        go_wp2_with fail
        go_ret
        refine ⟨ret_int ?_, n1, rfl⟩
        rw [unhide HE2]; unfold coFlt; rw [if_pos (by rw [(unhide HK).1]; exact h7)]
      have d7 : decide ((7 : Int) < (x.k.n : Int)) = false := decide_eq_false (by omega)
      have HE3 : Hid (hdFlt h = coFrom h.k) := by
        show _ = _
        rw [unhide HE2]; unfold coFlt; rw [if_neg (by rw [(unhide HK).1]; exact h7)]
      clear HE2
      go_wp2_with fail
      go_loop [4] (fun i => ∃ k : Nat, k ≤ x.k.n ∧ i = .int .i64 k ∧ coFrom h.k = coFrom (h.k.drop k)) (fun i => x.k.n - (intOf i).toNat)
      case atStart => exact ⟨0, Nat.zero_le _, rfl, by simp⟩
      case round =>
        obtain ⟨k, hk, rfl, hpre⟩ := hrel
        by_cases hlt : k < x.k.n
        · obtain ⟨z, hit⟩ : ∃ z, h.k[k]? = some z := ⟨_, List.getElem?_eq_getElem (by rw [(unhide HK).1]; exact hlt)⟩
          have hst := coFrom_step h.k k z hit
          rw [← hpre] at hst
          obtain ⟨bb, off, hba, _, hcc⟩ := (unhide HK).at (by omega)
          obtain ⟨s1, m1, d1, p0, r1⟩ := hcc k z hit
          have hzl : z.length = m1 := r1.1
          rw [hzl] at hst
          have HS := hide hst
          have x10' := x10
          rw [hba] at x10'
          have i1 : (0 : Int) ≤ (k : Int) := by omega
          have i2 : (k : Int) < (x.k.n : Int) := by omega
          clear r1 hst hpre hit hzl hcc hba x10
          by_cases h8 : m1 = 8
          · have d8 : (((m1 : Nat) : Int) != 8) = false := by simp [h8]
            rw [if_pos h8] at HS
            clear h8
            go_wp2_with fail
            go_round
            case rel => exact ⟨k + 1, by omega, by go_num, unhide HS⟩
            case measure => simp [intOf]; omega
          · have d8 : (((m1 : Nat) : Int) != 8) = true := by simp; omega
            rw [if_neg h8] at HS
            clear h8
            go_wp2_with fail
            go_ret
            exact ⟨ret_int (by rw [unhide HE3, unhide HS]), n1, rfl⟩
        · obtain rfl : k = x.k.n := by omega
          have e := coFrom_end h.k x.k.n (by rw [(unhide HK).1]; exact Nat.le_refl _)
          rw [e] at hpre
          have HP := hide hpre
          clear e hpre
          go_wp2_with fail
          go_ret
          exact ⟨ret_int (by rw [unhide HE3, unhide HP]), n1, rfl⟩
    · have hne : (q != 0) = true := by simp [hq]
      have HE2 : Hid (hdFlt h = q) := by
        show _ = _
        rw [unhide HE, unhide HL, unhide HN, if_neg (by simp), if_neg (by simp), if_neg hq]
      clear HE HL HN D1 D2 D3 D5 HSG hq
      go_wp2_with fail
      go_ret
      exact ⟨ret_int (unhide HE2).symm, n1, rfl⟩

end Go.Proofs.YtinkemfbmkldkaaGreatDoor

/- What is proved here: what the model's l5Hash and l5SealHash answer for a header without a fault: the hash of its bytes in new memory. -/
namespace Go.Proofs.YtinkemfbmkldkaaGreatDoor
open Go.RowKit
set_option linter.unusedVariables false
set_option maxRecDepth 100000

set_option maxRecDepth 100000 in
set_option maxHeartbeats 8000000 in
theorem l5Hash_any (x : HS) (h : Hd) (w : World) (o : HOk w x h) (nn : HNil w x) (hf : hdFlt h = 0) :
    Calls Tryz.prog 57 #[.agg (hvals x h)] w fun e w' => ∃ d c, e = .returned (.slice (some ⟨d, 0, none⟩) 32 c) ∧
      w'.ownsRow w.heap.size 5 1 (.slice (some ⟨d, 0, none⟩) 32 c) 32 ((kcBytes (packL (noK h))).map (Value.int .u8)) ∧ Below w.heap.size w w' := by
  have hg := hdFlt_noK hf
  have kb := SBlk.new w (hvals x h) 26
  have bb := below_alloc w (.cells (hvals x h) 26)
  obtain ⟨W0, eb⟩ : ∃ W0, w.alloc (.cells (hvals x h) 26) = W0 := ⟨_, rfl⟩
  rw [eb] at kb bb
  have kb3 : SBlk (W0.setCell ⟨w.heap.size, 10, none⟩ (.slice none 0 0)) w.heap.size (hvals (xNoK x) (noK h)).toList 26 := kb.set 10 _
  have b3 := bb.setCell (p := ⟨w.heap.size, 10, none⟩) (Nat.le_refl _) (.slice none 0 0)
  have fz : W0.frozen? ⟨w.heap.size, 10, none⟩ = false := kb.free 10
  have cz := kb.cell 10
  simp only [hvals, List.getElem?_cons_zero, List.getElem?_cons_succ] at cz
  obtain ⟨W3, e3⟩ : ∃ W3, W0.setCell ⟨w.heap.size, 10, none⟩ (.slice none 0 0) = W3 := ⟨_, rfl⟩
  rw [e3] at kb3 b3
  have ok := (o.below b3 (Nat.le_refl _)).noK
  have D1 := hide (l5Pack_any w.heap.size (xNoK x) (noK h) _ W3 kb3 ok (nn.below b3 (Nat.le_refl _)).noK (good_of hg))
  have HRG := hide (packL_rng hg ok)
  have hl := packL_le hg
  have hpos := packL_pos (noK h)
  have HKC : Hid (∀ (W' : World) (g c : Nat), BRow W' (some ⟨g, 0, none⟩) (packL (noK h)).length (packL (noK h)) → Calls Tryz.prog 97 #[.slice (some ⟨g, 0, none⟩) (packL (noK h)).length c] W' fun e w' => ∃ d c', e = .returned (.slice (some ⟨d, 0, none⟩) 32 c') ∧ w'.ownsRow W'.heap.size 5 1 (.slice (some ⟨d, 0, none⟩) 32 c') 32 ((kcBytes (packL (noK h))).map (Value.int .u8)) ∧ Below W'.heap.size W' w') := fun W' g c hr => by
    have K := l2Keccak_any (some ⟨g, 0, none⟩) (packL (noK h)).length c (packL (noK h)) W' hr (fun e => by cases e) hl
    have e : kcBytes (packL (noK h)) = hashOf (spAt (padB (packL (noK h))) (padLen (packL (noK h)).length / 136)) := if_neg (by omega)
    rw [e]
    exact K
  clear o nn ok kb kb3 bb hf hg
  generalize kcBytes (packL (noK h)) = KB at HKC ⊢
  generalize packL (noK h) = PL at D1 HKC HRG hl hpos
  have HB3 := hide b3
  have E3 := hide e3
  have EB := hide eb
  clear b3 e3 eb
  unfold hvals at EB ⊢
  go_enter Tryz.func57, Tryz.ntmps57
  go_upto_region 1 with fail
  rw [unhide EB]
  clear EB
  go_upto_region 2 with fail
  rw [unhide E3]
  clear E3
  go_wp2_with fail
  refine (unhide D1).mono ?_
  rintro e w4 ⟨a4, c4, rfl, o4, b4⟩
  obtain ⟨g4, c', he⟩ := own_some o4 hpos
  simp only [Value.slice.injEq] at he
  obtain ⟨rfl, -, rfl⟩ := he
  have row4 := BRow.own o4 (unhide HRG)
  have HB4 := hide ((unhide HB3).trans (b4.mono (unhide HB3).size))
  clear b4 o4 fz cz
  go_wp2_with fail
  refine ((unhide HKC) _ g4 c4 row4).mono ?_
  rintro e w5 ⟨d5, c5, rfl, o5, b5⟩
  have hwz : w.heap.size ≤ w4.heap.size := (unhide HB4).size
  have HB5 := hide ((unhide HB4).trans (b5.mono hwz))
  go_wp2_with fail
  go_ret
  exact ⟨d5, c5, rfl, ownsRow_base o5 hwz, unhide HB5⟩

set_option maxRecDepth 100000 in
set_option maxHeartbeats 8000000 in
theorem l5SealHash_any (x : HS) (h : Hd) (w : World) (o : HOk w x h) (nn : HNil w x) (hf : hdFlt h = 0) :
    Calls Tryz.prog 84 #[.agg (hvals x h)] w fun e w' => ∃ d c, e = .returned (.slice (some ⟨d, 0, none⟩) 32 c) ∧
      w'.ownsRow w.heap.size 5 1 (.slice (some ⟨d, 0, none⟩) 32 c) 32 ((kcBytes (packL (noK (noE h)))).map (Value.int .u8)) ∧ Below w.heap.size w w' := by
  have kb := SBlk.new w (hvals x h) 26
  have bb := below_alloc w (.cells (hvals x h) 26)
  obtain ⟨W0, eb⟩ : ∃ W0, w.alloc (.cells (hvals x h) 26) = W0 := ⟨_, rfl⟩
  rw [eb] at kb bb
  have kb3 : SBlk (W0.setCell ⟨w.heap.size, 9, none⟩ (.slice none 0 0)) w.heap.size (hvals (xNoE x) (noE h)).toList 26 := kb.set 9 _
  have b3 := bb.setCell (p := ⟨w.heap.size, 9, none⟩) (Nat.le_refl _) (.slice none 0 0)
  have fz : W0.frozen? ⟨w.heap.size, 9, none⟩ = false := kb.free 9
  have cz := kb.cell 9
  simp only [hvals, List.getElem?_cons_zero, List.getElem?_cons_succ] at cz
  obtain ⟨W3, e3⟩ : ∃ W3, W0.setCell ⟨w.heap.size, 9, none⟩ (.slice none 0 0) = W3 := ⟨_, rfl⟩
  rw [e3] at kb3 b3
  have D1 := hide (l5Hash_any (xNoE x) (noE h) W3 (o.below b3 (Nat.le_refl _)).noE (nn.below b3 (Nat.le_refl _)).noE (hdFlt_noE hf))
  obtain ⟨y0, y1, y2, y3, y4, y5, y6, y7, y8, y9, y10⟩ := hcells kb3
  clear o nn kb kb3 bb hf
  generalize kcBytes (packL (noK (noE h))) = KB at D1 ⊢
  have HB3 := hide b3
  have E3 := hide e3
  have EB := hide eb
  clear b3 e3 eb
  unfold hvals at EB D1 ⊢
  go_enter Tryz.func84, Tryz.ntmps84
  go_upto_region 1 with fail
  rw [unhide EB]
  clear EB
  go_upto_region 2 with fail
  rw [unhide E3]
  clear E3
  go_wp2_with fail
  refine (unhide D1).mono ?_
  rintro e w5 ⟨d5, c5, rfl, o5, b5⟩
  have hwz : w.heap.size ≤ W3.heap.size := (unhide HB3).size
  have HB5 := hide ((unhide HB3).trans (b5.mono hwz))
  go_wp2_with fail
  go_ret
  exact ⟨d5, c5, rfl, ownsRow_base o5 hwz, unhide HB5⟩

end Go.Proofs.YtinkemfbmkldkaaGreatDoor

/- What is proved here: what the model's HashOf and SealHash answer: the fault of a header, or the hash of its bytes in new memory. -/
namespace Go.Proofs.YtinkemfbmkldkaaGreatDoor
open Go.RowKit
set_option linter.unusedVariables false
set_option maxRecDepth 100000

end Go.Proofs.YtinkemfbmkldkaaGreatDoor

/- What is proved here: plain facts on seals and commits, as functions of bytes; no program is named. -/
namespace Go.Proofs.YtinkemfbmkldkaaGreatDoor
open Go.RowKit
set_option linter.unusedVariables false
set_option maxRecDepth 100000

/-- The first four bytes of a hash. -/
def sealL (a h : List Int) : List Int := (kcBytes (a ++ h)).take 4
def markL (a h : List Int) : List Int := (kcBytes (a ++ 1 :: h)).take 4

/-- The code of SealOf and CommitOf, and what they answer. -/
def slCode (a h : List Int) : Int := if a.length = 4 ∧ h.length = 32 then 0 else 1
def slBytes (a h : List Int) : List Int := if a.length = 4 ∧ h.length = 32 then sealL a h else []
def cmBytes (a h : List Int) : List Int := if a.length = 4 ∧ h.length = 32 then a ++ markL a h else []

theorem kc4 {z : List Int} (h : z.length ≤ 1200) : ((kcBytes z).take 4).length = 4 := by
  have e : (kcBytes z).length = 32 := by unfold kcBytes; rw [if_neg (by omega), hashOf_length]
  rw [List.length_take, e]; rfl

theorem seal4 {a h : List Int} (ha : a.length = 4) (hh : h.length = 32) : (sealL a h).length = 4 := kc4 (by simp; omega)
theorem mark4 {a h : List Int} (ha : a.length = 4) (hh : h.length = 32) : (markL a h).length = 4 := kc4 (by simp; omega)

theorem append_rng {a h : List Int} (ha : ∀ x ∈ a, 0 ≤ x ∧ x ≤ 255) (hh : ∀ x ∈ h, 0 ≤ x ∧ x ≤ 255) : ∀ x ∈ a ++ h, 0 ≤ x ∧ x ≤ 255 := by
  intro x hx
  rcases List.mem_append.1 hx with e | e
  · exact ha x e
  · exact hh x e

theorem sealL_rng {a h : List Int} (ha : ∀ x ∈ a, 0 ≤ x ∧ x ≤ 255) (hh : ∀ x ∈ h, 0 ≤ x ∧ x ≤ 255) : ∀ x ∈ sealL a h, 0 ≤ x ∧ x ≤ 255 :=
  fun x hx => kcBytes_range _ (append_rng ha hh) x (List.mem_of_mem_take hx)

theorem one_rng {h : List Int} (hh : ∀ x ∈ h, 0 ≤ x ∧ x ≤ 255) : ∀ x ∈ (1 : Int) :: h, 0 ≤ x ∧ x ≤ 255 := by
  intro x hx
  rcases List.mem_cons.1 hx with e | e
  · omega
  · exact hh x e

theorem markL_rng {a h : List Int} (ha : ∀ x ∈ a, 0 ≤ x ∧ x ≤ 255) (hh : ∀ x ∈ h, 0 ≤ x ∧ x ≤ 255) : ∀ x ∈ markL a h, 0 ≤ x ∧ x ≤ 255 :=
  fun x hx => kcBytes_range _ (append_rng ha (one_rng hh)) x (List.mem_of_mem_take hx)

theorem sl_range {a h : List Int} (ha : ∀ x ∈ a, 0 ≤ x ∧ x ≤ 255) (hh : ∀ x ∈ h, 0 ≤ x ∧ x ≤ 255) : ∀ x ∈ slBytes a h, 0 ≤ x ∧ x ≤ 255 := by
  unfold slBytes; split
  · exact sealL_rng ha hh
  · intro x hx; simp at hx

theorem cm_range {a h : List Int} (ha : ∀ x ∈ a, 0 ≤ x ∧ x ≤ 255) (hh : ∀ x ∈ h, 0 ≤ x ∧ x ≤ 255) : ∀ x ∈ cmBytes a h, 0 ≤ x ∧ x ≤ 255 := by
  unfold cmBytes; split
  · exact append_rng ha (markL_rng ha hh)
  · intro x hx; simp at hx

theorem sl_length (a h : List Int) : (slBytes a h).length ≤ 4 := by
  unfold slBytes; split
  · rename_i q; rw [seal4 q.1 q.2]; omega
  · simp

theorem cm_length (a h : List Int) : (cmBytes a h).length ≤ 8 := by
  unfold cmBytes; split
  · rename_i q; rw [List.length_append, mark4 q.1 q.2]; omega
  · simp

/-- The first elements of a row that is owned are owned. -/
theorem own_take {w : World} {B n m cap : Nat} {a : Option Addr} {e : TypeId} {xs : List Value} (h : w.ownsRow B e 1 (.slice a n cap) n xs) (hm : m ≤ n) : w.ownsRow B e 1 (.slice a m cap) m (xs.take m) := by
  have hl := h.1
  refine ⟨by rw [List.length_take]; omega, ?_⟩
  rcases h.2 with ⟨h', h''⟩ | ⟨g, cap', cur, h', hb, hg, hnc, hcm, hcs, htake⟩
  · simp only [Value.slice.injEq] at h'
    obtain ⟨rfl, rfl, rfl⟩ := h'
    obtain rfl : m = 0 := by omega
    exact .inl ⟨rfl, rfl⟩
  · simp only [Value.slice.injEq] at h'
    obtain ⟨rfl, -, rfl⟩ := h'
    refine .inr ⟨g, cap, cur, rfl, hb, hg, Nat.le_trans hm hnc, hcm, hcs, ?_⟩
    rw [← htake, List.take_take]
    congr 1
    omega

end Go.Proofs.YtinkemfbmkldkaaGreatDoor

/- What is proved here: what the model's l6Seal, l6Commit, SealOf and CommitOf answer: the code, and a seal or a commit in new memory. -/
namespace Go.Proofs.YtinkemfbmkldkaaGreatDoor
open Go.RowKit
set_option linter.unusedVariables false
set_option maxRecDepth 100000

/-- l2Keccak over a row that is owned. -/
theorem l2Kc_own {B : Nat} (a : Option Addr) (n cap : Nat) (zs : List Int) (w : World) (h : w.ownsRow B 5 1 (.slice a n cap) n (zs.map (Value.int .u8))) (hr : ∀ x ∈ zs, 0 ≤ x ∧ x ≤ 255) (hn : n ≤ 1200) :
    Calls Tryz.prog 97 #[.slice a n cap] w fun e w' => ∃ d c', e = .returned (.slice (some ⟨d, 0, none⟩) 32 c') ∧ 32 ≤ c' ∧
      w'.ownsRow w.heap.size 5 1 (.slice (some ⟨d, 0, none⟩) 32 c') 32 ((kcBytes zs).map (Value.int .u8)) ∧ Below w.heap.size w w' := by
  have hl : zs.length = n := by have := h.1; simpa using this
  have e : kcBytes zs = hashOf (spAt (padB zs) (padLen n / 136)) := by unfold kcBytes; rw [if_neg (by omega), hl]
  rw [e]
  refine (l2Keccak_any a n cap zs w (BRow.own2 h hr) (own_cap h) hn).mono ?_
  rintro e w' ⟨d, c', rfl, ho, hb⟩
  refine ⟨d, c', rfl, ?_, ho, hb⟩
  rcases ho.2 with ⟨h', _⟩ | ⟨g, cap', cur, h', _, _, hnc, _⟩
  · simp at h'
  · simp only [Value.slice.injEq] at h'; rw [h'.2.2]; exact hnc

set_option maxHeartbeats 4000000 in
theorem l6Seal_any (a : Option Addr) (n c : Nat) (b : Option Addr) (m d : Nat) (xs ys : List Int) (w : World) (h : BRow w a n xs) (k : BRow w b m ys) (hc : a = none → c = 0) (hd : b = none → d = 0) (hn : n ≤ 600) (hm : m ≤ 600) :
    Calls Tryz.prog 83 #[.slice a n c, .slice b m d] w fun e w' => ∃ g c', e = .returned (.slice (some ⟨g, 0, none⟩) 4 c') ∧
      w'.ownsRow w.heap.size 5 1 (.slice (some ⟨g, 0, none⟩) 4 c') 4 ((sealL xs ys).map (Value.int .u8)) ∧ Below w.heap.size w w' := by
  obtain ⟨i0, hi, hz0, hz1, hz2⟩ := info_parts info5
  have D1 := hide (copy_any a n c xs w h hc (by omega))
  have HR := hide (fun (W : World) (hb : Below w.heap.size w W) => k.below hb (Nat.le_refl _))
  have HRG := hide (append_rng h.2.1 k.2.1)
  have HD := hide hd
  clear h k hc hd
  go_enter Tryz.func83, Tryz.ntmps83
  go_wp2_with fail
  refine (unhide D1).mono ?_
  rintro e w2 ⟨a2, c2, rfl, o2, b2⟩
  have r2 := (unhide HR) w2 b2
  go_wp2_with (at_builtin; refine wpList_append_brow _ rfl _ _ 22 rfl w.heap.size i0 Tryz.underlying22 hi hz0 hz1 hz2 _ n xs rfl o2 b m d ys rfl r2 (unhide HD) (by omega) b2.size ?_)
  intro a3 c3 w3 o3 g3
  have B3 : Below w.heap.size w w3 := b2.grown g3 b2.size (fun g e => (o2.lt g e).1)
  have D3 := hide (l2Kc_own a3 (n + m) c3 (xs ++ ys) w3 (by rw [List.map_append]; exact o3) (unhide HRG) (by omega))
  have HB3 := hide B3
  clear o3 B3 g3 r2 o2 b2 D1
  go_wp2_with fail
  refine (unhide D3).mono ?_
  rintro e w4 ⟨g4, c4, rfl, hc4, o4, b4⟩
  have HB4 := hide ((unhide HB3).trans (b4.mono (unhide HB3).size))
  have o5 := own_take (ownsRow_base o4 (unhide HB3).size) (m := 4) (by omega)
  rw [← List.map_take] at o5
  have HO5 := hide o5
  clear D3 o4 o5 b4
  go_wp2_with fail
  go_ret
  exact ⟨g4, c4, rfl, unhide HO5, unhide HB4⟩

set_option maxHeartbeats 4000000 in
theorem l6Commit_any (a : Option Addr) (n c : Nat) (b : Option Addr) (m d : Nat) (xs ys : List Int) (w : World) (h : BRow w a n xs) (k : BRow w b m ys) (hc : a = none → c = 0) (hd : b = none → d = 0) (hn : n ≤ 400) (hm : m ≤ 600) :
    Calls Tryz.prog 58 #[.slice a n c, .slice b m d] w fun e w' => ∃ a' c', e = .returned (.slice a' (n + 4) c') ∧
      w'.ownsRow w.heap.size 5 1 (.slice a' (n + 4) c') (n + 4) ((xs ++ markL xs ys).map (Value.int .u8)) ∧ Below w.heap.size w w' := by
  obtain ⟨i0, hi, hz0, hz1, hz2⟩ := info_parts info5
  have hxl := h.1
  have hyl := k.1
  have HC := hide (fun (W : World) (hb : Below w.heap.size w W) => copy_any a n c xs W (h.below hb (Nat.le_refl _)) hc (by omega))
  have HR := hide (fun (W : World) (hb : Below w.heap.size w W) => k.below hb (Nat.le_refl _))
  have HRG := hide (append_rng h.2.1 (one_rng k.2.1))
  have HMR := hide (markL_rng h.2.1 k.2.1)
  have HD := hide hd
  have HOne : Hid (∀ (W : World), BRow (W.alloc (.cells #[.int .u8 1] 5)) (some ⟨W.heap.size, 0, none⟩) 1 [1]) := fun W => ⟨rfl, fun x hx => by simp at hx; omega, fun e => (by cases e), fun y hy j hj => by
    cases hy
    obtain rfl : j = 0 := by omega
    rw [add_none, Nat.zero_add, World.cell?_alloc_new]
    rfl⟩
  have hke : xs ++ [1] ++ ys = xs ++ 1 :: ys := by simp
  have HKE := hide hke
  have hmk : markL xs ys = (kcBytes (xs ++ 1 :: ys)).take 4 := rfl
  have HMK := hide hmk
  clear h k hc hd hke hmk
  have D1 := hide ((unhide HC) w (Below.refl _ _))
  go_enter Tryz.func58, Tryz.ntmps58
  go_wp2_with fail
  refine (unhide D1).mono ?_
  rintro e w2 ⟨a2, c2, rfl, o2, b2⟩
  have bo := below_alloc w2 (.cells #[.int .u8 1] 5)
  have o2' := own_below o2 bo (Nat.le_refl _)
  have b2' := b2.trans (bo.mono b2.size)
  have r2 := (unhide HOne) w2
  have e2 : xs.map (Value.int .u8) = xs.map (Value.int .u8) := rfl
  go_wp2_with (at_builtin; refine wpList_append_brow _ rfl _ _ 22 rfl w.heap.size i0 Tryz.underlying22 hi hz0 hz1 hz2 _ n xs rfl o2' (some ⟨w2.heap.size, 0, none⟩) 1 1 [1] rfl r2 (fun e => by cases e) (by omega) b2'.size ?_)
  intro a3 c3 w3 o3 g3
  have B3 : Below w.heap.size w w3 := b2'.grown g3 b2'.size (fun g e => (o2'.lt g e).1)
  have o3 : w3.ownsRow w.heap.size 5 1 (.slice a3 (n + 1) c3) (n + 1) ((xs ++ [1]).map (Value.int .u8)) := by simpa using o3
  have r3 := (unhide HR) w3 B3
  clear e2 r2 o2' o2 b2 bo b2' D1
  go_wp2_with (at_builtin; refine wpList_append_brow _ rfl _ _ 22 rfl w.heap.size i0 Tryz.underlying22 hi hz0 hz1 hz2 _ (n + 1) (xs ++ [1]) rfl o3 b m d ys rfl r3 (unhide HD) (by omega) B3.size ?_)
  intro a4 c4 w4 o4 g4
  have B4 : Below w.heap.size w w4 := B3.grown g4 B3.size (fun g e => (o3.lt g e).1)
  have o4 : w4.ownsRow w.heap.size 5 1 (.slice a4 (n + 1 + m) c4) (n + 1 + m) ((xs ++ 1 :: ys).map (Value.int .u8)) := by simpa using o4
  have HO4 := hide o4
  have HB4 := hide B4
  have D4 := hide ((unhide HC) w4 B4)
  clear o4 g4 B4 r3 o3 B3 g3 HC HR
  go_wp2_with fail
  refine (unhide D4).mono ?_
  rintro e w5 ⟨a5, c5, rfl, o5, b5⟩
  have hz45 : w4.heap.size ≤ w5.heap.size := b5.size
  have o45 := own_below (unhide HO4) b5 (Nat.le_refl _)
  have D5 := hide (l2Kc_own a4 (n + 1 + m) c4 (xs ++ 1 :: ys) w5 o45 (unhide HRG) (by omega))
  have HB5 := hide ((unhide HB4).trans (b5.mono (unhide HB4).size))
  have HO5 := hide (ownsRow_base o5 (unhide HB4).size)
  clear D4 o5 b5 o45 HO4
  go_wp2_with fail
  refine (unhide D5).mono ?_
  rintro e w6 ⟨g6, c6, rfl, hc6, o6, b6⟩
  have B6 := (unhide HB5).trans (b6.mono (unhide HB5).size)
  have o7 := own_take o6 (m := 4) (by omega)
  rw [← List.map_take, ← unhide HMK] at o7
  have r7 := BRow.own o7 (unhide HMR)
  have O6 := own_below (unhide HO5) b6 (Nat.le_refl _)
  clear D5 o6 o7 b6 HO5
  go_wp2_with (at_builtin; refine wpList_append_brow _ rfl _ _ 22 rfl w.heap.size i0 Tryz.underlying22 hi hz0 hz1 hz2 _ n xs rfl O6 (some ⟨g6, 0, none⟩) 4 c6 (markL xs ys) rfl r7 (fun e => by cases e) (by omega) B6.size ?_)
  intro a8 c8 w8 o8 g8
  have B8 : Below w.heap.size w w8 := B6.grown g8 B6.size (fun g e => (O6.lt g e).1)
  have HO8 := hide o8
  have HB8 := hide B8
  clear o8 B8 g8 O6 r7 B6
  go_wp2_with fail
  go_ret
  exact ⟨a8, c8, rfl, by simpa using unhide HO8, unhide HB8⟩

end Go.Proofs.YtinkemfbmkldkaaGreatDoor

/- What is proved here: what the model's l1Same and the program's SameBytes answer: whether two slices are the same as strings. -/
namespace Go.Proofs.YtinkemfbmkldkaaGreatDoor
open Go.RowKit
set_option linter.unusedVariables false
set_option maxRecDepth 100000

theorem l1Same_any (a b : Option Addr) (la ca lb cb : Nat) (xs ys : List Int) (w : World) (ha : BRow w a la xs) (hb : BRow w b lb ys) :
    Calls Tryz.prog 88 #[.slice a la ca, .slice b lb cb] w fun e w' => e = .returned (.bool (strEq xs ys)) ∧ w' = w := by
  have h1 := conv_any (P := Tryz.prog) w 22 5 9 Tryz.underlying22 Tryz.underlying5 Tryz.underlying9 a la ca xs ha
  have h2 := conv_any (P := Tryz.prog) w 22 5 9 Tryz.underlying22 Tryz.underlying5 Tryz.underlying9 b lb cb ys hb
  clear ha hb
  go_enter Tryz.func88, Tryz.ntmps88
  go_wp2
  go_ret
  exact ⟨rfl, rfl⟩

theorem implSame_any (a b : Option Addr) (la ca lb cb : Nat) (xs ys : List Int) (w : World) (ha : BRow w a la xs) (hb : BRow w b lb ys) :
    Calls Tryz.prog 86 #[.slice a la ca, .slice b lb cb] w fun e w' => e = .returned (.bool (strEq xs ys)) ∧ w' = w := by
  have h1 := conv_any (P := Tryz.prog) w 22 5 9 Tryz.underlying22 Tryz.underlying5 Tryz.underlying9 a la ca xs ha
  have h2 := conv_any (P := Tryz.prog) w 22 5 9 Tryz.underlying22 Tryz.underlying5 Tryz.underlying9 b lb cb ys hb
  clear ha hb
  go_enter Tryz.func86, Tryz.ntmps86
  go_wp2
  go_ret
  exact ⟨rfl, rfl⟩

end Go.Proofs.YtinkemfbmkldkaaGreatDoor

/- What is proved here: what the model's l6Right and SealRight answer: whether the seal is that of the header. -/
namespace Go.Proofs.YtinkemfbmkldkaaGreatDoor
open Go.RowKit
set_option linter.unusedVariables false
set_option maxRecDepth 100000

set_option maxHeartbeats 8000000 in
theorem l6Right_any (g : Nat) (x : HS) (h : Hd) (T : TypeId) (w : World) (sb : SBlk w g (hvals x h).toList T) (o : HOk w x h) (nn : HNil w x) (hf : hdFlt h = 0) :
    Calls Tryz.prog 45 #[.pointer (some ⟨g, 0, none⟩)] w fun e w' => e = .returned (.bool (strEq h.e (sealL h.g (kcBytes (packL (noK (noE h))))))) ∧ Below w.heap.size w w' := by
  have HRR : Hid (∀ W, Below w.heap.size w W → (W.cell? ⟨g, 0, none⟩ = some (.slice x.p.a x.p.n x.p.c) ∧ W.cell? ⟨g, 1, none⟩ = some (.int .i64 h.n1) ∧ W.cell? ⟨g, 2, none⟩ = some (.int .i64 h.n2) ∧ W.cell? ⟨g, 3, none⟩ = some (.int .i64 h.n3) ∧ W.cell? ⟨g, 4, none⟩ = some (.slice x.t.a x.t.n x.t.c) ∧ W.cell? ⟨g, 5, none⟩ = some (.int .i64 h.n5) ∧ W.cell? ⟨g, 6, none⟩ = some (.slice x.s.a x.s.n x.s.c) ∧ W.cell? ⟨g, 7, none⟩ = some (.slice x.r.a x.r.n x.r.c) ∧ W.cell? ⟨g, 8, none⟩ = some (.slice x.g.a x.g.n x.g.c) ∧ W.cell? ⟨g, 9, none⟩ = some (.slice x.e.a x.e.n x.e.c) ∧ W.cell? ⟨g, 10, none⟩ = some (.slice x.k.a x.k.n x.k.c))) := fun W hb => hcells (sb.below hb sb.lt)
  have HSH : Hid (∀ W, Below w.heap.size w W → Calls Tryz.prog 84 #[.agg (hvals x h)] W fun e w' => ∃ d c, e = .returned (.slice (some ⟨d, 0, none⟩) 32 c) ∧ BRow w' (some ⟨d, 0, none⟩) 32 (kcBytes (packL (noK (noE h)))) ∧ Below w.heap.size w w') := fun W hb => by
    refine (l5SealHash_any x h W (o.below hb (Nat.le_refl _)) (nn.below hb (Nat.le_refl _)) hf).mono ?_
    rintro e w' ⟨d, c, rfl, ho, hb'⟩
    exact ⟨d, c, rfl, BRow.own2 ho (kcBytes_range _ (packL_rng (hdFlt_noK (hdFlt_noE hf)) o.noE.noK)), hb.trans (hb'.mono hb.size)⟩
  have HSE : Hid (∀ W d c, Below w.heap.size w W → BRow W (some ⟨d, 0, none⟩) 32 (kcBytes (packL (noK (noE h)))) → Calls Tryz.prog 83 #[.slice x.g.a x.g.n x.g.c, .slice (some ⟨d, 0, none⟩) 32 c] W fun e w' => ∃ d' c', e = .returned (.slice (some ⟨d', 0, none⟩) 4 c') ∧ BRow w' (some ⟨d', 0, none⟩) 4 (sealL h.g (kcBytes (packL (noK (noE h))))) ∧ Below w.heap.size w w') := fun W d c hb hr => by
    have g1 := o.g.1
    have g2 := (good_of hf).g
    refine (l6Seal_any x.g.a x.g.n x.g.c (some ⟨d, 0, none⟩) 32 c h.g _ W (o.g.below hb (Nat.le_refl _)) hr nn.g (fun e => by cases e) (by omega) (by omega)).mono ?_
    rintro e w' ⟨d', c', rfl, ho, hb'⟩
    exact ⟨d', c', rfl, BRow.own2 ho (sealL_rng o.g.2.1 hr.2.1), hb.trans (hb'.mono hb.size)⟩
  have HSM : Hid (∀ W d c, Below w.heap.size w W → BRow W (some ⟨d, 0, none⟩) 4 (sealL h.g (kcBytes (packL (noK (noE h))))) → Calls Tryz.prog 88 #[.slice x.e.a x.e.n x.e.c, .slice (some ⟨d, 0, none⟩) 4 c] W fun e w' => e = .returned (.bool (strEq h.e (sealL h.g (kcBytes (packL (noK (noE h))))))) ∧ Below w.heap.size w w') := fun W d c hb hr => by
    refine (l1Same_any x.e.a (some ⟨d, 0, none⟩) x.e.n x.e.c 4 c h.e _ W (o.e.below hb (Nat.le_refl _)) hr).mono ?_
    rintro e w' ⟨rfl, rfl⟩
    exact ⟨rfl, hb⟩
  clear o nn hf sb
  generalize strEq h.e (sealL h.g (kcBytes (packL (noK (noE h))))) = t at HSM ⊢
  generalize sealL h.g (kcBytes (packL (noK (noE h)))) = SL at HSE HSM
  generalize kcBytes (packL (noK (noE h))) = KB at HSH HSE
  unfold hvals at HSH
  go_enter Tryz.func45, Tryz.ntmps45
  go_wp2_with fail
  go_region_held3 (fun W => (W.cell? ⟨g, 0, none⟩ = some (.slice x.p.a x.p.n x.p.c) ∧ W.cell? ⟨g, 1, none⟩ = some (.int .i64 h.n1) ∧ W.cell? ⟨g, 2, none⟩ = some (.int .i64 h.n2) ∧ W.cell? ⟨g, 3, none⟩ = some (.int .i64 h.n3) ∧ W.cell? ⟨g, 4, none⟩ = some (.slice x.t.a x.t.n x.t.c) ∧ W.cell? ⟨g, 5, none⟩ = some (.int .i64 h.n5) ∧ W.cell? ⟨g, 6, none⟩ = some (.slice x.s.a x.s.n x.s.c) ∧ W.cell? ⟨g, 7, none⟩ = some (.slice x.r.a x.r.n x.r.c) ∧ W.cell? ⟨g, 8, none⟩ = some (.slice x.g.a x.g.n x.g.c) ∧ W.cell? ⟨g, 9, none⟩ = some (.slice x.e.a x.e.n x.e.c) ∧ W.cell? ⟨g, 10, none⟩ = some (.slice x.k.a x.k.n x.k.c)))
    (exact (unhide HRR) _ (by first | assumption | exact Below.refl w.heap.size w | exact (Below.refl w.heap.size w).drew | exact below_drewN (Below.refl w.heap.size w) _ | exact below_drewN (by assumption) _))
    (first
      | (go_at_call 84; refine ((unhide HSH) _ (by first | exact (Below.refl w.heap.size w).drew | exact below_drewN (Below.refl w.heap.size w) _)).mono ?_; rintro e w3 ⟨d3, c3, rfl, r3, K3⟩)
      | (go_at_call 83; refine ((unhide HSE) _ d3 c3 K3 r3).mono ?_; rintro e w4 ⟨d4, c4, rfl, r4, K4⟩)
      | (go_at_call 88; refine ((unhide HSM) _ d4 c4 K4 r4).mono ?_; rintro e w5 ⟨rfl, K5⟩))
  all_goals
    have HB5 := hide K5
    clear HRR HSH HSE HSM K3 K4 K5 r3 r4
    go_wp2_with fail
    go_ret
    exact ⟨rfl, unhide HB5⟩

end Go.Proofs.YtinkemfbmkldkaaGreatDoor

/- What is proved here: plain facts on writing bytes as hexadecimal texts; no program is named. -/
namespace Go.Proofs.YtinkemfbmkldkaaGreatDoor
set_option linter.unusedVariables false
set_option maxRecDepth 100000

/-- The sign of a digit. -/
def hd (v : Int) : Int := if v < 10 then 48 + v else 87 + v

/-- The signs of bytes. -/
def hexEnc : List Int → List Int
  | [] => []
  | x :: r => hd (x / 16) :: hd (x % 16) :: hexEnc r

theorem hexEnc_append : ∀ (a b : List Int), hexEnc (a ++ b) = hexEnc a ++ hexEnc b
  | [], b => rfl
  | x :: a, b => by simp [hexEnc, hexEnc_append a b]

theorem hexEnc_length : ∀ (a : List Int), (hexEnc a).length = 2 * a.length
  | [] => rfl
  | x :: a => by simp [hexEnc, hexEnc_length a]; omega

theorem hexEnc_snoc (xs : List Int) (k : Nat) (h : k < xs.length) : hexEnc (xs.take (k + 1)) = hexEnc (xs.take k) ++ [hd (xs.getD k 0 / 16), hd (xs.getD k 0 % 16)] := by
  rw [List.take_succ_eq_append_getElem h, hexEnc_append, getD_at xs k h]
  rfl

theorem hd_range (v : Int) (h0 : 0 ≤ v) (h1 : v < 16) : 0 ≤ hd v ∧ hd v ≤ 255 := by unfold hd; split <;> omega

theorem hexEnc_range : ∀ (a : List Int), (∀ x ∈ a, 0 ≤ x ∧ x ≤ 255) → ∀ y ∈ hexEnc a, 0 ≤ y ∧ y ≤ 255
  | [], _, y, hy => by simp [hexEnc] at hy
  | x :: a, h, y, hy => by
    have hx := h x (List.mem_cons_self ..)
    rcases List.mem_cons.1 hy with rfl | hy
    · exact hd_range _ (by omega) (by omega)
    · rcases List.mem_cons.1 hy with rfl | hy
      · exact hd_range _ (by omega) (by omega)
      · exact hexEnc_range a (fun z hz => h z (List.mem_cons_of_mem _ hz)) y hy

/-- The sixteen digits. -/
def digs : ByteArray := ⟨#[48, 49, 50, 51, 52, 53, 54, 55, 56, 57, 97, 98, 99, 100, 101, 102]⟩

theorem digs_at : ∀ v : Fin 16, (digs[v.val]'(by have := v.isLt; exact this)).toNat = (hd (v.val : Int)).toNat := by decide

theorem digs_slice : ∀ v : Fin 16, (digs.extract v.val (v.val + 1)).data.toList = [UInt8.ofNat (hd (v.val : Int)).toNat] := by decide

theorem str_snoc (L : List Int) (v : Int) (h0 : 0 ≤ v) (h1 : v < 16) : strOfNums L ++ digs.extract v.toNat (v.toNat + 1) = strOfNums (L ++ [hd v]) := by
  obtain ⟨n, rfl⟩ := Int.eq_ofNat_of_zero_le h0
  have h := digs_slice ⟨n, by omega⟩
  simp only at h
  apply ByteArray.ext
  rw [ByteArray.data_append, Int.toNat_natCast]
  apply Array.ext'
  rw [Array.toList_append, h]
  simp [strOfNums]

end Go.Proofs.YtinkemfbmkldkaaGreatDoor

/- What is proved here: what the model's l1Digit answers. -/
namespace Go.Proofs.YtinkemfbmkldkaaGreatDoor
open Go.RowKit
set_option linter.unusedVariables false
set_option maxRecDepth 100000

end Go.Proofs.YtinkemfbmkldkaaGreatDoor

/- What is proved here: what the model's l1Hex answers for slices of at most 2^20 bytes. -/
namespace Go.Proofs.YtinkemfbmkldkaaGreatDoor
open Go.RowKit
set_option linter.unusedVariables false
set_option maxRecDepth 100000

theorem u8_div (x : Int) (h0 : 0 ≤ x) (h1 : x ≤ 255) : IntKind.u8.wrap (x.tdiv 16) = x / 16 ∧ x.tmod 16 = x % 16 := by
  have e : x.tdiv 16 = x / 16 := Int.tdiv_eq_ediv_of_nonneg h0
  have e2 : x.tmod 16 = x % 16 := Int.tmod_eq_emod_of_nonneg h0
  rw [e, e2]
  refine ⟨?_, rfl⟩
  simp [IntKind.wrap, IntKind.bits, IntKind.signed]
  omega

/-- The code and the text that HexOf gives. -/
def hoCode (xs : List Int) : Int := if 1200 < xs.length then 2 else 0
def hoText (xs : List Int) : ByteArray := if 1200 < xs.length then strOfNums [] else strOfNums (hexEnc xs)

end Go.Proofs.YtinkemfbmkldkaaGreatDoor

/- What is proved here: what impl.HexOf answers for slices of at most 2^20 bytes: the code and the text. -/
namespace Go.Proofs.YtinkemfbmkldkaaGreatDoor
open Go.RowKit
set_option linter.unusedVariables false
set_option maxRecDepth 100000

theorem idx_dig (n : Nat) (hn : n < 16) (W : World) : (Instr.index 9 (.string { data := #[48, 49, 50, 51, 52, 53, 54, 55, 56, 57, 97, 98, 99, 100, 101, 102] }) (.int .u8 (n : Int))).run Tryz.prog W = .ok (.int .u8 (hd (n : Int))) W := by
  rcases (by omega : n = 0 ∨ n = 1 ∨ n = 2 ∨ n = 3 ∨ n = 4 ∨ n = 5 ∨ n = 6 ∨ n = 7 ∨ n = 8 ∨ n = 9 ∨ n = 10 ∨ n = 11 ∨ n = 12 ∨ n = 13 ∨ n = 14 ∨ n = 15) with r | r | r | r | r | r | r | r | r | r | r | r | r | r | r | r <;> subst r <;> kernel_rfl

theorem idx_int (v : Int) (h0 : 0 ≤ v) (h1 : v < 16) (W : World) : (Instr.index 9 (.string { data := #[48, 49, 50, 51, 52, 53, 54, 55, 56, 57, 97, 98, 99, 100, 101, 102] }) (.int .u8 v)).run Tryz.prog W = .ok (.int .u8 (hd v)) W := by
  obtain ⟨n, rfl⟩ := Int.eq_ofNat_of_zero_le h0
  exact idx_dig n (by omega) W

theorem news2 (w : World) (x y : Value) (t : TypeId) : ∀ (j : Nat) (u : Value), [x, y][j]? = some u → (w.alloc (.cells #[x, y] t)).cell? ((⟨w.heap.size, 0, none⟩ : Addr).add j) = some u := by
  intro j u hj
  rw [add_none, Nat.zero_add, World.cell?_alloc_new]
  match j, hj with
  | 0, hj => simpa using hj
  | 1, hj => simpa using hj

set_option maxHeartbeats 1000000 in
theorem implHexOf_pos (b off len cap : Nat) (xs : List Int) (w : World) (h : BRow w (some ⟨b, off, none⟩) len xs) (hl : len ≤ 1200) (hp : 0 < len) :
    Calls Tryz.prog 87 #[.slice (some ⟨b, off, none⟩) len cap] w fun e w' => e = .returned (.agg #[.int .i64 0, .string (strOfNums (hexEnc xs))]) ∧ Below w.heap.size w w' := by
  obtain ⟨i0, hi, hz0, hz1, hz2⟩ := info_parts info5
  have hxl := h.1
  have HX := hide h
  clear h
  go_enter Tryz.func87, Tryz.ntmps87
  go_wp2_with (at_make; refine wpList_make_own _ rfl _ _ 22 rfl (w.heap.size + 1) 5 i0 (.int .u8 0) 1 Tryz.underlying22 hi hz0 hz1 _ _ _ (2 * len) rfl rfl (by omega) ?c1 ?c2 ?c3 ?_)
  case c1 => rw [hz2]; omega
  case c2 => unfold maxLen; omega
  case c3 => simp
  intro w1 hown hgrow
  have hbel : Below w.heap.size w w1 := ((Below.refl _ _).alloc (Nat.le_refl _) _).grown hgrow (by simp) (fun k e => by cases e)
  have hres : w1.heap[w.heap.size]? = some (.cells #[.int .i64 0, .string (strOfNums [])] 99 (0, 0)) := by
    rw [hgrow.block _ (by simp) (by simp)]
    show (w.heap.push _)[w.heap.size]? = _
    simp [strOfNums]
  have HO := hide hown
  have HB := hide hbel
  have HR := hide hres
  clear hown hgrow hbel hres
  go_wp2_with fail
  go_loopw [3, 16] (fun v i wr => ∃ (k : Nat) (da : Option Addr) (dc : Nat), k ≤ len ∧ i = .int .i64 k ∧ v = .slice da (2 * k) dc ∧ wr.ownsRow (w.heap.size + 1) 5 1 (.slice da (2 * k) dc) (2 * k) ((hexEnc (xs.take k)).map (Value.int .u8)) ∧
      Below w.heap.size w wr ∧ wr.heap[w.heap.size]? = some (.cells #[.int .i64 0, .string (strOfNums [])] 99 (0, 0))) (fun _ i _ => len - (intOf i).toNat)
  case atStart => exact ⟨0, _, _, Nat.zero_le _, rfl, rfl, by simpa [hexEnc] using unhide HO, unhide HB, unhide HR⟩
  case round =>
    obtain ⟨k, da, dc, hk, rfl, rfl, hown, hbel, hres⟩ := hrel
    by_cases hlt : k < len
    · have hcx : wr.cell? ⟨b, off + k, none⟩ = some (.int .u8 (xs.getD k 0)) := by
        have := ((unhide HX).below hbel (Nat.le_refl _)).2.2.2 _ rfl k hlt
        rwa [add_none] at this
      have hxk := (unhide HX).2.1 (xs.getD k 0) (by rw [getD_at _ _ (by omega)]; exact List.getElem_mem _)
      have HS := hide (hexEnc_snoc xs k (by omega))
      generalize xs.getD k 0 = x at hcx hxk HS
      go_wp2_with fail
      clear hcx
      have e2 := u8_and15 (x := x) hxk.1 (by omega)
      have j1 := idx_int (x / 16) (by omega) (by omega)
      have j2 := idx_int (x % 16) (by omega) (by omega)
      have hsz : w.heap.size < wr.heap.size := lt_of_block hres
      have HE1 := hide hbel
      have HE2 := hide hres
      clear hbel hres
      go_region_held3 (fun w' => True) (trivial) ((refine step_append_lies _ (by rfl) (.tmp 20) (.tmp 27) 22 (by rfl) (w.heap.size + 1) 5 i0 (.int .u8 0) 1 1 Tryz.underlying22 hi hz0 hz1 hz2 rfl (by decide) _ _ _ (by rfl) (by first | exact hown.alloc _ | exact (hown.alloc _).drew) ⟨wr.heap.size, 0, none⟩ 2 2 [.int .u8 (hd (x / 16)), .int .u8 (hd (x % 16))] (by rfl) rfl (by exact news2 _ _ _ _) (by simp [Value.oneCell']) (by omega) (by unfold maxLen; omega) (by omega) (by simp; omega) _ rfl ?_; intro g cap2 w2 hown2 hgrow2 hat2 hlt2))
      all_goals
        have hrow : ∀ q, (Value.slice da (2 * k) dc).ownBlock = some q → w.heap.size < q := fun q e => by have := (hown.lt q e).1; omega
        have hb2 : Below w.heap.size w w2 := (((unhide HE1).alloc (by omega) _).drew).grown hgrow2 (by simp; omega) (fun q e => by have := hrow q e; omega)
        have hr2 : w2.heap[w.heap.size]? = some (.cells #[.int .i64 0, .string (strOfNums [])] 99 (0, 0)) := by
          rw [hgrow2.block _ (by simp; omega) (fun e => by have := hrow _ e.symm; omega)]
          exact (Below.heap_alloc wr _ _ hsz).trans (unhide HE2)
        have ho2 : w2.ownsRow (w.heap.size + 1) 5 1 (.slice (some ⟨g, 0, none⟩) (2 * (k + 1)) cap2) (2 * (k + 1)) ((hexEnc (xs.take (k + 1))).map (Value.int .u8)) := by
          rw [unhide HS, List.map_append, show 2 * (k + 1) = 2 * k + 2 from by omega]
          exact hown2
        have HB2 := hide hb2
        have HR2 := hide hr2
        have HO2 := hide ho2
        clear hb2 hr2 ho2 hown2 hgrow2 hown hrow
        go_wp2_with fail
        go_roundw
        case rel => exact ⟨k + 1, some ⟨g, 0, none⟩, cap2, by omega, by go_num, rfl, unhide HO2, unhide HB2, unhide HR2⟩
        case measure => simp [intOf]; omega
    · obtain rfl : k = len := by omega
      rw [List.take_of_length_le (by omega)] at hown
      have hcv := conv_any (P := Tryz.prog) wr 22 5 9 Tryz.underlying22 Tryz.underlying5 Tryz.underlying9 da (2 * k) dc (hexEnc xs) (BRow.own2 hown (hexEnc_range xs (unhide HX).2.1))
      obtain ⟨q0, q1, f0, f1⟩ := res_facts hres
      have HBE := hide hbel
      clear hown hres hbel
      generalize hT : strOfNums (hexEnc xs) = T at hcv
      have HT := hide hT
      clear hT
      go_wp2_with fail
      exact bodyPost_ret (v := .agg #[.int .i64 0, .string T]) (by simp [results, Tryz.results87, go_sem, q0, q1]) rfl ⟨by rw [unhide HT], ((unhide HBE).setCell (by simp) _).setCell (by simp) _⟩

set_option maxHeartbeats 1000000 in
theorem implHexOf_zero (a : Option Addr) (cap : Nat) (w : World) :
    Calls Tryz.prog 87 #[.slice a 0 cap] w fun e w' => e = .returned (.agg #[.int .i64 0, .string (strOfNums [])]) ∧ Below w.heap.size w w' := by
  obtain ⟨i0, hi, hz0, hz1, hz2⟩ := info_parts info5
  go_enter Tryz.func87, Tryz.ntmps87
  go_wp2_with (at_make; refine wpList_make_own _ rfl _ _ 22 rfl (w.heap.size + 1) 5 i0 (.int .u8 0) 1 Tryz.underlying22 hi hz0 hz1 _ _ _ 0 rfl rfl rfl ?c1 ?c2 ?c3 ?_)
  case c1 => omega
  case c2 => unfold maxLen; omega
  case c3 => simp
  intro w1 hown hgrow
  have hbel : Below w.heap.size w w1 := ((Below.refl _ _).alloc (Nat.le_refl _) _).grown hgrow (by simp) (fun k e => by cases e)
  have hres : w1.heap[w.heap.size]? = some (.cells #[.int .i64 0, .string (strOfNums [])] 99 (0, 0)) := by
    rw [hgrow.block _ (by simp) (by simp)]
    show (w.heap.push _)[w.heap.size]? = _
    simp [strOfNums]
  obtain ⟨q0, q1, f0, f1⟩ := res_facts hres
  have hcv := conv_any (P := Tryz.prog) w1 22 5 9 Tryz.underlying22 Tryz.underlying5 Tryz.underlying9 (some ⟨w.heap.size + 1, 0, none⟩) 0 0 [] ⟨rfl, fun x hx => by simp at hx, fun _ => rfl, fun x hx i hi => by omega⟩
  have HB := hide hbel
  clear hown hgrow hbel hres
  generalize hT : strOfNums [] = T at hcv q1
  have HT := hide hT
  clear hT
  go_wp2_with fail
  refine wp_loop_rounds 1 ?_
  rw [rounds_succ]
  go_wp2_with fail
  exact bodyPost_ret (v := .agg #[.int .i64 0, .string T]) (by simp [results, Tryz.results87, go_sem, q0, q1]) rfl ⟨by rw [unhide HT], ((unhide HB).setCell (by simp) _).setCell (by simp) _⟩

set_option maxHeartbeats 1000000 in
theorem implHexOf_any (a : Option Addr) (len cap : Nat) (xs : List Int) (w : World) (h : BRow w a len xs) (hl : len ≤ 1048576) :
    Calls Tryz.prog 87 #[.slice a len cap] w fun e w' => e = .returned (.agg #[.int .i64 (hoCode xs), .string (hoText xs)]) ∧ Below w.heap.size w w' := by
  have hxl := h.1
  by_cases hm : 1200 < len
  · have e1 : hoCode xs = 2 := if_pos (by omega)
    have e2 : hoText xs = strOfNums [] := if_pos (by omega)
    rw [e1, e2]
    clear h e1 e2
    go_enter Tryz.func87, Tryz.ntmps87
    go_wp2_with fail
    exact bodyPost_ret (v := .agg #[.int .i64 2, .string (strOfNums [])]) (by simp [results, Tryz.results87, go_sem, strOfNums]) rfl ⟨rfl, (Below.refl _ _).alloc (Nat.le_refl _) _⟩
  · have e1 : hoCode xs = 0 := if_neg (by omega)
    have e2 : hoText xs = strOfNums (hexEnc xs) := if_neg (by omega)
    rw [e1, e2]
    rcases Nat.eq_zero_or_pos len with h0 | hp
    · subst h0
      have hx : xs = [] := List.length_eq_zero_iff.1 hxl
      subst hx
      exact implHexOf_zero a cap w
    · obtain ⟨b, off, rfl, _, _⟩ := h.at hp
      exact implHexOf_pos b off len cap xs w h (by omega) hp

end Go.Proofs.YtinkemfbmkldkaaGreatDoor

/- What is proved here: what the program's bearing answers: nil where two slices of bytes are the same, else a notBorne with the text of an address. -/
namespace Go.Proofs.YtinkemfbmkldkaaGreatDoor
open Go.RowKit
set_option linter.unusedVariables false
set_option maxRecDepth 100000

theorem fldT1 (x y : Value) (w : World) : (Instr.field 99 (.agg #[x, y]) 1).run Tryz.prog w = .ok y w := by kernel_rfl

/-- What bearing answers. -/
def brV (xs ys zs : List Int) : Value := if strEq ys zs then .nilIface else .iface 95 (.agg #[.string (hoText xs)])

set_option maxHeartbeats 2000000 in
theorem bearing_any (a : Option Addr) (n c : Nat) (b : Option Addr) (m d : Nat) (e : Option Addr) (k f : Nat) (xs ys zs : List Int) (w : World) (h : BRow w a n xs) (hy : BRow w b m ys) (hz : BRow w e k zs) (hn : n ≤ 1048576) :
    Calls Tryz.prog 40 #[.slice a n c, .slice b m d, .slice e k f] w fun ev w' => ev = .returned (brV xs ys zs) ∧ Below w.heap.size w w' := by
  have hf := fldT1
  have HS := hide (fun (W : World) (hb : Below w.heap.size w W) => implSame_any b e m d k f ys zs W (hy.below hb (Nat.le_refl _)) (hz.below hb (Nat.le_refl _)))
  have HH := hide (fun (W : World) (hb : Below w.heap.size w W) => implHexOf_any a n c xs W (h.below hb (Nat.le_refl _)) hn)
  have HE : Hid (brV xs ys zs = if strEq ys zs then .nilIface else .iface 95 (.agg #[.string (hoText xs)])) := rfl
  generalize brV xs ys zs = R at HE ⊢
  generalize hoText xs = T at HE HH
  generalize hoCode xs = C at HH
  clear h hy hz
  generalize strEq ys zs = q at HE HS
  have D1 := hide ((unhide HS) w (Below.refl _ _))
  clear HS
  go_enter Tryz.func40, Tryz.ntmps40
  go_wp2_with fail
  refine (unhide D1).mono ?_
  rintro ev w' ⟨rfl, rfl⟩
  cases q
  · have HE2 : Hid (R = .iface 95 (.agg #[.string T])) := unhide HE
    have D2 := hide ((unhide HH) w' (Below.refl _ _))
    clear HE HH D1
    go_wp2_with fail
    refine (unhide D2).mono ?_
    rintro ev w2 ⟨rfl, b2⟩
    go_wp2_with fail
    go_ret
    exact ⟨by rw [unhide HE2]; rfl, b2⟩
  · have HE2 : Hid (R = .nilIface) := unhide HE
    clear HE HH D1
    go_wp2_with fail
    go_ret
    exact ⟨by rw [unhide HE2]; rfl, Below.refl _ _⟩

end Go.Proofs.YtinkemfbmkldkaaGreatDoor
