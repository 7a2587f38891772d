/- What is proved here: what the model's l5Signers answers: the first fault of a list of signers. -/
import Derived.Test.YtbncoiljklagkaaGreatDoorJ6
import Derived.WalkKit
import Derived.WalkSmall
import Derived.Deep.RegionWith
import Derived.BigQuiet
import Derived.Deep.QuietTactic
import Derived.WalkSpells
import Derived.Test.YtbncoiljklagkaaGreatDoorJ2
import Derived.Deep.DeepCutAuto
import Derived.Deep.CutBlock
import Derived.Test.YtbncoiljklagkaaGreatDoorJ13
import Derived.Test.YtbncoiljklagkaaGreatDoorJ18
import Derived.Test.YtbncoiljklagkaaGreatDoorJ22
import Derived.Test.YtbncoiljklagkaaGreatDoorJ8
import Derived.Test.YtbncoiljklagkaaGreatDoorJ4
import Derived.Deep.RegionHeld3
import Derived.Test.YtbncoiljklagkaaGreatDoorJ17
import Derived.Test.YtbncoiljklagkaaGreatDoorJ12
namespace Go.Proofs.YtbncoiljklagkaaGreatDoor
open Go.RowKit
set_option linter.unusedVariables false
set_option maxRecDepth 100000

set_option maxHeartbeats 2000000 in
theorem l5Signers_any (a : Option Addr) (len cap : Nat) (zss : List (List Int)) (w : World) (h : BsRow w a len zss) (hl : len ≤ 1048576) :
    Calls Tryz.prog 29 #[.slice a len cap] w fun e w' => e = .returned (.int .i64 (sgFlt zss)) ∧ ∃ n, w' = w.drewN n := by
  have hil := h.1
  by_cases h2 : 7 < len
  · have HE : Hid (sgFlt zss = 2) := by show _ = _; unfold sgFlt; rw [if_pos (by rw [hil]; exact h2)]
    have hd : decide ((7 : Int) < (len : Int)) = true := decide_eq_true (by omega)
    clear h hil
    go_enter Tryz.func29, Tryz.ntmps29
    go_wp2_with fail
    go_ret
    exact ⟨ret_int (unhide HE).symm, 0, rfl⟩
  · have d2 : decide ((7 : Int) < (len : Int)) = false := decide_eq_false (by omega)
    have HE : Hid (sgFlt zss = sgFrom zss 0 zss) := by show _ = _; unfold sgFlt; rw [if_neg (by omega)]
    rcases Nat.eq_zero_or_pos len with h0 | hp
    · subst h0
      have hn : zss = [] := List.length_eq_zero_iff.1 hil
      subst hn
      clear h
      go_enter Tryz.func29, Tryz.ntmps29
      go_wp2_with fail
      refine wp_loop_rounds 1 ?_
      rw [rounds_succ]
      go_wp2_with fail
      go_ret
      exact ⟨ret_int (by rw [unhide HE]; rfl), 0, rfl⟩
    · obtain ⟨b, off, rfl, hb, hc⟩ := h.at hp
      have HC := hide hc
      have HL := hide hil
      clear h hc hil
      go_enter Tryz.func29, Tryz.ntmps29
      go_wp2_with fail
      go_loopw [3] (fun i wr => ∃ k n : Nat, k ≤ len ∧ i = .int .i64 k ∧ sgFrom zss 0 zss = sgFrom zss k (zss.drop k) ∧ wr = w.drewN n) (fun i _ => len - (intOf i).toNat)
      case atStart => exact ⟨0, 0, Nat.zero_le _, rfl, by simp, rfl⟩
      case round =>
        obtain ⟨k, n, hk, rfl, hpre, hw⟩ := hrel
        have hbw : Below w.heap.size w wr := by rw [hw]; exact below_drewN (Below.refl _ _) n
        have HW := hide hw
        clear hw
        by_cases hlt : k < len
        · obtain ⟨z, hit⟩ : ∃ z, zss[k]? = some z := ⟨_, List.getElem?_eq_getElem (by rw [unhide HL]; exact hlt)⟩
          have hst := sgFrom_step zss k z hit
          rw [← hpre] at hst
          obtain ⟨s1, n1, d1, p0, r1⟩ := ((unhide HC) k z hit).below hbw (Nat.le_refl _)
          have hzl : z.length = n1 := r1.1
          have HS := hide hst
          have i1 : (0 : Int) ≤ (k : Int) := by omega
          have i2 : (k : Int) < (len : Int) := by omega
          by_cases h4 : n1 = 4
          · have d4 : (((n1 : Nat) : Int) != 4) = false := by simp [h4]
            by_cases k0 : k = 0
            · have e : sgBad zss k z = false := by unfold sgBad; simp [hzl, h4, k0]
              rw [e, if_neg (by simp)] at HS
              have dk : decide ((0 : Int) < (k : Int)) = false := decide_eq_false (by omega)
              have dk' : decide (0 < k) = false := decide_eq_false (by omega)
              clear r1 hst hpre hit hzl e k0 h4 hbw
              go_wp2_with fail
              go_quiet (fail)
              all_goals
                go_wp2_with fail
                go_roundw
                case rel => exact ⟨k + 1, _, by omega, by go_num, unhide HS, by rw [unhide HW]; first | rfl | exact World.drewN_drewN ..⟩
                case measure => simp [intOf]; omega
            · obtain ⟨j, hj⟩ : ∃ j : Nat, k - 1 = j := ⟨_, rfl⟩
              obtain ⟨y, hiy⟩ : ∃ y, zss[j]? = some y := ⟨_, List.getElem?_eq_getElem (by rw [unhide HL]; omega)⟩
              obtain ⟨s2, n2, d2', q0, r2⟩ := ((unhide HC) j y hiy).below hbw (Nat.le_refl _)
              have hgd : zss.getD (k - 1) [] = y := by rw [hj, List.getD_eq_getElem?_getD, hiy]; rfl
              have e : sgBad zss k z = !aheadB y z := by unfold sgBad; rw [hgd, hzl, h4]; simp; omega
              rw [e] at HS
              have dk : decide ((0 : Int) < (k : Int)) = true := decide_eq_true (by omega)
              have dk' : decide (0 < k) = true := decide_eq_true (by omega)
              have j1 : (0 : Int) ≤ (j : Int) := by omega
              have j2 : (j : Int) < (len : Int) := by omega
              have hwr : IntKind.i64.wrap ((k : Int) - 1) = (j : Int) := by rw [IntKind.wrap_i64]; omega
              have HA := hide (fun (m : Nat) => l1Ahead_any s2 s1 n2 d2' n1 d1 y z (wr.drewN m) (r2.below (B := wr.heap.size) (below_drewN (Below.refl _ _) m) (Nat.le_refl _)) (r1.below (B := wr.heap.size) (below_drewN (Below.refl _ _) m) (Nat.le_refl _)))
              clear r1 r2 hst hpre hit hiy hzl hgd e k0 h4 hj hbw
              generalize aheadB y z = sb at HA HS
              cases sb
              · go_wp2_with fail
                go_quiet ((go_at_call 44; exact Calls.quiet_of_same ((unhide HA) _)))
                all_goals
                  go_wp2_with fail
                  go_ret
                  exact ⟨ret_int (by rw [unhide HE, unhide HS]; rfl), _, by rw [unhide HW]; first | rfl | exact World.drewN_drewN ..⟩
              · go_wp2_with fail
                go_quiet ((go_at_call 44; exact Calls.quiet_of_same ((unhide HA) _)))
                all_goals
                  go_wp2_with fail
                  go_roundw
                  case rel => exact ⟨k + 1, _, by omega, by go_num, by rw [unhide HS]; rfl, by rw [unhide HW]; first | rfl | exact World.drewN_drewN ..⟩
                  case measure => simp [intOf]; omega
          · have d4 : (((n1 : Nat) : Int) != 4) = true := by simp; omega
            have e : sgBad zss k z = true := by unfold sgBad; simp [hzl, h4]
            rw [e, if_pos rfl] at HS
            clear r1 hst hpre hit hzl e h4 hbw
            go_wp2_with fail
            go_quiet (fail)
            all_goals
              go_wp2_with fail
              go_ret
              exact ⟨ret_int (by rw [unhide HE, unhide HS]), _, by rw [unhide HW]; first | rfl | exact World.drewN_drewN ..⟩
        · obtain rfl : k = len := by omega
          have e := sgFrom_end zss k (by rw [unhide HL]; exact Nat.le_refl _)
          rw [e] at hpre
          have HP := hide hpre
          clear e hpre
          go_wp2_with fail
          go_ret
          exact ⟨ret_int (by rw [unhide HE, unhide HP]), n, unhide HW⟩

end Go.Proofs.YtbncoiljklagkaaGreatDoor

/- What is proved here: what the model's l5Number, l5Fault and HeaderFault answer: the fault of a header. -/
namespace Go.Proofs.YtbncoiljklagkaaGreatDoor
open Go.RowKit
set_option linter.unusedVariables false
set_option maxRecDepth 100000

theorem l5Number_any (v : Int) (w : World) : Calls Tryz.prog 27 #[.int .i64 v] w fun e w' => e = .returned (.bool (within v 0 1099511627776)) ∧ w' = w := by
  have HI := hide (in_any v 0 1099511627776 w)
  unfold within
  generalize decide (0 ≤ v ∧ v ≤ 1099511627776) = c at HI
  go_enter Tryz.func27, Tryz.ntmps27
  go_wp2_with fail
  refine (unhide HI).mono ?_
  rintro e w' ⟨rfl, rfl⟩
  go_wp2_with fail
  go_ret
  exact ⟨rfl, rfl⟩

set_option maxRecDepth 100000 in
set_option maxHeartbeats 8000000 in
theorem l5Fault_any (g : Nat) (x : HS) (h : Hd) (T : TypeId) (w : World) (sb : SBlk w g (hvals x h).toList T) (o : HOk w x h) (m : HSm h) :
    Calls Tryz.prog 15 #[.pointer (some ⟨g, 0, none⟩)] w fun e w' => e = .returned (.int .i64 (hdFlt h)) ∧ ∃ n, w' = w.drewN n := by
  obtain ⟨x0, x1, x2, x3, x4, x5, x6, x7, x8, x9, x10⟩ := hcells sb
  have HC := hide (hcells sb)
  obtain ⟨b1, e1⟩ : ∃ b, (((x.p.n : Nat) : Int) != 32) = b := ⟨_, rfl⟩
  obtain ⟨b2, e2⟩ : ∃ b, (((x.t.n : Nat) : Int) != 0) = b := ⟨_, rfl⟩
  obtain ⟨b3, e3⟩ : ∃ b, (((x.t.n : Nat) : Int) != 4) = b := ⟨_, rfl⟩
  obtain ⟨b4, e4⟩ : ∃ b, (((x.r.n : Nat) : Int) != 32) = b := ⟨_, rfl⟩
  obtain ⟨b5, e5⟩ : ∃ b, (((x.g.n : Nat) : Int) != 4) = b := ⟨_, rfl⟩
  obtain ⟨b6, e6⟩ : ∃ b, (((x.e.n : Nat) : Int) != 0) = b := ⟨_, rfl⟩
  obtain ⟨b7, e7⟩ : ∃ b, (((x.e.n : Nat) : Int) != 4) = b := ⟨_, rfl⟩
  have HL : Hid (hdLen h = (b1 || (b2 && b3) || b4 || b5 || (b6 && b7))) := by
    show _ = _
    unfold hdLen
    rw [o.p.1, o.t.1, o.r.1, o.g.1, o.e.1, e1, e2, e3, e4, e5, e6, e7]
  obtain ⟨c1, f1⟩ : ∃ c, within h.n1 0 1099511627776 = c := ⟨_, rfl⟩
  obtain ⟨c2, f2⟩ : ∃ c, within h.n2 0 1099511627776 = c := ⟨_, rfl⟩
  obtain ⟨c3, f3⟩ : ∃ c, within h.n3 0 9 = c := ⟨_, rfl⟩
  obtain ⟨c5, f5⟩ : ∃ c, within h.n5 0 2 = c := ⟨_, rfl⟩
  have HN : Hid (hdNum h = (c1 && c2 && c3 && c5)) := by
    show _ = _
    unfold hdNum
    rw [f1, f2, f3, f5]
  have D1 := hide (fun W => l5Number_any h.n1 W)
  have D2 := hide (fun W => l5Number_any h.n2 W)
  have D3 := hide (fun W => in_any h.n3 0 9 W)
  have D5 := hide (fun W => in_any h.n5 0 2 W)
  simp only [f1] at D1
  simp only [f2] at D2
  simp only [show decide (0 ≤ h.n3 ∧ h.n3 ≤ 9) = c3 from f3] at D3
  simp only [show decide (0 ≤ h.n5 ∧ h.n5 ≤ 2) = c5 from f5] at D5
  have HSG := hide (l5Signers_any x.s.a x.s.n x.s.c h.s w o.s (by have := o.s.1; have := m.s; omega))
  have HE : Hid (hdFlt h = if hdLen h = true then 1 else if hdNum h = false then 3 else if sgFlt h.s = 0 then coFlt h.k else sgFlt h.s) := rfl
  have HK := hide o.k
  have hkl : x.k.n ≤ 1048576 := by have := o.k.1; have := m.k; omega
  clear o m f1 f2 f3 f5 sb
  generalize sgFlt h.s = q at HSG HE
  go_enter Tryz.func15, Tryz.ntmps15
  go_upto_region 1 with fail
  go_cut [58] (fun s wx => s = .bool (b1 || (b2 && b3) || b4 || b5 || (b6 && b7)) ∧ wx = w)
  case first =>
    cases b1
    case true =>
      go_wp2_with fail
      go_meet
      exact ⟨rfl, rfl⟩
    cases b4
    case true =>
      cases b2
      · go_wp2_with fail
        go_meet
        exact ⟨by simp, rfl⟩
      cases b3
      all_goals
        go_wp2_with fail
        go_meet
        exact ⟨by simp, rfl⟩
    cases b5
    case true =>
      cases b2
      · go_wp2_with fail
        go_meet
        exact ⟨by simp, rfl⟩
      cases b3
      all_goals
        go_wp2_with fail
        go_meet
        exact ⟨by simp, rfl⟩
    cases b6
    · cases b2
      · go_wp2_with fail
        go_meet
        exact ⟨by simp, rfl⟩
      cases b3
      all_goals
        go_wp2_with fail
        go_meet
        exact ⟨by simp, rfl⟩
    cases b2
    · go_wp2_with fail
      go_meet
      exact ⟨by simp, rfl⟩
    cases b3
    all_goals
      go_wp2_with fail
      go_meet
      exact ⟨by simp, rfl⟩
  case rest =>
    obtain ⟨rfl, hwc⟩ := hcut
    rw [hwc]
    clear hwc e1 e2 e3 e4 e5 e6 e7
    generalize hlb : (b1 || (b2 && b3) || b4 || b5 || (b6 && b7)) = lb
    rw [hlb] at HL
    clear hlb
    cases lb
    case true =>
      go_wp2_with fail
      go_ret
      exact ⟨ret_int (by rw [unhide HE, unhide HL, if_pos rfl]), 0, rfl⟩
    go_wp2_with fail
    refine ((unhide D1) _).mono ?_
    rintro e w' ⟨rfl, rfl⟩
    cases c1
    · go_wp2_with fail
      go_ret
      exact ⟨ret_int (by rw [unhide HE, unhide HL, unhide HN]; simp), 0, rfl⟩
    go_wp2_with fail
    refine ((unhide D2) _).mono ?_
    rintro e w' ⟨rfl, rfl⟩
    cases c2
    · go_wp2_with fail
      go_ret
      exact ⟨ret_int (by rw [unhide HE, unhide HL, unhide HN]; simp), 0, rfl⟩
    go_wp2_with fail
    refine ((unhide D3) _).mono ?_
    rintro e w' ⟨rfl, rfl⟩
    cases c3
    · go_wp2_with fail
      go_ret
      exact ⟨ret_int (by rw [unhide HE, unhide HL, unhide HN]; simp), 0, rfl⟩
    go_wp2_with fail
    refine ((unhide D5) _).mono ?_
    rintro e w' ⟨rfl, rfl⟩
    cases c5
    · go_wp2_with fail
      go_ret
      exact ⟨ret_int (by rw [unhide HE, unhide HL, unhide HN]; simp), 0, rfl⟩
    go_wp2_with fail
    refine (unhide HSG).mono ?_
    rintro e w1 ⟨rfl, n1, rfl⟩
    by_cases hq : q = 0
    · subst hq
      have HE2 : Hid (hdFlt h = coFlt h.k) := by
        show _ = _
        rw [unhide HE, unhide HL, unhide HN]; simp
      clear HE HL HN D1 D2 D3 D5 HSG x0 x1 x2 x3 x4 x5 x6 x7 x8 x9
      by_cases h7 : 7 < x.k.n
      · have d7 : decide ((7 : Int) < (x.k.n : Int)) = true := decide_eq_true (by omega)
        go_wp2_with fail
        go_ret
        refine ⟨ret_int ?_, n1, rfl⟩
        rw [unhide HE2]; unfold coFlt; rw [if_pos (by rw [(unhide HK).1]; exact h7)]
      have d7 : decide ((7 : Int) < (x.k.n : Int)) = false := decide_eq_false (by omega)
      have HE3 : Hid (hdFlt h = coFrom h.k) := by
        show _ = _
        rw [unhide HE2]; unfold coFlt; rw [if_neg (by rw [(unhide HK).1]; exact h7)]
      clear HE2
      go_wp2_with fail
      go_loop [4] (fun i => ∃ k : Nat, k ≤ x.k.n ∧ i = .int .i64 k ∧ coFrom h.k = coFrom (h.k.drop k)) (fun i => x.k.n - (intOf i).toNat)
      case atStart => exact ⟨0, Nat.zero_le _, rfl, by simp⟩
      case round =>
        obtain ⟨k, hk, rfl, hpre⟩ := hrel
        by_cases hlt : k < x.k.n
        · obtain ⟨z, hit⟩ : ∃ z, h.k[k]? = some z := ⟨_, List.getElem?_eq_getElem (by rw [(unhide HK).1]; exact hlt)⟩
          have hst := coFrom_step h.k k z hit
          rw [← hpre] at hst
          obtain ⟨bb, off, hba, _, hcc⟩ := (unhide HK).at (by omega)
          obtain ⟨s1, m1, d1, p0, r1⟩ := hcc k z hit
          have hzl : z.length = m1 := r1.1
          rw [hzl] at hst
          have HS := hide hst
          have x10' := x10
          rw [hba] at x10'
          have i1 : (0 : Int) ≤ (k : Int) := by omega
          have i2 : (k : Int) < (x.k.n : Int) := by omega
          clear r1 hst hpre hit hzl hcc hba x10
          by_cases h8 : m1 = 8
          · have d8 : (((m1 : Nat) : Int) != 8) = false := by simp [h8]
            rw [if_pos h8] at HS
            clear h8
            go_wp2_with fail
            go_round
            case rel => exact ⟨k + 1, by omega, by go_num, unhide HS⟩
            case measure => simp [intOf]; omega
          · have d8 : (((m1 : Nat) : Int) != 8) = true := by simp; omega
            rw [if_neg h8] at HS
            clear h8
            go_wp2_with fail
            go_ret
            exact ⟨ret_int (by rw [unhide HE3, unhide HS]), n1, rfl⟩
        · obtain rfl : k = x.k.n := by omega
          have e := coFrom_end h.k x.k.n (by rw [(unhide HK).1]; exact Nat.le_refl _)
          rw [e] at hpre
          have HP := hide hpre
          clear e hpre
          go_wp2_with fail
          go_ret
          exact ⟨ret_int (by rw [unhide HE3, unhide HP]), n1, rfl⟩
    · have hne : (q != 0) = true := by simp [hq]
      have HE2 : Hid (hdFlt h = q) := by
        show _ = _
        rw [unhide HE, unhide HL, unhide HN, if_neg (by simp), if_neg (by simp), if_neg hq]
      clear HE HL HN D1 D2 D3 D5 HSG hq
      go_wp2_with fail
      go_ret
      exact ⟨ret_int (unhide HE2).symm, n1, rfl⟩

end Go.Proofs.YtbncoiljklagkaaGreatDoor

/- What is proved here: what the model's l5Hash and l5SealHash answer for a header without a fault: the hash of its bytes in new memory. -/
namespace Go.Proofs.YtbncoiljklagkaaGreatDoor
open Go.RowKit
set_option linter.unusedVariables false
set_option maxRecDepth 100000

set_option maxRecDepth 100000 in
set_option maxHeartbeats 8000000 in
theorem l5Hash_any (x : HS) (h : Hd) (w : World) (o : HOk w x h) (nn : HNil w x) (hf : hdFlt h = 0) :
    Calls Tryz.prog 48 #[.agg (hvals x h)] w fun e w' => ∃ d c, e = .returned (.slice (some ⟨d, 0, none⟩) 32 c) ∧
      w'.ownsRow w.heap.size 5 1 (.slice (some ⟨d, 0, none⟩) 32 c) 32 ((kcBytes (packL (noK h))).map (Value.int .u8)) ∧ Below w.heap.size w w' := by
  have hg := hdFlt_noK hf
  have kb := SBlk.new w (hvals x h) 27
  have bb := below_alloc w (.cells (hvals x h) 27)
  obtain ⟨W0, eb⟩ : ∃ W0, w.alloc (.cells (hvals x h) 27) = W0 := ⟨_, rfl⟩
  rw [eb] at kb bb
  have kb3 : SBlk (W0.setCell ⟨w.heap.size, 10, none⟩ (.slice none 0 0)) w.heap.size (hvals (xNoK x) (noK h)).toList 27 := kb.set 10 _
  have b3 := bb.setCell (p := ⟨w.heap.size, 10, none⟩) (Nat.le_refl _) (.slice none 0 0)
  have fz : W0.frozen? ⟨w.heap.size, 10, none⟩ = false := kb.free 10
  have cz := kb.cell 10
  simp only [hvals, List.getElem?_cons_zero, List.getElem?_cons_succ] at cz
  obtain ⟨W3, e3⟩ : ∃ W3, W0.setCell ⟨w.heap.size, 10, none⟩ (.slice none 0 0) = W3 := ⟨_, rfl⟩
  rw [e3] at kb3 b3
  have ok := (o.below b3 (Nat.le_refl _)).noK
  have D1 := hide (l5Pack_any w.heap.size (xNoK x) (noK h) _ W3 kb3 ok (nn.below b3 (Nat.le_refl _)).noK (good_of hg))
  have HRG := hide (packL_rng hg ok)
  have hl := packL_le hg
  have hpos := packL_pos (noK h)
  have HKC : Hid (∀ (W' : World) (g c : Nat), BRow W' (some ⟨g, 0, none⟩) (packL (noK h)).length (packL (noK h)) → Calls Tryz.prog 47 #[.slice (some ⟨g, 0, none⟩) (packL (noK h)).length c] W' fun e w' => ∃ d c', e = .returned (.slice (some ⟨d, 0, none⟩) 32 c') ∧ w'.ownsRow W'.heap.size 5 1 (.slice (some ⟨d, 0, none⟩) 32 c') 32 ((kcBytes (packL (noK h))).map (Value.int .u8)) ∧ Below W'.heap.size W' w') := fun W' g c hr => by
    have K := l2Keccak_any (some ⟨g, 0, none⟩) (packL (noK h)).length c (packL (noK h)) W' hr (fun e => by cases e) hl
    have e : kcBytes (packL (noK h)) = hashOf (spAt (padB (packL (noK h))) (padLen (packL (noK h)).length / 136)) := if_neg (by omega)
    rw [e]
    exact K
  clear o nn ok kb kb3 bb hf hg
  generalize kcBytes (packL (noK h)) = KB at HKC ⊢
  generalize packL (noK h) = PL at D1 HKC HRG hl hpos
  have HB3 := hide b3
  have E3 := hide e3
  have EB := hide eb
  clear b3 e3 eb
  unfold hvals at EB ⊢
  go_enter Tryz.func48, Tryz.ntmps48
  go_upto_region 1 with fail
  rw [unhide EB]
  clear EB
  go_upto_region 2 with fail
  rw [unhide E3]
  clear E3
  go_wp2_with fail
  refine (unhide D1).mono ?_
  rintro e w4 ⟨a4, c4, rfl, o4, b4⟩
  obtain ⟨g4, c', he⟩ := own_some o4 hpos
  simp only [Value.slice.injEq] at he
  obtain ⟨rfl, -, rfl⟩ := he
  have row4 := BRow.own o4 (unhide HRG)
  have HB4 := hide ((unhide HB3).trans (b4.mono (unhide HB3).size))
  clear b4 o4 fz cz
  go_wp2_with fail
  refine ((unhide HKC) _ g4 c4 row4).mono ?_
  rintro e w5 ⟨d5, c5, rfl, o5, b5⟩
  have hwz : w.heap.size ≤ w4.heap.size := (unhide HB4).size
  have HB5 := hide ((unhide HB4).trans (b5.mono hwz))
  go_wp2_with fail
  go_ret
  exact ⟨d5, c5, rfl, ownsRow_base o5 hwz, unhide HB5⟩

set_option maxRecDepth 100000 in
set_option maxHeartbeats 8000000 in
theorem l5SealHash_any (x : HS) (h : Hd) (w : World) (o : HOk w x h) (nn : HNil w x) (hf : hdFlt h = 0) :
    Calls Tryz.prog 32 #[.agg (hvals x h)] w fun e w' => ∃ d c, e = .returned (.slice (some ⟨d, 0, none⟩) 32 c) ∧
      w'.ownsRow w.heap.size 5 1 (.slice (some ⟨d, 0, none⟩) 32 c) 32 ((kcBytes (packL (noK (noE h)))).map (Value.int .u8)) ∧ Below w.heap.size w w' := by
  have kb := SBlk.new w (hvals x h) 27
  have bb := below_alloc w (.cells (hvals x h) 27)
  obtain ⟨W0, eb⟩ : ∃ W0, w.alloc (.cells (hvals x h) 27) = W0 := ⟨_, rfl⟩
  rw [eb] at kb bb
  have kb3 : SBlk (W0.setCell ⟨w.heap.size, 9, none⟩ (.slice none 0 0)) w.heap.size (hvals (xNoE x) (noE h)).toList 27 := kb.set 9 _
  have b3 := bb.setCell (p := ⟨w.heap.size, 9, none⟩) (Nat.le_refl _) (.slice none 0 0)
  have fz : W0.frozen? ⟨w.heap.size, 9, none⟩ = false := kb.free 9
  have cz := kb.cell 9
  simp only [hvals, List.getElem?_cons_zero, List.getElem?_cons_succ] at cz
  obtain ⟨W3, e3⟩ : ∃ W3, W0.setCell ⟨w.heap.size, 9, none⟩ (.slice none 0 0) = W3 := ⟨_, rfl⟩
  rw [e3] at kb3 b3
  have D1 := hide (l5Hash_any (xNoE x) (noE h) W3 (o.below b3 (Nat.le_refl _)).noE (nn.below b3 (Nat.le_refl _)).noE (hdFlt_noE hf))
  obtain ⟨y0, y1, y2, y3, y4, y5, y6, y7, y8, y9, y10⟩ := hcells kb3
  clear o nn kb kb3 bb hf
  generalize kcBytes (packL (noK (noE h))) = KB at D1 ⊢
  have HB3 := hide b3
  have E3 := hide e3
  have EB := hide eb
  clear b3 e3 eb
  unfold hvals at EB D1 ⊢
  go_enter Tryz.func32, Tryz.ntmps32
  go_upto_region 1 with fail
  rw [unhide EB]
  clear EB
  go_upto_region 2 with fail
  rw [unhide E3]
  clear E3
  go_wp2_with fail
  refine (unhide D1).mono ?_
  rintro e w5 ⟨d5, c5, rfl, o5, b5⟩
  have hwz : w.heap.size ≤ W3.heap.size := (unhide HB3).size
  have HB5 := hide ((unhide HB3).trans (b5.mono hwz))
  go_wp2_with fail
  go_ret
  exact ⟨d5, c5, rfl, ownsRow_base o5 hwz, unhide HB5⟩

end Go.Proofs.YtbncoiljklagkaaGreatDoor

/- What is proved here: what the model's l6Seal, l6Commit, SealOf and CommitOf answer: the code, and a seal or a commit in new memory. -/
namespace Go.Proofs.YtbncoiljklagkaaGreatDoor
open Go.RowKit
set_option linter.unusedVariables false
set_option maxRecDepth 100000

/-- l2Keccak over a row that is owned. -/
theorem l2Kc_own {B : Nat} (a : Option Addr) (n cap : Nat) (zs : List Int) (w : World) (h : w.ownsRow B 5 1 (.slice a n cap) n (zs.map (Value.int .u8))) (hr : ∀ x ∈ zs, 0 ≤ x ∧ x ≤ 255) (hn : n ≤ 1200) :
    Calls Tryz.prog 47 #[.slice a n cap] w fun e w' => ∃ d c', e = .returned (.slice (some ⟨d, 0, none⟩) 32 c') ∧ 32 ≤ c' ∧
      w'.ownsRow w.heap.size 5 1 (.slice (some ⟨d, 0, none⟩) 32 c') 32 ((kcBytes zs).map (Value.int .u8)) ∧ Below w.heap.size w w' := by
  have hl : zs.length = n := by have := h.1; simpa using this
  have e : kcBytes zs = hashOf (spAt (padB zs) (padLen n / 136)) := by unfold kcBytes; rw [if_neg (by omega), hl]
  rw [e]
  refine (l2Keccak_any a n cap zs w (BRow.own2 h hr) (own_cap h) hn).mono ?_
  rintro e w' ⟨d, c', rfl, ho, hb⟩
  refine ⟨d, c', rfl, ?_, ho, hb⟩
  rcases ho.2 with ⟨h', _⟩ | ⟨g, cap', cur, h', _, _, hnc, _⟩
  · simp at h'
  · simp only [Value.slice.injEq] at h'; rw [h'.2.2]; exact hnc

set_option maxHeartbeats 4000000 in
theorem l6Seal_any (a : Option Addr) (n c : Nat) (b : Option Addr) (m d : Nat) (xs ys : List Int) (w : World) (h : BRow w a n xs) (k : BRow w b m ys) (hc : a = none → c = 0) (hd : b = none → d = 0) (hn : n ≤ 600) (hm : m ≤ 600) :
    Calls Tryz.prog 31 #[.slice a n c, .slice b m d] w fun e w' => ∃ g c', e = .returned (.slice (some ⟨g, 0, none⟩) 4 c') ∧
      w'.ownsRow w.heap.size 5 1 (.slice (some ⟨g, 0, none⟩) 4 c') 4 ((sealL xs ys).map (Value.int .u8)) ∧ Below w.heap.size w w' := by
  obtain ⟨i0, hi, hz0, hz1, hz2⟩ := info_parts info5
  have D1 := hide (copy_any a n c xs w h hc (by omega))
  have HR := hide (fun (W : World) (hb : Below w.heap.size w W) => k.below hb (Nat.le_refl _))
  have HRG := hide (append_rng h.2.1 k.2.1)
  have HD := hide hd
  clear h k hc hd
  go_enter Tryz.func31, Tryz.ntmps31
  go_wp2_with fail
  refine (unhide D1).mono ?_
  rintro e w2 ⟨a2, c2, rfl, o2, b2⟩
  have r2 := (unhide HR) w2 b2
  go_wp2_with (at_builtin; refine wpList_append_brow _ rfl _ _ 22 rfl w.heap.size i0 Tryz.underlying22 hi hz0 hz1 hz2 _ n xs rfl o2 b m d ys rfl r2 (unhide HD) (by omega) b2.size ?_)
  intro a3 c3 w3 o3 g3
  have B3 : Below w.heap.size w w3 := b2.grown g3 b2.size (fun g e => (o2.lt g e).1)
  have D3 := hide (l2Kc_own a3 (n + m) c3 (xs ++ ys) w3 (by rw [List.map_append]; exact o3) (unhide HRG) (by omega))
  have HB3 := hide B3
  clear o3 B3 g3 r2 o2 b2 D1
  go_wp2_with fail
  refine (unhide D3).mono ?_
  rintro e w4 ⟨g4, c4, rfl, hc4, o4, b4⟩
  have HB4 := hide ((unhide HB3).trans (b4.mono (unhide HB3).size))
  have o5 := own_take (ownsRow_base o4 (unhide HB3).size) (m := 4) (by omega)
  rw [← List.map_take] at o5
  have HO5 := hide o5
  clear D3 o4 o5 b4
  go_wp2_with fail
  go_ret
  exact ⟨g4, c4, rfl, unhide HO5, unhide HB4⟩

end Go.Proofs.YtbncoiljklagkaaGreatDoor

/- What is proved here: what the model's l6Sign answers: the header with its seal and without commits. -/
namespace Go.Proofs.YtbncoiljklagkaaGreatDoor
open Go.RowKit
set_option linter.unusedVariables false
set_option maxRecDepth 100000

set_option maxHeartbeats 8000000 in
theorem l6Sign_any (x : HS) (h : Hd) (w : World) (o : HOk w x h) (nn : HNil w x) (m : HSm h) (hf : hdFlt h = 0) :
    Calls Tryz.prog 16 #[.agg (hvals x h)] w fun e w' => ∃ (y : HS) (d : Nat → Nat), e = .returned (.agg (hvals y (signH h))) ∧ CH w' w.heap.size d y (signH h) ∧ Below w.heap.size w w' := by
  have kb := SBlk.new w (hvals x h) 27
  have bb := below_alloc w (.cells (hvals x h) 27)
  have zb : (w.alloc (.cells (hvals x h) 27)).heap.size = w.heap.size + 1 := by simp
  obtain ⟨Wa, ea⟩ : ∃ W, w.alloc (.cells (hvals x h) 27) = W := ⟨_, rfl⟩
  rw [ea] at kb bb zb
  have kr := SBlk.new Wa #[.slice none 0 0, .int .i64 0, .int .i64 0, .int .i64 0, .slice none 0 0, .int .i64 0, .slice none 0 0, .slice none 0 0, .slice none 0 0, .slice none 0 0, .slice none 0 0] 27
  replace kb := kb.next (.cells #[.slice none 0 0, .int .i64 0, .int .i64 0, .int .i64 0, .slice none 0 0, .int .i64 0, .slice none 0 0, .slice none 0 0, .slice none 0 0, .slice none 0 0, .slice none 0 0] 27)
  replace bb := bb.trans ((below_alloc Wa (.cells #[.slice none 0 0, .int .i64 0, .int .i64 0, .int .i64 0, .slice none 0 0, .int .i64 0, .slice none 0 0, .slice none 0 0, .slice none 0 0, .slice none 0 0, .slice none 0 0] 27)).mono bb.size)
  have z1 : (Wa.alloc (.cells #[.slice none 0 0, .int .i64 0, .int .i64 0, .int .i64 0, .slice none 0 0, .int .i64 0, .slice none 0 0, .slice none 0 0, .slice none 0 0, .slice none 0 0, .slice none 0 0] 27)).heap.size = w.heap.size + 2 := by simp; omega
  rw [zb] at kr
  obtain ⟨W1, eb⟩ : ∃ W, Wa.alloc (.cells #[.slice none 0 0, .int .i64 0, .int .i64 0, .int .i64 0, .slice none 0 0, .int .i64 0, .slice none 0 0, .slice none 0 0, .slice none 0 0, .slice none 0 0, .slice none 0 0] 27) = W := ⟨_, rfl⟩
  rw [eb] at kr kb bb z1
  obtain ⟨x0, x1, x2, x3, x4, x5, x6, x7, x8, x9, x10⟩ := hcells kb
  have D1 := hide (l5Copy_any x h W1 (o.below bb (Nat.le_refl _)) (nn.below bb (Nat.le_refl _)) m)
  have HSH : Hid (∀ W, Below w.heap.size w W → Calls Tryz.prog 32 #[.agg (hvals x h)] W fun e w' => ∃ d c, e = .returned (.slice (some ⟨d, 0, none⟩) 32 c) ∧ BRow w' (some ⟨d, 0, none⟩) 32 (kcBytes (packL (noK (noE h)))) ∧ Below W.heap.size W w') := fun W hb => by
    refine (l5SealHash_any x h W (o.below hb (Nat.le_refl _)) (nn.below hb (Nat.le_refl _)) hf).mono ?_
    rintro e w' ⟨d, c, rfl, ho, hb'⟩
    exact ⟨d, c, rfl, BRow.own2 ho (kcBytes_range _ (packL_rng (hdFlt_noK (hdFlt_noE hf)) o.noE.noK)), hb'⟩
  have HSE : Hid (∀ W d c, Below w.heap.size w W → BRow W (some ⟨d, 0, none⟩) 32 (kcBytes (packL (noK (noE h)))) → Calls Tryz.prog 31 #[.slice x.g.a x.g.n x.g.c, .slice (some ⟨d, 0, none⟩) 32 c] W fun e w' => ∃ d' c', e = .returned (.slice (some ⟨d', 0, none⟩) 4 c') ∧ w'.ownsRow W.heap.size 5 1 (.slice (some ⟨d', 0, none⟩) 4 c') 4 ((seal0 h).map (Value.int .u8)) ∧ Below W.heap.size W w') := fun W d c hb hr => by
    have g1 := o.g.1
    have g2 := (good_of hf).g
    exact l6Seal_any x.g.a x.g.n x.g.c (some ⟨d, 0, none⟩) 32 c h.g _ W (o.g.below hb (Nat.le_refl _)) hr nn.g (fun e => by cases e) (by omega) (by omega)
  have HSR := hide (seal0_rng hf o)
  have HS4 := hide (seal0_len hf)
  have HB1 := hide bb
  have EA := hide ea
  have EB := hide eb
  clear ea eb o nn m bb zb hf
  generalize kcBytes (packL (noK (noE h))) = KB at HSH HSE
  unfold hvals at EA D1 HSH
  have HVX : Hid (hvals x h = #[.slice x.p.a x.p.n x.p.c, .int .i64 h.n1, .int .i64 h.n2, .int .i64 h.n3, .slice x.t.a x.t.n x.t.c, .int .i64 h.n5, .slice x.s.a x.s.n x.s.c, .slice x.r.a x.r.n x.r.c, .slice x.g.a x.g.n x.g.c, .slice x.e.a x.e.n x.e.c, .slice x.k.a x.k.n x.k.c]) := rfl
  rw [unhide HVX]
  go_enter Tryz.func16, Tryz.ntmps16
  go_upto_region 1 with fail
  rw [unhide EA, unhide EB]
  clear EA EB
  go_wp2_with fail
  refine (unhide D1).mono ?_
  rintro e w3 ⟨y, d, rfl, ch3, b3⟩
  have z3 : w.heap.size + 2 ≤ w3.heap.size := by have := b3.size; omega
  replace kb := kb.below b3 (by omega)
  replace kr := kr.below b3 (by omega)
  have K3 := (unhide HB1).trans (b3.mono (unhide HB1).size)
  obtain ⟨d1, hd1⟩ : ∃ d1 : Nat → Nat, d1 = fun g => if w3.heap.size ≤ g then 9 else d g := ⟨_, rfl⟩
  replace ch3 := (ch3.base (B' := w.heap.size + 2) (by omega)).recol (d' := d1) (fun g hg => by rw [hd1]; exact if_neg (by omega))
  have d9 : d1 w3.heap.size = 9 := by rw [hd1]; exact if_pos (Nat.le_refl _)
  have ba := below_alloc w3 (.cells (hvals y h) 27)
  have ks4 := SBlk.new w3 (hvals y h) 27
  have kb4 := kb.below ba kb.lt
  have kr4 := kr.below ba kr.lt
  have ch4 := ch3.below ba (Nat.le_refl _)
  have K4 := K3.trans (ba.mono K3.size)
  obtain ⟨W4, e4⟩ : ∃ W, w3.alloc (.cells (hvals y h) 27) = W := ⟨_, rfl⟩
  rw [e4] at kb4 kr4 ks4 K4 ch4
  have z4 : w.heap.size + 2 ≤ W4.heap.size := Nat.le_trans z3 (Nat.le_of_lt ks4.lt)
  have hgl : w3.heap.size < W4.heap.size := ks4.lt
  have E4 := hide e4
  clear e4 kb kr K3 ch3 hd1 ba b3 D1 x0 x1 x2 x3 x4 x5 x6 x7 x8 x9 x10
  obtain ⟨gs, egs⟩ : ∃ g, g = w3.heap.size := ⟨_, rfl⟩
  have EGS := hide egs
  rw [← egs] at ks4 d9 z3 hgl
  clear egs
  unfold hvals at E4 ks4
  have s10 := ks4.cell 10
  have f10 := ks4.free 10
  simp only [List.getElem?_cons_zero, List.getElem?_cons_succ] at s10
  have ks5 := ks4.set 10 (.slice none 0 0)
  simp only [List.set_cons_zero, List.set_cons_succ] at ks5
  have kr5 := kr4.other (g' := gs) (i := 10) (v := .slice none 0 0) (by omega)
  have kb5 := kb4.other (g' := gs) (i := 10) (v := .slice none 0 0) (by omega)
  have K5 := K4.setCell (p := ⟨gs, 10, none⟩) (by show w.heap.size ≤ gs; omega) (.slice none 0 0)
  have ch5 := ch4.set9 (p := ⟨gs, 10, none⟩) (v := .slice none 0 0) d9
  have z5 : w.heap.size + 2 ≤ (W4.setCell ⟨gs, 10, none⟩ (.slice none 0 0)).heap.size := by rw [size_set']; exact z4
  have hg5 : gs < (W4.setCell ⟨gs, 10, none⟩ (.slice none 0 0)).heap.size := by rw [size_set']; exact hgl
  obtain ⟨W5, e5⟩ : ∃ W, W4.setCell ⟨gs, 10, none⟩ (.slice none 0 0) = W := ⟨_, rfl⟩
  rw [e5] at ks5 kr5 kb5 K5 ch5 z5 hg5
  have E5 := hide e5
  have HRR : Hid (∀ W, Below (w.heap.size + 1) W5 W → (W.cell? ⟨w.heap.size, 0, none⟩ = some (.slice x.p.a x.p.n x.p.c) ∧ W.cell? ⟨w.heap.size, 1, none⟩ = some (.int .i64 h.n1) ∧ W.cell? ⟨w.heap.size, 2, none⟩ = some (.int .i64 h.n2) ∧ W.cell? ⟨w.heap.size, 3, none⟩ = some (.int .i64 h.n3) ∧ W.cell? ⟨w.heap.size, 4, none⟩ = some (.slice x.t.a x.t.n x.t.c) ∧ W.cell? ⟨w.heap.size, 5, none⟩ = some (.int .i64 h.n5) ∧ W.cell? ⟨w.heap.size, 6, none⟩ = some (.slice x.s.a x.s.n x.s.c) ∧ W.cell? ⟨w.heap.size, 7, none⟩ = some (.slice x.r.a x.r.n x.r.c) ∧ W.cell? ⟨w.heap.size, 8, none⟩ = some (.slice x.g.a x.g.n x.g.c) ∧ W.cell? ⟨w.heap.size, 9, none⟩ = some (.slice x.e.a x.e.n x.e.c) ∧ W.cell? ⟨w.heap.size, 10, none⟩ = some (.slice x.k.a x.k.n x.k.c))) := fun W hb => hcells (kb5.below hb (Nat.lt_succ_self _))
  have HKR := hide kr5
  have HKS := hide ks5
  have HCH := hide ch5
  have HK5 := hide K5
  clear e5 ks4 kr4 kb4 K4 ch4 z4 hgl ks5 kr5 ch5 K5 kb5
  go_upto_region 2 with fail
  rw [unhide E4]
  rw [← unhide EGS]
  go_upto_region 3 with fail
  rw [unhide E5]
  clear E4 E5 EGS s10 f10
  have s9 : ∀ W, Below W5.heap.size W5 W → W.cell? ⟨gs, 9, none⟩ = some (.slice y.e.a y.e.n y.e.c) := fun W hb => (hb.cell (p := ⟨gs, 9, none⟩) hg5).trans ((unhide HKS).cell 9)
  have f9 : ∀ W, Below W5.heap.size W5 W → W.frozen? ⟨gs, 9, none⟩ = false := fun W hb => by rw [World.frozen?_of_block (hb.block gs hg5)]; exact (unhide HKS).free 9
  have HS9 := hide s9
  have HF9 := hide f9
  clear s9 f9
  go_region_held3 (fun W => (W.cell? ⟨w.heap.size, 0, none⟩ = some (.slice x.p.a x.p.n x.p.c) ∧ W.cell? ⟨w.heap.size, 1, none⟩ = some (.int .i64 h.n1) ∧ W.cell? ⟨w.heap.size, 2, none⟩ = some (.int .i64 h.n2) ∧ W.cell? ⟨w.heap.size, 3, none⟩ = some (.int .i64 h.n3) ∧ W.cell? ⟨w.heap.size, 4, none⟩ = some (.slice x.t.a x.t.n x.t.c) ∧ W.cell? ⟨w.heap.size, 5, none⟩ = some (.int .i64 h.n5) ∧ W.cell? ⟨w.heap.size, 6, none⟩ = some (.slice x.s.a x.s.n x.s.c) ∧ W.cell? ⟨w.heap.size, 7, none⟩ = some (.slice x.r.a x.r.n x.r.c) ∧ W.cell? ⟨w.heap.size, 8, none⟩ = some (.slice x.g.a x.g.n x.g.c) ∧ W.cell? ⟨w.heap.size, 9, none⟩ = some (.slice x.e.a x.e.n x.e.c) ∧ W.cell? ⟨w.heap.size, 10, none⟩ = some (.slice x.k.a x.k.n x.k.c)))
    (exact (unhide HRR) _ (by first | exact Below.mono (B := W5.heap.size) (by assumption) (by omega) | exact Below.mono (Below.refl W5.heap.size W5).drew (by omega) | exact Below.mono (below_drewN (Below.refl W5.heap.size W5) _) (by omega) | exact Below.mono (B := W5.heap.size) (below_drewN (by assumption) _) (by omega) | exact Below.setCell (Below.mono (B := W5.heap.size) (by assumption) (by omega)) (by show w.heap.size + 1 ≤ gs; omega) _))
    (first
      | (go_at_call 32; refine ((unhide HSH) _ ((unhide HK5).trans (Below.mono (by first | exact (Below.refl W5.heap.size W5).drew | exact below_drewN (Below.refl W5.heap.size W5) _) (unhide HK5).size))).mono ?_; rintro e w6 ⟨d6, c6, rfl, r6, b6⟩; have K6 : Below W5.heap.size W5 w6 := Below.trans (by first | exact (Below.refl W5.heap.size W5).drew | exact below_drewN (Below.refl W5.heap.size W5) _) (b6.mono (by first | exact Nat.le_refl _ | exact (below_drewN (Below.refl W5.heap.size W5) _).size)); clear b6)
      | (go_at_call 31; refine ((unhide HSE) _ d6 c6 ((unhide HK5).trans (K6.mono (unhide HK5).size)) r6).mono ?_; rintro e w7 ⟨d7, c7, rfl, o7, b7⟩; have K7 : Below W5.heap.size W5 w7 := K6.trans (b7.mono K6.size); have z67 : W5.heap.size ≤ w6.heap.size := K6.size; have s9 := (unhide HS9) _ K7; have f9 := (unhide HF9) _ K7))
  all_goals
    have kr := (unhide HKR).below K7 (unhide HKR).lt
    have ks := (unhide HKS).below K7 (unhide HKS).lt
    have KK := (unhide HK5).trans (K7.mono (unhide HK5).size)
    have z6 : W5.heap.size ≤ w6.heap.size := z67
    obtain ⟨d', hd'⟩ : ∃ d' : Nat → Nat, d' = fun g => if w6.heap.size ≤ g then 4 else d1 g := ⟨_, rfl⟩
    have ce : CB w7 (w.heap.size + 2) d' 4 ⟨some ⟨d7, 0, none⟩, 4, c7⟩ (seal0 h) := by rw [hd']; exact CB.new (unhide HS4).symm (unhide HSR) o7 (by omega)
    have ch6 := ((unhide HCH).recol (d' := d') (fun g hg => by rw [hd']; exact if_neg (by omega))).below K7 (Nat.le_refl _)
    have d9' : d' gs = 9 := by rw [hd']; show (if w6.heap.size ≤ gs then 4 else d1 gs) = 9; rw [if_neg (by omega)]; exact d9
    have ch7 : CH w7 (w.heap.size + 2) d' ⟨y.p, y.t, y.s, y.r, y.g, ⟨some ⟨d7, 0, none⟩, 4, c7⟩, ⟨none, 0, 0⟩⟩ (signH h) := ⟨ch6.p, ch6.t, ch6.s, ch6.r, ch6.g, ce, CS.nil _ _ _ _ _⟩
    have ch8 := ch7.set9 (p := ⟨gs, 9, none⟩) (v := .slice (some ⟨d7, 0, none⟩) 4 c7) d9'
    have ks8 := ks.set 9 (.slice (some ⟨d7, 0, none⟩) 4 c7)
    simp only [List.set_cons_zero, List.set_cons_succ] at ks8
    have kr8 := kr.other (g' := gs) (i := 9) (v := .slice (some ⟨d7, 0, none⟩) 4 c7) (by omega)
    have K8 := KK.setCell (p := ⟨gs, 9, none⟩) (by show w.heap.size ≤ gs; omega) (.slice (some ⟨d7, 0, none⟩) 4 c7)
    obtain ⟨W8, e8⟩ : ∃ W, w7.setCell ⟨gs, 9, none⟩ (.slice (some ⟨d7, 0, none⟩) 4 c7) = W := ⟨_, rfl⟩
    rw [e8] at ch8 ks8 kr8 K8
    have HCH8 := hide ch8
    have HK8 := hide K8
    rw [e8]
    obtain ⟨t0, t1, t2, t3, t4, t5, t6, t7, t8, t9, t10⟩ : W8.cell? ⟨gs, 0, none⟩ = _ ∧ W8.cell? ⟨gs, 1, none⟩ = _ ∧ W8.cell? ⟨gs, 2, none⟩ = _ ∧ W8.cell? ⟨gs, 3, none⟩ = _ ∧ W8.cell? ⟨gs, 4, none⟩ = _ ∧ W8.cell? ⟨gs, 5, none⟩ = _ ∧ W8.cell? ⟨gs, 6, none⟩ = _ ∧ W8.cell? ⟨gs, 7, none⟩ = _ ∧ W8.cell? ⟨gs, 8, none⟩ = _ ∧ W8.cell? ⟨gs, 9, none⟩ = _ ∧ W8.cell? ⟨gs, 10, none⟩ = _ := ⟨ks8.cell 0, ks8.cell 1, ks8.cell 2, ks8.cell 3, ks8.cell 4, ks8.cell 5, ks8.cell 6, ks8.cell 7, ks8.cell 8, ks8.cell 9, ks8.cell 10⟩
    obtain ⟨r0, r1, r2, r3, r4, r5, r6', r7, r8, r9, r10⟩ : W8.cell? ⟨w.heap.size + 1, 0, none⟩ = _ ∧ W8.cell? ⟨w.heap.size + 1, 1, none⟩ = _ ∧ W8.cell? ⟨w.heap.size + 1, 2, none⟩ = _ ∧ W8.cell? ⟨w.heap.size + 1, 3, none⟩ = _ ∧ W8.cell? ⟨w.heap.size + 1, 4, none⟩ = _ ∧ W8.cell? ⟨w.heap.size + 1, 5, none⟩ = _ ∧ W8.cell? ⟨w.heap.size + 1, 6, none⟩ = _ ∧ W8.cell? ⟨w.heap.size + 1, 7, none⟩ = _ ∧ W8.cell? ⟨w.heap.size + 1, 8, none⟩ = _ ∧ W8.cell? ⟨w.heap.size + 1, 9, none⟩ = _ ∧ W8.cell? ⟨w.heap.size + 1, 10, none⟩ = _ := ⟨kr8.cell 0, kr8.cell 1, kr8.cell 2, kr8.cell 3, kr8.cell 4, kr8.cell 5, kr8.cell 6, kr8.cell 7, kr8.cell 8, kr8.cell 9, kr8.cell 10⟩
    obtain ⟨g0, g1, g2, g3, g4, g5, g6, g7, g8, g9, g10⟩ : W8.frozen? ⟨w.heap.size + 1, 0, none⟩ = false ∧ W8.frozen? ⟨w.heap.size + 1, 1, none⟩ = false ∧ W8.frozen? ⟨w.heap.size + 1, 2, none⟩ = false ∧ W8.frozen? ⟨w.heap.size + 1, 3, none⟩ = false ∧ W8.frozen? ⟨w.heap.size + 1, 4, none⟩ = false ∧ W8.frozen? ⟨w.heap.size + 1, 5, none⟩ = false ∧ W8.frozen? ⟨w.heap.size + 1, 6, none⟩ = false ∧ W8.frozen? ⟨w.heap.size + 1, 7, none⟩ = false ∧ W8.frozen? ⟨w.heap.size + 1, 8, none⟩ = false ∧ W8.frozen? ⟨w.heap.size + 1, 9, none⟩ = false ∧ W8.frozen? ⟨w.heap.size + 1, 10, none⟩ = false := ⟨kr8.free 0, kr8.free 1, kr8.free 2, kr8.free 3, kr8.free 4, kr8.free 5, kr8.free 6, kr8.free 7, kr8.free 8, kr8.free 9, kr8.free 10⟩
    simp only [List.getElem?_cons_zero, List.getElem?_cons_succ] at t0 t1 t2 t3 t4 t5 t6 t7 t8 t9 t10 r0 r1 r2 r3 r4 r5 r6' r7 r8 r9 r10
    clear e8 ch8 ks8 kr8 K8 ch7 ch6 ce d9' hd' KK ks kr HKR HKS HCH HRR HSH HSE HS9 HF9 s9 f9 K6 K7 b7 o7 r6 HS4 HSR
    go_wp2_with fail
    refine bodyPost_ret (v := .agg #[.slice y.p.a y.p.n y.p.c, .int .i64 h.n1, .int .i64 h.n2, .int .i64 h.n3, .slice y.t.a y.t.n y.t.c, .int .i64 h.n5, .slice y.s.a y.s.n y.s.c, .slice y.r.a y.r.n y.r.c, .slice y.g.a y.g.n y.g.c, .slice (some ⟨d7, 0, none⟩) 4 c7, .slice none 0 0]) (by simp [results, Tryz.results16, go_sem, r0, r1, r2, r3, r4, r5, r6', r7, r8, r9, r10]) rfl ⟨⟨y.p, y.t, y.s, y.r, y.g, ⟨some ⟨d7, 0, none⟩, 4, c7⟩, ⟨none, 0, 0⟩⟩, d', rfl, ?_, ?_⟩
    · refine CH.base (B := w.heap.size + 2) ?_ (by omega)
      repeat (refine CH.set ?_ (by show w.heap.size + 1 < w.heap.size + 2; omega))
      exact unhide HCH8
    · repeat (refine Below.setCell ?_ (by show w.heap.size ≤ w.heap.size + 1; omega) _)
      exact unhide HK8

end Go.Proofs.YtbncoiljklagkaaGreatDoor

/- What is proved here: what the model's SignHeader answers: the fault of a header, or the header with its seal and without commits. -/
namespace Go.Proofs.YtbncoiljklagkaaGreatDoor
open Go.RowKit
set_option linter.unusedVariables false
set_option maxRecDepth 100000

set_option maxHeartbeats 8000000 in
theorem specSign_any (x : HS) (h : Hd) (w : World) (o : HOk w x h) (nn : HNil w x) (m : HSm h) :
    Calls Tryz.prog 5 #[.agg (hvals x h)] w fun e w' => ∃ (y : HS), e = .returned (.agg (hrvals (hdFlt h) y (snH h))) ∧ HOk w' y (snH h) ∧ Below w.heap.size w w' := by
  have kb := SBlk.new w (hvals x h) 27
  have bb := below_alloc w (.cells (hvals x h) 27)
  have zb : (w.alloc (.cells (hvals x h) 27)).heap.size = w.heap.size + 1 := by simp
  obtain ⟨Wa, ea⟩ : ∃ W, w.alloc (.cells (hvals x h) 27) = W := ⟨_, rfl⟩
  rw [ea] at kb bb zb
  have kr := SBlk.new Wa #[.int .i64 0, .slice none 0 0, .int .i64 0, .int .i64 0, .int .i64 0, .slice none 0 0, .int .i64 0, .slice none 0 0, .slice none 0 0, .slice none 0 0, .slice none 0 0, .slice none 0 0] 29
  replace kb := kb.next (.cells #[.int .i64 0, .slice none 0 0, .int .i64 0, .int .i64 0, .int .i64 0, .slice none 0 0, .int .i64 0, .slice none 0 0, .slice none 0 0, .slice none 0 0, .slice none 0 0, .slice none 0 0] 29)
  replace bb := bb.trans ((below_alloc Wa (.cells #[.int .i64 0, .slice none 0 0, .int .i64 0, .int .i64 0, .int .i64 0, .slice none 0 0, .int .i64 0, .slice none 0 0, .slice none 0 0, .slice none 0 0, .slice none 0 0, .slice none 0 0] 29)).mono bb.size)
  have z1 : (Wa.alloc (.cells #[.int .i64 0, .slice none 0 0, .int .i64 0, .int .i64 0, .int .i64 0, .slice none 0 0, .int .i64 0, .slice none 0 0, .slice none 0 0, .slice none 0 0, .slice none 0 0, .slice none 0 0] 29)).heap.size = w.heap.size + 2 := by simp; omega
  rw [zb] at kr
  obtain ⟨W1, eb⟩ : ∃ W, Wa.alloc (.cells #[.int .i64 0, .slice none 0 0, .int .i64 0, .int .i64 0, .int .i64 0, .slice none 0 0, .int .i64 0, .slice none 0 0, .slice none 0 0, .slice none 0 0, .slice none 0 0, .slice none 0 0] 29) = W := ⟨_, rfl⟩
  rw [eb] at kr kb bb z1
  have D1 := hide (l5Fault_any w.heap.size x h _ W1 kb (o.below bb (Nat.le_refl _)) m)
  have HL6 : Hid (hdFlt h = 0 → ∀ n, Calls Tryz.prog 16 #[.agg (hvals x h)] (W1.drewN n) fun e w' => ∃ (y : HS) (d : Nat → Nat), e = .returned (.agg (hvals y (signH h))) ∧ CH w' (w.heap.size + 2) d y (snH h) ∧ Below (w.heap.size + 2) W1 w') := fun hf n => by
    have bd : Below W1.heap.size W1 (W1.drewN n) := below_drewN (Below.refl _ _) n
    have b1 := bb.trans (bd.mono bb.size)
    have esn : snH h = signH h := if_pos hf
    refine (l6Sign_any x h (W1.drewN n) (o.below b1 (Nat.le_refl _)) (nn.below b1 (Nat.le_refl _)) m hf).mono ?_
    rintro e w' ⟨y, d, rfl, hc, hb⟩
    have := bd.size
    exact ⟨y, d, rfl, by rw [esn]; exact hc.base (by omega), (bd.mono (by omega)).trans (hb.mono (by omega))⟩
  have HSM := hide (snH_sm m)
  have HSG : Hid (hdFlt h = 0 → snH h = signH h) := fun hf => if_pos hf
  have HS0 : Hid (hdFlt h ≠ 0 → snH h = hd0) := fun hf => if_neg hf
  have HCB := hide (fun (W' : World) (hb : Below W1.heap.size W1 W') => hcells (kb.below hb kb.lt))
  have HKR := hide (fun (W' : World) (hb : Below (w.heap.size + 2) W1 W') => kr.below hb (by omega))
  have HB1 := hide bb
  have EA := hide ea
  have EB := hide eb
  clear ea eb o nn m bb zb kb kr
  generalize hdFlt h = q at D1 HL6 HSG HS0 ⊢
  unfold hvals at EA HL6 ⊢
  go_enter Tryz.func5, Tryz.ntmps5
  go_upto_region 1 with fail
  rw [unhide EA, unhide EB]
  clear EA EB
  go_wp2_with fail
  refine (unhide D1).mono ?_
  rintro e w2 ⟨rfl, n2, rfl⟩
  have bd : Below W1.heap.size W1 (W1.drewN n2) := below_drewN (Below.refl _ _) n2
  by_cases hq : q = 0
  · subst hq
    have HESN := hide ((unhide HSG) (by first | exact rfl | trivial))
    have D2 := hide ((unhide HL6) (by first | exact rfl | trivial) n2)
    obtain ⟨x0, x1, x2, x3, x4, x5, x6, x7, x8, x9, x10⟩ := (unhide HCB) _ bd
    clear HSG HS0 HL6 D1 bd
    go_wp2_with fail
    refine (unhide D2).mono ?_
    rintro e w3 ⟨y, d, rfl, ch3, b3⟩
    have kr := (unhide HKR) w3 b3
    have HK3 := hide ((unhide HB1).trans (b3.mono (by omega)))
    have HCH := hide ch3
    obtain ⟨r0, r1, r2, r3, r4, r5, r6, r7, r8, r9, r10, r11⟩ : w3.cell? ⟨w.heap.size + 1, 0, none⟩ = _ ∧ w3.cell? ⟨w.heap.size + 1, 1, none⟩ = _ ∧ w3.cell? ⟨w.heap.size + 1, 2, none⟩ = _ ∧ w3.cell? ⟨w.heap.size + 1, 3, none⟩ = _ ∧ w3.cell? ⟨w.heap.size + 1, 4, none⟩ = _ ∧ w3.cell? ⟨w.heap.size + 1, 5, none⟩ = _ ∧ w3.cell? ⟨w.heap.size + 1, 6, none⟩ = _ ∧ w3.cell? ⟨w.heap.size + 1, 7, none⟩ = _ ∧ w3.cell? ⟨w.heap.size + 1, 8, none⟩ = _ ∧ w3.cell? ⟨w.heap.size + 1, 9, none⟩ = _ ∧ w3.cell? ⟨w.heap.size + 1, 10, none⟩ = _ ∧ w3.cell? ⟨w.heap.size + 1, 11, none⟩ = _ := ⟨kr.cell 0, kr.cell 1, kr.cell 2, kr.cell 3, kr.cell 4, kr.cell 5, kr.cell 6, kr.cell 7, kr.cell 8, kr.cell 9, kr.cell 10, kr.cell 11⟩
    obtain ⟨g0, g1, g2, g3, g4, g5, g6, g7, g8, g9, g10, g11⟩ : w3.frozen? ⟨w.heap.size + 1, 0, none⟩ = false ∧ w3.frozen? ⟨w.heap.size + 1, 1, none⟩ = false ∧ w3.frozen? ⟨w.heap.size + 1, 2, none⟩ = false ∧ w3.frozen? ⟨w.heap.size + 1, 3, none⟩ = false ∧ w3.frozen? ⟨w.heap.size + 1, 4, none⟩ = false ∧ w3.frozen? ⟨w.heap.size + 1, 5, none⟩ = false ∧ w3.frozen? ⟨w.heap.size + 1, 6, none⟩ = false ∧ w3.frozen? ⟨w.heap.size + 1, 7, none⟩ = false ∧ w3.frozen? ⟨w.heap.size + 1, 8, none⟩ = false ∧ w3.frozen? ⟨w.heap.size + 1, 9, none⟩ = false ∧ w3.frozen? ⟨w.heap.size + 1, 10, none⟩ = false ∧ w3.frozen? ⟨w.heap.size + 1, 11, none⟩ = false := ⟨kr.free 0, kr.free 1, kr.free 2, kr.free 3, kr.free 4, kr.free 5, kr.free 6, kr.free 7, kr.free 8, kr.free 9, kr.free 10, kr.free 11⟩
    simp only [List.getElem?_cons_zero, List.getElem?_cons_succ] at r0 r1 r2 r3 r4 r5 r6 r7 r8 r9 r10 r11
    clear x0 x1 x2 x3 x4 x5 x6 x7 x8 x9 x10 kr ch3 b3 D2
    go_wp2_with fail
    refine bodyPost_ret (v := .agg #[.int .i64 0, .slice y.p.a y.p.n y.p.c, .int .i64 (signH h).n1, .int .i64 (signH h).n2, .int .i64 (signH h).n3, .slice y.t.a y.t.n y.t.c, .int .i64 (signH h).n5, .slice y.s.a y.s.n y.s.c, .slice y.r.a y.r.n y.r.c, .slice y.g.a y.g.n y.g.c, .slice y.e.a y.e.n y.e.c, .slice y.k.a y.k.n y.k.c]) (by simp [results, Tryz.results5, go_sem, r0, r1, r2, r3, r4, r5, r6, r7, r8, r9, r10, r11]) rfl ⟨y, by rw [unhide HESN]; rfl, ?_, ?_⟩
    · refine CH.hok (B := w.heap.size + 2) (d := d) ?_ (unhide HSM)
      repeat (refine CH.set ?_ (by show w.heap.size + 1 < w.heap.size + 2; omega))
      exact unhide HCH
    · repeat (refine Below.setCell ?_ (by show w.heap.size ≤ w.heap.size + 1; omega) _)
      exact unhide HK3
  · have hne : (q != 0) = true := by simp [hq]
    have HESN : Hid (snH h = hd0) := (unhide HS0) hq
    have kr := (unhide HKR) _ (bd.mono (by omega))
    have HK2 := hide ((unhide HB1).trans (bd.mono (unhide HB1).size))
    obtain ⟨r0, r1, r2, r3, r4, r5, r6, r7, r8, r9, r10, r11⟩ : (W1.drewN n2).cell? ⟨w.heap.size + 1, 0, none⟩ = _ ∧ (W1.drewN n2).cell? ⟨w.heap.size + 1, 1, none⟩ = _ ∧ (W1.drewN n2).cell? ⟨w.heap.size + 1, 2, none⟩ = _ ∧ (W1.drewN n2).cell? ⟨w.heap.size + 1, 3, none⟩ = _ ∧ (W1.drewN n2).cell? ⟨w.heap.size + 1, 4, none⟩ = _ ∧ (W1.drewN n2).cell? ⟨w.heap.size + 1, 5, none⟩ = _ ∧ (W1.drewN n2).cell? ⟨w.heap.size + 1, 6, none⟩ = _ ∧ (W1.drewN n2).cell? ⟨w.heap.size + 1, 7, none⟩ = _ ∧ (W1.drewN n2).cell? ⟨w.heap.size + 1, 8, none⟩ = _ ∧ (W1.drewN n2).cell? ⟨w.heap.size + 1, 9, none⟩ = _ ∧ (W1.drewN n2).cell? ⟨w.heap.size + 1, 10, none⟩ = _ ∧ (W1.drewN n2).cell? ⟨w.heap.size + 1, 11, none⟩ = _ := ⟨kr.cell 0, kr.cell 1, kr.cell 2, kr.cell 3, kr.cell 4, kr.cell 5, kr.cell 6, kr.cell 7, kr.cell 8, kr.cell 9, kr.cell 10, kr.cell 11⟩
    obtain ⟨g0, g1, g2, g3, g4, g5, g6, g7, g8, g9, g10, g11⟩ : (W1.drewN n2).frozen? ⟨w.heap.size + 1, 0, none⟩ = false ∧ (W1.drewN n2).frozen? ⟨w.heap.size + 1, 1, none⟩ = false ∧ (W1.drewN n2).frozen? ⟨w.heap.size + 1, 2, none⟩ = false ∧ (W1.drewN n2).frozen? ⟨w.heap.size + 1, 3, none⟩ = false ∧ (W1.drewN n2).frozen? ⟨w.heap.size + 1, 4, none⟩ = false ∧ (W1.drewN n2).frozen? ⟨w.heap.size + 1, 5, none⟩ = false ∧ (W1.drewN n2).frozen? ⟨w.heap.size + 1, 6, none⟩ = false ∧ (W1.drewN n2).frozen? ⟨w.heap.size + 1, 7, none⟩ = false ∧ (W1.drewN n2).frozen? ⟨w.heap.size + 1, 8, none⟩ = false ∧ (W1.drewN n2).frozen? ⟨w.heap.size + 1, 9, none⟩ = false ∧ (W1.drewN n2).frozen? ⟨w.heap.size + 1, 10, none⟩ = false ∧ (W1.drewN n2).frozen? ⟨w.heap.size + 1, 11, none⟩ = false := ⟨kr.free 0, kr.free 1, kr.free 2, kr.free 3, kr.free 4, kr.free 5, kr.free 6, kr.free 7, kr.free 8, kr.free 9, kr.free 10, kr.free 11⟩
    simp only [List.getElem?_cons_zero, List.getElem?_cons_succ] at r0 r1 r2 r3 r4 r5 r6 r7 r8 r9 r10 r11
    clear hq kr bd HSG HS0 HL6 HKR
    go_wp2_with fail
    refine bodyPost_ret (v := .agg #[.int .i64 q, .slice none 0 0, .int .i64 0, .int .i64 0, .int .i64 0, .slice none 0 0, .int .i64 0, .slice none 0 0, .slice none 0 0, .slice none 0 0, .slice none 0 0, .slice none 0 0]) (by simp [results, Tryz.results5, go_sem, r0, r1, r2, r3, r4, r5, r6, r7, r8, r9, r10, r11]) rfl ⟨hs0, by rw [unhide HESN]; rfl, by rw [unhide HESN]; exact (ch0 _ 0 (fun _ => 0)).hok hsm0, ?_⟩
    repeat (refine Below.setCell ?_ (by show w.heap.size ≤ w.heap.size + 1; omega) _)
    exact unhide HK2

end Go.Proofs.YtbncoiljklagkaaGreatDoor

/- What is proved here: plain facts on a header's marks, and that what is written elsewhere leaves a header. -/
namespace Go.Proofs.YtbncoiljklagkaaGreatDoor
open Go.RowKit
set_option linter.unusedVariables false
set_option maxRecDepth 100000

theorem CB.onlyH {B B' C j : Nat} {d : Nat → Nat} {w w' : World} {s : Sl} {z : List Int} (h : CB w B d j s z) (o : OnlyH B' C w w') (hC : C ≤ B) : CB w' B d j s z := ⟨h.len, h.rng, o.own h.own hC, h.col⟩

theorem CS.onlyH {B B' C r c : Nat} {d : Nat → Nat} {w w' : World} {s : Sl} {zss : List (List Int)} (h : CS w B d r c s zss) (o : OnlyH B' C w w') (hC : C ≤ B) : CS w' B d r c s zss := by
  obtain ⟨h1, es, h2, h3, h4, h5⟩ := h
  exact ⟨h1, es, h2, o.own h3 hC, h4, fun i e z he hz => (h5 i e z he hz).onlyH o hC⟩

theorem CH.onlyH {B B' C : Nat} {d : Nat → Nat} {w w' : World} {x : HS} {h : Hd} (q : CH w B d x h) (o : OnlyH B' C w w') (hC : C ≤ B) : CH w' B d x h :=
  ⟨q.p.onlyH o hC, q.t.onlyH o hC, q.s.onlyH o hC, q.r.onlyH o hC, q.g.onlyH o hC, q.e.onlyH o hC, q.k.onlyH o hC⟩

theorem mkss_mem : ∀ (zss : List (List Int)) (k : Int) (z : List Int), z ∈ mkss k zss → ∃ y ∈ zss, z.length = y.length
  | [], k, z, h => by simp [mkss] at h
  | a :: r, k, z, h => by
    rw [mkss] at h
    rcases List.mem_cons.1 h with e | e
    · exact ⟨a, by simp, by rw [e, marks_length]⟩
    · obtain ⟨y, hy, he⟩ := mkss_mem r _ z e
      exact ⟨y, by simp [hy], he⟩

theorem mkH_sm {h : Hd} (k : Int) (m : HSm h) : HSm (mkH k h) := by
  refine ⟨?_, ?_, ?_, fun z hz => ?_, ?_, ?_, ?_, ?_, fun z hz => ?_⟩
  · show (marks _ _).length ≤ _; rw [marks_length]; exact m.p
  · show (marks _ _).length ≤ _; rw [marks_length]; exact m.t
  · show (mkss _ _).length ≤ _; rw [mkss_length]; exact m.s
  · obtain ⟨y, hy, he⟩ := mkss_mem _ _ z hz; rw [he]; exact m.sz y hy
  · show (marks _ _).length ≤ _; rw [marks_length]; exact m.r
  · show (marks _ _).length ≤ _; rw [marks_length]; exact m.g
  · show (marks _ _).length ≤ _; rw [marks_length]; exact m.e
  · show (mkss _ _).length ≤ _; rw [mkss_length]; exact m.k
  · obtain ⟨y, hy, he⟩ := mkss_mem _ _ z hz; rw [he]; exact m.kz y hy

end Go.Proofs.YtbncoiljklagkaaGreatDoor
