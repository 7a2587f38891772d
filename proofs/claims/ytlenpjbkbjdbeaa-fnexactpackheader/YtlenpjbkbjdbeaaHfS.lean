/- What is proved here: what the model's l5Number, l5Fault and HeaderFault answer: the fault of a header. -/
import Derived.Test.YtlenpjbkbjdbeaaHfF
import Derived.Test.YtlenpjbkbjdbeaaSgS
import Derived.Test.YtlenpjbkbjdbeaaIn
import Derived.WalkKit
import Derived.WalkSmall
import Derived.Deep.DeepCutAuto
import Derived.Deep.CutBlock
import Derived.WalkSpells
namespace Go.Proofs.Ytlenpjbkbjdbeaa
open Go.RowKit
set_option linter.unusedVariables false

theorem l5Number_any (v : Int) (w : World) : Calls Try.prog 34 #[.int .i64 v] w fun e w' => e = .returned (.bool (within v 0 1099511627776)) ∧ w' = w := by
  have HI := hide (in_any v 0 1099511627776 w)
  unfold within
  generalize decide (0 ≤ v ∧ v ≤ 1099511627776) = c at HI
  go_enter Try.func34, Try.ntmps34
  go_wp2_with fail
  refine (unhide HI).mono ?_
  rintro e w' ⟨rfl, rfl⟩
  go_wp2_with fail
  go_ret
  exact ⟨rfl, rfl⟩

set_option maxRecDepth 100000 in
set_option maxHeartbeats 8000000 in
theorem l5Fault_any (g : Nat) (x : HS) (h : Hd) (T : TypeId) (w : World) (sb : SBlk w g (hvals x h).toList T) (o : HOk w x h) (m : HSm h) :
    Calls Try.prog 18 #[.pointer (some ⟨g, 0, none⟩)] w fun e w' => e = .returned (.int .i64 (hdFlt h)) ∧ ∃ n, w' = w.drewN n := by
  obtain ⟨x0, x1, x2, x3, x4, x5, x6, x7, x8, x9, x10⟩ := hcells sb
  have HC := hide (hcells sb)
  obtain ⟨b1, e1⟩ : ∃ b, (((x.p.n : Nat) : Int) != 32) = b := ⟨_, rfl⟩
  obtain ⟨b2, e2⟩ : ∃ b, (((x.t.n : Nat) : Int) != 0) = b := ⟨_, rfl⟩
  obtain ⟨b3, e3⟩ : ∃ b, (((x.t.n : Nat) : Int) != 4) = b := ⟨_, rfl⟩
  obtain ⟨b4, e4⟩ : ∃ b, (((x.r.n : Nat) : Int) != 32) = b := ⟨_, rfl⟩
  obtain ⟨b5, e5⟩ : ∃ b, (((x.g.n : Nat) : Int) != 4) = b := ⟨_, rfl⟩
  obtain ⟨b6, e6⟩ : ∃ b, (((x.e.n : Nat) : Int) != 0) = b := ⟨_, rfl⟩
  obtain ⟨b7, e7⟩ : ∃ b, (((x.e.n : Nat) : Int) != 4) = b := ⟨_, rfl⟩
  have HL : Hid (hdLen h = (b1 || (b2 && b3) || b4 || b5 || (b6 && b7))) := by
    show _ = _
    unfold hdLen
    rw [o.p.1, o.t.1, o.r.1, o.g.1, o.e.1, e1, e2, e3, e4, e5, e6, e7]
  obtain ⟨c1, f1⟩ : ∃ c, within h.n1 0 1099511627776 = c := ⟨_, rfl⟩
  obtain ⟨c2, f2⟩ : ∃ c, within h.n2 0 1099511627776 = c := ⟨_, rfl⟩
  obtain ⟨c3, f3⟩ : ∃ c, within h.n3 0 9 = c := ⟨_, rfl⟩
  obtain ⟨c5, f5⟩ : ∃ c, within h.n5 0 2 = c := ⟨_, rfl⟩
  have HN : Hid (hdNum h = (c1 && c2 && c3 && c5)) := by
    show _ = _
    unfold hdNum
    rw [f1, f2, f3, f5]
  have D1 := hide (fun W => l5Number_any h.n1 W)
  have D2 := hide (fun W => l5Number_any h.n2 W)
  have D3 := hide (fun W => in_any h.n3 0 9 W)
  have D5 := hide (fun W => in_any h.n5 0 2 W)
  simp only [f1] at D1
  simp only [f2] at D2
  simp only [show decide (0 ≤ h.n3 ∧ h.n3 ≤ 9) = c3 from f3] at D3
  simp only [show decide (0 ≤ h.n5 ∧ h.n5 ≤ 2) = c5 from f5] at D5
  have HSG := hide (l5Signers_any x.s.a x.s.n x.s.c h.s w o.s (by have := o.s.1; have := m.s; omega))
  have HE : Hid (hdFlt h = if hdLen h = true then 1 else if hdNum h = false then 3 else if sgFlt h.s = 0 then coFlt h.k else sgFlt h.s) := rfl
  have HK := hide o.k
  have hkl : x.k.n ≤ 1048576 := by have := o.k.1; have := m.k; omega
  clear o m f1 f2 f3 f5 sb
  generalize sgFlt h.s = q at HSG HE
  go_enter Try.func18, Try.ntmps18
  go_upto_region 1 with fail
  go_cut [58] (fun s wx => s = .bool (b1 || (b2 && b3) || b4 || b5 || (b6 && b7)) ∧ wx = w)
  case first =>
    cases b1
    case true =>
      go_wp2_with fail
      go_meet
      exact ⟨rfl, rfl⟩
    cases b4
    case true =>
      cases b2
      · go_wp2_with fail
        go_meet
        exact ⟨by simp, rfl⟩
      cases b3
      all_goals
        go_wp2_with fail
        go_meet
        exact ⟨by simp, rfl⟩
    cases b5
    case true =>
      cases b2
      · go_wp2_with fail
        go_meet
        exact ⟨by simp, rfl⟩
      cases b3
      all_goals
        go_wp2_with fail
        go_meet
        exact ⟨by simp, rfl⟩
    cases b6
    · cases b2
      · go_wp2_with fail
        go_meet
        exact ⟨by simp, rfl⟩
      cases b3
      all_goals
        go_wp2_with fail
        go_meet
        exact ⟨by simp, rfl⟩
    cases b2
    · go_wp2_with fail
      go_meet
      exact ⟨by simp, rfl⟩
    cases b3
    all_goals
      go_wp2_with fail
      go_meet
      exact ⟨by simp, rfl⟩
  case rest =>
    obtain ⟨rfl, hwc⟩ := hcut
    rw [hwc]
    clear hwc e1 e2 e3 e4 e5 e6 e7
    generalize hlb : (b1 || (b2 && b3) || b4 || b5 || (b6 && b7)) = lb
    rw [hlb] at HL
    clear hlb
    cases lb
    case true =>
      go_wp2_with fail
      go_ret
      exact ⟨ret_int (by rw [unhide HE, unhide HL, if_pos rfl]), 0, rfl⟩
    go_wp2_with fail
    refine ((unhide D1) _).mono ?_
    rintro e w' ⟨rfl, rfl⟩
    cases c1
    · go_wp2_with fail
      go_ret
      exact ⟨ret_int (by rw [unhide HE, unhide HL, unhide HN]; simp), 0, rfl⟩
    go_wp2_with fail
    refine ((unhide D2) _).mono ?_
    rintro e w' ⟨rfl, rfl⟩
    cases c2
    · go_wp2_with fail
      go_ret
      exact ⟨ret_int (by rw [unhide HE, unhide HL, unhide HN]; simp), 0, rfl⟩
    go_wp2_with fail
    refine ((unhide D3) _).mono ?_
    rintro e w' ⟨rfl, rfl⟩
    cases c3
    · go_wp2_with fail
      go_ret
      exact ⟨ret_int (by rw [unhide HE, unhide HL, unhide HN]; simp), 0, rfl⟩
    go_wp2_with fail
    refine ((unhide D5) _).mono ?_
    rintro e w' ⟨rfl, rfl⟩
    cases c5
    · go_wp2_with fail
      go_ret
      exact ⟨ret_int (by rw [unhide HE, unhide HL, unhide HN]; simp), 0, rfl⟩
    go_wp2_with fail
    refine (unhide HSG).mono ?_
    rintro e w1 ⟨rfl, n1, rfl⟩
    by_cases hq : q = 0
    · subst hq
      have HE2 : Hid (hdFlt h = coFlt h.k) := by
        show _ = _
        rw [unhide HE, unhide HL, unhide HN]; simp
      clear HE HL HN D1 D2 D3 D5 HSG x0 x1 x2 x3 x4 x5 x6 x7 x8 x9
      by_cases h7 : 7 < x.k.n
      · have d7 : decide ((7 : Int) < (x.k.n : Int)) = true := decide_eq_true (by omega)
        go_wp2_with fail
        go_ret
        refine ⟨ret_int ?_, n1, rfl⟩
        rw [unhide HE2]; unfold coFlt; rw [if_pos (by rw [(unhide HK).1]; exact h7)]
      have d7 : decide ((7 : Int) < (x.k.n : Int)) = false := decide_eq_false (by omega)
      have HE3 : Hid (hdFlt h = coFrom h.k) := by
        show _ = _
        rw [unhide HE2]; unfold coFlt; rw [if_neg (by rw [(unhide HK).1]; exact h7)]
      clear HE2
      go_wp2_with fail
      go_loop [4] (fun i => ∃ k : Nat, k ≤ x.k.n ∧ i = .int .i64 k ∧ coFrom h.k = coFrom (h.k.drop k)) (fun i => x.k.n - (intOf i).toNat)
      case atStart => exact ⟨0, Nat.zero_le _, rfl, by simp⟩
      case round =>
        obtain ⟨k, hk, rfl, hpre⟩ := hrel
        by_cases hlt : k < x.k.n
        · obtain ⟨z, hit⟩ : ∃ z, h.k[k]? = some z := ⟨_, List.getElem?_eq_getElem (by rw [(unhide HK).1]; exact hlt)⟩
          have hst := coFrom_step h.k k z hit
          rw [← hpre] at hst
          obtain ⟨bb, off, hba, _, hcc⟩ := (unhide HK).at (by omega)
          obtain ⟨s1, m1, d1, p0, r1⟩ := hcc k z hit
          have hzl : z.length = m1 := r1.1
          rw [hzl] at hst
          have HS := hide hst
          have x10' := x10
          rw [hba] at x10'
          have i1 : (0 : Int) ≤ (k : Int) := by omega
          have i2 : (k : Int) < (x.k.n : Int) := by omega
          clear r1 hst hpre hit hzl hcc hba x10
          by_cases h8 : m1 = 8
          · have d8 : (((m1 : Nat) : Int) != 8) = false := by simp [h8]
            rw [if_pos h8] at HS
            clear h8
            go_wp2_with fail
            go_round
            case rel => exact ⟨k + 1, by omega, by go_num, unhide HS⟩
            case measure => simp [intOf]; omega
          · have d8 : (((m1 : Nat) : Int) != 8) = true := by simp; omega
            rw [if_neg h8] at HS
            clear h8
            go_wp2_with fail
            go_ret
            exact ⟨ret_int (by rw [unhide HE3, unhide HS]), n1, rfl⟩
        · obtain rfl : k = x.k.n := by omega
          have e := coFrom_end h.k x.k.n (by rw [(unhide HK).1]; exact Nat.le_refl _)
          rw [e] at hpre
          have HP := hide hpre
          clear e hpre
          go_wp2_with fail
          go_ret
          exact ⟨ret_int (by rw [unhide HE3, unhide HP]), n1, rfl⟩
    · have hne : (q != 0) = true := by simp [hq]
      have HE2 : Hid (hdFlt h = q) := by
        show _ = _
        rw [unhide HE, unhide HL, unhide HN, if_neg (by simp), if_neg (by simp), if_neg hq]
      clear HE HL HN D1 D2 D3 D5 HSG hq
      go_wp2_with fail
      go_ret
      exact ⟨ret_int (unhide HE2).symm, n1, rfl⟩

theorem specHeaderFault_any (x : HS) (h : Hd) (w : World) (o : HOk w x h) (m : HSm h) :
    Calls Try.prog 6 #[.agg (hvals x h)] w fun e w' => e = .returned (.int .i64 (hdFlt h)) ∧ Below w.heap.size w w' := by
  have k0 := SBlk.new w (hvals x h) 28
  have k2 := below_alloc w (.cells (hvals x h) 28)
  have HC := hide (l5Fault_any w.heap.size x h _ _ k0 (o.below k2 (Nat.le_refl _)) m)
  have HB := hide k2
  clear o m k0 k2
  generalize hdFlt h = c at HC
  unfold hvals at HC HB ⊢
  go_enter Try.func6, Try.ntmps6
  go_wp2_with fail
  refine (unhide HC).mono ?_
  rintro e w' ⟨rfl, n, rfl⟩
  go_wp2_with fail
  go_ret
  exact ⟨rfl, below_drewN (unhide HB) n⟩

end Go.Proofs.Ytlenpjbkbjdbeaa
