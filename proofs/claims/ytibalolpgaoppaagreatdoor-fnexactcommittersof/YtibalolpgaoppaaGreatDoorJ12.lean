/- What is proved here: what the program's HeaderFault answers, and what it calls: the fault of a header. -/
import Derived.Test.YtibalolpgaoppaaGreatDoorJ7
import Derived.Test.YtibalolpgaoppaaGreatDoorJ11
import Derived.WalkKit
import Derived.WalkSmall
import Derived.Deep.DeepCutAuto
import Derived.Deep.CutBlock
import Derived.WalkSpells
import Derived.Test.YtibalolpgaoppaaGreatDoorChecked
import Derived.Test.YtibalolpgaoppaaGreatDoorJ4
import Derived.WalkLawsBesides
import Derived.KernelRfl
import Derived.Test.YtibalolpgaoppaaGreatDoorJ10
import Derived.Test.YtibalolpgaoppaaGreatDoorJ6
import Derived.Test.YtibalolpgaoppaaGreatDoorJ1
import Derived.Test.YtibalolpgaoppaaGreatDoorJ9
namespace Go.Proofs.YtibalolpgaoppaaGreatDoor
open Go.RowKit
set_option linter.unusedVariables false
set_option maxRecDepth 100000

theorem isHash_any (a : Option Addr) (n cap : Nat) (w : World) : Calls Tryz.prog 42 #[.slice a n cap] w fun e w' => e = .returned (.bool (((n : Nat) : Int) == 32)) ∧ w' = w := by
  go_enter Tryz.func42, Tryz.ntmps42
  go_wp2_with fail
  go_ret
  exact ⟨rfl, rfl⟩

theorem isWithin_any (v lo hi : Int) (w : World) : Calls Tryz.prog 91 #[.int .i64 v, .int .i64 lo, .int .i64 hi] w fun e w' => e = .returned (.bool (within v lo hi)) ∧ w' = w := by
  unfold within
  by_cases h0 : lo ≤ v
  · have e0 : decide (lo ≤ v) = true := decide_eq_true h0
    by_cases h1 : v ≤ hi
    · have e1 : decide (v ≤ hi) = true := decide_eq_true h1
      have e : decide (lo ≤ v ∧ v ≤ hi) = true := decide_eq_true ⟨h0, h1⟩
      rw [e]
      clear e
      go_enter Tryz.func91, Tryz.ntmps91
      go_wp2_with fail
      go_ret
      exact ⟨rfl, rfl⟩
    · have e1 : decide (v ≤ hi) = false := decide_eq_false h1
      have e : decide (lo ≤ v ∧ v ≤ hi) = false := decide_eq_false (fun h => h1 h.2)
      rw [e]
      clear e
      go_enter Tryz.func91, Tryz.ntmps91
      go_wp2_with fail
      go_ret
      exact ⟨rfl, rfl⟩
  · have e0 : decide (lo ≤ v) = false := decide_eq_false h0
    have e : decide (lo ≤ v ∧ v ≤ hi) = false := decide_eq_false (fun h => h0 h.1)
    rw [e]
    clear e
    go_enter Tryz.func91, Tryz.ntmps91
    go_wp2_with fail
    go_ret
    exact ⟨rfl, rfl⟩

theorem isWithin_to (v lo hi : Int) (c : Bool) (w : World) (e : within v lo hi = c) : Calls Tryz.prog 91 #[.int .i64 v, .int .i64 lo, .int .i64 hi] w fun e w' => e = .returned (.bool c) ∧ w' = w := by
  subst e; exact isWithin_any v lo hi w

theorem isNumber_to (v : Int) (c : Bool) (w : World) (e : within v 0 1099511627776 = c) : Calls Tryz.prog 90 #[.int .i64 v] w fun e w' => e = .returned (.bool c) ∧ w' = w := by
  have HI := hide (isWithin_to v 0 1099511627776 c w e)
  clear e
  go_enter Tryz.func90, Tryz.ntmps90
  go_wp2_with fail
  refine (unhide HI).mono ?_
  rintro e w' ⟨rfl, rfl⟩
  go_wp2_with fail
  go_ret
  exact ⟨rfl, rfl⟩

theorem hasNonce_to (x : HS) (h : Hd) (c : Bool) (w : World) (e : within h.n5 0 2 = c) : Calls Tryz.prog 92 #[.agg #[.slice x.t.a x.t.n x.t.c, .int .i64 h.n5, .slice x.s.a x.s.n x.s.c]] w fun e w' => e = .returned (.bool c) ∧ Below w.heap.size w w' := by
  have HI := hide (fun W => isWithin_to h.n5 0 2 c W e)
  have HB := hide (below_alloc w (.cells #[.slice x.t.a x.t.n x.t.c, .int .i64 h.n5, .slice x.s.a x.s.n x.s.c] 67))
  clear e
  go_enter Tryz.func92, Tryz.ntmps92
  go_wp2_with fail
  refine ((unhide HI) _).mono ?_
  rintro e w' ⟨rfl, rfl⟩
  go_wp2_with fail
  go_ret
  exact ⟨rfl, unhide HB⟩

theorem hasAim_to (x : HS) (h : Hd) (b2 b3 : Bool) (w : World) (e2 : (((x.t.n : Nat) : Int) != 0) = b2) (e3 : (((x.t.n : Nat) : Int) != 4) = b3) :
    Calls Tryz.prog 89 #[.agg #[.slice x.t.a x.t.n x.t.c, .int .i64 h.n5, .slice x.s.a x.s.n x.s.c]] w fun e w' => e = .returned (.bool (!(b2 && b3))) ∧ Below w.heap.size w w' := by
  have HI := hide (fun W => isAddr_any x.t.a x.t.n x.t.c W)
  have HB := hide (below_alloc w (.cells #[.slice x.t.a x.t.n x.t.c, .int .i64 h.n5, .slice x.s.a x.s.n x.s.c] 67))
  have f2 : (((x.t.n : Nat) : Int) == 0) = !b2 := by rw [← e2]; simp [bne]
  have f3 : (((x.t.n : Nat) : Int) == 4) = !b3 := by rw [← e3]; simp [bne]
  simp only [f3] at HI
  clear e2 e3 f3
  cases b2
  · have f2' : (((x.t.n : Nat) : Int) == 0) = true := f2
    clear f2
    go_enter Tryz.func89, Tryz.ntmps89
    go_wp2_with fail
    go_ret
    exact ⟨rfl, unhide HB⟩
  · have f2' : (((x.t.n : Nat) : Int) == 0) = false := f2
    clear f2
    go_enter Tryz.func89, Tryz.ntmps89
    go_wp2_with fail
    refine ((unhide HI) _).mono ?_
    rintro e w' ⟨rfl, rfl⟩
    go_wp2_with fail
    go_ret
    exact ⟨ret_bool (by cases b3 <;> rfl), unhide HB⟩

theorem votesFault_any (x : HS) (h : Hd) (w : World) (o : BsRow w x.s.a x.s.n h.s) (hl : x.s.n ≤ 1048576) : Calls Tryz.prog 49 #[.agg #[.slice x.t.a x.t.n x.t.c, .int .i64 h.n5, .slice x.s.a x.s.n x.s.c]] w fun e w' => e = .returned (.int .i64 (sgFlt h.s)) ∧ Below w.heap.size w w' := by
  have hb := below_alloc w (.cells #[.slice x.t.a x.t.n x.t.c, .int .i64 h.n5, .slice x.s.a x.s.n x.s.c] 67)
  have HI := hide (implSigners_any x.s.a x.s.n x.s.c h.s _ (o.below hb (Nat.le_refl _)) hl)
  have HB := hide hb
  clear o hb
  generalize sgFlt h.s = q at HI
  go_enter Tryz.func49, Tryz.ntmps49
  go_wp2_with fail
  refine (unhide HI).mono ?_
  rintro e w' ⟨rfl, rfl⟩
  go_wp2_with fail
  go_ret
  exact ⟨rfl, unhide HB⟩

set_option maxHeartbeats 4000000 in
theorem commitsFault_any (x : HS) (h : Hd) (w : World) (o : BsRow w x.k.a x.k.n h.k) (hkl : x.k.n ≤ 1048576) : Calls Tryz.prog 50 #[.agg (hvals x h)] w fun e w' => e = .returned (.int .i64 (coFlt h.k)) ∧ Below w.heap.size w w' := by
  have k0 := SBlk.new w (hvals x h) 69
  have hb := below_alloc w (.cells (hvals x h) 69)
  obtain ⟨x0, x1, x2, x3, x4, x5, x6, x7, x8, x9, x10⟩ := hcells k0
  have HK := hide (o.below hb (Nat.le_refl _))
  have HB := hide hb
  obtain ⟨W0, e0⟩ : ∃ W0, w.alloc (.cells (hvals x h) 69) = W0 := ⟨_, rfl⟩
  rw [e0] at x10 HK HB
  clear o hb k0 x0 x1 x2 x3 x4 x5 x6 x7 x8 x9
  unfold hvals at e0 ⊢
  by_cases h7 : 7 < x.k.n
  · have d7 : decide ((7 : Int) < (x.k.n : Int)) = true := decide_eq_true (by omega)
    go_enter Tryz.func50, Tryz.ntmps50
    go_wp2_with (rw [e0])
    go_ret
    refine ⟨ret_int ?_, by first | exact unhide HB | (rw [e0]; exact unhide HB)⟩
    unfold coFlt; rw [if_pos (by rw [(unhide HK).1]; exact h7)]
  · have d7 : decide ((7 : Int) < (x.k.n : Int)) = false := decide_eq_false (by omega)
    have HE3 : Hid (coFlt h.k = coFrom h.k) := by
      show _ = _
      unfold coFlt; rw [if_neg (by rw [(unhide HK).1]; exact h7)]
    go_enter Tryz.func50, Tryz.ntmps50
    go_upto_region 1 with (rw [e0])
    try rw [e0]
    clear e0
    go_wp2_with fail
    go_loop [12] (fun i => ∃ k : Nat, k ≤ x.k.n ∧ i = .int .i64 k ∧ coFrom h.k = coFrom (h.k.drop k)) (fun i => x.k.n - (intOf i).toNat)
    case atStart => exact ⟨0, Nat.zero_le _, rfl, by simp⟩
    case round =>
      obtain ⟨k, hk, rfl, hpre⟩ := hrel
      by_cases hlt : k < x.k.n
      · obtain ⟨z, hit⟩ : ∃ z, h.k[k]? = some z := ⟨_, List.getElem?_eq_getElem (by rw [(unhide HK).1]; exact hlt)⟩
        have hst := coFrom_step h.k k z hit
        rw [← hpre] at hst
        obtain ⟨bb, off, hba, _, hcc⟩ := (unhide HK).at (by omega)
        obtain ⟨s1, m1, d1, p0, r1⟩ := hcc k z hit
        have hzl : z.length = m1 := r1.1
        rw [hzl] at hst
        have HS := hide hst
        have i1 : (0 : Int) ≤ (k : Int) := by omega
        have i2 : (k : Int) < (x.k.n : Int) := by omega
        clear r1 hst hpre hit hzl hcc x10
        by_cases h8 : m1 = 8
        · have d8 : (((m1 : Nat) : Int) != 8) = false := by simp [h8]
          rw [if_pos h8] at HS
          clear h8
          rw [hba]
          clear hba
          go_wp2_with fail
          go_round
          case rel => exact ⟨k + 1, by omega, by go_num, unhide HS⟩
          case measure => simp [intOf]; omega
        · have d8 : (((m1 : Nat) : Int) != 8) = true := by simp; omega
          rw [if_neg h8] at HS
          clear h8
          rw [hba]
          clear hba
          go_wp2_with fail
          go_ret
          exact ⟨ret_int (by rw [unhide HE3, unhide HS]), unhide HB⟩
      · obtain rfl : k = x.k.n := by omega
        have e := coFrom_end h.k x.k.n (by rw [(unhide HK).1]; exact Nat.le_refl _)
        rw [e] at hpre
        have HP := hide hpre
        clear e hpre
        go_wp2_with fail
        go_ret
        exact ⟨ret_int (by rw [unhide HE3, unhide HP]), unhide HB⟩

end Go.Proofs.YtibalolpgaoppaaGreatDoor

/- What is proved here: what the program's blockOf answers: the same eleven cells. -/
namespace Go.Proofs.YtibalolpgaoppaaGreatDoor
open Go.RowKit
set_option linter.unusedVariables false
set_option maxRecDepth 100000

set_option maxHeartbeats 4000000 in
theorem blockOf_any (x : HS) (h : Hd) (w : World) : Calls Tryz.prog 46 #[.agg (hvals x h)] w fun e w' => e = .returned (.agg (hvals x h)) ∧ Below w.heap.size w w' := by
  unfold hvals
  go_enter Tryz.func46, Tryz.ntmps46
  go_wp2_with fail
  refine bodyPost_ret (v := .agg #[.slice x.p.a x.p.n x.p.c, .int .i64 h.n1, .int .i64 h.n2, .int .i64 h.n3, .slice x.t.a x.t.n x.t.c, .int .i64 h.n5, .slice x.s.a x.s.n x.s.c, .slice x.r.a x.r.n x.r.c, .slice x.g.a x.g.n x.g.c, .slice x.e.a x.e.n x.e.c, .slice x.k.a x.k.n x.k.c]) (by simp [results, Tryz.results46, go_sem]) rfl ⟨rfl, ?_⟩
  exact ((Below.refl w.heap.size w).alloc (Nat.le_refl _) _).alloc (by simp) _

end Go.Proofs.YtibalolpgaoppaaGreatDoor

/- What is proved here: what the program's HeaderFault answers: the fault of a header. -/
namespace Go.Proofs.YtibalolpgaoppaaGreatDoor
open Go.RowKit
set_option linter.unusedVariables false
set_option maxRecDepth 100000

set_option maxRecDepth 100000 in
set_option maxHeartbeats 8000000 in
theorem hasLengths_any (x : HS) (h : Hd) (w : World) (o : HOk w x h) :
    Calls Tryz.prog 47 #[.agg (hvals x h)] w fun e w' => e = .returned (.bool (!hdLen h)) ∧ Below w.heap.size w w' := by
  have k0 := SBlk.new w (hvals x h) 69
  have hb := below_alloc w (.cells (hvals x h) 69)
  obtain ⟨W0, e0⟩ : ∃ W0, w.alloc (.cells (hvals x h) 69) = W0 := ⟨_, rfl⟩
  rw [e0] at k0 hb
  obtain ⟨x0, x1, x2, x3, x4, x5, x6, x7, x8, x9, x10⟩ := hcells k0
  have HC := hide (fun (W : World) (hb' : Below W0.heap.size W0 W) => hcells (k0.below hb' k0.lt))
  have HB := hide hb
  obtain ⟨b1, e1⟩ : ∃ b, (((x.p.n : Nat) : Int) != 32) = b := ⟨_, rfl⟩
  obtain ⟨b2, e2⟩ : ∃ b, (((x.t.n : Nat) : Int) != 0) = b := ⟨_, rfl⟩
  obtain ⟨b3, e3⟩ : ∃ b, (((x.t.n : Nat) : Int) != 4) = b := ⟨_, rfl⟩
  obtain ⟨b4, e4⟩ : ∃ b, (((x.r.n : Nat) : Int) != 32) = b := ⟨_, rfl⟩
  obtain ⟨b5, e5⟩ : ∃ b, (((x.g.n : Nat) : Int) != 4) = b := ⟨_, rfl⟩
  obtain ⟨b6, e6⟩ : ∃ b, (((x.e.n : Nat) : Int) != 0) = b := ⟨_, rfl⟩
  obtain ⟨b7, e7⟩ : ∃ b, (((x.e.n : Nat) : Int) != 4) = b := ⟨_, rfl⟩
  have HL : Hid (hdLen h = (b1 || (b2 && b3) || b4 || b5 || (b6 && b7))) := by
    show _ = _
    unfold hdLen
    rw [o.p.1, o.t.1, o.r.1, o.g.1, o.e.1, e1, e2, e3, e4, e5, e6, e7]
  have f1 : (((x.p.n : Nat) : Int) == 32) = !b1 := by rw [← e1]; simp [bne]
  have f4 : (((x.r.n : Nat) : Int) == 32) = !b4 := by rw [← e4]; simp [bne]
  have f5 : (((x.g.n : Nat) : Int) == 4) = !b5 := by rw [← e5]; simp [bne]
  have f6 : (((x.e.n : Nat) : Int) == 0) = !b6 := by rw [← e6]; simp [bne]
  have f7 : (((x.e.n : Nat) : Int) == 4) = !b7 := by rw [← e7]; simp [bne]
  have D1 := hide (fun W => isHash_any x.p.a x.p.n x.p.c W)
  have D2 := hide (fun W => hasAim_to x h b2 b3 W e2 e3)
  have D4 := hide (fun W => isHash_any x.r.a x.r.n x.r.c W)
  have D5 := hide (fun W => isAddr_any x.g.a x.g.n x.g.c W)
  simp only [f1] at D1
  simp only [f4] at D4
  simp only [f5] at D5
  clear o e1 e2 e3 e4 e5 e6 e7 f1 f4 f5 k0 hb
  generalize hdLen h = L at HL
  unfold hvals at e0 ⊢
  go_enter Tryz.func47, Tryz.ntmps47
  go_upto_region 1 with (rw [e0])
  try rw [e0]
  clear e0
  go_cut [3] (fun s wx => s = .bool (!(b6 && b7)) ∧ wx = W0)
  case first =>
    cases b6
    · have f6' : (((x.e.n : Nat) : Int) == 0) = true := f6
      clear f6 f7
      go_wp2_with fail
      go_meet
      exact ⟨rfl, rfl⟩
    · have f6' : (((x.e.n : Nat) : Int) == 0) = false := f6
      clear f6
      go_wp2_with fail
      go_meet
      exact ⟨by simp, rfl⟩
  case rest =>
    obtain ⟨rfl, hwc⟩ := hcut
    rw [hwc]
    clear hwc f6 f7
    generalize hb67 : (b6 && b7) = bs
    rw [hb67] at HL
    clear hb67
    generalize hb23 : (b2 && b3) = bt at D2
    rw [hb23] at HL
    clear hb23
    go_wp2_with fail
    refine ((unhide D1) _).mono ?_
    rintro e w1 ⟨rfl, rfl⟩
    cases b1
    case true =>
      go_wp2_with fail
      go_ret
      exact ⟨ret_bool (by rw [unhide HL]; simp), unhide HB⟩
    go_wp2_with fail
    refine ((unhide D2) _).mono ?_
    rintro e w1 ⟨rfl, b1⟩
    have HB1 := hide ((unhide HB).trans (b1.mono (unhide HB).size))
    cases bt
    case true =>
      go_wp2_with fail
      go_ret
      exact ⟨ret_bool (by rw [unhide HL]; simp), unhide HB1⟩
    obtain ⟨y0, y1, y2, y3, y4, y5, y6, y7, y8, y9, y10⟩ := (unhide HC) _ b1
    clear b1
    go_wp2_with fail
    refine ((unhide D4) _).mono ?_
    rintro e w2 ⟨rfl, rfl⟩
    cases b4
    case true =>
      go_wp2_with fail
      go_ret
      exact ⟨ret_bool (by rw [unhide HL]; simp), unhide HB1⟩
    go_wp2_with fail
    refine ((unhide D5) _).mono ?_
    rintro e w2 ⟨rfl, rfl⟩
    cases b5
    case true =>
      go_wp2_with fail
      go_ret
      exact ⟨ret_bool (by rw [unhide HL]; simp), unhide HB1⟩
    go_wp2_with fail
    go_ret
    exact ⟨ret_bool (by rw [unhide HL]; simp), unhide HB1⟩

set_option maxRecDepth 100000 in
set_option maxHeartbeats 8000000 in
theorem hasNumbers_any (x : HS) (h : Hd) (w : World) :
    Calls Tryz.prog 48 #[.agg (hvals x h)] w fun e w' => e = .returned (.bool (hdNum h)) ∧ Below w.heap.size w w' := by
  have k0 := SBlk.new w (hvals x h) 69
  have hb := below_alloc w (.cells (hvals x h) 69)
  obtain ⟨W0, e0⟩ : ∃ W0, w.alloc (.cells (hvals x h) 69) = W0 := ⟨_, rfl⟩
  rw [e0] at k0 hb
  obtain ⟨x0, x1, x2, x3, x4, x5, x6, x7, x8, x9, x10⟩ := hcells k0
  have HB := hide hb
  obtain ⟨c1, f1⟩ : ∃ c, within h.n1 0 1099511627776 = c := ⟨_, rfl⟩
  obtain ⟨c2, f2⟩ : ∃ c, within h.n2 0 1099511627776 = c := ⟨_, rfl⟩
  obtain ⟨c3, f3⟩ : ∃ c, within h.n3 0 9 = c := ⟨_, rfl⟩
  obtain ⟨c5, f5⟩ : ∃ c, within h.n5 0 2 = c := ⟨_, rfl⟩
  have HN : Hid (hdNum h = (c1 && c2 && c3 && c5)) := by
    show _ = _
    unfold hdNum
    rw [f1, f2, f3, f5]
  have D1 := hide (fun W => isNumber_to h.n1 c1 W f1)
  have D2 := hide (fun W => isNumber_to h.n2 c2 W f2)
  have D3 := hide (fun W => isWithin_to h.n3 0 9 c3 W f3)
  have D5 := hide (fun W => hasNonce_to x h c5 W f5)
  clear f1 f2 f3 f5 k0 hb
  generalize hdNum h = L at HN
  unfold hvals at e0 ⊢
  go_enter Tryz.func48, Tryz.ntmps48
  go_upto_region 1 with (rw [e0])
  try rw [e0]
  clear e0
  go_wp2_with fail
  refine ((unhide D1) _).mono ?_
  rintro e w1 ⟨rfl, rfl⟩
  cases c1
  · go_wp2_with fail
    go_ret
    exact ⟨ret_bool (by rw [unhide HN]; simp), unhide HB⟩
  go_wp2_with fail
  refine ((unhide D2) _).mono ?_
  rintro e w1 ⟨rfl, rfl⟩
  cases c2
  · go_wp2_with fail
    go_ret
    exact ⟨ret_bool (by rw [unhide HN]; simp), unhide HB⟩
  go_wp2_with fail
  refine ((unhide D3) _).mono ?_
  rintro e w1 ⟨rfl, rfl⟩
  cases c3
  · go_wp2_with fail
    go_ret
    exact ⟨ret_bool (by rw [unhide HN]; simp), unhide HB⟩
  go_wp2_with fail
  refine ((unhide D5) _).mono ?_
  rintro e w1 ⟨rfl, b1⟩
  go_wp2_with fail
  go_ret
  exact ⟨ret_bool (by rw [unhide HN]; simp), (unhide HB).trans (b1.mono (unhide HB).size)⟩

set_option maxRecDepth 100000 in
set_option maxHeartbeats 8000000 in
theorem implHeaderFault_any (x : HS) (h : Hd) (w : World) (o : HOk w x h) (m : HSm h) :
    Calls Tryz.prog 17 #[.agg (hvals x h)] w fun e w' => e = .returned (.int .i64 (hdFlt h)) ∧ Below w.heap.size w w' := by
  have k0 := SBlk.new w (hvals x h) 26
  have hb := below_alloc w (.cells (hvals x h) 26)
  obtain ⟨W0, e0⟩ : ∃ W0, w.alloc (.cells (hvals x h) 26) = W0 := ⟨_, rfl⟩
  rw [e0] at k0 hb
  obtain ⟨x0, x1, x2, x3, x4, x5, x6, x7, x8, x9, x10⟩ := hcells k0
  have HO := hide (fun (W : World) (hb : Below w.heap.size w W) => o.below hb (Nat.le_refl _))
  have hsl : x.s.n ≤ 1048576 := by have := o.s.1; have := m.s; omega
  have hkl : x.k.n ≤ 1048576 := by have := o.k.1; have := m.k; omega
  have HE : Hid (hdFlt h = if hdLen h = true then 1 else if hdNum h = false then 3 else if sgFlt h.s = 0 then coFlt h.k else sgFlt h.s) := rfl
  have D1 := hide (fun (W : World) (hb : Below w.heap.size w W) => hasLengths_any x h W ((unhide HO) W hb))
  have D2 := hide (fun (W : World) => hasNumbers_any x h W)
  have D3 := hide (fun (W : World) (hb : Below w.heap.size w W) => votesFault_any x h W ((unhide HO) W hb).s hsl)
  have D4 := hide (fun (W : World) (hb : Below w.heap.size w W) => commitsFault_any x h W ((unhide HO) W hb).k hkl)
  have D0 := hide (blockOf_any x h W0)
  have HB := hide hb
  clear o m hsl hkl HO k0 hb
  generalize hdLen h = L at HE D1
  generalize hdNum h = Nm at HE D2
  generalize sgFlt h.s = q at HE D3
  generalize coFlt h.k = cf at HE D4
  unfold hvals at e0 D0 D1 D2 D4 ⊢
  go_enter Tryz.func17, Tryz.ntmps17
  go_upto_region 1 with (rw [e0])
  try rw [e0]
  clear e0
  go_wp2_with fail
  refine (unhide D0).mono ?_
  rintro e w1 ⟨rfl, b1⟩
  have k1 := SBlk.new w1 (hvals x h) 69
  have hb1 := below_alloc w1 (.cells (hvals x h) 69)
  have hgl : w1.heap.size < (w1.alloc (.cells (hvals x h) 69)).heap.size := by simp
  have HB1 := hide ((unhide HB).trans ((b1.trans (hb1.mono b1.size)).mono (unhide HB).size))
  obtain ⟨W1, e1⟩ : ∃ W1, w1.alloc (.cells (hvals x h) 69) = W1 := ⟨_, rfl⟩
  rw [e1] at k1 HB1 hgl
  obtain ⟨y0, y1, y2, y3, y4, y5, y6, y7, y8, y9, y10⟩ := hcells k1
  have HC := hide (fun (W : World) (hb' : Below W1.heap.size W1 W) => hcells (k1.below hb' k1.lt))
  clear b1 hb1 k1 D0 HB x0 x1 x2 x3 x4 x5 x6 x7 x8 x9 x10
  unfold hvals at e1
  generalize hgb : w1.heap.size = gb at y0 y1 y2 y3 y4 y5 y6 y7 y8 y9 y10 HC hgl ⊢
  go_upto_region 2 with (rw [e1])
  try rw [e1]
  try rw [hgb]
  clear e1 hgb
  go_wp2_with fail
  refine ((unhide D1) _ (unhide HB1)).mono ?_
  rintro e w2 ⟨rfl, b2⟩
  have HB2 := hide ((unhide HB1).trans (b2.mono (unhide HB1).size))
  cases L
  case true =>
    go_wp2_with fail
    go_ret
    exact ⟨ret_int (by rw [unhide HE]; simp), unhide HB2⟩
  have K2 := hide b2
  obtain ⟨z0, z1, z2, z3, z4, z5, z6, z7, z8, z9, z10⟩ := (unhide HC) _ b2
  clear b2 y0 y1 y2 y3 y4 y5 y6 y7 y8 y9 y10
  go_wp2_with fail
  refine ((unhide D2) _).mono ?_
  rintro e w3 ⟨rfl, b3⟩
  have HB3 := hide ((unhide HB2).trans (b3.mono (unhide HB2).size))
  cases Nm
  · go_wp2_with fail
    go_ret
    exact ⟨ret_int (by rw [unhide HE]; simp), unhide HB3⟩
  have K3 := hide ((unhide K2).trans (b3.mono (unhide K2).size))
  obtain ⟨u0, u1, u2, u3, u4, u5, u6, u7, u8, u9, u10⟩ := (unhide HC) _ (unhide K3)
  clear b3 z0 z1 z2 z3 z4 z5 z6 z7 z8 z9 z10 K2 HB2
  go_wp2_with fail
  refine ((unhide D3) _ (unhide HB3)).mono ?_
  rintro e w4 ⟨rfl, b4⟩
  have HB4 := hide ((unhide HB3).trans (b4.mono (unhide HB3).size))
  have K4 := hide ((unhide K3).trans (b4.mono (unhide K3).size))
  clear b4 u0 u1 u2 u3 u4 u5 u6 u7 u8 u9 u10
  by_cases hq : q = 0
  · subst hq
    obtain ⟨v0, v1, v2, v3, v4, v5, v6, v7, v8, v9, v10⟩ := (unhide HC) _ (unhide K4)
    go_wp2_with fail
    refine ((unhide D4) _ (unhide HB4)).mono ?_
    rintro e w5 ⟨rfl, b5⟩
    go_wp2_with fail
    go_ret
    exact ⟨ret_int (by rw [unhide HE]; simp), (unhide HB4).trans (b5.mono (unhide HB4).size)⟩
  · have hne : (q != 0) = true := by simp [hq]
    go_wp2_with fail
    go_ret
    exact ⟨ret_int (by rw [unhide HE]; simp [hq]), unhide HB4⟩

end Go.Proofs.YtibalolpgaoppaaGreatDoor

/- What is proved here: what the program's PackHeader answers: the fault of a header, or its bytes in new memory. -/
namespace Go.Proofs.YtibalolpgaoppaaGreatDoor
open Go.RowKit
set_option linter.unusedVariables false
set_option maxRecDepth 100000

/-- What PackHeader answers. -/
def pkBytes (h : Hd) : List Int := if hdFlt h = 0 then packL h else []

set_option maxRecDepth 100000 in
set_option maxHeartbeats 8000000 in
theorem implPack_any (x : HS) (h : Hd) (w : World) (o : HOk w x h) (nn : HNil w x) (m : HSm h) :
    Calls Tryz.prog 64 #[.agg (hvals x h)] w fun e w' => ∃ a c, e = .returned (.agg #[.int .i64 (hdFlt h), .slice a (pkBytes h).length c]) ∧
      w'.ownsRow w.heap.size 5 1 (.slice a (pkBytes h).length c) (pkBytes h).length ((pkBytes h).map (Value.int .u8)) ∧ Below w.heap.size w w' := by
  have kb := SBlk.new w (hvals x h) 26
  have bb := below_alloc w (.cells (hvals x h) 26)
  have zb : (w.alloc (.cells (hvals x h) 26)).heap.size = w.heap.size + 1 := by simp
  obtain ⟨W0, eb⟩ : ∃ W0, w.alloc (.cells (hvals x h) 26) = W0 := ⟨_, rfl⟩
  rw [eb] at kb bb zb
  have k1 := (kb.next (.cells #[.int .i64 0, .slice none 0 0] 33))
  have kr := SBlk.new W0 #[.int .i64 0, .slice none 0 0] 33
  have b1 := bb.alloc bb.size (.cells #[.int .i64 0, .slice none 0 0] 33)
  have z1 : (W0.alloc (.cells #[.int .i64 0, .slice none 0 0] 33)).heap.size = w.heap.size + 2 := by simp; omega
  rw [zb] at kr
  obtain ⟨W1, e1⟩ : ∃ W1, W0.alloc (.cells #[.int .i64 0, .slice none 0 0] 33) = W1 := ⟨_, rfl⟩
  rw [e1] at k1 kr b1 z1
  have HCB := hide (fun (W' : World) (hb : Below W1.heap.size W1 W') => hcells (k1.below hb k1.lt))
  have HRB := hide (fun (W' : World) (hb : Below W1.heap.size W1 W') => kr.below hb kr.lt)
  have HON := hide (fun (W' : World) (hb : Below w.heap.size w W') => And.intro (o.below hb (Nat.le_refl _)) (nn.below hb (Nat.le_refl _)))
  have D1 := hide (implHeaderFault_any x h W1 (o.below b1 (Nat.le_refl _)) m)
  have HB1 := hide b1
  obtain ⟨x0, x1, x2, x3, x4, x5, x6, x7, x8, x9, x10⟩ := hcells k1
  have hz2 : w.heap.size + 1 < W1.heap.size := by omega
  clear o nn m kb bb k1 kr b1 zb
  have HD0 := hide (fun (W' : World) => blockOf_any x h W')
  have HIT : Hid (hdFlt h = 0 → ∀ (W' : World), Below w.heap.size w W' → Calls Tryz.prog 103 #[.agg (hvals x h)] W' fun e w' => ∃ a c, e = .returned (.slice a (hIts h).length c) ∧ ItRowN w' a (hIts h).length (hIts h) ∧ Below W'.heap.size W' w') := fun hf W' hb => items_any x h (good_of hf) W' ((unhide HON) W' hb).1 ((unhide HON) W' hb).2
  have HEN : Hid (hdFlt h = 0 → ∀ (W' : World) (a : Option Addr) (c : Nat), ItRowN W' a (hIts h).length (hIts h) → Calls Tryz.prog 102 #[.slice a (hIts h).length c] W' fun e w' => ∃ a' c', e = .returned (.agg #[.int .i64 0, .slice a' (packL h).length c']) ∧ w'.ownsRow W'.heap.size 5 1 (.slice a' (packL h).length c') (packL h).length ((packL h).map (Value.int .u8)) ∧ Below W'.heap.size W' w') := fun hf W' a c hr => by
    have gd := good_of hf
    obtain ⟨q1, q2⟩ := en_header gd
    have hl := hIts_len h
    have g1 := gd.s
    have g2 := gd.k
    have := implEnc_any a (hIts h).length c (hIts h) W' hr (by omega)
    rw [q1, q2] at this
    exact this
  have HPB : Hid (pkBytes h = if hdFlt h = 0 then packL h else []) := rfl
  clear HON
  generalize hdFlt h = q at D1 HIT HEN HPB ⊢
  generalize hIts h = IT at HIT HEN
  generalize IT.length = il at HIT HEN
  generalize packL h = PL at HEN HPB
  generalize pkBytes h = PB at HPB ⊢
  unfold hvals at eb D1 HD0 HIT ⊢
  have EB := hide eb
  have E1 := hide e1
  clear eb e1
  go_enter Tryz.func64, Tryz.ntmps64
  go_upto_region 1 with fail
  rw [unhide EB, unhide E1]
  clear EB E1
  go_wp2_with fail
  refine (unhide D1).mono ?_
  rintro e w2 ⟨rfl, b2⟩
  have kr2 := (unhide HRB) w2 b2
  have r0 := kr2.cell 0
  have r1 := kr2.cell 1
  have f0 := kr2.free 0
  have f1 := kr2.free 1
  simp only [List.getElem?_cons_zero, List.getElem?_cons_succ] at r0 r1
  have HB2 := hide ((unhide HB1).trans (b2.mono (unhide HB1).size))
  have K2 := hide b2
  clear b2 kr2 x0 x1 x2 x3 x4 x5 x6 x7 x8 x9 x10 D1
  by_cases hq : q = 0
  · subst hq
    have HPB2 : Hid (PB = PL) := by show _ = _; rw [unhide HPB, if_pos rfl]
    obtain ⟨y0, y1, y2, y3, y4, y5, y6, y7, y8, y9, y10⟩ := (unhide HCB) w2 (unhide K2)
    go_wp2_with fail
    refine ((unhide HD0) _).mono ?_
    rintro e w3 ⟨rfl, b3⟩
    have HB3 := hide ((unhide HB2).trans (b3.mono (unhide HB2).size))
    have K3 := hide ((unhide K2).trans (b3.mono (unhide K2).size))
    clear b3 y0 y1 y2 y3 y4 y5 y6 y7 y8 y9 y10
    go_wp2_with fail
    refine ((unhide HIT) (by first | exact rfl | trivial) _ (unhide HB3)).mono ?_
    rintro e w4 ⟨a4, c4, rfl, row4, b4⟩
    have HB4 := hide ((unhide HB3).trans (b4.mono (unhide HB3).size))
    have K4 := hide ((unhide K3).trans (b4.mono (unhide K3).size))
    clear b4
    go_wp2_with fail
    refine ((unhide HEN) (by first | exact rfl | trivial) _ a4 c4 row4).mono ?_
    rintro e w5 ⟨a5, c5, rfl, o5, b5⟩
    have HB5 := hide ((unhide HB4).trans (b5.mono (unhide HB4).size))
    have K5 := (unhide K4).trans (b5.mono (unhide K4).size)
    have kr5 := (unhide HRB) w5 K5
    have s0 := kr5.cell 0
    have s1 := kr5.cell 1
    have g0 := kr5.free 0
    have g1 := kr5.free 1
    simp only [List.getElem?_cons_zero, List.getElem?_cons_succ] at s0 s1
    have hz4 : w.heap.size + 1 < w4.heap.size := Nat.lt_of_lt_of_le hz2 (unhide K4).size
    have HO5 := hide o5
    have hwz : w.heap.size ≤ w4.heap.size := (unhide HB4).size
    clear K5 kr5 o5 b5 row4 r0 r1 f0 f1
    go_wp2_with fail
    refine bodyPost_ret (v := .agg #[.int .i64 0, .slice a5 PL.length c5]) (by simp [results, Tryz.results64, go_sem, s0, s1]) rfl ⟨a5, c5, by rw [unhide HPB2], ?_, ?_⟩
    · rw [unhide HPB2]
      exact ownsRow_base (ownsRow_setCell_below (ownsRow_setCell_below (unhide HO5) (by show w.heap.size + 1 < w4.heap.size; omega) _) (by show w.heap.size + 1 < w4.heap.size; omega) _) hwz
    · exact ((unhide HB5).setCell (p := ⟨w.heap.size + 1, _, none⟩) (by show w.heap.size ≤ w.heap.size + 1; omega) _).setCell (p := ⟨w.heap.size + 1, _, none⟩) (by show w.heap.size ≤ w.heap.size + 1; omega) _
  · have hne : (q != 0) = true := by simp [hq]
    have HPB2 : Hid (PB = []) := by show _ = _; rw [unhide HPB, if_neg hq]
    clear hq
    go_wp2_with fail
    refine bodyPost_ret (v := .agg #[.int .i64 q, .slice none 0 0]) (by simp [results, Tryz.results64, go_sem, r0, r1]) rfl ⟨none, 0, by rw [unhide HPB2]; rfl, ?_, ?_⟩
    · rw [unhide HPB2]; exact World.ownsRow_nil _ _ _ _
    · exact ((unhide HB2).setCell (p := ⟨w.heap.size + 1, _, none⟩) (by show w.heap.size ≤ w.heap.size + 1; omega) _).setCell (p := ⟨w.heap.size + 1, _, none⟩) (by show w.heap.size ≤ w.heap.size + 1; omega) _

end Go.Proofs.YtibalolpgaoppaaGreatDoor

/- What is proved here: plain facts on a header's copy and on its bytes, for the law on PackHeader. -/
namespace Go.Proofs.YtibalolpgaoppaaGreatDoor
open Go.RowKit
set_option linter.unusedVariables false
set_option maxRecDepth 100000

theorem HOwn.nilOk {w : World} {B : Nat} {x : HS} {h : Hd} (o : HOwn w B x h) : HNil w x := by
  obtain ⟨g1, g2, g3, g4, g5, g6, g7, rfl, _, o1, o2, o3, o4, o5, o6, o7⟩ := o
  exact ⟨fun e => (by cases e), fun e => (by cases e), OBss.nilOk o3, fun e => (by cases e), fun e => (by cases e), fun e => (by cases e), OBss.nilOk o7⟩

theorem pk_range {w : World} {x : HS} {h : Hd} (o : HOk w x h) : ∀ y ∈ pkBytes h, 0 ≤ y ∧ y ≤ 255 := by
  unfold pkBytes
  split
  · rename_i hf
    have gd := good_of hf
    refine wrapL_range (bd6 h) (by have := (bd_length gd).2.2.2.2.2; omega) ?_
    intro y hy
    unfold bd6 bd5 bd4 bd3 bd2 bd1 at hy
    simp only [List.mem_append] at hy
    have hp := pcL_range h.p (by have := gd.p; omega) o.p.2.1 y
    have h1 := pcL_range (shortF 7 h.n1) (by have := sh_length h.n1; omega) (shortF_range 7 _) y
    have h2 := pcL_range (shortF 7 h.n2) (by have := sh_length h.n2; omega) (shortF_range 7 _) y
    have h3 := pcL_range (shortF 7 h.n3) (by have := sh_length h.n3; omega) (shortF_range 7 _) y
    have ht := pcL_range h.t (by have := gd.t; omega) o.t.2.1 y
    have h5 := pcL_range (shortF 7 h.n5) (by have := sh_length h.n5; omega) (shortF_range 7 _) y
    have hs := wrapL_range (pcsL h.s) (by have := pcsL_length h.s gd.sz; have := gd.s; omega) (pcsL_range h.s gd.sz o.s.bytes) y
    have hr := pcL_range h.r (by have := gd.r; omega) o.r.2.1 y
    have hg := pcL_range h.g (by have := gd.g; omega) o.g.2.1 y
    have he := pcL_range h.e (by have := gd.e; omega) o.e.2.1 y
    have hk := wrapL_range (pcsL h.k) (by have := pcsL_length h.k gd.kz; have := gd.k; omega) (pcsL_range h.k gd.kz o.k.bytes) y
    rcases hy with ((((((((((hy | hy) | hy) | hy) | hy) | hy) | hy) | hy) | hy) | hy) | hy)
    · exact hp hy
    · exact h1 hy
    · exact h2 hy
    · exact h3 hy
    · exact ht hy
    · exact h5 hy
    · exact hs hy
    · exact hr hy
    · exact hg hy
    · exact he hy
    · exact hk hy
  · intro y hy; simp at hy

theorem pk_length (h : Hd) : (pkBytes h).length ≤ 1200 := by
  unfold pkBytes
  split
  · rename_i hf
    have h1 := wrapL_length (bd6 h)
    have h2 := (bd_length (good_of hf)).2.2.2.2.2
    unfold packL
    omega
  · simp

end Go.Proofs.YtibalolpgaoppaaGreatDoor

/- What is proved here: plain facts on bytes that are padded to a multiple of 136; no program is named. -/
namespace Go.Proofs.YtibalolpgaoppaaGreatDoor
set_option linter.unusedVariables false
set_option maxRecDepth 100000

/-- How many bytes there are behind the padding. -/
def padLen (n : Nat) : Nat := 136 * (n / 136 + 1)

theorem padLen_lt (n : Nat) : n < padLen n ∧ padLen n ≤ n + 136 ∧ padLen n % 136 = 0 := by unfold padLen; omega

theorem padLen_first (n m : Nat) (h1 : n < m) (h2 : m ≤ padLen n) (h3 : m % 136 = 0) : m = padLen n := by unfold padLen at h2 ⊢; omega

/-- The last byte of the padding. -/
def padLast (n : Nat) : Int := if n + 1 = padLen n then 129 else 128

/-- The bytes, a byte 1, and k zeros. -/
def padRaw (zs : List Int) (k : Nat) : List Int := zs ++ 1 :: List.replicate k 0

/-- Padded bytes. -/
def padB (zs : List Int) : List Int := (padRaw zs (padLen zs.length - zs.length - 1)).set (padLen zs.length - 1) (padLast zs.length)

theorem padRaw_length (zs : List Int) (k : Nat) : (padRaw zs k).length = zs.length + 1 + k := by simp [padRaw]; omega

theorem padRaw_succ (zs : List Int) (k : Nat) : padRaw zs (k + 1) = padRaw zs k ++ [0] := by
  unfold padRaw
  rw [List.replicate_succ', List.append_assoc]
  rfl

theorem padB_length (zs : List Int) : (padB zs).length = padLen zs.length := by
  have := padLen_lt zs.length
  unfold padB
  rw [List.length_set, padRaw_length]
  omega

theorem padRaw_range (zs : List Int) (k : Nat) (h : ∀ x ∈ zs, 0 ≤ x ∧ x ≤ 255) : ∀ x ∈ padRaw zs k, 0 ≤ x ∧ x ≤ 255 := by
  intro x hx
  unfold padRaw at hx
  rcases List.mem_append.1 hx with hx | hx
  · exact h x hx
  · rcases List.mem_cons.1 hx with rfl | hx
    · omega
    · rw [List.eq_of_mem_replicate hx]; omega

theorem padB_range (zs : List Int) (h : ∀ x ∈ zs, 0 ≤ x ∧ x ≤ 255) : ∀ x ∈ padB zs, 0 ≤ x ∧ x ≤ 255 := by
  intro x hx
  rcases List.mem_or_eq_of_mem_set hx with h' | h'
  · exact padRaw_range zs _ h x h'
  · subst h'; unfold padLast; split <;> omega

/-- What stands last ahead of the xor. -/
theorem padRaw_last (zs : List Int) : (padRaw zs (padLen zs.length - zs.length - 1)).getD (padLen zs.length - 1) 0 = if zs.length + 1 = padLen zs.length then 1 else 0 := by
  have hp := padLen_lt zs.length
  have hl := padRaw_length zs (padLen zs.length - zs.length - 1)
  rw [getD_at _ _ (by omega)]
  unfold padRaw
  rw [List.getElem_append_right (by omega)]
  split
  · rename_i he
    have e : padLen zs.length - 1 - zs.length = 0 := by omega
    simp [e]
  · rename_i he
    obtain ⟨q, hq⟩ : ∃ q, padLen zs.length - 1 - zs.length = q + 1 := ⟨padLen zs.length - 2 - zs.length, by omega⟩
    simp [hq]

end Go.Proofs.YtibalolpgaoppaaGreatDoor

/- What is proved here: plain facts on bytes soaked into a state of lanes, and what KeccakOf answers; no program is named. -/
namespace Go.Proofs.YtibalolpgaoppaaGreatDoor
open Go.RowKit
set_option linter.unusedVariables false
set_option maxRecDepth 100000

/-- The k lowest bytes of a lane. -/
def lowB (b : Nat → Nat) : Nat → Nat
  | 0 => 0
  | k + 1 => lowB b k + b k * 2 ^ (8 * k)

theorem lowB_lt (b : Nat → Nat) (hb : ∀ i, b i < 256) : ∀ k, lowB b k < 2 ^ (8 * k)
  | 0 => by simp [lowB]
  | k + 1 => by
    have i := lowB_lt b hb k
    have h := hb k
    unfold lowB
    have e : 2 ^ (8 * (k + 1)) = 256 * 2 ^ (8 * k) := by rw [show 8 * (k + 1) = 8 * k + 8 by omega, Nat.pow_add, Nat.mul_comm]
    rw [e]
    have m : (b k + 1) * 2 ^ (8 * k) ≤ 256 * 2 ^ (8 * k) := Nat.mul_le_mul_right _ (by omega)
    rw [Nat.add_mul] at m
    omega

/-- Byte i behind a place. -/
def byteN (bs : List Int) (p i : Nat) : Nat := (bs.getD (p + i) 0).toNat

/-- The lane that begins at a place of bytes. -/
def laneB (bs : List Int) (p : Nat) : Nat := lowB (byteN bs p) 8

theorem byteN_lt {bs : List Int} (h : ∀ x ∈ bs, 0 ≤ x ∧ x ≤ 255) (p i : Nat) : byteN bs p i < 256 := by
  unfold byteN
  rw [List.getD_eq_getElem?_getD]
  cases e : bs[p + i]? with
  | none => simp
  | some x => have := h x (List.mem_of_getElem? e); simp; omega

theorem byteN_cast {bs : List Int} (h : ∀ x ∈ bs, 0 ≤ x ∧ x ≤ 255) (p i : Nat) : ((byteN bs p i : Nat) : Int) = bs.getD (p + i) 0 := by
  unfold byteN
  rw [List.getD_eq_getElem?_getD]
  cases e : bs[p + i]? with
  | none => simp
  | some x => have := h x (List.mem_of_getElem? e); simp; omega

theorem laneB_lt {bs : List Int} (h : ∀ x ∈ bs, 0 ≤ x ∧ x ≤ 255) (p : Nat) : laneB bs p < 18446744073709551616 := lowB_lt _ (byteN_lt h p) 8

theorem laneB_words {bs : List Int} (h : ∀ x ∈ bs, 0 ≤ x ∧ x ≤ 255) (p : Nat) :
    (hiW (laneB bs p) : Int) = bs.getD (p + 4) 0 + bs.getD (p + 5) 0 * 256 + bs.getD (p + 6) 0 * 65536 + bs.getD (p + 7) 0 * 16777216 ∧
    (loW (laneB bs p) : Int) = bs.getD (p + 0) 0 + bs.getD (p + 1) 0 * 256 + bs.getD (p + 2) 0 * 65536 + bs.getD (p + 3) 0 * 16777216 := by
  have c0 := byteN_cast h p 0
  have c1 := byteN_cast h p 1
  have c2 := byteN_cast h p 2
  have c3 := byteN_cast h p 3
  have c4 := byteN_cast h p 4
  have c5 := byteN_cast h p 5
  have c6 := byteN_cast h p 6
  have c7 := byteN_cast h p 7
  have l0 := byteN_lt h p 0
  have l1 := byteN_lt h p 1
  have l2 := byteN_lt h p 2
  have l3 := byteN_lt h p 3
  have l4 := byteN_lt h p 4
  have l5 := byteN_lt h p 5
  have l6 := byteN_lt h p 6
  have l7 := byteN_lt h p 7
  rw [← c0, ← c1, ← c2, ← c3, ← c4, ← c5, ← c6, ← c7]
  unfold hiW loW laneB
  simp only [lowB]
  generalize byteN bs p 0 = x0 at *
  generalize byteN bs p 1 = x1 at *
  generalize byteN bs p 2 = x2 at *
  generalize byteN bs p 3 = x3 at *
  generalize byteN bs p 4 = x4 at *
  generalize byteN bs p 5 = x5 at *
  generalize byteN bs p 6 = x6 at *
  generalize byteN bs p 7 = x7 at *
  clear c0 c1 c2 c3 c4 c5 c6 c7
  omega

/-- A block soaked into a state, lane by lane. -/
def soakAt (Z : List Nat) (bs : List Int) (p : Nat) : Nat → List Nat
  | 0 => Z
  | i + 1 => (soakAt Z bs p i).set i ((soakAt Z bs p i).getD i 0 ^^^ laneB bs (p + i * 8))

theorem soakAt_length (Z : List Nat) (bs : List Int) (p : Nat) : ∀ i, (soakAt Z bs p i).length = Z.length
  | 0 => rfl
  | i + 1 => by unfold soakAt; rw [List.length_set, soakAt_length Z bs p i]

theorem soakAt_lanes {Z : List Nat} {bs : List Int} (hZ : Lanes Z) (h : ∀ x ∈ bs, 0 ≤ x ∧ x ≤ 255) (p : Nat) : ∀ i, Lanes (soakAt Z bs p i)
  | 0 => hZ
  | i + 1 => by
    have ih := soakAt_lanes hZ h p i
    refine ⟨by rw [soakAt_length]; exact hZ.1, fun z hz => ?_⟩
    unfold soakAt at hz
    rcases List.mem_or_eq_of_mem_set hz with e | e
    · exact ih.2 z e
    · rw [e]
      have := getD_lt ih.2 (by decide) i
      exact Nat.xor_lt_two_pow (n := 64) this (laneB_lt h _)

/-- The state behind n blocks. -/
def spAt (bs : List Int) : Nat → List Nat
  | 0 => List.replicate 25 0
  | n + 1 => mixAt (soakAt (spAt bs n) bs (136 * n) 17) 24

theorem spAt_lanes {bs : List Int} (h : ∀ x ∈ bs, 0 ≤ x ∧ x ≤ 255) : ∀ n, Lanes (spAt bs n)
  | 0 => ⟨by simp [spAt], fun z hz => by rw [spAt] at hz; rw [List.eq_of_mem_replicate hz]; decide⟩
  | n + 1 => mixAt_lanes (soakAt_lanes (spAt_lanes h n) h _ 17) 24

/-- A block taken out of the bytes. -/
theorem laneB_block (bs : List Int) (p q : Nat) (hq : q + 8 ≤ 136) : laneB ((bs.drop p).take 136) q = laneB bs (p + q) := by
  have e : ∀ k, k ≤ 8 → lowB (byteN ((bs.drop p).take 136) q) k = lowB (byteN bs (p + q)) k := by
    intro k
    induction k with
    | zero => intro _; rfl
    | succ k ih =>
      intro hk
      unfold lowB
      rw [ih (by omega)]
      have : byteN ((bs.drop p).take 136) q k = byteN bs (p + q) k := by
        unfold byteN
        rw [List.getD_eq_getElem?_getD, List.getD_eq_getElem?_getD, List.getElem?_take_of_lt (by omega), List.getElem?_drop, Nat.add_assoc]
      rw [this]
  exact e 8 (Nat.le_refl _)

theorem soakAt_block (Z : List Nat) (bs : List Int) (p : Nat) : ∀ i, i ≤ 17 → soakAt Z ((bs.drop p).take 136) 0 i = soakAt Z bs p i
  | 0, _ => rfl
  | i + 1, h => by
    unfold soakAt
    rw [soakAt_block Z bs p i (by omega), Nat.zero_add, laneB_block bs p (i * 8) (by omega)]

/-- The 32 bytes of a state. -/
def hashOf (Z : List Nat) : List Int := (List.range 32).map fun i => ((Z.getD (i / 8) 0 / 2 ^ (8 * (i % 8)) % 256 : Nat) : Int)

theorem hashOf_length (Z : List Nat) : (hashOf Z).length = 32 := by simp [hashOf]

/-- What KeccakOf answers. -/
def kcCode (zs : List Int) : Int := if 1200 < zs.length then 2 else 0
def kcBytes (zs : List Int) : List Int := if 1200 < zs.length then [] else hashOf (spAt (padB zs) (padLen zs.length / 136))

theorem kcBytes_length (zs : List Int) : (kcBytes zs).length ≤ 32 := by
  unfold kcBytes; split
  · simp
  · rw [hashOf_length]; omega

theorem kcBytes_range (zs : List Int) (h : ∀ x ∈ zs, 0 ≤ x ∧ x ≤ 255) : ∀ x ∈ kcBytes zs, 0 ≤ x ∧ x ≤ 255 := by
  unfold kcBytes; split
  · intro x hx; simp at hx
  · intro x hx
    obtain ⟨i, _, rfl⟩ := List.mem_map.1 hx
    omega

end Go.Proofs.YtibalolpgaoppaaGreatDoor

/- What is proved here: plain facts on what a header is hashed to: without its commits, and without its seal; no program is named. -/
namespace Go.Proofs.YtibalolpgaoppaaGreatDoor
open Go.RowKit
set_option linter.unusedVariables false
set_option maxRecDepth 100000

/-- A header without commits, and its slices. -/
def noK (h : Hd) : Hd := { h with k := [] }
def xNoK (x : HS) : HS := { x with k := ⟨none, 0, 0⟩ }
/-- A header without its seal, and its slices. -/
def noE (h : Hd) : Hd := { h with e := [] }
def xNoE (x : HS) : HS := { x with e := ⟨none, 0, 0⟩ }

theorem hdFlt_noK {h : Hd} (hf : hdFlt h = 0) : hdFlt (noK h) = 0 := by
  unfold hdFlt at hf ⊢
  have e1 : hdLen (noK h) = hdLen h := rfl
  have e2 : hdNum (noK h) = hdNum h := rfl
  have e3 : (noK h).s = h.s := rfl
  have e4 : coFlt (noK h).k = 0 := by simp [noK, coFlt, coFrom]
  rw [e1, e2, e3, e4]
  split at hf
  · omega
  · rename_i h1
    rw [if_neg h1]
    split at hf
    · omega
    · rename_i h2
      rw [if_neg h2]
      split at hf
      · rename_i h3; rw [if_pos h3]
      · rename_i h3; exact absurd hf h3

theorem hdFlt_noE {h : Hd} (hf : hdFlt h = 0) : hdFlt (noE h) = 0 := by
  have hl : hdLen h = false := by
    cases hh : hdLen h with
    | false => rfl
    | true => unfold hdFlt at hf; rw [if_pos hh] at hf; omega
  have e1 : hdLen (noE h) = false := by
    unfold hdLen at hl ⊢
    simp only [Bool.or_eq_false_iff] at hl ⊢
    exact ⟨hl.1, by simp [noE]⟩
  have e2 : hdNum (noE h) = hdNum h := rfl
  have e3 : (noE h).s = h.s := rfl
  have e4 : (noE h).k = h.k := rfl
  unfold hdFlt at hf ⊢
  rw [e1, e2, e3, e4]
  rw [hl] at hf
  exact hf

theorem BRow.nil0 (w : World) : BRow w none 0 [] := ⟨rfl, fun n hn => by simp at hn, fun _ => rfl, fun y hy => by cases hy⟩
theorem BsRow.nil0 (w : World) : BsRow w none 0 [] := ⟨rfl, fun z hz => by simp at hz, fun hp => absurd hp (Nat.lt_irrefl _)⟩

theorem HOk.noK {w : World} {x : HS} {h : Hd} (o : HOk w x h) : HOk w (xNoK x) (noK h) := ⟨o.p, o.t, o.s, o.r, o.g, o.e, BsRow.nil0 w⟩
theorem HOk.noE {w : World} {x : HS} {h : Hd} (o : HOk w x h) : HOk w (xNoE x) (noE h) := ⟨o.p, o.t, o.s, o.r, o.g, BRow.nil0 w, o.k⟩
theorem HNil.noK {w : World} {x : HS} (o : HNil w x) : HNil w (xNoK x) := ⟨o.p, o.t, o.s, o.r, o.g, o.e, fun b off e => by cases e⟩
theorem HNil.noE {w : World} {x : HS} (o : HNil w x) : HNil w (xNoE x) := ⟨o.p, o.t, o.s, o.r, o.g, fun _ => rfl, o.k⟩
theorem HSm.noK {h : Hd} (o : HSm h) : HSm (noK h) := ⟨o.p, o.t, o.s, o.sz, o.r, o.g, o.e, Nat.zero_le _, fun z hz => by simp [Go.Proofs.YtibalolpgaoppaaGreatDoor.noK] at hz⟩
theorem HSm.noE {h : Hd} (o : HSm h) : HSm (noE h) := ⟨o.p, o.t, o.s, o.sz, o.r, o.g, Nat.zero_le _, o.k, o.kz⟩

/-- What HashOf and SealHash answer. -/
def hsBytes (h : Hd) : List Int := if hdFlt h = 0 then kcBytes (packL (noK h)) else []
def shBytes (h : Hd) : List Int := if hdFlt h = 0 then kcBytes (packL (noK (noE h))) else []

theorem pkBytes_good {h : Hd} (hf : hdFlt h = 0) : pkBytes h = packL h := if_pos hf

theorem packL_le {h : Hd} (hf : hdFlt h = 0) : (packL h).length ≤ 1200 := by
  have := pk_length h
  rw [pkBytes_good hf] at this
  exact this

theorem packL_pos (h : Hd) : 0 < (packL h).length := wrapL_pos _

theorem packL_rng {w : World} {x : HS} {h : Hd} (hf : hdFlt h = 0) (o : HOk w x h) : ∀ y ∈ packL h, 0 ≤ y ∧ y ≤ 255 := by
  have := pk_range o
  rw [pkBytes_good hf] at this
  exact this

theorem kcCode_good {z : List Int} (h : z.length ≤ 1200) : kcCode z = 0 := if_neg (by omega)

theorem kcBytes_good {z : List Int} (h : z.length ≤ 1200) : (kcBytes z).length = 32 := by
  unfold kcBytes
  rw [if_neg (by omega), hashOf_length]

theorem hs_length (h : Hd) : (hsBytes h).length ≤ 32 := by
  unfold hsBytes; split
  · exact kcBytes_length _
  · simp

theorem shh_length (h : Hd) : (shBytes h).length ≤ 32 := by
  unfold shBytes; split
  · exact kcBytes_length _
  · simp

theorem hs_range {w : World} {x : HS} {h : Hd} (o : HOk w x h) : ∀ y ∈ hsBytes h, 0 ≤ y ∧ y ≤ 255 := by
  unfold hsBytes; split
  · rename_i hf; exact kcBytes_range _ (packL_rng (hdFlt_noK hf) o.noK)
  · intro y hy; simp at hy

theorem shh_range {w : World} {x : HS} {h : Hd} (o : HOk w x h) : ∀ y ∈ shBytes h, 0 ≤ y ∧ y ≤ 255 := by
  unfold shBytes; split
  · rename_i hf; exact kcBytes_range _ (packL_rng (hdFlt_noK (hdFlt_noE hf)) o.noE.noK)
  · intro y hy; simp at hy

theorem shBytes_eq {h : Hd} (hf : hdFlt h = 0) : shBytes h = hsBytes (noE h) := by
  unfold shBytes hsBytes
  rw [if_pos hf, if_pos (hdFlt_noE hf)]

end Go.Proofs.YtibalolpgaoppaaGreatDoor

/- What is proved here: plain facts on seals and commits, as functions of bytes; no program is named. -/
namespace Go.Proofs.YtibalolpgaoppaaGreatDoor
open Go.RowKit
set_option linter.unusedVariables false
set_option maxRecDepth 100000

/-- The first four bytes of a hash. -/
def sealL (a h : List Int) : List Int := (kcBytes (a ++ h)).take 4
def markL (a h : List Int) : List Int := (kcBytes (a ++ 1 :: h)).take 4

/-- The code of SealOf and CommitOf, and what they answer. -/
def slCode (a h : List Int) : Int := if a.length = 4 ∧ h.length = 32 then 0 else 1
def slBytes (a h : List Int) : List Int := if a.length = 4 ∧ h.length = 32 then sealL a h else []
def cmBytes (a h : List Int) : List Int := if a.length = 4 ∧ h.length = 32 then a ++ markL a h else []

theorem kc4 {z : List Int} (h : z.length ≤ 1200) : ((kcBytes z).take 4).length = 4 := by
  have e : (kcBytes z).length = 32 := by unfold kcBytes; rw [if_neg (by omega), hashOf_length]
  rw [List.length_take, e]; rfl

theorem seal4 {a h : List Int} (ha : a.length = 4) (hh : h.length = 32) : (sealL a h).length = 4 := kc4 (by simp; omega)
theorem mark4 {a h : List Int} (ha : a.length = 4) (hh : h.length = 32) : (markL a h).length = 4 := kc4 (by simp; omega)

theorem append_rng {a h : List Int} (ha : ∀ x ∈ a, 0 ≤ x ∧ x ≤ 255) (hh : ∀ x ∈ h, 0 ≤ x ∧ x ≤ 255) : ∀ x ∈ a ++ h, 0 ≤ x ∧ x ≤ 255 := by
  intro x hx
  rcases List.mem_append.1 hx with e | e
  · exact ha x e
  · exact hh x e

theorem sealL_rng {a h : List Int} (ha : ∀ x ∈ a, 0 ≤ x ∧ x ≤ 255) (hh : ∀ x ∈ h, 0 ≤ x ∧ x ≤ 255) : ∀ x ∈ sealL a h, 0 ≤ x ∧ x ≤ 255 :=
  fun x hx => kcBytes_range _ (append_rng ha hh) x (List.mem_of_mem_take hx)

theorem one_rng {h : List Int} (hh : ∀ x ∈ h, 0 ≤ x ∧ x ≤ 255) : ∀ x ∈ (1 : Int) :: h, 0 ≤ x ∧ x ≤ 255 := by
  intro x hx
  rcases List.mem_cons.1 hx with e | e
  · omega
  · exact hh x e

theorem markL_rng {a h : List Int} (ha : ∀ x ∈ a, 0 ≤ x ∧ x ≤ 255) (hh : ∀ x ∈ h, 0 ≤ x ∧ x ≤ 255) : ∀ x ∈ markL a h, 0 ≤ x ∧ x ≤ 255 :=
  fun x hx => kcBytes_range _ (append_rng ha (one_rng hh)) x (List.mem_of_mem_take hx)

theorem sl_range {a h : List Int} (ha : ∀ x ∈ a, 0 ≤ x ∧ x ≤ 255) (hh : ∀ x ∈ h, 0 ≤ x ∧ x ≤ 255) : ∀ x ∈ slBytes a h, 0 ≤ x ∧ x ≤ 255 := by
  unfold slBytes; split
  · exact sealL_rng ha hh
  · intro x hx; simp at hx

theorem cm_range {a h : List Int} (ha : ∀ x ∈ a, 0 ≤ x ∧ x ≤ 255) (hh : ∀ x ∈ h, 0 ≤ x ∧ x ≤ 255) : ∀ x ∈ cmBytes a h, 0 ≤ x ∧ x ≤ 255 := by
  unfold cmBytes; split
  · exact append_rng ha (markL_rng ha hh)
  · intro x hx; simp at hx

theorem sl_length (a h : List Int) : (slBytes a h).length ≤ 4 := by
  unfold slBytes; split
  · rename_i q; rw [seal4 q.1 q.2]; omega
  · simp

theorem cm_length (a h : List Int) : (cmBytes a h).length ≤ 8 := by
  unfold cmBytes; split
  · rename_i q; rw [List.length_append, mark4 q.1 q.2]; omega
  · simp

/-- The first elements of a row that is owned are owned. -/
theorem own_take {w : World} {B n m cap : Nat} {a : Option Addr} {e : TypeId} {xs : List Value} (h : w.ownsRow B e 1 (.slice a n cap) n xs) (hm : m ≤ n) : w.ownsRow B e 1 (.slice a m cap) m (xs.take m) := by
  have hl := h.1
  refine ⟨by rw [List.length_take]; omega, ?_⟩
  rcases h.2 with ⟨h', h''⟩ | ⟨g, cap', cur, h', hb, hg, hnc, hcm, hcs, htake⟩
  · simp only [Value.slice.injEq] at h'
    obtain ⟨rfl, rfl, rfl⟩ := h'
    obtain rfl : m = 0 := by omega
    exact .inl ⟨rfl, rfl⟩
  · simp only [Value.slice.injEq] at h'
    obtain ⟨rfl, -, rfl⟩ := h'
    refine .inr ⟨g, cap, cur, rfl, hb, hg, Nat.le_trans hm hnc, hcm, hcs, ?_⟩
    rw [← htake, List.take_take]
    congr 1
    omega

end Go.Proofs.YtibalolpgaoppaaGreatDoor

/- What is proved here: plain facts on headers in memory of their own: what a store below them leaves, and a list that grows by one slice. -/
namespace Go.Proofs.YtibalolpgaoppaaGreatDoor
open Go.RowKit
set_option linter.unusedVariables false
set_option maxRecDepth 100000

theorem CB.set {B j : Nat} {d : Nat → Nat} {w : World} {s : Sl} {z : List Int} {p : Addr} {v : Value} (h : CB w B d j s z) (hp : p.block < B) : CB (w.setCell p v) B d j s z := ⟨h.len, h.rng, ownsRow_setCell_below h.own hp v, h.col⟩

theorem CS.set {B r c : Nat} {d : Nat → Nat} {w : World} {s : Sl} {zss : List (List Int)} {p : Addr} {v : Value} (h : CS w B d r c s zss) (hp : p.block < B) : CS (w.setCell p v) B d r c s zss := by
  obtain ⟨h1, es, h2, h3, h4, h5⟩ := h
  exact ⟨h1, es, h2, ownsRow_setCell_below h3 hp v, h4, fun i e z he hz => (h5 i e z he hz).set hp⟩

theorem CH.set {B : Nat} {d : Nat → Nat} {w : World} {x : HS} {h : Hd} {p : Addr} {v : Value} (o : CH w B d x h) (hp : p.block < B) : CH (w.setCell p v) B d x h :=
  ⟨o.p.set hp, o.t.set hp, o.s.set hp, o.r.set hp, o.g.set hp, o.e.set hp, o.k.set hp⟩

theorem CB.recol2 {B j : Nat} {d d' : Nat → Nat} {w : World} {s : Sl} {z : List Int} (h : CB w B d j s z) (hd : ∀ g, B ≤ g → d' g = d g) : CB w B d' j s z := ⟨h.len, h.rng, h.own, fun g hg => by rw [hd g (own_lt h.own g hg).1]; exact h.col g hg⟩

theorem CS.recol2 {B r c : Nat} {d d' : Nat → Nat} {w : World} {s : Sl} {zss : List (List Int)} (h : CS w B d r c s zss) (hd : ∀ g, B ≤ g → d' g = d g) : CS w B d' r c s zss := by
  obtain ⟨h1, es, h2, h3, h4, h5⟩ := h
  exact ⟨h1, es, h2, h3, fun g hg => by rw [hd g (own_lt h3 g hg).1]; exact h4 g hg, fun i e z he hz => (h5 i e z he hz).recol2 hd⟩

theorem CH.recol2 {B : Nat} {d d' : Nat → Nat} {w : World} {x : HS} {h : Hd} (o : CH w B d x h) (hd : ∀ g, B ≤ g → g < w.heap.size → d' g = d g) : CH w B d' x h := by
  have key : ∀ {j : Nat} {s : Sl} {z : List Int}, CB w B d j s z → CB w B d' j s z := fun h => ⟨h.len, h.rng, h.own, fun g hg => by rw [hd g (own_lt h.own g hg).1 (own_lt h.own g hg).2]; exact h.col g hg⟩
  have keyS : ∀ {r c : Nat} {s : Sl} {zss : List (List Int)}, CS w B d r c s zss → CS w B d' r c s zss := fun h => by
    obtain ⟨h1, es, h2, h3, h4, h5⟩ := h
    exact ⟨h1, es, h2, h3, fun g hg => by rw [hd g (own_lt h3 g hg).1 (own_lt h3 g hg).2]; exact h4 g hg, fun i e z he hz => key (h5 i e z he hz)⟩
  exact ⟨key o.p, key o.t, keyS o.s, key o.r, key o.g, key o.e, keyS o.k⟩

theorem own_set9 {B : Nat} {w : World} {e : TypeId} {size n : Nat} {v : Value} {xs : List Value} {p : Addr} {u : Value} (h : w.ownsRow B e size v n xs) (hne : ∀ g, v.ownBlock = some g → g ≠ p.block) : (w.setCell p u).ownsRow B e size v n xs := by
  refine ⟨h.1, ?_⟩
  rcases h.2 with h' | ⟨g, cap, cur, h1, h2, h3, h4⟩
  · exact .inl h'
  · exact .inr ⟨g, cap, cur, h1, h2, (heap_setCell_other w p g u (hne g (by rw [h1]; rfl))).trans h3, h4⟩

theorem CB.set9 {B j : Nat} {d : Nat → Nat} {w : World} {s : Sl} {z : List Int} {p : Addr} {v : Value} (h : CB w B d j s z) (hp : d p.block ≠ j) : CB (w.setCell p v) B d j s z := ⟨h.len, h.rng, own_set9 h.own (fun g hg e => hp (by rw [← e]; exact h.col g hg)), h.col⟩

theorem CS.set9 {B r c : Nat} {d : Nat → Nat} {w : World} {s : Sl} {zss : List (List Int)} {p : Addr} {v : Value} (h : CS w B d r c s zss) (hr : d p.block ≠ r) (hc : ∀ i, d p.block ≠ c + 3 * i) : CS (w.setCell p v) B d r c s zss := by
  obtain ⟨h1, es, h2, h3, h4, h5⟩ := h
  exact ⟨h1, es, h2, own_set9 h3 (fun g hg e => hr (by rw [← e]; exact h4 g hg)), h4, fun i e z he hz => (h5 i e z he hz).set9 (hc i)⟩

theorem CH.set9 {B : Nat} {d : Nat → Nat} {w : World} {x : HS} {h : Hd} {p : Addr} {v : Value} (o : CH w B d x h) (hp : d p.block = 9) : CH (w.setCell p v) B d x h :=
  ⟨o.p.set9 (by omega), o.t.set9 (by omega), o.s.set9 (by omega) (fun i => by omega), o.r.set9 (by omega), o.g.set9 (by omega), o.e.set9 (by omega), o.k.set9 (by omega) (fun i => by omega)⟩

theorem CS.mkSnoc {B r c : Nat} {d : Nat → Nat} {w w2 : World} {s : Sl} {zss : List (List Int)} {es : List Sl} {e : Sl} {z : List Int} {a' : Option Addr} {c' : Nat} (hr : ∀ i, r ≠ c + 3 * i) (hB : B ≤ w.heap.size) (h1 : s.n = zss.length) (h2 : es.length = zss.length)
    (h3 : w.ownsRow B 22 1 (.slice s.a s.n s.c) s.n (es.map Sl.v)) (h4 : ∀ g, (Value.slice s.a s.n s.c).ownBlock = some g → d g = r) (h5 : ∀ (i : Nat) (e : Sl) (z : List Int), es[i]? = some e → zss[i]? = some z → CB w B d (c + 3 * i) e z)
    (he : CB w B d (c + 3 * zss.length) e z) (o2 : w2.ownsRow B 22 1 (.slice a' (s.n + 1) c') (s.n + 1) (es.map Sl.v ++ [e.v])) (hg : w.grownBy w2 (Value.slice s.a s.n s.c).ownBlock)
    (hblk : (Value.slice a' (s.n + 1) c').ownBlock = (Value.slice s.a s.n s.c).ownBlock ∨ (Value.slice a' (s.n + 1) c').ownBlock = some w.heap.size) :
    CS w2 B (fun g => if w.heap.size ≤ g then r else d g) r c ⟨a', s.n + 1, c'⟩ (zss ++ [z]) ∧ OnlyD B (fun g => if w.heap.size ≤ g then r else d g) (fun q => q = r) w w2 := by
  have hdg : ∀ q, q < w.heap.size → (if w.heap.size ≤ q then r else d q) = d q := fun q hq => if_neg (by omega)
  have on : OnlyD B (fun q => if w.heap.size ≤ q then r else d q) (fun q => q = r) w w2 := OnlyD.grown hg hB (fun q e => ⟨(own_lt h3 q e).1, by rw [hdg q (own_lt h3 q e).2]; exact h4 q e⟩)
  refine ⟨⟨by simp [h1], es ++ [e], by simp [h2], by rw [List.map_append]; exact o2, fun g hgq => ?_, fun i e' z' he' hz' => ?_⟩, on⟩
  · rcases hblk with hb | hb
    · have hgq' : (Value.slice s.a s.n s.c).ownBlock = some g := by rw [← hb]; exact hgq
      show (if w.heap.size ≤ g then r else d g) = r
      rw [hdg g (own_lt h3 g hgq').2]; exact h4 g hgq'
    · have hgq' : some w.heap.size = some g := by rw [← hb]; exact hgq
      obtain rfl := Option.some.inj hgq'
      exact if_pos (Nat.le_refl _)
  · by_cases hi : i < zss.length
    · rw [List.getElem?_append_left (by omega)] at he' hz'
      exact ((h5 i e' z' he' hz').recol hdg).only on (fun q => hr i q.symm)
    · have hi2 : i = zss.length := by
        have := (List.getElem?_eq_some_iff.1 hz').1
        simp at this
        omega
      subst hi2
      rw [List.getElem?_append_right (by omega), h2, Nat.sub_self] at he'
      rw [List.getElem?_append_right (Nat.le_refl _), Nat.sub_self] at hz'
      simp at he' hz'
      subst he' hz'
      exact (he.recol hdg).only on (fun q => hr _ q.symm)

end Go.Proofs.YtibalolpgaoppaaGreatDoor

/- What is proved here: plain facts on who committed to a header; no program is named. -/
namespace Go.Proofs.YtibalolpgaoppaaGreatDoor
open Go.RowKit
set_option linter.unusedVariables false
set_option maxRecDepth 100000

def hash1 (h : Hd) : List Int := kcBytes (packL (noK h))
/-- Whether a commit is that of its first four bytes. -/
def coOk (h : Hd) (z : List Int) : Bool := strEq z (z.take 4 ++ markL (z.take 4) (hash1 h))
def coAll (h : Hd) (zss : List (List Int)) : Bool := zss.all (coOk h)
/-- Who committed. -/
def coAd (zss : List (List Int)) : List (List Int) := zss.map (fun z => z.take 4)
/-- Whether one stands among the first n. -/
def hasN (zss : List (List Int)) (z : List Int) (n : Nat) : Bool := (zss.take n).any (fun y => strEq y z)
/-- Whether one of the first n stands twice. -/
def twiceN (zss : List (List Int)) : Nat → Bool
  | 0 => false
  | n + 1 => twiceN zss n || hasN zss (zss.getD n []) n

def coCode (h : Hd) : Int := if hdFlt h = 0 then (if coAll h h.k = true then (if twiceN (coAd h.k) h.k.length = true then 6 else 0) else 7) else hdFlt h
def coAns (h : Hd) : List (List Int) := if hdFlt h = 0 ∧ coAll h h.k = true ∧ twiceN (coAd h.k) h.k.length = false then coAd h.k else []

theorem strEq_comm (a b : List Int) : strEq a b = strEq b a := by
  unfold strEq
  exact Bool.eq_iff_iff.2 ⟨fun h => by rw [beq_iff_eq] at h ⊢; exact h.symm, fun h => by rw [beq_iff_eq] at h ⊢; exact h.symm⟩

theorem hasN_succ (zss : List (List Int)) (z y : List Int) (n : Nat) (h : zss[n]? = some y) : hasN zss z (n + 1) = (hasN zss z n || strEq y z) := by
  obtain ⟨hn, e⟩ := List.getElem?_eq_some_iff.1 h
  unfold hasN
  rw [List.take_succ_eq_append_getElem hn, List.any_append, e]
  simp

theorem coAll_succ (h : Hd) (zss : List (List Int)) (k : Nat) (z : List Int) (hz : zss[k]? = some z) : coAll h (zss.take (k + 1)) = (coAll h (zss.take k) && coOk h z) := by
  obtain ⟨hk, e⟩ := List.getElem?_eq_some_iff.1 hz
  unfold coAll
  rw [List.take_succ_eq_append_getElem hk, List.all_append, e]
  simp

theorem coAll_bad (h : Hd) (zss : List (List Int)) (k : Nat) (z : List Int) (hz : zss[k]? = some z) (hb : coOk h z = false) : coAll h zss = false := by
  unfold coAll
  rw [List.all_eq_false]
  exact ⟨z, List.mem_of_getElem? hz, by rw [hb]; simp⟩

theorem hasN_mono (zss : List (List Int)) (z y : List Int) (j n : Nat) (hj : j < n) (h : zss[j]? = some y) (hs : strEq y z = true) : hasN zss z n = true := by
  unfold hasN
  rw [List.any_eq_true]
  refine ⟨y, ?_, hs⟩
  have := List.getElem?_take_of_lt (l := zss) hj
  exact List.mem_of_getElem? (this.trans h)

theorem twiceN_mono (zss : List (List Int)) (m n : Nat) (h : m ≤ n) (ht : twiceN zss m = true) : twiceN zss n = true := by
  induction n with
  | zero => obtain rfl : m = 0 := by omega
            exact ht
  | succ n ih =>
    by_cases e : m = n + 1
    · subst e; exact ht
    · unfold twiceN; rw [ih (by omega)]; rfl

theorem coAd_length (zss : List (List Int)) : (coAd zss).length = zss.length := by simp [coAd]

theorem coAd_snoc (zss : List (List Int)) (k : Nat) (z : List Int) (hz : zss[k]? = some z) : (coAd zss).take (k + 1) = (coAd zss).take k ++ [z.take 4] := by
  obtain ⟨hk, e⟩ := List.getElem?_eq_some_iff.1 hz
  unfold coAd
  rw [← List.map_take, List.take_succ_eq_append_getElem hk, List.map_append, e, List.map_take]
  rfl

/-- The first bytes of a slice. -/
theorem BRow.take {w : World} {a : Option Addr} {n m : Nat} {z : List Int} (h : BRow w a n z) (hm : m ≤ n) : BRow w a m (z.take m) := by
  refine ⟨by rw [List.length_take, h.1]; omega, fun x hx => h.2.1 x (List.mem_of_mem_take hx), fun e => by have := h.2.2.1 e; omega, fun y hy j hj => ?_⟩
  rw [h.2.2.2 y hy j (by omega), getD_at _ _ (by rw [h.1]; omega), getD_at _ _ (by rw [List.length_take, h.1]; omega), List.getElem_take]

/-- The first slices of a list. -/
theorem BsRow.take {w : World} {a : Option Addr} {n m : Nat} {zss : List (List Int)} (h : BsRow w a n zss) (hm : m ≤ n) : BsRow w a m (zss.take m) := by
  refine ⟨by rw [List.length_take, h.1]; omega, fun z hz => h.2.1 z (List.mem_of_mem_take hz), fun hp => ?_⟩
  obtain ⟨b, off, e, k⟩ := h.2.2 (by omega)
  refine ⟨b, off, e, fun i z hi => k i z ?_⟩
  rw [List.getElem?_take] at hi
  split at hi
  · exact hi
  · cases hi

end Go.Proofs.YtibalolpgaoppaaGreatDoor
