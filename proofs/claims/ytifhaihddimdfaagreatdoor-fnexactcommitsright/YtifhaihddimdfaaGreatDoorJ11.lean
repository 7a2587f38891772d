/- What is proved here: what the program's HeaderFault answers, and what it calls: the fault of a header. -/
import Derived.Test.YtifhaihddimdfaaGreatDoorJ6
import Derived.Test.YtifhaihddimdfaaGreatDoorJ10
import Derived.WalkKit
import Derived.WalkSmall
import Derived.Deep.DeepCutAuto
import Derived.Deep.CutBlock
import Derived.WalkSpells
import Derived.Test.YtifhaihddimdfaaGreatDoorChecked
import Derived.Test.YtifhaihddimdfaaGreatDoorJ4
import Derived.WalkLawsBesides
import Derived.KernelRfl
import Derived.Test.YtifhaihddimdfaaGreatDoorJ9
import Derived.Test.YtifhaihddimdfaaGreatDoorJ5
import Derived.Test.YtifhaihddimdfaaGreatDoorJ8
namespace Go.Proofs.YtifhaihddimdfaaGreatDoor
open Go.RowKit
set_option linter.unusedVariables false
set_option maxRecDepth 100000

theorem isHash_any (a : Option Addr) (n cap : Nat) (w : World) : Calls Tryz.prog 42 #[.slice a n cap] w fun e w' => e = .returned (.bool (((n : Nat) : Int) == 32)) ∧ w' = w := by
  go_enter Tryz.func42, Tryz.ntmps42
  go_wp2_with fail
  go_ret
  exact ⟨rfl, rfl⟩

theorem isWithin_any (v lo hi : Int) (w : World) : Calls Tryz.prog 90 #[.int .i64 v, .int .i64 lo, .int .i64 hi] w fun e w' => e = .returned (.bool (within v lo hi)) ∧ w' = w := by
  unfold within
  by_cases h0 : lo ≤ v
  · have e0 : decide (lo ≤ v) = true := decide_eq_true h0
    by_cases h1 : v ≤ hi
    · have e1 : decide (v ≤ hi) = true := decide_eq_true h1
      have e : decide (lo ≤ v ∧ v ≤ hi) = true := decide_eq_true ⟨h0, h1⟩
      rw [e]
      clear e
      go_enter Tryz.func90, Tryz.ntmps90
      go_wp2_with fail
      go_ret
      exact ⟨rfl, rfl⟩
    · have e1 : decide (v ≤ hi) = false := decide_eq_false h1
      have e : decide (lo ≤ v ∧ v ≤ hi) = false := decide_eq_false (fun h => h1 h.2)
      rw [e]
      clear e
      go_enter Tryz.func90, Tryz.ntmps90
      go_wp2_with fail
      go_ret
      exact ⟨rfl, rfl⟩
  · have e0 : decide (lo ≤ v) = false := decide_eq_false h0
    have e : decide (lo ≤ v ∧ v ≤ hi) = false := decide_eq_false (fun h => h0 h.1)
    rw [e]
    clear e
    go_enter Tryz.func90, Tryz.ntmps90
    go_wp2_with fail
    go_ret
    exact ⟨rfl, rfl⟩

theorem isWithin_to (v lo hi : Int) (c : Bool) (w : World) (e : within v lo hi = c) : Calls Tryz.prog 90 #[.int .i64 v, .int .i64 lo, .int .i64 hi] w fun e w' => e = .returned (.bool c) ∧ w' = w := by
  subst e; exact isWithin_any v lo hi w

theorem isNumber_to (v : Int) (c : Bool) (w : World) (e : within v 0 1099511627776 = c) : Calls Tryz.prog 89 #[.int .i64 v] w fun e w' => e = .returned (.bool c) ∧ w' = w := by
  have HI := hide (isWithin_to v 0 1099511627776 c w e)
  clear e
  go_enter Tryz.func89, Tryz.ntmps89
  go_wp2_with fail
  refine (unhide HI).mono ?_
  rintro e w' ⟨rfl, rfl⟩
  go_wp2_with fail
  go_ret
  exact ⟨rfl, rfl⟩

theorem hasNonce_to (x : HS) (h : Hd) (c : Bool) (w : World) (e : within h.n5 0 2 = c) : Calls Tryz.prog 91 #[.agg #[.slice x.t.a x.t.n x.t.c, .int .i64 h.n5, .slice x.s.a x.s.n x.s.c]] w fun e w' => e = .returned (.bool c) ∧ Below w.heap.size w w' := by
  have HI := hide (fun W => isWithin_to h.n5 0 2 c W e)
  have HB := hide (below_alloc w (.cells #[.slice x.t.a x.t.n x.t.c, .int .i64 h.n5, .slice x.s.a x.s.n x.s.c] 68))
  clear e
  go_enter Tryz.func91, Tryz.ntmps91
  go_wp2_with fail
  refine ((unhide HI) _).mono ?_
  rintro e w' ⟨rfl, rfl⟩
  go_wp2_with fail
  go_ret
  exact ⟨rfl, unhide HB⟩

theorem hasAim_to (x : HS) (h : Hd) (b2 b3 : Bool) (w : World) (e2 : (((x.t.n : Nat) : Int) != 0) = b2) (e3 : (((x.t.n : Nat) : Int) != 4) = b3) :
    Calls Tryz.prog 88 #[.agg #[.slice x.t.a x.t.n x.t.c, .int .i64 h.n5, .slice x.s.a x.s.n x.s.c]] w fun e w' => e = .returned (.bool (!(b2 && b3))) ∧ Below w.heap.size w w' := by
  have HI := hide (fun W => isAddr_any x.t.a x.t.n x.t.c W)
  have HB := hide (below_alloc w (.cells #[.slice x.t.a x.t.n x.t.c, .int .i64 h.n5, .slice x.s.a x.s.n x.s.c] 68))
  have f2 : (((x.t.n : Nat) : Int) == 0) = !b2 := by rw [← e2]; simp [bne]
  have f3 : (((x.t.n : Nat) : Int) == 4) = !b3 := by rw [← e3]; simp [bne]
  simp only [f3] at HI
  clear e2 e3 f3
  cases b2
  · have f2' : (((x.t.n : Nat) : Int) == 0) = true := f2
    clear f2
    go_enter Tryz.func88, Tryz.ntmps88
    go_wp2_with fail
    go_ret
    exact ⟨rfl, unhide HB⟩
  · have f2' : (((x.t.n : Nat) : Int) == 0) = false := f2
    clear f2
    go_enter Tryz.func88, Tryz.ntmps88
    go_wp2_with fail
    refine ((unhide HI) _).mono ?_
    rintro e w' ⟨rfl, rfl⟩
    go_wp2_with fail
    go_ret
    exact ⟨ret_bool (by cases b3 <;> rfl), unhide HB⟩

theorem votesFault_any (x : HS) (h : Hd) (w : World) (o : BsRow w x.s.a x.s.n h.s) (hl : x.s.n ≤ 1048576) : Calls Tryz.prog 49 #[.agg #[.slice x.t.a x.t.n x.t.c, .int .i64 h.n5, .slice x.s.a x.s.n x.s.c]] w fun e w' => e = .returned (.int .i64 (sgFlt h.s)) ∧ Below w.heap.size w w' := by
  have hb := below_alloc w (.cells #[.slice x.t.a x.t.n x.t.c, .int .i64 h.n5, .slice x.s.a x.s.n x.s.c] 68)
  have HI := hide (implSigners_any x.s.a x.s.n x.s.c h.s _ (o.below hb (Nat.le_refl _)) hl)
  have HB := hide hb
  clear o hb
  generalize sgFlt h.s = q at HI
  go_enter Tryz.func49, Tryz.ntmps49
  go_wp2_with fail
  refine (unhide HI).mono ?_
  rintro e w' ⟨rfl, rfl⟩
  go_wp2_with fail
  go_ret
  exact ⟨rfl, unhide HB⟩

set_option maxHeartbeats 4000000 in
theorem commitsFault_any (x : HS) (h : Hd) (w : World) (o : BsRow w x.k.a x.k.n h.k) (hkl : x.k.n ≤ 1048576) : Calls Tryz.prog 50 #[.agg (hvals x h)] w fun e w' => e = .returned (.int .i64 (coFlt h.k)) ∧ Below w.heap.size w w' := by
  have k0 := SBlk.new w (hvals x h) 70
  have hb := below_alloc w (.cells (hvals x h) 70)
  obtain ⟨x0, x1, x2, x3, x4, x5, x6, x7, x8, x9, x10⟩ := hcells k0
  have HK := hide (o.below hb (Nat.le_refl _))
  have HB := hide hb
  obtain ⟨W0, e0⟩ : ∃ W0, w.alloc (.cells (hvals x h) 70) = W0 := ⟨_, rfl⟩
  rw [e0] at x10 HK HB
  clear o hb k0 x0 x1 x2 x3 x4 x5 x6 x7 x8 x9
  unfold hvals at e0 ⊢
  by_cases h7 : 7 < x.k.n
  · have d7 : decide ((7 : Int) < (x.k.n : Int)) = true := decide_eq_true (by omega)
    go_enter Tryz.func50, Tryz.ntmps50
    go_wp2_with (rw [e0])
    go_ret
    refine ⟨ret_int ?_, by first | exact unhide HB | (rw [e0]; exact unhide HB)⟩
    unfold coFlt; rw [if_pos (by rw [(unhide HK).1]; exact h7)]
  · have d7 : decide ((7 : Int) < (x.k.n : Int)) = false := decide_eq_false (by omega)
    have HE3 : Hid (coFlt h.k = coFrom h.k) := by
      show _ = _
      unfold coFlt; rw [if_neg (by rw [(unhide HK).1]; exact h7)]
    go_enter Tryz.func50, Tryz.ntmps50
    go_upto_region 1 with (rw [e0])
    try rw [e0]
    clear e0
    go_wp2_with fail
    go_loop [12] (fun i => ∃ k : Nat, k ≤ x.k.n ∧ i = .int .i64 k ∧ coFrom h.k = coFrom (h.k.drop k)) (fun i => x.k.n - (intOf i).toNat)
    case atStart => exact ⟨0, Nat.zero_le _, rfl, by simp⟩
    case round =>
      obtain ⟨k, hk, rfl, hpre⟩ := hrel
      by_cases hlt : k < x.k.n
      · obtain ⟨z, hit⟩ : ∃ z, h.k[k]? = some z := ⟨_, List.getElem?_eq_getElem (by rw [(unhide HK).1]; exact hlt)⟩
        have hst := coFrom_step h.k k z hit
        rw [← hpre] at hst
        obtain ⟨bb, off, hba, _, hcc⟩ := (unhide HK).at (by omega)
        obtain ⟨s1, m1, d1, p0, r1⟩ := hcc k z hit
        have hzl : z.length = m1 := r1.1
        rw [hzl] at hst
        have HS := hide hst
        have i1 : (0 : Int) ≤ (k : Int) := by omega
        have i2 : (k : Int) < (x.k.n : Int) := by omega
        clear r1 hst hpre hit hzl hcc x10
        by_cases h8 : m1 = 8
        · have d8 : (((m1 : Nat) : Int) != 8) = false := by simp [h8]
          rw [if_pos h8] at HS
          clear h8
          rw [hba]
          clear hba
          go_wp2_with fail
          go_round
          case rel => exact ⟨k + 1, by omega, by go_num, unhide HS⟩
          case measure => simp [intOf]; omega
        · have d8 : (((m1 : Nat) : Int) != 8) = true := by simp; omega
          rw [if_neg h8] at HS
          clear h8
          rw [hba]
          clear hba
          go_wp2_with fail
          go_ret
          exact ⟨ret_int (by rw [unhide HE3, unhide HS]), unhide HB⟩
      · obtain rfl : k = x.k.n := by omega
        have e := coFrom_end h.k x.k.n (by rw [(unhide HK).1]; exact Nat.le_refl _)
        rw [e] at hpre
        have HP := hide hpre
        clear e hpre
        go_wp2_with fail
        go_ret
        exact ⟨ret_int (by rw [unhide HE3, unhide HP]), unhide HB⟩

end Go.Proofs.YtifhaihddimdfaaGreatDoor

/- What is proved here: what the program's blockOf answers: the same eleven cells. -/
namespace Go.Proofs.YtifhaihddimdfaaGreatDoor
open Go.RowKit
set_option linter.unusedVariables false
set_option maxRecDepth 100000

set_option maxHeartbeats 4000000 in
theorem blockOf_any (x : HS) (h : Hd) (w : World) : Calls Tryz.prog 46 #[.agg (hvals x h)] w fun e w' => e = .returned (.agg (hvals x h)) ∧ Below w.heap.size w w' := by
  unfold hvals
  go_enter Tryz.func46, Tryz.ntmps46
  go_wp2_with fail
  refine bodyPost_ret (v := .agg #[.slice x.p.a x.p.n x.p.c, .int .i64 h.n1, .int .i64 h.n2, .int .i64 h.n3, .slice x.t.a x.t.n x.t.c, .int .i64 h.n5, .slice x.s.a x.s.n x.s.c, .slice x.r.a x.r.n x.r.c, .slice x.g.a x.g.n x.g.c, .slice x.e.a x.e.n x.e.c, .slice x.k.a x.k.n x.k.c]) (by simp [results, Tryz.results46, go_sem]) rfl ⟨rfl, ?_⟩
  exact ((Below.refl w.heap.size w).alloc (Nat.le_refl _) _).alloc (by simp) _

end Go.Proofs.YtifhaihddimdfaaGreatDoor

/- What is proved here: what the program's HeaderFault answers: the fault of a header. -/
namespace Go.Proofs.YtifhaihddimdfaaGreatDoor
open Go.RowKit
set_option linter.unusedVariables false
set_option maxRecDepth 100000

set_option maxRecDepth 100000 in
set_option maxHeartbeats 8000000 in
theorem hasLengths_any (x : HS) (h : Hd) (w : World) (o : HOk w x h) :
    Calls Tryz.prog 47 #[.agg (hvals x h)] w fun e w' => e = .returned (.bool (!hdLen h)) ∧ Below w.heap.size w w' := by
  have k0 := SBlk.new w (hvals x h) 70
  have hb := below_alloc w (.cells (hvals x h) 70)
  obtain ⟨W0, e0⟩ : ∃ W0, w.alloc (.cells (hvals x h) 70) = W0 := ⟨_, rfl⟩
  rw [e0] at k0 hb
  obtain ⟨x0, x1, x2, x3, x4, x5, x6, x7, x8, x9, x10⟩ := hcells k0
  have HC := hide (fun (W : World) (hb' : Below W0.heap.size W0 W) => hcells (k0.below hb' k0.lt))
  have HB := hide hb
  obtain ⟨b1, e1⟩ : ∃ b, (((x.p.n : Nat) : Int) != 32) = b := ⟨_, rfl⟩
  obtain ⟨b2, e2⟩ : ∃ b, (((x.t.n : Nat) : Int) != 0) = b := ⟨_, rfl⟩
  obtain ⟨b3, e3⟩ : ∃ b, (((x.t.n : Nat) : Int) != 4) = b := ⟨_, rfl⟩
  obtain ⟨b4, e4⟩ : ∃ b, (((x.r.n : Nat) : Int) != 32) = b := ⟨_, rfl⟩
  obtain ⟨b5, e5⟩ : ∃ b, (((x.g.n : Nat) : Int) != 4) = b := ⟨_, rfl⟩
  obtain ⟨b6, e6⟩ : ∃ b, (((x.e.n : Nat) : Int) != 0) = b := ⟨_, rfl⟩
  obtain ⟨b7, e7⟩ : ∃ b, (((x.e.n : Nat) : Int) != 4) = b := ⟨_, rfl⟩
  have HL : Hid (hdLen h = (b1 || (b2 && b3) || b4 || b5 || (b6 && b7))) := by
    show _ = _
    unfold hdLen
    rw [o.p.1, o.t.1, o.r.1, o.g.1, o.e.1, e1, e2, e3, e4, e5, e6, e7]
  have f1 : (((x.p.n : Nat) : Int) == 32) = !b1 := by rw [← e1]; simp [bne]
  have f4 : (((x.r.n : Nat) : Int) == 32) = !b4 := by rw [← e4]; simp [bne]
  have f5 : (((x.g.n : Nat) : Int) == 4) = !b5 := by rw [← e5]; simp [bne]
  have f6 : (((x.e.n : Nat) : Int) == 0) = !b6 := by rw [← e6]; simp [bne]
  have f7 : (((x.e.n : Nat) : Int) == 4) = !b7 := by rw [← e7]; simp [bne]
  have D1 := hide (fun W => isHash_any x.p.a x.p.n x.p.c W)
  have D2 := hide (fun W => hasAim_to x h b2 b3 W e2 e3)
  have D4 := hide (fun W => isHash_any x.r.a x.r.n x.r.c W)
  have D5 := hide (fun W => isAddr_any x.g.a x.g.n x.g.c W)
  simp only [f1] at D1
  simp only [f4] at D4
  simp only [f5] at D5
  clear o e1 e2 e3 e4 e5 e6 e7 f1 f4 f5 k0 hb
  generalize hdLen h = L at HL
  unfold hvals at e0 ⊢
  go_enter Tryz.func47, Tryz.ntmps47
  go_upto_region 1 with (rw [e0])
  try rw [e0]
  clear e0
  go_cut [3] (fun s wx => s = .bool (!(b6 && b7)) ∧ wx = W0)
  case first =>
    cases b6
    · have f6' : (((x.e.n : Nat) : Int) == 0) = true := f6
      clear f6 f7
      go_wp2_with fail
      go_meet
      exact ⟨rfl, rfl⟩
    · have f6' : (((x.e.n : Nat) : Int) == 0) = false := f6
      clear f6
      go_wp2_with fail
      go_meet
      exact ⟨by simp, rfl⟩
  case rest =>
    obtain ⟨rfl, hwc⟩ := hcut
    rw [hwc]
    clear hwc f6 f7
    generalize hb67 : (b6 && b7) = bs
    rw [hb67] at HL
    clear hb67
    generalize hb23 : (b2 && b3) = bt at D2
    rw [hb23] at HL
    clear hb23
    go_wp2_with fail
    refine ((unhide D1) _).mono ?_
    rintro e w1 ⟨rfl, rfl⟩
    cases b1
    case true =>
      go_wp2_with fail
      go_ret
      exact ⟨ret_bool (by rw [unhide HL]; simp), unhide HB⟩
    go_wp2_with fail
    refine ((unhide D2) _).mono ?_
    rintro e w1 ⟨rfl, b1⟩
    have HB1 := hide ((unhide HB).trans (b1.mono (unhide HB).size))
    cases bt
    case true =>
      go_wp2_with fail
      go_ret
      exact ⟨ret_bool (by rw [unhide HL]; simp), unhide HB1⟩
    obtain ⟨y0, y1, y2, y3, y4, y5, y6, y7, y8, y9, y10⟩ := (unhide HC) _ b1
    clear b1
    go_wp2_with fail
    refine ((unhide D4) _).mono ?_
    rintro e w2 ⟨rfl, rfl⟩
    cases b4
    case true =>
      go_wp2_with fail
      go_ret
      exact ⟨ret_bool (by rw [unhide HL]; simp), unhide HB1⟩
    go_wp2_with fail
    refine ((unhide D5) _).mono ?_
    rintro e w2 ⟨rfl, rfl⟩
    cases b5
    case true =>
      go_wp2_with fail
      go_ret
      exact ⟨ret_bool (by rw [unhide HL]; simp), unhide HB1⟩
    go_wp2_with fail
    go_ret
    exact ⟨ret_bool (by rw [unhide HL]; simp), unhide HB1⟩

set_option maxRecDepth 100000 in
set_option maxHeartbeats 8000000 in
theorem hasNumbers_any (x : HS) (h : Hd) (w : World) :
    Calls Tryz.prog 48 #[.agg (hvals x h)] w fun e w' => e = .returned (.bool (hdNum h)) ∧ Below w.heap.size w w' := by
  have k0 := SBlk.new w (hvals x h) 70
  have hb := below_alloc w (.cells (hvals x h) 70)
  obtain ⟨W0, e0⟩ : ∃ W0, w.alloc (.cells (hvals x h) 70) = W0 := ⟨_, rfl⟩
  rw [e0] at k0 hb
  obtain ⟨x0, x1, x2, x3, x4, x5, x6, x7, x8, x9, x10⟩ := hcells k0
  have HB := hide hb
  obtain ⟨c1, f1⟩ : ∃ c, within h.n1 0 1099511627776 = c := ⟨_, rfl⟩
  obtain ⟨c2, f2⟩ : ∃ c, within h.n2 0 1099511627776 = c := ⟨_, rfl⟩
  obtain ⟨c3, f3⟩ : ∃ c, within h.n3 0 9 = c := ⟨_, rfl⟩
  obtain ⟨c5, f5⟩ : ∃ c, within h.n5 0 2 = c := ⟨_, rfl⟩
  have HN : Hid (hdNum h = (c1 && c2 && c3 && c5)) := by
    show _ = _
    unfold hdNum
    rw [f1, f2, f3, f5]
  have D1 := hide (fun W => isNumber_to h.n1 c1 W f1)
  have D2 := hide (fun W => isNumber_to h.n2 c2 W f2)
  have D3 := hide (fun W => isWithin_to h.n3 0 9 c3 W f3)
  have D5 := hide (fun W => hasNonce_to x h c5 W f5)
  clear f1 f2 f3 f5 k0 hb
  generalize hdNum h = L at HN
  unfold hvals at e0 ⊢
  go_enter Tryz.func48, Tryz.ntmps48
  go_upto_region 1 with (rw [e0])
  try rw [e0]
  clear e0
  go_wp2_with fail
  refine ((unhide D1) _).mono ?_
  rintro e w1 ⟨rfl, rfl⟩
  cases c1
  · go_wp2_with fail
    go_ret
    exact ⟨ret_bool (by rw [unhide HN]; simp), unhide HB⟩
  go_wp2_with fail
  refine ((unhide D2) _).mono ?_
  rintro e w1 ⟨rfl, rfl⟩
  cases c2
  · go_wp2_with fail
    go_ret
    exact ⟨ret_bool (by rw [unhide HN]; simp), unhide HB⟩
  go_wp2_with fail
  refine ((unhide D3) _).mono ?_
  rintro e w1 ⟨rfl, rfl⟩
  cases c3
  · go_wp2_with fail
    go_ret
    exact ⟨ret_bool (by rw [unhide HN]; simp), unhide HB⟩
  go_wp2_with fail
  refine ((unhide D5) _).mono ?_
  rintro e w1 ⟨rfl, b1⟩
  go_wp2_with fail
  go_ret
  exact ⟨ret_bool (by rw [unhide HN]; simp), (unhide HB).trans (b1.mono (unhide HB).size)⟩

set_option maxRecDepth 100000 in
set_option maxHeartbeats 8000000 in
theorem implHeaderFault_any (x : HS) (h : Hd) (w : World) (o : HOk w x h) (m : HSm h) :
    Calls Tryz.prog 16 #[.agg (hvals x h)] w fun e w' => e = .returned (.int .i64 (hdFlt h)) ∧ Below w.heap.size w w' := by
  have k0 := SBlk.new w (hvals x h) 26
  have hb := below_alloc w (.cells (hvals x h) 26)
  obtain ⟨W0, e0⟩ : ∃ W0, w.alloc (.cells (hvals x h) 26) = W0 := ⟨_, rfl⟩
  rw [e0] at k0 hb
  obtain ⟨x0, x1, x2, x3, x4, x5, x6, x7, x8, x9, x10⟩ := hcells k0
  have HO := hide (fun (W : World) (hb : Below w.heap.size w W) => o.below hb (Nat.le_refl _))
  have hsl : x.s.n ≤ 1048576 := by have := o.s.1; have := m.s; omega
  have hkl : x.k.n ≤ 1048576 := by have := o.k.1; have := m.k; omega
  have HE : Hid (hdFlt h = if hdLen h = true then 1 else if hdNum h = false then 3 else if sgFlt h.s = 0 then coFlt h.k else sgFlt h.s) := rfl
  have D1 := hide (fun (W : World) (hb : Below w.heap.size w W) => hasLengths_any x h W ((unhide HO) W hb))
  have D2 := hide (fun (W : World) => hasNumbers_any x h W)
  have D3 := hide (fun (W : World) (hb : Below w.heap.size w W) => votesFault_any x h W ((unhide HO) W hb).s hsl)
  have D4 := hide (fun (W : World) (hb : Below w.heap.size w W) => commitsFault_any x h W ((unhide HO) W hb).k hkl)
  have D0 := hide (blockOf_any x h W0)
  have HB := hide hb
  clear o m hsl hkl HO k0 hb
  generalize hdLen h = L at HE D1
  generalize hdNum h = Nm at HE D2
  generalize sgFlt h.s = q at HE D3
  generalize coFlt h.k = cf at HE D4
  unfold hvals at e0 D0 D1 D2 D4 ⊢
  go_enter Tryz.func16, Tryz.ntmps16
  go_upto_region 1 with (rw [e0])
  try rw [e0]
  clear e0
  go_wp2_with fail
  refine (unhide D0).mono ?_
  rintro e w1 ⟨rfl, b1⟩
  have k1 := SBlk.new w1 (hvals x h) 70
  have hb1 := below_alloc w1 (.cells (hvals x h) 70)
  have hgl : w1.heap.size < (w1.alloc (.cells (hvals x h) 70)).heap.size := by simp
  have HB1 := hide ((unhide HB).trans ((b1.trans (hb1.mono b1.size)).mono (unhide HB).size))
  obtain ⟨W1, e1⟩ : ∃ W1, w1.alloc (.cells (hvals x h) 70) = W1 := ⟨_, rfl⟩
  rw [e1] at k1 HB1 hgl
  obtain ⟨y0, y1, y2, y3, y4, y5, y6, y7, y8, y9, y10⟩ := hcells k1
  have HC := hide (fun (W : World) (hb' : Below W1.heap.size W1 W) => hcells (k1.below hb' k1.lt))
  clear b1 hb1 k1 D0 HB x0 x1 x2 x3 x4 x5 x6 x7 x8 x9 x10
  unfold hvals at e1
  generalize hgb : w1.heap.size = gb at y0 y1 y2 y3 y4 y5 y6 y7 y8 y9 y10 HC hgl ⊢
  go_upto_region 2 with (rw [e1])
  try rw [e1]
  try rw [hgb]
  clear e1 hgb
  go_wp2_with fail
  refine ((unhide D1) _ (unhide HB1)).mono ?_
  rintro e w2 ⟨rfl, b2⟩
  have HB2 := hide ((unhide HB1).trans (b2.mono (unhide HB1).size))
  cases L
  case true =>
    go_wp2_with fail
    go_ret
    exact ⟨ret_int (by rw [unhide HE]; simp), unhide HB2⟩
  have K2 := hide b2
  obtain ⟨z0, z1, z2, z3, z4, z5, z6, z7, z8, z9, z10⟩ := (unhide HC) _ b2
  clear b2 y0 y1 y2 y3 y4 y5 y6 y7 y8 y9 y10
  go_wp2_with fail
  refine ((unhide D2) _).mono ?_
  rintro e w3 ⟨rfl, b3⟩
  have HB3 := hide ((unhide HB2).trans (b3.mono (unhide HB2).size))
  cases Nm
  · go_wp2_with fail
    go_ret
    exact ⟨ret_int (by rw [unhide HE]; simp), unhide HB3⟩
  have K3 := hide ((unhide K2).trans (b3.mono (unhide K2).size))
  obtain ⟨u0, u1, u2, u3, u4, u5, u6, u7, u8, u9, u10⟩ := (unhide HC) _ (unhide K3)
  clear b3 z0 z1 z2 z3 z4 z5 z6 z7 z8 z9 z10 K2 HB2
  go_wp2_with fail
  refine ((unhide D3) _ (unhide HB3)).mono ?_
  rintro e w4 ⟨rfl, b4⟩
  have HB4 := hide ((unhide HB3).trans (b4.mono (unhide HB3).size))
  have K4 := hide ((unhide K3).trans (b4.mono (unhide K3).size))
  clear b4 u0 u1 u2 u3 u4 u5 u6 u7 u8 u9 u10
  by_cases hq : q = 0
  · subst hq
    obtain ⟨v0, v1, v2, v3, v4, v5, v6, v7, v8, v9, v10⟩ := (unhide HC) _ (unhide K4)
    go_wp2_with fail
    refine ((unhide D4) _ (unhide HB4)).mono ?_
    rintro e w5 ⟨rfl, b5⟩
    go_wp2_with fail
    go_ret
    exact ⟨ret_int (by rw [unhide HE]; simp), (unhide HB4).trans (b5.mono (unhide HB4).size)⟩
  · have hne : (q != 0) = true := by simp [hq]
    go_wp2_with fail
    go_ret
    exact ⟨ret_int (by rw [unhide HE]; simp [hq]), unhide HB4⟩

end Go.Proofs.YtifhaihddimdfaaGreatDoor

/- What is proved here: what the program's PackHeader answers: the fault of a header, or its bytes in new memory. -/
namespace Go.Proofs.YtifhaihddimdfaaGreatDoor
open Go.RowKit
set_option linter.unusedVariables false
set_option maxRecDepth 100000

/-- What PackHeader answers. -/
def pkBytes (h : Hd) : List Int := if hdFlt h = 0 then packL h else []

set_option maxRecDepth 100000 in
set_option maxHeartbeats 8000000 in
theorem implPack_any (x : HS) (h : Hd) (w : World) (o : HOk w x h) (nn : HNil w x) (m : HSm h) :
    Calls Tryz.prog 64 #[.agg (hvals x h)] w fun e w' => ∃ a c, e = .returned (.agg #[.int .i64 (hdFlt h), .slice a (pkBytes h).length c]) ∧
      w'.ownsRow w.heap.size 5 1 (.slice a (pkBytes h).length c) (pkBytes h).length ((pkBytes h).map (Value.int .u8)) ∧ Below w.heap.size w w' := by
  have kb := SBlk.new w (hvals x h) 26
  have bb := below_alloc w (.cells (hvals x h) 26)
  have zb : (w.alloc (.cells (hvals x h) 26)).heap.size = w.heap.size + 1 := by simp
  obtain ⟨W0, eb⟩ : ∃ W0, w.alloc (.cells (hvals x h) 26) = W0 := ⟨_, rfl⟩
  rw [eb] at kb bb zb
  have k1 := (kb.next (.cells #[.int .i64 0, .slice none 0 0] 33))
  have kr := SBlk.new W0 #[.int .i64 0, .slice none 0 0] 33
  have b1 := bb.alloc bb.size (.cells #[.int .i64 0, .slice none 0 0] 33)
  have z1 : (W0.alloc (.cells #[.int .i64 0, .slice none 0 0] 33)).heap.size = w.heap.size + 2 := by simp; omega
  rw [zb] at kr
  obtain ⟨W1, e1⟩ : ∃ W1, W0.alloc (.cells #[.int .i64 0, .slice none 0 0] 33) = W1 := ⟨_, rfl⟩
  rw [e1] at k1 kr b1 z1
  have HCB := hide (fun (W' : World) (hb : Below W1.heap.size W1 W') => hcells (k1.below hb k1.lt))
  have HRB := hide (fun (W' : World) (hb : Below W1.heap.size W1 W') => kr.below hb kr.lt)
  have HON := hide (fun (W' : World) (hb : Below w.heap.size w W') => And.intro (o.below hb (Nat.le_refl _)) (nn.below hb (Nat.le_refl _)))
  have D1 := hide (implHeaderFault_any x h W1 (o.below b1 (Nat.le_refl _)) m)
  have HB1 := hide b1
  obtain ⟨x0, x1, x2, x3, x4, x5, x6, x7, x8, x9, x10⟩ := hcells k1
  have hz2 : w.heap.size + 1 < W1.heap.size := by omega
  clear o nn m kb bb k1 kr b1 zb
  have HD0 := hide (fun (W' : World) => blockOf_any x h W')
  have HIT : Hid (hdFlt h = 0 → ∀ (W' : World), Below w.heap.size w W' → Calls Tryz.prog 102 #[.agg (hvals x h)] W' fun e w' => ∃ a c, e = .returned (.slice a (hIts h).length c) ∧ ItRowN w' a (hIts h).length (hIts h) ∧ Below W'.heap.size W' w') := fun hf W' hb => items_any x h (good_of hf) W' ((unhide HON) W' hb).1 ((unhide HON) W' hb).2
  have HEN : Hid (hdFlt h = 0 → ∀ (W' : World) (a : Option Addr) (c : Nat), ItRowN W' a (hIts h).length (hIts h) → Calls Tryz.prog 101 #[.slice a (hIts h).length c] W' fun e w' => ∃ a' c', e = .returned (.agg #[.int .i64 0, .slice a' (packL h).length c']) ∧ w'.ownsRow W'.heap.size 5 1 (.slice a' (packL h).length c') (packL h).length ((packL h).map (Value.int .u8)) ∧ Below W'.heap.size W' w') := fun hf W' a c hr => by
    have gd := good_of hf
    obtain ⟨q1, q2⟩ := en_header gd
    have hl := hIts_len h
    have g1 := gd.s
    have g2 := gd.k
    have := implEnc_any a (hIts h).length c (hIts h) W' hr (by omega)
    rw [q1, q2] at this
    exact this
  have HPB : Hid (pkBytes h = if hdFlt h = 0 then packL h else []) := rfl
  clear HON
  generalize hdFlt h = q at D1 HIT HEN HPB ⊢
  generalize hIts h = IT at HIT HEN
  generalize IT.length = il at HIT HEN
  generalize packL h = PL at HEN HPB
  generalize pkBytes h = PB at HPB ⊢
  unfold hvals at eb D1 HD0 HIT ⊢
  have EB := hide eb
  have E1 := hide e1
  clear eb e1
  go_enter Tryz.func64, Tryz.ntmps64
  go_upto_region 1 with fail
  rw [unhide EB, unhide E1]
  clear EB E1
  go_wp2_with fail
  refine (unhide D1).mono ?_
  rintro e w2 ⟨rfl, b2⟩
  have kr2 := (unhide HRB) w2 b2
  have r0 := kr2.cell 0
  have r1 := kr2.cell 1
  have f0 := kr2.free 0
  have f1 := kr2.free 1
  simp only [List.getElem?_cons_zero, List.getElem?_cons_succ] at r0 r1
  have HB2 := hide ((unhide HB1).trans (b2.mono (unhide HB1).size))
  have K2 := hide b2
  clear b2 kr2 x0 x1 x2 x3 x4 x5 x6 x7 x8 x9 x10 D1
  by_cases hq : q = 0
  · subst hq
    have HPB2 : Hid (PB = PL) := by show _ = _; rw [unhide HPB, if_pos rfl]
    obtain ⟨y0, y1, y2, y3, y4, y5, y6, y7, y8, y9, y10⟩ := (unhide HCB) w2 (unhide K2)
    go_wp2_with fail
    refine ((unhide HD0) _).mono ?_
    rintro e w3 ⟨rfl, b3⟩
    have HB3 := hide ((unhide HB2).trans (b3.mono (unhide HB2).size))
    have K3 := hide ((unhide K2).trans (b3.mono (unhide K2).size))
    clear b3 y0 y1 y2 y3 y4 y5 y6 y7 y8 y9 y10
    go_wp2_with fail
    refine ((unhide HIT) (by first | exact rfl | trivial) _ (unhide HB3)).mono ?_
    rintro e w4 ⟨a4, c4, rfl, row4, b4⟩
    have HB4 := hide ((unhide HB3).trans (b4.mono (unhide HB3).size))
    have K4 := hide ((unhide K3).trans (b4.mono (unhide K3).size))
    clear b4
    go_wp2_with fail
    refine ((unhide HEN) (by first | exact rfl | trivial) _ a4 c4 row4).mono ?_
    rintro e w5 ⟨a5, c5, rfl, o5, b5⟩
    have HB5 := hide ((unhide HB4).trans (b5.mono (unhide HB4).size))
    have K5 := (unhide K4).trans (b5.mono (unhide K4).size)
    have kr5 := (unhide HRB) w5 K5
    have s0 := kr5.cell 0
    have s1 := kr5.cell 1
    have g0 := kr5.free 0
    have g1 := kr5.free 1
    simp only [List.getElem?_cons_zero, List.getElem?_cons_succ] at s0 s1
    have hz4 : w.heap.size + 1 < w4.heap.size := Nat.lt_of_lt_of_le hz2 (unhide K4).size
    have HO5 := hide o5
    have hwz : w.heap.size ≤ w4.heap.size := (unhide HB4).size
    clear K5 kr5 o5 b5 row4 r0 r1 f0 f1
    go_wp2_with fail
    refine bodyPost_ret (v := .agg #[.int .i64 0, .slice a5 PL.length c5]) (by simp [results, Tryz.results64, go_sem, s0, s1]) rfl ⟨a5, c5, by rw [unhide HPB2], ?_, ?_⟩
    · rw [unhide HPB2]
      exact ownsRow_base (ownsRow_setCell_below (ownsRow_setCell_below (unhide HO5) (by show w.heap.size + 1 < w4.heap.size; omega) _) (by show w.heap.size + 1 < w4.heap.size; omega) _) hwz
    · exact ((unhide HB5).setCell (p := ⟨w.heap.size + 1, _, none⟩) (by show w.heap.size ≤ w.heap.size + 1; omega) _).setCell (p := ⟨w.heap.size + 1, _, none⟩) (by show w.heap.size ≤ w.heap.size + 1; omega) _
  · have hne : (q != 0) = true := by simp [hq]
    have HPB2 : Hid (PB = []) := by show _ = _; rw [unhide HPB, if_neg hq]
    clear hq
    go_wp2_with fail
    refine bodyPost_ret (v := .agg #[.int .i64 q, .slice none 0 0]) (by simp [results, Tryz.results64, go_sem, r0, r1]) rfl ⟨none, 0, by rw [unhide HPB2]; rfl, ?_, ?_⟩
    · rw [unhide HPB2]; exact World.ownsRow_nil _ _ _ _
    · exact ((unhide HB2).setCell (p := ⟨w.heap.size + 1, _, none⟩) (by show w.heap.size ≤ w.heap.size + 1; omega) _).setCell (p := ⟨w.heap.size + 1, _, none⟩) (by show w.heap.size ≤ w.heap.size + 1; omega) _

end Go.Proofs.YtifhaihddimdfaaGreatDoor

/- What is proved here: plain facts on a header's copy and on its bytes, for the law on PackHeader. -/
namespace Go.Proofs.YtifhaihddimdfaaGreatDoor
open Go.RowKit
set_option linter.unusedVariables false
set_option maxRecDepth 100000

theorem HOwn.nilOk {w : World} {B : Nat} {x : HS} {h : Hd} (o : HOwn w B x h) : HNil w x := by
  obtain ⟨g1, g2, g3, g4, g5, g6, g7, rfl, _, o1, o2, o3, o4, o5, o6, o7⟩ := o
  exact ⟨fun e => (by cases e), fun e => (by cases e), OBss.nilOk o3, fun e => (by cases e), fun e => (by cases e), fun e => (by cases e), OBss.nilOk o7⟩

theorem pk_range {w : World} {x : HS} {h : Hd} (o : HOk w x h) : ∀ y ∈ pkBytes h, 0 ≤ y ∧ y ≤ 255 := by
  unfold pkBytes
  split
  · rename_i hf
    have gd := good_of hf
    refine wrapL_range (bd6 h) (by have := (bd_length gd).2.2.2.2.2; omega) ?_
    intro y hy
    unfold bd6 bd5 bd4 bd3 bd2 bd1 at hy
    simp only [List.mem_append] at hy
    have hp := pcL_range h.p (by have := gd.p; omega) o.p.2.1 y
    have h1 := pcL_range (shortF 7 h.n1) (by have := sh_length h.n1; omega) (shortF_range 7 _) y
    have h2 := pcL_range (shortF 7 h.n2) (by have := sh_length h.n2; omega) (shortF_range 7 _) y
    have h3 := pcL_range (shortF 7 h.n3) (by have := sh_length h.n3; omega) (shortF_range 7 _) y
    have ht := pcL_range h.t (by have := gd.t; omega) o.t.2.1 y
    have h5 := pcL_range (shortF 7 h.n5) (by have := sh_length h.n5; omega) (shortF_range 7 _) y
    have hs := wrapL_range (pcsL h.s) (by have := pcsL_length h.s gd.sz; have := gd.s; omega) (pcsL_range h.s gd.sz o.s.bytes) y
    have hr := pcL_range h.r (by have := gd.r; omega) o.r.2.1 y
    have hg := pcL_range h.g (by have := gd.g; omega) o.g.2.1 y
    have he := pcL_range h.e (by have := gd.e; omega) o.e.2.1 y
    have hk := wrapL_range (pcsL h.k) (by have := pcsL_length h.k gd.kz; have := gd.k; omega) (pcsL_range h.k gd.kz o.k.bytes) y
    rcases hy with ((((((((((hy | hy) | hy) | hy) | hy) | hy) | hy) | hy) | hy) | hy) | hy)
    · exact hp hy
    · exact h1 hy
    · exact h2 hy
    · exact h3 hy
    · exact ht hy
    · exact h5 hy
    · exact hs hy
    · exact hr hy
    · exact hg hy
    · exact he hy
    · exact hk hy
  · intro y hy; simp at hy

theorem pk_length (h : Hd) : (pkBytes h).length ≤ 1200 := by
  unfold pkBytes
  split
  · rename_i hf
    have h1 := wrapL_length (bd6 h)
    have h2 := (bd_length (good_of hf)).2.2.2.2.2
    unfold packL
    omega
  · simp

end Go.Proofs.YtifhaihddimdfaaGreatDoor

/- What is proved here: plain facts on headers that a call made in memory of their own, told by colours of blocks: what is written in blocks of one colour leaves all else. -/
namespace Go.Proofs.YtifhaihddimdfaaGreatDoor
open Go.RowKit
set_option linter.unusedVariables false
set_option maxRecDepth 100000

/-- A slice's value. -/
def Sl.v (s : Sl) : Value := .slice s.a s.n s.c

/-- Bytes in memory of their own, at or beyond B; its block has the colour j. -/
structure CB (w : World) (B : Nat) (d : Nat → Nat) (j : Nat) (s : Sl) (z : List Int) : Prop where
  len : s.n = z.length
  rng : ∀ x ∈ z, 0 ≤ x ∧ x ≤ 255
  own : w.ownsRow B 5 1 (.slice s.a s.n s.c) s.n (z.map (Value.int .u8))
  col : ∀ g, (Value.slice s.a s.n s.c).ownBlock = some g → d g = j

/-- Nothing is written below B, nor in blocks whose colour is not in S. -/
def OnlyD (B : Nat) (d : Nat → Nat) (S : Nat → Prop) (w w' : World) : Prop := Below B w w' ∧ ∀ g, g < w.heap.size → ¬ S (d g) → w'.heap[g]? = w.heap[g]?

theorem OnlyD.refl (B : Nat) (d : Nat → Nat) (S : Nat → Prop) (w : World) : OnlyD B d S w w := ⟨Below.refl _ _, fun _ _ _ => rfl⟩

theorem OnlyD.trans {B : Nat} {d : Nat → Nat} {S : Nat → Prop} {a b c : World} (h : OnlyD B d S a b) (k : OnlyD B d S b c) : OnlyD B d S a c :=
  ⟨h.1.trans k.1, fun g hg hs => (k.2 g (Nat.lt_of_lt_of_le hg h.1.size) hs).trans (h.2 g hg hs)⟩

theorem OnlyD.mono {B : Nat} {d : Nat → Nat} {S T : Nat → Prop} {a b : World} (h : OnlyD B d S a b) (hs : ∀ c, S c → T c) : OnlyD B d T a b := ⟨h.1, fun g hg ht => h.2 g hg (fun q => ht (hs _ q))⟩

theorem OnlyD.below {B C : Nat} {d : Nat → Nat} {S : Nat → Prop} {a b : World} (h : Below C a b) (hC : a.heap.size ≤ C) (hB : B ≤ C) : OnlyD B d S a b := ⟨h.mono hB, fun g hg _ => h.block g (Nat.lt_of_lt_of_le hg hC)⟩

theorem OnlyD.grown {B j : Nat} {d : Nat → Nat} {a b : World} {row : Option Nat} (hg : a.grownBy b row) (hB : B ≤ a.heap.size) (hr : ∀ g, row = some g → B ≤ g ∧ d g = j) : OnlyD B d (fun c => c = j) a b :=
  ⟨(Below.refl B a).grown hg hB (fun k e => (hr k e).1), fun g hl hs => hg.block g hl (fun e => hs (hr g e.symm).2)⟩

theorem own_keep {B D : Nat} {d : Nat → Nat} {S : Nat → Prop} {w w' : World} {e : TypeId} {size n j : Nat} {v : Value} {xs : List Value} (ho : w.ownsRow D e size v n xs) (h : OnlyD B d S w w') (hc : ∀ g, v.ownBlock = some g → d g = j) (hj : ¬ S j) : w'.ownsRow D e size v n xs := by
  refine ⟨ho.1, ?_⟩
  rcases ho.2 with h' | ⟨g, cap, cur, h1, h2, h3, h4⟩
  · exact .inl h'
  · have hd := hc g (by rw [h1]; rfl)
    exact .inr ⟨g, cap, cur, h1, h2, (h.2 g (lt_of_block h3) (by rw [hd]; exact hj)).trans h3, h4⟩

theorem own_lt {w : World} {B : Nat} {e : TypeId} {size n : Nat} {v : Value} {xs : List Value} (h : w.ownsRow B e size v n xs) (g : Nat) (hg : v.ownBlock = some g) : B ≤ g ∧ g < w.heap.size := h.lt g hg

theorem CB.only {B D j : Nat} {d : Nat → Nat} {S : Nat → Prop} {w w' : World} {s : Sl} {z : List Int} (h : CB w B d j s z) (o : OnlyD D d S w w') (hj : ¬ S j) : CB w' B d j s z := ⟨h.len, h.rng, own_keep h.own o h.col hj, h.col⟩

theorem CB.below {B C j : Nat} {d : Nat → Nat} {w w' : World} {s : Sl} {z : List Int} (h : CB w B d j s z) (hb : Below C w w') (hC : w.heap.size ≤ C) : CB w' B d j s z := ⟨h.len, h.rng, own_below h.own hb hC, h.col⟩

theorem CB.recol {B j : Nat} {d d' : Nat → Nat} {w : World} {s : Sl} {z : List Int} (h : CB w B d j s z) (hd : ∀ g, g < w.heap.size → d' g = d g) : CB w B d' j s z := ⟨h.len, h.rng, h.own, fun g hg => by rw [hd g (own_lt h.own g hg).2]; exact h.col g hg⟩

theorem CB.base {B B' j : Nat} {d : Nat → Nat} {w : World} {s : Sl} {z : List Int} (h : CB w B d j s z) (hB : B' ≤ B) : CB w B' d j s z := ⟨h.len, h.rng, ownsRow_base h.own hB, h.col⟩

theorem CB.brow {B j : Nat} {d : Nat → Nat} {w : World} {s : Sl} {z : List Int} (h : CB w B d j s z) : BRow w s.a s.n z := BRow.own2 h.own h.rng

theorem CB.nil (w : World) (B : Nat) (d : Nat → Nat) (j : Nat) : CB w B d j ⟨none, 0, 0⟩ [] := ⟨rfl, fun x hx => by simp at hx, World.ownsRow_nil _ _ _ _, fun g hg => by cases hg⟩

/-- What is made anew has any colour that one gives it. -/
theorem CB.new {w w' : World} {B j : Nat} {d : Nat → Nat} {a : Option Addr} {n c : Nat} {z : List Int} (hn : n = z.length) (hr : ∀ x ∈ z, 0 ≤ x ∧ x ≤ 255) (h : w'.ownsRow w.heap.size 5 1 (.slice a n c) n (z.map (Value.int .u8))) (hB : B ≤ w.heap.size) : CB w' B (fun g => if w.heap.size ≤ g then j else d g) j ⟨a, n, c⟩ z :=
  ⟨hn, hr, ownsRow_base h hB, fun g hg => if_pos (own_lt h g hg).1⟩

/-- A list of slices of bytes in memory of its own: its row has the colour r, its slices c, c + 3 and so on. -/
def CS (w : World) (B : Nat) (d : Nat → Nat) (r c : Nat) (s : Sl) (zss : List (List Int)) : Prop :=
  s.n = zss.length ∧ ∃ es : List Sl, es.length = zss.length ∧ w.ownsRow B 22 1 (.slice s.a s.n s.c) s.n (es.map Sl.v) ∧ (∀ g, (Value.slice s.a s.n s.c).ownBlock = some g → d g = r) ∧
    ∀ i e z, es[i]? = some e → zss[i]? = some z → CB w B d (c + 3 * i) e z

theorem CS.only {B D r c : Nat} {d : Nat → Nat} {S : Nat → Prop} {w w' : World} {s : Sl} {zss : List (List Int)} (h : CS w B d r c s zss) (o : OnlyD D d S w w') (hr : ¬ S r) (hc : ∀ i, ¬ S (c + 3 * i)) : CS w' B d r c s zss := by
  obtain ⟨h1, es, h2, h3, h4, h5⟩ := h
  exact ⟨h1, es, h2, own_keep h3 o h4 hr, h4, fun i e z he hz => (h5 i e z he hz).only o (hc i)⟩

theorem CS.below {B C r c : Nat} {d : Nat → Nat} {w w' : World} {s : Sl} {zss : List (List Int)} (h : CS w B d r c s zss) (hb : Below C w w') (hC : w.heap.size ≤ C) : CS w' B d r c s zss := by
  obtain ⟨h1, es, h2, h3, h4, h5⟩ := h
  exact ⟨h1, es, h2, own_below h3 hb hC, h4, fun i e z he hz => (h5 i e z he hz).below hb hC⟩

theorem CS.recol {B r c : Nat} {d d' : Nat → Nat} {w : World} {s : Sl} {zss : List (List Int)} (h : CS w B d r c s zss) (hd : ∀ g, g < w.heap.size → d' g = d g) : CS w B d' r c s zss := by
  obtain ⟨h1, es, h2, h3, h4, h5⟩ := h
  exact ⟨h1, es, h2, h3, fun g hg => by rw [hd g (own_lt h3 g hg).2]; exact h4 g hg, fun i e z he hz => (h5 i e z he hz).recol hd⟩

theorem CS.base {B B' r c : Nat} {d : Nat → Nat} {w : World} {s : Sl} {zss : List (List Int)} (h : CS w B d r c s zss) (hB : B' ≤ B) : CS w B' d r c s zss := by
  obtain ⟨h1, es, h2, h3, h4, h5⟩ := h
  exact ⟨h1, es, h2, ownsRow_base h3 hB, h4, fun i e z he hz => (h5 i e z he hz).base hB⟩

theorem CS.nil (w : World) (B : Nat) (d : Nat → Nat) (r c : Nat) : CS w B d r c ⟨none, 0, 0⟩ [] := ⟨rfl, [], rfl, World.ownsRow_nil _ _ _ _, (fun g hg => by cases hg), fun i e z he => by simp at he⟩

/-- The slice at a place, and what becomes of the list when it alone is written. -/
theorem CS.at {B r c : Nat} {d : Nat → Nat} {w : World} {s : Sl} {zss : List (List Int)} (h : CS w B d r c s zss) {k : Nat} {z : List Int} (hz : zss[k]? = some z) (hr : r ≠ c + 3 * k) :
    ∃ (g : Nat) (e : Sl), s.a = some ⟨g, 0, none⟩ ∧ w.cell? ⟨g, k, none⟩ = some (.slice e.a e.n e.c) ∧ CB w B d (c + 3 * k) e z ∧
      ∀ w' z', OnlyD B d (fun q => q = c + 3 * k) w w' → CB w' B d (c + 3 * k) e z' → CS w' B d r c s (zss.set k z') := by
  obtain ⟨h1, es, h2, h3, h4, h5⟩ := h
  have hk := (List.getElem?_eq_some_iff.1 hz).1
  obtain ⟨e, he⟩ : ∃ e, es[k]? = some e := ⟨_, List.getElem?_eq_getElem (by omega)⟩
  obtain ⟨g, cap, hv⟩ := own_some h3 (by omega)
  have hv2 := hv
  simp only [Value.slice.injEq] at hv2
  refine ⟨g, e, hv2.1, ?_, h5 k e z he hz, fun w' z' ho hc => ⟨by rw [List.length_set]; exact h1, es, by rw [List.length_set]; exact h2, own_keep h3 ho h4 hr, h4, fun i e' z'' he' hz'' => ?_⟩⟩
  · rw [hv] at h3
    rw [h3.cellAt k (by omega), List.getElem?_map, he]
    rfl
  · rw [List.getElem?_set] at hz''
    by_cases hik : k = i
    · subst hik
      rw [if_pos rfl, if_pos hk] at hz''
      obtain rfl := Option.some.inj hz''
      obtain rfl := Option.some.inj (he.symm.trans he')
      exact hc
    · rw [if_neg hik] at hz''
      exact (h5 i e' z'' he' hz'').only ho (fun q => hik (by omega))

theorem CS.bsrow {B r c : Nat} {d : Nat → Nat} {w : World} {s : Sl} {zss : List (List Int)} (h : CS w B d r c s zss) (hl : ∀ z ∈ zss, z.length ≤ maxLen) : BsRow w s.a s.n zss := by
  obtain ⟨h1, es, h2, h3, h4, h5⟩ := h
  refine ⟨h1.symm, hl, fun hp => ?_⟩
  obtain ⟨g, cap, hv⟩ := own_some h3 hp
  have hv2 := hv
  simp only [Value.slice.injEq] at hv2
  refine ⟨g, 0, hv2.1, fun i z hz => ?_⟩
  have hi := (List.getElem?_eq_some_iff.1 hz).1
  obtain ⟨e, he⟩ : ∃ e, es[i]? = some e := ⟨_, List.getElem?_eq_getElem (by omega)⟩
  rw [hv] at h3
  exact ⟨e.a, e.n, e.c, by rw [Nat.zero_add, h3.cellAt i (by omega), List.getElem?_map, he]; rfl, (h5 i e z he hz).brow⟩

/-- A header in memory of its own. -/
structure CH (w : World) (B : Nat) (d : Nat → Nat) (x : HS) (h : Hd) : Prop where
  p : CB w B d 0 x.p h.p
  t : CB w B d 1 x.t h.t
  s : CS w B d 5 7 x.s h.s
  r : CB w B d 2 x.r h.r
  g : CB w B d 3 x.g h.g
  e : CB w B d 4 x.e h.e
  k : CS w B d 6 8 x.k h.k

theorem CH.below {B C : Nat} {d : Nat → Nat} {w w' : World} {x : HS} {h : Hd} (o : CH w B d x h) (hb : Below C w w') (hC : w.heap.size ≤ C) : CH w' B d x h :=
  ⟨o.p.below hb hC, o.t.below hb hC, o.s.below hb hC, o.r.below hb hC, o.g.below hb hC, o.e.below hb hC, o.k.below hb hC⟩

theorem CH.base {B B' : Nat} {d : Nat → Nat} {w : World} {x : HS} {h : Hd} (o : CH w B d x h) (hB : B' ≤ B) : CH w B' d x h :=
  ⟨o.p.base hB, o.t.base hB, o.s.base hB, o.r.base hB, o.g.base hB, o.e.base hB, o.k.base hB⟩

theorem CH.recol {B : Nat} {d d' : Nat → Nat} {w : World} {x : HS} {h : Hd} (o : CH w B d x h) (hd : ∀ g, g < w.heap.size → d' g = d g) : CH w B d' x h :=
  ⟨o.p.recol hd, o.t.recol hd, o.s.recol hd, o.r.recol hd, o.g.recol hd, o.e.recol hd, o.k.recol hd⟩

theorem OnlyD.sblk {B : Nat} {d : Nat → Nat} {S : Nat → Prop} {w w' : World} (h : OnlyD B d S w w') {g : Nat} {vs : List Value} {T : TypeId} (hs : SBlk w g vs T) (hg : ¬ S (d g)) : SBlk w' g vs T := (h.2 g hs.lt hg).trans hs

theorem CH.hok {B : Nat} {d : Nat → Nat} {w : World} {x : HS} {h : Hd} (o : CH w B d x h) (m : HSm h) : HOk w x h :=
  ⟨o.p.brow, o.t.brow, o.s.bsrow (fun z hz => by have := m.sz z hz; unfold maxLen; omega), o.r.brow, o.g.brow, o.e.brow, o.k.bsrow (fun z hz => by have := m.kz z hz; unfold maxLen; omega)⟩

/-- The marks of a list of slices. -/
def mkss : Int → List (List Int) → List (List Int)
  | _, [] => []
  | k, z :: r => marks k z.length :: mkss (k + (z.length : Nat)) r

theorem mkss_length : ∀ (zss : List (List Int)) (k : Int), (mkss k zss).length = zss.length
  | [], k => rfl
  | z :: r, k => by rw [mkss, List.length_cons, List.length_cons, mkss_length r]

theorem mkss_at : ∀ (zss : List (List Int)) (k : Int) (i : Nat) (z : List Int), zss[i]? = some z → (mkss k zss)[i]? = some (marks (k + (bsum (zss.take i) : Nat)) z.length)
  | [], k, i, z, h => by simp at h
  | a :: r, k, 0, z, h => by
    simp at h
    subst h
    simp [mkss, bsum]
  | a :: r, k, i + 1, z, h => by
    rw [List.getElem?_cons_succ] at h
    rw [mkss, List.getElem?_cons_succ, mkss_at r _ i z h]
    have e : bsum ((a :: r).take (i + 1)) = a.length + bsum (r.take i) := by simp [bsum]
    rw [e]
    congr 2
    omega

/-- The marks of a header. -/
def mkH (k : Int) (h : Hd) : Hd :=
  { h with
    p := marks k h.p.length
    t := marks (k + (h.p.length : Nat)) h.t.length
    s := mkss (k + (h.p.length : Nat) + (h.t.length : Nat)) h.s
    r := marks (k + (h.p.length : Nat) + (h.t.length : Nat) + (bsum h.s : Nat)) h.r.length
    g := marks (k + (h.p.length : Nat) + (h.t.length : Nat) + (bsum h.s : Nat) + (h.r.length : Nat)) h.g.length
    e := marks (k + (h.p.length : Nat) + (h.t.length : Nat) + (bsum h.s : Nat) + (h.r.length : Nat) + (h.g.length : Nat)) h.e.length
    k := mkss (k + (h.p.length : Nat) + (h.t.length : Nat) + (bsum h.s : Nat) + (h.r.length : Nat) + (h.g.length : Nat) + (h.e.length : Nat)) h.k }

end Go.Proofs.YtifhaihddimdfaaGreatDoor
