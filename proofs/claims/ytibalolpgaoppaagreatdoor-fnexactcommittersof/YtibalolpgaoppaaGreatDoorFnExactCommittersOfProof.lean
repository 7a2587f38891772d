/- Proved: for every header the law FnExactCommittersOf returns true and changes no argument. Conditions: the three variables hold what the program's text lays. -/
import Derived.Test.YtibalolpgaoppaaGreatDoorRows
import Derived.Test.YtibalolpgaoppaaGreatDoorTie
import Derived.Test.YtibalolpgaoppaaGreatDoorCards
import Derived.Test.YtibalolpgaoppaaGreatDoorJ2
import Derived.Test.YtibalolpgaoppaaGreatDoorJ4
import Derived.Test.YtibalolpgaoppaaGreatDoorJ5
import Derived.Test.YtibalolpgaoppaaGreatDoorJ23
import Derived.Test.YtibalolpgaoppaaGreatDoorJ12
import Derived.WalkSmall
import Derived.Deep.RegionHeld3
import Derived.WalkKit
import Derived.ProofKit
import Derived.OpenShut
import Derived.ShutString
import Derived.ChangeOld
import Derived.Below
import Derived.OpenVars
import Derived.LaidMore
import Derived.Stop.Joined
import Derived.SevenTiedAt
namespace Go.Proofs.YtibalolpgaoppaaGreatDoor.fnExactCommittersOf
open Go.ChangeShapes Go.WideShapes Go.ChangeAt Go.RowKit
set_option linter.unusedVariables false

theorem own : ownKnob Tryz.prog.godebug = none := by kernel_rfl
theorem laidOut : laidOutB Tryz.prog = true := by kernel_rfl

/-! The walk: the Go text returns true, and writes nothing that was there. -/
set_option maxRecDepth 100000 in
set_option maxHeartbeats 8000000 in
theorem walk (x0 : HS) (h0 : Hd) (w : World) (m0 : HMax x0 maxLen) (w0 : HOk w x0 h0) (i0 : HIn h0) (VV : Laid w) (VE : LaidE w) :
    Calls Tryz.prog 6 #[.agg (hvals x0 h0)] w fun e w' => e = .returned (.bool true) ∧ Below w.heap.size w w' := by
  have HV := hide (And.intro VV VE)
  clear VV VE
  have k0 := SBlk.new w (hvals x0 h0) 44
  have hb0 := below_alloc w (.cells (hvals x0 h0) 44)
  obtain ⟨W0, e0⟩ : ∃ W0, w.alloc (.cells (hvals x0 h0) 44) = W0 := ⟨_, rfl⟩
  rw [e0] at k0 hb0
  have SZ := hide (szHeader_tot x0 h0 1048576 W0 (w0.below hb0 (Nat.le_refl _)) m0 (by omega) (by omega))
  have T0 : Hid (HSm h0 → ∀ (W : World), Below w.heap.size w W → Calls Tryz.prog 27 #[.agg (hvals x0 h0)] W fun e w' => ∃ y, e = .returned (.agg (hvals y h0)) ∧ HOk w' y h0 ∧ (HNil w' y ∧ BsCap w' y.k.a y.k.n) ∧ HOwnC w' (W.heap.size + 3) w'.heap.size y h0 ∧ Below W.heap.size W w') := fun m W hb => (toHeader_any x0 h0 W (w0.below hb (Nat.le_refl _)) m).mono fun e w' ⟨y, he, ho, hb'⟩ => ⟨y, he, ho.ok w0, ⟨ho.nilOk, ho.cap⟩, ho.c, hb'⟩
  have SP := hide (fun (m : HSm h0) (y : HS) (W : World) (o : HOk W y h0) (n : HNil W y) (bc : BsCap W y.k.a y.k.n) => specCommitters_any y h0 W o n bc m)
  have IM := hide (fun (m : HSm h0) (y : HS) (W : World) (o : HOk W y h0) (n : HNil W y) (bc : BsCap W y.k.a y.k.n) (hv : Laid W) (hE : LaidE W) => implCommitters_any y h0 W o n bc m hv hE)
  have MK := hide (fun (m : HSm h0) (t : hTot h0 ≤ 1048576) (y : HS) (W : World) (B C : Nat) (o : HOwnC W B C y h0) (hC : C ≤ W.heap.size) => markHeader_any y h0 B C W o hC m t)
  have EQC := hide (fun (m : HSm h0) (y z : HS) (W : World) (o : HOk W y h0) (q : HOk W z h0) => eqHeader_same y z h0 W o q m)
  have M2 := hide (coAns_sm h0)
  generalize coAns h0 = S at SP IM M2
  generalize coCode h0 = c at SP IM
  obtain ⟨cx0, cx1, cx2, cx3, cx4, cx5, cx6, cx7, cx8, cx9, cx10⟩ := hcells k0
  have HC0 := hide (fun (W : World) (hb : Below W0.heap.size W0 W) => hcells (k0.below hb k0.lt))
  have HB0 := hide hb0
  clear w0 m0 i0 k0 hb0
  unfold hvals at e0 SZ ⊢
  go_enter Tryz.func6, Tryz.ntmps6
  go_upto_region 1 with (rw [e0])
  try rw [e0]
  clear e0
  go_wp2_with fail
  refine (unhide SZ).mono ?_
  rintro e w1 ⟨⟨r, rfl, _, _, hsm⟩, b1⟩
  have HB1 := hide ((unhide HB0).trans (b1.mono (unhide HB0).size))
  have HSM := hide hsm
  clear hsm SZ cx0 cx1 cx2 cx3 cx4 cx5 cx6 cx7 cx8 cx9 cx10
  by_cases hr : r < 0
  · have hd : decide (r < 0) = true := decide_eq_true hr
    go_wp2_with fail
    go_ret
    exact ⟨rfl, unhide HB1⟩
  have hd : decide (r < 0) = false := decide_eq_false hr
  have M := hide ((unhide HSM) (by omega)).1
  have TT : Hid (hTot h0 ≤ 1048576) := by have := ((unhide HSM) (by omega)).2; show _ ≤ _; omega
  obtain ⟨cx0, cx1, cx2, cx3, cx4, cx5, cx6, cx7, cx8, cx9, cx10⟩ := (unhide HC0) _ b1
  have K1 := hide b1
  clear b1 HSM
  go_wp2_with fail
  refine ((unhide T0) (unhide M) _ (unhide HB1)).mono ?_
  rintro e w2 ⟨y2, rfl, o2, n2, _, b2⟩
  have HB2 := hide ((unhide HB1).trans (b2.mono (unhide HB1).size))
  have K2 := hide ((unhide K1).trans (b2.mono (unhide K1).size))
  clear b2 cx0 cx1 cx2 cx3 cx4 cx5 cx6 cx7 cx8 cx9 cx10 K1 HB1
  unfold hvals
  go_wp2_with fail
  refine ((unhide SP) (unhide M) y2 _ o2 n2.1 n2.2).mono ?_
  rintro e w4 ⟨z4, d4, rfl, r4, b4⟩
  have HB4 := hide ((unhide HB2).trans (b4.mono (unhide HB2).size))
  have K4 := hide ((unhide K2).trans (b4.mono (unhide K2).size))
  have kw := SBlk.new w4 (srvals c z4) 42
  have bw := below_alloc w4 (.cells (srvals c z4) 42)
  obtain ⟨W5, e5⟩ : ∃ W5, w4.alloc (.cells (srvals c z4) 42) = W5 := ⟨_, rfl⟩
  rw [e5] at kw bw
  have R4 := (r4.row (unhide M2)).below bw (Nat.le_refl _)
  have HB5 := hide ((unhide HB4).trans (bw.mono (unhide HB4).size))
  have K5 := hide ((unhide K4).trans (bw.mono (unhide K4).size))
  obtain ⟨cx0, cx1, cx2, cx3, cx4, cx5, cx6, cx7, cx8, cx9, cx10⟩ := (unhide HC0) _ (unhide K5)
  clear b4 o2 n2 K2 HB2 r4 bw K4 HB4
  unfold srvals at e5
  go_upto_region 6 with (rw [e5])
  try rw [e5]
  clear e5
  obtain ⟨gw, hgw⟩ : ∃ g, g = w4.heap.size := ⟨_, rfl⟩
  rw [← hgw] at kw ⊢
  clear hgw
  go_wp2_with fail
  refine ((unhide T0) (unhide M) _ (unhide HB5)).mono ?_
  rintro e w6 ⟨y6, rfl, o6, n6, q6, b6⟩
  have k7 := SBlk.new w6 (hvals y6 h0) 26
  have hb7 := below_alloc w6 (.cells (hvals y6 h0) 26)
  have hz7 : w6.heap.size < (w6.alloc (.cells (hvals y6 h0) 26)).heap.size := by simp
  obtain ⟨W7, e7⟩ : ∃ W7, w6.alloc (.cells (hvals y6 h0) 26) = W7 := ⟨_, rfl⟩
  rw [e7] at k7 hb7 hz7
  have q7 := q6.below hb7 (Nat.le_refl _)
  have o7 := o6.below hb7 (Nat.le_refl _)
  have n7 := And.intro (n6.1.below hb7 (Nat.le_refl _)) (n6.2.below hb7 (Nat.le_refl _))
  have b67 := b6.trans (hb7.mono b6.size)
  have HW7 := hide b67
  obtain ⟨cu0, cu1, cu2, cu3, cu4, cu5, cu6, cu7, cu8, cu9, cu10⟩ := hcells k7
  clear cx0 cx1 cx2 cx3 cx4 cx5 cx6 cx7 cx8 cx9 cx10 o6 n6 q6 b6 b67
  unfold hvals at e7 ⊢
  go_upto_region 7 with (rw [e7])
  try rw [e7]
  clear e7
  obtain ⟨g7, hg7⟩ : ∃ g, g = w6.heap.size := ⟨_, rfl⟩
  rw [← hg7] at k7 q7 hz7 cu0 cu1 cu2 cu3 cu4 cu5 cu6 cu7 cu8 cu9 cu10 ⊢
  clear hg7 hb7
  go_wp2_with fail
  refine ((unhide IM) (unhide M) y6 _ o7 n7.1 n7.2 ((unhide HV).1.below ((unhide HB5).trans ((unhide HW7).mono (unhide HB5).size)) (Nat.le_refl _)) ((unhide HV).2.below ((unhide HB5).trans ((unhide HW7).mono (unhide HB5).size)) (Nat.le_refl _))).mono ?_
  rintro e w8 ⟨z8, d8, rfl, r8, b8⟩
  obtain ⟨dC, hdC⟩ : ∃ dC : Nat → Nat, dC = fun g => if w8.heap.size ≤ g then 9 else d8 g := ⟨_, rfl⟩
  have hd9 : ∀ g, w8.heap.size ≤ g → dC g = 9 := fun g hg => by rw [hdC]; exact if_pos hg
  replace r8 := r8.recol (d' := dC) (fun g hg => by rw [hdC]; exact if_neg (by omega))
  clear hdC
  have kg := SBlk.new w8 (srvals c z8) 42
  have bg := below_alloc w8 (.cells (srvals c z8) 42)
  obtain ⟨W9, e9⟩ : ∃ W9, w8.alloc (.cells (srvals c z8) 42) = W9 := ⟨_, rfl⟩
  rw [e9] at kg bg
  have r9 := r8.below bg (Nat.le_refl _)
  have HD9 := hide hd9
  have b89 := b8.trans (bg.mono b8.size)
  have b89' := b89
  have q9 := q7.below b89 (Nat.le_refl _)
  have o9 := o7.below b89 (Nat.le_refl _)
  have k9 := k7.below b89 k7.lt
  have L9 := (unhide HW7).trans (b89.mono (unhide HW7).size)
  have kw9 := kw.below L9 kw.lt
  have RW9 := R4.below L9 (Nat.le_refl _)
  have hz89 : W7.heap.size ≤ w8.heap.size := b8.size
  clear cu0 cu1 cu2 cu3 cu4 cu5 cu6 cu7 cu8 cu9 cu10 r8 b8 bg b89 q7 o7 n7 k7 hd9
  unfold srvals at e9
  go_upto_region 8 with (rw [e9])
  try rw [e9]
  clear e9
  obtain ⟨gg, hgg⟩ : ∃ g, g = w8.heap.size := ⟨_, rfl⟩
  rw [← hgg] at kg HD9 hz89 ⊢
  clear hgg
  have HL9 := hide L9
  have RG9 := r9.row (unhide M2)
  have hz79 : W7.heap.size ≤ W9.heap.size := b89'.size
  have hzg : gg < W9.heap.size := kg.lt
  have p0 := kw9.cell 0
  have p1 := kw9.cell 1
  have s0 := kg.cell 0
  have s1 := kg.cell 1
  simp only [srvals, List.getElem?_cons_zero, List.getElem?_cons_succ] at p0 p1 s0 s1
  clear L9 kw9
  go_wp2_with fail
  refine (eqSR_same c z8 z4 S _ RG9 RW9 (unhide M2).l (unhide M2).z).mono ?_
  rintro e w10 ⟨rfl, b10⟩
  have HL10 := hide ((unhide HL9).trans (b10.mono (unhide HL9).size))
  have k10 := k9.below b10 k9.lt
  have kg10 := kg.below b10 kg.lt
  have q10 := q9.below b10 (Nat.le_refl _)
  have o10 := o9.below b10 (Nat.le_refl _)
  have r10 := r9.below b10 (Nat.le_refl _)
  have hz10 : W9.heap.size ≤ w10.heap.size := b10.size
  have HRR : Hid (∀ W, Below w10.heap.size w10 W → (W.cell? ⟨g7, 0, none⟩ = some (.slice y6.p.a y6.p.n y6.p.c) ∧ W.cell? ⟨g7, 1, none⟩ = some (.int .i64 h0.n1) ∧ W.cell? ⟨g7, 2, none⟩ = some (.int .i64 h0.n2) ∧ W.cell? ⟨g7, 3, none⟩ = some (.int .i64 h0.n3) ∧ W.cell? ⟨g7, 4, none⟩ = some (.slice y6.t.a y6.t.n y6.t.c) ∧ W.cell? ⟨g7, 5, none⟩ = some (.int .i64 h0.n5) ∧ W.cell? ⟨g7, 6, none⟩ = some (.slice y6.s.a y6.s.n y6.s.c) ∧ W.cell? ⟨g7, 7, none⟩ = some (.slice y6.r.a y6.r.n y6.r.c) ∧ W.cell? ⟨g7, 8, none⟩ = some (.slice y6.g.a y6.g.n y6.g.c) ∧ W.cell? ⟨g7, 9, none⟩ = some (.slice y6.e.a y6.e.n y6.e.c) ∧ W.cell? ⟨g7, 10, none⟩ = some (.slice y6.k.a y6.k.n y6.k.c)) ∧ (W.cell? ⟨w.heap.size, 0, none⟩ = some (.slice x0.p.a x0.p.n x0.p.c) ∧ W.cell? ⟨w.heap.size, 1, none⟩ = some (.int .i64 h0.n1) ∧ W.cell? ⟨w.heap.size, 2, none⟩ = some (.int .i64 h0.n2) ∧ W.cell? ⟨w.heap.size, 3, none⟩ = some (.int .i64 h0.n3) ∧ W.cell? ⟨w.heap.size, 4, none⟩ = some (.slice x0.t.a x0.t.n x0.t.c) ∧ W.cell? ⟨w.heap.size, 5, none⟩ = some (.int .i64 h0.n5) ∧ W.cell? ⟨w.heap.size, 6, none⟩ = some (.slice x0.s.a x0.s.n x0.s.c) ∧ W.cell? ⟨w.heap.size, 7, none⟩ = some (.slice x0.r.a x0.r.n x0.r.c) ∧ W.cell? ⟨w.heap.size, 8, none⟩ = some (.slice x0.g.a x0.g.n x0.g.c) ∧ W.cell? ⟨w.heap.size, 9, none⟩ = some (.slice x0.e.a x0.e.n x0.e.c) ∧ W.cell? ⟨w.heap.size, 10, none⟩ = some (.slice x0.k.a x0.k.n x0.k.c))) := fun W hb => by
    have B5 := (unhide HL10).trans (hb.mono (unhide HL10).size)
    exact ⟨hcells (k10.below hb k10.lt), (unhide HC0) W ((unhide K5).trans (B5.mono (unhide K5).size))⟩
  have HO10 := hide (fun (W : World) (hb : Below w10.heap.size w10 W) => o10.below hb (Nat.le_refl _))
  have HB10 := hide ((unhide HB5).trans ((unhide HL10).mono (unhide HB5).size))
  have HKG := hide kg10
  have HKK := hide k10
  have HQ10 := hide q10
  have HR10 := hide r10
  have HKW := hide kw
  have HR4 := hide R4
  clear kg k9 q9 o9 r9 RG9 RW9 p0 p1 s0 s1 b10 kg10 k10 q10 o10 r10 HL9 kw R4
  go_wp2_with fail
  go_region_held3 (fun W => (W.cell? ⟨g7, 0, none⟩ = some (.slice y6.p.a y6.p.n y6.p.c) ∧ W.cell? ⟨g7, 1, none⟩ = some (.int .i64 h0.n1) ∧ W.cell? ⟨g7, 2, none⟩ = some (.int .i64 h0.n2) ∧ W.cell? ⟨g7, 3, none⟩ = some (.int .i64 h0.n3) ∧ W.cell? ⟨g7, 4, none⟩ = some (.slice y6.t.a y6.t.n y6.t.c) ∧ W.cell? ⟨g7, 5, none⟩ = some (.int .i64 h0.n5) ∧ W.cell? ⟨g7, 6, none⟩ = some (.slice y6.s.a y6.s.n y6.s.c) ∧ W.cell? ⟨g7, 7, none⟩ = some (.slice y6.r.a y6.r.n y6.r.c) ∧ W.cell? ⟨g7, 8, none⟩ = some (.slice y6.g.a y6.g.n y6.g.c) ∧ W.cell? ⟨g7, 9, none⟩ = some (.slice y6.e.a y6.e.n y6.e.c) ∧ W.cell? ⟨g7, 10, none⟩ = some (.slice y6.k.a y6.k.n y6.k.c)) ∧ (W.cell? ⟨w.heap.size, 0, none⟩ = some (.slice x0.p.a x0.p.n x0.p.c) ∧ W.cell? ⟨w.heap.size, 1, none⟩ = some (.int .i64 h0.n1) ∧ W.cell? ⟨w.heap.size, 2, none⟩ = some (.int .i64 h0.n2) ∧ W.cell? ⟨w.heap.size, 3, none⟩ = some (.int .i64 h0.n3) ∧ W.cell? ⟨w.heap.size, 4, none⟩ = some (.slice x0.t.a x0.t.n x0.t.c) ∧ W.cell? ⟨w.heap.size, 5, none⟩ = some (.int .i64 h0.n5) ∧ W.cell? ⟨w.heap.size, 6, none⟩ = some (.slice x0.s.a x0.s.n x0.s.c) ∧ W.cell? ⟨w.heap.size, 7, none⟩ = some (.slice x0.r.a x0.r.n x0.r.c) ∧ W.cell? ⟨w.heap.size, 8, none⟩ = some (.slice x0.g.a x0.g.n x0.g.c) ∧ W.cell? ⟨w.heap.size, 9, none⟩ = some (.slice x0.e.a x0.e.n x0.e.c) ∧ W.cell? ⟨w.heap.size, 10, none⟩ = some (.slice x0.k.a x0.k.n x0.k.c)))
    (exact (unhide HRR) _ (by first | assumption | exact (Below.refl w10.heap.size w10).drew | exact below_drewN (Below.refl w10.heap.size w10) _ | exact below_drewN (by assumption) _))
    (first
      | (go_at_call 27; refine ((unhide T0) (unhide M) _ ((unhide HB10).trans (Below.mono (by first | exact (Below.refl w10.heap.size w10).drew | exact below_drewN (Below.refl w10.heap.size w10) _) (unhide HB10).size))).mono ?_; rintro e w11 ⟨y11, rfl, o11, _, _, b11⟩; have K11 : Below w10.heap.size w10 w11 := Below.trans (by first | exact (Below.refl w10.heap.size w10).drew | exact below_drewN (Below.refl w10.heap.size w10) _) (b11.mono (by first | exact Nat.le_refl _ | exact (below_drewN (Below.refl w10.heap.size w10) _).size)); clear b11)
      | (go_at_call 28; refine ((unhide EQC) (unhide M) y6 y11 _ ((unhide HO10) _ K11) o11).mono ?_; rintro e w12 ⟨rfl, b12⟩; have K12 : Below w10.heap.size w10 w12 := K11.trans (b12.mono K11.size)))
  all_goals
    clear HRR HO10 K11 b12 o11
    have HL12 := hide ((unhide HL10).trans (K12.mono (unhide HL10).size))
    have k12 := (unhide HKK).below K12 (unhide HKK).lt
    have kg12 := (unhide HKG).below K12 (unhide HKG).lt
    have q12 := (unhide HQ10).below K12 (Nat.le_refl _)
    have r12 := (unhide HR10).below K12 (Nat.le_refl _)
    obtain ⟨cu0, cu1, cu2, cu3, cu4, cu5, cu6, cu7, cu8, cu9, cu10⟩ := hcells k12
    clear HKK HKG HQ10 HR10 K12 HL10
    go_wp2_with fail
    refine ((unhide MK) (unhide M) (unhide TT) y6 _ _ _ q12 (Nat.le_of_lt k12.lt)).mono ?_
    rintro e w13 ⟨rfl, on13⟩
    have HL13 := hide ((unhide HL12).trans (on13.1.mono (by omega)))
    have kg13 := on13.sblk kg12 (by omega)
    have r13 := r12.onlyH on13 (by omega)
    have kw13 := (unhide HKW).below (unhide HL13) (unhide HKW).lt
    have RW13 := (unhide HR4).below (unhide HL13) (Nat.le_refl _)
    have p0 := kw13.cell 0
    have p1 := kw13.cell 1
    have s0 := kg13.cell 0
    have s1 := kg13.cell 1
    simp only [srvals, List.getElem?_cons_zero, List.getElem?_cons_succ] at p0 p1 s0 s1
    have hk : decide ((1 + ((hTot h0 : Nat) : Int)) < 0) = false := decide_eq_false (by omega)
    clear cu0 cu1 cu2 cu3 cu4 cu5 cu6 cu7 cu8 cu9 cu10 kg12 q12 r12 k12 HL12 on13 kw13
    go_wp2_with fail
    clear p0 p1
    refine (eqSR_same c z8 z4 S _ (r13.row (unhide M2)) RW13 (unhide M2).l (unhide M2).z).mono ?_
    rintro e w14 ⟨rfl, b14⟩
    have HL14 := hide ((unhide HL13).trans (b14.mono (unhide HL13).size))
    have kg14 := kg13.below b14 kg13.lt
    have r14 := r13.below b14 (Nat.le_refl _)
    have d14 : ∀ g, w14.heap.size ≤ g → dC g = 9 := fun g hg => (unhide HD9) g (by have := kg14.lt; omega)
    have z14 : W7.heap.size ≤ w14.heap.size := by have := kg14.lt; omega
    have t0 := kg14.cell 0
    have t1 := kg14.cell 1
    simp only [srvals, List.getElem?_cons_zero, List.getElem?_cons_succ] at t0 t1
    clear s0 s1 kg13 r13 RW13 b14 HL13 hk
    go_wp2_with fail
    refine (markSR_col c W7.heap.size dC z8 S 1 _ r14 z14 (unhide M2).l (unhide M2).t (by omega) (by omega) d14).mono ?_
    rintro e w15 ⟨rfl, o15, g15⟩
    have kg15 := g15.sblk kg14 (by rw [(unhide HD9) gg (Nat.le_refl _)]; rintro ⟨i, hi⟩; omega)
    have HL15 := hide ((unhide HL14).trans (g15.1.mono (unhide HW7).size))
    have M15 := o15.rowM (unhide M2)
    have u0 := kg15.cell 0
    have u1 := kg15.cell 1
    simp only [srvals, List.getElem?_cons_zero, List.getElem?_cons_succ] at u0 u1
    clear t0 t1 kg14 r14 o15 HL14 g15
    go_wp2_with fail
    refine (heldSR_any c z8 S 1 _ M15 (unhide M2).l (unhide M2).t (by omega) (by omega)).mono ?_
    rintro e w16 ⟨rfl, b16⟩
    have HL16 := hide ((unhide HL15).trans (b16.mono (unhide HL15).size))
    have kg16 := kg15.below b16 kg15.lt
    have v0 := kg16.cell 0
    have v1 := kg16.cell 1
    simp only [srvals, List.getElem?_cons_zero, List.getElem?_cons_succ] at v0 v1
    have M16 := M15.below b16 (Nat.le_refl _)
    have hne : ((1 + ((bsum S : Nat) : Int)) != 1 + ((bsum S : Nat) : Int)) = false := by simp
    have hdT : decide (1 + ((bsum S : Nat) : Int) < 0) = false := decide_eq_false (by omega)
    obtain ⟨cx0, cx1, cx2, cx3, cx4, cx5, cx6, cx7, cx8, cx9, cx10⟩ := (unhide HC0) _ ((unhide K5).trans ((unhide HL16).mono (unhide K5).size))
    clear u0 u1 M15 b16 HL15 kg15
    go_wp2_with fail
    refine ((unhide T0) (unhide M) _ ((unhide HB5).trans ((unhide HL16).mono (unhide HB5).size))).mono ?_
    rintro e w17 ⟨y17, rfl, o17, n17, _, b17⟩
    clear cx0 cx1 cx2 cx3 cx4 cx5 cx6 cx7 cx8 cx9 cx10
    unfold hvals
    go_wp2_with fail
    refine ((unhide IM) (unhide M) y17 _ o17 n17.1 n17.2 ((unhide HV).1.below (((unhide HB5).trans ((unhide HL16).mono (unhide HB5).size)).trans (b17.mono ((unhide HB5).trans ((unhide HL16).mono (unhide HB5).size)).size)) (Nat.le_refl _)) ((unhide HV).2.below (((unhide HB5).trans ((unhide HL16).mono (unhide HB5).size)).trans (b17.mono ((unhide HB5).trans ((unhide HL16).mono (unhide HB5).size)).size)) (Nat.le_refl _))).mono ?_
    rintro e w18 ⟨z18, d18, rfl, r18, b18⟩
    have b168 := b17.trans (b18.mono b17.size)
    have HL18 := hide ((unhide HL16).trans (b168.mono (unhide HL16).size))
    have kg18 := kg16.below b168 kg16.lt
    have M18 := M16.below b168 (Nat.le_refl _)
    have kw18 := (unhide HKW).below (unhide HL18) (unhide HKW).lt
    have p0 : ∀ o, (w18.alloc o).cell? ⟨gw, 0, none⟩ = some (.int .i64 c) := fun o => ((below_alloc w18 o).cell (p := ⟨gw, 0, none⟩) kw18.lt).trans (kw18.cell 0)
    have p1 : ∀ o, (w18.alloc o).cell? ⟨gw, 1, none⟩ = some (.slice z4.a z4.n z4.c) := fun o => ((below_alloc w18 o).cell (p := ⟨gw, 1, none⟩) kw18.lt).trans (kw18.cell 1)
    have HKG18 := hide kg18
    clear v0 v1 M16 b17 b18 b168 HL16 o17 n17 kw18 kg16 kg18
    go_wp2_with fail
    clear p0 p1
    have k19 := below_alloc w18 (.cells (srvals c z18) 42)
    unfold srvals at k19
    generalize w18.alloc (Obj.cells #[.int .i64 c, .slice z18.a z18.n z18.c] 42) = w19 at k19 ⊢
    have HL19 := hide ((unhide HL18).trans (k19.mono (unhide HL18).size))
    refine (eqSR_same c z18 z4 S _ ((r18.row (unhide M2)).below k19 (Nat.le_refl _)) ((unhide HR4).below (unhide HL19) (Nat.le_refl _)) (unhide M2).l (unhide M2).z).mono ?_
    rintro e w20 ⟨rfl, b20⟩
    have k20 := k19.trans (b20.mono k19.size)
    have kg20 := (unhide HKG18).below k20 (unhide HKG18).lt
    have v0 := kg20.cell 0
    have v1 := kg20.cell 1
    simp only [srvals, List.getElem?_cons_zero, List.getElem?_cons_succ] at v0 v1
    have M20 := M18.below k20 (Nat.le_refl _)
    have HL20 := hide ((unhide HL18).trans (k20.mono (unhide HL18).size))
    clear M18 kg20
    go_wp2_with fail
    refine (heldSR_any c z8 S 1 _ M20 (unhide M2).l (unhide M2).t (by omega) (by omega)).mono ?_
    rintro e w21 ⟨rfl, b21⟩
    have HL21 := hide ((unhide HL20).trans (b21.mono (unhide HL20).size))
    go_wp2_with fail
    go_ret
    exact ⟨rfl, (unhide HB5).trans ((unhide HL21).mono (unhide HB5).size)⟩

/-! The row's step. -/
set_option maxRecDepth 100000 in
theorem lifted (os : Os) (started : os.Started) (H : Type) (enc : TypeId × Value → H) :
    ReturnsInHanded {} Tryz.checked os 6 .any (fun w args => (Rows.fnExactCommittersOfSpec.pre enc Tryz.prog Tryz.f6 [] false w args ∧ laidMetH Tryz.prog laid3 w) ∧ sizedMet enc Tryz.prog Tryz.f6 (OpenSpec.ofChange Rows.fnExactCommittersOfSpec) false w args)
      (Rows.fnExactCommittersOfSpec.post enc Tryz.prog Tryz.f6 false true false false) := by
  refine returnsInHanded_of_change_and (C := Tryz.checked) (X := fun w _ => laidMetH Tryz.prog laid3 w) (fun _ _ _ hh h => h.of_heap hh) own started (by kernel_rfl) Tryz.func6
    (ChangeSpec.witness_shaped (enc := enc) (C := Tryz.checked) (os := os) (X := fun w _ => laidMetH Tryz.prog laid3 w) false (World.doorLaid Tryz.prog 400 os) #[.agg #[.slice none 0 0, .int .i64 0, .int .i64 0, .int .i64 0, .slice none 0 0, .int .i64 0, .slice none 0 0, .slice none 0 0, .slice none 0 0, .slice none 0 0, .slice none 0 0]] 8 rfl (World.shaped_of_RefB (by kernel_rfl) (by kernel_rfl)) (by kernel_rfl) (by kernel_rfl) (by kernel_rfl) (door_met3 os _)) ?_
  intro W base args ds gs before hval0 hW _ _ hL _
  have hval : ∀ (j : Nat) t v, Tryz.f6.params[j]? = some t → args[j]? = some v → Value.okWide Tryz.prog W .any base t v := hval0
  have hW' := hW
  obtain ⟨p, q, hA0, hV, rfl, hfz, hnd⟩ := hW
  have hA : DataW.TrodAll enc Tryz.prog W 0 (fun _ => true) true Tryz.f6.params.toList args.toList ds p := hA0
  rw [Tryz.params6] at hA hval
  obtain ⟨v0, vs0, d0, ds0, p0, q0, hargs, rfl, rfl, h0, r0⟩ := trodAll_cons hA
  obtain ⟨rfl, rfl, rfl⟩ := trodAll_nil r0
  obtain rfl : args = #[v0] := by cases args; simp_all
  obtain ⟨y0v, y1v, rfl⟩ : ∃ y0 y1, gs = [y0, y1] := by
    match gs, hV with
    | [y0, y1], _ => exact ⟨y0, y1, rfl⟩
    | [], hV => exact hV.elim
    | [_], hV => obtain ⟨_, _, _, _, _, _, _, _, _, _, hs, _⟩ := hV; exact hs.elim
    | _ :: _ :: _ :: _, hV =>
      obtain ⟨_, _, _, _, _, _, _, _, _, _, hs, _⟩ := hV
      obtain ⟨_, _, _, _, _, _, _, _, _, _, hs2, _⟩ := hs
      exact hs2.elim
  have k0 := h0
  have lt0 : ∀ x ∈ p0, x.block < W.heap.size := by obtain ⟨m, hm⟩ := k0; exact DataW.trod_lt m _ _ _ hm
  obtain ⟨x0, y0, rfl, w0, m0, i0⟩ := open_header Tryz.underlying44 rfl (by kernel_rfl) ⟨rfl, rfl, rfl, rfl, rfl, rfl, rfl, rfl, rfl, rfl, rfl⟩ ⟨rfl, rfl, rfl, rfl, rfl, rfl, rfl, rfl, rfl, rfl, rfl⟩ Tryz.underlying22 Tryz.underlying5 Tryz.underlying2 Tryz.underlying24 (by kernel_rfl) (by kernel_rfl) (by kernel_rfl) (by kernel_rfl) (okWide_struct Tryz.underlying44 (hval 0 44 v0 rfl rfl)) h0
  clear hA0 hval0
  refine (walk x0 y0 W m0 w0 i0 (of_laid3 hL).1 (of_laid3 hL).2).mono fun e W' ⟨he, bel⟩ => ?_
  subst he
  exact ⟨_, rfl, _, _, _, [], _, _, hW', trodAll_mk1 (shut_bool Tryz.underlying4 _), (trodAll_cons_mk (Below.trod laidOut (by kernel_rfl) (of_decide_eq_true (by kernel_rfl)) k0 bel lt0) trodAll_mk0), Below.trodVars laidOut bel (by kernel_rfl) hV, bel.frame _, fun h => by cases h⟩

theorem over : Rows.FnExactCommittersOfSaid :=
  OpenClaim.holds_of_wide 6 Tryz.f6 rfl rfl rfl rfl rfl rfl rfl ⟨rfl, rfl, rfl, rfl, rfl⟩ rfl rfl rfl rfl rfl (by kernel_rfl) Tryz.func6 (by kernel_rfl)
    (of_decide_eq_true (by kernel_rfl)) (by unfold Func.isWrapper; first | (rw [if_pos (by decide +kernel)]; kernel_rfl) | (rw [if_neg (by decide +kernel)]; exact ⟨rfl, rfl⟩))
    (fun os started H enc _ => lifted os started H enc)

/-- The statement: the tied card. -/
theorem proved : Rows.FnExactCommittersOfCardSaid :=
  Claim7.holds_tied_plain_at .later [] [.handle, .data, .data] true (true, "2afe33840bbcb421a5024dc978bd1e0a2a8ede1ec9e728ec45baeb988107c69b") true
    over (fun _ h => by cases h) (by kernel_rfl) (fun _ h => by cases h) fnExactCommittersOf_row_tie rfl ⟨rfl, rfl⟩ (by kernel_rfl) rfl
    (fun f fn hf hfn => by
      obtain rfl : f = 6 := Option.some.inj ((show Tryz.prog.funcNamed "loop.example/g00383/laws.FnExactCommittersOf" = some 6 by kernel_rfl).symm.trans hf) |>.symm
      obtain rfl : fn = Tryz.f6 := (Option.some.inj (Tryz.func6.symm.trans hfn)).symm
      exact ⟨by kernel_rfl, fun j t ht => by
        rw [Tryz.params6] at ht
        have hm : t ∈ [44] := by simpa using Array.mem_of_getElem? ht
        have hall : ([44].all fun u => !Tryz.prog.wantsStandIn u) = true := by kernel_rfl
        exact (show Tryz.prog.wantsStandIn t = false by simpa using List.all_eq_true.1 hall t hm)⟩)
    (by kernel_rfl)
#print axioms proved
end Go.Proofs.YtibalolpgaoppaaGreatDoor.fnExactCommittersOf
