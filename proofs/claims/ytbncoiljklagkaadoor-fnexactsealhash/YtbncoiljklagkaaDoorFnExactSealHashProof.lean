/- Proved: for every header the law FnExactSealHash returns true and changes no argument. Conditions: the two variables hold what the program's text lays. -/
import Derived.Test.YtbncoiljklagkaaDoorRows
import Derived.Test.YtbncoiljklagkaaDoorTie
import Derived.Test.YtbncoiljklagkaaDoorCards
import Derived.Test.YtbncoiljklagkaaDoorJ2
import Derived.Test.YtbncoiljklagkaaDoorJ4
import Derived.Test.YtbncoiljklagkaaDoorJ5
import Derived.Test.YtbncoiljklagkaaDoorJ13
import Derived.Test.YtbncoiljklagkaaDoorJ19
import Derived.Test.YtbncoiljklagkaaDoorJ11
import Derived.WalkSmall
import Derived.Deep.RegionHeld3
import Derived.WalkKit
import Derived.ProofKit
import Derived.OpenShut
import Derived.ShutString
import Derived.ChangeOld
import Derived.Below
import Derived.OpenVars
import Derived.LaidMore
import Derived.Stop.Joined
import Derived.SevenTiedAt
namespace Go.Proofs.YtbncoiljklagkaaDoor.fnExactSealHash
open Go.ChangeShapes Go.WideShapes Go.ChangeAt Go.RowKit
set_option linter.unusedVariables false

theorem own : ownKnob Tryd.prog.godebug = none := by kernel_rfl
theorem laidOut : laidOutB Tryd.prog = true := by kernel_rfl

/-! The walk: the Go text returns true, and writes nothing that was there. -/
set_option maxRecDepth 100000 in
set_option maxHeartbeats 8000000 in
theorem walk (x0 : HS) (h0 : Hd) (w : World) (m0 : HMax x0 maxLen) (w0 : HOk w x0 h0) (i0 : HIn h0) (VV : Laid w) :
    Calls Tryd.prog 4 #[.agg (hvals x0 h0)] w fun e w' => e = .returned (.bool true) ∧ Below w.heap.size w w' := by
  have HV := hide VV
  clear VV
  have k0 := SBlk.new w (hvals x0 h0) 25
  have hb0 := below_alloc w (.cells (hvals x0 h0) 25)
  obtain ⟨W0, e0⟩ : ∃ W0, w.alloc (.cells (hvals x0 h0) 25) = W0 := ⟨_, rfl⟩
  rw [e0] at k0 hb0
  have SZ := hide (szHeader_tot x0 h0 1048576 W0 (w0.below hb0 (Nat.le_refl _)) m0 (by omega) (by omega))
  have T0 : Hid (HSm h0 → ∀ (W : World), Below w.heap.size w W → Calls Tryd.prog 10 #[.agg (hvals x0 h0)] W fun e w' => ∃ y, e = .returned (.agg (hvals y h0)) ∧ HOk w' y h0 ∧ HNil w' y ∧ HOwnC w' (W.heap.size + 3) w'.heap.size y h0 ∧ Below W.heap.size W w') := fun m W hb => (toHeader_any x0 h0 W (w0.below hb (Nat.le_refl _)) m).mono fun e w' ⟨y, he, ho, hb'⟩ => ⟨y, he, ho.ok w0, ho.nilOk, ho.c, hb'⟩
  have SP := hide (fun (m : HSm h0) (y : HS) (W : World) (o : HOk W y h0) (n : HNil W y) => specSealHash_any y h0 W o n m)
  have IM := hide (fun (m : HSm h0) (y : HS) (W : World) (o : HOk W y h0) (n : HNil W y) (hv : Laid W) => implSealHash_any y h0 W o n m hv)
  have MK := hide (fun (m : HSm h0) (t : hTot h0 ≤ 1048576) (y : HS) (W : World) (B C : Nat) (o : HOwnC W B C y h0) (hC : C ≤ W.heap.size) => markHeader_any y h0 B C W o hC m t)
  have EQC := hide (fun (m : HSm h0) (y z : HS) (W : World) (o : HOk W y h0) (q : HOk W z h0) => eqHeader_same y z h0 W o q m)
  have HRG := hide (shh_range w0)
  have hln := shh_length h0
  generalize shBytes h0 = zs at SP IM HRG hln
  obtain ⟨L, hL⟩ : ∃ L, L = zs.length := ⟨_, rfl⟩
  rw [← hL] at SP IM
  have hL7 : L ≤ 1048576 := by omega
  generalize hdFlt h0 = c at SP IM
  obtain ⟨cx0, cx1, cx2, cx3, cx4, cx5, cx6, cx7, cx8, cx9, cx10⟩ := hcells k0
  have HC0 := hide (fun (W : World) (hb : Below W0.heap.size W0 W) => hcells (k0.below hb k0.lt))
  have HB0 := hide hb0
  clear w0 m0 i0 k0 hb0 hL hln
  unfold hvals at e0 SZ ⊢
  go_enter Tryd.func4, Tryd.ntmps4
  go_upto_region 1 with (rw [e0])
  try rw [e0]
  clear e0
  go_wp2_with fail
  refine (unhide SZ).mono ?_
  rintro e w1 ⟨⟨r, rfl, _, _, hsm⟩, b1⟩
  have HB1 := hide ((unhide HB0).trans (b1.mono (unhide HB0).size))
  have HSM := hide hsm
  clear hsm SZ cx0 cx1 cx2 cx3 cx4 cx5 cx6 cx7 cx8 cx9 cx10
  by_cases hr : r < 0
  · have hd : decide (r < 0) = true := decide_eq_true hr
    go_wp2_with fail
    go_ret
    exact ⟨rfl, unhide HB1⟩
  have hd : decide (r < 0) = false := decide_eq_false hr
  have M := hide ((unhide HSM) (by omega)).1
  have TT : Hid (hTot h0 ≤ 1048576) := by have := ((unhide HSM) (by omega)).2; show _ ≤ _; omega
  obtain ⟨cx0, cx1, cx2, cx3, cx4, cx5, cx6, cx7, cx8, cx9, cx10⟩ := (unhide HC0) _ b1
  have K1 := hide b1
  clear b1 HSM
  go_wp2_with fail
  refine ((unhide T0) (unhide M) _ (unhide HB1)).mono ?_
  rintro e w2 ⟨y2, rfl, o2, n2, _, b2⟩
  have HB2 := hide ((unhide HB1).trans (b2.mono (unhide HB1).size))
  have K2 := hide ((unhide K1).trans (b2.mono (unhide K1).size))
  clear b2 cx0 cx1 cx2 cx3 cx4 cx5 cx6 cx7 cx8 cx9 cx10 K1 HB1
  unfold hvals
  go_wp2_with fail
  refine ((unhide SP) (unhide M) y2 _ o2 n2).mono ?_
  rintro e w4 ⟨a4, c4, rfl, r4, b4⟩
  have HB4 := hide ((unhide HB2).trans (b4.mono (unhide HB2).size))
  have K4 := hide ((unhide K2).trans (b4.mono (unhide K2).size))
  have kw := SBlk.new w4 #[.int .i64 c, .slice a4 L c4] 28
  have bw := below_alloc w4 (.cells #[.int .i64 c, .slice a4 L c4] 28)
  obtain ⟨W5, e5⟩ : ∃ W5, w4.alloc (.cells #[.int .i64 c, .slice a4 L c4] 28) = W5 := ⟨_, rfl⟩
  rw [e5] at kw bw
  have R4 := (BRow.own2 r4 (unhide HRG)).below bw (Nat.le_refl _)
  have HB5 := hide ((unhide HB4).trans (bw.mono (unhide HB4).size))
  have K5 := hide ((unhide K4).trans (bw.mono (unhide K4).size))
  obtain ⟨cx0, cx1, cx2, cx3, cx4, cx5, cx6, cx7, cx8, cx9, cx10⟩ := (unhide HC0) _ (unhide K5)
  clear b4 o2 n2 K2 HB2 r4 bw K4 HB4
  go_upto_region 6 with (rw [e5])
  try rw [e5]
  clear e5
  obtain ⟨gw, hgw⟩ : ∃ g, g = w4.heap.size := ⟨_, rfl⟩
  rw [← hgw] at kw ⊢
  clear hgw
  go_wp2_with fail
  refine ((unhide T0) (unhide M) _ (unhide HB5)).mono ?_
  rintro e w6 ⟨y6, rfl, o6, n6, q6, b6⟩
  have k7 := SBlk.new w6 (hvals y6 h0) 30
  have hb7 := below_alloc w6 (.cells (hvals y6 h0) 30)
  have hz7 : w6.heap.size < (w6.alloc (.cells (hvals y6 h0) 30)).heap.size := by simp
  obtain ⟨W7, e7⟩ : ∃ W7, w6.alloc (.cells (hvals y6 h0) 30) = W7 := ⟨_, rfl⟩
  rw [e7] at k7 hb7 hz7
  have q7 := q6.below hb7 (Nat.le_refl _)
  have o7 := o6.below hb7 (Nat.le_refl _)
  have n7 := n6.below hb7 (Nat.le_refl _)
  have b67 := b6.trans (hb7.mono b6.size)
  have HW7 := hide b67
  obtain ⟨cu0, cu1, cu2, cu3, cu4, cu5, cu6, cu7, cu8, cu9, cu10⟩ := hcells k7
  clear cx0 cx1 cx2 cx3 cx4 cx5 cx6 cx7 cx8 cx9 cx10 o6 n6 q6 b6 b67
  unfold hvals at e7 ⊢
  go_upto_region 7 with (rw [e7])
  try rw [e7]
  clear e7
  obtain ⟨g7, hg7⟩ : ∃ g, g = w6.heap.size := ⟨_, rfl⟩
  rw [← hg7] at k7 q7 hz7 cu0 cu1 cu2 cu3 cu4 cu5 cu6 cu7 cu8 cu9 cu10 ⊢
  clear hg7 hb7
  go_wp2_with fail
  refine ((unhide IM) (unhide M) y6 _ o7 n7 ((unhide HV).below ((unhide HB5).trans ((unhide HW7).mono (unhide HB5).size)) (Nat.le_refl _))).mono ?_
  rintro e w8 ⟨a8, c8, rfl, r8, b8⟩
  have kg := SBlk.new w8 #[.int .i64 c, .slice a8 L c8] 28
  have bg := below_alloc w8 (.cells #[.int .i64 c, .slice a8 L c8] 28)
  obtain ⟨W9, e9⟩ : ∃ W9, w8.alloc (.cells #[.int .i64 c, .slice a8 L c8] 28) = W9 := ⟨_, rfl⟩
  rw [e9] at kg bg
  have r9 := own_below r8 bg (Nat.le_refl _)
  have hg8 : ∀ q, (Value.slice a8 L c8).ownBlock = some q → W7.heap.size ≤ q ∧ q < w8.heap.size := fun q e => r8.lt q e
  have b89 := b8.trans (bg.mono b8.size)
  have b89' := b89
  have q9 := q7.below b89 (Nat.le_refl _)
  have o9 := o7.below b89 (Nat.le_refl _)
  have k9 := k7.below b89 k7.lt
  have L9 := (unhide HW7).trans (b89.mono (unhide HW7).size)
  have kw9 := kw.below L9 kw.lt
  have RW9 := R4.below L9 (Nat.le_refl _)
  have hz89 : W7.heap.size ≤ w8.heap.size := b8.size
  clear cu0 cu1 cu2 cu3 cu4 cu5 cu6 cu7 cu8 cu9 cu10 r8 b8 bg b89 q7 o7 n7 k7
  go_upto_region 8 with (rw [e9])
  try rw [e9]
  clear e9
  obtain ⟨gg, hgg⟩ : ∃ g, g = w8.heap.size := ⟨_, rfl⟩
  rw [← hgg] at kg hg8 hz89 ⊢
  clear hgg
  have HL9 := hide L9
  have RG9 := BRow.own2 r9 (unhide HRG)
  have hz79 : W7.heap.size ≤ W9.heap.size := b89'.size
  have hzg : gg < W9.heap.size := kg.lt
  have p0 := kw9.cell 0
  have p1 := kw9.cell 1
  have s0 := kg.cell 0
  have s1 := kg.cell 1
  simp only [List.getElem?_cons_zero, List.getElem?_cons_succ] at p0 p1 s0 s1
  clear L9 kw9
  go_wp2_with fail
  refine (eqBytes_same c a8 a4 L c8 c4 zs _ RG9 RW9 hL7).mono ?_
  rintro e w10 ⟨rfl, b10⟩
  have HL10 := hide ((unhide HL9).trans (b10.mono (unhide HL9).size))
  have k10 := k9.below b10 k9.lt
  have kg10 := kg.below b10 kg.lt
  have q10 := q9.below b10 (Nat.le_refl _)
  have o10 := o9.below b10 (Nat.le_refl _)
  have r10 := own_below r9 b10 (Nat.le_refl _)
  have hz10 : W9.heap.size ≤ w10.heap.size := b10.size
  have HRR : Hid (∀ W, Below w10.heap.size w10 W → (W.cell? ⟨g7, 0, none⟩ = some (.slice y6.p.a y6.p.n y6.p.c) ∧ W.cell? ⟨g7, 1, none⟩ = some (.int .i64 h0.n1) ∧ W.cell? ⟨g7, 2, none⟩ = some (.int .i64 h0.n2) ∧ W.cell? ⟨g7, 3, none⟩ = some (.int .i64 h0.n3) ∧ W.cell? ⟨g7, 4, none⟩ = some (.slice y6.t.a y6.t.n y6.t.c) ∧ W.cell? ⟨g7, 5, none⟩ = some (.int .i64 h0.n5) ∧ W.cell? ⟨g7, 6, none⟩ = some (.slice y6.s.a y6.s.n y6.s.c) ∧ W.cell? ⟨g7, 7, none⟩ = some (.slice y6.r.a y6.r.n y6.r.c) ∧ W.cell? ⟨g7, 8, none⟩ = some (.slice y6.g.a y6.g.n y6.g.c) ∧ W.cell? ⟨g7, 9, none⟩ = some (.slice y6.e.a y6.e.n y6.e.c) ∧ W.cell? ⟨g7, 10, none⟩ = some (.slice y6.k.a y6.k.n y6.k.c)) ∧ (W.cell? ⟨w.heap.size, 0, none⟩ = some (.slice x0.p.a x0.p.n x0.p.c) ∧ W.cell? ⟨w.heap.size, 1, none⟩ = some (.int .i64 h0.n1) ∧ W.cell? ⟨w.heap.size, 2, none⟩ = some (.int .i64 h0.n2) ∧ W.cell? ⟨w.heap.size, 3, none⟩ = some (.int .i64 h0.n3) ∧ W.cell? ⟨w.heap.size, 4, none⟩ = some (.slice x0.t.a x0.t.n x0.t.c) ∧ W.cell? ⟨w.heap.size, 5, none⟩ = some (.int .i64 h0.n5) ∧ W.cell? ⟨w.heap.size, 6, none⟩ = some (.slice x0.s.a x0.s.n x0.s.c) ∧ W.cell? ⟨w.heap.size, 7, none⟩ = some (.slice x0.r.a x0.r.n x0.r.c) ∧ W.cell? ⟨w.heap.size, 8, none⟩ = some (.slice x0.g.a x0.g.n x0.g.c) ∧ W.cell? ⟨w.heap.size, 9, none⟩ = some (.slice x0.e.a x0.e.n x0.e.c) ∧ W.cell? ⟨w.heap.size, 10, none⟩ = some (.slice x0.k.a x0.k.n x0.k.c))) := fun W hb => by
    have B5 := (unhide HL10).trans (hb.mono (unhide HL10).size)
    exact ⟨hcells (k10.below hb k10.lt), (unhide HC0) W ((unhide K5).trans (B5.mono (unhide K5).size))⟩
  have HO10 := hide (fun (W : World) (hb : Below w10.heap.size w10 W) => o10.below hb (Nat.le_refl _))
  have HB10 := hide ((unhide HB5).trans ((unhide HL10).mono (unhide HB5).size))
  have HKG := hide kg10
  have HKK := hide k10
  have HQ10 := hide q10
  have HR10 := hide r10
  have HKW := hide kw
  have HR4 := hide R4
  clear kg k9 q9 o9 r9 RG9 RW9 p0 p1 s0 s1 b10 kg10 k10 q10 o10 r10 HL9 kw R4
  go_wp2_with fail
  go_region_held3 (fun W => (W.cell? ⟨g7, 0, none⟩ = some (.slice y6.p.a y6.p.n y6.p.c) ∧ W.cell? ⟨g7, 1, none⟩ = some (.int .i64 h0.n1) ∧ W.cell? ⟨g7, 2, none⟩ = some (.int .i64 h0.n2) ∧ W.cell? ⟨g7, 3, none⟩ = some (.int .i64 h0.n3) ∧ W.cell? ⟨g7, 4, none⟩ = some (.slice y6.t.a y6.t.n y6.t.c) ∧ W.cell? ⟨g7, 5, none⟩ = some (.int .i64 h0.n5) ∧ W.cell? ⟨g7, 6, none⟩ = some (.slice y6.s.a y6.s.n y6.s.c) ∧ W.cell? ⟨g7, 7, none⟩ = some (.slice y6.r.a y6.r.n y6.r.c) ∧ W.cell? ⟨g7, 8, none⟩ = some (.slice y6.g.a y6.g.n y6.g.c) ∧ W.cell? ⟨g7, 9, none⟩ = some (.slice y6.e.a y6.e.n y6.e.c) ∧ W.cell? ⟨g7, 10, none⟩ = some (.slice y6.k.a y6.k.n y6.k.c)) ∧ (W.cell? ⟨w.heap.size, 0, none⟩ = some (.slice x0.p.a x0.p.n x0.p.c) ∧ W.cell? ⟨w.heap.size, 1, none⟩ = some (.int .i64 h0.n1) ∧ W.cell? ⟨w.heap.size, 2, none⟩ = some (.int .i64 h0.n2) ∧ W.cell? ⟨w.heap.size, 3, none⟩ = some (.int .i64 h0.n3) ∧ W.cell? ⟨w.heap.size, 4, none⟩ = some (.slice x0.t.a x0.t.n x0.t.c) ∧ W.cell? ⟨w.heap.size, 5, none⟩ = some (.int .i64 h0.n5) ∧ W.cell? ⟨w.heap.size, 6, none⟩ = some (.slice x0.s.a x0.s.n x0.s.c) ∧ W.cell? ⟨w.heap.size, 7, none⟩ = some (.slice x0.r.a x0.r.n x0.r.c) ∧ W.cell? ⟨w.heap.size, 8, none⟩ = some (.slice x0.g.a x0.g.n x0.g.c) ∧ W.cell? ⟨w.heap.size, 9, none⟩ = some (.slice x0.e.a x0.e.n x0.e.c) ∧ W.cell? ⟨w.heap.size, 10, none⟩ = some (.slice x0.k.a x0.k.n x0.k.c)))
    (exact (unhide HRR) _ (by first | assumption | exact (Below.refl w10.heap.size w10).drew | exact below_drewN (Below.refl w10.heap.size w10) _ | exact below_drewN (by assumption) _))
    (first
      | (go_at_call 10; refine ((unhide T0) (unhide M) _ ((unhide HB10).trans (Below.mono (by first | exact (Below.refl w10.heap.size w10).drew | exact below_drewN (Below.refl w10.heap.size w10) _) (unhide HB10).size))).mono ?_; rintro e w11 ⟨y11, rfl, o11, _, _, b11⟩; have K11 : Below w10.heap.size w10 w11 := Below.trans (by first | exact (Below.refl w10.heap.size w10).drew | exact below_drewN (Below.refl w10.heap.size w10) _) (b11.mono (by first | exact Nat.le_refl _ | exact (below_drewN (Below.refl w10.heap.size w10) _).size)); clear b11)
      | (go_at_call 13; refine ((unhide EQC) (unhide M) y6 y11 _ ((unhide HO10) _ K11) o11).mono ?_; rintro e w12 ⟨rfl, b12⟩; have K12 : Below w10.heap.size w10 w12 := K11.trans (b12.mono K11.size)))
  all_goals
    clear HRR HO10 K11 b12 o11
    have HL12 := hide ((unhide HL10).trans (K12.mono (unhide HL10).size))
    have k12 := (unhide HKK).below K12 (unhide HKK).lt
    have kg12 := (unhide HKG).below K12 (unhide HKG).lt
    have q12 := (unhide HQ10).below K12 (Nat.le_refl _)
    have r12 := own_below (unhide HR10) K12 (Nat.le_refl _)
    obtain ⟨cu0, cu1, cu2, cu3, cu4, cu5, cu6, cu7, cu8, cu9, cu10⟩ := hcells k12
    clear HKK HKG HQ10 HR10 K12 HL10
    go_wp2_with fail
    refine ((unhide MK) (unhide M) (unhide TT) y6 _ _ _ q12 (Nat.le_of_lt k12.lt)).mono ?_
    rintro e w13 ⟨rfl, on13⟩
    have HL13 := hide ((unhide HL12).trans (on13.1.mono (by omega)))
    have kg13 := on13.sblk kg12 (by omega)
    have r13 := on13.own r12 (by omega)
    have kw13 := (unhide HKW).below (unhide HL13) (unhide HKW).lt
    have RW13 := (unhide HR4).below (unhide HL13) (Nat.le_refl _)
    have p0 := kw13.cell 0
    have p1 := kw13.cell 1
    have s0 := kg13.cell 0
    have s1 := kg13.cell 1
    simp only [List.getElem?_cons_zero, List.getElem?_cons_succ] at p0 p1 s0 s1
    have hk : decide ((1 + ((hTot h0 : Nat) : Int)) < 0) = false := decide_eq_false (by omega)
    clear cu0 cu1 cu2 cu3 cu4 cu5 cu6 cu7 cu8 cu9 cu10 kg12 q12 r12 k12 HL12 on13 kw13
    go_wp2_with fail
    clear p0 p1
    refine (eqBytes_same c a8 a4 L c8 c4 zs _ (BRow.own2 r13 (unhide HRG)) RW13 hL7).mono ?_
    rintro e w14 ⟨rfl, b14⟩
    have HL14 := hide ((unhide HL13).trans (b14.mono (unhide HL13).size))
    have kg14 := kg13.below b14 kg13.lt
    have r14 := own_below r13 b14 (Nat.le_refl _)
    have t0 := kg14.cell 0
    have t1 := kg14.cell 1
    simp only [List.getElem?_cons_zero, List.getElem?_cons_succ] at t0 t1
    clear s0 s1 kg13 r13 RW13 b14 HL13 hk
    go_wp2_with fail
    refine (markBytesResult_own W7.heap.size L c8 c a8 zs 1 _ r14 (by omega) (by omega) (by omega)).mono ?_
    rintro e w15 ⟨rfl, o15, g15⟩
    have u0 := g15.cell t0 (fun e => by have := (hg8 _ e.symm).2; exact absurd this (Nat.lt_irrefl _))
    have u1 := g15.cell t1 (fun e => by have := (hg8 _ e.symm).2; exact absurd this (Nat.lt_irrefl _))
    have HL15 := hide ((unhide HL14).grown g15 (unhide HL14).size (fun g hg => by have := (hg8 g hg).1; have := (unhide HW7).size; omega))
    have M15 := BRow.own2 o15 (marks_range 1 L)
    have s15 : gg < w15.heap.size := Nat.lt_of_lt_of_le kg14.lt g15.size
    clear t0 t1 kg14 r14 o15 HL14 g15
    go_wp2_with fail
    refine (heldBytesResult_any L c8 c a8 1 _ M15 (by omega) (by omega) (by omega)).mono ?_
    rintro e w16 ⟨rfl, b16⟩
    have HL16 := hide ((unhide HL15).trans (b16.mono (unhide HL15).size))
    have v0 := (b16.cell s15).trans u0
    have v1 := (b16.cell s15).trans u1
    have M16 := M15.below b16 (Nat.le_refl _)
    have s16 : gg < w16.heap.size := Nat.lt_of_lt_of_le s15 b16.size
    have hne : ((1 + (L : Int)) != 1 + (L : Int)) = false := by simp
    obtain ⟨cx0, cx1, cx2, cx3, cx4, cx5, cx6, cx7, cx8, cx9, cx10⟩ := (unhide HC0) _ ((unhide K5).trans ((unhide HL16).mono (unhide K5).size))
    clear u0 u1 M15 b16 HL15
    go_wp2_with fail
    refine ((unhide T0) (unhide M) _ ((unhide HB5).trans ((unhide HL16).mono (unhide HB5).size))).mono ?_
    rintro e w17 ⟨y17, rfl, o17, n17, _, b17⟩
    clear cx0 cx1 cx2 cx3 cx4 cx5 cx6 cx7 cx8 cx9 cx10
    unfold hvals
    go_wp2_with fail
    refine ((unhide IM) (unhide M) y17 _ o17 n17 ((unhide HV).below (((unhide HB5).trans ((unhide HL16).mono (unhide HB5).size)).trans (b17.mono ((unhide HB5).trans ((unhide HL16).mono (unhide HB5).size)).size)) (Nat.le_refl _))).mono ?_
    rintro e w18 ⟨a18, c18, rfl, r18, b18⟩
    have b168 := b17.trans (b18.mono b17.size)
    have HL18 := hide ((unhide HL16).trans (b168.mono (unhide HL16).size))
    have x0' := (b168.cell s16).trans v0
    have x1' := (b168.cell s16).trans v1
    have M18 := M16.below b168 (Nat.le_refl _)
    have s18 : gg < w18.heap.size := Nat.lt_of_lt_of_le s16 b168.size
    have kw18 := (unhide HKW).below (unhide HL18) (unhide HKW).lt
    have p0' : ∀ o, (w18.alloc o).cell? ⟨gw, 0, none⟩ = some (.int .i64 c) := fun o => ((below_alloc w18 o).cell kw18.lt).trans (by have := kw18.cell 0; simpa only [List.getElem?_cons_zero, List.getElem?_cons_succ] using this)
    have p1' : ∀ o, (w18.alloc o).cell? ⟨gw, 1, none⟩ = some (.slice a4 L c4) := fun o => ((below_alloc w18 o).cell kw18.lt).trans (by have := kw18.cell 1; simpa only [List.getElem?_cons_zero, List.getElem?_cons_succ] using this)
    clear v0 v1 M16 b17 b18 b168 HL16 o17 n17 kw18
    go_wp2_with fail
    clear p0' p1'
    obtain ⟨k19, s19, z0, z1⟩ := new2 w18 (.int .i64 c) (.slice a18 L c18) 28
    generalize w18.alloc (Obj.cells #[Value.int IntKind.i64 c, Value.slice a18 L c18] 28) = w19 at k19 s19 z0 z1
    have HL19 := hide ((unhide HL18).trans (k19.mono (unhide HL18).size))
    refine (eqBytes_same c a18 a4 L c18 c4 zs _ ((BRow.own2 r18 (unhide HRG)).below k19 (Nat.le_refl _)) ((unhide HR4).below (unhide HL19) (Nat.le_refl _)) hL7).mono ?_
    rintro e w20 ⟨rfl, b20⟩
    have k20 := k19.trans (b20.mono k19.size)
    have y0' := (k20.cell s18).trans x0'
    have y1' := (k20.cell s18).trans x1'
    have M20 := M18.below k20 (Nat.le_refl _)
    have HL20 := hide ((unhide HL18).trans (k20.mono (unhide HL18).size))
    clear x0' x1' M18 z0 z1
    go_wp2_with fail
    refine (heldBytesResult_any L c8 c a8 1 _ M20 (by omega) (by omega) (by omega)).mono ?_
    rintro e w21 ⟨rfl, b21⟩
    have HL21 := hide ((unhide HL20).trans (b21.mono (unhide HL20).size))
    go_wp2_with fail
    go_ret
    exact ⟨rfl, (unhide HB5).trans ((unhide HL21).mono (unhide HB5).size)⟩

/-! The row's step. -/
set_option maxRecDepth 100000 in
theorem lifted (os : Os) (started : os.Started) (H : Type) (enc : TypeId × Value → H) :
    ReturnsInHanded {} Tryd.checked os 4 .any (fun w args => (Rows.fnExactSealHashSpec.pre enc Tryd.prog Tryd.f4 [] false w args ∧ laidMetH Tryd.prog laid2 w) ∧ sizedMet enc Tryd.prog Tryd.f4 (OpenSpec.ofChange Rows.fnExactSealHashSpec) false w args)
      (Rows.fnExactSealHashSpec.post enc Tryd.prog Tryd.f4 false true false false) := by
  refine returnsInHanded_of_change_and (C := Tryd.checked) (X := fun w _ => laidMetH Tryd.prog laid2 w) (fun _ _ _ hh h => h.of_heap hh) own started (by kernel_rfl) Tryd.func4
    (ChangeSpec.witness_shaped (enc := enc) (C := Tryd.checked) (os := os) (X := fun w _ => laidMetH Tryd.prog laid2 w) false (World.doorLaid Tryd.prog 400 os) #[.agg #[.slice none 0 0, .int .i64 0, .int .i64 0, .int .i64 0, .slice none 0 0, .int .i64 0, .slice none 0 0, .slice none 0 0, .slice none 0 0, .slice none 0 0, .slice none 0 0]] 8 rfl (World.shaped_of_RefB (by kernel_rfl) (by kernel_rfl)) (by kernel_rfl) (by kernel_rfl) (by kernel_rfl) (door_met os _)) ?_
  intro W base args ds gs before hval0 hW _ _ hL _
  have hval : ∀ (j : Nat) t v, Tryd.f4.params[j]? = some t → args[j]? = some v → Value.okWide Tryd.prog W .any base t v := hval0
  have hW' := hW
  obtain ⟨p, q, hA0, hV, rfl, hfz, hnd⟩ := hW
  have hA : DataW.TrodAll enc Tryd.prog W 0 (fun _ => true) true Tryd.f4.params.toList args.toList ds p := hA0
  rw [Tryd.params4] at hA hval
  obtain ⟨v0, vs0, d0, ds0, p0, q0, hargs, rfl, rfl, h0, r0⟩ := trodAll_cons hA
  obtain ⟨rfl, rfl, rfl⟩ := trodAll_nil r0
  obtain rfl : args = #[v0] := by cases args; simp_all
  obtain ⟨y0v, y1v, rfl⟩ : ∃ y0 y1, gs = [y0, y1] := by
    match gs, hV with
    | [y0, y1], _ => exact ⟨y0, y1, rfl⟩
    | [], hV => exact hV.elim
    | [_], hV => obtain ⟨_, _, _, _, _, _, _, _, _, _, hs, _⟩ := hV; exact hs.elim
    | _ :: _ :: _ :: _, hV =>
      obtain ⟨_, _, _, _, _, _, _, _, _, _, hs, _⟩ := hV
      obtain ⟨_, _, _, _, _, _, _, _, _, _, hs2, _⟩ := hs
      exact hs2.elim
  have k0 := h0
  have lt0 : ∀ x ∈ p0, x.block < W.heap.size := by obtain ⟨m, hm⟩ := k0; exact DataW.trod_lt m _ _ _ hm
  obtain ⟨x0, y0, rfl, w0, m0, i0⟩ := open_header Tryd.underlying25 rfl (by kernel_rfl) ⟨rfl, rfl, rfl, rfl, rfl, rfl, rfl, rfl, rfl, rfl, rfl⟩ ⟨rfl, rfl, rfl, rfl, rfl, rfl, rfl, rfl, rfl, rfl, rfl⟩ Tryd.underlying22 Tryd.underlying5 Tryd.underlying2 Tryd.underlying23 (by kernel_rfl) (by kernel_rfl) (by kernel_rfl) (by kernel_rfl) (okWide_struct Tryd.underlying25 (hval 0 25 v0 rfl rfl)) h0
  clear hA0 hval0
  refine (walk x0 y0 W m0 w0 i0 (of_laid hL)).mono fun e W' ⟨he, bel⟩ => ?_
  subst he
  exact ⟨_, rfl, _, _, _, [], _, _, hW', trodAll_mk1 (shut_bool Tryd.underlying4 _), (trodAll_cons_mk (Below.trod laidOut (by kernel_rfl) (of_decide_eq_true (by kernel_rfl)) k0 bel lt0) trodAll_mk0), Below.trodVars laidOut bel (by kernel_rfl) hV, bel.frame _, fun h => by cases h⟩

theorem over : Rows.FnExactSealHashSaid :=
  OpenClaim.holds_of_wide 4 Tryd.f4 rfl rfl rfl rfl rfl rfl rfl ⟨rfl, rfl, rfl, rfl, rfl⟩ rfl rfl rfl rfl rfl (by kernel_rfl) Tryd.func4 (by kernel_rfl)
    (of_decide_eq_true (by kernel_rfl)) (by unfold Func.isWrapper; first | (rw [if_pos (by decide +kernel)]; kernel_rfl) | (rw [if_neg (by decide +kernel)]; exact ⟨rfl, rfl⟩))
    (fun os started H enc _ => lifted os started H enc)

/-- The statement: the tied card. -/
theorem proved : Rows.FnExactSealHashCardSaid :=
  Claim7.holds_tied_plain_at .later [] [.data, .data] true (true, "c4363c0b734e90b220c868ce2a1ed21bff34629fef80a1c44f6f4e19ff8a53db") false
    over (fun _ h => by cases h) (by kernel_rfl) (fun _ h => by cases h) fnExactSealHash_row_tie rfl ⟨rfl, rfl⟩ (by kernel_rfl) rfl
    (fun f fn hf hfn => by
      obtain rfl : f = 4 := Option.some.inj ((show Tryd.prog.funcNamed "loop.example/g00383/laws.FnExactSealHash" = some 4 by kernel_rfl).symm.trans hf) |>.symm
      obtain rfl : fn = Tryd.f4 := (Option.some.inj (Tryd.func4.symm.trans hfn)).symm
      exact ⟨by kernel_rfl, fun j t ht => by
        rw [Tryd.params4] at ht
        have hm : t ∈ [25] := by simpa using Array.mem_of_getElem? ht
        have hall : ([25].all fun u => !Tryd.prog.wantsStandIn u) = true := by kernel_rfl
        exact (show Tryd.prog.wantsStandIn t = false by simpa using List.all_eq_true.1 hall t hm)⟩)
    (by kernel_rfl)
#print axioms proved
end Go.Proofs.YtbncoiljklagkaaDoor.fnExactSealHash
