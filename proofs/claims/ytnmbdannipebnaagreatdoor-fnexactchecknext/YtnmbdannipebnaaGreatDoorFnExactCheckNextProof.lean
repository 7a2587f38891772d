/- Proved: for every setting, snapshot and two headers the law FnExactCheckNext returns true and changes no argument. Conditions: the three variables hold what the program's text lays. -/
import Derived.Test.YtnmbdannipebnaaGreatDoorRows
import Derived.Test.YtnmbdannipebnaaGreatDoorTie
import Derived.Test.YtnmbdannipebnaaGreatDoorCards
import Derived.Test.YtnmbdannipebnaaGreatDoorJ2
import Derived.Test.YtnmbdannipebnaaGreatDoorJ4
import Derived.Test.YtnmbdannipebnaaGreatDoorJ28
import Derived.Test.YtnmbdannipebnaaGreatDoorJ29
import Derived.Test.YtnmbdannipebnaaGreatDoorJ30
import Derived.WalkSmall
import Derived.Deep.MidRow
import Derived.Deep.RegionHeld3
import Derived.WalkKit
import Derived.ProofKit
import Derived.OpenShut
import Derived.ShutString
import Derived.ChangeOld
import Derived.Below
import Derived.OpenVars
import Derived.LaidMore
import Derived.Stop.Joined
import Derived.SevenTiedAt
namespace Go.Proofs.YtnmbdannipebnaaGreatDoor.fnExactCheckNext
open Go.ChangeShapes Go.WideShapes Go.ChangeAt Go.RowKit
set_option linter.unusedVariables false

theorem own : ownKnob Tryz.prog.godebug = none := by kernel_rfl
theorem laidOut : laidOutB Tryz.prog = true := by kernel_rfl

/-! The walk: the Go text returns true, and writes nothing that was there. -/
set_option maxRecDepth 100000 in
set_option maxHeartbeats 16000000 in
theorem walk (x0 : Cf) (x1 : SnS) (y1 : Sn) (x2 : HS) (h2 : Hd) (x3 : HS) (h3 : Hd) (w : World) (o1 : SNK.Ok w x1 y1) (m2 : HMax x2 maxLen) (w2 : HOk w x2 h2) (i2 : HIn h2) (m3 : HMax x3 maxLen) (w3 : HOk w x3 h3) (i3 : HIn h3) (VV : Laid w) (VE : LaidE w) :
    Calls Tryz.prog 3 #[.agg (cfvals x0), .agg (snvals x1 y1), .agg (hvals x2 h2), .agg (hvals x3 h3)] w fun e w' => e = .returned (.bool true) ∧ Below w.heap.size w w' := by
  have k0 := (((SBlk.new w (cfvals x0) 23).next (.cells (snvals x1 y1) 28)).next (.cells (hvals x2 h2) 31)).next (.cells (hvals x3 h3) 31)
  have k1 := ((SBlk.new (w.alloc (.cells (cfvals x0) 23)) (snvals x1 y1) 28).next (.cells (hvals x2 h2) 31)).next (.cells (hvals x3 h3) 31)
  have k2 := (SBlk.new ((w.alloc (.cells (cfvals x0) 23)).alloc (.cells (snvals x1 y1) 28)) (hvals x2 h2) 31).next (.cells (hvals x3 h3) 31)
  have k3 := SBlk.new (((w.alloc (.cells (cfvals x0) 23)).alloc (.cells (snvals x1 y1) 28)).alloc (.cells (hvals x2 h2) 31)) (hvals x3 h3) 31
  have bb : Below w.heap.size w ((((w.alloc (.cells (cfvals x0) 23)).alloc (.cells (snvals x1 y1) 28)).alloc (.cells (hvals x2 h2) 31)).alloc (.cells (hvals x3 h3) 31)) := bAl (bAl (bAl (bAl (Below.refl _ _) _) _) _) _
  rw [show (w.alloc (.cells (cfvals x0) 23)).heap.size = w.heap.size + 1 by simp] at k1
  rw [show ((w.alloc (.cells (cfvals x0) 23)).alloc (.cells (snvals x1 y1) 28)).heap.size = w.heap.size + 1 + 1 by simp] at k2
  rw [show (((w.alloc (.cells (cfvals x0) 23)).alloc (.cells (snvals x1 y1) 28)).alloc (.cells (hvals x2 h2) 31)).heap.size = w.heap.size + 1 + 1 + 1 by simp] at k3
  obtain ⟨V0, e0⟩ : ∃ W, (((w.alloc (.cells (cfvals x0) 23)).alloc (.cells (snvals x1 y1) 28)).alloc (.cells (hvals x2 h2) 31)).alloc (.cells (hvals x3 h3) 31) = W := ⟨_, rfl⟩
  rw [e0] at k0 k1 k2 k3 bb
  have HA : Hid (∀ W, Below V0.heap.size V0 W → W.cell? ⟨w.heap.size, 0, none⟩ = some (.int .i64 x0.1) ∧ W.cell? ⟨w.heap.size, 1, none⟩ = some (.int .i64 x0.2.1) ∧ W.cell? ⟨w.heap.size, 2, none⟩ = some (.int .i64 x0.2.2) ∧ W.cell? ⟨w.heap.size + 1, 0, none⟩ = some (.int .i64 y1.1) ∧ W.cell? ⟨w.heap.size + 1, 1, none⟩ = some (.slice x1.2.1.a x1.2.1.n x1.2.1.c) ∧ W.cell? ⟨w.heap.size + 1, 2, none⟩ = some (.slice x1.2.2.1.a x1.2.2.1.n x1.2.2.1.c) ∧ W.cell? ⟨w.heap.size + 1, 3, none⟩ = some (.slice x1.2.2.2.a x1.2.2.2.n x1.2.2.2.c) ∧ W.cell? ⟨w.heap.size + 1 + 1, 0, none⟩ = some (.slice x2.p.a x2.p.n x2.p.c) ∧ W.cell? ⟨w.heap.size + 1 + 1, 1, none⟩ = some (.int .i64 h2.n1) ∧ W.cell? ⟨w.heap.size + 1 + 1, 2, none⟩ = some (.int .i64 h2.n2) ∧ W.cell? ⟨w.heap.size + 1 + 1, 3, none⟩ = some (.int .i64 h2.n3) ∧ W.cell? ⟨w.heap.size + 1 + 1, 4, none⟩ = some (.slice x2.t.a x2.t.n x2.t.c) ∧ W.cell? ⟨w.heap.size + 1 + 1, 5, none⟩ = some (.int .i64 h2.n5) ∧ W.cell? ⟨w.heap.size + 1 + 1, 6, none⟩ = some (.slice x2.s.a x2.s.n x2.s.c) ∧ W.cell? ⟨w.heap.size + 1 + 1, 7, none⟩ = some (.slice x2.r.a x2.r.n x2.r.c) ∧ W.cell? ⟨w.heap.size + 1 + 1, 8, none⟩ = some (.slice x2.g.a x2.g.n x2.g.c) ∧ W.cell? ⟨w.heap.size + 1 + 1, 9, none⟩ = some (.slice x2.e.a x2.e.n x2.e.c) ∧ W.cell? ⟨w.heap.size + 1 + 1, 10, none⟩ = some (.slice x2.k.a x2.k.n x2.k.c) ∧ W.cell? ⟨w.heap.size + 1 + 1 + 1, 0, none⟩ = some (.slice x3.p.a x3.p.n x3.p.c) ∧ W.cell? ⟨w.heap.size + 1 + 1 + 1, 1, none⟩ = some (.int .i64 h3.n1) ∧ W.cell? ⟨w.heap.size + 1 + 1 + 1, 2, none⟩ = some (.int .i64 h3.n2) ∧ W.cell? ⟨w.heap.size + 1 + 1 + 1, 3, none⟩ = some (.int .i64 h3.n3) ∧ W.cell? ⟨w.heap.size + 1 + 1 + 1, 4, none⟩ = some (.slice x3.t.a x3.t.n x3.t.c) ∧ W.cell? ⟨w.heap.size + 1 + 1 + 1, 5, none⟩ = some (.int .i64 h3.n5) ∧ W.cell? ⟨w.heap.size + 1 + 1 + 1, 6, none⟩ = some (.slice x3.s.a x3.s.n x3.s.c) ∧ W.cell? ⟨w.heap.size + 1 + 1 + 1, 7, none⟩ = some (.slice x3.r.a x3.r.n x3.r.c) ∧ W.cell? ⟨w.heap.size + 1 + 1 + 1, 8, none⟩ = some (.slice x3.g.a x3.g.n x3.g.c) ∧ W.cell? ⟨w.heap.size + 1 + 1 + 1, 9, none⟩ = some (.slice x3.e.a x3.e.n x3.e.c) ∧ W.cell? ⟨w.heap.size + 1 + 1 + 1, 10, none⟩ = some (.slice x3.k.a x3.k.n x3.k.c)) := fun W hb => by
    have q := And.intro (k0.below hb k0.lt) (And.intro (k1.below hb k1.lt) (And.intro (k2.below hb k2.lt) (k3.below hb k3.lt)))
    exact ⟨q.1.cell 0, q.1.cell 1, q.1.cell 2, q.2.1.cell 0, q.2.1.cell 1, q.2.1.cell 2, q.2.1.cell 3, q.2.2.1.cell 0, q.2.2.1.cell 1, q.2.2.1.cell 2, q.2.2.1.cell 3, q.2.2.1.cell 4, q.2.2.1.cell 5, q.2.2.1.cell 6, q.2.2.1.cell 7, q.2.2.1.cell 8, q.2.2.1.cell 9, q.2.2.1.cell 10, q.2.2.2.cell 0, q.2.2.2.cell 1, q.2.2.2.cell 2, q.2.2.2.cell 3, q.2.2.2.cell 4, q.2.2.2.cell 5, q.2.2.2.cell 6, q.2.2.2.cell 7, q.2.2.2.cell 8, q.2.2.2.cell 9, q.2.2.2.cell 10⟩
  have HV := hide (And.intro VV VE)
  have HB0 := hide bb
  have Z1 := hide (fun (W : World) (hb : Below w.heap.size w W) (L : Int) (h0 : 0 ≤ L) (h1 : L ≤ 1048576) => szSnap_any x1 y1 L W (SNK.below o1 hb (Nat.le_refl _)) h0 h1)
  have S1 := hide (fun (L : Int) (h : 0 ≤ szOf L (snSz y1)) (hL : L ≤ 1048576) => (snSm_of (by have := szOf_ok h; omega) : SnSm y1))
  have Z2 := hide (fun (r : Int) (W : World) (hb : Below w.heap.size w W) (q0 : 0 ≤ r) (q1 : r ≤ 1048576) => szHeader_tot x2 h2 r W (w2.below hb (Nat.le_refl _)) m2 q0 q1)
  have Z3 := hide (fun (r : Int) (W : World) (hb : Below w.heap.size w W) (q0 : 0 ≤ r) (q1 : r ≤ 1048576) => szHeader_tot x3 h3 r W (w3.below hb (Nat.le_refl _)) m3 q0 q1)
  have TC := hide (fun (W : World) => toConfig_any x0 W)
  have TS : Hid (SnSm y1 → ∀ W, Below w.heap.size w W → Calls Tryz.prog 9 #[.agg (snvals x1 y1)] W fun r w' => ∃ e', r = .returned (.agg (snvals e' y1)) ∧ SNK.Ok w' e' y1 ∧ Below W.heap.size W w') := fun m W hb => (toSnap_kd [] x1 y1 W (SNK.below o1 hb (Nat.le_refl _)) m).mono fun r w' ⟨e', d, q1, q2, q3⟩ => ⟨e', q1, SNK.ok q2, q3⟩
  have T2 := hide (fun (m : HSm h2) (W : World) (hb : Below w.heap.size w W) => toHeader_kd x2 h2 W (w2.below hb (Nat.le_refl _)) m)
  have T3 := hide (fun (m : HSm h3) (W : World) (hb : Below w.heap.size w W) => toHeader_kd x3 h3 W (w3.below hb (Nat.le_refl _)) m)
  have QS : Hid (SnSm y1 → ∀ (e f : SnS) (W : World), SNK.Ok W e y1 → SNK.Ok W f y1 → Calls Tryz.prog 12 #[.agg (snvals e y1), .agg (snvals f y1)] W fun r w' => r = .returned (.bool true) ∧ Below W.heap.size W w') := fun m e f W o q => by
    have h := eqSnap_any e f y1 y1 W o q m m
    rw [snSame_self] at h
    exact h
  have Q2 := hide (fun (m : HSm h2) (y z : HS) (W : World) (o : HOk W y h2) (q : HOk W z h2) => eqHeader_same y z h2 W o q m)
  have Q3 := hide (fun (m : HSm h3) (y z : HS) (W : World) (o : HOk W y h3) (q : HOk W z h3) => eqHeader_same y z h3 W o q m)
  have SPC := hide (fun (e : SnS) (px nx : HS) (W : World) (o : StOk W e y1 px h2 nx h3) => specCheck_any x0 e y1 px h2 nx h3 W o)
  have IMC := hide (fun (e : SnS) (px nx : HS) (W : World) (o : StOk W e y1 px h2 nx h3) => implCheck_any x0 e y1 px h2 nx h3 W o)
  generalize ckCode x0 y1 h2 h3 = cc at SPC IMC
  have hq : (cc != cc) = false := by simp
  have E0 := hide e0
  obtain ⟨c0, c1, c2, s0, s1, s2, s3, p0, p1, p2, p3, p4, p5, p6, p7, p8, p9, p10, n0, n1, n2, n3, n4, n5, n6, n7, n8, n9, n10⟩ := (unhide HA) V0 (Below.refl _ _)
  clear e0 k0 k1 k2 k3 bb VV VE o1 m2 w2 i2 m3 w3 i3
  unfold cfvals at E0 TC SPC IMC ⊢
  unfold snvals at E0 ⊢
  unfold hvals at E0 ⊢
  go_enter Tryz.func3, Tryz.ntmps3
  go_upto_region 1 with fail
  rw [unhide E0]
  clear E0
  have Z := hide ((unhide Z1) V0 (unhide HB0) 1048576 (by omega) (by omega))
  unfold snvals at Z
  go_wp2_with fail
  refine (unhide Z).mono ?_
  rintro r w1 ⟨rfl, b1⟩
  have K1 := hide b1
  have HB1 := hide ((unhide HB0).trans (b1.mono (unhide HB0).size))
  clear b1 Z Z1 c0 c1 c2 s0 s1 s2 s3 p0 p1 p2 p3 p4 p5 p6 p7 p8 p9 p10 n0 n1 n2 n3 n4 n5 n6 n7 n8 n9 n10
  obtain ⟨L1, eL⟩ : ∃ L, L = szOf 1048576 (snSz y1) := ⟨_, rfl⟩
  have HL := hide eL
  rw [← eL]
  clear eL
  by_cases n1 : L1 < 0
  · have hd : decide (L1 < 0) = true := decide_eq_true n1
    go_wp2_with fail
    go_ret
    exact ⟨rfl, unhide HB1⟩
  have M1 := hide ((unhide S1) 1048576 (by rw [← unhide HL]; omega) (by omega))
  have l1 : L1 ≤ 1048576 := by rw [unhide HL]; unfold szOf; split <;> omega
  have hd : decide (L1 < 0) = false := decide_eq_false n1
  have Z := hide ((unhide Z2) L1 w1 (unhide HB1) (by omega) l1)
  clear HL S1 n1 Z2
  obtain ⟨c0, c1, c2, s0, s1, s2, s3, p0, p1, p2, p3, p4, p5, p6, p7, p8, p9, p10, n0, n1, n2, n3, n4, n5, n6, n7, n8, n9, n10⟩ := (unhide HA) w1 (unhide K1)
  unfold hvals at Z
  go_wp2_with fail
  refine (unhide Z).mono ?_
  rintro r w2 ⟨⟨r2, rfl, hr0, hru, hsm⟩, b2⟩
  have K2 := hide (bStep (unhide K1) b2)
  have HB2 := hide ((unhide HB1).trans (b2.mono (unhide HB1).size))
  have HSM := hide hsm
  clear b2 Z hsm hd c0 c1 c2 s0 s1 s2 s3 p0 p1 p2 p3 p4 p5 p6 p7 p8 p9 p10 n0 n1 n2 n3 n4 n5 n6 n7 n8 n9 n10
  by_cases n2 : r2 < 0
  · have hd : decide (r2 < 0) = true := decide_eq_true n2
    go_wp2_with fail
    go_ret
    exact ⟨rfl, unhide HB2⟩
  have M2 := hide ((unhide HSM) (by omega)).1
  have hd : decide (r2 < 0) = false := decide_eq_false n2
  have Z := hide ((unhide Z3) r2 w2 (unhide HB2) (by omega) (by omega))
  have l2 : r2 ≤ 1048576 := by omega
  clear HSM n2 Z3 K1 HB1 hr0 hru l1
  obtain ⟨c0, c1, c2, s0, s1, s2, s3, p0, p1, p2, p3, p4, p5, p6, p7, p8, p9, p10, n0, n1, n2, n3, n4, n5, n6, n7, n8, n9, n10⟩ := (unhide HA) w2 (unhide K2)
  unfold hvals at Z
  go_wp2_with fail
  refine (unhide Z).mono ?_
  rintro r w3 ⟨⟨r3, rfl, hr0, hru, hsm⟩, b3⟩
  have K3 := hide (bStep (unhide K2) b3)
  have HB3 := hide ((unhide HB2).trans (b3.mono (unhide HB2).size))
  have HSM := hide hsm
  clear b3 Z hsm hd c0 c1 c2 s0 s1 s2 s3 p0 p1 p2 p3 p4 p5 p6 p7 p8 p9 p10 n0 n1 n2 n3 n4 n5 n6 n7 n8 n9 n10
  by_cases n3' : r3 < 0
  · have hd : decide (r3 < 0) = true := decide_eq_true n3'
    go_wp2_with fail
    go_ret
    exact ⟨rfl, unhide HB3⟩
  have M3 := hide ((unhide HSM) (by omega)).1
  have hd : decide (r3 < 0) = false := decide_eq_false n3'
  clear HSM n3' K2 HB2 hr0 hru
  obtain ⟨c0, c1, c2, s0, s1, s2, s3, p0, p1, p2, p3, p4, p5, p6, p7, p8, p9, p10, n0, n1, n2, n3, n4, n5, n6, n7, n8, n9, n10⟩ := (unhide HA) w3 (unhide K3)
  clear c0 c1 c2 s0 s1 s2 s3 p0 p1 p2 p3 p4 p5 p6 p7 p8 p9 p10 n0 n1 n2 n3 n4 n5 n6 n7 n8 n9 n10
  go_wp2_with fail
  go_region_held3 (fun W => W.cell? ⟨w.heap.size, 0, none⟩ = some (.int .i64 x0.1) ∧ W.cell? ⟨w.heap.size, 1, none⟩ = some (.int .i64 x0.2.1) ∧ W.cell? ⟨w.heap.size, 2, none⟩ = some (.int .i64 x0.2.2) ∧ W.cell? ⟨w.heap.size + 1, 0, none⟩ = some (.int .i64 y1.1) ∧ W.cell? ⟨w.heap.size + 1, 1, none⟩ = some (.slice x1.2.1.a x1.2.1.n x1.2.1.c) ∧ W.cell? ⟨w.heap.size + 1, 2, none⟩ = some (.slice x1.2.2.1.a x1.2.2.1.n x1.2.2.1.c) ∧ W.cell? ⟨w.heap.size + 1, 3, none⟩ = some (.slice x1.2.2.2.a x1.2.2.2.n x1.2.2.2.c) ∧ W.cell? ⟨w.heap.size + 1 + 1, 0, none⟩ = some (.slice x2.p.a x2.p.n x2.p.c) ∧ W.cell? ⟨w.heap.size + 1 + 1, 1, none⟩ = some (.int .i64 h2.n1) ∧ W.cell? ⟨w.heap.size + 1 + 1, 2, none⟩ = some (.int .i64 h2.n2) ∧ W.cell? ⟨w.heap.size + 1 + 1, 3, none⟩ = some (.int .i64 h2.n3) ∧ W.cell? ⟨w.heap.size + 1 + 1, 4, none⟩ = some (.slice x2.t.a x2.t.n x2.t.c) ∧ W.cell? ⟨w.heap.size + 1 + 1, 5, none⟩ = some (.int .i64 h2.n5) ∧ W.cell? ⟨w.heap.size + 1 + 1, 6, none⟩ = some (.slice x2.s.a x2.s.n x2.s.c) ∧ W.cell? ⟨w.heap.size + 1 + 1, 7, none⟩ = some (.slice x2.r.a x2.r.n x2.r.c) ∧ W.cell? ⟨w.heap.size + 1 + 1, 8, none⟩ = some (.slice x2.g.a x2.g.n x2.g.c) ∧ W.cell? ⟨w.heap.size + 1 + 1, 9, none⟩ = some (.slice x2.e.a x2.e.n x2.e.c) ∧ W.cell? ⟨w.heap.size + 1 + 1, 10, none⟩ = some (.slice x2.k.a x2.k.n x2.k.c) ∧ W.cell? ⟨w.heap.size + 1 + 1 + 1, 0, none⟩ = some (.slice x3.p.a x3.p.n x3.p.c) ∧ W.cell? ⟨w.heap.size + 1 + 1 + 1, 1, none⟩ = some (.int .i64 h3.n1) ∧ W.cell? ⟨w.heap.size + 1 + 1 + 1, 2, none⟩ = some (.int .i64 h3.n2) ∧ W.cell? ⟨w.heap.size + 1 + 1 + 1, 3, none⟩ = some (.int .i64 h3.n3) ∧ W.cell? ⟨w.heap.size + 1 + 1 + 1, 4, none⟩ = some (.slice x3.t.a x3.t.n x3.t.c) ∧ W.cell? ⟨w.heap.size + 1 + 1 + 1, 5, none⟩ = some (.int .i64 h3.n5) ∧ W.cell? ⟨w.heap.size + 1 + 1 + 1, 6, none⟩ = some (.slice x3.s.a x3.s.n x3.s.c) ∧ W.cell? ⟨w.heap.size + 1 + 1 + 1, 7, none⟩ = some (.slice x3.r.a x3.r.n x3.r.c) ∧ W.cell? ⟨w.heap.size + 1 + 1 + 1, 8, none⟩ = some (.slice x3.g.a x3.g.n x3.g.c) ∧ W.cell? ⟨w.heap.size + 1 + 1 + 1, 9, none⟩ = some (.slice x3.e.a x3.e.n x3.e.c) ∧ W.cell? ⟨w.heap.size + 1 + 1 + 1, 10, none⟩ = some (.slice x3.k.a x3.k.n x3.k.c))
    (exact (unhide HA) _ (bStep (unhide K3) (by first | (with_reducible assumption) | exact (Below.refl _ _).drew | exact below_drewN (Below.refl _ _) _ | exact Below.refl _ _ | exact below_drewN (by assumption) _)))
    (first
      | (go_at_call 8; refine ((unhide TC) _).mono ?_; rintro r w4 ⟨rfl, b4⟩; have J4 : Below w3.heap.size w3 w4 := bStep (by first | exact (Below.refl _ _).drew | exact below_drewN (Below.refl _ _) _) b4; clear b4)
      | (go_at_call 9; refine ((unhide TS) (unhide M1) _ (bStep (unhide HB3) J4)).mono ?_; rintro r w5 ⟨e5, rfl, s5, b5⟩; have J5 := bStep J4 b5; clear b5)
      | (go_at_call_of 10 x2.p.c; refine ((unhide T2) (unhide M2) _ (bStep (unhide HB3) J5)).mono ?_; rintro r w6 ⟨y6, rfl, p6, b6⟩; have s6 := SNK.below s5 b6 (Nat.le_refl _); have J6 := bStep J5 b6; clear b6)
      | (go_at_call_of 10 x3.p.c; refine ((unhide T3) (unhide M3) _ (bStep (unhide HB3) J6)).mono ?_; rintro r w7 ⟨y7, rfl, n7', b7⟩; have s7' := SNK.below s6 b7 (Nat.le_refl _); have p7' := p6.below b7 (Nat.le_refl _); have J7 := bStep J6 b7; clear b7)
      | (go_at_call 7; refine ((unhide SPC) e5 y6 y7 _ ⟨s7', p7', n7', (unhide HV).1.below (bStep (unhide HB3) J7) (Nat.le_refl _), (unhide HV).2.below (bStep (unhide HB3) J7) (Nat.le_refl _), unhide M1, unhide M2, unhide M3⟩).mono ?_; rintro r w8 ⟨rfl, b8⟩; have J8 := bStep J7 b8))
  have K8 := hide (bStep (unhide K3) J8)
  have HB8 := hide (bStep (unhide HB3) J8)
  clear b8 J4 J5 J6 J7 J8 s5 s6 s7' p6 p7' n7' K3 HB3 SPC
  obtain ⟨c0, c1, c2, s0, s1, s2, s3, p0, p1, p2, p3, p4, p5, p6, p7, p8, p9, p10, n0, n1, n2, n3, n4, n5, n6, n7, n8, n9, n10⟩ := (unhide HA) w8 (unhide K8)
  go_wp2_with fail
  refine ((unhide TS) (unhide M1) _ (unhide HB8)).mono ?_
  rintro r w9 ⟨e9, rfl, s9', b9⟩
  have kx1 := SBlk.new w9 (snvals e9 y1) 40
  have bx := below_alloc w9 (.cells (snvals e9 y1) 40)
  obtain ⟨X1, ex⟩ : ∃ W, w9.alloc (.cells (snvals e9 y1) 40) = W := ⟨_, rfl⟩
  rw [ex] at kx1 bx
  have sX1 := SNK.below s9' bx (Nat.le_refl _)
  have KX1 := hide (bStep (bStep (unhide K8) b9) bx)
  have HBX1 := hide (bStep (bStep (unhide HB8) b9) bx)
  clear c0 c1 c2 s0 s1 s2 s3 p0 p1 p2 p3 p4 p5 p6 p7 p8 p9 p10 n0 n1 n2 n3 n4 n5 n6 n7 n8 n9 n10 b9 bx s9' K8 HB8
  unfold snvals at ex ⊢
  have EX := hide ex
  clear ex
  go_upto_region 13 with fail
  rw [unhide EX]
  clear EX
  obtain ⟨g1, hg⟩ : ∃ g, g = w9.heap.size := ⟨_, rfl⟩
  rw [← hg] at kx1 ⊢
  clear hg
  obtain ⟨c0, c1, c2, s0, s1, s2, s3, p0, p1, p2, p3, p4, p5, p6, p7, p8, p9, p10, n0, n1, n2, n3, n4, n5, n6, n7, n8, n9, n10⟩ := (unhide HA) X1 (unhide KX1)
  go_wp2_with fail
  refine ((unhide T2) (unhide M2) _ (unhide HBX1)).mono ?_
  rintro r w10 ⟨y10, rfl, p10', b10⟩
  have kx2 := SBlk.new w10 (hvals y10 h2) 42
  have bx := below_alloc w10 (.cells (hvals y10 h2) 42)
  obtain ⟨X2, ex⟩ : ∃ W, w10.alloc (.cells (hvals y10 h2) 42) = W := ⟨_, rfl⟩
  rw [ex] at kx2 bx
  have b12 := bStep b10 bx
  replace sX1 := SNK.below sX1 b12 (Nat.le_refl _)
  replace kx1 := kx1.below b12 kx1.lt
  have pX2 := p10'.below bx (Nat.le_refl _)
  have KX2 := hide (bStep (unhide KX1) b12)
  have HBX2 := hide (bStep (unhide HBX1) b12)
  clear c0 c1 c2 s0 s1 s2 s3 p0 p1 p2 p3 p4 p5 p6 p7 p8 p9 p10 n0 n1 n2 n3 n4 n5 n6 n7 n8 n9 n10 b10 bx b12 p10' KX1 HBX1
  unfold hvals at ex ⊢
  have EX := hide ex
  clear ex
  go_upto_region 14 with fail
  rw [unhide EX]
  clear EX
  obtain ⟨g2, hg⟩ : ∃ g, g = w10.heap.size := ⟨_, rfl⟩
  rw [← hg] at kx2 ⊢
  clear hg
  obtain ⟨c0, c1, c2, s0, s1, s2, s3, p0, p1, p2, p3, p4, p5, p6, p7, p8, p9, p10, n0, n1, n2, n3, n4, n5, n6, n7, n8, n9, n10⟩ := (unhide HA) X2 (unhide KX2)
  go_wp2_with fail
  refine ((unhide T3) (unhide M3) _ (unhide HBX2)).mono ?_
  rintro r w11 ⟨y11, rfl, n11', b11⟩
  have kx3 := SBlk.new w11 (hvals y11 h3) 42
  have bx := below_alloc w11 (.cells (hvals y11 h3) 42)
  obtain ⟨X3, ex⟩ : ∃ W, w11.alloc (.cells (hvals y11 h3) 42) = W := ⟨_, rfl⟩
  rw [ex] at kx3 bx
  have b12 := bStep b11 bx
  have HO : Hid (StOk X3 e9 y1 y10 h2 y11 h3) := ⟨SNK.below sX1 b12 (Nat.le_refl _), pX2.below b12 (Nat.le_refl _), n11'.below bx (Nat.le_refl _), (unhide HV).1.below (bStep (unhide HBX2) b12) (Nat.le_refl _), (unhide HV).2.below (bStep (unhide HBX2) b12) (Nat.le_refl _), unhide M1, unhide M2, unhide M3⟩
  replace kx1 := kx1.below b12 kx1.lt
  replace kx2 := kx2.below b12 kx2.lt
  have KX3 := hide (bStep (unhide KX2) b12)
  have HBX3 := hide (bStep (unhide HBX2) b12)
  clear c0 c1 c2 s0 s1 s2 s3 p0 p1 p2 p3 p4 p5 p6 p7 p8 p9 p10 n0 n1 n2 n3 n4 n5 n6 n7 n8 n9 n10 b11 bx b12 n11' pX2 sX1 KX2 HBX2
  unfold hvals at ex ⊢
  have EX := hide ex
  clear ex
  go_upto_region 15 with fail
  rw [unhide EX]
  clear EX
  obtain ⟨g3, hg⟩ : ∃ g, g = w11.heap.size := ⟨_, rfl⟩
  rw [← hg] at kx3 ⊢
  clear hg
  have HG1 : Hid (∀ W, Below X3.heap.size X3 W → W.cell? ⟨g1, 0, none⟩ = some (.int .i64 y1.1) ∧ W.cell? ⟨g1, 1, none⟩ = some (.slice e9.2.1.a e9.2.1.n e9.2.1.c) ∧ W.cell? ⟨g1, 2, none⟩ = some (.slice e9.2.2.1.a e9.2.2.1.n e9.2.2.1.c) ∧ W.cell? ⟨g1, 3, none⟩ = some (.slice e9.2.2.2.a e9.2.2.2.n e9.2.2.2.c)) := fun W hb => by
    have q := kx1.below hb kx1.lt
    exact ⟨q.cell 0, q.cell 1, q.cell 2, q.cell 3⟩
  have HG2 : Hid (∀ W, Below X3.heap.size X3 W → W.cell? ⟨g2, 0, none⟩ = some (.slice y10.p.a y10.p.n y10.p.c) ∧ W.cell? ⟨g2, 1, none⟩ = some (.int .i64 h2.n1) ∧ W.cell? ⟨g2, 2, none⟩ = some (.int .i64 h2.n2) ∧ W.cell? ⟨g2, 3, none⟩ = some (.int .i64 h2.n3) ∧ W.cell? ⟨g2, 4, none⟩ = some (.slice y10.t.a y10.t.n y10.t.c) ∧ W.cell? ⟨g2, 5, none⟩ = some (.int .i64 h2.n5) ∧ W.cell? ⟨g2, 6, none⟩ = some (.slice y10.s.a y10.s.n y10.s.c) ∧ W.cell? ⟨g2, 7, none⟩ = some (.slice y10.r.a y10.r.n y10.r.c) ∧ W.cell? ⟨g2, 8, none⟩ = some (.slice y10.g.a y10.g.n y10.g.c) ∧ W.cell? ⟨g2, 9, none⟩ = some (.slice y10.e.a y10.e.n y10.e.c) ∧ W.cell? ⟨g2, 10, none⟩ = some (.slice y10.k.a y10.k.n y10.k.c)) := fun W hb => by
    have q := kx2.below hb kx2.lt
    exact ⟨q.cell 0, q.cell 1, q.cell 2, q.cell 3, q.cell 4, q.cell 5, q.cell 6, q.cell 7, q.cell 8, q.cell 9, q.cell 10⟩
  have HG3 : Hid (∀ W, Below X3.heap.size X3 W → W.cell? ⟨g3, 0, none⟩ = some (.slice y11.p.a y11.p.n y11.p.c) ∧ W.cell? ⟨g3, 1, none⟩ = some (.int .i64 h3.n1) ∧ W.cell? ⟨g3, 2, none⟩ = some (.int .i64 h3.n2) ∧ W.cell? ⟨g3, 3, none⟩ = some (.int .i64 h3.n3) ∧ W.cell? ⟨g3, 4, none⟩ = some (.slice y11.t.a y11.t.n y11.t.c) ∧ W.cell? ⟨g3, 5, none⟩ = some (.int .i64 h3.n5) ∧ W.cell? ⟨g3, 6, none⟩ = some (.slice y11.s.a y11.s.n y11.s.c) ∧ W.cell? ⟨g3, 7, none⟩ = some (.slice y11.r.a y11.r.n y11.r.c) ∧ W.cell? ⟨g3, 8, none⟩ = some (.slice y11.g.a y11.g.n y11.g.c) ∧ W.cell? ⟨g3, 9, none⟩ = some (.slice y11.e.a y11.e.n y11.e.c) ∧ W.cell? ⟨g3, 10, none⟩ = some (.slice y11.k.a y11.k.n y11.k.c)) := fun W hb => by
    have q := kx3.below hb kx3.lt
    exact ⟨q.cell 0, q.cell 1, q.cell 2, q.cell 3, q.cell 4, q.cell 5, q.cell 6, q.cell 7, q.cell 8, q.cell 9, q.cell 10⟩
  have HAC : Hid (∀ W, Below X3.heap.size X3 W → W.cell? ⟨w.heap.size, 0, none⟩ = some (.int .i64 x0.1) ∧ W.cell? ⟨w.heap.size, 1, none⟩ = some (.int .i64 x0.2.1) ∧ W.cell? ⟨w.heap.size, 2, none⟩ = some (.int .i64 x0.2.2)) := fun W hb => by
    obtain ⟨c0, c1, c2, s0, s1, s2, s3, p0, p1, p2, p3, p4, p5, p6, p7, p8, p9, p10, n0, n1, n2, n3, n4, n5, n6, n7, n8, n9, n10⟩ := (unhide HA) W (bStep (unhide KX3) hb)
    exact ⟨c0, c1, c2⟩
  have HAS : Hid (∀ W, Below X3.heap.size X3 W → W.cell? ⟨w.heap.size + 1, 0, none⟩ = some (.int .i64 y1.1) ∧ W.cell? ⟨w.heap.size + 1, 1, none⟩ = some (.slice x1.2.1.a x1.2.1.n x1.2.1.c) ∧ W.cell? ⟨w.heap.size + 1, 2, none⟩ = some (.slice x1.2.2.1.a x1.2.2.1.n x1.2.2.1.c) ∧ W.cell? ⟨w.heap.size + 1, 3, none⟩ = some (.slice x1.2.2.2.a x1.2.2.2.n x1.2.2.2.c)) := fun W hb => by
    obtain ⟨c0, c1, c2, s0, s1, s2, s3, p0, p1, p2, p3, p4, p5, p6, p7, p8, p9, p10, n0, n1, n2, n3, n4, n5, n6, n7, n8, n9, n10⟩ := (unhide HA) W (bStep (unhide KX3) hb)
    exact ⟨s0, s1, s2, s3⟩
  have HAP : Hid (∀ W, Below X3.heap.size X3 W → W.cell? ⟨w.heap.size + 1 + 1, 0, none⟩ = some (.slice x2.p.a x2.p.n x2.p.c) ∧ W.cell? ⟨w.heap.size + 1 + 1, 1, none⟩ = some (.int .i64 h2.n1) ∧ W.cell? ⟨w.heap.size + 1 + 1, 2, none⟩ = some (.int .i64 h2.n2) ∧ W.cell? ⟨w.heap.size + 1 + 1, 3, none⟩ = some (.int .i64 h2.n3) ∧ W.cell? ⟨w.heap.size + 1 + 1, 4, none⟩ = some (.slice x2.t.a x2.t.n x2.t.c) ∧ W.cell? ⟨w.heap.size + 1 + 1, 5, none⟩ = some (.int .i64 h2.n5) ∧ W.cell? ⟨w.heap.size + 1 + 1, 6, none⟩ = some (.slice x2.s.a x2.s.n x2.s.c) ∧ W.cell? ⟨w.heap.size + 1 + 1, 7, none⟩ = some (.slice x2.r.a x2.r.n x2.r.c) ∧ W.cell? ⟨w.heap.size + 1 + 1, 8, none⟩ = some (.slice x2.g.a x2.g.n x2.g.c) ∧ W.cell? ⟨w.heap.size + 1 + 1, 9, none⟩ = some (.slice x2.e.a x2.e.n x2.e.c) ∧ W.cell? ⟨w.heap.size + 1 + 1, 10, none⟩ = some (.slice x2.k.a x2.k.n x2.k.c)) := fun W hb => by
    obtain ⟨c0, c1, c2, s0, s1, s2, s3, p0, p1, p2, p3, p4, p5, p6, p7, p8, p9, p10, n0, n1, n2, n3, n4, n5, n6, n7, n8, n9, n10⟩ := (unhide HA) W (bStep (unhide KX3) hb)
    exact ⟨p0, p1, p2, p3, p4, p5, p6, p7, p8, p9, p10⟩
  have HAN : Hid (∀ W, Below X3.heap.size X3 W → W.cell? ⟨w.heap.size + 1 + 1 + 1, 0, none⟩ = some (.slice x3.p.a x3.p.n x3.p.c) ∧ W.cell? ⟨w.heap.size + 1 + 1 + 1, 1, none⟩ = some (.int .i64 h3.n1) ∧ W.cell? ⟨w.heap.size + 1 + 1 + 1, 2, none⟩ = some (.int .i64 h3.n2) ∧ W.cell? ⟨w.heap.size + 1 + 1 + 1, 3, none⟩ = some (.int .i64 h3.n3) ∧ W.cell? ⟨w.heap.size + 1 + 1 + 1, 4, none⟩ = some (.slice x3.t.a x3.t.n x3.t.c) ∧ W.cell? ⟨w.heap.size + 1 + 1 + 1, 5, none⟩ = some (.int .i64 h3.n5) ∧ W.cell? ⟨w.heap.size + 1 + 1 + 1, 6, none⟩ = some (.slice x3.s.a x3.s.n x3.s.c) ∧ W.cell? ⟨w.heap.size + 1 + 1 + 1, 7, none⟩ = some (.slice x3.r.a x3.r.n x3.r.c) ∧ W.cell? ⟨w.heap.size + 1 + 1 + 1, 8, none⟩ = some (.slice x3.g.a x3.g.n x3.g.c) ∧ W.cell? ⟨w.heap.size + 1 + 1 + 1, 9, none⟩ = some (.slice x3.e.a x3.e.n x3.e.c) ∧ W.cell? ⟨w.heap.size + 1 + 1 + 1, 10, none⟩ = some (.slice x3.k.a x3.k.n x3.k.c)) := fun W hb => by
    obtain ⟨c0, c1, c2, s0, s1, s2, s3, p0, p1, p2, p3, p4, p5, p6, p7, p8, p9, p10, n0, n1, n2, n3, n4, n5, n6, n7, n8, n9, n10⟩ := (unhide HA) W (bStep (unhide KX3) hb)
    exact ⟨n0, n1, n2, n3, n4, n5, n6, n7, n8, n9, n10⟩
  clear kx1 kx2 kx3 HA
  go_wp2_with fail
  go_region_held3 (fun W => (W.cell? ⟨w.heap.size, 0, none⟩ = some (.int .i64 x0.1) ∧ W.cell? ⟨w.heap.size, 1, none⟩ = some (.int .i64 x0.2.1) ∧ W.cell? ⟨w.heap.size, 2, none⟩ = some (.int .i64 x0.2.2)) ∧ (W.cell? ⟨g1, 0, none⟩ = some (.int .i64 y1.1) ∧ W.cell? ⟨g1, 1, none⟩ = some (.slice e9.2.1.a e9.2.1.n e9.2.1.c) ∧ W.cell? ⟨g1, 2, none⟩ = some (.slice e9.2.2.1.a e9.2.2.1.n e9.2.2.1.c) ∧ W.cell? ⟨g1, 3, none⟩ = some (.slice e9.2.2.2.a e9.2.2.2.n e9.2.2.2.c)) ∧ (W.cell? ⟨g2, 0, none⟩ = some (.slice y10.p.a y10.p.n y10.p.c) ∧ W.cell? ⟨g2, 1, none⟩ = some (.int .i64 h2.n1) ∧ W.cell? ⟨g2, 2, none⟩ = some (.int .i64 h2.n2) ∧ W.cell? ⟨g2, 3, none⟩ = some (.int .i64 h2.n3) ∧ W.cell? ⟨g2, 4, none⟩ = some (.slice y10.t.a y10.t.n y10.t.c) ∧ W.cell? ⟨g2, 5, none⟩ = some (.int .i64 h2.n5) ∧ W.cell? ⟨g2, 6, none⟩ = some (.slice y10.s.a y10.s.n y10.s.c) ∧ W.cell? ⟨g2, 7, none⟩ = some (.slice y10.r.a y10.r.n y10.r.c) ∧ W.cell? ⟨g2, 8, none⟩ = some (.slice y10.g.a y10.g.n y10.g.c) ∧ W.cell? ⟨g2, 9, none⟩ = some (.slice y10.e.a y10.e.n y10.e.c) ∧ W.cell? ⟨g2, 10, none⟩ = some (.slice y10.k.a y10.k.n y10.k.c)) ∧ (W.cell? ⟨g3, 0, none⟩ = some (.slice y11.p.a y11.p.n y11.p.c) ∧ W.cell? ⟨g3, 1, none⟩ = some (.int .i64 h3.n1) ∧ W.cell? ⟨g3, 2, none⟩ = some (.int .i64 h3.n2) ∧ W.cell? ⟨g3, 3, none⟩ = some (.int .i64 h3.n3) ∧ W.cell? ⟨g3, 4, none⟩ = some (.slice y11.t.a y11.t.n y11.t.c) ∧ W.cell? ⟨g3, 5, none⟩ = some (.int .i64 h3.n5) ∧ W.cell? ⟨g3, 6, none⟩ = some (.slice y11.s.a y11.s.n y11.s.c) ∧ W.cell? ⟨g3, 7, none⟩ = some (.slice y11.r.a y11.r.n y11.r.c) ∧ W.cell? ⟨g3, 8, none⟩ = some (.slice y11.g.a y11.g.n y11.g.c) ∧ W.cell? ⟨g3, 9, none⟩ = some (.slice y11.e.a y11.e.n y11.e.c) ∧ W.cell? ⟨g3, 10, none⟩ = some (.slice y11.k.a y11.k.n y11.k.c)))
    (exact (fun hb => ⟨(unhide HAC) _ hb, (unhide HG1) _ hb, (unhide HG2) _ hb, (unhide HG3) _ hb⟩) (by first | (with_reducible assumption) | exact (Below.refl _ _).drew | exact below_drewN (Below.refl _ _) _ | exact Below.refl _ _ | exact below_drewN (by assumption) _))
    (first
      | (go_at_call 8; refine ((unhide TC) _).mono ?_; rintro r w12 ⟨rfl, b12⟩; have J12 : Below X3.heap.size X3 w12 := bStep (by first | exact (Below.refl _ _).drew | exact below_drewN (Below.refl _ _) _) b12; clear b12)
      | (go_at_call 11; refine ((unhide IMC) e9 y10 y11 _ ((unhide HO).below J12 (Nat.le_refl _))).mono ?_; rintro r w13 ⟨rfl, b13⟩; have J13 := bStep J12 b13))
  clear b13 J12
  go_wp2_with fail
  go_region_held3 (fun W => (W.cell? ⟨g1, 0, none⟩ = some (.int .i64 y1.1) ∧ W.cell? ⟨g1, 1, none⟩ = some (.slice e9.2.1.a e9.2.1.n e9.2.1.c) ∧ W.cell? ⟨g1, 2, none⟩ = some (.slice e9.2.2.1.a e9.2.2.1.n e9.2.2.1.c) ∧ W.cell? ⟨g1, 3, none⟩ = some (.slice e9.2.2.2.a e9.2.2.2.n e9.2.2.2.c)) ∧ (W.cell? ⟨w.heap.size + 1, 0, none⟩ = some (.int .i64 y1.1) ∧ W.cell? ⟨w.heap.size + 1, 1, none⟩ = some (.slice x1.2.1.a x1.2.1.n x1.2.1.c) ∧ W.cell? ⟨w.heap.size + 1, 2, none⟩ = some (.slice x1.2.2.1.a x1.2.2.1.n x1.2.2.1.c) ∧ W.cell? ⟨w.heap.size + 1, 3, none⟩ = some (.slice x1.2.2.2.a x1.2.2.2.n x1.2.2.2.c)))
    (exact (fun hb => ⟨(unhide HG1) _ hb, (unhide HAS) _ hb⟩) (bStep J13 (by first | (with_reducible assumption) | exact (Below.refl _ _).drew | exact below_drewN (Below.refl _ _) _ | exact Below.refl _ _ | exact below_drewN (by assumption) _)))
    (first
      | (go_at_call 9; refine ((unhide TS) (unhide M1) _ (bStep (unhide HBX3) (bStep J13 (by first | exact (Below.refl _ _).drew | exact below_drewN (Below.refl _ _) _ | exact Below.refl _ _)))).mono ?_; rintro r wa1 ⟨ea1, rfl, sa1, ba1⟩; have Ja1 : Below w13.heap.size w13 wa1 := bStep (by first | exact (Below.refl _ _).drew | exact below_drewN (Below.refl _ _) _ | exact Below.refl _ _) ba1; clear ba1)
      | (go_at_call 12; refine ((unhide QS) (unhide M1) e9 ea1 _ (SNK.below (unhide HO).os (bStep J13 Ja1) (Nat.le_refl _)) sa1).mono ?_; rintro r wb1 ⟨rfl, bb1⟩; have Jb1 : Below w13.heap.size w13 wb1 := bStep Ja1 bb1))
  have JJ1 := bStep J13 Jb1
  clear sa1 Ja1 bb1 Jb1
  go_wp2_with fail
  go_region_held3 (fun W => (W.cell? ⟨g2, 0, none⟩ = some (.slice y10.p.a y10.p.n y10.p.c) ∧ W.cell? ⟨g2, 1, none⟩ = some (.int .i64 h2.n1) ∧ W.cell? ⟨g2, 2, none⟩ = some (.int .i64 h2.n2) ∧ W.cell? ⟨g2, 3, none⟩ = some (.int .i64 h2.n3) ∧ W.cell? ⟨g2, 4, none⟩ = some (.slice y10.t.a y10.t.n y10.t.c) ∧ W.cell? ⟨g2, 5, none⟩ = some (.int .i64 h2.n5) ∧ W.cell? ⟨g2, 6, none⟩ = some (.slice y10.s.a y10.s.n y10.s.c) ∧ W.cell? ⟨g2, 7, none⟩ = some (.slice y10.r.a y10.r.n y10.r.c) ∧ W.cell? ⟨g2, 8, none⟩ = some (.slice y10.g.a y10.g.n y10.g.c) ∧ W.cell? ⟨g2, 9, none⟩ = some (.slice y10.e.a y10.e.n y10.e.c) ∧ W.cell? ⟨g2, 10, none⟩ = some (.slice y10.k.a y10.k.n y10.k.c)) ∧ (W.cell? ⟨w.heap.size + 1 + 1, 0, none⟩ = some (.slice x2.p.a x2.p.n x2.p.c) ∧ W.cell? ⟨w.heap.size + 1 + 1, 1, none⟩ = some (.int .i64 h2.n1) ∧ W.cell? ⟨w.heap.size + 1 + 1, 2, none⟩ = some (.int .i64 h2.n2) ∧ W.cell? ⟨w.heap.size + 1 + 1, 3, none⟩ = some (.int .i64 h2.n3) ∧ W.cell? ⟨w.heap.size + 1 + 1, 4, none⟩ = some (.slice x2.t.a x2.t.n x2.t.c) ∧ W.cell? ⟨w.heap.size + 1 + 1, 5, none⟩ = some (.int .i64 h2.n5) ∧ W.cell? ⟨w.heap.size + 1 + 1, 6, none⟩ = some (.slice x2.s.a x2.s.n x2.s.c) ∧ W.cell? ⟨w.heap.size + 1 + 1, 7, none⟩ = some (.slice x2.r.a x2.r.n x2.r.c) ∧ W.cell? ⟨w.heap.size + 1 + 1, 8, none⟩ = some (.slice x2.g.a x2.g.n x2.g.c) ∧ W.cell? ⟨w.heap.size + 1 + 1, 9, none⟩ = some (.slice x2.e.a x2.e.n x2.e.c) ∧ W.cell? ⟨w.heap.size + 1 + 1, 10, none⟩ = some (.slice x2.k.a x2.k.n x2.k.c)))
    (exact (fun hb => ⟨(unhide HG2) _ hb, (unhide HAP) _ hb⟩) (bStep JJ1 (by first | (with_reducible assumption) | exact (Below.refl _ _).drew | exact below_drewN (Below.refl _ _) _ | exact Below.refl _ _ | exact below_drewN (by assumption) _)))
    (first
      | (go_at_call 10; refine ((unhide T2) (unhide M2) _ (bStep (unhide HBX3) (bStep JJ1 (by first | exact (Below.refl _ _).drew | exact below_drewN (Below.refl _ _) _ | exact Below.refl _ _)))).mono ?_; rintro r wa2 ⟨ea2, rfl, sa2, ba2⟩; have Ja2 : Below wb1.heap.size wb1 wa2 := bStep (by first | exact (Below.refl _ _).drew | exact below_drewN (Below.refl _ _) _ | exact Below.refl _ _) ba2; clear ba2)
      | (go_at_call 13; refine ((unhide Q2) (unhide M2) y10 ea2 _ ((unhide HO).op.ok.below (bStep JJ1 Ja2) (Nat.le_refl _)) sa2.ok).mono ?_; rintro r wb2 ⟨rfl, bb2⟩; have Jb2 : Below wb1.heap.size wb1 wb2 := bStep Ja2 bb2))
  have JJ2 := bStep JJ1 Jb2
  clear sa2 Ja2 bb2 Jb2
  go_wp2_with fail
  go_region_held3 (fun W => (W.cell? ⟨g3, 0, none⟩ = some (.slice y11.p.a y11.p.n y11.p.c) ∧ W.cell? ⟨g3, 1, none⟩ = some (.int .i64 h3.n1) ∧ W.cell? ⟨g3, 2, none⟩ = some (.int .i64 h3.n2) ∧ W.cell? ⟨g3, 3, none⟩ = some (.int .i64 h3.n3) ∧ W.cell? ⟨g3, 4, none⟩ = some (.slice y11.t.a y11.t.n y11.t.c) ∧ W.cell? ⟨g3, 5, none⟩ = some (.int .i64 h3.n5) ∧ W.cell? ⟨g3, 6, none⟩ = some (.slice y11.s.a y11.s.n y11.s.c) ∧ W.cell? ⟨g3, 7, none⟩ = some (.slice y11.r.a y11.r.n y11.r.c) ∧ W.cell? ⟨g3, 8, none⟩ = some (.slice y11.g.a y11.g.n y11.g.c) ∧ W.cell? ⟨g3, 9, none⟩ = some (.slice y11.e.a y11.e.n y11.e.c) ∧ W.cell? ⟨g3, 10, none⟩ = some (.slice y11.k.a y11.k.n y11.k.c)) ∧ (W.cell? ⟨w.heap.size + 1 + 1 + 1, 0, none⟩ = some (.slice x3.p.a x3.p.n x3.p.c) ∧ W.cell? ⟨w.heap.size + 1 + 1 + 1, 1, none⟩ = some (.int .i64 h3.n1) ∧ W.cell? ⟨w.heap.size + 1 + 1 + 1, 2, none⟩ = some (.int .i64 h3.n2) ∧ W.cell? ⟨w.heap.size + 1 + 1 + 1, 3, none⟩ = some (.int .i64 h3.n3) ∧ W.cell? ⟨w.heap.size + 1 + 1 + 1, 4, none⟩ = some (.slice x3.t.a x3.t.n x3.t.c) ∧ W.cell? ⟨w.heap.size + 1 + 1 + 1, 5, none⟩ = some (.int .i64 h3.n5) ∧ W.cell? ⟨w.heap.size + 1 + 1 + 1, 6, none⟩ = some (.slice x3.s.a x3.s.n x3.s.c) ∧ W.cell? ⟨w.heap.size + 1 + 1 + 1, 7, none⟩ = some (.slice x3.r.a x3.r.n x3.r.c) ∧ W.cell? ⟨w.heap.size + 1 + 1 + 1, 8, none⟩ = some (.slice x3.g.a x3.g.n x3.g.c) ∧ W.cell? ⟨w.heap.size + 1 + 1 + 1, 9, none⟩ = some (.slice x3.e.a x3.e.n x3.e.c) ∧ W.cell? ⟨w.heap.size + 1 + 1 + 1, 10, none⟩ = some (.slice x3.k.a x3.k.n x3.k.c)))
    (exact (fun hb => ⟨(unhide HG3) _ hb, (unhide HAN) _ hb⟩) (bStep JJ2 (by first | (with_reducible assumption) | exact (Below.refl _ _).drew | exact below_drewN (Below.refl _ _) _ | exact Below.refl _ _ | exact below_drewN (by assumption) _)))
    (first
      | (go_at_call 10; refine ((unhide T3) (unhide M3) _ (bStep (unhide HBX3) (bStep JJ2 (by first | exact (Below.refl _ _).drew | exact below_drewN (Below.refl _ _) _ | exact Below.refl _ _)))).mono ?_; rintro r wa3 ⟨ea3, rfl, sa3, ba3⟩; have Ja3 : Below wb2.heap.size wb2 wa3 := bStep (by first | exact (Below.refl _ _).drew | exact below_drewN (Below.refl _ _) _ | exact Below.refl _ _) ba3; clear ba3)
      | (go_at_call 13; refine ((unhide Q3) (unhide M3) y11 ea3 _ ((unhide HO).on.ok.below (bStep JJ2 Ja3) (Nat.le_refl _)) sa3.ok).mono ?_; rintro r wb3 ⟨rfl, bb3⟩; have Jb3 : Below wb2.heap.size wb2 wb3 := bStep Ja3 bb3))
  have JJ3 := bStep JJ2 Jb3
  clear sa3 Ja3 bb3 Jb3
  go_wp2_with fail
  go_ret
  exact ⟨rfl, bStep (unhide HBX3) JJ3⟩

/-! The row's step. -/
set_option maxRecDepth 100000 in
theorem lifted (os : Os) (started : os.Started) (H : Type) (enc : TypeId × Value → H) :
    ReturnsInHanded {} Tryz.checked os 3 .any (fun w args => (Rows.fnExactCheckNextSpec.pre enc Tryz.prog Tryz.f3 [] false w args ∧ laidMetH Tryz.prog laid3 w) ∧ sizedMet enc Tryz.prog Tryz.f3 (OpenSpec.ofChange Rows.fnExactCheckNextSpec) false w args)
      (Rows.fnExactCheckNextSpec.post enc Tryz.prog Tryz.f3 false true false false) := by
  refine returnsInHanded_of_change_and (C := Tryz.checked) (X := fun w _ => laidMetH Tryz.prog laid3 w) (fun _ _ _ hh h => h.of_heap hh) own started (by kernel_rfl) Tryz.func3
    (ChangeSpec.witness_shaped (enc := enc) (C := Tryz.checked) (os := os) (X := fun w _ => laidMetH Tryz.prog laid3 w) false (World.doorLaid Tryz.prog 400 os) #[.agg #[.int .i64 0, .int .i64 0, .int .i64 0], .agg #[.int .i64 0, .slice none 0 0, .slice none 0 0, .slice none 0 0], .agg #[.slice none 0 0, .int .i64 0, .int .i64 0, .int .i64 0, .slice none 0 0, .int .i64 0, .slice none 0 0, .slice none 0 0, .slice none 0 0, .slice none 0 0, .slice none 0 0], .agg #[.slice none 0 0, .int .i64 0, .int .i64 0, .int .i64 0, .slice none 0 0, .int .i64 0, .slice none 0 0, .slice none 0 0, .slice none 0 0, .slice none 0 0, .slice none 0 0]] 8 rfl (World.shaped_of_RefB (by kernel_rfl) (by kernel_rfl)) (by kernel_rfl) (by kernel_rfl) (by kernel_rfl) (door_met3 os _)) ?_
  intro W base args ds gs before hval0 hW _ _ hL _
  have hval : ∀ (j : Nat) t v, Tryz.f3.params[j]? = some t → args[j]? = some v → Value.okWide Tryz.prog W .any base t v := hval0
  have hW' := hW
  obtain ⟨p, q, hA0, hV, rfl, hfz, hnd⟩ := hW
  have hA : DataW.TrodAll enc Tryz.prog W 0 (fun _ => true) true Tryz.f3.params.toList args.toList ds p := hA0
  rw [Tryz.params3] at hA hval
  obtain ⟨v0, vs0, d0, ds0, p0, q0, hargs, rfl, rfl, h0, r0⟩ := trodAll_cons hA
  obtain ⟨v1, vs1, d1, ds1, p1, q1, rfl, rfl, rfl, h1, r1⟩ := trodAll_cons r0
  obtain ⟨v2, vs2, d2, ds2, p2, q2, rfl, rfl, rfl, h2, r2⟩ := trodAll_cons r1
  obtain ⟨v3, vs3, d3, ds3, p3, q3, rfl, rfl, rfl, h3, r3⟩ := trodAll_cons r2
  obtain ⟨rfl, rfl, rfl⟩ := trodAll_nil r3
  obtain rfl : args = #[v0, v1, v2, v3] := by cases args; simp_all
  obtain ⟨y0v, y1v, rfl⟩ : ∃ y0 y1, gs = [y0, y1] := by
    match gs, hV with
    | [y0, y1], _ => exact ⟨y0, y1, rfl⟩
    | [], hV => exact hV.elim
    | [_], hV => obtain ⟨_, _, _, _, _, _, _, _, _, _, hs, _⟩ := hV; exact hs.elim
    | _ :: _ :: _ :: _, hV =>
      obtain ⟨_, _, _, _, _, _, _, _, _, _, hs, _⟩ := hV
      obtain ⟨_, _, _, _, _, _, _, _, _, _, hs2, _⟩ := hs
      exact hs2.elim
  have k0 := h0
  have lt0 : ∀ x ∈ p0, x.block < W.heap.size := by obtain ⟨m, hm⟩ := k0; exact DataW.trod_lt m _ _ _ hm
  obtain ⟨x0, rfl⟩ := open_config (okWide_struct Tryz.underlying23 (hval 0 23 v0 rfl rfl)) h0
  have k1 := h1
  have lt1 : ∀ x ∈ p1, x.block < W.heap.size := by obtain ⟨m, hm⟩ := k1; exact DataW.trod_lt m _ _ _ hm
  obtain ⟨x1, y1, rfl, o1⟩ := open_snap (okWide_struct Tryz.underlying28 (hval 1 28 v1 rfl rfl)) h1
  have k2 := h2
  have lt2 : ∀ x ∈ p2, x.block < W.heap.size := by obtain ⟨m, hm⟩ := k2; exact DataW.trod_lt m _ _ _ hm
  obtain ⟨x2, y2, rfl, w2, m2, i2⟩ := open_header Tryz.underlying31 rfl (by kernel_rfl) ⟨rfl, rfl, rfl, rfl, rfl, rfl, rfl, rfl, rfl, rfl, rfl⟩ ⟨rfl, rfl, rfl, rfl, rfl, rfl, rfl, rfl, rfl, rfl, rfl⟩ Tryz.underlying29 Tryz.underlying5 Tryz.underlying2 Tryz.underlying24 (by kernel_rfl) (by kernel_rfl) (by kernel_rfl) (by kernel_rfl) (okWide_struct Tryz.underlying31 (hval 2 31 v2 rfl rfl)) h2
  have k3 := h3
  have lt3 : ∀ x ∈ p3, x.block < W.heap.size := by obtain ⟨m, hm⟩ := k3; exact DataW.trod_lt m _ _ _ hm
  obtain ⟨x3, y3, rfl, w3, m3, i3⟩ := open_header Tryz.underlying31 rfl (by kernel_rfl) ⟨rfl, rfl, rfl, rfl, rfl, rfl, rfl, rfl, rfl, rfl, rfl⟩ ⟨rfl, rfl, rfl, rfl, rfl, rfl, rfl, rfl, rfl, rfl, rfl⟩ Tryz.underlying29 Tryz.underlying5 Tryz.underlying2 Tryz.underlying24 (by kernel_rfl) (by kernel_rfl) (by kernel_rfl) (by kernel_rfl) (okWide_struct Tryz.underlying31 (hval 3 31 v3 rfl rfl)) h3
  clear hA0 hval0
  refine (walk x0 x1 y1 x2 y2 x3 y3 W o1 m2 w2 i2 m3 w3 i3 (of_laid3 hL).1 (of_laid3 hL).2).mono fun e W' ⟨he, bel⟩ => ?_
  subst he
  exact ⟨_, rfl, _, _, _, [], _, _, hW', trodAll_mk1 (shut_bool Tryz.underlying4 _), (trodAll_cons_mk (Below.trod laidOut (by kernel_rfl) (of_decide_eq_true (by kernel_rfl)) k0 bel lt0) (trodAll_cons_mk (Below.trod laidOut (by kernel_rfl) (of_decide_eq_true (by kernel_rfl)) k1 bel lt1) (trodAll_cons_mk (Below.trod laidOut (by kernel_rfl) (of_decide_eq_true (by kernel_rfl)) k2 bel lt2) (trodAll_cons_mk (Below.trod laidOut (by kernel_rfl) (of_decide_eq_true (by kernel_rfl)) k3 bel lt3) trodAll_mk0)))), Below.trodVars laidOut bel (by kernel_rfl) hV, bel.frame _, fun h => by cases h⟩

theorem over : Rows.FnExactCheckNextSaid :=
  OpenClaim.holds_of_wide 3 Tryz.f3 rfl rfl rfl rfl rfl rfl rfl ⟨rfl, rfl, rfl, rfl, rfl⟩ rfl rfl rfl rfl rfl (by kernel_rfl) Tryz.func3 (by kernel_rfl)
    (of_decide_eq_true (by kernel_rfl)) (by unfold Func.isWrapper; first | (rw [if_pos (by decide +kernel)]; kernel_rfl) | (rw [if_neg (by decide +kernel)]; exact ⟨rfl, rfl⟩))
    (fun os started H enc _ => lifted os started H enc)

/-- The statement: the tied card. -/
theorem proved : Rows.FnExactCheckNextCardSaid :=
  Claim7.holds_tied_plain_at .later [] [.handle, .data, .data] true (true, "fa13d8cf75996c74695e1eed8891bbb34e1f1c157148803bbb0f845bcaa318f6") true
    over (fun _ h => by cases h) (by kernel_rfl) (fun _ h => by cases h) fnExactCheckNext_row_tie rfl ⟨rfl, rfl⟩ (by kernel_rfl) rfl
    (fun f fn hf hfn => by
      obtain rfl : f = 3 := Option.some.inj ((show Tryz.prog.funcNamed "loop.example/g00383/laws.FnExactCheckNext" = some 3 by kernel_rfl).symm.trans hf) |>.symm
      obtain rfl : fn = Tryz.f3 := (Option.some.inj (Tryz.func3.symm.trans hfn)).symm
      exact ⟨by kernel_rfl, fun j t ht => by
        rw [Tryz.params3] at ht
        have hm : t ∈ [23, 28, 31, 31] := by simpa using Array.mem_of_getElem? ht
        have hall : ([23, 28, 31, 31].all fun u => !Tryz.prog.wantsStandIn u) = true := by kernel_rfl
        exact (show Tryz.prog.wantsStandIn t = false by simpa using List.all_eq_true.1 hall t hm)⟩)
    (by kernel_rfl)
#print axioms proved
end Go.Proofs.YtnmbdannipebnaaGreatDoor.fnExactCheckNext
