/- Proved: for every setting, snapshot and header the law FnExactApplyNext returns true and changes no argument. Conditions: none. -/
import Derived.Test.YtdmcmlcmgbbclaaGreatRows
import Derived.Test.YtdmcmlcmgbbclaaGreatJ31
import Derived.Test.YtdmcmlcmgbbclaaGreatJ4
import Derived.Test.YtdmcmlcmgbbclaaGreatJ32
import Derived.WalkSmall
import Derived.Deep.MidRow
import Derived.Deep.RegionHeld3
import Derived.WalkKit
import Derived.ProofKit
import Derived.OpenShut
import Derived.ShutString
import Derived.ChangeOld
import Derived.Below
namespace Go.Proofs.YtdmcmlcmgbbclaaGreat.fnExactApplyNext
open Go.ChangeShapes Go.WideShapes Go.ChangeAt Go.RowKit
set_option linter.unusedVariables false

theorem own : ownKnob Tryz.prog.godebug = none := by kernel_rfl
theorem laidOut : laidOutB Tryz.prog = true := by kernel_rfl

/-! The walk: the Go text returns true, and writes nothing that was there. -/
set_option maxRecDepth 100000 in
set_option linter.unusedSimpArgs false in
set_option maxHeartbeats 16000000 in
theorem walk (x0 : Cf) (x1 : SnS) (y1 : Sn) (x2 : HS) (h2 : Hd) (w : World) (o1 : SNK.Ok w x1 y1) (m2 : HMax x2 maxLen) (w2 : HOk w x2 h2) (i2 : HIn h2) :
    Calls Tryz.prog 3 #[.agg (cfvals x0), .agg (snvals x1 y1), .agg (hvals x2 h2)] w fun e w' => e = .returned (.bool true) ∧ Below w.heap.size w w' := by
 have k0 := ((SBlk.new w (cfvals x0) 23).next (.cells (snvals x1 y1) 28)).next (.cells (hvals x2 h2) 31)
 have k1 := (SBlk.new (w.alloc (.cells (cfvals x0) 23)) (snvals x1 y1) 28).next (.cells (hvals x2 h2) 31)
 have k2 := SBlk.new ((w.alloc (.cells (cfvals x0) 23)).alloc (.cells (snvals x1 y1) 28)) (hvals x2 h2) 31
 have bb : Below w.heap.size w (((w.alloc (.cells (cfvals x0) 23)).alloc (.cells (snvals x1 y1) 28)).alloc (.cells (hvals x2 h2) 31)) := bAl (bAl (bAl (Below.refl _ _) _) _) _
 rw [show (w.alloc (.cells (cfvals x0) 23)).heap.size = w.heap.size + 1 by simp] at k1
 rw [show ((w.alloc (.cells (cfvals x0) 23)).alloc (.cells (snvals x1 y1) 28)).heap.size = w.heap.size + 1 + 1 by simp] at k2
 obtain ⟨V0, e0⟩ : ∃ W, ((w.alloc (.cells (cfvals x0) 23)).alloc (.cells (snvals x1 y1) 28)).alloc (.cells (hvals x2 h2) 31) = W := ⟨_, rfl⟩
 rw [e0] at k0 k1 k2 bb
 have HA : Hid (∀ W, Below V0.heap.size V0 W → W.cell? ⟨w.heap.size, 0, none⟩ = some (.int .i64 x0.1) ∧ W.cell? ⟨w.heap.size, 1, none⟩ = some (.int .i64 x0.2.1) ∧ W.cell? ⟨w.heap.size, 2, none⟩ = some (.int .i64 x0.2.2) ∧ W.cell? ⟨w.heap.size + 1, 0, none⟩ = some (.int .i64 y1.1) ∧ W.cell? ⟨w.heap.size + 1, 1, none⟩ = some (.slice x1.2.1.a x1.2.1.n x1.2.1.c) ∧ W.cell? ⟨w.heap.size + 1, 2, none⟩ = some (.slice x1.2.2.1.a x1.2.2.1.n x1.2.2.1.c) ∧ W.cell? ⟨w.heap.size + 1, 3, none⟩ = some (.slice x1.2.2.2.a x1.2.2.2.n x1.2.2.2.c) ∧ W.cell? ⟨w.heap.size + 1 + 1, 0, none⟩ = some (.slice x2.p.a x2.p.n x2.p.c) ∧ W.cell? ⟨w.heap.size + 1 + 1, 1, none⟩ = some (.int .i64 h2.n1) ∧ W.cell? ⟨w.heap.size + 1 + 1, 2, none⟩ = some (.int .i64 h2.n2) ∧ W.cell? ⟨w.heap.size + 1 + 1, 3, none⟩ = some (.int .i64 h2.n3) ∧ W.cell? ⟨w.heap.size + 1 + 1, 4, none⟩ = some (.slice x2.t.a x2.t.n x2.t.c) ∧ W.cell? ⟨w.heap.size + 1 + 1, 5, none⟩ = some (.int .i64 h2.n5) ∧ W.cell? ⟨w.heap.size + 1 + 1, 6, none⟩ = some (.slice x2.s.a x2.s.n x2.s.c) ∧ W.cell? ⟨w.heap.size + 1 + 1, 7, none⟩ = some (.slice x2.r.a x2.r.n x2.r.c) ∧ W.cell? ⟨w.heap.size + 1 + 1, 8, none⟩ = some (.slice x2.g.a x2.g.n x2.g.c) ∧ W.cell? ⟨w.heap.size + 1 + 1, 9, none⟩ = some (.slice x2.e.a x2.e.n x2.e.c) ∧ W.cell? ⟨w.heap.size + 1 + 1, 10, none⟩ = some (.slice x2.k.a x2.k.n x2.k.c)) := fun W hb => by
  have q := And.intro (k0.below hb k0.lt) (And.intro (k1.below hb k1.lt) (k2.below hb k2.lt))
  exact ⟨q.1.cell 0, q.1.cell 1, q.1.cell 2, q.2.1.cell 0, q.2.1.cell 1, q.2.1.cell 2, q.2.1.cell 3, q.2.2.cell 0, q.2.2.cell 1, q.2.2.cell 2, q.2.2.cell 3, q.2.2.cell 4, q.2.2.cell 5, q.2.2.cell 6, q.2.2.cell 7, q.2.2.cell 8, q.2.2.cell 9, q.2.2.cell 10⟩
 have HB0 := hide bb
 have zV := bb.size
 have Z1 := hide (fun (W : World) (hb : Below w.heap.size w W) (L : Int) (h0 : 0 ≤ L) (h1 : L ≤ 1048576) => szSnap_any x1 y1 L W (SNK.below o1 hb (Nat.le_refl _)) h0 h1)
 have S1 := hide (fun (L : Int) (h : 0 ≤ szOf L (snSz y1)) (hL : L ≤ 1048576) => (snT_of (by have := szOf_ok h; omega) : SnT y1))
 have Z2 := hide (fun (r : Int) (W : World) (hb : Below w.heap.size w W) (q0 : 0 ≤ r) (q1 : r ≤ 1048576) => szHeader_tot x2 h2 r W (w2.below hb (Nat.le_refl _)) m2 q0 q1)
 have TC := hide (fun (W : World) => toConfig_any x0 W)
 have T1 : Hid (SnT y1 → ∀ W, Below w.heap.size w W → Calls Tryz.prog 8 #[.agg (snvals x1 y1)] W fun r w' => ∃ (e' : SnS) (d : Nat → Path), r = .returned (.agg (snvals e' y1)) ∧ SNK.Own w' W.heap.size d [0] e' y1 ∧ (∀ g, w'.heap.size ≤ g → d g = [1]) ∧ Below W.heap.size W w') := fun m W hb => (toSnap_kd [0] x1 y1 W (SNK.below o1 hb (Nat.le_refl _)) m.sm).mono (by rintro r w' ⟨e', d, rfl, h1, h2⟩; obtain ⟨d', h3, h4⟩ := Kd.recol1 SNK h1; exact ⟨e', d', rfl, h3, h4, h2⟩)
 have T2 := hide (fun (m : HSm h2) (W : World) (hb : Below w.heap.size w W) => toHeader_ap x2 h2 W (w2.below hb (Nat.le_refl _)) m)
 have Q1 : Hid (SnT y1 → ∀ (e f : SnS) (W : World), SNK.Ok W e y1 → SNK.Ok W f y1 → Calls Tryz.prog 12 #[.agg (snvals e y1), .agg (snvals f y1)] W fun r w' => r = .returned (.bool true) ∧ Below W.heap.size W w') := fun m e f W o q => by
  have h := eqSnap_any e f y1 y1 W o q m.sm m.sm
  rw [snSame_self] at h
  exact h
 have Q2 := hide (fun (m : HSm h2) (y z : HS) (W : World) (o : HOk W y h2) (q : HOk W z h2) => eqHeader_same y z h2 W o q m)
 have SPC : Hid (∀ (m1 : SnT y1) (m2 : HSm h2) (f1 : SnS) (f2 : HS) (W : World) (q1 : SNK.Ok W f1 y1) (q2 : HGd W f2 h2), Calls Tryz.prog 6 #[.agg (cfvals x0), .agg (snvals f1 y1), .agg (hvals f2 h2)] W fun r w' => ∃ e' : SnS, r = .returned (.agg (srvals (apCode x0 y1 h2) e' (apAns x0 y1 h2))) ∧ (∀ W' : World, Std W.heap.size w' W' → SNK.Ok W' e' (apAns x0 y1 h2)) ∧ Below W.heap.size W w') := fun m1 m2 f1 f2 W q1 q2 => specApply_any x0 f1 y1 f2 h2 W q1 q2.kd q2.t m1.sm m2
 have IMC : Hid (∀ (m1 : SnT y1) (m2 : HSm h2) (f1 : SnS) (f2 : HS) (W : World) (q1 : SNK.Ok W f1 y1) (q2 : HGd W f2 h2) (B : Nat) (hB : B ≤ W.heap.size), Calls Tryz.prog 10 #[.agg (cfvals x0), .agg (snvals f1 y1), .agg (hvals f2 h2)] W fun r w' => ∃ (e' : SnS) (d : Nat → Path), r = .returned (.agg (srvals (apCode x0 y1 h2) e' (apAns x0 y1 h2))) ∧ SNK.Own w' B d [0] e' (apAns x0 y1 h2) ∧ (∀ g, w'.heap.size ≤ g → d g = [1]) ∧ Below W.heap.size W w') := fun m1 m2 f1 f2 W q1 q2 B hB => (implApply_any [0] x0 f1 y1 f2 h2 W q1 q2.kd q2.t m1.sm m2 ⟨trivial, trivial⟩).mono (by rintro r w' ⟨e', rfl, ⟨d, h1⟩, h2⟩; obtain ⟨d', h3, h4⟩ := Kd.recol1 SNK h1; exact ⟨e', d', rfl, SNK.base h3 hB, h4, h2⟩)
 have HT : Hid (SnT (apAns x0 y1 h2)) := ap_tiny o1 w2.t.2.1
 generalize apAns x0 y1 h2 = S at SPC IMC HT
 generalize apCode x0 y1 h2 = c at SPC IMC
 unfold srvals at SPC IMC
 have E0 := hide e0
 obtain ⟨c0, c1, c2, s0, s1, s2, s3, n0, n1, n2, n3, n4, n5, n6, n7, n8, n9, n10⟩ := (unhide HA) V0 (Below.refl _ _)
 have K0 := hide (Below.refl V0.heap.size V0)
 clear e0 k0 k1 k2 bb o1 m2 w2 i2
 unfold cfvals at E0 TC SPC IMC ⊢
 unfold snvals at E0 ⊢
 unfold hvals at E0 ⊢
 go_enter Tryz.func3, Tryz.ntmps3
 go_upto_region 1 with fail
 rw [unhide E0]
 clear E0
 have Z := hide ((unhide Z1) V0 (unhide HB0) 1048576 (by omega) (by omega))
 unfold snvals at Z
 go_wp2_with fail
 refine (unhide Z).mono ?_
 rintro r w1 ⟨rfl, b1⟩
 have K1 := hide b1
 have HB1 := hide ((unhide HB0).trans (b1.mono (unhide HB0).size))
 clear b1 Z Z1 HB0 K0 c0 c1 c2 s0 s1 s2 s3 n0 n1 n2 n3 n4 n5 n6 n7 n8 n9 n10
 obtain ⟨L1, eL⟩ : ∃ L, L = szOf 1048576 (snSz y1) := ⟨_, rfl⟩
 have HL := hide eL
 rw [← eL]
 clear eL
 by_cases n1 : L1 < 0
 · have hd : decide (L1 < 0) = true := decide_eq_true n1
   go_wp2_with fail
   go_ret
   exact ⟨rfl, unhide HB1⟩
 have M1 := hide ((unhide S1) 1048576 (by rw [← unhide HL]; omega) (by omega))
 have l1 : L1 ≤ 1048576 := by rw [unhide HL]; unfold szOf; split <;> omega
 have hd : decide (L1 < 0) = false := decide_eq_false n1
 have Z := hide ((unhide Z2) L1 w1 (unhide HB1) (by omega) l1)
 clear HL S1 n1 Z2
 obtain ⟨c0, c1, c2, s0, s1, s2, s3, n0, n1, n2, n3, n4, n5, n6, n7, n8, n9, n10⟩ := (unhide HA) w1 (unhide K1)
 unfold hvals at Z
 go_wp2_with fail
 refine (unhide Z).mono ?_
 rintro r w2 ⟨⟨r2, rfl, hr0, hru, hsm⟩, b2⟩
 have K2 := hide (bStep (unhide K1) b2)
 have HB2 := hide ((unhide HB1).trans (b2.mono (unhide HB1).size))
 have HSM := hide hsm
 clear b2 Z hsm hd K1 HB1 c0 c1 c2 s0 s1 s2 s3 n0 n1 n2 n3 n4 n5 n6 n7 n8 n9 n10
 by_cases n2' : r2 < 0
 · have hd : decide (r2 < 0) = true := decide_eq_true n2'
   go_wp2_with fail
   go_ret
   exact ⟨rfl, unhide HB2⟩
 have M2 := hide ((unhide HSM) (by omega)).1
 have MT : Hid (hTot h2 ≤ 1048576) := by have := ((unhide HSM) (by omega)).2; show _ ≤ _; omega
 have hd : decide (r2 < 0) = false := decide_eq_false n2'
 clear HSM n2' hr0 hru l1
 go_upto_region 8 with fail
 go_cut [8] (fun s wx => ∃ (g : Nat) (ew : SnS), s = .pointer (some ⟨g, 0, none⟩) ∧ SBlk wx g (srvals c ew S).toList 39 ∧ SNK.Ok wx ew S ∧ Below w2.heap.size w2 wx)
 case first =>
  obtain ⟨c0, c1, c2, s0, s1, s2, s3, n0, n1, n2, n3, n4, n5, n6, n7, n8, n9, n10⟩ := (unhide HA) w2 (unhide K2)
  go_region_held3 (fun W => W.cell? ⟨w.heap.size, 0, none⟩ = some (.int .i64 x0.1) ∧ W.cell? ⟨w.heap.size, 1, none⟩ = some (.int .i64 x0.2.1) ∧ W.cell? ⟨w.heap.size, 2, none⟩ = some (.int .i64 x0.2.2) ∧ W.cell? ⟨w.heap.size + 1, 0, none⟩ = some (.int .i64 y1.1) ∧ W.cell? ⟨w.heap.size + 1, 1, none⟩ = some (.slice x1.2.1.a x1.2.1.n x1.2.1.c) ∧ W.cell? ⟨w.heap.size + 1, 2, none⟩ = some (.slice x1.2.2.1.a x1.2.2.1.n x1.2.2.1.c) ∧ W.cell? ⟨w.heap.size + 1, 3, none⟩ = some (.slice x1.2.2.2.a x1.2.2.2.n x1.2.2.2.c) ∧ W.cell? ⟨w.heap.size + 1 + 1, 0, none⟩ = some (.slice x2.p.a x2.p.n x2.p.c) ∧ W.cell? ⟨w.heap.size + 1 + 1, 1, none⟩ = some (.int .i64 h2.n1) ∧ W.cell? ⟨w.heap.size + 1 + 1, 2, none⟩ = some (.int .i64 h2.n2) ∧ W.cell? ⟨w.heap.size + 1 + 1, 3, none⟩ = some (.int .i64 h2.n3) ∧ W.cell? ⟨w.heap.size + 1 + 1, 4, none⟩ = some (.slice x2.t.a x2.t.n x2.t.c) ∧ W.cell? ⟨w.heap.size + 1 + 1, 5, none⟩ = some (.int .i64 h2.n5) ∧ W.cell? ⟨w.heap.size + 1 + 1, 6, none⟩ = some (.slice x2.s.a x2.s.n x2.s.c) ∧ W.cell? ⟨w.heap.size + 1 + 1, 7, none⟩ = some (.slice x2.r.a x2.r.n x2.r.c) ∧ W.cell? ⟨w.heap.size + 1 + 1, 8, none⟩ = some (.slice x2.g.a x2.g.n x2.g.c) ∧ W.cell? ⟨w.heap.size + 1 + 1, 9, none⟩ = some (.slice x2.e.a x2.e.n x2.e.c) ∧ W.cell? ⟨w.heap.size + 1 + 1, 10, none⟩ = some (.slice x2.k.a x2.k.n x2.k.c))
   (exact (unhide HA) _ (bStep (unhide K2) (by first | (with_reducible assumption) | (with_reducible refine set5 ?_ ?_ _ _ _ _ _ <;> first | (with_reducible assumption) | exact Nat.le_refl _ | exact J4.size | exact J5.size | exact J6.size | exact J7.size) | (with_reducible refine bAl ?_ _; first | (with_reducible assumption) | exact (Below.refl w2.heap.size w2).drew | exact below_drewN (Below.refl w2.heap.size w2) _ | exact Below.refl _ _) | (with_reducible refine Below.drew ?_; with_reducible refine bAl ?_ _; first | (with_reducible assumption) | with_reducible exact Below.refl _ _) | exact (Below.refl w2.heap.size w2).drew | exact below_drewN (Below.refl w2.heap.size w2) _ | exact Below.refl _ _ | (with_reducible refine below_drewN ?_ _; (with_reducible assumption)))))
   (first
    | (go_at_call 7; refine ((unhide TC) _).mono ?_; rintro r u1 ⟨rfl, b4⟩; (try (have kz1 := zb_first w2 b4)); have J4 : Below w2.heap.size w2 u1 := bStep (by first | (with_reducible refine bAl ?_ _; first | exact (Below.refl w2.heap.size w2).drew | exact below_drewN (Below.refl w2.heap.size w2) _ | exact Below.refl _ _) | (with_reducible refine Below.drew ?_; with_reducible refine bAl ?_ _; first | (with_reducible assumption) | with_reducible exact Below.refl _ _) | exact (Below.refl w2.heap.size w2).drew | exact below_drewN (Below.refl w2.heap.size w2) _ | exact Below.refl _ _) b4; clear b4)
    | (go_at_call 8; refine ((unhide T1) (unhide M1) _ (bStep (unhide HB2) (by first | with_reducible exact J4 | (with_reducible refine bAl ?_ _; with_reducible exact J4)))).mono ?_; rintro r u2 ⟨e1, _, rfl, p1', _, b5⟩; (try (have kz2 := zb_new u1 b5)); (try (have kz2 := zb_old kz1.1 b5)); have p1 := SNK.ok p1'; have J5 : Below w2.heap.size w2 u2 := bStep (by first | with_reducible exact J4 | (with_reducible refine bAl ?_ _; with_reducible exact J4)) b5; clear b5 p1')
    | (go_at_call_of 9 x2.p.c; refine ((unhide T2) (unhide M2) _ (bStep (unhide HB2) (by first | with_reducible exact J5 | (with_reducible refine bAl ?_ _; with_reducible exact J5)))).mono ?_; rintro r u3 ⟨e2, rfl, p2, _, b6⟩; (try (have kz3 := zb_new u2 b6)); (try (have kz3 := zb_old kz2.1 b6)); have q1 := SNK.below p1 (bStep (by first | with_reducible exact Below.refl _ _ | with_reducible exact bAl (Below.refl _ _) _) b6 : Below u2.heap.size u2 u3) (Nat.le_refl _); have J6 : Below w2.heap.size w2 u3 := bStep (by first | with_reducible exact J5 | (with_reducible refine bAl ?_ _; with_reducible exact J5)) b6; clear b6)
    | (go_at_call 6; refine ((unhide SPC) (unhide M1) (unhide M2) e1 e2 _ (SNK.below q1 (by first | with_reducible exact Below.refl u3.heap.size u3 | with_reducible exact bAl (Below.refl u3.heap.size u3) _) (Nat.le_refl _)) (p2.below (by first | with_reducible exact Below.refl u3.heap.size u3 | with_reducible exact bAl (Below.refl u3.heap.size u3) _) (Nat.le_refl _))).mono ?_; rintro r u4 ⟨ew, rfl, RO, b7⟩; (try (have kz4 := zb_new u3 b7)); (try (have kz4 := zb_old kz3.1 b7)); (try (have kz' := kz4.1; obtain ⟨⟨z0, z1, z2, z3, z4⟩, y0, y1', y2, y3, y4⟩ := five_blk kz')); have J7 : Below w2.heap.size w2 u4 := bStep (by first | with_reducible exact J6 | (with_reducible refine bAl ?_ _; with_reducible exact J6)) b7))
  all_goals
   try go_wp2_with fail
   go_meet
   first
    | (have kz := kz4.1
       obtain ⟨k9, n9, b9⟩ := ret5 kz (.int .i64 c) (.int .i64 S.1) (.slice ew.2.1.a ew.2.1.n ew.2.1.c) (.slice ew.2.2.1.a ew.2.2.1.n ew.2.2.1.c) (.slice ew.2.2.2.a ew.2.2.2.n ew.2.2.2.c)
       exact ⟨_, ew, rfl, k9, RO _ (fun q a b => n9 q (by have := kz4.2; omega)), b9 _ _ (by first | exact Nat.le_refl _ | exact J4.size | exact J5.size | exact J6.size) J7⟩)
    | exact ⟨u4.heap.size, ew, rfl, SBlk.new u4 (srvals c ew S) 39, RO _ (fun q _ hq => (below_alloc u4 _).block q hq), bAl J7 _⟩
 obtain ⟨gw, ew, rfl, kw, RW, b1⟩ := hcut
 obtain ⟨w3, hwc⟩ : ∃ W, W = wc := ⟨_, rfl⟩
 subst hwc
 have HB3 := hide ((unhide HB2).trans (b1.mono (unhide HB2).size))
 have K3 := hide ((unhide K2).trans (b1.mono (unhide K2).size))
 clear HB2 K2 b1 SPC
 have L3 := hide (Below.refl w3.heap.size w3)
 have z5 := (unhide K3).size
 have HKW := hide (And.intro kw RW)
 clear kw RW
 obtain ⟨c0, c1, c2, s0, s1, s2, s3, n0, n1, n2, n3, n4, n5, n6, n7, n8, n9, n10⟩ := (unhide HA) w3 (unhide K3)
 clear c0 c1 c2 n0 n1 n2 n3 n4 n5 n6 n7 n8 n9 n10
 go_wp2_with fail
 refine ((unhide T1) (unhide M1) _ (unhide HB3)).mono ?_
 rintro r w4 ⟨f1, d1, rfl, P1, D1, b1⟩
 have sz1 := b1.size
 replace D1 := hide D1
 replace P1 := hide P1
 have zB1 := (unhide L3).size
 have HB4 := hide ((unhide HB3).trans (b1.mono (unhide HB3).size))
 have K4 := hide ((unhide K3).trans (b1.mono (unhide K3).size))
 have L4 := hide ((unhide L3).trans (b1.mono (unhide L3).size))
 clear HB3 K3 L3 b1 s0 s1 s2 s3
 have H1 := SBlk.new w4 (snvals f1 y1) 37
 have hb := below_alloc w4 (.cells (snvals f1 y1) 37)
 obtain ⟨w5, ee⟩ : ∃ W, w4.alloc (.cells (snvals f1 y1) 37) = W := ⟨_, rfl⟩
 rw [ee] at H1 hb
 replace H1 := hide H1
 have sy1 := hb.size
 replace P1 := hide (Kd.ownBelow SNK (unhide P1) hb (Nat.le_refl _))
 have HB5 := hide ((unhide HB4).trans (hb.mono (unhide HB4).size))
 have K5 := hide ((unhide K4).trans (hb.mono (unhide K4).size))
 have L5 := hide ((unhide L4).trans (hb.mono (unhide L4).size))
 clear HB4 K4 L4 hb
 unfold snvals at ee ⊢
 go_upto_region 10 with (rw [ee])
 try rw [ee]
 clear ee
 obtain ⟨g1, hg⟩ : ∃ g, g = w4.heap.size := ⟨_, rfl⟩
 rw [← hg]
 replace H1 := hide (show SBlk w5 g1 (snvals f1 y1).toList 37 from by rw [hg]; exact unhide H1)
 have zg1 := Nat.le_of_eq hg.symm
 clear hg
 obtain ⟨c0, c1, c2, s0, s1, s2, s3, n0, n1, n2, n3, n4, n5, n6, n7, n8, n9, n10⟩ := (unhide HA) w5 (unhide K5)
 clear c0 c1 c2 s0 s1 s2 s3
 go_wp2_with fail
 refine ((unhide T2) (unhide M2) _ (unhide HB5)).mono ?_
 rintro r w6 ⟨f2, rfl, P2, C2, b1⟩
 have sz2 := b1.size
 replace P2 := hide P2
 replace C2 := hide C2
 replace P1 := hide (Kd.ownBelow SNK (unhide P1) b1 (Nat.le_refl _))
 replace H1 := hide ((unhide H1).below b1 (unhide H1).lt)
 have HB6 := hide ((unhide HB5).trans (b1.mono (unhide HB5).size))
 have K6 := hide ((unhide K5).trans (b1.mono (unhide K5).size))
 have L6 := hide ((unhide L5).trans (b1.mono (unhide L5).size))
 clear HB5 K5 L5 b1 n0 n1 n2 n3 n4 n5 n6 n7 n8 n9 n10
 have H2 := SBlk.new w6 (hvals f2 h2) 44
 have hb := below_alloc w6 (.cells (hvals f2 h2) 44)
 obtain ⟨w7, ee⟩ : ∃ W, w6.alloc (.cells (hvals f2 h2) 44) = W := ⟨_, rfl⟩
 rw [ee] at H2 hb
 replace H2 := hide H2
 have sy2 := hb.size
 replace P1 := hide (Kd.ownBelow SNK (unhide P1) hb (Nat.le_refl _))
 replace H1 := hide ((unhide H1).below hb (unhide H1).lt)
 replace P2 := hide ((unhide P2).below hb (Nat.le_refl _))
 replace C2 := hide ((unhide C2).below hb (Nat.le_refl _))
 have HB7 := hide ((unhide HB6).trans (hb.mono (unhide HB6).size))
 have K7 := hide ((unhide K6).trans (hb.mono (unhide K6).size))
 have L7 := hide ((unhide L6).trans (hb.mono (unhide L6).size))
 clear HB6 K6 L6 hb
 unfold hvals at ee ⊢
 go_upto_region 11 with (rw [ee])
 try rw [ee]
 clear ee
 obtain ⟨g2, hg⟩ : ∃ g, g = w6.heap.size := ⟨_, rfl⟩
 rw [← hg]
 replace H2 := hide (show SBlk w7 g2 (hvals f2 h2).toList 44 from by rw [hg]; exact unhide H2)
 have zg2 := Nat.le_of_eq hg.symm
 clear hg
 have zc := Nat.le_refl w7.heap.size
 have HS : Hid (∀ W, Below w7.heap.size w7 W → (fun W => (W.cell? ⟨w.heap.size, 0, none⟩ = some (.int .i64 x0.1) ∧ W.cell? ⟨w.heap.size, 1, none⟩ = some (.int .i64 x0.2.1) ∧ W.cell? ⟨w.heap.size, 2, none⟩ = some (.int .i64 x0.2.2)) ∧ (W.cell? ⟨g1, 0, none⟩ = some (.int .i64 y1.1) ∧ W.cell? ⟨g1, 1, none⟩ = some (.slice f1.2.1.a f1.2.1.n f1.2.1.c) ∧ W.cell? ⟨g1, 2, none⟩ = some (.slice f1.2.2.1.a f1.2.2.1.n f1.2.2.1.c) ∧ W.cell? ⟨g1, 3, none⟩ = some (.slice f1.2.2.2.a f1.2.2.2.n f1.2.2.2.c)) ∧ (W.cell? ⟨g2, 0, none⟩ = some (.slice f2.p.a f2.p.n f2.p.c) ∧ W.cell? ⟨g2, 1, none⟩ = some (.int .i64 h2.n1) ∧ W.cell? ⟨g2, 2, none⟩ = some (.int .i64 h2.n2) ∧ W.cell? ⟨g2, 3, none⟩ = some (.int .i64 h2.n3) ∧ W.cell? ⟨g2, 4, none⟩ = some (.slice f2.t.a f2.t.n f2.t.c) ∧ W.cell? ⟨g2, 5, none⟩ = some (.int .i64 h2.n5) ∧ W.cell? ⟨g2, 6, none⟩ = some (.slice f2.s.a f2.s.n f2.s.c) ∧ W.cell? ⟨g2, 7, none⟩ = some (.slice f2.r.a f2.r.n f2.r.c) ∧ W.cell? ⟨g2, 8, none⟩ = some (.slice f2.g.a f2.g.n f2.g.c) ∧ W.cell? ⟨g2, 9, none⟩ = some (.slice f2.e.a f2.e.n f2.e.c) ∧ W.cell? ⟨g2, 10, none⟩ = some (.slice f2.k.a f2.k.n f2.k.c))) W) := fun W hb => by
  obtain ⟨c0, c1, c2, s0, s1, s2, s3, n0, n1, n2, n3, n4, n5, n6, n7, n8, n9, n10⟩ := (unhide HA) W (bStep (unhide K7) hb)
  have q1 := (unhide H1).below hb (unhide H1).lt
  have q2 := (unhide H2).below hb (unhide H2).lt
  exact ⟨⟨c0, c1, c2⟩, ⟨q1.cell 0, q1.cell 1, q1.cell 2, q1.cell 3⟩, ⟨q2.cell 0, q2.cell 1, q2.cell 2, q2.cell 3, q2.cell 4, q2.cell 5, q2.cell 6, q2.cell 7, q2.cell 8, q2.cell 9, q2.cell 10⟩⟩
 go_upto_region 11 with fail
 go_cut [11] (fun s wx => ∃ (g : Nat) (eg : SnS) (dg : Nat → Path) (B : Nat), s = .pointer (some ⟨g, 0, none⟩) ∧ SBlk wx g (srvals c eg S).toList 39 ∧ SNK.Own wx B dg [0] eg S ∧ (∀ q, wx.heap.size ≤ q → dg q = [1]) ∧ (w7.heap.size ≤ B ∧ B ≤ wx.heap.size) ∧ (g < B ∨ dg g = [1]) ∧ w7.heap.size ≤ g ∧ Below w7.heap.size w7 wx)
 case first =>
  obtain ⟨⟨c0, c1, c2⟩, ⟨t0, t1, t2, t3⟩, ⟨v0, v1, v2, v3, v4, v5, v6, v7, v8, v9, v10⟩⟩ := (unhide HS) w7 (Below.refl _ _)
  go_region_held3 (fun W => (W.cell? ⟨w.heap.size, 0, none⟩ = some (.int .i64 x0.1) ∧ W.cell? ⟨w.heap.size, 1, none⟩ = some (.int .i64 x0.2.1) ∧ W.cell? ⟨w.heap.size, 2, none⟩ = some (.int .i64 x0.2.2)) ∧ (W.cell? ⟨g1, 0, none⟩ = some (.int .i64 y1.1) ∧ W.cell? ⟨g1, 1, none⟩ = some (.slice f1.2.1.a f1.2.1.n f1.2.1.c) ∧ W.cell? ⟨g1, 2, none⟩ = some (.slice f1.2.2.1.a f1.2.2.1.n f1.2.2.1.c) ∧ W.cell? ⟨g1, 3, none⟩ = some (.slice f1.2.2.2.a f1.2.2.2.n f1.2.2.2.c)) ∧ (W.cell? ⟨g2, 0, none⟩ = some (.slice f2.p.a f2.p.n f2.p.c) ∧ W.cell? ⟨g2, 1, none⟩ = some (.int .i64 h2.n1) ∧ W.cell? ⟨g2, 2, none⟩ = some (.int .i64 h2.n2) ∧ W.cell? ⟨g2, 3, none⟩ = some (.int .i64 h2.n3) ∧ W.cell? ⟨g2, 4, none⟩ = some (.slice f2.t.a f2.t.n f2.t.c) ∧ W.cell? ⟨g2, 5, none⟩ = some (.int .i64 h2.n5) ∧ W.cell? ⟨g2, 6, none⟩ = some (.slice f2.s.a f2.s.n f2.s.c) ∧ W.cell? ⟨g2, 7, none⟩ = some (.slice f2.r.a f2.r.n f2.r.c) ∧ W.cell? ⟨g2, 8, none⟩ = some (.slice f2.g.a f2.g.n f2.g.c) ∧ W.cell? ⟨g2, 9, none⟩ = some (.slice f2.e.a f2.e.n f2.e.c) ∧ W.cell? ⟨g2, 10, none⟩ = some (.slice f2.k.a f2.k.n f2.k.c)))
   (exact (unhide HS) _ (by first | (with_reducible assumption) | (with_reducible refine set5 ?_ ?_ _ _ _ _ _ <;> first | (with_reducible assumption) | exact Nat.le_refl _ | exact J4.size | exact J5.size) | (with_reducible refine bAl ?_ _; first | (with_reducible assumption) | exact (Below.refl w7.heap.size w7).drew | exact below_drewN (Below.refl w7.heap.size w7) _ | exact Below.refl _ _) | (with_reducible refine Below.drew ?_; with_reducible refine bAl ?_ _; first | (with_reducible assumption) | with_reducible exact Below.refl _ _) | exact (Below.refl w7.heap.size w7).drew | exact below_drewN (Below.refl w7.heap.size w7) _ | exact Below.refl _ _ | (with_reducible refine below_drewN ?_ _; (with_reducible assumption))))
   (first
    | (go_at_call 7; refine ((unhide TC) _).mono ?_; rintro r u1 ⟨rfl, b4⟩; (try (have kz1 := zb_first w7 b4)); have J4 : Below w7.heap.size w7 u1 := bStep (by first | (with_reducible refine bAl ?_ _; first | exact (Below.refl w7.heap.size w7).drew | exact below_drewN (Below.refl w7.heap.size w7) _ | exact Below.refl _ _) | (with_reducible refine Below.drew ?_; with_reducible refine bAl ?_ _; first | (with_reducible assumption) | with_reducible exact Below.refl _ _) | exact (Below.refl w7.heap.size w7).drew | exact below_drewN (Below.refl w7.heap.size w7) _ | exact Below.refl _ _) b4; clear b4)
    | (go_at_call 10; refine ((unhide IMC) (unhide M1) (unhide M2) f1 f2 _ (SNK.below (SNK.ok (unhide P1)) (by first | with_reducible exact J4 | (with_reducible refine bAl ?_ _; with_reducible exact J4)) (Nat.le_refl _)) ((unhide P2).below (by first | with_reducible exact J4 | (with_reducible refine bAl ?_ _; with_reducible exact J4)) (Nat.le_refl _)) _ (Nat.le_refl _)).mono ?_; rintro r u2 ⟨eg, dg, rfl, RO, DG, b5⟩; (try (have kz2 := zb_new u1 b5)); (try (have kz2 := zb_old kz1.1 b5)); (try (have kz' := kz2.1; obtain ⟨⟨z0, z1, z2, z3, z4⟩, y0, y1', y2, y3, y4⟩ := five_blk kz')); have J5 : Below w7.heap.size w7 u2 := bStep (by first | with_reducible exact J4 | (with_reducible refine bAl ?_ _; with_reducible exact J4)) b5; have hbs : w7.heap.size ≤ _ := (Below.size (show Below w7.heap.size w7 _ from by first | with_reducible exact J4 | with_reducible exact bAl J4 _)); have hbz := b5.size))
  all_goals
   try go_wp2_with fail
   go_meet
   first
    | (have kz := kz2.1
       have hk2 := kz2.2
       obtain ⟨k9, n9, b9⟩ := ret5 kz (.int .i64 c) (.int .i64 S.1) (.slice eg.2.1.a eg.2.1.n eg.2.1.c) (.slice eg.2.2.1.a eg.2.2.1.n eg.2.2.1.c) (.slice eg.2.2.2.a eg.2.2.2.n eg.2.2.2.c)
       have b99 := b9 _ _ (by first | exact Nat.le_refl _ | exact J4.size) J5
       exact ⟨_, eg, dg, _, rfl, k9, SNK.frame RO (fun q a b _ => n9 q (by omega)), fun q hq => DG q (by simpa [World.setCell] using hq), ⟨by omega, by simp only [World.setCell]; simpa using hbz⟩, Or.inl hk2, (by first | exact Nat.le_refl _ | exact J4.size), b99⟩)
    | exact ⟨u2.heap.size, eg, dg, _, rfl, SBlk.new u2 (srvals c eg S) 39, Kd.ownBelow SNK RO (below_alloc u2 _) (Nat.le_refl _), fun q hq => DG q (Nat.le_trans (below_alloc u2 _).size hq), ⟨by omega, Nat.le_trans hbz (below_alloc u2 _).size⟩, Or.inr (DG _ (Nat.le_refl _)), J5.size, bAl J5 _⟩
 obtain ⟨gg, eg, dg, BG, rfl, KG, PG, DG, hB, HG, hgl, b1⟩ := hcut
 obtain ⟨w8, hwc⟩ : ∃ W, W = wc := ⟨_, rfl⟩
 subst hwc
 replace KG := hide KG
 replace PG := hide PG
 replace DG := hide DG
 replace HG := hide HG
 have szg := b1.size
 have ze := Nat.le_refl w8.heap.size
 replace P1 := hide (Kd.ownBelow SNK (unhide P1) b1 (Nat.le_refl _))
 replace H1 := hide ((unhide H1).below b1 (unhide H1).lt)
 replace P2 := hide ((unhide P2).below b1 (Nat.le_refl _))
 replace C2 := hide ((unhide C2).below b1 (Nat.le_refl _))
 replace H2 := hide ((unhide H2).below b1 (unhide H2).lt)
 have HB8 := hide ((unhide HB7).trans (b1.mono (unhide HB7).size))
 have K8 := hide ((unhide K7).trans (b1.mono (unhide K7).size))
 have L8 := hide ((unhide L7).trans (b1.mono (unhide L7).size))
 replace zc := Nat.le_trans zc b1.size
 clear HB7 K7 L7 b1 HS
 have d0 := (unhide KG).cell 0
 have d1 := (unhide KG).cell 1
 have d2 := (unhide KG).cell 2
 have d3 := (unhide KG).cell 3
 have d4 := (unhide KG).cell 4
 simp only [srvals, Array.toList, List.getElem?_cons_zero, List.getElem?_cons_succ] at d0 d1 d2 d3 d4
 have a0 := ((unhide HKW).1.below (unhide L8) (unhide HKW).1.lt).cell 0
 have a1 := ((unhide HKW).1.below (unhide L8) (unhide HKW).1.lt).cell 1
 have a2 := ((unhide HKW).1.below (unhide L8) (unhide HKW).1.lt).cell 2
 have a3 := ((unhide HKW).1.below (unhide L8) (unhide HKW).1.lt).cell 3
 have a4 := ((unhide HKW).1.below (unhide L8) (unhide HKW).1.lt).cell 4
 simp only [srvals, Array.toList, List.getElem?_cons_zero, List.getElem?_cons_succ] at a0 a1 a2 a3 a4
 go_wp2_with fail
 refine (eqSnR_same c eg ew S _ (SNK.ok (unhide PG)) (SNK.below (unhide HKW).2 (unhide L8) (Nat.le_refl _)) (unhide HT).sm).mono ?_
 rintro r w9 ⟨rfl, b1⟩
 replace P1 := hide (Kd.ownBelow SNK (unhide P1) b1 (Nat.le_refl _))
 replace H1 := hide ((unhide H1).below b1 (unhide H1).lt)
 replace P2 := hide ((unhide P2).below b1 (Nat.le_refl _))
 replace C2 := hide ((unhide C2).below b1 (Nat.le_refl _))
 replace H2 := hide ((unhide H2).below b1 (unhide H2).lt)
 replace PG := hide (Kd.ownBelow SNK (unhide PG) b1 (Nat.le_refl _))
 replace KG := hide ((unhide KG).below b1 (unhide KG).lt)
 have HB9 := hide ((unhide HB8).trans (b1.mono (unhide HB8).size))
 have K9 := hide ((unhide K8).trans (b1.mono (unhide K8).size))
 have L9 := hide ((unhide L8).trans (b1.mono (unhide L8).size))
 replace zc := Nat.le_trans zc b1.size
 replace ze := Nat.le_trans ze b1.size
 clear HB8 K8 L8 b1 d0 d1 d2 d3 d4 a0 a1 a2 a3 a4
 have HS : Hid (∀ W, Below w9.heap.size w9 W → (fun W => (W.cell? ⟨g1, 0, none⟩ = some (.int .i64 y1.1) ∧ W.cell? ⟨g1, 1, none⟩ = some (.slice f1.2.1.a f1.2.1.n f1.2.1.c) ∧ W.cell? ⟨g1, 2, none⟩ = some (.slice f1.2.2.1.a f1.2.2.1.n f1.2.2.1.c) ∧ W.cell? ⟨g1, 3, none⟩ = some (.slice f1.2.2.2.a f1.2.2.2.n f1.2.2.2.c)) ∧ (W.cell? ⟨w.heap.size + 1, 0, none⟩ = some (.int .i64 y1.1) ∧ W.cell? ⟨w.heap.size + 1, 1, none⟩ = some (.slice x1.2.1.a x1.2.1.n x1.2.1.c) ∧ W.cell? ⟨w.heap.size + 1, 2, none⟩ = some (.slice x1.2.2.1.a x1.2.2.1.n x1.2.2.1.c) ∧ W.cell? ⟨w.heap.size + 1, 3, none⟩ = some (.slice x1.2.2.2.a x1.2.2.2.n x1.2.2.2.c))) W) := fun W hb => by
  obtain ⟨c0, c1, c2, s0, s1, s2, s3, n0, n1, n2, n3, n4, n5, n6, n7, n8, n9, n10⟩ := (unhide HA) W (bStep (unhide K9) hb)
  have q := (unhide H1).below hb (unhide H1).lt
  exact ⟨⟨q.cell 0, q.cell 1, q.cell 2, q.cell 3⟩, ⟨s0, s1, s2, s3⟩⟩
 go_wp2_with fail
 go_region_held3 (fun W => (W.cell? ⟨g1, 0, none⟩ = some (.int .i64 y1.1) ∧ W.cell? ⟨g1, 1, none⟩ = some (.slice f1.2.1.a f1.2.1.n f1.2.1.c) ∧ W.cell? ⟨g1, 2, none⟩ = some (.slice f1.2.2.1.a f1.2.2.1.n f1.2.2.1.c) ∧ W.cell? ⟨g1, 3, none⟩ = some (.slice f1.2.2.2.a f1.2.2.2.n f1.2.2.2.c)) ∧ (W.cell? ⟨w.heap.size + 1, 0, none⟩ = some (.int .i64 y1.1) ∧ W.cell? ⟨w.heap.size + 1, 1, none⟩ = some (.slice x1.2.1.a x1.2.1.n x1.2.1.c) ∧ W.cell? ⟨w.heap.size + 1, 2, none⟩ = some (.slice x1.2.2.1.a x1.2.2.1.n x1.2.2.1.c) ∧ W.cell? ⟨w.heap.size + 1, 3, none⟩ = some (.slice x1.2.2.2.a x1.2.2.2.n x1.2.2.2.c)))
  (exact (unhide HS) _ (by first | (with_reducible assumption) | (with_reducible refine set5 ?_ ?_ _ _ _ _ _ <;> first | (with_reducible assumption) | exact Nat.le_refl _ | exact J1.size) | (with_reducible refine bAl ?_ _; first | (with_reducible assumption) | exact (Below.refl w9.heap.size w9).drew | exact below_drewN (Below.refl w9.heap.size w9) _ | exact Below.refl _ _) | (with_reducible refine Below.drew ?_; with_reducible refine bAl ?_ _; first | (with_reducible assumption) | with_reducible exact Below.refl _ _) | exact (Below.refl w9.heap.size w9).drew | exact below_drewN (Below.refl w9.heap.size w9) _ | exact Below.refl _ _ | (with_reducible refine below_drewN ?_ _; (with_reducible assumption))))
  (first
   | (go_at_call 12; refine ((unhide Q1) (unhide M1) f1 e1 _ (SNK.below (SNK.ok (unhide P1)) J1 (Nat.le_refl _)) (SNK.ok p1)).mono ?_; rintro r w10 ⟨rfl, b2⟩; have JJ : Below w9.heap.size w9 w10 := J1.trans (b2.mono J1.size); clear b2)
   | (go_at_call 8; refine ((unhide T1) (unhide M1) _ ((unhide HB9).trans (Below.mono (by first | (with_reducible refine bAl ?_ _; first | exact (Below.refl w9.heap.size w9).drew | exact below_drewN (Below.refl w9.heap.size w9) _ | exact Below.refl _ _) | (with_reducible refine Below.drew ?_; with_reducible refine bAl ?_ _; first | (with_reducible assumption) | with_reducible exact Below.refl _ _) | exact (Below.refl w9.heap.size w9).drew | exact below_drewN (Below.refl w9.heap.size w9) _ | exact Below.refl _ _) (unhide HB9).size))).mono ?_; rintro r u1 ⟨e1, _, rfl, p1, _, b1⟩; have J1 : Below w9.heap.size w9 u1 := Below.trans (by first | (with_reducible refine bAl ?_ _; first | exact (Below.refl w9.heap.size w9).drew | exact below_drewN (Below.refl w9.heap.size w9) _ | exact Below.refl _ _) | (with_reducible refine Below.drew ?_; with_reducible refine bAl ?_ _; first | (with_reducible assumption) | with_reducible exact Below.refl _ _) | exact (Below.refl w9.heap.size w9).drew | exact below_drewN (Below.refl w9.heap.size w9) _ | exact Below.refl _ _) (b1.mono (by first | exact Nat.le_refl _ | exact (below_drewN (Below.refl w9.heap.size w9) _).size)); clear b1))
 replace P1 := hide (Kd.ownBelow SNK (unhide P1) JJ (Nat.le_refl _))
 replace H1 := hide ((unhide H1).below JJ (unhide H1).lt)
 replace P2 := hide ((unhide P2).below JJ (Nat.le_refl _))
 replace C2 := hide ((unhide C2).below JJ (Nat.le_refl _))
 replace H2 := hide ((unhide H2).below JJ (unhide H2).lt)
 replace PG := hide (Kd.ownBelow SNK (unhide PG) JJ (Nat.le_refl _))
 replace KG := hide ((unhide KG).below JJ (unhide KG).lt)
 have HB10 := hide ((unhide HB9).trans (JJ.mono (unhide HB9).size))
 have K10 := hide ((unhide K9).trans (JJ.mono (unhide K9).size))
 have L10 := hide ((unhide L9).trans (JJ.mono (unhide L9).size))
 replace zc := Nat.le_trans zc JJ.size
 replace ze := Nat.le_trans ze JJ.size
 clear HB9 K9 L9 JJ J1 p1 HS
 have HS : Hid (∀ W, Below w10.heap.size w10 W → (fun W => (W.cell? ⟨g2, 0, none⟩ = some (.slice f2.p.a f2.p.n f2.p.c) ∧ W.cell? ⟨g2, 1, none⟩ = some (.int .i64 h2.n1) ∧ W.cell? ⟨g2, 2, none⟩ = some (.int .i64 h2.n2) ∧ W.cell? ⟨g2, 3, none⟩ = some (.int .i64 h2.n3) ∧ W.cell? ⟨g2, 4, none⟩ = some (.slice f2.t.a f2.t.n f2.t.c) ∧ W.cell? ⟨g2, 5, none⟩ = some (.int .i64 h2.n5) ∧ W.cell? ⟨g2, 6, none⟩ = some (.slice f2.s.a f2.s.n f2.s.c) ∧ W.cell? ⟨g2, 7, none⟩ = some (.slice f2.r.a f2.r.n f2.r.c) ∧ W.cell? ⟨g2, 8, none⟩ = some (.slice f2.g.a f2.g.n f2.g.c) ∧ W.cell? ⟨g2, 9, none⟩ = some (.slice f2.e.a f2.e.n f2.e.c) ∧ W.cell? ⟨g2, 10, none⟩ = some (.slice f2.k.a f2.k.n f2.k.c)) ∧ (W.cell? ⟨w.heap.size + 1 + 1, 0, none⟩ = some (.slice x2.p.a x2.p.n x2.p.c) ∧ W.cell? ⟨w.heap.size + 1 + 1, 1, none⟩ = some (.int .i64 h2.n1) ∧ W.cell? ⟨w.heap.size + 1 + 1, 2, none⟩ = some (.int .i64 h2.n2) ∧ W.cell? ⟨w.heap.size + 1 + 1, 3, none⟩ = some (.int .i64 h2.n3) ∧ W.cell? ⟨w.heap.size + 1 + 1, 4, none⟩ = some (.slice x2.t.a x2.t.n x2.t.c) ∧ W.cell? ⟨w.heap.size + 1 + 1, 5, none⟩ = some (.int .i64 h2.n5) ∧ W.cell? ⟨w.heap.size + 1 + 1, 6, none⟩ = some (.slice x2.s.a x2.s.n x2.s.c) ∧ W.cell? ⟨w.heap.size + 1 + 1, 7, none⟩ = some (.slice x2.r.a x2.r.n x2.r.c) ∧ W.cell? ⟨w.heap.size + 1 + 1, 8, none⟩ = some (.slice x2.g.a x2.g.n x2.g.c) ∧ W.cell? ⟨w.heap.size + 1 + 1, 9, none⟩ = some (.slice x2.e.a x2.e.n x2.e.c) ∧ W.cell? ⟨w.heap.size + 1 + 1, 10, none⟩ = some (.slice x2.k.a x2.k.n x2.k.c))) W) := fun W hb => by
  obtain ⟨c0, c1, c2, s0, s1, s2, s3, n0, n1, n2, n3, n4, n5, n6, n7, n8, n9, n10⟩ := (unhide HA) W (bStep (unhide K10) hb)
  have q := (unhide H2).below hb (unhide H2).lt
  exact ⟨⟨q.cell 0, q.cell 1, q.cell 2, q.cell 3, q.cell 4, q.cell 5, q.cell 6, q.cell 7, q.cell 8, q.cell 9, q.cell 10⟩, ⟨n0, n1, n2, n3, n4, n5, n6, n7, n8, n9, n10⟩⟩
 go_wp2_with fail
 go_region_held3 (fun W => (W.cell? ⟨g2, 0, none⟩ = some (.slice f2.p.a f2.p.n f2.p.c) ∧ W.cell? ⟨g2, 1, none⟩ = some (.int .i64 h2.n1) ∧ W.cell? ⟨g2, 2, none⟩ = some (.int .i64 h2.n2) ∧ W.cell? ⟨g2, 3, none⟩ = some (.int .i64 h2.n3) ∧ W.cell? ⟨g2, 4, none⟩ = some (.slice f2.t.a f2.t.n f2.t.c) ∧ W.cell? ⟨g2, 5, none⟩ = some (.int .i64 h2.n5) ∧ W.cell? ⟨g2, 6, none⟩ = some (.slice f2.s.a f2.s.n f2.s.c) ∧ W.cell? ⟨g2, 7, none⟩ = some (.slice f2.r.a f2.r.n f2.r.c) ∧ W.cell? ⟨g2, 8, none⟩ = some (.slice f2.g.a f2.g.n f2.g.c) ∧ W.cell? ⟨g2, 9, none⟩ = some (.slice f2.e.a f2.e.n f2.e.c) ∧ W.cell? ⟨g2, 10, none⟩ = some (.slice f2.k.a f2.k.n f2.k.c)) ∧ (W.cell? ⟨w.heap.size + 1 + 1, 0, none⟩ = some (.slice x2.p.a x2.p.n x2.p.c) ∧ W.cell? ⟨w.heap.size + 1 + 1, 1, none⟩ = some (.int .i64 h2.n1) ∧ W.cell? ⟨w.heap.size + 1 + 1, 2, none⟩ = some (.int .i64 h2.n2) ∧ W.cell? ⟨w.heap.size + 1 + 1, 3, none⟩ = some (.int .i64 h2.n3) ∧ W.cell? ⟨w.heap.size + 1 + 1, 4, none⟩ = some (.slice x2.t.a x2.t.n x2.t.c) ∧ W.cell? ⟨w.heap.size + 1 + 1, 5, none⟩ = some (.int .i64 h2.n5) ∧ W.cell? ⟨w.heap.size + 1 + 1, 6, none⟩ = some (.slice x2.s.a x2.s.n x2.s.c) ∧ W.cell? ⟨w.heap.size + 1 + 1, 7, none⟩ = some (.slice x2.r.a x2.r.n x2.r.c) ∧ W.cell? ⟨w.heap.size + 1 + 1, 8, none⟩ = some (.slice x2.g.a x2.g.n x2.g.c) ∧ W.cell? ⟨w.heap.size + 1 + 1, 9, none⟩ = some (.slice x2.e.a x2.e.n x2.e.c) ∧ W.cell? ⟨w.heap.size + 1 + 1, 10, none⟩ = some (.slice x2.k.a x2.k.n x2.k.c)))
  (exact (unhide HS) _ (by first | (with_reducible assumption) | (with_reducible refine set5 ?_ ?_ _ _ _ _ _ <;> first | (with_reducible assumption) | exact Nat.le_refl _ | exact J1.size) | (with_reducible refine bAl ?_ _; first | (with_reducible assumption) | exact (Below.refl w10.heap.size w10).drew | exact below_drewN (Below.refl w10.heap.size w10) _ | exact Below.refl _ _) | (with_reducible refine Below.drew ?_; with_reducible refine bAl ?_ _; first | (with_reducible assumption) | with_reducible exact Below.refl _ _) | exact (Below.refl w10.heap.size w10).drew | exact below_drewN (Below.refl w10.heap.size w10) _ | exact Below.refl _ _ | (with_reducible refine below_drewN ?_ _; (with_reducible assumption))))
  (first
   | (go_at_call 13; refine ((unhide Q2) (unhide M2) f2 e2 _ ((unhide P2).kd.ok.below J1 (Nat.le_refl _)) p1.kd.ok).mono ?_; rintro r w11 ⟨rfl, b2⟩; have JJ : Below w10.heap.size w10 w11 := J1.trans (b2.mono J1.size); clear b2)
   | (go_at_call 9; refine ((unhide T2) (unhide M2) _ ((unhide HB10).trans (Below.mono (by first | (with_reducible refine bAl ?_ _; first | exact (Below.refl w10.heap.size w10).drew | exact below_drewN (Below.refl w10.heap.size w10) _ | exact Below.refl _ _) | (with_reducible refine Below.drew ?_; with_reducible refine bAl ?_ _; first | (with_reducible assumption) | with_reducible exact Below.refl _ _) | exact (Below.refl w10.heap.size w10).drew | exact below_drewN (Below.refl w10.heap.size w10) _ | exact Below.refl _ _) (unhide HB10).size))).mono ?_; rintro r u1 ⟨e2, rfl, p1, _, b1⟩; have J1 : Below w10.heap.size w10 u1 := Below.trans (by first | (with_reducible refine bAl ?_ _; first | exact (Below.refl w10.heap.size w10).drew | exact below_drewN (Below.refl w10.heap.size w10) _ | exact Below.refl _ _) | (with_reducible refine Below.drew ?_; with_reducible refine bAl ?_ _; first | (with_reducible assumption) | with_reducible exact Below.refl _ _) | exact (Below.refl w10.heap.size w10).drew | exact below_drewN (Below.refl w10.heap.size w10) _ | exact Below.refl _ _) (b1.mono (by first | exact Nat.le_refl _ | exact (below_drewN (Below.refl w10.heap.size w10) _).size)); clear b1))
 replace P1 := hide (Kd.ownBelow SNK (unhide P1) JJ (Nat.le_refl _))
 replace H1 := hide ((unhide H1).below JJ (unhide H1).lt)
 replace P2 := hide ((unhide P2).below JJ (Nat.le_refl _))
 replace C2 := hide ((unhide C2).below JJ (Nat.le_refl _))
 replace H2 := hide ((unhide H2).below JJ (unhide H2).lt)
 replace PG := hide (Kd.ownBelow SNK (unhide PG) JJ (Nat.le_refl _))
 replace KG := hide ((unhide KG).below JJ (unhide KG).lt)
 have HB11 := hide ((unhide HB10).trans (JJ.mono (unhide HB10).size))
 have K11 := hide ((unhide K10).trans (JJ.mono (unhide K10).size))
 have L11 := hide ((unhide L10).trans (JJ.mono (unhide L10).size))
 replace zc := Nat.le_trans zc JJ.size
 replace ze := Nat.le_trans ze JJ.size
 clear HB10 K10 L10 JJ J1 p1 HS
 have t0 := (unhide H1).cell 0
 have t1 := (unhide H1).cell 1
 have t2 := (unhide H1).cell 2
 have t3 := (unhide H1).cell 3
 simp only [snvals, Array.toList, List.getElem?_cons_zero, List.getElem?_cons_succ] at t0 t1 t2 t3
 obtain ⟨kn0, ek⟩ : ∃ K : Int, 1 + (snTot y1 : Nat) = K := ⟨_, rfl⟩
 have D := hide (markSn_p w3.heap.size d1 [0] f1 y1 1 w11 (unhide P1) (unhide M1) (by omega) (by omega) (by omega) (not_one (unhide D1) _ (by omega)))
 rw [ek] at D
 have hk0 : 0 ≤ kn0 ∧ kn0 ≤ 8388608 := by have := SnT.tot (unhide M1); omega
 unfold snvals at D
 clear ek
 go_wp2_with fail
 refine (unhide D).mono ?_
 rintro r w12 ⟨rfl, _, on⟩
 have hi := Hi.of on (unhide D1)
 replace KG := hide (hi.sblk (unhide KG) (by omega))
 replace PG := hide (hi.own SNK (unhide PG) (by omega))
 replace H2 := hide (hi.sblk (unhide H2) (by omega))
 replace C2 := hide (HOwnC.only ⟨on.1, hi⟩ (unhide C2) (by omega))
 have b1 := on.1
 have HB12 := hide ((unhide HB11).trans (b1.mono (by omega)))
 have K12 := hide ((unhide K11).trans (b1.mono (by omega)))
 have L12 := hide ((unhide L11).trans (b1.mono (by omega)))
 replace zc := Nat.le_trans zc b1.size
 replace ze := Nat.le_trans ze b1.size
 clear HB11 K11 L11 b1 on hi D P1 D1 P2 H1 t0 t1 t2 t3
 have t0 := (unhide H2).cell 0
 have t1 := (unhide H2).cell 1
 have t2 := (unhide H2).cell 2
 have t3 := (unhide H2).cell 3
 have t4 := (unhide H2).cell 4
 have t5 := (unhide H2).cell 5
 have t6 := (unhide H2).cell 6
 have t7 := (unhide H2).cell 7
 have t8 := (unhide H2).cell 8
 have t9 := (unhide H2).cell 9
 have t10 := (unhide H2).cell 10
 simp only [hvals, Array.toList, List.getElem?_cons_zero, List.getElem?_cons_succ] at t0 t1 t2 t3 t4 t5 t6 t7 t8 t9 t10
 obtain ⟨kn1, ek⟩ : ∃ K : Int, kn0 + (hTot h2 : Nat) = K := ⟨_, rfl⟩
 have D := hide (markHeaderK_any kn0 hk0.1 hk0.2 f2 h2 w5.heap.size w6.heap.size w12 (unhide C2) (by omega) (unhide M2) (unhide MT))
 rw [ek] at D
 have hk1 : 0 ≤ kn1 ∧ kn1 ≤ 16777216 := by have : hTot h2 ≤ 1048576 := unhide MT; omega
 unfold hvals at D
 clear ek
 go_wp2_with fail
 refine (unhide D).mono ?_
 rintro r w13 ⟨rfl, on⟩
 have hi : Hi w6.heap.size w12 w13 := on.2
 replace KG := hide (hi.sblk (unhide KG) (by omega))
 replace PG := hide (hi.own SNK (unhide PG) (by omega))
 have b1 := on.1
 have HB13 := hide ((unhide HB12).trans (b1.mono (by omega)))
 have K13 := hide ((unhide K12).trans (b1.mono (by omega)))
 have L13 := hide ((unhide L12).trans (b1.mono (by omega)))
 replace zc := Nat.le_trans zc b1.size
 replace ze := Nat.le_trans ze b1.size
 clear HB12 K12 L12 b1 on hi D C2 H2 t0 t1 t2 t3 t4 t5 t6 t7 t8 t9 t10
 have d0 := (unhide KG).cell 0
 have d1 := (unhide KG).cell 1
 have d2 := (unhide KG).cell 2
 have d3 := (unhide KG).cell 3
 have d4 := (unhide KG).cell 4
 simp only [srvals, Array.toList, List.getElem?_cons_zero, List.getElem?_cons_succ] at d0 d1 d2 d3 d4
 have a0 := ((unhide HKW).1.below (unhide L13) (unhide HKW).1.lt).cell 0
 have a1 := ((unhide HKW).1.below (unhide L13) (unhide HKW).1.lt).cell 1
 have a2 := ((unhide HKW).1.below (unhide L13) (unhide HKW).1.lt).cell 2
 have a3 := ((unhide HKW).1.below (unhide L13) (unhide HKW).1.lt).cell 3
 have a4 := ((unhide HKW).1.below (unhide L13) (unhide HKW).1.lt).cell 4
 simp only [srvals, Array.toList, List.getElem?_cons_zero, List.getElem?_cons_succ] at a0 a1 a2 a3 a4
 have hkd : decide (kn1 < 0) = false := decide_eq_false (by omega)
 go_wp2_with fail
 refine (eqSnR_same c eg ew S _ (SNK.ok (unhide PG)) (SNK.below (unhide HKW).2 (unhide L13) (Nat.le_refl _)) (unhide HT).sm).mono ?_
 rintro r w14 ⟨rfl, b1⟩
 replace PG := hide (Kd.ownBelow SNK (unhide PG) b1 (Nat.le_refl _))
 replace KG := hide ((unhide KG).below b1 (unhide KG).lt)
 have HB14 := hide ((unhide HB13).trans (b1.mono (unhide HB13).size))
 have K14 := hide ((unhide K13).trans (b1.mono (unhide K13).size))
 have L14 := hide ((unhide L13).trans (b1.mono (unhide L13).size))
 replace zc := Nat.le_trans zc b1.size
 replace ze := Nat.le_trans ze b1.size
 clear HB13 K13 L13 b1 hkd d0 d1 d2 d3 d4 a0 a1 a2 a3 a4
 obtain ⟨M, eM⟩ : ∃ K : Int, 1 + (snTot S : Nat) = K := ⟨_, rfl⟩
 have hM : 0 ≤ M := by omega
 have D := hide (markSnR_p c BG dg [0] eg S 1 w14 (unhide PG) (unhide HT) (by omega) (by omega) (by omega) (not_one (unhide DG) _ (by omega)))
 rw [eM] at D
 unfold srvals at D
 have HE := hide (fun (W : World) (h : SNK.Ok W eg (mkSn 1 S)) => (by have := heldSnR_any c eg S 1 W h (unhide HT) (by omega) (by omega); rw [eM] at this; exact this : Calls Tryz.prog 17 #[.agg (srvals c eg S), .int .i64 1] W fun r w' => r = .returned (.int .i64 M) ∧ Below W.heap.size W w'))
 unfold srvals at HE
 clear eM
 have d0 := (unhide KG).cell 0
 have d1 := (unhide KG).cell 1
 have d2 := (unhide KG).cell 2
 have d3 := (unhide KG).cell 3
 have d4 := (unhide KG).cell 4
 simp only [srvals, Array.toList, List.getElem?_cons_zero, List.getElem?_cons_succ] at d0 d1 d2 d3 d4
 go_wp2_with fail
 refine (unhide D).mono ?_
 rintro r w15 ⟨rfl, PM, on⟩
 have KG2 : Hid (SBlk w15 gg (srvals c eg S).toList 39) := (unhide HG).elim (fun h => (unhide KG).below on.1 h) (fun h => on.sblk (unhide KG) (by rw [h]; decide))
 replace KG := KG2
 clear KG2
 have b1 := on.1
 have OM := hide (SNK.ok PM)
 have HB15 := hide ((unhide HB14).trans (b1.mono (by omega)))
 have K15 := hide ((unhide K14).trans (b1.mono (by omega)))
 have L15 := hide ((unhide L14).trans (b1.mono (by omega)))
 replace zc := Nat.le_trans zc b1.size
 replace ze := Nat.le_trans ze b1.size
 clear HB14 K14 L14 b1 on D PM PG d0 d1 d2 d3 d4
 have hm1 : decide (M < 0) = false := decide_eq_false (by omega)
 have hm2 : (M != M) = false := by simp
 have d0 := (unhide KG).cell 0
 have d1 := (unhide KG).cell 1
 have d2 := (unhide KG).cell 2
 have d3 := (unhide KG).cell 3
 have d4 := (unhide KG).cell 4
 simp only [srvals, Array.toList, List.getElem?_cons_zero, List.getElem?_cons_succ] at d0 d1 d2 d3 d4
 go_wp2_with fail
 refine ((unhide HE) _ (unhide OM)).mono ?_
 rintro r w16 ⟨rfl, b1⟩
 replace KG := hide ((unhide KG).below b1 (unhide KG).lt)
 replace OM := hide (SNK.below (unhide OM) b1 (Nat.le_refl _))
 have HB16 := hide ((unhide HB15).trans (b1.mono (unhide HB15).size))
 have K16 := hide ((unhide K15).trans (b1.mono (unhide K15).size))
 have L16 := hide ((unhide L15).trans (b1.mono (unhide L15).size))
 replace zc := Nat.le_trans zc b1.size
 replace ze := Nat.le_trans ze b1.size
 clear HB15 K15 L15 b1 d0 d1 d2 d3 d4
 go_upto_region 31 with fail
 go_cut [15] (fun s wx => ∃ (g : Nat) (eh : SnS), s = .pointer (some ⟨g, 0, none⟩) ∧ SBlk wx g (srvals c eh S).toList 39 ∧ SNK.Ok wx eh S ∧ Below w16.heap.size w16 wx)
 case first =>
  obtain ⟨c0, c1, c2, s0, s1, s2, s3, n0, n1, n2, n3, n4, n5, n6, n7, n8, n9, n10⟩ := (unhide HA) w16 (unhide K16)
  go_region_held3 (fun W => W.cell? ⟨w.heap.size, 0, none⟩ = some (.int .i64 x0.1) ∧ W.cell? ⟨w.heap.size, 1, none⟩ = some (.int .i64 x0.2.1) ∧ W.cell? ⟨w.heap.size, 2, none⟩ = some (.int .i64 x0.2.2) ∧ W.cell? ⟨w.heap.size + 1, 0, none⟩ = some (.int .i64 y1.1) ∧ W.cell? ⟨w.heap.size + 1, 1, none⟩ = some (.slice x1.2.1.a x1.2.1.n x1.2.1.c) ∧ W.cell? ⟨w.heap.size + 1, 2, none⟩ = some (.slice x1.2.2.1.a x1.2.2.1.n x1.2.2.1.c) ∧ W.cell? ⟨w.heap.size + 1, 3, none⟩ = some (.slice x1.2.2.2.a x1.2.2.2.n x1.2.2.2.c) ∧ W.cell? ⟨w.heap.size + 1 + 1, 0, none⟩ = some (.slice x2.p.a x2.p.n x2.p.c) ∧ W.cell? ⟨w.heap.size + 1 + 1, 1, none⟩ = some (.int .i64 h2.n1) ∧ W.cell? ⟨w.heap.size + 1 + 1, 2, none⟩ = some (.int .i64 h2.n2) ∧ W.cell? ⟨w.heap.size + 1 + 1, 3, none⟩ = some (.int .i64 h2.n3) ∧ W.cell? ⟨w.heap.size + 1 + 1, 4, none⟩ = some (.slice x2.t.a x2.t.n x2.t.c) ∧ W.cell? ⟨w.heap.size + 1 + 1, 5, none⟩ = some (.int .i64 h2.n5) ∧ W.cell? ⟨w.heap.size + 1 + 1, 6, none⟩ = some (.slice x2.s.a x2.s.n x2.s.c) ∧ W.cell? ⟨w.heap.size + 1 + 1, 7, none⟩ = some (.slice x2.r.a x2.r.n x2.r.c) ∧ W.cell? ⟨w.heap.size + 1 + 1, 8, none⟩ = some (.slice x2.g.a x2.g.n x2.g.c) ∧ W.cell? ⟨w.heap.size + 1 + 1, 9, none⟩ = some (.slice x2.e.a x2.e.n x2.e.c) ∧ W.cell? ⟨w.heap.size + 1 + 1, 10, none⟩ = some (.slice x2.k.a x2.k.n x2.k.c))
   (exact (unhide HA) _ (bStep (unhide K16) (by first | (with_reducible assumption) | (with_reducible refine set5 ?_ ?_ _ _ _ _ _ <;> first | (with_reducible assumption) | exact Nat.le_refl _ | exact J4.size | exact J5.size | exact J6.size | exact J7.size) | (with_reducible refine bAl ?_ _; first | (with_reducible assumption) | exact (Below.refl w16.heap.size w16).drew | exact below_drewN (Below.refl w16.heap.size w16) _ | exact Below.refl _ _) | (with_reducible refine Below.drew ?_; with_reducible refine bAl ?_ _; first | (with_reducible assumption) | with_reducible exact Below.refl _ _) | exact (Below.refl w16.heap.size w16).drew | exact below_drewN (Below.refl w16.heap.size w16) _ | exact Below.refl _ _ | (with_reducible refine below_drewN ?_ _; (with_reducible assumption)))))
   (first
    | (go_at_call 7; refine ((unhide TC) _).mono ?_; rintro r u1 ⟨rfl, b4⟩; (try (have kz1 := zb_first w16 b4)); have J4 : Below w16.heap.size w16 u1 := bStep (by first | (with_reducible refine bAl ?_ _; first | exact (Below.refl w16.heap.size w16).drew | exact below_drewN (Below.refl w16.heap.size w16) _ | exact Below.refl _ _) | (with_reducible refine Below.drew ?_; with_reducible refine bAl ?_ _; first | (with_reducible assumption) | with_reducible exact Below.refl _ _) | exact (Below.refl w16.heap.size w16).drew | exact below_drewN (Below.refl w16.heap.size w16) _ | exact Below.refl _ _) b4; clear b4)
    | (go_at_call 8; refine ((unhide T1) (unhide M1) _ (bStep (unhide HB16) (by first | with_reducible exact J4 | (with_reducible refine bAl ?_ _; with_reducible exact J4)))).mono ?_; rintro r u2 ⟨e1, _, rfl, p1', _, b5⟩; (try (have kz2 := zb_new u1 b5)); (try (have kz2 := zb_old kz1.1 b5)); have p1 := SNK.ok p1'; have J5 : Below w16.heap.size w16 u2 := bStep (by first | with_reducible exact J4 | (with_reducible refine bAl ?_ _; with_reducible exact J4)) b5; clear b5 p1')
    | (go_at_call_of 9 x2.p.c; refine ((unhide T2) (unhide M2) _ (bStep (unhide HB16) (by first | with_reducible exact J5 | (with_reducible refine bAl ?_ _; with_reducible exact J5)))).mono ?_; rintro r u3 ⟨e2, rfl, p2, _, b6⟩; (try (have kz3 := zb_new u2 b6)); (try (have kz3 := zb_old kz2.1 b6)); have q1 := SNK.below p1 (bStep (by first | with_reducible exact Below.refl _ _ | with_reducible exact bAl (Below.refl _ _) _) b6 : Below u2.heap.size u2 u3) (Nat.le_refl _); have J6 : Below w16.heap.size w16 u3 := bStep (by first | with_reducible exact J5 | (with_reducible refine bAl ?_ _; with_reducible exact J5)) b6; clear b6)
    | (go_at_call 10; refine ((unhide IMC) (unhide M1) (unhide M2) e1 e2 _ (SNK.below q1 (by first | with_reducible exact Below.refl u3.heap.size u3 | with_reducible exact bAl (Below.refl u3.heap.size u3) _) (Nat.le_refl _)) (p2.below (by first | with_reducible exact Below.refl u3.heap.size u3 | with_reducible exact bAl (Below.refl u3.heap.size u3) _) (Nat.le_refl _)) _ (Nat.le_refl _)).mono ?_; rintro r u4 ⟨eh, dh, rfl, RO, _, b7⟩; (try (have kz4 := zb_new u3 b7)); (try (have kz4 := zb_old kz3.1 b7)); (try (have kz' := kz4.1; obtain ⟨⟨z0, z1, z2, z3, z4⟩, y0, y1', y2, y3, y4⟩ := five_blk kz')); have J7 : Below w16.heap.size w16 u4 := bStep (by first | with_reducible exact J6 | (with_reducible refine bAl ?_ _; with_reducible exact J6)) b7))
  all_goals
   try go_wp2_with fail
   go_meet
   first
    | (have kz := kz4.1
       obtain ⟨k9, n9, b9⟩ := ret5 kz (.int .i64 c) (.int .i64 S.1) (.slice eh.2.1.a eh.2.1.n eh.2.1.c) (.slice eh.2.2.1.a eh.2.2.1.n eh.2.2.1.c) (.slice eh.2.2.2.a eh.2.2.2.n eh.2.2.2.c)
       exact ⟨_, eh, rfl, k9, SNK.ok (SNK.frame RO (fun q a b _ => n9 q (by have := kz4.2; omega))), b9 _ _ (by first | exact Nat.le_refl _ | exact J4.size | exact J5.size | exact J6.size) J7⟩)
    | exact ⟨u4.heap.size, eh, rfl, SBlk.new u4 (srvals c eh S) 39, SNK.ok (Kd.ownBelow SNK RO (below_alloc u4 _) (Nat.le_refl _)), bAl J7 _⟩
 obtain ⟨gh, eh, rfl, kh, PH, b1⟩ := hcut
 obtain ⟨w17, hwc⟩ : ∃ W, W = wc := ⟨_, rfl⟩
 subst hwc
 replace KG := hide ((unhide KG).below b1 (unhide KG).lt)
 replace OM := hide (SNK.below (unhide OM) b1 (Nat.le_refl _))
 have HB17 := hide ((unhide HB16).trans (b1.mono (unhide HB16).size))
 have K17 := hide ((unhide K16).trans (b1.mono (unhide K16).size))
 have L17 := hide ((unhide L16).trans (b1.mono (unhide L16).size))
 replace zc := Nat.le_trans zc b1.size
 replace ze := Nat.le_trans ze b1.size
 clear HB16 K16 L16 b1 IMC
 have d0 := kh.cell 0
 have d1 := kh.cell 1
 have d2 := kh.cell 2
 have d3 := kh.cell 3
 have d4 := kh.cell 4
 simp only [srvals, Array.toList, List.getElem?_cons_zero, List.getElem?_cons_succ] at d0 d1 d2 d3 d4
 have a0 := ((unhide HKW).1.below (unhide L17) (unhide HKW).1.lt).cell 0
 have a1 := ((unhide HKW).1.below (unhide L17) (unhide HKW).1.lt).cell 1
 have a2 := ((unhide HKW).1.below (unhide L17) (unhide HKW).1.lt).cell 2
 have a3 := ((unhide HKW).1.below (unhide L17) (unhide HKW).1.lt).cell 3
 have a4 := ((unhide HKW).1.below (unhide L17) (unhide HKW).1.lt).cell 4
 simp only [srvals, Array.toList, List.getElem?_cons_zero, List.getElem?_cons_succ] at a0 a1 a2 a3 a4
 go_wp2_with fail
 refine (eqSnR_same c eh ew S _ PH (SNK.below (unhide HKW).2 (unhide L17) (Nat.le_refl _)) (unhide HT).sm).mono ?_
 rintro r w18 ⟨rfl, b1⟩
 replace KG := hide ((unhide KG).below b1 (unhide KG).lt)
 replace OM := hide (SNK.below (unhide OM) b1 (Nat.le_refl _))
 have HB18 := hide ((unhide HB17).trans (b1.mono (unhide HB17).size))
 have K18 := hide ((unhide K17).trans (b1.mono (unhide K17).size))
 have L18 := hide ((unhide L17).trans (b1.mono (unhide L17).size))
 replace zc := Nat.le_trans zc b1.size
 replace ze := Nat.le_trans ze b1.size
 clear HB17 K17 L17 b1 PH kh d0 d1 d2 d3 d4 a0 a1 a2 a3 a4
 have d0 := (unhide KG).cell 0
 have d1 := (unhide KG).cell 1
 have d2 := (unhide KG).cell 2
 have d3 := (unhide KG).cell 3
 have d4 := (unhide KG).cell 4
 simp only [srvals, Array.toList, List.getElem?_cons_zero, List.getElem?_cons_succ] at d0 d1 d2 d3 d4
 go_wp2_with fail
 refine ((unhide HE) _ (unhide OM)).mono ?_
 rintro r w19 ⟨rfl, b1⟩
 have HB19 := hide ((unhide HB18).trans (b1.mono (unhide HB18).size))
 have K19 := hide ((unhide K18).trans (b1.mono (unhide K18).size))
 have L19 := hide ((unhide L18).trans (b1.mono (unhide L18).size))
 replace zc := Nat.le_trans zc b1.size
 replace ze := Nat.le_trans ze b1.size
 clear HB18 K18 L18 b1 d0 d1 d2 d3 d4
 go_wp2_with fail
 go_ret
 exact ⟨rfl, unhide HB19⟩

/-! The row's step. -/
set_option maxRecDepth 100000 in
theorem lifted (os : Os) (started : os.Started) (H : Type) (enc : TypeId × Value → H) :
    ReturnsInHanded {} Tryz.checked os 3 .any (Rows.fnExactApplyNextSpec.pre6 enc Tryz.prog Tryz.f3 Rows.fnExactApplyNextRow.domain false) (Rows.fnExactApplyNextSpec.post enc Tryz.prog Tryz.f3 false true false false) := by
 refine returnsInHanded_of_change (C := Tryz.checked) own started (by kernel_rfl) Tryz.func3
  (ChangeSpec.witness6 (enc := enc) (C := Tryz.checked) false ⟨#[], #[.agg #[.int .i64 0, .int .i64 0, .int .i64 0], .agg #[.int .i64 0, .slice none 0 0, .slice none 0 0, .slice none 0 0], .agg #[.slice none 0 0, .int .i64 0, .int .i64 0, .int .i64 0, .slice none 0 0, .int .i64 0, .slice none 0 0, .slice none 0 0, .slice none 0 0, .slice none 0 0, .slice none 0 0]], []⟩ 8 (by kernel_rfl) (by kernel_rfl) (by kernel_rfl) (by kernel_rfl)) ?_
 intro W base args ds gs before hval0 hW hcnd _
 have hval : ∀ (j : Nat) t v, Tryz.f3.params[j]? = some t → args[j]? = some v → Value.okWide Tryz.prog W .any base t v := hval0
 have hW' := hW
 obtain ⟨p, q, hA0, hV, rfl, hfz, hnd⟩ := hW
 have hA : DataW.TrodAll enc Tryz.prog W 0 (fun _ => true) true Tryz.f3.params.toList args.toList ds p := hA0
 rw [Tryz.params3] at hA hval
 obtain ⟨v0, vs0, d0, ds0, p0, q0, hargs, rfl, rfl, h0, r0⟩ := trodAll_cons hA
 obtain ⟨v1, vs1, d1, ds1, p1, q1, rfl, rfl, rfl, h1, r1⟩ := trodAll_cons r0
 obtain ⟨v2, vs2, d2, ds2, p2, q2, rfl, rfl, rfl, h2, r2⟩ := trodAll_cons r1
 obtain ⟨rfl, rfl, rfl⟩ := trodAll_nil r2
 obtain rfl : args = #[v0, v1, v2] := by cases args; simp_all
 obtain ⟨rfl, rfl⟩ := trodVars_none hV
 have k0 := h0
 have lt0 : ∀ x ∈ p0, x.block < W.heap.size := by obtain ⟨m, hm⟩ := k0; exact DataW.trod_lt m _ _ _ hm
 obtain ⟨x0, rfl⟩ := open_config (okWide_struct Tryz.underlying23 (hval 0 23 v0 rfl rfl)) h0
 have k1 := h1
 have lt1 : ∀ x ∈ p1, x.block < W.heap.size := by obtain ⟨m, hm⟩ := k1; exact DataW.trod_lt m _ _ _ hm
 obtain ⟨x1, y1, rfl, o1⟩ := open_snap (okWide_struct Tryz.underlying28 (hval 1 28 v1 rfl rfl)) h1
 have k2 := h2
 have lt2 : ∀ x ∈ p2, x.block < W.heap.size := by obtain ⟨m, hm⟩ := k2; exact DataW.trod_lt m _ _ _ hm
 obtain ⟨x2, y2, rfl, w2, m2, i2⟩ := open_header Tryz.underlying31 rfl (by kernel_rfl) ⟨rfl, rfl, rfl, rfl, rfl, rfl, rfl, rfl, rfl, rfl, rfl⟩ ⟨rfl, rfl, rfl, rfl, rfl, rfl, rfl, rfl, rfl, rfl, rfl⟩ Tryz.underlying29 Tryz.underlying5 Tryz.underlying2 Tryz.underlying24 (by kernel_rfl) (by kernel_rfl) (by kernel_rfl) (by kernel_rfl) (okWide_struct Tryz.underlying31 (hval 2 31 v2 rfl rfl)) h2
 clear hA0 hval0
 refine (walk x0 x1 y1 x2 y2 W o1 m2 w2 i2).mono fun e W' ⟨he, bel⟩ => ?_
 subst he
 exact ⟨_, rfl, _, _, _, [], _, [], hW', trodAll_mk1 (shut_bool Tryz.underlying4 _), (trodAll_cons_mk (Below.trod laidOut (by kernel_rfl) (of_decide_eq_true (by kernel_rfl)) k0 bel lt0) (trodAll_cons_mk (Below.trod laidOut (by kernel_rfl) (of_decide_eq_true (by kernel_rfl)) k1 bel lt1) (trodAll_cons_mk (Below.trod laidOut (by kernel_rfl) (of_decide_eq_true (by kernel_rfl)) k2 bel lt2) trodAll_mk0))), rfl, bel.frame _, fun h => by cases h⟩

theorem over : Rows.fnExactApplyNextRow.holds Tryz.pinned (OpenSpec.ofChange Rows.fnExactApplyNextSpec) :=
 OpenClaim.holds_of_wide 3 Tryz.f3 rfl rfl rfl rfl rfl rfl rfl ⟨rfl, rfl, rfl, rfl, rfl⟩ rfl rfl rfl rfl rfl (by kernel_rfl) Tryz.func3 (by kernel_rfl)
  (of_decide_eq_true (by kernel_rfl)) (by unfold Func.isWrapper; first | (rw [if_pos (by decide +kernel)]; kernel_rfl) | (rw [if_neg (by decide +kernel)]; exact ⟨rfl, rfl⟩))
  (fun os started H enc _ => lifted os started H enc)

/-- The statement. -/
theorem proved : Rows.FnExactApplyNextSaid := over
#print axioms proved
end Go.Proofs.YtdmcmlcmgbbclaaGreat.fnExactApplyNext
