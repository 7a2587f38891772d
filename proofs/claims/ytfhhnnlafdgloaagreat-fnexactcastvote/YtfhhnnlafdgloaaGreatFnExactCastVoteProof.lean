/- Proved: for every argument the law FnExactCastVote returns true and changes no argument. Conditions: none. -/
import Derived.Test.YtfhhnnlafdgloaaGreatRows
import Derived.Test.YtfhhnnlafdgloaaGreatJ26
import Derived.WalkSmall
import Derived.Deep.MidRow
import Derived.Deep.RegionHeld3
import Derived.WalkKit
import Derived.ProofKit
import Derived.OpenShut
import Derived.ShutString
import Derived.ChangeOld
import Derived.Below
namespace Go.Proofs.YtfhhnnlafdgloaaGreat.fnExactCastVote
open Go.ChangeShapes Go.WideShapes Go.ChangeAt Go.RowKit
set_option linter.unusedVariables false

theorem own : ownKnob Tryz.prog.godebug = none := by kernel_rfl
theorem laidOut : laidOutB Tryz.prog = true := by kernel_rfl

/-! The walk: the Go text returns true, and writes nothing that was there. -/
set_option maxRecDepth 100000 in
set_option linter.unusedSimpArgs false in
set_option maxHeartbeats 8000000 in
theorem walk (x0 : SnS) (y0 : Sn) (s1 : Sl) (z1 : List Int) (s2 : Sl) (z2 : List Int) (a3 : Bool) (w : World) (o0 : SNK.Ok w x0 y0) (o1 : BOk w s1 z1) (o2 : BOk w s2 z2) :
    Calls Tryz.prog 3 #[.agg (snvals x0 y0), .slice s1.a s1.n s1.c, .slice s2.a s2.n s2.c, .bool a3] w fun e w' => e = .returned (.bool true) ∧ Below w.heap.size w w' := by
  have k0 := SBlk.new w (snvals x0 y0) 26
  have bb := below_alloc w (.cells (snvals x0 y0) 26)
  obtain ⟨V0, ea0⟩ : ∃ W, w.alloc (.cells (snvals x0 y0) 26) = W := ⟨_, rfl⟩
  rw [ea0] at k0 bb
  have Z0 := hide (fun (W : World) (hb : Below w.heap.size w W) (L : Int) (h0 : 0 ≤ L) (h1 : L ≤ 1048576) => szSnap_any x0 y0 L W (SNK.below o0 hb (Nat.le_refl _)) h0 h1)
  have T0 : Hid (SnT y0 → ∀ W, Below w.heap.size w W → Calls Tryz.prog 6 #[.agg (snvals x0 y0)] W fun r w' => ∃ (e' : SnS) (d : Nat → Path), r = .returned (.agg (snvals e' y0)) ∧ SNK.Own w' W.heap.size d [0] e' y0 ∧ (∀ g, w'.heap.size ≤ g → d g = [1]) ∧ Below W.heap.size W w') := fun m W hb => (toSnap_kd [0] x0 y0 W (SNK.below o0 hb (Nat.le_refl _)) m.sm).mono (by rintro r w' ⟨e', d, rfl, h1, h2⟩; obtain ⟨d', h3, h4⟩ := Kd.recol1 SNK h1; exact ⟨e', d', rfl, h3, h4, h2⟩)
  have Q0 : Hid (SnT y0 → ∀ (e f : SnS) (W : World), SNK.Ok W e y0 → SNK.Ok W f y0 → Calls Tryz.prog 10 #[.agg (snvals e y0), .agg (snvals f y0)] W fun r w' => r = .returned (.bool true) ∧ Below W.heap.size W w') := fun m e f W o q => by
    have h := eqSnap_any e f y0 y0 W o q m.sm m.sm
    rw [snSame_self] at h
    exact h
  have S0 := hide (fun (L : Int) (h : 0 ≤ szOf L (snSz y0)) (hL : L ≤ 1048576) => (snT_of (by have := szOf_ok h; omega) : SnT y0))
  have HC0 := hide (fun (W : World) (hb : Below V0.heap.size V0 W) => k0.below hb k0.lt)
  have T1 : Hid (z1.length ≤ 1048576 → ∀ W, Below w.heap.size w W → Calls Tryz.prog 7 #[.slice s1.a s1.n s1.c] W fun r w' => ∃ (t : Sl) (d : Nat → Path), r = .returned (.slice t.a t.n t.c) ∧ bytesK.Own w' W.heap.size d [0] t z1 ∧ (∀ g, w'.heap.size ≤ g → d g = [1]) ∧ Below W.heap.size W w') := fun m W hb => (toB_kd [0] s1 z1 W (bytesK.below o1 hb (Nat.le_refl _)) m).mono (by rintro r w' ⟨t, d, rfl, h1, h2⟩; obtain ⟨d', h3, h4⟩ := Kd.recol1 bytesK h1; exact ⟨t, d', rfl, h3, h4, h2⟩)
  have Q1 : Hid (z1.length ≤ 1048576 → ∀ (s t : Sl) (W : World), bytesK.Ok W s z1 → bytesK.Ok W t z1 → Calls Tryz.prog 11 #[.slice s.a s.n s.c, .slice t.a t.n t.c] W fun r w' => r = .returned (.bool true) ∧ Below W.heap.size W w') := fun m s t W o q => (eqByteS_any s.a t.a s.n s.c t.n t.c z1 z1 W (BOk.row o) (BOk.row q) (by have := (BOk.row o).1; omega) (by have := (BOk.row q).1; omega)).mono (by rintro r w' ⟨rfl, n, rfl⟩; exact ⟨by rw [show sameB z1 z1 = true from by simp [sameB]], below_drewN (Below.refl _ _) n⟩)
  have HN1 := hide (show z1.length = s1.n from o1.row.1)
  have T2 : Hid (z2.length ≤ 1048576 → ∀ W, Below w.heap.size w W → Calls Tryz.prog 7 #[.slice s2.a s2.n s2.c] W fun r w' => ∃ (t : Sl) (d : Nat → Path), r = .returned (.slice t.a t.n t.c) ∧ bytesK.Own w' W.heap.size d [0] t z2 ∧ (∀ g, w'.heap.size ≤ g → d g = [1]) ∧ Below W.heap.size W w') := fun m W hb => (toB_kd [0] s2 z2 W (bytesK.below o2 hb (Nat.le_refl _)) m).mono (by rintro r w' ⟨t, d, rfl, h1, h2⟩; obtain ⟨d', h3, h4⟩ := Kd.recol1 bytesK h1; exact ⟨t, d', rfl, h3, h4, h2⟩)
  have Q2 : Hid (z2.length ≤ 1048576 → ∀ (s t : Sl) (W : World), bytesK.Ok W s z2 → bytesK.Ok W t z2 → Calls Tryz.prog 11 #[.slice s.a s.n s.c, .slice t.a t.n t.c] W fun r w' => r = .returned (.bool true) ∧ Below W.heap.size W w') := fun m s t W o q => (eqByteS_any s.a t.a s.n s.c t.n t.c z2 z2 W (BOk.row o) (BOk.row q) (by have := (BOk.row o).1; omega) (by have := (BOk.row q).1; omega)).mono (by rintro r w' ⟨rfl, n, rfl⟩; exact ⟨by rw [show sameB z2 z2 = true from by simp [sameB]], below_drewN (Below.refl _ _) n⟩)
  have HN2 := hide (show z2.length = s2.n from o2.row.1)
  have SPC : Hid (∀ (m0 : SnT y0) (m1 : z1.length ≤ 1048576) (m2 : z2.length ≤ 1048576) (f0 : SnS) (f1 : Sl) (f2 : Sl) (W : World) (q0 : SNK.Ok W f0 y0) (q1 : bytesK.Ok W f1 z1) (q2 : bytesK.Ok W f2 z2), Calls Tryz.prog 5 #[.agg (snvals f0 y0), .slice f1.a f1.n f1.c, .slice f2.a f2.n f2.c, .bool a3] W fun r w' => ∃ e' : SnS, r = .returned (.agg (srvals (cvCode y0 z1 z2 a3) e' (cvSn y0 z1 z2 a3))) ∧ SNK.Ok w' e' (cvSn y0 z1 z2 a3) ∧ Below W.heap.size W w') := fun m0 m1 m2 f0 f1 f2 W q0 q1 q2 => specCast_any f0 y0 f1 f2 z1 z2 a3 W q0 m0.sm q1 q2
  have IMC : Hid (∀ (m0 : SnT y0) (m1 : z1.length ≤ 1048576) (m2 : z2.length ≤ 1048576) (f0 : SnS) (f1 : Sl) (f2 : Sl) (W : World) (q0 : SNK.Ok W f0 y0) (q1 : bytesK.Ok W f1 z1) (q2 : bytesK.Ok W f2 z2), Calls Tryz.prog 8 #[.agg (snvals f0 y0), .slice f1.a f1.n f1.c, .slice f2.a f2.n f2.c, .bool a3] W fun r w' => ∃ (e' : SnS) (d : Nat → Path), r = .returned (.agg (srvals (cvCode y0 z1 z2 a3) e' (cvSn y0 z1 z2 a3))) ∧ SNK.Own w' W.heap.size d [0] e' (cvSn y0 z1 z2 a3) ∧ (∀ g, w'.heap.size ≤ g → d g = [1]) ∧ Below W.heap.size W w') := fun m0 m1 m2 f0 f1 f2 W q0 q1 q2 => (implCast_any [0] f0 y0 f1 f2 z1 z2 a3 W q0 m0.sm q1 q2).mono (by rintro r w' ⟨e', rfl, ⟨d, h1⟩, h2⟩; obtain ⟨d', h3, h4⟩ := Kd.recol1 SNK h1; exact ⟨e', d', rfl, h3, h4, h2⟩)
  have HT : Hid (SnT (cvSn y0 z1 z2 a3)) := cv_tiny o0 o2
  generalize cvSn y0 z1 z2 a3 = S at SPC IMC HT
  generalize cvCode y0 z1 z2 a3 = c at SPC IMC
  have HB0 := hide bb
  have zV := bb.size
  have c0_0 := k0.cell 0
  have c0_1 := k0.cell 1
  have c0_2 := k0.cell 2
  have c0_3 := k0.cell 3
  simp only [snvals, Array.toList, List.getElem?_cons_zero, List.getElem?_cons_succ] at c0_0 c0_1 c0_2 c0_3
  have EA0 := hide ea0
  clear bb ea0 k0 o0 o1 o2
  unfold snvals at EA0 ⊢
  by_cases g1 : (1048576 : Int) < (s1.n : Int)
  · have hd : decide ((1048576 : Int) < (s1.n : Int)) = true := decide_eq_true g1
    go_enter Tryz.func3, Tryz.ntmps3
    go_upto_region 1 with fail
    rw [unhide EA0]
    go_wp2_with fail
    go_ret
    exact ⟨rfl, unhide HB0⟩
  have hd1 : decide ((1048576 : Int) < (s1.n : Int)) = false := decide_eq_false g1
  have M1 : Hid (z1.length ≤ 1048576) := by have := unhide HN1; show _ ≤ _; omega
  clear HN1 g1
  by_cases g2 : (1048576 : Int) < (s2.n : Int)
  · have hd : decide ((1048576 : Int) < (s2.n : Int)) = true := decide_eq_true g2
    go_enter Tryz.func3, Tryz.ntmps3
    go_upto_region 1 with fail
    rw [unhide EA0]
    go_wp2_with fail
    go_ret
    exact ⟨rfl, unhide HB0⟩
  have hd2 : decide ((1048576 : Int) < (s2.n : Int)) = false := decide_eq_false g2
  have M2 : Hid (z2.length ≤ 1048576) := by have := unhide HN2; show _ ≤ _; omega
  clear HN2 g2
  go_enter Tryz.func3, Tryz.ntmps3
  go_upto_region 1 with fail
  rw [unhide EA0]
  clear EA0
  have K0 := hide (Below.refl V0.heap.size V0)
  have Z := hide ((unhide Z0) V0 (unhide HB0) 1048576 (by omega) (by omega))
  unfold snvals at Z
  clear Z0
  go_wp2_with fail
  refine (unhide Z).mono ?_
  rintro r w1 ⟨rfl, b1⟩
  have HB1 := hide ((unhide HB0).trans (b1.mono (unhide HB0).size))
  have K1 := hide ((unhide K0).trans (b1.mono (unhide K0).size))
  clear HB0 K0 b1 Z c0_0 c0_1 c0_2 c0_3
  obtain ⟨L1, eL⟩ : ∃ L, L = szOf 1048576 (snSz y0) := ⟨_, rfl⟩
  have HL := hide eL
  rw [← eL]
  clear eL
  by_cases n1 : L1 < 0
  · have hd : decide (L1 < 0) = true := decide_eq_true n1
    go_wp2_with fail
    go_ret
    exact ⟨rfl, unhide HB1⟩
  have M0 := hide ((unhide S0) 1048576 (by rw [← unhide HL]; omega) (by omega))
  have hd : decide (L1 < 0) = false := decide_eq_false n1
  clear HL S0 n1
  have c0_0 := ((unhide HC0) _ (unhide K1)).cell 0
  have c0_1 := ((unhide HC0) _ (unhide K1)).cell 1
  have c0_2 := ((unhide HC0) _ (unhide K1)).cell 2
  have c0_3 := ((unhide HC0) _ (unhide K1)).cell 3
  simp only [snvals, Array.toList, List.getElem?_cons_zero, List.getElem?_cons_succ] at c0_0 c0_1 c0_2 c0_3
  go_wp2_with fail
  refine ((unhide T0) (unhide M0) _ (unhide HB1)).mono ?_
  rintro r w2 ⟨e0, _, rfl, p0, _, b1⟩
  replace p0 := SNK.ok p0
  have HB2 := hide ((unhide HB1).trans (b1.mono (unhide HB1).size))
  have K2 := hide ((unhide K1).trans (b1.mono (unhide K1).size))
  clear HB1 K1 b1 c0_0 c0_1 c0_2 c0_3
  unfold snvals
  go_wp2_with fail
  refine ((unhide T1) (unhide M1) _ (unhide HB2)).mono ?_
  rintro r w3 ⟨e1, _, rfl, p1, _, b1⟩
  replace p1 := bytesK.ok p1
  replace p0 := SNK.below p0 b1 (Nat.le_refl _)
  have HB3 := hide ((unhide HB2).trans (b1.mono (unhide HB2).size))
  have K3 := hide ((unhide K2).trans (b1.mono (unhide K2).size))
  clear HB2 K2 b1 
  go_wp2_with fail
  refine ((unhide T2) (unhide M2) _ (unhide HB3)).mono ?_
  rintro r w4 ⟨e2, _, rfl, p2, _, b1⟩
  replace p2 := bytesK.ok p2
  replace p0 := SNK.below p0 b1 (Nat.le_refl _)
  replace p1 := bytesK.below p1 b1 (Nat.le_refl _)
  have HB4 := hide ((unhide HB3).trans (b1.mono (unhide HB3).size))
  have K4 := hide ((unhide K3).trans (b1.mono (unhide K3).size))
  clear HB3 K3 b1 
  go_wp2_with fail
  refine ((unhide SPC) (unhide M0) (unhide M1) (unhide M2) e0 e1 e2 _ p0 p1 p2).mono ?_
  rintro r w5 ⟨ew, rfl, RW, b1⟩
  have HB5 := hide ((unhide HB4).trans (b1.mono (unhide HB4).size))
  have K5 := hide ((unhide K4).trans (b1.mono (unhide K4).size))
  clear HB4 K4 b1 SPC p0 p1 p2
  have kw := SBlk.new w5 (srvals c ew S) 34
  have hb := below_alloc w5 (.cells (srvals c ew S) 34)
  obtain ⟨w6, ee⟩ : ∃ W, w5.alloc (.cells (srvals c ew S) 34) = W := ⟨_, rfl⟩
  rw [ee] at kw hb
  replace RW := SNK.below RW hb (Nat.le_refl _)
  have HB6 := hide ((unhide HB5).trans (hb.mono (unhide HB5).size))
  have K6 := hide ((unhide K5).trans (hb.mono (unhide K5).size))
  clear HB5 K5 hb
  unfold srvals at ee ⊢
  go_upto_region 10 with (rw [ee])
  try rw [ee]
  clear ee
  obtain ⟨gw, hgw⟩ : ∃ g, g = w5.heap.size := ⟨_, rfl⟩
  rw [← hgw] at kw ⊢
  clear hgw
  have z5 := (unhide K6).size
  have L6 := hide (Below.refl w6.heap.size w6)
  have HKW := hide (And.intro kw RW)
  clear kw RW
  have c0_0 := ((unhide HC0) _ (unhide K6)).cell 0
  have c0_1 := ((unhide HC0) _ (unhide K6)).cell 1
  have c0_2 := ((unhide HC0) _ (unhide K6)).cell 2
  have c0_3 := ((unhide HC0) _ (unhide K6)).cell 3
  simp only [snvals, Array.toList, List.getElem?_cons_zero, List.getElem?_cons_succ] at c0_0 c0_1 c0_2 c0_3
  go_wp2_with fail
  refine ((unhide T0) (unhide M0) _ (unhide HB6)).mono ?_
  rintro r w7 ⟨f0, d0, rfl, P0, D0, b1⟩
  have sz0 := b1.size
  replace D0 := hide D0
  replace P0 := hide P0
  have zB0 := (unhide L6).size
  have HB7 := hide ((unhide HB6).trans (b1.mono (unhide HB6).size))
  have K7 := hide ((unhide K6).trans (b1.mono (unhide K6).size))
  have L7 := hide ((unhide L6).trans (b1.mono (unhide L6).size))
  clear HB6 K6 L6 b1 c0_0 c0_1 c0_2 c0_3
  have H0 := SBlk.new w7 (snvals f0 y0) 32
  have hb := below_alloc w7 (.cells (snvals f0 y0) 32)
  obtain ⟨w8, ee⟩ : ∃ W, w7.alloc (.cells (snvals f0 y0) 32) = W := ⟨_, rfl⟩
  rw [ee] at H0 hb
  replace H0 := hide H0
  have sy0 := hb.size
  replace P0 := hide (Kd.ownBelow SNK (unhide P0) hb (Nat.le_refl _))
  have HB8 := hide ((unhide HB7).trans (hb.mono (unhide HB7).size))
  have K8 := hide ((unhide K7).trans (hb.mono (unhide K7).size))
  have L8 := hide ((unhide L7).trans (hb.mono (unhide L7).size))
  clear HB7 K7 L7 hb
  unfold snvals at ee ⊢
  go_upto_region 11 with (rw [ee])
  try rw [ee]
  clear ee
  obtain ⟨g0, hg⟩ : ∃ g, g = w7.heap.size := ⟨_, rfl⟩
  rw [← hg]
  replace H0 := hide (show SBlk w8 g0 (snvals f0 y0).toList 32 from by rw [hg]; exact unhide H0)
  have zg0 := Nat.le_of_eq hg.symm
  clear hg
  go_wp2_with fail
  refine ((unhide T1) (unhide M1) _ (unhide HB8)).mono ?_
  rintro r w9 ⟨f1, d1, rfl, P1, D1, b1⟩
  have sz1 := b1.size
  replace D1 := hide D1
  replace P1 := hide P1
  have zB1 := (unhide L8).size
  replace P0 := hide (Kd.ownBelow SNK (unhide P0) b1 (Nat.le_refl _))
  replace H0 := hide ((unhide H0).below b1 (unhide H0).lt)
  have HB9 := hide ((unhide HB8).trans (b1.mono (unhide HB8).size))
  have K9 := hide ((unhide K8).trans (b1.mono (unhide K8).size))
  have L9 := hide ((unhide L8).trans (b1.mono (unhide L8).size))
  clear HB8 K8 L8 b1 
  go_wp2_with fail
  refine ((unhide T2) (unhide M2) _ (unhide HB9)).mono ?_
  rintro r w10 ⟨f2, d2, rfl, P2, D2, b1⟩
  have sz2 := b1.size
  replace D2 := hide D2
  replace P2 := hide P2
  have zB2 := (unhide L9).size
  replace P0 := hide (Kd.ownBelow SNK (unhide P0) b1 (Nat.le_refl _))
  replace H0 := hide ((unhide H0).below b1 (unhide H0).lt)
  replace P1 := hide (Kd.ownBelow bytesK (unhide P1) b1 (Nat.le_refl _))
  have HB10 := hide ((unhide HB9).trans (b1.mono (unhide HB9).size))
  have K10 := hide ((unhide K9).trans (b1.mono (unhide K9).size))
  have L10 := hide ((unhide L9).trans (b1.mono (unhide L9).size))
  clear HB9 K9 L9 b1 
  have zc := Nat.le_refl w10.heap.size
  have t0_0 := (unhide H0).cell 0
  have t0_1 := (unhide H0).cell 1
  have t0_2 := (unhide H0).cell 2
  have t0_3 := (unhide H0).cell 3
  simp only [snvals, Array.toList, List.getElem?_cons_zero, List.getElem?_cons_succ] at t0_0 t0_1 t0_2 t0_3
  go_wp2_with fail
  refine ((unhide IMC) (unhide M0) (unhide M1) (unhide M2) f0 f1 f2 _ (SNK.ok (unhide P0)) (bytesK.ok (unhide P1)) (bytesK.ok (unhide P2))).mono ?_
  rintro r w11 ⟨eg, dg, rfl, PG, DG, b1⟩
  have szg := b1.size
  replace DG := hide DG
  replace PG := hide PG
  replace P0 := hide (Kd.ownBelow SNK (unhide P0) b1 (Nat.le_refl _))
  replace H0 := hide ((unhide H0).below b1 (unhide H0).lt)
  replace P1 := hide (Kd.ownBelow bytesK (unhide P1) b1 (Nat.le_refl _))
  replace P2 := hide (Kd.ownBelow bytesK (unhide P2) b1 (Nat.le_refl _))
  have HB11 := hide ((unhide HB10).trans (b1.mono (unhide HB10).size))
  have K11 := hide ((unhide K10).trans (b1.mono (unhide K10).size))
  have L11 := hide ((unhide L10).trans (b1.mono (unhide L10).size))
  replace zc := Nat.le_trans zc b1.size
  clear HB10 K10 L10 b1 t0_0 t0_1 t0_2 t0_3
  have KG := SBlk.new w11 (srvals c eg S) 34
  have hb := below_alloc w11 (.cells (srvals c eg S) 34)
  obtain ⟨w12, ee⟩ : ∃ W, w11.alloc (.cells (srvals c eg S) 34) = W := ⟨_, rfl⟩
  rw [ee] at KG hb
  have szh := hb.size
  replace PG := hide (Kd.ownBelow SNK (unhide PG) hb (Nat.le_refl _))
  replace P0 := hide (Kd.ownBelow SNK (unhide P0) hb (Nat.le_refl _))
  replace H0 := hide ((unhide H0).below hb (unhide H0).lt)
  replace P1 := hide (Kd.ownBelow bytesK (unhide P1) hb (Nat.le_refl _))
  replace P2 := hide (Kd.ownBelow bytesK (unhide P2) hb (Nat.le_refl _))
  have HB12 := hide ((unhide HB11).trans (hb.mono (unhide HB11).size))
  have K12 := hide ((unhide K11).trans (hb.mono (unhide K11).size))
  have L12 := hide ((unhide L11).trans (hb.mono (unhide L11).size))
  replace zc := Nat.le_trans zc hb.size
  clear HB11 K11 L11 hb
  unfold srvals at ee ⊢
  go_upto_region 14 with (rw [ee])
  try rw [ee]
  clear ee
  obtain ⟨gg, hgg⟩ : ∃ g, g = w11.heap.size := ⟨_, rfl⟩
  rw [← hgg] at KG ⊢
  have hgg2 : w11.heap.size ≤ gg := Nat.le_of_eq hgg.symm
  clear hgg
  replace KG := hide KG
  have d0 := (unhide KG).cell 0
  have d1 := (unhide KG).cell 1
  have d2 := (unhide KG).cell 2
  have d3 := (unhide KG).cell 3
  have d4 := (unhide KG).cell 4
  simp only [srvals, Array.toList, List.getElem?_cons_zero, List.getElem?_cons_succ] at d0 d1 d2 d3 d4
  have a0 := ((unhide HKW).1.below (unhide L12) (unhide HKW).1.lt).cell 0
  have a1 := ((unhide HKW).1.below (unhide L12) (unhide HKW).1.lt).cell 1
  have a2 := ((unhide HKW).1.below (unhide L12) (unhide HKW).1.lt).cell 2
  have a3 := ((unhide HKW).1.below (unhide L12) (unhide HKW).1.lt).cell 3
  have a4 := ((unhide HKW).1.below (unhide L12) (unhide HKW).1.lt).cell 4
  simp only [srvals, Array.toList, List.getElem?_cons_zero, List.getElem?_cons_succ] at a0 a1 a2 a3 a4
  go_wp2_with fail
  refine (eqSnR_same c eg ew S _ (SNK.ok (unhide PG)) (SNK.below (unhide HKW).2 (unhide L12) (Nat.le_refl _)) (unhide HT).sm).mono ?_
  rintro r w13 ⟨rfl, b1⟩
  replace KG := hide ((unhide KG).below b1 (unhide KG).lt)
  replace PG := hide (Kd.ownBelow SNK (unhide PG) b1 (Nat.le_refl _))
  replace P0 := hide (Kd.ownBelow SNK (unhide P0) b1 (Nat.le_refl _))
  replace H0 := hide ((unhide H0).below b1 (unhide H0).lt)
  replace P1 := hide (Kd.ownBelow bytesK (unhide P1) b1 (Nat.le_refl _))
  replace P2 := hide (Kd.ownBelow bytesK (unhide P2) b1 (Nat.le_refl _))
  have HB13 := hide ((unhide HB12).trans (b1.mono (unhide HB12).size))
  have K13 := hide ((unhide K12).trans (b1.mono (unhide K12).size))
  have L13 := hide ((unhide L12).trans (b1.mono (unhide L12).size))
  replace zc := Nat.le_trans zc b1.size
  clear HB12 K12 L12 b1 d0 d1 d2 d3 d4 a0 a1 a2 a3 a4
  have HS : Hid (∀ W, Below w13.heap.size w13 W → (fun W => (W.cell? ⟨g0, 0, none⟩ = some (.int .i64 y0.1) ∧ W.cell? ⟨g0, 1, none⟩ = some (.slice f0.2.1.a f0.2.1.n f0.2.1.c) ∧ W.cell? ⟨g0, 2, none⟩ = some (.slice f0.2.2.1.a f0.2.2.1.n f0.2.2.1.c) ∧ W.cell? ⟨g0, 3, none⟩ = some (.slice f0.2.2.2.a f0.2.2.2.n f0.2.2.2.c)) ∧ (W.cell? ⟨w.heap.size, 0, none⟩ = some (.int .i64 y0.1) ∧ W.cell? ⟨w.heap.size, 1, none⟩ = some (.slice x0.2.1.a x0.2.1.n x0.2.1.c) ∧ W.cell? ⟨w.heap.size, 2, none⟩ = some (.slice x0.2.2.1.a x0.2.2.1.n x0.2.2.1.c) ∧ W.cell? ⟨w.heap.size, 3, none⟩ = some (.slice x0.2.2.2.a x0.2.2.2.n x0.2.2.2.c))) W) := fun W hb => by
    have B := (unhide K13).trans (hb.mono (unhide K13).size)
    have h := (unhide H0).below hb (unhide H0).lt
    have h' := (unhide HC0) W B
    exact ⟨⟨h.cell 0, h.cell 1, h.cell 2, h.cell 3⟩, ⟨h'.cell 0, h'.cell 1, h'.cell 2, h'.cell 3⟩⟩
  go_wp2_with fail
  go_region_held3 (fun W => (W.cell? ⟨g0, 0, none⟩ = some (.int .i64 y0.1) ∧ W.cell? ⟨g0, 1, none⟩ = some (.slice f0.2.1.a f0.2.1.n f0.2.1.c) ∧ W.cell? ⟨g0, 2, none⟩ = some (.slice f0.2.2.1.a f0.2.2.1.n f0.2.2.1.c) ∧ W.cell? ⟨g0, 3, none⟩ = some (.slice f0.2.2.2.a f0.2.2.2.n f0.2.2.2.c)) ∧ (W.cell? ⟨w.heap.size, 0, none⟩ = some (.int .i64 y0.1) ∧ W.cell? ⟨w.heap.size, 1, none⟩ = some (.slice x0.2.1.a x0.2.1.n x0.2.1.c) ∧ W.cell? ⟨w.heap.size, 2, none⟩ = some (.slice x0.2.2.1.a x0.2.2.1.n x0.2.2.1.c) ∧ W.cell? ⟨w.heap.size, 3, none⟩ = some (.slice x0.2.2.2.a x0.2.2.2.n x0.2.2.2.c)))
    (exact (unhide HS) _ (by first | assumption | exact (Below.refl w13.heap.size w13).drew | exact below_drewN (Below.refl w13.heap.size w13) _ | exact below_drewN (by assumption) _))
    (first
      | (go_at_call 10; refine ((unhide Q0) (unhide M0) f0 e0 _ (SNK.below (SNK.ok (unhide P0)) J1 (Nat.le_refl _)) p1).mono ?_; rintro r w14 ⟨rfl, b2⟩; have JJ : Below w13.heap.size w13 w14 := J1.trans (b2.mono J1.size); clear b2)
      | (go_at_call 6; refine ((unhide T0) (unhide M0) _ ((unhide HB13).trans (Below.mono (by first | exact (Below.refl w13.heap.size w13).drew | exact below_drewN (Below.refl w13.heap.size w13) _ | exact Below.refl w13.heap.size w13) (unhide HB13).size))).mono ?_; rintro r u1 ⟨e0, _, rfl, p1', _, b1⟩; have p1 := SNK.ok p1'; have J1 : Below w13.heap.size w13 u1 := Below.trans (by first | exact (Below.refl w13.heap.size w13).drew | exact below_drewN (Below.refl w13.heap.size w13) _ | exact Below.refl w13.heap.size w13) (b1.mono (by first | exact Nat.le_refl _ | exact (below_drewN (Below.refl w13.heap.size w13) _).size)); clear b1 p1'))
  replace KG := hide ((unhide KG).below JJ (unhide KG).lt)
  replace PG := hide (Kd.ownBelow SNK (unhide PG) JJ (Nat.le_refl _))
  replace P0 := hide (Kd.ownBelow SNK (unhide P0) JJ (Nat.le_refl _))
  replace H0 := hide ((unhide H0).below JJ (unhide H0).lt)
  replace P1 := hide (Kd.ownBelow bytesK (unhide P1) JJ (Nat.le_refl _))
  replace P2 := hide (Kd.ownBelow bytesK (unhide P2) JJ (Nat.le_refl _))
  have HB14 := hide ((unhide HB13).trans (JJ.mono (unhide HB13).size))
  have K14 := hide ((unhide K13).trans (JJ.mono (unhide K13).size))
  have L14 := hide ((unhide L13).trans (JJ.mono (unhide L13).size))
  replace zc := Nat.le_trans zc JJ.size
  clear HB13 K13 L13 JJ J1 p1 HS
  go_wp2_with fail
  refine ((unhide T1) (unhide M1) _ (unhide HB14)).mono ?_
  rintro r u1 ⟨e1, _, rfl, p1', _, b1⟩
  have p1 := bytesK.ok p1'
  clear p1'
  go_wp2_with fail
  refine ((unhide Q1) (unhide M1) f1 e1 _ (bytesK.below (bytesK.ok (unhide P1)) b1 (Nat.le_refl _)) p1).mono ?_
  rintro r w15 ⟨rfl, b2⟩
  have bx := b1.trans (b2.mono b1.size)
  replace KG := hide ((unhide KG).below bx (unhide KG).lt)
  replace PG := hide (Kd.ownBelow SNK (unhide PG) bx (Nat.le_refl _))
  replace P0 := hide (Kd.ownBelow SNK (unhide P0) bx (Nat.le_refl _))
  replace H0 := hide ((unhide H0).below bx (unhide H0).lt)
  replace P1 := hide (Kd.ownBelow bytesK (unhide P1) bx (Nat.le_refl _))
  replace P2 := hide (Kd.ownBelow bytesK (unhide P2) bx (Nat.le_refl _))
  have HB15 := hide ((unhide HB14).trans (bx.mono (unhide HB14).size))
  have K15 := hide ((unhide K14).trans (bx.mono (unhide K14).size))
  have L15 := hide ((unhide L14).trans (bx.mono (unhide L14).size))
  replace zc := Nat.le_trans zc bx.size
  clear HB14 K14 L14 b1 b2 bx p1
  go_wp2_with fail
  refine ((unhide T2) (unhide M2) _ (unhide HB15)).mono ?_
  rintro r u1 ⟨e2, _, rfl, p1', _, b1⟩
  have p1 := bytesK.ok p1'
  clear p1'
  go_wp2_with fail
  refine ((unhide Q2) (unhide M2) f2 e2 _ (bytesK.below (bytesK.ok (unhide P2)) b1 (Nat.le_refl _)) p1).mono ?_
  rintro r w16 ⟨rfl, b2⟩
  have bx := b1.trans (b2.mono b1.size)
  replace KG := hide ((unhide KG).below bx (unhide KG).lt)
  replace PG := hide (Kd.ownBelow SNK (unhide PG) bx (Nat.le_refl _))
  replace P0 := hide (Kd.ownBelow SNK (unhide P0) bx (Nat.le_refl _))
  replace H0 := hide ((unhide H0).below bx (unhide H0).lt)
  replace P1 := hide (Kd.ownBelow bytesK (unhide P1) bx (Nat.le_refl _))
  replace P2 := hide (Kd.ownBelow bytesK (unhide P2) bx (Nat.le_refl _))
  have HB16 := hide ((unhide HB15).trans (bx.mono (unhide HB15).size))
  have K16 := hide ((unhide K15).trans (bx.mono (unhide K15).size))
  have L16 := hide ((unhide L15).trans (bx.mono (unhide L15).size))
  replace zc := Nat.le_trans zc bx.size
  clear HB15 K15 L15 b1 b2 bx p1
  have t0_0 := (unhide H0).cell 0
  have t0_1 := (unhide H0).cell 1
  have t0_2 := (unhide H0).cell 2
  have t0_3 := (unhide H0).cell 3
  simp only [snvals, Array.toList, List.getElem?_cons_zero, List.getElem?_cons_succ] at t0_0 t0_1 t0_2 t0_3
  obtain ⟨kn0, ek⟩ : ∃ K : Int, 1 + (snTot y0 : Nat) = K := ⟨_, rfl⟩
  have D := hide (markSn_p w6.heap.size d0 [0] f0 y0 1 w16 (unhide P0) (unhide M0) (by omega) (by omega) (by omega) (not_one (unhide D0) _ (by omega)))
  rw [ek] at D
  have hk0 : 0 ≤ kn0 ∧ kn0 ≤ 8388608 := by have := SnT.tot (unhide M0); omega
  unfold snvals at D
  clear ek
  go_wp2_with fail
  refine (unhide D).mono ?_
  rintro r w17 ⟨rfl, _, on⟩
  have hi := Hi.of on (unhide D0)
  replace KG := hide (hi.sblk (unhide KG) (by omega))
  replace PG := hide (hi.own SNK (unhide PG) (by omega))
  replace P1 := hide (hi.own bytesK (unhide P1) (by omega))
  replace P2 := hide (hi.own bytesK (unhide P2) (by omega))
  have b1 := on.1
  have HB17 := hide ((unhide HB16).trans (b1.mono (by omega)))
  have K17 := hide ((unhide K16).trans (b1.mono (by omega)))
  have L17 := hide ((unhide L16).trans (b1.mono (by omega)))
  replace zc := Nat.le_trans zc b1.size
  clear HB16 K16 L16 b1 on hi D P0 D0 H0 t0_0 t0_1 t0_2 t0_3
  obtain ⟨kn1, ek⟩ : ∃ K : Int, kn0 + (z1.length : Nat) = K := ⟨_, rfl⟩
  have D := hide (markB_p w8.heap.size d1 [0] f1 z1 kn0 w17 (unhide P1) (by omega) (unhide M1) (by omega) (by omega))
  rw [ek] at D
  have hk1 : 0 ≤ kn1 ∧ kn1 ≤ 16777216 := by have : z1.length ≤ 1048576 := unhide M1; omega
  clear ek
  go_wp2_with fail
  refine (unhide D).mono ?_
  rintro r w18 ⟨rfl, _, on⟩
  have hi := Hi.of on (unhide D1)
  replace KG := hide (hi.sblk (unhide KG) (by omega))
  replace PG := hide (hi.own SNK (unhide PG) (by omega))
  replace P2 := hide (hi.own bytesK (unhide P2) (by omega))
  have b1 := on.1
  have HB18 := hide ((unhide HB17).trans (b1.mono (by omega)))
  have K18 := hide ((unhide K17).trans (b1.mono (by omega)))
  have L18 := hide ((unhide L17).trans (b1.mono (by omega)))
  replace zc := Nat.le_trans zc b1.size
  clear HB17 K17 L17 b1 on hi D P1 D1 
  obtain ⟨kn2, ek⟩ : ∃ K : Int, kn1 + (z2.length : Nat) = K := ⟨_, rfl⟩
  have D := hide (markB_p w9.heap.size d2 [0] f2 z2 kn1 w18 (unhide P2) (by omega) (unhide M2) (by omega) (by omega))
  rw [ek] at D
  have hk2 : 0 ≤ kn2 ∧ kn2 ≤ 33554432 := by have : z2.length ≤ 1048576 := unhide M2; omega
  clear ek
  go_wp2_with fail
  refine (unhide D).mono ?_
  rintro r w19 ⟨rfl, _, on⟩
  have hi := Hi.of on (unhide D2)
  replace KG := hide (hi.sblk (unhide KG) (by omega))
  replace PG := hide (hi.own SNK (unhide PG) (by omega))
  have b1 := on.1
  have HB19 := hide ((unhide HB18).trans (b1.mono (by omega)))
  have K19 := hide ((unhide K18).trans (b1.mono (by omega)))
  have L19 := hide ((unhide L18).trans (b1.mono (by omega)))
  replace zc := Nat.le_trans zc b1.size
  clear HB18 K18 L18 b1 on hi D P2 D2 
  have d0 := (unhide KG).cell 0
  have d1 := (unhide KG).cell 1
  have d2 := (unhide KG).cell 2
  have d3 := (unhide KG).cell 3
  have d4 := (unhide KG).cell 4
  simp only [srvals, Array.toList, List.getElem?_cons_zero, List.getElem?_cons_succ] at d0 d1 d2 d3 d4
  have a0 := ((unhide HKW).1.below (unhide L19) (unhide HKW).1.lt).cell 0
  have a1 := ((unhide HKW).1.below (unhide L19) (unhide HKW).1.lt).cell 1
  have a2 := ((unhide HKW).1.below (unhide L19) (unhide HKW).1.lt).cell 2
  have a3 := ((unhide HKW).1.below (unhide L19) (unhide HKW).1.lt).cell 3
  have a4 := ((unhide HKW).1.below (unhide L19) (unhide HKW).1.lt).cell 4
  simp only [srvals, Array.toList, List.getElem?_cons_zero, List.getElem?_cons_succ] at a0 a1 a2 a3 a4
  have hkd : decide (kn2 < 0) = false := decide_eq_false (by omega)
  go_wp2_with fail
  refine (eqSnR_same c eg ew S _ (SNK.ok (unhide PG)) (SNK.below (unhide HKW).2 (unhide L19) (Nat.le_refl _)) (unhide HT).sm).mono ?_
  rintro r w20 ⟨rfl, b1⟩
  replace KG := hide ((unhide KG).below b1 (unhide KG).lt)
  replace PG := hide (Kd.ownBelow SNK (unhide PG) b1 (Nat.le_refl _))
  have HB20 := hide ((unhide HB19).trans (b1.mono (unhide HB19).size))
  have K20 := hide ((unhide K19).trans (b1.mono (unhide K19).size))
  have L20 := hide ((unhide L19).trans (b1.mono (unhide L19).size))
  replace zc := Nat.le_trans zc b1.size
  clear HB19 K19 L19 b1 hkd d0 d1 d2 d3 d4 a0 a1 a2 a3 a4
  obtain ⟨M, eM⟩ : ∃ K : Int, 1 + (snTot S : Nat) = K := ⟨_, rfl⟩
  have hM : 0 ≤ M := by omega
  have D := hide (markSnR_p c w10.heap.size dg [0] eg S 1 w20 (unhide PG) (unhide HT) (by omega) (by omega) (by omega) (not_one (unhide DG) _ (by have := (unhide KG).lt; omega)))
  rw [eM] at D
  unfold srvals at D
  have HE := hide (fun (W : World) (h : SNK.Ok W eg (mkSn 1 S)) => (by have := heldSnR_any c eg S 1 W h (unhide HT) (by omega) (by omega); rw [eM] at this; exact this : Calls Tryz.prog 15 #[.agg (srvals c eg S), .int .i64 1] W fun r w' => r = .returned (.int .i64 M) ∧ Below W.heap.size W w'))
  unfold srvals at HE
  clear eM
  have d0 := (unhide KG).cell 0
  have d1 := (unhide KG).cell 1
  have d2 := (unhide KG).cell 2
  have d3 := (unhide KG).cell 3
  have d4 := (unhide KG).cell 4
  simp only [srvals, Array.toList, List.getElem?_cons_zero, List.getElem?_cons_succ] at d0 d1 d2 d3 d4
  go_wp2_with fail
  refine (unhide D).mono ?_
  rintro r w21 ⟨rfl, PM, on⟩
  replace KG := hide (on.sblk (unhide KG) (by rw [(unhide DG) gg hgg2]; decide))
  have b1 := on.1
  have OM := hide (SNK.ok PM)
  have HB21 := hide ((unhide HB20).trans (b1.mono (by omega)))
  have K21 := hide ((unhide K20).trans (b1.mono (by omega)))
  have L21 := hide ((unhide L20).trans (b1.mono (by omega)))
  replace zc := Nat.le_trans zc b1.size
  clear HB20 K20 L20 b1 on D PM PG d0 d1 d2 d3 d4
  have hm1 : decide (M < 0) = false := decide_eq_false (by omega)
  have hm2 : (M != M) = false := by simp
  have d0 := (unhide KG).cell 0
  have d1 := (unhide KG).cell 1
  have d2 := (unhide KG).cell 2
  have d3 := (unhide KG).cell 3
  have d4 := (unhide KG).cell 4
  simp only [srvals, Array.toList, List.getElem?_cons_zero, List.getElem?_cons_succ] at d0 d1 d2 d3 d4
  go_wp2_with fail
  refine ((unhide HE) _ (unhide OM)).mono ?_
  rintro r w22 ⟨rfl, b1⟩
  replace KG := hide ((unhide KG).below b1 (unhide KG).lt)
  replace OM := hide (SNK.below (unhide OM) b1 (Nat.le_refl _))
  have HB22 := hide ((unhide HB21).trans (b1.mono (unhide HB21).size))
  have K22 := hide ((unhide K21).trans (b1.mono (unhide K21).size))
  have L22 := hide ((unhide L21).trans (b1.mono (unhide L21).size))
  replace zc := Nat.le_trans zc b1.size
  clear HB21 K21 L21 b1 d0 d1 d2 d3 d4
  have c0_0 := ((unhide HC0) _ (unhide K22)).cell 0
  have c0_1 := ((unhide HC0) _ (unhide K22)).cell 1
  have c0_2 := ((unhide HC0) _ (unhide K22)).cell 2
  have c0_3 := ((unhide HC0) _ (unhide K22)).cell 3
  simp only [snvals, Array.toList, List.getElem?_cons_zero, List.getElem?_cons_succ] at c0_0 c0_1 c0_2 c0_3
  go_wp2_with fail
  refine ((unhide T0) (unhide M0) _ (unhide HB22)).mono ?_
  rintro r w23 ⟨e0, _, rfl, p0, _, b1⟩
  replace p0 := SNK.ok p0
  replace KG := hide ((unhide KG).below b1 (unhide KG).lt)
  replace OM := hide (SNK.below (unhide OM) b1 (Nat.le_refl _))
  have HB23 := hide ((unhide HB22).trans (b1.mono (unhide HB22).size))
  have K23 := hide ((unhide K22).trans (b1.mono (unhide K22).size))
  have L23 := hide ((unhide L22).trans (b1.mono (unhide L22).size))
  replace zc := Nat.le_trans zc b1.size
  clear HB22 K22 L22 b1 c0_0 c0_1 c0_2 c0_3
  unfold snvals
  go_wp2_with fail
  refine ((unhide T1) (unhide M1) _ (unhide HB23)).mono ?_
  rintro r w24 ⟨e1, _, rfl, p1, _, b1⟩
  replace p1 := bytesK.ok p1
  replace p0 := SNK.below p0 b1 (Nat.le_refl _)
  replace KG := hide ((unhide KG).below b1 (unhide KG).lt)
  replace OM := hide (SNK.below (unhide OM) b1 (Nat.le_refl _))
  have HB24 := hide ((unhide HB23).trans (b1.mono (unhide HB23).size))
  have K24 := hide ((unhide K23).trans (b1.mono (unhide K23).size))
  have L24 := hide ((unhide L23).trans (b1.mono (unhide L23).size))
  replace zc := Nat.le_trans zc b1.size
  clear HB23 K23 L23 b1 
  go_wp2_with fail
  refine ((unhide T2) (unhide M2) _ (unhide HB24)).mono ?_
  rintro r w25 ⟨e2, _, rfl, p2, _, b1⟩
  replace p2 := bytesK.ok p2
  replace p0 := SNK.below p0 b1 (Nat.le_refl _)
  replace p1 := bytesK.below p1 b1 (Nat.le_refl _)
  replace KG := hide ((unhide KG).below b1 (unhide KG).lt)
  replace OM := hide (SNK.below (unhide OM) b1 (Nat.le_refl _))
  have HB25 := hide ((unhide HB24).trans (b1.mono (unhide HB24).size))
  have K25 := hide ((unhide K24).trans (b1.mono (unhide K24).size))
  have L25 := hide ((unhide L24).trans (b1.mono (unhide L24).size))
  replace zc := Nat.le_trans zc b1.size
  clear HB24 K24 L24 b1 
  go_wp2_with fail
  refine ((unhide IMC) (unhide M0) (unhide M1) (unhide M2) e0 e1 e2 _ p0 p1 p2).mono ?_
  rintro r w26 ⟨eh, dh, rfl, PH, _, b1⟩
  replace KG := hide ((unhide KG).below b1 (unhide KG).lt)
  replace OM := hide (SNK.below (unhide OM) b1 (Nat.le_refl _))
  have HB26 := hide ((unhide HB25).trans (b1.mono (unhide HB25).size))
  have K26 := hide ((unhide K25).trans (b1.mono (unhide K25).size))
  have L26 := hide ((unhide L25).trans (b1.mono (unhide L25).size))
  replace zc := Nat.le_trans zc b1.size
  clear HB25 K25 L25 b1 IMC p0 p1 p2
  have kh := SBlk.new w26 (srvals c eh S) 34
  have hb := below_alloc w26 (.cells (srvals c eh S) 34)
  obtain ⟨w27, ee⟩ : ∃ W, w26.alloc (.cells (srvals c eh S) 34) = W := ⟨_, rfl⟩
  rw [ee] at kh hb
  replace PH := Kd.ownBelow SNK PH hb (Nat.le_refl _)
  replace KG := hide ((unhide KG).below hb (unhide KG).lt)
  replace OM := hide (SNK.below (unhide OM) hb (Nat.le_refl _))
  have HB27 := hide ((unhide HB26).trans (hb.mono (unhide HB26).size))
  have K27 := hide ((unhide K26).trans (hb.mono (unhide K26).size))
  have L27 := hide ((unhide L26).trans (hb.mono (unhide L26).size))
  replace zc := Nat.le_trans zc hb.size
  clear HB26 K26 L26 hb
  unfold srvals at ee ⊢
  go_upto_region 37 with (rw [ee])
  try rw [ee]
  clear ee
  obtain ⟨gh, hgh⟩ : ∃ g, g = w26.heap.size := ⟨_, rfl⟩
  rw [← hgh] at kh ⊢
  clear hgh
  have d0 := kh.cell 0
  have d1 := kh.cell 1
  have d2 := kh.cell 2
  have d3 := kh.cell 3
  have d4 := kh.cell 4
  simp only [srvals, Array.toList, List.getElem?_cons_zero, List.getElem?_cons_succ] at d0 d1 d2 d3 d4
  have a0 := ((unhide HKW).1.below (unhide L27) (unhide HKW).1.lt).cell 0
  have a1 := ((unhide HKW).1.below (unhide L27) (unhide HKW).1.lt).cell 1
  have a2 := ((unhide HKW).1.below (unhide L27) (unhide HKW).1.lt).cell 2
  have a3 := ((unhide HKW).1.below (unhide L27) (unhide HKW).1.lt).cell 3
  have a4 := ((unhide HKW).1.below (unhide L27) (unhide HKW).1.lt).cell 4
  simp only [srvals, Array.toList, List.getElem?_cons_zero, List.getElem?_cons_succ] at a0 a1 a2 a3 a4
  go_wp2_with fail
  refine (eqSnR_same c eh ew S _ (SNK.ok PH) (SNK.below (unhide HKW).2 (unhide L27) (Nat.le_refl _)) (unhide HT).sm).mono ?_
  rintro r w28 ⟨rfl, b1⟩
  replace KG := hide ((unhide KG).below b1 (unhide KG).lt)
  replace OM := hide (SNK.below (unhide OM) b1 (Nat.le_refl _))
  have HB28 := hide ((unhide HB27).trans (b1.mono (unhide HB27).size))
  have K28 := hide ((unhide K27).trans (b1.mono (unhide K27).size))
  have L28 := hide ((unhide L27).trans (b1.mono (unhide L27).size))
  replace zc := Nat.le_trans zc b1.size
  clear HB27 K27 L27 b1 PH kh d0 d1 d2 d3 d4 a0 a1 a2 a3 a4
  have d0 := (unhide KG).cell 0
  have d1 := (unhide KG).cell 1
  have d2 := (unhide KG).cell 2
  have d3 := (unhide KG).cell 3
  have d4 := (unhide KG).cell 4
  simp only [srvals, Array.toList, List.getElem?_cons_zero, List.getElem?_cons_succ] at d0 d1 d2 d3 d4
  go_wp2_with fail
  refine ((unhide HE) _ (unhide OM)).mono ?_
  rintro r w29 ⟨rfl, b1⟩
  have HB29 := hide ((unhide HB28).trans (b1.mono (unhide HB28).size))
  have K29 := hide ((unhide K28).trans (b1.mono (unhide K28).size))
  have L29 := hide ((unhide L28).trans (b1.mono (unhide L28).size))
  replace zc := Nat.le_trans zc b1.size
  clear HB28 K28 L28 b1 d0 d1 d2 d3 d4
  go_wp2_with fail
  go_ret
  exact ⟨rfl, unhide HB29⟩

/-! The row's step. -/
set_option maxRecDepth 100000 in
theorem lifted (os : Os) (started : os.Started) (H : Type) (enc : TypeId × Value → H) :
    ReturnsInHanded {} Tryz.checked os 3 .any (Rows.fnExactCastVoteSpec.pre6 enc Tryz.prog Tryz.f3 Rows.fnExactCastVoteRow.domain false) (Rows.fnExactCastVoteSpec.post enc Tryz.prog Tryz.f3 false true false false) := by
  refine returnsInHanded_of_change (C := Tryz.checked) own started (by kernel_rfl) Tryz.func3
    (ChangeSpec.witness6 (enc := enc) (C := Tryz.checked) false ⟨#[], #[.agg #[.int .i64 0, .slice none 0 0, .slice none 0 0, .slice none 0 0], .slice none 0 0, .slice none 0 0, .bool false], []⟩ 8 (by kernel_rfl) (by kernel_rfl) (by kernel_rfl) (by kernel_rfl)) ?_
  intro W base args ds gs before hval0 hW hcnd _
  have hval : ∀ (j : Nat) t v, Tryz.f3.params[j]? = some t → args[j]? = some v → Value.okWide Tryz.prog W .any base t v := hval0
  have hW' := hW
  obtain ⟨p, q, hA0, hV, rfl, hfz, hnd⟩ := hW
  have hA : DataW.TrodAll enc Tryz.prog W 0 (fun _ => true) true Tryz.f3.params.toList args.toList ds p := hA0
  rw [Tryz.params3] at hA hval
  obtain ⟨v0, vs0, d0, ds0, p0, q0, hargs, rfl, rfl, h0, r0⟩ := trodAll_cons hA
  obtain ⟨v1, vs1, d1, ds1, p1, q1, rfl, rfl, rfl, h1, r1⟩ := trodAll_cons r0
  obtain ⟨v2, vs2, d2, ds2, p2, q2, rfl, rfl, rfl, h2, r2⟩ := trodAll_cons r1
  obtain ⟨v3, vs3, d3, ds3, p3, q3, rfl, rfl, rfl, h3, r3⟩ := trodAll_cons r2
  obtain ⟨rfl, rfl, rfl⟩ := trodAll_nil r3
  obtain rfl : args = #[v0, v1, v2, v3] := by cases args; simp_all
  obtain ⟨rfl, rfl⟩ := trodVars_none hV
  have k0 := h0
  have lt0 : ∀ x ∈ p0, x.block < W.heap.size := by obtain ⟨m, hm⟩ := k0; exact DataW.trod_lt m _ _ _ hm
  obtain ⟨x0, y0, rfl, o0⟩ := open_snap (okWide_struct Tryz.underlying26 (hval 0 26 v0 rfl rfl)) h0
  have k1 := h1
  have lt1 : ∀ x ∈ p1, x.block < W.heap.size := by obtain ⟨m, hm⟩ := k1; exact DataW.trod_lt m _ _ _ hm
  obtain ⟨a1, len1, cap1, rfl⟩ := okWide_slice Tryz.underlying27 (hval 1 27 v1 rfl rfl)
  obtain ⟨s1, z1, eq1, o1⟩ : ∃ (s : Sl) (z : List Int), (Value.slice a1 len1 cap1) = .slice s.a s.n s.c ∧ BOk W s z := by
    obtain ⟨fuel, hf⟩ := h1
    obtain ⟨s, z, q, o⟩ := opens_bytes Tryz.underlying27 Tryz.underlying5 (by kernel_rfl) _ _ _ rfl hf
    have q' : [Value.slice a1 len1 cap1] = [Value.slice s.a s.n s.c] := q
    simp only [List.cons.injEq, and_true] at q'
    exact ⟨s, z, q', o⟩
  simp only [Value.slice.injEq] at eq1
  obtain ⟨rfl, rfl, rfl⟩ := eq1
  have k2 := h2
  have lt2 : ∀ x ∈ p2, x.block < W.heap.size := by obtain ⟨m, hm⟩ := k2; exact DataW.trod_lt m _ _ _ hm
  obtain ⟨a2, len2, cap2, rfl⟩ := okWide_slice Tryz.underlying27 (hval 2 27 v2 rfl rfl)
  obtain ⟨s2, z2, eq2, o2⟩ : ∃ (s : Sl) (z : List Int), (Value.slice a2 len2 cap2) = .slice s.a s.n s.c ∧ BOk W s z := by
    obtain ⟨fuel, hf⟩ := h2
    obtain ⟨s, z, q, o⟩ := opens_bytes Tryz.underlying27 Tryz.underlying5 (by kernel_rfl) _ _ _ rfl hf
    have q' : [Value.slice a2 len2 cap2] = [Value.slice s.a s.n s.c] := q
    simp only [List.cons.injEq, and_true] at q'
    exact ⟨s, z, q', o⟩
  simp only [Value.slice.injEq] at eq2
  obtain ⟨rfl, rfl, rfl⟩ := eq2
  obtain ⟨a3, rfl, rfl, rfl⟩ := open_bool Tryz.underlying4 (hval 3 4 v3 rfl rfl) h3
  clear hA0 hval0
  refine (walk x0 y0 s1 z1 s2 z2 a3 W o0 o1 o2).mono fun e W' ⟨he, bel⟩ => ?_
  subst he
  exact ⟨_, rfl, _, _, _, [], _, [], hW', trodAll_mk1 (shut_bool Tryz.underlying4 _), (trodAll_cons_mk (Below.trod laidOut (by kernel_rfl) (of_decide_eq_true (by kernel_rfl)) k0 bel lt0) (trodAll_cons_mk (Below.trod laidOut (by kernel_rfl) (of_decide_eq_true (by kernel_rfl)) k1 bel lt1) (trodAll_cons_mk (Below.trod laidOut (by kernel_rfl) (of_decide_eq_true (by kernel_rfl)) k2 bel lt2) (trodAll_cons_mk (shut_bool Tryz.underlying4 _) trodAll_mk0)))), rfl, bel.frame _, fun h => by cases h⟩

theorem over : Rows.fnExactCastVoteRow.holds Tryz.pinned (OpenSpec.ofChange Rows.fnExactCastVoteSpec) :=
  OpenClaim.holds_of_wide 3 Tryz.f3 rfl rfl rfl rfl rfl rfl rfl ⟨rfl, rfl, rfl, rfl, rfl⟩ rfl rfl rfl rfl rfl (by kernel_rfl) Tryz.func3 (by kernel_rfl)
    (of_decide_eq_true (by kernel_rfl)) (by unfold Func.isWrapper; first | (rw [if_pos (by decide +kernel)]; kernel_rfl) | (rw [if_neg (by decide +kernel)]; exact ⟨rfl, rfl⟩))
    (fun os started H enc _ => lifted os started H enc)

/-- The statement. -/
theorem proved : Rows.FnExactCastVoteSaid := over
#print axioms proved
end Go.Proofs.YtfhhnnlafdgloaaGreat.fnExactCastVote
