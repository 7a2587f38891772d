/- Proved: for every slice of slices of bytes and every header the law FnExactCommitsRight returns true and changes no argument. Conditions: the three variables hold what the program's text lays. -/
import Derived.Test.YtifhaihddimdfaaGreatDoorRows
import Derived.Test.YtifhaihddimdfaaGreatDoorTie
import Derived.Test.YtifhaihddimdfaaGreatDoorCards
import Derived.Test.YtifhaihddimdfaaGreatDoorJ2
import Derived.Test.YtifhaihddimdfaaGreatDoorJ4
import Derived.Test.YtifhaihddimdfaaGreatDoorJ5
import Derived.Test.YtifhaihddimdfaaGreatDoorJ11
import Derived.Test.YtifhaihddimdfaaGreatDoorJ12
import Derived.Test.YtifhaihddimdfaaGreatDoorJ24
import Derived.WalkSmall
import Derived.Deep.MidRow
import Derived.Deep.RegionHeld3
import Derived.WalkKit
import Derived.ProofKit
import Derived.OpenShut
import Derived.ShutString
import Derived.ChangeOld
import Derived.Below
import Derived.OpenVars
import Derived.LaidMore
import Derived.Stop.Joined
import Derived.SevenTiedAt
namespace Go.Proofs.YtifhaihddimdfaaGreatDoor.fnExactCommitsRight
open Go.ChangeShapes Go.WideShapes Go.ChangeAt Go.RowKit
set_option linter.unusedVariables false

theorem own : ownKnob Tryz.prog.godebug = none := by kernel_rfl
theorem laidOut : laidOutB Tryz.prog = true := by kernel_rfl

/-! The walk: the Go text returns true, and writes nothing that was there. -/
set_option maxRecDepth 100000 in
set_option maxHeartbeats 8000000 in
theorem walk (a0 : Option Addr) (len0 cap0 : Nat) (z0 : List (List Int)) (x1 : HS) (h1 : Hd) (w : World) (m0 : len0 ≤ maxLen) (w0 : BsRow w a0 len0 z0) (m1 : HMax x1 maxLen) (w1 : HOk w x1 h1) (i1 : HIn h1) (VV : Laid w) (VE : LaidE w) :
    Calls Tryz.prog 5 #[.slice a0 len0 cap0, .agg (hvals x1 h1)] w fun e w' => e = .returned (.bool true) ∧ Below w.heap.size w w' := by
  have HV := hide (And.intro VV VE)
  have LLN := hide w0.1
  clear VV VE
  have k0 := SBlk.new w (hvals x1 h1) 44
  have hb0 := below_alloc w (.cells (hvals x1 h1) 44)
  obtain ⟨W0, e0⟩ : ∃ W0, w.alloc (.cells (hvals x1 h1) 44) = W0 := ⟨_, rfl⟩
  rw [e0] at k0 hb0
  have SZL := hide (szByteSS_any a0 len0 cap0 z0 1048576 W0 (w0.below hb0 (Nat.le_refl _)) m0 (by omega) (by omega))
  have SZ := hide (fun (r : Int) (W : World) (hb : Below w.heap.size w W) (q0 : 0 ≤ r) (q1 : r ≤ 1048576) => szHeader_any x1 h1 r W (w1.below hb (Nat.le_refl _)) m1 q0 q1)
  have T0 : Hid (HSm h1 → ∀ (W : World), Below w.heap.size w W → Calls Tryz.prog 29 #[.agg (hvals x1 h1)] W fun e w' => ∃ y, e = .returned (.agg (hvals y h1)) ∧ HOk w' y h1 ∧ (HNil w' y ∧ BsCap w' y.k.a y.k.n) ∧ Below W.heap.size W w') := fun m W hb => (toHeader_any x1 h1 W (w1.below hb (Nat.le_refl _)) m).mono fun e w' ⟨y, he, ho, hb'⟩ => ⟨y, he, ho.ok w1, ⟨ho.nilOk, ho.cap⟩, hb'⟩
  have TL : Hid (z0.length ≤ 1048576 → (∀ z ∈ z0, z.length ≤ 1048576) → ∀ (W : World), Below w.heap.size w W → Calls Tryz.prog 28 #[.slice a0 len0 cap0] W fun e w' => ∃ t : Sl, e = .returned (.slice t.a t.n t.c) ∧ RowOk bytesK w' t z0 ∧ Below W.heap.size W w') := fun l y W hb => by
    have hb1 := w0.below hb (Nat.le_refl _)
    refine (toByteSS_any a0 len0 cap0 z0 W hb1 (by have := w0.1; omega) y).mono ?_
    rintro e w' ⟨rfl, q1, q2⟩
    obtain ⟨d, hd⟩ := row_of_obss q1 (Nat.le_refl _) hb1.bytes l []
    exact ⟨⟨some ⟨W.heap.size, 0, none⟩, z0.length, z0.length⟩, by rw [w0.1], (rowK bytesK 22).ok hd, q2⟩
  have SPC := hide (fun (l : z0.length ≤ 1048576) (m : HSm h1) (t : Sl) (y : HS) (W : World) (q : RowOk bytesK W t z0) (o : HOk W y h1) (n : HNil W y ∧ BsCap W y.k.a y.k.n) => specCommitsRight_any t z0 y h1 W q l o n.1 n.2 m)
  have IMC := hide (fun (l : z0.length ≤ 1048576) (m : HSm h1) (t : Sl) (y : HS) (W : World) (q : RowOk bytesK W t z0) (o : HOk W y h1) (n : HNil W y ∧ BsCap W y.k.a y.k.n) (hv : Laid W) (hE : LaidE W) => implCommitsRight_any t z0 y h1 W q l o n.1 n.2 m hv hE)
  have EQC := hide (fun (m : HSm h1) (y z : HS) (W : World) (o : HOk W y h1) (q : HOk W z h1) => eqHeader_same y z h1 W o q m)
  have EQL : Hid (z0.length ≤ 1048576 → (∀ z ∈ z0, z.length ≤ 1048576) → ∀ (s t : Sl) (W : World), RowOk bytesK W s z0 → RowOk bytesK W t z0 → Calls Tryz.prog 31 #[.slice s.a s.n s.c, .slice t.a t.n t.c] W fun e w' => e = .returned (.bool true) ∧ Below W.heap.size W w') := fun l y s t W o q => (eqByteSS_any s.a t.a s.n s.c t.n t.c z0 z0 W (bs_of_row o) (bs_of_row q) (by have := o.len; omega) (by have := q.len; omega) y y).mono (by rintro e w' ⟨rfl, n, rfl⟩; exact ⟨by rw [sameBs_self], below_drewN (Below.refl _ _) n⟩)
  generalize crCode z0 h1 = fq at SPC IMC
  have hq : (fq != fq) = false := by simp
  have hq2 : (fq == fq) = true := by simp
  have HC0 := hide (fun (W : World) (hb : Below W0.heap.size W0 W) => hcells (k0.below hb k0.lt))
  have HB0 := hide hb0
  obtain ⟨c0, c1, c2, c3, c4, c5, c6, c7, c8, c9, c10⟩ := hcells k0
  clear w1 m1 i1 k0 hb0 w0 m0
  unfold hvals at e0 SZ ⊢
  obtain ⟨r0, er0⟩ : ∃ r : Int, r = szBss 1048576 z0 := ⟨_, rfl⟩
  rw [← er0] at SZL
  have ER0 := hide er0
  clear er0
  go_enter Tryz.func5, Tryz.ntmps5
  go_upto_region 1 with (rw [e0])
  try rw [e0]
  clear e0
  by_cases hr0 : r0 < 0
  · have hd0 : decide (r0 < 0) = true := decide_eq_true hr0
    go_wp2_with fail
    refine (unhide SZL).mono ?_
    rintro e w1 ⟨rfl, rfl⟩
    go_wp2_with fail
    go_ret
    exact ⟨rfl, unhide HB0⟩
  have hd0 : decide (r0 < 0) = false := decide_eq_false hr0
  have ok0 := szBss_ok (left := 1048576) (zss := z0) (by rw [← unhide ER0]; omega)
  have eq0 := szBss_eq (left := 1048576) (zss := z0) (by rw [← unhide ER0]; omega)
  have L0 : Hid (z0.length ≤ 1048576) := by show _ ≤ _; omega
  have Y0 : Hid (∀ z ∈ z0, z.length ≤ 1048576) := fun z hz => by have := ok0.2 z hz; omega
  have hr0' : r0 ≤ 1048576 := by have := unhide ER0; omega
  have SZ1 := hide ((unhide SZ) r0 W0 (unhide HB0) (by omega) hr0')
  clear ok0 eq0 SZ
  go_wp2_with fail
  refine (unhide SZL).mono ?_
  rintro e w1 ⟨rfl, rfl⟩
  clear SZL
  go_wp2_with fail
  refine (unhide SZ1).mono ?_
  rintro e w1 ⟨⟨r, rfl, _, _, hsm⟩, b1⟩
  have HB1 := hide ((unhide HB0).trans (b1.mono (unhide HB0).size))
  have HSM := hide hsm
  clear hsm SZ1 c0 c1 c2 c3 c4 c5 c6 c7 c8 c9 c10 hr0 hd0 hr0'
  by_cases hr : r < 0
  · have hd : decide (r < 0) = true := decide_eq_true hr
    go_wp2_with fail
    go_ret
    exact ⟨rfl, unhide HB1⟩
  have hd : decide (r < 0) = false := decide_eq_false hr
  have M := hide ((unhide HSM) (by omega))
  have K1 := hide b1
  clear b1 HSM
  have HRR1 : Hid (∀ W, Below w1.heap.size w1 W → (W.cell? ⟨w.heap.size, 0, none⟩ = some (.slice x1.p.a x1.p.n x1.p.c) ∧ W.cell? ⟨w.heap.size, 1, none⟩ = some (.int .i64 h1.n1) ∧ W.cell? ⟨w.heap.size, 2, none⟩ = some (.int .i64 h1.n2) ∧ W.cell? ⟨w.heap.size, 3, none⟩ = some (.int .i64 h1.n3) ∧ W.cell? ⟨w.heap.size, 4, none⟩ = some (.slice x1.t.a x1.t.n x1.t.c) ∧ W.cell? ⟨w.heap.size, 5, none⟩ = some (.int .i64 h1.n5) ∧ W.cell? ⟨w.heap.size, 6, none⟩ = some (.slice x1.s.a x1.s.n x1.s.c) ∧ W.cell? ⟨w.heap.size, 7, none⟩ = some (.slice x1.r.a x1.r.n x1.r.c) ∧ W.cell? ⟨w.heap.size, 8, none⟩ = some (.slice x1.g.a x1.g.n x1.g.c) ∧ W.cell? ⟨w.heap.size, 9, none⟩ = some (.slice x1.e.a x1.e.n x1.e.c) ∧ W.cell? ⟨w.heap.size, 10, none⟩ = some (.slice x1.k.a x1.k.n x1.k.c))) := fun W hb => (unhide HC0) W ((unhide K1).trans (hb.mono (unhide K1).size))
  go_wp2_with fail
  go_region_held3 (fun W => (W.cell? ⟨w.heap.size, 0, none⟩ = some (.slice x1.p.a x1.p.n x1.p.c) ∧ W.cell? ⟨w.heap.size, 1, none⟩ = some (.int .i64 h1.n1) ∧ W.cell? ⟨w.heap.size, 2, none⟩ = some (.int .i64 h1.n2) ∧ W.cell? ⟨w.heap.size, 3, none⟩ = some (.int .i64 h1.n3) ∧ W.cell? ⟨w.heap.size, 4, none⟩ = some (.slice x1.t.a x1.t.n x1.t.c) ∧ W.cell? ⟨w.heap.size, 5, none⟩ = some (.int .i64 h1.n5) ∧ W.cell? ⟨w.heap.size, 6, none⟩ = some (.slice x1.s.a x1.s.n x1.s.c) ∧ W.cell? ⟨w.heap.size, 7, none⟩ = some (.slice x1.r.a x1.r.n x1.r.c) ∧ W.cell? ⟨w.heap.size, 8, none⟩ = some (.slice x1.g.a x1.g.n x1.g.c) ∧ W.cell? ⟨w.heap.size, 9, none⟩ = some (.slice x1.e.a x1.e.n x1.e.c) ∧ W.cell? ⟨w.heap.size, 10, none⟩ = some (.slice x1.k.a x1.k.n x1.k.c)))
    (exact (unhide HRR1) _ (by first | assumption | exact (Below.refl w1.heap.size w1).drew | exact below_drewN (Below.refl w1.heap.size w1) _ | exact below_drewN (by assumption) _))
    (first
      | (go_at_call 28; refine ((unhide TL) (unhide L0) (unhide Y0) _ ((unhide HB1).trans (Below.mono (by first | exact (Below.refl w1.heap.size w1).drew | exact below_drewN (Below.refl w1.heap.size w1) _) (unhide HB1).size))).mono ?_; rintro e w2 ⟨t2, rfl, q2, b2⟩; have J2 : Below w1.heap.size w1 w2 := Below.trans (by first | exact (Below.refl w1.heap.size w1).drew | exact below_drewN (Below.refl w1.heap.size w1) _) (b2.mono (by first | exact Nat.le_refl _ | exact (below_drewN (Below.refl w1.heap.size w1) _).size)); clear b2)
      | (go_at_call 29; refine ((unhide T0) (unhide M) _ ((unhide HB1).trans (J2.mono (unhide HB1).size))).mono ?_; rintro e w3 ⟨y3, rfl, o3, n3, b3⟩; have q3 := RowOk.below q2 b3 (Nat.le_refl _); have J3 := J2.trans (b3.mono J2.size); clear b3)
      | (go_at_call 27; refine ((unhide SPC) (unhide L0) (unhide M) t2 y3 _ q3 o3 n3).mono ?_; rintro e w4 ⟨rfl, b4⟩; have J4 := J3.trans (b4.mono J3.size)))
  all_goals
    have HB4 := hide ((unhide HB1).trans (J4.mono (unhide HB1).size))
    have K4 := hide ((unhide K1).trans (J4.mono (unhide K1).size))
    clear b4 o3 n3 q2 q3 J2 J3 J4 K1 HB1 HRR1
    go_wp2_with fail
    refine ((unhide TL) (unhide L0) (unhide Y0) _ (unhide HB4)).mono ?_
    rintro e w5 ⟨t5, rfl, q5, b5⟩
    have HB5 := hide ((unhide HB4).trans (b5.mono (unhide HB4).size))
    have K5 := hide ((unhide K4).trans (b5.mono (unhide K4).size))
    obtain ⟨u0, u1, u2, u3, u4, u5, u6, u7, u8, u9, u10⟩ := (unhide HC0) _ (unhide K5)
    clear b5 K4 HB4
    go_wp2_with fail
    refine ((unhide T0) (unhide M) _ (unhide HB5)).mono ?_
    rintro e w6 ⟨y6, rfl, o6, n6, b6⟩
    have q6 := RowOk.below q5 b6 (Nat.le_refl _)
    have HB6 := hide ((unhide HB5).trans (b6.mono (unhide HB5).size))
    have K6 := hide ((unhide K5).trans (b6.mono (unhide K5).size))
    clear b6 u0 u1 u2 u3 u4 u5 u6 u7 u8 u9 u10 K5 HB5 q5
    have k7 := SBlk.new w6 (hvals y6 h1) 26
    have hb7 := below_alloc w6 (.cells (hvals y6 h1) 26)
    obtain ⟨W7, e7⟩ : ∃ W7, w6.alloc (.cells (hvals y6 h1) 26) = W7 := ⟨_, rfl⟩
    rw [e7] at k7 hb7
    have HB7 := hide ((unhide HB6).trans (hb7.mono (unhide HB6).size))
    have K7 := hide ((unhide K6).trans (hb7.mono (unhide K6).size))
    have o7 := o6.below hb7 (Nat.le_refl _)
    have n7 := And.intro (n6.1.below hb7 (Nat.le_refl _)) (n6.2.below hb7 (Nat.le_refl _))
    have q7 := RowOk.below q6 hb7 (Nat.le_refl _)
    obtain ⟨v0, v1, v2, v3, v4, v5, v6, v7, v8, v9, v10⟩ := hcells k7
    have HR7 := hide (fun (W : World) (hb : Below W7.heap.size W7 W) => hcells (k7.below hb k7.lt))
    clear hb7 k7 o6 n6 q6 K6 HB6
    unfold hvals at e7 ⊢
    go_upto_region 10 with (rw [e7])
    try rw [e7]
    clear e7
    generalize w6.heap.size = g7 at v0 v1 v2 v3 v4 v5 v6 v7 v8 v9 v10 HR7 ⊢
    go_wp2_with fail
    refine ((unhide IMC) (unhide L0) (unhide M) t5 y6 _ q7 o7 n7 ((unhide HV).1.below (unhide HB7) (Nat.le_refl _)) ((unhide HV).2.below (unhide HB7) (Nat.le_refl _))).mono ?_
    rintro e w8 ⟨rfl, b8⟩
    have HB8 := hide ((unhide HB7).trans (b8.mono (unhide HB7).size))
    have K8 := hide ((unhide K7).trans (b8.mono (unhide K7).size))
    have HO8 := hide (o7.below b8 (Nat.le_refl _))
    have q8 := RowOk.below q7 b8 (Nat.le_refl _)
    have HR8 := hide (fun (W : World) (hb : Below w8.heap.size w8 W) => (unhide HR7) W (b8.trans (hb.mono b8.size)))
    clear b8 o7 n7 q7 v0 v1 v2 v3 v4 v5 v6 v7 v8 v9 v10 HR7 K7 HB7 HB0 SPC IMC hr hd
    go_wp2_with fail
    refine ((unhide TL) (unhide L0) (unhide Y0) _ (unhide HB8)).mono ?_
    rintro e w9 ⟨t9, rfl, q9, b9⟩
    have q89 := RowOk.below q8 b9 (Nat.le_refl _)
    go_wp2_with fail
    refine ((unhide EQL) (unhide L0) (unhide Y0) t5 t9 _ q89 q9).mono ?_
    rintro e w10 ⟨rfl, b10⟩
    have b80 := b9.trans (b10.mono b9.size)
    have HB10 := hide ((unhide HB8).trans (b80.mono (unhide HB8).size))
    have K10 := hide ((unhide K8).trans (b80.mono (unhide K8).size))
    have HO10 := hide (fun (W : World) (hb : Below w10.heap.size w10 W) => ((unhide HO8).below b80 (Nat.le_refl _)).below hb (Nat.le_refl _))
    have HRR : Hid (∀ W, Below w10.heap.size w10 W → (W.cell? ⟨g7, 0, none⟩ = some (.slice y6.p.a y6.p.n y6.p.c) ∧ W.cell? ⟨g7, 1, none⟩ = some (.int .i64 h1.n1) ∧ W.cell? ⟨g7, 2, none⟩ = some (.int .i64 h1.n2) ∧ W.cell? ⟨g7, 3, none⟩ = some (.int .i64 h1.n3) ∧ W.cell? ⟨g7, 4, none⟩ = some (.slice y6.t.a y6.t.n y6.t.c) ∧ W.cell? ⟨g7, 5, none⟩ = some (.int .i64 h1.n5) ∧ W.cell? ⟨g7, 6, none⟩ = some (.slice y6.s.a y6.s.n y6.s.c) ∧ W.cell? ⟨g7, 7, none⟩ = some (.slice y6.r.a y6.r.n y6.r.c) ∧ W.cell? ⟨g7, 8, none⟩ = some (.slice y6.g.a y6.g.n y6.g.c) ∧ W.cell? ⟨g7, 9, none⟩ = some (.slice y6.e.a y6.e.n y6.e.c) ∧ W.cell? ⟨g7, 10, none⟩ = some (.slice y6.k.a y6.k.n y6.k.c)) ∧ (W.cell? ⟨w.heap.size, 0, none⟩ = some (.slice x1.p.a x1.p.n x1.p.c) ∧ W.cell? ⟨w.heap.size, 1, none⟩ = some (.int .i64 h1.n1) ∧ W.cell? ⟨w.heap.size, 2, none⟩ = some (.int .i64 h1.n2) ∧ W.cell? ⟨w.heap.size, 3, none⟩ = some (.int .i64 h1.n3) ∧ W.cell? ⟨w.heap.size, 4, none⟩ = some (.slice x1.t.a x1.t.n x1.t.c) ∧ W.cell? ⟨w.heap.size, 5, none⟩ = some (.int .i64 h1.n5) ∧ W.cell? ⟨w.heap.size, 6, none⟩ = some (.slice x1.s.a x1.s.n x1.s.c) ∧ W.cell? ⟨w.heap.size, 7, none⟩ = some (.slice x1.r.a x1.r.n x1.r.c) ∧ W.cell? ⟨w.heap.size, 8, none⟩ = some (.slice x1.g.a x1.g.n x1.g.c) ∧ W.cell? ⟨w.heap.size, 9, none⟩ = some (.slice x1.e.a x1.e.n x1.e.c) ∧ W.cell? ⟨w.heap.size, 10, none⟩ = some (.slice x1.k.a x1.k.n x1.k.c))) := fun W hb => by
      have B8 := b80.trans (hb.mono b80.size)
      exact ⟨(unhide HR8) W B8, (unhide HC0) W ((unhide K8).trans (B8.mono (unhide K8).size))⟩
    clear b9 b10 b80 q89 q9 q8 K8 HB8 HR8 HO8
    go_wp2_with fail
    go_region_held3 (fun W => (W.cell? ⟨g7, 0, none⟩ = some (.slice y6.p.a y6.p.n y6.p.c) ∧ W.cell? ⟨g7, 1, none⟩ = some (.int .i64 h1.n1) ∧ W.cell? ⟨g7, 2, none⟩ = some (.int .i64 h1.n2) ∧ W.cell? ⟨g7, 3, none⟩ = some (.int .i64 h1.n3) ∧ W.cell? ⟨g7, 4, none⟩ = some (.slice y6.t.a y6.t.n y6.t.c) ∧ W.cell? ⟨g7, 5, none⟩ = some (.int .i64 h1.n5) ∧ W.cell? ⟨g7, 6, none⟩ = some (.slice y6.s.a y6.s.n y6.s.c) ∧ W.cell? ⟨g7, 7, none⟩ = some (.slice y6.r.a y6.r.n y6.r.c) ∧ W.cell? ⟨g7, 8, none⟩ = some (.slice y6.g.a y6.g.n y6.g.c) ∧ W.cell? ⟨g7, 9, none⟩ = some (.slice y6.e.a y6.e.n y6.e.c) ∧ W.cell? ⟨g7, 10, none⟩ = some (.slice y6.k.a y6.k.n y6.k.c)) ∧ (W.cell? ⟨w.heap.size, 0, none⟩ = some (.slice x1.p.a x1.p.n x1.p.c) ∧ W.cell? ⟨w.heap.size, 1, none⟩ = some (.int .i64 h1.n1) ∧ W.cell? ⟨w.heap.size, 2, none⟩ = some (.int .i64 h1.n2) ∧ W.cell? ⟨w.heap.size, 3, none⟩ = some (.int .i64 h1.n3) ∧ W.cell? ⟨w.heap.size, 4, none⟩ = some (.slice x1.t.a x1.t.n x1.t.c) ∧ W.cell? ⟨w.heap.size, 5, none⟩ = some (.int .i64 h1.n5) ∧ W.cell? ⟨w.heap.size, 6, none⟩ = some (.slice x1.s.a x1.s.n x1.s.c) ∧ W.cell? ⟨w.heap.size, 7, none⟩ = some (.slice x1.r.a x1.r.n x1.r.c) ∧ W.cell? ⟨w.heap.size, 8, none⟩ = some (.slice x1.g.a x1.g.n x1.g.c) ∧ W.cell? ⟨w.heap.size, 9, none⟩ = some (.slice x1.e.a x1.e.n x1.e.c) ∧ W.cell? ⟨w.heap.size, 10, none⟩ = some (.slice x1.k.a x1.k.n x1.k.c)))
      (exact (unhide HRR) _ (by first | assumption | exact (Below.refl w10.heap.size w10).drew | exact below_drewN (Below.refl w10.heap.size w10) _ | exact below_drewN (by assumption) _))
      (first
        | (go_at_call 29; refine ((unhide T0) (unhide M) _ ((unhide HB10).trans (Below.mono (by first | exact (Below.refl w10.heap.size w10).drew | exact below_drewN (Below.refl w10.heap.size w10) _) (unhide HB10).size))).mono ?_; rintro e w11 ⟨y11, rfl, o11, _, b11⟩; have K11 : Below w10.heap.size w10 w11 := Below.trans (by first | exact (Below.refl w10.heap.size w10).drew | exact below_drewN (Below.refl w10.heap.size w10) _) (b11.mono (by first | exact Nat.le_refl _ | exact (below_drewN (Below.refl w10.heap.size w10) _).size)); clear b11)
        | (go_at_call 32; refine ((unhide EQC) (unhide M) y6 y11 _ ((unhide HO10) _ K11) o11).mono ?_; rintro e w12 ⟨rfl, b12⟩; have K12 : Below w10.heap.size w10 w12 := K11.trans (b12.mono K11.size)))
    all_goals
      go_wp2_with fail
      go_ret
      exact ⟨rfl, (unhide HB10).trans (K12.mono (unhide HB10).size)⟩

/-! The row's step. -/
set_option maxRecDepth 100000 in
theorem lifted (os : Os) (started : os.Started) (H : Type) (enc : TypeId × Value → H) :
    ReturnsInHanded {} Tryz.checked os 5 .any (fun w args => (Rows.fnExactCommitsRightSpec.pre enc Tryz.prog Tryz.f5 [] false w args ∧ laidMetH Tryz.prog laid3 w) ∧ sizedMet enc Tryz.prog Tryz.f5 (OpenSpec.ofChange Rows.fnExactCommitsRightSpec) false w args)
      (Rows.fnExactCommitsRightSpec.post enc Tryz.prog Tryz.f5 false true false false) := by
  refine returnsInHanded_of_change_and (C := Tryz.checked) (X := fun w _ => laidMetH Tryz.prog laid3 w) (fun _ _ _ hh h => h.of_heap hh) own started (by kernel_rfl) Tryz.func5
    (ChangeSpec.witness_shaped (enc := enc) (C := Tryz.checked) (os := os) (X := fun w _ => laidMetH Tryz.prog laid3 w) false (World.doorLaid Tryz.prog 400 os) #[.slice none 0 0, .agg #[.slice none 0 0, .int .i64 0, .int .i64 0, .int .i64 0, .slice none 0 0, .int .i64 0, .slice none 0 0, .slice none 0 0, .slice none 0 0, .slice none 0 0, .slice none 0 0]] 8 rfl (World.shaped_of_RefB (by kernel_rfl) (by kernel_rfl)) (by kernel_rfl) (by kernel_rfl) (by kernel_rfl) (door_met3 os _)) ?_
  intro W base args ds gs before hval0 hW _ _ hL _
  have hval : ∀ (j : Nat) t v, Tryz.f5.params[j]? = some t → args[j]? = some v → Value.okWide Tryz.prog W .any base t v := hval0
  have hW' := hW
  obtain ⟨p, q, hA0, hV, rfl, hfz, hnd⟩ := hW
  have hA : DataW.TrodAll enc Tryz.prog W 0 (fun _ => true) true Tryz.f5.params.toList args.toList ds p := hA0
  rw [Tryz.params5] at hA hval
  obtain ⟨v0, vs0, d0, ds0, p0, q0, hargs, rfl, rfl, h0, r0⟩ := trodAll_cons hA
  obtain ⟨v1, vs1, d1, ds1, p1, q1, rfl, rfl, rfl, h1, r1⟩ := trodAll_cons r0
  obtain ⟨rfl, rfl, rfl⟩ := trodAll_nil r1
  obtain rfl : args = #[v0, v1] := by cases args; simp_all
  obtain ⟨y0v, y1v, rfl⟩ : ∃ y0 y1, gs = [y0, y1] := by
    match gs, hV with
    | [y0, y1], _ => exact ⟨y0, y1, rfl⟩
    | [], hV => exact hV.elim
    | [_], hV => obtain ⟨_, _, _, _, _, _, _, _, _, _, hs, _⟩ := hV; exact hs.elim
    | _ :: _ :: _ :: _, hV =>
      obtain ⟨_, _, _, _, _, _, _, _, _, _, hs, _⟩ := hV
      obtain ⟨_, _, _, _, _, _, _, _, _, _, hs2, _⟩ := hs
      exact hs2.elim
  have k0 := h0
  have lt0 : ∀ x ∈ p0, x.block < W.heap.size := by obtain ⟨m, hm⟩ := k0; exact DataW.trod_lt m _ _ _ hm
  obtain ⟨a0, len0, cap0, z0, rfl, m0, w0⟩ := open_bss Tryz.underlying24 Tryz.underlying22 (by kernel_rfl) (by kernel_rfl) Tryz.underlying5 (okWide_slice Tryz.underlying24 (hval 0 24 v0 rfl rfl)) h0
  have k1 := h1
  have lt1 : ∀ x ∈ p1, x.block < W.heap.size := by obtain ⟨m, hm⟩ := k1; exact DataW.trod_lt m _ _ _ hm
  obtain ⟨x1, y1, rfl, w1, m1, i1⟩ := open_header Tryz.underlying44 rfl (by kernel_rfl) ⟨rfl, rfl, rfl, rfl, rfl, rfl, rfl, rfl, rfl, rfl, rfl⟩ ⟨rfl, rfl, rfl, rfl, rfl, rfl, rfl, rfl, rfl, rfl, rfl⟩ Tryz.underlying22 Tryz.underlying5 Tryz.underlying2 Tryz.underlying24 (by kernel_rfl) (by kernel_rfl) (by kernel_rfl) (by kernel_rfl) (okWide_struct Tryz.underlying44 (hval 1 44 v1 rfl rfl)) h1
  clear hA0 hval0
  refine (walk a0 len0 cap0 z0 x1 y1 W m0 w0 m1 w1 i1 (of_laid3 hL).1 (of_laid3 hL).2).mono fun e W' ⟨he, bel⟩ => ?_
  subst he
  exact ⟨_, rfl, _, _, _, [], _, _, hW', trodAll_mk1 (shut_bool Tryz.underlying4 _), (trodAll_cons_mk (Below.trod laidOut (by kernel_rfl) (of_decide_eq_true (by kernel_rfl)) k0 bel lt0) (trodAll_cons_mk (Below.trod laidOut (by kernel_rfl) (of_decide_eq_true (by kernel_rfl)) k1 bel lt1) trodAll_mk0)), Below.trodVars laidOut bel (by kernel_rfl) hV, bel.frame _, fun h => by cases h⟩

theorem over : Rows.FnExactCommitsRightSaid :=
  OpenClaim.holds_of_wide 5 Tryz.f5 rfl rfl rfl rfl rfl rfl rfl ⟨rfl, rfl, rfl, rfl, rfl⟩ rfl rfl rfl rfl rfl (by kernel_rfl) Tryz.func5 (by kernel_rfl)
    (of_decide_eq_true (by kernel_rfl)) (by unfold Func.isWrapper; first | (rw [if_pos (by decide +kernel)]; kernel_rfl) | (rw [if_neg (by decide +kernel)]; exact ⟨rfl, rfl⟩))
    (fun os started H enc _ => lifted os started H enc)

/-- The statement: the tied card. -/
theorem proved : Rows.FnExactCommitsRightCardSaid :=
  Claim7.holds_tied_plain_at .later [] [.handle, .data, .data] true (true, "16417fa94c9709e46d354e6668aa2ae3ec2140e546bb9d3fbd289a7ed8c8dda2") true
    over (fun _ h => by cases h) (by kernel_rfl) (fun _ h => by cases h) fnExactCommitsRight_row_tie rfl ⟨rfl, rfl⟩ (by kernel_rfl) rfl
    (fun f fn hf hfn => by
      obtain rfl : f = 5 := Option.some.inj ((show Tryz.prog.funcNamed "loop.example/g00383/laws.FnExactCommitsRight" = some 5 by kernel_rfl).symm.trans hf) |>.symm
      obtain rfl : fn = Tryz.f5 := (Option.some.inj (Tryz.func5.symm.trans hfn)).symm
      exact ⟨by kernel_rfl, fun j t ht => by
        rw [Tryz.params5] at ht
        have hm : t ∈ [24, 44] := by simpa using Array.mem_of_getElem? ht
        have hall : ([24, 44].all fun u => !Tryz.prog.wantsStandIn u) = true := by kernel_rfl
        exact (show Tryz.prog.wantsStandIn t = false by simpa using List.all_eq_true.1 hall t hm)⟩)
    (by kernel_rfl)
#print axioms proved
end Go.Proofs.YtifhaihddimdfaaGreatDoor.fnExactCommitsRight
