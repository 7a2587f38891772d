/- Proved: for any two headers the law FnExactSameHeaders returns true and changes no argument. Conditions: none. -/
import Derived.Test.YtlenpjbkbjdbeabRows
import Derived.Test.YtlenpjbkbjdbeabHdS
import Derived.Test.YtlenpjbkbjdbeabHdT
import Derived.Test.YtlenpjbkbjdbeabHdE
import Derived.Test.YtlenpjbkbjdbeabSmS
import Derived.Test.YtlenpjbkbjdbeabSmK
import Derived.WalkSmall
import Derived.Deep.RegionHeld3
import Derived.Test.YtlenpjbkbjdbeabHdB
import Derived.WalkKit
import Derived.ProofKit
import Derived.OpenShut
import Derived.ShutString
import Derived.ChangeOld
import Derived.Below
namespace Go.Proofs.Ytlenpjbkbjdbeab.fnExactSameHeaders
open Go.ChangeShapes Go.WideShapes Go.ChangeAt Go.RowKit
set_option linter.unusedVariables false

theorem own : ownKnob Try.prog.godebug = none := by kernel_rfl
theorem laidOut : laidOutB Try.prog = true := by kernel_rfl

/-! The walk: the Go text returns true, and writes nothing that was there. -/
set_option maxRecDepth 100000 in
set_option maxHeartbeats 8000000 in
theorem walk (x0 : HS) (h0 : Hd) (x1 : HS) (h1 : Hd) (w : World) (m0 : HMax x0 maxLen) (w0 : HOk w x0 h0) (i0 : HIn h0) (m1 : HMax x1 maxLen) (w1 : HOk w x1 h1) (i1 : HIn h1) :
    Calls Try.prog 4 #[.agg (hvals x0 h0), .agg (hvals x1 h1)] w fun e w' => e = .returned (.bool true) ∧ Below w.heap.size w w' := by
  obtain ⟨k0, k1, hb0, hsz⟩ := two_blk w (hvals x0 h0) (hvals x1 h1) 30 30
  obtain ⟨W0, e0⟩ : ∃ W0, (w.alloc (.cells (hvals x0 h0) 30)).alloc (.cells (hvals x1 h1) 30) = W0 := ⟨_, rfl⟩
  rw [e0] at k0 k1 hb0 hsz
  have SZA := hide (szHeader_any x0 h0 1048576 W0 (w0.below hb0 (Nat.le_refl _)) m0 (by omega) (by omega))
  have SZB := hide (fun (r : Int) (a : 0 ≤ r) (b : r ≤ 1048576) (W : World) (hb : Below w.heap.size w W) => szHeader_any x1 h1 r W (w1.below hb (Nat.le_refl _)) m1 a b)
  have TA : Hid (HSm h0 → ∀ (W : World), Below w.heap.size w W → Calls Try.prog 12 #[.agg (hvals x0 h0)] W fun e w' => ∃ y, e = .returned (.agg (hvals y h0)) ∧ HOk w' y h0 ∧ Below W.heap.size W w') := fun m W hb => (toHeader_any x0 h0 W (w0.below hb (Nat.le_refl _)) m).mono fun e w' ⟨y, he, ho, hb'⟩ => ⟨y, he, ho.ok w0, hb'⟩
  have TB : Hid (HSm h1 → ∀ (W : World), Below w.heap.size w W → Calls Try.prog 12 #[.agg (hvals x1 h1)] W fun e w' => ∃ y, e = .returned (.agg (hvals y h1)) ∧ HOk w' y h1 ∧ Below W.heap.size W w') := fun m W hb => (toHeader_any x1 h1 W (w1.below hb (Nat.le_refl _)) m).mono fun e w' ⟨y, he, ho, hb'⟩ => ⟨y, he, ho.ok w1, hb'⟩
  have SPC := hide (fun (m : HSm h0) (m' : HSm h1) (y z : HS) (W : World) (o : HOk W y h0) (q : HOk W z h1) => specSameHeaders_any y z h0 h1 W o q m m')
  have IMC := hide (fun (m : HSm h0) (m' : HSm h1) (y z : HS) (W : World) (o : HOk W y h0) (q : HOk W z h1) => implSameHeaders_any y z h0 h1 W o q m m')
  have EQA := hide (fun (m : HSm h0) (y z : HS) (W : World) (o : HOk W y h0) (q : HOk W z h0) => eqHeader_same y z h0 W o q m)
  have EQB := hide (fun (m : HSm h1) (y z : HS) (W : World) (o : HOk W y h1) (q : HOk W z h1) => eqHeader_same y z h1 W o q m)
  have hq : (sameHd h0 h1 != sameHd h0 h1) = false := by simp
  generalize sameHd h0 h1 = fq at SPC IMC hq
  obtain ⟨ca0, ca1, ca2, ca3, ca4, ca5, ca6, ca7, ca8, ca9, ca10⟩ := hcells k0
  have HC0 := hide (fun (W : World) (hb : Below W0.heap.size W0 W) => And.intro (hcells (k0.below hb k0.lt)) (hcells (k1.below hb k1.lt)))
  have HB0 := hide hb0
  clear w0 w1 m0 m1 i0 i1 k0 k1 hb0 hsz
  unfold hvals at e0 SZA SZB ⊢
  go_enter Try.func4, Try.ntmps4
  go_upto_region 1 with (rw [e0])
  try rw [e0]
  clear e0
  go_wp2_with fail
  refine (unhide SZA).mono ?_
  rintro e w1 ⟨⟨r, rfl, _, hr1, hsm⟩, b1⟩
  have HB1 := hide ((unhide HB0).trans (b1.mono (unhide HB0).size))
  have HSM := hide hsm
  clear hsm SZA ca0 ca1 ca2 ca3 ca4 ca5 ca6 ca7 ca8 ca9 ca10
  by_cases hr : r < 0
  · have hd : decide (r < 0) = true := decide_eq_true hr
    go_wp2_with fail
    go_ret
    exact ⟨rfl, unhide HB1⟩
  have hd : decide (r < 0) = false := decide_eq_false hr
  have M0 := hide ((unhide HSM) (by omega))
  obtain ⟨_, ⟨cb0, cb1, cb2, cb3, cb4, cb5, cb6, cb7, cb8, cb9, cb10⟩⟩ := (unhide HC0) _ b1
  have K1 := hide b1
  clear b1 HSM
  go_wp2_with fail
  refine ((unhide SZB) r (by omega) hr1 _ (unhide HB1)).mono ?_
  rintro e w2 ⟨⟨r2, rfl, _, hr2, hsm⟩, b2⟩
  have HB2 := hide ((unhide HB1).trans (b2.mono (unhide HB1).size))
  have HSM := hide hsm
  clear hsm SZB cb0 cb1 cb2 cb3 cb4 cb5 cb6 cb7 cb8 cb9 cb10
  by_cases hrb : r2 < 0
  · have hd2 : decide (r2 < 0) = true := decide_eq_true hrb
    go_wp2_with fail
    go_ret
    exact ⟨rfl, unhide HB2⟩
  have hd2 : decide (r2 < 0) = false := decide_eq_false hrb
  have M1 := hide ((unhide HSM) (by omega))
  have HC2 : Hid (∀ W, Below w2.heap.size w2 W → (W.cell? ⟨w.heap.size, 0, none⟩ = some (.slice x0.p.a x0.p.n x0.p.c) ∧ W.cell? ⟨w.heap.size, 1, none⟩ = some (.int .i64 h0.n1) ∧ W.cell? ⟨w.heap.size, 2, none⟩ = some (.int .i64 h0.n2) ∧ W.cell? ⟨w.heap.size, 3, none⟩ = some (.int .i64 h0.n3) ∧ W.cell? ⟨w.heap.size, 4, none⟩ = some (.slice x0.t.a x0.t.n x0.t.c) ∧ W.cell? ⟨w.heap.size, 5, none⟩ = some (.int .i64 h0.n5) ∧ W.cell? ⟨w.heap.size, 6, none⟩ = some (.slice x0.s.a x0.s.n x0.s.c) ∧ W.cell? ⟨w.heap.size, 7, none⟩ = some (.slice x0.r.a x0.r.n x0.r.c) ∧ W.cell? ⟨w.heap.size, 8, none⟩ = some (.slice x0.g.a x0.g.n x0.g.c) ∧ W.cell? ⟨w.heap.size, 9, none⟩ = some (.slice x0.e.a x0.e.n x0.e.c) ∧ W.cell? ⟨w.heap.size, 10, none⟩ = some (.slice x0.k.a x0.k.n x0.k.c)) ∧ (W.cell? ⟨w.heap.size + 1, 0, none⟩ = some (.slice x1.p.a x1.p.n x1.p.c) ∧ W.cell? ⟨w.heap.size + 1, 1, none⟩ = some (.int .i64 h1.n1) ∧ W.cell? ⟨w.heap.size + 1, 2, none⟩ = some (.int .i64 h1.n2) ∧ W.cell? ⟨w.heap.size + 1, 3, none⟩ = some (.int .i64 h1.n3) ∧ W.cell? ⟨w.heap.size + 1, 4, none⟩ = some (.slice x1.t.a x1.t.n x1.t.c) ∧ W.cell? ⟨w.heap.size + 1, 5, none⟩ = some (.int .i64 h1.n5) ∧ W.cell? ⟨w.heap.size + 1, 6, none⟩ = some (.slice x1.s.a x1.s.n x1.s.c) ∧ W.cell? ⟨w.heap.size + 1, 7, none⟩ = some (.slice x1.r.a x1.r.n x1.r.c) ∧ W.cell? ⟨w.heap.size + 1, 8, none⟩ = some (.slice x1.g.a x1.g.n x1.g.c) ∧ W.cell? ⟨w.heap.size + 1, 9, none⟩ = some (.slice x1.e.a x1.e.n x1.e.c) ∧ W.cell? ⟨w.heap.size + 1, 10, none⟩ = some (.slice x1.k.a x1.k.n x1.k.c))) := fun W hb => (unhide HC0) W ((unhide K1).trans ((b2.trans (hb.mono b2.size)).mono (unhide K1).size))
  clear b2 HSM K1 HB1 hr1 hr2
  go_wp2_with fail
  go_region_held3 (fun W => (W.cell? ⟨w.heap.size, 0, none⟩ = some (.slice x0.p.a x0.p.n x0.p.c) ∧ W.cell? ⟨w.heap.size, 1, none⟩ = some (.int .i64 h0.n1) ∧ W.cell? ⟨w.heap.size, 2, none⟩ = some (.int .i64 h0.n2) ∧ W.cell? ⟨w.heap.size, 3, none⟩ = some (.int .i64 h0.n3) ∧ W.cell? ⟨w.heap.size, 4, none⟩ = some (.slice x0.t.a x0.t.n x0.t.c) ∧ W.cell? ⟨w.heap.size, 5, none⟩ = some (.int .i64 h0.n5) ∧ W.cell? ⟨w.heap.size, 6, none⟩ = some (.slice x0.s.a x0.s.n x0.s.c) ∧ W.cell? ⟨w.heap.size, 7, none⟩ = some (.slice x0.r.a x0.r.n x0.r.c) ∧ W.cell? ⟨w.heap.size, 8, none⟩ = some (.slice x0.g.a x0.g.n x0.g.c) ∧ W.cell? ⟨w.heap.size, 9, none⟩ = some (.slice x0.e.a x0.e.n x0.e.c) ∧ W.cell? ⟨w.heap.size, 10, none⟩ = some (.slice x0.k.a x0.k.n x0.k.c)) ∧ (W.cell? ⟨w.heap.size + 1, 0, none⟩ = some (.slice x1.p.a x1.p.n x1.p.c) ∧ W.cell? ⟨w.heap.size + 1, 1, none⟩ = some (.int .i64 h1.n1) ∧ W.cell? ⟨w.heap.size + 1, 2, none⟩ = some (.int .i64 h1.n2) ∧ W.cell? ⟨w.heap.size + 1, 3, none⟩ = some (.int .i64 h1.n3) ∧ W.cell? ⟨w.heap.size + 1, 4, none⟩ = some (.slice x1.t.a x1.t.n x1.t.c) ∧ W.cell? ⟨w.heap.size + 1, 5, none⟩ = some (.int .i64 h1.n5) ∧ W.cell? ⟨w.heap.size + 1, 6, none⟩ = some (.slice x1.s.a x1.s.n x1.s.c) ∧ W.cell? ⟨w.heap.size + 1, 7, none⟩ = some (.slice x1.r.a x1.r.n x1.r.c) ∧ W.cell? ⟨w.heap.size + 1, 8, none⟩ = some (.slice x1.g.a x1.g.n x1.g.c) ∧ W.cell? ⟨w.heap.size + 1, 9, none⟩ = some (.slice x1.e.a x1.e.n x1.e.c) ∧ W.cell? ⟨w.heap.size + 1, 10, none⟩ = some (.slice x1.k.a x1.k.n x1.k.c)))
    (exact (unhide HC2) _ (by first | assumption | exact (Below.refl w2.heap.size w2).drew | exact below_drewN (Below.refl w2.heap.size w2) _ | exact below_drewN (by assumption) _))
    (first
      | (go_at_call 11; refine ((unhide SPC) (unhide M0) (unhide M1) y3 z4 _ (o3.below b4 (Nat.le_refl _)) o4).mono ?_; rintro e w5 ⟨rfl, b5⟩; have K5 : Below w2.heap.size w2 w5 := K4.trans (b5.mono K4.size))
      | (go_at_call 12; have KK := K3; refine ((unhide TB) (unhide M1) _ ((unhide HB2).trans (KK.mono (unhide HB2).size))).mono ?_; rintro e w4 ⟨z4, rfl, o4, b4⟩; have K4 : Below w2.heap.size w2 w4 := KK.trans (b4.mono KK.size); clear KK)
      | (go_at_call 12; refine ((unhide TA) (unhide M0) _ ((unhide HB2).trans (Below.mono (by first | exact (Below.refl w2.heap.size w2).drew | exact below_drewN (Below.refl w2.heap.size w2) _) (unhide HB2).size))).mono ?_; rintro e w3 ⟨y3, rfl, o3, b3⟩; have K3 : Below w2.heap.size w2 w3 := Below.trans (by first | exact (Below.refl w2.heap.size w2).drew | exact below_drewN (Below.refl w2.heap.size w2) _) (b3.mono (by first | exact Nat.le_refl _ | exact (below_drewN (Below.refl w2.heap.size w2) _).size))))
  all_goals
    have HB5 := hide ((unhide HB2).trans (K5.mono (unhide HB2).size))
    have HC5 : Hid (∀ W, Below w5.heap.size w5 W → (W.cell? ⟨w.heap.size, 0, none⟩ = some (.slice x0.p.a x0.p.n x0.p.c) ∧ W.cell? ⟨w.heap.size, 1, none⟩ = some (.int .i64 h0.n1) ∧ W.cell? ⟨w.heap.size, 2, none⟩ = some (.int .i64 h0.n2) ∧ W.cell? ⟨w.heap.size, 3, none⟩ = some (.int .i64 h0.n3) ∧ W.cell? ⟨w.heap.size, 4, none⟩ = some (.slice x0.t.a x0.t.n x0.t.c) ∧ W.cell? ⟨w.heap.size, 5, none⟩ = some (.int .i64 h0.n5) ∧ W.cell? ⟨w.heap.size, 6, none⟩ = some (.slice x0.s.a x0.s.n x0.s.c) ∧ W.cell? ⟨w.heap.size, 7, none⟩ = some (.slice x0.r.a x0.r.n x0.r.c) ∧ W.cell? ⟨w.heap.size, 8, none⟩ = some (.slice x0.g.a x0.g.n x0.g.c) ∧ W.cell? ⟨w.heap.size, 9, none⟩ = some (.slice x0.e.a x0.e.n x0.e.c) ∧ W.cell? ⟨w.heap.size, 10, none⟩ = some (.slice x0.k.a x0.k.n x0.k.c)) ∧ (W.cell? ⟨w.heap.size + 1, 0, none⟩ = some (.slice x1.p.a x1.p.n x1.p.c) ∧ W.cell? ⟨w.heap.size + 1, 1, none⟩ = some (.int .i64 h1.n1) ∧ W.cell? ⟨w.heap.size + 1, 2, none⟩ = some (.int .i64 h1.n2) ∧ W.cell? ⟨w.heap.size + 1, 3, none⟩ = some (.int .i64 h1.n3) ∧ W.cell? ⟨w.heap.size + 1, 4, none⟩ = some (.slice x1.t.a x1.t.n x1.t.c) ∧ W.cell? ⟨w.heap.size + 1, 5, none⟩ = some (.int .i64 h1.n5) ∧ W.cell? ⟨w.heap.size + 1, 6, none⟩ = some (.slice x1.s.a x1.s.n x1.s.c) ∧ W.cell? ⟨w.heap.size + 1, 7, none⟩ = some (.slice x1.r.a x1.r.n x1.r.c) ∧ W.cell? ⟨w.heap.size + 1, 8, none⟩ = some (.slice x1.g.a x1.g.n x1.g.c) ∧ W.cell? ⟨w.heap.size + 1, 9, none⟩ = some (.slice x1.e.a x1.e.n x1.e.c) ∧ W.cell? ⟨w.heap.size + 1, 10, none⟩ = some (.slice x1.k.a x1.k.n x1.k.c))) := fun W hb => (unhide HC2) W (K5.trans (hb.mono K5.size))
    obtain ⟨⟨ca0, ca1, ca2, ca3, ca4, ca5, ca6, ca7, ca8, ca9, ca10⟩, _⟩ := (unhide HC5) _ (Below.refl _ _)
    clear K3 K4 K5 b3 b4 b5 o3 o4 HC2 HB2
    go_wp2_with fail
    refine ((unhide TA) (unhide M0) _ (unhide HB5)).mono ?_
    rintro e w6 ⟨y6, rfl, o6, b6⟩
    clear ca0 ca1 ca2 ca3 ca4 ca5 ca6 ca7 ca8 ca9 ca10
    have k7 := SBlk.new w6 (hvals y6 h0) 33
    have hb7 := below_alloc w6 (.cells (hvals y6 h0) 33)
    obtain ⟨W7, e7⟩ : ∃ W7, w6.alloc (.cells (hvals y6 h0) 33) = W7 := ⟨_, rfl⟩
    rw [e7] at k7 hb7
    have K7 := b6.trans (hb7.mono b6.size)
    have HB7 := hide ((unhide HB5).trans (K7.mono (unhide HB5).size))
    have o7 := o6.below hb7 (Nat.le_refl _)
    obtain ⟨_, ⟨cb0, cb1, cb2, cb3, cb4, cb5, cb6, cb7, cb8, cb9, cb10⟩⟩ := (unhide HC5) _ K7
    have HC7 : Hid (∀ W, Below W7.heap.size W7 W → (W.cell? ⟨w.heap.size, 0, none⟩ = some (.slice x0.p.a x0.p.n x0.p.c) ∧ W.cell? ⟨w.heap.size, 1, none⟩ = some (.int .i64 h0.n1) ∧ W.cell? ⟨w.heap.size, 2, none⟩ = some (.int .i64 h0.n2) ∧ W.cell? ⟨w.heap.size, 3, none⟩ = some (.int .i64 h0.n3) ∧ W.cell? ⟨w.heap.size, 4, none⟩ = some (.slice x0.t.a x0.t.n x0.t.c) ∧ W.cell? ⟨w.heap.size, 5, none⟩ = some (.int .i64 h0.n5) ∧ W.cell? ⟨w.heap.size, 6, none⟩ = some (.slice x0.s.a x0.s.n x0.s.c) ∧ W.cell? ⟨w.heap.size, 7, none⟩ = some (.slice x0.r.a x0.r.n x0.r.c) ∧ W.cell? ⟨w.heap.size, 8, none⟩ = some (.slice x0.g.a x0.g.n x0.g.c) ∧ W.cell? ⟨w.heap.size, 9, none⟩ = some (.slice x0.e.a x0.e.n x0.e.c) ∧ W.cell? ⟨w.heap.size, 10, none⟩ = some (.slice x0.k.a x0.k.n x0.k.c)) ∧ (W.cell? ⟨w.heap.size + 1, 0, none⟩ = some (.slice x1.p.a x1.p.n x1.p.c) ∧ W.cell? ⟨w.heap.size + 1, 1, none⟩ = some (.int .i64 h1.n1) ∧ W.cell? ⟨w.heap.size + 1, 2, none⟩ = some (.int .i64 h1.n2) ∧ W.cell? ⟨w.heap.size + 1, 3, none⟩ = some (.int .i64 h1.n3) ∧ W.cell? ⟨w.heap.size + 1, 4, none⟩ = some (.slice x1.t.a x1.t.n x1.t.c) ∧ W.cell? ⟨w.heap.size + 1, 5, none⟩ = some (.int .i64 h1.n5) ∧ W.cell? ⟨w.heap.size + 1, 6, none⟩ = some (.slice x1.s.a x1.s.n x1.s.c) ∧ W.cell? ⟨w.heap.size + 1, 7, none⟩ = some (.slice x1.r.a x1.r.n x1.r.c) ∧ W.cell? ⟨w.heap.size + 1, 8, none⟩ = some (.slice x1.g.a x1.g.n x1.g.c) ∧ W.cell? ⟨w.heap.size + 1, 9, none⟩ = some (.slice x1.e.a x1.e.n x1.e.c) ∧ W.cell? ⟨w.heap.size + 1, 10, none⟩ = some (.slice x1.k.a x1.k.n x1.k.c))) := fun W hb => (unhide HC5) W (K7.trans (hb.mono K7.size))
    clear K7 hb7 b6 o6 HB5 HC5
    unfold hvals at e7 ⊢
    go_upto_region 10 with (rw [e7])
    try rw [e7]
    clear e7
    obtain ⟨g7, hg7⟩ : ∃ g, g = w6.heap.size := ⟨_, rfl⟩
    rw [← hg7] at k7 ⊢
    clear hg7
    go_wp2_with fail
    refine ((unhide TB) (unhide M1) _ (unhide HB7)).mono ?_
    rintro e w8 ⟨z8, rfl, o8, b8⟩
    clear cb0 cb1 cb2 cb3 cb4 cb5 cb6 cb7 cb8 cb9 cb10
    have k9 := SBlk.new w8 (hvals z8 h1) 33
    have hb9 := below_alloc w8 (.cells (hvals z8 h1) 33)
    obtain ⟨W9, e9⟩ : ∃ W9, w8.alloc (.cells (hvals z8 h1) 33) = W9 := ⟨_, rfl⟩
    rw [e9] at k9 hb9
    have K9 := b8.trans (hb9.mono b8.size)
    have HB9 := hide ((unhide HB7).trans (K9.mono (unhide HB7).size))
    have o9 := o7.below K9 (Nat.le_refl _)
    have q9 := o8.below hb9 (Nat.le_refl _)
    have k7 := k7.below K9 k7.lt
    have HC9 : Hid (∀ W, Below W9.heap.size W9 W → (W.cell? ⟨w.heap.size, 0, none⟩ = some (.slice x0.p.a x0.p.n x0.p.c) ∧ W.cell? ⟨w.heap.size, 1, none⟩ = some (.int .i64 h0.n1) ∧ W.cell? ⟨w.heap.size, 2, none⟩ = some (.int .i64 h0.n2) ∧ W.cell? ⟨w.heap.size, 3, none⟩ = some (.int .i64 h0.n3) ∧ W.cell? ⟨w.heap.size, 4, none⟩ = some (.slice x0.t.a x0.t.n x0.t.c) ∧ W.cell? ⟨w.heap.size, 5, none⟩ = some (.int .i64 h0.n5) ∧ W.cell? ⟨w.heap.size, 6, none⟩ = some (.slice x0.s.a x0.s.n x0.s.c) ∧ W.cell? ⟨w.heap.size, 7, none⟩ = some (.slice x0.r.a x0.r.n x0.r.c) ∧ W.cell? ⟨w.heap.size, 8, none⟩ = some (.slice x0.g.a x0.g.n x0.g.c) ∧ W.cell? ⟨w.heap.size, 9, none⟩ = some (.slice x0.e.a x0.e.n x0.e.c) ∧ W.cell? ⟨w.heap.size, 10, none⟩ = some (.slice x0.k.a x0.k.n x0.k.c)) ∧ (W.cell? ⟨w.heap.size + 1, 0, none⟩ = some (.slice x1.p.a x1.p.n x1.p.c) ∧ W.cell? ⟨w.heap.size + 1, 1, none⟩ = some (.int .i64 h1.n1) ∧ W.cell? ⟨w.heap.size + 1, 2, none⟩ = some (.int .i64 h1.n2) ∧ W.cell? ⟨w.heap.size + 1, 3, none⟩ = some (.int .i64 h1.n3) ∧ W.cell? ⟨w.heap.size + 1, 4, none⟩ = some (.slice x1.t.a x1.t.n x1.t.c) ∧ W.cell? ⟨w.heap.size + 1, 5, none⟩ = some (.int .i64 h1.n5) ∧ W.cell? ⟨w.heap.size + 1, 6, none⟩ = some (.slice x1.s.a x1.s.n x1.s.c) ∧ W.cell? ⟨w.heap.size + 1, 7, none⟩ = some (.slice x1.r.a x1.r.n x1.r.c) ∧ W.cell? ⟨w.heap.size + 1, 8, none⟩ = some (.slice x1.g.a x1.g.n x1.g.c) ∧ W.cell? ⟨w.heap.size + 1, 9, none⟩ = some (.slice x1.e.a x1.e.n x1.e.c) ∧ W.cell? ⟨w.heap.size + 1, 10, none⟩ = some (.slice x1.k.a x1.k.n x1.k.c))) := fun W hb => (unhide HC7) W (K9.trans (hb.mono K9.size))
    clear K9 hb9 b8 o8 o7 HB7 HC7
    unfold hvals at e9 ⊢
    go_upto_region 11 with (rw [e9])
    try rw [e9]
    clear e9
    obtain ⟨g9, hg9⟩ : ∃ g, g = w8.heap.size := ⟨_, rfl⟩
    rw [← hg9] at k9 ⊢
    clear hg9
    obtain ⟨cu0, cu1, cu2, cu3, cu4, cu5, cu6, cu7, cu8, cu9, cu10⟩ := hcells k7
    obtain ⟨cv0, cv1, cv2, cv3, cv4, cv5, cv6, cv7, cv8, cv9, cv10⟩ := hcells k9
    go_wp2_with fail
    refine ((unhide IMC) (unhide M0) (unhide M1) y6 z8 _ o9 q9).mono ?_
    rintro e w10 ⟨rfl, b10⟩
    have HB10 := hide ((unhide HB9).trans (b10.mono (unhide HB9).size))
    have HC10 : Hid (∀ W, Below w10.heap.size w10 W → (W.cell? ⟨g7, 0, none⟩ = some (.slice y6.p.a y6.p.n y6.p.c) ∧ W.cell? ⟨g7, 1, none⟩ = some (.int .i64 h0.n1) ∧ W.cell? ⟨g7, 2, none⟩ = some (.int .i64 h0.n2) ∧ W.cell? ⟨g7, 3, none⟩ = some (.int .i64 h0.n3) ∧ W.cell? ⟨g7, 4, none⟩ = some (.slice y6.t.a y6.t.n y6.t.c) ∧ W.cell? ⟨g7, 5, none⟩ = some (.int .i64 h0.n5) ∧ W.cell? ⟨g7, 6, none⟩ = some (.slice y6.s.a y6.s.n y6.s.c) ∧ W.cell? ⟨g7, 7, none⟩ = some (.slice y6.r.a y6.r.n y6.r.c) ∧ W.cell? ⟨g7, 8, none⟩ = some (.slice y6.g.a y6.g.n y6.g.c) ∧ W.cell? ⟨g7, 9, none⟩ = some (.slice y6.e.a y6.e.n y6.e.c) ∧ W.cell? ⟨g7, 10, none⟩ = some (.slice y6.k.a y6.k.n y6.k.c)) ∧ (W.cell? ⟨w.heap.size, 0, none⟩ = some (.slice x0.p.a x0.p.n x0.p.c) ∧ W.cell? ⟨w.heap.size, 1, none⟩ = some (.int .i64 h0.n1) ∧ W.cell? ⟨w.heap.size, 2, none⟩ = some (.int .i64 h0.n2) ∧ W.cell? ⟨w.heap.size, 3, none⟩ = some (.int .i64 h0.n3) ∧ W.cell? ⟨w.heap.size, 4, none⟩ = some (.slice x0.t.a x0.t.n x0.t.c) ∧ W.cell? ⟨w.heap.size, 5, none⟩ = some (.int .i64 h0.n5) ∧ W.cell? ⟨w.heap.size, 6, none⟩ = some (.slice x0.s.a x0.s.n x0.s.c) ∧ W.cell? ⟨w.heap.size, 7, none⟩ = some (.slice x0.r.a x0.r.n x0.r.c) ∧ W.cell? ⟨w.heap.size, 8, none⟩ = some (.slice x0.g.a x0.g.n x0.g.c) ∧ W.cell? ⟨w.heap.size, 9, none⟩ = some (.slice x0.e.a x0.e.n x0.e.c) ∧ W.cell? ⟨w.heap.size, 10, none⟩ = some (.slice x0.k.a x0.k.n x0.k.c))) := fun W hb => by
      have B := b10.trans (hb.mono b10.size)
      exact ⟨hcells (k7.below B k7.lt), ((unhide HC9) W B).1⟩
    have HC11 : Hid (∀ W, Below w10.heap.size w10 W → (W.cell? ⟨g9, 0, none⟩ = some (.slice z8.p.a z8.p.n z8.p.c) ∧ W.cell? ⟨g9, 1, none⟩ = some (.int .i64 h1.n1) ∧ W.cell? ⟨g9, 2, none⟩ = some (.int .i64 h1.n2) ∧ W.cell? ⟨g9, 3, none⟩ = some (.int .i64 h1.n3) ∧ W.cell? ⟨g9, 4, none⟩ = some (.slice z8.t.a z8.t.n z8.t.c) ∧ W.cell? ⟨g9, 5, none⟩ = some (.int .i64 h1.n5) ∧ W.cell? ⟨g9, 6, none⟩ = some (.slice z8.s.a z8.s.n z8.s.c) ∧ W.cell? ⟨g9, 7, none⟩ = some (.slice z8.r.a z8.r.n z8.r.c) ∧ W.cell? ⟨g9, 8, none⟩ = some (.slice z8.g.a z8.g.n z8.g.c) ∧ W.cell? ⟨g9, 9, none⟩ = some (.slice z8.e.a z8.e.n z8.e.c) ∧ W.cell? ⟨g9, 10, none⟩ = some (.slice z8.k.a z8.k.n z8.k.c)) ∧ (W.cell? ⟨w.heap.size + 1, 0, none⟩ = some (.slice x1.p.a x1.p.n x1.p.c) ∧ W.cell? ⟨w.heap.size + 1, 1, none⟩ = some (.int .i64 h1.n1) ∧ W.cell? ⟨w.heap.size + 1, 2, none⟩ = some (.int .i64 h1.n2) ∧ W.cell? ⟨w.heap.size + 1, 3, none⟩ = some (.int .i64 h1.n3) ∧ W.cell? ⟨w.heap.size + 1, 4, none⟩ = some (.slice x1.t.a x1.t.n x1.t.c) ∧ W.cell? ⟨w.heap.size + 1, 5, none⟩ = some (.int .i64 h1.n5) ∧ W.cell? ⟨w.heap.size + 1, 6, none⟩ = some (.slice x1.s.a x1.s.n x1.s.c) ∧ W.cell? ⟨w.heap.size + 1, 7, none⟩ = some (.slice x1.r.a x1.r.n x1.r.c) ∧ W.cell? ⟨w.heap.size + 1, 8, none⟩ = some (.slice x1.g.a x1.g.n x1.g.c) ∧ W.cell? ⟨w.heap.size + 1, 9, none⟩ = some (.slice x1.e.a x1.e.n x1.e.c) ∧ W.cell? ⟨w.heap.size + 1, 10, none⟩ = some (.slice x1.k.a x1.k.n x1.k.c))) := fun W hb => by
      have B := b10.trans (hb.mono b10.size)
      exact ⟨hcells (k9.below B k9.lt), ((unhide HC9) W B).2⟩
    have HOU := hide (fun (W : World) (hb : Below w10.heap.size w10 W) => (o9.below b10 (Nat.le_refl _)).below hb (Nat.le_refl _))
    have HOV := hide (fun (W : World) (hb : Below w10.heap.size w10 W) => (q9.below b10 (Nat.le_refl _)).below hb (Nat.le_refl _))
    clear b10 o9 q9 k7 k9 cu0 cu1 cu2 cu3 cu4 cu5 cu6 cu7 cu8 cu9 cu10 cv0 cv1 cv2 cv3 cv4 cv5 cv6 cv7 cv8 cv9 cv10 HB9 HC9 SPC IMC
    go_wp2_with fail
    go_region_held3 (fun W => (W.cell? ⟨g7, 0, none⟩ = some (.slice y6.p.a y6.p.n y6.p.c) ∧ W.cell? ⟨g7, 1, none⟩ = some (.int .i64 h0.n1) ∧ W.cell? ⟨g7, 2, none⟩ = some (.int .i64 h0.n2) ∧ W.cell? ⟨g7, 3, none⟩ = some (.int .i64 h0.n3) ∧ W.cell? ⟨g7, 4, none⟩ = some (.slice y6.t.a y6.t.n y6.t.c) ∧ W.cell? ⟨g7, 5, none⟩ = some (.int .i64 h0.n5) ∧ W.cell? ⟨g7, 6, none⟩ = some (.slice y6.s.a y6.s.n y6.s.c) ∧ W.cell? ⟨g7, 7, none⟩ = some (.slice y6.r.a y6.r.n y6.r.c) ∧ W.cell? ⟨g7, 8, none⟩ = some (.slice y6.g.a y6.g.n y6.g.c) ∧ W.cell? ⟨g7, 9, none⟩ = some (.slice y6.e.a y6.e.n y6.e.c) ∧ W.cell? ⟨g7, 10, none⟩ = some (.slice y6.k.a y6.k.n y6.k.c)) ∧ (W.cell? ⟨w.heap.size, 0, none⟩ = some (.slice x0.p.a x0.p.n x0.p.c) ∧ W.cell? ⟨w.heap.size, 1, none⟩ = some (.int .i64 h0.n1) ∧ W.cell? ⟨w.heap.size, 2, none⟩ = some (.int .i64 h0.n2) ∧ W.cell? ⟨w.heap.size, 3, none⟩ = some (.int .i64 h0.n3) ∧ W.cell? ⟨w.heap.size, 4, none⟩ = some (.slice x0.t.a x0.t.n x0.t.c) ∧ W.cell? ⟨w.heap.size, 5, none⟩ = some (.int .i64 h0.n5) ∧ W.cell? ⟨w.heap.size, 6, none⟩ = some (.slice x0.s.a x0.s.n x0.s.c) ∧ W.cell? ⟨w.heap.size, 7, none⟩ = some (.slice x0.r.a x0.r.n x0.r.c) ∧ W.cell? ⟨w.heap.size, 8, none⟩ = some (.slice x0.g.a x0.g.n x0.g.c) ∧ W.cell? ⟨w.heap.size, 9, none⟩ = some (.slice x0.e.a x0.e.n x0.e.c) ∧ W.cell? ⟨w.heap.size, 10, none⟩ = some (.slice x0.k.a x0.k.n x0.k.c)))
      (exact (unhide HC10) _ (by first | assumption | exact (Below.refl w10.heap.size w10).drew | exact below_drewN (Below.refl w10.heap.size w10) _ | exact below_drewN (by assumption) _))
      (first
        | (go_at_call 14; refine ((unhide EQA) (unhide M0) y6 y11 _ ((unhide HOU) _ K11) o11).mono ?_; rintro e w12 ⟨rfl, b12⟩; have K12 : Below w10.heap.size w10 w12 := K11.trans (b12.mono K11.size))
        | (go_at_call 12; refine ((unhide TA) (unhide M0) _ ((unhide HB10).trans (Below.mono (by first | exact (Below.refl w10.heap.size w10).drew | exact below_drewN (Below.refl w10.heap.size w10) _) (unhide HB10).size))).mono ?_; rintro e w11 ⟨y11, rfl, o11, b11⟩; have K11 : Below w10.heap.size w10 w11 := Below.trans (by first | exact (Below.refl w10.heap.size w10).drew | exact below_drewN (Below.refl w10.heap.size w10) _) (b11.mono (by first | exact Nat.le_refl _ | exact (below_drewN (Below.refl w10.heap.size w10) _).size)); clear b11))
    all_goals
      have HB12 := hide ((unhide HB10).trans (K12.mono (unhide HB10).size))
      have HC12 : Hid (∀ W, Below w12.heap.size w12 W → (W.cell? ⟨g9, 0, none⟩ = some (.slice z8.p.a z8.p.n z8.p.c) ∧ W.cell? ⟨g9, 1, none⟩ = some (.int .i64 h1.n1) ∧ W.cell? ⟨g9, 2, none⟩ = some (.int .i64 h1.n2) ∧ W.cell? ⟨g9, 3, none⟩ = some (.int .i64 h1.n3) ∧ W.cell? ⟨g9, 4, none⟩ = some (.slice z8.t.a z8.t.n z8.t.c) ∧ W.cell? ⟨g9, 5, none⟩ = some (.int .i64 h1.n5) ∧ W.cell? ⟨g9, 6, none⟩ = some (.slice z8.s.a z8.s.n z8.s.c) ∧ W.cell? ⟨g9, 7, none⟩ = some (.slice z8.r.a z8.r.n z8.r.c) ∧ W.cell? ⟨g9, 8, none⟩ = some (.slice z8.g.a z8.g.n z8.g.c) ∧ W.cell? ⟨g9, 9, none⟩ = some (.slice z8.e.a z8.e.n z8.e.c) ∧ W.cell? ⟨g9, 10, none⟩ = some (.slice z8.k.a z8.k.n z8.k.c)) ∧ (W.cell? ⟨w.heap.size + 1, 0, none⟩ = some (.slice x1.p.a x1.p.n x1.p.c) ∧ W.cell? ⟨w.heap.size + 1, 1, none⟩ = some (.int .i64 h1.n1) ∧ W.cell? ⟨w.heap.size + 1, 2, none⟩ = some (.int .i64 h1.n2) ∧ W.cell? ⟨w.heap.size + 1, 3, none⟩ = some (.int .i64 h1.n3) ∧ W.cell? ⟨w.heap.size + 1, 4, none⟩ = some (.slice x1.t.a x1.t.n x1.t.c) ∧ W.cell? ⟨w.heap.size + 1, 5, none⟩ = some (.int .i64 h1.n5) ∧ W.cell? ⟨w.heap.size + 1, 6, none⟩ = some (.slice x1.s.a x1.s.n x1.s.c) ∧ W.cell? ⟨w.heap.size + 1, 7, none⟩ = some (.slice x1.r.a x1.r.n x1.r.c) ∧ W.cell? ⟨w.heap.size + 1, 8, none⟩ = some (.slice x1.g.a x1.g.n x1.g.c) ∧ W.cell? ⟨w.heap.size + 1, 9, none⟩ = some (.slice x1.e.a x1.e.n x1.e.c) ∧ W.cell? ⟨w.heap.size + 1, 10, none⟩ = some (.slice x1.k.a x1.k.n x1.k.c))) := fun W hb => (unhide HC11) W (K12.trans (hb.mono K12.size))
      have HOW := hide (fun (W : World) (hb : Below w12.heap.size w12 W) => (unhide HOV) W (K12.trans (hb.mono K12.size)))
      clear K11 K12 b12 o11 HC10 HC11 HOU HOV HB10
      go_wp2_with fail
      go_region_held3 (fun W => (W.cell? ⟨g9, 0, none⟩ = some (.slice z8.p.a z8.p.n z8.p.c) ∧ W.cell? ⟨g9, 1, none⟩ = some (.int .i64 h1.n1) ∧ W.cell? ⟨g9, 2, none⟩ = some (.int .i64 h1.n2) ∧ W.cell? ⟨g9, 3, none⟩ = some (.int .i64 h1.n3) ∧ W.cell? ⟨g9, 4, none⟩ = some (.slice z8.t.a z8.t.n z8.t.c) ∧ W.cell? ⟨g9, 5, none⟩ = some (.int .i64 h1.n5) ∧ W.cell? ⟨g9, 6, none⟩ = some (.slice z8.s.a z8.s.n z8.s.c) ∧ W.cell? ⟨g9, 7, none⟩ = some (.slice z8.r.a z8.r.n z8.r.c) ∧ W.cell? ⟨g9, 8, none⟩ = some (.slice z8.g.a z8.g.n z8.g.c) ∧ W.cell? ⟨g9, 9, none⟩ = some (.slice z8.e.a z8.e.n z8.e.c) ∧ W.cell? ⟨g9, 10, none⟩ = some (.slice z8.k.a z8.k.n z8.k.c)) ∧ (W.cell? ⟨w.heap.size + 1, 0, none⟩ = some (.slice x1.p.a x1.p.n x1.p.c) ∧ W.cell? ⟨w.heap.size + 1, 1, none⟩ = some (.int .i64 h1.n1) ∧ W.cell? ⟨w.heap.size + 1, 2, none⟩ = some (.int .i64 h1.n2) ∧ W.cell? ⟨w.heap.size + 1, 3, none⟩ = some (.int .i64 h1.n3) ∧ W.cell? ⟨w.heap.size + 1, 4, none⟩ = some (.slice x1.t.a x1.t.n x1.t.c) ∧ W.cell? ⟨w.heap.size + 1, 5, none⟩ = some (.int .i64 h1.n5) ∧ W.cell? ⟨w.heap.size + 1, 6, none⟩ = some (.slice x1.s.a x1.s.n x1.s.c) ∧ W.cell? ⟨w.heap.size + 1, 7, none⟩ = some (.slice x1.r.a x1.r.n x1.r.c) ∧ W.cell? ⟨w.heap.size + 1, 8, none⟩ = some (.slice x1.g.a x1.g.n x1.g.c) ∧ W.cell? ⟨w.heap.size + 1, 9, none⟩ = some (.slice x1.e.a x1.e.n x1.e.c) ∧ W.cell? ⟨w.heap.size + 1, 10, none⟩ = some (.slice x1.k.a x1.k.n x1.k.c)))
        (exact (unhide HC12) _ (by first | assumption | exact (Below.refl w12.heap.size w12).drew | exact below_drewN (Below.refl w12.heap.size w12) _ | exact below_drewN (by assumption) _))
        (first
          | (go_at_call 14; refine ((unhide EQB) (unhide M1) z8 y13 _ ((unhide HOW) _ K13) o13).mono ?_; rintro e w14 ⟨rfl, b14⟩; have K14 : Below w12.heap.size w12 w14 := K13.trans (b14.mono K13.size))
          | (go_at_call 12; refine ((unhide TB) (unhide M1) _ ((unhide HB12).trans (Below.mono (by first | exact (Below.refl w12.heap.size w12).drew | exact below_drewN (Below.refl w12.heap.size w12) _) (unhide HB12).size))).mono ?_; rintro e w13 ⟨y13, rfl, o13, b13⟩; have K13 : Below w12.heap.size w12 w13 := Below.trans (by first | exact (Below.refl w12.heap.size w12).drew | exact below_drewN (Below.refl w12.heap.size w12) _) (b13.mono (by first | exact Nat.le_refl _ | exact (below_drewN (Below.refl w12.heap.size w12) _).size)); clear b13))
      all_goals
        go_wp2_with fail
        go_ret
        exact ⟨rfl, (unhide HB12).trans (K14.mono (unhide HB12).size)⟩

/-! The row's step. -/
set_option maxRecDepth 100000 in
theorem lifted (os : Os) (started : os.Started) (H : Type) (enc : TypeId × Value → H) :
    ReturnsInHanded {} Try.checked os 4 .any (Rows.fnExactSameHeadersSpec.pre6 enc Try.prog Try.f4 Rows.fnExactSameHeadersRow.domain false) (Rows.fnExactSameHeadersSpec.post enc Try.prog Try.f4 false true false false) := by
  refine returnsInHanded_of_change (C := Try.checked) own started (by kernel_rfl) Try.func4
    (ChangeSpec.witness6 (enc := enc) (C := Try.checked) false ⟨#[], #[.agg #[.slice none 0 0, .int .i64 0, .int .i64 0, .int .i64 0, .slice none 0 0, .int .i64 0, .slice none 0 0, .slice none 0 0, .slice none 0 0, .slice none 0 0, .slice none 0 0], .agg #[.slice none 0 0, .int .i64 0, .int .i64 0, .int .i64 0, .slice none 0 0, .int .i64 0, .slice none 0 0, .slice none 0 0, .slice none 0 0, .slice none 0 0, .slice none 0 0]], []⟩ 8 (by kernel_rfl) (by kernel_rfl) (by kernel_rfl) (by kernel_rfl)) ?_
  intro W base args ds gs before hval0 hW hcnd _
  have hval : ∀ (j : Nat) t v, Try.f4.params[j]? = some t → args[j]? = some v → Value.okWide Try.prog W .any base t v := hval0
  have hW' := hW
  obtain ⟨p, q, hA0, hV, rfl, hfz, hnd⟩ := hW
  have hA : DataW.TrodAll enc Try.prog W 0 (fun _ => true) true Try.f4.params.toList args.toList ds p := hA0
  rw [Try.params4] at hA hval
  obtain ⟨v0, vs0, d0, ds0, p0, q0, hargs, rfl, rfl, h0, r0⟩ := trodAll_cons hA
  obtain ⟨v1, vs1, d1, ds1, p1, q1, rfl, rfl, rfl, h1, r1⟩ := trodAll_cons r0
  obtain ⟨rfl, rfl, rfl⟩ := trodAll_nil r1
  obtain rfl : args = #[v0, v1] := by cases args; simp_all
  obtain ⟨rfl, rfl⟩ := trodVars_none hV
  have k0 := h0
  have lt0 : ∀ x ∈ p0, x.block < W.heap.size := by obtain ⟨m, hm⟩ := k0; exact DataW.trod_lt m _ _ _ hm
  obtain ⟨x0, y0, rfl, w0, m0, i0⟩ := open_header Try.underlying30 rfl (by kernel_rfl) ⟨rfl, rfl, rfl, rfl, rfl, rfl, rfl, rfl, rfl, rfl, rfl⟩ ⟨rfl, rfl, rfl, rfl, rfl, rfl, rfl, rfl, rfl, rfl, rfl⟩ Try.underlying28 Try.underlying5 Try.underlying2 Try.underlying22 (by kernel_rfl) (by kernel_rfl) (by kernel_rfl) (by kernel_rfl) (okWide_struct Try.underlying30 (hval 0 30 v0 rfl rfl)) h0
  have k1 := h1
  have lt1 : ∀ x ∈ p1, x.block < W.heap.size := by obtain ⟨m, hm⟩ := k1; exact DataW.trod_lt m _ _ _ hm
  obtain ⟨x1, y1, rfl, w1, m1, i1⟩ := open_header Try.underlying30 rfl (by kernel_rfl) ⟨rfl, rfl, rfl, rfl, rfl, rfl, rfl, rfl, rfl, rfl, rfl⟩ ⟨rfl, rfl, rfl, rfl, rfl, rfl, rfl, rfl, rfl, rfl, rfl⟩ Try.underlying28 Try.underlying5 Try.underlying2 Try.underlying22 (by kernel_rfl) (by kernel_rfl) (by kernel_rfl) (by kernel_rfl) (okWide_struct Try.underlying30 (hval 1 30 v1 rfl rfl)) h1
  clear hA0 hval0
  refine (walk x0 y0 x1 y1 W m0 w0 i0 m1 w1 i1).mono fun e W' ⟨he, bel⟩ => ?_
  subst he
  exact ⟨_, rfl, _, _, _, [], _, [], hW', trodAll_mk1 (shut_bool Try.underlying4 _), (trodAll_cons_mk (Below.trod laidOut (by kernel_rfl) (of_decide_eq_true (by kernel_rfl)) k0 bel lt0) (trodAll_cons_mk (Below.trod laidOut (by kernel_rfl) (of_decide_eq_true (by kernel_rfl)) k1 bel lt1) trodAll_mk0)), rfl, bel.frame _, fun h => by cases h⟩

theorem over : Rows.fnExactSameHeadersRow.holds Try.pinned (OpenSpec.ofChange Rows.fnExactSameHeadersSpec) :=
  OpenClaim.holds_of_wide 4 Try.f4 rfl rfl rfl rfl rfl rfl rfl ⟨rfl, rfl, rfl, rfl, rfl⟩ rfl rfl rfl rfl rfl (by kernel_rfl) Try.func4 (by kernel_rfl)
    (of_decide_eq_true (by kernel_rfl)) (by unfold Func.isWrapper; first | (rw [if_pos (by decide +kernel)]; kernel_rfl) | (rw [if_neg (by decide +kernel)]; exact ⟨rfl, rfl⟩))
    (fun os started H enc _ => lifted os started H enc)

/-- The statement. -/
theorem proved : Rows.FnExactSameHeadersSaid := over
#print axioms proved
end Go.Proofs.Ytlenpjbkbjdbeab.fnExactSameHeaders
