/- Proved: for every header the law FnExactSealRight returns true and changes no argument. Conditions: the three variables hold what the program's text lays. -/
import Derived.Test.YtinkemfbmkldkaaGreatDoorRows
import Derived.Test.YtinkemfbmkldkaaGreatDoorTie
import Derived.Test.YtinkemfbmkldkaaGreatDoorCards
import Derived.Test.YtinkemfbmkldkaaGreatDoorJ2
import Derived.Test.YtinkemfbmkldkaaGreatDoorJ4
import Derived.Test.YtinkemfbmkldkaaGreatDoorJ5
import Derived.Test.YtinkemfbmkldkaaGreatDoorJ11
import Derived.Test.YtinkemfbmkldkaaGreatDoorJ21
import Derived.WalkSmall
import Derived.Deep.MidRow
import Derived.Deep.RegionHeld3
import Derived.WalkKit
import Derived.ProofKit
import Derived.OpenShut
import Derived.ShutString
import Derived.ChangeOld
import Derived.Below
import Derived.OpenVars
import Derived.LaidMore
import Derived.Stop.Joined
import Derived.SevenTiedAt
namespace Go.Proofs.YtinkemfbmkldkaaGreatDoor.fnExactSealRight
open Go.ChangeShapes Go.WideShapes Go.ChangeAt Go.RowKit
set_option linter.unusedVariables false

theorem own : ownKnob Tryz.prog.godebug = none := by kernel_rfl
theorem laidOut : laidOutB Tryz.prog = true := by kernel_rfl

/-! The walk: the Go text returns true, and writes nothing that was there. -/
set_option maxRecDepth 100000 in
set_option maxHeartbeats 4000000 in
theorem walk (x0 : HS) (h0 : Hd) (w : World) (m0 : HMax x0 maxLen) (w0 : HOk w x0 h0) (i0 : HIn h0) (VV : Laid w) (VE : LaidE w) :
    Calls Tryz.prog 5 #[.agg (hvals x0 h0)] w fun e w' => e = .returned (.bool true) ∧ Below w.heap.size w w' := by
  have HV := hide (And.intro VV VE)
  clear VV VE
  have k0 := SBlk.new w (hvals x0 h0) 44
  have hb0 := below_alloc w (.cells (hvals x0 h0) 44)
  obtain ⟨W0, e0⟩ : ∃ W0, w.alloc (.cells (hvals x0 h0) 44) = W0 := ⟨_, rfl⟩
  rw [e0] at k0 hb0
  have SZ := hide (szHeader_any x0 h0 1048576 W0 (w0.below hb0 (Nat.le_refl _)) m0 (by omega) (by omega))
  have T0 : Hid (HSm h0 → ∀ (W : World), Below w.heap.size w W → Calls Tryz.prog 27 #[.agg (hvals x0 h0)] W fun e w' => ∃ y, e = .returned (.agg (hvals y h0)) ∧ HOk w' y h0 ∧ HNil w' y ∧ Below W.heap.size W w') := fun m W hb => (toHeader_any x0 h0 W (w0.below hb (Nat.le_refl _)) m).mono fun e w' ⟨y, he, ho, hb'⟩ => ⟨y, he, ho.ok w0, ho.nilOk, hb'⟩
  have SPC := hide (fun (m : HSm h0) (y : HS) (W : World) (o : HOk W y h0) (n : HNil W y) => specRight_any y h0 W o n m)
  have IMC := hide (fun (m : HSm h0) (y : HS) (W : World) (o : HOk W y h0) (n : HNil W y) (hv : Laid W) (hE : LaidE W) => implRight_any y h0 W o n m hv hE)
  have EQC := hide (fun (m : HSm h0) (y z : HS) (W : World) (o : HOk W y h0) (q : HOk W z h0) => eqHeader_same y z h0 W o q m)
  generalize srB h0 = fq at SPC IMC
  have hq : (fq != fq) = false := by simp
  have hq2 : (fq == fq) = true := by simp
  obtain ⟨x0', x1', x2', x3', x4', x5', x6', x7', x8', x9', x10'⟩ := hcells k0
  have HC0 := hide (fun (W : World) (hb : Below W0.heap.size W0 W) => hcells (k0.below hb k0.lt))
  have HR0 := hide (fun (W : World) (hb : Below W0.heap.size W0 W) => hcells (k0.below hb k0.lt))
  have HB0 := hide hb0
  clear w0 m0 i0 k0 hb0
  unfold hvals at e0 SZ ⊢
  go_enter Tryz.func5, Tryz.ntmps5
  go_upto_region 1 with (rw [e0])
  try rw [e0]
  clear e0
  go_wp2_with fail
  refine (unhide SZ).mono ?_
  rintro e w1 ⟨⟨r, rfl, _, _, hsm⟩, b1⟩
  have HB1 := hide ((unhide HB0).trans (b1.mono (unhide HB0).size))
  have HSM := hide hsm
  clear hsm SZ x0' x1' x2' x3' x4' x5' x6' x7' x8' x9' x10'
  by_cases hr : r < 0
  · have hd : decide (r < 0) = true := decide_eq_true hr
    go_wp2_with fail
    go_ret
    exact ⟨rfl, unhide HB1⟩
  have hd : decide (r < 0) = false := decide_eq_false hr
  have M := hide ((unhide HSM) (by omega))
  obtain ⟨u0, u1, u2, u3, u4, u5, u6, u7, u8, u9, u10⟩ := (unhide HC0) _ b1
  have K1 := hide b1
  clear b1 HSM
  go_wp2_with fail
  refine ((unhide T0) (unhide M) _ (unhide HB1)).mono ?_
  rintro e w3 ⟨y3, rfl, o3, n3, b3⟩
  have HB3 := hide ((unhide HB1).trans (b3.mono (unhide HB1).size))
  have K3 := hide ((unhide K1).trans (b3.mono (unhide K1).size))
  clear b3 u0 u1 u2 u3 u4 u5 u6 u7 u8 u9 u10 K1 HB1
  unfold hvals
  go_wp2_with fail
  refine ((unhide SPC) (unhide M) y3 _ o3 n3).mono ?_
  rintro e w4 ⟨rfl, b4⟩
  have HB4 := hide ((unhide HB3).trans (b4.mono (unhide HB3).size))
  have K4 := hide ((unhide K3).trans (b4.mono (unhide K3).size))
  obtain ⟨u0, u1, u2, u3, u4, u5, u6, u7, u8, u9, u10⟩ := (unhide HC0) _ (unhide K4)
  clear b4 o3 n3 K3 HB3
  go_wp2_with fail
  refine ((unhide T0) (unhide M) _ (unhide HB4)).mono ?_
  rintro e w6 ⟨y6, rfl, o6, n6, b6⟩
  have HB6 := hide ((unhide HB4).trans (b6.mono (unhide HB4).size))
  have K6 := hide ((unhide K4).trans (b6.mono (unhide K4).size))
  clear b6 u0 u1 u2 u3 u4 u5 u6 u7 u8 u9 u10 K4 HB4
  have k7 := SBlk.new w6 (hvals y6 h0) 26
  have hb7 := below_alloc w6 (.cells (hvals y6 h0) 26)
  obtain ⟨W7, e7⟩ : ∃ W7, w6.alloc (.cells (hvals y6 h0) 26) = W7 := ⟨_, rfl⟩
  rw [e7] at k7 hb7
  have HB7 := hide ((unhide HB6).trans (hb7.mono (unhide HB6).size))
  have K7 := hide ((unhide K6).trans (hb7.mono (unhide K6).size))
  have o7 := o6.below hb7 (Nat.le_refl _)
  have n7 := n6.below hb7 (Nat.le_refl _)
  obtain ⟨v0, v1, v2, v3, v4, v5, v6, v7, v8, v9, v10⟩ := hcells k7
  have HR7 := hide (fun (W : World) (hb : Below W7.heap.size W7 W) => hcells (k7.below hb k7.lt))
  clear hb7 k7 o6 n6 K6 HB6
  unfold hvals at e7 ⊢
  go_upto_region 7 with (rw [e7])
  try rw [e7]
  clear e7
  generalize w6.heap.size = g7 at v0 v1 v2 v3 v4 v5 v6 v7 v8 v9 v10 HR7 ⊢
  go_wp2_with fail
  refine ((unhide IMC) (unhide M) y6 _ o7 n7 ((unhide HV).1.below (unhide HB7) (Nat.le_refl _)) ((unhide HV).2.below (unhide HB7) (Nat.le_refl _))).mono ?_
  rintro e w8 ⟨rfl, b8⟩
  have HB8 := hide ((unhide HB7).trans (b8.mono (unhide HB7).size))
  have HRR : Hid (∀ W, Below w8.heap.size w8 W → (W.cell? ⟨g7, 0, none⟩ = some (.slice y6.p.a y6.p.n y6.p.c) ∧ W.cell? ⟨g7, 1, none⟩ = some (.int .i64 h0.n1) ∧ W.cell? ⟨g7, 2, none⟩ = some (.int .i64 h0.n2) ∧ W.cell? ⟨g7, 3, none⟩ = some (.int .i64 h0.n3) ∧ W.cell? ⟨g7, 4, none⟩ = some (.slice y6.t.a y6.t.n y6.t.c) ∧ W.cell? ⟨g7, 5, none⟩ = some (.int .i64 h0.n5) ∧ W.cell? ⟨g7, 6, none⟩ = some (.slice y6.s.a y6.s.n y6.s.c) ∧ W.cell? ⟨g7, 7, none⟩ = some (.slice y6.r.a y6.r.n y6.r.c) ∧ W.cell? ⟨g7, 8, none⟩ = some (.slice y6.g.a y6.g.n y6.g.c) ∧ W.cell? ⟨g7, 9, none⟩ = some (.slice y6.e.a y6.e.n y6.e.c) ∧ W.cell? ⟨g7, 10, none⟩ = some (.slice y6.k.a y6.k.n y6.k.c)) ∧ (W.cell? ⟨w.heap.size, 0, none⟩ = some (.slice x0.p.a x0.p.n x0.p.c) ∧ W.cell? ⟨w.heap.size, 1, none⟩ = some (.int .i64 h0.n1) ∧ W.cell? ⟨w.heap.size, 2, none⟩ = some (.int .i64 h0.n2) ∧ W.cell? ⟨w.heap.size, 3, none⟩ = some (.int .i64 h0.n3) ∧ W.cell? ⟨w.heap.size, 4, none⟩ = some (.slice x0.t.a x0.t.n x0.t.c) ∧ W.cell? ⟨w.heap.size, 5, none⟩ = some (.int .i64 h0.n5) ∧ W.cell? ⟨w.heap.size, 6, none⟩ = some (.slice x0.s.a x0.s.n x0.s.c) ∧ W.cell? ⟨w.heap.size, 7, none⟩ = some (.slice x0.r.a x0.r.n x0.r.c) ∧ W.cell? ⟨w.heap.size, 8, none⟩ = some (.slice x0.g.a x0.g.n x0.g.c) ∧ W.cell? ⟨w.heap.size, 9, none⟩ = some (.slice x0.e.a x0.e.n x0.e.c) ∧ W.cell? ⟨w.heap.size, 10, none⟩ = some (.slice x0.k.a x0.k.n x0.k.c))) := fun W hb => by
    have B7 := b8.trans (hb.mono b8.size)
    exact ⟨(unhide HR7) W B7, (unhide HR0) W ((unhide K7).trans (B7.mono (unhide K7).size))⟩
  have HO8 := hide (fun (W : World) (hb : Below w8.heap.size w8 W) => (o7.below b8 (Nat.le_refl _)).below hb (Nat.le_refl _))
  clear b8 o7 v0 v1 v2 v3 v4 v5 v6 v7 v8 v9 v10 HR7 HR0 HC0 K7 HB7 HB0 SPC IMC hr hd
  go_wp2_with fail
  go_region_held3 (fun W => (W.cell? ⟨g7, 0, none⟩ = some (.slice y6.p.a y6.p.n y6.p.c) ∧ W.cell? ⟨g7, 1, none⟩ = some (.int .i64 h0.n1) ∧ W.cell? ⟨g7, 2, none⟩ = some (.int .i64 h0.n2) ∧ W.cell? ⟨g7, 3, none⟩ = some (.int .i64 h0.n3) ∧ W.cell? ⟨g7, 4, none⟩ = some (.slice y6.t.a y6.t.n y6.t.c) ∧ W.cell? ⟨g7, 5, none⟩ = some (.int .i64 h0.n5) ∧ W.cell? ⟨g7, 6, none⟩ = some (.slice y6.s.a y6.s.n y6.s.c) ∧ W.cell? ⟨g7, 7, none⟩ = some (.slice y6.r.a y6.r.n y6.r.c) ∧ W.cell? ⟨g7, 8, none⟩ = some (.slice y6.g.a y6.g.n y6.g.c) ∧ W.cell? ⟨g7, 9, none⟩ = some (.slice y6.e.a y6.e.n y6.e.c) ∧ W.cell? ⟨g7, 10, none⟩ = some (.slice y6.k.a y6.k.n y6.k.c)) ∧ (W.cell? ⟨w.heap.size, 0, none⟩ = some (.slice x0.p.a x0.p.n x0.p.c) ∧ W.cell? ⟨w.heap.size, 1, none⟩ = some (.int .i64 h0.n1) ∧ W.cell? ⟨w.heap.size, 2, none⟩ = some (.int .i64 h0.n2) ∧ W.cell? ⟨w.heap.size, 3, none⟩ = some (.int .i64 h0.n3) ∧ W.cell? ⟨w.heap.size, 4, none⟩ = some (.slice x0.t.a x0.t.n x0.t.c) ∧ W.cell? ⟨w.heap.size, 5, none⟩ = some (.int .i64 h0.n5) ∧ W.cell? ⟨w.heap.size, 6, none⟩ = some (.slice x0.s.a x0.s.n x0.s.c) ∧ W.cell? ⟨w.heap.size, 7, none⟩ = some (.slice x0.r.a x0.r.n x0.r.c) ∧ W.cell? ⟨w.heap.size, 8, none⟩ = some (.slice x0.g.a x0.g.n x0.g.c) ∧ W.cell? ⟨w.heap.size, 9, none⟩ = some (.slice x0.e.a x0.e.n x0.e.c) ∧ W.cell? ⟨w.heap.size, 10, none⟩ = some (.slice x0.k.a x0.k.n x0.k.c)))
    (exact (unhide HRR) _ (by first | assumption | exact (Below.refl w8.heap.size w8).drew | exact below_drewN (Below.refl w8.heap.size w8) _ | exact below_drewN (by assumption) _))
    (first
      | (go_at_call 27; refine ((unhide T0) (unhide M) _ ((unhide HB8).trans (Below.mono (by first | exact (Below.refl w8.heap.size w8).drew | exact below_drewN (Below.refl w8.heap.size w8) _) (unhide HB8).size))).mono ?_; rintro e w9 ⟨y9, rfl, o9, _, b9⟩; have K9 : Below w8.heap.size w8 w9 := Below.trans (by first | exact (Below.refl w8.heap.size w8).drew | exact below_drewN (Below.refl w8.heap.size w8) _) (b9.mono (by first | exact Nat.le_refl _ | exact (below_drewN (Below.refl w8.heap.size w8) _).size)); clear b9)
      | (go_at_call 28; refine ((unhide EQC) (unhide M) y6 y9 _ ((unhide HO8) _ K9) o9).mono ?_; rintro e w10 ⟨rfl, b10⟩; have K10 : Below w8.heap.size w8 w10 := K9.trans (b10.mono K9.size)))
  all_goals
    go_wp2_with fail
    go_ret
    exact ⟨rfl, (unhide HB8).trans (K10.mono (unhide HB8).size)⟩

/-! The row's step. -/
set_option maxRecDepth 100000 in
theorem lifted (os : Os) (started : os.Started) (H : Type) (enc : TypeId × Value → H) :
    ReturnsInHanded {} Tryz.checked os 5 .any (fun w args => (Rows.fnExactSealRightSpec.pre enc Tryz.prog Tryz.f5 [] false w args ∧ laidMetH Tryz.prog laid3 w) ∧ sizedMet enc Tryz.prog Tryz.f5 (OpenSpec.ofChange Rows.fnExactSealRightSpec) false w args)
      (Rows.fnExactSealRightSpec.post enc Tryz.prog Tryz.f5 false true false false) := by
  refine returnsInHanded_of_change_and (C := Tryz.checked) (X := fun w _ => laidMetH Tryz.prog laid3 w) (fun _ _ _ hh h => h.of_heap hh) own started (by kernel_rfl) Tryz.func5
    (ChangeSpec.witness_shaped (enc := enc) (C := Tryz.checked) (os := os) (X := fun w _ => laidMetH Tryz.prog laid3 w) false (World.doorLaid Tryz.prog 400 os) #[.agg #[.slice none 0 0, .int .i64 0, .int .i64 0, .int .i64 0, .slice none 0 0, .int .i64 0, .slice none 0 0, .slice none 0 0, .slice none 0 0, .slice none 0 0, .slice none 0 0]] 8 rfl (World.shaped_of_RefB (by kernel_rfl) (by kernel_rfl)) (by kernel_rfl) (by kernel_rfl) (by kernel_rfl) (door_met3 os _)) ?_
  intro W base args ds gs before hval0 hW _ _ hL _
  have hval : ∀ (j : Nat) t v, Tryz.f5.params[j]? = some t → args[j]? = some v → Value.okWide Tryz.prog W .any base t v := hval0
  have hW' := hW
  obtain ⟨p, q, hA0, hV, rfl, hfz, hnd⟩ := hW
  have hA : DataW.TrodAll enc Tryz.prog W 0 (fun _ => true) true Tryz.f5.params.toList args.toList ds p := hA0
  rw [Tryz.params5] at hA hval
  obtain ⟨v0, vs0, d0, ds0, p0, q0, hargs, rfl, rfl, h0, r0⟩ := trodAll_cons hA
  obtain ⟨rfl, rfl, rfl⟩ := trodAll_nil r0
  obtain rfl : args = #[v0] := by cases args; simp_all
  obtain ⟨y0v, y1v, rfl⟩ : ∃ y0 y1, gs = [y0, y1] := by
    match gs, hV with
    | [y0, y1], _ => exact ⟨y0, y1, rfl⟩
    | [], hV => exact hV.elim
    | [_], hV => obtain ⟨_, _, _, _, _, _, _, _, _, _, hs, _⟩ := hV; exact hs.elim
    | _ :: _ :: _ :: _, hV =>
      obtain ⟨_, _, _, _, _, _, _, _, _, _, hs, _⟩ := hV
      obtain ⟨_, _, _, _, _, _, _, _, _, _, hs2, _⟩ := hs
      exact hs2.elim
  have k0 := h0
  have lt0 : ∀ x ∈ p0, x.block < W.heap.size := by obtain ⟨m, hm⟩ := k0; exact DataW.trod_lt m _ _ _ hm
  obtain ⟨x0, y0, rfl, w0, m0, i0⟩ := open_header Tryz.underlying44 rfl (by kernel_rfl) ⟨rfl, rfl, rfl, rfl, rfl, rfl, rfl, rfl, rfl, rfl, rfl⟩ ⟨rfl, rfl, rfl, rfl, rfl, rfl, rfl, rfl, rfl, rfl, rfl⟩ Tryz.underlying22 Tryz.underlying5 Tryz.underlying2 Tryz.underlying24 (by kernel_rfl) (by kernel_rfl) (by kernel_rfl) (by kernel_rfl) (okWide_struct Tryz.underlying44 (hval 0 44 v0 rfl rfl)) h0
  clear hA0 hval0
  refine (walk x0 y0 W m0 w0 i0 (of_laid3 hL).1 (of_laid3 hL).2).mono fun e W' ⟨he, bel⟩ => ?_
  subst he
  exact ⟨_, rfl, _, _, _, [], _, _, hW', trodAll_mk1 (shut_bool Tryz.underlying4 _), (trodAll_cons_mk (Below.trod laidOut (by kernel_rfl) (of_decide_eq_true (by kernel_rfl)) k0 bel lt0) trodAll_mk0), Below.trodVars laidOut bel (by kernel_rfl) hV, bel.frame _, fun h => by cases h⟩

theorem over : Rows.FnExactSealRightSaid :=
  OpenClaim.holds_of_wide 5 Tryz.f5 rfl rfl rfl rfl rfl rfl rfl ⟨rfl, rfl, rfl, rfl, rfl⟩ rfl rfl rfl rfl rfl (by kernel_rfl) Tryz.func5 (by kernel_rfl)
    (of_decide_eq_true (by kernel_rfl)) (by unfold Func.isWrapper; first | (rw [if_pos (by decide +kernel)]; kernel_rfl) | (rw [if_neg (by decide +kernel)]; exact ⟨rfl, rfl⟩))
    (fun os started H enc _ => lifted os started H enc)

/-- The statement: the tied card. -/
theorem proved : Rows.FnExactSealRightCardSaid :=
  Claim7.holds_tied_plain_at .later [] [.handle, .data, .data] true (true, "2afe33840bbcb421a5024dc978bd1e0a2a8ede1ec9e728ec45baeb988107c69b") true
    over (fun _ h => by cases h) (by kernel_rfl) (fun _ h => by cases h) fnExactSealRight_row_tie rfl ⟨rfl, rfl⟩ (by kernel_rfl) rfl
    (fun f fn hf hfn => by
      obtain rfl : f = 5 := Option.some.inj ((show Tryz.prog.funcNamed "loop.example/g00383/laws.FnExactSealRight" = some 5 by kernel_rfl).symm.trans hf) |>.symm
      obtain rfl : fn = Tryz.f5 := (Option.some.inj (Tryz.func5.symm.trans hfn)).symm
      exact ⟨by kernel_rfl, fun j t ht => by
        rw [Tryz.params5] at ht
        have hm : t ∈ [44] := by simpa using Array.mem_of_getElem? ht
        have hall : ([44].all fun u => !Tryz.prog.wantsStandIn u) = true := by kernel_rfl
        exact (show Tryz.prog.wantsStandIn t = false by simpa using List.all_eq_true.1 hall t hm)⟩)
    (by kernel_rfl)
#print axioms proved
end Go.Proofs.YtinkemfbmkldkaaGreatDoor.fnExactSealRight
