/- Proved: for every argument the law FnExactCommonOf returns true and changes no argument. Conditions: the tied card's own (the two tables of rounds and offsets as the program lays them). -/
import Derived.Test.YtjjbkbinjmfnlaaGreatDoorRows
import Derived.Test.YtjjbkbinjmfnlaaGreatDoorTie
import Derived.Test.YtjjbkbinjmfnlaaGreatDoorCards
import Derived.Test.YtjjbkbinjmfnlaaGreatDoorJ2
import Derived.Test.YtjjbkbinjmfnlaaGreatDoorJ32
import Derived.Test.YtjjbkbinjmfnlaaGreatDoorJ28
import Derived.Test.YtjjbkbinjmfnlaaGreatDoorJ26
import Derived.Test.YtjjbkbinjmfnlaaGreatDoorJ30
import Derived.WalkSmall
import Derived.Deep.MidRow
import Derived.Deep.RegionHeld3
import Derived.WalkKit
import Derived.ProofKit
import Derived.OpenShut
import Derived.ShutString
import Derived.ChangeOld
import Derived.Below
import Derived.OpenVars
import Derived.LaidMore
import Derived.Stop.Joined
import Derived.SevenTiedAt
namespace Go.Proofs.YtjjbkbinjmfnlaaGreatDoor.fnExactCommonOf
open Go.ChangeShapes Go.WideShapes Go.ChangeAt Go.RowKit
set_option linter.unusedVariables false

theorem own : ownKnob Tryz.prog.godebug = none := by kernel_rfl
theorem laidOut : laidOutB Tryz.prog = true := by kernel_rfl

/-! The walk: the Go text returns true, and writes nothing that was there. -/
set_option maxRecDepth 100000 in
set_option maxHeartbeats 8000000 in
theorem walk (x0 : Sl) (y0 : St) (a1 : Int) (a2 : Int) (w : World) (o0 : RowOk enK w x0 y0.2) (w1 : (Lit.int .i64 a1).wf = true) (w2 : (Lit.int .i64 a2).wf = true) (VV : Laid w) :
    Calls Tryz.prog 8 #[.agg (tvals x0 y0), .int .i64 a1, .int .i64 a2] w fun e w' => e = .returned (.bool true) ∧ Below w.heap.size w w' := by
  have k0 := SBlk.new w (tvals x0 y0) 26
  have bb := below_alloc w (.cells (tvals x0 y0) 26)
  have zz : (w.alloc (.cells (tvals x0 y0) 26)).heap.size = w.heap.size + 1 := by simp
  obtain ⟨V0, ea0⟩ : ∃ W, w.alloc (.cells (tvals x0 y0) 26) = W := ⟨_, rfl⟩
  rw [ea0] at k0 bb zz
  have Z0 := hide (fun (W : World) (hb : Below w.heap.size w W) (L : Int) (h0 : 0 ≤ L) (h1 : L ≤ 1048576) => szStore_any x0 y0 L W (RowOk.below o0 hb (Nat.le_refl _)) h0 h1)
  have T0 : Hid (StSm y0 → ∀ W, Below w.heap.size w W → Calls Tryz.prog 11 #[.agg (tvals x0 y0)] W fun r w' => ∃ e', r = .returned (.agg (tvals e' y0)) ∧ RowOk enK w' e' y0.2 ∧ Below W.heap.size W w') := fun m W hb => (toStore_any [] x0 y0 W (RowOk.below o0 hb (Nat.le_refl _)) m).mono (by rintro r w' ⟨e', d, rfl, h1, h2⟩; exact ⟨e', rfl, RowOwn.ok h1, h2⟩)
  have Q0 : Hid (StSm y0 → ∀ (e f : Sl) (W : World), RowOk enK W e y0.2 → RowOk enK W f y0.2 → Calls Tryz.prog 14 #[.agg (tvals e y0), .agg (tvals f y0)] W fun r w' => r = .returned (.bool true) ∧ Below W.heap.size W w') := fun m e f W o q => by
    have h := eqStore_same e f y0 W o q m
    exact h
  have HC0 := hide (fun (W : World) (hb : Below V0.heap.size V0 W) => k0.below hb k0.lt)
  have SPC := hide (fun (m0 : StSm y0) (f0 : Sl) (W : World) (q0 : RowOk enK W f0 y0.2) => specCommon_any f0 y0 a1 a2 W q0 m0)
  have IMC := hide (fun (m0 : StSm y0) (f0 : Sl) (W : World) (LV : Laid W) (q0 : RowOk enK W f0 y0.2) => implCommon_any f0 y0 a1 a2 W q0 m0 LV)
  generalize plsCode y0 [a1, a2] = c at SPC IMC
  generalize cmVal y0 a1 a2 = v at SPC IMC
  have HB0 := hide bb
  have c0_0 := k0.cell 0
  have c0_1 := k0.cell 1
  have c0_2 := k0.cell 2
  have c0_3 := k0.cell 3
  simp only [tvals, List.getElem?_cons_zero, List.getElem?_cons_succ] at c0_0 c0_1 c0_2 c0_3
  have EA0 := hide ea0
  have HVV := hide (fun (W : World) (hb : Below w.heap.size w W) => VV.below hb (Nat.le_refl _))
  clear bb zz ea0 k0 o0
  unfold tvals at EA0 ⊢
  go_enter Tryz.func8, Tryz.ntmps8
  go_upto_region 1 with fail
  rw [unhide EA0]
  clear EA0
  have K0 := hide (Below.refl V0.heap.size V0)
  have Z := hide ((unhide Z0) V0 (unhide HB0) 1048576 (by omega) (by omega))
  unfold tvals at Z
  clear Z0
  go_wp2_with fail
  refine (unhide Z).mono ?_
  rintro r w1 ⟨⟨L1, rfl, l1, l2, l3⟩, b1⟩
  have K1 := hide ((unhide K0).trans (b1.mono (unhide K0).size))
  have HB1 := hide ((unhide HB0).trans (b1.mono (unhide HB0).size))
  clear b1 Z K0 HB0 c0_0 c0_1 c0_2 c0_3 
  by_cases n1 : L1 < 0
  · have hd : decide (L1 < 0) = true := decide_eq_true n1
    go_wp2_with fail
    go_ret
    exact ⟨rfl, unhide HB1⟩
  have M0 := hide (l3 (by omega))
  have hd : decide (L1 < 0) = false := decide_eq_false n1
  clear n1 l1 l2 l3
  have c0_0 := ((unhide HC0) w1 (unhide K1)).cell 0
  have c0_1 := ((unhide HC0) w1 (unhide K1)).cell 1
  have c0_2 := ((unhide HC0) w1 (unhide K1)).cell 2
  have c0_3 := ((unhide HC0) w1 (unhide K1)).cell 3
  simp only [tvals, List.getElem?_cons_zero, List.getElem?_cons_succ] at c0_0 c0_1 c0_2 c0_3
  go_wp2_with fail
  refine ((unhide T0) (unhide M0) _ (unhide HB1)).mono ?_
  rintro r u0 ⟨e0, rfl, p0, b1⟩
  have KK0 := hide ((unhide K1).trans (b1.mono (unhide K1).size))
  have HBB0 := hide ((unhide HB1).trans (b1.mono (unhide HB1).size))
  clear b1 c0_0 c0_1 c0_2 c0_3 K1 HB1
  unfold tvals
  go_wp2_with fail
  refine ((unhide SPC) (unhide M0) e0 _ p0).mono ?_
  rintro r w2 ⟨rfl, b2⟩
  have K2 := hide ((unhide KK0).trans (b2.mono (unhide KK0).size))
  have HB2 := hide ((unhide HBB0).trans (b2.mono (unhide HBB0).size))
  clear b2 p0 KK0 HBB0
  have kw := SBlk.new w2 #[.int .i64 c, .int .i64 v] 45
  have hb := below_alloc w2 (.cells #[.int .i64 c, .int .i64 v] 45)
  obtain ⟨w3, ee⟩ : ∃ W, w2.alloc (.cells #[.int .i64 c, .int .i64 v] 45) = W := ⟨_, rfl⟩
  rw [ee] at kw hb
  have K3 := hide ((unhide K2).trans (hb.mono (unhide K2).size))
  have HB3 := hide ((unhide HB2).trans (hb.mono (unhide HB2).size))
  clear hb K2 HB2
  go_upto_region 6 with (rw [ee])
  try rw [ee]
  clear ee
  obtain ⟨gw, hg⟩ : ∃ g, g = w2.heap.size := ⟨_, rfl⟩
  rw [← hg] at kw ⊢
  clear hg
  have c0_0 := ((unhide HC0) w3 (unhide K3)).cell 0
  have c0_1 := ((unhide HC0) w3 (unhide K3)).cell 1
  have c0_2 := ((unhide HC0) w3 (unhide K3)).cell 2
  have c0_3 := ((unhide HC0) w3 (unhide K3)).cell 3
  simp only [tvals, List.getElem?_cons_zero, List.getElem?_cons_succ] at c0_0 c0_1 c0_2 c0_3
  go_wp2_with fail
  refine ((unhide T0) (unhide M0) _ (unhide HB3)).mono ?_
  rintro r u0 ⟨f0, rfl, p0, b0⟩
  have h0 := SBlk.new u0 (tvals f0 y0) 35
  have hb := below_alloc u0 (.cells (tvals f0 y0) 35)
  obtain ⟨w4, ee⟩ : ∃ W, u0.alloc (.cells (tvals f0 y0) 35) = W := ⟨_, rfl⟩
  rw [ee] at h0 hb
  have p0 := RowOk.below p0 hb (Nat.le_refl _)
  have bx := b0.trans (hb.mono b0.size)
  have kw := kw.below bx kw.lt
  have K4 := hide ((unhide K3).trans (bx.mono (unhide K3).size))
  have HB4 := hide ((unhide HB3).trans (bx.mono (unhide HB3).size))
  clear hb bx b0 K3 HB3 c0_0 c0_1 c0_2 c0_3
  unfold tvals at ee ⊢
  go_upto_region 7 with (rw [ee])
  try rw [ee]
  clear ee
  obtain ⟨g0, hg⟩ : ∃ g, g = u0.heap.size := ⟨_, rfl⟩
  rw [← hg] at h0 ⊢
  clear hg
  have K5 := K4
  have HB5 := HB4
  clear K4 HB4
  have d0_0 := h0.cell 0
  have d0_1 := h0.cell 1
  have d0_2 := h0.cell 2
  have d0_3 := h0.cell 3
  simp only [tvals, List.getElem?_cons_zero, List.getElem?_cons_succ] at d0_0 d0_1 d0_2 d0_3
  go_wp2_with fail
  refine ((unhide IMC) (unhide M0) f0 _ ((unhide HVV) _ (unhide HB5)) p0).mono ?_
  rintro r w6 ⟨rfl, bx⟩
  have K6 := hide ((unhide K5).trans (bx.mono (unhide K5).size))
  have HB6 := hide ((unhide HB5).trans (bx.mono (unhide HB5).size))
  have kw := kw.below bx kw.lt
  have P0 := hide (RowOk.below p0 bx (Nat.le_refl _))
  have H0 := hide (h0.below bx h0.lt)
  clear bx K5 HB5 SPC IMC p0 h0 d0_0 d0_1 d0_2 d0_3
  have kg := SBlk.new w6 #[.int .i64 c, .int .i64 v] 45
  have hb := below_alloc w6 (.cells #[.int .i64 c, .int .i64 v] 45)
  obtain ⟨w7, ee⟩ : ∃ W, w6.alloc (.cells #[.int .i64 c, .int .i64 v] 45) = W := ⟨_, rfl⟩
  rw [ee] at kg hb
  have kw := kw.below hb kw.lt
  have P0 := hide (RowOk.below (unhide P0) hb (Nat.le_refl _))
  have H0 := hide ((unhide H0).below hb (unhide H0).lt)
  have K7 := hide ((unhide K6).trans (hb.mono (unhide K6).size))
  have HB7 := hide ((unhide HB6).trans (hb.mono (unhide HB6).size))
  clear hb K6 HB6
  go_upto_region 8 with (rw [ee])
  try rw [ee]
  clear ee
  obtain ⟨gg, hg⟩ : ∃ g, g = w6.heap.size := ⟨_, rfl⟩
  rw [← hg] at kg ⊢
  clear hg
  have a0 := kw.cell 0
  have a1 := kw.cell 1
  have d0 := kg.cell 0
  have d1 := kg.cell 1
  simp only [List.getElem?_cons_zero, List.getElem?_cons_succ] at a0 a1 d0 d1
  clear kw kg
  have EQI := hide (fun (W : World) => eqInt_same c v W)
  go_wp2_with fail
  refine ((unhide EQI) _).mono ?_
  rintro r w8 ⟨rfl, hb⟩
  have P0 := hide (RowOk.below (unhide P0) hb (Nat.le_refl _))
  have H0 := hide ((unhide H0).below hb (unhide H0).lt)
  have K8 := hide ((unhide K7).trans (hb.mono (unhide K7).size))
  have HB8 := hide ((unhide HB7).trans (hb.mono (unhide HB7).size))
  clear hb K7 HB7 a0 a1 d0 d1 EQI
  have HS : Hid (∀ W, Below w8.heap.size w8 W → (fun W => (W.cell? ⟨g0, 0, none⟩ = some (.int .i64 y0.1.1) ∧ W.cell? ⟨g0, 1, none⟩ = some (.int .i64 y0.1.2.1) ∧ W.cell? ⟨g0, 2, none⟩ = some (.int .i64 y0.1.2.2) ∧ W.cell? ⟨g0, 3, none⟩ = some (.slice f0.a f0.n f0.c)) ∧ (W.cell? ⟨w.heap.size, 0, none⟩ = some (.int .i64 y0.1.1) ∧ W.cell? ⟨w.heap.size, 1, none⟩ = some (.int .i64 y0.1.2.1) ∧ W.cell? ⟨w.heap.size, 2, none⟩ = some (.int .i64 y0.1.2.2) ∧ W.cell? ⟨w.heap.size, 3, none⟩ = some (.slice x0.a x0.n x0.c))) W) := fun W hb => by
    have B := (unhide K8).trans (hb.mono (unhide K8).size)
    have h := (unhide H0).below hb (unhide H0).lt
    have h' := (unhide HC0) W B
    exact ⟨⟨h.cell 0, h.cell 1, h.cell 2, h.cell 3⟩, ⟨h'.cell 0, h'.cell 1, h'.cell 2, h'.cell 3⟩⟩
  go_wp2_with fail
  go_region_held3 (fun W => (W.cell? ⟨g0, 0, none⟩ = some (.int .i64 y0.1.1) ∧ W.cell? ⟨g0, 1, none⟩ = some (.int .i64 y0.1.2.1) ∧ W.cell? ⟨g0, 2, none⟩ = some (.int .i64 y0.1.2.2) ∧ W.cell? ⟨g0, 3, none⟩ = some (.slice f0.a f0.n f0.c)) ∧ (W.cell? ⟨w.heap.size, 0, none⟩ = some (.int .i64 y0.1.1) ∧ W.cell? ⟨w.heap.size, 1, none⟩ = some (.int .i64 y0.1.2.1) ∧ W.cell? ⟨w.heap.size, 2, none⟩ = some (.int .i64 y0.1.2.2) ∧ W.cell? ⟨w.heap.size, 3, none⟩ = some (.slice x0.a x0.n x0.c)))
    (exact (unhide HS) _ (by first | assumption | exact (Below.refl w8.heap.size w8).drew | exact below_drewN (Below.refl w8.heap.size w8) _ | exact below_drewN (by assumption) _))
    (first
      | (go_at_call 14; refine ((unhide Q0) (unhide M0) f0 e0 _ (RowOk.below (unhide P0) J1 (Nat.le_refl _)) p1).mono ?_; rintro r w9 ⟨rfl, b2⟩; have JJ : Below w8.heap.size w8 w9 := J1.trans (b2.mono J1.size); clear b2)
      | (go_at_call 11; refine ((unhide T0) (unhide M0) _ ((unhide HB8).trans (Below.mono (by first | exact (Below.refl w8.heap.size w8).drew | exact below_drewN (Below.refl w8.heap.size w8) _ | exact Below.refl w8.heap.size w8) (unhide HB8).size))).mono ?_; rintro r u1 ⟨e0, rfl, p1, b1⟩; have J1 : Below w8.heap.size w8 u1 := Below.trans (by first | exact (Below.refl w8.heap.size w8).drew | exact below_drewN (Below.refl w8.heap.size w8) _ | exact Below.refl w8.heap.size w8) (b1.mono (by first | exact Nat.le_refl _ | exact (below_drewN (Below.refl w8.heap.size w8) _).size)); clear b1))
  all_goals
    have K9 := hide ((unhide K8).trans (JJ.mono (unhide K8).size))
    have HB9 := hide ((unhide HB8).trans (JJ.mono (unhide HB8).size))
    clear JJ J1 p1 HS K8 HB8 P0 H0
    go_wp2_with fail
    go_ret
    exact ⟨rfl, unhide HB9⟩

/-! The row's step. -/
set_option maxRecDepth 100000 in
theorem lifted (os : Os) (started : os.Started) (H : Type) (enc : TypeId × Value → H) :
    ReturnsInHanded {} Tryz.checked os 8 .any (fun w args => (Rows.fnExactCommonOfSpec.pre enc Tryz.prog Tryz.f8 [] false w args ∧ laidMetH Tryz.prog laid2 w) ∧ sizedMet enc Tryz.prog Tryz.f8 (OpenSpec.ofChange Rows.fnExactCommonOfSpec) false w args)
      (Rows.fnExactCommonOfSpec.post enc Tryz.prog Tryz.f8 false true false false) := by
  refine returnsInHanded_of_change_and (C := Tryz.checked) (X := fun w _ => laidMetH Tryz.prog laid2 w) (fun _ _ _ hh h => h.of_heap hh) own started (by kernel_rfl) Tryz.func8
    (ChangeSpec.witness_shaped (enc := enc) (C := Tryz.checked) (os := os) (X := fun w _ => laidMetH Tryz.prog laid2 w) false (World.doorLaid Tryz.prog 400 os) #[.agg #[.int .i64 0, .int .i64 0, .int .i64 0, .slice none 0 0], .int .i64 0, .int .i64 0] 8 rfl (World.shaped_of_RefB (by kernel_rfl) (by kernel_rfl)) (by kernel_rfl) (by kernel_rfl) (by kernel_rfl) (door_met os _)) ?_
  intro W base args ds gs before hval0 hW _ _ hL _
  have hval : ∀ (j : Nat) t v, Tryz.f8.params[j]? = some t → args[j]? = some v → Value.okWide Tryz.prog W .any base t v := hval0
  have hW' := hW
  obtain ⟨p, q, hA0, hV, rfl, hfz, hnd⟩ := hW
  have hA : DataW.TrodAll enc Tryz.prog W 0 (fun _ => true) true Tryz.f8.params.toList args.toList ds p := hA0
  rw [Tryz.params8] at hA hval
  obtain ⟨v0, vs0, d0, ds0, p0, q0, hargs, rfl, rfl, h0, r0⟩ := trodAll_cons hA
  obtain ⟨v1, vs1, d1, ds1, p1, q1, rfl, rfl, rfl, h1, r1⟩ := trodAll_cons r0
  obtain ⟨v2, vs2, d2, ds2, p2, q2, rfl, rfl, rfl, h2, r2⟩ := trodAll_cons r1
  obtain ⟨rfl, rfl, rfl⟩ := trodAll_nil r2
  obtain rfl : args = #[v0, v1, v2] := by cases args; simp_all
  obtain ⟨y0v, y1v, rfl⟩ : ∃ y0 y1, gs = [y0, y1] := by
    match gs, hV with
    | [y0, y1], _ => exact ⟨y0, y1, rfl⟩
    | [], hV => exact hV.elim
    | [_], hV => obtain ⟨_, _, _, _, _, _, _, _, _, _, hs, _⟩ := hV; exact hs.elim
    | _ :: _ :: _ :: _, hV =>
      obtain ⟨_, _, _, _, _, _, _, _, _, _, hs, _⟩ := hV
      obtain ⟨_, _, _, _, _, _, _, _, _, _, hs2, _⟩ := hs
      exact hs2.elim
  have k0 := h0
  have lt0 : ∀ x ∈ p0, x.block < W.heap.size := by obtain ⟨m, hm⟩ := k0; exact DataW.trod_lt m _ _ _ hm
  obtain ⟨x0, y0, rfl, o0⟩ := open_store (okWide_struct Tryz.underlying26 (hval 0 26 v0 rfl rfl)) h0
  obtain ⟨a1, rfl, rfl, rfl, w1⟩ := open_int Tryz.underlying2 (hval 1 2 v1 rfl rfl) h1
  obtain ⟨a2, rfl, rfl, rfl, w2⟩ := open_int Tryz.underlying2 (hval 2 2 v2 rfl rfl) h2
  clear hA0 hval0
  refine (walk x0 y0 a1 a2 W o0 w1 w2 (of_laid hL)).mono fun e W' ⟨he, bel⟩ => ?_
  subst he
  exact ⟨_, rfl, _, _, _, [], _, _, hW', trodAll_mk1 (shut_bool Tryz.underlying4 _), (trodAll_cons_mk (Below.trod laidOut (by kernel_rfl) (of_decide_eq_true (by kernel_rfl)) k0 bel lt0) (trodAll_cons_mk (shut_int Tryz.underlying2 w1) (trodAll_cons_mk (shut_int Tryz.underlying2 w2) trodAll_mk0))), Below.trodVars laidOut bel (by kernel_rfl) hV, bel.frame _, fun h => by cases h⟩

theorem over : Rows.FnExactCommonOfSaid :=
  OpenClaim.holds_of_wide 8 Tryz.f8 rfl rfl rfl rfl rfl rfl rfl ⟨rfl, rfl, rfl, rfl, rfl⟩ rfl rfl rfl rfl rfl (by kernel_rfl) Tryz.func8 (by kernel_rfl)
    (of_decide_eq_true (by kernel_rfl)) (by unfold Func.isWrapper; first | (rw [if_pos (by decide +kernel)]; kernel_rfl) | (rw [if_neg (by decide +kernel)]; exact ⟨rfl, rfl⟩))
    (fun os started H enc _ => lifted os started H enc)

/-- The statement: the tied card. -/
theorem proved : Rows.FnExactCommonOfCardSaid :=
  Claim7.holds_tied_plain_at .later [] [.data, .data] true (true, "522ef8968a07804e586ede56a732b14749c85d9770b1404d42bc4966e4cff48a") false
    over (fun _ h => by cases h) (by kernel_rfl) (fun _ h => by cases h) fnExactCommonOf_row_tie rfl ⟨rfl, rfl⟩ (by kernel_rfl) rfl
    (fun f fn hf hfn => by
      obtain rfl : f = 8 := Option.some.inj ((show Tryz.prog.funcNamed "loop.example/g00383/laws.FnExactCommonOf" = some 8 by kernel_rfl).symm.trans hf) |>.symm
      obtain rfl : fn = Tryz.f8 := (Option.some.inj (Tryz.func8.symm.trans hfn)).symm
      exact ⟨by kernel_rfl, fun j t ht => by
        rw [Tryz.params8] at ht
        have hm : t ∈ [26, 2, 2] := by simpa using Array.mem_of_getElem? ht
        have hall : ([26, 2, 2].all fun u => !Tryz.prog.wantsStandIn u) = true := by kernel_rfl
        exact (show Tryz.prog.wantsStandIn t = false by simpa using List.all_eq_true.1 hall t hm)⟩)
    (by kernel_rfl)
#print axioms proved
end Go.Proofs.YtjjbkbinjmfnlaaGreatDoor.fnExactCommonOf
