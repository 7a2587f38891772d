/- Proved: for every argument the law FnExactSnapText returns true and changes no argument. Conditions: the three variables hold what the program's text lays. -/
import Derived.Test.YtpkfgffgldjceaaDoorRows
import Derived.Test.YtpkfgffgldjceaaDoorTie
import Derived.Test.YtpkfgffgldjceaaDoorCards
import Derived.Test.YtpkfgffgldjceaaDoorJ12
import Derived.Test.YtpkfgffgldjceaaDoorJ11
import Derived.WalkSmall
import Derived.Deep.MidRow
import Derived.Deep.RegionHeld3
import Derived.WalkKit
import Derived.ProofKit
import Derived.OpenShut
import Derived.ShutString
import Derived.ChangeOld
import Derived.Below
import Derived.OpenVars
import Derived.LaidMore
import Derived.Stop.Joined
import Derived.SevenTiedAt
namespace Go.Proofs.YtpkfgffgldjceaaDoor.fnExactSnapText
open Go.ChangeShapes Go.WideShapes Go.ChangeAt Go.RowKit
set_option linter.unusedVariables false

theorem own : ownKnob Tryd.prog.godebug = none := by kernel_rfl
theorem laidOut : laidOutB Tryd.prog = true := by kernel_rfl

/-! The walk: the Go text returns true, and writes nothing that was there. -/
set_option maxRecDepth 100000 in
set_option maxHeartbeats 8000000 in
theorem walk (x0 : SnS) (y0 : Sn) (w : World) (o0 : SNK.Ok w x0 y0) (VV : TabW w) :
    Calls Tryd.prog 3 #[.agg (snvals x0 y0)] w fun e w' => e = .returned (.bool true) ∧ Below w.heap.size w w' := by
  have k0 := SBlk.new w (snvals x0 y0) 26
  have bb := below_alloc w (.cells (snvals x0 y0) 26)
  have zz : (w.alloc (.cells (snvals x0 y0) 26)).heap.size = w.heap.size + 1 := by simp
  obtain ⟨V0, ea0⟩ : ∃ W, w.alloc (.cells (snvals x0 y0) 26) = W := ⟨_, rfl⟩
  rw [ea0] at k0 bb zz
  have Z0 := hide (fun (W : World) (hb : Below w.heap.size w W) (L : Int) (h0 : 0 ≤ L) (h1 : L ≤ 1048576) => szSnap_any x0 y0 L W (SNK.below o0 hb (Nat.le_refl _)) h0 h1)
  have T0 : Hid (SnSm y0 → ∀ W, Below w.heap.size w W → Calls Tryd.prog 7 #[.agg (snvals x0 y0)] W fun r w' => ∃ e', r = .returned (.agg (snvals e' y0)) ∧ SNK.Ok w' e' y0 ∧ Below W.heap.size W w') := fun m W hb => (toSnap_kd [] x0 y0 W (SNK.below o0 hb (Nat.le_refl _)) m).mono (by rintro r w' ⟨e', d, rfl, h1, h2⟩; exact ⟨e', rfl, SNK.ok h1, h2⟩)
  have Q0 : Hid (SnSm y0 → ∀ (e f : SnS) (W : World), SNK.Ok W e y0 → SNK.Ok W f y0 → Calls Tryd.prog 10 #[.agg (snvals e y0), .agg (snvals f y0)] W fun r w' => r = .returned (.bool true) ∧ Below W.heap.size W w') := fun m e f W o q => by
    have h := eqSnap_any e f y0 y0 W o q m m
    rw [snSame_self] at h
    exact h
  have S0 := hide (fun (L : Int) (h : 0 ≤ szOf L (snSz y0)) (hL : L ≤ 1048576) => (snSm_of (by have := szOf_ok h; omega) : SnSm y0))
  have HC0 := hide (fun (W : World) (hb : Below V0.heap.size V0 W) => k0.below hb k0.lt)
  have SPC := hide (fun (m0 : SnSm y0) (f0 : SnS) (W : World) (q0 : SNK.Ok W f0 y0) => specSnapText_any f0 y0 W q0 m0)
  have HVV := hide VV
  have IMC := hide (fun (m0 : SnSm y0) (f0 : SnS) (W : World) (q0 : SNK.Ok W f0 y0) (hb : Below w.heap.size w W) => implSnapText_any f0 y0 W q0 m0 ((unhide HVV).below hb (Nat.le_refl _)))
  clear VV
  generalize snFlt y0 = c at SPC IMC
  generalize stTxt y0 = v at SPC IMC
  have HB0 := hide bb
  have c0_0 := k0.cell 0
  have c0_1 := k0.cell 1
  have c0_2 := k0.cell 2
  have c0_3 := k0.cell 3
  simp only [snvals, List.getElem?_cons_zero, List.getElem?_cons_succ] at c0_0 c0_1 c0_2 c0_3
  have EA0 := hide ea0
  clear bb zz ea0 k0 o0
  unfold snvals at EA0 ⊢
  go_enter Tryd.func3, Tryd.ntmps3
  go_upto_region 1 with fail
  rw [unhide EA0]
  clear EA0
  have K0 := hide (Below.refl V0.heap.size V0)
  have Z := hide ((unhide Z0) V0 (unhide HB0) 1048576 (by omega) (by omega))
  unfold snvals at Z
  clear Z0
  go_wp2_with fail
  refine (unhide Z).mono ?_
  rintro r w1 ⟨rfl, b1⟩
  have K1 := hide ((unhide K0).trans (b1.mono (unhide K0).size))
  have HB1 := hide ((unhide HB0).trans (b1.mono (unhide HB0).size))
  clear b1 Z K0 HB0 c0_0 c0_1 c0_2 c0_3 
  obtain ⟨L1, eL⟩ : ∃ L, L = szOf 1048576 (snSz y0) := ⟨_, rfl⟩
  have HL := hide eL
  rw [← eL]
  clear eL
  by_cases n1 : L1 < 0
  · have hd : decide (L1 < 0) = true := decide_eq_true n1
    go_wp2_with fail
    go_ret
    exact ⟨rfl, unhide HB1⟩
  have M0 := hide ((unhide S0) 1048576 (by rw [← unhide HL]; omega) (by omega))
  have l1 : L1 ≤ 1048576 := by rw [unhide HL]; unfold szOf; split <;> omega
  have hd : decide (L1 < 0) = false := decide_eq_false n1
  clear HL S0
  clear n1 l1
  have c0_0 := ((unhide HC0) w1 (unhide K1)).cell 0
  have c0_1 := ((unhide HC0) w1 (unhide K1)).cell 1
  have c0_2 := ((unhide HC0) w1 (unhide K1)).cell 2
  have c0_3 := ((unhide HC0) w1 (unhide K1)).cell 3
  simp only [snvals, List.getElem?_cons_zero, List.getElem?_cons_succ] at c0_0 c0_1 c0_2 c0_3
  go_wp2_with fail
  refine ((unhide T0) (unhide M0) _ (unhide HB1)).mono ?_
  rintro r u0 ⟨e0, rfl, p0, b1⟩
  have KK0 := hide ((unhide K1).trans (b1.mono (unhide K1).size))
  have HBB0 := hide ((unhide HB1).trans (b1.mono (unhide HB1).size))
  clear b1 c0_0 c0_1 c0_2 c0_3 K1 HB1
  unfold snvals
  go_wp2_with fail
  refine ((unhide SPC) (unhide M0) e0 _ p0).mono ?_
  rintro r w2 ⟨rfl, b2⟩
  have K2 := hide ((unhide KK0).trans (b2.mono (unhide KK0).size))
  have HB2 := hide ((unhide HBB0).trans (b2.mono (unhide HBB0).size))
  clear b2 p0 KK0 HBB0
  have kw := SBlk.new w2 #[.int .i64 c, .string v] 29
  have hb := below_alloc w2 (.cells #[.int .i64 c, .string v] 29)
  obtain ⟨w3, ee⟩ : ∃ W, w2.alloc (.cells #[.int .i64 c, .string v] 29) = W := ⟨_, rfl⟩
  rw [ee] at kw hb
  have K3 := hide ((unhide K2).trans (hb.mono (unhide K2).size))
  have HB3 := hide ((unhide HB2).trans (hb.mono (unhide HB2).size))
  clear hb K2 HB2
  go_upto_region 6 with (rw [ee])
  try rw [ee]
  clear ee
  obtain ⟨gw, hg⟩ : ∃ g, g = w2.heap.size := ⟨_, rfl⟩
  rw [← hg] at kw ⊢
  clear hg
  have c0_0 := ((unhide HC0) w3 (unhide K3)).cell 0
  have c0_1 := ((unhide HC0) w3 (unhide K3)).cell 1
  have c0_2 := ((unhide HC0) w3 (unhide K3)).cell 2
  have c0_3 := ((unhide HC0) w3 (unhide K3)).cell 3
  simp only [snvals, List.getElem?_cons_zero, List.getElem?_cons_succ] at c0_0 c0_1 c0_2 c0_3
  go_wp2_with fail
  refine ((unhide T0) (unhide M0) _ (unhide HB3)).mono ?_
  rintro r u0 ⟨f0, rfl, p0, b0⟩
  have h0 := SBlk.new u0 (snvals f0 y0) 34
  have hb := below_alloc u0 (.cells (snvals f0 y0) 34)
  obtain ⟨w4, ee⟩ : ∃ W, u0.alloc (.cells (snvals f0 y0) 34) = W := ⟨_, rfl⟩
  rw [ee] at h0 hb
  have p0 := SNK.below p0 hb (Nat.le_refl _)
  have bx := b0.trans (hb.mono b0.size)
  have kw := kw.below bx kw.lt
  have K4 := hide ((unhide K3).trans (bx.mono (unhide K3).size))
  have HB4 := hide ((unhide HB3).trans (bx.mono (unhide HB3).size))
  clear hb bx b0 K3 HB3 c0_0 c0_1 c0_2 c0_3
  unfold snvals at ee ⊢
  go_upto_region 7 with (rw [ee])
  try rw [ee]
  clear ee
  obtain ⟨g0, hg⟩ : ∃ g, g = u0.heap.size := ⟨_, rfl⟩
  rw [← hg] at h0 ⊢
  clear hg
  have d0_0 := h0.cell 0
  have d0_1 := h0.cell 1
  have d0_2 := h0.cell 2
  have d0_3 := h0.cell 3
  simp only [snvals, List.getElem?_cons_zero, List.getElem?_cons_succ] at d0_0 d0_1 d0_2 d0_3
  go_wp2_with fail
  refine ((unhide IMC) (unhide M0) f0 _ p0 (unhide HB4)).mono ?_
  rintro r w5 ⟨rfl, bx⟩
  have K5 := hide ((unhide K4).trans (bx.mono (unhide K4).size))
  have HB5 := hide ((unhide HB4).trans (bx.mono (unhide HB4).size))
  have kw := kw.below bx kw.lt
  have P0 := hide (SNK.below p0 bx (Nat.le_refl _))
  have H0 := hide (h0.below bx h0.lt)
  clear bx K4 HB4 SPC IMC p0 h0 d0_0 d0_1 d0_2 d0_3
  have kg := SBlk.new w5 #[.int .i64 c, .string v] 29
  have hb := below_alloc w5 (.cells #[.int .i64 c, .string v] 29)
  obtain ⟨w6, ee⟩ : ∃ W, w5.alloc (.cells #[.int .i64 c, .string v] 29) = W := ⟨_, rfl⟩
  rw [ee] at kg hb
  have kw := kw.below hb kw.lt
  have P0 := hide (SNK.below (unhide P0) hb (Nat.le_refl _))
  have H0 := hide ((unhide H0).below hb (unhide H0).lt)
  have K6 := hide ((unhide K5).trans (hb.mono (unhide K5).size))
  have HB6 := hide ((unhide HB5).trans (hb.mono (unhide HB5).size))
  clear hb K5 HB5
  go_upto_region 8 with (rw [ee])
  try rw [ee]
  clear ee
  obtain ⟨gg, hg⟩ : ∃ g, g = w5.heap.size := ⟨_, rfl⟩
  rw [← hg] at kg ⊢
  clear hg
  have a0 := kw.cell 0
  have a1 := kw.cell 1
  have d0 := kg.cell 0
  have d1 := kg.cell 1
  simp only [List.getElem?_cons_zero, List.getElem?_cons_succ] at a0 a1 d0 d1
  clear kw kg
  have EQI := hide (fun (W : World) => eqText_same c v W)
  go_wp2_with fail
  refine ((unhide EQI) _).mono ?_
  rintro r w7 ⟨rfl, hb⟩
  have P0 := hide (SNK.below (unhide P0) hb (Nat.le_refl _))
  have H0 := hide ((unhide H0).below hb (unhide H0).lt)
  have K7 := hide ((unhide K6).trans (hb.mono (unhide K6).size))
  have HB7 := hide ((unhide HB6).trans (hb.mono (unhide HB6).size))
  clear hb K6 HB6 a0 a1 d0 d1 EQI
  have HS : Hid (∀ W, Below w7.heap.size w7 W → (fun W => (W.cell? ⟨g0, 0, none⟩ = some (.int .i64 y0.1) ∧ W.cell? ⟨g0, 1, none⟩ = some (.slice f0.2.1.a f0.2.1.n f0.2.1.c) ∧ W.cell? ⟨g0, 2, none⟩ = some (.slice f0.2.2.1.a f0.2.2.1.n f0.2.2.1.c) ∧ W.cell? ⟨g0, 3, none⟩ = some (.slice f0.2.2.2.a f0.2.2.2.n f0.2.2.2.c)) ∧ (W.cell? ⟨w.heap.size, 0, none⟩ = some (.int .i64 y0.1) ∧ W.cell? ⟨w.heap.size, 1, none⟩ = some (.slice x0.2.1.a x0.2.1.n x0.2.1.c) ∧ W.cell? ⟨w.heap.size, 2, none⟩ = some (.slice x0.2.2.1.a x0.2.2.1.n x0.2.2.1.c) ∧ W.cell? ⟨w.heap.size, 3, none⟩ = some (.slice x0.2.2.2.a x0.2.2.2.n x0.2.2.2.c))) W) := fun W hb => by
    have B := (unhide K7).trans (hb.mono (unhide K7).size)
    have h := (unhide H0).below hb (unhide H0).lt
    have h' := (unhide HC0) W B
    exact ⟨⟨h.cell 0, h.cell 1, h.cell 2, h.cell 3⟩, ⟨h'.cell 0, h'.cell 1, h'.cell 2, h'.cell 3⟩⟩
  go_wp2_with fail
  go_region_held3 (fun W => (W.cell? ⟨g0, 0, none⟩ = some (.int .i64 y0.1) ∧ W.cell? ⟨g0, 1, none⟩ = some (.slice f0.2.1.a f0.2.1.n f0.2.1.c) ∧ W.cell? ⟨g0, 2, none⟩ = some (.slice f0.2.2.1.a f0.2.2.1.n f0.2.2.1.c) ∧ W.cell? ⟨g0, 3, none⟩ = some (.slice f0.2.2.2.a f0.2.2.2.n f0.2.2.2.c)) ∧ (W.cell? ⟨w.heap.size, 0, none⟩ = some (.int .i64 y0.1) ∧ W.cell? ⟨w.heap.size, 1, none⟩ = some (.slice x0.2.1.a x0.2.1.n x0.2.1.c) ∧ W.cell? ⟨w.heap.size, 2, none⟩ = some (.slice x0.2.2.1.a x0.2.2.1.n x0.2.2.1.c) ∧ W.cell? ⟨w.heap.size, 3, none⟩ = some (.slice x0.2.2.2.a x0.2.2.2.n x0.2.2.2.c)))
    (exact (unhide HS) _ (by first | assumption | exact (Below.refl w7.heap.size w7).drew | exact below_drewN (Below.refl w7.heap.size w7) _ | exact below_drewN (by assumption) _))
    (first
      | (go_at_call 10; refine ((unhide Q0) (unhide M0) f0 e0 _ (SNK.below (unhide P0) J1 (Nat.le_refl _)) p1).mono ?_; rintro r w8 ⟨rfl, b2⟩; have JJ : Below w7.heap.size w7 w8 := J1.trans (b2.mono J1.size); clear b2)
      | (go_at_call 7; refine ((unhide T0) (unhide M0) _ ((unhide HB7).trans (Below.mono (by first | exact (Below.refl w7.heap.size w7).drew | exact below_drewN (Below.refl w7.heap.size w7) _ | exact Below.refl w7.heap.size w7) (unhide HB7).size))).mono ?_; rintro r u1 ⟨e0, rfl, p1, b1⟩; have J1 : Below w7.heap.size w7 u1 := Below.trans (by first | exact (Below.refl w7.heap.size w7).drew | exact below_drewN (Below.refl w7.heap.size w7) _ | exact Below.refl w7.heap.size w7) (b1.mono (by first | exact Nat.le_refl _ | exact (below_drewN (Below.refl w7.heap.size w7) _).size)); clear b1))
  all_goals
    have K8 := hide ((unhide K7).trans (JJ.mono (unhide K7).size))
    have HB8 := hide ((unhide HB7).trans (JJ.mono (unhide HB7).size))
    clear JJ J1 p1 HS K7 HB7 P0 H0
    go_wp2_with fail
    go_ret
    exact ⟨rfl, unhide HB8⟩

/-! The row's step. -/
set_option maxRecDepth 100000 in
theorem lifted (os : Os) (started : os.Started) (H : Type) (enc : TypeId × Value → H) :
    ReturnsInHanded {} Tryd.checked os 3 .any (fun w args => (Rows.fnExactSnapTextSpec.pre enc Tryd.prog Tryd.f3 [] false w args ∧ laidMetH Tryd.prog laid3s w) ∧ sizedMet enc Tryd.prog Tryd.f3 (OpenSpec.ofChange Rows.fnExactSnapTextSpec) false w args)
      (Rows.fnExactSnapTextSpec.post enc Tryd.prog Tryd.f3 false true false false) := by
  refine returnsInHanded_of_change_and (C := Tryd.checked) (X := fun w _ => laidMetH Tryd.prog laid3s w) (fun _ _ _ hh h => h.of_heap hh) own started (by kernel_rfl) Tryd.func3
    (ChangeSpec.witness_shaped (enc := enc) (C := Tryd.checked) (os := os) (X := fun w _ => laidMetH Tryd.prog laid3s w) false (World.doorLaid Tryd.prog 400 os) #[.agg #[.int .i64 0, .slice none 0 0, .slice none 0 0, .slice none 0 0]] 8 rfl (World.shaped_of_RefB (by kernel_rfl) (by kernel_rfl)) (by kernel_rfl) (by kernel_rfl) (by kernel_rfl) (door_met3s os _)) ?_
  intro W base args ds gs before hval0 hW _ _ hL _
  have hval : ∀ (j : Nat) t v, Tryd.f3.params[j]? = some t → args[j]? = some v → Value.okWide Tryd.prog W .any base t v := hval0
  have hW' := hW
  obtain ⟨p, q, hA0, hV, rfl, hfz, hnd⟩ := hW
  have hA : DataW.TrodAll enc Tryd.prog W 0 (fun _ => true) true Tryd.f3.params.toList args.toList ds p := hA0
  rw [Tryd.params3] at hA hval
  obtain ⟨v0, vs0, d0, ds0, p0, q0, hargs, rfl, rfl, h0, r0⟩ := trodAll_cons hA
  obtain ⟨rfl, rfl, rfl⟩ := trodAll_nil r0
  obtain rfl : args = #[v0] := by cases args; simp_all
  obtain ⟨rfl, rfl⟩ := trodVars_none hV
  have k0 := h0
  have lt0 : ∀ x ∈ p0, x.block < W.heap.size := by obtain ⟨m, hm⟩ := k0; exact DataW.trod_lt m _ _ _ hm
  obtain ⟨x0, y0, rfl, o0⟩ := open_snap (okWide_struct Tryd.underlying26 (hval 0 26 v0 rfl rfl)) h0
  clear hA0 hval0
  refine (walk x0 y0 W o0 (of_laid3s hL)).mono fun e W' ⟨he, bel⟩ => ?_
  subst he
  exact ⟨_, rfl, _, _, _, [], _, [], hW', trodAll_mk1 (shut_bool Tryd.underlying4 _), (trodAll_cons_mk (Below.trod laidOut (by kernel_rfl) (of_decide_eq_true (by kernel_rfl)) k0 bel lt0) trodAll_mk0), rfl, bel.frame _, fun h => by cases h⟩

theorem over : Rows.FnExactSnapTextSaid :=
  OpenClaim.holds_of_wide 3 Tryd.f3 rfl rfl rfl rfl rfl rfl rfl ⟨rfl, rfl, rfl, rfl, rfl⟩ rfl rfl rfl rfl rfl (by kernel_rfl) Tryd.func3 (by kernel_rfl)
    (of_decide_eq_true (by kernel_rfl)) (by unfold Func.isWrapper; first | (rw [if_pos (by decide +kernel)]; kernel_rfl) | (rw [if_neg (by decide +kernel)]; exact ⟨rfl, rfl⟩))
    (fun os started H enc _ => lifted os started H enc)

/-- The statement: the tied card. -/
theorem proved : Rows.FnExactSnapTextCardSaid :=
  Claim7.holds_tied_plain_at .later [] [.data, .data, .data] true (true, "b4ff2abf42c82de64edaba61cb364a2e0ae132760394bf979e47db4b6f9b2c16") false
    over (fun _ h => by cases h) (by kernel_rfl) (fun _ h => by cases h) fnExactSnapText_row_tie rfl ⟨rfl, rfl⟩ (by kernel_rfl) rfl
    (fun f fn hf hfn => by
      obtain rfl : f = 3 := Option.some.inj ((show Tryd.prog.funcNamed "loop.example/g00383/laws.FnExactSnapText" = some 3 by kernel_rfl).symm.trans hf) |>.symm
      obtain rfl : fn = Tryd.f3 := (Option.some.inj (Tryd.func3.symm.trans hfn)).symm
      exact ⟨by kernel_rfl, fun j t ht => by
        rw [Tryd.params3] at ht
        have hm : t ∈ [26] := by simpa using Array.mem_of_getElem? ht
        have hall : ([26].all fun u => !Tryd.prog.wantsStandIn u) = true := by kernel_rfl
        exact (show Tryd.prog.wantsStandIn t = false by simpa using List.all_eq_true.1 hall t hm)⟩)
    (by kernel_rfl)
#print axioms proved
end Go.Proofs.YtpkfgffgldjceaaDoor.fnExactSnapText
