/- Proved: for every argument the law FnExactSnapFault returns true and changes no argument. Conditions: none. -/
import Derived.Test.YtalkhlimkanlcaaRows
import Derived.Test.YtalkhlimkanlcaaJ9
import Derived.Test.YtalkhlimkanlcaaJ10
import Derived.Test.YtalkhlimkanlcaaJ7
import Derived.WalkSmall
import Derived.Deep.MidRow
import Derived.Deep.RegionHeld3
import Derived.WalkKit
import Derived.ProofKit
import Derived.OpenShut
import Derived.ShutString
import Derived.ChangeOld
import Derived.Below
namespace Go.Proofs.Ytalkhlimkanlcaa.fnExactSnapFault
open Go.ChangeShapes Go.WideShapes Go.ChangeAt Go.RowKit
set_option linter.unusedVariables false

theorem own : ownKnob Try.prog.godebug = none := by kernel_rfl
theorem laidOut : laidOutB Try.prog = true := by kernel_rfl

/-! The walk: the Go text returns true, and writes nothing that was there. -/
set_option maxRecDepth 100000 in
set_option maxHeartbeats 8000000 in
theorem walk (x0 : SnS) (y0 : Sn) (w : World) (o0 : SNK.Ok w x0 y0) :
    Calls Try.prog 3 #[.agg (snvals x0 y0)] w fun e w' => e = .returned (.bool true) ∧ Below w.heap.size w w' := by
  have k0 := SBlk.new w (snvals x0 y0) 26
  have bb := below_alloc w (.cells (snvals x0 y0) 26)
  have zz : (w.alloc (.cells (snvals x0 y0) 26)).heap.size = w.heap.size + 1 := by simp
  obtain ⟨V0, ea0⟩ : ∃ W, w.alloc (.cells (snvals x0 y0) 26) = W := ⟨_, rfl⟩
  rw [ea0] at k0 bb zz
  have Z0 := hide (fun (W : World) (hb : Below w.heap.size w W) (L : Int) (h0 : 0 ≤ L) (h1 : L ≤ 1048576) => szSnap_any x0 y0 L W (SNK.below o0 hb (Nat.le_refl _)) h0 h1)
  have T0 : Hid (SnSm y0 → ∀ W, Below w.heap.size w W → Calls Try.prog 11 #[.agg (snvals x0 y0)] W fun r w' => ∃ e', r = .returned (.agg (snvals e' y0)) ∧ SNK.Ok w' e' y0 ∧ Below W.heap.size W w') := fun m W hb => (toSnap_kd [] x0 y0 W (SNK.below o0 hb (Nat.le_refl _)) m).mono (by rintro r w' ⟨e', d, rfl, h1, h2⟩; exact ⟨e', rfl, SNK.ok h1, h2⟩)
  have Q0 : Hid (SnSm y0 → ∀ (e f : SnS) (W : World), SNK.Ok W e y0 → SNK.Ok W f y0 → Calls Try.prog 13 #[.agg (snvals e y0), .agg (snvals f y0)] W fun r w' => r = .returned (.bool true) ∧ Below W.heap.size W w') := fun m e f W o q => by
    have h := eqSnap_any e f y0 y0 W o q m m
    rw [snSame_self] at h
    exact h
  have S0 := hide (fun (L : Int) (h : 0 ≤ szOf L (snSz y0)) (hL : L ≤ 1048576) => (snSm_of (by have := szOf_ok h; omega) : SnSm y0))
  have HC0 := hide (fun (W : World) (hb : Below V0.heap.size V0 W) => k0.below hb k0.lt)
  have SPC := hide (fun (m0 : SnSm y0) (f0 : SnS) (W : World) (q0 : SNK.Ok W f0 y0) => specSnapFault_any f0 y0 W q0 m0)
  have IMC := hide (fun (m0 : SnSm y0) (f0 : SnS) (W : World) (q0 : SNK.Ok W f0 y0) => implSnapFault_any f0 y0 W q0 m0)
  generalize snFlt y0 = c at SPC IMC
  have hq : (c != c) = false := by simp
  have hq2 : (c == c) = true := by simp
  have HB0 := hide bb
  have c0_0 := k0.cell 0
  have c0_1 := k0.cell 1
  have c0_2 := k0.cell 2
  have c0_3 := k0.cell 3
  simp only [snvals, List.getElem?_cons_zero, List.getElem?_cons_succ] at c0_0 c0_1 c0_2 c0_3
  have EA0 := hide ea0
  clear bb zz ea0 k0 o0
  unfold snvals at EA0 ⊢
  go_enter Try.func3, Try.ntmps3
  go_upto_region 1 with fail
  rw [unhide EA0]
  clear EA0
  have K0 := hide (Below.refl V0.heap.size V0)
  have Z := hide ((unhide Z0) V0 (unhide HB0) 1048576 (by omega) (by omega))
  unfold snvals at Z
  clear Z0
  go_wp2_with fail
  refine (unhide Z).mono ?_
  rintro r w1 ⟨rfl, b1⟩
  have K1 := hide ((unhide K0).trans (b1.mono (unhide K0).size))
  have HB1 := hide ((unhide HB0).trans (b1.mono (unhide HB0).size))
  clear b1 Z K0 HB0 c0_0 c0_1 c0_2 c0_3 
  obtain ⟨L1, eL⟩ : ∃ L, L = szOf 1048576 (snSz y0) := ⟨_, rfl⟩
  have HL := hide eL
  rw [← eL]
  clear eL
  by_cases n1 : L1 < 0
  · have hd : decide (L1 < 0) = true := decide_eq_true n1
    go_wp2_with fail
    go_ret
    exact ⟨rfl, unhide HB1⟩
  have M0 := hide ((unhide S0) 1048576 (by rw [← unhide HL]; omega) (by omega))
  have l1 : L1 ≤ 1048576 := by rw [unhide HL]; unfold szOf; split <;> omega
  have hd : decide (L1 < 0) = false := decide_eq_false n1
  clear HL S0
  clear n1 l1
  have c0_0 := ((unhide HC0) w1 (unhide K1)).cell 0
  have c0_1 := ((unhide HC0) w1 (unhide K1)).cell 1
  have c0_2 := ((unhide HC0) w1 (unhide K1)).cell 2
  have c0_3 := ((unhide HC0) w1 (unhide K1)).cell 3
  simp only [snvals, List.getElem?_cons_zero, List.getElem?_cons_succ] at c0_0 c0_1 c0_2 c0_3
  go_wp2_with fail
  refine ((unhide T0) (unhide M0) _ (unhide HB1)).mono ?_
  rintro r u1 ⟨e0, rfl, p0, b1⟩
  have KK := hide ((unhide K1).trans (b1.mono (unhide K1).size))
  have HBB := hide ((unhide HB1).trans (b1.mono (unhide HB1).size))
  clear b1 c0_0 c0_1 c0_2 c0_3
  unfold snvals
  go_wp2_with fail
  refine ((unhide SPC) (unhide M0) e0 _ p0).mono ?_
  rintro r w2 ⟨rfl, b2⟩
  have K2 := hide ((unhide KK).trans (b2.mono (unhide KK).size))
  have HB2 := hide ((unhide HBB).trans (b2.mono (unhide HBB).size))
  clear b2 p0 K1 HB1 KK HBB
  have c0_0 := ((unhide HC0) w2 (unhide K2)).cell 0
  have c0_1 := ((unhide HC0) w2 (unhide K2)).cell 1
  have c0_2 := ((unhide HC0) w2 (unhide K2)).cell 2
  have c0_3 := ((unhide HC0) w2 (unhide K2)).cell 3
  simp only [snvals, List.getElem?_cons_zero, List.getElem?_cons_succ] at c0_0 c0_1 c0_2 c0_3
  go_wp2_with fail
  refine ((unhide T0) (unhide M0) _ (unhide HB2)).mono ?_
  rintro r u0 ⟨f0, rfl, p0, b0⟩
  have h0 := SBlk.new u0 (snvals f0 y0) 32
  have hb := below_alloc u0 (.cells (snvals f0 y0) 32)
  obtain ⟨w3, ee⟩ : ∃ W, u0.alloc (.cells (snvals f0 y0) 32) = W := ⟨_, rfl⟩
  rw [ee] at h0 hb
  have p0 := SNK.below p0 hb (Nat.le_refl _)
  have bx := b0.trans (hb.mono b0.size)
  have K3 := hide ((unhide K2).trans (bx.mono (unhide K2).size))
  have HB3 := hide ((unhide HB2).trans (bx.mono (unhide HB2).size))
  clear hb bx b0 K2 HB2 c0_0 c0_1 c0_2 c0_3
  unfold snvals at ee ⊢
  go_upto_region 7 with (rw [ee])
  try rw [ee]
  clear ee
  obtain ⟨g0, hg⟩ : ∃ g, g = u0.heap.size := ⟨_, rfl⟩
  rw [← hg] at h0 ⊢
  clear hg
  have d0_0 := h0.cell 0
  have d0_1 := h0.cell 1
  have d0_2 := h0.cell 2
  have d0_3 := h0.cell 3
  simp only [snvals, List.getElem?_cons_zero, List.getElem?_cons_succ] at d0_0 d0_1 d0_2 d0_3
  go_wp2_with fail
  refine ((unhide IMC) (unhide M0) f0 _ p0).mono ?_
  rintro r w4 ⟨rfl, bx⟩
  have K4 := hide ((unhide K3).trans (bx.mono (unhide K3).size))
  have HB4 := hide ((unhide HB3).trans (bx.mono (unhide HB3).size))
  have P0 := hide (SNK.below p0 bx (Nat.le_refl _))
  have H0 := hide (h0.below bx h0.lt)
  clear bx K3 HB3 SPC IMC p0 h0 d0_0 d0_1 d0_2 d0_3
  have HS : Hid (∀ W, Below w4.heap.size w4 W → (fun W => (W.cell? ⟨g0, 0, none⟩ = some (.int .i64 y0.1) ∧ W.cell? ⟨g0, 1, none⟩ = some (.slice f0.2.1.a f0.2.1.n f0.2.1.c) ∧ W.cell? ⟨g0, 2, none⟩ = some (.slice f0.2.2.1.a f0.2.2.1.n f0.2.2.1.c) ∧ W.cell? ⟨g0, 3, none⟩ = some (.slice f0.2.2.2.a f0.2.2.2.n f0.2.2.2.c)) ∧ (W.cell? ⟨w.heap.size, 0, none⟩ = some (.int .i64 y0.1) ∧ W.cell? ⟨w.heap.size, 1, none⟩ = some (.slice x0.2.1.a x0.2.1.n x0.2.1.c) ∧ W.cell? ⟨w.heap.size, 2, none⟩ = some (.slice x0.2.2.1.a x0.2.2.1.n x0.2.2.1.c) ∧ W.cell? ⟨w.heap.size, 3, none⟩ = some (.slice x0.2.2.2.a x0.2.2.2.n x0.2.2.2.c))) W) := fun W hb => by
    have B := (unhide K4).trans (hb.mono (unhide K4).size)
    have h := (unhide H0).below hb (unhide H0).lt
    have h' := (unhide HC0) W B
    exact ⟨⟨h.cell 0, h.cell 1, h.cell 2, h.cell 3⟩, ⟨h'.cell 0, h'.cell 1, h'.cell 2, h'.cell 3⟩⟩
  go_wp2_with fail
  go_region_held3 (fun W => (W.cell? ⟨g0, 0, none⟩ = some (.int .i64 y0.1) ∧ W.cell? ⟨g0, 1, none⟩ = some (.slice f0.2.1.a f0.2.1.n f0.2.1.c) ∧ W.cell? ⟨g0, 2, none⟩ = some (.slice f0.2.2.1.a f0.2.2.1.n f0.2.2.1.c) ∧ W.cell? ⟨g0, 3, none⟩ = some (.slice f0.2.2.2.a f0.2.2.2.n f0.2.2.2.c)) ∧ (W.cell? ⟨w.heap.size, 0, none⟩ = some (.int .i64 y0.1) ∧ W.cell? ⟨w.heap.size, 1, none⟩ = some (.slice x0.2.1.a x0.2.1.n x0.2.1.c) ∧ W.cell? ⟨w.heap.size, 2, none⟩ = some (.slice x0.2.2.1.a x0.2.2.1.n x0.2.2.1.c) ∧ W.cell? ⟨w.heap.size, 3, none⟩ = some (.slice x0.2.2.2.a x0.2.2.2.n x0.2.2.2.c)))
    (exact (unhide HS) _ (by first | assumption | exact (Below.refl w4.heap.size w4).drew | exact below_drewN (Below.refl w4.heap.size w4) _ | exact below_drewN (by assumption) _))
    (first
      | (go_at_call 13; refine ((unhide Q0) (unhide M0) f0 e0 _ (SNK.below (unhide P0) J1 (Nat.le_refl _)) p1).mono ?_; rintro r w5 ⟨rfl, b2⟩; have JJ : Below w4.heap.size w4 w5 := J1.trans (b2.mono J1.size); clear b2)
      | (go_at_call 11; refine ((unhide T0) (unhide M0) _ ((unhide HB4).trans (Below.mono (by first | exact (Below.refl w4.heap.size w4).drew | exact below_drewN (Below.refl w4.heap.size w4) _ | exact Below.refl w4.heap.size w4) (unhide HB4).size))).mono ?_; rintro r u1 ⟨e0, rfl, p1, b1⟩; have J1 : Below w4.heap.size w4 u1 := Below.trans (by first | exact (Below.refl w4.heap.size w4).drew | exact below_drewN (Below.refl w4.heap.size w4) _ | exact Below.refl w4.heap.size w4) (b1.mono (by first | exact Nat.le_refl _ | exact (below_drewN (Below.refl w4.heap.size w4) _).size)); clear b1))
  all_goals
    have K5 := hide ((unhide K4).trans (JJ.mono (unhide K4).size))
    have HB5 := hide ((unhide HB4).trans (JJ.mono (unhide HB4).size))
    clear JJ J1 p1 HS K4 HB4 P0 H0
    go_wp2_with fail
    go_ret
    exact ⟨rfl, unhide HB5⟩

/-! The row's step. -/
set_option maxRecDepth 100000 in
theorem lifted (os : Os) (started : os.Started) (H : Type) (enc : TypeId × Value → H) :
    ReturnsInHanded {} Try.checked os 3 .any (Rows.fnExactSnapFaultSpec.pre6 enc Try.prog Try.f3 Rows.fnExactSnapFaultRow.domain false) (Rows.fnExactSnapFaultSpec.post enc Try.prog Try.f3 false true false false) := by
  refine returnsInHanded_of_change (C := Try.checked) own started (by kernel_rfl) Try.func3
    (ChangeSpec.witness6 (enc := enc) (C := Try.checked) false ⟨#[], #[.agg #[.int .i64 0, .slice none 0 0, .slice none 0 0, .slice none 0 0]], []⟩ 8 (by kernel_rfl) (by kernel_rfl) (by kernel_rfl) (by kernel_rfl)) ?_
  intro W base args ds gs before hval0 hW hcnd _
  have hval : ∀ (j : Nat) t v, Try.f3.params[j]? = some t → args[j]? = some v → Value.okWide Try.prog W .any base t v := hval0
  have hW' := hW
  obtain ⟨p, q, hA0, hV, rfl, hfz, hnd⟩ := hW
  have hA : DataW.TrodAll enc Try.prog W 0 (fun _ => true) true Try.f3.params.toList args.toList ds p := hA0
  rw [Try.params3] at hA hval
  obtain ⟨v0, vs0, d0, ds0, p0, q0, hargs, rfl, rfl, h0, r0⟩ := trodAll_cons hA
  obtain ⟨rfl, rfl, rfl⟩ := trodAll_nil r0
  obtain rfl : args = #[v0] := by cases args; simp_all
  obtain ⟨rfl, rfl⟩ := trodVars_none hV
  have k0 := h0
  have lt0 : ∀ x ∈ p0, x.block < W.heap.size := by obtain ⟨m, hm⟩ := k0; exact DataW.trod_lt m _ _ _ hm
  obtain ⟨x0, y0, rfl, o0⟩ := open_snap (okWide_struct Try.underlying26 (hval 0 26 v0 rfl rfl)) h0
  clear hA0 hval0
  refine (walk x0 y0 W o0).mono fun e W' ⟨he, bel⟩ => ?_
  subst he
  exact ⟨_, rfl, _, _, _, [], _, [], hW', trodAll_mk1 (shut_bool Try.underlying4 _), (trodAll_cons_mk (Below.trod laidOut (by kernel_rfl) (of_decide_eq_true (by kernel_rfl)) k0 bel lt0) trodAll_mk0), rfl, bel.frame _, fun h => by cases h⟩

theorem over : Rows.fnExactSnapFaultRow.holds Try.pinned (OpenSpec.ofChange Rows.fnExactSnapFaultSpec) :=
  OpenClaim.holds_of_wide 3 Try.f3 rfl rfl rfl rfl rfl rfl rfl ⟨rfl, rfl, rfl, rfl, rfl⟩ rfl rfl rfl rfl rfl (by kernel_rfl) Try.func3 (by kernel_rfl)
    (of_decide_eq_true (by kernel_rfl)) (by unfold Func.isWrapper; first | (rw [if_pos (by decide +kernel)]; kernel_rfl) | (rw [if_neg (by decide +kernel)]; exact ⟨rfl, rfl⟩))
    (fun os started H enc _ => lifted os started H enc)

/-- The statement. -/
theorem proved : Rows.FnExactSnapFaultSaid := over
#print axioms proved
end Go.Proofs.Ytalkhlimkanlcaa.fnExactSnapFault
