/- Proved: for every argument the law FnExactSameSnaps returns true and changes no argument. Conditions: none. -/
import Derived.Test.YtalkhlimkanlcaaRows
import Derived.Test.YtalkhlimkanlcaaJ7
import Derived.WalkSmall
import Derived.Deep.MidRow
import Derived.Deep.RegionHeld3
import Derived.WalkKit
import Derived.ProofKit
import Derived.OpenShut
import Derived.ShutString
import Derived.ChangeOld
import Derived.Below
namespace Go.Proofs.Ytalkhlimkanlcaa.fnExactSameSnaps
open Go.ChangeShapes Go.WideShapes Go.ChangeAt Go.RowKit
set_option linter.unusedVariables false

theorem own : ownKnob Try.prog.godebug = none := by kernel_rfl
theorem laidOut : laidOutB Try.prog = true := by kernel_rfl

/-! The walk: the Go text returns true, and writes nothing that was there. -/
set_option maxRecDepth 100000 in
set_option maxHeartbeats 8000000 in
theorem walk (x0 : SnS) (y0 : Sn) (x1 : SnS) (y1 : Sn) (w : World) (o0 : SNK.Ok w x0 y0) (o1 : SNK.Ok w x1 y1) :
    Calls Try.prog 8 #[.agg (snvals x0 y0), .agg (snvals x1 y1)] w fun e w' => e = .returned (.bool true) ∧ Below w.heap.size w w' := by
  have k0 := SBlk.new w (snvals x0 y0) 26
  have bb := below_alloc w (.cells (snvals x0 y0) 26)
  have zz : (w.alloc (.cells (snvals x0 y0) 26)).heap.size = w.heap.size + 1 := by simp
  obtain ⟨V0, ea0⟩ : ∃ W, w.alloc (.cells (snvals x0 y0) 26) = W := ⟨_, rfl⟩
  rw [ea0] at k0 bb zz
  have k1 := SBlk.new V0 (snvals x1 y1) 26
  replace k0 := k0.next (.cells (snvals x1 y1) 26)
  replace bb := bb.trans ((below_alloc V0 (.cells (snvals x1 y1) 26)).mono bb.size)
  rw [zz] at k1
  replace zz : (V0.alloc (.cells (snvals x1 y1) 26)).heap.size = w.heap.size + 2 := by simp [zz]
  obtain ⟨V1, ea1⟩ : ∃ W, V0.alloc (.cells (snvals x1 y1) 26) = W := ⟨_, rfl⟩
  rw [ea1] at k0 k1 bb zz
  have Z0 := hide (fun (W : World) (hb : Below w.heap.size w W) (L : Int) (h0 : 0 ≤ L) (h1 : L ≤ 1048576) => szSnap_any x0 y0 L W (SNK.below o0 hb (Nat.le_refl _)) h0 h1)
  have T0 : Hid (SnSm y0 → ∀ W, Below w.heap.size w W → Calls Try.prog 11 #[.agg (snvals x0 y0)] W fun r w' => ∃ e', r = .returned (.agg (snvals e' y0)) ∧ SNK.Ok w' e' y0 ∧ Below W.heap.size W w') := fun m W hb => (toSnap_kd [] x0 y0 W (SNK.below o0 hb (Nat.le_refl _)) m).mono (by rintro r w' ⟨e', d, rfl, h1, h2⟩; exact ⟨e', rfl, SNK.ok h1, h2⟩)
  have Q0 : Hid (SnSm y0 → ∀ (e f : SnS) (W : World), SNK.Ok W e y0 → SNK.Ok W f y0 → Calls Try.prog 13 #[.agg (snvals e y0), .agg (snvals f y0)] W fun r w' => r = .returned (.bool true) ∧ Below W.heap.size W w') := fun m e f W o q => by
    have h := eqSnap_any e f y0 y0 W o q m m
    rw [snSame_self] at h
    exact h
  have S0 := hide (fun (L : Int) (h : 0 ≤ szOf L (snSz y0)) (hL : L ≤ 1048576) => (snSm_of (by have := szOf_ok h; omega) : SnSm y0))
  have HC0 := hide (fun (W : World) (hb : Below V1.heap.size V1 W) => k0.below hb k0.lt)
  have Z1 := hide (fun (W : World) (hb : Below w.heap.size w W) (L : Int) (h0 : 0 ≤ L) (h1 : L ≤ 1048576) => szSnap_any x1 y1 L W (SNK.below o1 hb (Nat.le_refl _)) h0 h1)
  have T1 : Hid (SnSm y1 → ∀ W, Below w.heap.size w W → Calls Try.prog 11 #[.agg (snvals x1 y1)] W fun r w' => ∃ e', r = .returned (.agg (snvals e' y1)) ∧ SNK.Ok w' e' y1 ∧ Below W.heap.size W w') := fun m W hb => (toSnap_kd [] x1 y1 W (SNK.below o1 hb (Nat.le_refl _)) m).mono (by rintro r w' ⟨e', d, rfl, h1, h2⟩; exact ⟨e', rfl, SNK.ok h1, h2⟩)
  have Q1 : Hid (SnSm y1 → ∀ (e f : SnS) (W : World), SNK.Ok W e y1 → SNK.Ok W f y1 → Calls Try.prog 13 #[.agg (snvals e y1), .agg (snvals f y1)] W fun r w' => r = .returned (.bool true) ∧ Below W.heap.size W w') := fun m e f W o q => by
    have h := eqSnap_any e f y1 y1 W o q m m
    rw [snSame_self] at h
    exact h
  have S1 := hide (fun (L : Int) (h : 0 ≤ szOf L (snSz y1)) (hL : L ≤ 1048576) => (snSm_of (by have := szOf_ok h; omega) : SnSm y1))
  have HC1 := hide (fun (W : World) (hb : Below V1.heap.size V1 W) => k1.below hb k1.lt)
  have SPC := hide (fun (m0 : SnSm y0) (m1 : SnSm y1) (f0 : SnS) (f1 : SnS) (W : World) (q0 : SNK.Ok W f0 y0) (q1 : SNK.Ok W f1 y1) => specSameSnaps_k f0 y0 f1 y1 W q0 q1 m0 m1)
  have IMC := hide (fun (m0 : SnSm y0) (m1 : SnSm y1) (f0 : SnS) (f1 : SnS) (W : World) (q0 : SNK.Ok W f0 y0) (q1 : SNK.Ok W f1 y1) => implSameSnaps_k f0 y0 f1 y1 W q0 q1 m0 m1)
  generalize snSame y0 y1 = c at SPC IMC
  have hq : (c != c) = false := by simp
  have hq2 : (c == c) = true := by simp
  have HB0 := hide bb
  have c0_0 := k0.cell 0
  have c0_1 := k0.cell 1
  have c0_2 := k0.cell 2
  have c0_3 := k0.cell 3
  simp only [snvals, List.getElem?_cons_zero, List.getElem?_cons_succ] at c0_0 c0_1 c0_2 c0_3
  have c1_0 := k1.cell 0
  have c1_1 := k1.cell 1
  have c1_2 := k1.cell 2
  have c1_3 := k1.cell 3
  simp only [snvals, List.getElem?_cons_zero, List.getElem?_cons_succ] at c1_0 c1_1 c1_2 c1_3
  have EA0 := hide ea0
  have EA1 := hide ea1
  clear bb zz ea0 ea1 k0 k1 o0 o1
  unfold snvals at EA0 EA1 ⊢
  go_enter Try.func8, Try.ntmps8
  go_upto_region 1 with fail
  rw [unhide EA0, unhide EA1]
  clear EA0 EA1
  have K0 := hide (Below.refl V1.heap.size V1)
  have Z := hide ((unhide Z0) V1 (unhide HB0) 1048576 (by omega) (by omega))
  unfold snvals at Z
  clear Z0
  go_wp2_with fail
  refine (unhide Z).mono ?_
  rintro r w1 ⟨rfl, b1⟩
  have K1 := hide ((unhide K0).trans (b1.mono (unhide K0).size))
  have HB1 := hide ((unhide HB0).trans (b1.mono (unhide HB0).size))
  clear b1 Z K0 HB0 c0_0 c0_1 c0_2 c0_3 c1_0 c1_1 c1_2 c1_3 
  obtain ⟨L1, eL⟩ : ∃ L, L = szOf 1048576 (snSz y0) := ⟨_, rfl⟩
  have HL := hide eL
  rw [← eL]
  clear eL
  by_cases n1 : L1 < 0
  · have hd : decide (L1 < 0) = true := decide_eq_true n1
    go_wp2_with fail
    go_ret
    exact ⟨rfl, unhide HB1⟩
  have M0 := hide ((unhide S0) 1048576 (by rw [← unhide HL]; omega) (by omega))
  have l1 : L1 ≤ 1048576 := by rw [unhide HL]; unfold szOf; split <;> omega
  have hd : decide (L1 < 0) = false := decide_eq_false n1
  clear HL S0
  have c1_0 := ((unhide HC1) w1 (unhide K1)).cell 0
  have c1_1 := ((unhide HC1) w1 (unhide K1)).cell 1
  have c1_2 := ((unhide HC1) w1 (unhide K1)).cell 2
  have c1_3 := ((unhide HC1) w1 (unhide K1)).cell 3
  simp only [snvals, List.getElem?_cons_zero, List.getElem?_cons_succ] at c1_0 c1_1 c1_2 c1_3
  have Z := hide ((unhide Z1) w1 (unhide HB1) L1 (by omega) (by omega))
  unfold snvals at Z
  clear Z1
  go_wp2_with fail
  refine (unhide Z).mono ?_
  rintro r w2 ⟨rfl, b2⟩
  have K2 := hide ((unhide K1).trans (b2.mono (unhide K1).size))
  have HB2 := hide ((unhide HB1).trans (b2.mono (unhide HB1).size))
  clear b2 Z K1 HB1 c1_0 c1_1 c1_2 c1_3 hd
  obtain ⟨L2, eL⟩ : ∃ L, L = szOf L1 (snSz y1) := ⟨_, rfl⟩
  have HL := hide eL
  rw [← eL]
  clear eL
  by_cases n2 : L2 < 0
  · have hd : decide (L2 < 0) = true := decide_eq_true n2
    go_wp2_with fail
    go_ret
    exact ⟨rfl, unhide HB2⟩
  have M1 := hide ((unhide S1) L1 (by rw [← unhide HL]; omega) (by omega))
  have l2 : L2 ≤ 1048576 := by rw [unhide HL]; unfold szOf; split <;> omega
  have hd : decide (L2 < 0) = false := decide_eq_false n2
  clear HL S1
  clear n1 l1 n2 l2
  have HS : Hid (∀ W, Below w2.heap.size w2 W → (fun W => (W.cell? ⟨w.heap.size, 0, none⟩ = some (.int .i64 y0.1) ∧ W.cell? ⟨w.heap.size, 1, none⟩ = some (.slice x0.2.1.a x0.2.1.n x0.2.1.c) ∧ W.cell? ⟨w.heap.size, 2, none⟩ = some (.slice x0.2.2.1.a x0.2.2.1.n x0.2.2.1.c) ∧ W.cell? ⟨w.heap.size, 3, none⟩ = some (.slice x0.2.2.2.a x0.2.2.2.n x0.2.2.2.c)) ∧ (W.cell? ⟨w.heap.size + 1, 0, none⟩ = some (.int .i64 y1.1) ∧ W.cell? ⟨w.heap.size + 1, 1, none⟩ = some (.slice x1.2.1.a x1.2.1.n x1.2.1.c) ∧ W.cell? ⟨w.heap.size + 1, 2, none⟩ = some (.slice x1.2.2.1.a x1.2.2.1.n x1.2.2.1.c) ∧ W.cell? ⟨w.heap.size + 1, 3, none⟩ = some (.slice x1.2.2.2.a x1.2.2.2.n x1.2.2.2.c))) W) := fun W hb => by
    have B := (unhide K2).trans (hb.mono (unhide K2).size)
    exact ⟨⟨((unhide HC0) W B).cell 0, ((unhide HC0) W B).cell 1, ((unhide HC0) W B).cell 2, ((unhide HC0) W B).cell 3⟩, ⟨((unhide HC1) W B).cell 0, ((unhide HC1) W B).cell 1, ((unhide HC1) W B).cell 2, ((unhide HC1) W B).cell 3⟩⟩
  go_wp2_with fail
  go_region_held3 (fun W => (W.cell? ⟨w.heap.size, 0, none⟩ = some (.int .i64 y0.1) ∧ W.cell? ⟨w.heap.size, 1, none⟩ = some (.slice x0.2.1.a x0.2.1.n x0.2.1.c) ∧ W.cell? ⟨w.heap.size, 2, none⟩ = some (.slice x0.2.2.1.a x0.2.2.1.n x0.2.2.1.c) ∧ W.cell? ⟨w.heap.size, 3, none⟩ = some (.slice x0.2.2.2.a x0.2.2.2.n x0.2.2.2.c)) ∧ (W.cell? ⟨w.heap.size + 1, 0, none⟩ = some (.int .i64 y1.1) ∧ W.cell? ⟨w.heap.size + 1, 1, none⟩ = some (.slice x1.2.1.a x1.2.1.n x1.2.1.c) ∧ W.cell? ⟨w.heap.size + 1, 2, none⟩ = some (.slice x1.2.2.1.a x1.2.2.1.n x1.2.2.1.c) ∧ W.cell? ⟨w.heap.size + 1, 3, none⟩ = some (.slice x1.2.2.2.a x1.2.2.2.n x1.2.2.2.c)))
    (exact (unhide HS) _ (by first | assumption | exact (Below.refl w2.heap.size w2).drew | exact below_drewN (Below.refl w2.heap.size w2) _ | exact below_drewN (by assumption) _))
    (first
      | (go_at_call 32; refine ((unhide SPC) (unhide M0) (unhide M1) e0 e1 _ p0 p1).mono ?_; rintro r w3 ⟨rfl, b3⟩; have JJ : Below w2.heap.size w2 w3 := J1.trans (b3.mono J1.size))
      | (go_at_call 11; have J1' := J0; refine ((unhide T1) (unhide M1) _ ((unhide HB2).trans (Below.mono J1' (unhide HB2).size))).mono ?_; rintro r u1 ⟨e1, rfl, p1, b1⟩; have J1 : Below w2.heap.size w2 u1 := Below.trans J1' (b1.mono (by first | exact Nat.le_refl _ | exact (below_drewN (Below.refl w2.heap.size w2) _).size | exact J0.size)); have p0 := SNK.below p0 b1 (Nat.le_refl _); clear b1)
      | (go_at_call 11; refine ((unhide T0) (unhide M0) _ ((unhide HB2).trans (Below.mono (by first | exact (Below.refl w2.heap.size w2).drew | exact below_drewN (Below.refl w2.heap.size w2) _ | exact Below.refl w2.heap.size w2) (unhide HB2).size))).mono ?_; rintro r u0 ⟨e0, rfl, p0, b0⟩; have J0 : Below w2.heap.size w2 u0 := Below.trans (by first | exact (Below.refl w2.heap.size w2).drew | exact below_drewN (Below.refl w2.heap.size w2) _ | exact Below.refl w2.heap.size w2) (b0.mono (by first | exact Nat.le_refl _ | exact (below_drewN (Below.refl w2.heap.size w2) _).size)); clear b0))
  all_goals
    have K3 := hide ((unhide K2).trans (JJ.mono (unhide K2).size))
    have HB3 := hide ((unhide HB2).trans (JJ.mono (unhide HB2).size))
    clear JJ b3 HS K2 HB2 J0 J1 p0 p1
    have c0_0 := ((unhide HC0) w3 (unhide K3)).cell 0
    have c0_1 := ((unhide HC0) w3 (unhide K3)).cell 1
    have c0_2 := ((unhide HC0) w3 (unhide K3)).cell 2
    have c0_3 := ((unhide HC0) w3 (unhide K3)).cell 3
    simp only [snvals, List.getElem?_cons_zero, List.getElem?_cons_succ] at c0_0 c0_1 c0_2 c0_3
    go_wp2_with fail
    refine ((unhide T0) (unhide M0) _ (unhide HB3)).mono ?_
    rintro r u0 ⟨f0, rfl, p0, b0⟩
    have h0 := SBlk.new u0 (snvals f0 y0) 32
    have hb := below_alloc u0 (.cells (snvals f0 y0) 32)
    obtain ⟨w4, ee⟩ : ∃ W, u0.alloc (.cells (snvals f0 y0) 32) = W := ⟨_, rfl⟩
    rw [ee] at h0 hb
    have p0 := SNK.below p0 hb (Nat.le_refl _)
    have bx := b0.trans (hb.mono b0.size)
    have K4 := hide ((unhide K3).trans (bx.mono (unhide K3).size))
    have HB4 := hide ((unhide HB3).trans (bx.mono (unhide HB3).size))
    clear hb bx b0 K3 HB3 c0_0 c0_1 c0_2 c0_3
    unfold snvals at ee ⊢
    go_upto_region 10 with (rw [ee])
    try rw [ee]
    clear ee
    obtain ⟨g0, hg⟩ : ∃ g, g = u0.heap.size := ⟨_, rfl⟩
    rw [← hg] at h0 ⊢
    clear hg
    have c1_0 := ((unhide HC1) w4 (unhide K4)).cell 0
    have c1_1 := ((unhide HC1) w4 (unhide K4)).cell 1
    have c1_2 := ((unhide HC1) w4 (unhide K4)).cell 2
    have c1_3 := ((unhide HC1) w4 (unhide K4)).cell 3
    simp only [snvals, List.getElem?_cons_zero, List.getElem?_cons_succ] at c1_0 c1_1 c1_2 c1_3
    go_wp2_with fail
    refine ((unhide T1) (unhide M1) _ (unhide HB4)).mono ?_
    rintro r u1 ⟨f1, rfl, p1, b1⟩
    have h1 := SBlk.new u1 (snvals f1 y1) 32
    have hb := below_alloc u1 (.cells (snvals f1 y1) 32)
    obtain ⟨w5, ee⟩ : ∃ W, u1.alloc (.cells (snvals f1 y1) 32) = W := ⟨_, rfl⟩
    rw [ee] at h1 hb
    have p1 := SNK.below p1 hb (Nat.le_refl _)
    have bx := b1.trans (hb.mono b1.size)
    have p0 := SNK.below p0 bx (Nat.le_refl _)
    have h0 := h0.below bx h0.lt
    have K5 := hide ((unhide K4).trans (bx.mono (unhide K4).size))
    have HB5 := hide ((unhide HB4).trans (bx.mono (unhide HB4).size))
    clear hb bx b1 K4 HB4 c1_0 c1_1 c1_2 c1_3
    unfold snvals at ee ⊢
    go_upto_region 11 with (rw [ee])
    try rw [ee]
    clear ee
    obtain ⟨g1, hg⟩ : ∃ g, g = u1.heap.size := ⟨_, rfl⟩
    rw [← hg] at h1 ⊢
    clear hg
    have d0_0 := h0.cell 0
    have d0_1 := h0.cell 1
    have d0_2 := h0.cell 2
    have d0_3 := h0.cell 3
    simp only [snvals, List.getElem?_cons_zero, List.getElem?_cons_succ] at d0_0 d0_1 d0_2 d0_3
    have d1_0 := h1.cell 0
    have d1_1 := h1.cell 1
    have d1_2 := h1.cell 2
    have d1_3 := h1.cell 3
    simp only [snvals, List.getElem?_cons_zero, List.getElem?_cons_succ] at d1_0 d1_1 d1_2 d1_3
    go_wp2_with fail
    refine ((unhide IMC) (unhide M0) (unhide M1) f0 f1 _ p0 p1).mono ?_
    rintro r w6 ⟨rfl, bx⟩
    have K6 := hide ((unhide K5).trans (bx.mono (unhide K5).size))
    have HB6 := hide ((unhide HB5).trans (bx.mono (unhide HB5).size))
    have P0 := hide (SNK.below p0 bx (Nat.le_refl _))
    have H0 := hide (h0.below bx h0.lt)
    have P1 := hide (SNK.below p1 bx (Nat.le_refl _))
    have H1 := hide (h1.below bx h1.lt)
    clear bx K5 HB5 SPC IMC p0 p1 h0 h1 d0_0 d0_1 d0_2 d0_3 d1_0 d1_1 d1_2 d1_3
    have HS : Hid (∀ W, Below w6.heap.size w6 W → (fun W => (W.cell? ⟨g0, 0, none⟩ = some (.int .i64 y0.1) ∧ W.cell? ⟨g0, 1, none⟩ = some (.slice f0.2.1.a f0.2.1.n f0.2.1.c) ∧ W.cell? ⟨g0, 2, none⟩ = some (.slice f0.2.2.1.a f0.2.2.1.n f0.2.2.1.c) ∧ W.cell? ⟨g0, 3, none⟩ = some (.slice f0.2.2.2.a f0.2.2.2.n f0.2.2.2.c)) ∧ (W.cell? ⟨w.heap.size, 0, none⟩ = some (.int .i64 y0.1) ∧ W.cell? ⟨w.heap.size, 1, none⟩ = some (.slice x0.2.1.a x0.2.1.n x0.2.1.c) ∧ W.cell? ⟨w.heap.size, 2, none⟩ = some (.slice x0.2.2.1.a x0.2.2.1.n x0.2.2.1.c) ∧ W.cell? ⟨w.heap.size, 3, none⟩ = some (.slice x0.2.2.2.a x0.2.2.2.n x0.2.2.2.c))) W) := fun W hb => by
      have B := (unhide K6).trans (hb.mono (unhide K6).size)
      have h := (unhide H0).below hb (unhide H0).lt
      have h' := (unhide HC0) W B
      exact ⟨⟨h.cell 0, h.cell 1, h.cell 2, h.cell 3⟩, ⟨h'.cell 0, h'.cell 1, h'.cell 2, h'.cell 3⟩⟩
    go_wp2_with fail
    go_region_held3 (fun W => (W.cell? ⟨g0, 0, none⟩ = some (.int .i64 y0.1) ∧ W.cell? ⟨g0, 1, none⟩ = some (.slice f0.2.1.a f0.2.1.n f0.2.1.c) ∧ W.cell? ⟨g0, 2, none⟩ = some (.slice f0.2.2.1.a f0.2.2.1.n f0.2.2.1.c) ∧ W.cell? ⟨g0, 3, none⟩ = some (.slice f0.2.2.2.a f0.2.2.2.n f0.2.2.2.c)) ∧ (W.cell? ⟨w.heap.size, 0, none⟩ = some (.int .i64 y0.1) ∧ W.cell? ⟨w.heap.size, 1, none⟩ = some (.slice x0.2.1.a x0.2.1.n x0.2.1.c) ∧ W.cell? ⟨w.heap.size, 2, none⟩ = some (.slice x0.2.2.1.a x0.2.2.1.n x0.2.2.1.c) ∧ W.cell? ⟨w.heap.size, 3, none⟩ = some (.slice x0.2.2.2.a x0.2.2.2.n x0.2.2.2.c)))
      (exact (unhide HS) _ (by first | assumption | exact (Below.refl w6.heap.size w6).drew | exact below_drewN (Below.refl w6.heap.size w6) _ | exact below_drewN (by assumption) _))
      (first
        | (go_at_call 13; refine ((unhide Q0) (unhide M0) f0 e0 _ (SNK.below (unhide P0) J1 (Nat.le_refl _)) p1).mono ?_; rintro r w7 ⟨rfl, b2⟩; have JJ : Below w6.heap.size w6 w7 := J1.trans (b2.mono J1.size); clear b2)
        | (go_at_call 11; refine ((unhide T0) (unhide M0) _ ((unhide HB6).trans (Below.mono (by first | exact (Below.refl w6.heap.size w6).drew | exact below_drewN (Below.refl w6.heap.size w6) _ | exact Below.refl w6.heap.size w6) (unhide HB6).size))).mono ?_; rintro r u1 ⟨e0, rfl, p1, b1⟩; have J1 : Below w6.heap.size w6 u1 := Below.trans (by first | exact (Below.refl w6.heap.size w6).drew | exact below_drewN (Below.refl w6.heap.size w6) _ | exact Below.refl w6.heap.size w6) (b1.mono (by first | exact Nat.le_refl _ | exact (below_drewN (Below.refl w6.heap.size w6) _).size)); clear b1))
    all_goals
      have K7 := hide ((unhide K6).trans (JJ.mono (unhide K6).size))
      have HB7 := hide ((unhide HB6).trans (JJ.mono (unhide HB6).size))
      have P1 := hide (SNK.below (unhide P1) JJ (Nat.le_refl _))
      have H1 := hide ((unhide H1).below JJ (unhide H1).lt)
      clear JJ J1 p1 HS K6 HB6 P0 H0
      have HS : Hid (∀ W, Below w7.heap.size w7 W → (fun W => (W.cell? ⟨g1, 0, none⟩ = some (.int .i64 y1.1) ∧ W.cell? ⟨g1, 1, none⟩ = some (.slice f1.2.1.a f1.2.1.n f1.2.1.c) ∧ W.cell? ⟨g1, 2, none⟩ = some (.slice f1.2.2.1.a f1.2.2.1.n f1.2.2.1.c) ∧ W.cell? ⟨g1, 3, none⟩ = some (.slice f1.2.2.2.a f1.2.2.2.n f1.2.2.2.c)) ∧ (W.cell? ⟨w.heap.size + 1, 0, none⟩ = some (.int .i64 y1.1) ∧ W.cell? ⟨w.heap.size + 1, 1, none⟩ = some (.slice x1.2.1.a x1.2.1.n x1.2.1.c) ∧ W.cell? ⟨w.heap.size + 1, 2, none⟩ = some (.slice x1.2.2.1.a x1.2.2.1.n x1.2.2.1.c) ∧ W.cell? ⟨w.heap.size + 1, 3, none⟩ = some (.slice x1.2.2.2.a x1.2.2.2.n x1.2.2.2.c))) W) := fun W hb => by
        have B := (unhide K7).trans (hb.mono (unhide K7).size)
        have h := (unhide H1).below hb (unhide H1).lt
        have h' := (unhide HC1) W B
        exact ⟨⟨h.cell 0, h.cell 1, h.cell 2, h.cell 3⟩, ⟨h'.cell 0, h'.cell 1, h'.cell 2, h'.cell 3⟩⟩
      go_wp2_with fail
      go_region_held3 (fun W => (W.cell? ⟨g1, 0, none⟩ = some (.int .i64 y1.1) ∧ W.cell? ⟨g1, 1, none⟩ = some (.slice f1.2.1.a f1.2.1.n f1.2.1.c) ∧ W.cell? ⟨g1, 2, none⟩ = some (.slice f1.2.2.1.a f1.2.2.1.n f1.2.2.1.c) ∧ W.cell? ⟨g1, 3, none⟩ = some (.slice f1.2.2.2.a f1.2.2.2.n f1.2.2.2.c)) ∧ (W.cell? ⟨w.heap.size + 1, 0, none⟩ = some (.int .i64 y1.1) ∧ W.cell? ⟨w.heap.size + 1, 1, none⟩ = some (.slice x1.2.1.a x1.2.1.n x1.2.1.c) ∧ W.cell? ⟨w.heap.size + 1, 2, none⟩ = some (.slice x1.2.2.1.a x1.2.2.1.n x1.2.2.1.c) ∧ W.cell? ⟨w.heap.size + 1, 3, none⟩ = some (.slice x1.2.2.2.a x1.2.2.2.n x1.2.2.2.c)))
        (exact (unhide HS) _ (by first | assumption | exact (Below.refl w7.heap.size w7).drew | exact below_drewN (Below.refl w7.heap.size w7) _ | exact below_drewN (by assumption) _))
        (first
          | (go_at_call 13; refine ((unhide Q1) (unhide M1) f1 e1 _ (SNK.below (unhide P1) J1 (Nat.le_refl _)) p1).mono ?_; rintro r w8 ⟨rfl, b2⟩; have JJ : Below w7.heap.size w7 w8 := J1.trans (b2.mono J1.size); clear b2)
          | (go_at_call 11; refine ((unhide T1) (unhide M1) _ ((unhide HB7).trans (Below.mono (by first | exact (Below.refl w7.heap.size w7).drew | exact below_drewN (Below.refl w7.heap.size w7) _ | exact Below.refl w7.heap.size w7) (unhide HB7).size))).mono ?_; rintro r u1 ⟨e1, rfl, p1, b1⟩; have J1 : Below w7.heap.size w7 u1 := Below.trans (by first | exact (Below.refl w7.heap.size w7).drew | exact below_drewN (Below.refl w7.heap.size w7) _ | exact Below.refl w7.heap.size w7) (b1.mono (by first | exact Nat.le_refl _ | exact (below_drewN (Below.refl w7.heap.size w7) _).size)); clear b1))
      all_goals
        have K8 := hide ((unhide K7).trans (JJ.mono (unhide K7).size))
        have HB8 := hide ((unhide HB7).trans (JJ.mono (unhide HB7).size))
        clear JJ J1 p1 HS K7 HB7 P1 H1
        go_wp2_with fail
        go_ret
        exact ⟨rfl, unhide HB8⟩

/-! The row's step. -/
set_option maxRecDepth 100000 in
theorem lifted (os : Os) (started : os.Started) (H : Type) (enc : TypeId × Value → H) :
    ReturnsInHanded {} Try.checked os 8 .any (Rows.fnExactSameSnapsSpec.pre6 enc Try.prog Try.f8 Rows.fnExactSameSnapsRow.domain false) (Rows.fnExactSameSnapsSpec.post enc Try.prog Try.f8 false true false false) := by
  refine returnsInHanded_of_change (C := Try.checked) own started (by kernel_rfl) Try.func8
    (ChangeSpec.witness6 (enc := enc) (C := Try.checked) false ⟨#[], #[.agg #[.int .i64 0, .slice none 0 0, .slice none 0 0, .slice none 0 0], .agg #[.int .i64 0, .slice none 0 0, .slice none 0 0, .slice none 0 0]], []⟩ 8 (by kernel_rfl) (by kernel_rfl) (by kernel_rfl) (by kernel_rfl)) ?_
  intro W base args ds gs before hval0 hW hcnd _
  have hval : ∀ (j : Nat) t v, Try.f8.params[j]? = some t → args[j]? = some v → Value.okWide Try.prog W .any base t v := hval0
  have hW' := hW
  obtain ⟨p, q, hA0, hV, rfl, hfz, hnd⟩ := hW
  have hA : DataW.TrodAll enc Try.prog W 0 (fun _ => true) true Try.f8.params.toList args.toList ds p := hA0
  rw [Try.params8] at hA hval
  obtain ⟨v0, vs0, d0, ds0, p0, q0, hargs, rfl, rfl, h0, r0⟩ := trodAll_cons hA
  obtain ⟨v1, vs1, d1, ds1, p1, q1, rfl, rfl, rfl, h1, r1⟩ := trodAll_cons r0
  obtain ⟨rfl, rfl, rfl⟩ := trodAll_nil r1
  obtain rfl : args = #[v0, v1] := by cases args; simp_all
  obtain ⟨rfl, rfl⟩ := trodVars_none hV
  have k0 := h0
  have lt0 : ∀ x ∈ p0, x.block < W.heap.size := by obtain ⟨m, hm⟩ := k0; exact DataW.trod_lt m _ _ _ hm
  obtain ⟨x0, y0, rfl, o0⟩ := open_snap (okWide_struct Try.underlying26 (hval 0 26 v0 rfl rfl)) h0
  have k1 := h1
  have lt1 : ∀ x ∈ p1, x.block < W.heap.size := by obtain ⟨m, hm⟩ := k1; exact DataW.trod_lt m _ _ _ hm
  obtain ⟨x1, y1, rfl, o1⟩ := open_snap (okWide_struct Try.underlying26 (hval 1 26 v1 rfl rfl)) h1
  clear hA0 hval0
  refine (walk x0 y0 x1 y1 W o0 o1).mono fun e W' ⟨he, bel⟩ => ?_
  subst he
  exact ⟨_, rfl, _, _, _, [], _, [], hW', trodAll_mk1 (shut_bool Try.underlying4 _), (trodAll_cons_mk (Below.trod laidOut (by kernel_rfl) (of_decide_eq_true (by kernel_rfl)) k0 bel lt0) (trodAll_cons_mk (Below.trod laidOut (by kernel_rfl) (of_decide_eq_true (by kernel_rfl)) k1 bel lt1) trodAll_mk0)), rfl, bel.frame _, fun h => by cases h⟩

theorem over : Rows.fnExactSameSnapsRow.holds Try.pinned (OpenSpec.ofChange Rows.fnExactSameSnapsSpec) :=
  OpenClaim.holds_of_wide 8 Try.f8 rfl rfl rfl rfl rfl rfl rfl ⟨rfl, rfl, rfl, rfl, rfl⟩ rfl rfl rfl rfl rfl (by kernel_rfl) Try.func8 (by kernel_rfl)
    (of_decide_eq_true (by kernel_rfl)) (by unfold Func.isWrapper; first | (rw [if_pos (by decide +kernel)]; kernel_rfl) | (rw [if_neg (by decide +kernel)]; exact ⟨rfl, rfl⟩))
    (fun os started H enc _ => lifted os started H enc)

/-- The statement. -/
theorem proved : Rows.FnExactSameSnapsSaid := over
#print axioms proved
end Go.Proofs.Ytalkhlimkanlcaa.fnExactSameSnaps
