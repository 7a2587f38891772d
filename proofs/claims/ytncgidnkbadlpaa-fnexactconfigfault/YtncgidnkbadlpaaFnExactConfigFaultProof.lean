/- Proved: for every setting the law FnExactConfigFault returns true and changes no argument. Conditions: none. -/
import Derived.Test.YtncgidnkbadlpaaRows
import Derived.Test.YtncgidnkbadlpaaJ4
import Derived.WalkSmall
import Derived.WalkKit
import Derived.ProofKit
import Derived.OpenShut
import Derived.ShutString
import Derived.ChangeOld
import Derived.Below
namespace Go.Proofs.Ytncgidnkbadlpaa.fnExactConfigFault
open Go.ChangeShapes Go.WideShapes Go.ChangeAt Go.RowKit
set_option linter.unusedVariables false

theorem own : ownKnob Try.prog.godebug = none := by kernel_rfl
theorem laidOut : laidOutB Try.prog = true := by kernel_rfl

/-! The walk: the Go text returns true, and writes nothing that was there. -/
set_option maxHeartbeats 2000000 in
theorem walk (x0 : Cf) (w : World)  :
    Calls Try.prog 3 #[.agg (cfvals x0)] w fun e w' => e = .returned (.bool true) ∧ Below w.heap.size w w' := by
  have T0 := hide (fun W => toConfig_any x0 W)
  have SP := hide (fun W => specConfigFault_any x0 W)
  have IM := hide (fun W => implConfigFault_any x0 W)
  generalize cfFlt x0 = c at SP IM
  have bb := hide (below_alloc w (.cells (cfvals x0) 23))
  have kb := SBlk.new w (cfvals x0) 23
  obtain ⟨W0, e0⟩ : ∃ W, w.alloc (.cells (cfvals x0) 23) = W := ⟨_, rfl⟩
  rw [e0] at bb kb
  have HK := hide (fun (W : World) (hb : Below W0.heap.size W0 W) => kb.below hb kb.lt)
  have c0 := kb.cell 0
  have c1 := kb.cell 1
  have c2 := kb.cell 2
  simp only [cfvals, List.getElem?_cons_zero, List.getElem?_cons_succ] at c0 c1 c2
  clear kb
  unfold cfvals at e0 T0 SP IM ⊢
  go_enter Try.func3, Try.ntmps3
  go_wp2_with (rw [e0])
  try rw [e0]
  clear e0
  refine ((unhide T0) _).mono ?_
  rintro e w1 ⟨rfl, b1⟩
  go_wp2_with fail
  refine ((unhide SP) _).mono ?_
  rintro e w2 ⟨rfl, b2⟩
  have B2 := hide (b1.trans (b2.mono b1.size))
  have c0 := ((unhide HK) _ (unhide B2)).cell 0
  have c1 := ((unhide HK) _ (unhide B2)).cell 1
  have c2 := ((unhide HK) _ (unhide B2)).cell 2
  simp only [cfvals, List.getElem?_cons_zero, List.getElem?_cons_succ] at c0 c1 c2
  clear b1 b2
  go_wp2_with fail
  refine ((unhide T0) _).mono ?_
  rintro e w3 ⟨rfl, b3⟩
  go_wp2_with fail
  refine ((unhide IM) _).mono ?_
  rintro e w4 ⟨rfl, b4⟩
  have hq : (c != c) = false := by simp
  go_wp2_with fail
  go_ret
  have B4 := (unhide B2).trans ((b3.trans (b4.mono b3.size)).mono (unhide B2).size)
  exact ⟨rfl, (unhide bb).trans (B4.mono (unhide bb).size)⟩

/-! The row's step. -/
set_option maxRecDepth 100000 in
theorem lifted (os : Os) (started : os.Started) (H : Type) (enc : TypeId × Value → H) :
    ReturnsInHanded {} Try.checked os 3 .any (Rows.fnExactConfigFaultSpec.pre6 enc Try.prog Try.f3 Rows.fnExactConfigFaultRow.domain false) (Rows.fnExactConfigFaultSpec.post enc Try.prog Try.f3 false true false false) := by
  refine returnsInHanded_of_change (C := Try.checked) own started (by kernel_rfl) Try.func3
    (ChangeSpec.witness6 (enc := enc) (C := Try.checked) false ⟨#[], #[.agg #[.int .i64 0, .int .i64 0, .int .i64 0]], []⟩ 8 (by kernel_rfl) (by kernel_rfl) (by kernel_rfl) (by kernel_rfl)) ?_
  intro W base args ds gs before hval0 hW hcnd _
  have hval : ∀ (j : Nat) t v, Try.f3.params[j]? = some t → args[j]? = some v → Value.okWide Try.prog W .any base t v := hval0
  have hW' := hW
  obtain ⟨p, q, hA0, hV, rfl, hfz, hnd⟩ := hW
  have hA : DataW.TrodAll enc Try.prog W 0 (fun _ => true) true Try.f3.params.toList args.toList ds p := hA0
  rw [Try.params3] at hA hval
  obtain ⟨v0, vs0, d0, ds0, p0, q0, hargs, rfl, rfl, h0, r0⟩ := trodAll_cons hA
  obtain ⟨rfl, rfl, rfl⟩ := trodAll_nil r0
  obtain rfl : args = #[v0] := by cases args; simp_all
  obtain ⟨rfl, rfl⟩ := trodVars_none hV
  have k0 := h0
  have lt0 : ∀ x ∈ p0, x.block < W.heap.size := by obtain ⟨m, hm⟩ := k0; exact DataW.trod_lt m _ _ _ hm
  obtain ⟨x0, rfl⟩ := open_config (okWide_struct Try.underlying23 (hval 0 23 v0 rfl rfl)) h0
  clear hA0 hval0
  refine (walk x0 W ).mono fun e W' ⟨he, bel⟩ => ?_
  subst he
  exact ⟨_, rfl, _, _, _, [], _, [], hW', trodAll_mk1 (shut_bool Try.underlying4 _), (trodAll_cons_mk (Below.trod laidOut (by kernel_rfl) (of_decide_eq_true (by kernel_rfl)) k0 bel lt0) trodAll_mk0), rfl, bel.frame _, fun h => by cases h⟩

theorem over : Rows.fnExactConfigFaultRow.holds Try.pinned (OpenSpec.ofChange Rows.fnExactConfigFaultSpec) :=
  OpenClaim.holds_of_wide 3 Try.f3 rfl rfl rfl rfl rfl rfl rfl ⟨rfl, rfl, rfl, rfl, rfl⟩ rfl rfl rfl rfl rfl (by kernel_rfl) Try.func3 (by kernel_rfl)
    (of_decide_eq_true (by kernel_rfl)) (by unfold Func.isWrapper; first | (rw [if_pos (by decide +kernel)]; kernel_rfl) | (rw [if_neg (by decide +kernel)]; exact ⟨rfl, rfl⟩))
    (fun os started H enc _ => lifted os started H enc)

/-- The statement. -/
theorem proved : Rows.FnExactConfigFaultSaid := over
#print axioms proved
end Go.Proofs.Ytncgidnkbadlpaa.fnExactConfigFault
