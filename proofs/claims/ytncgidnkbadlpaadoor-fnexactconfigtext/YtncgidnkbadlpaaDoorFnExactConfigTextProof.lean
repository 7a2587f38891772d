/- Proved: for every setting the law FnExactConfigText returns true and changes no argument. Conditions: the three variables hold what the program's text lays. -/
import Derived.Test.YtncgidnkbadlpaaDoorRows
import Derived.Test.YtncgidnkbadlpaaDoorTie
import Derived.Test.YtncgidnkbadlpaaDoorCards
import Derived.Test.YtncgidnkbadlpaaDoorJ4
import Derived.WalkSmall
import Derived.Test.YtncgidnkbadlpaaDoorJ3
import Derived.WalkKit
import Derived.ProofKit
import Derived.OpenShut
import Derived.ShutString
import Derived.ChangeOld
import Derived.Below
import Derived.OpenVars
import Derived.LaidMore
import Derived.Stop.Joined
import Derived.SevenTiedAt
namespace Go.Proofs.YtncgidnkbadlpaaDoor.fnExactConfigText
open Go.ChangeShapes Go.WideShapes Go.ChangeAt Go.RowKit
set_option linter.unusedVariables false

theorem own : ownKnob Tryd.prog.godebug = none := by kernel_rfl
theorem laidOut : laidOutB Tryd.prog = true := by kernel_rfl

/-! The walk: the Go text returns true, and writes nothing that was there. -/
set_option maxRecDepth 100000 in
set_option maxHeartbeats 2000000 in
theorem walk (x0 : Cf) (w : World)  (VV : Tab w) :
    Calls Tryd.prog 3 #[.agg (cfvals x0)] w fun e w' => e = .returned (.bool true) ∧ Below w.heap.size w w' := by
  have T0 := hide (fun W => toConfig_any x0 W)
  have SP := hide (fun W => specConfigText_any x0 W)
  have IM := hide (fun W (ht : Tab W) => implConfigText_any x0 W ht)
  have HV := hide VV
  clear VV
  generalize cfFlt x0 = c at SP IM
  generalize cfTxt x0 = t at SP IM
  have bb := hide (below_alloc w (.cells (cfvals x0) 23))
  have kb := SBlk.new w (cfvals x0) 23
  obtain ⟨W0, e0⟩ : ∃ W, w.alloc (.cells (cfvals x0) 23) = W := ⟨_, rfl⟩
  rw [e0] at bb kb
  have HK := hide (fun (W : World) (hb : Below W0.heap.size W0 W) => kb.below hb kb.lt)
  have c0 := kb.cell 0
  have c1 := kb.cell 1
  have c2 := kb.cell 2
  simp only [cfvals, List.getElem?_cons_zero, List.getElem?_cons_succ] at c0 c1 c2
  clear kb
  unfold cfvals at e0 T0 SP IM ⊢
  go_enter Tryd.func3, Tryd.ntmps3
  go_wp2_with (rw [e0])
  try rw [e0]
  clear e0
  refine ((unhide T0) _).mono ?_
  rintro e w1 ⟨rfl, b1⟩
  go_wp2_with fail
  refine ((unhide SP) _).mono ?_
  rintro e w2 ⟨rfl, b2⟩
  obtain ⟨k3, s3, p0, p1⟩ := new2 w2 (.int .i64 c) (.string t) 25
  have HE3 : Hid (∃ W, w2.alloc (Obj.cells #[Value.int IntKind.i64 c, Value.string t] 25) = W) := ⟨_, rfl⟩
  obtain ⟨w3, e3⟩ := unhide HE3
  rw [e3] at k3 s3 p0 p1
  have b12 := b1.trans (b2.mono b1.size)
  have B3 := hide (b12.trans (k3.mono b12.size))
  have c0 := ((unhide HK) _ (unhide B3)).cell 0
  have c1 := ((unhide HK) _ (unhide B3)).cell 1
  have c2 := ((unhide HK) _ (unhide B3)).cell 2
  simp only [cfvals, List.getElem?_cons_zero, List.getElem?_cons_succ] at c0 c1 c2
  clear b1 b2 b12 HE3
  go_wp2_with (rw [e3])
  try rw [e3]
  clear e3
  refine ((unhide T0) _).mono ?_
  rintro e w4 ⟨rfl, b4⟩
  have B4 := hide ((unhide B3).trans (b4.mono (unhide B3).size))
  go_wp2_with fail
  refine ((unhide IM) _ ((unhide HV).below ((unhide bb).trans ((unhide B4).mono (unhide bb).size)) (Nat.le_refl _))).mono ?_
  rintro e w5 ⟨rfl, b5⟩
  have b45 := b4.trans (b5.mono b4.size)
  have B5 := hide ((unhide B4).trans (b5.mono (unhide B4).size))
  have p0' : ∀ o, (w5.alloc o).cell? ⟨w2.heap.size, 0, none⟩ = some (.int .i64 c) := fun o => ((below_alloc w5 o).cell (Nat.lt_of_lt_of_le s3 b45.size)).trans ((b45.cell s3).trans p0)
  have p1' : ∀ o, (w5.alloc o).cell? ⟨w2.heap.size, 1, none⟩ = some (.string t) := fun o => ((below_alloc w5 o).cell (Nat.lt_of_lt_of_le s3 b45.size)).trans ((b45.cell s3).trans p1)
  clear b4 b5 b45
  go_wp2_with fail
  refine (eqText_same c t _).mono ?_
  rintro e w6 ⟨rfl, b6⟩
  go_wp2_with fail
  go_ret
  have B6 := (unhide B5).alloc (unhide B5).size (Obj.cells #[Value.int IntKind.i64 c, Value.string t] 25)
  have B7 := B6.trans (b6.mono B6.size)
  exact ⟨rfl, (unhide bb).trans (B7.mono (unhide bb).size)⟩

/-! The row's step. -/
set_option maxRecDepth 100000 in
theorem lifted (os : Os) (started : os.Started) (H : Type) (enc : TypeId × Value → H) :
    ReturnsInHanded {} Tryd.checked os 3 .any (fun w args => (Rows.fnExactConfigTextSpec.pre enc Tryd.prog Tryd.f3 [] false w args ∧ laidMetH Tryd.prog laid3c w) ∧ sizedMet enc Tryd.prog Tryd.f3 (OpenSpec.ofChange Rows.fnExactConfigTextSpec) false w args)
      (Rows.fnExactConfigTextSpec.post enc Tryd.prog Tryd.f3 false true false false) := by
  refine returnsInHanded_of_change_and (C := Tryd.checked) (X := fun w _ => laidMetH Tryd.prog laid3c w) (fun _ _ _ hh h => h.of_heap hh) own started (by kernel_rfl) Tryd.func3
    (ChangeSpec.witness_shaped (enc := enc) (C := Tryd.checked) (os := os) (X := fun w _ => laidMetH Tryd.prog laid3c w) false (World.doorLaid Tryd.prog 400 os) #[.agg #[.int .i64 0, .int .i64 0, .int .i64 0]] 8 rfl (World.shaped_of_RefB (by kernel_rfl) (by kernel_rfl)) (by kernel_rfl) (by kernel_rfl) (by kernel_rfl) (door_met3c os _)) ?_
  intro W base args ds gs before hval0 hW _ _ hL _
  have hval : ∀ (j : Nat) t v, Tryd.f3.params[j]? = some t → args[j]? = some v → Value.okWide Tryd.prog W .any base t v := hval0
  have hW' := hW
  obtain ⟨p, q, hA0, hV, rfl, hfz, hnd⟩ := hW
  have hA : DataW.TrodAll enc Tryd.prog W 0 (fun _ => true) true Tryd.f3.params.toList args.toList ds p := hA0
  rw [Tryd.params3] at hA hval
  obtain ⟨v0, vs0, d0, ds0, p0, q0, hargs, rfl, rfl, h0, r0⟩ := trodAll_cons hA
  obtain ⟨rfl, rfl, rfl⟩ := trodAll_nil r0
  obtain rfl : args = #[v0] := by cases args; simp_all
  obtain ⟨rfl, rfl⟩ := trodVars_none hV
  have k0 := h0
  have lt0 : ∀ x ∈ p0, x.block < W.heap.size := by obtain ⟨m, hm⟩ := k0; exact DataW.trod_lt m _ _ _ hm
  obtain ⟨x0, rfl⟩ := open_config (okWide_struct Tryd.underlying23 (hval 0 23 v0 rfl rfl)) h0
  clear hA0 hval0
  refine (walk x0 W  (of_laid3c hL)).mono fun e W' ⟨he, bel⟩ => ?_
  subst he
  exact ⟨_, rfl, _, _, _, [], _, [], hW', trodAll_mk1 (shut_bool Tryd.underlying4 _), (trodAll_cons_mk (Below.trod laidOut (by kernel_rfl) (of_decide_eq_true (by kernel_rfl)) k0 bel lt0) trodAll_mk0), rfl, bel.frame _, fun h => by cases h⟩

theorem over : Rows.FnExactConfigTextSaid :=
  OpenClaim.holds_of_wide 3 Tryd.f3 rfl rfl rfl rfl rfl rfl rfl ⟨rfl, rfl, rfl, rfl, rfl⟩ rfl rfl rfl rfl rfl (by kernel_rfl) Tryd.func3 (by kernel_rfl)
    (of_decide_eq_true (by kernel_rfl)) (by unfold Func.isWrapper; first | (rw [if_pos (by decide +kernel)]; kernel_rfl) | (rw [if_neg (by decide +kernel)]; exact ⟨rfl, rfl⟩))
    (fun os started H enc _ => lifted os started H enc)

/-- The statement: the tied card. -/
theorem proved : Rows.FnExactConfigTextCardSaid :=
  Claim7.holds_tied_plain_at .later [] [.data, .data, .data] true (true, "60d75c508c54444036f4949dfb0694dfbc6fc92830cd679bdc5ffc16f13dab5f") true
    over (fun _ h => by cases h) (by kernel_rfl) (fun _ h => by cases h) fnExactConfigText_row_tie rfl ⟨rfl, rfl⟩ (by kernel_rfl) rfl
    (fun f fn hf hfn => by
      obtain rfl : f = 3 := Option.some.inj ((show Tryd.prog.funcNamed "loop.example/g00383/laws.FnExactConfigText" = some 3 by kernel_rfl).symm.trans hf) |>.symm
      obtain rfl : fn = Tryd.f3 := (Option.some.inj (Tryd.func3.symm.trans hfn)).symm
      exact ⟨by kernel_rfl, fun j t ht => by
        rw [Tryd.params3] at ht
        have hm : t ∈ [23] := by simpa using Array.mem_of_getElem? ht
        have hall : ([23].all fun u => !Tryd.prog.wantsStandIn u) = true := by kernel_rfl
        exact (show Tryd.prog.wantsStandIn t = false by simpa using List.all_eq_true.1 hall t hm)⟩)
    (by kernel_rfl)
#print axioms proved
end Go.Proofs.YtncgidnkbadlpaaDoor.fnExactConfigText
