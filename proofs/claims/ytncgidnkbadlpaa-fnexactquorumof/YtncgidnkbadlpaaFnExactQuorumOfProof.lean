/- Proved: for every number the law FnExactQuorumOf returns true. Conditions: none. -/
import Derived.Test.YtncgidnkbadlpaaRows
import Derived.Test.YtncgidnkbadlpaaJ3
import Derived.WalkSmall
import Derived.WalkKit
import Derived.ProofKit
import Derived.Below
import Derived.ChangeOld
import Derived.OpenShut
import Derived.ShutString
namespace Go.Proofs.Ytncgidnkbadlpaa.fnExactQuorumOf
open Go.ChangeShapes Go.WideShapes Go.ChangeAt Go.RowKit
open Go.ChangeMaps (open_string shut_string)
set_option linter.unusedVariables false

theorem own : ownKnob Try.prog.godebug = none := by kernel_rfl

/-! The walk: the Go text returns true, and writes nothing that was there. -/
set_option maxHeartbeats 2000000 in
theorem walk (a0 : Int) (w0 : (Lit.int .i64 a0).wf = true) (w : World) :
    Calls Try.prog 4 #[.int .i64 a0] w fun e w' => e = .returned (.bool true) ∧ Below w.heap.size w w' := by
  have SP := hide (fun W => specQuorum_any a0 W)
  have IM := hide (fun W => implQuorum_any a0 W)
  generalize qmCode a0 = c at SP IM
  generalize qmVal a0 = v at SP IM
  clear w0
  go_enter Try.func4, Try.ntmps4
  go_wp2_with fail
  refine ((unhide SP) _).mono ?_
  rintro e w1 ⟨rfl, b1⟩
  go_wp2_with fail
  obtain ⟨k2, s2, p0, p1⟩ := new2 w1 (.int .i64 c) (.int .i64 v) 29
  generalize w1.alloc (Obj.cells #[Value.int IntKind.i64 c, Value.int IntKind.i64 v] 29) = w2 at k2 s2 p0 p1
  have B2 := b1.trans (k2.mono b1.size)
  refine ((unhide IM) _).mono ?_
  rintro e w3 ⟨rfl, b3⟩
  have p0' : ∀ o, (w3.alloc o).cell? ⟨w1.heap.size, 0, none⟩ = some (.int .i64 c) := fun o => ((below_alloc w3 o).cell (Nat.lt_of_lt_of_le s2 b3.size)).trans ((b3.cell s2).trans p0)
  have p1' : ∀ o, (w3.alloc o).cell? ⟨w1.heap.size, 1, none⟩ = some (.int .i64 v) := fun o => ((below_alloc w3 o).cell (Nat.lt_of_lt_of_le s2 b3.size)).trans ((b3.cell s2).trans p1)
  have B3 := B2.trans (b3.mono B2.size)
  go_wp2_with fail
  refine (eqInt_same c v _).mono ?_
  rintro e w4 ⟨rfl, b4⟩
  go_wp2_with fail
  go_ret
  have B4 := B3.alloc B3.size (Obj.cells #[Value.int IntKind.i64 c, Value.int IntKind.i64 v] 29)
  exact ⟨rfl, B4.trans (b4.mono B4.size)⟩

/-! The row's step. -/
set_option maxRecDepth 100000 in
theorem lifted (os : Os) (started : os.Started) (H : Type) (enc : TypeId × Value → H) :
    ReturnsInHanded {} Try.checked os 4 .any (Rows.fnExactQuorumOfSpec.pre6 enc Try.prog Try.f4 Rows.fnExactQuorumOfRow.domain false) (Rows.fnExactQuorumOfSpec.post enc Try.prog Try.f4 false true false false) := by
  refine returnsInHanded_of_change (C := Try.checked) own started (by kernel_rfl) Try.func4
    (ChangeSpec.witness6 (enc := enc) (C := Try.checked) false ⟨#[], #[.int .i64 0], []⟩ 8 (by kernel_rfl) (by kernel_rfl) (by kernel_rfl) (by kernel_rfl)) ?_
  intro W base args ds gs before hval0 hW hcnd _
  have hval : ∀ (j : Nat) t v, Try.f4.params[j]? = some t → args[j]? = some v → Value.okWide Try.prog W .any base t v := hval0
  have hW' := hW
  obtain ⟨p, q, hA0, hV, rfl, hfz, hnd⟩ := hW
  have hA : DataW.TrodAll enc Try.prog W 0 (fun _ => true) true Try.f4.params.toList args.toList ds p := hA0
  rw [Try.params4] at hA hval
  obtain ⟨v0, vs0, d0, ds0, p0, q0, hargs, rfl, rfl, h0, r0⟩ := trodAll_cons hA
  obtain ⟨rfl, rfl, rfl⟩ := trodAll_nil r0
  obtain rfl : args = #[v0] := by cases args; simp_all
  obtain ⟨rfl, rfl⟩ := trodVars_none hV
  obtain ⟨a0, rfl, rfl, rfl, w0⟩ := open_int Try.underlying2 (hval 0 2 v0 rfl rfl) h0
  clear hA0 hval0
  simp only [List.append_nil] at hW'
  refine (walk a0 w0 W).mono fun e W' ⟨he, hg⟩ => ?_
  subst he
  exact ⟨_, rfl, _, _, _, [], _, [], hW', trodAll_mk1 (shut_bool Try.underlying4 _), (trodAll_cons_mk (shut_int Try.underlying2 w0) trodAll_mk0), rfl, hg.frame _, fun h => by cases h⟩

theorem over : Rows.fnExactQuorumOfRow.holds Try.pinned (OpenSpec.ofChange Rows.fnExactQuorumOfSpec) :=
  OpenClaim.holds_of_wide 4 Try.f4 rfl rfl rfl rfl rfl rfl rfl ⟨rfl, rfl, rfl, rfl, rfl⟩ rfl rfl rfl rfl rfl (by kernel_rfl) Try.func4 (by kernel_rfl)
    (of_decide_eq_true (by kernel_rfl)) (by unfold Func.isWrapper; first | (rw [if_pos (by decide +kernel)]; kernel_rfl) | (rw [if_neg (by decide +kernel)]; exact ⟨rfl, rfl⟩))
    (fun os started H enc _ => lifted os started H enc)

/-- The statement. -/
theorem proved : Rows.FnExactQuorumOfSaid :=
  over
#print axioms proved
end Go.Proofs.Ytncgidnkbadlpaa.fnExactQuorumOf
