/- Proved: for every slice of numbers the law FnExactWideFault returns true and changes no argument. Conditions: none. -/
import Derived.Test.YtakkhocaloigeaaRows
import Derived.Test.YtakkhocaloigeaaIntTo
import Derived.Test.YtakkhocaloigeaaIntS
import Derived.Test.YtakkhocaloigeaaWdB
import Derived.WalkSmall
import Derived.WalkKit
import Derived.ProofKit
import Derived.OpenShut
import Derived.ShutString
import Derived.ChangeOld
import Derived.Below
namespace Go.Proofs.Ytakkhocaloigeaa.fnExactWideFault
open Go.ChangeShapes Go.WideShapes Go.ChangeAt Go.RowKit
open Go.ChangeMaps (open_string shut_string)
set_option linter.unusedVariables false

theorem own : ownKnob Try.prog.godebug = none := by kernel_rfl
theorem laidOut : laidOutB Try.prog = true := by kernel_rfl

/-- What the walk is told of a slice of integers that came in. -/
def IsRow (k : IntKind) (w : World) (a : Option Addr) (len cap : Nat) (zs : List Int) : Prop :=
  (a = none ∧ len = 0 ∧ cap = 0 ∧ zs = []) ∨
  ∃ x, a = some x ∧ len ≤ cap ∧ cap ≤ maxLen ∧ zs.length = cap ∧ (∀ i, i < zs.length → w.cell? (x.add i) = some (.int k (zs.getD i 0))) ∧ ∀ n ∈ zs, (Lit.int k n).wf = true

/-! The walk: the Go text returns true, and writes nothing that was there. -/
set_option maxHeartbeats 1000000 in
theorem walk (a0 : Option Addr) (len0 cap0 : Nat) (z0 : List Int) (w : World) (w0 : IsRow .i64 w a0 len0 cap0 z0) :
    Calls Try.prog 5 #[.slice a0 len0 cap0] w fun e w' => e = .returned (.bool true) ∧ Below w.heap.size w w' := by
  have h0 := irow_of w0
  clear w0
  generalize z0.take len0 = xs at h0
  by_cases hl0 : len0 ≤ 1048576
  · have sx : sameB xs xs = true := by simp [sameB]
    have SP : Hid (∀ W g, IRow W (some ⟨g, 0, none⟩) len0 xs → Calls Try.prog 23 #[.slice (some ⟨g, 0, none⟩) len0 len0] W fun e w' => e = .returned (.int .i64 (wfCode xs)) ∧ w' = W) := fun W g h => specWFault_any _ _ _ xs W h hl0
    have IM : Hid (∀ W g, IRow W (some ⟨g, 0, none⟩) len0 xs → Calls Try.prog 17 #[.slice (some ⟨g, 0, none⟩) len0 len0] W fun e w' => e = .returned (.int .i64 (wfCode xs)) ∧ w' = W) := fun W g h => implWFault_any _ _ _ xs W h hl0
    have hq : (wfCode xs != wfCode xs) = false := by simp
    generalize wfCode xs = c at SP IM hq
    go_enter Try.func5, Try.ntmps5
    go_wp2_with fail
    refine (toInt64S_any _ _ _ xs _ h0 hl0).mono ?_
    rintro e w1 ⟨rfl, o1, b1⟩
    have r1 := IRow.own o1
    go_wp2_with fail
    refine ((unhide SP) _ _ r1).mono ?_
    rintro e w' ⟨rfl, rfl⟩
    have c1 := h0.below b1 (Nat.le_refl _)
    clear r1 o1
    go_wp2_with fail
    refine (toInt64S_any _ _ _ xs _ c1 hl0).mono ?_
    rintro e w4 ⟨rfl, o4, b4⟩
    have r4 := IRow.own o4
    go_wp2_with fail
    refine ((unhide IM) _ _ r4).mono ?_
    rintro e w' ⟨rfl, rfl⟩
    have g4 := b1.trans (b4.mono b1.size)
    have c4 := h0.below g4 (Nat.le_refl _)
    go_wp2_with fail
    refine (toInt64S_any _ _ _ xs _ c4 hl0).mono ?_
    rintro e w7 ⟨rfl, o7, b7⟩
    have r7 := IRow.own o7
    have r4' := r4.below b7 (Nat.le_refl _)
    go_wp2_with fail
    refine (eqInt64S_any _ _ _ _ _ _ xs xs _ r4' r7 hl0 hl0).mono ?_
    rintro e w8 ⟨rfl, n8, rfl⟩
    rw [sx]
    go_wp2_with fail
    go_ret
    exact ⟨rfl, below_drewN (g4.trans (b7.mono g4.size)) n8⟩
  · go_enter Try.func5, Try.ntmps5
    go_wp2_with fail
    go_ret
    exact ⟨rfl, Below.refl _ _⟩

/-! The row's step. -/
set_option maxRecDepth 100000 in
theorem lifted (os : Os) (started : os.Started) (H : Type) (enc : TypeId × Value → H) :
    ReturnsInHanded {} Try.checked os 5 .any (Rows.fnExactWideFaultSpec.pre6 enc Try.prog Try.f5 Rows.fnExactWideFaultRow.domain false) (Rows.fnExactWideFaultSpec.post enc Try.prog Try.f5 false true false false) := by
  refine returnsInHanded_of_change (C := Try.checked) own started (by kernel_rfl) Try.func5
    (ChangeSpec.witness6 (enc := enc) (C := Try.checked) false ⟨#[], #[.slice none 0 0], []⟩ 8 (by kernel_rfl) (by kernel_rfl) (by kernel_rfl) (by kernel_rfl)) ?_
  intro W base args ds gs before hval0 hW hcnd _
  have hval : ∀ (j : Nat) t v, Try.f5.params[j]? = some t → args[j]? = some v → Value.okWide Try.prog W .any base t v := hval0
  have hW' := hW
  obtain ⟨p, q, hA0, hV, rfl, hfz, hnd⟩ := hW
  have hA : DataW.TrodAll enc Try.prog W 0 (fun _ => true) true Try.f5.params.toList args.toList ds p := hA0
  rw [Try.params5] at hA hval
  obtain ⟨v0, vs0, d0, ds0, p0, q0, hargs, rfl, rfl, h0, r0⟩ := trodAll_cons hA
  obtain ⟨rfl, rfl, rfl⟩ := trodAll_nil r0
  obtain rfl : args = #[v0] := by cases args; simp_all
  obtain ⟨rfl, rfl⟩ := trodVars_none hV
  obtain ⟨a0, len0, cap0, rfl⟩ := okWide_slice Try.underlying24 (hval 0 24 v0 rfl rfl)
  have k0 := h0
  have lt0 : ∀ x ∈ p0, x.block < W.heap.size := by obtain ⟨m, hm⟩ := k0; exact DataW.trod_lt m _ _ _ hm
  obtain ⟨z0, w0⟩ : ∃ zs, IsRow .i64 W a0 len0 cap0 zs := by
    obtain ⟨fuel, hf⟩ := h0
    rcases open_ints Try.underlying24 Try.underlying2 (by kernel_rfl) hf with ⟨hcs, _⟩ | ⟨x, l, c, zs, hcs, _, hl, hm, hz, _, hcell, hwz⟩
    · simp [Value.cells] at hcs
      obtain ⟨rfl, rfl, rfl⟩ := hcs
      exact ⟨[], .inl ⟨rfl, rfl, rfl, rfl⟩⟩
    · simp [Value.cells] at hcs
      obtain ⟨rfl, rfl, rfl⟩ := hcs
      exact ⟨zs, .inr ⟨_, rfl, hl, hm, by simpa using hz, hcell, hwz⟩⟩
  clear hA0 hval0
  refine (walk a0 len0 cap0 z0 W w0).mono fun e W' ⟨he, bel⟩ => ?_
  subst he
  exact ⟨_, rfl, _, _, _, [], _, [], hW', trodAll_mk1 (shut_bool Try.underlying4 _), (trodAll_cons_mk (Below.trod laidOut (by kernel_rfl) (of_decide_eq_true (by kernel_rfl)) k0 bel lt0) trodAll_mk0), rfl, bel.frame _, fun h => by cases h⟩

theorem over : Rows.fnExactWideFaultRow.holds Try.pinned (OpenSpec.ofChange Rows.fnExactWideFaultSpec) :=
  OpenClaim.holds_of_wide 5 Try.f5 rfl rfl rfl rfl rfl rfl rfl ⟨rfl, rfl, rfl, rfl, rfl⟩ rfl rfl rfl rfl rfl (by kernel_rfl) Try.func5 (by kernel_rfl)
    (of_decide_eq_true (by kernel_rfl)) (by unfold Func.isWrapper; first | (rw [if_pos (by decide +kernel)]; kernel_rfl) | (rw [if_neg (by decide +kernel)]; exact ⟨rfl, rfl⟩))
    (fun os started H enc _ => lifted os started H enc)

/-- The statement. -/
theorem proved : Rows.FnExactWideFaultSaid := over
#print axioms proved
end Go.Proofs.Ytakkhocaloigeaa.fnExactWideFault
