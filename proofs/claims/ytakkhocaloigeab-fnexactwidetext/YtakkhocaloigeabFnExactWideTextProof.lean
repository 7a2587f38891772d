/- Proved: for every slice of numbers the law FnExactWideText returns true and changes no argument. Conditions: none. -/
import Derived.Test.YtakkhocaloigeabRows
import Derived.Test.YtakkhocaloigeabIntTo
import Derived.Test.YtakkhocaloigeabIntS
import Derived.Test.YtakkhocaloigeabEqText
import Derived.Test.YtakkhocaloigeabWtS
import Derived.Test.YtakkhocaloigeabWtI
import Derived.WalkSmall
import Derived.WalkKit
import Derived.ProofKit
import Derived.OpenShut
import Derived.ShutString
import Derived.ChangeOld
import Derived.Below
namespace Go.Proofs.Ytakkhocaloigeab.fnExactWideText
open Go.ChangeShapes Go.WideShapes Go.ChangeAt Go.RowKit
open Go.ChangeMaps (open_string shut_string)
set_option linter.unusedVariables false

theorem own : ownKnob Try.prog.godebug = none := by kernel_rfl
theorem laidOut : laidOutB Try.prog = true := by kernel_rfl

/-- What the walk is told of a slice of integers that came in. -/
def IsRow (k : IntKind) (w : World) (a : Option Addr) (len cap : Nat) (zs : List Int) : Prop :=
  (a = none ∧ len = 0 ∧ cap = 0 ∧ zs = []) ∨
  ∃ x, a = some x ∧ len ≤ cap ∧ cap ≤ maxLen ∧ zs.length = cap ∧ (∀ i, i < zs.length → w.cell? (x.add i) = some (.int k (zs.getD i 0))) ∧ ∀ n ∈ zs, (Lit.int k n).wf = true

/-! The walk: the Go text returns true, and writes nothing that was there. -/
set_option maxHeartbeats 2000000 in
theorem walk (a0 : Option Addr) (len0 cap0 : Nat) (z0 : List Int) (w : World) (w0 : IsRow .i64 w a0 len0 cap0 z0) :
    Calls Try.prog 3 #[.slice a0 len0 cap0] w fun e w' => e = .returned (.bool true) ∧ Below w.heap.size w w' := by
  have h0 := irow_of w0
  clear w0
  generalize z0.take len0 = xs at h0
  by_cases hl0 : len0 ≤ 1048576
  · have sx : sameB xs xs = true := by simp [sameB]
    have SP : Hid (∀ W g, IRow W (some ⟨g, 0, none⟩) len0 xs → Calls Try.prog 4 #[.slice (some ⟨g, 0, none⟩) len0 len0] W fun e w' => e = .returned (.agg #[.int .i64 (wfCode xs), .string (wtText xs)]) ∧ Below W.heap.size W w') := fun W g h => specWText_any _ _ _ xs W h hl0
    have IM : Hid (∀ W g, IRow W (some ⟨g, 0, none⟩) len0 xs → Calls Try.prog 6 #[.slice (some ⟨g, 0, none⟩) len0 len0] W fun e w' => e = .returned (.agg #[.int .i64 (wfCode xs), .string (wtText xs)]) ∧ Below W.heap.size W w') := fun W g h => implWText_any _ _ _ xs W h hl0
    generalize wfCode xs = c at SP IM
    generalize wtText xs = v at SP IM
    go_enter Try.func3, Try.ntmps3
    go_wp2_with fail
    refine (toInt64S_any _ _ _ xs _ h0 hl0).mono ?_
    rintro e w1 ⟨rfl, o1, b1⟩
    have r1 := IRow.own o1
    go_wp2_with fail
    refine ((unhide SP) _ _ r1).mono ?_
    rintro e w2 ⟨rfl, b2⟩
    go_wp2_with fail
    have k3 : Below w2.heap.size w2 (w2.alloc (Obj.cells #[Value.int IntKind.i64 c, Value.string v] 24)) := (Below.refl _ _).alloc (Nat.le_refl _) _
    have s3 : w2.heap.size < (w2.alloc (Obj.cells #[Value.int IntKind.i64 c, Value.string v] 24)).heap.size := by simp
    have p0 : (w2.alloc (Obj.cells #[Value.int IntKind.i64 c, Value.string v] 24)).cell? ⟨w2.heap.size, 0, none⟩ = some (.int .i64 c) := by simp
    have p1 : (w2.alloc (Obj.cells #[Value.int IntKind.i64 c, Value.string v] 24)).cell? ⟨w2.heap.size, 1, none⟩ = some (.string v) := by simp
    generalize w2.alloc (Obj.cells #[Value.int IntKind.i64 c, Value.string v] 24) = w3 at k3 s3 p0 p1
    have g2 := b1.trans (b2.mono b1.size)
    have g3 := g2.trans (k3.mono g2.size)
    have c3 := h0.below g3 (Nat.le_refl _)
    clear o1 r1
    refine (toInt64S_any _ _ _ xs _ c3 hl0).mono ?_
    rintro e w4 ⟨rfl, o4, b4⟩
    have r4 := IRow.own o4
    go_wp2_with fail
    refine ((unhide IM) _ _ r4).mono ?_
    rintro e w5 ⟨rfl, b5⟩
    have g45 := b4.trans (b5.mono b4.size)
    have s5 : w2.heap.size < w5.heap.size := Nat.lt_of_lt_of_le s3 g45.size
    have q0 : ∀ o, (w5.alloc o).cell? ⟨w2.heap.size, 0, none⟩ = some (.int .i64 c) := fun o => (Below.cell ((Below.refl w5.heap.size w5).alloc (Nat.le_refl _) o) s5).trans ((g45.cell s3).trans p0)
    have q1 : ∀ o, (w5.alloc o).cell? ⟨w2.heap.size, 1, none⟩ = some (.string v) := fun o => (Below.cell ((Below.refl w5.heap.size w5).alloc (Nat.le_refl _) o) s5).trans ((g45.cell s3).trans p1)
    go_wp2_with fail
    refine (eqText_same c v _).mono ?_
    rintro e w6 ⟨rfl, b6⟩
    have k6 : Below w5.heap.size w5 w6 := ((Below.refl _ _).alloc (Nat.le_refl _) _).trans (b6.mono (by simp))
    clear b6 q0 q1
    have g5 := g3.trans (g45.mono g3.size)
    have g6 := g5.trans (k6.mono g5.size)
    have c6 := h0.below g6 (Nat.le_refl _)
    go_wp2_with fail
    refine (toInt64S_any _ _ _ xs _ c6 hl0).mono ?_
    rintro e w7 ⟨rfl, o7, b7⟩
    have r7 := IRow.own o7
    have r4' := ((r4.below b5 (Nat.le_refl _)).below k6 (Nat.le_refl _)).below b7 (Nat.le_refl _)
    go_wp2_with fail
    refine (eqInt64S_any _ _ _ _ _ _ xs xs _ r4' r7 hl0 hl0).mono ?_
    rintro e w8 ⟨rfl, n8, rfl⟩
    rw [sx]
    go_wp2_with fail
    go_ret
    exact ⟨rfl, below_drewN (g6.trans (b7.mono g6.size)) n8⟩
  · go_enter Try.func3, Try.ntmps3
    go_wp2_with fail
    go_ret
    exact ⟨rfl, Below.refl _ _⟩

/-! The row's step. -/
set_option maxRecDepth 100000 in
theorem lifted (os : Os) (started : os.Started) (H : Type) (enc : TypeId × Value → H) :
    ReturnsInHanded {} Try.checked os 3 .any (Rows.fnExactWideTextSpec.pre6 enc Try.prog Try.f3 Rows.fnExactWideTextRow.domain false) (Rows.fnExactWideTextSpec.post enc Try.prog Try.f3 false true false false) := by
  refine returnsInHanded_of_change (C := Try.checked) own started (by kernel_rfl) Try.func3
    (ChangeSpec.witness6 (enc := enc) (C := Try.checked) false ⟨#[], #[.slice none 0 0], []⟩ 8 (by kernel_rfl) (by kernel_rfl) (by kernel_rfl) (by kernel_rfl)) ?_
  intro W base args ds gs before hval0 hW hcnd _
  have hval : ∀ (j : Nat) t v, Try.f3.params[j]? = some t → args[j]? = some v → Value.okWide Try.prog W .any base t v := hval0
  have hW' := hW
  obtain ⟨p, q, hA0, hV, rfl, hfz, hnd⟩ := hW
  have hA : DataW.TrodAll enc Try.prog W 0 (fun _ => true) true Try.f3.params.toList args.toList ds p := hA0
  rw [Try.params3] at hA hval
  obtain ⟨v0, vs0, d0, ds0, p0, q0, hargs, rfl, rfl, h0, r0⟩ := trodAll_cons hA
  obtain ⟨rfl, rfl, rfl⟩ := trodAll_nil r0
  obtain rfl : args = #[v0] := by cases args; simp_all
  obtain ⟨rfl, rfl⟩ := trodVars_none hV
  obtain ⟨a0, len0, cap0, rfl⟩ := okWide_slice Try.underlying22 (hval 0 22 v0 rfl rfl)
  have k0 := h0
  have lt0 : ∀ x ∈ p0, x.block < W.heap.size := by obtain ⟨m, hm⟩ := k0; exact DataW.trod_lt m _ _ _ hm
  obtain ⟨z0, w0⟩ : ∃ zs, IsRow .i64 W a0 len0 cap0 zs := by
    obtain ⟨fuel, hf⟩ := h0
    rcases open_ints Try.underlying22 Try.underlying2 (by kernel_rfl) hf with ⟨hcs, _⟩ | ⟨x, l, c, zs, hcs, _, hl, hm, hz, _, hcell, hwz⟩
    · simp [Value.cells] at hcs
      obtain ⟨rfl, rfl, rfl⟩ := hcs
      exact ⟨[], .inl ⟨rfl, rfl, rfl, rfl⟩⟩
    · simp [Value.cells] at hcs
      obtain ⟨rfl, rfl, rfl⟩ := hcs
      exact ⟨zs, .inr ⟨_, rfl, hl, hm, by simpa using hz, hcell, hwz⟩⟩
  clear hA0 hval0
  refine (walk a0 len0 cap0 z0 W w0).mono fun e W' ⟨he, bel⟩ => ?_
  subst he
  exact ⟨_, rfl, _, _, _, [], _, [], hW', trodAll_mk1 (shut_bool Try.underlying4 _), (trodAll_cons_mk (Below.trod laidOut (by kernel_rfl) (of_decide_eq_true (by kernel_rfl)) k0 bel lt0) trodAll_mk0), rfl, bel.frame _, fun h => by cases h⟩

theorem over : Rows.fnExactWideTextRow.holds Try.pinned (OpenSpec.ofChange Rows.fnExactWideTextSpec) :=
  OpenClaim.holds_of_wide 3 Try.f3 rfl rfl rfl rfl rfl rfl rfl ⟨rfl, rfl, rfl, rfl, rfl⟩ rfl rfl rfl rfl rfl (by kernel_rfl) Try.func3 (by kernel_rfl)
    (of_decide_eq_true (by kernel_rfl)) (by unfold Func.isWrapper; first | (rw [if_pos (by decide +kernel)]; kernel_rfl) | (rw [if_neg (by decide +kernel)]; exact ⟨rfl, rfl⟩))
    (fun os started H enc _ => lifted os started H enc)

/-- The statement. -/
theorem proved : Rows.FnExactWideTextSaid := over
#print axioms proved
end Go.Proofs.Ytakkhocaloigeab.fnExactWideText
