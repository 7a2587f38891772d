/- What is proved here: how arguments that are entries and stores read. -/
import Derived.Test.YtioifgbnninmjaaGreatDoorChecked
import Derived.Test.YtioifgbnninmjaaGreatDoorJ14
import Derived.KernelRfl
namespace Go.Proofs.YtioifgbnninmjaaGreatDoor
open Go.RowKit
set_option linter.unusedVariables false
set_option maxRecDepth 100000

section
variable {H : Type} {enc : TypeId × Value → H} {w : World} {sp : Nat → Bool} {held : Bool}

theorem opens_ints {P : Program} {t tu : TypeId} (us : P.underlying t = some (.slice tu)) (uu : P.underlying tu = some (.int .i64)) (cu : P.cellsOf tu = 1) : Opens enc P w sp held intsK t := by
  intro fuel cs y hl h
  obtain ⟨v, rfl⟩ := one_cell hl
  rcases ChangeShapes.open_ints us uu cu h with ⟨e2, _⟩ | ⟨sa, sl, sc, zs, e2, _, hsl, hsm, hzl, _, hzc, hzw⟩
  · simp only [List.cons.injEq, and_true] at e2
    subst e2
    exact ⟨⟨none, 0, 0⟩, [], rfl, ⟨rfl, trivial, fun _ => rfl, fun y hy => by cases hy⟩, Nat.le_refl _, Nat.zero_le _, fun _ => rfl⟩
  · simp only [List.cons.injEq, and_true] at e2
    subst e2
    have hzl' : sl ≤ zs.length := by rw [hzl]; split <;> omega
    refine ⟨⟨some sa, sl, sc⟩, zs.take sl, rfl, ⟨by simp; omega, trivial, (fun e => (by cases e)), fun y hy j hj => ?_⟩, hsl, hsm, fun e => by cases e⟩
    cases hy
    have hj' : j < sl := hj
    rw [hzc j (by omega), getD_at _ j (by omega), getD_at _ j (by simp; omega), List.getElem_take]

theorem opensHdr : Opens enc Tryz.prog w sp held (hdK) 39 := by
  intro fuel cs y hl h
  have hl' : cs.length = 11 := hl
  have f0 := opens_field (K := bytesK) Tryz.underlying39 h 0 _ rfl rfl rfl (by kernel_rfl) (opens_bytes Tryz.underlying36 Tryz.underlying5 (by kernel_rfl)) (by show 0 + 1 ≤ cs.length; omega)
  have f1 := opens_field (K := intK) Tryz.underlying39 h 1 _ rfl rfl rfl (by kernel_rfl) (opens_int Tryz.underlying2) (by show 1 + 1 ≤ cs.length; omega)
  have f2 := opens_field (K := intK) Tryz.underlying39 h 2 _ rfl rfl rfl (by kernel_rfl) (opens_int Tryz.underlying2) (by show 2 + 1 ≤ cs.length; omega)
  have f3 := opens_field (K := intK) Tryz.underlying39 h 3 _ rfl rfl rfl (by kernel_rfl) (opens_int Tryz.underlying2) (by show 3 + 1 ≤ cs.length; omega)
  have f4 := opens_field (K := bytesK) Tryz.underlying39 h 4 _ rfl rfl rfl (by kernel_rfl) (opens_bytes Tryz.underlying36 Tryz.underlying5 (by kernel_rfl)) (by show 4 + 1 ≤ cs.length; omega)
  have f5 := opens_field (K := intK) Tryz.underlying39 h 5 _ rfl rfl rfl (by kernel_rfl) (opens_int Tryz.underlying2) (by show 5 + 1 ≤ cs.length; omega)
  have f6 := opens_field (K := bssK) Tryz.underlying39 h 6 _ rfl rfl rfl (by kernel_rfl) (opens_row Tryz.underlying37 (by kernel_rfl) (by decide) (opens_bytes Tryz.underlying36 Tryz.underlying5 (by kernel_rfl))) (by show 6 + 1 ≤ cs.length; omega)
  have f7 := opens_field (K := bytesK) Tryz.underlying39 h 7 _ rfl rfl rfl (by kernel_rfl) (opens_bytes Tryz.underlying36 Tryz.underlying5 (by kernel_rfl)) (by show 7 + 1 ≤ cs.length; omega)
  have f8 := opens_field (K := bytesK) Tryz.underlying39 h 8 _ rfl rfl rfl (by kernel_rfl) (opens_bytes Tryz.underlying36 Tryz.underlying5 (by kernel_rfl)) (by show 8 + 1 ≤ cs.length; omega)
  have f9 := opens_field (K := bytesK) Tryz.underlying39 h 9 _ rfl rfl rfl (by kernel_rfl) (opens_bytes Tryz.underlying36 Tryz.underlying5 (by kernel_rfl)) (by show 9 + 1 ≤ cs.length; omega)
  have f10 := opens_field (K := bssK) Tryz.underlying39 h 10 _ rfl rfl rfl (by kernel_rfl) (opens_row Tryz.underlying37 (by kernel_rfl) (by decide) (opens_bytes Tryz.underlying36 Tryz.underlying5 (by kernel_rfl))) (by show 10 + 1 ≤ cs.length; omega)
  match cs, hl' with
  | [c0, c1, c2, c3, c4, c5, c6, c7, c8, c9, c10], _ =>
    replace f0 : ∃ e x, [c0] = (bytesK).vals e x ∧ (bytesK).Ok w e x := f0
    obtain ⟨e0, x0, q0, r0⟩ := f0
    replace f1 : ∃ e x, [c1] = (intK).vals e x ∧ (intK).Ok w e x := f1
    obtain ⟨e1, x1, q1, r1⟩ := f1
    replace f2 : ∃ e x, [c2] = (intK).vals e x ∧ (intK).Ok w e x := f2
    obtain ⟨e2, x2, q2, r2⟩ := f2
    replace f3 : ∃ e x, [c3] = (intK).vals e x ∧ (intK).Ok w e x := f3
    obtain ⟨e3, x3, q3, r3⟩ := f3
    replace f4 : ∃ e x, [c4] = (bytesK).vals e x ∧ (bytesK).Ok w e x := f4
    obtain ⟨e4, x4, q4, r4⟩ := f4
    replace f5 : ∃ e x, [c5] = (intK).vals e x ∧ (intK).Ok w e x := f5
    obtain ⟨e5, x5, q5, r5⟩ := f5
    replace f6 : ∃ e x, [c6] = (bssK).vals e x ∧ (bssK).Ok w e x := f6
    obtain ⟨e6, x6, q6, r6⟩ := f6
    replace f7 : ∃ e x, [c7] = (bytesK).vals e x ∧ (bytesK).Ok w e x := f7
    obtain ⟨e7, x7, q7, r7⟩ := f7
    replace f8 : ∃ e x, [c8] = (bytesK).vals e x ∧ (bytesK).Ok w e x := f8
    obtain ⟨e8, x8, q8, r8⟩ := f8
    replace f9 : ∃ e x, [c9] = (bytesK).vals e x ∧ (bytesK).Ok w e x := f9
    obtain ⟨e9, x9, q9, r9⟩ := f9
    replace f10 : ∃ e x, [c10] = (bssK).vals e x ∧ (bssK).Ok w e x := f10
    obtain ⟨e10, x10, q10, r10⟩ := f10
    refine ⟨⟨e0, e4, e6, e7, e8, e9, e10⟩, ⟨x0, x1, x2, x3, x4, x5, x6, x7, x8, x9, x10⟩, ?_, r0, r1, r2, r3, r4, r5, r6, r7, r8, r9, r10⟩
    show [c0, c1, c2, c3, c4, c5, c6, c7, c8, c9, c10] = (bytesK).vals e0 x0 ++ ((intK).vals e1 x1 ++ ((intK).vals e2 x2 ++ ((intK).vals e3 x3 ++ ((bytesK).vals e4 x4 ++ ((intK).vals e5 x5 ++ ((bssK).vals e6 x6 ++ ((bytesK).vals e7 x7 ++ ((bytesK).vals e8 x8 ++ ((bytesK).vals e9 x9 ++ ((bssK).vals e10 x10))))))))))
    rw [← q0, ← q1, ← q2, ← q3, ← q4, ← q5, ← q6, ← q7, ← q8, ← q9, ← q10]
    rfl

theorem opensEntry : Opens enc Tryz.prog w sp held (enK) 113 := by
  intro fuel cs y hl h
  have hl' : cs.length = 14 := hl
  have f0 := opens_field (K := hdK) Tryz.underlying113 h 0 _ rfl rfl rfl (by kernel_rfl) opensHdr (by show 0 + 11 ≤ cs.length; omega)
  have f1 := opens_field (K := bytesK) Tryz.underlying113 h 1 _ rfl rfl rfl (by kernel_rfl) (opens_bytes Tryz.underlying36 Tryz.underlying5 (by kernel_rfl)) (by show 11 + 1 ≤ cs.length; omega)
  have f2 := opens_field (K := intK) Tryz.underlying113 h 2 _ rfl rfl rfl (by kernel_rfl) (opens_int Tryz.underlying2) (by show 12 + 1 ≤ cs.length; omega)
  have f3 := opens_field (K := intsK) Tryz.underlying113 h 3 _ rfl rfl rfl (by kernel_rfl) (opens_ints Tryz.underlying59 Tryz.underlying2 (by kernel_rfl)) (by show 13 + 1 ≤ cs.length; omega)
  match cs, hl' with
  | [c0, c1, c2, c3, c4, c5, c6, c7, c8, c9, c10, c11, c12, c13], _ =>
    replace f0 : ∃ e x, [c0, c1, c2, c3, c4, c5, c6, c7, c8, c9, c10] = (hdK).vals e x ∧ (hdK).Ok w e x := f0
    obtain ⟨e0, x0, q0, r0⟩ := f0
    replace f1 : ∃ e x, [c11] = (bytesK).vals e x ∧ (bytesK).Ok w e x := f1
    obtain ⟨e1, x1, q1, r1⟩ := f1
    replace f2 : ∃ e x, [c12] = (intK).vals e x ∧ (intK).Ok w e x := f2
    obtain ⟨e2, x2, q2, r2⟩ := f2
    replace f3 : ∃ e x, [c13] = (intsK).vals e x ∧ (intsK).Ok w e x := f3
    obtain ⟨e3, x3, q3, r3⟩ := f3
    refine ⟨(e0, e1, e2, e3), (x0, x1, x2, x3), ?_, r0, r1, r2, r3⟩
    show [c0, c1, c2, c3, c4, c5, c6, c7, c8, c9, c10, c11, c12, c13] = (hdK).vals e0 x0 ++ ((bytesK).vals e1 x1 ++ ((intK).vals e2 x2 ++ ((intsK).vals e3 x3)))
    rw [← q0, ← q1, ← q2, ← q3]
    rfl

def cfgK : Kd Cf (Unit × Unit × Unit) := pairK intK (pairK intK intK)
theorem opensConfig : Opens enc Tryz.prog w sp held (cfgK) 23 := by
  intro fuel cs y hl h
  have hl' : cs.length = 3 := hl
  have f0 := opens_field (K := intK) Tryz.underlying23 h 0 _ rfl rfl rfl (by kernel_rfl) (opens_int Tryz.underlying2) (by show 0 + 1 ≤ cs.length; omega)
  have f1 := opens_field (K := intK) Tryz.underlying23 h 1 _ rfl rfl rfl (by kernel_rfl) (opens_int Tryz.underlying2) (by show 1 + 1 ≤ cs.length; omega)
  have f2 := opens_field (K := intK) Tryz.underlying23 h 2 _ rfl rfl rfl (by kernel_rfl) (opens_int Tryz.underlying2) (by show 2 + 1 ≤ cs.length; omega)
  match cs, hl' with
  | [c0, c1, c2], _ =>
    replace f0 : ∃ e x, [c0] = (intK).vals e x ∧ (intK).Ok w e x := f0
    obtain ⟨e0, x0, q0, r0⟩ := f0
    replace f1 : ∃ e x, [c1] = (intK).vals e x ∧ (intK).Ok w e x := f1
    obtain ⟨e1, x1, q1, r1⟩ := f1
    replace f2 : ∃ e x, [c2] = (intK).vals e x ∧ (intK).Ok w e x := f2
    obtain ⟨e2, x2, q2, r2⟩ := f2
    refine ⟨(e0, e1, e2), (x0, x1, x2), ?_, r0, r1, r2⟩
    show [c0, c1, c2] = (intK).vals e0 x0 ++ ((intK).vals e1 x1 ++ ((intK).vals e2 x2))
    rw [← q0, ← q1, ← q2]
    rfl

def stoK : Kd St ((Unit × Unit × Unit) × Sl) := pairK cfgK ensK
theorem opensStore : Opens enc Tryz.prog w sp held stoK 26 := by
  intro fuel cs y hl h
  have hl' : cs.length = 4 := hl
  have f0 := opens_field (K := cfgK) Tryz.underlying26 h 0 _ rfl rfl rfl (by kernel_rfl) opensConfig (by show 0 + 3 ≤ cs.length; omega)
  have f1 := opens_field (K := ensK) Tryz.underlying26 h 1 _ rfl rfl rfl (by kernel_rfl) (opens_row Tryz.underlying24 (by kernel_rfl) (by decide) opensEntry) (by show 3 + 1 ≤ cs.length; omega)
  match cs, hl' with
  | [c0, c1, c2, c3], _ =>
    replace f0 : ∃ e x, [c0, c1, c2] = cfgK.vals e x ∧ cfgK.Ok w e x := f0
    replace f1 : ∃ e x, [c3] = ensK.vals e x ∧ ensK.Ok w e x := f1
    obtain ⟨e0, x0, q0, r0⟩ := f0
    obtain ⟨e1, x1, q1, r1⟩ := f1
    refine ⟨(e0, e1), (x0, x1), ?_, r0, r1⟩
    show [c0, c1, c2] ++ [c3] = cfgK.vals e0 x0 ++ ensK.vals e1 x1
    rw [← q0, ← q1]

theorem open_store {v : Value} {d : DataW H} {ps : List MemPlace} (hv : ∃ cs, v = .agg cs ∧ cs.size = Tryz.prog.cellsOf 26) (h : DataW.Trod enc Tryz.prog w 0 sp held 26 v d ps) :
    ∃ (t : Sl) (x : St), v = .agg (tvals t x) ∧ RowOk enK w t x.2 := by
  obtain ⟨e, x, q, r⟩ := opens_arg opensStore hv (by kernel_rfl) h
  exact ⟨e.2, x, q, r.2⟩
end

end Go.Proofs.YtioifgbnninmjaaGreatDoor
