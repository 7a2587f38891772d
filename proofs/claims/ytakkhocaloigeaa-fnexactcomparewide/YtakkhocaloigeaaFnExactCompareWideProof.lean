/- Proved: for every two slices of numbers the law FnExactCompareWide returns true and changes neither argument. Conditions: none. -/
import Derived.Test.YtakkhocaloigeaaRows
import Derived.Test.YtakkhocaloigeaaIntTo
import Derived.Test.YtakkhocaloigeaaIntS
import Derived.Test.YtakkhocaloigeaaEqInt
import Derived.Test.YtakkhocaloigeaaWdH
import Derived.WalkSmall
import Derived.WalkKit
import Derived.ProofKit
import Derived.OpenShut
import Derived.ShutString
import Derived.ChangeOld
import Derived.Below
namespace Go.Proofs.Ytakkhocaloigeaa.fnExactCompareWide
open Go.ChangeShapes Go.WideShapes Go.ChangeAt Go.RowKit
open Go.ChangeMaps (open_string shut_string)
set_option linter.unusedVariables false

theorem own : ownKnob Try.prog.godebug = none := by kernel_rfl
theorem laidOut : laidOutB Try.prog = true := by kernel_rfl

/-- What the walk is told of a slice of integers that came in. -/
def IsRow (k : IntKind) (w : World) (a : Option Addr) (len cap : Nat) (zs : List Int) : Prop :=
  (a = none ∧ len = 0 ∧ cap = 0 ∧ zs = []) ∨
  ∃ x, a = some x ∧ len ≤ cap ∧ cap ≤ maxLen ∧ zs.length = cap ∧ (∀ i, i < zs.length → w.cell? (x.add i) = some (.int k (zs.getD i 0))) ∧ ∀ n ∈ zs, (Lit.int k n).wf = true

/-! The walk: the Go text returns true, and writes nothing that was there. -/
set_option maxHeartbeats 2000000 in
theorem walk (a0 : Option Addr) (len0 cap0 : Nat) (z0 : List Int) (a1 : Option Addr) (len1 cap1 : Nat) (z1 : List Int) (w : World) (w0 : IsRow .i64 w a0 len0 cap0 z0) (w1 : IsRow .i64 w a1 len1 cap1 z1) :
    Calls Try.prog 8 #[.slice a0 len0 cap0, .slice a1 len1 cap1] w fun e w' => e = .returned (.bool true) ∧ Below w.heap.size w w' := by
  have h0 := irow_of w0
  have h1 := irow_of w1
  clear w0 w1
  generalize z0.take len0 = xs at h0
  generalize z1.take len1 = ys at h1
  by_cases hl0 : len0 ≤ 1048576
  · by_cases hl1 : len1 ≤ 1048576
    · have sx : sameB xs xs = true := by simp [sameB]
      have sy : sameB ys ys = true := by simp [sameB]
      have SP : Hid (∀ W g k, IRow W (some ⟨g, 0, none⟩) len0 xs → IRow W (some ⟨k, 0, none⟩) len1 ys → Calls Try.prog 20 #[.slice (some ⟨g, 0, none⟩) len0 len0, .slice (some ⟨k, 0, none⟩) len1 len1] W fun e w' => e = .returned (.agg #[.int .i64 (wf2 xs ys), .int .i64 (cwVal xs ys)]) ∧ Below W.heap.size W w') := fun W g k h h' => specCW_any _ _ _ _ _ _ xs ys W h h' hl0 hl1
      have IM : Hid (∀ W g k, IRow W (some ⟨g, 0, none⟩) len0 xs → IRow W (some ⟨k, 0, none⟩) len1 ys → Calls Try.prog 14 #[.slice (some ⟨g, 0, none⟩) len0 len0, .slice (some ⟨k, 0, none⟩) len1 len1] W fun e w' => e = .returned (.agg #[.int .i64 (wf2 xs ys), .int .i64 (cwVal xs ys)]) ∧ Below W.heap.size W w') := fun W g k h h' => implCW_any _ _ _ _ _ _ xs ys W h h' hl0 hl1
      generalize wf2 xs ys = c at SP IM
      generalize cwVal xs ys = v at SP IM
      go_enter Try.func8, Try.ntmps8
      go_wp2_with fail
      refine (toInt64S_any _ _ _ xs _ h0 hl0).mono ?_
      rintro e w1 ⟨rfl, o1, b1⟩
      have h1' := h1.below b1 (Nat.le_refl _)
      go_wp2_with fail
      refine (toInt64S_any _ _ _ ys _ h1' hl1).mono ?_
      rintro e w2 ⟨rfl, o2, b2⟩
      have r1 := (IRow.own o1).below b2 (Nat.le_refl _)
      have r2 := IRow.own o2
      have g2 := b1.trans (b2.mono b1.size)
      clear o1 o2
      go_wp2_with fail
      refine ((unhide SP) _ _ _ r1 r2).mono ?_
      rintro e w3 ⟨rfl, b3⟩
      have g3 := g2.trans (b3.mono g2.size)
      clear r1 r2
      go_wp2_with fail
      have k4 : Below w3.heap.size w3 (w3.alloc (Obj.cells #[Value.int IntKind.i64 c, Value.int IntKind.i64 v] 32)) := (Below.refl _ _).alloc (Nat.le_refl _) _
      have s4 : w3.heap.size < (w3.alloc (Obj.cells #[Value.int IntKind.i64 c, Value.int IntKind.i64 v] 32)).heap.size := by simp
      have p0 : (w3.alloc (Obj.cells #[Value.int IntKind.i64 c, Value.int IntKind.i64 v] 32)).cell? ⟨w3.heap.size, 0, none⟩ = some (.int .i64 c) := by simp
      have p1 : (w3.alloc (Obj.cells #[Value.int IntKind.i64 c, Value.int IntKind.i64 v] 32)).cell? ⟨w3.heap.size, 1, none⟩ = some (.int .i64 v) := by simp
      generalize w3.alloc (Obj.cells #[Value.int IntKind.i64 c, Value.int IntKind.i64 v] 32) = w4 at k4 s4 p0 p1
      have g4 := g3.trans (k4.mono g3.size)
      have c4 := h0.below g4 (Nat.le_refl _)
      refine (toInt64S_any _ _ _ xs _ c4 hl0).mono ?_
      rintro e w5 ⟨rfl, o5, b5⟩
      have g5 := g4.trans (b5.mono g4.size)
      have d5 := h1.below g5 (Nat.le_refl _)
      go_wp2_with fail
      refine (toInt64S_any _ _ _ ys _ d5 hl1).mono ?_
      rintro e w6 ⟨rfl, o6, b6⟩
      have r5 := (IRow.own o5).below b6 (Nat.le_refl _)
      have r6 := IRow.own o6
      clear o5 o6
      go_wp2_with fail
      refine ((unhide IM) _ _ _ r5 r6).mono ?_
      rintro e w7 ⟨rfl, b7⟩
      have k56 := b5.trans (b6.mono b5.size)
      have k57 := k56.trans (b7.mono k56.size)
      have s7 : w3.heap.size < w7.heap.size := Nat.lt_of_lt_of_le s4 k57.size
      have q0 : ∀ o, (w7.alloc o).cell? ⟨w3.heap.size, 0, none⟩ = some (.int .i64 c) := fun o => (Below.cell ((Below.refl w7.heap.size w7).alloc (Nat.le_refl _) o) s7).trans ((k57.cell s4).trans p0)
      have q1 : ∀ o, (w7.alloc o).cell? ⟨w3.heap.size, 1, none⟩ = some (.int .i64 v) := fun o => (Below.cell ((Below.refl w7.heap.size w7).alloc (Nat.le_refl _) o) s7).trans ((k57.cell s4).trans p1)
      have g7 := g4.trans (k57.mono g4.size)
      have x7 := r5.below b7 (Nat.le_refl _)
      have y7 := r6.below b7 (Nat.le_refl _)
      clear r5 r6 p0 p1
      go_wp2_with fail
      refine (eqInt_same c v _).mono ?_
      rintro e w8 ⟨rfl, b8⟩
      have k8 : Below w7.heap.size w7 w8 := ((Below.refl _ _).alloc (Nat.le_refl _) _).trans (b8.mono (by simp))
      clear b8 q0 q1
      have g8 := g7.trans (k8.mono g7.size)
      have c8 := h0.below g8 (Nat.le_refl _)
      go_wp2_with fail
      refine (toInt64S_any _ _ _ xs _ c8 hl0).mono ?_
      rintro e w9 ⟨rfl, o9, b9⟩
      have r9 := IRow.own o9
      have x9 := (x7.below k8 (Nat.le_refl _)).below b9 (Nat.le_refl _)
      have y9 := (y7.below k8 (Nat.le_refl _)).below b9 (Nat.le_refl _)
      have g9 := g8.trans (b9.mono g8.size)
      go_wp2_with fail
      refine (eqInt64S_any _ _ _ _ _ _ xs xs _ x9 r9 hl0 hl0).mono ?_
      rintro e w' ⟨rfl, n10, rfl⟩
      rw [sx]
      have b10 : Below w9.heap.size w9 (w9.drewN n10) := below_drewN (Below.refl _ _) n10
      generalize w9.drewN n10 = w10 at b10
      have g10 := g9.trans (b10.mono g9.size)
      have d10 := h1.below g10 (Nat.le_refl _)
      have y10 := y9.below b10 (Nat.le_refl _)
      clear r9 x9 o9
      go_wp2_with fail
      refine (toInt64S_any _ _ _ ys _ d10 hl1).mono ?_
      rintro e w11 ⟨rfl, o11, b11⟩
      have r11 := IRow.own o11
      have y11 := y10.below b11 (Nat.le_refl _)
      go_wp2_with fail
      refine (eqInt64S_any _ _ _ _ _ _ ys ys _ y11 r11 hl1 hl1).mono ?_
      rintro e w' ⟨rfl, n12, rfl⟩
      rw [sy]
      go_wp2_with fail
      go_ret
      exact ⟨rfl, below_drewN (g10.trans (b11.mono g10.size)) n12⟩
    · go_enter Try.func8, Try.ntmps8
      go_wp2_with fail
      go_ret
      exact ⟨rfl, Below.refl _ _⟩
  · go_enter Try.func8, Try.ntmps8
    go_wp2_with fail
    go_ret
    exact ⟨rfl, Below.refl _ _⟩

/-! The row's step. -/
set_option maxRecDepth 100000 in
theorem lifted (os : Os) (started : os.Started) (H : Type) (enc : TypeId × Value → H) :
    ReturnsInHanded {} Try.checked os 8 .any (Rows.fnExactCompareWideSpec.pre6 enc Try.prog Try.f8 Rows.fnExactCompareWideRow.domain false) (Rows.fnExactCompareWideSpec.post enc Try.prog Try.f8 false true false false) := by
  refine returnsInHanded_of_change (C := Try.checked) own started (by kernel_rfl) Try.func8
    (ChangeSpec.witness6 (enc := enc) (C := Try.checked) false ⟨#[], #[.slice none 0 0, .slice none 0 0], []⟩ 8 (by kernel_rfl) (by kernel_rfl) (by kernel_rfl) (by kernel_rfl)) ?_
  intro W base args ds gs before hval0 hW hcnd _
  have hval : ∀ (j : Nat) t v, Try.f8.params[j]? = some t → args[j]? = some v → Value.okWide Try.prog W .any base t v := hval0
  have hW' := hW
  obtain ⟨p, q, hA0, hV, rfl, hfz, hnd⟩ := hW
  have hA : DataW.TrodAll enc Try.prog W 0 (fun _ => true) true Try.f8.params.toList args.toList ds p := hA0
  rw [Try.params8] at hA hval
  obtain ⟨v0, vs0, d0, ds0, p0, q0, hargs, rfl, rfl, h0, r0⟩ := trodAll_cons hA
  obtain ⟨v1, vs1, d1, ds1, p1, q1, rfl, rfl, rfl, h1, r1⟩ := trodAll_cons r0
  obtain ⟨rfl, rfl, rfl⟩ := trodAll_nil r1
  obtain rfl : args = #[v0, v1] := by cases args; simp_all
  obtain ⟨rfl, rfl⟩ := trodVars_none hV
  obtain ⟨a0, len0, cap0, rfl⟩ := okWide_slice Try.underlying24 (hval 0 24 v0 rfl rfl)
  have k0 := h0
  have lt0 : ∀ x ∈ p0, x.block < W.heap.size := by obtain ⟨m, hm⟩ := k0; exact DataW.trod_lt m _ _ _ hm
  obtain ⟨z0, w0⟩ : ∃ zs, IsRow .i64 W a0 len0 cap0 zs := by
    obtain ⟨fuel, hf⟩ := h0
    rcases open_ints Try.underlying24 Try.underlying2 (by kernel_rfl) hf with ⟨hcs, _⟩ | ⟨x, l, c, zs, hcs, _, hl, hm, hz, _, hcell, hwz⟩
    · simp [Value.cells] at hcs
      obtain ⟨rfl, rfl, rfl⟩ := hcs
      exact ⟨[], .inl ⟨rfl, rfl, rfl, rfl⟩⟩
    · simp [Value.cells] at hcs
      obtain ⟨rfl, rfl, rfl⟩ := hcs
      exact ⟨zs, .inr ⟨_, rfl, hl, hm, by simpa using hz, hcell, hwz⟩⟩
  obtain ⟨a1, len1, cap1, rfl⟩ := okWide_slice Try.underlying24 (hval 1 24 v1 rfl rfl)
  have k1 := h1
  have lt1 : ∀ x ∈ p1, x.block < W.heap.size := by obtain ⟨m, hm⟩ := k1; exact DataW.trod_lt m _ _ _ hm
  obtain ⟨z1, w1⟩ : ∃ zs, IsRow .i64 W a1 len1 cap1 zs := by
    obtain ⟨fuel, hf⟩ := h1
    rcases open_ints Try.underlying24 Try.underlying2 (by kernel_rfl) hf with ⟨hcs, _⟩ | ⟨x, l, c, zs, hcs, _, hl, hm, hz, _, hcell, hwz⟩
    · simp [Value.cells] at hcs
      obtain ⟨rfl, rfl, rfl⟩ := hcs
      exact ⟨[], .inl ⟨rfl, rfl, rfl, rfl⟩⟩
    · simp [Value.cells] at hcs
      obtain ⟨rfl, rfl, rfl⟩ := hcs
      exact ⟨zs, .inr ⟨_, rfl, hl, hm, by simpa using hz, hcell, hwz⟩⟩
  clear hA0 hval0
  refine (walk a0 len0 cap0 z0 a1 len1 cap1 z1 W w0 w1).mono fun e W' ⟨he, bel⟩ => ?_
  subst he
  exact ⟨_, rfl, _, _, _, [], _, [], hW', trodAll_mk1 (shut_bool Try.underlying4 _), (trodAll_cons_mk (Below.trod laidOut (by kernel_rfl) (of_decide_eq_true (by kernel_rfl)) k0 bel lt0) (trodAll_cons_mk (Below.trod laidOut (by kernel_rfl) (of_decide_eq_true (by kernel_rfl)) k1 bel lt1) trodAll_mk0)), rfl, bel.frame _, fun h => by cases h⟩

theorem over : Rows.fnExactCompareWideRow.holds Try.pinned (OpenSpec.ofChange Rows.fnExactCompareWideSpec) :=
  OpenClaim.holds_of_wide 8 Try.f8 rfl rfl rfl rfl rfl rfl rfl ⟨rfl, rfl, rfl, rfl, rfl⟩ rfl rfl rfl rfl rfl (by kernel_rfl) Try.func8 (by kernel_rfl)
    (of_decide_eq_true (by kernel_rfl)) (by unfold Func.isWrapper; first | (rw [if_pos (by decide +kernel)]; kernel_rfl) | (rw [if_neg (by decide +kernel)]; exact ⟨rfl, rfl⟩))
    (fun os started H enc _ => lifted os started H enc)

/-- The statement. -/
theorem proved : Rows.FnExactCompareWideSaid := over
#print axioms proved
end Go.Proofs.Ytakkhocaloigeaa.fnExactCompareWide
