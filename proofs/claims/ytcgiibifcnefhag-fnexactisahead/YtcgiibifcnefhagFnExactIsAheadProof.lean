/- Proved: for every two slices of bytes the law FnExactIsAhead returns true and changes neither argument. Conditions: none. -/
import Derived.Test.YtcgiibifcnefhagRows
import Derived.Test.YtcgiibifcnefhagByteS
import Derived.Test.YtcgiibifcnefhagAhead
import Derived.WalkSmall
import Derived.WalkKit
import Derived.ProofKit
import Derived.OpenShut
import Derived.ShutString
import Derived.ChangeOld
import Derived.Below
namespace Go.Proofs.Ytcgiibifcnefhag.fnExactIsAhead
open Go.ChangeShapes Go.WideShapes Go.ChangeAt Go.RowKit
open Go.ChangeMaps (open_string shut_string)
set_option linter.unusedVariables false

theorem own : ownKnob Try.prog.godebug = none := by kernel_rfl
theorem laidOut : laidOutB Try.prog = true := by kernel_rfl

/-- What the walk is told of a slice of integers that came in. -/
def IsRow (k : IntKind) (w : World) (a : Option Addr) (len cap : Nat) (zs : List Int) : Prop :=
  (a = none ∧ len = 0 ∧ cap = 0 ∧ zs = []) ∨
  ∃ x, a = some x ∧ len ≤ cap ∧ cap ≤ maxLen ∧ zs.length = cap ∧ (∀ i, i < zs.length → w.cell? (x.add i) = some (.int k (zs.getD i 0))) ∧ ∀ n ∈ zs, (Lit.int k n).wf = true

/-! The walk: the Go text returns true, and writes nothing that was there. -/
set_option maxHeartbeats 1000000 in
theorem walk (a0 : Option Addr) (len0 cap0 : Nat) (z0 : List Int) (a1 : Option Addr) (len1 cap1 : Nat) (z1 : List Int) (w : World) (w0 : IsRow .u8 w a0 len0 cap0 z0) (w1 : IsRow .u8 w a1 len1 cap1 z1) :
    Calls Try.prog 5 #[.slice a0 len0 cap0, .slice a1 len1 cap1] w fun e w' => e = .returned (.bool true) ∧ Below w.heap.size w w' := by
  have h0 := brow_of w0
  have h1 := brow_of w1
  clear w0 w1
  generalize z0.take len0 = xs at h0
  generalize z1.take len1 = ys at h1
  by_cases hl0 : len0 ≤ 1048576
  · by_cases hl1 : len1 ≤ 1048576
    · have hn : (aheadB xs ys != aheadB xs ys) = false := by simp
      have sx : sameB xs xs = true := by simp [sameB]
      have sy : sameB ys ys = true := by simp [sameB]
      go_enter Try.func5, Try.ntmps5
      go_wp2_with fail
      refine (toByteS_any _ _ _ xs _ h0 hl0).mono ?_
      rintro e w1 ⟨rfl, o1, b1⟩
      have h1' := h1.below b1 (Nat.le_refl _)
      go_wp2_with fail
      refine (toByteS_any _ _ _ ys _ h1' hl1).mono ?_
      rintro e w2 ⟨rfl, o2, b2⟩
      have r1 := (BRow.own o1 h0.2.1).below b2 (Nat.le_refl _)
      have r2 := BRow.own o2 h1.2.1
      go_wp2_with fail
      refine (specAhead_any _ _ _ _ _ _ xs ys _ r1 r2).mono ?_
      rintro e w' ⟨rfl, rfl⟩
      have c0 := h0.below (b1.trans (b2.mono b1.size)) (Nat.le_refl _)
      have c1 := h1'.below b2 (Nat.le_refl _)
      go_wp2_with fail
      refine (toByteS_any _ _ _ xs _ c0 hl0).mono ?_
      rintro e w3 ⟨rfl, o3, b3⟩
      have d1 := c1.below b3 (Nat.le_refl _)
      go_wp2_with fail
      refine (toByteS_any _ _ _ ys _ d1 hl1).mono ?_
      rintro e w4 ⟨rfl, o4, b4⟩
      have s3 := (BRow.own o3 h0.2.1).below b4 (Nat.le_refl _)
      have s4 := BRow.own o4 h1.2.1
      go_wp2_with fail
      refine (implAhead_any _ _ _ _ _ _ xs ys _ s3 s4).mono ?_
      rintro e w' ⟨rfl, rfl⟩
      have e0 := (c0.below b3 (Nat.le_refl _)).below b4 (Nat.le_refl _)
      have e1 := d1.below b4 (Nat.le_refl _)
      go_wp2_with fail
      refine (toByteS_any _ _ _ xs _ e0 hl0).mono ?_
      rintro e w5 ⟨rfl, o5, b5⟩
      have t3 := s3.below b5 (Nat.le_refl _)
      have t4 := s4.below b5 (Nat.le_refl _)
      have t5 := BRow.own o5 h0.2.1
      go_wp2_with fail
      refine (eqByteS_any _ _ _ _ _ _ xs xs _ t3 t5 hl0 hl0).mono ?_
      rintro e w6 ⟨rfl, n6, rfl⟩
      rw [sx]
      have f1 := (e1.below b5 (Nat.le_refl _)).below (below_drewN (Below.refl w5.heap.size w5) n6) (Nat.le_refl _)
      go_wp2_with fail
      refine (toByteS_any _ _ _ ys _ f1 hl1).mono ?_
      rintro e w7 ⟨rfl, o7, b7⟩
      have u4 := t4.below ((below_drewN (Below.refl w5.heap.size w5) n6).trans b7) (Nat.le_refl _)
      have u7 := BRow.own o7 h1.2.1
      go_wp2_with fail
      refine (eqByteS_any _ _ _ _ _ _ ys ys _ u4 u7 hl1 hl1).mono ?_
      rintro e w8 ⟨rfl, n8, rfl⟩
      rw [sy]
      go_wp2_with fail
      go_ret
      refine ⟨rfl, ?_⟩
      have g2 := b1.trans (b2.mono b1.size)
      have g3 := g2.trans (b3.mono g2.size)
      have g4 := g3.trans (b4.mono g3.size)
      have g5 := g4.trans (b5.mono g4.size)
      have g7 := (below_drewN g5 n6).trans (b7.mono (below_drewN g5 n6).size)
      exact below_drewN g7 n8
    · go_enter Try.func5, Try.ntmps5
      go_wp2_with fail
      go_ret
      exact ⟨rfl, Below.refl _ _⟩
  · go_enter Try.func5, Try.ntmps5
    go_wp2_with fail
    go_ret
    exact ⟨rfl, Below.refl _ _⟩

/-! The row's step. -/
set_option maxRecDepth 100000 in
theorem lifted (os : Os) (started : os.Started) (H : Type) (enc : TypeId × Value → H) :
    ReturnsInHanded {} Try.checked os 5 .any (Rows.fnExactIsAheadSpec.pre6 enc Try.prog Try.f5 Rows.fnExactIsAheadRow.domain false) (Rows.fnExactIsAheadSpec.post enc Try.prog Try.f5 false true false false) := by
  refine returnsInHanded_of_change (C := Try.checked) own started (by kernel_rfl) Try.func5
    (ChangeSpec.witness6 (enc := enc) (C := Try.checked) false ⟨#[], #[.slice none 0 0, .slice none 0 0], []⟩ 8 (by kernel_rfl) (by kernel_rfl) (by kernel_rfl) (by kernel_rfl)) ?_
  intro W base args ds gs before hval0 hW hcnd _
  have hval : ∀ (j : Nat) t v, Try.f5.params[j]? = some t → args[j]? = some v → Value.okWide Try.prog W .any base t v := hval0
  have hW' := hW
  obtain ⟨p, q, hA0, hV, rfl, hfz, hnd⟩ := hW
  have hA : DataW.TrodAll enc Try.prog W 0 (fun _ => true) true Try.f5.params.toList args.toList ds p := hA0
  rw [Try.params5] at hA hval
  obtain ⟨v0, vs0, d0, ds0, p0, q0, hargs, rfl, rfl, h0, r0⟩ := trodAll_cons hA
  obtain ⟨v1, vs1, d1, ds1, p1, q1, rfl, rfl, rfl, h1, r1⟩ := trodAll_cons r0
  obtain ⟨rfl, rfl, rfl⟩ := trodAll_nil r1
  obtain rfl : args = #[v0, v1] := by cases args; simp_all
  obtain ⟨rfl, rfl⟩ := trodVars_none hV
  obtain ⟨a0, len0, cap0, rfl⟩ := okWide_slice Try.underlying22 (hval 0 22 v0 rfl rfl)
  have k0 := h0
  have lt0 : ∀ x ∈ p0, x.block < W.heap.size := by obtain ⟨m, hm⟩ := k0; exact DataW.trod_lt m _ _ _ hm
  obtain ⟨z0, w0⟩ : ∃ zs, IsRow .u8 W a0 len0 cap0 zs := by
    obtain ⟨fuel, hf⟩ := h0
    rcases open_ints Try.underlying22 Try.underlying5 (by kernel_rfl) hf with ⟨hcs, _⟩ | ⟨x, l, c, zs, hcs, _, hl, hm, hz, _, hcell, hwz⟩
    · simp [Value.cells] at hcs
      obtain ⟨rfl, rfl, rfl⟩ := hcs
      exact ⟨[], .inl ⟨rfl, rfl, rfl, rfl⟩⟩
    · simp [Value.cells] at hcs
      obtain ⟨rfl, rfl, rfl⟩ := hcs
      exact ⟨zs, .inr ⟨_, rfl, hl, hm, by simpa using hz, hcell, hwz⟩⟩
  obtain ⟨a1, len1, cap1, rfl⟩ := okWide_slice Try.underlying22 (hval 1 22 v1 rfl rfl)
  have k1 := h1
  have lt1 : ∀ x ∈ p1, x.block < W.heap.size := by obtain ⟨m, hm⟩ := k1; exact DataW.trod_lt m _ _ _ hm
  obtain ⟨z1, w1⟩ : ∃ zs, IsRow .u8 W a1 len1 cap1 zs := by
    obtain ⟨fuel, hf⟩ := h1
    rcases open_ints Try.underlying22 Try.underlying5 (by kernel_rfl) hf with ⟨hcs, _⟩ | ⟨x, l, c, zs, hcs, _, hl, hm, hz, _, hcell, hwz⟩
    · simp [Value.cells] at hcs
      obtain ⟨rfl, rfl, rfl⟩ := hcs
      exact ⟨[], .inl ⟨rfl, rfl, rfl, rfl⟩⟩
    · simp [Value.cells] at hcs
      obtain ⟨rfl, rfl, rfl⟩ := hcs
      exact ⟨zs, .inr ⟨_, rfl, hl, hm, by simpa using hz, hcell, hwz⟩⟩
  clear hA0 hval0
  refine (walk a0 len0 cap0 z0 a1 len1 cap1 z1 W w0 w1).mono fun e W' ⟨he, bel⟩ => ?_
  subst he
  exact ⟨_, rfl, _, _, _, [], _, [], hW', trodAll_mk1 (shut_bool Try.underlying4 _), (trodAll_cons_mk (Below.trod laidOut (by kernel_rfl) (of_decide_eq_true (by kernel_rfl)) k0 bel lt0) (trodAll_cons_mk (Below.trod laidOut (by kernel_rfl) (of_decide_eq_true (by kernel_rfl)) k1 bel lt1) trodAll_mk0)), rfl, bel.frame _, fun h => by cases h⟩

theorem over : Rows.fnExactIsAheadRow.holds Try.pinned (OpenSpec.ofChange Rows.fnExactIsAheadSpec) :=
  OpenClaim.holds_of_wide 5 Try.f5 rfl rfl rfl rfl rfl rfl rfl ⟨rfl, rfl, rfl, rfl, rfl⟩ rfl rfl rfl rfl rfl (by kernel_rfl) Try.func5 (by kernel_rfl)
    (of_decide_eq_true (by kernel_rfl)) (by unfold Func.isWrapper; first | (rw [if_pos (by decide +kernel)]; kernel_rfl) | (rw [if_neg (by decide +kernel)]; exact ⟨rfl, rfl⟩))
    (fun os started H enc _ => lifted os started H enc)

/-- The statement. -/
theorem proved : Rows.FnExactIsAheadSaid := over
#print axioms proved
end Go.Proofs.Ytcgiibifcnefhag.fnExactIsAhead
