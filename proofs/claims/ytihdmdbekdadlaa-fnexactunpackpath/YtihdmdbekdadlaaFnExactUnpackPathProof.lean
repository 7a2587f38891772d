/- Proved: for every slice of bytes the law FnExactUnpackPath returns true and changes no argument. Conditions: none. -/
import Derived.Test.YtihdmdbekdadlaaRows
import Derived.Test.YtihdmdbekdadlaaJ1
import Derived.Test.YtihdmdbekdadlaaJ7
import Derived.WalkSmall
import Derived.WalkKit
import Derived.ProofKit
import Derived.OpenShut
import Derived.ShutString
import Derived.ChangeOld
import Derived.Below
namespace Go.Proofs.Ytihdmdbekdadlaa.fnExactUnpackPath
open Go.ChangeShapes Go.WideShapes Go.ChangeAt Go.RowKit
open Go.ChangeMaps (open_string shut_string)
set_option linter.unusedVariables false

theorem own : ownKnob Try.prog.godebug = none := by kernel_rfl
theorem laidOut : laidOutB Try.prog = true := by kernel_rfl

/-- What the walk is told of a slice of integers that came in. -/
def IsRow (k : IntKind) (w : World) (a : Option Addr) (len cap : Nat) (zs : List Int) : Prop :=
  (a = none ∧ len = 0 ∧ cap = 0 ∧ zs = []) ∨
  ∃ x, a = some x ∧ len ≤ cap ∧ cap ≤ maxLen ∧ zs.length = cap ∧ (∀ i, i < zs.length → w.cell? (x.add i) = some (.int k (zs.getD i 0))) ∧ ∀ n ∈ zs, (Lit.int k n).wf = true

/-! The walk: the Go text returns true, and writes nothing that was there. -/
set_option maxHeartbeats 4000000 in
theorem walk (a0 : Option Addr) (len0 cap0 : Nat) (z0 : List Int) (w : World) (w0 : IsRow .u8 w a0 len0 cap0 z0) :
    Calls Try.prog 6 #[.slice a0 len0 cap0] w fun e w' => e = .returned (.bool true) ∧ Below w.heap.size w w' := by
  have h0 := brow_of w0
  clear w0
  generalize z0.take len0 = xs at h0
  by_cases hl0 : len0 ≤ 1048576
  · have SP : Hid (∀ W g, BRow W (some ⟨g, 0, none⟩) len0 xs → Calls Try.prog 12 #[.slice (some ⟨g, 0, none⟩) len0 len0] W fun e w' => ∃ a' cap', e = .returned (.agg #[.int .i64 (upCode xs), .slice a' (upPath xs).length cap', .bool (upEnd xs)]) ∧ w'.ownsRow W.heap.size 2 1 (.slice a' (upPath xs).length cap') (upPath xs).length ((upPath xs).map (Value.int .i64)) ∧ Below W.heap.size W w') := fun W g h => specUnpack_any _ _ _ xs W h hl0
    have IM : Hid (∀ W g, BRow W (some ⟨g, 0, none⟩) len0 xs → Calls Try.prog 9 #[.slice (some ⟨g, 0, none⟩) len0 len0] W fun e w' => ∃ a' cap', e = .returned (.agg #[.int .i64 (upCode xs), .slice a' (upPath xs).length cap', .bool (upEnd xs)]) ∧ OwnS w' W.heap.size 2 1 ⟨a', (upPath xs).length, cap'⟩ ((upPath xs).map (Value.int .i64)) ∧ Below W.heap.size W w') := fun W g h => implUnpack_any _ _ _ xs W h hl0
    have sx : sameB xs xs = true := by simp [sameB]
    have hln := upPath_length xs
    generalize upCode xs = c at SP IM
    generalize upEnd xs = E at SP IM
    generalize upPath xs = zs at SP IM hln
    obtain ⟨L, hL⟩ : ∃ L, L = zs.length := ⟨_, rfl⟩
    rw [← hL] at SP IM
    have hL7 : L ≤ 1048576 := by omega
    clear hL hln
    go_enter Try.func6, Try.ntmps6
    go_wp2_with fail
    refine (toByteS_any _ _ _ xs _ h0 hl0).mono ?_
    rintro e w1 ⟨rfl, o1, b1⟩
    have r1 := BRow.own o1 h0.2.1
    go_wp2_with fail
    refine ((unhide SP) _ _ r1).mono ?_
    rintro e w2 ⟨a2, c2, rfl, o2, b2⟩
    go_wp2_with fail
    obtain ⟨k3, s3, p0, p1, p2⟩ := new3 w2 (.int .i64 c) (.slice a2 L c2) (.bool E) 27
    generalize w2.alloc (Obj.cells #[Value.int IntKind.i64 c, Value.slice a2 L c2, Value.bool E] 27) = w3 at k3 s3 p0 p1 p2
    have F2 := b1.trans (b2.mono b1.size)
    have F3 := F2.trans (k3.mono F2.size)
    have R2 := (IRow.own2 o2).below k3 (Nat.le_refl _)
    have A3 := h0.below F3 (Nat.le_refl _)
    refine (toByteS_any _ _ _ xs _ A3 hl0).mono ?_
    rintro e w4 ⟨rfl, o4, b4⟩
    have r4 := BRow.own o4 h0.2.1
    have hs34 : w3.heap.size < w4.heap.size := (o4.lt _ rfl).2
    go_wp2_with fail
    refine ((unhide IM) _ _ r4).mono ?_
    rintro e w5 ⟨a5, c5, rfl, o5, b5⟩
    have G5 := b4.trans (b5.mono b4.size)
    have s5 : w2.heap.size < w5.heap.size := Nat.lt_of_lt_of_le s3 G5.size
    have p0' : ∀ o, (w5.alloc o).cell? ⟨w2.heap.size, 0, none⟩ = some (.int .i64 c) := fun o => ((below_alloc w5 o).cell s5).trans ((G5.cell s3).trans p0)
    have p1' : ∀ o, (w5.alloc o).cell? ⟨w2.heap.size, 1, none⟩ = some (.slice a2 L c2) := fun o => ((below_alloc w5 o).cell s5).trans ((G5.cell s3).trans p1)
    have p2' : ∀ o, (w5.alloc o).cell? ⟨w2.heap.size, 2, none⟩ = some (.bool E) := fun o => ((below_alloc w5 o).cell s5).trans ((G5.cell s3).trans p2)
    go_wp2_with fail
    clear p0' p1' p2'
    obtain ⟨k6, s6, q0, q1, q2⟩ := new3 w5 (.int .i64 c) (.slice a5 L c5) (.bool E) 27
    generalize w5.alloc (Obj.cells #[Value.int IntKind.i64 c, Value.slice a5 L c5, Value.bool E] 27) = w6 at k6 s6 q0 q1 q2
    have R5 := o5.irow.below k6 (Nat.le_refl _)
    have G6 := G5.trans (k6.mono G5.size)
    refine (eqPath_same c E a5 a2 L c5 c2 zs _ R5 (R2.below G6 (Nat.le_refl _)) hL7).mono ?_
    rintro e w7 ⟨rfl, b7⟩
    have G7 := G6.trans (b7.mono G6.size)
    have K7 := k6.trans (b7.mono k6.size)
    have A7 := A3.below G7 (Nat.le_refl _)
    go_wp2_with fail
    refine (toByteS_any _ _ _ xs _ A7 hl0).mono ?_
    rintro e w8 ⟨rfl, o8, b8⟩
    have r8 := BRow.own o8 h0.2.1
    have X8 := ((r4.below b5 (Nat.le_refl _)).below K7 (Nat.le_refl _)).below b8 (Nat.le_refl _)
    go_wp2_with fail
    refine (eqByteS_any _ _ _ _ _ _ xs xs _ X8 r8 hl0 hl0).mono ?_
    rintro e w' ⟨rfl, n9, rfl⟩
    rw [sx]
    have b9 : Below w8.heap.size w8 (w8.drewN n9) := below_drewN (Below.refl _ _) n9
    generalize w8.drewN n9 = w9 at b9
    have b89 := b8.trans (b9.mono b8.size)
    have M9 := b7.trans (b89.mono b7.size)
    have L9 := K7.trans (b89.mono K7.size)
    have G9 := G7.trans (b89.mono G7.size)
    have x9 := own_below (own_below o4 b5 (Nat.le_refl _)) L9 (Nat.le_refl _)
    have q0a := (M9.cell s6).trans q0
    have q1a := (M9.cell s6).trans q1
    have q2a := (M9.cell s6).trans q2
    have o9 := o5.keep (w' := w9) (fun x hx => L9.block _ (o5.blk hx).2)
    have s9 : w5.heap.size < w9.heap.size := Nat.lt_of_lt_of_le s6 M9.size
    clear b7 b8 b9 b89 X8 r8 o8 M9 K7
    go_wp2_with fail
    refine (markByteS_any w3.heap.size w3.heap.size len0 len0 xs 1 _ x9 (by omega) (by omega) (by omega)).mono ?_
    rintro e w10 ⟨rfl, o10, g10⟩
    have G10 : Below w3.heap.size w3 w10 := G9.grown g10 G9.size (fun g hg => by cases hg; exact Nat.le_refl _)
    have s35 : w3.heap.size < w5.heap.size := Nat.lt_of_lt_of_le hs34 b5.size
    have q0b := g10.cell q0a (fun e => by have := Option.some.inj e; simp only at this; omega)
    have q1b := g10.cell q1a (fun e => by have := Option.some.inj e; simp only at this; omega)
    have q2b := g10.cell q2a (fun e => by have := Option.some.inj e; simp only at this; omega)
    have o10b := o9.keep (w' := w10) (fun x hx => g10.block _ (o9.blk hx).2 (fun e => by have := Option.some.inj e; have := (o5.blk hx).1; omega))
    have s10 : w5.heap.size < w10.heap.size := Nat.lt_of_lt_of_le s9 g10.size
    have hk : decide ((1 + (len0 : Int)) < 0) = false := decide_eq_false (by omega)
    have p0a := (G10.cell s3).trans p0
    have p1a := (G10.cell s3).trans p1
    have p2a := (G10.cell s3).trans p2
    clear o10 x9 g10 q0a q1a q2a o9 q0 q1 q2 L9
    go_wp2_with fail
    clear p0a p1a p2a
    refine (eqPath_same c E a5 a2 L c5 c2 zs _ o10b.irow (R2.below G10 (Nat.le_refl _)) hL7).mono ?_
    rintro e w11 ⟨rfl, b11⟩
    have G11 := G10.trans (b11.mono G10.size)
    have q0c := (b11.cell s10).trans q0b
    have q1c := (b11.cell s10).trans q1b
    have q2c := (b11.cell s10).trans q2b
    have o11 := o10b.keep (w' := w11) (fun x hx => b11.block _ (o10b.blk hx).2)
    have s11 : w5.heap.size < w11.heap.size := Nat.lt_of_lt_of_le s10 b11.size
    clear q0b q1b q2b o10b
    go_wp2_with fail
    refine (markPath_own w4.heap.size L c5 c E a5 zs 1 _ o11 (by omega) (by omega) (by omega)).mono ?_
    rintro e w12 ⟨rfl, o12, g12⟩
    have hg5 : ∀ g, (a5.map (·.block)) = some g → w4.heap.size ≤ g ∧ g < w5.heap.size := fun g hg => by
      cases a5 with
      | none => cases hg
      | some x => cases hg; exact o5.blk rfl
    have q0d := g12.cell q0c (fun e => by have := (hg5 _ e.symm).2; exact absurd this (Nat.lt_irrefl _))
    have q1d := g12.cell q1c (fun e => by have := (hg5 _ e.symm).2; exact absurd this (Nat.lt_irrefl _))
    have q2d := g12.cell q2c (fun e => by have := (hg5 _ e.symm).2; exact absurd this (Nat.lt_irrefl _))
    have G12 : Below w3.heap.size w3 w12 := G11.grown g12 G11.size (fun g hg => Nat.le_trans (Nat.le_of_lt hs34) (hg5 g hg).1)
    have M12 := o12.irow
    have s12 : w5.heap.size < w12.heap.size := Nat.lt_of_lt_of_le s11 g12.size
    clear q0c q1c q2c o11 o12
    go_wp2_with fail
    refine (heldPath_any L c5 c E a5 1 _ M12 (by omega) (by omega) (by omega)).mono ?_
    rintro e w13 ⟨rfl, b13⟩
    have G13 := G12.trans (b13.mono G12.size)
    have q0e := (b13.cell s12).trans q0d
    have q1e := (b13.cell s12).trans q1d
    have q2e := (b13.cell s12).trans q2d
    have M13 := IRow.below M12 b13 (Nat.le_refl _)
    have s13 : w5.heap.size < w13.heap.size := Nat.lt_of_lt_of_le s12 b13.size
    have hne : ((1 + (L : Int)) != 1 + (L : Int)) = false := by simp
    have A13 := A3.below G13 (Nat.le_refl _)
    clear q0d q1d q2d M12
    go_wp2_with fail
    refine (toByteS_any _ _ _ xs _ A13 hl0).mono ?_
    rintro e w14 ⟨rfl, o14, b14⟩
    have r14 := BRow.own o14 h0.2.1
    have G14 := G13.trans (b14.mono G13.size)
    go_wp2_with fail
    refine ((unhide IM) _ _ r14).mono ?_
    rintro e w15 ⟨a15, c15, rfl, o15, b15⟩
    have b145 := b14.trans (b15.mono b14.size)
    have G15 := G13.trans (b145.mono G13.size)
    have q0f := (b145.cell s13).trans q0e
    have q1f := (b145.cell s13).trans q1e
    have q2f := (b145.cell s13).trans q2e
    have M15 := IRow.below M13 b145 (Nat.le_refl _)
    have s15 : w5.heap.size < w15.heap.size := Nat.lt_of_lt_of_le s13 b145.size
    have s215 : w2.heap.size < w15.heap.size := Nat.lt_of_lt_of_le s3 G15.size
    have p0' : ∀ o, (w15.alloc o).cell? ⟨w2.heap.size, 0, none⟩ = some (.int .i64 c) := fun o => ((below_alloc w15 o).cell s215).trans ((G15.cell s3).trans p0)
    have p1' : ∀ o, (w15.alloc o).cell? ⟨w2.heap.size, 1, none⟩ = some (.slice a2 L c2) := fun o => ((below_alloc w15 o).cell s215).trans ((G15.cell s3).trans p1)
    have p2' : ∀ o, (w15.alloc o).cell? ⟨w2.heap.size, 2, none⟩ = some (.bool E) := fun o => ((below_alloc w15 o).cell s215).trans ((G15.cell s3).trans p2)
    clear q0e q1e q2e M13
    go_wp2_with fail
    clear p0' p1' p2'
    obtain ⟨k16, s16, t0, t1, t2⟩ := new3 w15 (.int .i64 c) (.slice a15 L c15) (.bool E) 27
    generalize w15.alloc (Obj.cells #[Value.int IntKind.i64 c, Value.slice a15 L c15, Value.bool E] 27) = w16 at k16 s16 t0 t1 t2
    have G16 := G15.trans (k16.mono G15.size)
    have R15 := o15.irow.below k16 (Nat.le_refl _)
    refine (eqPath_same c E a15 a2 L c15 c2 zs _ R15 (R2.below G16 (Nat.le_refl _)) hL7).mono ?_
    rintro e w17 ⟨rfl, b17⟩
    have k17 := k16.trans (b17.mono k16.size)
    have q0g := (k17.cell s15).trans q0f
    have q1g := (k17.cell s15).trans q1f
    have q2g := (k17.cell s15).trans q2f
    have M17 := IRow.below M15 k17 (Nat.le_refl _)
    have G17 := G15.trans (k17.mono G15.size)
    clear q0f q1f q2f M15
    go_wp2_with fail
    refine (heldPath_any L c5 c E a5 1 _ M17 (by omega) (by omega) (by omega)).mono ?_
    rintro e w18 ⟨rfl, b18⟩
    have G18 := G17.trans (b18.mono G17.size)
    go_wp2_with fail
    go_ret
    exact ⟨rfl, F3.trans (G18.mono F3.size)⟩
  · go_enter Try.func6, Try.ntmps6
    go_wp2_with fail
    go_ret
    exact ⟨rfl, Below.refl _ _⟩

/-! The row's step. -/
set_option maxRecDepth 100000 in
theorem lifted (os : Os) (started : os.Started) (H : Type) (enc : TypeId × Value → H) :
    ReturnsInHanded {} Try.checked os 6 .any (Rows.fnExactUnpackPathSpec.pre6 enc Try.prog Try.f6 Rows.fnExactUnpackPathRow.domain false) (Rows.fnExactUnpackPathSpec.post enc Try.prog Try.f6 false true false false) := by
  refine returnsInHanded_of_change (C := Try.checked) own started (by kernel_rfl) Try.func6
    (ChangeSpec.witness6 (enc := enc) (C := Try.checked) false ⟨#[], #[.slice none 0 0], []⟩ 8 (by kernel_rfl) (by kernel_rfl) (by kernel_rfl) (by kernel_rfl)) ?_
  intro W base args ds gs before hval0 hW hcnd _
  have hval : ∀ (j : Nat) t v, Try.f6.params[j]? = some t → args[j]? = some v → Value.okWide Try.prog W .any base t v := hval0
  have hW' := hW
  obtain ⟨p, q, hA0, hV, rfl, hfz, hnd⟩ := hW
  have hA : DataW.TrodAll enc Try.prog W 0 (fun _ => true) true Try.f6.params.toList args.toList ds p := hA0
  rw [Try.params6] at hA hval
  obtain ⟨v0, vs0, d0, ds0, p0, q0, hargs, rfl, rfl, h0, r0⟩ := trodAll_cons hA
  obtain ⟨rfl, rfl, rfl⟩ := trodAll_nil r0
  obtain rfl : args = #[v0] := by cases args; simp_all
  obtain ⟨rfl, rfl⟩ := trodVars_none hV
  obtain ⟨a0, len0, cap0, rfl⟩ := okWide_slice Try.underlying22 (hval 0 22 v0 rfl rfl)
  have k0 := h0
  have lt0 : ∀ x ∈ p0, x.block < W.heap.size := by obtain ⟨m, hm⟩ := k0; exact DataW.trod_lt m _ _ _ hm
  obtain ⟨z0, w0⟩ : ∃ zs, IsRow .u8 W a0 len0 cap0 zs := by
    obtain ⟨fuel, hf⟩ := h0
    rcases open_ints Try.underlying22 Try.underlying5 (by kernel_rfl) hf with ⟨hcs, _⟩ | ⟨x, l, c, zs, hcs, _, hl, hm, hz, _, hcell, hwz⟩
    · simp [Value.cells] at hcs
      obtain ⟨rfl, rfl, rfl⟩ := hcs
      exact ⟨[], .inl ⟨rfl, rfl, rfl, rfl⟩⟩
    · simp [Value.cells] at hcs
      obtain ⟨rfl, rfl, rfl⟩ := hcs
      exact ⟨zs, .inr ⟨_, rfl, hl, hm, by simpa using hz, hcell, hwz⟩⟩
  clear hA0 hval0
  refine (walk a0 len0 cap0 z0 W w0).mono fun e W' ⟨he, bel⟩ => ?_
  subst he
  exact ⟨_, rfl, _, _, _, [], _, [], hW', trodAll_mk1 (shut_bool Try.underlying4 _), (trodAll_cons_mk (Below.trod laidOut (by kernel_rfl) (of_decide_eq_true (by kernel_rfl)) k0 bel lt0) trodAll_mk0), rfl, bel.frame _, fun h => by cases h⟩

theorem over : Rows.fnExactUnpackPathRow.holds Try.pinned (OpenSpec.ofChange Rows.fnExactUnpackPathSpec) :=
  OpenClaim.holds_of_wide 6 Try.f6 rfl rfl rfl rfl rfl rfl rfl ⟨rfl, rfl, rfl, rfl, rfl⟩ rfl rfl rfl rfl rfl (by kernel_rfl) Try.func6 (by kernel_rfl)
    (of_decide_eq_true (by kernel_rfl)) (by unfold Func.isWrapper; first | (rw [if_pos (by decide +kernel)]; kernel_rfl) | (rw [if_neg (by decide +kernel)]; exact ⟨rfl, rfl⟩))
    (fun os started H enc _ => lifted os started H enc)

/-- The statement. -/
theorem proved : Rows.FnExactUnpackPathSaid := over
#print axioms proved
end Go.Proofs.Ytihdmdbekdadlaa.fnExactUnpackPath
