/- Proved: for every slice of numbers the law FnExactPackPath returns true and changes no argument. Conditions: none. -/
import Derived.Test.YtihdmdbekdadlaaRows
import Derived.Test.YtihdmdbekdadlaaJ8
import Derived.Test.YtihdmdbekdadlaaJ6
import Derived.Test.YtihdmdbekdadlaaJ1
import Derived.Test.YtihdmdbekdadlaaJ3
import Derived.Test.YtihdmdbekdadlaaJ2
import Derived.WalkSmall
import Derived.WalkKit
import Derived.ProofKit
import Derived.OpenShut
import Derived.ShutString
import Derived.ChangeOld
import Derived.Below
namespace Go.Proofs.Ytihdmdbekdadlaa.fnExactPackPath
open Go.ChangeShapes Go.WideShapes Go.ChangeAt Go.RowKit
set_option linter.unusedVariables false

theorem own : ownKnob Try.prog.godebug = none := by kernel_rfl
theorem laidOut : laidOutB Try.prog = true := by kernel_rfl

/-- What the walk is told of a slice of integers that came in. -/
def IsRow (k : IntKind) (w : World) (a : Option Addr) (len cap : Nat) (zs : List Int) : Prop :=
  (a = none ∧ len = 0 ∧ cap = 0 ∧ zs = []) ∨
  ∃ x, a = some x ∧ len ≤ cap ∧ cap ≤ maxLen ∧ zs.length = cap ∧ (∀ i, i < zs.length → w.cell? (x.add i) = some (.int k (zs.getD i 0))) ∧ ∀ n ∈ zs, (Lit.int k n).wf = true

/-! The walk: the Go text returns true, and writes nothing that was there. -/
set_option maxHeartbeats 4000000 in
theorem walk (a0 : Option Addr) (len0 cap0 : Nat) (z0 : List Int) (a1 : Bool) (w : World) (w0 : IsRow .i64 w a0 len0 cap0 z0) :
    Calls Try.prog 5 #[.slice a0 len0 cap0, .bool a1] w fun e w' => e = .returned (.bool true) ∧ Below w.heap.size w w' := by
  have h0 := irow_of w0
  clear w0
  generalize z0.take len0 = xs at h0
  by_cases hl0 : len0 ≤ 1048576
  · have SP : Hid (∀ W g, IRow W (some ⟨g, 0, none⟩) len0 xs → Calls Try.prog 14 #[.slice (some ⟨g, 0, none⟩) len0 len0, .bool a1] W fun e w' => ∃ a' cap', e = .returned (.agg #[.int .i64 (ppCode xs), .slice a' (ppB xs a1).length cap']) ∧ w'.ownsRow W.heap.size 5 1 (.slice a' (ppB xs a1).length cap') (ppB xs a1).length ((ppB xs a1).map (Value.int .u8)) ∧ Below W.heap.size W w') := fun W g h => specPack_any _ _ _ xs a1 W h (fun e => by cases e) hl0
    have IM : Hid (∀ W g, IRow W (some ⟨g, 0, none⟩) len0 xs → Calls Try.prog 11 #[.slice (some ⟨g, 0, none⟩) len0 len0, .bool a1] W fun e w' => ∃ a' cap', e = .returned (.agg #[.int .i64 (ppCode xs), .slice a' (ppB xs a1).length cap']) ∧ w'.ownsRow W.heap.size 5 1 (.slice a' (ppB xs a1).length cap') (ppB xs a1).length ((ppB xs a1).map (Value.int .u8)) ∧ Below W.heap.size W w') := fun W g h => implPack_any _ _ _ xs a1 W h (fun e => by cases e) hl0
    have sx : sameB xs xs = true := by simp [sameB]
    have HRG := hide (ppB_range xs a1)
    have hln := ppB_length xs a1
    generalize ppCode xs = c at SP IM
    generalize ppB xs a1 = zs at SP IM HRG hln
    obtain ⟨L, hL⟩ : ∃ L, L = zs.length := ⟨_, rfl⟩
    rw [← hL] at SP IM
    have hL7 : L ≤ 1048576 := by omega
    clear hL hln
    go_enter Try.func5, Try.ntmps5
    go_wp2_with fail
    refine (toInt64S_any _ _ _ xs _ h0 hl0).mono ?_
    rintro e w1 ⟨rfl, o1, b1⟩
    have r1 := IRow.own o1
    go_wp2_with fail
    refine ((unhide SP) _ _ r1).mono ?_
    rintro e w2 ⟨a2, c2, rfl, o2, b2⟩
    go_wp2_with fail
    obtain ⟨k3, s3, p0, p1⟩ := new2 w2 (.int .i64 c) (.slice a2 L c2) 31
    generalize w2.alloc (Obj.cells #[Value.int IntKind.i64 c, Value.slice a2 L c2] 31) = w3 at k3 s3 p0 p1
    have F2 := b1.trans (b2.mono b1.size)
    have F3 := F2.trans (k3.mono F2.size)
    have R2 := (BRow.own2 o2 (unhide HRG)).below k3 (Nat.le_refl _)
    have A3 := h0.below F3 (Nat.le_refl _)
    refine (toInt64S_any _ _ _ xs _ A3 hl0).mono ?_
    rintro e w4 ⟨rfl, o4, b4⟩
    have r4 := IRow.own o4
    have hs34 : w3.heap.size < w4.heap.size := (o4.lt _ rfl).2
    go_wp2_with fail
    refine ((unhide IM) _ _ r4).mono ?_
    rintro e w5 ⟨a5, c5, rfl, o5, b5⟩
    have G5 := b4.trans (b5.mono b4.size)
    have s5 : w2.heap.size < w5.heap.size := Nat.lt_of_lt_of_le s3 G5.size
    have p0' : ∀ o, (w5.alloc o).cell? ⟨w2.heap.size, 0, none⟩ = some (.int .i64 c) := fun o => ((below_alloc w5 o).cell s5).trans ((G5.cell s3).trans p0)
    have p1' : ∀ o, (w5.alloc o).cell? ⟨w2.heap.size, 1, none⟩ = some (.slice a2 L c2) := fun o => ((below_alloc w5 o).cell s5).trans ((G5.cell s3).trans p1)
    go_wp2_with fail
    clear p0' p1'
    obtain ⟨k6, s6, q0, q1⟩ := new2 w5 (.int .i64 c) (.slice a5 L c5) 31
    generalize w5.alloc (Obj.cells #[Value.int IntKind.i64 c, Value.slice a5 L c5] 31) = w6 at k6 s6 q0 q1
    have R5 := (BRow.own2 o5 (unhide HRG)).below k6 (Nat.le_refl _)
    have G6 := G5.trans (k6.mono G5.size)
    refine (eqBytes_same c a5 a2 L c5 c2 zs _ R5 (R2.below G6 (Nat.le_refl _)) hL7).mono ?_
    rintro e w7 ⟨rfl, b7⟩
    have G7 := G6.trans (b7.mono G6.size)
    have K7 := k6.trans (b7.mono k6.size)
    have A7 := A3.below G7 (Nat.le_refl _)
    go_wp2_with fail
    refine (toInt64S_any _ _ _ xs _ A7 hl0).mono ?_
    rintro e w8 ⟨rfl, o8, b8⟩
    have r8 := IRow.own o8
    have X8 := ((r4.below b5 (Nat.le_refl _)).below K7 (Nat.le_refl _)).below b8 (Nat.le_refl _)
    go_wp2_with fail
    refine (eqInt64S_any _ _ _ _ _ _ xs xs _ X8 r8 hl0 hl0).mono ?_
    rintro e w' ⟨rfl, n9, rfl⟩
    rw [sx]
    have b9 : Below w8.heap.size w8 (w8.drewN n9) := below_drewN (Below.refl _ _) n9
    generalize w8.drewN n9 = w9 at b9
    have b89 := b8.trans (b9.mono b8.size)
    have M9 := b7.trans (b89.mono b7.size)
    have L9 := K7.trans (b89.mono K7.size)
    have G9 := G7.trans (b89.mono G7.size)
    have x9 := own_below (own_below o4 b5 (Nat.le_refl _)) L9 (Nat.le_refl _)
    have q0a := (M9.cell s6).trans q0
    have q1a := (M9.cell s6).trans q1
    have o9 := own_below o5 L9 (Nat.le_refl _)
    have s9 : w5.heap.size < w9.heap.size := Nat.lt_of_lt_of_le s6 M9.size
    clear b7 b8 b9 b89 X8 r8 o8 M9 K7
    go_wp2_with fail
    refine (markInt64S_any w3.heap.size w3.heap.size len0 len0 xs 1 _ x9 (by omega) (by omega) (by omega)).mono ?_
    rintro e w10 ⟨rfl, o10, g10⟩
    have G10 : Below w3.heap.size w3 w10 := G9.grown g10 G9.size (fun g hg => by cases hg; exact Nat.le_refl _)
    have s35 : w3.heap.size < w5.heap.size := Nat.lt_of_lt_of_le hs34 b5.size
    have q0b := g10.cell q0a (fun e => by have := Option.some.inj e; simp only at this; omega)
    have q1b := g10.cell q1a (fun e => by have := Option.some.inj e; simp only at this; omega)
    have o10b := own_grown o9 g10 (fun g hg e => by cases e; exact absurd (Nat.lt_of_lt_of_le hs34 (o5.lt _ hg).1) (Nat.lt_irrefl _))
    have s10 : w5.heap.size < w10.heap.size := Nat.lt_of_lt_of_le s9 g10.size
    have hk : decide ((1 + (len0 : Int)) < 0) = false := decide_eq_false (by omega)
    have p0a := (G10.cell s3).trans p0
    have p1a := (G10.cell s3).trans p1
    clear o10 x9 g10 q0a q1a o9 q0 q1 L9
    go_wp2_with fail
    clear p0a p1a
    refine (eqBytes_same c a5 a2 L c5 c2 zs _ (BRow.own2 o10b (unhide HRG)) (R2.below G10 (Nat.le_refl _)) hL7).mono ?_
    rintro e w11 ⟨rfl, b11⟩
    have G11 := G10.trans (b11.mono G10.size)
    have q0c := (b11.cell s10).trans q0b
    have q1c := (b11.cell s10).trans q1b
    have o11 := own_below o10b b11 (Nat.le_refl _)
    have s11 : w5.heap.size < w11.heap.size := Nat.lt_of_lt_of_le s10 b11.size
    clear q0b q1b o10b
    go_wp2_with fail
    refine (markBytesResult_own w4.heap.size L c5 c a5 zs 1 _ o11 (by omega) (by omega) (by omega)).mono ?_
    rintro e w12 ⟨rfl, o12, g12⟩
    have hg5 : ∀ g, (Value.slice a5 L c5).ownBlock = some g → g < w5.heap.size := fun g hg => (o5.lt g hg).2
    have q0d := g12.cell q0c (fun e => by have := hg5 _ e.symm; exact absurd this (Nat.lt_irrefl _))
    have q1d := g12.cell q1c (fun e => by have := hg5 _ e.symm; exact absurd this (Nat.lt_irrefl _))
    have G12 : Below w3.heap.size w3 w12 := G11.grown g12 G11.size (fun g hg => Nat.le_trans (Nat.le_of_lt hs34) (o5.lt g hg).1)
    have M12 := BRow.own2 o12 (marks_range 1 L)
    have s12 : w5.heap.size < w12.heap.size := Nat.lt_of_lt_of_le s11 g12.size
    clear q0c q1c o11 o12
    go_wp2_with fail
    refine (heldBytesResult_any L c5 c a5 1 _ M12 (by omega) (by omega) (by omega)).mono ?_
    rintro e w13 ⟨rfl, b13⟩
    have G13 := G12.trans (b13.mono G12.size)
    have q0e := (b13.cell s12).trans q0d
    have q1e := (b13.cell s12).trans q1d
    have M13 := M12.below b13 (Nat.le_refl _)
    have s13 : w5.heap.size < w13.heap.size := Nat.lt_of_lt_of_le s12 b13.size
    have hne : ((1 + (L : Int)) != 1 + (L : Int)) = false := by simp
    have A13 := A3.below G13 (Nat.le_refl _)
    clear q0d q1d M12
    go_wp2_with fail
    refine (toInt64S_any _ _ _ xs _ A13 hl0).mono ?_
    rintro e w14 ⟨rfl, o14, b14⟩
    have r14 := IRow.own o14
    have G14 := G13.trans (b14.mono G13.size)
    go_wp2_with fail
    refine ((unhide IM) _ _ r14).mono ?_
    rintro e w15 ⟨a15, c15, rfl, o15, b15⟩
    have b145 := b14.trans (b15.mono b14.size)
    have G15 := G13.trans (b145.mono G13.size)
    have q0f := (b145.cell s13).trans q0e
    have q1f := (b145.cell s13).trans q1e
    have M15 := M13.below b145 (Nat.le_refl _)
    have s15 : w5.heap.size < w15.heap.size := Nat.lt_of_lt_of_le s13 b145.size
    have s215 : w2.heap.size < w15.heap.size := Nat.lt_of_lt_of_le s3 G15.size
    have p0' : ∀ o, (w15.alloc o).cell? ⟨w2.heap.size, 0, none⟩ = some (.int .i64 c) := fun o => ((below_alloc w15 o).cell s215).trans ((G15.cell s3).trans p0)
    have p1' : ∀ o, (w15.alloc o).cell? ⟨w2.heap.size, 1, none⟩ = some (.slice a2 L c2) := fun o => ((below_alloc w15 o).cell s215).trans ((G15.cell s3).trans p1)
    clear q0e q1e M13
    go_wp2_with fail
    clear p0' p1'
    obtain ⟨k16, s16, t0, t1⟩ := new2 w15 (.int .i64 c) (.slice a15 L c15) 31
    generalize w15.alloc (Obj.cells #[Value.int IntKind.i64 c, Value.slice a15 L c15] 31) = w16 at k16 s16 t0 t1
    have G16 := G15.trans (k16.mono G15.size)
    have R15 := (BRow.own2 o15 (unhide HRG)).below k16 (Nat.le_refl _)
    refine (eqBytes_same c a15 a2 L c15 c2 zs _ R15 (R2.below G16 (Nat.le_refl _)) hL7).mono ?_
    rintro e w17 ⟨rfl, b17⟩
    have k17 := k16.trans (b17.mono k16.size)
    have q0g := (k17.cell s15).trans q0f
    have q1g := (k17.cell s15).trans q1f
    have M17 := M15.below k17 (Nat.le_refl _)
    have G17 := G15.trans (k17.mono G15.size)
    clear q0f q1f M15
    go_wp2_with fail
    refine (heldBytesResult_any L c5 c a5 1 _ M17 (by omega) (by omega) (by omega)).mono ?_
    rintro e w18 ⟨rfl, b18⟩
    have G18 := G17.trans (b18.mono G17.size)
    go_wp2_with fail
    go_ret
    exact ⟨rfl, F3.trans (G18.mono F3.size)⟩
  · go_enter Try.func5, Try.ntmps5
    go_wp2_with fail
    go_ret
    exact ⟨rfl, Below.refl _ _⟩

/-! The row's step. -/
set_option maxRecDepth 100000 in
theorem lifted (os : Os) (started : os.Started) (H : Type) (enc : TypeId × Value → H) :
    ReturnsInHanded {} Try.checked os 5 .any (Rows.fnExactPackPathSpec.pre6 enc Try.prog Try.f5 Rows.fnExactPackPathRow.domain false) (Rows.fnExactPackPathSpec.post enc Try.prog Try.f5 false true false false) := by
  refine returnsInHanded_of_change (C := Try.checked) own started (by kernel_rfl) Try.func5
    (ChangeSpec.witness6 (enc := enc) (C := Try.checked) false ⟨#[], #[.slice none 0 0, .bool false], []⟩ 8 (by kernel_rfl) (by kernel_rfl) (by kernel_rfl) (by kernel_rfl)) ?_
  intro W base args ds gs before hval0 hW hcnd _
  have hval : ∀ (j : Nat) t v, Try.f5.params[j]? = some t → args[j]? = some v → Value.okWide Try.prog W .any base t v := hval0
  have hW' := hW
  obtain ⟨p, q, hA0, hV, rfl, hfz, hnd⟩ := hW
  have hA : DataW.TrodAll enc Try.prog W 0 (fun _ => true) true Try.f5.params.toList args.toList ds p := hA0
  rw [Try.params5] at hA hval
  obtain ⟨v0, vs0, d0, ds0, p0, q0, hargs, rfl, rfl, h0, r0⟩ := trodAll_cons hA
  obtain ⟨v1, vs1, d1, ds1, p1, q1, rfl, rfl, rfl, h1, r1⟩ := trodAll_cons r0
  obtain ⟨rfl, rfl, rfl⟩ := trodAll_nil r1
  obtain rfl : args = #[v0, v1] := by cases args; simp_all
  obtain ⟨rfl, rfl⟩ := trodVars_none hV
  have k0 := h0
  have lt0 : ∀ x ∈ p0, x.block < W.heap.size := by obtain ⟨m, hm⟩ := k0; exact DataW.trod_lt m _ _ _ hm
  obtain ⟨a0, len0, cap0, rfl⟩ := okWide_slice Try.underlying25 (hval 0 25 v0 rfl rfl)
  obtain ⟨z0, w0⟩ : ∃ zs, IsRow .i64 W a0 len0 cap0 zs := by
    obtain ⟨fuel, hf⟩ := h0
    rcases open_ints Try.underlying25 Try.underlying2 (by kernel_rfl) hf with ⟨hcs, _⟩ | ⟨x, l, c, zs, hcs, _, hl, hm, hz, _, hcell, hwz⟩
    · simp [Value.cells] at hcs
      obtain ⟨rfl, rfl, rfl⟩ := hcs
      exact ⟨[], .inl ⟨rfl, rfl, rfl, rfl⟩⟩
    · simp [Value.cells] at hcs
      obtain ⟨rfl, rfl, rfl⟩ := hcs
      exact ⟨zs, .inr ⟨_, rfl, hl, hm, by simpa using hz, hcell, hwz⟩⟩
  obtain ⟨a1, rfl, rfl, rfl⟩ := open_bool Try.underlying4 (hval 1 4 v1 rfl rfl) h1
  clear hA0 hval0
  refine (walk a0 len0 cap0 z0 a1 W w0).mono fun e W' ⟨he, bel⟩ => ?_
  subst he
  exact ⟨_, rfl, _, _, _, [], _, [], hW', trodAll_mk1 (shut_bool Try.underlying4 _), (trodAll_cons_mk (Below.trod laidOut (by kernel_rfl) (of_decide_eq_true (by kernel_rfl)) k0 bel lt0) (trodAll_cons_mk (shut_bool Try.underlying4 _) trodAll_mk0)), rfl, bel.frame _, fun h => by cases h⟩

theorem over : Rows.fnExactPackPathRow.holds Try.pinned (OpenSpec.ofChange Rows.fnExactPackPathSpec) :=
  OpenClaim.holds_of_wide 5 Try.f5 rfl rfl rfl rfl rfl rfl rfl ⟨rfl, rfl, rfl, rfl, rfl⟩ rfl rfl rfl rfl rfl (by kernel_rfl) Try.func5 (by kernel_rfl)
    (of_decide_eq_true (by kernel_rfl)) (by unfold Func.isWrapper; first | (rw [if_pos (by decide +kernel)]; kernel_rfl) | (rw [if_neg (by decide +kernel)]; exact ⟨rfl, rfl⟩))
    (fun os started H enc _ => lifted os started H enc)

/-- The statement. -/
theorem proved : Rows.FnExactPackPathSaid := over
#print axioms proved
end Go.Proofs.Ytihdmdbekdadlaa.fnExactPackPath
