/- Proved: for every number the law FnExactReceiptKey returns true. Conditions: none. -/
import Derived.Test.YtndkdngojjhinaaRows
import Derived.Test.YtndkdngojjhinaaByteS
import Derived.Test.YtndkdngojjhinaaMark
import Derived.Test.YtndkdngojjhinaaRyI
import Derived.Test.YtndkdngojjhinaaRyM
import Derived.WalkSmall
import Derived.WalkKit
import Derived.ProofKit
import Derived.Below
import Derived.ChangeOld
import Derived.OpenShut
import Derived.ShutString
namespace Go.Proofs.Ytndkdngojjhinaa.fnExactReceiptKey
open Go.ChangeShapes Go.WideShapes Go.ChangeAt Go.RowKit
open Go.ChangeMaps (open_string shut_string)
set_option linter.unusedVariables false

theorem own : ownKnob Try.prog.godebug = none := by kernel_rfl

/-! The walk: the Go text returns true, and writes nothing that was there. -/
set_option maxHeartbeats 2000000 in
theorem walk (a0 : Int) (w0 : (Lit.int .i64 a0).wf = true) (w : World) :
    Calls Try.prog 4 #[.int .i64 a0] w fun e w' => e = .returned (.bool true) ∧ Below w.heap.size w w' := by
  have SP := hide (specKey_any a0)
  have IM := hide (implKey_any a0)
  have hrg := rkBytes_range a0
  have hln := rkBytes_length a0
  have HRG := hide hrg
  clear hrg
  generalize rkCode a0 = c at SP IM
  generalize rkBytes a0 = zs at SP IM HRG hln
  obtain ⟨L, hL⟩ : ∃ L, L = zs.length := ⟨_, rfl⟩
  rw [← hL] at SP IM
  have hL7 : L ≤ 1048576 := by omega
  have HLZ := hide hL
  clear hL hln w0
  go_enter Try.func4, Try.ntmps4
  go_wp2_with fail
  refine ((unhide SP) _).mono ?_
  rintro e w1 ⟨a1, c1, rfl, o1, b1⟩
  go_wp2_with fail
  obtain ⟨k2, s2, p0, p1⟩ := new2 w1 (.int .i64 c) (.slice a1 L c1) 30
  generalize w1.alloc (Obj.cells #[Value.int IntKind.i64 c, Value.slice a1 L c1] 30) = w2 at k2 s2 p0 p1
  have R1 := (BRow.own2 o1 (unhide HRG)).below k2 (Nat.le_refl _)
  refine ((unhide IM) _).mono ?_
  rintro e w3 ⟨a3, c3, rfl, o3, b3⟩
  have p0' : ∀ o, (w3.alloc o).cell? ⟨w1.heap.size, 0, none⟩ = some (.int .i64 c) := fun o => ((below_alloc w3 o).cell (Nat.lt_of_lt_of_le s2 b3.size)).trans ((b3.cell s2).trans p0)
  have p1' : ∀ o, (w3.alloc o).cell? ⟨w1.heap.size, 1, none⟩ = some (.slice a1 L c1) := fun o => ((below_alloc w3 o).cell (Nat.lt_of_lt_of_le s2 b3.size)).trans ((b3.cell s2).trans p1)
  go_wp2_with fail
  clear p0' p1'
  obtain ⟨k4, s4, r0, r1⟩ := new2 w3 (.int .i64 c) (.slice a3 L c3) 30
  generalize w3.alloc (Obj.cells #[Value.int IntKind.i64 c, Value.slice a3 L c3] 30) = w4 at k4 s4 r0 r1
  have R3 := (BRow.own2 o3 (unhide HRG)).below k4 (Nat.le_refl _)
  have G4 := b3.trans (k4.mono b3.size)
  refine (eqBytes_same c a3 a1 L c3 c1 zs _ R3 (R1.below G4 (Nat.le_refl _)) hL7).mono ?_
  rintro e w5 ⟨rfl, b5⟩
  have G5 := G4.trans (b5.mono G4.size)
  have K5 := k4.trans (b5.mono k4.size)
  have r0a := (b5.cell s4).trans r0
  have r1a := (b5.cell s4).trans r1
  have o5 := own_below o3 K5 (Nat.le_refl _)
  go_wp2_with fail
  refine (markBytesResult_own w2.heap.size L c3 c a3 zs 1 _ o5 (by omega) (by omega) (by omega)).mono ?_
  rintro e w6 ⟨rfl, o6, g6⟩
  have hg3 : ∀ g, (Value.slice a3 L c3).ownBlock = some g → g < w3.heap.size := fun g hg => (o3.lt g hg).2
  have hs45 : w3.heap.size < w5.heap.size := Nat.lt_of_lt_of_le s4 b5.size
  have r0b := g6.cell r0a (fun e => by have := hg3 _ e.symm; exact absurd this (Nat.lt_irrefl _))
  have r1b := g6.cell r1a (fun e => by have := hg3 _ e.symm; exact absurd this (Nat.lt_irrefl _))
  have G6 : Below w2.heap.size w2 w6 := G5.grown g6 G5.size (fun g hg => (o3.lt g hg).1)
  have M6 := BRow.own2 o6 (marks_range 1 L)
  go_wp2_with fail
  refine (heldBytesResult_any L c3 c a3 1 _ M6 (by omega) (by omega) (by omega)).mono ?_
  rintro e w7 ⟨rfl, b7⟩
  have hs6 : w3.heap.size < w6.heap.size := Nat.lt_of_lt_of_le hs45 g6.size
  have r0c := (b7.cell hs6).trans r0b
  have r1c := (b7.cell hs6).trans r1b
  have G7 := G6.trans (b7.mono G6.size)
  have M7 := M6.below b7 (Nat.le_refl _)
  have hne : ((1 + (L : Int)) != 1 + (L : Int)) = false := by simp
  go_wp2_with fail
  refine ((unhide IM) _).mono ?_
  rintro e w8 ⟨a8, c8, rfl, o8, b8⟩
  have hs7 : w3.heap.size < w7.heap.size := Nat.lt_of_lt_of_le hs6 b7.size
  have G8 := G7.trans (b8.mono G7.size)
  have M8 := M7.below b8 (Nat.le_refl _)
  have r0d := (b8.cell hs7).trans r0c
  have r1d := (b8.cell hs7).trans r1c
  have hs8 : w3.heap.size < w8.heap.size := Nat.lt_of_lt_of_le hs7 b8.size
  have p0' : ∀ o, (w8.alloc o).cell? ⟨w1.heap.size, 0, none⟩ = some (.int .i64 c) := fun o => ((below_alloc w8 o).cell (Nat.lt_of_lt_of_le s2 G8.size)).trans ((G8.cell s2).trans p0)
  have p1' : ∀ o, (w8.alloc o).cell? ⟨w1.heap.size, 1, none⟩ = some (.slice a1 L c1) := fun o => ((below_alloc w8 o).cell (Nat.lt_of_lt_of_le s2 G8.size)).trans ((G8.cell s2).trans p1)
  go_wp2_with fail
  clear p0' p1'
  obtain ⟨k9, s9, t0, t1⟩ := new2 w8 (.int .i64 c) (.slice a8 L c8) 30
  generalize w8.alloc (Obj.cells #[Value.int IntKind.i64 c, Value.slice a8 L c8] 30) = w9 at k9 s9 t0 t1
  have G9 := G8.trans (k9.mono G8.size)
  have R8 := (BRow.own2 o8 (unhide HRG)).below k9 (Nat.le_refl _)
  refine (eqBytes_same c a8 a1 L c8 c1 zs _ R8 (R1.below G9 (Nat.le_refl _)) hL7).mono ?_
  rintro e w10 ⟨rfl, b10⟩
  have r0e := (b10.cell (Nat.lt_trans hs8 s9)).trans ((k9.cell hs8).trans r0d)
  have r1e := (b10.cell (Nat.lt_trans hs8 s9)).trans ((k9.cell hs8).trans r1d)
  have M10 := (M8.below k9 (Nat.le_refl _)).below b10 (Nat.le_refl _)
  have G10 := G9.trans (b10.mono G9.size)
  go_wp2_with fail
  refine (heldBytesResult_any L c3 c a3 1 _ M10 (by omega) (by omega) (by omega)).mono ?_
  rintro e w11 ⟨rfl, b11⟩
  have G11 := G10.trans (b11.mono G10.size)
  go_wp2_with fail
  go_ret
  have F2 := b1.trans (k2.mono b1.size)
  exact ⟨rfl, F2.trans (G11.mono F2.size)⟩

/-! The row's step. -/
set_option maxRecDepth 100000 in
theorem lifted (os : Os) (started : os.Started) (H : Type) (enc : TypeId × Value → H) :
    ReturnsInHanded {} Try.checked os 4 .any (Rows.fnExactReceiptKeySpec.pre6 enc Try.prog Try.f4 Rows.fnExactReceiptKeyRow.domain false) (Rows.fnExactReceiptKeySpec.post enc Try.prog Try.f4 false true false false) := by
  refine returnsInHanded_of_change (C := Try.checked) own started (by kernel_rfl) Try.func4
    (ChangeSpec.witness6 (enc := enc) (C := Try.checked) false ⟨#[], #[.int .i64 0], []⟩ 8 (by kernel_rfl) (by kernel_rfl) (by kernel_rfl) (by kernel_rfl)) ?_
  intro W base args ds gs before hval0 hW hcnd _
  have hval : ∀ (j : Nat) t v, Try.f4.params[j]? = some t → args[j]? = some v → Value.okWide Try.prog W .any base t v := hval0
  have hW' := hW
  obtain ⟨p, q, hA0, hV, rfl, hfz, hnd⟩ := hW
  have hA : DataW.TrodAll enc Try.prog W 0 (fun _ => true) true Try.f4.params.toList args.toList ds p := hA0
  rw [Try.params4] at hA hval
  obtain ⟨v0, vs0, d0, ds0, p0, q0, hargs, rfl, rfl, h0, r0⟩ := trodAll_cons hA
  obtain ⟨rfl, rfl, rfl⟩ := trodAll_nil r0
  obtain rfl : args = #[v0] := by cases args; simp_all
  obtain ⟨rfl, rfl⟩ := trodVars_none hV
  obtain ⟨a0, rfl, rfl, rfl, w0⟩ := open_int Try.underlying2 (hval 0 2 v0 rfl rfl) h0
  clear hA0 hval0
  simp only [List.append_nil] at hW'
  refine (walk a0 w0 W).mono fun e W' ⟨he, hg⟩ => ?_
  subst he
  exact ⟨_, rfl, _, _, _, [], _, [], hW', trodAll_mk1 (shut_bool Try.underlying4 _), (trodAll_cons_mk (shut_int Try.underlying2 w0) trodAll_mk0), rfl, hg.frame _, fun h => by cases h⟩

theorem over : Rows.fnExactReceiptKeyRow.holds Try.pinned (OpenSpec.ofChange Rows.fnExactReceiptKeySpec) :=
  OpenClaim.holds_of_wide 4 Try.f4 rfl rfl rfl rfl rfl rfl rfl ⟨rfl, rfl, rfl, rfl, rfl⟩ rfl rfl rfl rfl rfl (by kernel_rfl) Try.func4 (by kernel_rfl)
    (of_decide_eq_true (by kernel_rfl)) (by unfold Func.isWrapper; first | (rw [if_pos (by decide +kernel)]; kernel_rfl) | (rw [if_neg (by decide +kernel)]; exact ⟨rfl, rfl⟩))
    (fun os started H enc _ => lifted os started H enc)

/-- The statement. -/
theorem proved : Rows.FnExactReceiptKeySaid :=
  over
#print axioms proved
end Go.Proofs.Ytndkdngojjhinaa.fnExactReceiptKey
