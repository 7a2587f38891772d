/- Proved: for every two slices of bytes the law FnExactSealOf returns true and changes neither argument. Conditions: the two variables hold what the program's text lays. -/
import Derived.Test.YtbncoiljklagkaaDoorRows
import Derived.Test.YtbncoiljklagkaaDoorTie
import Derived.Test.YtbncoiljklagkaaDoorCards
import Derived.Test.YtbncoiljklagkaaDoorJ2
import Derived.Test.YtbncoiljklagkaaDoorJ4
import Derived.Test.YtbncoiljklagkaaDoorJ5
import Derived.Test.YtbncoiljklagkaaDoorJ20
import Derived.WalkSmall
import Derived.Test.YtbncoiljklagkaaDoorJ3
import Derived.WalkKit
import Derived.ProofKit
import Derived.OpenShut
import Derived.ShutString
import Derived.ChangeOld
import Derived.Below
import Derived.OpenVars
import Derived.LaidMore
import Derived.Stop.Joined
import Derived.SevenTiedAt
namespace Go.Proofs.YtbncoiljklagkaaDoor.fnExactSealOf
open Go.ChangeShapes Go.WideShapes Go.ChangeAt Go.RowKit
set_option linter.unusedVariables false

theorem own : ownKnob Tryd.prog.godebug = none := by kernel_rfl
theorem laidOut : laidOutB Tryd.prog = true := by kernel_rfl

/-- What the walk is told of a slice of integers that came in. -/
def IsRow (k : IntKind) (w : World) (a : Option Addr) (len cap : Nat) (zs : List Int) : Prop :=
  (a = none ∧ len = 0 ∧ cap = 0 ∧ zs = []) ∨
  ∃ x, a = some x ∧ len ≤ cap ∧ cap ≤ maxLen ∧ zs.length = cap ∧ (∀ i, i < zs.length → w.cell? (x.add i) = some (.int k (zs.getD i 0))) ∧ ∀ n ∈ zs, (Lit.int k n).wf = true

/-! The walk: the Go text returns true, and writes nothing that was there. -/
set_option maxHeartbeats 8000000 in
theorem walk (a0 : Option Addr) (len0 cap0 : Nat) (z0 : List Int) (a1 : Option Addr) (len1 cap1 : Nat) (z1 : List Int) (w : World) (w0 : IsRow .u8 w a0 len0 cap0 z0) (w1 : IsRow .u8 w a1 len1 cap1 z1) (VV : Laid w) :
    Calls Tryd.prog 5 #[.slice a0 len0 cap0, .slice a1 len1 cap1] w fun e w' => e = .returned (.bool true) ∧ Below w.heap.size w w' := by
  have h0 := brow_of w0
  have h1 := brow_of w1
  clear w0 w1
  generalize z0.take len0 = xs at h0
  generalize z1.take len1 = ys at h1
  by_cases hl0 : len0 ≤ 1048576
  · by_cases hl1 : len1 ≤ 1048576
    · have sx : sameB xs xs = true := by simp [sameB]
      have sy : sameB ys ys = true := by simp [sameB]
      have SP : Hid (∀ W g k, BRow W (some ⟨g, 0, none⟩) len0 xs → BRow W (some ⟨k, 0, none⟩) len1 ys → Calls Tryd.prog 19 #[.slice (some ⟨g, 0, none⟩) len0 len0, .slice (some ⟨k, 0, none⟩) len1 len1] W fun e w' => ∃ a' cap', e = .returned (.agg #[.int .i64 (slCode xs ys), .slice a' (slBytes xs ys).length cap']) ∧ w'.ownsRow W.heap.size 5 1 (.slice a' (slBytes xs ys).length cap') (slBytes xs ys).length ((slBytes xs ys).map (Value.int .u8)) ∧ Below W.heap.size W w') := fun W g k h h' => specSeal_any _ _ _ _ _ _ xs ys W h h' (fun e => by cases e) (fun e => by cases e) hl0 hl1
      have IM : Hid (∀ W g k, BRow W (some ⟨g, 0, none⟩) len0 xs → BRow W (some ⟨k, 0, none⟩) len1 ys → Laid W → Calls Tryd.prog 21 #[.slice (some ⟨g, 0, none⟩) len0 len0, .slice (some ⟨k, 0, none⟩) len1 len1] W fun e w' => ∃ a' cap', e = .returned (.agg #[.int .i64 (slCode xs ys), .slice a' (slBytes xs ys).length cap']) ∧ w'.ownsRow W.heap.size 5 1 (.slice a' (slBytes xs ys).length cap') (slBytes xs ys).length ((slBytes xs ys).map (Value.int .u8)) ∧ Below W.heap.size W w') := fun W g k h h' hv => implSeal_any _ _ _ _ _ _ xs ys W h h' (fun e => by cases e) (fun e => by cases e) hl0 hl1 hv
      have HRG := hide (sl_range h0.2.1 h1.2.1)
      have hln := sl_length xs ys
      generalize slCode xs ys = c at SP IM
      generalize slBytes xs ys = zs at SP IM hln HRG
      obtain ⟨L, hL⟩ : ∃ L, L = zs.length := ⟨_, rfl⟩
      rw [← hL] at SP IM
      have hL7 : L ≤ 1048576 := by omega
      clear hL hln
      go_enter Tryd.func5, Tryd.ntmps5
      go_wp2_with fail
      refine (toByteS_any _ _ _ xs _ h0 hl0).mono ?_
      rintro e w1 ⟨rfl, o1, b1⟩
      have h1' := h1.below b1 (Nat.le_refl _)
      go_wp2_with fail
      refine (toByteS_any _ _ _ ys _ h1' hl1).mono ?_
      rintro e v1 ⟨rfl, p1, bv1⟩
      have r1 := (BRow.own o1 h0.2.1).below bv1 (Nat.le_refl _)
      have r1b := BRow.own p1 h1.2.1
      have F1 := b1.trans (bv1.mono b1.size)
      clear o1 p1 h1'
      go_wp2_with fail
      refine ((unhide SP) _ _ _ r1 r1b).mono ?_
      rintro e w2 ⟨a2, c2, rfl, o2, b2⟩
      have F2 := F1.trans (b2.mono F1.size)
      clear r1 r1b b1 bv1 b2 F1
      go_wp2_with fail
      obtain ⟨k3, s3, p0, p1⟩ := new2 w2 (.int .i64 c) (.slice a2 L c2) 28
      generalize w2.alloc (Obj.cells #[Value.int IntKind.i64 c, Value.slice a2 L c2] 28) = w3 at k3 s3 p0 p1
      have F3 := F2.trans (k3.mono F2.size)
      have R2 := (BRow.own2 o2 (unhide HRG)).below k3 (Nat.le_refl _)
      have A3 := h0.below F3 (Nat.le_refl _)
      have B3 := h1.below F3 (Nat.le_refl _)
      refine (toByteS_any _ _ _ xs _ A3 hl0).mono ?_
      rintro e w4 ⟨rfl, o4, b4⟩
      have hs34 : w3.heap.size < w4.heap.size := (o4.lt _ rfl).2
      have B4 := B3.below b4 (Nat.le_refl _)
      go_wp2_with fail
      refine (toByteS_any _ _ _ ys _ B4 hl1).mono ?_
      rintro e v4 ⟨rfl, y4, bv4⟩
      have hs44 : w4.heap.size < v4.heap.size := (y4.lt _ rfl).2
      have x4 := own_below o4 bv4 (Nat.le_refl _)
      have r4 := BRow.own x4 h0.2.1
      have r4b := BRow.own y4 h1.2.1
      have G4 := b4.trans (bv4.mono b4.size)
      clear o4 b4 bv4 B4
      go_wp2_with fail
      refine ((unhide IM) _ _ _ r4 r4b (VV.below (F3.trans (G4.mono F3.size)) (Nat.le_refl _))).mono ?_
      rintro e w5 ⟨a5, c5, rfl, o5, b5⟩
      have G5 := G4.trans (b5.mono G4.size)
      have s5 : w2.heap.size < w5.heap.size := Nat.lt_of_lt_of_le s3 G5.size
      have p0' : ∀ o, (w5.alloc o).cell? ⟨w2.heap.size, 0, none⟩ = some (.int .i64 c) := fun o => ((below_alloc w5 o).cell s5).trans ((G5.cell s3).trans p0)
      have p1' : ∀ o, (w5.alloc o).cell? ⟨w2.heap.size, 1, none⟩ = some (.slice a2 L c2) := fun o => ((below_alloc w5 o).cell s5).trans ((G5.cell s3).trans p1)
      clear r4 r4b
      go_wp2_with fail
      clear p0' p1'
      obtain ⟨k6, s6, q0, q1⟩ := new2 w5 (.int .i64 c) (.slice a5 L c5) 28
      generalize w5.alloc (Obj.cells #[Value.int IntKind.i64 c, Value.slice a5 L c5] 28) = w6 at k6 s6 q0 q1
      have R5 := (BRow.own2 o5 (unhide HRG)).below k6 (Nat.le_refl _)
      have G6 := G5.trans (k6.mono G5.size)
      refine (eqBytes_same c a5 a2 L c5 c2 zs _ R5 (R2.below G6 (Nat.le_refl _)) hL7).mono ?_
      rintro e w7 ⟨rfl, b7⟩
      have G7 := G6.trans (b7.mono G6.size)
      have K7 := k6.trans (b7.mono k6.size)
      have A7 := A3.below G7 (Nat.le_refl _)
      go_wp2_with fail
      refine (toByteS_any _ _ _ xs _ A7 hl0).mono ?_
      rintro e w8 ⟨rfl, o8, b8⟩
      have r8 := BRow.own o8 h0.2.1
      have X8 := (((BRow.own x4 h0.2.1).below b5 (Nat.le_refl _)).below K7 (Nat.le_refl _)).below b8 (Nat.le_refl _)
      go_wp2_with fail
      refine (eqByteS_any _ _ _ _ _ _ xs xs _ X8 r8 hl0 hl0).mono ?_
      rintro e w' ⟨rfl, n9, rfl⟩
      rw [sx]
      have b9 : Below w8.heap.size w8 (w8.drewN n9) := below_drewN (Below.refl _ _) n9
      generalize w8.drewN n9 = w9 at b9
      have b89 := b8.trans (b9.mono b8.size)
      have K9a := K7.trans (b89.mono K7.size)
      have M9a := b7.trans (b89.mono b7.size)
      have G9a := G7.trans (b89.mono G7.size)
      have B9 := B3.below G9a (Nat.le_refl _)
      clear X8 r8 o8 b8 b9 A7 K7 G7 b7 b89
      go_wp2_with fail
      refine (toByteS_any _ _ _ ys _ B9 hl1).mono ?_
      rintro e w8 ⟨rfl, o8, b8⟩
      have r8 := BRow.own o8 h1.2.1
      have X8 := (((BRow.own y4 h1.2.1).below b5 (Nat.le_refl _)).below K9a (Nat.le_refl _)).below b8 (Nat.le_refl _)
      go_wp2_with fail
      refine (eqByteS_any _ _ _ _ _ _ ys ys _ X8 r8 hl1 hl1).mono ?_
      rintro e w' ⟨rfl, n9, rfl⟩
      rw [sy]
      have b9 : Below w8.heap.size w8 (w8.drewN n9) := below_drewN (Below.refl _ _) n9
      generalize w8.drewN n9 = w9b at b9
      have b89 := b8.trans (b9.mono b8.size)
      have L9 := K9a.trans (b89.mono K9a.size)
      have M9 := M9a.trans (b89.mono M9a.size)
      have G9 := G9a.trans (b89.mono G9a.size)
      have x9 := own_below (own_below x4 b5 (Nat.le_refl _)) L9 (Nat.le_refl _)
      have y9 := own_below (own_below y4 b5 (Nat.le_refl _)) L9 (Nat.le_refl _)
      have q0a := (M9.cell s6).trans q0
      have q1a := (M9.cell s6).trans q1
      have o9 := own_below o5 L9 (Nat.le_refl _)
      have s9 : w5.heap.size < w9b.heap.size := Nat.lt_of_lt_of_le s6 M9.size
      have s45 : v4.heap.size ≤ w5.heap.size := b5.size
      have s35 : w3.heap.size < w5.heap.size := by omega
      have s45b : w4.heap.size < w5.heap.size := by omega
      clear b8 b9 b89 X8 r8 o8 M9 M9a K9a G9a B9 x4 y4 b5
      go_wp2_with fail
      refine (markByteS_any w3.heap.size w3.heap.size len0 len0 xs 1 _ x9 (by omega) (by omega) (by omega)).mono ?_
      rintro e w10 ⟨rfl, o10, g10⟩
      have G10 : Below w3.heap.size w3 w10 := G9.grown g10 G9.size (fun g hg => by cases hg; exact Nat.le_refl _)
      have q0b := g10.cell q0a (fun e => by have := Option.some.inj e; simp only at this; omega)
      have q1b := g10.cell q1a (fun e => by have := Option.some.inj e; simp only at this; omega)
      have o10b := own_grown o9 g10 (fun g hg e => by cases e; have := (o5.lt _ hg).1; omega)
      have y10 := own_grown y9 g10 (fun g hg e => by have e1 : w4.heap.size = g := Option.some.inj hg; have e2 : g = w3.heap.size := Option.some.inj e; omega)
      have s10 : w5.heap.size < w10.heap.size := Nat.lt_of_lt_of_le s9 g10.size
      clear o10 x9 g10 q0a q1a o9 q0 q1 L9 y9 G9
      go_wp2_with fail
      refine (markByteS_any w4.heap.size w4.heap.size len1 len1 ys (1 + (len0 : Int)) _ y10 (by omega) (by omega) (by omega)).mono ?_
      rintro e w10b ⟨rfl, o10, g10⟩
      have G10b : Below w3.heap.size w3 w10b := G10.grown g10 G10.size (fun g hg => by cases hg; omega)
      have q0c := g10.cell q0b (fun e => by have := Option.some.inj e; simp only at this; omega)
      have q1c := g10.cell q1b (fun e => by have := Option.some.inj e; simp only at this; omega)
      have o10c := own_grown o10b g10 (fun g hg e => by cases e; have := (o5.lt _ hg).1; omega)
      have s10b : w5.heap.size < w10b.heap.size := Nat.lt_of_lt_of_le s10 g10.size
      obtain ⟨KK, hKK⟩ : ∃ KK : Int, KK = 1 + (len0 : Int) + (len1 : Int) := ⟨_, rfl⟩
      rw [← hKK]
      have hk : decide (KK < 0) = false := decide_eq_false (by omega)
      have p0a := (G10b.cell s3).trans p0
      have p1a := (G10b.cell s3).trans p1
      clear o10 g10 q0b q1b o10b G10 y10 hKK
      go_wp2_with fail
      clear p0a p1a
      refine (eqBytes_same c a5 a2 L c5 c2 zs _ (BRow.own2 o10c (unhide HRG)) (R2.below G10b (Nat.le_refl _)) hL7).mono ?_
      rintro e w11 ⟨rfl, b11⟩
      have G11 := G10b.trans (b11.mono G10b.size)
      have q0d := (b11.cell s10b).trans q0c
      have q1d := (b11.cell s10b).trans q1c
      have o11 := own_below o10c b11 (Nat.le_refl _)
      have s11 : w5.heap.size < w11.heap.size := Nat.lt_of_lt_of_le s10b b11.size
      clear q0c q1c o10c
      go_wp2_with fail
      refine (markBytesResult_own v4.heap.size L c5 c a5 zs 1 _ o11 (by omega) (by omega) (by omega)).mono ?_
      rintro e w12 ⟨rfl, o12, g12⟩
      have hg5 : ∀ g, (Value.slice a5 L c5).ownBlock = some g → g < w5.heap.size := fun g hg => (o5.lt g hg).2
      have q0e := g12.cell q0d (fun e => by have := hg5 _ e.symm; exact absurd this (Nat.lt_irrefl _))
      have q1e := g12.cell q1d (fun e => by have := hg5 _ e.symm; exact absurd this (Nat.lt_irrefl _))
      have G12 : Below w3.heap.size w3 w12 := G11.grown g12 G11.size (fun g hg => by have := (o5.lt g hg).1; omega)
      have M12 := BRow.own2 o12 (marks_range 1 L)
      have s12 : w5.heap.size < w12.heap.size := Nat.lt_of_lt_of_le s11 g12.size
      clear q0d q1d o11 o12
      go_wp2_with fail
      refine (heldBytesResult_any L c5 c a5 1 _ M12 (by omega) (by omega) (by omega)).mono ?_
      rintro e w13 ⟨rfl, b13⟩
      have G13 := G12.trans (b13.mono G12.size)
      have q0f := (b13.cell s12).trans q0e
      have q1f := (b13.cell s12).trans q1e
      have M13 := M12.below b13 (Nat.le_refl _)
      have s13 : w5.heap.size < w13.heap.size := Nat.lt_of_lt_of_le s12 b13.size
      have hne : ((1 + (L : Int)) != 1 + (L : Int)) = false := by simp
      have A13 := A3.below G13 (Nat.le_refl _)
      have B13 := B3.below G13 (Nat.le_refl _)
      clear q0e q1e M12
      go_wp2_with fail
      refine (toByteS_any _ _ _ xs _ A13 hl0).mono ?_
      rintro e w14 ⟨rfl, o14, b14⟩
      have B14 := B13.below b14 (Nat.le_refl _)
      go_wp2_with fail
      refine (toByteS_any _ _ _ ys _ B14 hl1).mono ?_
      rintro e v14 ⟨rfl, y14, bv14⟩
      have r14 := (BRow.own o14 h0.2.1).below bv14 (Nat.le_refl _)
      have r14b := BRow.own y14 h1.2.1
      have bb14 := b14.trans (bv14.mono b14.size)
      clear o14 y14 b14 bv14 B14 A13 B13
      go_wp2_with fail
      refine ((unhide IM) _ _ _ r14 r14b (VV.below (F3.trans ((G13.trans (bb14.mono G13.size)).mono F3.size)) (Nat.le_refl _))).mono ?_
      rintro e w15 ⟨a15, c15, rfl, o15, b15⟩
      have b145 := bb14.trans (b15.mono bb14.size)
      have G15 := G13.trans (b145.mono G13.size)
      have q0g := (b145.cell s13).trans q0f
      have q1g := (b145.cell s13).trans q1f
      have M15 := M13.below b145 (Nat.le_refl _)
      have s15 : w5.heap.size < w15.heap.size := Nat.lt_of_lt_of_le s13 b145.size
      have s215 : w2.heap.size < w15.heap.size := Nat.lt_of_lt_of_le s3 G15.size
      have p0' : ∀ o, (w15.alloc o).cell? ⟨w2.heap.size, 0, none⟩ = some (.int .i64 c) := fun o => ((below_alloc w15 o).cell s215).trans ((G15.cell s3).trans p0)
      have p1' : ∀ o, (w15.alloc o).cell? ⟨w2.heap.size, 1, none⟩ = some (.slice a2 L c2) := fun o => ((below_alloc w15 o).cell s215).trans ((G15.cell s3).trans p1)
      clear q0f q1f M13 r14 r14b
      go_wp2_with fail
      clear p0' p1'
      obtain ⟨k16, s16, t0, t1⟩ := new2 w15 (.int .i64 c) (.slice a15 L c15) 28
      generalize w15.alloc (Obj.cells #[Value.int IntKind.i64 c, Value.slice a15 L c15] 28) = w16 at k16 s16 t0 t1
      have G16 := G15.trans (k16.mono G15.size)
      have R15 := (BRow.own2 o15 (unhide HRG)).below k16 (Nat.le_refl _)
      refine (eqBytes_same c a15 a2 L c15 c2 zs _ R15 (R2.below G16 (Nat.le_refl _)) hL7).mono ?_
      rintro e w17 ⟨rfl, b17⟩
      have k17 := k16.trans (b17.mono k16.size)
      have q0h := (k17.cell s15).trans q0g
      have q1h := (k17.cell s15).trans q1g
      have M17 := M15.below k17 (Nat.le_refl _)
      have G17 := G15.trans (k17.mono G15.size)
      clear q0g q1g M15
      go_wp2_with fail
      refine (heldBytesResult_any L c5 c a5 1 _ M17 (by omega) (by omega) (by omega)).mono ?_
      rintro e w18 ⟨rfl, b18⟩
      have G18 := G17.trans (b18.mono G17.size)
      go_wp2_with fail
      go_ret
      exact ⟨rfl, F3.trans (G18.mono F3.size)⟩
    · go_enter Tryd.func5, Tryd.ntmps5
      go_wp2_with fail
      go_ret
      exact ⟨rfl, Below.refl _ _⟩
  · go_enter Tryd.func5, Tryd.ntmps5
    go_wp2_with fail
    go_ret
    exact ⟨rfl, Below.refl _ _⟩

/-! The row's step. -/
set_option maxRecDepth 100000 in
theorem lifted (os : Os) (started : os.Started) (H : Type) (enc : TypeId × Value → H) :
    ReturnsInHanded {} Tryd.checked os 5 .any (fun w args => (Rows.fnExactSealOfSpec.pre enc Tryd.prog Tryd.f5 [] false w args ∧ laidMetH Tryd.prog laid2 w) ∧ sizedMet enc Tryd.prog Tryd.f5 (OpenSpec.ofChange Rows.fnExactSealOfSpec) false w args)
      (Rows.fnExactSealOfSpec.post enc Tryd.prog Tryd.f5 false true false false) := by
  refine returnsInHanded_of_change_and (C := Tryd.checked) (X := fun w _ => laidMetH Tryd.prog laid2 w) (fun _ _ _ hh h => h.of_heap hh) own started (by kernel_rfl) Tryd.func5
    (ChangeSpec.witness_shaped (enc := enc) (C := Tryd.checked) (os := os) (X := fun w _ => laidMetH Tryd.prog laid2 w) false (World.doorLaid Tryd.prog 400 os) #[.slice none 0 0, .slice none 0 0] 8 rfl (World.shaped_of_RefB (by kernel_rfl) (by kernel_rfl)) (by kernel_rfl) (by kernel_rfl) (by kernel_rfl) (door_met os _)) ?_
  intro W base args ds gs before hval0 hW _ _ hL _
  have hval : ∀ (j : Nat) t v, Tryd.f5.params[j]? = some t → args[j]? = some v → Value.okWide Tryd.prog W .any base t v := hval0
  have hW' := hW
  obtain ⟨p, q, hA0, hV, rfl, hfz, hnd⟩ := hW
  have hA : DataW.TrodAll enc Tryd.prog W 0 (fun _ => true) true Tryd.f5.params.toList args.toList ds p := hA0
  rw [Tryd.params5] at hA hval
  obtain ⟨v0, vs0, d0, ds0, p0, q0, hargs, rfl, rfl, h0, r0⟩ := trodAll_cons hA
  obtain ⟨v1, vs1, d1, ds1, p1, q1, rfl, rfl, rfl, h1, r1⟩ := trodAll_cons r0
  obtain ⟨rfl, rfl, rfl⟩ := trodAll_nil r1
  obtain rfl : args = #[v0, v1] := by cases args; simp_all
  obtain ⟨y0v, y1v, rfl⟩ : ∃ y0 y1, gs = [y0, y1] := by
    match gs, hV with
    | [y0, y1], _ => exact ⟨y0, y1, rfl⟩
    | [], hV => exact hV.elim
    | [_], hV => obtain ⟨_, _, _, _, _, _, _, _, _, _, hs, _⟩ := hV; exact hs.elim
    | _ :: _ :: _ :: _, hV =>
      obtain ⟨_, _, _, _, _, _, _, _, _, _, hs, _⟩ := hV
      obtain ⟨_, _, _, _, _, _, _, _, _, _, hs2, _⟩ := hs
      exact hs2.elim
  have k0 := h0
  have lt0 : ∀ x ∈ p0, x.block < W.heap.size := by obtain ⟨m, hm⟩ := k0; exact DataW.trod_lt m _ _ _ hm
  obtain ⟨a0, len0, cap0, rfl⟩ := okWide_slice Tryd.underlying22 (hval 0 22 v0 rfl rfl)
  obtain ⟨z0, w0⟩ : ∃ zs, IsRow .u8 W a0 len0 cap0 zs := by
    obtain ⟨fuel, hf⟩ := h0
    rcases open_ints Tryd.underlying22 Tryd.underlying5 (by kernel_rfl) hf with ⟨hcs, _⟩ | ⟨x, l, c, zs, hcs, _, hl, hm, hz, _, hcell, hwz⟩
    · simp [Value.cells] at hcs
      obtain ⟨rfl, rfl, rfl⟩ := hcs
      exact ⟨[], .inl ⟨rfl, rfl, rfl, rfl⟩⟩
    · simp [Value.cells] at hcs
      obtain ⟨rfl, rfl, rfl⟩ := hcs
      exact ⟨zs, .inr ⟨_, rfl, hl, hm, by simpa using hz, hcell, hwz⟩⟩
  have k1 := h1
  have lt1 : ∀ x ∈ p1, x.block < W.heap.size := by obtain ⟨m, hm⟩ := k1; exact DataW.trod_lt m _ _ _ hm
  obtain ⟨a1, len1, cap1, rfl⟩ := okWide_slice Tryd.underlying22 (hval 1 22 v1 rfl rfl)
  obtain ⟨z1, w1⟩ : ∃ zs, IsRow .u8 W a1 len1 cap1 zs := by
    obtain ⟨fuel, hf⟩ := h1
    rcases open_ints Tryd.underlying22 Tryd.underlying5 (by kernel_rfl) hf with ⟨hcs, _⟩ | ⟨x, l, c, zs, hcs, _, hl, hm, hz, _, hcell, hwz⟩
    · simp [Value.cells] at hcs
      obtain ⟨rfl, rfl, rfl⟩ := hcs
      exact ⟨[], .inl ⟨rfl, rfl, rfl, rfl⟩⟩
    · simp [Value.cells] at hcs
      obtain ⟨rfl, rfl, rfl⟩ := hcs
      exact ⟨zs, .inr ⟨_, rfl, hl, hm, by simpa using hz, hcell, hwz⟩⟩
  clear hA0 hval0
  refine (walk a0 len0 cap0 z0 a1 len1 cap1 z1 W w0 w1 (of_laid hL)).mono fun e W' ⟨he, bel⟩ => ?_
  subst he
  exact ⟨_, rfl, _, _, _, [], _, _, hW', trodAll_mk1 (shut_bool Tryd.underlying4 _), (trodAll_cons_mk (Below.trod laidOut (by kernel_rfl) (of_decide_eq_true (by kernel_rfl)) k0 bel lt0) (trodAll_cons_mk (Below.trod laidOut (by kernel_rfl) (of_decide_eq_true (by kernel_rfl)) k1 bel lt1) trodAll_mk0)), Below.trodVars laidOut bel (by kernel_rfl) hV, bel.frame _, fun h => by cases h⟩

theorem over : Rows.FnExactSealOfSaid :=
  OpenClaim.holds_of_wide 5 Tryd.f5 rfl rfl rfl rfl rfl rfl rfl ⟨rfl, rfl, rfl, rfl, rfl⟩ rfl rfl rfl rfl rfl (by kernel_rfl) Tryd.func5 (by kernel_rfl)
    (of_decide_eq_true (by kernel_rfl)) (by unfold Func.isWrapper; first | (rw [if_pos (by decide +kernel)]; kernel_rfl) | (rw [if_neg (by decide +kernel)]; exact ⟨rfl, rfl⟩))
    (fun os started H enc _ => lifted os started H enc)

/-- The statement: the tied card. -/
theorem proved : Rows.FnExactSealOfCardSaid :=
  Claim7.holds_tied_plain_at .later [] [.data, .data] true (true, "c4363c0b734e90b220c868ce2a1ed21bff34629fef80a1c44f6f4e19ff8a53db") false
    over (fun _ h => by cases h) (by kernel_rfl) (fun _ h => by cases h) fnExactSealOf_row_tie rfl ⟨rfl, rfl⟩ (by kernel_rfl) rfl
    (fun f fn hf hfn => by
      obtain rfl : f = 5 := Option.some.inj ((show Tryd.prog.funcNamed "loop.example/g00383/laws.FnExactSealOf" = some 5 by kernel_rfl).symm.trans hf) |>.symm
      obtain rfl : fn = Tryd.f5 := (Option.some.inj (Tryd.func5.symm.trans hfn)).symm
      exact ⟨by kernel_rfl, fun j t ht => by
        rw [Tryd.params5] at ht
        have hm : t ∈ [22, 22] := by simpa using Array.mem_of_getElem? ht
        have hall : ([22, 22].all fun u => !Tryd.prog.wantsStandIn u) = true := by kernel_rfl
        exact (show Tryd.prog.wantsStandIn t = false by simpa using List.all_eq_true.1 hall t hm)⟩)
    (by kernel_rfl)
#print axioms proved
end Go.Proofs.YtbncoiljklagkaaDoor.fnExactSealOf
