/- Proved: for every two slices of items the law FnExactSameItems returns true and changes neither argument. Conditions: none. -/
import Derived.Test.YtkibdgmgjnoblabRows
import Derived.Test.YtkibdgmgjnoblabItS
import Derived.Test.YtkibdgmgjnoblabItT
import Derived.Test.YtkibdgmgjnoblabItE
import Derived.Test.YtkibdgmgjnoblabSameIt
import Derived.WalkSmall
import Derived.Test.YtkibdgmgjnoblabItB
import Derived.WalkKit
import Derived.ProofKit
import Derived.OpenShut
import Derived.ShutString
import Derived.ChangeOld
import Derived.Below
namespace Go.Proofs.Ytkibdgmgjnoblab.fnExactSameItems
open Go.ChangeShapes Go.WideShapes Go.ChangeAt Go.RowKit
set_option linter.unusedVariables false

theorem own : ownKnob Try.prog.godebug = none := by kernel_rfl
theorem laidOut : laidOutB Try.prog = true := by kernel_rfl

/-! The walk: the Go text returns true, and writes nothing that was there. -/
set_option maxHeartbeats 2000000 in
theorem walk (a0 : Option Addr) (len0 cap0 : Nat) (z0 : List It) (a1 : Option Addr) (len1 cap1 : Nat) (z1 : List It) (w : World) (m0 : len0 ≤ maxLen) (w0 : IRow w a0 len0 z0) (m1 : len1 ≤ maxLen) (w1 : IRow w a1 len1 z1) :
    Calls Try.prog 3 #[.slice a0 len0 cap0, .slice a1 len1 cap1] w fun e w' => e = .returned (.bool true) ∧ Below w.heap.size w w' := by
  have hzr0 := w0.bytes
  have hzr1 := w1.bytes
  have SZ0 := hide (fun (W : World) (hb : Below w.heap.size w W) => szItemS_any a0 len0 cap0 z0 1048576 W (w0.below hb (Nat.le_refl _)) m0 (by omega) (by omega))
  by_cases hs0 : szAll 1048576 z0 < 0
  · have hd0 : decide (szAll 1048576 z0 < 0) = true := decide_eq_true hs0
    clear w0 w1 m0 m1 hzr0 hzr1
    generalize szAll 1048576 z0 = q0 at SZ0 hs0 hd0
    go_enter Try.func3, Try.ntmps3
    go_wp2_with fail
    refine ((unhide SZ0) _ (Below.refl _ _)).mono ?_
    rintro e w1 ⟨rfl, b1⟩
    go_wp2_with fail
    go_ret
    exact ⟨rfl, b1⟩
  · have ok0 := szAll_ok (left := 1048576) (its := z0) (by omega)
    have hd0 : decide (szAll 1048576 z0 < 0) = false := decide_eq_false hs0
    have SZ1 := hide (fun (W : World) (hb : Below w.heap.size w W) => szItemS_any a1 len1 cap1 z1 (szAll 1048576 z0) W (w1.below hb (Nat.le_refl _)) m1 (by omega) (by have := szAll_le 1048576 z0 (by omega); omega))
    by_cases hs1 : szAll (szAll 1048576 z0) z1 < 0
    · have hd1 : decide (szAll (szAll 1048576 z0) z1 < 0) = true := decide_eq_true hs1
      clear w0 w1 m0 m1 hzr0 hzr1 ok0
      generalize szAll (szAll 1048576 z0) z1 = q1 at SZ1 hs1 hd1
      generalize szAll 1048576 z0 = q0 at SZ0 SZ1 hs0 hd0
      go_enter Try.func3, Try.ntmps3
      go_wp2_with fail
      refine ((unhide SZ0) _ (Below.refl _ _)).mono ?_
      rintro e w1 ⟨rfl, b1⟩
      go_wp2_with fail
      refine ((unhide SZ1) _ b1).mono ?_
      rintro e w2 ⟨rfl, b2⟩
      go_wp2_with fail
      go_ret
      exact ⟨rfl, b1.trans (b2.mono b1.size)⟩
    · have ok1 := szAll_ok (left := szAll 1048576 z0) (its := z1) (by omega)
      have hle := szAll_le 1048576 z0 (by omega)
      have hd1 : decide (szAll (szAll 1048576 z0) z1 < 0) = false := decide_eq_false hs1
      have l0 : len0 ≤ 1048576 := by have := w0.1; omega
      have l1 : len1 ≤ 1048576 := by have := w1.1; omega
      have y0 : ∀ it ∈ z0, it.z.length ≤ 1048576 := fun it hi => by have := bytesOf_mem hi; omega
      have y1 : ∀ it ∈ z1, it.z.length ≤ 1048576 := fun it hi => by have := bytesOf_mem hi; omega
      have o0 := w0.2.1
      have o1 := w1.2.1
      have n0 := w0.1
      have n1 := w1.1
      have T0 : Hid (∀ (W : World), Below w.heap.size w W → Calls Try.prog 7 #[.slice a0 len0 cap0] W fun e w' => e = .returned (.slice (some ⟨W.heap.size, 0, none⟩) len0 len0) ∧ IRow w' (some ⟨W.heap.size, 0, none⟩) len0 z0 ∧ Below W.heap.size W w') := fun W hb => (toItemS_any a0 len0 cap0 z0 W (w0.below hb (Nat.le_refl _)) l0 y0).mono fun e w' ⟨he, ho, hb'⟩ => ⟨he, by rw [← n0]; exact ho.row o0 hzr0, hb'⟩
      have T1 : Hid (∀ (W : World), Below w.heap.size w W → Calls Try.prog 7 #[.slice a1 len1 cap1] W fun e w' => e = .returned (.slice (some ⟨W.heap.size, 0, none⟩) len1 len1) ∧ IRow w' (some ⟨W.heap.size, 0, none⟩) len1 z1 ∧ Below W.heap.size W w') := fun W hb => (toItemS_any a1 len1 cap1 z1 W (w1.below hb (Nat.le_refl _)) l1 y1).mono fun e w' ⟨he, ho, hb'⟩ => ⟨he, by rw [← n1]; exact ho.row o1 hzr1, hb'⟩
      have Y0 := hide y0
      have Y1 := hide y1
      have E0 := hide (sameIts_self z0)
      have E1 := hide (sameIts_self z1)
      have SPC := hide (fun (g h : Nat) (W : World) (x : IRow W (some ⟨g, 0, none⟩) len0 z0) (y : IRow W (some ⟨h, 0, none⟩) len1 z1) => specSameItems_any (some ⟨g, 0, none⟩) (some ⟨h, 0, none⟩) len0 len0 len1 len1 z0 z1 W x y l0 l1)
      have IMC := hide (fun (g h : Nat) (W : World) (x : IRow W (some ⟨g, 0, none⟩) len0 z0) (y : IRow W (some ⟨h, 0, none⟩) len1 z1) => implSameItems_any (some ⟨g, 0, none⟩) (some ⟨h, 0, none⟩) len0 len0 len1 len1 z0 z1 W x y l0 l1)
      have hq : (eqIts z0 z1 == eqIts z0 z1) = true := by simp
      generalize eqIts z0 z1 = sq at SPC IMC hq
      clear w0 w1 m0 m1 hzr0 hzr1 ok0 ok1 y0 y1 o0 o1 n0 n1 hle
      generalize szAll (szAll 1048576 z0) z1 = q1 at SZ1 hs1 hd1
      generalize szAll 1048576 z0 = q0 at SZ0 SZ1 hs0 hd0
      go_enter Try.func3, Try.ntmps3
      go_wp2_with fail
      refine ((unhide SZ0) _ (Below.refl _ _)).mono ?_
      rintro e w1 ⟨rfl, b1⟩
      go_wp2_with fail
      refine ((unhide SZ1) _ b1).mono ?_
      rintro e w2 ⟨rfl, b2⟩
      have B2 := b1.trans (b2.mono b1.size)
      go_wp2_with fail
      refine ((unhide T0) _ B2).mono ?_
      rintro e w3 ⟨rfl, i3, b3⟩
      have B3 := B2.trans (b3.mono B2.size)
      go_wp2_with fail
      refine ((unhide T1) _ B3).mono ?_
      rintro e w4 ⟨rfl, i4, b4⟩
      have B4 := B3.trans (b4.mono B3.size)
      have i3' := i3.below b4 (Nat.le_refl _)
      go_wp2_with fail
      refine ((unhide SPC) _ _ _ i3' i4).mono ?_
      rintro e w5 ⟨rfl, m5, rfl⟩
      have B5 := below_drewN B4 m5
      clear i3 i4 i3'
      go_wp2_with fail
      refine ((unhide T0) _ B5).mono ?_
      rintro e w6 ⟨rfl, i6, b6⟩
      have B6 := B5.trans (b6.mono B5.size)
      go_wp2_with fail
      refine ((unhide T1) _ B6).mono ?_
      rintro e w7 ⟨rfl, i7, b7⟩
      have B7 := B6.trans (b7.mono B6.size)
      have i6' := i6.below b7 (Nat.le_refl _)
      go_wp2_with fail
      refine ((unhide IMC) _ _ _ i6' i7).mono ?_
      rintro e w8 ⟨rfl, m8, rfl⟩
      have B8 := below_drewN B7 m8
      have i6a := i6'.below (below_drewN (Below.refl w7.heap.size w7) m8) (Nat.le_refl _)
      have i7a := i7.below (below_drewN (Below.refl w7.heap.size w7) m8) (Nat.le_refl _)
      clear i6 i6' i7
      go_wp2_with fail
      refine ((unhide T0) _ B8).mono ?_
      rintro e w9 ⟨rfl, i9, b9⟩
      have B9 := B8.trans (b9.mono B8.size)
      have i6b := i6a.below b9 (Nat.le_refl _)
      have i7b := i7a.below b9 (Nat.le_refl _)
      go_wp2_with fail
      refine (eqItemS_any _ _ _ _ _ _ z0 z0 _ i6b i9 l0 l0 (unhide Y0) (unhide Y0)).mono ?_
      rintro e w10 ⟨rfl, b10⟩
      have B10 := B9.trans (b10.mono B9.size)
      have i7c := i7b.below b10 (Nat.le_refl _)
      rw [unhide E0]
      clear i6a i6b i7a i7b i9
      go_wp2_with fail
      refine ((unhide T1) _ B10).mono ?_
      rintro e w11 ⟨rfl, i11, b11⟩
      have B11 := B10.trans (b11.mono B10.size)
      have i7d := i7c.below b11 (Nat.le_refl _)
      go_wp2_with fail
      refine (eqItemS_any _ _ _ _ _ _ z1 z1 _ i7d i11 l1 l1 (unhide Y1) (unhide Y1)).mono ?_
      rintro e w12 ⟨rfl, b12⟩
      have B12 := B11.trans (b12.mono B11.size)
      rw [unhide E1]
      clear i7c i7d i11
      go_wp2_with fail
      go_ret
      exact ⟨rfl, B12⟩

/-! The row's step. -/
set_option maxRecDepth 100000 in
theorem lifted (os : Os) (started : os.Started) (H : Type) (enc : TypeId × Value → H) :
    ReturnsInHanded {} Try.checked os 3 .any (Rows.fnExactSameItemsSpec.pre6 enc Try.prog Try.f3 Rows.fnExactSameItemsRow.domain false) (Rows.fnExactSameItemsSpec.post enc Try.prog Try.f3 false true false false) := by
  refine returnsInHanded_of_change (C := Try.checked) own started (by kernel_rfl) Try.func3
    (ChangeSpec.witness6 (enc := enc) (C := Try.checked) false ⟨#[], #[.slice none 0 0, .slice none 0 0], []⟩ 8 (by kernel_rfl) (by kernel_rfl) (by kernel_rfl) (by kernel_rfl)) ?_
  intro W base args ds gs before hval0 hW hcnd _
  have hval : ∀ (j : Nat) t v, Try.f3.params[j]? = some t → args[j]? = some v → Value.okWide Try.prog W .any base t v := hval0
  have hW' := hW
  obtain ⟨p, q, hA0, hV, rfl, hfz, hnd⟩ := hW
  have hA : DataW.TrodAll enc Try.prog W 0 (fun _ => true) true Try.f3.params.toList args.toList ds p := hA0
  rw [Try.params3] at hA hval
  obtain ⟨v0, vs0, d0, ds0, p0, q0, hargs, rfl, rfl, h0, r0⟩ := trodAll_cons hA
  obtain ⟨v1, vs1, d1, ds1, p1, q1, rfl, rfl, rfl, h1, r1⟩ := trodAll_cons r0
  obtain ⟨rfl, rfl, rfl⟩ := trodAll_nil r1
  obtain rfl : args = #[v0, v1] := by cases args; simp_all
  obtain ⟨rfl, rfl⟩ := trodVars_none hV
  have k0 := h0
  have lt0 : ∀ x ∈ p0, x.block < W.heap.size := by obtain ⟨m, hm⟩ := k0; exact DataW.trod_lt m _ _ _ hm
  obtain ⟨a0, len0, cap0, z0, rfl, m0, w0⟩ := open_items Try.underlying22 Try.underlying37 (by kernel_rfl) rfl rfl rfl rfl rfl rfl rfl rfl rfl (by kernel_rfl) (by kernel_rfl) (by kernel_rfl) (by kernel_rfl) Try.underlying4 Try.underlying2 Try.underlying28 Try.underlying5 (okWide_slice Try.underlying22 (hval 0 22 v0 rfl rfl)) h0
  have k1 := h1
  have lt1 : ∀ x ∈ p1, x.block < W.heap.size := by obtain ⟨m, hm⟩ := k1; exact DataW.trod_lt m _ _ _ hm
  obtain ⟨a1, len1, cap1, z1, rfl, m1, w1⟩ := open_items Try.underlying22 Try.underlying37 (by kernel_rfl) rfl rfl rfl rfl rfl rfl rfl rfl rfl (by kernel_rfl) (by kernel_rfl) (by kernel_rfl) (by kernel_rfl) Try.underlying4 Try.underlying2 Try.underlying28 Try.underlying5 (okWide_slice Try.underlying22 (hval 1 22 v1 rfl rfl)) h1
  clear hA0 hval0
  refine (walk a0 len0 cap0 z0 a1 len1 cap1 z1 W m0 w0 m1 w1).mono fun e W' ⟨he, bel⟩ => ?_
  subst he
  exact ⟨_, rfl, _, _, _, [], _, [], hW', trodAll_mk1 (shut_bool Try.underlying4 _), (trodAll_cons_mk (Below.trod laidOut (by kernel_rfl) (of_decide_eq_true (by kernel_rfl)) k0 bel lt0) (trodAll_cons_mk (Below.trod laidOut (by kernel_rfl) (of_decide_eq_true (by kernel_rfl)) k1 bel lt1) trodAll_mk0)), rfl, bel.frame _, fun h => by cases h⟩

theorem over : Rows.fnExactSameItemsRow.holds Try.pinned (OpenSpec.ofChange Rows.fnExactSameItemsSpec) :=
  OpenClaim.holds_of_wide 3 Try.f3 rfl rfl rfl rfl rfl rfl rfl ⟨rfl, rfl, rfl, rfl, rfl⟩ rfl rfl rfl rfl rfl (by kernel_rfl) Try.func3 (by kernel_rfl)
    (of_decide_eq_true (by kernel_rfl)) (by unfold Func.isWrapper; first | (rw [if_pos (by decide +kernel)]; kernel_rfl) | (rw [if_neg (by decide +kernel)]; exact ⟨rfl, rfl⟩))
    (fun os started H enc _ => lifted os started H enc)

/-- The statement. -/
theorem proved : Rows.FnExactSameItemsSaid := over
#print axioms proved
end Go.Proofs.Ytkibdgmgjnoblab.fnExactSameItems
