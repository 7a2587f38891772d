/- Proved: for every slice of slices of bytes the law FnExactReceiptsFault returns true and changes no argument. Conditions: none. -/
import Derived.Test.YtndkdngojjhinaaRows
import Derived.Test.YtndkdngojjhinaaBsS
import Derived.Test.YtndkdngojjhinaaBsT
import Derived.Test.YtndkdngojjhinaaBsE
import Derived.Test.YtndkdngojjhinaaRpK
import Derived.Test.YtndkdngojjhinaaRpM
import Derived.WalkSmall
import Derived.Test.YtndkdngojjhinaaBsB
import Derived.WalkKit
import Derived.ProofKit
import Derived.OpenShut
import Derived.ShutString
import Derived.ChangeOld
import Derived.Below
namespace Go.Proofs.Ytndkdngojjhinaa.fnExactReceiptsFault
open Go.ChangeShapes Go.WideShapes Go.ChangeAt Go.RowKit
set_option linter.unusedVariables false

theorem own : ownKnob Try.prog.godebug = none := by kernel_rfl
theorem laidOut : laidOutB Try.prog = true := by kernel_rfl

/-! The walk: the Go text returns true, and writes nothing that was there. -/
set_option maxHeartbeats 2000000 in
theorem walk (a0 : Option Addr) (len0 cap0 : Nat) (z0 : List (List Int)) (w : World) (m0 : len0 ≤ maxLen) (w0 : BsRow w a0 len0 z0) :
    Calls Try.prog 3 #[.slice a0 len0 cap0] w fun e w' => e = .returned (.bool true) ∧ Below w.heap.size w w' := by
  have hzr0 := w0.bytes
  have SZ0 := hide (fun (W : World) (hb : Below w.heap.size w W) => szByteSS_any a0 len0 cap0 z0 1048576 W (w0.below hb (Nat.le_refl _)) m0 (by omega) (by omega))
  by_cases hs0 : szBss 1048576 z0 < 0
  · have hd0 : decide (szBss 1048576 z0 < 0) = true := decide_eq_true hs0
    clear w0 m0 hzr0
    generalize szBss 1048576 z0 = q0 at SZ0 hs0 hd0
    go_enter Try.func3, Try.ntmps3
    go_wp2_with fail
    refine ((unhide SZ0) _ (Below.refl _ _)).mono ?_
    rintro e w1 ⟨rfl, rfl⟩
    go_wp2_with fail
    go_ret
    exact ⟨rfl, Below.refl _ _⟩
  · have ok0 := szBss_ok (left := 1048576) (zss := z0) (by omega)
    have hd0 : decide (szBss 1048576 z0 < 0) = false := decide_eq_false hs0
    have l0 : len0 ≤ 1048576 := by have := w0.1; omega
    have y0 : ∀ z ∈ z0, z.length ≤ 1048576 := fun z hi => by have := ok0.2 z hi; omega
    have o0 := w0.2.1
    have n0 := w0.1
    have T0 : Hid (∀ (W : World), Below w.heap.size w W → Calls Try.prog 7 #[.slice a0 len0 cap0] W fun e w' => e = .returned (.slice (some ⟨W.heap.size, 0, none⟩) len0 len0) ∧ BsRow w' (some ⟨W.heap.size, 0, none⟩) len0 z0 ∧ Below W.heap.size W w') := fun W hb => (toByteSS_any a0 len0 cap0 z0 W (w0.below hb (Nat.le_refl _)) l0 y0).mono fun e w' ⟨he, ho, hb'⟩ => ⟨he, by rw [← n0]; exact ho.row o0 hzr0, hb'⟩
    have Y0 := hide y0
    have E0 := hide (sameBs_self z0)
    have SPC := hide (fun (g : Nat) (W : World) (x : BsRow W (some ⟨g, 0, none⟩) len0 z0) => specReceipts_any (some ⟨g, 0, none⟩) len0 len0 z0 W x l0 y0)
    have IMC := hide (fun (g : Nat) (W : World) (x : BsRow W (some ⟨g, 0, none⟩) len0 z0) => implReceipts_any (some ⟨g, 0, none⟩) len0 len0 z0 W x l0 y0)
    have hq : (rpFlt z0 != rpFlt z0) = false := by simp
    generalize rpFlt z0 = sq at SPC IMC hq
    clear w0 m0 hzr0 ok0 y0 o0 n0
    generalize szBss 1048576 z0 = q0 at SZ0 hs0 hd0
    go_enter Try.func3, Try.ntmps3
    go_wp2_with fail
    refine ((unhide SZ0) _ (Below.refl _ _)).mono ?_
    rintro e w1 ⟨rfl, rfl⟩
    go_wp2_with fail
    refine ((unhide T0) _ (Below.refl _ _)).mono ?_
    rintro e w3 ⟨rfl, i3, b3⟩
    go_wp2_with fail
    refine ((unhide SPC) _ _ i3).mono ?_
    rintro e w4 ⟨rfl, rfl⟩
    have B3 := b3
    clear i3 b3
    go_wp2_with fail
    refine ((unhide T0) _ B3).mono ?_
    rintro e w6 ⟨rfl, i6, b6⟩
    have B6 := B3.trans (b6.mono B3.size)
    go_wp2_with fail
    refine ((unhide IMC) _ _ i6).mono ?_
    rintro e w8 ⟨rfl, b8⟩
    replace i6 := i6.below b8 (Nat.le_refl _)
    replace B6 := B6.trans (b8.mono B6.size)
    go_wp2_with fail
    refine ((unhide T0) _ B6).mono ?_
    rintro e w9 ⟨rfl, i9, b9⟩
    have B9 := B6.trans (b9.mono B6.size)
    have i6b := i6.below b9 (Nat.le_refl _)
    go_wp2_with fail
    refine (eqByteSS_any _ _ _ _ _ _ z0 z0 _ i6b i9 l0 l0 (unhide Y0) (unhide Y0)).mono ?_
    rintro e w10 ⟨rfl, n10, rfl⟩
    have B10 := below_drewN B9 n10
    rw [unhide E0]
    clear i6 i6b i9
    go_wp2_with fail
    go_ret
    exact ⟨rfl, B10⟩

/-! The row's step. -/
set_option maxRecDepth 100000 in
theorem lifted (os : Os) (started : os.Started) (H : Type) (enc : TypeId × Value → H) :
    ReturnsInHanded {} Try.checked os 3 .any (Rows.fnExactReceiptsFaultSpec.pre6 enc Try.prog Try.f3 Rows.fnExactReceiptsFaultRow.domain false) (Rows.fnExactReceiptsFaultSpec.post enc Try.prog Try.f3 false true false false) := by
  refine returnsInHanded_of_change (C := Try.checked) own started (by kernel_rfl) Try.func3
    (ChangeSpec.witness6 (enc := enc) (C := Try.checked) false ⟨#[], #[.slice none 0 0], []⟩ 8 (by kernel_rfl) (by kernel_rfl) (by kernel_rfl) (by kernel_rfl)) ?_
  intro W base args ds gs before hval0 hW hcnd _
  have hval : ∀ (j : Nat) t v, Try.f3.params[j]? = some t → args[j]? = some v → Value.okWide Try.prog W .any base t v := hval0
  have hW' := hW
  obtain ⟨p, q, hA0, hV, rfl, hfz, hnd⟩ := hW
  have hA : DataW.TrodAll enc Try.prog W 0 (fun _ => true) true Try.f3.params.toList args.toList ds p := hA0
  rw [Try.params3] at hA hval
  obtain ⟨v0, vs0, d0, ds0, p0, q0, hargs, rfl, rfl, h0, r0⟩ := trodAll_cons hA
  obtain ⟨rfl, rfl, rfl⟩ := trodAll_nil r0
  obtain rfl : args = #[v0] := by cases args; simp_all
  obtain ⟨rfl, rfl⟩ := trodVars_none hV
  have k0 := h0
  have lt0 : ∀ x ∈ p0, x.block < W.heap.size := by obtain ⟨m, hm⟩ := k0; exact DataW.trod_lt m _ _ _ hm
  obtain ⟨a0, len0, cap0, z0, rfl, m0, w0⟩ := open_bss Try.underlying22 Try.underlying28 (by kernel_rfl) (by kernel_rfl) Try.underlying5 (okWide_slice Try.underlying22 (hval 0 22 v0 rfl rfl)) h0
  clear hA0 hval0
  refine (walk a0 len0 cap0 z0 W m0 w0).mono fun e W' ⟨he, bel⟩ => ?_
  subst he
  exact ⟨_, rfl, _, _, _, [], _, [], hW', trodAll_mk1 (shut_bool Try.underlying4 _), (trodAll_cons_mk (Below.trod laidOut (by kernel_rfl) (of_decide_eq_true (by kernel_rfl)) k0 bel lt0) trodAll_mk0), rfl, bel.frame _, fun h => by cases h⟩

theorem over : Rows.fnExactReceiptsFaultRow.holds Try.pinned (OpenSpec.ofChange Rows.fnExactReceiptsFaultSpec) :=
  OpenClaim.holds_of_wide 3 Try.f3 rfl rfl rfl rfl rfl rfl rfl ⟨rfl, rfl, rfl, rfl, rfl⟩ rfl rfl rfl rfl rfl (by kernel_rfl) Try.func3 (by kernel_rfl)
    (of_decide_eq_true (by kernel_rfl)) (by unfold Func.isWrapper; first | (rw [if_pos (by decide +kernel)]; kernel_rfl) | (rw [if_neg (by decide +kernel)]; exact ⟨rfl, rfl⟩))
    (fun os started H enc _ => lifted os started H enc)

/-- The statement. -/
theorem proved : Rows.FnExactReceiptsFaultSaid := over
#print axioms proved
end Go.Proofs.Ytndkdngojjhinaa.fnExactReceiptsFault
