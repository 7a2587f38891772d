/- Proved: for every slice of pairs the law FnExactPairsFault returns true and changes no argument. Conditions: none. -/
import Derived.Test.YtihdmdbekdadlaaRows
import Derived.Test.YtihdmdbekdadlaaJ11
import Derived.Test.YtihdmdbekdadlaaJ12
import Derived.WalkSmall
import Derived.WalkKit
import Derived.ProofKit
import Derived.OpenShut
import Derived.ShutString
import Derived.ChangeOld
import Derived.Below
namespace Go.Proofs.Ytihdmdbekdadlaa.fnExactPairsFault
open Go.ChangeShapes Go.WideShapes Go.ChangeAt Go.RowKit
set_option linter.unusedVariables false

theorem own : ownKnob Try.prog.godebug = none := by kernel_rfl
theorem laidOut : laidOutB Try.prog = true := by kernel_rfl

/-! The walk: the Go text returns true, and writes nothing that was there. -/
set_option maxHeartbeats 4000000 in
theorem walk (s0 : Sl) (z0 : List Pr) (w : World) (o0 : RowOk prK w s0 z0) :
    Calls Try.prog 4 #[.slice s0.a s0.n s0.c] w fun e w' => e = .returned (.bool true) ∧ Below w.heap.size w w' := by
  have Z := hide (szPairS_any s0 z0 1048576 w o0 (by omega) (by omega))
  have hlen := o0.len
  have HO := hide o0
  have HSZ : Hid (0 ≤ szOf 1048576 (s0.n + lsum prSz z0) → z0.length ≤ 1048576 ∧ ∀ x ∈ z0, prSz x ≤ 1048576) := fun h => by
    unfold szOf at h
    split at h
    · omega
    · refine ⟨by omega, fun x hx => ?_⟩
      have := lsum_mem prSz z0 x hx
      omega
  rw [hlen] at HSZ
  obtain ⟨L, hL⟩ : ∃ L, L = szOf 1048576 (z0.length + lsum prSz z0) := ⟨_, rfl⟩
  rw [← hL] at Z HSZ
  clear hL o0 hlen
  go_enter Try.func4, Try.ntmps4
  go_wp2_with fail
  refine (unhide Z).mono ?_
  rintro e w1 ⟨rfl, b1⟩
  by_cases hn : L < 0
  · have hd : decide (L < 0) = true := decide_eq_true hn
    go_wp2_with fail
    go_ret
    exact ⟨rfl, b1⟩
  · have hd : decide (L < 0) = false := decide_eq_false hn
    obtain ⟨m0, m1⟩ := (unhide HSZ) (by omega)
    have HB1 := hide b1
    have T1 := hide (fun (W : World) (hb : Below w.heap.size w W) => toPairS_any [] s0 z0 W (RowOk.below (unhide HO) hb (Nat.le_refl _)) m0 m1)
    have HM0 := hide m0
    have HM1 := hide m1
    clear b1 Z HSZ hn m0 m1
    go_wp2_with fail
    refine ((unhide T1) _ (unhide HB1)).mono ?_
    rintro e w2 ⟨t2, d2, rfl, o2, b2⟩
    have k2 := o2.ok
    have B2 := (unhide HB1).trans (b2.mono (unhide HB1).size)
    have n2 : t2.n ≤ 1048576 := by have := k2.len; have := unhide HM0; omega
    have HS := hide (l13Fault_any t2 z0 w2 k2 n2)
    clear o2 b2 k2
    go_wp2_with fail
    refine (specPairs_any t2 z0 w2 (unhide HS)).mono ?_
    rintro e w3 ⟨rfl, b3⟩
    have B3 := B2.trans (b3.mono B2.size)
    generalize hc : prFlt z0 = c
    have HC := hide hc
    clear hc b3
    go_wp2_with fail
    refine ((unhide T1) _ B3).mono ?_
    rintro e w4 ⟨t4, d4, rfl, o4, b4⟩
    have k4 := o4.ok
    have B4 := B3.trans (b4.mono B3.size)
    have n4 : t4.n ≤ 1048576 := by have := k4.len; have := unhide HM0; omega
    have HI := hide (implPairs_any t4 z0 w4 k4 n4 (unhide HM1))
    rw [unhide HC] at HI
    have HK4 := hide k4
    clear o4 b4 k4
    go_wp2_with fail
    refine (unhide HI).mono ?_
    rintro e w5 ⟨rfl, b5⟩
    have B5 := B4.trans (b5.mono B4.size)
    have k5 := RowOk.below (unhide HK4) b5 (Nat.le_refl _)
    have hq : (c != c) = false := by simp
    have HK5 := hide k5
    clear k5 b5
    go_wp2_with fail
    refine ((unhide T1) _ B5).mono ?_
    rintro e w6 ⟨t6, d6, rfl, o6, b6⟩
    have k6 := o6.ok
    have B6 := B5.trans (b6.mono B5.size)
    have HE := hide (eqPairS_any t4 t6 z0 z0 w6 (RowOk.below (unhide HK5) b6 (Nat.le_refl _)) k6 (unhide HM0) (unhide HM0) (unhide HM1) (unhide HM1))
    have hsame : decide (z0 = z0) = true := by simp
    rw [hsame] at HE
    clear o6 b6 k6
    go_wp2_with fail
    refine (unhide HE).mono ?_
    rintro e w7 ⟨rfl, b7⟩
    have B7 := B6.trans (b7.mono B6.size)
    go_wp2_with fail
    go_ret
    exact ⟨rfl, B7⟩

/-! The row's step. -/
set_option maxRecDepth 100000 in
theorem lifted (os : Os) (started : os.Started) (H : Type) (enc : TypeId × Value → H) :
    ReturnsInHanded {} Try.checked os 4 .any (Rows.fnExactPairsFaultSpec.pre6 enc Try.prog Try.f4 Rows.fnExactPairsFaultRow.domain false) (Rows.fnExactPairsFaultSpec.post enc Try.prog Try.f4 false true false false) := by
  refine returnsInHanded_of_change (C := Try.checked) own started (by kernel_rfl) Try.func4
    (ChangeSpec.witness6 (enc := enc) (C := Try.checked) false ⟨#[], #[.slice none 0 0], []⟩ 8 (by kernel_rfl) (by kernel_rfl) (by kernel_rfl) (by kernel_rfl)) ?_
  intro W base args ds gs before hval0 hW hcnd _
  have hval : ∀ (j : Nat) t v, Try.f4.params[j]? = some t → args[j]? = some v → Value.okWide Try.prog W .any base t v := hval0
  have hW' := hW
  obtain ⟨p, q, hA0, hV, rfl, hfz, hnd⟩ := hW
  have hA : DataW.TrodAll enc Try.prog W 0 (fun _ => true) true Try.f4.params.toList args.toList ds p := hA0
  rw [Try.params4] at hA hval
  obtain ⟨v0, vs0, d0, ds0, p0, q0, hargs, rfl, rfl, h0, r0⟩ := trodAll_cons hA
  obtain ⟨rfl, rfl, rfl⟩ := trodAll_nil r0
  obtain rfl : args = #[v0] := by cases args; simp_all
  obtain ⟨rfl, rfl⟩ := trodVars_none hV
  have k0 := h0
  have lt0 : ∀ x ∈ p0, x.block < W.heap.size := by obtain ⟨m, hm⟩ := k0; exact DataW.trod_lt m _ _ _ hm
  obtain ⟨a0, len0, cap0, rfl⟩ := okWide_slice Try.underlying36 (hval 0 36 v0 rfl rfl)
  obtain ⟨s0, z0, eq0, o0⟩ : ∃ (s : Sl) (z : List Pr), (Value.slice a0 len0 cap0) = .slice s.a s.n s.c ∧ RowOk prK W s z := by
    obtain ⟨fuel, hf⟩ := h0
    obtain ⟨s, z, q, o⟩ := opens_row (T := 0) Try.underlying36 (by kernel_rfl) (by decide) opensPair _ _ _ rfl hf
    have q' : [Value.slice a0 len0 cap0] = [Value.slice s.a s.n s.c] := q
    simp only [List.cons.injEq, and_true] at q'
    exact ⟨s, z, q', o⟩
  simp only [Value.slice.injEq] at eq0
  obtain ⟨rfl, rfl, rfl⟩ := eq0
  clear hA0 hval0
  refine (walk s0 z0 W o0).mono fun e W' ⟨he, bel⟩ => ?_
  subst he
  exact ⟨_, rfl, _, _, _, [], _, [], hW', trodAll_mk1 (shut_bool Try.underlying4 _), (trodAll_cons_mk (Below.trod laidOut (by kernel_rfl) (of_decide_eq_true (by kernel_rfl)) k0 bel lt0) trodAll_mk0), rfl, bel.frame _, fun h => by cases h⟩

theorem over : Rows.fnExactPairsFaultRow.holds Try.pinned (OpenSpec.ofChange Rows.fnExactPairsFaultSpec) :=
  OpenClaim.holds_of_wide 4 Try.f4 rfl rfl rfl rfl rfl rfl rfl ⟨rfl, rfl, rfl, rfl, rfl⟩ rfl rfl rfl rfl rfl (by kernel_rfl) Try.func4 (by kernel_rfl)
    (of_decide_eq_true (by kernel_rfl)) (by unfold Func.isWrapper; first | (rw [if_pos (by decide +kernel)]; kernel_rfl) | (rw [if_neg (by decide +kernel)]; exact ⟨rfl, rfl⟩))
    (fun os started H enc _ => lifted os started H enc)

/-- The statement. -/
theorem proved : Rows.FnExactPairsFaultSaid := over
#print axioms proved
end Go.Proofs.Ytihdmdbekdadlaa.fnExactPairsFault
