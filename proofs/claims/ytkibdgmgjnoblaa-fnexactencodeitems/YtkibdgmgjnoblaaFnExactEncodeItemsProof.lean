/- Proved: for every slice of items the law FnExactEncodeItems returns true and changes no argument. Conditions: none. -/
import Derived.Test.YtkibdgmgjnoblaaRows
import Derived.Test.YtkibdgmgjnoblaaMark
import Derived.Test.YtkibdgmgjnoblaaEncU
import Derived.Test.YtkibdgmgjnoblaaEncJ
import Derived.Test.YtkibdgmgjnoblaaItS
import Derived.Test.YtkibdgmgjnoblaaItT
import Derived.Test.YtkibdgmgjnoblaaItE
import Derived.Test.YtkibdgmgjnoblaaItM
import Derived.WalkSmall
import Derived.Test.YtkibdgmgjnoblaaItB
import Derived.WalkKit
import Derived.ProofKit
import Derived.OpenShut
import Derived.ShutString
import Derived.ChangeOld
import Derived.Below
namespace Go.Proofs.Ytkibdgmgjnoblaa.fnExactEncodeItems
open Go.ChangeShapes Go.WideShapes Go.ChangeAt Go.RowKit
set_option linter.unusedVariables false

theorem own : ownKnob Try.prog.godebug = none := by kernel_rfl
theorem laidOut : laidOutB Try.prog = true := by kernel_rfl

/-! The walk: the Go text returns true, and writes nothing that was there. -/
set_option maxHeartbeats 4000000 in
theorem walk (a0 : Option Addr) (len0 cap0 : Nat) (z0 : List It) (w : World) (m0 : len0 ≤ maxLen) (w0 : ItRow w a0 len0 z0) :
    Calls Try.prog 5 #[.slice a0 len0 cap0] w fun e w' => e = .returned (.bool true) ∧ Below w.heap.size w w' := by
  have hzr0 := w0.bytes
  have SZ0 := hide (fun (W : World) (hb : Below w.heap.size w W) => szItemS_any a0 len0 cap0 z0 1048576 W (w0.below hb (Nat.le_refl _)) m0 (by omega) (by omega))
  by_cases hs0 : szAll 1048576 z0 < 0
  · have hd0 : decide (szAll 1048576 z0 < 0) = true := decide_eq_true hs0
    clear w0 m0 hzr0
    generalize szAll 1048576 z0 = q0 at SZ0 hs0 hd0
    go_enter Try.func5, Try.ntmps5
    go_wp2_with fail
    refine ((unhide SZ0) _ (Below.refl _ _)).mono ?_
    rintro e w1 ⟨rfl, b1⟩
    go_wp2_with fail
    go_ret
    exact ⟨rfl, b1⟩
  · have ok0 := szAll_ok (left := 1048576) (its := z0) (by omega)
    have hd0 : decide (szAll 1048576 z0 < 0) = false := decide_eq_false hs0
    have l0 : len0 ≤ 1048576 := by have := w0.1; omega
    have y0 : ∀ it ∈ z0, it.z.length ≤ 1048576 := fun it hi => by have := bytesOf_mem hi; omega
    have o0 := w0.2.1
    have n0 := w0.1
    have T0 : Hid (∀ (W : World), Below w.heap.size w W → Calls Try.prog 14 #[.slice a0 len0 cap0] W fun e w' => e = .returned (.slice (some ⟨W.heap.size, 0, none⟩) len0 len0) ∧ OIts w' W.heap.size z0 32 w'.heap.size ∧ ItRowN w' (some ⟨W.heap.size, 0, none⟩) len0 z0 ∧ W.heap.size < w'.heap.size ∧ Below W.heap.size W w') := fun W hb => (toItemS_any a0 len0 cap0 z0 W (w0.below hb (Nat.le_refl _)) l0 y0).mono fun e w' ⟨he, ho, hb'⟩ => ⟨he, ho, ⟨by rw [← n0]; exact ho.row o0 hzr0, by rw [← n0]; exact ho.nilOk⟩, ho.lt, hb'⟩
    have M0 : Hid (∀ (W : World) (g C : Nat), OIts W g z0 32 C → g < C → Calls Try.prog 20 #[.slice (some ⟨g, 0, none⟩) len0 len0, .int .i64 1] W fun e w' => e = .returned (.int .i64 (1 + markN z0)) ∧ OnlyIn g C W w') := fun W g C ho hC => by
      rw [← n0]; exact markItemS_any g z0 1 C W ho hC (by omega) (by omega) (by omega) (by omega)
    have SP : Hid (∀ W g, ItRowN W (some ⟨g, 0, none⟩) len0 z0 → Calls Try.prog 17 #[.slice (some ⟨g, 0, none⟩) len0 len0] W fun e w' => ∃ a' cap', e = .returned (.agg #[.int .i64 (enCode z0), .slice a' (enBytes z0).length cap']) ∧ w'.ownsRow W.heap.size 5 1 (.slice a' (enBytes z0).length cap') (enBytes z0).length ((enBytes z0).map (Value.int .u8)) ∧ Below W.heap.size W w') := fun W g h => specEnc_any _ _ _ z0 W h l0
    have IM : Hid (∀ W g, ItRowN W (some ⟨g, 0, none⟩) len0 z0 → Calls Try.prog 18 #[.slice (some ⟨g, 0, none⟩) len0 len0] W fun e w' => ∃ a' cap', e = .returned (.agg #[.int .i64 (enCode z0), .slice a' (enBytes z0).length cap']) ∧ w'.ownsRow W.heap.size 5 1 (.slice a' (enBytes z0).length cap') (enBytes z0).length ((enBytes z0).map (Value.int .u8)) ∧ Below W.heap.size W w') := fun W g h => implEnc_any _ _ _ z0 W h l0
    have Y0 := hide y0
    have E0 := hide (sameIts_self z0)
    have HRG := hide (enBytes_range z0 hzr0)
    have hln := enBytes_length z0
    generalize enCode z0 = c at SP IM
    generalize enBytes z0 = zs at SP IM HRG hln
    obtain ⟨L, hL⟩ : ∃ L, L = zs.length := ⟨_, rfl⟩
    rw [← hL] at SP IM
    have hL7 : L ≤ 1048576 := by omega
    generalize hmn : ((markN z0 : Nat) : Int) = mn at M0
    have hmn0 : 0 ≤ mn := by omega
    clear hL hln w0 m0 hzr0 ok0 y0 o0 n0 hmn
    generalize szAll 1048576 z0 = q0 at SZ0 hs0 hd0
    go_enter Try.func5, Try.ntmps5
    go_wp2_with fail
    refine ((unhide SZ0) _ (Below.refl _ _)).mono ?_
    rintro e wz ⟨rfl, bz⟩
    go_wp2_with fail
    refine ((unhide T0) _ bz).mono ?_
    rintro e w1 ⟨rfl, o1, r1, s1, b1⟩
    go_wp2_with fail
    refine ((unhide SP) _ _ r1).mono ?_
    rintro e w2 ⟨a2, c2, rfl, o2, b2⟩
    go_wp2_with fail
    obtain ⟨k3, s3, p0, p1⟩ := new2 w2 (.int .i64 c) (.slice a2 L c2) 41
    generalize w2.alloc (Obj.cells #[Value.int IntKind.i64 c, Value.slice a2 L c2] 41) = w3 at k3 s3 p0 p1
    have F1 := bz.trans (b1.mono bz.size)
    have F2 := F1.trans (b2.mono F1.size)
    have F3 := F2.trans (k3.mono F2.size)
    have R2 := (BRow.own2 o2 (unhide HRG)).below k3 (Nat.le_refl _)
    clear o1 r1 s1 o2
    refine ((unhide T0) _ F3).mono ?_
    rintro e w4 ⟨rfl, o4, r4, hs34, b4⟩
    go_wp2_with fail
    refine ((unhide IM) _ _ r4).mono ?_
    rintro e w5 ⟨a5, c5, rfl, o5, b5⟩
    have G5 := b4.trans (b5.mono b4.size)
    have s5 : w2.heap.size < w5.heap.size := Nat.lt_of_lt_of_le s3 G5.size
    have p0' : ∀ o, (w5.alloc o).cell? ⟨w2.heap.size, 0, none⟩ = some (.int .i64 c) := fun o => ((below_alloc w5 o).cell s5).trans ((G5.cell s3).trans p0)
    have p1' : ∀ o, (w5.alloc o).cell? ⟨w2.heap.size, 1, none⟩ = some (.slice a2 L c2) := fun o => ((below_alloc w5 o).cell s5).trans ((G5.cell s3).trans p1)
    go_wp2_with fail
    clear p0' p1'
    obtain ⟨k6, s6, q0, q1⟩ := new2 w5 (.int .i64 c) (.slice a5 L c5) 41
    generalize w5.alloc (Obj.cells #[Value.int IntKind.i64 c, Value.slice a5 L c5] 41) = w6 at k6 s6 q0 q1
    have R5 := (BRow.own2 o5 (unhide HRG)).below k6 (Nat.le_refl _)
    have G6 := G5.trans (k6.mono G5.size)
    refine (eqBytes_same c a5 a2 L c5 c2 zs _ R5 (R2.below G6 (Nat.le_refl _)) hL7).mono ?_
    rintro e w7 ⟨rfl, b7⟩
    have G7 := G6.trans (b7.mono G6.size)
    have K7 := k6.trans (b7.mono k6.size)
    go_wp2_with fail
    refine ((unhide T0) _ (F3.trans (G7.mono F3.size))).mono ?_
    rintro e w8 ⟨rfl, o8, r8, _, b8⟩
    have X8 := ((r4.below b5 (Nat.le_refl _)).below K7 (Nat.le_refl _)).below b8 (Nat.le_refl _)
    clear o8
    go_wp2_with fail
    refine (eqItemS_any _ _ _ _ _ _ z0 z0 _ X8.1 r8.1 l0 l0 (unhide Y0) (unhide Y0)).mono ?_
    rintro e w9 ⟨rfl, b9⟩
    rw [unhide E0]
    have b89 := b8.trans (b9.mono b8.size)
    have M9 := b7.trans (b89.mono b7.size)
    have L9 := K7.trans (b89.mono K7.size)
    have G9 := G7.trans (b89.mono G7.size)
    have x9 : OIts w9 w3.heap.size z0 32 w4.heap.size := (OUpto.below o4 b5 (Nat.le_refl _)).below L9 (Nat.le_refl _)
    have q0a := (M9.cell s6).trans q0
    have q1a := (M9.cell s6).trans q1
    have o9 := own_below o5 L9 (Nat.le_refl _)
    have s9 : w5.heap.size < w9.heap.size := Nat.lt_of_lt_of_le s6 M9.size
    clear b7 b8 b9 b89 X8 r8 M9 K7 r4 o4
    go_wp2_with fail
    refine ((unhide M0) _ _ _ x9 hs34).mono ?_
    rintro e w10 ⟨rfl, on10⟩
    have G10 : Below w3.heap.size w3 w10 := G9.trans on10.1
    have q0b := (on10.cell (p := ⟨w5.heap.size, 0, none⟩) b5.size s9).trans q0a
    have q1b := (on10.cell (p := ⟨w5.heap.size, 1, none⟩) b5.size s9).trans q1a
    have o10b := on10.own o9 (Nat.le_refl _)
    have s10 : w5.heap.size < w10.heap.size := Nat.lt_of_lt_of_le s9 on10.1.size
    have hk : decide ((1 + mn) < 0) = false := decide_eq_false (by omega)
    have p0a := (G10.cell s3).trans p0
    have p1a := (G10.cell s3).trans p1
    clear x9 on10 q0a q1a o9 q0 q1 L9
    go_wp2_with fail
    clear p0a p1a
    refine (eqBytes_same c a5 a2 L c5 c2 zs _ (BRow.own2 o10b (unhide HRG)) (R2.below G10 (Nat.le_refl _)) hL7).mono ?_
    rintro e w11 ⟨rfl, b11⟩
    have G11 := G10.trans (b11.mono G10.size)
    have q0c := (b11.cell s10).trans q0b
    have q1c := (b11.cell s10).trans q1b
    have o11 := own_below o10b b11 (Nat.le_refl _)
    have s11 : w5.heap.size < w11.heap.size := Nat.lt_of_lt_of_le s10 b11.size
    clear q0b q1b o10b
    go_wp2_with fail
    refine (markBytesResult_own w4.heap.size L c5 c a5 zs 1 _ o11 (by omega) (by omega) (by omega)).mono ?_
    rintro e w12 ⟨rfl, o12, g12⟩
    have hg5 : ∀ g, (Value.slice a5 L c5).ownBlock = some g → g < w5.heap.size := fun g hg => (o5.lt g hg).2
    have q0d := g12.cell q0c (fun e => by have := hg5 _ e.symm; exact absurd this (Nat.lt_irrefl _))
    have q1d := g12.cell q1c (fun e => by have := hg5 _ e.symm; exact absurd this (Nat.lt_irrefl _))
    have G12 : Below w3.heap.size w3 w12 := G11.grown g12 G11.size (fun g hg => Nat.le_trans (Nat.le_of_lt hs34) (o5.lt g hg).1)
    have M12 := BRow.own2 o12 (marks_range 1 L)
    have s12 : w5.heap.size < w12.heap.size := Nat.lt_of_lt_of_le s11 g12.size
    clear q0c q1c o11 o12
    go_wp2_with fail
    refine (heldBytesResult_any L c5 c a5 1 _ M12 (by omega) (by omega) (by omega)).mono ?_
    rintro e w13 ⟨rfl, b13⟩
    have G13 := G12.trans (b13.mono G12.size)
    have q0e := (b13.cell s12).trans q0d
    have q1e := (b13.cell s12).trans q1d
    have M13 := M12.below b13 (Nat.le_refl _)
    have s13 : w5.heap.size < w13.heap.size := Nat.lt_of_lt_of_le s12 b13.size
    have hne : ((1 + (L : Int)) != 1 + (L : Int)) = false := by simp
    clear q0d q1d M12
    go_wp2_with fail
    refine ((unhide T0) _ (F3.trans (G13.mono F3.size))).mono ?_
    rintro e w14 ⟨rfl, o14, r14, _, b14⟩
    have G14 := G13.trans (b14.mono G13.size)
    clear o14
    go_wp2_with fail
    refine ((unhide IM) _ _ r14).mono ?_
    rintro e w15 ⟨a15, c15, rfl, o15, b15⟩
    have b145 := b14.trans (b15.mono b14.size)
    have G15 := G13.trans (b145.mono G13.size)
    have q0f := (b145.cell s13).trans q0e
    have q1f := (b145.cell s13).trans q1e
    have M15 := M13.below b145 (Nat.le_refl _)
    have s15 : w5.heap.size < w15.heap.size := Nat.lt_of_lt_of_le s13 b145.size
    have s215 : w2.heap.size < w15.heap.size := Nat.lt_of_lt_of_le s3 G15.size
    have p0' : ∀ o, (w15.alloc o).cell? ⟨w2.heap.size, 0, none⟩ = some (.int .i64 c) := fun o => ((below_alloc w15 o).cell s215).trans ((G15.cell s3).trans p0)
    have p1' : ∀ o, (w15.alloc o).cell? ⟨w2.heap.size, 1, none⟩ = some (.slice a2 L c2) := fun o => ((below_alloc w15 o).cell s215).trans ((G15.cell s3).trans p1)
    clear q0e q1e M13 r14
    go_wp2_with fail
    clear p0' p1'
    obtain ⟨k16, s16, t0, t1⟩ := new2 w15 (.int .i64 c) (.slice a15 L c15) 41
    generalize w15.alloc (Obj.cells #[Value.int IntKind.i64 c, Value.slice a15 L c15] 41) = w16 at k16 s16 t0 t1
    have G16 := G15.trans (k16.mono G15.size)
    have R15 := (BRow.own2 o15 (unhide HRG)).below k16 (Nat.le_refl _)
    refine (eqBytes_same c a15 a2 L c15 c2 zs _ R15 (R2.below G16 (Nat.le_refl _)) hL7).mono ?_
    rintro e w17 ⟨rfl, b17⟩
    have k17 := k16.trans (b17.mono k16.size)
    have q0g := (k17.cell s15).trans q0f
    have q1g := (k17.cell s15).trans q1f
    have M17 := M15.below k17 (Nat.le_refl _)
    have G17 := G15.trans (k17.mono G15.size)
    clear q0f q1f M15
    go_wp2_with fail
    refine (heldBytesResult_any L c5 c a5 1 _ M17 (by omega) (by omega) (by omega)).mono ?_
    rintro e w18 ⟨rfl, b18⟩
    have G18 := G17.trans (b18.mono G17.size)
    go_wp2_with fail
    go_ret
    exact ⟨rfl, F3.trans (G18.mono F3.size)⟩

/-! The row's step. -/
set_option maxRecDepth 100000 in
theorem lifted (os : Os) (started : os.Started) (H : Type) (enc : TypeId × Value → H) :
    ReturnsInHanded {} Try.checked os 5 .any (Rows.fnExactEncodeItemsSpec.pre6 enc Try.prog Try.f5 Rows.fnExactEncodeItemsRow.domain false) (Rows.fnExactEncodeItemsSpec.post enc Try.prog Try.f5 false true false false) := by
  refine returnsInHanded_of_change (C := Try.checked) own started (by kernel_rfl) Try.func5
    (ChangeSpec.witness6 (enc := enc) (C := Try.checked) false ⟨#[], #[.slice none 0 0], []⟩ 8 (by kernel_rfl) (by kernel_rfl) (by kernel_rfl) (by kernel_rfl)) ?_
  intro W base args ds gs before hval0 hW hcnd _
  have hval : ∀ (j : Nat) t v, Try.f5.params[j]? = some t → args[j]? = some v → Value.okWide Try.prog W .any base t v := hval0
  have hW' := hW
  obtain ⟨p, q, hA0, hV, rfl, hfz, hnd⟩ := hW
  have hA : DataW.TrodAll enc Try.prog W 0 (fun _ => true) true Try.f5.params.toList args.toList ds p := hA0
  rw [Try.params5] at hA hval
  obtain ⟨v0, vs0, d0, ds0, p0, q0, hargs, rfl, rfl, h0, r0⟩ := trodAll_cons hA
  obtain ⟨rfl, rfl, rfl⟩ := trodAll_nil r0
  obtain rfl : args = #[v0] := by cases args; simp_all
  obtain ⟨rfl, rfl⟩ := trodVars_none hV
  have k0 := h0
  have lt0 : ∀ x ∈ p0, x.block < W.heap.size := by obtain ⟨m, hm⟩ := k0; exact DataW.trod_lt m _ _ _ hm
  obtain ⟨a0, len0, cap0, z0, rfl, m0, w0⟩ := open_items Try.underlying34 Try.underlying56 (by kernel_rfl) rfl rfl rfl rfl rfl rfl rfl rfl rfl (by kernel_rfl) (by kernel_rfl) (by kernel_rfl) (by kernel_rfl) Try.underlying4 Try.underlying2 Try.underlying22 Try.underlying5 (okWide_slice Try.underlying34 (hval 0 34 v0 rfl rfl)) h0
  clear hA0 hval0
  refine (walk a0 len0 cap0 z0 W m0 w0).mono fun e W' ⟨he, bel⟩ => ?_
  subst he
  exact ⟨_, rfl, _, _, _, [], _, [], hW', trodAll_mk1 (shut_bool Try.underlying4 _), (trodAll_cons_mk (Below.trod laidOut (by kernel_rfl) (of_decide_eq_true (by kernel_rfl)) k0 bel lt0) trodAll_mk0), rfl, bel.frame _, fun h => by cases h⟩

theorem over : Rows.fnExactEncodeItemsRow.holds Try.pinned (OpenSpec.ofChange Rows.fnExactEncodeItemsSpec) :=
  OpenClaim.holds_of_wide 5 Try.f5 rfl rfl rfl rfl rfl rfl rfl ⟨rfl, rfl, rfl, rfl, rfl⟩ rfl rfl rfl rfl rfl (by kernel_rfl) Try.func5 (by kernel_rfl)
    (of_decide_eq_true (by kernel_rfl)) (by unfold Func.isWrapper; first | (rw [if_pos (by decide +kernel)]; kernel_rfl) | (rw [if_neg (by decide +kernel)]; exact ⟨rfl, rfl⟩))
    (fun os started H enc _ => lifted os started H enc)

/-- The statement. -/
theorem proved : Rows.FnExactEncodeItemsSaid := over
#print axioms proved
end Go.Proofs.Ytkibdgmgjnoblaa.fnExactEncodeItems
