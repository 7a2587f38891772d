/- Proved: for every number the law FnExactNewCache returns true. Conditions: none. -/
import Derived.Test.YtldiilmpmcbjkaaRows
import Derived.Test.YtldiilmpmcbjkaaJ3
import Derived.WalkSmall
import Derived.WalkKit
import Derived.ProofKit
import Derived.Below
import Derived.ChangeOld
import Derived.OpenShut
import Derived.ShutString
namespace Go.Proofs.Ytldiilmpmcbjkaa.fnExactNewCache
open Go.ChangeShapes Go.WideShapes Go.ChangeAt Go.RowKit
open Go.ChangeMaps (open_string shut_string)
set_option linter.unusedVariables false

theorem own : ownKnob Try.prog.godebug = none := by kernel_rfl

/-! The walk: the Go text returns true, and writes nothing that was there. -/
set_option maxRecDepth 100000 in
set_option maxHeartbeats 4000000 in
theorem walk (a0 : Int) (w0 : (Lit.int .i64 a0).wf = true) (w : World) :
    Calls Try.prog 3 #[.int .i64 a0] w fun e w' => e = .returned (.bool true) ∧ Below w.heap.size w w' := by
  have SP := hide (specNewCache_any a0)
  have IM := hide (implNewCache_any a0)
  generalize ncCode a0 = c at SP IM
  generalize ncSize a0 = n at SP IM
  have EQ := hide (fun (W : World) => neqCacheResult_nil c n W)
  have MK := hide (fun (W : World) => nmarkCacheResult_nil c n 1 W)
  have HE := hide (fun (W : World) => nheldCacheResult_nil c n 1 W (by omega))
  clear w0
  unfold ncvals at SP IM EQ MK HE
  go_enter Try.func3, Try.ntmps3
  go_wp2_with fail
  refine ((unhide SP) _).mono ?_
  rintro e w1 ⟨rfl, b1⟩
  have kw := SBlk.new w1 #[.int .i64 c, .int .i64 0, .slice none 0 0, .slice none 0 0, .slice none 0 0, .bool false, .int .i64 n, .slice none 0 0] 31
  have bkw := below_alloc w1 (.cells #[.int .i64 c, .int .i64 0, .slice none 0 0, .slice none 0 0, .slice none 0 0, .bool false, .int .i64 n, .slice none 0 0] 31)
  obtain ⟨w2, ee⟩ : ∃ W, w1.alloc (.cells #[.int .i64 c, .int .i64 0, .slice none 0 0, .slice none 0 0, .slice none 0 0, .bool false, .int .i64 n, .slice none 0 0] 31) = W := ⟨_, rfl⟩
  rw [ee] at kw bkw
  have EE := hide ee
  clear ee
  have F2 := hide (b1.trans (bkw.mono b1.size))
  have KW := hide kw
  clear b1 bkw kw
  go_wp2_with (rw [unhide EE])
  try rw [unhide EE]
  clear EE
  refine ((unhide IM) _).mono ?_
  rintro e w3 ⟨rfl, b3⟩
  have kg := SBlk.new w3 #[.int .i64 c, .int .i64 0, .slice none 0 0, .slice none 0 0, .slice none 0 0, .bool false, .int .i64 n, .slice none 0 0] 31
  have bkg := below_alloc w3 (.cells #[.int .i64 c, .int .i64 0, .slice none 0 0, .slice none 0 0, .slice none 0 0, .bool false, .int .i64 n, .slice none 0 0] 31)
  obtain ⟨w4, ee⟩ : ∃ W, w3.alloc (.cells #[.int .i64 c, .int .i64 0, .slice none 0 0, .slice none 0 0, .slice none 0 0, .bool false, .int .i64 n, .slice none 0 0] 31) = W := ⟨_, rfl⟩
  rw [ee] at kg bkg
  have EE := hide ee
  clear ee
  have F4 := hide ((unhide F2).trans ((b3.trans (bkg.mono b3.size)).mono (unhide F2).size))
  have kw := (unhide KW).below (b3.trans (bkg.mono b3.size)) (unhide KW).lt
  have HK := hide (And.intro kw kg)
  obtain ⟨u0, u1, u2, u3, u4, u5, u6, u7⟩ := nc_at kw
  obtain ⟨v0, v1, v2, v3, v4, v5, v6, v7⟩ := nc_at kg
  clear b3 bkg kw kg F2 KW
  obtain ⟨gw, egw⟩ : ∃ g, g = w1.heap.size := ⟨_, rfl⟩
  obtain ⟨gg, egg⟩ : ∃ g, g = w3.heap.size := ⟨_, rfl⟩
  go_upto_region 3 with (rw [unhide EE])
  try rw [unhide EE]
  clear EE
  rw [← egw, ← egg]
  rw [← egw] at u0 u1 u2 u3 u4 u5 u6 u7 HK
  rw [← egg] at v0 v1 v2 v3 v4 v5 v6 v7 HK
  clear egw egg
  go_wp2_with fail
  refine ((unhide EQ) _).mono ?_
  rintro e w5 ⟨rfl, b⟩
  have F5 := hide ((unhide F4).trans (b.mono (unhide F4).size))
  have kw := (unhide HK).1.below b (unhide HK).1.lt
  have kg := (unhide HK).2.below b (unhide HK).2.lt
  have HK := hide (And.intro kw kg)
  clear u0 u1 u2 u3 u4 u5 u6 u7 v0 v1 v2 v3 v4 v5 v6 v7
  obtain ⟨u0, u1, u2, u3, u4, u5, u6, u7⟩ := nc_at kw
  obtain ⟨v0, v1, v2, v3, v4, v5, v6, v7⟩ := nc_at kg
  clear b kw kg
  go_wp2_with fail
  refine ((unhide MK) _).mono ?_
  rintro e w6 ⟨rfl, b⟩
  have F6 := hide ((unhide F5).trans (b.mono (unhide F5).size))
  have kw := (unhide HK).1.below b (unhide HK).1.lt
  have kg := (unhide HK).2.below b (unhide HK).2.lt
  have HK := hide (And.intro kw kg)
  clear u0 u1 u2 u3 u4 u5 u6 u7 v0 v1 v2 v3 v4 v5 v6 v7
  obtain ⟨u0, u1, u2, u3, u4, u5, u6, u7⟩ := nc_at kw
  obtain ⟨v0, v1, v2, v3, v4, v5, v6, v7⟩ := nc_at kg
  clear b kw kg
  go_wp2_with fail
  refine ((unhide HE) _).mono ?_
  rintro e w7 ⟨rfl, b⟩
  have F7 := hide ((unhide F6).trans (b.mono (unhide F6).size))
  have kw := (unhide HK).1.below b (unhide HK).1.lt
  have kg := (unhide HK).2.below b (unhide HK).2.lt
  have HK := hide (And.intro kw kg)
  clear u0 u1 u2 u3 u4 u5 u6 u7 v0 v1 v2 v3 v4 v5 v6 v7
  obtain ⟨u0, u1, u2, u3, u4, u5, u6, u7⟩ := nc_at kw
  obtain ⟨v0, v1, v2, v3, v4, v5, v6, v7⟩ := nc_at kg
  clear b kw kg
  go_wp2_with fail
  refine ((unhide IM) _).mono ?_
  rintro e w8 ⟨rfl, b8⟩
  have kh := SBlk.new w8 #[.int .i64 c, .int .i64 0, .slice none 0 0, .slice none 0 0, .slice none 0 0, .bool false, .int .i64 n, .slice none 0 0] 31
  have bkh := below_alloc w8 (.cells #[.int .i64 c, .int .i64 0, .slice none 0 0, .slice none 0 0, .slice none 0 0, .bool false, .int .i64 n, .slice none 0 0] 31)
  obtain ⟨w9, ee⟩ : ∃ W, w8.alloc (.cells #[.int .i64 c, .int .i64 0, .slice none 0 0, .slice none 0 0, .slice none 0 0, .bool false, .int .i64 n, .slice none 0 0] 31) = W := ⟨_, rfl⟩
  rw [ee] at kh bkh
  have EE := hide ee
  clear ee
  have b9 := b8.trans (bkh.mono b8.size)
  have F9 := hide ((unhide F7).trans (b9.mono (unhide F7).size))
  have kw := (unhide HK).1.below b9 (unhide HK).1.lt
  have kg := (unhide HK).2.below b9 (unhide HK).2.lt
  have HK := hide (And.intro kw kg)
  clear u0 u1 u2 u3 u4 u5 u6 u7 v0 v1 v2 v3 v4 v5 v6 v7
  obtain ⟨u0, u1, u2, u3, u4, u5, u6, u7⟩ := nc_at kw
  obtain ⟨v0, v1, v2, v3, v4, v5, v6, v7⟩ := nc_at kg
  obtain ⟨t0, t1, t2, t3, t4, t5, t6, t7⟩ := nc_at kh
  clear b8 b9 bkh kh kw kg
  go_wp2_with (rw [unhide EE])
  try rw [unhide EE]
  clear EE
  refine ((unhide EQ) _).mono ?_
  rintro e w10 ⟨rfl, b⟩
  have F10 := hide ((unhide F9).trans (b.mono (unhide F9).size))
  have kw := (unhide HK).1.below b (unhide HK).1.lt
  have kg := (unhide HK).2.below b (unhide HK).2.lt
  have HK := hide (And.intro kw kg)
  clear u0 u1 u2 u3 u4 u5 u6 u7 v0 v1 v2 v3 v4 v5 v6 v7
  obtain ⟨u0, u1, u2, u3, u4, u5, u6, u7⟩ := nc_at kw
  obtain ⟨v0, v1, v2, v3, v4, v5, v6, v7⟩ := nc_at kg
  clear b kw kg
  go_wp2_with fail
  refine ((unhide HE) _).mono ?_
  rintro e w11 ⟨rfl, b⟩
  have F11 := hide ((unhide F10).trans (b.mono (unhide F10).size))
  clear b
  go_wp2_with fail
  go_ret
  exact ⟨rfl, unhide F11⟩

/-! The row's step. -/
set_option maxRecDepth 100000 in
theorem lifted (os : Os) (started : os.Started) (H : Type) (enc : TypeId × Value → H) :
    ReturnsInHanded {} Try.checked os 3 .any (Rows.fnExactNewCacheSpec.pre6 enc Try.prog Try.f3 Rows.fnExactNewCacheRow.domain false) (Rows.fnExactNewCacheSpec.post enc Try.prog Try.f3 false true false false) := by
  refine returnsInHanded_of_change (C := Try.checked) own started (by kernel_rfl) Try.func3
    (ChangeSpec.witness6 (enc := enc) (C := Try.checked) false ⟨#[], #[.int .i64 0], []⟩ 8 (by kernel_rfl) (by kernel_rfl) (by kernel_rfl) (by kernel_rfl)) ?_
  intro W base args ds gs before hval0 hW hcnd _
  have hval : ∀ (j : Nat) t v, Try.f3.params[j]? = some t → args[j]? = some v → Value.okWide Try.prog W .any base t v := hval0
  have hW' := hW
  obtain ⟨p, q, hA0, hV, rfl, hfz, hnd⟩ := hW
  have hA : DataW.TrodAll enc Try.prog W 0 (fun _ => true) true Try.f3.params.toList args.toList ds p := hA0
  rw [Try.params3] at hA hval
  obtain ⟨v0, vs0, d0, ds0, p0, q0, hargs, rfl, rfl, h0, r0⟩ := trodAll_cons hA
  obtain ⟨rfl, rfl, rfl⟩ := trodAll_nil r0
  obtain rfl : args = #[v0] := by cases args; simp_all
  obtain ⟨rfl, rfl⟩ := trodVars_none hV
  obtain ⟨a0, rfl, rfl, rfl, w0⟩ := open_int Try.underlying2 (hval 0 2 v0 rfl rfl) h0
  clear hA0 hval0
  simp only [List.append_nil] at hW'
  refine (walk a0 w0 W).mono fun e W' ⟨he, hg⟩ => ?_
  subst he
  exact ⟨_, rfl, _, _, _, [], _, [], hW', trodAll_mk1 (shut_bool Try.underlying4 _), (trodAll_cons_mk (shut_int Try.underlying2 w0) trodAll_mk0), rfl, hg.frame _, fun h => by cases h⟩

theorem over : Rows.fnExactNewCacheRow.holds Try.pinned (OpenSpec.ofChange Rows.fnExactNewCacheSpec) :=
  OpenClaim.holds_of_wide 3 Try.f3 rfl rfl rfl rfl rfl rfl rfl ⟨rfl, rfl, rfl, rfl, rfl⟩ rfl rfl rfl rfl rfl (by kernel_rfl) Try.func3 (by kernel_rfl)
    (of_decide_eq_true (by kernel_rfl)) (by unfold Func.isWrapper; first | (rw [if_pos (by decide +kernel)]; kernel_rfl) | (rw [if_neg (by decide +kernel)]; exact ⟨rfl, rfl⟩))
    (fun os started H enc _ => lifted os started H enc)

/-- The statement. -/
theorem proved : Rows.FnExactNewCacheSaid :=
  over
#print axioms proved
end Go.Proofs.Ytldiilmpmcbjkaa.fnExactNewCache
