/- What is proved here: what the row's condition on its three listed variables gives the walks: the table that FormatInt reads. -/
import Derived.Test.YtncgidnkbadlpaaDoorRows
import Derived.Test.YtncgidnkbadlpaaDoorJ3
import Derived.ProofKit
import Derived.LaidMore
import Derived.OpenShut
import Derived.FnData
import Derived.Lib.LaidTab
import Derived.Deep.RegionLaw
import Derived.Test.YtncgidnkbadlpaaDoorChecked
import Derived.Test.YtncgidnkbadlpaaDoorJ1
import Derived.WalkKit
import Derived.WalkLawsBesides
import Derived.KernelRfl
namespace Go.Proofs.YtncgidnkbadlpaaDoor
open Go.ChangeShapes Go.WideShapes Go.ChangeAt Go.WideElems Go.RowKit
set_option linter.unusedVariables false
set_option maxRecDepth 100000

/-- The three listed variables, as the rows list them. -/
def laid3c : List (String × DataW Unit) := [("math/bits.deBruijn32tab", Rows.laid_math_bits_deBruijn32tab), ("math/bits.deBruijn64tab", Rows.laid_math_bits_deBruijn64tab), ("internal/strconv.uint64pow10", Rows.laid_internal_strconv_uint64pow10)]

theorem tTab : (Tryd.prog.globals[0]?).map (·.type) = some 67 := by kernel_rfl

theorem pow_data : (Rows.laid_internal_strconv_uint64pow10 : DataW Unit) = Lib.tabData .u64 Lib.pow10Tab := by rfl

theorem of_laid3c {W : World} (h : laidMetH Tryd.prog laid3c W) : Tab W := by
  rw [MakeChecks.laidMetH_plain _ _ _ (by kernel_rfl)] at h
  obtain ⟨ps, ⟨g0, t0, cs0, f0, p0, q0, hg0, ht0, hv0, hd0, ⟨g1, t1, cs1, f1, p1, q1, hg1, ht1, hv1, hd1, ⟨g2, t2, cs2, f2, p2, q2, hg2, ht2, hv2, hd2, _, _⟩, _⟩, _⟩, _, _⟩ := h
  obtain rfl := Option.some.inj (gTab.symm.trans hg2)
  obtain rfl := Option.some.inj (tTab.symm.trans ht2)
  rw [pow_data] at hd2
  unfold Tab Lib.TabIs
  rw [hv2, ← Lib.cells_of_tab Tryd.underlying67 Tryd.underlying59 (by kernel_rfl) (by kernel_rfl) hd2]

/-- The heap that the door's own run leaves meets the condition. -/
theorem door_met3c (os : Os) (args : Array Value) : laidMetH Tryd.prog laid3c ((World.doorLaid Tryd.prog 400 os).forCall (fun _ _ => 0) ⟨#[], args, []⟩).memory :=
  laidMetH_of_parts3 (fuel := 8) (laidMet_of_run' 8 (by kernel_rfl) (by kernel_rfl)) (by kernel_rfl) (by kernel_rfl)

end Go.Proofs.YtncgidnkbadlpaaDoor

/- What is proved here: what ConfigText answers, in the program and in the model: the code and the text. -/
namespace Go.Proofs.YtncgidnkbadlpaaDoor
open Go.RowKit
set_option linter.unusedVariables false
set_option maxRecDepth 100000

set_option maxHeartbeats 8000000 in
theorem implConfigText_any (x : Cf) (w : World) (ht : Tab w) : Calls Tryd.prog 6 #[.agg (cfvals x)] w fun r w' => r = .returned (.agg #[.int .i64 (cfFlt x), .string (cfTxt x)]) ∧ Below w.heap.size w w' := by
  have kb := SBlk.new w (cfvals x) 27
  have bb := below_alloc w (.cells (cfvals x) 27)
  have zb : (w.alloc (.cells (cfvals x) 27)).heap.size = w.heap.size + 1 := by simp
  obtain ⟨Wa, ea⟩ : ∃ W, w.alloc (.cells (cfvals x) 27) = W := ⟨_, rfl⟩
  rw [ea] at kb bb zb
  have kr := SBlk.new Wa #[.int .i64 0, .string ⟨#[]⟩] 25
  replace kb := kb.next (.cells #[.int .i64 0, .string ⟨#[]⟩] 25)
  replace bb := bb.trans ((below_alloc Wa (.cells #[.int .i64 0, .string ⟨#[]⟩] 25)).mono bb.size)
  rw [zb] at kr
  obtain ⟨W1, eb⟩ : ∃ W, Wa.alloc (.cells #[.int .i64 0, .string ⟨#[]⟩] 25) = W := ⟨_, rfl⟩
  rw [eb] at kr kb bb
  have HF := hide (implConfigFault_any x W1)
  have HK := hide (fun (W : World) (hb : Below W1.heap.size W1 W) => kb.below hb kb.lt)
  have HKR := hide (fun (W : World) (hb : Below W1.heap.size W1 W) => kr.below hb kr.lt)
  have HO := hide (@cf_ok x)
  have HM := hide (fun (W : World) (h : x.1 = 1 ∨ x.1 = 2) => modeOf_any x W h)
  have HT1 : Hid (cfFlt x ≠ 0 → cfTxt x = ⟨#[]⟩) := fun h => if_neg h
  have HT0 : Hid (cfFlt x = 0 → cfTxt x = (if x.1 = 2 then wdCs else wdTs) ++ dgB x.2.1 ++ spB ++ dgB x.2.2) := fun h => if_pos h
  have HTB := hide (fun (W : World) (hb : Below W1.heap.size W1 W) => ht.below (bb.trans (hb.mono bb.size)) (Nat.le_refl _))
  have HBB := hide bb
  have c0 := kb.cell 0
  have c1 := kb.cell 1
  have c2 := kb.cell 2
  have EA := hide ea
  have EB := hide eb
  obtain ⟨m, p, e⟩ := x
  simp only [cfvals, List.getElem?_cons_zero, List.getElem?_cons_succ] at c0 c1 c2
  clear kb kr ea eb zb bb ht
  generalize cfFlt (m, p, e) = f at HF HO HT1 HT0 ⊢
  generalize cfTxt (m, p, e) = T at HT1 HT0 ⊢
  simp only at HO HM HT0
  unfold cfvals at EA HF HM ⊢
  simp only at EA HF HM ⊢
  go_enter Tryd.func6, Tryd.ntmps6
  go_upto_region 1 with fail
  rw [unhide EA, unhide EB]
  clear EA EB
  go_wp2_with fail
  refine (unhide HF).mono ?_
  rintro r w1 ⟨rfl, b1⟩
  have K1 := hide b1
  have B1 := hide ((unhide HBB).trans (b1.mono (unhide HBB).size))
  clear b1 HF c0 c1 c2
  by_cases h0 : f = 0
  case neg =>
    have h1 : (f != 0) = true := by simp [h0]
    have HR : Hid (T = ⟨#[]⟩) := (unhide HT1) h0
    have kr := (unhide HKR) _ (unhide K1)
    have r0 := kr.cell 0
    have r1 := kr.cell 1
    have f0 := kr.free 0
    have f1 := kr.free 1
    simp only [List.getElem?_cons_zero, List.getElem?_cons_succ] at r0 r1
    clear h0 kr
    go_wp2_with fail
    refine bodyPost_ret (v := .agg #[.int .i64 f, .string ⟨#[]⟩]) (by simp [results, Tryd.results6, go_sem, r0, r1]) rfl ⟨?_, ?_⟩
    · rw [unhide HR]
    · exact ((unhide B1).setCell (p := ⟨w.heap.size + 1, 0, none⟩) (by show w.heap.size ≤ w.heap.size + 1; omega) _).setCell (p := ⟨w.heap.size + 1, 1, none⟩) (by show w.heap.size ≤ w.heap.size + 1; omega) _
  subst h0
  have h1 : ((0 : Int) != 0) = false := rfl
  have ho := (unhide HO) rfl
  obtain ⟨om, ⟨op1, op2⟩, oe1, oe2⟩ := ho
  have HTX := hide ((unhide HT0) rfl)
  have HP := hide (fun (W : World) (hb : Below W1.heap.size W1 W) => fmt_any p op1 op2 W ((unhide HTB) W hb))
  have HE := hide (fun (W : World) (hb : Below W1.heap.size W1 W) => fmt_any e oe1 oe2 W ((unhide HTB) W hb))
  have HMO := hide (fun (W : World) => (unhide HM) W om)
  have HZP := hide (dgB_size p op1 op2)
  have HZE := hide (dgB_size e oe1 oe2)
  have HWW : Hid (∀ W, Calls Tryd.prog 11 #[.iface (if m = 2 then 47 else 46) (.agg #[])] W fun r w' => r = .returned (.string (if m = 2 then wdC else wdT)) ∧ w' = W) := fun W => by
    by_cases hm : m = 2
    · rw [if_pos hm, if_pos hm]; exact modeWord_c W
    · rw [if_neg hm, if_neg hm]; exact modeWord_t W
  have HWS : Hid ((if m = 2 then wdCs else wdTs) = (if m = 2 then wdC else wdT) ++ spB) := by
    show _ = _
    by_cases hm : m = 2
    · rw [if_pos hm, if_pos hm]; rfl
    · rw [if_neg hm, if_neg hm]; rfl
  have HWZ : Hid ((if m = 2 then wdC else wdT).size ≤ 10) := by
    show _ ≤ _
    by_cases hm : m = 2
    · rw [if_pos hm]; decide
    · rw [if_neg hm]; decide
  rw [unhide HWS] at HTX
  generalize (if m = 2 then wdC else wdT) = wd at HWW HTX HWZ
  generalize (if m = 2 then 47 else 46) = tm at HMO HWW
  generalize dgB p = dp at HP HTX HZP
  generalize dgB e = de at HE HTX HZE
  clear HO HM HT0 HT1 HTB HWS om op1 op2 oe1 oe2
  have HS : Hid (∀ W, Below w1.heap.size w1 W → W.cell? ⟨w.heap.size, 0, none⟩ = some (.int .i64 m) ∧ W.cell? ⟨w.heap.size, 1, none⟩ = some (.int .i64 p) ∧ W.cell? ⟨w.heap.size, 2, none⟩ = some (.int .i64 e)) := fun W hb => by
    have k := (unhide HK) W ((unhide K1).trans (hb.mono (unhide K1).size))
    exact ⟨k.cell 0, k.cell 1, k.cell 2⟩
  go_wp2_with fail
  go_region_held3 (fun W => W.cell? ⟨w.heap.size, 0, none⟩ = some (.int .i64 m) ∧ W.cell? ⟨w.heap.size, 1, none⟩ = some (.int .i64 p) ∧ W.cell? ⟨w.heap.size, 2, none⟩ = some (.int .i64 e))
    (exact (unhide HS) _ (by first | assumption | exact (Below.refl w1.heap.size w1).drew | exact below_drewN (Below.refl w1.heap.size w1) _ | exact below_drewN (by assumption) _ | exact J5.alloc J5.size _))
    (first
      | (go_at_call 12; refine ((unhide HMO) _).mono ?_; rintro r w2 ⟨rfl, b2⟩; have J2 : Below w1.heap.size w1 w2 := Below.trans (by first | exact (Below.refl w1.heap.size w1).drew | exact below_drewN (Below.refl w1.heap.size w1) _) (b2.mono (by first | exact Nat.le_refl _ | exact (below_drewN (Below.refl w1.heap.size w1) _).size)); clear b2)
      | (go_at_call 11; refine ((unhide HWW) _).mono ?_; rintro r w3 ⟨rfl, rfl⟩)
      | (go_at_call_of 13 p; refine ((unhide HP) _ ((unhide K1).trans (J2.mono (unhide K1).size))).mono ?_; rintro r w4 ⟨rfl, b4⟩; have J4 : Below w1.heap.size w1 w4 := J2.trans (b4.mono J2.size); clear b4)
      | (go_at_call_of 13 e; refine ((unhide HE) _ ((unhide K1).trans (J4.mono (unhide K1).size))).mono ?_; rintro r w5 ⟨rfl, b5⟩; have J5 : Below w1.heap.size w1 w5 := J4.trans (b5.mono J4.size); clear b5))
  all_goals
    have kw := SBlk.new w5 #[.string wd, .string dp, .string de] 9
    have bw := below_alloc w5 (.cells #[.string wd, .string dp, .string de] 9)
    obtain ⟨w6, e6⟩ : ∃ W, w5.alloc (.cells #[.string wd, .string dp, .string de] 9) = W := ⟨_, rfl⟩
    rw [e6] at kw bw ⊢
    have J6 := hide (J5.trans (bw.mono J5.size))
    have HJ : Hid (Calls Tryd.prog 14 #[.slice (some ⟨w5.heap.size, 0, none⟩) 3 3, .string ⟨#[32]⟩] w6 fun r w' => r = .returned (.string T) ∧ Below w6.heap.size w6 w') := by
      have hl : (Lib.join ([wd, dp, de].map (·.data.toList)) spB.data.toList).length ≤ 140737488355328 := by
        have z1 := unhide HWZ
        have z2 := unhide HZP
        have z3 := unhide HZE
        have q : (wd ++ spB ++ dp ++ spB ++ de).size = (Lib.join ([wd, dp, de].map (·.data.toList)) spB.data.toList).length := by rw [← join_txt]; simp [ByteArray.size]
        rw [← q]
        simp only [ByteArray.size_append]
        have : spB.size = 1 := rfl
        omega
      refine (Any.strings_Join Tryd.lays156 Tryd.Builder_Extra_156 w5.heap.size 0 3 [wd, dp, de] spB w6 (fun j x hx => ?_) kw.lt (by simp) (by simp) hl).mono ?_
      · have k := kw.cell j
        rw [Nat.zero_add, k]
        match j, hx with
        | 0, hx => simp at hx; subst hx; rfl
        | 1, hx => simp at hx; subst hx; rfl
        | 2, hx => simp at hx; subst hx; rfl
        | j + 3, hx => simp at hx
      · rintro r w' ⟨rfl, hb⟩
        exact ⟨by rw [join_txt, unhide HTX], hb⟩
    clear kw bw e6 J2 J4 J5 HS HP HE HMO HWW HTX HZP HZE HWZ
    go_wp2_with fail
    refine (unhide HJ).mono ?_
    rintro r w7 ⟨rfl, b7⟩
    have J7 := (unhide J6).trans (b7.mono (unhide J6).size)
    have kr := (unhide HKR) _ ((unhide K1).trans (J7.mono (unhide K1).size))
    have B7 := hide ((unhide B1).trans (J7.mono (unhide B1).size))
    have r0 := kr.cell 0
    have r1 := kr.cell 1
    have f0 := kr.free 0
    have f1 := kr.free 1
    simp only [List.getElem?_cons_zero, List.getElem?_cons_succ] at r0 r1
    clear kr b7 J7 J6 HJ
    go_wp2_with fail
    refine bodyPost_ret (v := .agg #[.int .i64 0, .string T]) (by simp [results, Tryd.results6, go_sem, r0, r1]) rfl ⟨rfl, ?_⟩
    exact ((unhide B7).setCell (p := ⟨w.heap.size + 1, 0, none⟩) (by show w.heap.size ≤ w.heap.size + 1; omega) _).setCell (p := ⟨w.heap.size + 1, 1, none⟩) (by show w.heap.size ≤ w.heap.size + 1; omega) _

set_option maxHeartbeats 8000000 in
theorem specConfigText_any (x : Cf) (w : World) : Calls Tryd.prog 4 #[.agg (cfvals x)] w fun r w' => r = .returned (.agg #[.int .i64 (cfFlt x), .string (cfTxt x)]) ∧ Below w.heap.size w w' := by
  have kb := SBlk.new w (cfvals x) 27
  have bb := below_alloc w (.cells (cfvals x) 27)
  have zb : (w.alloc (.cells (cfvals x) 27)).heap.size = w.heap.size + 1 := by simp
  obtain ⟨Wa, ea⟩ : ∃ W, w.alloc (.cells (cfvals x) 27) = W := ⟨_, rfl⟩
  rw [ea] at kb bb zb
  have kr := SBlk.new Wa #[.int .i64 0, .string ⟨#[]⟩] 25
  replace kb := kb.next (.cells #[.int .i64 0, .string ⟨#[]⟩] 25)
  replace bb := bb.trans ((below_alloc Wa (.cells #[.int .i64 0, .string ⟨#[]⟩] 25)).mono bb.size)
  rw [zb] at kr
  obtain ⟨W1, eb⟩ : ∃ W, Wa.alloc (.cells #[.int .i64 0, .string ⟨#[]⟩] 25) = W := ⟨_, rfl⟩
  rw [eb] at kr kb bb
  have HF := hide (l8Fault_any _ x _ W1 kb)
  have HK := hide (fun (W : World) (hb : Below W1.heap.size W1 W) => kb.below hb kb.lt)
  have HKR := hide (fun (W : World) (hb : Below W1.heap.size W1 W) => kr.below hb kr.lt)
  have HO := hide (@cf_ok x)
  have HT1 : Hid (cfFlt x ≠ 0 → cfTxt x = ⟨#[]⟩) := fun h => if_neg h
  have HT0 : Hid (cfFlt x = 0 → cfTxt x = (if x.1 = 2 then wdCs else wdTs) ++ dgB x.2.1 ++ spB ++ dgB x.2.2) := fun h => if_pos h
  have HBB := hide bb
  have c0 := kb.cell 0
  have c1 := kb.cell 1
  have c2 := kb.cell 2
  have r0 := kr.cell 0
  have r1 := kr.cell 1
  have f0 := kr.free 0
  have f1 := kr.free 1
  have EA := hide ea
  have EB := hide eb
  obtain ⟨m, p, e⟩ := x
  simp only [cfvals, List.getElem?_cons_zero, List.getElem?_cons_succ] at c0 c1 c2 r0 r1
  clear kb kr ea eb zb bb
  generalize cfFlt (m, p, e) = f at HF HO HT1 HT0 ⊢
  generalize cfTxt (m, p, e) = T at HT1 HT0 ⊢
  simp only at HO HT0
  unfold cfvals at EA ⊢
  simp only at EA ⊢
  go_enter Tryd.func4, Tryd.ntmps4
  go_upto_region 1 with fail
  rw [unhide EA, unhide EB]
  clear EA EB
  go_wp2_with fail
  refine (unhide HF).mono ?_
  rintro r w1 ⟨rfl, rfl⟩
  clear HF
  by_cases h0 : f = 0
  case neg =>
    have h1 : (f != 0) = true := by simp [h0]
    have HR : Hid (T = ⟨#[]⟩) := (unhide HT1) h0
    clear h0
    go_wp2_with fail
    refine bodyPost_ret (v := .agg #[.int .i64 f, .string ⟨#[]⟩]) (by simp [results, Tryd.results4, go_sem, r0, r1]) rfl ⟨?_, ?_⟩
    · rw [unhide HR]
    · exact ((unhide HBB).setCell (p := ⟨w.heap.size + 1, 0, none⟩) (by show w.heap.size ≤ w.heap.size + 1; omega) _).setCell (p := ⟨w.heap.size + 1, 1, none⟩) (by show w.heap.size ≤ w.heap.size + 1; omega) _
  subst h0
  have h1 : ((0 : Int) != 0) = false := rfl
  have ho := (unhide HO) rfl
  obtain ⟨om, ⟨op1, op2⟩, oe1, oe2⟩ := ho
  have HTX := hide ((unhide HT0) rfl)
  have HP : Hid (∀ (W : World), Calls Tryd.prog 9 #[.int .i64 p] W fun r w' => r = .returned (.string (dgB p)) ∧ Below W.heap.size W w') := fun W => by
    have k := l1Digits_any p.toNat (by omega) W
    rw [Int.toNat_of_nonneg (by omega)] at k
    exact k
  have HE : Hid (∀ (W : World), Calls Tryd.prog 9 #[.int .i64 e] W fun r w' => r = .returned (.string (dgB e)) ∧ Below W.heap.size W w') := fun W => by
    have k := l1Digits_any e.toNat (by omega) W
    rw [Int.toNat_of_nonneg (by omega)] at k
    exact k
  have HZP := hide (dgB_size p op1 op2)
  have HZE := hide (dgB_size e oe1 oe2)
  generalize dgB p = dp at HP HTX HZP
  generalize dgB e = de at HE HTX HZE
  have HS : Hid (∀ W, Below w1.heap.size w1 W → W.cell? ⟨w.heap.size, 0, none⟩ = some (.int .i64 m) ∧ W.cell? ⟨w.heap.size, 1, none⟩ = some (.int .i64 p) ∧ W.cell? ⟨w.heap.size, 2, none⟩ = some (.int .i64 e)) := fun W hb => by
    have k := (unhide HK) W hb
    exact ⟨k.cell 0, k.cell 1, k.cell 2⟩
  obtain ⟨wd, hwd⟩ : ∃ b : ByteArray, b = (if m = 2 then wdCs else wdTs) := ⟨_, rfl⟩
  rw [← hwd] at HTX
  have HWZ : Hid (wd.size ≤ 10) := by
    show _ ≤ _
    rw [hwd]
    by_cases hm : m = 2
    · rw [if_pos hm]; decide
    · rw [if_neg hm]; decide
  have zz1 : ¬ 9223372036854775807 < wd.size + dp.size := by have := unhide HWZ; have := unhide HZP; omega
  have zz2 : ¬ 9223372036854775807 < (wd ++ dp).size + (⟨#[32]⟩ : ByteArray).size := by
    have := unhide HWZ; have := unhide HZP; rw [ByteArray.size_append]; have : (⟨#[32]⟩ : ByteArray).size = 1 := rfl; omega
  have zz3 : ¬ 9223372036854775807 < (wd ++ dp ++ (⟨#[32]⟩ : ByteArray)).size + de.size := by
    have := unhide HWZ; have := unhide HZP; have := unhide HZE; rw [ByteArray.size_append, ByteArray.size_append]; have : (⟨#[32]⟩ : ByteArray).size = 1 := rfl; omega
  have zz4 : ¬ 9223372036854775807 < wd.size + dp.size + 1 := by have := unhide HWZ; have := unhide HZP; omega
  have zz5 : ¬ 9223372036854775807 < wd.size + dp.size + 1 + de.size := by have := unhide HWZ; have := unhide HZP; have := unhide HZE; omega
  have zz6 : (⟨#[32]⟩ : ByteArray).size = 1 := rfl
  clear HO HT0 HT1 op1 op2 oe1 oe2
  have HWD := hide hwd
  have HS2 : Hid (∀ W, Below w1.heap.size w1 W → ∀ u v, ((W.setCell ⟨w.heap.size + 1, 0, none⟩ u).setCell ⟨w.heap.size + 1, 1, none⟩ v).cell? ⟨w.heap.size, 0, none⟩ = some (.int .i64 m) ∧ ((W.setCell ⟨w.heap.size + 1, 0, none⟩ u).setCell ⟨w.heap.size + 1, 1, none⟩ v).cell? ⟨w.heap.size, 1, none⟩ = some (.int .i64 p) ∧ ((W.setCell ⟨w.heap.size + 1, 0, none⟩ u).setCell ⟨w.heap.size + 1, 1, none⟩ v).cell? ⟨w.heap.size, 2, none⟩ = some (.int .i64 e)) := fun W hb u v => by
    have k := (((unhide HK) W hb).other (g' := w.heap.size + 1) (i := 0) (v := u) (by omega)).other (g' := w.heap.size + 1) (i := 1) (v := v) (by omega)
    exact ⟨k.cell 0, k.cell 1, k.cell 2⟩
  have HW3 : Hid (m = 1 → wd = ⟨#[116, 117, 114, 110, 115, 32]⟩) := fun h => by show _ = _; rw [unhide HWD, h]; rfl
  have HW4 : Hid (m = 2 → wd = ⟨#[99, 111, 109, 109, 105, 116, 115, 32]⟩) := fun h => by show _ = _; rw [unhide HWD, h]; rfl
  clear hwd HWD
  rcases om with rfl | rfl
  · have ew := (unhide HW3) rfl
    have EW := hide ew
    clear ew HW3 HW4
    go_upto_region 7 with fail
    rw [← unhide EW]
    clear EW
    go_region_held3 (fun W => W.cell? ⟨w.heap.size, 0, none⟩ = some (.int .i64 1) ∧ W.cell? ⟨w.heap.size, 1, none⟩ = some (.int .i64 p) ∧ W.cell? ⟨w.heap.size, 2, none⟩ = some (.int .i64 e))
      (first | exact (unhide HS) _ (by first | assumption | exact (Below.refl w1.heap.size w1).drew | exact below_drewN (Below.refl w1.heap.size w1) _ | exact below_drewN (by assumption) _) | exact (unhide HS2) _ J5 _ _)
      (first
        | (go_at_call_of 9 p; refine ((unhide HP) _).mono ?_; rintro r w4 ⟨rfl, b4⟩; have J4 : Below w1.heap.size w1 w4 := Below.trans (by first | exact (Below.refl w1.heap.size w1).drew | exact below_drewN (Below.refl w1.heap.size w1) _) (b4.mono (by first | exact Nat.le_refl _ | exact (below_drewN (Below.refl w1.heap.size w1) _).size)); clear b4)
        | (go_at_call_of 9 e; refine ((unhide HE) _).mono ?_; rintro r w5 ⟨rfl, b5⟩; have J5 : Below w1.heap.size w1 w5 := J4.trans (b5.mono J4.size); have kr5 := (unhide HKR) _ J5; have s0 := kr5.cell 0; have s1 := kr5.cell 1; have g0 := kr5.free 0; have g1 := kr5.free 1; simp only [List.getElem?_cons_zero, List.getElem?_cons_succ] at s0 s1; clear b5 kr5))
    all_goals
      have B5 := hide ((unhide HBB).trans (J5.mono (unhide HBB).size))
      clear HS HS2 HP HE J4 J5 c0 c1 c2 r0 r1 f0 f1
      go_wp2_with fail
      refine bodyPost_ret (v := .agg #[.int .i64 0, .string (wd ++ dp ++ ⟨#[32]⟩ ++ de)]) (by simp [results, Tryd.results4, go_sem, s0, s1]) rfl ⟨?_, ?_⟩
      · rw [unhide HTX]; rfl
      · exact ((unhide B5).setCell (p := ⟨w.heap.size + 1, 0, none⟩) (by show w.heap.size ≤ w.heap.size + 1; omega) _).setCell (p := ⟨w.heap.size + 1, 1, none⟩) (by show w.heap.size ≤ w.heap.size + 1; omega) _
  · have ew := (unhide HW4) rfl
    have EW := hide ew
    clear ew HW3 HW4
    go_upto_region 7 with fail
    rw [← unhide EW]
    clear EW
    go_region_held3 (fun W => W.cell? ⟨w.heap.size, 0, none⟩ = some (.int .i64 2) ∧ W.cell? ⟨w.heap.size, 1, none⟩ = some (.int .i64 p) ∧ W.cell? ⟨w.heap.size, 2, none⟩ = some (.int .i64 e))
      (first | exact (unhide HS) _ (by first | assumption | exact (Below.refl w1.heap.size w1).drew | exact below_drewN (Below.refl w1.heap.size w1) _ | exact below_drewN (by assumption) _) | exact (unhide HS2) _ J5 _ _)
      (first
        | (go_at_call_of 9 p; refine ((unhide HP) _).mono ?_; rintro r w4 ⟨rfl, b4⟩; have J4 : Below w1.heap.size w1 w4 := Below.trans (by first | exact (Below.refl w1.heap.size w1).drew | exact below_drewN (Below.refl w1.heap.size w1) _) (b4.mono (by first | exact Nat.le_refl _ | exact (below_drewN (Below.refl w1.heap.size w1) _).size)); clear b4)
        | (go_at_call_of 9 e; refine ((unhide HE) _).mono ?_; rintro r w5 ⟨rfl, b5⟩; have J5 : Below w1.heap.size w1 w5 := J4.trans (b5.mono J4.size); have kr5 := (unhide HKR) _ J5; have s0 := kr5.cell 0; have s1 := kr5.cell 1; have g0 := kr5.free 0; have g1 := kr5.free 1; simp only [List.getElem?_cons_zero, List.getElem?_cons_succ] at s0 s1; clear b5 kr5))
    all_goals
      have B5 := hide ((unhide HBB).trans (J5.mono (unhide HBB).size))
      clear HS HS2 HP HE J4 J5 c0 c1 c2 r0 r1 f0 f1
      go_wp2_with fail
      refine bodyPost_ret (v := .agg #[.int .i64 0, .string (wd ++ dp ++ ⟨#[32]⟩ ++ de)]) (by simp [results, Tryd.results4, go_sem, s0, s1]) rfl ⟨?_, ?_⟩
      · rw [unhide HTX]; rfl
      · exact ((unhide B5).setCell (p := ⟨w.heap.size + 1, 0, none⟩) (by show w.heap.size ≤ w.heap.size + 1; omega) _).setCell (p := ⟨w.heap.size + 1, 1, none⟩) (by show w.heap.size ≤ w.heap.size + 1; omega) _

end Go.Proofs.YtncgidnkbadlpaaDoor

/- What is proved here: the laws' comparison of two equal text answers gives true. -/
namespace Go.Proofs.YtncgidnkbadlpaaDoor
open Go.RowKit
set_option linter.unusedVariables false
set_option maxRecDepth 100000

set_option maxHeartbeats 1000000 in
theorem eqText_same (c : Int) (t : ByteArray) (w : World) :
    Calls Tryd.prog 7 #[.agg #[.int .i64 c, .string t], .agg #[.int .i64 c, .string t]] w fun e w' => e = .returned (.bool true) ∧ Below w.heap.size w w' := by
  have h1 : (c != c) = false := by simp
  have h2 : (t.toList != t.toList) = false := by simp
  go_enter Tryd.func7, Tryd.ntmps7
  go_wp2
  go_ret
  exact ⟨rfl, ((Below.refl _ _).alloc (Nat.le_refl _) _).alloc (by simp) _⟩

end Go.Proofs.YtncgidnkbadlpaaDoor
