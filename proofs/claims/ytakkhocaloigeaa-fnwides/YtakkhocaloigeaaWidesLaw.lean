/- What is proved here: the law FnWides returns true for every slice of bytes and writes into no memory that was there. -/
import Derived.Test.YtakkhocaloigeaaWdX
import Derived.Test.YtakkhocaloigeaaWdM
import Derived.Test.YtakkhocaloigeaaWdH
import Derived.Test.YtakkhocaloigeaaLwN
import Derived.Test.YtakkhocaloigeaaLwB
import Derived.Test.YtakkhocaloigeaaTwo
import Derived.Deep.DeepCutAuto
import Derived.Deep.DrawnRows
import Derived.RegionTactic
import Derived.BigRegion
import Derived.Deep.RegionWith
namespace Go.Proofs.Ytakkhocaloigeaa
open Go.RowKit
set_option linter.unusedVariables false
attribute [local go_sem ↓] Go.wp_at_zero Go.wp_at_succ

theorem fieldW0 (x y : Value) (w : World) : (Instr.field 28 (.agg #[x, y]) 0).run Try.prog w = .ok x w := by kernel_rfl
theorem fieldW1 (x y : Value) (w : World) : (Instr.field 28 (.agg #[x, y]) 1).run Try.prog w = .ok y w := by kernel_rfl

theorem aw_zero {xs ys : List Int} (h : awCode xs ys = 0) : wf2 xs ys = 0 ∧ caW xs ys 8 = 0 := by
  by_cases hw : wf2 xs ys = 0
  · by_cases hc : caW xs ys 8 = 0
    · exact ⟨hw, hc⟩
    · rw [(aw_full xs ys hw hc).1] at h; cases h
  · rw [(aw_fault xs ys hw).1] at h; exact absurd h hw

theorem wf2_of {xs ys : List Int} (h : wfCode xs = 0) (h2 : wfCode ys = 0) : wf2 xs ys = 0 := by unfold wf2; rw [if_pos h, h2]

set_option maxRecDepth 100000 in
set_option maxHeartbeats 24000000 in
theorem widesLaw_any (a : Option Addr) (len cap : Nat) (xs : List Int) (w : World) (h : BRow w a len xs) :
    Calls Try.prog 3 #[.slice a len cap] w fun e w' => e = .returned (.bool true) ∧ Below w.heap.size w w' := by
  by_cases hl : len ≤ 1048576
  · have hd : decide (1048576 < (len : Int)) = false := decide_eq_false (by omega)
    go_enter Try.func3, Try.ntmps3
    go_wp2_with fail
    refine (lwBig_any a len cap w).mono ?_
    rintro e w' ⟨rfl, rfl⟩
    rw [hd]
    go_wp2_with fail
    refine (drawAdd_any a len cap xs _ h hl).mono ?_
    rintro e w1 ⟨g, o, n, c, g2, o2, n2, c2, us, vs, rfl, hn, hn2, i1, j1, b1⟩
    go_wp2_with fail
    refine (implAW_any _ _ n n2 c c2 us vs w1 i1 j1 (by omega) (by omega)).mono ?_
    rintro e w2 ⟨a2, d2, rfl, q2, b2⟩
    have HSP := hide (fun W (hW : IRow W (some ⟨g, o, none⟩) n us) (hV : IRow W (some ⟨g2, o2, none⟩) n2 vs) => specAW_any _ _ n n2 c c2 us vs W hW hV (by omega) (by omega))
    obtain ⟨k3, s3, p0, p1⟩ := new2 w2 (.int .i64 (awCode us vs)) (.slice a2 (awList us vs).length d2) 28
    have k23 := b2.trans (k3.mono b2.size)
    have i3 := i1.below k23 (Nat.le_refl _)
    have j3 := j1.below k23 (Nat.le_refl _)
    have r3 := (IRow.own2 q2).below k3 (Nat.le_refl _)
    have B3 := b1.trans (k23.mono b1.size)
    clear b1 b2 k23 i1 j1 q2 k3
    by_cases hok : awCode us vs = 0
    · obtain ⟨hw2, hca⟩ := aw_zero hok
      obtain ⟨hwu, hwv⟩ := wf2_both us vs hw2
      obtain ⟨hul, hud⟩ := wf_zero us hwu
      obtain ⟨hvl, hvd⟩ := wf_zero vs hwv
      obtain rfl : n = 8 := by rw [← i3.1]; exact hul
      obtain rfl : n2 = 8 := by rw [← j3.1]; exact hvl
      have eL := (aw_ok us vs hw2 hca).2
      have hRl := sumL_length us vs
      have hRd := Wd_sum us vs
      have hwR := wf_of _ hRl hRd
      have hmore := sum_more hud hvd hca
      have cR1 : wf2 (sumL us vs) us = 0 := wf2_of hwR hwu
      have cR2 : wf2 vs z8 = 0 := wf2_of hwv (wf_of z8 rfl Wd_z8)
      have vR1 : cwVal (sumL us vs) us = cmpW vs z8 8 := (if_pos cR1).trans hmore.1
      have vR2 : cwVal vs z8 = cmpW vs z8 8 := if_pos cR2
      have w2c : wf2 vs us = 0 := wf2_of hwv hwu
      have c2c : caW vs us 8 = 0 := by rw [caW_comm]; exact hca
      have A2 := aw_ok vs us w2c c2c
      rw [sumL_comm vs us] at A2
      have A3 := aw_ok us z8 (wf2_of hwu (wf_of z8 rfl Wd_z8)) (ca_z8 hud 8)
      rw [sum_z8 hul hud] at A3
      have HS4 := hide (fun W (hW : IRow W (some ⟨g, o, none⟩) 8 us) (hV : IRow W (some ⟨g2, o2, none⟩) 8 vs) => implAW_any _ _ 8 8 c2 c vs us W hV hW (by omega) (by omega))
      rw [A2.1, A2.2, hRl] at HS4
      have HZ6 := hide (fun W => implWideOf_any 0 (by omega) (by omega) W)
      rw [show woCode 0 = 0 from rfl, show woList 0 = z8 from rfl, show z8.length = 8 from rfl] at HZ6
      have HC8 := hide (fun (r : Option Addr) (dr : Nat) W (hR : IRow W r 8 (sumL us vs)) (hW : IRow W (some ⟨g, o, none⟩) 8 us) => implCW_any r _ 8 8 dr c (sumL us vs) us W hR hW (by omega) (by omega))
      rw [cR1, vR1] at HC8
      have HC10 := hide (fun (z : Option Addr) (dz : Nat) W (hV : IRow W (some ⟨g2, o2, none⟩) 8 vs) (hZ : IRow W z 8 z8) => implCW_any _ z 8 8 c2 dz vs z8 W hV hZ (by omega) (by omega))
      rw [cR2, vR2] at HC10
      have HA15 := hide (fun (z : Option Addr) (dz : Nat) W (hW : IRow W (some ⟨g, o, none⟩) 8 us) (hZ : IRow W z 8 z8) => implAW_any _ z 8 8 c dz us z8 W hW hZ (by omega) (by omega))
      rw [A3.1, A3.2, hul] at HA15
      have HF15 := hide (fun (r : Option Addr) (dr : Nat) W (hR : IRow W r 8 (sumL us vs)) => implWFault_any r 8 dr (sumL us vs) W hR (by omega))
      rw [hwR] at HF15
      rw [hok, eL, hRl] at HSP p0 p1 s3 i3 j3 r3 B3 ⊢
      have hV0 := hmore.2
      have HSR := hide (show sameB (sumL us vs) (sumL us vs) = true by simp [sameB])
      have HSU := hide (show sameB us us = true by simp [sameB])
      generalize cmpW vs z8 8 = V at hV0 HC8 HC10
      generalize sumL us vs = R at HSP p0 p1 s3 i3 j3 r3 B3 HS4 HC8 HF15 HSR ⊢
      clear hw2 hca hwu hwv hul hud hvl hvd eL hRl hRd hwR hmore cR1 cR2 vR1 vR2 w2c c2c A2 A3 hok
      have T3 : Two (w2.alloc (Obj.cells #[Value.int IntKind.i64 0, Value.slice a2 8 d2] 28)) w2.heap.size (.int .i64 0) (.slice a2 8 d2) := Two.new _ _ _ _
      obtain ⟨w3, e3⟩ : ∃ w3, w2.alloc (Obj.cells #[Value.int IntKind.i64 0, Value.slice a2 8 d2] 28) = w3 := ⟨_, rfl⟩
      rw [e3] at p0 p1 s3 i3 j3 r3 B3 T3
      clear s3
      go_wp2_with (rw [e3])
      clear p0 p1 e3
      refine ((unhide HS4) _ i3 j3).mono ?_
      rintro e w4 ⟨a4, d4, rfl, q4, b4⟩
      have k5 := below_alloc w4 (Obj.cells #[Value.int IntKind.i64 0, Value.slice a4 8 d4] 28)
      have T5 : Two (w4.alloc (Obj.cells #[Value.int IntKind.i64 0, Value.slice a4 8 d4] 28)) w4.heap.size (.int .i64 0) (.slice a4 8 d4) := Two.new _ _ _ _
      go_wp2_with fail
      generalize w4.alloc (Obj.cells #[Value.int IntKind.i64 0, Value.slice a4 8 d4] 28) = w5 at k5 T5 ⊢
      have k35 := b4.trans (k5.mono b4.size)
      have r5 := (IRow.own2 q4).below k5 (Nat.le_refl _)
      clear q4 b4 k5
      refine ((unhide HZ6) _).mono ?_
      rintro e w6 ⟨a6, d6, rfl, q6, b6⟩
      have k7 := below_alloc w6 (Obj.cells #[Value.int IntKind.i64 0, Value.slice a6 8 d6] 28)
      have T7 : Two (w6.alloc (Obj.cells #[Value.int IntKind.i64 0, Value.slice a6 8 d6] 28)) w6.heap.size (.int .i64 0) (.slice a6 8 d6) := Two.new _ _ _ _
      have k37 := (k35.trans (b6.mono k35.size)).trans (k7.mono (k35.trans (b6.mono k35.size)).size)
      have k57 := b6.trans (k7.mono b6.size)
      have r7 := (IRow.own2 q6).below k7 (Nat.le_refl _)
      have i7 := i3.below k37 (Nat.le_refl _)
      have j7 := j3.below k37 (Nat.le_refl _)
      have R7 := r3.below k37 (Nat.le_refl _)
      have S7 := r5.below k57 (Nat.le_refl _)
      have TR := T3.below k37 (Nat.le_refl _)
      have TS := T5.below k57 (Nat.le_refl _)
      have B7 := B3.trans (k37.mono B3.size)
      have tr1 := TR.2.1
      clear q6 b6 k7 k57 k35 k37 i3 j3 r3 r5 T3 T5 B3
      go_wp2_with fail
      generalize w6.alloc (Obj.cells #[Value.int IntKind.i64 0, Value.slice a6 8 d6] 28) = w7 at r7 i7 j7 R7 S7 TR TS T7 B7 tr1 ⊢
      refine ((unhide HC8) _ _ _ R7 i7).mono ?_
      rintro e w8 ⟨rfl, b8⟩
      have k9 := below_alloc w8 (Obj.cells #[Value.int IntKind.i64 0, Value.int IntKind.i64 V] 32)
      have T9 : Two (w8.alloc (Obj.cells #[Value.int IntKind.i64 0, Value.int IntKind.i64 V] 32)) w8.heap.size (.int .i64 0) (.int .i64 V) := Two.new _ _ _ _
      have k79 := b8.trans (k9.mono b8.size)
      have r9 := r7.below k79 (Nat.le_refl _)
      have i9 := i7.below k79 (Nat.le_refl _)
      have j9 := j7.below k79 (Nat.le_refl _)
      have R9 := R7.below k79 (Nat.le_refl _)
      have S9 := S7.below k79 (Nat.le_refl _)
      have TR9 := TR.below k79 (Nat.le_refl _)
      have TS9 := TS.below k79 (Nat.le_refl _)
      have TZ9 := T7.below k79 (Nat.le_refl _)
      have B9 := B7.trans (k79.mono B7.size)
      have tz1 := TZ9.2.1
      clear b8 k9 k79 r7 i7 j7 R7 S7 TR TS T7 B7 tr1
      go_wp2_with fail
      generalize w8.alloc (Obj.cells #[Value.int IntKind.i64 0, Value.int IntKind.i64 V] 32) = w9 at r9 i9 j9 R9 S9 TR9 TS9 TZ9 T9 B9 tz1 ⊢
      refine ((unhide HC10) _ _ _ j9 r9).mono ?_
      rintro e w10 ⟨rfl, b10⟩
      have k11 := below_alloc w10 (Obj.cells #[Value.int IntKind.i64 0, Value.int IntKind.i64 V] 32)
      have TD : Two (w10.alloc (Obj.cells #[Value.int IntKind.i64 0, Value.int IntKind.i64 V] 32)) w10.heap.size (.int .i64 0) (.int .i64 V) := Two.new _ _ _ _
      have k := b10.trans (k11.mono b10.size)
      have r11 := r9.below k (Nat.le_refl _)
      have i11 := i9.below k (Nat.le_refl _)
      have j11 := j9.below k (Nat.le_refl _)
      have R11 := R9.below k (Nat.le_refl _)
      have S11 := S9.below k (Nat.le_refl _)
      have TR11 := TR9.below k (Nat.le_refl _)
      have TS11 := TS9.below k (Nat.le_refl _)
      have TZ11 := TZ9.below k (Nat.le_refl _)
      have TC11 := T9.below k (Nat.le_refl _)
      have B11 := B9.trans (k.mono B9.size)
      have h11 := h.below B11 (Nat.le_refl _)
      clear b10 k11 k r9 i9 j9 R9 S9 TR9 TS9 TZ9 T9 B9 tz1
      go_wp2_with fail
      generalize w10.alloc (Obj.cells #[Value.int IntKind.i64 0, Value.int IntKind.i64 V] 32) = w11 at r11 i11 j11 R11 S11 TR11 TS11 TZ11 TC11 TD B11 h11 ⊢
      refine (drawOf_any a len cap xs _ h11 hl).mono ?_
      rintro e w12 ⟨⟨m, rfl, hm0, hm1⟩, k12⟩
      go_wp2_with fail
      refine (implWideOf_any m (by omega) hm1 w12).mono ?_
      rintro e w13 ⟨a13, d13, rfl, q13, b13⟩
      have HSO := hide (fun W => specWideOf_any m (by omega) hm1 W)
      have hmc : woCode m = 0 ∨ woCode m ≠ 0 := Classical.em _
      have hmf : woCode m = 0 → wfCode (woList m) = 0 := fun e => by
        by_cases hneg : m < 0
        · rw [show woCode m = 3 from if_pos hneg] at e; cases e
        · rw [show woList m = wofList m from if_neg hneg]
          refine wf_of _ rfl (fun i => ?_)
          match i with
          | 0 | 1 => simp [wofList]; omega
          | 2 | 3 | 4 | 5 | 6 | 7 => simp [wofList]
          | n + 8 => simp [wofList]
      have hml := woList_length m
      have k14 := below_alloc w13 (Obj.cells #[Value.int IntKind.i64 (woCode m), Value.slice a13 (woList m).length d13] 28)
      have TW : Two (w13.alloc (Obj.cells #[Value.int IntKind.i64 (woCode m), Value.slice a13 (woList m).length d13] 28)) w13.heap.size (.int .i64 (woCode m)) (.slice a13 (woList m).length d13) := Two.new _ _ _ _
      have W14 := (IRow.own2 q13).below k14 (Nat.le_refl _)
      have ka := k12.trans (b13.mono k12.size)
      have k := ka.trans (k14.mono ka.size)
      have r := r11.below k (Nat.le_refl _)
      have i := i11.below k (Nat.le_refl _)
      have j := j11.below k (Nat.le_refl _)
      have RR := R11.below k (Nat.le_refl _)
      have SS := S11.below k (Nat.le_refl _)
      have TR := TR11.below k (Nat.le_refl _)
      have TS := TS11.below k (Nat.le_refl _)
      have TZ := TZ11.below k (Nat.le_refl _)
      have TC := TC11.below k (Nat.le_refl _)
      have TD := TD.below k (Nat.le_refl _)
      have B := B11.trans (k.mono B11.size)
      clear k12 b13 q13 k14 ka k r11 i11 j11 R11 S11 TR11 TS11 TZ11 TC11 B11 h11
      go_wp2_with fail
      generalize w13.alloc (Obj.cells #[Value.int IntKind.i64 (woCode m), Value.slice a13 (woList m).length d13] 28) = w14 at TW W14 r i j RR SS TR TS TZ TC TD B ⊢
      have HFM := hide (fun W (hW : IRow W a13 (woList m).length (woList m)) => implWFault_any a13 (woList m).length d13 (woList m) W hW (by omega))
      generalize woList m = ml at HSO hmf hml TW W14 HFM ⊢
      generalize woCode m = mc at HSO hmf hmc TW ⊢
      generalize ml.length = mn at hml TW W14 HSO HFM ⊢
      have HF0 := hide hmf
      clear hmf
      go_cut [64] (fun r wx => r = .bool false ∧ Below w14.heap.size w14 wx)
      case first =>
        have hcc : (mc != mc) = false := by simp
        obtain ⟨t0, t1, t2⟩ := TW
        have hf := fieldW0
        rcases hmc with hm | hm
        · have hd1 : (mc == 0) = true := by simp [hm]
          have hfz := (unhide HF0) hm
          rw [hfz] at HFM
          clear hm hfz
          first | (go_region_with (first
            | (go_at_call 16; refine ((unhide HSO) _).mono ?_; rintro e w15 ⟨a15, d15, rfl, q15, b15⟩; have K15 : Below w14.heap.size w14 w15 := ((Below.refl w14.heap.size w14).drew).trans b15; have u0 := (b15.cell t2).trans t0; have u1 := (b15.cell t2).trans t1; have x15 := W14.below K15 (Nat.le_refl _); clear b15 q15)
            | (go_at_call 17; refine ((unhide HFM) _ x15).mono ?_; rintro e w16 ⟨rfl, rfl⟩))) | fail
          all_goals
            go_wp2_with fail
            go_meet
            case rel => exact ⟨rfl, K15⟩
        · have hd1 : (mc == 0) = false := by rw [beq_eq_false_iff_ne]; exact hm
          clear hm
          first | (go_region_with (first
            | (go_at_call 16; refine ((unhide HSO) _).mono ?_; rintro e w15 ⟨a15, d15, rfl, q15, b15⟩; have K15 : Below w14.heap.size w14 w15 := ((Below.refl w14.heap.size w14).drew).trans b15; have u0 := (b15.cell t2).trans t0; have u1 := (b15.cell t2).trans t1; clear b15 q15))) | fail
          all_goals
            go_wp2_with fail
            go_meet
            case rel => exact ⟨rfl, K15⟩
      case rest =>
        obtain ⟨rfl, kx⟩ := hcut
        have r := r.below kx (Nat.le_refl _)
        have i := i.below kx (Nat.le_refl _)
        have j := j.below kx (Nat.le_refl _)
        have RR := RR.below kx (Nat.le_refl _)
        have SS := SS.below kx (Nat.le_refl _)
        have TR := TR.below kx (Nat.le_refl _)
        have TS := TS.below kx (Nat.le_refl _)
        have TZ := TZ.below kx (Nat.le_refl _)
        have TC := TC.below kx (Nat.le_refl _)
        have TD := TD.below kx (Nat.le_refl _)
        have B := B.trans (kx.mono B.size)
        clear kx HFM HF0 HSO hmc TW W14
        have c1 := TR.2.1
        have c2' := TS.2.1
        have c3 := TZ.2.1
        have c4 := TC.1
        have c5 := TC.2.1
        have c6 := TD.2.1
        have hv1 : (V == V) = true := by simp
        have hv2 : decide (0 ≤ V) = true := decide_eq_true hV0
        have hv3 : decide (V ≥ 0) = true := decide_eq_true hV0
        have hf := fieldW1
        have HR := hide r
        have HI := hide i
        have HJ := hide j
        have HRR := hide RR
        have HSS := hide SS
        have HTR := hide TR
        have HB := hide B
        clear hd hm0 hm1 r i j RR SS TR TS TZ TC TD B h hl HZ6 HS4 HC8 HC10 hn hn2
        go_wp2_with fail
        first | (go_region_with (first
          | (go_at_call 17; refine ((unhide HF15) _ _ _ ((unhide HRR).below (by first | exact (Below.refl _ _).drew | exact below_drewN (Below.refl _ _) _) (Nat.le_refl _))).mono ?_; rintro e w16 ⟨rfl, rfl⟩)
          | (go_at_call 11; refine ((unhide HA15) _ _ _ ((unhide HI).below (by first | exact (Below.refl _ _).drew | exact below_drewN (Below.refl _ _) _) (Nat.le_refl _)) ((unhide HR).below (by first | exact (Below.refl _ _).drew | exact below_drewN (Below.refl _ _) _) (Nat.le_refl _))).mono ?_; rintro e w17 ⟨a17, d17, rfl, q17, b17⟩; have I17 := hide (IRow.own2 q17); have KW : Hid (Below wc.heap.size wc w17) := Below.trans (by first | exact (Below.refl _ _).drew | exact below_drewN (Below.refl _ _) _) (b17.mono (by first | exact Nat.le_refl _ | exact (below_drewN (Below.refl wc.heap.size wc) _).size)); have e1 := ((unhide HTR).below (unhide KW) (Nat.le_refl _)).2.1; clear b17 q17)
          | (go_at_call 12; refine ((unhide HSP) _ ((unhide HI).below (by first | exact unhide KW | exact below_drewN (unhide KW) _) (Nat.le_refl _)) ((unhide HJ).below (by first | exact unhide KW | exact below_drewN (unhide KW) _) (Nat.le_refl _))).mono ?_; rintro e w18 ⟨a18, d18, rfl, q18, b18⟩; have I18 := hide (IRow.own2 q18); have KX : Hid (Below wc.heap.size wc w18) := Below.trans (by first | exact unhide KW | exact below_drewN (unhide KW) _) (b18.mono (by first | exact (unhide KW).size | exact (below_drewN (unhide KW) _).size)); have e2 := ((unhide HTR).below (unhide KX) (Nat.le_refl _)).2.1; clear b18 q18)
          | (go_at_call_of 18 a4; refine (lwNums_any _ _ 8 _ 8 _ R R _ ((unhide HSS).below (by first | exact (Below.refl _ _).drew | exact below_drewN (Below.refl _ _) _) (Nat.le_refl _)) ((unhide HRR).below (by first | exact (Below.refl _ _).drew | exact below_drewN (Below.refl _ _) _) (Nat.le_refl _)) (by omega) (by omega)).mono ?_; rintro e w19 ⟨rfl, n19, rfl⟩; rw [unhide HSR])
          | (go_at_call_of 18 a17; refine (lwNums_any _ _ 8 _ 8 _ us us _ (unhide I17) ((unhide HI).below (unhide KW) (Nat.le_refl _)) (by omega) (by omega)).mono ?_; rintro e w19 ⟨rfl, n20, rfl⟩; rw [unhide HSU])
          | (go_at_call_of 18 a18; refine (lwNums_any _ _ 8 _ 8 _ R R _ ((unhide HRR).below (unhide KX) (Nat.le_refl _)) (unhide I18) (by omega) (by omega)).mono ?_; rintro e w19 ⟨rfl, n21, rfl⟩; rw [unhide HSR]))) | fail
        all_goals
          go_wp2_with fail
          go_ret
          exact ⟨rfl, (unhide HB).trans ((below_drewN (unhide KX) _).mono (unhide HB).size)⟩
    · have hcb : (awCode us vs != 0) = true := by rw [bne_iff_ne]; exact hok
      have hcc : (awCode us vs == awCode us vs) = true := by simp
      generalize awCode us vs = cc at hcb hcc HSP p0 p1 s3 i3 j3 r3 B3 hok ⊢
      generalize awList us vs = al at HSP p0 p1 s3 i3 j3 r3 B3 ⊢
      obtain ⟨w3, e3⟩ : ∃ w3, w2.alloc (Obj.cells #[Value.int IntKind.i64 cc, Value.slice a2 al.length d2] 28) = w3 := ⟨_, rfl⟩
      rw [e3] at p0 p1 s3 i3 j3 r3 B3
      have hf := fieldW0
      clear hok
      go_wp2_with (rw [e3])
      first | (go_region_with (first
        | (go_at_call 12; refine ((unhide HSP) _ (i3.below (by first | exact Below.refl _ _ | exact (Below.refl _ _).drew) (Nat.le_refl _)) (j3.below (by first | exact Below.refl _ _ | exact (Below.refl _ _).drew) (Nat.le_refl _))).mono ?_; rintro e w4 ⟨a4, c4, rfl, o4, b4⟩; have p0a := (b4.cell s3).trans p0))) | fail
      all_goals
        go_wp2_with fail
        go_ret
        exact ⟨rfl, B3.trans ((((Below.refl w3.heap.size w3).drew).trans b4).mono B3.size)⟩
  · have hd : decide (1048576 < (len : Int)) = true := decide_eq_true (by omega)
    go_enter Try.func3, Try.ntmps3
    go_wp2_with fail
    refine (lwBig_any a len cap w).mono ?_
    rintro e w' ⟨rfl, rfl⟩
    rw [hd]
    go_wp2_with fail
    go_ret
    exact ⟨rfl, Below.refl _ _⟩

end Go.Proofs.Ytakkhocaloigeaa
