/- What is proved here: the law FnOrders returns true for every slice of bytes and writes into no memory that was there. -/
import Derived.Test.YtpcokoejmodmaaaOrX
import Derived.Test.YtpcokoejmodmaaaOrN
import Derived.Test.YtpcokoejmodmaaaLwN
import Derived.Test.YtpcokoejmodmaaaLwB
import Derived.Test.YtpcokoejmodmaaaTwo
import Derived.Deep.DeepCutAuto
import Derived.Deep.DrawnRows
import Derived.RegionTactic
import Derived.BigRegion
import Derived.Deep.RegionWith
import Derived.Deep.RegionHeld3
namespace Go.Proofs.Ytpcokoejmodmaaa
open Go.RowKit
set_option linter.unusedVariables false
attribute [local go_sem ↓] Go.wp_at_zero Go.wp_at_succ

theorem fieldI0 (x y : Value) (w : World) : (Instr.field 37 (.agg #[x, y]) 0).run Try.prog w = .ok x w := by kernel_rfl
theorem fieldT1 (x y : Value) (w : World) : (Instr.field 40 (.agg #[x, y]) 1).run Try.prog w = .ok y w := by kernel_rfl

set_option maxRecDepth 100000 in
set_option maxHeartbeats 3000000 in
theorem ordersLaw_any (a : Option Addr) (len cap : Nat) (xs : List Int) (w : World) (h : BRow w a len xs) :
    Calls Try.prog 4 #[.slice a len cap] w fun e w' => e = .returned (.bool true) ∧ Below w.heap.size w w' := by
  by_cases hl : len ≤ 1048576
  · have hd : decide (1048576 < (len : Int)) = false := decide_eq_false (by omega)
    go_enter Try.func4, Try.ntmps4
    go_wp2_with fail
    refine (lwBig_any a len cap w).mono ?_
    rintro e w' ⟨rfl, rfl⟩
    rw [hd]
    go_wp2_with fail
    refine (drawCmp_any a len cap xs _ h hl).mono ?_
    rintro e w1 ⟨g, o, n, c, g2, n2, c2, us, vs, rfl, hn, hn2, i1, j1, b1⟩
    go_wp2_with fail
    refine (implCW_any _ _ n n2 c c2 us vs w1 i1 j1 (by omega) (by omega)).mono ?_
    rintro e w2 ⟨rfl, b2⟩
    have HSP := hide (fun W (hW : IRow W (some ⟨g, o, none⟩) n us) (hV : IRow W g2 n2 vs) => specCW_any _ _ n n2 c c2 us vs W hW hV (by omega) (by omega))
    have k3 := below_alloc w2 (Obj.cells #[Value.int IntKind.i64 (wf2 us vs), Value.int IntKind.i64 (cwVal us vs)] 37)
    have T3 : Two (w2.alloc (Obj.cells #[Value.int IntKind.i64 (wf2 us vs), Value.int IntKind.i64 (cwVal us vs)] 37)) w2.heap.size (.int .i64 (wf2 us vs)) (.int .i64 (cwVal us vs)) := Two.new _ _ _ _
    have k23 := b2.trans (k3.mono b2.size)
    have i3 := i1.below k23 (Nat.le_refl _)
    have j3 := j1.below k23 (Nat.le_refl _)
    have B3 := b1.trans (k23.mono b1.size)
    clear b1 b2 k23 i1 j1 k3
    by_cases hok : wf2 us vs = 0
    · obtain ⟨hwu, hwv⟩ := wf2_zero us vs hok
      obtain ⟨hul, hud⟩ := wf_zero us hwu
      obtain ⟨hvl, hvd⟩ := wf_zero vs hwv
      obtain rfl : n = 8 := by rw [← i3.1]; exact hul
      obtain rfl : n2 = 8 := by rw [← j3.1]; exact hvl
      have ev : cwVal us vs = cmpW us vs 8 := if_pos hok
      have ok2 : wf2 vs us = 0 := by unfold wf2; rw [if_pos hwv, hwu]
      have ev2 : cwVal vs us = - cmpW us vs 8 := by
        rw [show cwVal vs us = cmpW vs us 8 from if_pos ok2, cmpW_num hvd hud, cmpW_num hud hvd]
        exact cmpI_neg _ _
      have hr := cmpI_range (numW us 8) (numW vs 8)
      rw [← cmpW_num hud hvd] at hr
      obtain ⟨fs, fa, fb, f1, f2, f3⟩ := order_facts hwu hwv
      have fsame := same_cmp hul hvl
      have hc1 := cnt_pos (dig us) 64 (by omega)
      have hc2 := cnt_le (dig us) 64
      have hc3 := cnt_le (dig vs) 64
      rw [← fa] at hc1 hc2
      rw [← fb] at hc3
      have HS4 := hide (fun W (hW : IRow W (some ⟨g, o, none⟩) 8 us) (hV : IRow W g2 8 vs) => implCW_any _ _ 8 8 c2 c vs us W hV hW (by omega) (by omega))
      rw [ok2, ev2] at HS4
      have HTU := hide (fun W (hW : IRow W (some ⟨g, o, none⟩) 8 us) => implWText_any _ 8 c us W hW (by omega))
      have HTV := hide (fun W (hW : IRow W g2 8 vs) => implWText_any _ 8 c2 vs W hW (by omega))
      have HSU := hide (fun W (hW : IRow W (some ⟨g, o, none⟩) 8 us) => specWText_any _ 8 c us W hW (by omega))
      rw [hwu] at HTU HSU
      rw [hwv] at HTV
      rw [hok, ev] at T3 i3 j3 B3 ⊢
      clear HSP fa fb hwu hwv hul hud hvl hvd ev ok2 ev2 hok
      generalize wtText us = tx at HTU HSU fs f1 f2 f3 hc1 hc2
      generalize wtText vs = ty at HTV fs f1 f2 f3 hc3
      generalize cmpW us vs 8 = V at HS4 T3 i3 j3 B3 fs f1 f2 f3 fsame hr ⊢
      obtain ⟨w3, e3⟩ : ∃ w3, w2.alloc (Obj.cells #[Value.int IntKind.i64 0, Value.int IntKind.i64 V] 37) = w3 := ⟨_, rfl⟩
      rw [e3] at T3 i3 j3 B3
      obtain ⟨p0, p1, p2⟩ := T3
      have T3 : Two w3 w2.heap.size (.int .i64 0) (.int .i64 V) := ⟨p0, p1, p2⟩
      obtain ⟨S, hS⟩ : ∃ S, S = -V := ⟨_, rfl⟩
      rw [← hS] at HS4
      have HSV := hide hS
      have HF := hide (And.intro f1 (And.intro f2 f3))
      clear hS f1 f2 f3
      go_wp2_with (rw [e3])
      clear p0 p1 p2 e3
      refine ((unhide HS4) _ i3 j3).mono ?_
      rintro e w4 ⟨rfl, b4⟩
      have k5 := below_alloc w4 (Obj.cells #[Value.int IntKind.i64 0, Value.int IntKind.i64 S] 37)
      have T5 : Two (w4.alloc (Obj.cells #[Value.int IntKind.i64 0, Value.int IntKind.i64 S] 37)) w4.heap.size (.int .i64 0) (.int .i64 S) := Two.new _ _ _ _
      have k35 := b4.trans (k5.mono b4.size)
      have i5 := i3.below k35 (Nat.le_refl _)
      have j5 := j3.below k35 (Nat.le_refl _)
      have R5 := T3.below k35 (Nat.le_refl _)
      have B5 := B3.trans (k35.mono B3.size)
      clear b4 k5 k35 i3 j3 T3 B3 HS4
      go_wp2_with fail
      generalize w4.alloc (Obj.cells #[Value.int IntKind.i64 0, Value.int IntKind.i64 S] 37) = w5 at T5 i5 j5 R5 B5 ⊢
      refine ((unhide HTU) _ i5).mono ?_
      rintro e w6 ⟨rfl, b6⟩
      have k7 := below_alloc w6 (Obj.cells #[Value.int IntKind.i64 0, Value.string tx] 40)
      have T7 : Two (w6.alloc (Obj.cells #[Value.int IntKind.i64 0, Value.string tx] 40)) w6.heap.size (.int .i64 0) (.string tx) := Two.new _ _ _ _
      have k57 := b6.trans (k7.mono b6.size)
      have i7 := i5.below k57 (Nat.le_refl _)
      have j7 := j5.below k57 (Nat.le_refl _)
      have R7 := R5.below k57 (Nat.le_refl _)
      have S7 := T5.below k57 (Nat.le_refl _)
      have B7 := B5.trans (k57.mono B5.size)
      clear b6 k7 k57 i5 j5 R5 T5 B5 HTU
      go_wp2_with fail
      generalize w6.alloc (Obj.cells #[Value.int IntKind.i64 0, Value.string tx] 40) = w7 at T7 i7 j7 R7 S7 B7 ⊢
      refine ((unhide HTV) _ j7).mono ?_
      rintro e w8 ⟨rfl, b8⟩
      have k9 := below_alloc w8 (Obj.cells #[Value.int IntKind.i64 0, Value.string ty] 40)
      have TY : Two (w8.alloc (Obj.cells #[Value.int IntKind.i64 0, Value.string ty] 40)) w8.heap.size (.int .i64 0) (.string ty) := Two.new _ _ _ _
      have k := b8.trans (k9.mono b8.size)
      have i := i7.below k (Nat.le_refl _)
      have j := j7.below k (Nat.le_refl _)
      have TR := R7.below k (Nat.le_refl _)
      have TS := S7.below k (Nat.le_refl _)
      have TX := T7.below k (Nat.le_refl _)
      have B := B7.trans (k.mono B7.size)
      obtain ⟨w9, e9⟩ : ∃ w9, w8.alloc (Obj.cells #[Value.int IntKind.i64 0, Value.string ty] 40) = w9 := ⟨_, rfl⟩
      rw [e9] at TY i j TR TS TX B
      clear b8 k9 k i7 j7 R7 S7 T7 B7 HTV
      go_upto_region 10 with (rw [e9])
      clear e9
      go_cut [9] (fun r wx => r = .bool (decide (V < 0)) ∧ wx = w9)
      case first =>
        have x1 := TX.2.1
        have y1 := TY.2.1
        obtain ⟨f1, f2, f3⟩ := unhide HF
        clear HF fs fsame HSU i j TR TS TX TY B h
        rcases Nat.lt_trichotomy tx.size ty.size with hlt | heq | hgt
        · have d1 : decide ((tx.size : Int) < (ty.size : Int)) = true := decide_eq_true (by omega)
          have d2 : decide (tx.size < ty.size) = true := decide_eq_true hlt
          have HR := hide (f1 hlt)
          clear f1 f2 f3 hlt
          go_wp2_with fail
          go_meet
          exact ⟨by rw [unhide HR], rfl⟩
        · have d1 : decide ((tx.size : Int) < (ty.size : Int)) = false := decide_eq_false (by omega)
          have d2 : decide (tx.size < ty.size) = false := decide_eq_false (by omega)
          have d3 : (((tx.size : Nat) : Int) == ((ty.size : Nat) : Int)) = true := by rw [heq]; simp
          have d4 : (tx.size == ty.size) = true := by rw [heq]; simp
          have HR := hide (f2 heq)
          have HE := hide heq
          clear f1 f2 f3 heq
          go_wp2_with fail
          go_meet
          exact ⟨by rw [unhide HR], rfl⟩
        · have d1 : decide ((tx.size : Int) < (ty.size : Int)) = false := decide_eq_false (by omega)
          have d2 : decide (tx.size < ty.size) = false := decide_eq_false (by omega)
          have d3 : (((tx.size : Nat) : Int) == ((ty.size : Nat) : Int)) = false := by rw [beq_eq_false_iff_ne]; omega
          have d4 : (tx.size == ty.size) = false := by rw [beq_eq_false_iff_ne]; omega
          have HR := hide (f3 hgt)
          clear f1 f2 f3 hgt
          go_wp2_with fail
          go_meet
          exact ⟨by rw [unhide HR], rfl⟩
      case rest =>
        obtain ⟨rfl, rfl⟩ := hcut
        have c1 := TR.2.1
        have c2' := TS.2.1
        have c3 := TX.1
        have c4 := TX.2.1
        have c5 := TY.1
        have c6 := TY.2.1
        have hSS : (S == S) = true := by simp
        have hneg : IntKind.i64.wrap (-V) = S := by rw [← unhide HSV, IntKind.wrap_i64]; have := unhide HSV; omega
        have hneg2 : -V = S := (unhide HSV).symm
        have hneg3 : IntKind.i64.wrap S = S := by rw [IntKind.wrap_i64]; have := unhide HSV; omega
        obtain ⟨z, hz⟩ : ∃ z, z = (V == 0) := ⟨_, rfl⟩
        obtain ⟨l, hl'⟩ : ∃ l, l = decide (V < 0) := ⟨_, rfl⟩
        have z1 : (V == 0) = z := hz.symm
        have l1 : decide (V < 0) = l := hl'.symm
        have zz : (z == z) = true := by simp
        have ll : (l == l) = true := by simp
        rw [← hz] at fs fsame
        have htt : (tx.toList == tx.toList) = true := by simp
        have hne : ¬ tx.toList = [] := fun e => by
          have := congrArg List.length e
          rw [ByteArray.toList_eq, Array.length_toList] at this
          have h0 : tx.size = 0 := this
          omega
        have hne2 : tx.toList.isEmpty = false := by rw [List.isEmpty_eq_false_iff]; exact hne
        have hne3 : (!tx.toList == []) = true := by simp [hne]
        have hf := fieldT1
        have HI := hide i
        have HJ := hide j
        have HB := hide B
        have HSA := hide fsame
        have HKK : Hid (∀ W, Below wc.heap.size wc W → W.cell? ⟨w2.heap.size, 1, none⟩ = some (.int .i64 V) ∧ W.cell? ⟨w4.heap.size, 1, none⟩ = some (.int .i64 S) ∧ W.cell? ⟨w6.heap.size, 0, none⟩ = some (.int .i64 0) ∧ W.cell? ⟨w6.heap.size, 1, none⟩ = some (.string tx) ∧ W.cell? ⟨w8.heap.size, 0, none⟩ = some (.int .i64 0) ∧ W.cell? ⟨w8.heap.size, 1, none⟩ = some (.string ty)) := fun W hb => ⟨(TR.below hb (Nat.le_refl _)).2.1, (TS.below hb (Nat.le_refl _)).2.1, (TX.below hb (Nat.le_refl _)).1, (TX.below hb (Nat.le_refl _)).2.1, (TY.below hb (Nat.le_refl _)).1, (TY.below hb (Nat.le_refl _)).2.1⟩
        clear hz hl' fsame i j TR TS TX TY B h hl hd HF HSV hn hn2 hr hc1 hc2 hc3
        go_wp2_with fail
        go_region_held3 (fun W => W.cell? ⟨w2.heap.size, 1, none⟩ = some (.int .i64 V) ∧ W.cell? ⟨w4.heap.size, 1, none⟩ = some (.int .i64 S) ∧ W.cell? ⟨w6.heap.size, 0, none⟩ = some (.int .i64 0) ∧ W.cell? ⟨w6.heap.size, 1, none⟩ = some (.string tx) ∧ W.cell? ⟨w8.heap.size, 0, none⟩ = some (.int .i64 0) ∧ W.cell? ⟨w8.heap.size, 1, none⟩ = some (.string ty))
          (exact (unhide HKK) _ (by first | assumption | exact below_drewN (by assumption) _ | exact (Below.refl wc.heap.size wc).drew | exact below_drewN (Below.refl wc.heap.size wc) _))
          (first
          | (go_at_call 9; refine (lwNums_any _ _ 8 _ 8 _ us vs _ ((unhide HI).below (by first | exact (Below.refl _ _).drew | exact below_drewN (Below.refl _ _) _) (Nat.le_refl _)) ((unhide HJ).below (by first | exact (Below.refl _ _).drew | exact below_drewN (Below.refl _ _) _) (Nat.le_refl _)) (by omega) (by omega)).mono ?_; rintro e w19 ⟨rfl, n19, rfl⟩; rw [unhide HSA])
          | (go_at_call 14; refine ((unhide HSU) _ ((unhide HI).below (by first | exact (Below.refl _ _).drew | exact below_drewN (Below.refl _ _) _) (Nat.le_refl _))).mono ?_; rintro e w18 ⟨rfl, b18⟩; have KX : Below wc.heap.size wc w18 := Below.trans (by first | exact (Below.refl _ _).drew | exact below_drewN (Below.refl _ _) _) (b18.mono (by first | exact Nat.le_refl _ | exact (below_drewN (Below.refl wc.heap.size wc) _).size))))
        all_goals
          go_wp2_with fail
          go_ret
          exact ⟨rfl, (unhide HB).trans (KX.mono (unhide HB).size)⟩
    · have hcb : (wf2 us vs != 0) = true := by rw [bne_iff_ne]; exact hok
      have hcc : (wf2 us vs == wf2 us vs) = true := by simp
      generalize wf2 us vs = cc at hcb hcc HSP T3 i3 j3 B3 hok ⊢
      generalize cwVal us vs = vv at HSP T3 i3 j3 B3 ⊢
      obtain ⟨w3, e3⟩ : ∃ w3, w2.alloc (Obj.cells #[Value.int IntKind.i64 cc, Value.int IntKind.i64 vv] 37) = w3 := ⟨_, rfl⟩
      rw [e3] at T3 i3 j3 B3
      obtain ⟨p0, p1, s3⟩ := T3
      have hf := fieldI0
      clear hok
      go_wp2_with (rw [e3])
      clear e3
      first | (go_region_with (first
        | (go_at_call 12; refine ((unhide HSP) _ (i3.below (by first | exact Below.refl _ _ | exact (Below.refl _ _).drew) (Nat.le_refl _)) (j3.below (by first | exact Below.refl _ _ | exact (Below.refl _ _).drew) (Nat.le_refl _))).mono ?_; rintro e w4 ⟨rfl, b4⟩; have p0a := (b4.cell s3).trans p0))) | fail
      all_goals
        go_wp2_with fail
        go_ret
        exact ⟨rfl, B3.trans ((((Below.refl w3.heap.size w3).drew).trans b4).mono B3.size)⟩
  · have hd : decide (1048576 < (len : Int)) = true := decide_eq_true (by omega)
    go_enter Try.func4, Try.ntmps4
    go_wp2_with fail
    refine (lwBig_any a len cap w).mono ?_
    rintro e w' ⟨rfl, rfl⟩
    rw [hd]
    go_wp2_with fail
    go_ret
    exact ⟨rfl, Below.refl _ _⟩

end Go.Proofs.Ytpcokoejmodmaaa
