/- Proved: for every argument the law FnExactTurnChain returns true and changes no argument. Conditions: the tied card's own (the two tables of rounds and offsets as the program lays them). -/
import Derived.Test.YtldiilmpmcbjkaaGreatDoorRows
import Derived.Test.YtldiilmpmcbjkaaGreatDoorTie
import Derived.Test.YtldiilmpmcbjkaaGreatDoorCards
import Derived.Test.YtldiilmpmcbjkaaGreatDoorJ2
import Derived.Test.YtldiilmpmcbjkaaGreatDoorJ27
import Derived.Test.YtldiilmpmcbjkaaGreatDoorJ28
import Derived.Test.YtldiilmpmcbjkaaGreatDoorJ30
import Derived.Test.YtldiilmpmcbjkaaGreatDoorJ26
import Derived.WalkSmall
import Derived.Deep.MidRow
import Derived.Deep.RegionHeld3
import Derived.WalkKit
import Derived.ProofKit
import Derived.OpenShut
import Derived.ShutString
import Derived.ChangeOld
import Derived.Below
import Derived.OpenVars
import Derived.LaidMore
import Derived.Stop.Joined
import Derived.SevenTiedAt
namespace Go.Proofs.YtldiilmpmcbjkaaGreatDoor.fnExactTurnChain
open Go.ChangeShapes Go.WideShapes Go.ChangeAt Go.RowKit
set_option linter.unusedVariables false

theorem own : ownKnob Tryz.prog.godebug = none := by kernel_rfl
theorem laidOut : laidOutB Tryz.prog = true := by kernel_rfl

/-! The walk: the Go text returns true, and writes nothing that was there. -/
set_option maxRecDepth 100000 in
set_option maxHeartbeats 8000000 in
theorem walk (x0 : Sl) (y0 : St) (a1 : Int) (a2 : Int) (w : World) (o0 : RowOk enK w x0 y0.2) (w1 : (Lit.int .i64 a1).wf = true) (w2 : (Lit.int .i64 a2).wf = true) (VV : Laid w) :
    Calls Tryz.prog 3 #[.agg (tvals x0 y0), .int .i64 a1, .int .i64 a2] w fun e w' => e = .returned (.bool true) ∧ Below w.heap.size w w' := by
  have k0 := SBlk.new w (tvals x0 y0) 26
  have bb := below_alloc w (.cells (tvals x0 y0) 26)
  obtain ⟨V0, ea0⟩ : ∃ W, w.alloc (.cells (tvals x0 y0) 26) = W := ⟨_, rfl⟩
  rw [ea0] at k0 bb
  have T0 : Hid (StSm y0 → ∀ W, Below w.heap.size w W → Calls Tryz.prog 6 #[.agg (tvals x0 y0)] W fun r w' => ∃ (e' : Sl) (d : Nat → Path), r = .returned (.agg (tvals e' y0)) ∧ ensK.Own w' W.heap.size d [0] e' y0.2 ∧ Below W.heap.size W w') := fun m W hb => toStore_any [0] x0 y0 W (RowOk.below o0 hb (Nat.le_refl _)) m
  have Q0 : Hid (StSm y0 → ∀ (e f : Sl) (W : World), RowOk enK W e y0.2 → RowOk enK W f y0.2 → Calls Tryz.prog 9 #[.agg (tvals e y0), .agg (tvals f y0)] W fun r w' => r = .returned (.bool true) ∧ Below W.heap.size W w') := fun m e f W o q => eqStore_same e f y0 W o q m
  have HC0 := hide (fun (W : World) (hb : Below V0.heap.size V0 W) => k0.below hb k0.lt)
  have SPC := hide (fun (m0 : StSm y0) (f0 : Sl) (W : World) (q0 : RowOk enK W f0 y0.2) => specTurnC_any f0 y0 a1 a2 W q0 m0)
  have IMC := hide (fun (m0 : StSm y0) (f0 : Sl) (W : World) (LV : Laid W) (q0 : RowOk enK W f0 y0.2) => implTurnC_any f0 y0 a1 a2 W q0 m0 LV)
  have MKC := hide (fun (m0 : StSm y0) (hs : lsum enTot y0.2 ≤ 1048576) (B : Nat) (d : Nat → Path) (f0 : Sl) (W : World) (q0 : ensK.Own W B d [0] f0 y0.2) (hB : B ≤ W.heap.size) => markStore_any B d [0] f0 y0 1 W q0 hB m0 hs (by omega) (by omega))
  have Z := hide (szStore_sum x0 y0 1048576 V0 (RowOk.below o0 bb (Nat.le_refl _)) (by omega) (by omega))
  have HLN := hide (tc_len y0 a1 a2)
  generalize plsCode y0 [a1, a2] = c at SPC IMC
  generalize tcBack y0 a1 a2 = zs at SPC IMC HLN
  generalize tcForth y0 a1 a2 = ys at SPC IMC HLN
  obtain ⟨L, hL⟩ : ∃ L, L = zs.length := ⟨_, rfl⟩
  obtain ⟨M, hM⟩ : ∃ M, M = ys.length := ⟨_, rfl⟩
  rw [← hL, ← hM] at SPC IMC HLN
  have hL7 : L ≤ 1048576 := by have := (unhide HLN).1; omega
  have hM7 : M ≤ 1048576 := by have := (unhide HLN).2; omega
  have HLZ := hide (And.intro hL hM)
  have HB0 := hide bb
  have HVV := hide (fun (W : World) (hb : Below w.heap.size w W) => VV.below hb (Nat.le_refl _))
  have c0_0 := k0.cell 0
  have c0_1 := k0.cell 1
  have c0_2 := k0.cell 2
  have c0_3 := k0.cell 3
  simp only [tvals, List.getElem?_cons_zero, List.getElem?_cons_succ] at c0_0 c0_1 c0_2 c0_3
  have EA0 := hide ea0
  clear bb ea0 k0 o0 hL hM HLN VV
  unfold tvals at EA0 Z ⊢
  go_enter Tryz.func3, Tryz.ntmps3
  go_upto_region 1 with fail
  rw [unhide EA0]
  clear EA0
  go_wp2_with fail
  refine (unhide Z).mono ?_
  rintro r w1 ⟨⟨L1, rfl, l1, l2, l3⟩, b1⟩
  have K1 := hide b1
  have HB1 := hide ((unhide HB0).trans (b1.mono (unhide HB0).size))
  clear b1 Z c0_0 c0_1 c0_2 c0_3
  by_cases n1 : L1 < 0
  · have hd : decide (L1 < 0) = true := decide_eq_true n1
    go_wp2_with fail
    go_ret
    exact ⟨rfl, unhide HB1⟩
  have M0 := hide (l3 (by omega)).1
  have MS := hide (l3 (by omega)).2
  have hd : decide (L1 < 0) = false := decide_eq_false n1
  clear n1 l1 l2 l3
  have c0_0 := ((unhide HC0) w1 (unhide K1)).cell 0
  have c0_1 := ((unhide HC0) w1 (unhide K1)).cell 1
  have c0_2 := ((unhide HC0) w1 (unhide K1)).cell 2
  have c0_3 := ((unhide HC0) w1 (unhide K1)).cell 3
  simp only [tvals, List.getElem?_cons_zero, List.getElem?_cons_succ] at c0_0 c0_1 c0_2 c0_3
  go_wp2_with fail
  refine ((unhide T0) (unhide M0) _ (unhide HB1)).mono ?_
  rintro r u1 ⟨e0, d0, rfl, o1, b1⟩
  have p1' := RowOwn.ok o1
  have KK := hide ((unhide K1).trans (b1.mono (unhide K1).size))
  have HBB := hide ((unhide HB1).trans (b1.mono (unhide HB1).size))
  have SP := hide ((unhide SPC) (unhide M0) e0 u1 p1')
  clear b1 c0_0 c0_1 c0_2 c0_3 o1 p1' SPC
  unfold tvals at SP
  unfold tvals
  go_wp2_with fail
  refine (unhide SP).mono ?_
  rintro r w2 ⟨ba, bf, c2, c2', rfl, o2, o2', b2⟩
  have K2 := (unhide KK).trans (b2.mono (unhide KK).size)
  have F2 := (unhide HBB).trans (b2.mono (unhide HBB).size)
  obtain ⟨k3, s3, p0, p1, p2⟩ := new3 w2 (.int .i64 c) (.slice ba L c2) (.slice bf M c2') 30
  obtain ⟨w3, ee⟩ : ∃ W, w2.alloc (Obj.cells #[Value.int IntKind.i64 c, Value.slice ba L c2, Value.slice bf M c2'] 30) = W := ⟨_, rfl⟩
  rw [ee] at k3 s3 p0 p1 p2
  have K3 := K2.trans (k3.mono K2.size)
  have F3 := F2.trans (k3.mono F2.size)
  have R2 := And.intro (o2.below k3 (Nat.le_refl _)) (o2'.below k3 (Nat.le_refl _))
  have c0_0 := ((unhide HC0) w3 K3).cell 0
  have c0_1 := ((unhide HC0) w3 K3).cell 1
  have c0_2 := ((unhide HC0) w3 K3).cell 2
  have c0_3 := ((unhide HC0) w3 K3).cell 3
  simp only [tvals, List.getElem?_cons_zero, List.getElem?_cons_succ] at c0_0 c0_1 c0_2 c0_3
  have EE := hide ee
  have QH := hide (And.intro K3 (And.intro F3 (And.intro R2 (And.intro s3 (And.intro p0 (And.intro p1 p2))))))
  clear ee K2 F2 k3 K3 F3 R2 s3 p0 p1 p2 o2 o2' b2 SP KK HBB K1 HB1
  go_upto_region 6 with (rw [unhide EE])
  try rw [unhide EE]
  clear EE
  obtain ⟨gw, hgw⟩ : ∃ g, g = w2.heap.size := ⟨_, rfl⟩
  rw [← hgw] at QH ⊢
  clear hgw
  go_wp2_with fail
  refine ((unhide T0) (unhide M0) _ (unhide QH).2.1).mono ?_
  rintro r u4 ⟨f0, d4, rfl, o4, b4⟩
  obtain ⟨K3, F3, R2, s3, p0, p1, p2⟩ := unhide QH
  have h0 := SBlk.new u4 (tvals f0 y0) 35
  have hb := below_alloc u4 (.cells (tvals f0 y0) 35)
  obtain ⟨w4, ee⟩ : ∃ W, u4.alloc (.cells (tvals f0 y0) 35) = W := ⟨_, rfl⟩
  rw [ee] at h0 hb
  obtain ⟨dd, hdd⟩ : ∃ d' : Nat → Path, d' = fun g => if g < u4.heap.size then d4 g else [1] := ⟨_, rfl⟩
  have ow : ensK.Own w4 w3.heap.size dd [0] f0 y0.2 := ensK.ownBelow ((Kd.made _ o4) dd (fun g _ hg => by rw [hdd]; exact if_pos hg)) hb (Nat.le_refl _)
  have G4 : Below w3.heap.size w3 w4 := b4.trans (hb.mono b4.size)
  have K4 := K3.trans (G4.mono K3.size)
  have F4 := F3.trans (G4.mono F3.size)
  have hs34 : w3.heap.size < w4.heap.size := Nat.lt_of_le_of_lt b4.size h0.lt
  have hcol : ∀ g, w4.heap.size ≤ g → dd g = [1] := fun g hg => by rw [hdd]; exact if_neg (by have := hb.size; omega)
  have EE := hide ee
  have IM := hide ((unhide IMC) (unhide M0) f0 w4 ((unhide HVV) w4 F4) (RowOwn.ok ow))
  have d0_0 := h0.cell 0
  have d0_1 := h0.cell 1
  have d0_2 := h0.cell 2
  have d0_3 := h0.cell 3
  simp only [tvals, List.getElem?_cons_zero, List.getElem?_cons_succ] at d0_0 d0_1 d0_2 d0_3
  have QX := hide (And.intro ow (And.intro G4 (And.intro K4 (And.intro F4 (And.intro hs34 (And.intro hcol h0))))))
  clear ee hb hdd o4 b4 ow G4 K4 F4 hs34 hcol h0 K3 F3 R2 s3 p0 p1 p2 c0_0 c0_1 c0_2 c0_3
  unfold tvals at EE IM
  unfold tvals
  go_upto_region 7 with (rw [unhide EE])
  try rw [unhide EE]
  clear EE
  obtain ⟨g0, hg0⟩ : ∃ g, g = u4.heap.size := ⟨_, rfl⟩
  rw [← hg0] at QX d0_0 d0_1 d0_2 d0_3 ⊢
  clear hg0
  go_wp2_with fail
  refine (unhide IM).mono ?_
  rintro r w5 ⟨a5, a5', c5, c5', rfl, o5, b5⟩
  obtain ⟨K3, F3, R2, s3, p0, p1, p2⟩ := unhide QH
  obtain ⟨ow, G4, K4, F4, hs34, hcol, h0⟩ := unhide QX
  have G5 := G4.trans (b5.mono G4.size)
  have s5 : gw < w5.heap.size := Nat.lt_of_lt_of_le s3 G5.size
  obtain ⟨k6, s6, q0, q1, q2⟩ := new3 w5 (.int .i64 c) (.slice a5 L c5) (.slice a5' M c5') 30
  obtain ⟨w6, ee⟩ : ∃ W, w5.alloc (Obj.cells #[Value.int IntKind.i64 c, Value.slice a5 L c5, Value.slice a5' M c5'] 30) = W := ⟨_, rfl⟩
  rw [ee] at k6 s6 q0 q1 q2
  have R5 := (o5.below k6 (Nat.le_refl _)).rows
  rw [← (unhide HLZ).1, ← (unhide HLZ).2] at R5
  have G6 := G5.trans (k6.mono G5.size)
  have B46 := b5.trans (k6.mono b5.size)
  have p0' := (G6.cell s3).trans p0
  have p1' := (G6.cell s3).trans p1
  have p2' := (G6.cell s3).trans p2
  have EQ1 := hide (eqTurn_same c a5 a5' ba bf L M c5 c5' c2 c2' zs ys w6 R5.1 R5.2 (R2.1.below G6 (Nat.le_refl _)) (R2.2.below G6 (Nat.le_refl _)) hL7 hM7)
  have EE := hide ee
  have QY := hide (And.intro o5 (And.intro b5 (And.intro k6 (And.intro s6 (And.intro q0 (And.intro q1 (And.intro q2 (And.intro G6 (And.intro B46 s5)))))))))
  have q0' := q0
  have q1' := q1
  have q2' := q2
  clear ee o5 b5 k6 s6 q0 q1 q2 G6 B46 s5 R5 K3 F3 R2 s3 p0 p1 p2 ow G4 K4 F4 hs34 hcol h0 G5 IM d0_0 d0_1 d0_2 d0_3
  go_upto_region 8 with (rw [unhide EE])
  try rw [unhide EE]
  clear EE
  obtain ⟨gg, hgg⟩ : ∃ g, g = w5.heap.size := ⟨_, rfl⟩
  rw [← hgg] at QY q0' q1' q2' ⊢
  have HGG := hide hgg
  clear hgg
  go_wp2_with fail
  refine (unhide EQ1).mono ?_
  rintro r w7 ⟨rfl, b7⟩
  obtain ⟨K3, F3, R2, s3, p0, p1, p2⟩ := unhide QH
  obtain ⟨ow, G4, K4, F4, hs34, hcol, h0⟩ := unhide QX
  obtain ⟨o5, b5, k6, s6, q0, q1, q2, G6, B46, s5⟩ := unhide QY
  have G7 := G6.trans (b7.mono G6.size)
  have B47 := B46.trans (b7.mono B46.size)
  have K7 := K3.trans (G7.mono K3.size)
  have F7 := F3.trans (G7.mono F3.size)
  have HS : Hid (∀ W, Below w7.heap.size w7 W → (fun W => (W.cell? ⟨g0, 0, none⟩ = some (.int .i64 y0.1.1) ∧ W.cell? ⟨g0, 1, none⟩ = some (.int .i64 y0.1.2.1) ∧ W.cell? ⟨g0, 2, none⟩ = some (.int .i64 y0.1.2.2) ∧ W.cell? ⟨g0, 3, none⟩ = some (.slice f0.a f0.n f0.c)) ∧ (W.cell? ⟨w.heap.size, 0, none⟩ = some (.int .i64 y0.1.1) ∧ W.cell? ⟨w.heap.size, 1, none⟩ = some (.int .i64 y0.1.2.1) ∧ W.cell? ⟨w.heap.size, 2, none⟩ = some (.int .i64 y0.1.2.2) ∧ W.cell? ⟨w.heap.size, 3, none⟩ = some (.slice x0.a x0.n x0.c))) W) := fun W hb => by
    have h := h0.below (B47.trans (hb.mono B47.size)) h0.lt
    have h' := (unhide HC0) W (K7.trans (hb.mono K7.size))
    exact ⟨⟨h.cell 0, h.cell 1, h.cell 2, h.cell 3⟩, ⟨h'.cell 0, h'.cell 1, h'.cell 2, h'.cell 3⟩⟩
  have P7 := hide (RowOwn.ok (ensK.ownBelow ow B47 (Nat.le_refl _)))
  have HB7 := hide F7
  have QZ := hide (And.intro b7 (And.intro G7 (And.intro B47 K7)))
  clear b7 G7 B47 K7 F7 K3 F3 R2 s3 p0 p1 p2 ow G4 K4 F4 hs34 hcol h0 o5 b5 k6 s6 q0 q1 q2 G6 B46 s5 EQ1 p0' p1' p2' q0' q1' q2'
  go_wp2_with fail
  go_region_held3 (fun W => (W.cell? ⟨g0, 0, none⟩ = some (.int .i64 y0.1.1) ∧ W.cell? ⟨g0, 1, none⟩ = some (.int .i64 y0.1.2.1) ∧ W.cell? ⟨g0, 2, none⟩ = some (.int .i64 y0.1.2.2) ∧ W.cell? ⟨g0, 3, none⟩ = some (.slice f0.a f0.n f0.c)) ∧ (W.cell? ⟨w.heap.size, 0, none⟩ = some (.int .i64 y0.1.1) ∧ W.cell? ⟨w.heap.size, 1, none⟩ = some (.int .i64 y0.1.2.1) ∧ W.cell? ⟨w.heap.size, 2, none⟩ = some (.int .i64 y0.1.2.2) ∧ W.cell? ⟨w.heap.size, 3, none⟩ = some (.slice x0.a x0.n x0.c)))
    (exact (unhide HS) _ (by first | assumption | exact (Below.refl w7.heap.size w7).drew | exact below_drewN (Below.refl w7.heap.size w7) _ | exact below_drewN (by assumption) _))
    (first
      | (go_at_call 9; refine ((unhide Q0) (unhide M0) f0 e1 _ (RowOk.below (unhide P7) J1 (Nat.le_refl _)) pp).mono ?_; rintro r w9 ⟨rfl, b2⟩; have JJ : Below w7.heap.size w7 w9 := J1.trans (b2.mono J1.size); clear b2)
      | (go_at_call 6; refine ((unhide T0) (unhide M0) _ ((unhide HB7).trans (Below.mono (by first | exact (Below.refl w7.heap.size w7).drew | exact below_drewN (Below.refl w7.heap.size w7) _ | exact Below.refl w7.heap.size w7) (unhide HB7).size))).mono ?_; rintro r u9 ⟨e1, d9, rfl, o9', b1⟩; have pp := RowOwn.ok o9'; have J1 : Below w7.heap.size w7 u9 := Below.trans (by first | exact (Below.refl w7.heap.size w7).drew | exact below_drewN (Below.refl w7.heap.size w7) _ | exact Below.refl w7.heap.size w7) (b1.mono (by first | exact Nat.le_refl _ | exact (below_drewN (Below.refl w7.heap.size w7) _).size)); clear b1 o9'))
  all_goals
    obtain ⟨K3, F3, R2, s3, p0, p1, p2⟩ := unhide QH
    obtain ⟨ow, G4, K4, F4, hs34, hcol, h0⟩ := unhide QX
    obtain ⟨o5, b5, k6, s6, q0, q1, q2, G6, B46, s5⟩ := unhide QY
    obtain ⟨b7, G7, B47, K7⟩ := unhide QZ
    have hgg := unhide HGG
    have G9 := G7.trans (JJ.mono G7.size)
    have B49 := B47.trans (JJ.mono B47.size)
    have M9 := b7.trans (JJ.mono b7.size)
    have L9 := k6.trans (M9.mono (by rw [hgg]; exact k6.size))
    have q0a := (M9.cell s6).trans q0
    have q1a := (M9.cell s6).trans q1
    have q2a := (M9.cell s6).trans q2
    have o9 := o5.below L9 (by rw [hgg]; exact Nat.le_refl _)
    have s9 : gg < w9.heap.size := Nat.lt_of_lt_of_le s6 M9.size
    have ow9 := ensK.ownBelow ow B49 (Nat.le_refl _)
    have h9 := h0.below B49 h0.lt
    have d0_0 := h9.cell 0
    have d0_1 := h9.cell 1
    have d0_2 := h9.cell 2
    have d0_3 := h9.cell 3
    simp only [tvals, List.getElem?_cons_zero, List.getElem?_cons_succ] at d0_0 d0_1 d0_2 d0_3
    have hB9 : w3.heap.size ≤ w9.heap.size := G9.size
    have MK := hide ((unhide MKC) (unhide M0) (by have := unhide MS; omega) w3.heap.size dd f0 w9 ow9 hB9)
    unfold tvals at MK
    have QA := hide (And.intro R2 (And.intro s3 (And.intro p0 (And.intro p1 (And.intro p2 (And.intro hs34 (And.intro hcol (And.intro o5 (And.intro b5 (And.intro G9 (And.intro q0a (And.intro q1a (And.intro q2a (And.intro o9 (And.intro s9 (And.intro F3 hgg))))))))))))))))
    clear K3 F3 R2 s3 p0 p1 p2 ow G4 K4 F4 hs34 hcol h0 o5 b5 k6 s6 q0 q1 q2 G6 B46 s5 b7 G7 B47 K7 hgg G9 B49 M9 L9 q0a q1a q2a o9 s9 ow9 h9 hB9 JJ J1 pp HS P7 HB7 QZ
    go_wp2_with fail
    refine (unhide MK).mono ?_
    rintro r w10 ⟨⟨kk, rfl, kk0, kk1⟩, WW, bW, oW⟩
    obtain ⟨R2, s3, p0, p1, p2, hs34, hcol, o5, b5, G9, q0a, q1a, q2a, o9, s9, F3, hgg⟩ := unhide QA
    have on10 : OnlyIn w3.heap.size w4.heap.size w9 w10 := ⟨(bW.mono G9.size).trans oW.1, fun g hg1 hg2 => by
      rw [oW.2 g (Nat.lt_of_lt_of_le hg2 bW.size) (by rw [hcol g hg1]; decide)]
      exact bW.block g hg2⟩
    have G10 : Below w3.heap.size w3 w10 := G9.trans on10.1
    have hgg4 : w4.heap.size ≤ gg := by rw [hgg]; exact b5.size
    have q0b := (on10.cell (p := ⟨gg, 0, none⟩) hgg4 s9).trans q0a
    have q1b := (on10.cell (p := ⟨gg, 1, none⟩) hgg4 s9).trans q1a
    have q2b := (on10.cell (p := ⟨gg, 2, none⟩) hgg4 s9).trans q2a
    have o10b := o9.onlyIn on10 (Nat.le_refl _)
    have s10 : gg < w10.heap.size := Nat.lt_of_lt_of_le s9 on10.1.size
    have hk : decide (kk < 0) = false := decide_eq_false (by omega)
    have p0a := (G10.cell s3).trans p0
    have p1a := (G10.cell s3).trans p1
    have p2a := (G10.cell s3).trans p2
    have R10 := o10b.rows
    rw [← (unhide HLZ).1, ← (unhide HLZ).2] at R10
    have EQ2 := hide (eqTurn_same c a5 a5' ba bf L M c5 c5' c2 c2' zs ys w10 R10.1 R10.2 (R2.1.below G10 (Nat.le_refl _)) (R2.2.below G10 (Nat.le_refl _)) hL7 hM7)
    have QB := hide (And.intro R2 (And.intro s3 (And.intro p0 (And.intro p1 (And.intro p2 (And.intro hs34 (And.intro (And.intro o5 b5) (And.intro G10 (And.intro q0b (And.intro q1b (And.intro q2b (And.intro o10b (And.intro s10 (And.intro F3 hgg))))))))))))))
    clear QA R2 s3 p0 p1 p2 hs34 hcol o5 b5 G9 q0a q1a q2a o9 s9 F3 hgg on10 G10 o10b s10 bW oW R10 hgg4 MK d0_0 d0_1 d0_2 d0_3
    go_wp2_with fail
    refine (unhide EQ2).mono ?_
    rintro r w11 ⟨rfl, b11⟩
    obtain ⟨R2, s3, p0, p1, p2, hs34, ⟨o5, b5⟩, G10, q0b, q1b, q2b, o10b, s10, F3, hgg⟩ := unhide QB
    have G11 := G10.trans (b11.mono G10.size)
    have q0c := (b11.cell s10).trans q0b
    have q1c := (b11.cell s10).trans q1b
    have q2c := (b11.cell s10).trans q2b
    have o11 := o10b.below b11 (Nat.le_refl _)
    have s11 : gg < w11.heap.size := Nat.lt_of_lt_of_le s10 b11.size
    have MI := hide (markTurn_own c w4.heap.size a5 a5' c5 c5' zs ys 1 w11 o11 (by have := s11; rw [hgg] at this; exact Nat.le_trans b5.size (Nat.le_of_lt this)) (by have := (unhide HLZ).1; omega) (by have := (unhide HLZ).2; omega) (by omega) (by omega))
    rw [← (unhide HLZ).1, ← (unhide HLZ).2] at MI
    have QC := hide (And.intro R2 (And.intro s3 (And.intro p0 (And.intro p1 (And.intro p2 (And.intro hs34 (And.intro o5 (And.intro G11 (And.intro q0c (And.intro q1c (And.intro q2c (And.intro s11 (And.intro F3 hgg)))))))))))))
    clear QB R2 s3 p0 p1 p2 hs34 o5 b5 G10 q0b q1b q2b o10b s10 F3 hgg b11 G11 o11 s11 EQ2 p0a p1a p2a
    go_wp2_with fail
    refine (unhide MI).mono ?_
    rintro r w12 ⟨rfl, o12, g12, e12⟩
    obtain ⟨R2, s3, p0, p1, p2, hs34, o5, G11, q0c, q1c, q2c, s11, F3, hgg⟩ := unhide QC
    have hg5 := o5.lt (Nat.le_of_eq hgg.symm)
    have x12 := e12 gg s11 hg5.1 hg5.2
    have q0d := (cell_of_block x12 0).trans q0c
    have q1d := (cell_of_block x12 1).trans q1c
    have q2d := (cell_of_block x12 2).trans q2c
    have G12 : Below w3.heap.size w3 w12 := G11.trans (g12.mono (Nat.le_of_lt hs34))
    have M12 := o12.rows
    rw [imarks_length, imarks_length] at M12
    have s12 : gg < w12.heap.size := Nat.lt_of_lt_of_le s11 g12.size
    have HE1 := hide (heldTurn_any c a5 a5' L M c5 c5' 1 w12 M12.1 M12.2 hL7 hM7 (by omega) (by omega))
    have QD := hide (And.intro R2 (And.intro s3 (And.intro p0 (And.intro p1 (And.intro p2 (And.intro G12 (And.intro q0d (And.intro q1d (And.intro q2d (And.intro M12 (And.intro s12 F3)))))))))))
    clear QC R2 s3 p0 p1 p2 hs34 o5 G11 q0c q1c q2c s11 F3 hgg hg5 x12 e12 G12 M12 s12 o12 g12 MI
    go_wp2_with fail
    refine (unhide HE1).mono ?_
    rintro r w13 ⟨rfl, b13⟩
    obtain ⟨R2, s3, p0, p1, p2, G12, q0d, q1d, q2d, M12, s12, F3⟩ := unhide QD
    have G13 := G12.trans (b13.mono G12.size)
    have q0e := (b13.cell s12).trans q0d
    have q1e := (b13.cell s12).trans q1d
    have q2e := (b13.cell s12).trans q2d
    have M13 := And.intro (M12.1.below b13 (Nat.le_refl _)) (M12.2.below b13 (Nat.le_refl _))
    have s13 : gg < w13.heap.size := Nat.lt_of_lt_of_le s12 b13.size
    have hne : ((1 + (L : Int) + (M : Int)) != 1 + (L : Int) + (M : Int)) = false := by simp
    have hnk : decide (1 + (L : Int) + (M : Int) < 0) = false := decide_eq_false (by omega)
    have F13 := F3.trans (G13.mono F3.size)
    obtain ⟨K3, _⟩ := unhide QH
    have K13 := K3.trans (G13.mono K3.size)
    have c0_0 := ((unhide HC0) w13 K13).cell 0
    have c0_1 := ((unhide HC0) w13 K13).cell 1
    have c0_2 := ((unhide HC0) w13 K13).cell 2
    have c0_3 := ((unhide HC0) w13 K13).cell 3
    simp only [tvals, List.getElem?_cons_zero, List.getElem?_cons_succ] at c0_0 c0_1 c0_2 c0_3
    have TT := hide ((unhide T0) (unhide M0) w13 F13)
    unfold tvals at TT
    have QE := hide (And.intro R2 (And.intro s3 (And.intro p0 (And.intro p1 (And.intro p2 (And.intro G13 (And.intro q0e (And.intro q1e (And.intro q2e (And.intro M13 (And.intro s13 F13)))))))))))
    clear QD R2 s3 p0 p1 p2 G12 q0d q1d q2d M12 s12 F3 b13 G13 q0e q1e q2e M13 s13 F13 K3 K13 HE1
    go_wp2_with fail
    refine (unhide TT).mono ?_
    rintro r w14 ⟨e2, d14, rfl, o14, b14⟩
    obtain ⟨R2, s3, p0, p1, p2, G13, q0e, q1e, q2e, M13, s13, F13⟩ := unhide QE
    have F14 := F13.trans (b14.mono F13.size)
    have IM2 := hide ((unhide IMC) (unhide M0) e2 w14 ((unhide HVV) w14 F14) (RowOwn.ok o14))
    unfold tvals at IM2
    have BB := hide b14
    clear R2 s3 p0 p1 p2 G13 q0e q1e q2e M13 s13 F13 F14 o14 b14 TT c0_0 c0_1 c0_2 c0_3
    go_wp2_with fail
    refine (unhide IM2).mono ?_
    rintro r w15 ⟨a15, a15', c15, c15', rfl, o15, b15⟩
    obtain ⟨R2, s3, p0, p1, p2, G13, q0e, q1e, q2e, M13, s13, F13⟩ := unhide QE
    have b145 := (unhide BB).trans (b15.mono (unhide BB).size)
    have G15 := G13.trans (b145.mono G13.size)
    have q0f := (b145.cell s13).trans q0e
    have q1f := (b145.cell s13).trans q1e
    have q2f := (b145.cell s13).trans q2e
    have M15 := And.intro (M13.1.below b145 (Nat.le_refl _)) (M13.2.below b145 (Nat.le_refl _))
    have s15 : gg < w15.heap.size := Nat.lt_of_lt_of_le s13 b145.size
    have s215 : gw < w15.heap.size := Nat.lt_of_lt_of_le s3 G15.size
    obtain ⟨k16, s16, t0, t1, t2⟩ := new3 w15 (.int .i64 c) (.slice a15 L c15) (.slice a15' M c15') 30
    obtain ⟨w16, ee⟩ : ∃ W, w15.alloc (Obj.cells #[Value.int IntKind.i64 c, Value.slice a15 L c15, Value.slice a15' M c15'] 30) = W := ⟨_, rfl⟩
    rw [ee] at k16 s16 t0 t1 t2
    have G16 := G15.trans (k16.mono G15.size)
    have R15 := (o15.below k16 (Nat.le_refl _)).rows
    rw [← (unhide HLZ).1, ← (unhide HLZ).2] at R15
    have p0' := (G16.cell s3).trans p0
    have p1' := (G16.cell s3).trans p1
    have p2' := (G16.cell s3).trans p2
    have EQ3 := hide (eqTurn_same c a15 a15' ba bf L M c15 c15' c2 c2' zs ys w16 R15.1 R15.2 (R2.1.below G16 (Nat.le_refl _)) (R2.2.below G16 (Nat.le_refl _)) hL7 hM7)
    have EE := hide ee
    have F3' := hide F13
    have QF := hide (And.intro G15 (And.intro q0f (And.intro q1f (And.intro q2f (And.intro M15 (And.intro s15 (And.intro k16 b145)))))))
    clear ee R2 s3 p0 p1 p2 G13 q0e q1e q2e M13 s13 F13 b145 G15 q0f q1f q2f M15 s15 s215 k16 s16 G16 R15 QE BB IM2 o15 b15
    go_upto_region 24 with (rw [unhide EE])
    try rw [unhide EE]
    clear EE
    refine (unhide EQ3).mono ?_
    rintro r w17 ⟨rfl, b17⟩
    obtain ⟨G15, q0f, q1f, q2f, M15, s15, k16, b145⟩ := unhide QF
    have k17 := k16.trans (b17.mono k16.size)
    have q0g := (k17.cell s15).trans q0f
    have q1g := (k17.cell s15).trans q1f
    have q2g := (k17.cell s15).trans q2f
    have M17 := And.intro (M15.1.below k17 (Nat.le_refl _)) (M15.2.below k17 (Nat.le_refl _))
    have F17 := (unhide F3').trans ((b145.trans (k17.mono b145.size)).mono (unhide F3').size)
    have HE2 := hide (heldTurn_any c a5 a5' L M c5 c5' 1 w17 M17.1 M17.2 hL7 hM7 (by omega) (by omega))
    have FF := hide F17
    clear G15 q0f q1f q2f M15 s15 k16 b145 k17 M17 F17 b17 QF EQ3 p0' p1' p2'
    go_wp2_with fail
    refine (unhide HE2).mono ?_
    rintro r w18 ⟨rfl, b18⟩
    have FE := hide ((unhide FF).trans (b18.mono (unhide FF).size))
    clear b18
    go_wp2_with fail
    go_ret
    exact ⟨rfl, unhide FE⟩

/-! The row's step. -/
set_option maxRecDepth 100000 in
theorem lifted (os : Os) (started : os.Started) (H : Type) (enc : TypeId × Value → H) :
    ReturnsInHanded {} Tryz.checked os 3 .any (fun w args => (Rows.fnExactTurnChainSpec.pre enc Tryz.prog Tryz.f3 [] false w args ∧ laidMetH Tryz.prog laid2 w) ∧ sizedMet enc Tryz.prog Tryz.f3 (OpenSpec.ofChange Rows.fnExactTurnChainSpec) false w args)
      (Rows.fnExactTurnChainSpec.post enc Tryz.prog Tryz.f3 false true false false) := by
  refine returnsInHanded_of_change_and (C := Tryz.checked) (X := fun w _ => laidMetH Tryz.prog laid2 w) (fun _ _ _ hh h => h.of_heap hh) own started (by kernel_rfl) Tryz.func3
    (ChangeSpec.witness_shaped (enc := enc) (C := Tryz.checked) (os := os) (X := fun w _ => laidMetH Tryz.prog laid2 w) false (World.doorLaid Tryz.prog 400 os) #[.agg #[.int .i64 0, .int .i64 0, .int .i64 0, .slice none 0 0], .int .i64 0, .int .i64 0] 8 rfl (World.shaped_of_RefB (by kernel_rfl) (by kernel_rfl)) (by kernel_rfl) (by kernel_rfl) (by kernel_rfl) (door_met os _)) ?_
  intro W base args ds gs before hval0 hW _ _ hL _
  have hval : ∀ (j : Nat) t v, Tryz.f3.params[j]? = some t → args[j]? = some v → Value.okWide Tryz.prog W .any base t v := hval0
  have hW' := hW
  obtain ⟨p, q, hA0, hV, rfl, hfz, hnd⟩ := hW
  have hA : DataW.TrodAll enc Tryz.prog W 0 (fun _ => true) true Tryz.f3.params.toList args.toList ds p := hA0
  rw [Tryz.params3] at hA hval
  obtain ⟨v0, vs0, d0, ds0, p0, q0, hargs, rfl, rfl, h0, r0⟩ := trodAll_cons hA
  obtain ⟨v1, vs1, d1, ds1, p1, q1, rfl, rfl, rfl, h1, r1⟩ := trodAll_cons r0
  obtain ⟨v2, vs2, d2, ds2, p2, q2, rfl, rfl, rfl, h2, r2⟩ := trodAll_cons r1
  obtain ⟨rfl, rfl, rfl⟩ := trodAll_nil r2
  obtain rfl : args = #[v0, v1, v2] := by cases args; simp_all
  obtain ⟨y0v, y1v, rfl⟩ : ∃ y0 y1, gs = [y0, y1] := by
    match gs, hV with
    | [y0, y1], _ => exact ⟨y0, y1, rfl⟩
    | [], hV => exact hV.elim
    | [_], hV => obtain ⟨_, _, _, _, _, _, _, _, _, _, hs, _⟩ := hV; exact hs.elim
    | _ :: _ :: _ :: _, hV =>
      obtain ⟨_, _, _, _, _, _, _, _, _, _, hs, _⟩ := hV
      obtain ⟨_, _, _, _, _, _, _, _, _, _, hs2, _⟩ := hs
      exact hs2.elim
  have k0 := h0
  have lt0 : ∀ x ∈ p0, x.block < W.heap.size := by obtain ⟨m, hm⟩ := k0; exact DataW.trod_lt m _ _ _ hm
  obtain ⟨x0, y0, rfl, o0⟩ := open_store (okWide_struct Tryz.underlying26 (hval 0 26 v0 rfl rfl)) h0
  obtain ⟨a1, rfl, rfl, rfl, w1⟩ := open_int Tryz.underlying2 (hval 1 2 v1 rfl rfl) h1
  obtain ⟨a2, rfl, rfl, rfl, w2⟩ := open_int Tryz.underlying2 (hval 2 2 v2 rfl rfl) h2
  clear hA0 hval0
  refine (walk x0 y0 a1 a2 W o0 w1 w2 (of_laid hL)).mono fun e W' ⟨he, bel⟩ => ?_
  subst he
  exact ⟨_, rfl, _, _, _, [], _, _, hW', trodAll_mk1 (shut_bool Tryz.underlying4 _), (trodAll_cons_mk (Below.trod laidOut (by kernel_rfl) (of_decide_eq_true (by kernel_rfl)) k0 bel lt0) (trodAll_cons_mk (shut_int Tryz.underlying2 w1) (trodAll_cons_mk (shut_int Tryz.underlying2 w2) trodAll_mk0))), Below.trodVars laidOut bel (by kernel_rfl) hV, bel.frame _, fun h => by cases h⟩

theorem over : Rows.FnExactTurnChainSaid :=
  OpenClaim.holds_of_wide 3 Tryz.f3 rfl rfl rfl rfl rfl rfl rfl ⟨rfl, rfl, rfl, rfl, rfl⟩ rfl rfl rfl rfl rfl (by kernel_rfl) Tryz.func3 (by kernel_rfl)
    (of_decide_eq_true (by kernel_rfl)) (by unfold Func.isWrapper; first | (rw [if_pos (by decide +kernel)]; kernel_rfl) | (rw [if_neg (by decide +kernel)]; exact ⟨rfl, rfl⟩))
    (fun os started H enc _ => lifted os started H enc)

/-- The statement: the tied card. -/
theorem proved : Rows.FnExactTurnChainCardSaid :=
  Claim7.holds_tied_plain_at .later [] [.data, .data] true (true, "a8f2b759658fecd7f4ce94ffbfb496fea80bcb403f389d9c7ee857082e0c5336") false
    over (fun _ h => by cases h) (by kernel_rfl) (fun _ h => by cases h) fnExactTurnChain_row_tie rfl ⟨rfl, rfl⟩ (by kernel_rfl) rfl
    (fun f fn hf hfn => by
      obtain rfl : f = 3 := Option.some.inj ((show Tryz.prog.funcNamed "loop.example/g00383/laws.FnExactTurnChain" = some 3 by kernel_rfl).symm.trans hf) |>.symm
      obtain rfl : fn = Tryz.f3 := (Option.some.inj (Tryz.func3.symm.trans hfn)).symm
      exact ⟨by kernel_rfl, fun j t ht => by
        rw [Tryz.params3] at ht
        have hm : t ∈ [26, 2, 2] := by simpa using Array.mem_of_getElem? ht
        have hall : ([26, 2, 2].all fun u => !Tryz.prog.wantsStandIn u) = true := by kernel_rfl
        exact (show Tryz.prog.wantsStandIn t = false by simpa using List.all_eq_true.1 hall t hm)⟩)
    (by kernel_rfl)
#print axioms proved
end Go.Proofs.YtldiilmpmcbjkaaGreatDoor.fnExactTurnChain
