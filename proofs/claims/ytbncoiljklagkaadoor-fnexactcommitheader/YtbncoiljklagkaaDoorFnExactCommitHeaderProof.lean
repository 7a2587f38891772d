/- Proved: for every header and every slice of slices of bytes the law FnExactCommitHeader returns true and changes no argument. Conditions: the two variables hold what the program's text lays. -/
import Derived.Test.YtbncoiljklagkaaDoorRows
import Derived.Test.YtbncoiljklagkaaDoorTie
import Derived.Test.YtbncoiljklagkaaDoorCards
import Derived.Test.YtbncoiljklagkaaDoorJ2
import Derived.Test.YtbncoiljklagkaaDoorJ4
import Derived.Test.YtbncoiljklagkaaDoorJ5
import Derived.Test.YtbncoiljklagkaaDoorJ24
import Derived.Test.YtbncoiljklagkaaDoorJ25
import Derived.Test.YtbncoiljklagkaaDoorJ22
import Derived.Test.YtbncoiljklagkaaDoorJ11
import Derived.WalkSmall
import Derived.Deep.RegionHeld3
import Derived.WalkKit
import Derived.ProofKit
import Derived.OpenShut
import Derived.ShutString
import Derived.ChangeOld
import Derived.Below
import Derived.OpenVars
import Derived.LaidMore
import Derived.Stop.Joined
import Derived.SevenTiedAt
namespace Go.Proofs.YtbncoiljklagkaaDoor.fnExactCommitHeader
open Go.ChangeShapes Go.WideShapes Go.ChangeAt Go.RowKit
set_option linter.unusedVariables false

theorem own : ownKnob Tryd.prog.godebug = none := by kernel_rfl
theorem laidOut : laidOutB Tryd.prog = true := by kernel_rfl

/-! The walk: the Go text returns true, and writes nothing that was there. -/
set_option maxRecDepth 100000 in
set_option maxHeartbeats 8000000 in
theorem walk (x0 : HS) (h0 : Hd) (a1 : Option Addr) (len1 cap1 : Nat) (z1 : List (List Int)) (w : World) (m0 : HMax x0 maxLen) (w0 : HOk w x0 h0) (i0 : HIn h0) (m1 : len1 ≤ maxLen) (w1 : BsRow w a1 len1 z1) (VV : Laid w) :
    Calls Tryd.prog 7 #[.agg (hvals x0 h0), .slice a1 len1 cap1] w fun e w' => e = .returned (.bool true) ∧ Below w.heap.size w w' := by
  have HV := hide VV
  have LBY := hide w1.bytes
  have LLN := hide w1.1
  have SZL := hide (fun (r : Int) (W : World) (hb : Below w.heap.size w W) (h0 : 0 ≤ r) (h1 : r ≤ 1048576) => szByteSS_any a1 len1 cap1 z1 r W (w1.below hb (Nat.le_refl _)) m1 h0 (by omega))
  have TL : Hid (len1 ≤ 1048576 → (∀ z ∈ z1, z.length ≤ 1048576) → ∀ (W : World), Below w.heap.size w W → Calls Tryd.prog 28 #[.slice a1 len1 cap1] W fun e w' => e = .returned (.slice (some ⟨W.heap.size, 0, none⟩) len1 len1) ∧ OBss w' W.heap.size z1 22 w'.heap.size ∧ BsRow w' (some ⟨W.heap.size, 0, none⟩) len1 z1 ∧ BsNil w' (some ⟨W.heap.size, 0, none⟩) len1 ∧ Below W.heap.size W w') := fun l y W hb => (toByteSS_any a1 len1 cap1 z1 W (w1.below hb (Nat.le_refl _)) l y).mono (by
    rintro e w' ⟨rfl, o, b⟩
    have q := OBss.row o w1.2.1 w1.bytes
    have n := OBss.nilOk o
    rw [w1.1] at q n
    exact ⟨rfl, o, q, n, b⟩)
  have MSL : Hid (∀ (W : World) (g C : Nat) (k : Int), OBss W g z1 22 C → g < C → len1 ≤ 1048576 → bsum z1 ≤ 1048576 → 0 ≤ k → k ≤ 16777216 → Calls Tryd.prog 32 #[.slice (some ⟨g, 0, none⟩) len1 len1, .int .i64 k] W fun e w' => e = .returned (.int .i64 (k + (bsum z1 : Nat))) ∧ OnlyH (g + 1) C W w') := fun W g C k o h1 h2 h3 h4 h5 => by
    have q := markSS_any g z1 22 C k W o h1 (by rw [w1.1]; exact h2) h3 h4 h5
    rw [w1.1] at q
    exact q
  clear VV w1 m1
  have k0 := SBlk.new w (hvals x0 h0) 25
  have hb0 := below_alloc w (.cells (hvals x0 h0) 25)
  obtain ⟨W0, e0⟩ : ∃ W0, w.alloc (.cells (hvals x0 h0) 25) = W0 := ⟨_, rfl⟩
  rw [e0] at k0 hb0
  have SZ := hide (szHeader_tot x0 h0 1048576 W0 (w0.below hb0 (Nat.le_refl _)) m0 (by omega) (by omega))
  have T0 : Hid (HSm h0 → ∀ (W : World), Below w.heap.size w W → Calls Tryd.prog 10 #[.agg (hvals x0 h0)] W fun e w' => ∃ y, e = .returned (.agg (hvals y h0)) ∧ HOk w' y h0 ∧ HNil w' y ∧ HOwnC w' (W.heap.size + 3) w'.heap.size y h0 ∧ Below W.heap.size W w') := fun m W hb => (toHeader_any x0 h0 W (w0.below hb (Nat.le_refl _)) m).mono fun e w' ⟨y, he, ho, hb'⟩ => ⟨y, he, ho.ok w0, ho.nilOk, ho.c, hb'⟩
  have SP := hide (fun (m : HSm h0) (y : HS) (W : World) (o : HOk W y h0) (n : HNil W y) (g : Nat) (lr : BsRow W (some ⟨g, 0, none⟩) len1 z1) (ln : BsNil W (some ⟨g, 0, none⟩) len1) (l : len1 ≤ 1048576) => specCommitH_any y h0 (some ⟨g, 0, none⟩) len1 len1 z1 W o n m lr ln l)
  have IM := hide (fun (m : HSm h0) (y : HS) (W : World) (o : HOk W y h0) (n : HNil W y) (g : Nat) (lr : BsRow W (some ⟨g, 0, none⟩) len1 z1) (ln : BsNil W (some ⟨g, 0, none⟩) len1) (l : len1 ≤ 1048576) (hv : Laid W) => implCommitH_any y h0 (some ⟨g, 0, none⟩) len1 len1 z1 W o n m lr ln l hv)
  have MK := hide (fun (m : HSm h0) (t : hTot h0 ≤ 1048576) (y : HS) (W : World) (B C : Nat) (o : HOwnC W B C y h0) (hC : C ≤ W.heap.size) => markHeader_any y h0 B C W o hC m t)
  have EQC := hide (fun (m : HSm h0) (y z : HS) (W : World) (o : HOk W y h0) (q : HOk W z h0) => eqHeader_same y z h0 W o q m)
  have HSM2 := hide (fun (m : HSm h0) => chH_sm m z1)
  have HTT := hide (chH_tot h0 z1)
  generalize chH h0 z1 = S at SP IM HSM2 HTT
  generalize chCode h0 z1 = c at SP IM
  obtain ⟨cx0, cx1, cx2, cx3, cx4, cx5, cx6, cx7, cx8, cx9, cx10⟩ := hcells k0
  have HC0 := hide (fun (W : World) (hb : Below W0.heap.size W0 W) => hcells (k0.below hb k0.lt))
  have HB0 := hide hb0
  clear w0 m0 i0 k0 hb0
  unfold hvals at e0 SZ ⊢
  go_enter Tryd.func7, Tryd.ntmps7
  go_upto_region 1 with (rw [e0])
  try rw [e0]
  clear e0
  go_wp2_with fail
  refine (unhide SZ).mono ?_
  rintro e w1 ⟨⟨r, rfl, _, hru, hsm⟩, b1⟩
  have HB1 := hide ((unhide HB0).trans (b1.mono (unhide HB0).size))
  have HSM := hide hsm
  clear hsm SZ cx0 cx1 cx2 cx3 cx4 cx5 cx6 cx7 cx8 cx9 cx10
  by_cases hr : r < 0
  · have hd : decide (r < 0) = true := decide_eq_true hr
    go_wp2_with fail
    go_ret
    exact ⟨rfl, unhide HB1⟩
  have hd : decide (r < 0) = false := decide_eq_false hr
  have M := hide ((unhide HSM) (by omega)).1
  have M2 := hide ((unhide HSM2) (unhide M))
  have TT : Hid (hTot h0 ≤ 1048576) := by have := ((unhide HSM) (by omega)).2; show _ ≤ _; omega
  obtain ⟨cx0, cx1, cx2, cx3, cx4, cx5, cx6, cx7, cx8, cx9, cx10⟩ := (unhide HC0) _ b1
  have K1 := hide b1
  clear b1 HSM
  have DL := hide ((unhide SZL) r _ (unhide HB1) (by omega) hru)
  obtain ⟨r2, er2⟩ : ∃ r2, r2 = szBss r z1 := ⟨_, rfl⟩
  rw [← er2] at DL
  have ER2 := hide er2
  clear er2 SZL
  by_cases hr2 : r2 < 0
  · have hd2 : decide (r2 < 0) = true := decide_eq_true hr2
    go_wp2_with fail
    refine (unhide DL).mono ?_
    rintro e w1' ⟨rfl, rfl⟩
    go_wp2_with fail
    go_ret
    exact ⟨rfl, unhide HB1⟩
  have hd2 : decide (r2 < 0) = false := decide_eq_false hr2
  have okl := szBss_ok (left := r) (zss := z1) (by rw [← unhide ER2]; omega)
  have eql := szBss_eq (left := r) (zss := z1) (by rw [← unhide ER2]; omega)
  have L1 : len1 ≤ 1048576 := by have := unhide LLN; have := unhide ER2; omega
  have Y1 : Hid (∀ z ∈ z1, z.length ≤ 1048576) := fun z hz => by have := okl.2 z hz; omega
  have BS1 : Hid (bsum z1 ≤ 1048576) := by show _ ≤ _; have := unhide ER2; omega
  clear okl eql
  go_wp2_with fail
  refine (unhide DL).mono ?_
  rintro e w1' ⟨rfl, rfl⟩
  clear DL
  go_wp2_with fail
  refine ((unhide T0) (unhide M) _ (unhide HB1)).mono ?_
  rintro e w2 ⟨y2, rfl, o2, n2, _, b2⟩
  have HB2 := hide ((unhide HB1).trans (b2.mono (unhide HB1).size))
  have K2 := hide ((unhide K1).trans (b2.mono (unhide K1).size))
  clear b2 cx0 cx1 cx2 cx3 cx4 cx5 cx6 cx7 cx8 cx9 cx10 K1 HB1
  unfold hvals
  go_wp2_with fail
  refine ((unhide TL) L1 (unhide Y1) _ (unhide HB2)).mono ?_
  rintro e w3 ⟨rfl, _, i3, j3, b3⟩
  have o3 := o2.below b3 (Nat.le_refl _)
  have n3 := n2.below b3 (Nat.le_refl _)
  have HB3 := hide ((unhide HB2).trans (b3.mono (unhide HB2).size))
  have K3 := hide ((unhide K2).trans (b3.mono (unhide K2).size))
  clear b3
  go_wp2_with fail
  refine ((unhide SP) (unhide M) y2 _ o3 n3 _ i3 j3 L1).mono ?_
  rintro e w4 ⟨z4, rfl, r4, b4⟩
  have HB4 := hide ((unhide HB3).trans (b4.mono (unhide HB3).size))
  have K4 := hide ((unhide K3).trans (b4.mono (unhide K3).size))
  have kw := SBlk.new w4 (hrvals c z4 S) 43
  have bw := below_alloc w4 (.cells (hrvals c z4 S) 43)
  obtain ⟨W5, e5⟩ : ∃ W5, w4.alloc (.cells (hrvals c z4 S) 43) = W5 := ⟨_, rfl⟩
  rw [e5] at kw bw
  have R4 := r4.below bw (Nat.le_refl _)
  have HB5 := hide ((unhide HB4).trans (bw.mono (unhide HB4).size))
  have K5 := hide ((unhide K4).trans (bw.mono (unhide K4).size))
  obtain ⟨cx0, cx1, cx2, cx3, cx4, cx5, cx6, cx7, cx8, cx9, cx10⟩ := (unhide HC0) _ (unhide K5)
  clear b4 o2 n2 o3 n3 i3 j3 K2 HB2 K3 HB3 r4 bw K4 HB4
  unfold hrvals at e5 ⊢
  go_upto_region 9 with (rw [e5])
  try rw [e5]
  clear e5
  obtain ⟨gw, hgw⟩ : ∃ g, g = w4.heap.size := ⟨_, rfl⟩
  rw [← hgw] at kw ⊢
  clear hgw
  go_wp2_with fail
  refine ((unhide T0) (unhide M) _ (unhide HB5)).mono ?_
  rintro e w6 ⟨y6, rfl, o6, n6, q6, b6⟩
  have k7 := SBlk.new w6 (hvals y6 h0) 30
  have hb7 := below_alloc w6 (.cells (hvals y6 h0) 30)
  have hz7 : w6.heap.size < (w6.alloc (.cells (hvals y6 h0) 30)).heap.size := by simp
  obtain ⟨W7, e7⟩ : ∃ W7, w6.alloc (.cells (hvals y6 h0) 30) = W7 := ⟨_, rfl⟩
  rw [e7] at k7 hb7 hz7
  have q7 := q6.below hb7 (Nat.le_refl _)
  have o7 := o6.below hb7 (Nat.le_refl _)
  have n7 := n6.below hb7 (Nat.le_refl _)
  have b67 := b6.trans (hb7.mono b6.size)
  have HW7 := hide b67
  obtain ⟨cu0, cu1, cu2, cu3, cu4, cu5, cu6, cu7, cu8, cu9, cu10⟩ := hcells k7
  clear cx0 cx1 cx2 cx3 cx4 cx5 cx6 cx7 cx8 cx9 cx10 o6 n6 q6 b6 b67
  unfold hvals at e7 ⊢
  go_upto_region 10 with (rw [e7])
  try rw [e7]
  clear e7
  obtain ⟨g7, hg7⟩ : ∃ g, g = w6.heap.size := ⟨_, rfl⟩
  rw [← hg7] at k7 q7 hz7 cu0 cu1 cu2 cu3 cu4 cu5 cu6 cu7 cu8 cu9 cu10 ⊢
  clear hg7 hb7
  go_wp2_with fail
  refine ((unhide TL) L1 (unhide Y1) _ ((unhide HB5).trans ((unhide HW7).mono (unhide HB5).size))).mono ?_
  rintro e X7 ⟨rfl, ol7, i7, j7, bl7⟩
  have HX7 := hide ((unhide HW7).trans (bl7.mono (unhide HW7).size))
  replace k7 := k7.below bl7 k7.lt
  replace q7 := q7.below bl7 (Nat.le_refl _)
  replace o7 := o7.below bl7 (Nat.le_refl _)
  replace n7 := n7.below bl7 (Nat.le_refl _)
  have hgl : W7.heap.size < X7.heap.size := BUpto.lt ol7
  obtain ⟨gl, egl⟩ : ∃ g, g = W7.heap.size := ⟨_, rfl⟩
  rw [← egl] at ol7 i7 j7 hgl hz7 ⊢
  have hw5 : W5.heap.size ≤ gl := by rw [egl]; exact (unhide HW7).size
  clear egl cu0 cu1 cu2 cu3 cu4 cu5 cu6 cu7 cu8 cu9 cu10 bl7
  have HOL := hide (fun (W : World) (hb : Below X7.heap.size X7 W) => BUpto.below ol7 hb (Nat.le_refl _))
  have HIL := hide (fun (W : World) (hb : Below X7.heap.size X7 W) => i7.below hb (Nat.le_refl _))
  clear ol7
  obtain ⟨cu0, cu1, cu2, cu3, cu4, cu5, cu6, cu7, cu8, cu9, cu10⟩ := hcells k7
  go_wp2_with fail
  refine ((unhide IM) (unhide M) y6 _ o7 n7 _ i7 j7 L1 ((unhide HV).below ((unhide HB5).trans ((unhide HX7).mono (unhide HB5).size)) (Nat.le_refl _))).mono ?_
  rintro e w8 ⟨z8, d8, rfl, r8, b8⟩
  obtain ⟨dC, hdC⟩ : ∃ dC : Nat → Nat, dC = fun g => if w8.heap.size ≤ g then 9 else d8 g := ⟨_, rfl⟩
  have hd9 : ∀ g, w8.heap.size ≤ g → dC g = 9 := fun g hg => by rw [hdC]; exact if_pos hg
  replace r8 := r8.recol (d' := dC) (fun g hg => by rw [hdC]; exact if_neg (by omega))
  clear hdC
  have kg := SBlk.new w8 (hrvals c z8 S) 43
  have bg := below_alloc w8 (.cells (hrvals c z8 S) 43)
  obtain ⟨W9, e9⟩ : ∃ W9, w8.alloc (.cells (hrvals c z8 S) 43) = W9 := ⟨_, rfl⟩
  rw [e9] at kg bg
  have r9 := r8.below bg (Nat.le_refl _)
  have HD9 := hide hd9
  have b89 := b8.trans (bg.mono b8.size)
  have b89' := b89
  have q9 := q7.below b89 (Nat.le_refl _)
  have o9 := o7.below b89 (Nat.le_refl _)
  have k9 := k7.below b89 k7.lt
  have L9 := (unhide HX7).trans (b89.mono (unhide HX7).size)
  have kw9 := kw.below L9 kw.lt
  have RW9 := R4.below L9 (Nat.le_refl _)
  have hz89 : X7.heap.size ≤ w8.heap.size := b8.size
  clear cu0 cu1 cu2 cu3 cu4 cu5 cu6 cu7 cu8 cu9 cu10 r8 b8 bg b89 q7 o7 n7 k7 hd9 i7 j7
  unfold hrvals at e9 ⊢
  go_upto_region 12 with (rw [e9])
  try rw [e9]
  clear e9
  obtain ⟨gg, hgg⟩ : ∃ g, g = w8.heap.size := ⟨_, rfl⟩
  rw [← hgg] at kg HD9 hz89 ⊢
  clear hgg
  have HL9 := hide L9
  have RG9 := r9.hok (unhide M2)
  have hz79 : X7.heap.size ≤ W9.heap.size := b89'.size
  have hzg : gg < W9.heap.size := kg.lt
  have p0 := kw9.cell 0
  have p1 := kw9.cell 1
  have p2 := kw9.cell 2
  have p3 := kw9.cell 3
  have p4 := kw9.cell 4
  have p5 := kw9.cell 5
  have p6 := kw9.cell 6
  have p7 := kw9.cell 7
  have p8 := kw9.cell 8
  have p9 := kw9.cell 9
  have p10 := kw9.cell 10
  have p11 := kw9.cell 11
  have s0 := kg.cell 0
  have s1 := kg.cell 1
  have s2 := kg.cell 2
  have s3 := kg.cell 3
  have s4 := kg.cell 4
  have s5 := kg.cell 5
  have s6 := kg.cell 6
  have s7 := kg.cell 7
  have s8 := kg.cell 8
  have s9 := kg.cell 9
  have s10 := kg.cell 10
  have s11 := kg.cell 11
  simp only [hrvals, List.getElem?_cons_zero, List.getElem?_cons_succ] at p0 p1 p2 p3 p4 p5 p6 p7 p8 p9 p10 p11 s0 s1 s2 s3 s4 s5 s6 s7 s8 s9 s10 s11
  clear L9 kw9
  go_wp2_with fail
  refine (eqHR_same c z8 z4 S _ RG9 RW9 (unhide M2)).mono ?_
  rintro e w10 ⟨rfl, b10⟩
  have HL10 := hide ((unhide HL9).trans (b10.mono (unhide HL9).size))
  have k10 := k9.below b10 k9.lt
  have kg10 := kg.below b10 kg.lt
  have q10 := q9.below b10 (Nat.le_refl _)
  have o10 := o9.below b10 (Nat.le_refl _)
  have r10 := r9.below b10 (Nat.le_refl _)
  have hz10 : W9.heap.size ≤ w10.heap.size := b10.size
  have HX10 := hide (b89'.trans (b10.mono b89'.size))
  have HRR : Hid (∀ W, Below w10.heap.size w10 W → (W.cell? ⟨g7, 0, none⟩ = some (.slice y6.p.a y6.p.n y6.p.c) ∧ W.cell? ⟨g7, 1, none⟩ = some (.int .i64 h0.n1) ∧ W.cell? ⟨g7, 2, none⟩ = some (.int .i64 h0.n2) ∧ W.cell? ⟨g7, 3, none⟩ = some (.int .i64 h0.n3) ∧ W.cell? ⟨g7, 4, none⟩ = some (.slice y6.t.a y6.t.n y6.t.c) ∧ W.cell? ⟨g7, 5, none⟩ = some (.int .i64 h0.n5) ∧ W.cell? ⟨g7, 6, none⟩ = some (.slice y6.s.a y6.s.n y6.s.c) ∧ W.cell? ⟨g7, 7, none⟩ = some (.slice y6.r.a y6.r.n y6.r.c) ∧ W.cell? ⟨g7, 8, none⟩ = some (.slice y6.g.a y6.g.n y6.g.c) ∧ W.cell? ⟨g7, 9, none⟩ = some (.slice y6.e.a y6.e.n y6.e.c) ∧ W.cell? ⟨g7, 10, none⟩ = some (.slice y6.k.a y6.k.n y6.k.c)) ∧ (W.cell? ⟨w.heap.size, 0, none⟩ = some (.slice x0.p.a x0.p.n x0.p.c) ∧ W.cell? ⟨w.heap.size, 1, none⟩ = some (.int .i64 h0.n1) ∧ W.cell? ⟨w.heap.size, 2, none⟩ = some (.int .i64 h0.n2) ∧ W.cell? ⟨w.heap.size, 3, none⟩ = some (.int .i64 h0.n3) ∧ W.cell? ⟨w.heap.size, 4, none⟩ = some (.slice x0.t.a x0.t.n x0.t.c) ∧ W.cell? ⟨w.heap.size, 5, none⟩ = some (.int .i64 h0.n5) ∧ W.cell? ⟨w.heap.size, 6, none⟩ = some (.slice x0.s.a x0.s.n x0.s.c) ∧ W.cell? ⟨w.heap.size, 7, none⟩ = some (.slice x0.r.a x0.r.n x0.r.c) ∧ W.cell? ⟨w.heap.size, 8, none⟩ = some (.slice x0.g.a x0.g.n x0.g.c) ∧ W.cell? ⟨w.heap.size, 9, none⟩ = some (.slice x0.e.a x0.e.n x0.e.c) ∧ W.cell? ⟨w.heap.size, 10, none⟩ = some (.slice x0.k.a x0.k.n x0.k.c))) := fun W hb => by
    have B5 := (unhide HL10).trans (hb.mono (unhide HL10).size)
    exact ⟨hcells (k10.below hb k10.lt), (unhide HC0) W ((unhide K5).trans (B5.mono (unhide K5).size))⟩
  have HO10 := hide (fun (W : World) (hb : Below w10.heap.size w10 W) => o10.below hb (Nat.le_refl _))
  have HB10 := hide ((unhide HB5).trans ((unhide HL10).mono (unhide HB5).size))
  have HKG := hide kg10
  have HKK := hide k10
  have HQ10 := hide q10
  have HR10 := hide r10
  have HKW := hide kw
  have HR4 := hide R4
  clear kg k9 q9 o9 r9 RG9 RW9 p0 p1 p2 p3 p4 p5 p6 p7 p8 p9 p10 p11 s0 s1 s2 s3 s4 s5 s6 s7 s8 s9 s10 s11 b10 kg10 k10 q10 o10 r10 HL9 kw R4
  go_wp2_with fail
  go_region_held3 (fun W => (W.cell? ⟨g7, 0, none⟩ = some (.slice y6.p.a y6.p.n y6.p.c) ∧ W.cell? ⟨g7, 1, none⟩ = some (.int .i64 h0.n1) ∧ W.cell? ⟨g7, 2, none⟩ = some (.int .i64 h0.n2) ∧ W.cell? ⟨g7, 3, none⟩ = some (.int .i64 h0.n3) ∧ W.cell? ⟨g7, 4, none⟩ = some (.slice y6.t.a y6.t.n y6.t.c) ∧ W.cell? ⟨g7, 5, none⟩ = some (.int .i64 h0.n5) ∧ W.cell? ⟨g7, 6, none⟩ = some (.slice y6.s.a y6.s.n y6.s.c) ∧ W.cell? ⟨g7, 7, none⟩ = some (.slice y6.r.a y6.r.n y6.r.c) ∧ W.cell? ⟨g7, 8, none⟩ = some (.slice y6.g.a y6.g.n y6.g.c) ∧ W.cell? ⟨g7, 9, none⟩ = some (.slice y6.e.a y6.e.n y6.e.c) ∧ W.cell? ⟨g7, 10, none⟩ = some (.slice y6.k.a y6.k.n y6.k.c)) ∧ (W.cell? ⟨w.heap.size, 0, none⟩ = some (.slice x0.p.a x0.p.n x0.p.c) ∧ W.cell? ⟨w.heap.size, 1, none⟩ = some (.int .i64 h0.n1) ∧ W.cell? ⟨w.heap.size, 2, none⟩ = some (.int .i64 h0.n2) ∧ W.cell? ⟨w.heap.size, 3, none⟩ = some (.int .i64 h0.n3) ∧ W.cell? ⟨w.heap.size, 4, none⟩ = some (.slice x0.t.a x0.t.n x0.t.c) ∧ W.cell? ⟨w.heap.size, 5, none⟩ = some (.int .i64 h0.n5) ∧ W.cell? ⟨w.heap.size, 6, none⟩ = some (.slice x0.s.a x0.s.n x0.s.c) ∧ W.cell? ⟨w.heap.size, 7, none⟩ = some (.slice x0.r.a x0.r.n x0.r.c) ∧ W.cell? ⟨w.heap.size, 8, none⟩ = some (.slice x0.g.a x0.g.n x0.g.c) ∧ W.cell? ⟨w.heap.size, 9, none⟩ = some (.slice x0.e.a x0.e.n x0.e.c) ∧ W.cell? ⟨w.heap.size, 10, none⟩ = some (.slice x0.k.a x0.k.n x0.k.c)))
    (exact (unhide HRR) _ (by first | assumption | exact (Below.refl w10.heap.size w10).drew | exact below_drewN (Below.refl w10.heap.size w10) _ | exact below_drewN (by assumption) _))
    (first
      | (go_at_call 10; refine ((unhide T0) (unhide M) _ ((unhide HB10).trans (Below.mono (by first | exact (Below.refl w10.heap.size w10).drew | exact below_drewN (Below.refl w10.heap.size w10) _) (unhide HB10).size))).mono ?_; rintro e w11 ⟨y11, rfl, o11, _, _, b11⟩; have K11 : Below w10.heap.size w10 w11 := Below.trans (by first | exact (Below.refl w10.heap.size w10).drew | exact below_drewN (Below.refl w10.heap.size w10) _) (b11.mono (by first | exact Nat.le_refl _ | exact (below_drewN (Below.refl w10.heap.size w10) _).size)); clear b11)
      | (go_at_call 13; refine ((unhide EQC) (unhide M) y6 y11 _ ((unhide HO10) _ K11) o11).mono ?_; rintro e w12 ⟨rfl, b12⟩; have K12 : Below w10.heap.size w10 w12 := K11.trans (b12.mono K11.size)))
  all_goals
    clear HRR HO10 K11 b12 o11
    go_wp2_with fail
    refine ((unhide TL) L1 (unhide Y1) _ ((unhide HB10).trans (K12.mono (unhide HB10).size))).mono ?_
    rintro e w12b ⟨rfl, _, i12, _, b12b⟩
    have K12b := K12.trans (b12b.mono K12.size)
    have iL := (unhide HIL) w12b ((unhide HX10).trans (K12b.mono (unhide HX10).size))
    clear K12 b12b
    go_wp2_with fail
    refine (eqByteSS_any _ _ _ _ _ _ z1 z1 _ iL i12 L1 L1 (unhide Y1) (unhide Y1)).mono ?_
    rintro e w12c ⟨rfl, n12, rfl⟩
    rw [sameBs_self z1]
    have K12 := below_drewN K12b n12
    clear K12b i12 iL
    generalize w12b.drewN n12 = w12 at K12 ⊢
    have HL12 := hide ((unhide HL10).trans (K12.mono (unhide HL10).size))
    have k12 := (unhide HKK).below K12 (unhide HKK).lt
    have kg12 := (unhide HKG).below K12 (unhide HKG).lt
    have q12 := (unhide HQ10).below K12 (Nat.le_refl _)
    have r12 := (unhide HR10).below K12 (Nat.le_refl _)
    obtain ⟨cu0, cu1, cu2, cu3, cu4, cu5, cu6, cu7, cu8, cu9, cu10⟩ := hcells k12
    have oL := (unhide HOL) w12 ((unhide HX10).trans (K12.mono (unhide HX10).size))
    clear HKK HKG HQ10 HR10 K12 HL10
    go_wp2_with fail
    refine ((unhide MK) (unhide M) (unhide TT) y6 _ _ _ q12 (Nat.le_of_lt k12.lt)).mono ?_
    rintro e w13 ⟨rfl, on13⟩
    have HL13a := hide ((unhide HL12).trans (on13.1.mono (by omega)))
    have kg13a := on13.sblk kg12 (by omega)
    have r13a := r12.onlyH on13 (by omega)
    have oL13 := BUpto.only on13 oL (by omega)
    obtain ⟨KA, eKA⟩ : ∃ KA : Int, KA = 1 + ((hTot h0 : Nat) : Int) := ⟨_, rfl⟩
    have bKA : 0 ≤ KA ∧ KA ≤ 16777216 := by have := unhide TT; omega
    rw [← eKA]
    have D13 := hide ((unhide MSL) w13 gl X7.heap.size KA oL13 hgl L1 (unhide BS1) bKA.1 bKA.2)
    clear kg12 r12 k12 q12 on13 oL oL13 eKA cu0 cu1 cu2 cu3 cu4 cu5 cu6 cu7 cu8 cu9 cu10
    go_wp2_with fail
    refine (unhide D13).mono ?_
    rintro e w13b ⟨rfl, on13b⟩
    have HL13 := hide ((unhide HL13a).trans (on13b.1.mono (by omega)))
    have kg13 := on13b.sblk kg13a (by omega)
    have r13 := r13a.onlyH on13b (Nat.le_refl _)
    obtain ⟨KB, eKB⟩ : ∃ KB : Int, KB = KA + ((bsum z1 : Nat) : Int) := ⟨_, rfl⟩
    rw [← eKB]
    have kw13 := (unhide HKW).below (unhide HL13) (unhide HKW).lt
    have RW13 := (unhide HR4).below (unhide HL13) (Nat.le_refl _)
    have p0 := kw13.cell 0
    have p1 := kw13.cell 1
    have p2 := kw13.cell 2
    have p3 := kw13.cell 3
    have p4 := kw13.cell 4
    have p5 := kw13.cell 5
    have p6 := kw13.cell 6
    have p7 := kw13.cell 7
    have p8 := kw13.cell 8
    have p9 := kw13.cell 9
    have p10 := kw13.cell 10
    have p11 := kw13.cell 11
    have s0 := kg13.cell 0
    have s1 := kg13.cell 1
    have s2 := kg13.cell 2
    have s3 := kg13.cell 3
    have s4 := kg13.cell 4
    have s5 := kg13.cell 5
    have s6 := kg13.cell 6
    have s7 := kg13.cell 7
    have s8 := kg13.cell 8
    have s9 := kg13.cell 9
    have s10 := kg13.cell 10
    have s11 := kg13.cell 11
    simp only [hrvals, List.getElem?_cons_zero, List.getElem?_cons_succ] at p0 p1 p2 p3 p4 p5 p6 p7 p8 p9 p10 p11 s0 s1 s2 s3 s4 s5 s6 s7 s8 s9 s10 s11
    have hk : decide (KB < 0) = false := decide_eq_false (by omega)
    clear HL12 HL13a kg13a r13a on13b kw13 D13 eKB
    go_wp2_with fail
    clear p0 p1 p2 p3 p4 p5 p6 p7 p8 p9 p10 p11
    refine (eqHR_same c z8 z4 S _ (r13.hok (unhide M2)) RW13 (unhide M2)).mono ?_
    rintro e w14 ⟨rfl, b14⟩
    have HL14 := hide ((unhide HL13).trans (b14.mono (unhide HL13).size))
    have kg14 := kg13.below b14 kg13.lt
    have r14 := r13.below b14 (Nat.le_refl _)
    have d14 : ∀ g, w14.heap.size ≤ g → dC g = 9 := fun g hg => (unhide HD9) g (by have := kg14.lt; omega)
    have z14 : X7.heap.size ≤ w14.heap.size := by have := kg14.lt; omega
    have HT14 := hide (unhide HTT)
    have t0 := kg14.cell 0
    have t1 := kg14.cell 1
    have t2 := kg14.cell 2
    have t3 := kg14.cell 3
    have t4 := kg14.cell 4
    have t5 := kg14.cell 5
    have t6 := kg14.cell 6
    have t7 := kg14.cell 7
    have t8 := kg14.cell 8
    have t9 := kg14.cell 9
    have t10 := kg14.cell 10
    have t11 := kg14.cell 11
    simp only [hrvals, List.getElem?_cons_zero, List.getElem?_cons_succ] at t0 t1 t2 t3 t4 t5 t6 t7 t8 t9 t10 t11
    clear s0 s1 s2 s3 s4 s5 s6 s7 s8 s9 s10 s11 kg13 r13 RW13 b14 HL13 hk
    go_wp2_with fail
    refine (markHR_col c z8 S X7.heap.size dC 1 _ r14 z14 d14 (unhide M2) (unhide HTT) (by omega) (by omega)).mono ?_
    rintro e w15 ⟨rfl, o15, g15⟩
    have kg15 := g15.sblk kg14 (by rw [(unhide HD9) gg (Nat.le_refl _)]; omega)
    have HL15 := hide ((unhide HL14).trans (g15.1.mono (unhide HX7).size))
    have M15 := o15.hok (mkH_sm 1 (unhide M2))
    have u0 := kg15.cell 0
    have u1 := kg15.cell 1
    have u2 := kg15.cell 2
    have u3 := kg15.cell 3
    have u4 := kg15.cell 4
    have u5 := kg15.cell 5
    have u6 := kg15.cell 6
    have u7 := kg15.cell 7
    have u8 := kg15.cell 8
    have u9 := kg15.cell 9
    have u10 := kg15.cell 10
    have u11 := kg15.cell 11
    simp only [hrvals, List.getElem?_cons_zero, List.getElem?_cons_succ] at u0 u1 u2 u3 u4 u5 u6 u7 u8 u9 u10 u11
    clear t0 t1 t2 t3 t4 t5 t6 t7 t8 t9 t10 t11 kg14 r14 o15 HL14 g15
    go_wp2_with fail
    refine (heldHR_any c z8 S 1 _ M15 (unhide M2) (unhide HTT) (by omega) (by omega)).mono ?_
    rintro e w16 ⟨rfl, b16⟩
    have HL16 := hide ((unhide HL15).trans (b16.mono (unhide HL15).size))
    have kg16 := kg15.below b16 kg15.lt
    have v0 := kg16.cell 0
    have v1 := kg16.cell 1
    have v2 := kg16.cell 2
    have v3 := kg16.cell 3
    have v4 := kg16.cell 4
    have v5 := kg16.cell 5
    have v6 := kg16.cell 6
    have v7 := kg16.cell 7
    have v8 := kg16.cell 8
    have v9 := kg16.cell 9
    have v10 := kg16.cell 10
    have v11 := kg16.cell 11
    simp only [hrvals, List.getElem?_cons_zero, List.getElem?_cons_succ] at v0 v1 v2 v3 v4 v5 v6 v7 v8 v9 v10 v11
    have M16 := M15.below b16 (Nat.le_refl _)
    have hne : ((1 + ((hTot S : Nat) : Int)) != 1 + ((hTot S : Nat) : Int)) = false := by simp
    have hdT : decide (1 + ((hTot S : Nat) : Int) < 0) = false := decide_eq_false (by omega)
    obtain ⟨cx0, cx1, cx2, cx3, cx4, cx5, cx6, cx7, cx8, cx9, cx10⟩ := (unhide HC0) _ ((unhide K5).trans ((unhide HL16).mono (unhide K5).size))
    clear u0 u1 u2 u3 u4 u5 u6 u7 u8 u9 u10 u11 M15 b16 HL15 kg15
    go_wp2_with fail
    refine ((unhide T0) (unhide M) _ ((unhide HB5).trans ((unhide HL16).mono (unhide HB5).size))).mono ?_
    rintro e w17 ⟨y17, rfl, o17, n17, _, b17⟩
    clear cx0 cx1 cx2 cx3 cx4 cx5 cx6 cx7 cx8 cx9 cx10
    unfold hvals
    go_wp2_with fail
    refine ((unhide TL) L1 (unhide Y1) _ (((unhide HB5).trans ((unhide HL16).mono (unhide HB5).size)).trans (b17.mono ((unhide HB5).trans ((unhide HL16).mono (unhide HB5).size)).size))).mono ?_
    rintro e w17b ⟨rfl, _, i17, j17, b17b⟩
    replace o17 := o17.below b17b (Nat.le_refl _)
    replace n17 := n17.below b17b (Nat.le_refl _)
    replace b17 := b17.trans (b17b.mono b17.size)
    clear b17b
    go_wp2_with fail
    refine ((unhide IM) (unhide M) y17 _ o17 n17 _ i17 j17 L1 ((unhide HV).below (((unhide HB5).trans ((unhide HL16).mono (unhide HB5).size)).trans (b17.mono ((unhide HB5).trans ((unhide HL16).mono (unhide HB5).size)).size)) (Nat.le_refl _))).mono ?_
    rintro e w18 ⟨z18, d18, rfl, r18, b18⟩
    have b168 := b17.trans (b18.mono b17.size)
    have HL18 := hide ((unhide HL16).trans (b168.mono (unhide HL16).size))
    have kg18 := kg16.below b168 kg16.lt
    have M18 := M16.below b168 (Nat.le_refl _)
    have kw18 := (unhide HKW).below (unhide HL18) (unhide HKW).lt
    have p0 : ∀ o, (w18.alloc o).cell? ⟨gw, 0, none⟩ = some (.int .i64 c) := fun o => ((below_alloc w18 o).cell (p := ⟨gw, 0, none⟩) kw18.lt).trans (kw18.cell 0)
    have p1 : ∀ o, (w18.alloc o).cell? ⟨gw, 1, none⟩ = some (.slice z4.p.a z4.p.n z4.p.c) := fun o => ((below_alloc w18 o).cell (p := ⟨gw, 1, none⟩) kw18.lt).trans (kw18.cell 1)
    have p2 : ∀ o, (w18.alloc o).cell? ⟨gw, 2, none⟩ = some (.int .i64 S.n1) := fun o => ((below_alloc w18 o).cell (p := ⟨gw, 2, none⟩) kw18.lt).trans (kw18.cell 2)
    have p3 : ∀ o, (w18.alloc o).cell? ⟨gw, 3, none⟩ = some (.int .i64 S.n2) := fun o => ((below_alloc w18 o).cell (p := ⟨gw, 3, none⟩) kw18.lt).trans (kw18.cell 3)
    have p4 : ∀ o, (w18.alloc o).cell? ⟨gw, 4, none⟩ = some (.int .i64 S.n3) := fun o => ((below_alloc w18 o).cell (p := ⟨gw, 4, none⟩) kw18.lt).trans (kw18.cell 4)
    have p5 : ∀ o, (w18.alloc o).cell? ⟨gw, 5, none⟩ = some (.slice z4.t.a z4.t.n z4.t.c) := fun o => ((below_alloc w18 o).cell (p := ⟨gw, 5, none⟩) kw18.lt).trans (kw18.cell 5)
    have p6 : ∀ o, (w18.alloc o).cell? ⟨gw, 6, none⟩ = some (.int .i64 S.n5) := fun o => ((below_alloc w18 o).cell (p := ⟨gw, 6, none⟩) kw18.lt).trans (kw18.cell 6)
    have p7 : ∀ o, (w18.alloc o).cell? ⟨gw, 7, none⟩ = some (.slice z4.s.a z4.s.n z4.s.c) := fun o => ((below_alloc w18 o).cell (p := ⟨gw, 7, none⟩) kw18.lt).trans (kw18.cell 7)
    have p8 : ∀ o, (w18.alloc o).cell? ⟨gw, 8, none⟩ = some (.slice z4.r.a z4.r.n z4.r.c) := fun o => ((below_alloc w18 o).cell (p := ⟨gw, 8, none⟩) kw18.lt).trans (kw18.cell 8)
    have p9 : ∀ o, (w18.alloc o).cell? ⟨gw, 9, none⟩ = some (.slice z4.g.a z4.g.n z4.g.c) := fun o => ((below_alloc w18 o).cell (p := ⟨gw, 9, none⟩) kw18.lt).trans (kw18.cell 9)
    have p10 : ∀ o, (w18.alloc o).cell? ⟨gw, 10, none⟩ = some (.slice z4.e.a z4.e.n z4.e.c) := fun o => ((below_alloc w18 o).cell (p := ⟨gw, 10, none⟩) kw18.lt).trans (kw18.cell 10)
    have p11 : ∀ o, (w18.alloc o).cell? ⟨gw, 11, none⟩ = some (.slice z4.k.a z4.k.n z4.k.c) := fun o => ((below_alloc w18 o).cell (p := ⟨gw, 11, none⟩) kw18.lt).trans (kw18.cell 11)
    have HKG18 := hide kg18
    clear v0 v1 v2 v3 v4 v5 v6 v7 v8 v9 v10 v11 M16 b17 b18 b168 HL16 o17 n17 kw18 kg16 kg18
    unfold hrvals
    go_wp2_with fail
    clear p0 p1 p2 p3 p4 p5 p6 p7 p8 p9 p10 p11
    have k19 := below_alloc w18 (.cells (hrvals c z18 S) 43)
    unfold hrvals at k19
    generalize w18.alloc (Obj.cells #[.int .i64 c, .slice z18.p.a z18.p.n z18.p.c, .int .i64 S.n1, .int .i64 S.n2, .int .i64 S.n3, .slice z18.t.a z18.t.n z18.t.c, .int .i64 S.n5, .slice z18.s.a z18.s.n z18.s.c, .slice z18.r.a z18.r.n z18.r.c, .slice z18.g.a z18.g.n z18.g.c, .slice z18.e.a z18.e.n z18.e.c, .slice z18.k.a z18.k.n z18.k.c] 43) = w19 at k19 ⊢
    have HL19 := hide ((unhide HL18).trans (k19.mono (unhide HL18).size))
    refine (eqHR_same c z18 z4 S _ ((r18.hok (unhide M2)).below k19 (Nat.le_refl _)) ((unhide HR4).below (unhide HL19) (Nat.le_refl _)) (unhide M2)).mono ?_
    rintro e w20 ⟨rfl, b20⟩
    have k20 := k19.trans (b20.mono k19.size)
    have kg20 := (unhide HKG18).below k20 (unhide HKG18).lt
    have v0 := kg20.cell 0
    have v1 := kg20.cell 1
    have v2 := kg20.cell 2
    have v3 := kg20.cell 3
    have v4 := kg20.cell 4
    have v5 := kg20.cell 5
    have v6 := kg20.cell 6
    have v7 := kg20.cell 7
    have v8 := kg20.cell 8
    have v9 := kg20.cell 9
    have v10 := kg20.cell 10
    have v11 := kg20.cell 11
    simp only [hrvals, List.getElem?_cons_zero, List.getElem?_cons_succ] at v0 v1 v2 v3 v4 v5 v6 v7 v8 v9 v10 v11
    have M20 := M18.below k20 (Nat.le_refl _)
    have HL20 := hide ((unhide HL18).trans (k20.mono (unhide HL18).size))
    clear M18 kg20
    go_wp2_with fail
    refine (heldHR_any c z8 S 1 _ M20 (unhide M2) (unhide HTT) (by omega) (by omega)).mono ?_
    rintro e w21 ⟨rfl, b21⟩
    have HL21 := hide ((unhide HL20).trans (b21.mono (unhide HL20).size))
    go_wp2_with fail
    go_ret
    exact ⟨rfl, (unhide HB5).trans ((unhide HL21).mono (unhide HB5).size)⟩

/-! The row's step. -/
set_option maxRecDepth 100000 in
theorem lifted (os : Os) (started : os.Started) (H : Type) (enc : TypeId × Value → H) :
    ReturnsInHanded {} Tryd.checked os 7 .any (fun w args => (Rows.fnExactCommitHeaderSpec.pre enc Tryd.prog Tryd.f7 [] false w args ∧ laidMetH Tryd.prog laid2 w) ∧ sizedMet enc Tryd.prog Tryd.f7 (OpenSpec.ofChange Rows.fnExactCommitHeaderSpec) false w args)
      (Rows.fnExactCommitHeaderSpec.post enc Tryd.prog Tryd.f7 false true false false) := by
  refine returnsInHanded_of_change_and (C := Tryd.checked) (X := fun w _ => laidMetH Tryd.prog laid2 w) (fun _ _ _ hh h => h.of_heap hh) own started (by kernel_rfl) Tryd.func7
    (ChangeSpec.witness_shaped (enc := enc) (C := Tryd.checked) (os := os) (X := fun w _ => laidMetH Tryd.prog laid2 w) false (World.doorLaid Tryd.prog 400 os) #[.agg #[.slice none 0 0, .int .i64 0, .int .i64 0, .int .i64 0, .slice none 0 0, .int .i64 0, .slice none 0 0, .slice none 0 0, .slice none 0 0, .slice none 0 0, .slice none 0 0], .slice none 0 0] 8 rfl (World.shaped_of_RefB (by kernel_rfl) (by kernel_rfl)) (by kernel_rfl) (by kernel_rfl) (by kernel_rfl) (door_met os _)) ?_
  intro W base args ds gs before hval0 hW _ _ hL _
  have hval : ∀ (j : Nat) t v, Tryd.f7.params[j]? = some t → args[j]? = some v → Value.okWide Tryd.prog W .any base t v := hval0
  have hW' := hW
  obtain ⟨p, q, hA0, hV, rfl, hfz, hnd⟩ := hW
  have hA : DataW.TrodAll enc Tryd.prog W 0 (fun _ => true) true Tryd.f7.params.toList args.toList ds p := hA0
  rw [Tryd.params7] at hA hval
  obtain ⟨v0, vs0, d0, ds0, p0, q0, hargs, rfl, rfl, h0, r0⟩ := trodAll_cons hA
  obtain ⟨v1, vs1, d1, ds1, p1, q1, rfl, rfl, rfl, h1, r1⟩ := trodAll_cons r0
  obtain ⟨rfl, rfl, rfl⟩ := trodAll_nil r1
  obtain rfl : args = #[v0, v1] := by cases args; simp_all
  obtain ⟨y0v, y1v, rfl⟩ : ∃ y0 y1, gs = [y0, y1] := by
    match gs, hV with
    | [y0, y1], _ => exact ⟨y0, y1, rfl⟩
    | [], hV => exact hV.elim
    | [_], hV => obtain ⟨_, _, _, _, _, _, _, _, _, _, hs, _⟩ := hV; exact hs.elim
    | _ :: _ :: _ :: _, hV =>
      obtain ⟨_, _, _, _, _, _, _, _, _, _, hs, _⟩ := hV
      obtain ⟨_, _, _, _, _, _, _, _, _, _, hs2, _⟩ := hs
      exact hs2.elim
  have k0 := h0
  have lt0 : ∀ x ∈ p0, x.block < W.heap.size := by obtain ⟨m, hm⟩ := k0; exact DataW.trod_lt m _ _ _ hm
  obtain ⟨x0, y0, rfl, w0, m0, i0⟩ := open_header Tryd.underlying25 rfl (by kernel_rfl) ⟨rfl, rfl, rfl, rfl, rfl, rfl, rfl, rfl, rfl, rfl, rfl⟩ ⟨rfl, rfl, rfl, rfl, rfl, rfl, rfl, rfl, rfl, rfl, rfl⟩ Tryd.underlying22 Tryd.underlying5 Tryd.underlying2 Tryd.underlying23 (by kernel_rfl) (by kernel_rfl) (by kernel_rfl) (by kernel_rfl) (okWide_struct Tryd.underlying25 (hval 0 25 v0 rfl rfl)) h0
  have k1 := h1
  have lt1 : ∀ x ∈ p1, x.block < W.heap.size := by obtain ⟨m, hm⟩ := k1; exact DataW.trod_lt m _ _ _ hm
  obtain ⟨a1, len1, cap1, z1, rfl, m1, w1⟩ := open_bss Tryd.underlying23 Tryd.underlying22 (by kernel_rfl) (by kernel_rfl) Tryd.underlying5 (okWide_slice Tryd.underlying23 (hval 1 23 v1 rfl rfl)) h1
  clear hA0 hval0
  refine (walk x0 y0 a1 len1 cap1 z1 W m0 w0 i0 m1 w1 (of_laid hL)).mono fun e W' ⟨he, bel⟩ => ?_
  subst he
  exact ⟨_, rfl, _, _, _, [], _, _, hW', trodAll_mk1 (shut_bool Tryd.underlying4 _), (trodAll_cons_mk (Below.trod laidOut (by kernel_rfl) (of_decide_eq_true (by kernel_rfl)) k0 bel lt0) (trodAll_cons_mk (Below.trod laidOut (by kernel_rfl) (of_decide_eq_true (by kernel_rfl)) k1 bel lt1) trodAll_mk0)), Below.trodVars laidOut bel (by kernel_rfl) hV, bel.frame _, fun h => by cases h⟩

theorem over : Rows.FnExactCommitHeaderSaid :=
  OpenClaim.holds_of_wide 7 Tryd.f7 rfl rfl rfl rfl rfl rfl rfl ⟨rfl, rfl, rfl, rfl, rfl⟩ rfl rfl rfl rfl rfl (by kernel_rfl) Tryd.func7 (by kernel_rfl)
    (of_decide_eq_true (by kernel_rfl)) (by unfold Func.isWrapper; first | (rw [if_pos (by decide +kernel)]; kernel_rfl) | (rw [if_neg (by decide +kernel)]; exact ⟨rfl, rfl⟩))
    (fun os started H enc _ => lifted os started H enc)

/-- The statement: the tied card. -/
theorem proved : Rows.FnExactCommitHeaderCardSaid :=
  Claim7.holds_tied_plain_at .later [] [.data, .data] true (true, "c4363c0b734e90b220c868ce2a1ed21bff34629fef80a1c44f6f4e19ff8a53db") false
    over (fun _ h => by cases h) (by kernel_rfl) (fun _ h => by cases h) fnExactCommitHeader_row_tie rfl ⟨rfl, rfl⟩ (by kernel_rfl) rfl
    (fun f fn hf hfn => by
      obtain rfl : f = 7 := Option.some.inj ((show Tryd.prog.funcNamed "loop.example/g00383/laws.FnExactCommitHeader" = some 7 by kernel_rfl).symm.trans hf) |>.symm
      obtain rfl : fn = Tryd.f7 := (Option.some.inj (Tryd.func7.symm.trans hfn)).symm
      exact ⟨by kernel_rfl, fun j t ht => by
        rw [Tryd.params7] at ht
        have hm : t ∈ [25, 23] := by simpa using Array.mem_of_getElem? ht
        have hall : ([25, 23].all fun u => !Tryd.prog.wantsStandIn u) = true := by kernel_rfl
        exact (show Tryd.prog.wantsStandIn t = false by simpa using List.all_eq_true.1 hall t hm)⟩)
    (by kernel_rfl)
#print axioms proved
end Go.Proofs.YtbncoiljklagkaaDoor.fnExactCommitHeader
