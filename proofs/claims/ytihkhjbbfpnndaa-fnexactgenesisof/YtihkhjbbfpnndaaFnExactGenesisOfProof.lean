/- Proved: for every slice of slices of bytes and every slice of bytes the law FnExactGenesisOf returns true and changes no argument. Conditions: none. -/
import Derived.Test.YtihkhjbbfpnndaaRows
import Derived.Test.YtihkhjbbfpnndaaJ6
import Derived.Test.YtihkhjbbfpnndaaJ8
import Derived.WalkSmall
import Derived.Deep.MidRow
import Derived.Deep.RegionHeld3
import Derived.Test.YtihkhjbbfpnndaaJ5
import Derived.WalkKit
import Derived.ProofKit
import Derived.OpenShut
import Derived.ShutString
import Derived.ChangeOld
import Derived.Below
namespace Go.Proofs.Ytihkhjbbfpnndaa.fnExactGenesisOf
open Go.ChangeShapes Go.WideShapes Go.ChangeAt Go.RowKit
set_option linter.unusedVariables false

theorem own : ownKnob Try.prog.godebug = none := by kernel_rfl
theorem laidOut : laidOutB Try.prog = true := by kernel_rfl

/-! The walk: the Go text returns true, and writes nothing that was there. -/
set_option maxRecDepth 100000 in
set_option maxHeartbeats 8000000 in
theorem walk (s0 : Sl) (z0 : List (List Int)) (s1 : Sl) (z1 : List Int) (w : World) (o0 : RowOk bytesK w s0 z0) (o1 : BOk w s1 z1) :
    Calls Try.prog 3 #[.slice s0.a s0.n s0.c, .slice s1.a s1.n s1.c] w fun e w' => e = .returned (.bool true) ∧ Below w.heap.size w w' := by
  have hmx : s0.n ≤ maxLen := Nat.le_trans o0.room o0.max
  by_cases hl1 : s1.n ≤ 1048576
  case neg =>
    clear o0 o1 hmx
    go_enter Try.func3, Try.ntmps3
    go_wp2_with fail
    go_ret
    exact ⟨rfl, Below.refl _ _⟩
  have hn1 : z1.length = s1.n := o1.row.1
  have SZ0 := hide (szByteSS_any s0.a s0.n s0.c z0 1048576 w (bs_of_row o0) hmx (by omega) (by omega))
  by_cases hs0 : szBss 1048576 z0 < 0
  · have hd0 : decide (szBss 1048576 z0 < 0) = true := decide_eq_true hs0
    clear o0 o1 hmx
    generalize szBss 1048576 z0 = q0 at SZ0 hs0 hd0
    go_enter Try.func3, Try.ntmps3
    go_wp2_with fail
    refine (unhide SZ0).mono ?_
    rintro e w1 ⟨rfl, rfl⟩
    go_wp2_with fail
    go_ret
    exact ⟨rfl, Below.refl _ _⟩
  · have ok0 := szBss_ok (left := 1048576) (zss := z0) (by omega)
    have eq0 := szBss_eq (left := 1048576) (zss := z0) (by omega)
    have ML : Hid (z0.length ≤ 1048576) := by show _ ≤ _; omega
    have MZ : Hid (∀ z ∈ z0, z.length ≤ 1048576) := fun z hi => by have := ok0.2 z hi; omega
    have MT : Hid (bsum z0 ≤ 1048576) := by show _ ≤ _; omega
    have hz1 : z1.length ≤ 1048576 := by omega
    have M2 := hide (gnH_sm z0 z1)
    have HTT := hide (gnH_tot z0 z1)
    have hd0 : decide (szBss 1048576 z0 < 0) = false := decide_eq_false hs0
    have T0 := hide (fun (W : World) (hb : Below w.heap.size w W) => toBs_gn s0 z0 W (RowOk.below o0 hb (Nat.le_refl _)) (unhide ML) (unhide MZ))
    have T1 := hide (fun (W : World) (hb : Below w.heap.size w W) => toB_gn s1 z1 W (bytesK.below o1 hb (Nat.le_refl _)) hz1)
    have SP := hide (fun (g k : Nat) (W : World) (o : RowOk bytesK W ⟨some ⟨g, 0, none⟩, z0.length, z0.length⟩ z0) (q : BOk W ⟨some ⟨k, 0, none⟩, z1.length, z1.length⟩ z1) => specGenesis_any ⟨some ⟨g, 0, none⟩, z0.length, z0.length⟩ ⟨some ⟨k, 0, none⟩, z1.length, z1.length⟩ z0 z1 W o q (unhide ML) (unhide MZ))
    have IM := hide (fun (g k : Nat) (W : World) (o : RowOk bytesK W ⟨some ⟨g, 0, none⟩, z0.length, z0.length⟩ z0) (q : BOk W ⟨some ⟨k, 0, none⟩, z1.length, z1.length⟩ z1) => implGenesis_any ⟨some ⟨g, 0, none⟩, z0.length, z0.length⟩ ⟨some ⟨k, 0, none⟩, z1.length, z1.length⟩ z0 z1 W o q (unhide ML))
    have MK := hide (fun (g C : Nat) (W : World) (o : OBss W g z0 23 C) (hC : g < C) => markSS_any g z0 23 C 1 W o hC (unhide ML) (unhide MT) (by omega) (by omega))
    have MK1 := hide (fun (B g : Nat) (k : Int) (W : World) (o : W.ownsRow B 5 1 (.slice (some ⟨g, 0, none⟩) z1.length z1.length) z1.length (z1.map (Value.int .u8))) (h0 : 0 ≤ k) (h1 : k ≤ 1099511627776) => markByteS_any B g z1.length z1.length z1 k W o (by omega) h0 h1)
    have EQ : Hid (∀ (g k : Nat) (W : World), RowOk bytesK W ⟨some ⟨g, 0, none⟩, z0.length, z0.length⟩ z0 → RowOk bytesK W ⟨some ⟨k, 0, none⟩, z0.length, z0.length⟩ z0 → Calls Try.prog 10 #[.slice (some ⟨g, 0, none⟩) z0.length z0.length, .slice (some ⟨k, 0, none⟩) z0.length z0.length] W fun e w' => e = .returned (.bool true) ∧ Below W.heap.size W w') := fun g k W o q => (eqByteSS_any (some ⟨g, 0, none⟩) (some ⟨k, 0, none⟩) z0.length z0.length z0.length z0.length z0 z0 W (bs_of_row o) (bs_of_row q) (unhide ML) (unhide ML) (unhide MZ) (unhide MZ)).mono (by rintro e w' ⟨rfl, n, rfl⟩; exact ⟨by rw [sameBs_self], below_drewN (Below.refl _ _) n⟩)
    have EQ1 : Hid (∀ (g k : Nat) (W : World), BOk W ⟨some ⟨g, 0, none⟩, z1.length, z1.length⟩ z1 → BOk W ⟨some ⟨k, 0, none⟩, z1.length, z1.length⟩ z1 → Calls Try.prog 11 #[.slice (some ⟨g, 0, none⟩) z1.length z1.length, .slice (some ⟨k, 0, none⟩) z1.length z1.length] W fun e w' => e = .returned (.bool true) ∧ Below W.heap.size W w') := fun g k W o q => (eqByteS_any (some ⟨g, 0, none⟩) (some ⟨k, 0, none⟩) z1.length z1.length z1.length z1.length z1 z1 W o.row q.row hz1 hz1).mono (by rintro e w' ⟨rfl, n, rfl⟩; exact ⟨by simp [sameB], below_drewN (Below.refl _ _) n⟩)
    have BS := unhide MT
    generalize gnH z0 z1 = S at SP IM M2 HTT
    generalize gnCode z0 z1 = c at SP IM
    clear o0 o1 hmx ok0 eq0 ML MZ MT hn1
    generalize szBss 1048576 z0 = q0 at SZ0 hs0 hd0
    generalize z0.length = L0 at T0 SP IM MK EQ
    obtain ⟨L1, hL1⟩ : ∃ L, L = z1.length := ⟨_, rfl⟩
    rw [← hL1] at T1 SP IM MK1 EQ1 hz1
    clear hL1
    go_enter Try.func3, Try.ntmps3
    go_wp2_with fail
    refine (unhide SZ0).mono ?_
    rintro e w1 ⟨rfl, rfl⟩
    clear SZ0
    go_wp2_with fail
    refine ((unhide T0) _ (Below.refl _ _)).mono ?_
    rintro e w2 ⟨rfl, _, o2, b2⟩
    have HB2 := hide b2
    clear b2
    go_wp2_with fail
    refine ((unhide T1) _ (unhide HB2)).mono ?_
    rintro e w3 ⟨rfl, _, q3, b3⟩
    have o3 := RowOk.below o2 b3 (Nat.le_refl _)
    have HB3 := hide ((unhide HB2).trans (b3.mono (unhide HB2).size))
    clear b3 o2
    go_wp2_with fail
    refine ((unhide SP) _ _ _ o3 q3).mono ?_
    rintro e w4 ⟨z4, rfl, r4, b4⟩
    have HB4 := hide ((unhide HB3).trans (b4.mono (unhide HB3).size))
    have kw := SBlk.new w4 (hrvals c z4 S) 28
    have bw := below_alloc w4 (.cells (hrvals c z4 S) 28)
    obtain ⟨W5, e5⟩ : ∃ W5, w4.alloc (.cells (hrvals c z4 S) 28) = W5 := ⟨_, rfl⟩
    rw [e5] at kw bw
    have R4 := r4.below bw (Nat.le_refl _)
    have HB5 := hide ((unhide HB4).trans (bw.mono (unhide HB4).size))
    clear b4 o3 q3 HB2 HB3 r4 bw HB4
    unfold hrvals at e5 ⊢
    have E5 := hide e5
    clear e5
    go_upto_region 8 with fail
    rw [unhide E5]
    clear E5
    obtain ⟨gw, hgw⟩ : ∃ g, g = w4.heap.size := ⟨_, rfl⟩
    rw [← hgw] at kw ⊢
    clear hgw
    go_wp2_with fail
    refine ((unhide T0) _ (unhide HB5)).mono ?_
    rintro e w6 ⟨rfl, q6, o6, b6⟩
    have HW6 := hide b6
    have hz5 : W5.heap.size < w6.heap.size := BUpto.lt q6
    obtain ⟨gx, hgx⟩ : ∃ g, g = W5.heap.size := ⟨_, rfl⟩
    have hx5 : W5.heap.size ≤ gx := by omega
    rw [← hgx] at q6 o6 hz5 ⊢
    clear hgx b6
    go_wp2_with fail
    refine ((unhide T1) _ ((unhide HB5).trans ((unhide HW6).mono (unhide HB5).size))).mono ?_
    rintro e w7 ⟨rfl, y7, p7, b7⟩
    have q7 := BUpto.below q6 b7 (Nat.le_refl _)
    have o7 := RowOk.below o6 b7 (Nat.le_refl _)
    have HW7 := hide ((unhide HW6).trans (b7.mono (unhide HW6).size))
    have hz67 : w6.heap.size < w7.heap.size := (y7.lt _ rfl).2
    obtain ⟨gy, hgy⟩ : ∃ g, g = w6.heap.size := ⟨_, rfl⟩
    have hy6 : w6.heap.size ≤ gy := by omega
    have hy7 : gy < w7.heap.size := by omega
    have hy5 : W5.heap.size ≤ gy := by have := (unhide HW6).size; omega
    have hy8 : gy = w6.heap.size := hgy
    have HY8 := hide hy8
    rw [← hgy] at y7 p7 hz67 ⊢
    clear hgy hy8 b7 q6 o6
    go_wp2_with fail
    refine ((unhide IM) _ _ _ o7 p7).mono ?_
    rintro e w8 ⟨z8, d8, rfl, r8, b8⟩
    obtain ⟨dC, hdC⟩ : ∃ dC : Nat → Nat, dC = fun g => if w8.heap.size ≤ g then 9 else d8 g := ⟨_, rfl⟩
    have hd9 : ∀ g, w8.heap.size ≤ g → dC g = 9 := fun g hg => by rw [hdC]; exact if_pos hg
    replace r8 := r8.recol (d' := dC) (fun g hg => by rw [hdC]; exact if_neg (by omega))
    clear hdC
    have kg := SBlk.new w8 (hrvals c z8 S) 28
    have bg := below_alloc w8 (.cells (hrvals c z8 S) 28)
    obtain ⟨W9, e9⟩ : ∃ W9, w8.alloc (.cells (hrvals c z8 S) 28) = W9 := ⟨_, rfl⟩
    rw [e9] at kg bg
    have r9 := r8.below bg (Nat.le_refl _)
    have HD9 := hide hd9
    have b89 := b8.trans (bg.mono b8.size)
    have q9 := BUpto.below q7 b89 (Nat.le_refl _)
    have o9 := RowOk.below o7 b89 (Nat.le_refl _)
    have y9 := own_below y7 b89 (Nat.le_refl _)
    have p9' := bytesK.below p7 b89 (Nat.le_refl _)
    have L9 := (unhide HW7).trans (b89.mono (unhide HW7).size)
    have kw9 := kw.below L9 kw.lt
    have RW9 := R4.below L9 (Nat.le_refl _)
    have hz89 : w7.heap.size ≤ w8.heap.size := b8.size
    clear r8 b8 bg b89 q7 o7 y7 p7 hd9
    unfold hrvals at e9 ⊢
    have E9 := hide e9
    clear e9
    go_upto_region 11 with fail
    rw [unhide E9]
    clear E9
    obtain ⟨gg, hgg⟩ : ∃ g, g = w8.heap.size := ⟨_, rfl⟩
    rw [← hgg] at kg HD9 hz89 ⊢
    clear hgg
    have HL9 := hide L9
    have RG9 := r9.hok (unhide M2)
    have p0 := kw9.cell 0
    have p1 := kw9.cell 1
    have p2 := kw9.cell 2
    have p3 := kw9.cell 3
    have p4 := kw9.cell 4
    have p5 := kw9.cell 5
    have p6 := kw9.cell 6
    have p7 := kw9.cell 7
    have p8 := kw9.cell 8
    have p9 := kw9.cell 9
    have p10 := kw9.cell 10
    have p11 := kw9.cell 11
    have s0 := kg.cell 0
    have s1 := kg.cell 1
    have s2 := kg.cell 2
    have s3 := kg.cell 3
    have s4 := kg.cell 4
    have s5 := kg.cell 5
    have s6 := kg.cell 6
    have s7 := kg.cell 7
    have s8 := kg.cell 8
    have s9 := kg.cell 9
    have s10 := kg.cell 10
    have s11 := kg.cell 11
    simp only [hrvals, List.getElem?_cons_zero, List.getElem?_cons_succ] at p0 p1 p2 p3 p4 p5 p6 p7 p8 p9 p10 p11 s0 s1 s2 s3 s4 s5 s6 s7 s8 s9 s10 s11
    clear L9 kw9
    go_wp2_with fail
    refine (eqHR_same c z8 z4 S _ RG9 RW9 (unhide M2)).mono ?_
    rintro e w10 ⟨rfl, b10⟩
    have HL10 := hide ((unhide HL9).trans (b10.mono (unhide HL9).size))
    have HB10 := hide ((unhide HB5).trans ((unhide HL10).mono (unhide HB5).size))
    have kg10 := kg.below b10 kg.lt
    have q10 := BUpto.below q9 b10 (Nat.le_refl _)
    have o10 := RowOk.below o9 b10 (Nat.le_refl _)
    have y10 := own_below y9 b10 (Nat.le_refl _)
    have p10' := bytesK.below p9' b10 (Nat.le_refl _)
    have r10 := r9.below b10 (Nat.le_refl _)
    clear kg q9 o9 r9 y9 p9' RG9 RW9 p0 p1 p2 p3 p4 p5 p6 p7 p8 p9 p10 p11 s0 s1 s2 s3 s4 s5 s6 s7 s8 s9 s10 s11 b10 HL9
    go_wp2_with fail
    refine ((unhide T0) _ (unhide HB10)).mono ?_
    rintro e w11 ⟨rfl, _, o11, b11⟩
    have o11b := RowOk.below o10 b11 (Nat.le_refl _)
    go_wp2_with fail
    refine ((unhide EQ) _ _ _ o11b o11).mono ?_
    rintro e w12a ⟨rfl, b12a⟩
    have K12a := b11.trans (b12a.mono b11.size)
    have HB12a := hide ((unhide HB10).trans (K12a.mono (unhide HB10).size))
    clear o11 o11b o10 b11 b12a
    go_wp2_with fail
    refine ((unhide T1) _ (unhide HB12a)).mono ?_
    rintro e w12b ⟨rfl, _, p12b, b12b⟩
    have p12 := bytesK.below (bytesK.below p10' K12a (Nat.le_refl _)) b12b (Nat.le_refl _)
    go_wp2_with fail
    refine ((unhide EQ1) _ _ _ p12 p12b).mono ?_
    rintro e w12 ⟨rfl, b12c⟩
    have K12 := (K12a.trans (b12b.mono K12a.size)).trans (b12c.mono (K12a.trans (b12b.mono K12a.size)).size)
    have HL12 := hide ((unhide HL10).trans (K12.mono (unhide HL10).size))
    have kg12 := kg10.below K12 kg10.lt
    have q12 := BUpto.below q10 K12 (Nat.le_refl _)
    have y12 := own_below y10 K12 (Nat.le_refl _)
    have r12 := r10.below K12 (Nat.le_refl _)
    clear p12 p12b p10' b12b b12c K12 K12a kg10 q10 r10 y10 HL10 HB10 HB12a
    go_wp2_with fail
    refine ((unhide MK) _ _ _ q12 (by omega)).mono ?_
    rintro e w13a ⟨rfl, on13⟩
    have HL13a := hide ((unhide HL12).trans (on13.1.mono (by omega)))
    have kg13a := on13.sblk kg12 (by omega)
    have r13a := r12.onlyH on13 (by omega)
    have y13a := on13.own y12 (by omega)
    obtain ⟨KA, eKA⟩ : ∃ KA : Int, KA = 1 + ((bsum z0 : Nat) : Int) := ⟨_, rfl⟩
    have bKA : 0 ≤ KA ∧ KA ≤ 1099511627776 := by omega
    rw [← eKA]
    have D13 := hide ((unhide MK1) _ gy KA w13a y13a bKA.1 bKA.2)
    clear kg12 q12 r12 y12 y13a HL12 on13 eKA
    go_wp2_with fail
    refine (unhide D13).mono ?_
    rintro e w13 ⟨rfl, _, gr13⟩
    have hz13 : w7.heap.size ≤ w13a.heap.size := by have := kg13a.lt; omega
    have on13b : OnlyH gy w7.heap.size w13a w13 := (OnlyH.grown gy gr13 ((Below.refl gy w13a).grown gr13 (by omega) (fun k e => by cases e; exact Nat.le_refl _))).mono (Nat.le_refl _) (by omega)
    have HL13 := hide ((unhide HL13a).trans (on13b.1.mono (by omega)))
    have kg13 := on13b.sblk kg13a (by omega)
    have r13 := r13a.onlyH on13b (Nat.le_refl _)
    obtain ⟨KB, eKB⟩ : ∃ KB : Int, KB = KA + ((L1 : Nat) : Int) := ⟨_, rfl⟩
    rw [← eKB]
    have kw13 := kw.below (unhide HL13) kw.lt
    have RW13 := R4.below (unhide HL13) (Nat.le_refl _)
    have p0 := kw13.cell 0
    have p1 := kw13.cell 1
    have p2 := kw13.cell 2
    have p3 := kw13.cell 3
    have p4 := kw13.cell 4
    have p5 := kw13.cell 5
    have p6 := kw13.cell 6
    have p7 := kw13.cell 7
    have p8 := kw13.cell 8
    have p9 := kw13.cell 9
    have p10 := kw13.cell 10
    have p11 := kw13.cell 11
    have s0 := kg13.cell 0
    have s1 := kg13.cell 1
    have s2 := kg13.cell 2
    have s3 := kg13.cell 3
    have s4 := kg13.cell 4
    have s5 := kg13.cell 5
    have s6 := kg13.cell 6
    have s7 := kg13.cell 7
    have s8 := kg13.cell 8
    have s9 := kg13.cell 9
    have s10 := kg13.cell 10
    have s11 := kg13.cell 11
    simp only [hrvals, List.getElem?_cons_zero, List.getElem?_cons_succ] at p0 p1 p2 p3 p4 p5 p6 p7 p8 p9 p10 p11 s0 s1 s2 s3 s4 s5 s6 s7 s8 s9 s10 s11
    have hk : decide (KB < 0) = false := decide_eq_false (by omega)
    clear HL13a kg13a r13a on13b gr13 kw13 D13 eKB
    go_wp2_with fail
    clear p0 p1 p2 p3 p4 p5 p6 p7 p8 p9 p10 p11
    refine (eqHR_same c z8 z4 S _ (r13.hok (unhide M2)) RW13 (unhide M2)).mono ?_
    rintro e w14 ⟨rfl, b14⟩
    have HL14 := hide ((unhide HL13).trans (b14.mono (unhide HL13).size))
    have kg14 := kg13.below b14 kg13.lt
    have r14 := r13.below b14 (Nat.le_refl _)
    have d14 : ∀ g, w14.heap.size ≤ g → dC g = 9 := fun g hg => (unhide HD9) g (by have := kg14.lt; omega)
    have z14 : w7.heap.size ≤ w14.heap.size := by have := kg14.lt; omega
    have t0 := kg14.cell 0
    have t1 := kg14.cell 1
    have t2 := kg14.cell 2
    have t3 := kg14.cell 3
    have t4 := kg14.cell 4
    have t5 := kg14.cell 5
    have t6 := kg14.cell 6
    have t7 := kg14.cell 7
    have t8 := kg14.cell 8
    have t9 := kg14.cell 9
    have t10 := kg14.cell 10
    have t11 := kg14.cell 11
    simp only [hrvals, List.getElem?_cons_zero, List.getElem?_cons_succ] at t0 t1 t2 t3 t4 t5 t6 t7 t8 t9 t10 t11
    clear s0 s1 s2 s3 s4 s5 s6 s7 s8 s9 s10 s11 kg13 r13 RW13 b14 HL13 hk
    go_wp2_with fail
    refine (markHR_col c z8 S w7.heap.size dC 1 _ r14 z14 d14 (unhide M2) (unhide HTT) (by omega) (by omega)).mono ?_
    rintro e w15 ⟨rfl, o15, g15⟩
    have kg15 := g15.sblk kg14 (by rw [(unhide HD9) gg (Nat.le_refl _)]; omega)
    have HL15 := hide ((unhide HL14).trans (g15.1.mono (unhide HW7).size))
    have M15 := o15.hok (mkH_sm 1 (unhide M2))
    have u0 := kg15.cell 0
    have u1 := kg15.cell 1
    have u2 := kg15.cell 2
    have u3 := kg15.cell 3
    have u4 := kg15.cell 4
    have u5 := kg15.cell 5
    have u6 := kg15.cell 6
    have u7 := kg15.cell 7
    have u8 := kg15.cell 8
    have u9 := kg15.cell 9
    have u10 := kg15.cell 10
    have u11 := kg15.cell 11
    simp only [hrvals, List.getElem?_cons_zero, List.getElem?_cons_succ] at u0 u1 u2 u3 u4 u5 u6 u7 u8 u9 u10 u11
    clear t0 t1 t2 t3 t4 t5 t6 t7 t8 t9 t10 t11 kg14 r14 o15 HL14 g15
    go_wp2_with fail
    refine (heldHR_any c z8 S 1 _ M15 (unhide M2) (unhide HTT) (by omega) (by omega)).mono ?_
    rintro e w16 ⟨rfl, b16⟩
    have HL16 := hide ((unhide HL15).trans (b16.mono (unhide HL15).size))
    have kg16 := kg15.below b16 kg15.lt
    have v0 := kg16.cell 0
    have v1 := kg16.cell 1
    have v2 := kg16.cell 2
    have v3 := kg16.cell 3
    have v4 := kg16.cell 4
    have v5 := kg16.cell 5
    have v6 := kg16.cell 6
    have v7 := kg16.cell 7
    have v8 := kg16.cell 8
    have v9 := kg16.cell 9
    have v10 := kg16.cell 10
    have v11 := kg16.cell 11
    simp only [hrvals, List.getElem?_cons_zero, List.getElem?_cons_succ] at v0 v1 v2 v3 v4 v5 v6 v7 v8 v9 v10 v11
    have M16 := M15.below b16 (Nat.le_refl _)
    have hne : ((1 + ((hTot S : Nat) : Int)) != 1 + ((hTot S : Nat) : Int)) = false := by simp
    have hdT : decide (1 + ((hTot S : Nat) : Int) < 0) = false := decide_eq_false (by omega)
    clear u0 u1 u2 u3 u4 u5 u6 u7 u8 u9 u10 u11 M15 b16 HL15 kg15
    go_wp2_with fail
    refine ((unhide T0) _ ((unhide HB5).trans ((unhide HL16).mono (unhide HB5).size))).mono ?_
    rintro e w17a ⟨rfl, _, o17a, b17a⟩
    have K17 := (unhide HL16).trans (b17a.mono (unhide HL16).size)
    go_wp2_with fail
    refine ((unhide T1) _ ((unhide HB5).trans (K17.mono (unhide HB5).size))).mono ?_
    rintro e w17 ⟨rfl, _, p17, b17b⟩
    have o17 := RowOk.below o17a b17b (Nat.le_refl _)
    have b17 := b17a.trans (b17b.mono b17a.size)
    clear K17 b17a b17b o17a
    go_wp2_with fail
    refine ((unhide IM) _ _ _ o17 p17).mono ?_
    rintro e w18 ⟨z18, d18, rfl, r18, b18⟩
    have b168 := b17.trans (b18.mono b17.size)
    have HL18 := hide ((unhide HL16).trans (b168.mono (unhide HL16).size))
    have kg18 := kg16.below b168 kg16.lt
    have M18 := M16.below b168 (Nat.le_refl _)
    have kw18 := kw.below (unhide HL18) kw.lt
    have p0 : ∀ o, (w18.alloc o).cell? ⟨gw, 0, none⟩ = some (.int .i64 c) := fun o => ((below_alloc w18 o).cell (p := ⟨gw, 0, none⟩) kw18.lt).trans (kw18.cell 0)
    have p1 : ∀ o, (w18.alloc o).cell? ⟨gw, 1, none⟩ = some (.slice z4.p.a z4.p.n z4.p.c) := fun o => ((below_alloc w18 o).cell (p := ⟨gw, 1, none⟩) kw18.lt).trans (kw18.cell 1)
    have p2 : ∀ o, (w18.alloc o).cell? ⟨gw, 2, none⟩ = some (.int .i64 S.n1) := fun o => ((below_alloc w18 o).cell (p := ⟨gw, 2, none⟩) kw18.lt).trans (kw18.cell 2)
    have p3 : ∀ o, (w18.alloc o).cell? ⟨gw, 3, none⟩ = some (.int .i64 S.n2) := fun o => ((below_alloc w18 o).cell (p := ⟨gw, 3, none⟩) kw18.lt).trans (kw18.cell 3)
    have p4 : ∀ o, (w18.alloc o).cell? ⟨gw, 4, none⟩ = some (.int .i64 S.n3) := fun o => ((below_alloc w18 o).cell (p := ⟨gw, 4, none⟩) kw18.lt).trans (kw18.cell 4)
    have p5 : ∀ o, (w18.alloc o).cell? ⟨gw, 5, none⟩ = some (.slice z4.t.a z4.t.n z4.t.c) := fun o => ((below_alloc w18 o).cell (p := ⟨gw, 5, none⟩) kw18.lt).trans (kw18.cell 5)
    have p6 : ∀ o, (w18.alloc o).cell? ⟨gw, 6, none⟩ = some (.int .i64 S.n5) := fun o => ((below_alloc w18 o).cell (p := ⟨gw, 6, none⟩) kw18.lt).trans (kw18.cell 6)
    have p7 : ∀ o, (w18.alloc o).cell? ⟨gw, 7, none⟩ = some (.slice z4.s.a z4.s.n z4.s.c) := fun o => ((below_alloc w18 o).cell (p := ⟨gw, 7, none⟩) kw18.lt).trans (kw18.cell 7)
    have p8 : ∀ o, (w18.alloc o).cell? ⟨gw, 8, none⟩ = some (.slice z4.r.a z4.r.n z4.r.c) := fun o => ((below_alloc w18 o).cell (p := ⟨gw, 8, none⟩) kw18.lt).trans (kw18.cell 8)
    have p9 : ∀ o, (w18.alloc o).cell? ⟨gw, 9, none⟩ = some (.slice z4.g.a z4.g.n z4.g.c) := fun o => ((below_alloc w18 o).cell (p := ⟨gw, 9, none⟩) kw18.lt).trans (kw18.cell 9)
    have p10 : ∀ o, (w18.alloc o).cell? ⟨gw, 10, none⟩ = some (.slice z4.e.a z4.e.n z4.e.c) := fun o => ((below_alloc w18 o).cell (p := ⟨gw, 10, none⟩) kw18.lt).trans (kw18.cell 10)
    have p11 : ∀ o, (w18.alloc o).cell? ⟨gw, 11, none⟩ = some (.slice z4.k.a z4.k.n z4.k.c) := fun o => ((below_alloc w18 o).cell (p := ⟨gw, 11, none⟩) kw18.lt).trans (kw18.cell 11)
    have HKG18 := hide kg18
    clear v0 v1 v2 v3 v4 v5 v6 v7 v8 v9 v10 v11 M16 b17 b18 b168 HL16 o17 p17 kw18 kg16 kg18
    unfold hrvals
    go_wp2_with fail
    clear p0 p1 p2 p3 p4 p5 p6 p7 p8 p9 p10 p11
    have k19 := below_alloc w18 (.cells (hrvals c z18 S) 28)
    unfold hrvals at k19
    generalize w18.alloc (Obj.cells #[.int .i64 c, .slice z18.p.a z18.p.n z18.p.c, .int .i64 S.n1, .int .i64 S.n2, .int .i64 S.n3, .slice z18.t.a z18.t.n z18.t.c, .int .i64 S.n5, .slice z18.s.a z18.s.n z18.s.c, .slice z18.r.a z18.r.n z18.r.c, .slice z18.g.a z18.g.n z18.g.c, .slice z18.e.a z18.e.n z18.e.c, .slice z18.k.a z18.k.n z18.k.c] 28) = w19 at k19 ⊢
    have HL19 := hide ((unhide HL18).trans (k19.mono (unhide HL18).size))
    refine (eqHR_same c z18 z4 S _ ((r18.hok (unhide M2)).below k19 (Nat.le_refl _)) (R4.below (unhide HL19) (Nat.le_refl _)) (unhide M2)).mono ?_
    rintro e w20 ⟨rfl, b20⟩
    have k20 := k19.trans (b20.mono k19.size)
    have kg20 := (unhide HKG18).below k20 (unhide HKG18).lt
    have v0 := kg20.cell 0
    have v1 := kg20.cell 1
    have v2 := kg20.cell 2
    have v3 := kg20.cell 3
    have v4 := kg20.cell 4
    have v5 := kg20.cell 5
    have v6 := kg20.cell 6
    have v7 := kg20.cell 7
    have v8 := kg20.cell 8
    have v9 := kg20.cell 9
    have v10 := kg20.cell 10
    have v11 := kg20.cell 11
    simp only [hrvals, List.getElem?_cons_zero, List.getElem?_cons_succ] at v0 v1 v2 v3 v4 v5 v6 v7 v8 v9 v10 v11
    have M20 := M18.below k20 (Nat.le_refl _)
    have HL20 := hide ((unhide HL18).trans (k20.mono (unhide HL18).size))
    clear M18 kg20
    go_wp2_with fail
    refine (heldHR_any c z8 S 1 _ M20 (unhide M2) (unhide HTT) (by omega) (by omega)).mono ?_
    rintro e w21 ⟨rfl, b21⟩
    have HL21 := hide ((unhide HL20).trans (b21.mono (unhide HL20).size))
    go_wp2_with fail
    go_ret
    exact ⟨rfl, (unhide HB5).trans ((unhide HL21).mono (unhide HB5).size)⟩

/-! The row's step. -/
set_option maxRecDepth 100000 in
theorem lifted (os : Os) (started : os.Started) (H : Type) (enc : TypeId × Value → H) :
    ReturnsInHanded {} Try.checked os 3 .any (Rows.fnExactGenesisOfSpec.pre6 enc Try.prog Try.f3 Rows.fnExactGenesisOfRow.domain false) (Rows.fnExactGenesisOfSpec.post enc Try.prog Try.f3 false true false false) := by
  refine returnsInHanded_of_change (C := Try.checked) own started (by kernel_rfl) Try.func3
    (ChangeSpec.witness6 (enc := enc) (C := Try.checked) false ⟨#[], #[.slice none 0 0, .slice none 0 0], []⟩ 8 (by kernel_rfl) (by kernel_rfl) (by kernel_rfl) (by kernel_rfl)) ?_
  intro W base args ds gs before hval0 hW hcnd _
  have hval : ∀ (j : Nat) t v, Try.f3.params[j]? = some t → args[j]? = some v → Value.okWide Try.prog W .any base t v := hval0
  have hW' := hW
  obtain ⟨p, q, hA0, hV, rfl, hfz, hnd⟩ := hW
  have hA : DataW.TrodAll enc Try.prog W 0 (fun _ => true) true Try.f3.params.toList args.toList ds p := hA0
  rw [Try.params3] at hA hval
  obtain ⟨v0, vs0, d0, ds0, p0, q0, hargs, rfl, rfl, h0, r0⟩ := trodAll_cons hA
  obtain ⟨v1, vs1, d1, ds1, p1, q1, rfl, rfl, rfl, h1, r1⟩ := trodAll_cons r0
  obtain ⟨rfl, rfl, rfl⟩ := trodAll_nil r1
  obtain rfl : args = #[v0, v1] := by cases args; simp_all
  obtain ⟨rfl, rfl⟩ := trodVars_none hV
  have k0 := h0
  have lt0 : ∀ x ∈ p0, x.block < W.heap.size := by obtain ⟨m, hm⟩ := k0; exact DataW.trod_lt m _ _ _ hm
  obtain ⟨a0, len0, cap0, rfl⟩ := okWide_slice Try.underlying22 (hval 0 22 v0 rfl rfl)
  obtain ⟨s0, z0, eq0, o0⟩ : ∃ (s : Sl) (z : List (List Int)), (Value.slice a0 len0 cap0) = .slice s.a s.n s.c ∧ RowOk bytesK W s z := by
    obtain ⟨fuel, hf⟩ := h0
    obtain ⟨s, z, q, o⟩ := opens_row (T := 0) Try.underlying22 (by kernel_rfl) (by decide) (opens_bytes Try.underlying23 Try.underlying5 (by kernel_rfl)) _ _ _ rfl hf
    have q' : [Value.slice a0 len0 cap0] = [Value.slice s.a s.n s.c] := q
    simp only [List.cons.injEq, and_true] at q'
    exact ⟨s, z, q', o⟩
  simp only [Value.slice.injEq] at eq0
  obtain ⟨rfl, rfl, rfl⟩ := eq0
  have k1 := h1
  have lt1 : ∀ x ∈ p1, x.block < W.heap.size := by obtain ⟨m, hm⟩ := k1; exact DataW.trod_lt m _ _ _ hm
  obtain ⟨a1, len1, cap1, rfl⟩ := okWide_slice Try.underlying23 (hval 1 23 v1 rfl rfl)
  obtain ⟨s1, z1, eq1, o1⟩ : ∃ (s : Sl) (z : List Int), (Value.slice a1 len1 cap1) = .slice s.a s.n s.c ∧ BOk W s z := by
    obtain ⟨fuel, hf⟩ := h1
    obtain ⟨s, z, q, o⟩ := opens_bytes Try.underlying23 Try.underlying5 (by kernel_rfl) _ _ _ rfl hf
    have q' : [Value.slice a1 len1 cap1] = [Value.slice s.a s.n s.c] := q
    simp only [List.cons.injEq, and_true] at q'
    exact ⟨s, z, q', o⟩
  simp only [Value.slice.injEq] at eq1
  obtain ⟨rfl, rfl, rfl⟩ := eq1
  clear hA0 hval0
  refine (walk s0 z0 s1 z1 W o0 o1).mono fun e W' ⟨he, bel⟩ => ?_
  subst he
  exact ⟨_, rfl, _, _, _, [], _, [], hW', trodAll_mk1 (shut_bool Try.underlying4 _), (trodAll_cons_mk (Below.trod laidOut (by kernel_rfl) (of_decide_eq_true (by kernel_rfl)) k0 bel lt0) (trodAll_cons_mk (Below.trod laidOut (by kernel_rfl) (of_decide_eq_true (by kernel_rfl)) k1 bel lt1) trodAll_mk0)), rfl, bel.frame _, fun h => by cases h⟩

theorem over : Rows.fnExactGenesisOfRow.holds Try.pinned (OpenSpec.ofChange Rows.fnExactGenesisOfSpec) :=
  OpenClaim.holds_of_wide 3 Try.f3 rfl rfl rfl rfl rfl rfl rfl ⟨rfl, rfl, rfl, rfl, rfl⟩ rfl rfl rfl rfl rfl (by kernel_rfl) Try.func3 (by kernel_rfl)
    (of_decide_eq_true (by kernel_rfl)) (by unfold Func.isWrapper; first | (rw [if_pos (by decide +kernel)]; kernel_rfl) | (rw [if_neg (by decide +kernel)]; exact ⟨rfl, rfl⟩))
    (fun os started H enc _ => lifted os started H enc)

/-- The statement. -/
theorem proved : Rows.FnExactGenesisOfSaid := over
#print axioms proved
end Go.Proofs.Ytihkhjbbfpnndaa.fnExactGenesisOf
