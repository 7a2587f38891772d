/- Proved: for every slice of slices of bytes the law FnExactNewSnap returns true and changes no argument. Conditions: none. -/
import Derived.Test.YtalkhlimkanlcaaRows
import Derived.Test.YtalkhlimkanlcaaJ15
import Derived.Test.YtalkhlimkanlcaaJ6
import Derived.Test.YtalkhlimkanlcaaJ7
import Derived.WalkSmall
import Derived.Deep.MidRow
import Derived.Deep.RegionHeld3
import Derived.Test.YtalkhlimkanlcaaJ4
import Derived.WalkKit
import Derived.ProofKit
import Derived.OpenShut
import Derived.ShutString
import Derived.ChangeOld
import Derived.Below
namespace Go.Proofs.Ytalkhlimkanlcaa.fnExactNewSnap
open Go.ChangeShapes Go.WideShapes Go.ChangeAt Go.RowKit
set_option linter.unusedVariables false

theorem own : ownKnob Try.prog.godebug = none := by kernel_rfl
theorem laidOut : laidOutB Try.prog = true := by kernel_rfl

/-! The walk: the Go text returns true, and writes nothing that was there. -/
set_option maxRecDepth 100000 in
set_option maxHeartbeats 8000000 in
theorem walk (s0 : Sl) (z0 : List (List Int)) (w : World) (o0 : RowOk bytesK w s0 z0) :
    Calls Try.prog 4 #[.slice s0.a s0.n s0.c] w fun e w' => e = .returned (.bool true) ∧ Below w.heap.size w w' := by
  have hmx : s0.n ≤ maxLen := Nat.le_trans o0.room o0.max
  have SZ0 := hide (szByteSS_any s0.a s0.n s0.c z0 1048576 w (bs_of_row o0) hmx (by omega) (by omega))
  by_cases hs0 : szBss 1048576 z0 < 0
  · have hd0 : decide (szBss 1048576 z0 < 0) = true := decide_eq_true hs0
    clear o0 hmx
    generalize szBss 1048576 z0 = q0 at SZ0 hs0 hd0
    go_enter Try.func4, Try.ntmps4
    go_wp2_with fail
    refine (unhide SZ0).mono ?_
    rintro e w1 ⟨rfl, rfl⟩
    go_wp2_with fail
    go_ret
    exact ⟨rfl, Below.refl _ _⟩
  · have ok0 := szBss_ok (left := 1048576) (zss := z0) (by omega)
    have eq0 := szBss_eq (left := 1048576) (zss := z0) (by omega)
    have M := hide (show NsSm z0 from ⟨by omega, fun z hi => by have := ok0.2 z hi; omega, by omega⟩)
    have M2 := hide (nsAns_sm (unhide M))
    have hd0 : decide (szBss 1048576 z0 < 0) = false := decide_eq_false hs0
    have T0 := hide (fun (W : World) (hb : Below w.heap.size w W) => toBs_ns s0 z0 W (RowOk.below o0 hb (Nat.le_refl _)) (unhide M))
    have SP := hide (fun (g : Nat) (W : World) (o : RowOk bytesK W ⟨some ⟨g, 0, none⟩, z0.length, z0.length⟩ z0) => specNew_any ⟨some ⟨g, 0, none⟩, z0.length, z0.length⟩ z0 W o (unhide M).l (unhide M).z)
    have IM := hide (fun (g : Nat) (W : World) (o : RowOk bytesK W ⟨some ⟨g, 0, none⟩, z0.length, z0.length⟩ z0) => implNew_any ⟨some ⟨g, 0, none⟩, z0.length, z0.length⟩ z0 W o (unhide M).l (unhide M).z)
    have MK := hide (fun (g C : Nat) (W : World) (o : OBss W g z0 45 C) (hC : g < C) => markSS_any g z0 45 C 1 W o hC (unhide M).l (unhide M).t (by omega) (by omega))
    have EQ : Hid (∀ (g k : Nat) (W : World), RowOk bytesK W ⟨some ⟨g, 0, none⟩, z0.length, z0.length⟩ z0 → RowOk bytesK W ⟨some ⟨k, 0, none⟩, z0.length, z0.length⟩ z0 → Calls Try.prog 19 #[.slice (some ⟨g, 0, none⟩) z0.length z0.length, .slice (some ⟨k, 0, none⟩) z0.length z0.length] W fun e w' => e = .returned (.bool true) ∧ Below W.heap.size W w') := fun g k W o q => (eqByteSS_any (some ⟨g, 0, none⟩) (some ⟨k, 0, none⟩) z0.length z0.length z0.length z0.length z0 z0 W (bs_of_row o) (bs_of_row q) (unhide M).l (unhide M).l (unhide M).z (unhide M).z).mono (by rintro e w' ⟨rfl, n, rfl⟩; exact ⟨by rw [sameBs_self], below_drewN (Below.refl _ _) n⟩)
    have TT : Hid (bsum z0 ≤ 1048576) := (unhide M).t
    have hr6 : ∀ i, 6 ≠ 8 + 3 * i := fun i => by omega
    generalize nsAns z0 = S at SP IM M2
    generalize sgSome z0 = c at SP IM
    clear o0 hmx ok0 eq0 M
    generalize szBss 1048576 z0 = q0 at SZ0 hs0 hd0
    generalize z0.length = L0 at T0 SP IM MK EQ
    go_enter Try.func4, Try.ntmps4
    go_wp2_with fail
    refine (unhide SZ0).mono ?_
    rintro e w1 ⟨rfl, rfl⟩
    clear SZ0
    go_wp2_with fail
    refine ((unhide T0) _ (Below.refl _ _)).mono ?_
    rintro e w2 ⟨rfl, _, o2, b2⟩
    have HB2 := hide b2
    clear b2
    go_wp2_with fail
    refine ((unhide SP) _ _ o2).mono ?_
    rintro e w4 ⟨z4, d4, rfl, r4, b4⟩
    have HB4 := hide ((unhide HB2).trans (b4.mono (unhide HB2).size))
    have kw := SBlk.new w4 (nsvals c z4) 38
    have bw := below_alloc w4 (.cells (nsvals c z4) 38)
    obtain ⟨W5, e5⟩ : ∃ W5, w4.alloc (.cells (nsvals c z4) 38) = W5 := ⟨_, rfl⟩
    rw [e5] at kw bw
    have R4 := RowOk.below (r4.nrow hr6) bw (Nat.le_refl _)
    have HB5 := hide ((unhide HB4).trans (bw.mono (unhide HB4).size))
    clear b4 o2 HB2 r4 bw HB4
    unfold nsvals at e5 ⊢
    have E5 := hide e5
    clear e5
    go_upto_region 6 with fail
    rw [unhide E5]
    clear E5
    obtain ⟨gw, hgw⟩ : ∃ g, g = w4.heap.size := ⟨_, rfl⟩
    rw [← hgw] at kw ⊢
    clear hgw
    go_wp2_with fail
    refine ((unhide T0) _ (unhide HB5)).mono ?_
    rintro e w6 ⟨rfl, q6, o6, b6⟩
    have HW6 := hide b6
    have hz5 : W5.heap.size < w6.heap.size := BUpto.lt q6
    obtain ⟨gx, hgx⟩ : ∃ g, g = W5.heap.size := ⟨_, rfl⟩
    have hx5 : W5.heap.size ≤ gx := by omega
    rw [← hgx] at q6 o6 hz5 ⊢
    clear hgx b6
    go_wp2_with fail
    refine ((unhide IM) _ _ o6).mono ?_
    rintro e w8 ⟨z8, d8, rfl, r8, b8⟩
    obtain ⟨dC, hdC⟩ : ∃ dC : Nat → Nat, dC = fun g => if w8.heap.size ≤ g then 9 else d8 g := ⟨_, rfl⟩
    have hd9 : ∀ g, w8.heap.size ≤ g → dC g = 9 := fun g hg => by rw [hdC]; exact if_pos hg
    replace r8 := r8.recol (d' := dC) (fun g hg => by rw [hdC]; exact if_neg (by omega))
    clear hdC
    have kg := SBlk.new w8 (nsvals c z8) 38
    have bg := below_alloc w8 (.cells (nsvals c z8) 38)
    obtain ⟨W9, e9⟩ : ∃ W9, w8.alloc (.cells (nsvals c z8) 38) = W9 := ⟨_, rfl⟩
    rw [e9] at kg bg
    have r9 := r8.below bg (Nat.le_refl _)
    have HD9 := hide hd9
    have b89 := b8.trans (bg.mono b8.size)
    have q9 := BUpto.below q6 b89 (Nat.le_refl _)
    have o9 := RowOk.below o6 b89 (Nat.le_refl _)
    have L9 := (unhide HW6).trans (b89.mono (unhide HW6).size)
    have kw9 := kw.below L9 kw.lt
    have RW9 := RowOk.below R4 L9 (Nat.le_refl _)
    have hz89 : w6.heap.size ≤ w8.heap.size := b8.size
    clear r8 b8 bg b89 q6 o6 hd9
    unfold nsvals at e9 ⊢
    have E9 := hide e9
    clear e9
    go_upto_region 8 with fail
    rw [unhide E9]
    clear E9
    obtain ⟨gg, hgg⟩ : ∃ g, g = w8.heap.size := ⟨_, rfl⟩
    rw [← hgg] at kg HD9 hz89 ⊢
    clear hgg
    have HL9 := hide L9
    have RG9 := r9.nrow hr6
    have p0 := kw9.cell 0
    have p1 := kw9.cell 1
    have p2 := kw9.cell 2
    have p3 := kw9.cell 3
    have p4 := kw9.cell 4
    simp only [nsvals, List.getElem?_cons_zero, List.getElem?_cons_succ] at p0 p1 p2 p3 p4
    have s0 := kg.cell 0
    have s1 := kg.cell 1
    have s2 := kg.cell 2
    have s3 := kg.cell 3
    have s4 := kg.cell 4
    simp only [nsvals, List.getElem?_cons_zero, List.getElem?_cons_succ] at s0 s1 s2 s3 s4
    clear L9 kw9
    go_wp2_with fail
    refine (eqNR_same c z8 z4 S _ RG9 RW9 (unhide M2).sn).mono ?_
    rintro e w10 ⟨rfl, b10⟩
    have HL10 := hide ((unhide HL9).trans (b10.mono (unhide HL9).size))
    have HB10 := hide ((unhide HB5).trans ((unhide HL10).mono (unhide HB5).size))
    have kg10 := kg.below b10 kg.lt
    have q10 := BUpto.below q9 b10 (Nat.le_refl _)
    have o10 := RowOk.below o9 b10 (Nat.le_refl _)
    have r10 := r9.below b10 (Nat.le_refl _)
    clear kg q9 o9 r9 RG9 RW9 p0 p1 p2 p3 p4 s0 s1 s2 s3 s4 b10 HL9
    go_wp2_with fail
    refine ((unhide T0) _ (unhide HB10)).mono ?_
    rintro e w11 ⟨rfl, _, o11, b11⟩
    have o11b := RowOk.below o10 b11 (Nat.le_refl _)
    go_wp2_with fail
    refine ((unhide EQ) _ _ _ o11b o11).mono ?_
    rintro e w12 ⟨rfl, b12⟩
    have K12 := b11.trans (b12.mono b11.size)
    have HL12 := hide ((unhide HL10).trans (K12.mono (unhide HL10).size))
    have kg12 := kg10.below K12 kg10.lt
    have q12 := BUpto.below q10 K12 (Nat.le_refl _)
    have r12 := r10.below K12 (Nat.le_refl _)
    clear o11 o11b o10 b11 b12 K12 kg10 q10 r10 HL10 HB10
    go_wp2_with fail
    refine ((unhide MK) _ _ _ q12 hz5).mono ?_
    rintro e w13 ⟨rfl, on13⟩
    have HL13 := hide ((unhide HL12).trans (on13.1.mono (by omega)))
    have kg13 := on13.sblk kg12 hz89
    have r13 := r12.onlyH on13 (Nat.le_refl _)
    have kw13 := kw.below (unhide HL13) kw.lt
    have RW13 := RowOk.below R4 (unhide HL13) (Nat.le_refl _)
    have p0 := kw13.cell 0
    have p1 := kw13.cell 1
    have p2 := kw13.cell 2
    have p3 := kw13.cell 3
    have p4 := kw13.cell 4
    simp only [nsvals, List.getElem?_cons_zero, List.getElem?_cons_succ] at p0 p1 p2 p3 p4
    have s0 := kg13.cell 0
    have s1 := kg13.cell 1
    have s2 := kg13.cell 2
    have s3 := kg13.cell 3
    have s4 := kg13.cell 4
    simp only [nsvals, List.getElem?_cons_zero, List.getElem?_cons_succ] at s0 s1 s2 s3 s4
    have hk : decide ((1 + ((bsum z0 : Nat) : Int)) < 0) = false := decide_eq_false (by omega)
    clear kg12 q12 r12 HL12 on13 kw13
    go_wp2_with fail
    clear p0 p1 p2 p3 p4
    refine (eqNR_same c z8 z4 S _ (r13.nrow hr6) RW13 (unhide M2).sn).mono ?_
    rintro e w14 ⟨rfl, b14⟩
    have HL14 := hide ((unhide HL13).trans (b14.mono (unhide HL13).size))
    have kg14 := kg13.below b14 kg13.lt
    have r14 := r13.below b14 (Nat.le_refl _)
    have d14 : ∀ g, w14.heap.size ≤ g → dC g = 9 := fun g hg => (unhide HD9) g (by have := kg14.lt; omega)
    have z14 : w6.heap.size ≤ w14.heap.size := by have := kg14.lt; omega
    have t0 := kg14.cell 0
    have t1 := kg14.cell 1
    have t2 := kg14.cell 2
    have t3 := kg14.cell 3
    have t4 := kg14.cell 4
    simp only [nsvals, List.getElem?_cons_zero, List.getElem?_cons_succ] at t0 t1 t2 t3 t4
    clear s0 s1 s2 s3 s4 kg13 r13 RW13 b14 HL13 hk
    go_wp2_with fail
    refine (markNR_col c w6.heap.size dC z8 S 1 _ r14 z14 (unhide M2).l (unhide M2).t (by omega) (by omega) d14).mono ?_
    rintro e w15 ⟨rfl, o15, g15⟩
    have kg15 := g15.sblk kg14 (by rw [(unhide HD9) gg (Nat.le_refl _)]; rintro ⟨i, hi⟩; omega)
    have HL15 := hide ((unhide HL14).trans (g15.1.mono (unhide HW6).size))
    have M15 := o15.nrowM hr6
    have u0 := kg15.cell 0
    have u1 := kg15.cell 1
    have u2 := kg15.cell 2
    have u3 := kg15.cell 3
    have u4 := kg15.cell 4
    simp only [nsvals, List.getElem?_cons_zero, List.getElem?_cons_succ] at u0 u1 u2 u3 u4
    clear t0 t1 t2 t3 t4 kg14 r14 o15 HL14 g15
    go_wp2_with fail
    refine (heldNR_any c z8 S 1 _ M15 (unhide M2).l (unhide M2).t (by omega) (by omega)).mono ?_
    rintro e w16 ⟨rfl, b16⟩
    have HL16 := hide ((unhide HL15).trans (b16.mono (unhide HL15).size))
    have kg16 := kg15.below b16 kg15.lt
    have v0 := kg16.cell 0
    have v1 := kg16.cell 1
    have v2 := kg16.cell 2
    have v3 := kg16.cell 3
    have v4 := kg16.cell 4
    simp only [nsvals, List.getElem?_cons_zero, List.getElem?_cons_succ] at v0 v1 v2 v3 v4
    have M16 := M15.below b16 (Nat.le_refl _)
    have hne : ((1 + ((bsum S : Nat) : Int)) != 1 + ((bsum S : Nat) : Int)) = false := by simp
    have hdT : decide (1 + ((bsum S : Nat) : Int) < 0) = false := decide_eq_false (by omega)
    clear u0 u1 u2 u3 u4 M15 b16 HL15 kg15
    go_wp2_with fail
    refine ((unhide T0) _ ((unhide HB5).trans ((unhide HL16).mono (unhide HB5).size))).mono ?_
    rintro e w17 ⟨rfl, _, o17, b17⟩
    go_wp2_with fail
    refine ((unhide IM) _ _ o17).mono ?_
    rintro e w18 ⟨z18, d18, rfl, r18, b18⟩
    have b168 := b17.trans (b18.mono b17.size)
    have HL18 := hide ((unhide HL16).trans (b168.mono (unhide HL16).size))
    have kg18 := kg16.below b168 kg16.lt
    have M18 := M16.below b168 (Nat.le_refl _)
    have kw18 := kw.below (unhide HL18) kw.lt
    have p0 : ∀ o, (w18.alloc o).cell? ⟨gw, 0, none⟩ = some (.int .i64 c) := fun o => ((below_alloc w18 o).cell (p := ⟨gw, 0, none⟩) kw18.lt).trans (kw18.cell 0)
    have p1 : ∀ o, (w18.alloc o).cell? ⟨gw, 1, none⟩ = some (.int .i64 0) := fun o => ((below_alloc w18 o).cell (p := ⟨gw, 1, none⟩) kw18.lt).trans (kw18.cell 1)
    have p2 : ∀ o, (w18.alloc o).cell? ⟨gw, 2, none⟩ = some (.slice z4.a z4.n z4.c) := fun o => ((below_alloc w18 o).cell (p := ⟨gw, 2, none⟩) kw18.lt).trans (kw18.cell 2)
    have p3 : ∀ o, (w18.alloc o).cell? ⟨gw, 3, none⟩ = some (.slice none 0 0) := fun o => ((below_alloc w18 o).cell (p := ⟨gw, 3, none⟩) kw18.lt).trans (kw18.cell 3)
    have p4 : ∀ o, (w18.alloc o).cell? ⟨gw, 4, none⟩ = some (.slice none 0 0) := fun o => ((below_alloc w18 o).cell (p := ⟨gw, 4, none⟩) kw18.lt).trans (kw18.cell 4)
    have HKG18 := hide kg18
    clear v0 v1 v2 v3 v4 M16 b17 b18 b168 HL16 o17 kw18 kg16 kg18
    unfold nsvals
    go_wp2_with fail
    clear p0 p1 p2 p3 p4
    have k19 := below_alloc w18 (.cells (nsvals c z18) 38)
    unfold nsvals at k19
    generalize w18.alloc (Obj.cells #[.int .i64 c, .int .i64 0, .slice z18.a z18.n z18.c, .slice none 0 0, .slice none 0 0] 38) = w19 at k19 ⊢
    have HL19 := hide ((unhide HL18).trans (k19.mono (unhide HL18).size))
    refine (eqNR_same c z18 z4 S _ (RowOk.below (r18.nrow hr6) k19 (Nat.le_refl _)) (RowOk.below R4 (unhide HL19) (Nat.le_refl _)) (unhide M2).sn).mono ?_
    rintro e w20 ⟨rfl, b20⟩
    have k20 := k19.trans (b20.mono k19.size)
    have kg20 := (unhide HKG18).below k20 (unhide HKG18).lt
    have v0 := kg20.cell 0
    have v1 := kg20.cell 1
    have v2 := kg20.cell 2
    have v3 := kg20.cell 3
    have v4 := kg20.cell 4
    simp only [nsvals, List.getElem?_cons_zero, List.getElem?_cons_succ] at v0 v1 v2 v3 v4
    have M20 := M18.below k20 (Nat.le_refl _)
    have HL20 := hide ((unhide HL18).trans (k20.mono (unhide HL18).size))
    clear M18 kg20
    go_wp2_with fail
    refine (heldNR_any c z8 S 1 _ M20 (unhide M2).l (unhide M2).t (by omega) (by omega)).mono ?_
    rintro e w21 ⟨rfl, b21⟩
    have HL21 := hide ((unhide HL20).trans (b21.mono (unhide HL20).size))
    go_wp2_with fail
    go_ret
    exact ⟨rfl, (unhide HB5).trans ((unhide HL21).mono (unhide HB5).size)⟩

/-! The row's step. -/
set_option maxRecDepth 100000 in
theorem lifted (os : Os) (started : os.Started) (H : Type) (enc : TypeId × Value → H) :
    ReturnsInHanded {} Try.checked os 4 .any (Rows.fnExactNewSnapSpec.pre6 enc Try.prog Try.f4 Rows.fnExactNewSnapRow.domain false) (Rows.fnExactNewSnapSpec.post enc Try.prog Try.f4 false true false false) := by
  refine returnsInHanded_of_change (C := Try.checked) own started (by kernel_rfl) Try.func4
    (ChangeSpec.witness6 (enc := enc) (C := Try.checked) false ⟨#[], #[.slice none 0 0], []⟩ 8 (by kernel_rfl) (by kernel_rfl) (by kernel_rfl) (by kernel_rfl)) ?_
  intro W base args ds gs before hval0 hW hcnd _
  have hval : ∀ (j : Nat) t v, Try.f4.params[j]? = some t → args[j]? = some v → Value.okWide Try.prog W .any base t v := hval0
  have hW' := hW
  obtain ⟨p, q, hA0, hV, rfl, hfz, hnd⟩ := hW
  have hA : DataW.TrodAll enc Try.prog W 0 (fun _ => true) true Try.f4.params.toList args.toList ds p := hA0
  rw [Try.params4] at hA hval
  obtain ⟨v0, vs0, d0, ds0, p0, q0, hargs, rfl, rfl, h0, r0⟩ := trodAll_cons hA
  obtain ⟨rfl, rfl, rfl⟩ := trodAll_nil r0
  obtain rfl : args = #[v0] := by cases args; simp_all
  obtain ⟨rfl, rfl⟩ := trodVars_none hV
  have k0 := h0
  have lt0 : ∀ x ∈ p0, x.block < W.heap.size := by obtain ⟨m, hm⟩ := k0; exact DataW.trod_lt m _ _ _ hm
  obtain ⟨a0, len0, cap0, rfl⟩ := okWide_slice Try.underlying22 (hval 0 22 v0 rfl rfl)
  obtain ⟨s0, z0, eq0, o0⟩ : ∃ (s : Sl) (z : List (List Int)), (Value.slice a0 len0 cap0) = .slice s.a s.n s.c ∧ RowOk bytesK W s z := by
    obtain ⟨fuel, hf⟩ := h0
    obtain ⟨s, z, q, o⟩ := opens_row (T := 0) Try.underlying22 (by kernel_rfl) (by decide) (opens_bytes Try.underlying45 Try.underlying5 (by kernel_rfl)) _ _ _ rfl hf
    have q' : [Value.slice a0 len0 cap0] = [Value.slice s.a s.n s.c] := q
    simp only [List.cons.injEq, and_true] at q'
    exact ⟨s, z, q', o⟩
  simp only [Value.slice.injEq] at eq0
  obtain ⟨rfl, rfl, rfl⟩ := eq0
  clear hA0 hval0
  refine (walk s0 z0 W o0).mono fun e W' ⟨he, bel⟩ => ?_
  subst he
  exact ⟨_, rfl, _, _, _, [], _, [], hW', trodAll_mk1 (shut_bool Try.underlying4 _), (trodAll_cons_mk (Below.trod laidOut (by kernel_rfl) (of_decide_eq_true (by kernel_rfl)) k0 bel lt0) trodAll_mk0), rfl, bel.frame _, fun h => by cases h⟩

theorem over : Rows.fnExactNewSnapRow.holds Try.pinned (OpenSpec.ofChange Rows.fnExactNewSnapSpec) :=
  OpenClaim.holds_of_wide 4 Try.f4 rfl rfl rfl rfl rfl rfl rfl ⟨rfl, rfl, rfl, rfl, rfl⟩ rfl rfl rfl rfl rfl (by kernel_rfl) Try.func4 (by kernel_rfl)
    (of_decide_eq_true (by kernel_rfl)) (by unfold Func.isWrapper; first | (rw [if_pos (by decide +kernel)]; kernel_rfl) | (rw [if_neg (by decide +kernel)]; exact ⟨rfl, rfl⟩))
    (fun os started H enc _ => lifted os started H enc)

/-- The statement. -/
theorem proved : Rows.FnExactNewSnapSaid := over
#print axioms proved
end Go.Proofs.Ytalkhlimkanlcaa.fnExactNewSnap
