/- What is proved here: the law FnPaths returns true for all bytes, and writes nothing that was there. -/
import Derived.Test.YtihdmdbekdadlaaJ9
import Derived.Test.YtihdmdbekdadlaaJ7
import Derived.Deep.RegionHeld3
import Derived.Deep.RegionHeldLaw
namespace Go.Proofs.Ytihdmdbekdadlaa
open Go.RowKit
set_option linter.unusedVariables false
set_option maxRecDepth 100000
set_option linter.unusedSimpArgs false

theorem fldP0 (x y z : Value) (w : World) : (Instr.field 27 (.agg #[x, y, z]) 0).run Try.prog w = .ok x w := by kernel_rfl

theorem up_pack {d : List Int} (hr : ∀ x ∈ d, 0 ≤ x ∧ x ≤ 255) (h : upCode d = 0) : ppB (upPath d) (upEnd d) = d := by
  have hok : upOk1 d = true := by
    unfold upCode at h
    cases hh : upOk1 d
    · rw [hh] at h; simp at h
    · rfl
  have hl : 0 < d.length ∧ d.length ≤ 11 := by
    unfold upOk1 at hok
    simp only [Bool.and_eq_true, Bool.not_eq_true', decide_eq_false_iff_not] at hok
    omega
  have := up_again d hr hl.1 hl.2
  rw [hok, Bool.and_eq_true] at this
  have e1 : upPath d = upP d := by unfold upPath; rw [hok]; rfl
  have e2 : upEnd d = upE d := by unfold upEnd; rw [hok]; rfl
  rw [e1, e2]
  exact beq_iff_eq.1 this.2

set_option maxHeartbeats 4000000 in
theorem pathsLaw_any (a : Option Addr) (len cap : Nat) (xs : List Int) (w : World) (h : BRow w a len xs) :
    Calls Try.prog 3 #[.slice a len cap] w fun e w' => e = .returned (.bool true) ∧ Below w.heap.size w w' := by
  by_cases hl : len ≤ 1048576
  · have hd : decide (1048576 < (len : Int)) = false := decide_eq_false (by omega)
    have HX := hide h
    clear h
    go_enter Try.func3, Try.ntmps3
    go_wp2_with fail
    refine (lwBig_any a len cap w).mono ?_
    rintro e w' ⟨rfl, rfl⟩
    rw [hd]
    go_wp2_with fail
    refine (drawUP_any a len cap xs w' (unhide HX) hl).mono ?_
    rintro e w1 ⟨⟨s1, m1, c1, d, rfl, r1, hm1, hc1⟩, b1⟩
    go_wp2_with fail
    refine (implUnpack_any s1 m1 c1 d w1 r1 (by omega)).mono ?_
    rintro e w2 ⟨a2, c2, rfl, o2, b2⟩
    have r2 := o2.irow
    have r12 := r1.below b2 (Nat.le_refl _)
    have B2 := b1.trans (b2.mono b1.size)
    have hpl := upPath_length d
    have hcap2 : a2 = none → c2 = 0 := o2.nil
    have HUC := hide (up_pack (d := d) r1.2.1)
    have HRG := hide r1.2.1
    have HSU : Hid (∀ W, BRow W s1 m1 d → Calls Try.prog 12 #[.slice s1 m1 c1] W fun e w' => ∃ a' c', e = .returned (.agg #[.int .i64 (upCode d), .slice a' (upPath d).length c', .bool (upEnd d)]) ∧ Below W.heap.size W w') := fun W hr => (specUnpack_any s1 m1 c1 d W hr (by omega)).mono (fun e w' ⟨a', c', h1, _, h3⟩ => ⟨a', c', h1, h3⟩)
    generalize upCode d = cc at *
    generalize upPath d = P at *
    generalize upEnd d = E at *
    have k3 := new3 w2 (.int .i64 cc) (.slice a2 P.length c2) (.bool E) 27
    obtain ⟨w3, e3⟩ : ∃ W, w2.alloc (.cells #[.int .i64 cc, .slice a2 P.length c2, .bool E] 27) = W := ⟨_, rfl⟩
    rw [e3] at k3
    obtain ⟨b3, s3, p0, p1, p2⟩ := k3
    have B3 := B2.trans (b3.mono B2.size)
    have HS : Hid (∀ W, Below w3.heap.size w3 W → (W.cell? ⟨w2.heap.size, 0, none⟩ = some (.int .i64 cc) ∧ W.cell? ⟨w2.heap.size, 1, none⟩ = some (.slice a2 P.length c2) ∧ W.cell? ⟨w2.heap.size, 2, none⟩ = some (.bool E))) := fun W hb => ⟨(hb.cell s3).trans p0, (hb.cell s3).trans p1, (hb.cell s3).trans p2⟩
    have HD : Hid (∀ W, Below w3.heap.size w3 W → BRow W s1 m1 d) := fun W hb => (r12.below b3 (Nat.le_refl _)).below hb (Nat.le_refl _)
    have HPR : Hid (∀ W, Below w3.heap.size w3 W → IRow W a2 P.length P) := fun W hb => (IRow.below r2 b3 (Nat.le_refl _)).below hb (Nat.le_refl _)
    have HSD : Hid (strEq d d = true) := by show strEq d d = true; simp [strEq]
    have HB3 := hide B3
    have E3 := hide e3
    have fB0 := fldB0
    have fB1 := fldB1
    have fP0 := fldP0
    clear r1 b1 o2 b2 r2 r12 B2 e3 b3 p0 p1 p2 B3
    by_cases hc : cc = 0
    · subst hc
      have hpk := (unhide HUC) rfl
      have HPK : Hid (∀ W, Below w3.heap.size w3 W → Calls Try.prog 11 #[.slice a2 P.length c2, .bool E] W fun e w' => ∃ a' c', e = .returned (.agg #[.int .i64 (ppCode P), .slice a' d.length c']) ∧ BRow w' a' d.length d ∧ Below w3.heap.size w3 w') := fun W hb => by
        refine (implPack_any a2 P.length c2 P E W ((unhide HPR) W hb) hcap2 (by omega)).mono ?_
        rintro e w' ⟨a', c', rfl, o', b'⟩
        rw [hpk] at o' ⊢
        exact ⟨a', c', rfl, BRow.own2 o' (unhide HRG), hb.trans (b'.mono hb.size)⟩
      generalize ppCode P = pc at HPK
      clear hpk HUC HSU HPR hcap2
      go_upto_region 5 with fail
      rw [unhide E3]
      clear E3
      have S0 := (unhide HS) w3 (Below.refl _ _)
      refine wp_region_held_drew (S := (fun W => W.cell? ⟨w2.heap.size, 0, none⟩ = some (.int .i64 0) ∧ W.cell? ⟨w2.heap.size, 1, none⟩ = some (.slice a2 P.length c2) ∧ W.cell? ⟨w2.heap.size, 2, none⟩ = some (.bool E))) (by kernel_rfl) ((unhide HS) _ (Below.refl w3.heap.size w3).drew) (fun hHeld => ?_)
      refine wpAnyH_take (i := 0) (oi := _) (v := ?_) rfl (by kernel_rfl) (by kernel_rfl) (by kernel_rfl) (fun _ _ _ h => h) (Or.inl ⟨by kernel_rfl, ?_⟩) (by assumption) ?_
      rotate_left
      · ((intro wq hSw; (try dsimp only at hSw); go_simp) <;> with_reducible rfl)
      (try simp only [List.getElem_toArray, List.getElem_cons_zero, List.getElem_cons_succ, Act.put, List.setIfInBounds_toArray, List.set_cons_zero, List.set_cons_succ]); (try dsimp only)
      refine wpAnyH_take (i := 1) (oi := _) (v := ?_) rfl (by kernel_rfl) (by kernel_rfl) (by kernel_rfl) (fun _ _ _ h => h) (Or.inl ⟨by kernel_rfl, ?_⟩) (by assumption) ?_
      rotate_left
      · ((intro wq hSw; (try dsimp only at hSw); go_simp) <;> with_reducible rfl)
      (try simp only [List.getElem_toArray, List.getElem_cons_zero, List.getElem_cons_succ, Act.put, List.setIfInBounds_toArray, List.set_cons_zero, List.set_cons_succ]); (try dsimp only)
      refine wpAnyH_take (i := 2) (oi := _) (v := ?_) rfl (by kernel_rfl) (by kernel_rfl) (by kernel_rfl) (fun _ _ _ h => h) (Or.inl ⟨by kernel_rfl, ?_⟩) (by assumption) ?_
      rotate_left
      · ((intro wq hSw; (try dsimp only at hSw); go_simp) <;> with_reducible rfl)
      (try simp only [List.getElem_toArray, List.getElem_cons_zero, List.getElem_cons_succ, Act.put, List.setIfInBounds_toArray, List.set_cons_zero, List.set_cons_succ]); (try dsimp only)
      refine wpAnyH_take (i := 3) (oi := _) (v := ?_) rfl (by kernel_rfl) (by kernel_rfl) (by kernel_rfl) (fun _ _ _ h => h) (Or.inl ⟨by kernel_rfl, ?_⟩) (by assumption) ?_
      rotate_left
      · ((intro wq hSw; (try dsimp only at hSw); go_simp) <;> with_reducible rfl)
      (try simp only [List.getElem_toArray, List.getElem_cons_zero, List.getElem_cons_succ, Act.put, List.setIfInBounds_toArray, List.set_cons_zero, List.set_cons_succ]); (try dsimp only)
      refine wpAnyH_take (i := 4) (oi := _) (v := ?_) rfl (by kernel_rfl) (by kernel_rfl) (by kernel_rfl) (fun _ _ _ h => h) (Or.inl ⟨by kernel_rfl, ?_⟩) (by assumption) ?_
      rotate_left
      · ((intro wq hSw; (try dsimp only at hSw); go_simp) <;> with_reducible rfl)
      (try simp only [List.getElem_toArray, List.getElem_cons_zero, List.getElem_cons_succ, Act.put, List.setIfInBounds_toArray, List.set_cons_zero, List.set_cons_succ]); (try dsimp only)
      refine wpAnyH_take (i := 5) (oi := _) (v := ?_) rfl (by kernel_rfl) (by kernel_rfl) (by kernel_rfl) (fun _ _ _ h => h) (Or.inl ⟨by kernel_rfl, ?_⟩) (by assumption) ?_
      rotate_left
      · ((intro wq hSw; (try dsimp only at hSw); go_simp) <;> with_reducible rfl)
      (try simp only [List.getElem_toArray, List.getElem_cons_zero, List.getElem_cons_succ, Act.put, List.setIfInBounds_toArray, List.set_cons_zero, List.set_cons_succ]); (try dsimp only)
      refine wpAnyH_take (i := 6) (oi := _) (v := ?_) rfl (by kernel_rfl) (by kernel_rfl) (by kernel_rfl) (fun _ _ _ h => h) (Or.inl ⟨by kernel_rfl, ?_⟩) (by assumption) ?_
      rotate_left
      · ((intro wq hSw; (try dsimp only at hSw); go_simp) <;> with_reducible rfl)
      (try simp only [List.getElem_toArray, List.getElem_cons_zero, List.getElem_cons_succ, Act.put, List.setIfInBounds_toArray, List.set_cons_zero, List.set_cons_succ]); (try dsimp only)
      refine wpAnyH_take (i := 7) (oi := _) (v := ?_) rfl (by kernel_rfl) (by kernel_rfl) (by kernel_rfl) (fun _ _ _ h => h) (Or.inl ⟨by kernel_rfl, ?_⟩) (by assumption) ?_
      rotate_left
      · ((intro wq hSw; (try dsimp only at hSw); go_simp) <;> with_reducible rfl)
      (try simp only [List.getElem_toArray, List.getElem_cons_zero, List.getElem_cons_succ, Act.put, List.setIfInBounds_toArray, List.set_cons_zero, List.set_cons_succ]); (try dsimp only)
      refine wpAnyH_take (i := 10) (oi := _) (v := ?_) rfl (by kernel_rfl) (by kernel_rfl) (by kernel_rfl) (fun _ _ _ h => h) (Or.inl ⟨by kernel_rfl, ?_⟩) (by assumption) ?_
      rotate_left
      · ((intro wq hSw; (try dsimp only at hSw); go_simp) <;> with_reducible rfl)
      (try simp only [List.getElem_toArray, List.getElem_cons_zero, List.getElem_cons_succ, Act.put, List.setIfInBounds_toArray, List.set_cons_zero, List.set_cons_succ]); (try dsimp only)
      refine wpAnyH_ready (rs := [8]) (by kernel_rfl) (by simp) ?_
      refine AllReadyH.cons (o := _) rfl (fun K hK => ?_) AllReadyH.nil
      go_simp
      go_at_call 11
      refine ((unhide HPK) _ (by first | exact (Below.refl w3.heap.size w3).drew | exact below_drewN (Below.refl w3.heap.size w3) _ | exact Below.refl w3.heap.size w3)).mono ?_
      rintro r w5 ⟨a5, c5, rfl, r5, J5⟩
      refine hK.out _ _ ((unhide HS) _ J5) (fun hHeld => ?_)
      clear hK K
      (try simp only [List.getElem_toArray, List.getElem_cons_zero, List.getElem_cons_succ, Act.put, List.setIfInBounds_toArray, List.set_cons_zero, List.set_cons_succ]); (try dsimp only)
      refine wpAnyH_take (i := 9) (oi := _) (v := ?_) rfl (by kernel_rfl) (by kernel_rfl) (by kernel_rfl) (fun _ _ _ h => h) (Or.inl ⟨by kernel_rfl, ?_⟩) (by assumption) ?_
      rotate_left
      · ((intro wq hSw; (try dsimp only at hSw); go_simp) <;> with_reducible rfl)
      (try simp only [List.getElem_toArray, List.getElem_cons_zero, List.getElem_cons_succ, Act.put, List.setIfInBounds_toArray, List.set_cons_zero, List.set_cons_succ]); (try dsimp only)
      refine wpAnyH_ready (rs := [11]) (by kernel_rfl) (by simp) ?_
      refine AllReadyH.cons (o := _) rfl (fun K hK => ?_) AllReadyH.nil
      go_simp
      go_at_call 10
      refine (lwSame_any a5 s1 d.length c5 m1 c1 d d _ (by first | exact r5 | exact r5.below (below_drewN (Below.refl _ _) _) (Nat.le_refl _) | exact r5.below (Below.refl _ _).drew (Nat.le_refl _)) ((unhide HD) _ (by first | exact J5 | exact below_drewN J5 _ | exact J5.drew))).mono ?_
      rintro r w6 ⟨rfl, rfl⟩
      rw [unhide HSD]
      refine hK.out _ _ ((unhide HS) _ (by first | exact J5 | exact below_drewN J5 _ | exact J5.drew)) (fun hHeld => ?_)
      clear hK K
      (try simp only [List.getElem_toArray, List.getElem_cons_zero, List.getElem_cons_succ, Act.put, List.setIfInBounds_toArray, List.set_cons_zero, List.set_cons_succ]); (try dsimp only)
      refine wpAnyH_take (i := 12) (oi := _) (v := ?_) rfl (by kernel_rfl) (by kernel_rfl) (by kernel_rfl) (fun _ _ _ h => h) (Or.inl ⟨by kernel_rfl, ?_⟩) (by assumption) ?_
      rotate_left
      · ((intro wq hSw; (try dsimp only at hSw); go_simp) <;> with_reducible rfl)
      (try simp only [List.getElem_toArray, List.getElem_cons_zero, List.getElem_cons_succ, Act.put, List.setIfInBounds_toArray, List.set_cons_zero, List.set_cons_succ]); (try dsimp only)
      refine wpAnyH_take (i := 13) (oi := _) (v := ?_) rfl (by kernel_rfl) (by kernel_rfl) (by kernel_rfl) (fun _ _ _ h => h) (Or.inl ⟨by kernel_rfl, ?_⟩) (by assumption) ?_
      rotate_left
      · ((intro wq hSw; (try dsimp only at hSw); go_simp) <;> with_reducible rfl)
      (try simp only [List.getElem_toArray, List.getElem_cons_zero, List.getElem_cons_succ, Act.put, List.setIfInBounds_toArray, List.set_cons_zero, List.set_cons_succ]); (try dsimp only)
      refine wpAnyH_take (i := 14) (oi := _) (v := ?_) rfl (by kernel_rfl) (by kernel_rfl) (by kernel_rfl) (fun _ _ _ h => h) (Or.inl ⟨by kernel_rfl, ?_⟩) (by assumption) ?_
      rotate_left
      · ((intro wq hSw; (try dsimp only at hSw); go_simp) <;> with_reducible rfl)
      (try simp only [List.getElem_toArray, List.getElem_cons_zero, List.getElem_cons_succ, Act.put, List.setIfInBounds_toArray, List.set_cons_zero, List.set_cons_succ]); (try dsimp only)
      refine wpAnyH_take (i := 15) (oi := _) (v := ?_) rfl (by kernel_rfl) (by kernel_rfl) (by kernel_rfl) (fun _ _ _ h => h) (Or.inl ⟨by kernel_rfl, ?_⟩) (by assumption) ?_
      rotate_left
      · ((intro wq hSw; (try dsimp only at hSw); go_simp) <;> with_reducible rfl)
      (try simp only [List.getElem_toArray, List.getElem_cons_zero, List.getElem_cons_succ, Act.put, List.setIfInBounds_toArray, List.set_cons_zero, List.set_cons_succ]); (try dsimp only)
      refine wpAnyH_take (i := 16) (oi := _) (v := ?_) rfl (by kernel_rfl) (by kernel_rfl) (by kernel_rfl) (fun _ _ _ h => h) (Or.inl ⟨by kernel_rfl, ?_⟩) (by assumption) ?_
      rotate_left
      · ((intro wq hSw; (try dsimp only at hSw); go_simp) <;> with_reducible rfl)
      (try simp only [List.getElem_toArray, List.getElem_cons_zero, List.getElem_cons_succ, Act.put, List.setIfInBounds_toArray, List.set_cons_zero, List.set_cons_succ]); (try dsimp only)
      refine wpAnyH_take (i := 17) (oi := _) (v := ?_) rfl (by kernel_rfl) (by kernel_rfl) (by kernel_rfl) (fun _ _ _ h => h) (Or.inl ⟨by kernel_rfl, ?_⟩) (by assumption) ?_
      rotate_left
      · ((intro wq hSw; (try dsimp only at hSw); go_simp) <;> with_reducible rfl)
      (try simp only [List.getElem_toArray, List.getElem_cons_zero, List.getElem_cons_succ, Act.put, List.setIfInBounds_toArray, List.set_cons_zero, List.set_cons_succ]); (try dsimp only)
      refine wpAnyH_take (i := 18) (oi := _) (v := ?_) rfl (by kernel_rfl) (by kernel_rfl) (by kernel_rfl) (fun _ _ _ h => h) (Or.inl ⟨by kernel_rfl, ?_⟩) (by assumption) ?_
      rotate_left
      · ((intro wq hSw; (try dsimp only at hSw); go_simp) <;> with_reducible rfl)
      (try simp only [List.getElem_toArray, List.getElem_cons_zero, List.getElem_cons_succ, Act.put, List.setIfInBounds_toArray, List.set_cons_zero, List.set_cons_succ]); (try dsimp only)
      refine wpAnyH_take (i := 19) (oi := _) (v := undef) rfl (by kernel_rfl) (by kernel_rfl) (by kernel_rfl) (fun _ _ _ h => h) (Or.inr ⟨by kernel_rfl, rfl⟩) (by assumption) ?_
      (try simp only [List.getElem_toArray, List.getElem_cons_zero, List.getElem_cons_succ, Act.put, List.setIfInBounds_toArray, List.set_cons_zero, List.set_cons_succ]); (try dsimp only)
      refine wpAnyH_take (i := 20) (oi := _) (v := undef) rfl (by kernel_rfl) (by kernel_rfl) (by kernel_rfl) (fun _ _ _ h => h) (Or.inr ⟨by kernel_rfl, rfl⟩) (by assumption) ?_
      (try simp only [List.getElem_toArray, List.getElem_cons_zero, List.getElem_cons_succ, Act.put, List.setIfInBounds_toArray, List.set_cons_zero, List.set_cons_succ]); (try dsimp only)
      refine wpAnyH_take (i := 21) (oi := _) (v := undef) rfl (by kernel_rfl) (by kernel_rfl) (by kernel_rfl) (fun _ _ _ h => h) (Or.inr ⟨by kernel_rfl, rfl⟩) (by assumption) ?_
      (try simp only [List.getElem_toArray, List.getElem_cons_zero, List.getElem_cons_succ, Act.put, List.setIfInBounds_toArray, List.set_cons_zero, List.set_cons_succ]); (try dsimp only)
      refine wpAnyH_take (i := 22) (oi := _) (v := undef) rfl (by kernel_rfl) (by kernel_rfl) (by kernel_rfl) (fun _ _ _ h => h) (Or.inr ⟨by kernel_rfl, rfl⟩) (by assumption) ?_
      (try simp only [List.getElem_toArray, List.getElem_cons_zero, List.getElem_cons_succ, Act.put, List.setIfInBounds_toArray, List.set_cons_zero, List.set_cons_succ]); (try dsimp only)
      refine wpAnyH_take (i := 23) (oi := _) (v := undef) rfl (by kernel_rfl) (by kernel_rfl) (by kernel_rfl) (fun _ _ _ h => h) (Or.inr ⟨by kernel_rfl, rfl⟩) (by assumption) ?_
      (try simp only [List.getElem_toArray, List.getElem_cons_zero, List.getElem_cons_succ, Act.put, List.setIfInBounds_toArray, List.set_cons_zero, List.set_cons_succ]); (try dsimp only)
      refine wpAnyH_take (i := 24) (oi := _) (v := undef) rfl (by kernel_rfl) (by kernel_rfl) (by kernel_rfl) (fun _ _ _ h => h) (Or.inr ⟨by kernel_rfl, rfl⟩) (by assumption) ?_
      (try simp only [List.getElem_toArray, List.getElem_cons_zero, List.getElem_cons_succ, Act.put, List.setIfInBounds_toArray, List.set_cons_zero, List.set_cons_succ]); (try dsimp only)
      refine wpAnyH_take (i := 25) (oi := _) (v := ?_) rfl (by kernel_rfl) (by kernel_rfl) (by kernel_rfl) (fun _ _ _ h => h) (Or.inl ⟨by kernel_rfl, ?_⟩) (by assumption) ?_
      rotate_left
      · ((intro wq hSw; (try dsimp only at hSw); go_simp) <;> with_reducible rfl)
      (try simp only [List.getElem_toArray, List.getElem_cons_zero, List.getElem_cons_succ, Act.put, List.setIfInBounds_toArray, List.set_cons_zero, List.set_cons_succ]); (try dsimp only)
      refine wpAnyH_take (i := 26) (oi := _) (v := ?_) rfl (by kernel_rfl) (by kernel_rfl) (by kernel_rfl) (fun _ _ _ h => h) (Or.inl ⟨by kernel_rfl, ?_⟩) (by assumption) ?_
      rotate_left
      · ((intro wq hSw; (try dsimp only at hSw); go_simp) <;> with_reducible rfl)
      (try simp only [List.getElem_toArray, List.getElem_cons_zero, List.getElem_cons_succ, Act.put, List.setIfInBounds_toArray, List.set_cons_zero, List.set_cons_succ]); (try dsimp only)
      refine wpAnyH_done (by kernel_rfl) ?_ _
      have HJ := hide ((unhide HB3).trans (J5.mono (unhide HB3).size))
      clear J5 hHeld S0
      go_wp2_with fail
      refine (drawPP_any a len cap xs _ ((unhide HX).below (unhide HJ) (Nat.le_refl _)) hl).mono ?_
      rintro e w7 ⟨⟨s7, m7, c7, p, E7, rfl, r7, hm7, hc7⟩, b7⟩
      have B7 := (unhide HJ).trans (b7.mono (unhide HJ).size)
      have HSP := hide (fun (W : World) (hr : IRow W s7 m7 p) => specPack_any s7 m7 c7 p E7 W hr hc7 (by omega))
      have HIP := hide (implPack_any s7 m7 c7 p E7 w7 r7 hc7 (by omega))
      have HB7 := hide B7
      have HR7 := hide r7
      clear r7 b7 B7 HJ
      go_wp2_with fail
      refine (unhide HIP).mono ?_
      rintro e w8 ⟨a8, c8, rfl, o8, b8⟩
      have B8 := (unhide HB7).trans (b8.mono (unhide HB7).size)
      have r8 := BRow.own2 o8 (ppB_range p E7)
      have R8 := (unhide HR7).below b8 (Nat.le_refl _)
      by_cases hp : ppCode p = 0
      · obtain ⟨hk1, hk2, hk3, hk4⟩ := pp_back p E7 hp
        have hu1 : upCode (ppB p E7) = 0 := by unfold upCode; rw [hk1]; rfl
        have hu2 : upPath (ppB p E7) = p := by unfold upPath; rw [hk1, hk2]; rfl
        have hu3 : upEnd (ppB p E7) = E7 := by unfold upEnd; rw [hk1, hk3]; rfl
        have hpl7 : p.length = m7 := R8.1
        rw [hp]
        have hpbl := ppB_length p E7
        have HLEN := hide hk4
        have HIU : Hid (∀ W, BRow W a8 (ppB p E7).length (ppB p E7) → Calls Try.prog 9 #[.slice a8 (ppB p E7).length c8] W fun e w' => ∃ a' c', e = .returned (.agg #[.int .i64 0, .slice a' p.length c', .bool E7]) ∧ IRow w' a' p.length p ∧ Below W.heap.size W w') := fun W hr => by
          refine (implUnpack_any a8 (ppB p E7).length c8 (ppB p E7) W hr (by omega)).mono ?_
          rintro e w' ⟨a', c', rfl, o', b'⟩
          rw [hu1, hu2, hu3] at *
          exact ⟨a', c', rfl, o'.irow, b'⟩
        generalize ppB p E7 = pb at *
        obtain ⟨b9, s9, p0, p1⟩ := new2 w8 (.int .i64 0) (.slice a8 pb.length c8) 31
        obtain ⟨w9, e9⟩ : ∃ W, w8.alloc (.cells #[.int .i64 0, .slice a8 pb.length c8] 31) = W := ⟨_, rfl⟩
        rw [e9] at b9 s9 p0 p1
        have HIU9 := hide ((unhide HIU) w9 (r8.below b9 (Nat.le_refl _)))
        have B9 := B8.trans (b9.mono B8.size)
        have HB9 := hide B9
        have HR9 := hide (R8.below b9 (Nat.le_refl _))
        have E9 := hide e9
        have HP0 := hide p0
        have HP1 := hide p1
        clear b9 B9 B8 r8 R8 o8 b8 e9 hk1 hk2 hk3 hk4 hu1 hu2 hu3 HIU HIP HSP HB7 HR7 hp
        go_wp2_with (rw [unhide E9])
        refine (unhide HIU9).mono ?_
        rintro e w10 ⟨a10, c10, rfl, r10, b10⟩
        obtain ⟨b11, s11, q0, q1, q2⟩ := new3 w10 (.int .i64 0) (.slice a10 p.length c10) (.bool E7) 27
        obtain ⟨w11, e11⟩ : ∃ W, w10.alloc (.cells #[.int .i64 0, .slice a10 p.length c10, .bool E7] 27) = W := ⟨_, rfl⟩
        rw [e11] at b11 s11 q0 q1 q2
        have K11 := b10.trans (b11.mono b10.size)
        have p1' := (K11.cell s9).trans (unhide HP1)
        have HB11 := hide ((unhide HB9).trans (K11.mono (unhide HB9).size))
        have HR11 := hide ((unhide HR9).below K11 (Nat.le_refl _))
        have HA11 := hide (r10.below b11 (Nat.le_refl _))
        have E11 := hide e11
        have hE7 : (E7 == E7) = true := by simp
        have hlen := unhide HLEN
        rw [hpl7] at hlen
        obtain ⟨H7, hH7⟩ : ∃ H, H = m7 / 2 := ⟨_, rfl⟩
        obtain ⟨L8, hL8⟩ : ∃ L, L = pb.length := ⟨_, rfl⟩
        rw [← hL8] at p1' HP1
        have hd2 : (m7 : Int).tdiv 2 = (H7 : Int) := by rw [Int.tdiv_eq_ediv_of_nonneg (by omega)]; omega
        have hd3 : IntKind.i64.wrap (H7 : Int) = (H7 : Int) := i64_up _ (by omega) (by omega)
        have hd4 : (H7 : Int) + 1 = (L8 : Int) := by omega
        have hd5 : IntKind.i64.wrap (L8 : Int) = (L8 : Int) := i64_up _ (by omega) (by omega)
        have hd6 : ((L8 : Int) == (L8 : Int)) = true := by simp
        have HSX : Hid (sameB p p = true) := by show sameB p p = true; simp [sameB]
        rw [← hL8]
        have HL7 := hide hpl7
        clear hlen hH7 hL8 HLEN HIU9 HR9 HP0 HP1 E9 r10 b10 b11 e11 K11 HB9 p0 p1 hpl7
        go_wp2_with (rw [unhide E11])
        refine (lwNums_any a10 s7 p.length c10 m7 c7 p p w11 (unhide HA11) (unhide HR11) (by have := unhide HL7; omega) (by omega)).mono ?_
        rintro e w12 ⟨rfl, n12, rfl⟩
        rw [unhide HSX]
        go_wp2_with fail
        go_ret
        exact ⟨rfl, below_drewN (unhide HB11) _⟩
      · have hpb : (ppCode p != 0) = true := by simp [hp]
        have hps : (ppCode p == ppCode p) = true := by simp
        generalize ppCode p = pc7 at *
        generalize ppB p E7 = pb at *
        obtain ⟨b9, s9, p0, p1⟩ := new2 w8 (.int .i64 pc7) (.slice a8 pb.length c8) 31
        have B9 := B8.trans (b9.mono B8.size)
        have HB9 := hide B9
        have HR9 := hide (R8.below b9 (Nat.le_refl _))
        have HP0 := hide p0
        clear b9 B9 B8 r8 R8 o8 b8 p0 p1 HIP HB7 HR7
        go_wp2_with fail
        obtain ⟨w9, e9⟩ : ∃ W, w8.alloc (.cells #[.int .i64 pc7, .slice a8 pb.length c8] 31) = W := ⟨_, rfl⟩
        rw [e9] at HB9 HR9 HP0 s9 ⊢
        clear e9
        have p0 := unhide HP0
        go_region_held3 (fun W => W.cell? ⟨w8.heap.size, 0, none⟩ = some (.int .i64 pc7)) (first | assumption | exact e2 | go_keep)
          ((go_at_call 14; refine ((unhide HSP) _ ((unhide HR9).below (by first | exact (Below.refl _ _).drew | exact below_drewN (Below.refl _ _) _ | exact Below.refl _ _) (Nat.le_refl _))).mono ?_; rintro e w18 ⟨a18, d18, rfl, q18, b18⟩; have KX : Hid (Below w9.heap.size w9 w18) := Below.trans (by first | exact (Below.refl _ _).drew | exact below_drewN (Below.refl _ _) _ | exact Below.refl _ _) (b18.mono (by first | exact Nat.le_refl _ | exact (below_drewN (Below.refl w9.heap.size w9) _).size)); have e2 := ((unhide KX).cell s9).trans (unhide HP0); clear b18 q18))
        all_goals
          go_wp2_with fail
          go_ret
          exact ⟨rfl, (unhide HB9).trans ((unhide KX).mono (unhide HB9).size)⟩
    · have hcb : (cc == 0) = false := by simp [hc]
      have hcn : (cc != 0) = true := by simp [hc]
      have hcs : (cc != cc) = false := by simp
      have HUP : Hid (∀ W, Below w3.heap.size w3 W → Calls Try.prog 12 #[.slice s1 m1 c1] W fun e w' => ∃ a' c', e = .returned (.agg #[.int .i64 cc, .slice a' P.length c', .bool E]) ∧ Below w3.heap.size w3 w') := fun W hb => by
        refine ((unhide HSU) W ((unhide HD) W hb)).mono ?_
        rintro e w' ⟨a', c', rfl, b'⟩
        exact ⟨a', c', rfl, hb.trans (b'.mono hb.size)⟩
      clear HUC HSU HPR hcap2
      go_upto_region 5 with fail
      rw [unhide E3]
      clear E3
      have S0 := (unhide HS) w3 (Below.refl _ _)
      refine wp_region_held_drew (S := (fun W => W.cell? ⟨w2.heap.size, 0, none⟩ = some (.int .i64 cc) ∧ W.cell? ⟨w2.heap.size, 1, none⟩ = some (.slice a2 P.length c2) ∧ W.cell? ⟨w2.heap.size, 2, none⟩ = some (.bool E))) (by kernel_rfl) ((unhide HS) _ (Below.refl w3.heap.size w3).drew) (fun hHeld => ?_)
      refine wpAnyH_take (i := 0) (oi := _) (v := ?_) rfl (by kernel_rfl) (by kernel_rfl) (by kernel_rfl) (fun _ _ _ h => h) (Or.inl ⟨by kernel_rfl, ?_⟩) (by assumption) ?_
      rotate_left
      · ((intro wq hSw; (try dsimp only at hSw); go_simp) <;> with_reducible rfl)
      (try simp only [List.getElem_toArray, List.getElem_cons_zero, List.getElem_cons_succ, Act.put, List.setIfInBounds_toArray, List.set_cons_zero, List.set_cons_succ]); (try dsimp only)
      refine wpAnyH_take (i := 1) (oi := _) (v := ?_) rfl (by kernel_rfl) (by kernel_rfl) (by kernel_rfl) (fun _ _ _ h => h) (Or.inl ⟨by kernel_rfl, ?_⟩) (by assumption) ?_
      rotate_left
      · ((intro wq hSw; (try dsimp only at hSw); go_simp) <;> with_reducible rfl)
      (try simp only [List.getElem_toArray, List.getElem_cons_zero, List.getElem_cons_succ, Act.put, List.setIfInBounds_toArray, List.set_cons_zero, List.set_cons_succ]); (try dsimp only)
      refine wpAnyH_take (i := 2) (oi := _) (v := ?_) rfl (by kernel_rfl) (by kernel_rfl) (by kernel_rfl) (fun _ _ _ h => h) (Or.inl ⟨by kernel_rfl, ?_⟩) (by assumption) ?_
      rotate_left
      · ((intro wq hSw; (try dsimp only at hSw); go_simp) <;> with_reducible rfl)
      (try simp only [List.getElem_toArray, List.getElem_cons_zero, List.getElem_cons_succ, Act.put, List.setIfInBounds_toArray, List.set_cons_zero, List.set_cons_succ]); (try dsimp only)
      refine wpAnyH_take (i := 3) (oi := _) (v := ?_) rfl (by kernel_rfl) (by kernel_rfl) (by kernel_rfl) (fun _ _ _ h => h) (Or.inl ⟨by kernel_rfl, ?_⟩) (by assumption) ?_
      rotate_left
      · ((intro wq hSw; (try dsimp only at hSw); go_simp) <;> with_reducible rfl)
      (try simp only [List.getElem_toArray, List.getElem_cons_zero, List.getElem_cons_succ, Act.put, List.setIfInBounds_toArray, List.set_cons_zero, List.set_cons_succ]); (try dsimp only)
      refine wpAnyH_take (i := 4) (oi := _) (v := undef) rfl (by kernel_rfl) (by kernel_rfl) (by kernel_rfl) (fun _ _ _ h => h) (Or.inr ⟨by kernel_rfl, rfl⟩) (by assumption) ?_
      (try simp only [List.getElem_toArray, List.getElem_cons_zero, List.getElem_cons_succ, Act.put, List.setIfInBounds_toArray, List.set_cons_zero, List.set_cons_succ]); (try dsimp only)
      refine wpAnyH_take (i := 5) (oi := _) (v := undef) rfl (by kernel_rfl) (by kernel_rfl) (by kernel_rfl) (fun _ _ _ h => h) (Or.inr ⟨by kernel_rfl, rfl⟩) (by assumption) ?_
      (try simp only [List.getElem_toArray, List.getElem_cons_zero, List.getElem_cons_succ, Act.put, List.setIfInBounds_toArray, List.set_cons_zero, List.set_cons_succ]); (try dsimp only)
      refine wpAnyH_take (i := 6) (oi := _) (v := undef) rfl (by kernel_rfl) (by kernel_rfl) (by kernel_rfl) (fun _ _ _ h => h) (Or.inr ⟨by kernel_rfl, rfl⟩) (by assumption) ?_
      (try simp only [List.getElem_toArray, List.getElem_cons_zero, List.getElem_cons_succ, Act.put, List.setIfInBounds_toArray, List.set_cons_zero, List.set_cons_succ]); (try dsimp only)
      refine wpAnyH_take (i := 7) (oi := _) (v := undef) rfl (by kernel_rfl) (by kernel_rfl) (by kernel_rfl) (fun _ _ _ h => h) (Or.inr ⟨by kernel_rfl, rfl⟩) (by assumption) ?_
      (try simp only [List.getElem_toArray, List.getElem_cons_zero, List.getElem_cons_succ, Act.put, List.setIfInBounds_toArray, List.set_cons_zero, List.set_cons_succ]); (try dsimp only)
      refine wpAnyH_take (i := 8) (oi := _) (v := undef) rfl (by kernel_rfl) (by kernel_rfl) (by kernel_rfl) (fun _ _ _ h => h) (Or.inr ⟨by kernel_rfl, rfl⟩) (by assumption) ?_
      (try simp only [List.getElem_toArray, List.getElem_cons_zero, List.getElem_cons_succ, Act.put, List.setIfInBounds_toArray, List.set_cons_zero, List.set_cons_succ]); (try dsimp only)
      refine wpAnyH_take (i := 9) (oi := _) (v := undef) rfl (by kernel_rfl) (by kernel_rfl) (by kernel_rfl) (fun _ _ _ h => h) (Or.inr ⟨by kernel_rfl, rfl⟩) (by assumption) ?_
      (try simp only [List.getElem_toArray, List.getElem_cons_zero, List.getElem_cons_succ, Act.put, List.setIfInBounds_toArray, List.set_cons_zero, List.set_cons_succ]); (try dsimp only)
      refine wpAnyH_take (i := 10) (oi := _) (v := undef) rfl (by kernel_rfl) (by kernel_rfl) (by kernel_rfl) (fun _ _ _ h => h) (Or.inr ⟨by kernel_rfl, rfl⟩) (by assumption) ?_
      (try simp only [List.getElem_toArray, List.getElem_cons_zero, List.getElem_cons_succ, Act.put, List.setIfInBounds_toArray, List.set_cons_zero, List.set_cons_succ]); (try dsimp only)
      refine wpAnyH_take (i := 11) (oi := _) (v := undef) rfl (by kernel_rfl) (by kernel_rfl) (by kernel_rfl) (fun _ _ _ h => h) (Or.inr ⟨by kernel_rfl, rfl⟩) (by assumption) ?_
      (try simp only [List.getElem_toArray, List.getElem_cons_zero, List.getElem_cons_succ, Act.put, List.setIfInBounds_toArray, List.set_cons_zero, List.set_cons_succ]); (try dsimp only)
      refine wpAnyH_take (i := 12) (oi := _) (v := undef) rfl (by kernel_rfl) (by kernel_rfl) (by kernel_rfl) (fun _ _ _ h => h) (Or.inr ⟨by kernel_rfl, rfl⟩) (by assumption) ?_
      (try simp only [List.getElem_toArray, List.getElem_cons_zero, List.getElem_cons_succ, Act.put, List.setIfInBounds_toArray, List.set_cons_zero, List.set_cons_succ]); (try dsimp only)
      refine wpAnyH_take (i := 13) (oi := _) (v := ?_) rfl (by kernel_rfl) (by kernel_rfl) (by kernel_rfl) (fun _ _ _ h => h) (Or.inl ⟨by kernel_rfl, ?_⟩) (by assumption) ?_
      rotate_left
      · ((intro wq hSw; (try dsimp only at hSw); go_simp) <;> with_reducible rfl)
      (try simp only [List.getElem_toArray, List.getElem_cons_zero, List.getElem_cons_succ, Act.put, List.setIfInBounds_toArray, List.set_cons_zero, List.set_cons_succ]); (try dsimp only)
      refine wpAnyH_take (i := 14) (oi := _) (v := ?_) rfl (by kernel_rfl) (by kernel_rfl) (by kernel_rfl) (fun _ _ _ h => h) (Or.inl ⟨by kernel_rfl, ?_⟩) (by assumption) ?_
      rotate_left
      · ((intro wq hSw; (try dsimp only at hSw); go_simp) <;> with_reducible rfl)
      (try simp only [List.getElem_toArray, List.getElem_cons_zero, List.getElem_cons_succ, Act.put, List.setIfInBounds_toArray, List.set_cons_zero, List.set_cons_succ]); (try dsimp only)
      refine wpAnyH_take (i := 15) (oi := _) (v := ?_) rfl (by kernel_rfl) (by kernel_rfl) (by kernel_rfl) (fun _ _ _ h => h) (Or.inl ⟨by kernel_rfl, ?_⟩) (by assumption) ?_
      rotate_left
      · ((intro wq hSw; (try dsimp only at hSw); go_simp) <;> with_reducible rfl)
      (try simp only [List.getElem_toArray, List.getElem_cons_zero, List.getElem_cons_succ, Act.put, List.setIfInBounds_toArray, List.set_cons_zero, List.set_cons_succ]); (try dsimp only)
      refine wpAnyH_take (i := 16) (oi := _) (v := ?_) rfl (by kernel_rfl) (by kernel_rfl) (by kernel_rfl) (fun _ _ _ h => h) (Or.inl ⟨by kernel_rfl, ?_⟩) (by assumption) ?_
      rotate_left
      · ((intro wq hSw; (try dsimp only at hSw); go_simp) <;> with_reducible rfl)
      (try simp only [List.getElem_toArray, List.getElem_cons_zero, List.getElem_cons_succ, Act.put, List.setIfInBounds_toArray, List.set_cons_zero, List.set_cons_succ]); (try dsimp only)
      refine wpAnyH_take (i := 17) (oi := _) (v := ?_) rfl (by kernel_rfl) (by kernel_rfl) (by kernel_rfl) (fun _ _ _ h => h) (Or.inl ⟨by kernel_rfl, ?_⟩) (by assumption) ?_
      rotate_left
      · ((intro wq hSw; (try dsimp only at hSw); go_simp) <;> with_reducible rfl)
      (try simp only [List.getElem_toArray, List.getElem_cons_zero, List.getElem_cons_succ, Act.put, List.setIfInBounds_toArray, List.set_cons_zero, List.set_cons_succ]); (try dsimp only)
      refine wpAnyH_take (i := 18) (oi := _) (v := ?_) rfl (by kernel_rfl) (by kernel_rfl) (by kernel_rfl) (fun _ _ _ h => h) (Or.inl ⟨by kernel_rfl, ?_⟩) (by assumption) ?_
      rotate_left
      · ((intro wq hSw; (try dsimp only at hSw); go_simp) <;> with_reducible rfl)
      (try simp only [List.getElem_toArray, List.getElem_cons_zero, List.getElem_cons_succ, Act.put, List.setIfInBounds_toArray, List.set_cons_zero, List.set_cons_succ]); (try dsimp only)
      refine wpAnyH_take (i := 19) (oi := _) (v := ?_) rfl (by kernel_rfl) (by kernel_rfl) (by kernel_rfl) (fun _ _ _ h => h) (Or.inl ⟨by kernel_rfl, ?_⟩) (by assumption) ?_
      rotate_left
      · ((intro wq hSw; (try dsimp only at hSw); go_simp) <;> with_reducible rfl)
      (try simp only [List.getElem_toArray, List.getElem_cons_zero, List.getElem_cons_succ, Act.put, List.setIfInBounds_toArray, List.set_cons_zero, List.set_cons_succ]); (try dsimp only)
      refine wpAnyH_take (i := 22) (oi := _) (v := ?_) rfl (by kernel_rfl) (by kernel_rfl) (by kernel_rfl) (fun _ _ _ h => h) (Or.inl ⟨by kernel_rfl, ?_⟩) (by assumption) ?_
      rotate_left
      · ((intro wq hSw; (try dsimp only at hSw); go_simp) <;> with_reducible rfl)
      (try simp only [List.getElem_toArray, List.getElem_cons_zero, List.getElem_cons_succ, Act.put, List.setIfInBounds_toArray, List.set_cons_zero, List.set_cons_succ]); (try dsimp only)
      refine wpAnyH_take (i := 23) (oi := _) (v := ?_) rfl (by kernel_rfl) (by kernel_rfl) (by kernel_rfl) (fun _ _ _ h => h) (Or.inl ⟨by kernel_rfl, ?_⟩) (by assumption) ?_
      rotate_left
      · ((intro wq hSw; (try dsimp only at hSw); go_simp) <;> with_reducible rfl)
      (try simp only [List.getElem_toArray, List.getElem_cons_zero, List.getElem_cons_succ, Act.put, List.setIfInBounds_toArray, List.set_cons_zero, List.set_cons_succ]); (try dsimp only)
      refine wpAnyH_ready (rs := [20]) (by kernel_rfl) (by simp) ?_
      refine AllReadyH.cons (o := _) rfl (fun K hK => ?_) AllReadyH.nil
      go_simp
      go_at_call 12
      refine ((unhide HUP) _ (by first | exact (Below.refl w3.heap.size w3).drew | exact below_drewN (Below.refl w3.heap.size w3) _ | exact Below.refl w3.heap.size w3)).mono ?_
      rintro r w5 ⟨a5, c5, rfl, J5⟩
      refine hK.out _ _ ((unhide HS) _ J5) (fun hHeld => ?_)
      clear hK K
      (try simp only [List.getElem_toArray, List.getElem_cons_zero, List.getElem_cons_succ, Act.put, List.setIfInBounds_toArray, List.set_cons_zero, List.set_cons_succ]); (try dsimp only)
      refine wpAnyH_take (i := 21) (oi := _) (v := ?_) rfl (by kernel_rfl) (by kernel_rfl) (by kernel_rfl) (fun _ _ _ h => h) (Or.inl ⟨by kernel_rfl, ?_⟩) (by assumption) ?_
      rotate_left
      · ((intro wq hSw; (try dsimp only at hSw); go_simp) <;> with_reducible rfl)
      (try simp only [List.getElem_toArray, List.getElem_cons_zero, List.getElem_cons_succ, Act.put, List.setIfInBounds_toArray, List.set_cons_zero, List.set_cons_succ]); (try dsimp only)
      refine wpAnyH_take (i := 24) (oi := _) (v := ?_) rfl (by kernel_rfl) (by kernel_rfl) (by kernel_rfl) (fun _ _ _ h => h) (Or.inl ⟨by kernel_rfl, ?_⟩) (by assumption) ?_
      rotate_left
      · ((intro wq hSw; (try dsimp only at hSw); go_simp) <;> with_reducible rfl)
      (try simp only [List.getElem_toArray, List.getElem_cons_zero, List.getElem_cons_succ, Act.put, List.setIfInBounds_toArray, List.set_cons_zero, List.set_cons_succ]); (try dsimp only)
      refine wpAnyH_take (i := 25) (oi := _) (v := ?_) rfl (by kernel_rfl) (by kernel_rfl) (by kernel_rfl) (fun _ _ _ h => h) (Or.inl ⟨by kernel_rfl, ?_⟩) (by assumption) ?_
      rotate_left
      · ((intro wq hSw; (try dsimp only at hSw); go_simp) <;> with_reducible rfl)
      (try simp only [List.getElem_toArray, List.getElem_cons_zero, List.getElem_cons_succ, Act.put, List.setIfInBounds_toArray, List.set_cons_zero, List.set_cons_succ]); (try dsimp only)
      refine wpAnyH_take (i := 26) (oi := _) (v := ?_) rfl (by kernel_rfl) (by kernel_rfl) (by kernel_rfl) (fun _ _ _ h => h) (Or.inl ⟨by kernel_rfl, ?_⟩) (by assumption) ?_
      rotate_left
      · ((intro wq hSw; (try dsimp only at hSw); go_simp) <;> with_reducible rfl)
      (try simp only [List.getElem_toArray, List.getElem_cons_zero, List.getElem_cons_succ, Act.put, List.setIfInBounds_toArray, List.set_cons_zero, List.set_cons_succ]); (try dsimp only)
      refine wpAnyH_done (by kernel_rfl) ?_ _
      have HJ := hide ((unhide HB3).trans (J5.mono (unhide HB3).size))
      clear J5 hHeld S0
      go_wp2_with fail
      refine (drawPP_any a len cap xs _ ((unhide HX).below (unhide HJ) (Nat.le_refl _)) hl).mono ?_
      rintro e w7 ⟨⟨s7, m7, c7, p, E7, rfl, r7, hm7, hc7⟩, b7⟩
      have B7 := (unhide HJ).trans (b7.mono (unhide HJ).size)
      have HSP := hide (fun (W : World) (hr : IRow W s7 m7 p) => specPack_any s7 m7 c7 p E7 W hr hc7 (by omega))
      have HIP := hide (implPack_any s7 m7 c7 p E7 w7 r7 hc7 (by omega))
      have HB7 := hide B7
      have HR7 := hide r7
      clear r7 b7 B7 HJ
      go_wp2_with fail
      refine (unhide HIP).mono ?_
      rintro e w8 ⟨a8, c8, rfl, o8, b8⟩
      have B8 := (unhide HB7).trans (b8.mono (unhide HB7).size)
      have r8 := BRow.own2 o8 (ppB_range p E7)
      have R8 := (unhide HR7).below b8 (Nat.le_refl _)
      by_cases hp : ppCode p = 0
      · obtain ⟨hk1, hk2, hk3, hk4⟩ := pp_back p E7 hp
        have hu1 : upCode (ppB p E7) = 0 := by unfold upCode; rw [hk1]; rfl
        have hu2 : upPath (ppB p E7) = p := by unfold upPath; rw [hk1, hk2]; rfl
        have hu3 : upEnd (ppB p E7) = E7 := by unfold upEnd; rw [hk1, hk3]; rfl
        have hpl7 : p.length = m7 := R8.1
        rw [hp]
        have hpbl := ppB_length p E7
        have HLEN := hide hk4
        have HIU : Hid (∀ W, BRow W a8 (ppB p E7).length (ppB p E7) → Calls Try.prog 9 #[.slice a8 (ppB p E7).length c8] W fun e w' => ∃ a' c', e = .returned (.agg #[.int .i64 0, .slice a' p.length c', .bool E7]) ∧ IRow w' a' p.length p ∧ Below W.heap.size W w') := fun W hr => by
          refine (implUnpack_any a8 (ppB p E7).length c8 (ppB p E7) W hr (by omega)).mono ?_
          rintro e w' ⟨a', c', rfl, o', b'⟩
          rw [hu1, hu2, hu3] at *
          exact ⟨a', c', rfl, o'.irow, b'⟩
        generalize ppB p E7 = pb at *
        obtain ⟨b9, s9, p0, p1⟩ := new2 w8 (.int .i64 0) (.slice a8 pb.length c8) 31
        obtain ⟨w9, e9⟩ : ∃ W, w8.alloc (.cells #[.int .i64 0, .slice a8 pb.length c8] 31) = W := ⟨_, rfl⟩
        rw [e9] at b9 s9 p0 p1
        have HIU9 := hide ((unhide HIU) w9 (r8.below b9 (Nat.le_refl _)))
        have B9 := B8.trans (b9.mono B8.size)
        have HB9 := hide B9
        have HR9 := hide (R8.below b9 (Nat.le_refl _))
        have E9 := hide e9
        have HP0 := hide p0
        have HP1 := hide p1
        clear b9 B9 B8 r8 R8 o8 b8 e9 hk1 hk2 hk3 hk4 hu1 hu2 hu3 HIU HIP HSP HB7 HR7 hp
        go_wp2_with (rw [unhide E9])
        refine (unhide HIU9).mono ?_
        rintro e w10 ⟨a10, c10, rfl, r10, b10⟩
        obtain ⟨b11, s11, q0, q1, q2⟩ := new3 w10 (.int .i64 0) (.slice a10 p.length c10) (.bool E7) 27
        obtain ⟨w11, e11⟩ : ∃ W, w10.alloc (.cells #[.int .i64 0, .slice a10 p.length c10, .bool E7] 27) = W := ⟨_, rfl⟩
        rw [e11] at b11 s11 q0 q1 q2
        have K11 := b10.trans (b11.mono b10.size)
        have p1' := (K11.cell s9).trans (unhide HP1)
        have HB11 := hide ((unhide HB9).trans (K11.mono (unhide HB9).size))
        have HR11 := hide ((unhide HR9).below K11 (Nat.le_refl _))
        have HA11 := hide (r10.below b11 (Nat.le_refl _))
        have E11 := hide e11
        have hE7 : (E7 == E7) = true := by simp
        have hlen := unhide HLEN
        rw [hpl7] at hlen
        obtain ⟨H7, hH7⟩ : ∃ H, H = m7 / 2 := ⟨_, rfl⟩
        obtain ⟨L8, hL8⟩ : ∃ L, L = pb.length := ⟨_, rfl⟩
        rw [← hL8] at p1' HP1
        have hd2 : (m7 : Int).tdiv 2 = (H7 : Int) := by rw [Int.tdiv_eq_ediv_of_nonneg (by omega)]; omega
        have hd3 : IntKind.i64.wrap (H7 : Int) = (H7 : Int) := i64_up _ (by omega) (by omega)
        have hd4 : (H7 : Int) + 1 = (L8 : Int) := by omega
        have hd5 : IntKind.i64.wrap (L8 : Int) = (L8 : Int) := i64_up _ (by omega) (by omega)
        have hd6 : ((L8 : Int) == (L8 : Int)) = true := by simp
        have HSX : Hid (sameB p p = true) := by show sameB p p = true; simp [sameB]
        rw [← hL8]
        have HL7 := hide hpl7
        clear hlen hH7 hL8 HLEN HIU9 HR9 HP0 HP1 E9 r10 b10 b11 e11 K11 HB9 p0 p1 hpl7
        go_wp2_with (rw [unhide E11])
        refine (lwNums_any a10 s7 p.length c10 m7 c7 p p w11 (unhide HA11) (unhide HR11) (by have := unhide HL7; omega) (by omega)).mono ?_
        rintro e w12 ⟨rfl, n12, rfl⟩
        rw [unhide HSX]
        go_wp2_with fail
        go_ret
        exact ⟨rfl, below_drewN (unhide HB11) _⟩
      · have hpb : (ppCode p != 0) = true := by simp [hp]
        have hps : (ppCode p == ppCode p) = true := by simp
        generalize ppCode p = pc7 at *
        generalize ppB p E7 = pb at *
        obtain ⟨b9, s9, p0, p1⟩ := new2 w8 (.int .i64 pc7) (.slice a8 pb.length c8) 31
        have B9 := B8.trans (b9.mono B8.size)
        have HB9 := hide B9
        have HR9 := hide (R8.below b9 (Nat.le_refl _))
        have HP0 := hide p0
        clear b9 B9 B8 r8 R8 o8 b8 p0 p1 HIP HB7 HR7
        go_wp2_with fail
        obtain ⟨w9, e9⟩ : ∃ W, w8.alloc (.cells #[.int .i64 pc7, .slice a8 pb.length c8] 31) = W := ⟨_, rfl⟩
        rw [e9] at HB9 HR9 HP0 s9 ⊢
        clear e9
        have p0 := unhide HP0
        go_region_held3 (fun W => W.cell? ⟨w8.heap.size, 0, none⟩ = some (.int .i64 pc7)) (first | assumption | exact e2 | go_keep)
          ((go_at_call 14; refine ((unhide HSP) _ ((unhide HR9).below (by first | exact (Below.refl _ _).drew | exact below_drewN (Below.refl _ _) _ | exact Below.refl _ _) (Nat.le_refl _))).mono ?_; rintro e w18 ⟨a18, d18, rfl, q18, b18⟩; have KX : Hid (Below w9.heap.size w9 w18) := Below.trans (by first | exact (Below.refl _ _).drew | exact below_drewN (Below.refl _ _) _ | exact Below.refl _ _) (b18.mono (by first | exact Nat.le_refl _ | exact (below_drewN (Below.refl w9.heap.size w9) _).size)); have e2 := ((unhide KX).cell s9).trans (unhide HP0); clear b18 q18))
        all_goals
          go_wp2_with fail
          go_ret
          exact ⟨rfl, (unhide HB9).trans ((unhide KX).mono (unhide HB9).size)⟩
  · have hd : decide (1048576 < (len : Int)) = true := decide_eq_true (by omega)
    go_enter Try.func3, Try.ntmps3
    go_wp2_with fail
    refine (lwBig_any a len cap w).mono ?_
    rintro e w' ⟨rfl, rfl⟩
    rw [hd]
    go_wp2_with fail
    go_ret
    exact ⟨rfl, Below.refl _ _⟩

end Go.Proofs.Ytihdmdbekdadlaa
