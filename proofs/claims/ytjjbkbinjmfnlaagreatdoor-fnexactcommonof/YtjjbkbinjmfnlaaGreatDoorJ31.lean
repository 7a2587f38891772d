/- What is proved here: what IsBetter of the program and of the model answers. -/
import Derived.Test.YtjjbkbinjmfnlaaGreatDoorJ16
import Derived.Test.YtjjbkbinjmfnlaaGreatDoorJ19
import Derived.Test.YtjjbkbinjmfnlaaGreatDoorJ25
namespace Go.Proofs.YtjjbkbinjmfnlaaGreatDoor
open Go.RowKit
set_option linter.unusedVariables false
set_option linter.unusedSimpArgs false
set_option maxRecDepth 100000

def ibVal (x : St) (a b : Int) : Bool := if plsCode x [a, b] = 0 then btAt x.2 a.toNat b.toNat else false

theorem ib_cases (x : St) (a b : Int) : ibVal x a b = if stFlt x = 0 then (if within a 0 ((x.2.length : Int) - 1) = true then (if within b 0 ((x.2.length : Int) - 1) = true then btAt x.2 a.toNat b.toNat else false) else false) else false := by
  unfold ibVal plsCode plsOk
  simp only [List.all_cons, List.all_nil, Bool.and_true]
  by_cases h : stFlt x = 0
  · simp only [if_pos h]
    cases within a 0 ((x.2.length : Int) - 1)
    · simp
    · cases within b 0 ((x.2.length : Int) - 1)
      · simp
      · simp
  · simp only [if_neg h]

theorem fkAl {w w' : World} (h : Below w.heap.size w w') (o : Obj) : Below w.heap.size w (w'.alloc o) := h.alloc h.size o

theorem irow2 (w : World) (a b : Int) : IRow (w.alloc (.cells #[.int .i64 a, .int .i64 b] 2)) (some ⟨w.heap.size, 0, none⟩) 2 [a, b] := by
  have k := SBlk.new w #[.int .i64 a, .int .i64 b] 2
  refine ⟨rfl, True.intro, (fun h => absurd h (by simp)), fun y hy i hi => ?_⟩
  obtain rfl : (⟨w.heap.size, 0, none⟩ : Addr) = y := Option.some.inj hy
  have h := k.cell i
  match i, hi with
  | 0, _ => exact h
  | 1, _ => exact h

theorem within_nat {a : Int} {n : Nat} (h : within a 0 ((n : Int) - 1) = true) : ∃ i : Nat, a = (i : Int) ∧ i < n := by
  simp only [within, decide_eq_true_eq] at h
  exact ⟨a.toNat, by omega, by omega⟩

set_option maxHeartbeats 1000000 in
theorem entryAt_nat (b off n c k : Nat) (w : World) (hk : k < n) :
    Calls Tryz.prog 46 #[.slice (some ⟨b, off, none⟩) n c, .int .i64 (k : Int)] w fun r w' => r = .returned (.pointer (some ⟨b, off + k * 14, none⟩)) ∧ w' = w := by
  have d1 : (((k : Nat) : Int) == -1) = false := by simp
  have i1 : (0 : Int) ≤ (k : Int) := by omega
  have i2 : (k : Int) < (n : Int) := by omega
  clear hk
  go_enter Tryz.func46, Tryz.ntmps46
  go_wp2_with fail
  go_ret
  exact ⟨rfl, rfl⟩

set_option maxHeartbeats 1000000 in
theorem l11Place_any (g of' : Nat) (s : Sl) (xs : List En) (p : Int) (w : World) (hc : w.cell? ⟨g, of' + 3, none⟩ = some (.slice s.a s.n s.c)) (o : RowOk enK w s xs) :
    Calls Tryz.prog 43 #[.pointer (some ⟨g, of', none⟩), .int .i64 p] w fun r w' => r = .returned (.bool (within p 0 ((xs.length : Int) - 1))) ∧ w' = w := by
  have hl := o.len
  have hm : s.n ≤ maxLen := Nat.le_trans o.room o.max
  unfold maxLen at hm
  have D1 := hide (in_any p 0 ((s.n : Int) - 1) w)
  rw [show decide (0 ≤ p ∧ p ≤ (s.n : Int) - 1) = within p 0 ((s.n : Int) - 1) from rfl] at D1
  rw [← hl]
  generalize within p 0 ((s.n : Int) - 1) = c at D1 ⊢
  have wn : IntKind.i64.wrap ((s.n : Nat) : Int) = ((s.n : Nat) : Int) := by rw [IntKind.wrap_i64]; omega
  clear o hl
  go_enter Tryz.func43, Tryz.ntmps43
  go_wp2_with fail
  refine (unhide D1).mono ?_
  rintro r w1 ⟨rfl, rfl⟩
  go_wp2_with fail
  go_ret
  exact ⟨rfl, rfl⟩

set_option maxHeartbeats 4000000 in
theorem specIsB_any (s : Sl) (x : St) (a b : Int) (w : World) (o : RowOk enK w s x.2) (m : StSm x) :
    Calls Tryz.prog 18 #[.agg (tvals s x), .int .i64 a, .int .i64 b] w fun r w' => r = .returned (.bool (ibVal x a b)) ∧ Below w.heap.size w w' := by
  have k0 := SBlk.new w (tvals s x) 35
  have k2 := below_alloc w (.cells (tvals s x) 35)
  obtain ⟨W0, e0⟩ : ∃ W, w.alloc (.cells (tvals s x) 35) = W := ⟨_, rfl⟩
  rw [e0] at k0 k2
  have D1 := hide (fun (W : World) (hb : Below W0.heap.size W0 W) => l10Fault_any w.heap.size 0 s x W (fun j v hv => by rw [Nat.zero_add, (k0.below hb k0.lt).cell]; exact hv) (RowOk.below o (k2.trans (hb.mono k2.size)) (Nat.le_refl _)) m)
  have D2 := hide (fun (p : Int) (W : World) (hb : Below W0.heap.size W0 W) => l11Place_any w.heap.size 0 s x.2 p W (by rw [Nat.zero_add]; exact (k0.below hb k0.lt).cell 3) (RowOk.below o (k2.trans (hb.mono k2.size)) (Nat.le_refl _)))
  have D3 : Hid (stFlt x = 0 → within a 0 ((x.2.length : Int) - 1) = true → within b 0 ((x.2.length : Int) - 1) = true → ∀ (W : World), Below W0.heap.size W0 W → Calls Tryz.prog 44 #[.pointer (some ⟨w.heap.size, 0, none⟩), .int .i64 a, .int .i64 b] W fun r w' => r = .returned (.bool (btAt x.2 a.toNat b.toNat)) ∧ Below W.heap.size W w') := fun h0 h1 h2 W hb => by
    obtain ⟨i, rfl, hi⟩ := within_nat h1
    obtain ⟨j, rfl, hj⟩ := within_nat h2
    exact l11Better_any w.heap.size 0 s x.2 i j W (by rw [Nat.zero_add]; exact (k0.below hb k0.lt).cell 3) (RowOk.below o (k2.trans (hb.mono k2.size)) (Nat.le_refl _)) (st_all h0) hi hj
  have HIB := hide (ib_cases x a b)
  have DA := hide ((unhide D2) a)
  have DB := hide ((unhide D2) b)
  have HB0 := hide k2
  have E0 := hide e0
  unfold tvals at E0 ⊢
  generalize ibVal x a b = R at HIB ⊢
  generalize stFlt x = q0 at D1 D3 HIB
  generalize within a 0 ((x.2.length : Int) - 1) = wa at DA D3 HIB
  generalize within b 0 ((x.2.length : Int) - 1) = wb at DB D3 HIB
  generalize btAt x.2 a.toNat b.toNat = bt at D3 HIB
  clear e0 o m k0 k2 D2
  by_cases hq : q0 = 0
  · subst hq
    have h1 := (unhide HIB).trans (if_pos rfl)
    cases wa
    · have h2 : R = false := h1
      subst h2
      clear HIB h1 DB D3
      go_enter Tryz.func18, Tryz.ntmps18
      go_upto_region 1 with fail
      rw [unhide E0]
      clear E0
      go_wp2_with fail
      refine ((unhide D1) W0 (Below.refl _ _)).mono ?_
      rintro r w1 ⟨rfl, b1⟩
      have BW := hide b1
      have B1 := hide ((unhide HB0).trans (b1.mono (unhide HB0).size))
      clear b1
      go_wp2_with fail
      refine ((unhide DA) _ (unhide BW)).mono ?_
      rintro r w2 ⟨rfl, rfl⟩
      go_wp2_with fail
      go_ret
      exact ⟨rfl, unhide B1⟩
    · cases wb
      · have h2 : R = false := h1
        subst h2
        clear HIB h1 D3
        go_enter Tryz.func18, Tryz.ntmps18
        go_upto_region 1 with fail
        rw [unhide E0]
        clear E0
        go_wp2_with fail
        refine ((unhide D1) W0 (Below.refl _ _)).mono ?_
        rintro r w1 ⟨rfl, b1⟩
        have BW := hide b1
        have B1 := hide ((unhide HB0).trans (b1.mono (unhide HB0).size))
        clear b1
        go_wp2_with fail
        refine ((unhide DA) _ (unhide BW)).mono ?_
        rintro r w2 ⟨rfl, rfl⟩
        go_wp2_with fail
        refine ((unhide DB) _ (unhide BW)).mono ?_
        rintro r w2 ⟨rfl, rfl⟩
        go_wp2_with fail
        go_ret
        exact ⟨rfl, unhide B1⟩
      · have h2 : R = bt := h1
        subst h2
        have D4 := hide ((unhide D3) (by first | rfl | trivial) (by first | rfl | trivial) (by first | rfl | trivial))
        clear HIB h1 D3
        go_enter Tryz.func18, Tryz.ntmps18
        go_upto_region 1 with fail
        rw [unhide E0]
        clear E0
        go_wp2_with fail
        refine ((unhide D1) W0 (Below.refl _ _)).mono ?_
        rintro r w1 ⟨rfl, b1⟩
        have BW := hide b1
        have B1 := hide ((unhide HB0).trans (b1.mono (unhide HB0).size))
        clear b1
        go_wp2_with fail
        refine ((unhide DA) _ (unhide BW)).mono ?_
        rintro r w2 ⟨rfl, rfl⟩
        go_wp2_with fail
        refine ((unhide DB) _ (unhide BW)).mono ?_
        rintro r w2 ⟨rfl, rfl⟩
        go_wp2_with fail
        refine ((unhide D4) _ (unhide BW)).mono ?_
        rintro r w3 ⟨rfl, b3⟩
        have B3 := hide ((unhide B1).trans (b3.mono (unhide B1).size))
        clear b3
        go_wp2_with fail
        go_ret
        exact ⟨rfl, unhide B3⟩
  · have hne : (q0 == 0) = false := by simp [hq]
    have h1 := (unhide HIB).trans (if_neg hq)
    subst h1
    clear HIB hq DA DB D3
    go_enter Tryz.func18, Tryz.ntmps18
    go_upto_region 1 with fail
    rw [unhide E0]
    clear E0
    go_wp2_with fail
    refine ((unhide D1) W0 (Below.refl _ _)).mono ?_
    rintro r w1 ⟨rfl, b1⟩
    have BW := hide b1
    have B1 := hide ((unhide HB0).trans (b1.mono (unhide HB0).size))
    clear b1
    go_wp2_with fail
    go_ret
    exact ⟨rfl, unhide B1⟩

end Go.Proofs.YtjjbkbinjmfnlaaGreatDoor

/- What is proved here: what IsBetter of the program answers. -/
namespace Go.Proofs.YtjjbkbinjmfnlaaGreatDoor
open Go.RowKit
set_option linter.unusedVariables false
set_option linter.unusedSimpArgs false
set_option maxRecDepth 100000

set_option maxHeartbeats 4000000 in
theorem implIsB_any (s : Sl) (x : St) (a b : Int) (w : World) (o : RowOk enK w s x.2) (m : StSm x) (V : Laid w) :
    Calls Tryz.prog 19 #[.agg (tvals s x), .int .i64 a, .int .i64 b] w fun r w' => r = .returned (.bool (ibVal x a b)) ∧ Below w.heap.size w w' := by
  have k0 := SBlk.new w (tvals s x) 35
  have k2 := below_alloc w (.cells (tvals s x) 35)
  obtain ⟨W0, e0⟩ : ∃ W, w.alloc (.cells (tvals s x) 35) = W := ⟨_, rfl⟩
  rw [e0] at k0 k2
  have D1 := hide (fun (W : World) (hb : Below W0.heap.size W0 W) => placeFaults_any s x (some ⟨W.heap.size, 0, none⟩) 2 2 [a, b] (W.alloc (.cells #[.int .i64 a, .int .i64 b] 2)) (RowOk.below o (k2.trans ((fkAl hb _).mono k2.size)) (Nat.le_refl _))
    (irow2 W a b) (by decide) m (V.below (k2.trans ((fkAl hb _).mono k2.size)) (Nat.le_refl _)))
  have HIB : Hid (ibVal x a b = if plsCode x [a, b] = 0 then btAt x.2 a.toNat b.toNat else false) := rfl
  have HS : Hid (∀ W, Below W0.heap.size W0 W → (fun W => W.cell? ⟨w.heap.size, 0, none⟩ = some (.int .i64 x.1.1) ∧ W.cell? ⟨w.heap.size, 1, none⟩ = some (.int .i64 x.1.2.1) ∧ W.cell? ⟨w.heap.size, 2, none⟩ = some (.int .i64 x.1.2.2) ∧ W.cell? ⟨w.heap.size, 3, none⟩ = some (.slice s.a s.n s.c)) W) := fun W hb => by
    have h := k0.below hb k0.lt
    exact ⟨h.cell 0, h.cell 1, h.cell 2, h.cell 3⟩
  have HB0 := hide k2
  have E0 := hide e0
  unfold tvals at E0 D1 ⊢
  by_cases hq : plsCode x [a, b] = 0
  · obtain ⟨h0, hab⟩ := pls_zero hq
    obtain ⟨ha0, ha1⟩ := hab a (by simp)
    obtain ⟨hb0, hb1⟩ := hab b (by simp)
    obtain ⟨i, rfl⟩ : ∃ i : Nat, a = (i : Int) := ⟨a.toNat, by omega⟩
    obtain ⟨j, rfl⟩ : ∃ j : Nat, b = (j : Int) := ⟨b.toNat, by omega⟩
    have hlen := o.len
    obtain ⟨y, hy⟩ : ∃ y, x.2[i]? = some y := ⟨_, List.getElem?_eq_getElem (by omega)⟩
    obtain ⟨z, hz⟩ : ∃ z, x.2[j]? = some z := ⟨_, List.getElem?_eq_getElem (by omega)⟩
    obtain ⟨bb, off, ha, hent⟩ := o.ent (by omega)
    obtain ⟨e, he⟩ := hent i y hy
    obtain ⟨f, hf⟩ := hent j z hz
    have hal := st_all h0
    have D4 := hide (fun (W : World) (hb : Below W0.heap.size W0 W) => isBetterE_any bb (off + i * 14) bb (off + j * 14) e f y z W (he.below (k2.trans (hb.mono k2.size)) (Nat.le_refl _)) (hf.below (k2.trans (hb.mono k2.size)) (Nat.le_refl _)) (hal y (List.mem_of_getElem? hy)).2 (hal z (List.mem_of_getElem? hz)).2)
    have D2 := hide (fun (W : World) => entryAt_nat bb off s.n s.c i W (by omega))
    have D3 := hide (fun (W : World) => entryAt_nat bb off s.n s.c j W (by omega))
    have HR := hide ((unhide HIB).trans (if_pos hq))
    rw [hq] at D1
    simp only [Int.toNat_natCast] at HR
    rw [btAt_of hy hz] at HR
    rw [ha] at HS D1 E0 ⊢
    generalize ibVal x (i : Int) (j : Int) = R at HR ⊢
    have hR := unhide HR
    subst hR
    clear HIB e0 o m V k0 k2 hq h0 hab ha0 ha1 hb0 hb1 hlen hy hz ha hent he hf hal HR
    generalize btE y z = R at D4 ⊢
    have S0 := (unhide HS) W0 (Below.refl _ _)
    go_enter Tryz.func19, Tryz.ntmps19
    go_upto_region 1 with fail
    rw [unhide E0]
    clear E0
    go_region_held3 (fun W => W.cell? ⟨w.heap.size, 0, none⟩ = some (.int .i64 x.1.1) ∧ W.cell? ⟨w.heap.size, 1, none⟩ = some (.int .i64 x.1.2.1) ∧ W.cell? ⟨w.heap.size, 2, none⟩ = some (.int .i64 x.1.2.2) ∧ W.cell? ⟨w.heap.size, 3, none⟩ = some (.slice (some ⟨bb, off, none⟩) s.n s.c))
      (exact (unhide HS) _ (by first | assumption | exact (Below.refl W0.heap.size W0).drew | exact below_drewN (Below.refl W0.heap.size W0) _ | exact below_drewN (by assumption) _ | exact Below.drew (by assumption) | exact fkAl (Below.refl W0.heap.size W0).drew _ | exact fkAl (below_drewN (Below.refl W0.heap.size W0) _) _ | exact (fkAl (Below.refl W0.heap.size W0).drew _).drew | exact below_drewN (fkAl (below_drewN (Below.refl W0.heap.size W0) _) _) _))
      (first
        | (go_at_call 45; refine ((unhide D4) _ (by first | assumption | exact below_drewN (by assumption) _ | exact Below.drew (by assumption))).mono ?_; rintro r w3 ⟨rfl, b3⟩; have J3 : Below W0.heap.size W0 w3 := Below.trans (by first | exact J2 | exact below_drewN J2 _ | exact J2.drew) (b3.mono (Below.size (by first | exact J2 | exact below_drewN J2 _ | exact J2.drew))); clear b3)
        | (go_at_call 46; refine ((unhide D2) _).mono ?_; rintro r w4 ⟨rfl, rfl⟩)
        | (go_at_call 46; refine ((unhide D3) _).mono ?_; rintro r w4 ⟨rfl, rfl⟩)
        | (go_at_call 34; refine ((unhide D1) _ (by first | exact (Below.refl W0.heap.size W0).drew | exact below_drewN (Below.refl W0.heap.size W0) _ | exact Below.refl W0.heap.size W0)).mono ?_; rintro r w2 ⟨rfl, b2⟩; have J2 : Below W0.heap.size W0 w2 := Below.trans (fkAl (by first | exact (Below.refl W0.heap.size W0).drew | exact below_drewN (Below.refl W0.heap.size W0) _ | exact Below.refl W0.heap.size W0) _) (b2.mono (Below.size (fkAl (by first | exact (Below.refl W0.heap.size W0).drew | exact below_drewN (Below.refl W0.heap.size W0) _ | exact Below.refl W0.heap.size W0) _))); clear b2))
    all_goals
      have HJ := hide ((unhide HB0).trans (J3.mono (unhide HB0).size))
      clear J2 J3
      go_wp2_with fail
      go_ret
      exact ⟨rfl, by first | exact unhide HJ | exact below_drewN (unhide HJ) _⟩
  · have hR := (unhide HIB).trans (if_neg hq)
    generalize plsCode x [a, b] = q0 at D1 hq
    have hne : (q0 == 0) = false := by simp [hq]
    rw [hR]
    clear HIB e0 o m V k0 k2 hq hR
    go_enter Tryz.func19, Tryz.ntmps19
    go_upto_region 1 with fail
    rw [unhide E0]
    clear E0
    refine wp_region_held_drew (S := fun W => W.cell? ⟨w.heap.size, 0, none⟩ = some (.int .i64 x.1.1) ∧ W.cell? ⟨w.heap.size, 1, none⟩ = some (.int .i64 x.1.2.1) ∧ W.cell? ⟨w.heap.size, 2, none⟩ = some (.int .i64 x.1.2.2) ∧ W.cell? ⟨w.heap.size, 3, none⟩ = some (.slice s.a s.n s.c)) (by kernel_rfl) ((unhide HS) _ (Below.refl W0.heap.size W0).drew) (fun hHeld => ?_)
    refine wpAnyH_take (i := 0) (oi := _) (v := ?_) rfl (by kernel_rfl) (by kernel_rfl) (by kernel_rfl) (fun _ _ _ h => h) (Or.inl ⟨by rfl, ?_⟩) (by assumption) ?_
    rotate_left
    · ((intro wq hSw; (try dsimp only at hSw); go_simp) <;> with_reducible rfl)
    try dsimp only
    try simp only [Act.put, List.setIfInBounds_toArray, List.set_cons_zero, List.set_cons_succ]
    refine wpAnyH_take (i := 1) (oi := _) (v := ?_) rfl (by kernel_rfl) (by kernel_rfl) (by kernel_rfl) (fun _ _ _ h => h) (Or.inl ⟨by rfl, ?_⟩) (by assumption) ?_
    rotate_left
    · ((intro wq hSw; (try dsimp only at hSw); go_simp) <;> with_reducible rfl)
    try dsimp only
    try simp only [Act.put, List.setIfInBounds_toArray, List.set_cons_zero, List.set_cons_succ]
    refine wpAnyH_take (i := 2) (oi := _) (v := ?_) rfl (by kernel_rfl) (by kernel_rfl) (by kernel_rfl) (fun _ _ _ h => h) (Or.inl ⟨by rfl, ?_⟩) (by assumption) ?_
    rotate_left
    · ((intro wq hSw; (try dsimp only at hSw); go_simp) <;> with_reducible rfl)
    try dsimp only
    try simp only [Act.put, List.setIfInBounds_toArray, List.set_cons_zero, List.set_cons_succ]
    refine wpAnyH_ready (rs := [3]) (by kernel_rfl) (by simp) ?_
    refine AllReadyH.cons (o := _) rfl (fun K hK => ?_) AllReadyH.nil
    go_simp
    refine hK.out _ _ ((unhide HS) _ (fkAl (Below.refl W0.heap.size W0).drew _)) (fun hHeld => ?_)
    clear hK K
    try dsimp only
    try simp only [Act.put, List.setIfInBounds_toArray, List.set_cons_zero, List.set_cons_succ]
    refine wpAnyH_ready (rs := [4]) (by kernel_rfl) (by simp) ?_
    refine AllReadyH.cons (o := _) rfl (fun K hK => ?_) AllReadyH.nil
    go_simp
    go_at_call 34
    refine ((unhide D1) _ (by first | exact (Below.refl W0.heap.size W0).drew | exact below_drewN (Below.refl W0.heap.size W0) _)).mono ?_
    rintro r w2 ⟨rfl, b2⟩
    have J2 : Below W0.heap.size W0 w2 := Below.trans (fkAl (Below.refl W0.heap.size W0).drew _) (b2.mono (Below.size (fkAl (Below.refl W0.heap.size W0).drew _)))
    clear b2
    refine hK.out _ _ ((unhide HS) _ J2) (fun hHeld => ?_)
    clear hK K
    try dsimp only
    try simp only [Act.put, List.setIfInBounds_toArray, List.set_cons_zero, List.set_cons_succ]
    refine wpAnyH_take (i := 5) (oi := _) (v := ?_) rfl (by kernel_rfl) (by kernel_rfl) (by kernel_rfl) (fun _ _ _ h => h) (Or.inl ⟨by rfl, ?_⟩) (by assumption) ?_
    rotate_left
    · ((intro wq hSw; (try dsimp only at hSw); go_simp) <;> with_reducible rfl)
    try dsimp only
    try simp only [Act.put, List.setIfInBounds_toArray, List.set_cons_zero, List.set_cons_succ]
    refine wpAnyH_take (i := 6) (oi := _) (v := ?_) rfl (by kernel_rfl) (by kernel_rfl) (by kernel_rfl) (fun _ _ _ h => h) (Or.inl ⟨by rfl, ?_⟩) (by assumption) ?_
    rotate_left
    · ((intro wq hSw; (try dsimp only at hSw); go_simp) <;> with_reducible rfl)
    try dsimp only
    try simp only [Act.put, List.setIfInBounds_toArray, List.set_cons_zero, List.set_cons_succ]
    refine wpAnyH_take (i := 7) (oi := _) (v := undef) rfl (by kernel_rfl) (by kernel_rfl) (by kernel_rfl) (fun _ _ _ h => h) (Or.inr ⟨by kernel_rfl, rfl⟩) (by assumption) ?_
    try dsimp only
    try simp only [Act.put, List.setIfInBounds_toArray, List.set_cons_zero, List.set_cons_succ]
    refine wpAnyH_take (i := 8) (oi := _) (v := undef) rfl (by kernel_rfl) (by kernel_rfl) (by kernel_rfl) (fun _ _ _ h => h) (Or.inr ⟨by kernel_rfl, rfl⟩) (by assumption) ?_
    try dsimp only
    try simp only [Act.put, List.setIfInBounds_toArray, List.set_cons_zero, List.set_cons_succ]
    refine wpAnyH_take (i := 9) (oi := _) (v := undef) rfl (by kernel_rfl) (by kernel_rfl) (by kernel_rfl) (fun _ _ _ h => h) (Or.inr ⟨by kernel_rfl, rfl⟩) (by assumption) ?_
    try dsimp only
    try simp only [Act.put, List.setIfInBounds_toArray, List.set_cons_zero, List.set_cons_succ]
    refine wpAnyH_take (i := 10) (oi := _) (v := undef) rfl (by kernel_rfl) (by kernel_rfl) (by kernel_rfl) (fun _ _ _ h => h) (Or.inr ⟨by kernel_rfl, rfl⟩) (by assumption) ?_
    try dsimp only
    try simp only [Act.put, List.setIfInBounds_toArray, List.set_cons_zero, List.set_cons_succ]
    refine wpAnyH_take (i := 11) (oi := _) (v := undef) rfl (by kernel_rfl) (by kernel_rfl) (by kernel_rfl) (fun _ _ _ h => h) (Or.inr ⟨by kernel_rfl, rfl⟩) (by assumption) ?_
    try dsimp only
    try simp only [Act.put, List.setIfInBounds_toArray, List.set_cons_zero, List.set_cons_succ]
    refine wpAnyH_take (i := 12) (oi := _) (v := undef) rfl (by kernel_rfl) (by kernel_rfl) (by kernel_rfl) (fun _ _ _ h => h) (Or.inr ⟨by kernel_rfl, rfl⟩) (by assumption) ?_
    try dsimp only
    try simp only [Act.put, List.setIfInBounds_toArray, List.set_cons_zero, List.set_cons_succ]
    refine wpAnyH_take (i := 13) (oi := _) (v := undef) rfl (by kernel_rfl) (by kernel_rfl) (by kernel_rfl) (fun _ _ _ h => h) (Or.inr ⟨by kernel_rfl, rfl⟩) (by assumption) ?_
    try dsimp only
    try simp only [Act.put, List.setIfInBounds_toArray, List.set_cons_zero, List.set_cons_succ]
    refine wpAnyH_take (i := 14) (oi := _) (v := undef) rfl (by kernel_rfl) (by kernel_rfl) (by kernel_rfl) (fun _ _ _ h => h) (Or.inr ⟨by kernel_rfl, rfl⟩) (by assumption) ?_
    try dsimp only
    try simp only [Act.put, List.setIfInBounds_toArray, List.set_cons_zero, List.set_cons_succ]
    refine wpAnyH_take (i := 15) (oi := _) (v := undef) rfl (by kernel_rfl) (by kernel_rfl) (by kernel_rfl) (fun _ _ _ h => h) (Or.inr ⟨by kernel_rfl, rfl⟩) (by assumption) ?_
    try dsimp only
    try simp only [Act.put, List.setIfInBounds_toArray, List.set_cons_zero, List.set_cons_succ]
    refine wpAnyH_take (i := 16) (oi := _) (v := ?_) rfl (by kernel_rfl) (by kernel_rfl) (by kernel_rfl) (fun _ _ _ h => h) (Or.inl ⟨by rfl, ?_⟩) (by assumption) ?_
    rotate_left
    · ((intro wq hSw; (try dsimp only at hSw); go_simp) <;> with_reducible rfl)
    try dsimp only
    try simp only [Act.put, List.setIfInBounds_toArray, List.set_cons_zero, List.set_cons_succ]
    refine wpAnyH_take (i := 17) (oi := _) (v := ?_) rfl (by kernel_rfl) (by kernel_rfl) (by kernel_rfl) (fun _ _ _ h => h) (Or.inl ⟨by rfl, ?_⟩) (by assumption) ?_
    rotate_left
    · ((intro wq hSw; (try dsimp only at hSw); go_simp) <;> with_reducible rfl)
    try dsimp only
    try simp only [Act.put, List.setIfInBounds_toArray, List.set_cons_zero, List.set_cons_succ]
    refine wpAnyH_done (by kernel_rfl) ?_ _
    have HJ := hide ((unhide HB0).trans (J2.mono (unhide HB0).size))
    clear J2
    go_wp2_with fail
    go_ret
    exact ⟨rfl, by first | exact unhide HJ | exact below_drewN (unhide HJ) _⟩

end Go.Proofs.YtjjbkbinjmfnlaaGreatDoor
