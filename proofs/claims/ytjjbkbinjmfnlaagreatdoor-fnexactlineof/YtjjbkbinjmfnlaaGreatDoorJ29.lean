/- What is proved here: what the program's and the model's LineOf answer: the line to a place of a store. -/
import Derived.Test.YtjjbkbinjmfnlaaGreatDoorJ25
import Derived.Test.YtjjbkbinjmfnlaaGreatDoorJ26
import Derived.Test.YtjjbkbinjmfnlaaGreatDoorJ19
namespace Go.Proofs.YtjjbkbinjmfnlaaGreatDoor
open Go.RowKit
set_option linter.unusedVariables false
set_option linter.unusedSimpArgs false
set_option maxRecDepth 100000

/-- The code of a place of a store, and what LineOf answers. -/
def plCode (x : St) (p : Int) : Int := if stFlt x = 0 then (if within p 0 ((x.2.length : Int) - 1) = true then 0 else 3) else stFlt x
def loList (x : St) (p : Int) : List Int := if plCode x p = 0 then lineL x.2 p else []

theorem pl_zero {x : St} {p : Int} (h : plCode x p = 0) : stFlt x = 0 ∧ 0 ≤ p ∧ p < x.2.length := by
  unfold plCode at h
  split at h
  · rename_i h1
    split at h
    · rename_i h2
      simp only [within, decide_eq_true_eq] at h2
      exact ⟨h1, by omega, by omega⟩
    · omega
  · rename_i h1; exact absurd h h1

theorem pls_one (x : St) (p : Int) : plsCode x [p] = plCode x p := by
  unfold plsCode plCode plsOk
  simp only [List.all_cons, List.all_nil, Bool.and_true]

theorem irow1 (w : World) (a : Int) : IRow (w.alloc (.cells #[.int .i64 a] 2)) (some ⟨w.heap.size, 0, none⟩) 1 [a] := by
  have k := SBlk.new w #[.int .i64 a] 2
  refine ⟨rfl, True.intro, (fun h => absurd h (by simp)), fun y hy i hi => ?_⟩
  obtain rfl : (⟨w.heap.size, 0, none⟩ : Addr) = y := Option.some.inj hy
  have h := k.cell i
  match i, hi with
  | 0, _ => exact h

set_option maxHeartbeats 4000000 in
theorem l10Asked_any (g of' : Nat) (s : Sl) (x : St) (p : Int) (w : World) (sb : ∀ j v, (tvals s x).toList[j]? = some v → w.cell? ⟨g, of' + j, none⟩ = some v) (o : RowOk enK w s x.2) (m : StSm x) :
    Calls Tryz.prog 30 #[.pointer (some ⟨g, of', none⟩), .int .i64 p] w fun r w' => r = .returned (.int .i64 (plCode x p)) ∧ Below w.heap.size w w' := by
  have D1 := hide (l10Fault_any g of' s x w sb o m)
  have hlen := o.len
  have hmx : s.n ≤ maxLen := Nat.le_trans o.room o.max
  unfold maxLen at hmx
  have x3 := sb 3 _ rfl
  have HX3 := hide (fun (W : World) (hb : Below w.heap.size w W) => (hb.cell (p := ⟨g, of' + 3, none⟩) (lt_of_cell x3)).trans x3)
  have HE : Hid (plCode x p = _) := show plCode x p = _ by unfold plCode; exact rfl
  have D2 := hide (fun (W : World) => in_any p 0 ((x.2.length : Int) - 1) W)
  rw [show decide (0 ≤ p ∧ p ≤ (x.2.length : Int) - 1) = within p 0 ((x.2.length : Int) - 1) from rfl] at D2
  generalize plCode x p = cc at HE ⊢
  generalize stFlt x = q0 at D1 HE
  generalize within p 0 ((x.2.length : Int) - 1) = wb at D2 HE
  rw [← hlen] at D2
  clear sb o m hlen x3
  go_enter Tryz.func30, Tryz.ntmps30
  go_wp2_with fail
  refine (unhide D1).mono ?_
  rintro r w1 ⟨rfl, b1⟩
  have x3 := (unhide HX3) w1 b1
  have B1 := hide b1
  clear b1 D1
  by_cases hq : q0 = 0
  · subst hq
    have HE1 := hide ((unhide HE).trans (if_pos rfl))
    have wn : IntKind.i64.wrap ((s.n : Nat) : Int) = ((s.n : Nat) : Int) := by rw [IntKind.wrap_i64]; omega
    cases wb
    all_goals
      go_wp2_with fail
      refine ((unhide D2) _).mono ?_
      rintro r w2 ⟨rfl, rfl⟩
      go_wp2_with fail
      go_ret
      exact ⟨ret_int (unhide HE1).symm, unhide B1⟩
  · have HE1 := hide ((unhide HE).trans (if_neg hq))
    have hne : (q0 != 0) = true := by simp [hq]
    go_wp2_with fail
    go_ret
    exact ⟨ret_int (unhide HE1).symm, unhide B1⟩

set_option maxHeartbeats 4000000 in
theorem implLine_any (s : Sl) (x : St) (p : Int) (w : World) (o : RowOk enK w s x.2) (m : StSm x) (V : Laid w) :
    Calls Tryz.prog 12 #[.agg (tvals s x), .int .i64 p] w fun r w' => ∃ a c, r = .returned (.agg #[.int .i64 (plCode x p), .slice a (loList x p).length c]) ∧
      w'.ownsRow w.heap.size 2 1 (.slice a (loList x p).length c) (loList x p).length ((loList x p).map (Value.int .i64)) ∧ Below w.heap.size w w' := by
  obtain ⟨k0, k1, k2, k3⟩ := two_blk w (tvals s x) #[.int .i64 0, .slice none 0 0] 35 30
  obtain ⟨W0, e0⟩ : ∃ W, (w.alloc (.cells (tvals s x) 35)).alloc (.cells #[.int .i64 0, .slice none 0 0] 30) = W := ⟨_, rfl⟩
  rw [e0] at k0 k1 k2 k3
  have hal := below_alloc W0 (.cells #[.int .i64 p] 2)
  have D1 := hide (placeFaults_any s x (some ⟨W0.heap.size, 0, none⟩) 1 1 [p] (W0.alloc (.cells #[.int .i64 p] 2)) (RowOk.below o (k2.trans (hal.mono k2.size)) (Nat.le_refl _)) (irow1 W0 p) (by decide) m (V.below (k2.trans (hal.mono k2.size)) (Nat.le_refl _)))
  rw [pls_one] at D1
  have HAL := hide hal
  clear hal
  have D2 : Hid (plCode x p = 0 → ∀ (W : World), Below w.heap.size w W → ∃ pn : Nat, p = (pn : Int) ∧ Calls Tryz.prog 35 #[.slice s.a s.n s.c, .int .i64 (pn : Int)] W fun r w' => ∃ a c, r = .returned (.slice a (lineL x.2 p).length c) ∧ w'.ownsRow W.heap.size 2 1 (.slice a (lineL x.2 p).length c) (lineL x.2 p).length ((lineL x.2 p).map (Value.int .i64)) ∧ Below W.heap.size W w') := fun h0 W hb => by
    obtain ⟨h1, h2, h3⟩ := pl_zero h0
    refine ⟨p.toNat, by omega, ?_⟩
    have := lineTo_any s x.2 p.toNat W (RowOk.below o hb (Nat.le_refl _)) (st_ups h1) (st_zero h1).2.1.2 (by omega)
    rw [show ((p.toNat : Nat) : Int) = p by omega] at this ⊢
    exact this
  have HLO : Hid (loList x p = if plCode x p = 0 then lineL x.2 p else []) := rfl
  have HK := hide (fun (W : World) (hb : Below W0.heap.size W0 W) => And.intro (k0.below hb k0.lt) (k1.below hb k1.lt))
  have HB0 := hide k2
  have E0 := hide e0
  unfold tvals at E0 k0 HK D1 ⊢
  have x0 := k0.cell 0
  have x1 := k0.cell 1
  have x2 := k0.cell 2
  have x3 := k0.cell 3
  simp only [List.getElem?_cons_zero, List.getElem?_cons_succ] at x0 x1 x2 x3
  generalize plCode x p = cc at D1 D2 HLO ⊢
  generalize loList x p = LL at HLO ⊢
  have hz : w.heap.size + 1 < W0.heap.size := by omega
  clear e0 o m V k0 k1 k2 k3
  go_enter Tryz.func12, Tryz.ntmps12
  go_upto_region 1 with fail
  rw [unhide E0]
  clear E0
  go_wp2_with fail
  refine (unhide D1).mono ?_
  rintro r w1 ⟨rfl, b1⟩
  have b1 := (unhide HAL).trans (b1.mono (unhide HAL).size)
  obtain ⟨k0, k1⟩ := (unhide HK) w1 b1
  have x3' := k0.cell 3
  have r0 := k1.cell 0
  have r1 := k1.cell 1
  have f0 := k1.free 0
  have f1 := k1.free 1
  simp only [List.getElem?_cons_zero, List.getElem?_cons_succ] at x3' r0 r1
  have B1 := hide ((unhide HB0).trans (b1.mono (unhide HB0).size))
  have BW := hide b1
  clear b1 k0 k1 x0 x1 x2 x3 D1
  by_cases hq : cc = 0
  · subst hq
    have hLO := (unhide HLO).trans (if_pos rfl)
    subst hLO
    obtain ⟨pn, rfl, D3⟩ := (unhide D2) (by first | rfl | trivial) w1 (unhide B1)
    have D3' := hide D3
    clear D2 D3 HLO
    go_wp2_with fail
    refine (unhide D3').mono ?_
    rintro r w2 ⟨a2, c2, rfl, o2, b2⟩
    obtain ⟨k0, k1⟩ := (unhide HK) w2 ((unhide BW).trans (b2.mono (unhide BW).size))
    have r0 := k1.cell 0
    have r1 := k1.cell 1
    have f0 := k1.free 0
    have f1 := k1.free 1
    simp only [List.getElem?_cons_zero, List.getElem?_cons_succ] at r0 r1
    have hz1 : W0.heap.size ≤ w1.heap.size := (unhide BW).size
    have Q := hide (And.intro o2 (And.intro ((unhide B1).trans (b2.mono (unhide B1).size)) hz1))
    clear b2 k0 k1 o2 hz1
    go_wp2_with fail
    obtain ⟨o2, B2, hz1⟩ := unhide Q
    refine bodyPost_ret (v := .agg #[.int .i64 0, .slice a2 (lineL x.2 (pn : Int)).length c2]) (by simp [results, Tryz.results12, go_sem, r0, r1]) rfl ⟨a2, c2, rfl, ?_, ?_⟩
    · exact ownsRow_base (ownsRow_setCell_below (ownsRow_setCell_below o2 (a := ⟨w.heap.size + 1, 0, none⟩) (by show w.heap.size + 1 < _; omega) _) (a := ⟨w.heap.size + 1, 1, none⟩) (by show w.heap.size + 1 < _; omega) _) (by omega)
    · exact (B2.setCell (by show w.heap.size ≤ w.heap.size + 1; omega) _).setCell (by show w.heap.size ≤ w.heap.size + 1; omega) _
  · have hne : (cc != 0) = true := by simp [hq]
    have hLO := (unhide HLO).trans (if_neg hq)
    subst hLO
    clear HLO D2 hq
    go_wp2_with fail
    exact bodyPost_ret (v := .agg #[.int .i64 cc, .slice none 0 0]) (by simp [results, Tryz.results12, go_sem, r0, r1]) rfl ⟨none, 0, rfl, World.ownsRow_nil _ _ _ _, ((unhide B1).setCell (by show w.heap.size ≤ w.heap.size + 1; omega) _).setCell (by show w.heap.size ≤ w.heap.size + 1; omega) _⟩

set_option maxHeartbeats 4000000 in
theorem specLine_any (s : Sl) (x : St) (p : Int) (w : World) (o : RowOk enK w s x.2) (m : StSm x) :
    Calls Tryz.prog 10 #[.agg (tvals s x), .int .i64 p] w fun r w' => ∃ a c, r = .returned (.agg #[.int .i64 (plCode x p), .slice a (loList x p).length c]) ∧
      w'.ownsRow w.heap.size 2 1 (.slice a (loList x p).length c) (loList x p).length ((loList x p).map (Value.int .i64)) ∧ Below w.heap.size w w' := by
  obtain ⟨k0, k1, k2, k3⟩ := two_blk w (tvals s x) #[.int .i64 0, .slice none 0 0] 35 30
  obtain ⟨W0, e0⟩ : ∃ W, (w.alloc (.cells (tvals s x) 35)).alloc (.cells #[.int .i64 0, .slice none 0 0] 30) = W := ⟨_, rfl⟩
  rw [e0] at k0 k1 k2 k3
  have D1 := hide (l10Asked_any w.heap.size 0 s x p W0 (fun j v hv => by rw [Nat.zero_add, k0.cell]; exact hv) (RowOk.below o k2 (Nat.le_refl _)) m)
  have D2 : Hid (plCode x p = 0 → ∀ (W : World), Below W0.heap.size W0 W → ∃ pn : Nat, p = (pn : Int) ∧ Calls Tryz.prog 31 #[.pointer (some ⟨w.heap.size, 0, none⟩), .int .i64 (pn : Int)] W fun r w' => ∃ a c, r = .returned (.slice a (lineL x.2 p).length c) ∧ w'.ownsRow W.heap.size 2 1 (.slice a (lineL x.2 p).length c) (lineL x.2 p).length ((lineL x.2 p).map (Value.int .i64)) ∧ Below W.heap.size W w') := fun h0 W hb => by
    obtain ⟨h1, h2, h3⟩ := pl_zero h0
    refine ⟨p.toNat, by omega, ?_⟩
    have hc := (k0.below hb k0.lt).cell 3
    have := l10Line_any w.heap.size 0 s x.2 (st_ups h1) (st_zero h1).2.1.2 (p + 1).toNat p (Nat.le_refl _) (by omega) h3 W (by rw [Nat.zero_add]; exact hc) (RowOk.below o (k2.trans (hb.mono k2.size)) (Nat.le_refl _))
    rw [show ((p.toNat : Nat) : Int) = p by omega]
    exact this
  have HLO : Hid (loList x p = if plCode x p = 0 then lineL x.2 p else []) := rfl
  have HK := hide (fun (W : World) (hb : Below W0.heap.size W0 W) => And.intro (k0.below hb k0.lt) (k1.below hb k1.lt))
  have HB0 := hide k2
  have E0 := hide e0
  unfold tvals at E0 k0 HK ⊢
  have x0 := k0.cell 0
  have x1 := k0.cell 1
  have x2 := k0.cell 2
  have x3 := k0.cell 3
  simp only [List.getElem?_cons_zero, List.getElem?_cons_succ] at x0 x1 x2 x3
  generalize plCode x p = cc at D1 D2 HLO ⊢
  generalize loList x p = LL at HLO ⊢
  have hz : w.heap.size + 1 < W0.heap.size := by omega
  clear e0 o m k0 k1 k2 k3
  go_enter Tryz.func10, Tryz.ntmps10
  go_upto_region 1 with fail
  rw [unhide E0]
  clear E0
  go_wp2_with fail
  refine (unhide D1).mono ?_
  rintro r w1 ⟨rfl, b1⟩
  obtain ⟨k0, k1⟩ := (unhide HK) w1 b1
  have x3' := k0.cell 3
  have r0 := k1.cell 0
  have r1 := k1.cell 1
  have f0 := k1.free 0
  have f1 := k1.free 1
  simp only [List.getElem?_cons_zero, List.getElem?_cons_succ] at x3' r0 r1
  have B1 := hide ((unhide HB0).trans (b1.mono (unhide HB0).size))
  have BW := hide b1
  clear b1 k0 k1 x0 x1 x2 x3 D1
  by_cases hq : cc = 0
  · subst hq
    have hLO := (unhide HLO).trans (if_pos rfl)
    subst hLO
    obtain ⟨pn, rfl, D3⟩ := (unhide D2) (by first | rfl | trivial) w1 (unhide BW)
    have D3' := hide D3
    clear D2 D3 HLO
    go_wp2_with fail
    refine (unhide D3').mono ?_
    rintro r w2 ⟨a2, c2, rfl, o2, b2⟩
    obtain ⟨k0, k1⟩ := (unhide HK) w2 ((unhide BW).trans (b2.mono (unhide BW).size))
    have r0 := k1.cell 0
    have r1 := k1.cell 1
    have f0 := k1.free 0
    have f1 := k1.free 1
    simp only [List.getElem?_cons_zero, List.getElem?_cons_succ] at r0 r1
    have hz1 : W0.heap.size ≤ w1.heap.size := (unhide BW).size
    have Q := hide (And.intro o2 (And.intro ((unhide B1).trans (b2.mono (unhide B1).size)) hz1))
    clear b2 k0 k1 o2 hz1
    go_wp2_with fail
    obtain ⟨o2, B2, hz1⟩ := unhide Q
    refine bodyPost_ret (v := .agg #[.int .i64 0, .slice a2 (lineL x.2 (pn : Int)).length c2]) (by simp [results, Tryz.results10, go_sem, r0, r1]) rfl ⟨a2, c2, rfl, ?_, ?_⟩
    · exact ownsRow_base (ownsRow_setCell_below (ownsRow_setCell_below o2 (a := ⟨w.heap.size + 1, 0, none⟩) (by show w.heap.size + 1 < _; omega) _) (a := ⟨w.heap.size + 1, 1, none⟩) (by show w.heap.size + 1 < _; omega) _) (by omega)
    · exact (B2.setCell (by show w.heap.size ≤ w.heap.size + 1; omega) _).setCell (by show w.heap.size ≤ w.heap.size + 1; omega) _
  · have hne : (cc != 0) = true := by simp [hq]
    have hLO := (unhide HLO).trans (if_neg hq)
    subst hLO
    clear HLO D2 hq
    go_wp2_with fail
    exact bodyPost_ret (v := .agg #[.int .i64 cc, .slice none 0 0]) (by simp [results, Tryz.results10, go_sem, r0, r1]) rfl ⟨none, 0, rfl, World.ownsRow_nil _ _ _ _, ((unhide B1).setCell (by show w.heap.size ≤ w.heap.size + 1; omega) _).setCell (by show w.heap.size ≤ w.heap.size + 1; omega) _⟩

end Go.Proofs.YtjjbkbinjmfnlaaGreatDoor
