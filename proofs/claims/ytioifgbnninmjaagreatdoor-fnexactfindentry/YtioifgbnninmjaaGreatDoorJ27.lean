/- What is proved here: what the program's and the model's FindEntry answer: the place of a hash in a store. -/
import Derived.Test.YtioifgbnninmjaaGreatDoorJ19
import Derived.Test.YtioifgbnninmjaaGreatDoorJ25
import Derived.Test.YtioifgbnninmjaaGreatDoorChecked
import Derived.Test.YtioifgbnninmjaaGreatDoorJ1
import Derived.WalkKit
import Derived.WalkLawsBesides
import Derived.KernelRfl
namespace Go.Proofs.YtioifgbnninmjaaGreatDoor
open Go.RowKit
set_option linter.unusedVariables false
set_option linter.unusedSimpArgs false
set_option maxRecDepth 100000

/-- Code and value of FindEntry. -/
def feCode (x : St) (z : List Int) : Int := if stFlt x = 0 then (if fnd x.2 z = -1 then 4 else 0) else stFlt x
def feVal (x : St) (z : List Int) : Int := if stFlt x = 0 then (if fnd x.2 z = -1 then 0 else fnd x.2 z) else 0

theorem fe_cases (x : St) (z : List Int) : (stFlt x ≠ 0 ∧ feCode x z = stFlt x ∧ feVal x z = 0) ∨ (stFlt x = 0 ∧ fnd x.2 z = -1 ∧ feCode x z = 4 ∧ feVal x z = 0) ∨ (stFlt x = 0 ∧ fnd x.2 z ≠ -1 ∧ feCode x z = 0 ∧ feVal x z = fnd x.2 z) := by
  unfold feCode feVal
  by_cases h : stFlt x = 0
  · rw [if_pos h, if_pos h]
    by_cases k : fnd x.2 z = -1
    · rw [if_pos k, if_pos k]; exact .inr (.inl ⟨h, k, rfl, rfl⟩)
    · rw [if_neg k, if_neg k]; exact .inr (.inr ⟨h, k, rfl, rfl⟩)
  · rw [if_neg h, if_neg h]; exact .inl ⟨h, rfl, rfl⟩

set_option maxHeartbeats 4000000 in
theorem implFind_any (s t : Sl) (x : St) (z : List Int) (w : World) (o : RowOk enK w s x.2) (ot : BOk w t z) (m : StSm x) (V : Laid w) :
    Calls Tryz.prog 24 #[.agg (tvals s x), .slice t.a t.n t.c] w fun r w' => r = .returned (.agg #[.int .i64 (feCode x z), .int .i64 (feVal x z)]) ∧ Below w.heap.size w w' := by
  obtain ⟨k0, k1, k2, k3⟩ := two_blk w (tvals s x) #[.int .i64 0, .int .i64 0] 32 53
  obtain ⟨W0, e0⟩ : ∃ W, (w.alloc (.cells (tvals s x) 32)).alloc (.cells #[.int .i64 0, .int .i64 0] 53) = W := ⟨_, rfl⟩
  rw [e0] at k0 k1 k2 k3
  have D1 := hide (implStoreFault_any s x W0 (RowOk.below o k2 (Nat.le_refl _)) m (V.below k2 (Nat.le_refl _)))
  have D2 := hide (fun (W : World) (hb : Below w.heap.size w W) => placeWith_any s t x.2 z W (RowOk.below o hb (Nat.le_refl _)) (bytesK.below ot hb (Nat.le_refl _)))
  have HCS := hide (fe_cases x z)
  have HFR := hide (fnd_range x.2 z)
  have HK := hide (fun (W : World) (hb : Below W0.heap.size W0 W) => And.intro (k0.below hb k0.lt) (k1.below hb k1.lt))
  have HB0 := hide k2
  have E0 := hide e0
  unfold tvals at E0 k0 HK D1 ⊢
  have x0 := k0.cell 0
  have x1 := k0.cell 1
  have x2 := k0.cell 2
  have x3 := k0.cell 3
  simp only [List.getElem?_cons_zero, List.getElem?_cons_succ] at x0 x1 x2 x3
  generalize feCode x z = cc at HCS ⊢
  generalize feVal x z = vv at HCS ⊢
  generalize stFlt x = q0 at D1 HCS
  generalize fnd x.2 z = fp at D2 HCS HFR
  clear e0 o ot m V k0 k1 k2 k3
  go_enter Tryz.func24, Tryz.ntmps24
  go_upto_region 1 with fail
  rw [unhide E0]
  clear E0
  go_wp2_with fail
  refine (unhide D1).mono ?_
  rintro r w1 ⟨rfl, b1⟩
  obtain ⟨k0, k1⟩ := (unhide HK) w1 b1
  have x3' := k0.cell 3
  have r0 := k1.cell 0
  have r1 := k1.cell 1
  have f0 := k1.free 0
  have f1 := k1.free 1
  simp only [List.getElem?_cons_zero, List.getElem?_cons_succ] at x3' r0 r1
  have B1 := hide ((unhide HB0).trans (b1.mono (unhide HB0).size))
  have BW := hide b1
  clear b1 k0 k1 x0 x1 x2 x3 D1
  have fin : ∀ {W : World}, Below w.heap.size w W → ∀ u v, Below w.heap.size w ((W.setCell ⟨w.heap.size + 1, 0, none⟩ u).setCell ⟨w.heap.size + 1, 1, none⟩ v) := fun h u v => (h.setCell (by show w.heap.size ≤ w.heap.size + 1; omega) u).setCell (by show w.heap.size ≤ w.heap.size + 1; omega) v
  have HFIN := hide (fun (W : World) => fin (W := W))
  clear fin
  rcases unhide HCS with ⟨h1, rfl, rfl⟩ | ⟨rfl, rfl, rfl, rfl⟩ | ⟨rfl, h2, rfl, rfl⟩
  · have hne : (cc != 0) = true := by simp [h1]
    clear h1
    go_wp2_with fail
    exact bodyPost_ret (v := .agg #[.int .i64 cc, .int .i64 0]) (by simp [results, Tryz.results24, go_sem, r0, r1]) rfl ⟨rfl, (unhide HFIN) _ (unhide B1) _ _⟩
  · go_wp2_with fail
    refine ((unhide D2) _ (unhide B1)).mono ?_
    rintro r w2 ⟨rfl, b2⟩
    obtain ⟨k0, k1⟩ := (unhide HK) w2 ((unhide BW).trans (b2.mono (unhide BW).size))
    have r0 := k1.cell 0
    have r1 := k1.cell 1
    have f0 := k1.free 0
    have f1 := k1.free 1
    simp only [List.getElem?_cons_zero, List.getElem?_cons_succ] at r0 r1
    have B2 := hide ((unhide B1).trans (b2.mono (unhide B1).size))
    clear b2 k0 k1
    go_wp2_with fail
    exact bodyPost_ret (v := .agg #[.int .i64 4, .int .i64 0]) (by simp [results, Tryz.results24, go_sem, r0, r1]) rfl ⟨rfl, (unhide HFIN) _ (unhide B2) _ _⟩
  · have hne : (vv == -1) = false := by simp [h2]
    go_wp2_with fail
    refine ((unhide D2) _ (unhide B1)).mono ?_
    rintro r w2 ⟨rfl, b2⟩
    obtain ⟨k0, k1⟩ := (unhide HK) w2 ((unhide BW).trans (b2.mono (unhide BW).size))
    have r0 := k1.cell 0
    have r1 := k1.cell 1
    have f0 := k1.free 0
    have f1 := k1.free 1
    simp only [List.getElem?_cons_zero, List.getElem?_cons_succ] at r0 r1
    have B2 := hide ((unhide B1).trans (b2.mono (unhide B1).size))
    clear b2 k0 k1 h2
    go_wp2_with fail
    exact bodyPost_ret (v := .agg #[.int .i64 0, .int .i64 vv]) (by simp [results, Tryz.results24, go_sem, r0, r1]) rfl ⟨rfl, (unhide HFIN) _ (unhide B2) _ _⟩

set_option maxHeartbeats 4000000 in
theorem specFind_any (s t : Sl) (x : St) (z : List Int) (w : World) (o : RowOk enK w s x.2) (ot : BOk w t z) (m : StSm x) :
    Calls Tryz.prog 22 #[.agg (tvals s x), .slice t.a t.n t.c] w fun r w' => r = .returned (.agg #[.int .i64 (feCode x z), .int .i64 (feVal x z)]) ∧ Below w.heap.size w w' := by
  obtain ⟨k0, k1, k2, k3⟩ := two_blk w (tvals s x) #[.int .i64 0, .int .i64 0] 32 53
  obtain ⟨W0, e0⟩ : ∃ W, (w.alloc (.cells (tvals s x) 32)).alloc (.cells #[.int .i64 0, .int .i64 0] 53) = W := ⟨_, rfl⟩
  rw [e0] at k0 k1 k2 k3
  have D1 := hide (l10Fault_any w.heap.size 0 s x W0 (fun j v hv => by rw [Nat.zero_add, k0.cell]; exact hv) (RowOk.below o k2 (Nat.le_refl _)) m)
  have D2 := hide (fun (W : World) (hb : Below w.heap.size w W) => l10Find_any s t x.2 z W (RowOk.below o hb (Nat.le_refl _)) (bytesK.below ot hb (Nat.le_refl _)))
  have HCS := hide (fe_cases x z)
  have HFR := hide (fnd_range x.2 z)
  have HK := hide (fun (W : World) (hb : Below W0.heap.size W0 W) => And.intro (k0.below hb k0.lt) (k1.below hb k1.lt))
  have HB0 := hide k2
  have E0 := hide e0
  unfold tvals at E0 k0 HK ⊢
  generalize feCode x z = cc at HCS ⊢
  generalize feVal x z = vv at HCS ⊢
  generalize stFlt x = q0 at D1 HCS
  generalize fnd x.2 z = fp at D2 HCS HFR
  clear e0 o ot m k0 k1 k2 k3
  go_enter Tryz.func22, Tryz.ntmps22
  go_upto_region 1 with fail
  rw [unhide E0]
  clear E0
  go_wp2_with fail
  refine (unhide D1).mono ?_
  rintro r w1 ⟨rfl, b1⟩
  obtain ⟨k0, k1⟩ := (unhide HK) w1 b1
  have x3' := k0.cell 3
  have r0 := k1.cell 0
  have r1 := k1.cell 1
  have f0 := k1.free 0
  have f1 := k1.free 1
  simp only [List.getElem?_cons_zero, List.getElem?_cons_succ] at x3' r0 r1
  have B1 := hide ((unhide HB0).trans (b1.mono (unhide HB0).size))
  have BW := hide b1
  clear b1 k0 k1 D1
  have fin : ∀ {W : World}, Below w.heap.size w W → ∀ u v, Below w.heap.size w ((W.setCell ⟨w.heap.size + 1, 0, none⟩ u).setCell ⟨w.heap.size + 1, 1, none⟩ v) := fun h u v => (h.setCell (by show w.heap.size ≤ w.heap.size + 1; omega) u).setCell (by show w.heap.size ≤ w.heap.size + 1; omega) v
  have HFIN := hide (fun (W : World) => fin (W := W))
  clear fin
  rcases unhide HCS with ⟨h1, rfl, rfl⟩ | ⟨rfl, rfl, rfl, rfl⟩ | ⟨rfl, h2, rfl, rfl⟩
  · have hne : (cc != 0) = true := by simp [h1]
    clear h1
    go_wp2_with fail
    exact bodyPost_ret (v := .agg #[.int .i64 cc, .int .i64 0]) (by simp [results, Tryz.results22, go_sem, r0, r1]) rfl ⟨rfl, (unhide HFIN) _ (unhide B1) _ _⟩
  · go_wp2_with fail
    refine ((unhide D2) _ (unhide B1)).mono ?_
    rintro r w2 ⟨rfl, b2⟩
    obtain ⟨k0, k1⟩ := (unhide HK) w2 ((unhide BW).trans (b2.mono (unhide BW).size))
    have r0 := k1.cell 0
    have r1 := k1.cell 1
    have f0 := k1.free 0
    have f1 := k1.free 1
    simp only [List.getElem?_cons_zero, List.getElem?_cons_succ] at r0 r1
    have B2 := hide ((unhide B1).trans (b2.mono (unhide B1).size))
    clear b2 k0 k1
    go_wp2_with fail
    exact bodyPost_ret (v := .agg #[.int .i64 4, .int .i64 0]) (by simp [results, Tryz.results22, go_sem, r0, r1]) rfl ⟨rfl, (unhide HFIN) _ (unhide B2) _ _⟩
  · have hfr := unhide HFR
    have hne : decide (vv < 0) = false := decide_eq_false (by omega)
    go_wp2_with fail
    refine ((unhide D2) _ (unhide B1)).mono ?_
    rintro r w2 ⟨rfl, b2⟩
    obtain ⟨k0, k1⟩ := (unhide HK) w2 ((unhide BW).trans (b2.mono (unhide BW).size))
    have r0 := k1.cell 0
    have r1 := k1.cell 1
    have f0 := k1.free 0
    have f1 := k1.free 1
    simp only [List.getElem?_cons_zero, List.getElem?_cons_succ] at r0 r1
    have B2 := hide ((unhide B1).trans (b2.mono (unhide B1).size))
    clear b2 k0 k1 h2 hfr
    go_wp2_with fail
    exact bodyPost_ret (v := .agg #[.int .i64 0, .int .i64 vv]) (by simp [results, Tryz.results22, go_sem, r0, r1]) rfl ⟨rfl, (unhide HFIN) _ (unhide B2) _ _⟩

end Go.Proofs.YtioifgbnninmjaaGreatDoor

/- What is proved here: the laws' comparison of two equal number answers gives true. -/
namespace Go.Proofs.YtioifgbnninmjaaGreatDoor
open Go.RowKit
set_option linter.unusedVariables false
set_option maxRecDepth 100000

set_option maxHeartbeats 1000000 in
theorem eqInt_same (c v : Int) (w : World) :
    Calls Tryz.prog 25 #[.agg #[.int .i64 c, .int .i64 v], .agg #[.int .i64 c, .int .i64 v]] w fun e w' => e = .returned (.bool true) ∧ Below w.heap.size w w' := by
  have h1 : (c != c) = false := by simp
  have h2 : (v != v) = false := by simp
  go_enter Tryz.func25, Tryz.ntmps25
  go_wp2
  go_ret
  exact ⟨rfl, ((Below.refl _ _).alloc (Nat.le_refl _) _).alloc (by simp) _⟩

end Go.Proofs.YtioifgbnninmjaaGreatDoor
