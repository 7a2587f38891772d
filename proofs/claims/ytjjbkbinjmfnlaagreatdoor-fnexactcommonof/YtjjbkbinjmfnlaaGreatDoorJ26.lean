/- What is proved here: the model's line to a place (l10Line). -/
import Derived.Test.YtjjbkbinjmfnlaaGreatDoorJ14
import Derived.Test.YtjjbkbinjmfnlaaGreatDoorJ16
import Derived.Test.YtjjbkbinjmfnlaaGreatDoorJ12
import Derived.Deep.AppendLies
import Derived.Test.YtjjbkbinjmfnlaaGreatDoorJ25
import Derived.Test.YtjjbkbinjmfnlaaGreatDoorJ15
import Derived.Test.YtjjbkbinjmfnlaaGreatDoorJ5
import Derived.Test.YtjjbkbinjmfnlaaGreatDoorChecked
import Derived.Test.YtjjbkbinjmfnlaaGreatDoorJ1
import Derived.WalkKit
import Derived.WalkLawsBesides
import Derived.WalkSmall
import Derived.KernelRfl
namespace Go.Proofs.YtjjbkbinjmfnlaaGreatDoor
open Go.RowKit
set_option linter.unusedVariables false
set_option linter.unusedSimpArgs false
set_option maxRecDepth 100000

set_option maxHeartbeats 4000000 in
theorem l10Line_any (g of' : Nat) (s : Sl) (xs : List En) (hu : UpsOk xs) (hl : xs.length ≤ 24) (k : Nat) : ∀ (p : Int), (p + 1).toNat ≤ k → -1 ≤ p → p < xs.length → ∀ (w : World), w.cell? ⟨g, of' + 3, none⟩ = some (.slice s.a s.n s.c) → RowOk enK w s xs →
    Calls Tryz.prog 31 #[.pointer (some ⟨g, of', none⟩), .int .i64 p] w fun r w' => ∃ a c, r = .returned (.slice a (lineL xs p).length c) ∧ w'.ownsRow w.heap.size 2 1 (.slice a (lineL xs p).length c) (lineL xs p).length ((lineL xs p).map (Value.int .i64)) ∧ Below w.heap.size w w' := by
  obtain ⟨i0, hi, hz0, hz1, hz2⟩ := info_parts info2
  have base : ∀ w : World, Calls Tryz.prog 31 #[.pointer (some ⟨g, of', none⟩), .int .i64 (-1)] w fun r w' => ∃ a c, r = .returned (.slice a (lineL xs (-1)).length c) ∧ w'.ownsRow w.heap.size 2 1 (.slice a (lineL xs (-1)).length c) (lineL xs (-1)).length ((lineL xs (-1)).map (Value.int .i64)) ∧ Below w.heap.size w w' := by
    intro w
    rw [lineL_none]
    go_enter Tryz.func31, Tryz.ntmps31
    go_wp2_with fail
    go_ret
    exact ⟨some ⟨w.heap.size, 0, none⟩, 0, rfl, World.ownsRow_lit w #[] 0 (Nat.le_refl _) (by unfold maxLen; omega) rfl, below_alloc w _⟩
  induction k with
  | zero =>
    intro p h1 h2 h3 w hc o
    obtain rfl : p = -1 := by omega
    exact base w
  | succ k ih =>
    intro p h1 h2 h3 w hc o
    by_cases e : p = -1
    · subst e; exact base w
    obtain ⟨m, rfl⟩ : ∃ m : Nat, p = (m : Int) := ⟨p.toNat, by omega⟩
    have hlen := o.len
    obtain ⟨x, hx⟩ : ∃ x, xs[m]? = some x := ⟨_, List.getElem?_eq_getElem (by omega)⟩
    obtain ⟨b, off, ha, hent⟩ := o.ent (by omega)
    obtain ⟨ee, he⟩ := hent m x hx
    have c12 := he.1 12 _ rfl
    have hup : upAt xs (m : Int) = x.2.2.1 := by unfold upAt; simp only [Int.toNat_natCast, hx]
    have kk := up_next hu (p := (m : Int)) (by omega) h3
    have HI := hide (fun (W : World) (hb : Below w.heap.size w W) => ih (upAt xs (m : Int)) (by omega) kk.1 (by omega) W ((hb.cell (p := ⟨g, of' + 3, none⟩) (lt_of_cell hc)).trans hc) (RowOk.below o hb (Nat.le_refl _)))
    rw [hup] at HI
    rw [lineL_step hu (by omega) h3, hup]
    rw [ha] at hc
    have HLL := hide (lineL_len xs x.2.2.1 (by omega))
    generalize lineL xs x.2.2.1 = L at HI HLL ⊢
    have i1 : (0 : Int) ≤ (m : Int) := by omega
    have i2 : (m : Int) < (s.n : Int) := by omega
    have d1 : decide (((m : Nat) : Int) < 0) = false := decide_eq_false (by omega)
    clear ih base o hent he hx hlen kk hup h1 h2 h3 e ha
    go_enter Tryz.func31, Tryz.ntmps31
    go_wp2_with fail
    refine ((unhide HI) w (Below.refl _ _)).mono ?_
    rintro r w1 ⟨a1, c1, rfl, o1, b1⟩
    have hL := unhide HLL
    go_wp2_with (at_builtin; refine wpList_append_own _ rfl _ _ 28 rfl w.heap.size 2 i0 (.int .i64 0) 1 8 Tryz.underlying28 hi hz0 hz1 hz2 rfl (by decide) _ _ _ rfl (o1.alloc _) ⟨w1.heap.size, 0, none⟩ 1 1 [.int .i64 (m : Int)] rfl rfl ?c1 ?c2 ?c3 ?c4 ?c5 ?_)
    case c1 => exact cell_one_new _ _ _
    case c2 => intro u hu; simp at hu; subst hu; rfl
    case c3 => unfold maxLen; omega
    case c4 => omega
    case c5 => have := b1.size; simp; omega
    intro v' w2 hown2 hgrow _
    obtain ⟨a2, cap2, hv⟩ := own_shape hown2
    have hb2 : Below w.heap.size w w2 := (b1.alloc b1.size _).grown hgrow (by have := b1.size; simp; omega) (fun g e => (o1.lt g e).1)
    rw [hv] at hown2
    rw [hv]
    have HO := hide hown2
    have HB := hide hb2
    clear hown2 hb2 hgrow o1 b1
    go_wp2_with fail
    go_ret
    refine ⟨a2, cap2, ?_, ?_, unhide HB⟩
    · rw [List.length_append]; rfl
    · rw [List.length_append, List.map_append]; exact unhide HO

end Go.Proofs.YtjjbkbinjmfnlaaGreatDoor

/- What is proved here: what CanonOf of the program and of the model answers: the line to the best entry. -/
namespace Go.Proofs.YtjjbkbinjmfnlaaGreatDoor
open Go.RowKit
set_option linter.unusedVariables false
set_option linter.unusedSimpArgs false
set_option maxRecDepth 100000

/-- The chain that counts. -/
def coList (x : St) : List Int := if stFlt x = 0 then lineL x.2 (bestL x.2 : Int) else []

set_option maxHeartbeats 4000000 in
theorem implCanon_any (s : Sl) (x : St) (w : World) (o : RowOk enK w s x.2) (m : StSm x) (V : Laid w) :
    Calls Tryz.prog 24 #[.agg (tvals s x)] w fun r w' => ∃ a c, r = .returned (.agg #[.int .i64 (stFlt x), .slice a (coList x).length c]) ∧
      w'.ownsRow w.heap.size 2 1 (.slice a (coList x).length c) (coList x).length ((coList x).map (Value.int .i64)) ∧ Below w.heap.size w w' := by
  obtain ⟨k0, k1, k2, k3⟩ := two_blk w (tvals s x) #[.int .i64 0, .slice none 0 0] 35 30
  obtain ⟨W0, e0⟩ : ∃ W, (w.alloc (.cells (tvals s x) 35)).alloc (.cells #[.int .i64 0, .slice none 0 0] 30) = W := ⟨_, rfl⟩
  rw [e0] at k0 k1 k2 k3
  have D1 := hide (implStoreFault_any s x W0 (RowOk.below o k2 (Nat.le_refl _)) m (V.below k2 (Nat.le_refl _)))
  have D2 := hide (fun (h0 : stFlt x = 0) (W : World) (hb : Below W0.heap.size W0 W) => headAmong_any s x.2 W (RowOk.below o (k2.trans (hb.mono k2.size)) (Nat.le_refl _)) (st_all h0) (by have := (st_zero h0).2.1; omega) (by have := (st_zero h0).2.1; omega))
  have D3 := hide (fun (h0 : stFlt x = 0) (W : World) (hb : Below W0.heap.size W0 W) => lineTo_any s x.2 (bestL x.2) W (RowOk.below o (k2.trans (hb.mono k2.size)) (Nat.le_refl _)) (st_ups h0) (st_zero h0).2.1.2 (bestL_lt (by have := (st_zero h0).2.1; omega)))
  have HLO : Hid (coList x = if stFlt x = 0 then lineL x.2 (bestL x.2 : Int) else []) := rfl
  have HK := hide (fun (W : World) (hb : Below W0.heap.size W0 W) => And.intro (k0.below hb k0.lt) (k1.below hb k1.lt))
  have HB0 := hide k2
  have E0 := hide e0
  unfold tvals at E0 k0 HK D1 ⊢
  have x0 := k0.cell 0
  have x1 := k0.cell 1
  have x2 := k0.cell 2
  have x3 := k0.cell 3
  simp only [List.getElem?_cons_zero, List.getElem?_cons_succ] at x0 x1 x2 x3
  generalize coList x = LL at HLO ⊢
  generalize stFlt x = q0 at D1 D2 D3 HLO ⊢
  generalize lineL x.2 (bestL x.2 : Int) = L1 at D3 HLO
  generalize bestL x.2 = bp at D2 D3
  have hz : w.heap.size + 1 < W0.heap.size := by omega
  clear e0 o m V k0 k1 k2 k3
  go_enter Tryz.func24, Tryz.ntmps24
  go_upto_region 1 with fail
  rw [unhide E0]
  clear E0
  go_wp2_with fail
  refine (unhide D1).mono ?_
  rintro r w1 ⟨rfl, b1⟩
  obtain ⟨k0, k1⟩ := (unhide HK) w1 b1
  have x3' := k0.cell 3
  have r0 := k1.cell 0
  have r1 := k1.cell 1
  have f0 := k1.free 0
  have f1 := k1.free 1
  simp only [List.getElem?_cons_zero, List.getElem?_cons_succ] at x3' r0 r1
  have B1 := hide ((unhide HB0).trans (b1.mono (unhide HB0).size))
  have BW := hide b1
  clear b1 k0 k1 x0 x1 x2 x3 D1
  by_cases h1 : q0 = 0
  · subst h1
    have D2' := hide ((unhide D2) (by first | rfl | trivial))
    have D3' := hide ((unhide D3) (by first | rfl | trivial))
    have hv := (unhide HLO).trans (if_pos rfl)
    subst hv
    clear HLO D2 D3
    go_wp2_with fail
    have HKP : Hid (∀ W, Below w1.heap.size w1 W → W.cell? ⟨w.heap.size, 3, none⟩ = some (.slice s.a s.n s.c) ∧ W.cell? ⟨w.heap.size + 1, 0, none⟩ = some (.int .i64 0) ∧ W.cell? ⟨w.heap.size + 1, 1, none⟩ = some (.slice none 0 0) ∧ W.frozen? ⟨w.heap.size + 1, 0, none⟩ = false ∧ W.frozen? ⟨w.heap.size + 1, 1, none⟩ = false) := fun W hb => by
      obtain ⟨k0, k1⟩ := (unhide HK) W ((unhide BW).trans (hb.mono (unhide BW).size))
      exact ⟨k0.cell 3, k1.cell 0, k1.cell 1, k1.free 0, k1.free 1⟩
    have D2n := hide (fun (W : World) (hb : Below w1.heap.size w1 W) => (unhide D2') W ((unhide BW).trans (hb.mono (unhide BW).size)))
    have D3n := hide (fun (W : World) (hb : Below w1.heap.size w1 W) => (unhide D3') W ((unhide BW).trans (hb.mono (unhide BW).size)))
    have hne1 : ¬ w.heap.size = w.heap.size + 1 := by omega
    clear D2' D3'
    go_region_held3 (fun W => W.cell? ⟨w.heap.size, 3, none⟩ = some (.slice s.a s.n s.c))
      (first | exact ((unhide HKP) _ (Below.refl w1.heap.size w1).drew).1 | assumption | exact s1 | exact t1 | exact cell_keep2 t1 hne1 | go_keep)
      (first
        | (go_at_call 49; refine ((unhide D2n) _ ((Below.refl _ _).drew)).mono ?_; rintro r w2 ⟨rfl, b2⟩; have J2 : Below w1.heap.size w1 w2 := (Below.refl w1.heap.size w1).drew.trans b2; obtain ⟨s1, s2, s3, s4, s5⟩ := (unhide HKP) w2 J2; clear b2)
        | (go_at_call 35; refine ((unhide D3n) _ J2).mono ?_; rintro r w3 ⟨a3, c3, rfl, o3, b3⟩; have J3 : Below w1.heap.size w1 w3 := J2.trans (b3.mono J2.size); obtain ⟨t1, t2, t3, t4, t5⟩ := (unhide HKP) w3 J3))
    all_goals
      have hz1 : W0.heap.size ≤ w1.heap.size := (unhide BW).size
      have hz2 : w1.heap.size ≤ w2.heap.size := J2.size
      have Q := hide (And.intro o3 (And.intro ((unhide B1).trans (J3.mono (unhide B1).size)) (And.intro hz1 hz2)))
      clear o3 J2 J3 b3 s1 s2 s3 s4 s5 t1 r0 r1 f0 f1 hz1 hz2
      go_wp2_with fail
      obtain ⟨o2, B2, hz1, hz2⟩ := unhide Q
      refine bodyPost_ret (v := .agg #[.int .i64 0, .slice a3 LL.length c3]) (by simp [results, Tryz.results24, go_sem, t2, t3]) rfl ⟨a3, c3, rfl, ?_, ?_⟩
      · exact ownsRow_base (ownsRow_setCell_below (ownsRow_setCell_below o2 (a := ⟨w.heap.size + 1, 0, none⟩) (by show w.heap.size + 1 < _; omega) _) (a := ⟨w.heap.size + 1, 1, none⟩) (by show w.heap.size + 1 < _; omega) _) (by omega)
      · exact (B2.setCell (by show w.heap.size ≤ w.heap.size + 1; omega) _).setCell (by show w.heap.size ≤ w.heap.size + 1; omega) _
  · have hne : (q0 != 0) = true := by simp [h1]
    have hv := (unhide HLO).trans (if_neg h1)
    subst hv
    clear h1 HLO D2 D3
    go_wp2_with fail
    exact bodyPost_ret (v := .agg #[.int .i64 q0, .slice none 0 0]) (by simp [results, Tryz.results24, go_sem, r0, r1]) rfl ⟨none, 0, rfl, World.ownsRow_nil _ _ _ _, ((unhide B1).setCell (by show w.heap.size ≤ w.heap.size + 1; omega) _).setCell (by show w.heap.size ≤ w.heap.size + 1; omega) _⟩

set_option maxHeartbeats 4000000 in
theorem specCanon_any (s : Sl) (x : St) (w : World) (o : RowOk enK w s x.2) (m : StSm x) :
    Calls Tryz.prog 23 #[.agg (tvals s x)] w fun r w' => ∃ a c, r = .returned (.agg #[.int .i64 (stFlt x), .slice a (coList x).length c]) ∧
      w'.ownsRow w.heap.size 2 1 (.slice a (coList x).length c) (coList x).length ((coList x).map (Value.int .i64)) ∧ Below w.heap.size w w' := by
  obtain ⟨k0, k1, k2, k3⟩ := two_blk w (tvals s x) #[.int .i64 0, .slice none 0 0] 35 30
  obtain ⟨W0, e0⟩ : ∃ W, (w.alloc (.cells (tvals s x) 35)).alloc (.cells #[.int .i64 0, .slice none 0 0] 30) = W := ⟨_, rfl⟩
  rw [e0] at k0 k1 k2 k3
  have D1 := hide (l10Fault_any w.heap.size 0 s x W0 (fun j v hv => by rw [Nat.zero_add, k0.cell]; exact hv) (RowOk.below o k2 (Nat.le_refl _)) m)
  have D2 := hide (fun (h0 : stFlt x = 0) (W : World) (hb : Below W0.heap.size W0 W) => l11Head_any w.heap.size 0 s x.2 W (by rw [Nat.zero_add]; exact (k0.below hb k0.lt).cell 3) (RowOk.below o (k2.trans (hb.mono k2.size)) (Nat.le_refl _)) (st_all h0) (by have := (st_zero h0).2.1; omega) (by have := (st_zero h0).2.1; omega))
  have D3 := hide (fun (h0 : stFlt x = 0) (W : World) (hb : Below W0.heap.size W0 W) => l10Line_any w.heap.size 0 s x.2 (st_ups h0) (st_zero h0).2.1.2 ((bestL x.2 : Int) + 1).toNat (bestL x.2 : Int) (Nat.le_refl _) (by omega) (by have := bestL_lt (xs := x.2) (by have := (st_zero h0).2.1; omega); omega) W (by rw [Nat.zero_add]; exact (k0.below hb k0.lt).cell 3) (RowOk.below o (k2.trans (hb.mono k2.size)) (Nat.le_refl _)))
  have HLO : Hid (coList x = if stFlt x = 0 then lineL x.2 (bestL x.2 : Int) else []) := rfl
  have HK := hide (fun (W : World) (hb : Below W0.heap.size W0 W) => And.intro (k0.below hb k0.lt) (k1.below hb k1.lt))
  have HB0 := hide k2
  have E0 := hide e0
  unfold tvals at E0 k0 HK ⊢
  have x0 := k0.cell 0
  have x1 := k0.cell 1
  have x2 := k0.cell 2
  have x3 := k0.cell 3
  simp only [List.getElem?_cons_zero, List.getElem?_cons_succ] at x0 x1 x2 x3
  generalize coList x = LL at HLO ⊢
  generalize stFlt x = q0 at D1 D2 D3 HLO ⊢
  generalize lineL x.2 (bestL x.2 : Int) = L1 at D3 HLO
  generalize bestL x.2 = bp at D2 D3
  have hz : w.heap.size + 1 < W0.heap.size := by omega
  clear e0 o m k0 k1 k2 k3
  go_enter Tryz.func23, Tryz.ntmps23
  go_upto_region 1 with fail
  rw [unhide E0]
  clear E0
  go_wp2_with fail
  refine (unhide D1).mono ?_
  rintro r w1 ⟨rfl, b1⟩
  obtain ⟨k0, k1⟩ := (unhide HK) w1 b1
  have x3' := k0.cell 3
  have r0 := k1.cell 0
  have r1 := k1.cell 1
  have f0 := k1.free 0
  have f1 := k1.free 1
  simp only [List.getElem?_cons_zero, List.getElem?_cons_succ] at x3' r0 r1
  have B1 := hide ((unhide HB0).trans (b1.mono (unhide HB0).size))
  have BW := hide b1
  clear b1 k0 k1 x0 x1 x2 x3 D1
  by_cases h1 : q0 = 0
  · subst h1
    have D2' := hide ((unhide D2) (by first | rfl | trivial))
    have D3' := hide ((unhide D3) (by first | rfl | trivial))
    have hv := (unhide HLO).trans (if_pos rfl)
    subst hv
    clear HLO D2 D3
    go_wp2_with fail
    refine ((unhide D2') w1 (unhide BW)).mono ?_
    rintro r w2 ⟨rfl, b2⟩
    have BW2 := hide ((unhide BW).trans (b2.mono (unhide BW).size))
    have B2 := hide ((unhide B1).trans (b2.mono (unhide B1).size))
    clear b2
    go_wp2_with fail
    refine ((unhide D3') w2 (unhide BW2)).mono ?_
    rintro r w3 ⟨a3, c3, rfl, o3, b3⟩
    obtain ⟨k0, k1⟩ := (unhide HK) w3 ((unhide BW2).trans (b3.mono (unhide BW2).size))
    have r0 := k1.cell 0
    have r1 := k1.cell 1
    have f0 := k1.free 0
    have f1 := k1.free 1
    simp only [List.getElem?_cons_zero, List.getElem?_cons_succ] at r0 r1
    have hz1 : W0.heap.size ≤ w2.heap.size := (unhide BW2).size
    have Q := hide (And.intro o3 (And.intro ((unhide B2).trans (b3.mono (unhide B2).size)) hz1))
    clear b3 k0 k1 o3 hz1
    go_wp2_with fail
    obtain ⟨o2, B3, hz1⟩ := unhide Q
    first
      | refine bodyPost_ret (v := .agg #[.int .i64 0, .slice a3 LL.length c3]) (by simp [results, Tryz.results23, go_sem, r0, r1]) rfl ⟨a3, c3, rfl, ?_, ?_⟩
        · exact ownsRow_base (ownsRow_setCell_below (ownsRow_setCell_below o2 (a := ⟨w.heap.size + 1, 0, none⟩) (by show w.heap.size + 1 < _; omega) _) (a := ⟨w.heap.size + 1, 1, none⟩) (by show w.heap.size + 1 < _; omega) _) (by omega)
        · exact (B3.setCell (by show w.heap.size ≤ w.heap.size + 1; omega) _).setCell (by show w.heap.size ≤ w.heap.size + 1; omega) _
      | refine bodyPost_ret (v := .agg #[.int .i64 0, .slice a3 LL.length c3]) (by simp [results, Tryz.results23, go_sem, r0, r1]) rfl ⟨a3, c3, rfl, ?_, ?_⟩
        · exact ownsRow_base (ownsRow_setCell_below o2 (a := ⟨w.heap.size + 1, 1, none⟩) (by show w.heap.size + 1 < _; omega) _) (by omega)
        · exact B3.setCell (by show w.heap.size ≤ w.heap.size + 1; omega) _
  · have hne : (q0 != 0) = true := by simp [h1]
    have hv := (unhide HLO).trans (if_neg h1)
    subst hv
    clear h1 HLO D2 D3
    go_wp2_with fail
    exact bodyPost_ret (v := .agg #[.int .i64 q0, .slice none 0 0]) (by simp [results, Tryz.results23, go_sem, r0, r1]) rfl ⟨none, 0, rfl, World.ownsRow_nil _ _ _ _, ((unhide B1).setCell (by show w.heap.size ≤ w.heap.size + 1; omega) _).setCell (by show w.heap.size ≤ w.heap.size + 1; omega) _⟩

end Go.Proofs.YtjjbkbinjmfnlaaGreatDoor

/- What is proved here: the contracts of the laws' helper functions that count entries and stores: what they leave is below 0, or all is small (szInt64S, szEntry, szEntryS, szStore). -/
namespace Go.Proofs.YtjjbkbinjmfnlaaGreatDoor
open Go.RowKit
set_option linter.unusedVariables false
set_option linter.unusedSimpArgs false
set_option maxRecDepth 100000

theorem szI1_any (a : Option Addr) (n cap : Nat) (left : Int) (w : World) (h0 : 0 ≤ left) (h1 : left ≤ 1099511627776) (hn : n ≤ maxLen) :
    Calls Tryz.prog 80 #[.slice a n cap, .int .i64 left] w fun e w' => e = .returned (.int .i64 (if left - n < 0 then -1 else left - n)) ∧ w' = w := by
  unfold maxLen at hn
  by_cases h : left - n < 0
  · rw [if_pos h]
    have hd : decide (left - (n : Int) < 0) = true := decide_eq_true h
    go_enter Tryz.func80, Tryz.ntmps80
    go_wp2
    go_ret
    exact ⟨rfl, rfl⟩
  · rw [if_neg h]
    have hd : decide (left - (n : Int) < 0) = false := decide_eq_false h
    go_enter Tryz.func80, Tryz.ntmps80
    go_wp2
    go_ret
    exact ⟨rfl, rfl⟩

set_option maxHeartbeats 4000000 in
theorem szEntry_any (e : EnS) (x : En) (L0 : Int) (w : World) (o : enK.Ok w e x) (h0 : 0 ≤ L0) (h1 : L0 ≤ 1048576) :
    Calls Tryz.prog 54 #[.agg (evals e x), .int .i64 L0] w fun r w' => (∃ q : Int, r = .returned (.int .i64 q) ∧ -1 ≤ q ∧ q ≤ L0 ∧ (0 ≤ q → EnSm x)) ∧ Below w.heap.size w w' := by
  have k0 := SBlk.new w (evals e x) 85
  have k2 := below_alloc w (.cells (evals e x) 85)
  obtain ⟨W0, e0⟩ : ∃ W, w.alloc (.cells (evals e x) 85) = W := ⟨_, rfl⟩
  rw [e0] at k0 k2
  replace o := enK.below o k2 (Nat.le_refl _)
  have D1 := hide (szHeader_any e.1 x.1 L0 W0 (hd_ok o.1) (hd_max o.1) h0 h1)
  have l2 : e.2.1.n ≤ maxLen := Nat.le_trans (BOk.room o.2.1) (BOk.max o.2.1)
  have l3 : e.2.2.2.n ≤ maxLen := Nat.le_trans (IOk.room o.2.2.2) (IOk.max o.2.2.2)
  have z2 : x.2.1.length = e.2.1.n := (BOk.row o.2.1).1
  have z3 : x.2.2.2.length = e.2.2.2.n := (IOk.row o.2.2.2).1
  have HZ := hide (And.intro z2 z3)
  have HLa : Hid ((Instr.loadAt 83 (.pointer (some ⟨w.heap.size, 0, none⟩))).run Tryz.prog W0 = .ok (.agg (hvals e.1 x.1)) W0) :=
    ld_run (hvals e.1 x.1).toList 83 _ (fun j v hv => by rw [Nat.zero_add, k0.cell]; exact ev_hd e x j v hv) Tryz.underlying83 rfl (by kernel_rfl)
  have HK0 := hide (fun (W : World) (hb : Below W0.heap.size W0 W) => k0.below hb k0.lt)
  have HB0 := hide k2
  have E0 := hide e0
  clear e0 o k0 k2 z2 z3
  generalize hvals e.1 x.1 = V1 at HLa D1
  unfold evals at E0 HK0 ⊢
  go_enter Tryz.func54, Tryz.ntmps54
  go_upto_region 1 with fail
  rw [unhide E0]
  clear E0
  go_wp2_with (refine wpList_load_eq rfl 83 _ rfl _ _ rfl (unhide HLa) ?_)
  refine (unhide D1).mono ?_
  rintro r w1 ⟨⟨L1, rfl, a1, a2, a3⟩, b1⟩
  have B1 := hide ((unhide HB0).trans (b1.mono (unhide HB0).size))
  have k1 := (unhide HK0) w1 b1
  have x1 := k1.cell 11
  have x2 := k1.cell 13
  simp only [List.getElem?_cons_zero, List.getElem?_cons_succ] at x1 x2
  clear b1 k1 HK0 D1 HLa
  by_cases n1 : L1 < 0
  · have d1 : decide (L1 < 0) = true := decide_eq_true n1
    go_wp2_with fail
    go_ret
    exact ⟨⟨-1, rfl, by omega, by omega, fun h => by omega⟩, unhide B1⟩
  have d1 : decide (L1 < 0) = false := decide_eq_false n1
  have S1 := a3 (by omega)
  have HS1 := hide S1
  obtain ⟨L2, e2⟩ : ∃ L : Int, L = if L1 - e.2.1.n < 0 then -1 else L1 - e.2.1.n := ⟨_, rfl⟩
  have D2 := hide (szB1_to e.2.1.a e.2.1.n e.2.1.c L1 L2 w1 (by omega) (by omega) l2 e2)
  have E2 := hide e2
  clear e2 S1 a3
  go_wp2_with fail
  refine (unhide D2).mono ?_
  rintro r w2 ⟨rfl, rfl⟩
  by_cases n2 : L2 < 0
  · have d2 : decide (L2 < 0) = true := decide_eq_true n2
    go_wp2_with fail
    go_ret
    exact ⟨⟨-1, rfl, by omega, by omega, fun h => by omega⟩, unhide B1⟩
  have d2 : decide (L2 < 0) = false := decide_eq_false n2
  have f2 : L2 = L1 - e.2.1.n := by
    have := unhide E2
    split at this <;> omega
  have F2 := hide f2
  have g2 : L2 ≤ L1 := by omega
  have D3 := hide (szI1_any e.2.2.2.a e.2.2.2.n e.2.2.2.c L2 w2 (by omega) (by omega) l3)
  obtain ⟨L3, e3⟩ : ∃ L : Int, L = if L2 - e.2.2.2.n < 0 then -1 else L2 - e.2.2.2.n := ⟨_, rfl⟩
  rw [← e3] at D3
  have E3 := hide e3
  clear e3 f2 D2
  go_wp2_with fail
  refine (unhide D3).mono ?_
  rintro r w3 ⟨rfl, rfl⟩
  by_cases n3 : L3 < 0
  · have d3 : decide (L3 < 0) = true := decide_eq_true n3
    go_wp2_with fail
    go_ret
    exact ⟨⟨-1, rfl, by omega, by omega, fun h => by omega⟩, unhide B1⟩
  have d3 : decide (L3 < 0) = false := decide_eq_false n3
  go_wp2_with fail
  go_ret
  have f2 := unhide F2
  have f3 : L3 = L2 - e.2.2.2.n := by
    have := unhide E3
    split at this <;> omega
  obtain ⟨z2, z3⟩ := unhide HZ
  exact ⟨⟨L3, rfl, by omega, by omega, fun _ => ⟨unhide HS1, by omega, by omega⟩⟩, unhide B1⟩

set_option maxHeartbeats 4000000 in
theorem szEntryS_any (s : Sl) (xs : List En) (L0 : Int) (w : World) (o : RowOk enK w s xs) (h0 : 0 ≤ L0) (h1 : L0 ≤ 1048576) :
    Calls Tryz.prog 29 #[.slice s.a s.n s.c, .int .i64 L0] w fun r w' => (∃ q : Int, r = .returned (.int .i64 q) ∧ -1 ≤ q ∧ q ≤ L0 ∧ (0 ≤ q → xs.length ≤ 1048576 ∧ ∀ y ∈ xs, EnSm y)) ∧ Below w.heap.size w w' := by
  obtain ⟨a, n, c⟩ := s
  have hn : n = xs.length := o.len
  have hl : n ≤ maxLen := Nat.le_trans o.room o.max
  unfold maxLen at hl
  by_cases hs : L0 - n < 0
  · have hd : decide (L0 - (n : Int) < 0) = true := decide_eq_true hs
    clear o
    go_enter Tryz.func29, Tryz.ntmps29
    go_wp2_with fail
    go_ret
    exact ⟨⟨-1, rfl, by omega, by omega, fun h => by omega⟩, Below.refl _ _⟩
  · rcases Nat.eq_zero_or_pos n with hz | hp
    · subst hz
      obtain rfl : xs = [] := List.length_eq_zero_iff.1 hn.symm
      clear o hn hl hs
      have hd : decide (L0 < 0) = false := decide_eq_false (by omega)
      go_enter Tryz.func29, Tryz.ntmps29
      go_wp2_with fail
      refine wp_loop_rounds 1 ?_
      rw [rounds_succ]
      go_wp2_with fail
      go_ret
      exact ⟨⟨L0, rfl, by omega, by omega, fun h => ⟨by simp, fun y hy => by simp at hy⟩⟩, Below.refl _ _⟩
    · have hd : decide (L0 - (n : Int) < 0) = false := decide_eq_false hs
      obtain ⟨b, off, rfl, hb, hc⟩ := o.pos hp
      have HC := hide (fun (W : World) (hbl : Below w.heap.size w W) (i : Nat) (x : En) (hx : xs[i]? = some x) => match hc i x hx with | ⟨e, c, o⟩ => (⟨e, fun j v hv => (hbl.cell (p := ⟨b, off + i * 14 + j, none⟩) hb).trans (c j v hv), enK.below o hbl (Nat.le_refl _)⟩ : ∃ e : EnS, (∀ j v, (evals e x).toList[j]? = some v → W.cell? ⟨b, off + i * 14 + j, none⟩ = some v) ∧ enK.Ok W e x))
      have HL := hide hn
      clear o hc hn
      go_enter Tryz.func29, Tryz.ntmps29
      go_wp2_with fail
      go_loopw [1, 5] (fun q i wr => ∃ (k : Nat) (L : Int), k ≤ n ∧ i = .int .i64 k ∧ q = .int .i64 L ∧ 0 ≤ L ∧ L ≤ L0 - n ∧ (∀ (j : Nat) y, j < k → xs[j]? = some y → EnSm y) ∧ Below w.heap.size w wr) (fun _ i _ => n - (intOf i).toNat)
      case atStart => exact ⟨0, _, Nat.zero_le _, rfl, rfl, by omega, by omega, fun j y hj => absurd hj (Nat.not_lt_zero _), Below.refl _ _⟩
      case round =>
        obtain ⟨k, L, hk, rfl, rfl, hL0, hL1, hall, hbr⟩ := hrel
        have HA := hide hall
        clear hall
        by_cases hlt : k < n
        · have hkx : k < xs.length := by rw [← unhide HL]; exact hlt
          obtain ⟨x, hx⟩ : ∃ x, xs[k]? = some x := ⟨_, List.getElem?_eq_getElem hkx⟩
          obtain ⟨e, c, o⟩ := (unhide HC) wr hbr k x hx
          have HLD : Hid (∀ W, Below wr.heap.size wr W → (Instr.loadAt 85 (.pointer (some ⟨b, off + k * 14, none⟩))).run Tryz.prog W = .ok (.agg (evals e x)) W) := fun W hbl =>
            ld_run (evals e x).toList 85 _ (fun j v hv => (hbl.cell (p := ⟨b, off + k * 14 + j, none⟩) (lt_of_cell (c j v hv))).trans (c j v hv)) Tryz.underlying85 rfl (by kernel_rfl)
          have HD := hide (fun (W : World) (hbl : Below wr.heap.size wr W) => szEntry_any e x L W (enK.below o hbl (Nat.le_refl _)) hL0 (by omega))
          have HX := hide hx
          have HB := hide hbr
          have i1 : (0 : Int) ≤ (k : Int) := by omega
          have i2 : (k : Int) < (n : Int) := by omega
          clear c o hbr hx hkx
          generalize evals e x = V at HLD HD
          go_wp2_with (refine wpList_load_eq rfl 85 _ rfl _ _ rfl ((unhide HLD) _ (by first | exact Below.refl _ _ | exact (Below.refl _ _).drew)) ?_)
          refine ((unhide HD) _ (by first | exact Below.refl _ _ | exact (Below.refl _ _).drew)).mono ?_
          rintro r w2 ⟨⟨q, rfl, a1, a2, a3⟩, b2⟩
          have b2' : Below wr.heap.size wr w2 := by first | exact b2 | exact Below.trans ((Below.refl _ _).drew) b2
          have HB2 := hide ((unhide HB).trans (b2'.mono (unhide HB).size))
          have HA3 := hide a3
          clear b2 b2' a3
          by_cases hq : q < 0
          · have dq : decide (q < 0) = true := decide_eq_true hq
            go_wp2_with fail
            go_ret
            exact ⟨⟨-1, rfl, by omega, by omega, fun h => by omega⟩, unhide HB2⟩
          · have dq : decide (q < 0) = false := decide_eq_false hq
            go_wp2_with fail
            go_roundw
            case rel =>
              refine ⟨k + 1, q, by omega, by go_num, rfl, by omega, by omega, fun j y hj hy => ?_, unhide HB2⟩
              by_cases e : j = k
              · subst e
                obtain rfl : x = y := Option.some.inj ((unhide HX).symm.trans hy)
                exact (unhide HA3) (by omega)
              · exact (unhide HA) j y (by omega) hy
            case measure => simp [intOf]; omega
        · obtain rfl : k = n := by omega
          have HB := hide hbr
          clear hbr
          go_wp2_with fail
          go_ret
          refine ⟨⟨L, rfl, by omega, by omega, fun _ => ⟨by have := unhide HL; omega, fun y hy => ?_⟩⟩, unhide HB⟩
          obtain ⟨j, hj⟩ := List.getElem?_of_mem hy
          have hjl := (List.getElem?_eq_some_iff.1 hj).1
          exact (unhide HA) j y (by have := unhide HL; omega) hj

set_option maxHeartbeats 4000000 in
theorem szStore_any (s : Sl) (x : St) (L0 : Int) (w : World) (o : RowOk enK w s x.2) (h0 : 0 ≤ L0) (h1 : L0 ≤ 1048576) :
    Calls Tryz.prog 9 #[.agg (tvals s x), .int .i64 L0] w fun r w' => (∃ q : Int, r = .returned (.int .i64 q) ∧ -1 ≤ q ∧ q ≤ L0 ∧ (0 ≤ q → StSm x)) ∧ Below w.heap.size w w' := by
  have k0 := SBlk.new w (tvals s x) 26
  have k2 := below_alloc w (.cells (tvals s x) 26)
  obtain ⟨W0, e0⟩ : ∃ W, w.alloc (.cells (tvals s x) 26) = W := ⟨_, rfl⟩
  rw [e0] at k0 k2
  have D1 := hide (szEntryS_any s x.2 L0 W0 (RowOk.below o k2 (Nat.le_refl _)) h0 h1)
  have HB0 := hide k2
  unfold tvals at k0 e0 ⊢
  have x1 := k0.cell 3
  simp only [List.getElem?_cons_zero, List.getElem?_cons_succ] at x1
  have E0 := hide e0
  clear e0 o k0 k2
  go_enter Tryz.func9, Tryz.ntmps9
  go_upto_region 1 with fail
  rw [unhide E0]
  clear E0
  go_wp2_with fail
  refine (unhide D1).mono ?_
  rintro r w1 ⟨⟨L1, rfl, a1, a2, a3⟩, b1⟩
  have B1 := hide ((unhide HB0).trans (b1.mono (unhide HB0).size))
  have HA3 := hide a3
  clear b1 D1 a3 x1
  by_cases n1 : L1 < 0
  · have d1 : decide (L1 < 0) = true := decide_eq_true n1
    go_wp2_with fail
    go_ret
    exact ⟨⟨-1, rfl, by omega, by omega, fun h => by omega⟩, unhide B1⟩
  have d1 : decide (L1 < 0) = false := decide_eq_false n1
  go_wp2_with fail
  go_ret
  refine ⟨⟨L1, rfl, by omega, by omega, fun h => ?_⟩, unhide B1⟩
  obtain ⟨q1, q2⟩ := (unhide HA3) h
  exact ⟨q1, q2⟩

end Go.Proofs.YtjjbkbinjmfnlaaGreatDoor

/- What is proved here: the contracts of the laws' helper functions that mark a list or a header that a call made, and look for the marks later (markByteSS, markHeader, heldByteSS, heldHeader). -/
namespace Go.Proofs.YtjjbkbinjmfnlaaGreatDoor
open Go.RowKit
set_option linter.unusedVariables false
set_option maxRecDepth 100000

theorem take_drop_at (m l : List (List Int)) (k : Nat) (h : m.length = l.length) : (m.take k ++ l.drop k)[k]? = l[k]? := by
  by_cases hk : k ≤ m.length
  · rw [List.getElem?_append_right (by rw [List.length_take]; omega), List.length_take, Nat.min_eq_left hk, Nat.sub_self, List.getElem?_drop, Nat.add_zero]
  · rw [List.getElem?_eq_none (by rw [List.length_append, List.length_take, List.length_drop]; omega), List.getElem?_eq_none (by omega)]

theorem take_drop_set (m l : List (List Int)) (k : Nat) (x : List Int) (h : m.length = l.length) (hx : m[k]? = some x) : (m.take k ++ l.drop k).set k x = m.take (k + 1) ++ l.drop (k + 1) := by
  obtain ⟨hk, e⟩ := List.getElem?_eq_some_iff.1 hx
  have hl : (m.take k).length = k := by rw [List.length_take]; omega
  rw [List.set_append, if_neg (by omega), hl, Nat.sub_self, List.drop_eq_getElem_cons (by omega), List.set_cons_zero, List.take_succ_eq_append_getElem hk, e, List.append_assoc]
  rfl

theorem markB_col (B j : Nat) (d : Nat → Nat) (s : Sl) (z : List Int) (k0 : Int) (w : World) (h : CB w B d j s z) (hB : B ≤ w.heap.size) (hn : z.length ≤ 1048576) (hk0 : 0 ≤ k0) (hk1 : k0 ≤ 1099511627776) :
    Calls Tryz.prog 64 #[.slice s.a s.n s.c, .int .i64 k0] w fun e w' => e = .returned (.int .i64 (k0 + (z.length : Nat))) ∧ CB w' B d j s (marks k0 z.length) ∧ OnlyD B d (fun c => c = j) w w' := by
  have hl := h.len
  refine (markByteS_own B s.n s.c s.a z k0 w h.own (by omega) hk0 hk1).mono ?_
  rintro e w' ⟨rfl, ho, hg⟩
  rw [hl] at ho
  refine ⟨by rw [hl], ⟨by rw [marks_length]; exact hl, marks_range _ _, by rw [hl]; exact ho, h.col⟩, OnlyD.grown hg hB (fun g e => ⟨(own_lt h.own g e).1, h.col g e⟩)⟩

set_option maxHeartbeats 4000000 in
theorem markSS_col (B r c : Nat) (d : Nat → Nat) (s : Sl) (zss : List (List Int)) (k0 : Int) (w : World) (h : CS w B d r c s zss) (hr : ∀ i, r ≠ c + 3 * i) (hB : B ≤ w.heap.size) (hl : zss.length ≤ 1048576) (hs : bsum zss ≤ 1048576) (hk0 : 0 ≤ k0) (hk1 : k0 ≤ 16777216) :
    Calls Tryz.prog 65 #[.slice s.a s.n s.c, .int .i64 k0] w fun e w' => e = .returned (.int .i64 (k0 + (bsum zss : Nat))) ∧ CS w' B d r c s (mkss k0 zss) ∧ OnlyD B d (fun q => ∃ i, q = c + 3 * i) w w' := by
  have hsn := h.1
  have HSN := hide (bsum_snoc zss)
  have HLE := hide (bsum_le zss)
  have HMA := hide (mkss_at zss k0)
  have HML := hide (mkss_length zss k0)
  have HM := hide h
  have HR := hide hr
  obtain ⟨len, hlen⟩ : ∃ len, len = zss.length := ⟨_, rfl⟩
  have HLEN := hide hlen
  rw [hsn]
  rw [← hlen] at hl hsn ⊢
  clear h hr hlen
  have HSL := hide hsn
  clear hsn
  generalize hsc : s.c = sc
  have HSC := hide hsc
  clear hsc
  generalize hsa : s.a = sa
  have HSA := hide hsa
  clear hsa
  go_enter Tryz.func65, Tryz.ntmps65
  go_wp2_with fail
  go_loopw [1, 5] (fun q i wr => ∃ k : Nat, k ≤ len ∧ i = .int .i64 k ∧ q = .int .i64 (k0 + (bsum (zss.take k) : Nat)) ∧ CS wr B d r c s ((mkss k0 zss).take k ++ zss.drop k) ∧ OnlyD B d (fun q => ∃ i, q = c + 3 * i) w wr) (fun _ i _ => len - (intOf i).toNat)
  case atStart => exact ⟨0, Nat.zero_le _, rfl, by simp [bsum], by simpa using unhide HM, OnlyD.refl _ _ _ _⟩
  case round =>
    obtain ⟨k, hk, rfl, rfl, hm, ho⟩ := hrel
    clear HM
    by_cases hlt : k < len
    · obtain ⟨z, hit⟩ : ∃ z, zss[k]? = some z := ⟨_, List.getElem?_eq_getElem (by rw [← unhide HLEN]; exact hlt)⟩
      have hat := (take_drop_at (mkss k0 zss) zss k (unhide HML)).trans hit
      obtain ⟨g, e, ha, hc, hcb, hst⟩ := hm.at hat ((unhide HR) k)
      have hma := (unhide HMA) k z hit
      have hsn := (unhide HSN) k z hit
      have hle1 := (unhide HLE) (k + 1)
      have hzl : z.length ≤ 1048576 := by omega
      obtain ⟨ks, hks⟩ : ∃ ks, ks = bsum (zss.take k) := ⟨_, rfl⟩
      rw [← hks] at hsn hma ⊢
      have hksl : ks ≤ 1048576 := by omega
      have hBr : B ≤ wr.heap.size := Nat.le_trans hB ho.1.size
      have HC := hide (markB_col B (c + 3 * k) d e z (k0 + ks) wr hcb hBr hzl (by omega) (by omega))
      have HST : Hid (∀ w', CB w' B d (c + 3 * k) e (marks (k0 + ks) z.length) → OnlyD B d (fun q => q = c + 3 * k) wr w' → CS w' B d r c s ((mkss k0 zss).take (k + 1) ++ zss.drop (k + 1)) ∧ OnlyD B d (fun q => ∃ i, q = c + 3 * i) w w') := fun w' hb hw => by
        have := hst w' _ hw hb
        rw [take_drop_set _ _ k _ (unhide HML) hma] at this
        exact ⟨this, ho.trans (hw.mono (fun q e => ⟨k, e⟩))⟩
      have HSN2 : Hid (bsum (zss.take (k + 1)) = ks + z.length) := hsn
      have k1 : (0 : Int) ≤ (k : Int) := by omega
      have k2 : (k : Int) < (len : Int) := by omega
      rw [unhide HSA] at ha
      subst ha
      generalize z.length = zl at HC HST HSN2 hzl
      clear hsn hle1 hit ho hks hm hat hcb hst hma
      go_wp2_with fail
      refine (unhide HC).mono ?_
      rintro e w2 ⟨rfl, b2, g2⟩
      obtain ⟨m2, o2⟩ := (unhide HST) w2 b2 g2
      have HM2 := hide m2
      have HO2 := hide o2
      clear m2 o2 g2 b2
      go_wp2_with fail
      go_roundw
      case rel => exact ⟨k + 1, by omega, by go_num, by rw [unhide HSN2]; congr 1; omega, unhide HM2, unhide HO2⟩
      case measure => simp [intOf]; omega
    · obtain rfl : k = len := by omega
      have et : zss.take k = zss := List.take_of_length_le (by rw [← unhide HLEN]; exact Nat.le_refl _)
      have em : (mkss k0 zss).take k ++ zss.drop k = mkss k0 zss := by rw [List.take_of_length_le (by rw [unhide HML, ← unhide HLEN]; exact Nat.le_refl _), List.drop_eq_nil_of_le (by rw [← unhide HLEN]; exact Nat.le_refl _), List.append_nil]
      rw [et]
      rw [em] at hm
      have HO := hide ho
      have HM := hide hm
      clear hm ho et em
      go_wp2_with fail
      go_ret
      exact ⟨rfl, unhide HM, unhide HO⟩

end Go.Proofs.YtjjbkbinjmfnlaaGreatDoor

/- What is proved here: the contracts of the laws' helper functions that write marks into an answer's numbers and look for them later (markInt64S, heldInt64S and those over IntsResult), for slices that the call itself made. -/
namespace Go.Proofs.YtjjbkbinjmfnlaaGreatDoor
open Go.RowKit
set_option linter.unusedVariables false
set_option maxRecDepth 100000

set_option maxHeartbeats 1000000 in
theorem markInt64S_any (B g n cap : Nat) (zs : List Int) (k0 : Int) (w : World) (h : w.ownsRow B 2 1 (.slice (some ⟨g, 0, none⟩) n cap) n (zs.map (Value.int .i64))) (hn : n ≤ 2097152) (hk0 : 0 ≤ k0) (hk1 : k0 ≤ 1099511627776) :
    Calls Tryz.prog 40 #[.slice (some ⟨g, 0, none⟩) n cap, .int .i64 k0] w fun e w' => e = .returned (.int .i64 (k0 + n)) ∧
      w'.ownsRow B 2 1 (.slice (some ⟨g, 0, none⟩) n cap) n ((imarks k0 n).map (Value.int .i64)) ∧ w.grownBy w' (some g) := by
  have hzl : zs.length = n := by simpa using h.1
  go_enter Tryz.func40, Tryz.ntmps40
  go_wp2
  go_loopw [1, 5] (fun q i wr => ∃ k : Nat, k ≤ n ∧ i = .int .i64 k ∧ q = .int .i64 (k0 + k) ∧ wr.ownsRow B 2 1 (.slice (some ⟨g, 0, none⟩) n cap) n ((imarks k0 k ++ zs.drop k).map (Value.int .i64)) ∧ w.grownBy wr (some g))
    (fun _ i _ => n - (intOf i).toNat)
  case atStart => exact ⟨0, Nat.zero_le _, rfl, by simp, by simpa [imarks] using h, grownBy_refl w _⟩
  case round =>
    obtain ⟨k, hk, rfl, rfl, hown, hgr⟩ := hrel
    by_cases hlt : k < n
    · have hfz := hown.frozenAt k
      obtain ⟨u, hu⟩ : ∃ u, wr.cell? ⟨g, k, none⟩ = some u := by
        rw [hown.cellAt k (by omega)]
        exact ⟨_, List.getElem?_eq_getElem (by rw [hown.1]; omega)⟩
      have R := hown.stored k (.int .i64 (k0 + k))
      rw [imark_step k0 zs n k hzl hlt] at R
      have HR := R.1
      have HG := grownBy_trans hgr R.2
      clear R hown
      go_wp2
      go_roundw
      case rel => exact ⟨k + 1, by omega, by go_num, by go_num, HR, HG⟩
      case measure => simp [intOf]; omega
    · obtain rfl : k = n := by omega
      rw [List.drop_eq_nil_of_le (by omega), List.append_nil] at hown
      go_wp2
      go_ret
      exact ⟨rfl, hown, hgr⟩

set_option maxHeartbeats 1000000 in
theorem markInt64S_nil (k0 : Int) (w : World) :
    Calls Tryz.prog 40 #[.slice none 0 0, .int .i64 k0] w fun e w' => e = .returned (.int .i64 k0) ∧ w' = w := by
  go_enter Tryz.func40, Tryz.ntmps40
  go_wp2
  refine wp_loop_rounds 1 ?_
  rw [rounds_succ]
  go_wp2
  go_ret
  exact ⟨rfl, rfl⟩

theorem markInt64S_own (B n cap : Nat) (a : Option Addr) (zs : List Int) (k0 : Int) (w : World) (h : w.ownsRow B 2 1 (.slice a n cap) n (zs.map (Value.int .i64))) (hn : n ≤ 2097152) (hk0 : 0 ≤ k0) (hk1 : k0 ≤ 1099511627776) :
    Calls Tryz.prog 40 #[.slice a n cap, .int .i64 k0] w fun e w' => e = .returned (.int .i64 (k0 + n)) ∧
      w'.ownsRow B 2 1 (.slice a n cap) n ((imarks k0 n).map (Value.int .i64)) ∧ w.grownBy w' (Value.slice a n cap).ownBlock := by
  rcases h.2 with ⟨h', h0⟩ | ⟨g, cap', cur, h', _⟩
  · simp only [Value.slice.injEq] at h'
    obtain ⟨rfl, rfl, rfl⟩ := h'
    refine (markInt64S_nil k0 w).mono fun e w' hq => ?_
    obtain ⟨rfl, rfl⟩ := hq
    exact ⟨by simp, World.ownsRow_nil _ _ _ _, grownBy_refl _ _⟩
  · simp only [Value.slice.injEq] at h'
    obtain ⟨rfl, _, rfl⟩ := h'
    exact markInt64S_any B g n cap zs k0 w h hn hk0 hk1

set_option maxHeartbeats 1000000 in
theorem heldInt64S_any (n cap : Nat) (a : Option Addr) (k0 : Int) (w : World) (h : IRow w a n (imarks k0 n)) (hn : n ≤ 2097152) (hk0 : 0 ≤ k0) (hk1 : k0 ≤ 1099511627776) :
    Calls Tryz.prog 41 #[.slice a n cap, .int .i64 k0] w fun e w' => e = .returned (.int .i64 (k0 + n)) ∧ w' = w := by
  rcases Nat.eq_zero_or_pos n with h0 | hp
  · subst h0
    clear h
    go_enter Tryz.func41, Tryz.ntmps41
    go_wp2
    refine wp_loop_rounds 1 ?_
    rw [rounds_succ]
    go_wp2
    go_ret
    exact ⟨ret_int (by simp), rfl⟩
  · obtain ⟨b, off, rfl, hb, hc⟩ := h.at hp
    have HC := hide hc
    clear h hc
    go_enter Tryz.func41, Tryz.ntmps41
    go_wp2
    go_loop [1, 5] (fun q i => ∃ k : Nat, k ≤ n ∧ i = .int .i64 k ∧ q = .int .i64 (k0 + k)) (fun _ i => n - (intOf i).toNat)
    case atStart => exact ⟨0, Nat.zero_le _, rfl, by simp⟩
    case round =>
      obtain ⟨k, hk, rfl, rfl⟩ := hrel
      by_cases hlt : k < n
      · have hck := (unhide HC) k hlt
        rw [imarks_at k0 n k hlt] at hck
        have hne : ((k0 + (k : Int)) != k0 + (k : Int)) = false := by simp
        go_wp2
        go_round
        case rel => exact ⟨k + 1, by omega, by go_num, by go_num⟩
        case measure => simp [intOf]; omega
      · obtain rfl : k = n := by omega
        go_wp2
        go_ret
        exact ⟨rfl, rfl⟩

set_option maxHeartbeats 1000000 in
theorem markIntsResult_own (B n cap : Nat) (c : Int) (a : Option Addr) (zs : List Int) (k0 : Int) (w : World) (h : w.ownsRow B 2 1 (.slice a n cap) n (zs.map (Value.int .i64))) (hn : n ≤ 2097152) (hk0 : 0 ≤ k0) (hk1 : k0 ≤ 1099511627776) :
    Calls Tryz.prog 16 #[.agg #[.int .i64 c, .slice a n cap], .int .i64 k0] w fun e w' => e = .returned (.int .i64 (k0 + n)) ∧
      w'.ownsRow B 2 1 (.slice a n cap) n ((imarks k0 n).map (Value.int .i64)) ∧ w.grownBy w' (Value.slice a n cap).ownBlock := by
  go_enter Tryz.func16, Tryz.ntmps16
  go_wp2_with fail
  refine (markInt64S_own B n cap a zs k0 _ (h.alloc _) hn hk0 hk1).mono ?_
  rintro e w1 ⟨rfl, o1, g1⟩
  go_wp2_with fail
  go_ret
  exact ⟨rfl, o1, grownBy_trans (World.grownBy_alloc w _ _) g1⟩

set_option maxHeartbeats 1000000 in
theorem heldIntsResult_any (n cap : Nat) (c : Int) (a : Option Addr) (k0 : Int) (w : World) (h : IRow w a n (imarks k0 n)) (hn : n ≤ 2097152) (hk0 : 0 ≤ k0) (hk1 : k0 ≤ 1099511627776) :
    Calls Tryz.prog 17 #[.agg #[.int .i64 c, .slice a n cap], .int .i64 k0] w fun e w' => e = .returned (.int .i64 (k0 + n)) ∧ Below w.heap.size w w' := by
  have hb : ∀ o, Below w.heap.size w (w.alloc o) := fun o => (Below.refl _ _).alloc (Nat.le_refl _) o
  go_enter Tryz.func17, Tryz.ntmps17
  go_wp2_with fail
  refine (heldInt64S_any n cap a k0 _ (h.below (hb _) (Nat.le_refl _)) hn hk0 hk1).mono ?_
  rintro e w1 ⟨rfl, rfl⟩
  go_wp2_with fail
  go_ret
  exact ⟨rfl, hb _⟩

set_option maxHeartbeats 1000000 in
theorem eqInts_same (c : Int) (a b : Option Addr) (n ca cb : Nat) (xs : List Int) (w : World) (ha : IRow w a n xs) (hb : IRow w b n xs) (hn : n ≤ 1048576) :
    Calls Tryz.prog 13 #[.agg #[.int .i64 c, .slice a n ca], .agg #[.int .i64 c, .slice b n cb]] w fun e w' => e = .returned (.bool true) ∧ Below w.heap.size w w' := by
  have h1 : (c != c) = false := by simp
  have sx : sameB xs xs = true := by simp [sameB]
  have hbel : ∀ o p, Below w.heap.size w ((w.alloc o).alloc p) := fun o p => ((Below.refl _ _).alloc (Nat.le_refl _) o).alloc (by simp) p
  go_enter Tryz.func13, Tryz.ntmps13
  go_wp2_with fail
  refine (eqInt64S_any _ _ _ _ _ _ xs xs _ (ha.below (hbel _ _) (Nat.le_refl _)) (hb.below (hbel _ _) (Nat.le_refl _)) hn hn).mono ?_
  rintro e w1 ⟨rfl, n1, rfl⟩
  rw [sx]
  go_wp2_with fail
  go_ret
  exact ⟨rfl, below_drewN (hbel _ _) n1⟩

end Go.Proofs.YtjjbkbinjmfnlaaGreatDoor

/- What is proved here: the contracts of the laws' helper functions that mark bytes, numbers and lists of bytes that a call made, told by paths: what they leave, and that nothing else is written (markByteS, markInt64S, markByteSS). -/
namespace Go.Proofs.YtjjbkbinjmfnlaaGreatDoor
open Go.RowKit
set_option linter.unusedVariables false
set_option linter.unusedSimpArgs false
set_option maxRecDepth 100000

/-- What a row's element is, and that it may be changed for another one of the same cells. -/
theorem RowOwn.swap {α β : Type} {K : Kd α β} {T : TypeId} {w : World} {B : Nat} {d : Nat → Path} {p : Path} {s : Sl} {xs : List α} (h : RowOwn K T w B d p s xs) {i : Nat} {x : α} (hx : xs[i]? = some x) :
    ∃ b off e, s.a = some ⟨b, off, none⟩ ∧ B ≤ b ∧ b < w.heap.size ∧ d b = p ∧ K.Own w B d (p ++ [i]) e x ∧ (∀ j v, (K.vals e x)[j]? = some v → w.cell? ⟨b, off + i * K.m + j, none⟩ = some v) ∧ (∀ j, w.frozen? ⟨b, j, none⟩ = false) ∧
      ∀ w' x', OnlyP B d (p ++ [i]) w w' → K.Own w' B d (p ++ [i]) e x' → K.vals e x' = K.vals e x → RowOwn K T w' B d p s (xs.set i x') := by
  obtain ⟨h1, es, vs, h2, h3, h4, h5⟩ := h
  have hi := (List.getElem?_eq_some_iff.1 hx).1
  obtain ⟨e, he⟩ : ∃ e, es[i]? = some e := ⟨_, List.getElem?_eq_getElem (by omega)⟩
  obtain ⟨q1, q2⟩ := h5 i e x he hx
  obtain ⟨b, off, ha, hb, hlt⟩ := h3.pos (by omega)
  refine ⟨b, off, e, ha, hb, hlt, h4 _ ha, q2, fun j v hv => ?_, fun j => h3.free ha j, fun w' x' ho hx' hv => ?_⟩
  · have hj : j < K.m := by have := (List.getElem?_eq_some_iff.1 hv).1; rw [K.len] at this; exact this
    rw [Nat.add_assoc, h3.cell ha (row_index (by omega) hj)]
    exact q1 j v hv
  · refine ⟨by rw [List.length_set]; exact h1, es, vs, by rw [List.length_set]; exact h2, h3.keep (fun y hy => ?_), h4, fun j e' y he' hy => ?_⟩
    · rw [ha] at hy
      obtain rfl := Option.some.inj hy
      exact ho.2 b hlt (by rw [h4 _ ha]; exact not_pre_self p i)
    · by_cases hji : i = j
      · subst hji
        obtain rfl : e = e' := Option.some.inj (he.symm.trans he')
        rw [List.getElem?_set_self hi] at hy
        obtain rfl := Option.some.inj hy
        exact ⟨fun j v hv' => q1 j v (by rw [← hv]; exact hv'), hx'⟩
      · rw [List.getElem?_set_ne hji] at hy
        obtain ⟨r1, r2⟩ := h5 j e' y he' hy
        exact ⟨r1, K.frame r2 (fun g a b c => ho.2 g a (pre_snoc p (d g) j i (fun q => hji q.symm) c))⟩

theorem OnlyP.grown {B : Nat} {d : Nat → Path} {p : Path} {w w' : World} {o : Option Nat} (h : w.grownBy w' o) (hB : B ≤ w.heap.size) (hk : ∀ g, o = some g → B ≤ g ∧ d g = p) : OnlyP B d p w w' :=
  ⟨(Below.refl _ _).grown h hB (fun g e => (hk g e).1), fun g hg hs => h.block g hg (fun e => hs (by rw [(hk g e.symm).2]; exact List.prefix_rfl))⟩

theorem markB_p (B : Nat) (d : Nat → Path) (p : Path) (s : Sl) (z : List Int) (k0 : Int) (w : World) (h : BOwn w B d p s z) (hB : B ≤ w.heap.size) (hn : z.length ≤ 1048576) (hk0 : 0 ≤ k0) (hk1 : k0 ≤ 1099511627776) :
    Calls Tryz.prog 64 #[.slice s.a s.n s.c, .int .i64 k0] w fun e w' => e = .returned (.int .i64 (k0 + (z.length : Nat))) ∧ BOwn w' B d p s (marks k0 z.length) ∧ OnlyP B d p w w' := by
  have hl : z.length = s.n := by have := h.own.1; simpa using this
  refine (markByteS_own B s.n s.c s.a z k0 w h.own (by omega) hk0 hk1).mono ?_
  rintro e w' ⟨rfl, ho, hg⟩
  rw [hl]
  refine ⟨rfl, ⟨marks_range _ _, ho, h.col⟩, OnlyP.grown hg hB (fun g e => ?_)⟩
  have := own_lt h.own g e
  refine ⟨this.1, ?_⟩
  cases ha : s.a with
  | none => rw [ha] at e; simp [Value.ownBlock] at e
  | some x =>
    rw [ha] at e
    simp only [Value.ownBlock, Option.map_some, Option.some.injEq] at e
    rw [← e]
    exact h.col x ha

theorem markI_p (B : Nat) (d : Nat → Path) (p : Path) (s : Sl) (z : List Int) (k0 : Int) (w : World) (h : IOwn w B d p s z) (hB : B ≤ w.heap.size) (hn : z.length ≤ 1048576) (hk0 : 0 ≤ k0) (hk1 : k0 ≤ 1099511627776) :
    Calls Tryz.prog 40 #[.slice s.a s.n s.c, .int .i64 k0] w fun e w' => e = .returned (.int .i64 (k0 + (z.length : Nat))) ∧ IOwn w' B d p s (imarks k0 z.length) ∧ OnlyP B d p w w' := by
  have hl : z.length = s.n := by have := h.own.1; simpa using this
  refine (markInt64S_own B s.n s.c s.a z k0 w h.own (by omega) hk0 hk1).mono ?_
  rintro e w' ⟨rfl, ho, hg⟩
  rw [hl]
  refine ⟨rfl, ⟨ho, h.col⟩, OnlyP.grown hg hB (fun g e => ?_)⟩
  have := own_lt h.own g e
  refine ⟨this.1, ?_⟩
  cases ha : s.a with
  | none => rw [ha] at e; simp [Value.ownBlock] at e
  | some x =>
    rw [ha] at e
    simp only [Value.ownBlock, Option.map_some, Option.some.injEq] at e
    rw [← e]
    exact h.col x ha

/-- A number of an element written anew, in the row itself. -/
theorem RowOwn.setAt {α β : Type} {K : Kd α β} {T : TypeId} {w : World} {B : Nat} {d : Nat → Path} {p : Path} {s : Sl} {xs : List α} (h : RowOwn K T w B d p s xs) {i : Nat} {x : α} (hx : xs[i]? = some x) {b off : Nat} (ha : s.a = some ⟨b, off, none⟩) (c : Nat) (hc : c < K.m) (v : Value) (x' : α)
    (hv : ∀ e, K.vals e x' = (K.vals e x).set c v) (hO : ∀ (w' : World) (e : β), K.Own w' B d (p ++ [i]) e x → K.Own w' B d (p ++ [i]) e x') :
    RowOwn K T (w.setCell ⟨b, off + i * K.m + c, none⟩ v) B d p s (xs.set i x') := by
  obtain ⟨h1, es, vs, h2, h3, h4, h5⟩ := h
  have hi := (List.getElem?_eq_some_iff.1 hx).1
  have hdb : d b = p := h4 _ ha
  have keep : ∀ {j e y}, K.Own w B d (p ++ [j]) e y → K.Own (w.setCell ⟨b, off + i * K.m + c, none⟩ v) B d (p ++ [j]) e y := fun {j e y} q => K.frame q (fun g _ _ hp => heap_setCell_other w ⟨b, off + i * K.m + c, none⟩ g v (fun (ee : g = b) => by rw [ee, hdb] at hp; exact not_pre_self p j hp))
  refine ⟨by rw [List.length_set]; exact h1, es, vs.set (i * K.m + c) v, by rw [List.length_set]; exact h2, by rw [Nat.add_assoc]; exact h3.set ha (i * K.m + c) v, h4, fun j e y he hy => ?_⟩
  by_cases hji : i = j
  · subst hji
    rw [List.getElem?_set_self hi] at hy
    obtain rfl := Option.some.inj hy
    obtain ⟨q1, q2⟩ := h5 i e x he hx
    refine ⟨fun k u hu => ?_, hO _ e (keep q2)⟩
    have hk : k < K.m := by have := (List.getElem?_eq_some_iff.1 hu).1; rw [K.len] at this; exact this
    rw [hv e] at hu
    by_cases hkc : c = k
    · subst hkc
      rw [List.getElem?_set_self (by rw [K.len]; exact hc)] at hu
      rw [List.getElem?_set_self (by rw [h3.len]; exact row_index (by omega) hc)]
      exact hu
    · rw [List.getElem?_set_ne hkc] at hu
      rw [List.getElem?_set_ne (by omega)]
      exact q1 k u hu
  · rw [List.getElem?_set_ne hji] at hy
    obtain ⟨q1, q2⟩ := h5 j e y he hy
    refine ⟨fun k u hu => ?_, keep q2⟩
    have hk : k < K.m := by have := (List.getElem?_eq_some_iff.1 hu).1; rw [K.len] at this; exact this
    rw [List.getElem?_set_ne (fun (ee : i * K.m + c = j * K.m + k) => hji (by
      have e1 : (i * K.m + c) / K.m = i := by rw [Nat.mul_comm, Nat.mul_add_div (by omega), Nat.div_eq_of_lt hc, Nat.add_zero]
      have e2 : (j * K.m + k) / K.m = j := by rw [Nat.mul_comm, Nat.mul_add_div (by omega), Nat.div_eq_of_lt hk, Nat.add_zero]
      rw [← e1, ← e2, ee]))]
    exact q1 k u hu

set_option maxHeartbeats 4000000 in
theorem markSs_p (B : Nat) (d : Nat → Path) (p : Path) (s : Sl) (zss : List (List Int)) (k0 : Int) (w : World) (h : RowOwn bytesK 73 w B d p s zss) (hB : B ≤ w.heap.size) (hl : zss.length ≤ 1048576) (hs : bsum zss ≤ 1048576) (hk0 : 0 ≤ k0) (hk1 : k0 ≤ 549755813888) :
    Calls Tryz.prog 65 #[.slice s.a s.n s.c, .int .i64 k0] w fun e w' => e = .returned (.int .i64 (k0 + (bsum zss : Nat))) ∧ RowOwn bytesK 73 w' B d p s (mkss k0 zss) ∧ OnlyP B d p w w' := by
  have hsn : s.n = zss.length := h.1
  have HSN := hide (bsum_snoc zss)
  have HLE := hide (bsum_le zss)
  have HMA := hide (mkss_at zss k0)
  have HML := hide (mkss_length zss k0)
  have HM := hide h
  obtain ⟨len, hlen⟩ : ∃ len, len = zss.length := ⟨_, rfl⟩
  have HLEN := hide hlen
  rw [hsn]
  rw [← hlen] at hl hsn ⊢
  clear h hlen
  have HSL := hide hsn
  clear hsn
  generalize hsc : s.c = sc
  have HSC := hide hsc
  clear hsc
  generalize hsa : s.a = sa
  have HSA := hide hsa
  clear hsa
  go_enter Tryz.func65, Tryz.ntmps65
  go_wp2_with fail
  go_loopw [1, 5] (fun q i wr => ∃ k : Nat, k ≤ len ∧ i = .int .i64 k ∧ q = .int .i64 (k0 + (bsum (zss.take k) : Nat)) ∧ RowOwn bytesK 73 wr B d p s ((mkss k0 zss).take k ++ zss.drop k) ∧ OnlyP B d p w wr) (fun _ i _ => len - (intOf i).toNat)
  case atStart => exact ⟨0, Nat.zero_le _, rfl, by simp [bsum], by simpa using unhide HM, OnlyP.refl _ _ _ _⟩
  case round =>
    obtain ⟨k, hk, rfl, rfl, hm, ho⟩ := hrel
    clear HM
    by_cases hlt : k < len
    · obtain ⟨z, hit⟩ : ∃ z, zss[k]? = some z := ⟨_, List.getElem?_eq_getElem (by rw [← unhide HLEN]; exact hlt)⟩
      have hat := (take_drop_at (mkss k0 zss) zss k (unhide HML)).trans hit
      obtain ⟨b, off, e, ha, hbB, hblt, hbd, hcb, hcell, hfz, hst⟩ := hm.swap hat
      have hc := hcell 0 _ rfl
      simp only [show bytesK.m = 1 from rfl, Nat.mul_one, Nat.add_zero] at hc
      have hma := (unhide HMA) k z hit
      have hsn := (unhide HSN) k z hit
      have hle1 := (unhide HLE) (k + 1)
      have hzl : z.length ≤ 1048576 := by omega
      obtain ⟨ks, hks⟩ : ∃ ks, ks = bsum (zss.take k) := ⟨_, rfl⟩
      rw [← hks] at hsn hma ⊢
      have hksl : ks ≤ 1048576 := by omega
      have hBr : B ≤ wr.heap.size := Nat.le_trans hB ho.1.size
      have HC := hide (markB_p B d (p ++ [k]) e z (k0 + ks) wr hcb hBr hzl (by omega) (by omega))
      have HST : Hid (∀ w', BOwn w' B d (p ++ [k]) e (marks (k0 + ks) z.length) → OnlyP B d (p ++ [k]) wr w' → RowOwn bytesK 73 w' B d p s ((mkss k0 zss).take (k + 1) ++ zss.drop (k + 1)) ∧ OnlyP B d p w w') := fun w' hb hw => by
        have := hst w' _ hw hb rfl
        rw [take_drop_set _ _ k _ (unhide HML) hma] at this
        exact ⟨this, ho.trans hw.up⟩
      have HSN2 : Hid (bsum (zss.take (k + 1)) = ks + z.length) := hsn
      have k1 : (0 : Int) ≤ (k : Int) := by omega
      have k2 : (k : Int) < (len : Int) := by omega
      rw [unhide HSA] at ha
      subst ha
      generalize z.length = zl at HC HST HSN2 hzl
      clear hsn hle1 hit ho hks hm hat hcb hst hma hcell hfz
      go_wp2_with fail
      refine (unhide HC).mono ?_
      rintro e w2 ⟨rfl, b2, g2⟩
      obtain ⟨m2, o2⟩ := (unhide HST) w2 b2 g2
      have HM2 := hide m2
      have HO2 := hide o2
      clear m2 o2 g2 b2
      go_wp2_with fail
      go_roundw
      case rel => exact ⟨k + 1, by omega, by go_num, by rw [unhide HSN2]; congr 1; omega, unhide HM2, unhide HO2⟩
      case measure => simp [intOf]; omega
    · obtain rfl : k = len := by omega
      have et : zss.take k = zss := List.take_of_length_le (by rw [← unhide HLEN]; exact Nat.le_refl _)
      have em : (mkss k0 zss).take k ++ zss.drop k = mkss k0 zss := by rw [List.take_of_length_le (by rw [unhide HML, ← unhide HLEN]; exact Nat.le_refl _), List.drop_eq_nil_of_le (by rw [← unhide HLEN]; exact Nat.le_refl _), List.append_nil]
      rw [et]
      rw [em] at hm
      have HO := hide ho
      have HM := hide hm
      clear hm ho et em
      go_wp2_with fail
      go_ret
      exact ⟨rfl, unhide HM, unhide HO⟩

end Go.Proofs.YtjjbkbinjmfnlaaGreatDoor
