/- What is proved here: where the program finds a hash among entries (placeWith, slices.IndexFunc). -/
import Derived.Test.YtjjbkbinjmfnlaaGreatDoorJ15
import Derived.Test.YtjjbkbinjmfnlaaGreatDoorJ6
import Derived.Test.YtjjbkbinjmfnlaaGreatDoorJ14
import Derived.Deep.RegionHeld3
import Derived.Deep.QuietTactic
namespace Go.Proofs.YtjjbkbinjmfnlaaGreatDoor
open Go.RowKit
set_option linter.unusedVariables false
set_option linter.unusedSimpArgs false
set_option maxRecDepth 100000

/-- An entry lies there, and reads so. -/
def EAt (w : World) (b o : Nat) (e : EnS) (x : En) : Prop := (∀ j v, (evals e x).toList[j]? = some v → w.cell? ⟨b, o + j, none⟩ = some v) ∧ enK.Ok w e x

theorem EAt.lt {w : World} {b o : Nat} {e : EnS} {x : En} (h : EAt w b o e x) : b < w.heap.size := lt_of_cell (h.1 0 _ rfl)

theorem EAt.below {w w' : World} {b o : Nat} {e : EnS} {x : En} (h : EAt w b o e x) {B : Nat} (hb : Below B w w') (hB : w.heap.size ≤ B) : EAt w' b o e x :=
  ⟨fun j v hv => (hb.cell (p := ⟨b, o + j, none⟩) (Nat.lt_of_lt_of_le h.lt hB)).trans (h.1 j v hv), enK.below h.2 hb hB⟩

/-- Rows of entries: each one lies at its place. -/
theorem RowOk.ent {w : World} {s : Sl} {xs : List En} (h : RowOk enK w s xs) (hp : 0 < s.n) : ∃ b off, s.a = some ⟨b, off, none⟩ ∧ ∀ (i : Nat) x, xs[i]? = some x → ∃ e, EAt w b (off + i * 14) e x := by
  obtain ⟨b, off, ha, hl, hx⟩ := h.pos hp
  exact ⟨b, off, ha, fun i x hi => match hx i x hi with | ⟨e, c, o⟩ => ⟨e, c, o⟩⟩

theorem RowOk.take {w : World} {s : Sl} {xs : List En} (h : RowOk enK w s xs) {k : Nat} (hk : k ≤ s.n) : RowOk enK w ⟨s.a, k, s.c⟩ (xs.take k) := by
  refine ⟨by have := h.len; simp; omega, by have := h.room; show k ≤ s.c; omega, h.max, h.nil, fun hp => ?_⟩
  have hp' : 0 < k := hp
  obtain ⟨b, off, ha, hl, hx⟩ := h.pos (by omega)
  exact ⟨b, off, ha, hl, fun i x hi => hx i x (by rw [List.getElem?_take] at hi; split at hi; exact hi; cases hi)⟩

set_option maxHeartbeats 2000000 in
theorem pw1_any (e : EnS) (x : En) (t : Sl) (z : List Int) (B : Nat) (w : World) (o : BOk w e.2.1 x.2.1) (ot : BOk w t z) (hB : w.cell? ⟨B, 0, none⟩ = some (.slice t.a t.n t.c)) :
    Calls Tryz.prog 127 #[.agg (evals e x), .pointer (some ⟨B, 0, none⟩)] w fun r w' => r = .returned (.bool (decide (x.2.1 = z))) ∧ Below w.heap.size w w' := by
  have k0 := SBlk.new w (evals e x) 78
  have k2 := below_alloc w (.cells (evals e x) 78)
  obtain ⟨W0, e0⟩ : ∃ W, w.alloc (.cells (evals e x) 78) = W := ⟨_, rfl⟩
  rw [e0] at k0 k2
  have hB0 := (k2.cell (p := ⟨B, 0, none⟩) (lt_of_cell hB)).trans hB
  have D1 := hide (implSame_any e.2.1.a t.a e.2.1.n e.2.1.c t.n t.c x.2.1 z W0 (o.row.below k2 (Nat.le_refl _)) (ot.row.below k2 (Nat.le_refl _)))
  rw [strEq_dec o.row.2.1 ot.row.2.1] at D1
  generalize decide (x.2.1 = z) = c at D1 ⊢
  have HB0 := hide k2
  unfold evals at k0 e0 ⊢
  have x1 := k0.cell 11
  simp only [List.getElem?_cons_zero, List.getElem?_cons_succ] at x1
  have E0 := hide e0
  clear e0 o ot k0 k2 hB
  go_enter Tryz.func127, Tryz.ntmps127
  go_upto_region 1 with fail
  rw [unhide E0]
  clear E0
  go_wp2_with fail
  refine (unhide D1).mono ?_
  rintro r w1 ⟨rfl, rfl⟩
  go_wp2_with fail
  go_ret
  exact ⟨rfl, unhide HB0⟩

set_option maxHeartbeats 2000000 in
theorem indexF_any (s t : Sl) (xs : List En) (z : List Int) (B : Nat) (w : World) (o : RowOk enK w s xs) (ot : BOk w t z) (hB : w.cell? ⟨B, 0, none⟩ = some (.slice t.a t.n t.c)) :
    Calls Tryz.prog 126 #[.slice s.a s.n s.c, .func (.func 127) #[] #[.pointer (some ⟨B, 0, none⟩)]] w fun r w' => r = .returned (.int .i64 (fnd xs z)) ∧ Below w.heap.size w w' := by
  obtain ⟨a, n, c⟩ := s
  have hn : n = xs.length := o.len
  rcases Nat.eq_zero_or_pos n with h0 | hp
  · subst h0
    obtain rfl : xs = [] := List.length_eq_zero_iff.1 hn.symm
    have e1 : fnd [] z = -1 := rfl
    rw [e1]
    clear o ot hB hn
    go_enter Tryz.func126, Tryz.ntmps126
    go_wp2_with fail
    refine wp_loop_rounds 1 ?_
    rw [rounds_succ]
    go_wp2_with fail
    go_ret
    exact ⟨rfl, Below.refl _ _⟩
  · obtain ⟨b, off, rfl, hx⟩ := o.ent hp
    have HX := hide (fun (W : World) (hbl : Below w.heap.size w W) (i : Nat) (x : En) (hi : xs[i]? = some x) => match hx i x hi with | ⟨e, h⟩ => (⟨e, h.below hbl (Nat.le_refl _)⟩ : ∃ e, EAt W b (off + i * 14) e x))
    have HT := hide (fun (W : World) (hbl : Below w.heap.size w W) => bytesK.below ot hbl (Nat.le_refl _))
    have HB := hide (fun (W : World) (hbl : Below w.heap.size w W) => (hbl.cell (p := ⟨B, 0, none⟩) (lt_of_cell hB)).trans hB)
    have HL := hide hn
    have HM : n ≤ maxLen := Nat.le_trans o.room o.max
    unfold maxLen at HM
    clear o ot hB hn hx
    go_enter Tryz.func126, Tryz.ntmps126
    go_wp2_with fail
    go_loopw [8] (fun i wr => ∃ k : Nat, k ≤ n ∧ i = .int .i64 k ∧ (∀ (j : Nat) y, j < k → xs[j]? = some y → y.2.1 ≠ z) ∧ Below w.heap.size w wr) (fun i _ => n - (intOf i).toNat)
    case atStart => exact ⟨0, Nat.zero_le _, rfl, fun j y hj => absurd hj (Nat.not_lt_zero _), Below.refl _ _⟩
    case round =>
      obtain ⟨k, hk, rfl, hall, hbr⟩ := hrel
      have HA := hide hall
      clear hall
      by_cases hlt : k < n
      · have hkx : k < xs.length := by rw [← unhide HL]; exact hlt
        obtain ⟨x, hx⟩ : ∃ x, xs[k]? = some x := ⟨_, List.getElem?_eq_getElem hkx⟩
        obtain ⟨e, he⟩ := (unhide HX) wr hbr k x hx
        have HLD : Hid ((Instr.loadAt 78 (.pointer (some ⟨b, off + k * 14, none⟩))).run Tryz.prog wr = .ok (.agg (evals e x)) wr) :=
          ld_run (evals e x).toList 78 _ he.1 Tryz.underlying78 rfl (by kernel_rfl)
        have HD := hide (pw1_any e x t z B wr he.2.2.1 ((unhide HT) wr hbr) ((unhide HB) wr hbr))
        have HXX := hide hx
        have HBR := hide hbr
        have i1 : (0 : Int) ≤ (k : Int) := by omega
        have i2 : (k : Int) < (n : Int) := by omega
        clear hbr hx he hkx
        generalize evals e x = V at HLD HD
        by_cases hz : x.2.1 = z
        · rw [decide_eq_true hz] at HD
          have HF : Hid (fnd xs z = (k : Int)) := fnd_some xs z k x (unhide HXX) hz (unhide HA)
          clear hz
          go_wp2_with (refine wpList_load_eq rfl 78 _ rfl _ _ rfl (unhide HLD) ?_)
          refine (unhide HD).mono ?_
          rintro r w2 ⟨rfl, b2⟩
          have HB2 := hide ((unhide HBR).trans (b2.mono (unhide HBR).size))
          clear b2
          go_wp2_with fail
          go_ret
          exact ⟨ret_int (unhide HF).symm, unhide HB2⟩
        · rw [decide_eq_false hz] at HD
          have HZ := hide hz
          clear hz
          go_wp2_with (refine wpList_load_eq rfl 78 _ rfl _ _ rfl (unhide HLD) ?_)
          refine (unhide HD).mono ?_
          rintro r w2 ⟨rfl, b2⟩
          have HB2 := hide ((unhide HBR).trans (b2.mono (unhide HBR).size))
          clear b2
          go_wp2_with fail
          go_roundw
          case rel =>
            refine ⟨k + 1, by omega, by go_num, fun j y hj hy => ?_, unhide HB2⟩
            by_cases e : j = k
            · subst e
              obtain rfl : x = y := Option.some.inj ((unhide HXX).symm.trans hy)
              exact unhide HZ
            · exact (unhide HA) j y (by omega) hy
          case measure => simp [intOf]; omega
      · obtain rfl : k = n := by omega
        have HF : Hid (fnd xs z = -1) := fnd_none xs z (fun j y hy => (unhide HA) j y (by have := (List.getElem?_eq_some_iff.1 hy).1; have := unhide HL; omega) hy)
        have HBR := hide hbr
        clear hbr
        go_wp2_with fail
        go_ret
        exact ⟨ret_int (unhide HF).symm, unhide HBR⟩

set_option maxHeartbeats 2000000 in
/-- Where a hash stands. -/
theorem placeWith_any (s t : Sl) (xs : List En) (z : List Int) (w : World) (o : RowOk enK w s xs) (ot : BOk w t z) :
    Calls Tryz.prog 99 #[.slice s.a s.n s.c, .slice t.a t.n t.c] w fun r w' => r = .returned (.int .i64 (fnd xs z)) ∧ Below w.heap.size w w' := by
  have k0 := SBlk.new w #[.slice t.a t.n t.c] 73
  have k2 := below_alloc w (.cells #[.slice t.a t.n t.c] 73)
  obtain ⟨W0, e0⟩ : ∃ W, w.alloc (.cells #[.slice t.a t.n t.c] 73) = W := ⟨_, rfl⟩
  rw [e0] at k0 k2
  have D1 := hide (indexF_any s t xs z w.heap.size W0 (RowOk.below o k2 (Nat.le_refl _)) (bytesK.below ot k2 (Nat.le_refl _)) (k0.cell 0))
  have hr := fnd_range xs z
  have hl : xs.length ≤ maxLen := by have := o.len; have := o.room; have := o.max; omega
  unfold maxLen at hl
  have HB0 := hide k2
  have E0 := hide e0
  clear e0 o ot k0 k2
  generalize fnd xs z = q at D1 hr ⊢
  have hq : IntKind.i64.wrap q = q := by rw [IntKind.wrap_i64]; omega
  go_enter Tryz.func99, Tryz.ntmps99
  go_upto_region 1 with fail
  rw [unhide E0]
  clear E0
  go_wp2_with fail
  refine (unhide D1).mono ?_
  rintro r w1 ⟨rfl, b1⟩
  have B1 := hide ((unhide HB0).trans (b1.mono (unhide HB0).size))
  clear b1
  go_wp2_with fail
  go_ret
  exact ⟨rfl, unhide B1⟩

theorem isEntry_any (s : Sl) (xs : List En) (p : Int) (w : World) (o : RowOk enK w s xs) :
    Calls Tryz.prog 58 #[.slice s.a s.n s.c, .int .i64 p] w fun r w' => r = .returned (.bool (within p 0 ((xs.length : Int) - 1))) ∧ w' = w := by
  have hl := o.len
  have hm : s.n ≤ maxLen := Nat.le_trans o.room o.max
  unfold maxLen at hm
  have D1 := hide (isWithin_any p 0 ((s.n : Int) - 1) w)
  rw [← hl]
  generalize within p 0 ((s.n : Int) - 1) = c at D1 ⊢
  clear o hl
  go_enter Tryz.func58, Tryz.ntmps58
  go_wp2_with fail
  refine (unhide D1).mono ?_
  rintro r w1 ⟨rfl, rfl⟩
  go_wp2_with fail
  go_ret
  exact ⟨rfl, rfl⟩

theorem hasUp_any (s : Sl) (xs : List En) (up : Int) (w : World) (o : RowOk enK w s xs) :
    Calls Tryz.prog 100 #[.slice s.a s.n s.c, .int .i64 up] w fun r w' => r = .returned (.bool (upOk xs.length up)) ∧ w' = w := by
  have hl := o.len
  have D1 := hide (isEntry_any s xs up w o)
  clear o
  unfold upOk
  by_cases h0 : xs.length = 0
  · rw [if_pos h0]
    have h1 : s.n = 0 := by omega
    have h2 : (((s.n : Nat) : Int) == 0) = true := by simp [h1]
    have h3 : decide (up = -1) = (up == -1) := by by_cases h : up = -1 <;> simp [h]
    rw [h3]
    clear h0 hl h1 D1
    go_enter Tryz.func100, Tryz.ntmps100
    go_wp2_with fail
    go_ret
    exact ⟨rfl, rfl⟩
  · rw [if_neg h0]
    have h2 : (((s.n : Nat) : Int) == 0) = false := by simp; omega
    generalize within up 0 ((xs.length : Int) - 1) = c at D1 ⊢
    clear h0 hl
    go_enter Tryz.func100, Tryz.ntmps100
    go_wp2_with fail
    refine (unhide D1).mono ?_
    rintro r w1 ⟨rfl, rfl⟩
    go_wp2_with fail
    go_ret
    exact ⟨rfl, rfl⟩

end Go.Proofs.YtjjbkbinjmfnlaaGreatDoor

/- What is proved here: which of two entries is better, and which of all is the best, in the program (hasMore, isLower, hasHashAhead, isAheadBy, isBetterEntry, headAmong). -/
namespace Go.Proofs.YtjjbkbinjmfnlaaGreatDoor
open Go.RowKit
set_option linter.unusedVariables false
set_option linter.unusedSimpArgs false
set_option maxRecDepth 100000

theorem fieldI1f (x y : Value) (w : World) : (Instr.field 45 (.agg #[x, y]) 1).run Tryz.prog w = .ok y w := by kernel_rfl

set_option maxHeartbeats 2000000 in
theorem hasMore_any (b1 o1 b2 o2 : Nat) (e1 e2 : EnS) (x1 x2 : En) (w : World) (h1 : EAt w b1 o1 e1 x1) (h2 : EAt w b2 o2 e2 x2) (f1 : wfCode x1.2.2.2 = 0) (f2 : wfCode x2.2.2.2 = 0) :
    Calls Tryz.prog 71 #[.pointer (some ⟨b1, o1, none⟩), .pointer (some ⟨b2, o2, none⟩)] w fun r w' => r = .returned (.bool (decide (0 < cmpW x1.2.2.2 x2.2.2.2 8))) ∧ Below w.heap.size w w' := by
  have r1 : IRow w e1.2.2.2.a e1.2.2.2.n x1.2.2.2 := h1.2.2.2.2.row
  have r2 : IRow w e2.2.2.2.a e2.2.2.2.n x2.2.2.2 := h2.2.2.2.2.row
  have l1 : x1.2.2.2.length = 8 := (wf_zero _ f1).1
  have l2 : x2.2.2.2.length = 8 := (wf_zero _ f2).1
  have D1 := fun (W : World) (hb : Below w.heap.size w W) => implCW_any e1.2.2.2.a e2.2.2.2.a e1.2.2.2.n e2.2.2.2.n e1.2.2.2.c e2.2.2.2.c x1.2.2.2 x2.2.2.2 W (r1.below hb (Nat.le_refl _)) (r2.below hb (Nat.le_refl _)) (by have := r1.1; omega) (by have := r2.1; omega)
  have ew : wf2 x1.2.2.2 x2.2.2.2 = 0 := by unfold wf2; rw [if_pos f1]; exact f2
  have ec : cwVal x1.2.2.2 x2.2.2.2 = cmpW x1.2.2.2 x2.2.2.2 8 := if_pos ew
  simp only [ew, ec] at D1
  have D1 := hide D1
  have c1 := h1.1 13 _ rfl
  have c2 := h2.1 13 _ rfl
  generalize cmpW x1.2.2.2 x2.2.2.2 8 = c at D1 ⊢
  have HS : Hid (∀ W, Below w.heap.size w W → (fun W => W.cell? ⟨b1, o1 + 13, none⟩ = some (.slice e1.2.2.2.a e1.2.2.2.n e1.2.2.2.c) ∧ W.cell? ⟨b2, o2 + 13, none⟩ = some (.slice e2.2.2.2.a e2.2.2.2.n e2.2.2.2.c)) W) := fun W hb => ⟨(h1.below hb (Nat.le_refl _)).1 13 _ rfl, (h2.below hb (Nat.le_refl _)).1 13 _ rfl⟩
  clear h1 h2 r1 r2 l1 l2 f1 f2 ew ec
  have fld := fun (x y : Value) (W : World) => fieldI1f x y W
  go_enter Tryz.func71, Tryz.ntmps71
  go_wp2_with fail
  go_region_held3 (fun W => W.cell? ⟨b1, o1 + 13, none⟩ = some (.slice e1.2.2.2.a e1.2.2.2.n e1.2.2.2.c) ∧ W.cell? ⟨b2, o2 + 13, none⟩ = some (.slice e2.2.2.2.a e2.2.2.2.n e2.2.2.2.c))
    (exact (unhide HS) _ (by first | assumption | exact (Below.refl w.heap.size w).drew | exact below_drewN (Below.refl w.heap.size w) _ | exact below_drewN (by assumption) _))
    (first | (go_at_call 93; refine ((unhide D1) _ (by first | exact (Below.refl w.heap.size w).drew | exact below_drewN (Below.refl w.heap.size w) _ | exact Below.refl w.heap.size w)).mono ?_; rintro r w2 ⟨rfl, b2⟩; have JJ : Below w.heap.size w w2 := Below.trans (by first | exact (Below.refl w.heap.size w).drew | exact below_drewN (Below.refl w.heap.size w) _ | exact Below.refl w.heap.size w) (b2.mono (by first | exact Nat.le_refl _ | exact (below_drewN (Below.refl w.heap.size w) _).size)); clear b2))
  all_goals
    go_wp2_with fail
    go_ret
    exact ⟨rfl, by first | exact JJ | exact JJ.drew | exact below_drewN JJ _⟩

set_option maxHeartbeats 2000000 in
theorem isLower_any (b1 o1 b2 o2 : Nat) (e1 e2 : EnS) (x1 x2 : En) (w : World) (h1 : EAt w b1 o1 e1 x1) (h2 : EAt w b2 o2 e2 x2) :
    Calls Tryz.prog 72 #[.pointer (some ⟨b1, o1, none⟩), .pointer (some ⟨b2, o2, none⟩)] w fun r w' => r = .returned (.bool (decide (x1.1.n1 < x2.1.n1))) ∧ Below w.heap.size w w' := by
  have c1 := h1.1 1 _ rfl
  have c2 := h2.1 1 _ rfl
  clear h1 h2
  go_enter Tryz.func72, Tryz.ntmps72
  go_wp2_with fail
  go_quiet (fail)
  go_wp2_with fail
  go_ret
  exact ⟨rfl, below_drewN (Below.refl _ _) _⟩

set_option maxHeartbeats 2000000 in
theorem hasAhead_any (b1 o1 b2 o2 : Nat) (e1 e2 : EnS) (x1 x2 : En) (w : World) (h1 : EAt w b1 o1 e1 x1) (h2 : EAt w b2 o2 e2 x2) :
    Calls Tryz.prog 73 #[.pointer (some ⟨b1, o1, none⟩), .pointer (some ⟨b2, o2, none⟩)] w fun r w' => r = .returned (.bool (aheadB x1.2.1 x2.2.1)) ∧ Below w.heap.size w w' := by
  have r1 : BOk w e1.2.1 x1.2.1 := h1.2.2.1
  have r2 : BOk w e2.2.1 x2.2.1 := h2.2.2.1
  have D1 := hide (fun (k : Nat) => implAhead_any e1.2.1.a e2.2.1.a e1.2.1.n e1.2.1.c e2.2.1.n e2.2.1.c x1.2.1 x2.2.1 (w.drewN k) (r1.row.below (below_drewN (Below.refl w.heap.size w) k) (Nat.le_refl _)) (r2.row.below (below_drewN (Below.refl w.heap.size w) k) (Nat.le_refl _)))
  have c1 := h1.1 11 _ rfl
  have c2 := h2.1 11 _ rfl
  generalize aheadB x1.2.1 x2.2.1 = c at D1 ⊢
  clear h1 h2 r1 r2
  go_enter Tryz.func73, Tryz.ntmps73
  go_wp2_with fail
  go_quiet ((go_at_call 94; exact Calls.quiet_of_same ((unhide D1) _)))
  go_wp2_with fail
  go_ret
  exact ⟨rfl, below_drewN (Below.refl _ _) _⟩

set_option maxHeartbeats 4000000 in
theorem aheadBy_any (p q : Value) (fs : List Nat) (g off cap : Nat) (A B : Nat → Bool) (w : World)
    (hr : ∀ (i f : Nat), fs[i]? = some f → w.cell? ⟨g, off + i, none⟩ = some (.func (.func f) #[] #[])) (hg : g < w.heap.size) (hl2 : fs.length ≤ 100) (EN : ∀ f ∈ fs, ∀ (U V : Value) (W : World), (callFunc f #[U, V]).run Tryz.prog W = .ok (.enter f #[U, V]) W)
    (H1 : ∀ (i : Nat) (f : Nat), fs[i]? = some f → ∀ W, Below w.heap.size w W → Calls Tryz.prog f #[p, q] W fun r w' => r = .returned (.bool (A i)) ∧ Below W.heap.size W w')
    (H2 : ∀ (i : Nat) (f : Nat), fs[i]? = some f → ∀ W, Below w.heap.size w W → Calls Tryz.prog f #[q, p] W fun r w' => r = .returned (.bool (B i)) ∧ Below W.heap.size W w') :
    Calls Tryz.prog 70 #[p, q, .slice (some ⟨g, off, none⟩) fs.length cap] w fun r w' => r = .returned (.bool (abL A B fs.length 0)) ∧ Below w.heap.size w w' := by
  have HR : Hid (∀ W, Below w.heap.size w W → ∀ (i f : Nat), fs[i]? = some f → W.cell? ⟨g, off + i, none⟩ = some (.func (.func f) #[] #[])) := fun W hw i f hi => ((hw.cell (p := ⟨g, off + i, none⟩) hg).trans (hr i f hi))
  have HH1 := hide H1
  have HH2 := hide H2
  have HEN := hide EN
  clear hr hg H1 H2 EN
  obtain ⟨len, hlen⟩ : ∃ len, len = fs.length := ⟨_, rfl⟩
  have HLEN := hide hlen
  rw [← hlen] at hl2 ⊢
  clear hlen
  have HS : Hid (∀ k, k < len → abL A B (len - k) k = if A k = true then true else if B k = true then false else abL A B (len - (k + 1)) (k + 1)) := fun k hk => by
    rw [show len - k = (len - (k + 1)) + 1 by omega, abL]
  obtain ⟨R, eR⟩ : ∃ R, R = abL A B len 0 := ⟨_, rfl⟩
  rw [← eR]
  have HF := hide eR
  clear eR
  go_enter Tryz.func70, Tryz.ntmps70
  go_wp2_with fail
  go_loopw [11] (fun i wr => ∃ (k : Nat), k ≤ len ∧ i = .int .i64 k ∧ R = abL A B (len - k) k ∧ Below w.heap.size w wr) (fun i _ => len - (intOf i).toNat)
  case atStart => exact ⟨0, Nat.zero_le _, rfl, by rw [Nat.sub_zero]; exact unhide HF, Below.refl _ _⟩
  case round =>
    obtain ⟨k, hk, rfl, hR, hbr⟩ := hrel
    clear HF
    by_cases hlt : k < len
    · obtain ⟨f, hf⟩ : ∃ f, fs[k]? = some f := ⟨_, List.getElem?_eq_getElem (by rw [← unhide HLEN]; exact hlt)⟩
      have c0 := (unhide HR) wr hbr k f hf
      have hent1 := (unhide HEN) f (List.mem_of_getElem? hf) p q wr
      have D1 := hide ((unhide HH1) k f hf wr hbr)
      have D2 := hide ((unhide HH2) k f hf)
      have HE2 := hide ((unhide HEN) f (List.mem_of_getElem? hf) q p)
      have hs := (unhide HS) k hlt
      rw [hs] at hR
      have HRR := hide hR
      have HB := hide hbr
      have k1 : (0 : Int) ≤ (k : Int) := by omega
      have k2 : (k : Int) < (len : Int) := by omega
      clear hR hbr hs hf
      cases hA : A k
      · go_wp2_with fail
        rw [hA] at D1
        refine (unhide D1).mono ?_
        rintro r w2 ⟨rfl, b2⟩
        have HB2 := hide ((unhide HB).trans (b2.mono (unhide HB).size))
        have hent2 := (unhide HE2) w2
        have D3 := hide ((unhide D2) w2 (unhide HB2))
        clear b2
        cases hB : B k
        · rw [hB] at D3
          go_wp2_with fail
          refine (unhide D3).mono ?_
          rintro r w3 ⟨rfl, b3⟩
          have HB3 := hide ((unhide HB2).trans (b3.mono (unhide HB2).size))
          clear b3
          have HRN : Hid (R = abL A B (len - (k + 1)) (k + 1)) := by show _ = _; rw [unhide HRR, hA, hB]; rfl
          clear hA hB
          go_wp2_with fail
          go_roundw
          case rel => exact ⟨k + 1, by omega, by go_num, unhide HRN, unhide HB3⟩
          case measure => simp [intOf]; omega
        · rw [hB] at D3
          have HRN : Hid (R = false) := by show _ = _; rw [unhide HRR, hA, hB]; rfl
          clear hA hB
          go_wp2_with fail
          refine (unhide D3).mono ?_
          rintro r w3 ⟨rfl, b3⟩
          have HB3 := hide ((unhide HB2).trans (b3.mono (unhide HB2).size))
          clear b3
          go_wp2_with fail
          go_ret
          exact ⟨ret_bool (unhide HRN).symm, unhide HB3⟩
      · rw [hA] at D1
        have HRN : Hid (R = true) := by show _ = _; rw [unhide HRR, hA]; rfl
        clear hA
        go_wp2_with fail
        refine (unhide D1).mono ?_
        rintro r w2 ⟨rfl, b2⟩
        have HB2 := hide ((unhide HB).trans (b2.mono (unhide HB).size))
        clear b2
        go_wp2_with fail
        go_ret
        exact ⟨ret_bool (unhide HRN).symm, unhide HB2⟩
    · obtain rfl : k = len := by omega
      have HRZ : Hid (R = false) := by show _ = _; rw [hR, Nat.sub_self]; rfl
      have HB := hide hbr
      clear hR hbr
      go_wp2_with fail
      go_ret
      exact ⟨ret_bool (unhide HRZ).symm, unhide HB⟩

theorem ent_hasMore (U V : Value) (W : World) : (callFunc 71 #[U, V]).run Tryz.prog W = .ok (.enter 71 #[U, V]) W := by kernel_rfl
theorem ent_isLower (U V : Value) (W : World) : (callFunc 72 #[U, V]).run Tryz.prog W = .ok (.enter 72 #[U, V]) W := by kernel_rfl
theorem ent_hasHash (U V : Value) (W : World) : (callFunc 73 #[U, V]).run Tryz.prog W = .ok (.enter 73 #[U, V]) W := by kernel_rfl

theorem ord_any (b1 o1 b2 o2 : Nat) (e1 e2 : EnS) (x1 x2 : En) (f1 : wfCode x1.2.2.2 = 0) (f2 : wfCode x2.2.2.2 = 0) (i f : Nat) (hf : [71, 72, 73][i]? = some f) (W : World) (h1 : EAt W b1 o1 e1 x1) (h2 : EAt W b2 o2 e2 x2) :
    Calls Tryz.prog f #[.pointer (some ⟨b1, o1, none⟩), .pointer (some ⟨b2, o2, none⟩)] W fun r w' => r = .returned (.bool (ordE x1 x2 i)) ∧ Below W.heap.size W w' := by
  match i with
  | 0 => simp at hf; subst hf; exact hasMore_any b1 o1 b2 o2 e1 e2 x1 x2 W h1 h2 f1 f2
  | 1 => simp at hf; subst hf; exact isLower_any b1 o1 b2 o2 e1 e2 x1 x2 W h1 h2
  | 2 => simp at hf; subst hf; exact hasAhead_any b1 o1 b2 o2 e1 e2 x1 x2 W h1 h2
  | n + 3 => simp at hf

set_option maxHeartbeats 2000000 in
theorem isBetterE_any (b1 o1 b2 o2 : Nat) (e1 e2 : EnS) (x1 x2 : En) (w : World) (h1 : EAt w b1 o1 e1 x1) (h2 : EAt w b2 o2 e2 x2) (f1 : wfCode x1.2.2.2 = 0) (f2 : wfCode x2.2.2.2 = 0) :
    Calls Tryz.prog 45 #[.pointer (some ⟨b1, o1, none⟩), .pointer (some ⟨b2, o2, none⟩)] w fun r w' => r = .returned (.bool (btE x1 x2)) ∧ Below w.heap.size w w' := by
  obtain ⟨W0, e0⟩ : ∃ W, w.alloc (.cells #[.func (.func 71) #[] #[], .func (.func 72) #[] #[], .func (.func 73) #[] #[]] 68) = W := ⟨_, rfl⟩
  have k0 := SBlk.new w #[.func (.func 71) #[] #[], .func (.func 72) #[] #[], .func (.func 73) #[] #[]] 68
  have k2 := below_alloc w (.cells #[.func (.func 71) #[] #[], .func (.func 72) #[] #[], .func (.func 73) #[] #[]] 68)
  rw [e0] at k0 k2
  have D1 := hide (aheadBy_any (.pointer (some ⟨b1, o1, none⟩)) (.pointer (some ⟨b2, o2, none⟩)) [71, 72, 73] w.heap.size 0 3 (ordE x1 x2) (ordE x2 x1) W0
    (fun i f hf => by
      match i with
      | 0 => simp at hf; subst hf; exact k0.cell 0
      | 1 => simp at hf; subst hf; exact k0.cell 1
      | 2 => simp at hf; subst hf; exact k0.cell 2
      | n + 3 => simp at hf) k0.lt (by decide)
    (fun f hf U V W => by
      simp only [List.mem_cons, List.not_mem_nil, or_false] at hf
      rcases hf with rfl | rfl | rfl
      · exact ent_hasMore U V W
      · exact ent_isLower U V W
      · exact ent_hasHash U V W)
    (fun i f hf W hb => ord_any b1 o1 b2 o2 e1 e2 x1 x2 f1 f2 i f hf W (h1.below (k2.trans (hb.mono k2.size)) (Nat.le_refl _)) (h2.below (k2.trans (hb.mono k2.size)) (Nat.le_refl _)))
    (fun i f hf W hb => ord_any b2 o2 b1 o1 e2 e1 x2 x1 f2 f1 i f hf W (h2.below (k2.trans (hb.mono k2.size)) (Nat.le_refl _)) (h1.below (k2.trans (hb.mono k2.size)) (Nat.le_refl _))))
  rw [show ([71, 72, 73] : List Nat).length = 3 from rfl, ab_bt] at D1
  generalize btE x1 x2 = R at D1 ⊢
  have HB := hide k2
  clear k0 k2 h1 h2 f1 f2
  go_enter Tryz.func45, Tryz.ntmps45
  go_wp2_with (rw [e0])
  try rw [e0]
  refine (unhide D1).mono ?_
  rintro r w1 ⟨rfl, b1⟩
  have B1 := hide ((unhide HB).trans (b1.mono (unhide HB).size))
  clear b1
  go_wp2_with fail
  go_ret
  exact ⟨rfl, unhide B1⟩

set_option maxHeartbeats 4000000 in
theorem headAmong_any (s : Sl) (xs : List En) (w : World) (o : RowOk enK w s xs) (al : AllOk xs) (hp : 0 < xs.length) (hl : xs.length ≤ 1048576) :
    Calls Tryz.prog 49 #[.slice s.a s.n s.c] w fun r w' => r = .returned (.int .i64 (bestL xs : Int)) ∧ Below w.heap.size w w' := by
  have hlen := o.len
  obtain ⟨b, off, ha, hent⟩ := o.ent (by omega)
  have D1 := hide (fun (W : World) (hb : Below w.heap.size w W) (i j : Nat) (x y : En) (hx : xs[i]? = some x) (hy : xs[j]? = some y) => match hent i x hx, hent j y hy with
    | ⟨e, he⟩, ⟨f, hf⟩ => isBetterE_any b (off + i * 14) b (off + j * 14) e f x y W (he.below hb (Nat.le_refl _)) (hf.below hb (Nat.le_refl _)) (al x (List.mem_of_getElem? hx)).2 (al y (List.mem_of_getElem? hy)).2)
  have HS := hide (hdFrom_step xs)
  have HF : Hid (bestL xs = hdFrom xs (xs.length - 0) 0 0) := rfl
  have HLT := hide (hdFrom_lt xs)
  have hsn : s.n = xs.length := hlen
  generalize bestL xs = R at HF ⊢
  rw [ha]
  have HL := hide hsn
  obtain ⟨n, en⟩ : ∃ n, n = s.n := ⟨_, rfl⟩
  rw [← en] at hsn HL ⊢
  clear o hent al hlen ha en
  have hpn : 0 < n := by omega
  have hln : n ≤ 1048576 := by omega
  clear hsn hp hl
  go_enter Tryz.func49, Tryz.ntmps49
  go_wp2_with fail
  go_loopw [3, 7] (fun hd i wr => ∃ (k q : Nat), k ≤ n ∧ hd = .int .i64 q ∧ i = .int .i64 k ∧ q < n ∧ R = hdFrom xs (xs.length - k) k q ∧ Below w.heap.size w wr) (fun _ i _ => n - (intOf i).toNat)
  case atStart => exact ⟨0, 0, Nat.zero_le _, rfl, rfl, hpn, unhide HF, Below.refl _ _⟩
  case round =>
    obtain ⟨k, q, hk, rfl, rfl, hq, hR, hbr⟩ := hrel
    clear HF
    by_cases hlt : k < n
    · obtain ⟨x, hx⟩ : ∃ x, xs[k]? = some x := ⟨_, List.getElem?_eq_getElem (by rw [← unhide HL]; exact hlt)⟩
      obtain ⟨y, hy⟩ : ∃ y, xs[q]? = some y := ⟨_, List.getElem?_eq_getElem (by rw [← unhide HL]; exact hq)⟩
      have D2 := hide (fun (W : World) (hb : Below w.heap.size w W) => (unhide D1) W hb k q x y hx hy)
      have hs := (unhide HS) k q (by rw [← unhide HL]; exact hlt)
      rw [hs, btAt_of hx hy] at hR
      have HRR := hide hR
      have HB := hide hbr
      have k1 : (0 : Int) ≤ (k : Int) := by omega
      have k2 : (k : Int) < (n : Int) := by omega
      have q1 : (0 : Int) ≤ (q : Int) := by omega
      have q2 : (q : Int) < (n : Int) := by omega
      clear hR hbr hs hx hy
      generalize btE x y = R1 at D2 HRR
      cases R1
      · go_wp2_with fail
        go_region_held3 (fun W => True)
          (exact True.intro)
          (first | (go_at_call 45; refine ((unhide D2) _ (by first | exact (unhide HB).drew | exact below_drewN (unhide HB) _ | exact unhide HB)).mono ?_; rintro r w2 ⟨rfl, b2⟩; have JJ : Below w.heap.size w w2 := Below.trans (by first | exact (unhide HB).drew | exact below_drewN (unhide HB) _ | exact unhide HB) (b2.mono (Below.size (by first | exact (unhide HB).drew | exact below_drewN (unhide HB) _ | exact unhide HB))); clear b2))
        all_goals
          have HJ := hide JJ
          clear JJ
          go_wp2_with fail
          go_roundw
          case rel => exact ⟨k + 1, q, by omega, rfl, by go_num, hq, unhide HRR, unhide HJ⟩
          case measure => simp [intOf]; omega
      · go_wp2_with fail
        go_region_held3 (fun W => True)
          (exact True.intro)
          (first | (go_at_call 45; refine ((unhide D2) _ (by first | exact (unhide HB).drew | exact below_drewN (unhide HB) _ | exact unhide HB)).mono ?_; rintro r w2 ⟨rfl, b2⟩; have JJ : Below w.heap.size w w2 := Below.trans (by first | exact (unhide HB).drew | exact below_drewN (unhide HB) _ | exact unhide HB) (b2.mono (Below.size (by first | exact (unhide HB).drew | exact below_drewN (unhide HB) _ | exact unhide HB))); clear b2))
        all_goals
          have HJ := hide JJ
          clear JJ
          go_wp2_with fail
          go_roundw
          case rel => exact ⟨k + 1, k, by omega, rfl, by go_num, hlt, unhide HRR, unhide HJ⟩
          case measure => simp [intOf]; omega
    · obtain rfl : k = n := by omega
      have HRZ : Hid (R = q) := by show _ = _; rw [hR, ← unhide HL, Nat.sub_self]; rfl
      have HB := hide hbr
      have wq : IntKind.i64.wrap ((q : Nat) : Int) = ((q : Nat) : Int) := by rw [IntKind.wrap_i64]; omega
      clear hR hbr
      go_wp2_with fail
      go_ret
      exact ⟨by rw [unhide HRZ]; rfl, unhide HB⟩

end Go.Proofs.YtjjbkbinjmfnlaaGreatDoor

/- What is proved here: where the model finds a hash among entries (l10Find). -/
namespace Go.Proofs.YtjjbkbinjmfnlaaGreatDoor
open Go.RowKit
set_option linter.unusedVariables false
set_option linter.unusedSimpArgs false
set_option maxRecDepth 100000

set_option maxHeartbeats 2000000 in
theorem l10Find_any (s t : Sl) (xs : List En) (z : List Int) (w : World) (o : RowOk enK w s xs) (ot : BOk w t z) :
    Calls Tryz.prog 91 #[.slice s.a s.n s.c, .slice t.a t.n t.c] w fun r w' => r = .returned (.int .i64 (fnd xs z)) ∧ Below w.heap.size w w' := by
  obtain ⟨a, n, c⟩ := s
  have hn : n = xs.length := o.len
  rcases Nat.eq_zero_or_pos n with h0 | hp
  · subst h0
    obtain rfl : xs = [] := List.length_eq_zero_iff.1 hn.symm
    have e1 : fnd [] z = -1 := rfl
    rw [e1]
    clear o ot hn
    go_enter Tryz.func91, Tryz.ntmps91
    go_wp2_with fail
    refine wp_loop_rounds 1 ?_
    rw [rounds_succ]
    go_wp2_with fail
    go_ret
    exact ⟨rfl, Below.refl _ _⟩
  · obtain ⟨b, off, rfl, hx⟩ := o.ent hp
    have HX := hide (fun (W : World) (hbl : Below w.heap.size w W) (i : Nat) (x : En) (hi : xs[i]? = some x) => match hx i x hi with | ⟨e, h⟩ => (⟨e, h.below hbl (Nat.le_refl _)⟩ : ∃ e, EAt W b (off + i * 14) e x))
    have HT := hide (fun (W : World) (hbl : Below w.heap.size w W) => bytesK.below ot hbl (Nat.le_refl _))
    have HL := hide hn
    have HM : n ≤ maxLen := Nat.le_trans o.room o.max
    unfold maxLen at HM
    clear o ot hn hx
    go_enter Tryz.func91, Tryz.ntmps91
    go_wp2_with fail
    go_loopw [5] (fun i wr => ∃ k : Nat, k ≤ n ∧ i = .int .i64 k ∧ (∀ (j : Nat) y, j < k → xs[j]? = some y → y.2.1 ≠ z) ∧ Below w.heap.size w wr) (fun i _ => n - (intOf i).toNat)
    case atStart => exact ⟨0, Nat.zero_le _, rfl, fun j y hj => absurd hj (Nat.not_lt_zero _), Below.refl _ _⟩
    case round =>
      obtain ⟨k, hk, rfl, hall, hbr⟩ := hrel
      have HA := hide hall
      clear hall
      by_cases hlt : k < n
      · have hkx : k < xs.length := by rw [← unhide HL]; exact hlt
        obtain ⟨x, hx⟩ : ∃ x, xs[k]? = some x := ⟨_, List.getElem?_eq_getElem hkx⟩
        obtain ⟨e, he⟩ := (unhide HX) wr hbr k x hx
        have c11 := he.1 11 _ rfl
        have hz : BOk wr e.2.1 x.2.1 := he.2.2.1
        have HD := hide (fun (W : World) (hb : Below wr.heap.size wr W) => l1Same_any e.2.1.a t.a e.2.1.n e.2.1.c t.n t.c x.2.1 z W (hz.row.below hb (Nat.le_refl _)) ((((unhide HT) wr hbr).row).below hb (Nat.le_refl _)))
        rw [strEq_dec hz.row.2.1 ((unhide HT) wr hbr).row.2.1] at HD
        have HXX := hide hx
        have HBR := hide hbr
        have i1 : (0 : Int) ≤ (k : Int) := by omega
        have i2 : (k : Int) < (n : Int) := by omega
        have hw1 : IntKind.i64.wrap (k : Int) = (k : Int) := by rw [IntKind.wrap_i64]; omega
        clear hbr hx he hkx hz
        by_cases hz : x.2.1 = z
        · rw [decide_eq_true hz] at HD
          have HF : Hid (fnd xs z = (k : Int)) := fnd_some xs z k x (unhide HXX) hz (unhide HA)
          clear hz
          go_wp2_with fail
          refine ((unhide HD) _ (by first | exact Below.refl _ _ | exact (Below.refl _ _).drew)).mono ?_
          rintro r w2 ⟨rfl, rfl⟩
          go_wp2_with fail
          go_ret
          exact ⟨ret_int (unhide HF).symm, by first | exact unhide HBR | exact (unhide HBR).drew⟩
        · rw [decide_eq_false hz] at HD
          have HZ := hide hz
          clear hz
          go_wp2_with fail
          refine ((unhide HD) _ (by first | exact Below.refl _ _ | exact (Below.refl _ _).drew)).mono ?_
          rintro r w2 ⟨rfl, rfl⟩
          go_wp2_with fail
          go_roundw
          case rel =>
            refine ⟨k + 1, by omega, by go_num, fun j y hj hy => ?_, by first | exact unhide HBR | exact (unhide HBR).drew⟩
            by_cases e : j = k
            · subst e
              obtain rfl : x = y := Option.some.inj ((unhide HXX).symm.trans hy)
              exact unhide HZ
            · exact (unhide HA) j y (by omega) hy
          case measure => simp [intOf]; omega
      · obtain rfl : k = n := by omega
        have HF : Hid (fnd xs z = -1) := fnd_none xs z (fun j y hy => (unhide HA) j y (by have := (List.getElem?_eq_some_iff.1 hy).1; have := unhide HL; omega) hy)
        have HBR := hide hbr
        clear hbr
        go_wp2_with fail
        go_ret
        exact ⟨ret_int (unhide HF).symm, unhide HBR⟩

end Go.Proofs.YtjjbkbinjmfnlaaGreatDoor

/- What is proved here: which of two entries is better, and which of all is the best, in the model (l11Better, l11Head). -/
namespace Go.Proofs.YtjjbkbinjmfnlaaGreatDoor
open Go.RowKit
set_option linter.unusedVariables false
set_option linter.unusedSimpArgs false
set_option maxRecDepth 100000

set_option maxHeartbeats 4000000 in
theorem l11Better_any (g of' : Nat) (s : Sl) (xs : List En) (i j : Nat) (w : World) (hc : w.cell? ⟨g, of' + 3, none⟩ = some (.slice s.a s.n s.c)) (o : RowOk enK w s xs) (al : AllOk xs) (hi : i < xs.length) (hj : j < xs.length) :
    Calls Tryz.prog 44 #[.pointer (some ⟨g, of', none⟩), .int .i64 (i : Int), .int .i64 (j : Int)] w fun r w' => r = .returned (.bool (btAt xs i j)) ∧ Below w.heap.size w w' := by
  have hlen := o.len
  obtain ⟨x, hx⟩ : ∃ x, xs[i]? = some x := ⟨_, List.getElem?_eq_getElem hi⟩
  obtain ⟨y, hy⟩ : ∃ y, xs[j]? = some y := ⟨_, List.getElem?_eq_getElem hj⟩
  obtain ⟨b, off, ha, hent⟩ := o.ent (by omega)
  obtain ⟨e, he⟩ := hent i x hx
  obtain ⟨f, hf⟩ := hent j y hy
  have fx := (al x (List.mem_of_getElem? hx)).2
  have fy := (al y (List.mem_of_getElem? hy)).2
  rw [btAt_of hx hy]
  have rx : IRow w e.2.2.2.a e.2.2.2.n x.2.2.2 := he.2.2.2.2.row
  have ry : IRow w f.2.2.2.a f.2.2.2.n y.2.2.2 := hf.2.2.2.2.row
  have lx : e.2.2.2.n = 8 := by rw [← rx.1]; exact (wf_zero _ fx).1
  have ly : f.2.2.2.n = 8 := by rw [← ry.1]; exact (wf_zero _ fy).1
  have cx := he.1 13 _ rfl
  have cy := hf.1 13 _ rfl
  rw [lx] at rx cx
  rw [ly] at ry cy
  obtain ⟨bx, ox, hax, _, _⟩ := rx.at (by omega)
  obtain ⟨by', oy, hay, _, _⟩ := ry.at (by omega)
  rw [hax] at rx cx
  rw [hay] at ry cy
  have D1 := hide (fun (W : World) (hb : Below w.heap.size w W) => l4Compare_any bx by' ox oy e.2.2.2.c f.2.2.2.c x.2.2.2 y.2.2.2 W (rx.below hb (Nat.le_refl _)) (ry.below hb (Nat.le_refl _)))
  have HK := hide (fun (W : World) (hb : Below w.heap.size w W) => And.intro (he.below hb (Nat.le_refl _)) (hf.below hb (Nat.le_refl _)))
  have D2 := hide (fun (W : World) (hb : Below w.heap.size w W) => l1Ahead_any e.2.1.a f.2.1.a e.2.1.n e.2.1.c f.2.1.n f.2.1.c x.2.1 y.2.1 W (BOk.row (bytesK.below he.2.2.1 hb (Nat.le_refl _))) (BOk.row (bytesK.below hf.2.2.1 hb (Nat.le_refl _))))
  have HS : Hid (∀ W, Below w.heap.size w W → (fun W => W.cell? ⟨b, off + i * 14 + 13, none⟩ = some (.slice (some ⟨bx, ox, none⟩) 8 e.2.2.2.c) ∧ W.cell? ⟨b, off + j * 14 + 13, none⟩ = some (.slice (some ⟨by', oy, none⟩) 8 f.2.2.2.c)) W) := fun W hb => ⟨(hb.cell (p := ⟨b, off + i * 14 + 13, none⟩) he.lt).trans cx, (hb.cell (p := ⟨b, off + j * 14 + 13, none⟩) hf.lt).trans cy⟩
  have HBT : Hid (btE x y = _) := show btE x y = _ by unfold btE; exact rfl
  generalize btE x y = R at HBT ⊢
  generalize cmpW x.2.2.2 y.2.2.2 8 = c at D1 HBT
  generalize aheadB x.2.1 y.2.1 = u at D2 HBT
  have i1 : (0 : Int) ≤ (i : Int) := by omega
  have i2 : (i : Int) < (s.n : Int) := by omega
  have j1 : (0 : Int) ≤ (j : Int) := by omega
  have j2 : (j : Int) < (s.n : Int) := by omega
  rw [ha] at hc
  clear o hent he hf hx hy fx fy rx ry lx ly ha al hi hj hlen hax hay
  go_enter Tryz.func44, Tryz.ntmps44
  go_wp2_with fail
  go_region_held3 (fun W => W.cell? ⟨b, off + i * 14 + 13, none⟩ = some (.slice (some ⟨bx, ox, none⟩) 8 e.2.2.2.c) ∧ W.cell? ⟨b, off + j * 14 + 13, none⟩ = some (.slice (some ⟨by', oy, none⟩) 8 f.2.2.2.c))
    (exact (unhide HS) _ (by first | assumption | exact (Below.refl w.heap.size w).drew | exact below_drewN (Below.refl w.heap.size w) _ | exact below_drewN (by assumption) _))
    (first | (go_at_call 68; refine ((unhide D1) _ (by first | exact (Below.refl w.heap.size w).drew | exact below_drewN (Below.refl w.heap.size w) _ | exact Below.refl w.heap.size w)).mono ?_; rintro r w2 ⟨rfl, b2⟩; have JJ : Below w.heap.size w w2 := Below.trans (by first | exact (Below.refl w.heap.size w).drew | exact below_drewN (Below.refl w.heap.size w) _ | exact Below.refl w.heap.size w) (b2.mono (by first | exact Nat.le_refl _ | exact (below_drewN (Below.refl w.heap.size w) _).size)); clear b2))
  all_goals
    obtain ⟨he, hf⟩ := (unhide HK) w2 JJ
    have n1 := he.1 1 _ rfl
    have n2 := hf.1 1 _ rfl
    have KZ := hide (fun (m : Nat) => And.intro ((he.below (below_drewN (Below.refl w2.heap.size w2) m) (Nat.le_refl _)).1 11 _ rfl) (And.intro ((hf.below (below_drewN (Below.refl w2.heap.size w2) m) (Nat.le_refl _)).1 11 _ rfl) (below_drewN JJ m)))
    have HJ := hide JJ
    clear he hf JJ D1 HS
    by_cases hc0 : c = 0
    · subst hc0
      have HB1 := hide ((unhide HBT).trans (if_pos rfl))
      by_cases hn : x.1.n1 = y.1.n1
      · have HB2 := hide ((unhide HB1).trans (if_pos hn))
        have d : (x.1.n1 != y.1.n1) = false := by simp [hn]
        clear hn
        go_wp2_with fail
        go_quiet (fail)
        go_wp2_with fail
        obtain ⟨z1, z2, hbz⟩ := (unhide KZ) nq
        generalize w2.drewN nq = W3 at z1 z2 hbz ⊢
        have HZ := hide hbz
        have D3 := hide (fun (m : Nat) => (unhide D2) (W3.drewN m) (below_drewN hbz m))
        clear hbz
        go_quiet ((go_at_call 69; exact Calls.quiet_of_same ((unhide D3) _)))
        go_wp2_with fail
        go_ret
        exact ⟨ret_bool (unhide HB2).symm, below_drewN (unhide HZ) _⟩
      · have HB2 := hide ((unhide HB1).trans (if_neg hn))
        have d : (x.1.n1 != y.1.n1) = true := by simp [hn]
        clear hn
        go_wp2_with fail
        go_quiet (fail)
        go_wp2_with fail
        go_quiet (fail)
        go_wp2_with fail
        go_ret
        exact ⟨ret_bool (unhide HB2).symm, by first | exact below_drewN (below_drewN (unhide HJ) _) _ | exact below_drewN (unhide HJ) _⟩
    · have HB1 := hide ((unhide HBT).trans (if_neg hc0))
      have d : (c != 0) = true := by simp [hc0]
      clear hc0
      go_wp2_with fail
      go_ret
      exact ⟨ret_bool (unhide HB1).symm, unhide HJ⟩

set_option maxHeartbeats 4000000 in
theorem l11Head_any (g of' : Nat) (s : Sl) (xs : List En) (w : World) (hc : w.cell? ⟨g, of' + 3, none⟩ = some (.slice s.a s.n s.c)) (o : RowOk enK w s xs) (al : AllOk xs) (hp : 0 < xs.length) (hl : xs.length ≤ 1048576) :
    Calls Tryz.prog 47 #[.pointer (some ⟨g, of', none⟩)] w fun r w' => r = .returned (.int .i64 (bestL xs : Int)) ∧ Below w.heap.size w w' := by
  have hlen := o.len
  have D1 := hide (fun (W : World) (hb : Below w.heap.size w W) (i j : Nat) (hi : i < xs.length) (hj : j < xs.length) => l11Better_any g of' s xs i j W ((hb.cell (p := ⟨g, of' + 3, none⟩) (lt_of_cell hc)).trans hc) (RowOk.below o hb (Nat.le_refl _)) al hi hj)
  have HC := hide (fun (W : World) (hb : Below w.heap.size w W) => ((hb.cell (p := ⟨g, of' + 3, none⟩) (lt_of_cell hc)).trans hc))
  have HS := hide (hdFrom_step xs)
  have HF := hide (bestL_one hp)
  generalize bestL xs = R at HF ⊢
  rw [← hlen] at hl
  obtain ⟨n, en⟩ : ∃ n, n = s.n := ⟨_, rfl⟩
  rw [← en] at hl hc HC hlen
  have hpn : 0 < n := by omega
  have HL := hide hlen
  clear o al en hlen hp
  go_enter Tryz.func47, Tryz.ntmps47
  go_wp2_with fail
  go_loopw [3, 4] (fun hd i wr => ∃ (k q : Nat), 1 ≤ k ∧ k ≤ n ∧ hd = .int .i64 q ∧ i = .int .i64 k ∧ q < n ∧ R = hdFrom xs (xs.length - k) k q ∧ Below w.heap.size w wr) (fun _ i _ => n - (intOf i).toNat)
  case atStart => exact ⟨1, 0, Nat.le_refl _, hpn, rfl, rfl, hpn, unhide HF, Below.refl _ _⟩
  case round =>
    obtain ⟨k, q, hk0, hk, rfl, rfl, hq, hR, hbr⟩ := hrel
    have cc := (unhide HC) wr hbr
    have wn : IntKind.i64.wrap ((n : Nat) : Int) = ((n : Nat) : Int) := by rw [IntKind.wrap_i64]; omega
    clear HF
    by_cases hlt : k < n
    · have D2 := hide ((unhide D1) wr hbr k q (by rw [← unhide HL]; exact hlt) (by rw [← unhide HL]; exact hq))
      have hs := (unhide HS) k q (by rw [← unhide HL]; exact hlt)
      rw [hs] at hR
      have HRR := hide hR
      have HB := hide hbr
      have d1 : decide ((k : Int) < (n : Int)) = true := decide_eq_true (by omega)
      clear hR hbr hs
      generalize btAt xs k q = R1 at D2 HRR
      cases R1
      · go_wp2_with fail
        refine (unhide D2).mono ?_
        rintro r w2 ⟨rfl, b2⟩
        have HJ := hide ((unhide HB).trans (b2.mono (unhide HB).size))
        clear b2
        go_wp2_with fail
        go_roundw
        case rel => exact ⟨k + 1, q, by omega, by omega, rfl, by go_num, hq, unhide HRR, unhide HJ⟩
        case measure => simp [intOf]; omega
      · go_wp2_with fail
        refine (unhide D2).mono ?_
        rintro r w2 ⟨rfl, b2⟩
        have HJ := hide ((unhide HB).trans (b2.mono (unhide HB).size))
        clear b2
        go_wp2_with fail
        go_roundw
        case rel => exact ⟨k + 1, k, by omega, by omega, rfl, by go_num, hlt, unhide HRR, unhide HJ⟩
        case measure => simp [intOf]; omega
    · obtain rfl : k = n := by omega
      have HRZ : Hid (R = q) := by show _ = _; rw [hR, ← unhide HL, Nat.sub_self]; rfl
      have HB := hide hbr
      have d1 : decide ((k : Int) < (k : Int)) = false := decide_eq_false (by omega)
      clear hR hbr
      go_wp2_with fail
      go_ret
      exact ⟨by rw [unhide HRZ]; rfl, unhide HB⟩

end Go.Proofs.YtjjbkbinjmfnlaaGreatDoor

/- What is proved here: what the program tells of an entry's parent: where it lies (entryAt), whether a header is behind it (isBehind), and its total (totalBehind, hasTotal). -/
namespace Go.Proofs.YtjjbkbinjmfnlaaGreatDoor
open Go.RowKit
set_option linter.unusedVariables false
set_option linter.unusedSimpArgs false
set_option maxRecDepth 100000

/-- A pointer at an entry, or at none. -/
def PAt (w : World) (q : Option Addr) (y : Option En) : Prop := (q = none ∧ y = none) ∨ ∃ b o e x, q = some ⟨b, o, none⟩ ∧ y = some x ∧ EAt w b o e x

theorem PAt.below {w w' : World} {q : Option Addr} {y : Option En} (h : PAt w q y) {B : Nat} (hb : Below B w w') (hB : w.heap.size ≤ B) : PAt w' q y := by
  rcases h with h | ⟨b, o, e, x, h1, h2, h3⟩
  · exact .inl h
  · exact .inr ⟨b, o, e, x, h1, h2, h3.below hb hB⟩

set_option maxHeartbeats 1000000 in
theorem entryAt_any (s : Sl) (xs : List En) (up : Int) (w : World) (o : RowOk enK w s xs) (hu : up = -1 ∨ (0 ≤ up ∧ up < xs.length)) :
    Calls Tryz.prog 46 #[.slice s.a s.n s.c, .int .i64 up] w fun r w' => ∃ q, r = .returned (.pointer q) ∧ PAt w q (enAt xs up) ∧ w' = w := by
  by_cases h1 : up = -1
  · subst h1
    have e1 : enAt xs (-1) = none := if_pos rfl
    rw [e1]
    have HP : Hid (PAt w none none) := .inl ⟨rfl, rfl⟩
    clear o hu e1
    go_enter Tryz.func46, Tryz.ntmps46
    go_wp2_with fail
    go_ret
    exact ⟨none, rfl, unhide HP, rfl⟩
  · have hu' : 0 ≤ up ∧ up < xs.length := by omega
    obtain ⟨k, rfl⟩ : ∃ k : Nat, up = (k : Int) := ⟨up.toNat, by omega⟩
    have hk : k < xs.length := by omega
    have hl := o.len
    obtain ⟨x, hx⟩ : ∃ x, xs[k]? = some x := ⟨_, List.getElem?_eq_getElem hk⟩
    have e1 : enAt xs (k : Int) = some x := by unfold enAt; rw [if_neg h1]; simpa using hx
    obtain ⟨b, off, ha, he⟩ := o.ent (by omega)
    obtain ⟨e, hat⟩ := he k x hx
    rw [e1, ha]
    have HP : Hid (PAt w (some ⟨b, off + k * 14, none⟩) (some x)) := .inr ⟨b, _, e, x, rfl, rfl, hat⟩
    have d1 : (((k : Nat) : Int) == -1) = false := by simp
    have i1 : (0 : Int) ≤ (k : Int) := by omega
    have i2 : (k : Int) < (s.n : Int) := by omega
    clear o hu hu' h1 hl hx e1 he hat ha hk
    go_enter Tryz.func46, Tryz.ntmps46
    go_wp2_with fail
    go_ret
    exact ⟨_, rfl, unhide HP, rfl⟩

set_option maxHeartbeats 2000000 in
theorem isBehind_any (q : Option Addr) (y : Option En) (x : HS) (h : Hd) (w : World) (p : PAt w q y) (o : HOk w x h) (hn : ∀ y0, y = some y0 → 0 ≤ y0.1.n1 ∧ y0.1.n1 ≤ 1099511627776) :
    Calls Tryz.prog 101 #[.pointer q, .agg (hvals x h)] w fun r w' => r = .returned (.bool (bhOk y h)) ∧ Below w.heap.size w w' := by
  have k0 := SBlk.new w (hvals x h) 76
  have k2 := below_alloc w (.cells (hvals x h) 76)
  obtain ⟨W0, e0⟩ : ∃ W, w.alloc (.cells (hvals x h) 76) = W := ⟨_, rfl⟩
  rw [e0] at k0 k2
  have HB0 := hide k2
  have E0 := hide e0
  unfold hvals at k0 E0 ⊢
  have x0 := k0.cell 0
  have x1 := k0.cell 1
  simp only [List.getElem?_cons_zero, List.getElem?_cons_succ] at x0 x1
  rcases p with ⟨rfl, rfl⟩ | ⟨b, of', e, y0, rfl, rfl, hat⟩
  · have e1 : bhOk none h = true := rfl
    rw [e1]
    clear e0 k0 k2 o hn
    go_enter Tryz.func101, Tryz.ntmps101
    go_upto_region 1 with fail
    rw [unhide E0]
    clear E0
    go_quiet (fail)
    go_wp2_with fail
    go_ret
    exact ⟨rfl, below_drewN (unhide HB0) _⟩
  · have hat' := hat.below k2 (Nat.le_refl _)
    have y1 := hat'.1 11 _ rfl
    have y2 := hat'.1 1 _ rfl
    have hyr : BOk W0 e.2.1 y0.2.1 := hat'.2.2.1
    have D1 : Hid (∀ n, Calls Tryz.prog 97 #[.slice x.p.a x.p.n x.p.c, .slice e.2.1.a e.2.1.n e.2.1.c] (W0.drewN n) fun r w' => r = .returned (.bool (decide (h.p = y0.2.1))) ∧ w' = W0.drewN n) := fun n => by
      have := implSame_any x.p.a e.2.1.a x.p.n x.p.c e.2.1.n e.2.1.c h.p y0.2.1 (W0.drewN n) ((o.p.below k2 (Nat.le_refl _)).below (below_drewN (Below.refl _ _) n) (Nat.le_refl _)) (hyr.row.below (below_drewN (Below.refl _ _) n) (Nat.le_refl _))
      rwa [strEq_dec o.p.2.1 hyr.row.2.1] at this
    have HE : Hid (bhOk (some y0) h = (decide (h.p = y0.2.1) && decide (h.n1 = y0.1.n1 + 1))) := rfl
    have hnn := hn y0 rfl
    have hw : IntKind.i64.wrap (y0.1.n1 + 1) = y0.1.n1 + 1 := by rw [IntKind.wrap_i64]; omega
    have hbq : decide (h.n1 = y0.1.n1 + 1) = (h.n1 == y0.1.n1 + 1) := by by_cases q : h.n1 = y0.1.n1 + 1 <;> simp [q]
    rw [hbq] at HE
    obtain ⟨nn, enn⟩ : ∃ n, y0.1.n1 + 1 = n := ⟨_, rfl⟩
    rw [enn] at HE hw
    have hw2 := hw
    generalize decide (h.p = y0.2.1) = c at D1 HE
    generalize bhOk (some y0) h = R at HE ⊢
    clear e0 k0 k2 o hn hat hat' hyr hnn hbq
    go_enter Tryz.func101, Tryz.ntmps101
    go_upto_region 1 with fail
    rw [unhide E0]
    clear E0
    cases c
    · go_quiet ((go_at_call 97; exact Calls.quiet_of_same ((unhide D1) _)))
      go_wp2_with fail
      go_ret
      exact ⟨ret_bool (by rw [unhide HE]; rfl), below_drewN (unhide HB0) _⟩
    · go_quiet ((go_at_call 97; exact Calls.quiet_of_same ((unhide D1) _)))
      go_wp2_with fail
      go_ret
      exact ⟨ret_bool (by rw [unhide HE]; simp), below_drewN (unhide HB0) _⟩

end Go.Proofs.YtjjbkbinjmfnlaaGreatDoor

/- What is proved here: what the program tells of the total up to a header (totalBehind), and whether an entry has it (slices.Equal, hasTotal). -/
namespace Go.Proofs.YtjjbkbinjmfnlaaGreatDoor
open Go.RowKit
set_option linter.unusedVariables false
set_option linter.unusedSimpArgs false
set_option maxRecDepth 100000

theorem cell_keep2 {w : World} {g g' i j k : Nat} {u v x : Value} (h : w.cell? ⟨g, k, none⟩ = some x) (hne : ¬ g = g') : ((w.setCell ⟨g', i, none⟩ u).setCell ⟨g', j, none⟩ v).cell? ⟨g, k, none⟩ = some x := by
  have e : ∀ (W : World) (i : Nat) (u : Value), (W.setCell ⟨g', i, none⟩ u).cell? ⟨g, k, none⟩ = W.cell? ⟨g, k, none⟩ := fun W i u => by
    simp only [World.cell?, heap_setCell_other W ⟨g', i, none⟩ g u hne]
  rw [e, e]
  exact h

theorem wo_good {n : Int} (h : 0 ≤ n) : woCode n = 0 ∧ woList n = wofList n := ⟨if_neg (by omega), if_neg (by omega)⟩

set_option maxHeartbeats 4000000 in
theorem totalBehind_any (q : Option Addr) (y : Option En) (x : HS) (h : Hd) (w : World) (p : PAt w q y) (hn : 0 ≤ h.n3 ∧ h.n3 ≤ 9) (hl : ∀ y0, y = some y0 → y0.2.2.2.length ≤ 1048576) :
    Calls Tryz.prog 128 #[.pointer q, .agg (hvals x h)] w fun r w' => ∃ a c, r = .returned (.agg #[.int .i64 (ttCode y h), .slice a (ttList y h).length c]) ∧
      w'.ownsRow w.heap.size 2 1 (.slice a (ttList y h).length c) (ttList y h).length ((ttList y h).map (Value.int .i64)) ∧ Below w.heap.size w w' := by
  obtain ⟨k0, k1, k2, k3⟩ := two_blk w (hvals x h) #[.int .i64 0, .slice none 0 0] 76 151
  obtain ⟨W0, e0⟩ : ∃ W, (w.alloc (.cells (hvals x h) 76)).alloc (.cells #[.int .i64 0, .slice none 0 0] 151) = W := ⟨_, rfl⟩
  rw [e0] at k0 k1 k2 k3
  have D1 := hide (implWideOf_any h.n3 (by omega) (by omega) W0)
  rw [(wo_good hn.1).1, (wo_good hn.1).2] at D1
  have E0 := hide e0
  unfold hvals at k0 E0 ⊢
  have x3 := k0.cell 3
  simp only [List.getElem?_cons_zero, List.getElem?_cons_succ] at x3
  have HLF : Hid ((wofList h.n3).length = 8) := rfl
  rw [unhide HLF] at D1
  have Q := hide (And.intro k1 (And.intro k2 (And.intro k3 p)))
  clear e0 k0 k1 k2 k3 p
  obtain ⟨cc, ecc⟩ : ∃ c, c = ttCode y h := ⟨_, rfl⟩
  obtain ⟨LL, eLL⟩ : ∃ L, L = ttList y h := ⟨_, rfl⟩
  rw [← ecc, ← eLL]
  have HCC := hide ecc
  have HLL := hide eLL
  clear ecc eLL
  go_enter Tryz.func128, Tryz.ntmps128
  go_upto_region 1 with fail
  rw [unhide E0]
  clear E0
  go_wp2_with fail
  refine (unhide D1).mono ?_
  rintro r w1 ⟨a1, c1, rfl, o1, b1⟩
  obtain ⟨k1, k2, k3, p⟩ := unhide Q
  have k1 := k1.below b1 (by omega)
  have K1 := k2.trans (b1.mono k2.size)
  have kh := SBlk.new w1 #[.int .i64 0, .slice a1 8 c1] 151
  have bh := below_alloc w1 (.cells #[.int .i64 0, .slice a1 8 c1] 151)
  have k1 := k1.below bh k1.lt
  have K2 := K1.trans (bh.mono K1.size)
  have o2 := own_below o1 bh (Nat.le_refl _)
  have hsz : W0.heap.size ≤ w1.heap.size := b1.size
  obtain ⟨W1, e1⟩ : ∃ W, w1.alloc (.cells #[.int .i64 0, .slice a1 8 c1] 151) = W := ⟨_, rfl⟩
  rw [e1] at kh k1 K2 o2
  have u0 := kh.cell 0
  have u1 := kh.cell 1
  have r0 := k1.cell 0
  have r1 := k1.cell 1
  have f0 := k1.free 0
  have f1 := k1.free 1
  simp only [List.getElem?_cons_zero, List.getElem?_cons_succ] at u0 u1 r0 r1
  have E1 := hide e1
  have Q2 := hide (And.intro k1 (And.intro K2 (And.intro o2 (And.intro hsz k3))))
  clear Q x3 D1 k1 k2 k3 K1 kh bh b1 o1 K2 o2 hsz e1
  rcases p with ⟨rfl, rfl⟩ | ⟨b, of', e, y0, rfl, rfl, hat⟩
  · obtain rfl : cc = 0 := unhide HCC
    obtain rfl : LL = wofList h.n3 := unhide HLL
    go_wp2_with (rw [unhide E1])
    obtain ⟨k1, K2, o2, hsz, k3⟩ := unhide Q2
    refine bodyPost_ret (v := .agg #[.int .i64 0, .slice a1 8 c1]) (by simp [results, Tryz.results128, go_sem, r0, r1]) rfl ⟨a1, c1, rfl, ?_, ?_⟩
    · exact ownsRow_base (ownsRow_setCell_below (ownsRow_setCell_below o2 (by show w.heap.size + 1 < _; omega) _) (by show w.heap.size + 1 < _; omega) _) (by omega)
    · exact (K2.setCell (by show w.heap.size ≤ w.heap.size + 1; omega) _).setCell (by show w.heap.size ≤ w.heap.size + 1; omega) _
  · obtain ⟨k1, K2, o2, hsz, k3⟩ := unhide Q2
    have hlt := hat.lt
    replace hat := hat.below K2 (Nat.le_refl _)
    have hit : IOk W1 e.2.2.2 y0.2.2.2 := hat.2.2.2.2
    have y3 := hat.1 13 _ rfl
    have n1 : ¬ b = w.heap.size + 1 := by omega
    have n2 : ¬ w1.heap.size = w.heap.size + 1 := by omega
    have D2 := hide (fun (W : World) (hb : Below W1.heap.size W1 W) => implAW_any e.2.2.2.a a1 e.2.2.2.n 8 e.2.2.2.c c1 y0.2.2.2 (wofList h.n3) W (hit.row.below hb (Nat.le_refl _)) ((IRow.own2 o2).below hb (Nat.le_refl _)) (by have := hit.row.1; have := hl y0 rfl; omega) (by omega))
    have hcc : cc = awCode y0.2.2.2 (wofList h.n3) := unhide HCC
    have hll : LL = awList y0.2.2.2 (wofList h.n3) := unhide HLL
    rw [← hcc, ← hll] at D2
    have HKP := hide (fun (W : World) (hb : Below W1.heap.size W1 W) => (⟨(hb.cell (p := ⟨b, of' + 13, none⟩) (lt_of_cell y3)).trans y3, (hb.cell (p := ⟨w1.heap.size, 1, none⟩) (lt_of_cell u1)).trans u1, (hb.cell (p := ⟨w.heap.size + 1, 0, none⟩) (lt_of_cell r0)).trans r0, (hb.cell (p := ⟨w.heap.size + 1, 1, none⟩) (lt_of_cell r1)).trans r1, (k1.below hb k1.lt).free 0, (k1.below hb k1.lt).free 1⟩ : W.cell? ⟨b, of' + 13, none⟩ = _ ∧ W.cell? ⟨w1.heap.size, 1, none⟩ = _ ∧ W.cell? ⟨w.heap.size + 1, 0, none⟩ = _ ∧ W.cell? ⟨w.heap.size + 1, 1, none⟩ = _ ∧ W.frozen? ⟨w.heap.size + 1, 0, none⟩ = false ∧ W.frozen? ⟨w.heap.size + 1, 1, none⟩ = false))
    clear hcc hll hit hat hl k1 K2 o2 hsz k3 HCC HLL hlt
    go_upto_region 4 with (rw [unhide E1])
    go_region_held3 (fun W => W.cell? ⟨b, of' + 13, none⟩ = some (.slice e.2.2.2.a e.2.2.2.n e.2.2.2.c) ∧ W.cell? ⟨w1.heap.size, 1, none⟩ = some (.slice a1 8 c1))
      (first | go_keep | exact ⟨cell_keep2 s1 n1, cell_keep2 s2 n2⟩) (first | (go_at_call 154; refine ((unhide D2) _ ((Below.refl _ _).drew)).mono ?_; rintro r w2 ⟨a2, c2, rfl, o3, b2⟩; obtain ⟨s1, s2, s3, s4, s5, s6⟩ := (unhide HKP) w2 ((Below.refl _ _).drew.trans b2)))
    all_goals
      obtain ⟨k1, K2, o2, hsz, k3⟩ := unhide Q2
      have B3 := (Below.refl W1.heap.size W1).drew.trans b2
      have q1 := k1.below B3 k1.lt
      have r2 := q1.cell 0
      have r3 := q1.cell 1
      have f2 := q1.free 0
      have f3 := q1.free 1
      simp only [List.getElem?_cons_zero, List.getElem?_cons_succ] at r2 r3
      have KK := hide ((K2.trans (B3.mono K2.size)))
      have OO := hide o3
      have hz : w.heap.size + 1 < W1.heap.size := k1.lt
      clear k1 K2 o2 hsz k3 b2 o3 B3 q1 HKP D2 s1 s2 s3 s4 s5 s6
      go_wp2_with fail
      refine bodyPost_ret (v := .agg #[.int .i64 cc, .slice a2 LL.length c2]) (by simp [results, Tryz.results128, go_sem, r2, r3]) rfl ⟨a2, c2, rfl, ?_, ?_⟩
      · exact ownsRow_base (ownsRow_setCell_below (ownsRow_setCell_below (unhide OO) (by show w.heap.size + 1 < W1.heap.size; omega) _) (by show w.heap.size + 1 < W1.heap.size; omega) _) (by show w.heap.size ≤ W1.heap.size; omega)
      · exact ((unhide KK).setCell (by show w.heap.size ≤ w.heap.size + 1; omega) _).setCell (by show w.heap.size ≤ w.heap.size + 1; omega) _

end Go.Proofs.YtjjbkbinjmfnlaaGreatDoor
