/- What is proved here: where the program finds a hash among entries (placeWith, slices.IndexFunc). -/
import Derived.Test.YtldiilmpmcbjkaaGreatDoorJ15
import Derived.Test.YtldiilmpmcbjkaaGreatDoorJ6
import Derived.Test.YtldiilmpmcbjkaaGreatDoorJ14
import Derived.Deep.RegionHeld3
import Derived.Deep.QuietTactic
import Derived.Test.YtldiilmpmcbjkaaGreatDoorChecked
import Derived.Test.YtldiilmpmcbjkaaGreatDoorJ1
import Derived.Test.YtldiilmpmcbjkaaGreatDoorJ2
import Derived.WalkKit
import Derived.WalkLawsBesides
import Derived.WalkSmall
import Derived.WalkSpells
import Derived.RegionTactic
import Derived.BigRegion
import Derived.Deep.CutBlock
import Derived.Deep.DeepCutAuto
import Derived.KernelRfl
import Derived.Deep.RegionWith
namespace Go.Proofs.YtldiilmpmcbjkaaGreatDoor
open Go.RowKit
set_option linter.unusedVariables false
set_option linter.unusedSimpArgs false
set_option maxRecDepth 100000

/-- An entry lies there, and reads so. -/
def EAt (w : World) (b o : Nat) (e : EnS) (x : En) : Prop := (∀ j v, (evals e x).toList[j]? = some v → w.cell? ⟨b, o + j, none⟩ = some v) ∧ enK.Ok w e x

theorem EAt.lt {w : World} {b o : Nat} {e : EnS} {x : En} (h : EAt w b o e x) : b < w.heap.size := lt_of_cell (h.1 0 _ rfl)

theorem EAt.below {w w' : World} {b o : Nat} {e : EnS} {x : En} (h : EAt w b o e x) {B : Nat} (hb : Below B w w') (hB : w.heap.size ≤ B) : EAt w' b o e x :=
  ⟨fun j v hv => (hb.cell (p := ⟨b, o + j, none⟩) (Nat.lt_of_lt_of_le h.lt hB)).trans (h.1 j v hv), enK.below h.2 hb hB⟩

/-- Rows of entries: each one lies at its place. -/
theorem RowOk.ent {w : World} {s : Sl} {xs : List En} (h : RowOk enK w s xs) (hp : 0 < s.n) : ∃ b off, s.a = some ⟨b, off, none⟩ ∧ ∀ (i : Nat) x, xs[i]? = some x → ∃ e, EAt w b (off + i * 14) e x := by
  obtain ⟨b, off, ha, hl, hx⟩ := h.pos hp
  exact ⟨b, off, ha, fun i x hi => match hx i x hi with | ⟨e, c, o⟩ => ⟨e, c, o⟩⟩

theorem RowOk.take {w : World} {s : Sl} {xs : List En} (h : RowOk enK w s xs) {k : Nat} (hk : k ≤ s.n) : RowOk enK w ⟨s.a, k, s.c⟩ (xs.take k) := by
  refine ⟨by have := h.len; simp; omega, by have := h.room; show k ≤ s.c; omega, h.max, h.nil, fun hp => ?_⟩
  have hp' : 0 < k := hp
  obtain ⟨b, off, ha, hl, hx⟩ := h.pos (by omega)
  exact ⟨b, off, ha, hl, fun i x hi => hx i x (by rw [List.getElem?_take] at hi; split at hi; exact hi; cases hi)⟩

set_option maxHeartbeats 2000000 in
theorem pw1_any (e : EnS) (x : En) (t : Sl) (z : List Int) (B : Nat) (w : World) (o : BOk w e.2.1 x.2.1) (ot : BOk w t z) (hB : w.cell? ⟨B, 0, none⟩ = some (.slice t.a t.n t.c)) :
    Calls Tryz.prog 96 #[.agg (evals e x), .pointer (some ⟨B, 0, none⟩)] w fun r w' => r = .returned (.bool (decide (x.2.1 = z))) ∧ Below w.heap.size w w' := by
  have k0 := SBlk.new w (evals e x) 70
  have k2 := below_alloc w (.cells (evals e x) 70)
  obtain ⟨W0, e0⟩ : ∃ W, w.alloc (.cells (evals e x) 70) = W := ⟨_, rfl⟩
  rw [e0] at k0 k2
  have hB0 := (k2.cell (p := ⟨B, 0, none⟩) (lt_of_cell hB)).trans hB
  have D1 := hide (implSame_any e.2.1.a t.a e.2.1.n e.2.1.c t.n t.c x.2.1 z W0 (o.row.below k2 (Nat.le_refl _)) (ot.row.below k2 (Nat.le_refl _)))
  rw [strEq_dec o.row.2.1 ot.row.2.1] at D1
  generalize decide (x.2.1 = z) = c at D1 ⊢
  have HB0 := hide k2
  unfold evals at k0 e0 ⊢
  have x1 := k0.cell 11
  simp only [List.getElem?_cons_zero, List.getElem?_cons_succ] at x1
  have E0 := hide e0
  clear e0 o ot k0 k2 hB
  go_enter Tryz.func96, Tryz.ntmps96
  go_upto_region 1 with fail
  rw [unhide E0]
  clear E0
  go_wp2_with fail
  refine (unhide D1).mono ?_
  rintro r w1 ⟨rfl, rfl⟩
  go_wp2_with fail
  go_ret
  exact ⟨rfl, unhide HB0⟩

set_option maxHeartbeats 2000000 in
theorem indexF_any (s t : Sl) (xs : List En) (z : List Int) (B : Nat) (w : World) (o : RowOk enK w s xs) (ot : BOk w t z) (hB : w.cell? ⟨B, 0, none⟩ = some (.slice t.a t.n t.c)) :
    Calls Tryz.prog 95 #[.slice s.a s.n s.c, .func (.func 96) #[] #[.pointer (some ⟨B, 0, none⟩)]] w fun r w' => r = .returned (.int .i64 (fnd xs z)) ∧ Below w.heap.size w w' := by
  obtain ⟨a, n, c⟩ := s
  have hn : n = xs.length := o.len
  rcases Nat.eq_zero_or_pos n with h0 | hp
  · subst h0
    obtain rfl : xs = [] := List.length_eq_zero_iff.1 hn.symm
    have e1 : fnd [] z = -1 := rfl
    rw [e1]
    clear o ot hB hn
    go_enter Tryz.func95, Tryz.ntmps95
    go_wp2_with fail
    refine wp_loop_rounds 1 ?_
    rw [rounds_succ]
    go_wp2_with fail
    go_ret
    exact ⟨rfl, Below.refl _ _⟩
  · obtain ⟨b, off, rfl, hx⟩ := o.ent hp
    have HX := hide (fun (W : World) (hbl : Below w.heap.size w W) (i : Nat) (x : En) (hi : xs[i]? = some x) => match hx i x hi with | ⟨e, h⟩ => (⟨e, h.below hbl (Nat.le_refl _)⟩ : ∃ e, EAt W b (off + i * 14) e x))
    have HT := hide (fun (W : World) (hbl : Below w.heap.size w W) => bytesK.below ot hbl (Nat.le_refl _))
    have HB := hide (fun (W : World) (hbl : Below w.heap.size w W) => (hbl.cell (p := ⟨B, 0, none⟩) (lt_of_cell hB)).trans hB)
    have HL := hide hn
    have HM : n ≤ maxLen := Nat.le_trans o.room o.max
    unfold maxLen at HM
    clear o ot hB hn hx
    go_enter Tryz.func95, Tryz.ntmps95
    go_wp2_with fail
    go_loopw [8] (fun i wr => ∃ k : Nat, k ≤ n ∧ i = .int .i64 k ∧ (∀ (j : Nat) y, j < k → xs[j]? = some y → y.2.1 ≠ z) ∧ Below w.heap.size w wr) (fun i _ => n - (intOf i).toNat)
    case atStart => exact ⟨0, Nat.zero_le _, rfl, fun j y hj => absurd hj (Nat.not_lt_zero _), Below.refl _ _⟩
    case round =>
      obtain ⟨k, hk, rfl, hall, hbr⟩ := hrel
      have HA := hide hall
      clear hall
      by_cases hlt : k < n
      · have hkx : k < xs.length := by rw [← unhide HL]; exact hlt
        obtain ⟨x, hx⟩ : ∃ x, xs[k]? = some x := ⟨_, List.getElem?_eq_getElem hkx⟩
        obtain ⟨e, he⟩ := (unhide HX) wr hbr k x hx
        have HLD : Hid ((Instr.loadAt 70 (.pointer (some ⟨b, off + k * 14, none⟩))).run Tryz.prog wr = .ok (.agg (evals e x)) wr) :=
          ld_run (evals e x).toList 70 _ he.1 Tryz.underlying70 rfl (by kernel_rfl)
        have HD := hide (pw1_any e x t z B wr he.2.2.1 ((unhide HT) wr hbr) ((unhide HB) wr hbr))
        have HXX := hide hx
        have HBR := hide hbr
        have i1 : (0 : Int) ≤ (k : Int) := by omega
        have i2 : (k : Int) < (n : Int) := by omega
        clear hbr hx he hkx
        generalize evals e x = V at HLD HD
        by_cases hz : x.2.1 = z
        · rw [decide_eq_true hz] at HD
          have HF : Hid (fnd xs z = (k : Int)) := fnd_some xs z k x (unhide HXX) hz (unhide HA)
          clear hz
          go_wp2_with (refine wpList_load_eq rfl 70 _ rfl _ _ rfl (unhide HLD) ?_)
          refine (unhide HD).mono ?_
          rintro r w2 ⟨rfl, b2⟩
          have HB2 := hide ((unhide HBR).trans (b2.mono (unhide HBR).size))
          clear b2
          go_wp2_with fail
          go_ret
          exact ⟨ret_int (unhide HF).symm, unhide HB2⟩
        · rw [decide_eq_false hz] at HD
          have HZ := hide hz
          clear hz
          go_wp2_with (refine wpList_load_eq rfl 70 _ rfl _ _ rfl (unhide HLD) ?_)
          refine (unhide HD).mono ?_
          rintro r w2 ⟨rfl, b2⟩
          have HB2 := hide ((unhide HBR).trans (b2.mono (unhide HBR).size))
          clear b2
          go_wp2_with fail
          go_roundw
          case rel =>
            refine ⟨k + 1, by omega, by go_num, fun j y hj hy => ?_, unhide HB2⟩
            by_cases e : j = k
            · subst e
              obtain rfl : x = y := Option.some.inj ((unhide HXX).symm.trans hy)
              exact unhide HZ
            · exact (unhide HA) j y (by omega) hy
          case measure => simp [intOf]; omega
      · obtain rfl : k = n := by omega
        have HF : Hid (fnd xs z = -1) := fnd_none xs z (fun j y hy => (unhide HA) j y (by have := (List.getElem?_eq_some_iff.1 hy).1; have := unhide HL; omega) hy)
        have HBR := hide hbr
        clear hbr
        go_wp2_with fail
        go_ret
        exact ⟨ret_int (unhide HF).symm, unhide HBR⟩

set_option maxHeartbeats 2000000 in
/-- Where a hash stands. -/
theorem placeWith_any (s t : Sl) (xs : List En) (z : List Int) (w : World) (o : RowOk enK w s xs) (ot : BOk w t z) :
    Calls Tryz.prog 74 #[.slice s.a s.n s.c, .slice t.a t.n t.c] w fun r w' => r = .returned (.int .i64 (fnd xs z)) ∧ Below w.heap.size w w' := by
  have k0 := SBlk.new w #[.slice t.a t.n t.c] 60
  have k2 := below_alloc w (.cells #[.slice t.a t.n t.c] 60)
  obtain ⟨W0, e0⟩ : ∃ W, w.alloc (.cells #[.slice t.a t.n t.c] 60) = W := ⟨_, rfl⟩
  rw [e0] at k0 k2
  have D1 := hide (indexF_any s t xs z w.heap.size W0 (RowOk.below o k2 (Nat.le_refl _)) (bytesK.below ot k2 (Nat.le_refl _)) (k0.cell 0))
  have hr := fnd_range xs z
  have hl : xs.length ≤ maxLen := by have := o.len; have := o.room; have := o.max; omega
  unfold maxLen at hl
  have HB0 := hide k2
  have E0 := hide e0
  clear e0 o ot k0 k2
  generalize fnd xs z = q at D1 hr ⊢
  have hq : IntKind.i64.wrap q = q := by rw [IntKind.wrap_i64]; omega
  go_enter Tryz.func74, Tryz.ntmps74
  go_upto_region 1 with fail
  rw [unhide E0]
  clear E0
  go_wp2_with fail
  refine (unhide D1).mono ?_
  rintro r w1 ⟨rfl, b1⟩
  have B1 := hide ((unhide HB0).trans (b1.mono (unhide HB0).size))
  clear b1
  go_wp2_with fail
  go_ret
  exact ⟨rfl, unhide B1⟩

theorem isEntry_any (s : Sl) (xs : List En) (p : Int) (w : World) (o : RowOk enK w s xs) :
    Calls Tryz.prog 36 #[.slice s.a s.n s.c, .int .i64 p] w fun r w' => r = .returned (.bool (within p 0 ((xs.length : Int) - 1))) ∧ w' = w := by
  have hl := o.len
  have hm : s.n ≤ maxLen := Nat.le_trans o.room o.max
  unfold maxLen at hm
  have D1 := hide (isWithin_any p 0 ((s.n : Int) - 1) w)
  rw [← hl]
  generalize within p 0 ((s.n : Int) - 1) = c at D1 ⊢
  clear o hl
  go_enter Tryz.func36, Tryz.ntmps36
  go_wp2_with fail
  refine (unhide D1).mono ?_
  rintro r w1 ⟨rfl, rfl⟩
  go_wp2_with fail
  go_ret
  exact ⟨rfl, rfl⟩

theorem hasUp_any (s : Sl) (xs : List En) (up : Int) (w : World) (o : RowOk enK w s xs) :
    Calls Tryz.prog 75 #[.slice s.a s.n s.c, .int .i64 up] w fun r w' => r = .returned (.bool (upOk xs.length up)) ∧ w' = w := by
  have hl := o.len
  have D1 := hide (isEntry_any s xs up w o)
  clear o
  unfold upOk
  by_cases h0 : xs.length = 0
  · rw [if_pos h0]
    have h1 : s.n = 0 := by omega
    have h2 : (((s.n : Nat) : Int) == 0) = true := by simp [h1]
    have h3 : decide (up = -1) = (up == -1) := by by_cases h : up = -1 <;> simp [h]
    rw [h3]
    clear h0 hl h1 D1
    go_enter Tryz.func75, Tryz.ntmps75
    go_wp2_with fail
    go_ret
    exact ⟨rfl, rfl⟩
  · rw [if_neg h0]
    have h2 : (((s.n : Nat) : Int) == 0) = false := by simp; omega
    generalize within up 0 ((xs.length : Int) - 1) = c at D1 ⊢
    clear h0 hl
    go_enter Tryz.func75, Tryz.ntmps75
    go_wp2_with fail
    refine (unhide D1).mono ?_
    rintro r w1 ⟨rfl, rfl⟩
    go_wp2_with fail
    go_ret
    exact ⟨rfl, rfl⟩

end Go.Proofs.YtldiilmpmcbjkaaGreatDoor

/- What is proved here: which of two entries is better, and which of all is the best, in the program (hasMore, isLower, hasHashAhead, isAheadBy, isBetterEntry, headAmong). -/
namespace Go.Proofs.YtldiilmpmcbjkaaGreatDoor
open Go.RowKit
set_option linter.unusedVariables false
set_option linter.unusedSimpArgs false
set_option maxRecDepth 100000

end Go.Proofs.YtldiilmpmcbjkaaGreatDoor

/- What is proved here: where the model finds a hash among entries (l10Find). -/
namespace Go.Proofs.YtldiilmpmcbjkaaGreatDoor
open Go.RowKit
set_option linter.unusedVariables false
set_option linter.unusedSimpArgs false
set_option maxRecDepth 100000

set_option maxHeartbeats 2000000 in
theorem l10Find_any (s t : Sl) (xs : List En) (z : List Int) (w : World) (o : RowOk enK w s xs) (ot : BOk w t z) :
    Calls Tryz.prog 67 #[.slice s.a s.n s.c, .slice t.a t.n t.c] w fun r w' => r = .returned (.int .i64 (fnd xs z)) ∧ Below w.heap.size w w' := by
  obtain ⟨a, n, c⟩ := s
  have hn : n = xs.length := o.len
  rcases Nat.eq_zero_or_pos n with h0 | hp
  · subst h0
    obtain rfl : xs = [] := List.length_eq_zero_iff.1 hn.symm
    have e1 : fnd [] z = -1 := rfl
    rw [e1]
    clear o ot hn
    go_enter Tryz.func67, Tryz.ntmps67
    go_wp2_with fail
    refine wp_loop_rounds 1 ?_
    rw [rounds_succ]
    go_wp2_with fail
    go_ret
    exact ⟨rfl, Below.refl _ _⟩
  · obtain ⟨b, off, rfl, hx⟩ := o.ent hp
    have HX := hide (fun (W : World) (hbl : Below w.heap.size w W) (i : Nat) (x : En) (hi : xs[i]? = some x) => match hx i x hi with | ⟨e, h⟩ => (⟨e, h.below hbl (Nat.le_refl _)⟩ : ∃ e, EAt W b (off + i * 14) e x))
    have HT := hide (fun (W : World) (hbl : Below w.heap.size w W) => bytesK.below ot hbl (Nat.le_refl _))
    have HL := hide hn
    have HM : n ≤ maxLen := Nat.le_trans o.room o.max
    unfold maxLen at HM
    clear o ot hn hx
    go_enter Tryz.func67, Tryz.ntmps67
    go_wp2_with fail
    go_loopw [5] (fun i wr => ∃ k : Nat, k ≤ n ∧ i = .int .i64 k ∧ (∀ (j : Nat) y, j < k → xs[j]? = some y → y.2.1 ≠ z) ∧ Below w.heap.size w wr) (fun i _ => n - (intOf i).toNat)
    case atStart => exact ⟨0, Nat.zero_le _, rfl, fun j y hj => absurd hj (Nat.not_lt_zero _), Below.refl _ _⟩
    case round =>
      obtain ⟨k, hk, rfl, hall, hbr⟩ := hrel
      have HA := hide hall
      clear hall
      by_cases hlt : k < n
      · have hkx : k < xs.length := by rw [← unhide HL]; exact hlt
        obtain ⟨x, hx⟩ : ∃ x, xs[k]? = some x := ⟨_, List.getElem?_eq_getElem hkx⟩
        obtain ⟨e, he⟩ := (unhide HX) wr hbr k x hx
        have c11 := he.1 11 _ rfl
        have hz : BOk wr e.2.1 x.2.1 := he.2.2.1
        have HD := hide (fun (W : World) (hb : Below wr.heap.size wr W) => l1Same_any e.2.1.a t.a e.2.1.n e.2.1.c t.n t.c x.2.1 z W (hz.row.below hb (Nat.le_refl _)) ((((unhide HT) wr hbr).row).below hb (Nat.le_refl _)))
        rw [strEq_dec hz.row.2.1 ((unhide HT) wr hbr).row.2.1] at HD
        have HXX := hide hx
        have HBR := hide hbr
        have i1 : (0 : Int) ≤ (k : Int) := by omega
        have i2 : (k : Int) < (n : Int) := by omega
        have hw1 : IntKind.i64.wrap (k : Int) = (k : Int) := by rw [IntKind.wrap_i64]; omega
        clear hbr hx he hkx hz
        by_cases hz : x.2.1 = z
        · rw [decide_eq_true hz] at HD
          have HF : Hid (fnd xs z = (k : Int)) := fnd_some xs z k x (unhide HXX) hz (unhide HA)
          clear hz
          go_wp2_with fail
          refine ((unhide HD) _ (by first | exact Below.refl _ _ | exact (Below.refl _ _).drew)).mono ?_
          rintro r w2 ⟨rfl, rfl⟩
          go_wp2_with fail
          go_ret
          exact ⟨ret_int (unhide HF).symm, by first | exact unhide HBR | exact (unhide HBR).drew⟩
        · rw [decide_eq_false hz] at HD
          have HZ := hide hz
          clear hz
          go_wp2_with fail
          refine ((unhide HD) _ (by first | exact Below.refl _ _ | exact (Below.refl _ _).drew)).mono ?_
          rintro r w2 ⟨rfl, rfl⟩
          go_wp2_with fail
          go_roundw
          case rel =>
            refine ⟨k + 1, by omega, by go_num, fun j y hj hy => ?_, by first | exact unhide HBR | exact (unhide HBR).drew⟩
            by_cases e : j = k
            · subst e
              obtain rfl : x = y := Option.some.inj ((unhide HXX).symm.trans hy)
              exact unhide HZ
            · exact (unhide HA) j y (by omega) hy
          case measure => simp [intOf]; omega
      · obtain rfl : k = n := by omega
        have HF : Hid (fnd xs z = -1) := fnd_none xs z (fun j y hy => (unhide HA) j y (by have := (List.getElem?_eq_some_iff.1 hy).1; have := unhide HL; omega) hy)
        have HBR := hide hbr
        clear hbr
        go_wp2_with fail
        go_ret
        exact ⟨ret_int (unhide HF).symm, unhide HBR⟩

end Go.Proofs.YtldiilmpmcbjkaaGreatDoor

/- What is proved here: which of two entries is better, and which of all is the best, in the model (l11Better, l11Head). -/
namespace Go.Proofs.YtldiilmpmcbjkaaGreatDoor
open Go.RowKit
set_option linter.unusedVariables false
set_option linter.unusedSimpArgs false
set_option maxRecDepth 100000

end Go.Proofs.YtldiilmpmcbjkaaGreatDoor

/- What is proved here: what the program tells of an entry's parent: where it lies (entryAt), whether a header is behind it (isBehind), and its total (totalBehind, hasTotal). -/
namespace Go.Proofs.YtldiilmpmcbjkaaGreatDoor
open Go.RowKit
set_option linter.unusedVariables false
set_option linter.unusedSimpArgs false
set_option maxRecDepth 100000

/-- A pointer at an entry, or at none. -/
def PAt (w : World) (q : Option Addr) (y : Option En) : Prop := (q = none ∧ y = none) ∨ ∃ b o e x, q = some ⟨b, o, none⟩ ∧ y = some x ∧ EAt w b o e x

theorem PAt.below {w w' : World} {q : Option Addr} {y : Option En} (h : PAt w q y) {B : Nat} (hb : Below B w w') (hB : w.heap.size ≤ B) : PAt w' q y := by
  rcases h with h | ⟨b, o, e, x, h1, h2, h3⟩
  · exact .inl h
  · exact .inr ⟨b, o, e, x, h1, h2, h3.below hb hB⟩

set_option maxHeartbeats 1000000 in
theorem entryAt_any (s : Sl) (xs : List En) (up : Int) (w : World) (o : RowOk enK w s xs) (hu : up = -1 ∨ (0 ≤ up ∧ up < xs.length)) :
    Calls Tryz.prog 59 #[.slice s.a s.n s.c, .int .i64 up] w fun r w' => ∃ q, r = .returned (.pointer q) ∧ PAt w q (enAt xs up) ∧ w' = w := by
  by_cases h1 : up = -1
  · subst h1
    have e1 : enAt xs (-1) = none := if_pos rfl
    rw [e1]
    have HP : Hid (PAt w none none) := .inl ⟨rfl, rfl⟩
    clear o hu e1
    go_enter Tryz.func59, Tryz.ntmps59
    go_wp2_with fail
    go_ret
    exact ⟨none, rfl, unhide HP, rfl⟩
  · have hu' : 0 ≤ up ∧ up < xs.length := by omega
    obtain ⟨k, rfl⟩ : ∃ k : Nat, up = (k : Int) := ⟨up.toNat, by omega⟩
    have hk : k < xs.length := by omega
    have hl := o.len
    obtain ⟨x, hx⟩ : ∃ x, xs[k]? = some x := ⟨_, List.getElem?_eq_getElem hk⟩
    have e1 : enAt xs (k : Int) = some x := by unfold enAt; rw [if_neg h1]; simpa using hx
    obtain ⟨b, off, ha, he⟩ := o.ent (by omega)
    obtain ⟨e, hat⟩ := he k x hx
    rw [e1, ha]
    have HP : Hid (PAt w (some ⟨b, off + k * 14, none⟩) (some x)) := .inr ⟨b, _, e, x, rfl, rfl, hat⟩
    have d1 : (((k : Nat) : Int) == -1) = false := by simp
    have i1 : (0 : Int) ≤ (k : Int) := by omega
    have i2 : (k : Int) < (s.n : Int) := by omega
    clear o hu hu' h1 hl hx e1 he hat ha hk
    go_enter Tryz.func59, Tryz.ntmps59
    go_wp2_with fail
    go_ret
    exact ⟨_, rfl, unhide HP, rfl⟩

set_option maxHeartbeats 2000000 in
theorem isBehind_any (q : Option Addr) (y : Option En) (x : HS) (h : Hd) (w : World) (p : PAt w q y) (o : HOk w x h) (hn : ∀ y0, y = some y0 → 0 ≤ y0.1.n1 ∧ y0.1.n1 ≤ 1099511627776) :
    Calls Tryz.prog 76 #[.pointer q, .agg (hvals x h)] w fun r w' => r = .returned (.bool (bhOk y h)) ∧ Below w.heap.size w w' := by
  have k0 := SBlk.new w (hvals x h) 68
  have k2 := below_alloc w (.cells (hvals x h) 68)
  obtain ⟨W0, e0⟩ : ∃ W, w.alloc (.cells (hvals x h) 68) = W := ⟨_, rfl⟩
  rw [e0] at k0 k2
  have HB0 := hide k2
  have E0 := hide e0
  unfold hvals at k0 E0 ⊢
  have x0 := k0.cell 0
  have x1 := k0.cell 1
  simp only [List.getElem?_cons_zero, List.getElem?_cons_succ] at x0 x1
  rcases p with ⟨rfl, rfl⟩ | ⟨b, of', e, y0, rfl, rfl, hat⟩
  · have e1 : bhOk none h = true := rfl
    rw [e1]
    clear e0 k0 k2 o hn
    go_enter Tryz.func76, Tryz.ntmps76
    go_upto_region 1 with fail
    rw [unhide E0]
    clear E0
    go_quiet (fail)
    go_wp2_with fail
    go_ret
    exact ⟨rfl, below_drewN (unhide HB0) _⟩
  · have hat' := hat.below k2 (Nat.le_refl _)
    have y1 := hat'.1 11 _ rfl
    have y2 := hat'.1 1 _ rfl
    have hyr : BOk W0 e.2.1 y0.2.1 := hat'.2.2.1
    have D1 : Hid (∀ n, Calls Tryz.prog 72 #[.slice x.p.a x.p.n x.p.c, .slice e.2.1.a e.2.1.n e.2.1.c] (W0.drewN n) fun r w' => r = .returned (.bool (decide (h.p = y0.2.1))) ∧ w' = W0.drewN n) := fun n => by
      have := implSame_any x.p.a e.2.1.a x.p.n x.p.c e.2.1.n e.2.1.c h.p y0.2.1 (W0.drewN n) ((o.p.below k2 (Nat.le_refl _)).below (below_drewN (Below.refl _ _) n) (Nat.le_refl _)) (hyr.row.below (below_drewN (Below.refl _ _) n) (Nat.le_refl _))
      rwa [strEq_dec o.p.2.1 hyr.row.2.1] at this
    have HE : Hid (bhOk (some y0) h = (decide (h.p = y0.2.1) && decide (h.n1 = y0.1.n1 + 1))) := rfl
    have hnn := hn y0 rfl
    have hw : IntKind.i64.wrap (y0.1.n1 + 1) = y0.1.n1 + 1 := by rw [IntKind.wrap_i64]; omega
    have hbq : decide (h.n1 = y0.1.n1 + 1) = (h.n1 == y0.1.n1 + 1) := by by_cases q : h.n1 = y0.1.n1 + 1 <;> simp [q]
    rw [hbq] at HE
    obtain ⟨nn, enn⟩ : ∃ n, y0.1.n1 + 1 = n := ⟨_, rfl⟩
    rw [enn] at HE hw
    have hw2 := hw
    generalize decide (h.p = y0.2.1) = c at D1 HE
    generalize bhOk (some y0) h = R at HE ⊢
    clear e0 k0 k2 o hn hat hat' hyr hnn hbq
    go_enter Tryz.func76, Tryz.ntmps76
    go_upto_region 1 with fail
    rw [unhide E0]
    clear E0
    cases c
    · go_quiet ((go_at_call 72; exact Calls.quiet_of_same ((unhide D1) _)))
      go_wp2_with fail
      go_ret
      exact ⟨ret_bool (by rw [unhide HE]; rfl), below_drewN (unhide HB0) _⟩
    · go_quiet ((go_at_call 72; exact Calls.quiet_of_same ((unhide D1) _)))
      go_wp2_with fail
      go_ret
      exact ⟨ret_bool (by rw [unhide HE]; simp), below_drewN (unhide HB0) _⟩

end Go.Proofs.YtldiilmpmcbjkaaGreatDoor

/- What is proved here: what the program tells of the total up to a header (totalBehind), and whether an entry has it (slices.Equal, hasTotal). -/
namespace Go.Proofs.YtldiilmpmcbjkaaGreatDoor
open Go.RowKit
set_option linter.unusedVariables false
set_option linter.unusedSimpArgs false
set_option maxRecDepth 100000

theorem cell_keep2 {w : World} {g g' i j k : Nat} {u v x : Value} (h : w.cell? ⟨g, k, none⟩ = some x) (hne : ¬ g = g') : ((w.setCell ⟨g', i, none⟩ u).setCell ⟨g', j, none⟩ v).cell? ⟨g, k, none⟩ = some x := by
  have e : ∀ (W : World) (i : Nat) (u : Value), (W.setCell ⟨g', i, none⟩ u).cell? ⟨g, k, none⟩ = W.cell? ⟨g, k, none⟩ := fun W i u => by
    simp only [World.cell?, heap_setCell_other W ⟨g', i, none⟩ g u hne]
  rw [e, e]
  exact h

theorem wo_good {n : Int} (h : 0 ≤ n) : woCode n = 0 ∧ woList n = wofList n := ⟨if_neg (by omega), if_neg (by omega)⟩

set_option maxHeartbeats 4000000 in
theorem totalBehind_any (q : Option Addr) (y : Option En) (x : HS) (h : Hd) (w : World) (p : PAt w q y) (hn : 0 ≤ h.n3 ∧ h.n3 ≤ 9) (hl : ∀ y0, y = some y0 → y0.2.2.2.length ≤ 1048576) :
    Calls Tryz.prog 97 #[.pointer q, .agg (hvals x h)] w fun r w' => ∃ a c, r = .returned (.agg #[.int .i64 (ttCode y h), .slice a (ttList y h).length c]) ∧
      w'.ownsRow w.heap.size 2 1 (.slice a (ttList y h).length c) (ttList y h).length ((ttList y h).map (Value.int .i64)) ∧ Below w.heap.size w w' := by
  obtain ⟨k0, k1, k2, k3⟩ := two_blk w (hvals x h) #[.int .i64 0, .slice none 0 0] 68 132
  obtain ⟨W0, e0⟩ : ∃ W, (w.alloc (.cells (hvals x h) 68)).alloc (.cells #[.int .i64 0, .slice none 0 0] 132) = W := ⟨_, rfl⟩
  rw [e0] at k0 k1 k2 k3
  have D1 := hide (implWideOf_any h.n3 (by omega) (by omega) W0)
  rw [(wo_good hn.1).1, (wo_good hn.1).2] at D1
  have E0 := hide e0
  unfold hvals at k0 E0 ⊢
  have x3 := k0.cell 3
  simp only [List.getElem?_cons_zero, List.getElem?_cons_succ] at x3
  have HLF : Hid ((wofList h.n3).length = 8) := rfl
  rw [unhide HLF] at D1
  have Q := hide (And.intro k1 (And.intro k2 (And.intro k3 p)))
  clear e0 k0 k1 k2 k3 p
  obtain ⟨cc, ecc⟩ : ∃ c, c = ttCode y h := ⟨_, rfl⟩
  obtain ⟨LL, eLL⟩ : ∃ L, L = ttList y h := ⟨_, rfl⟩
  rw [← ecc, ← eLL]
  have HCC := hide ecc
  have HLL := hide eLL
  clear ecc eLL
  go_enter Tryz.func97, Tryz.ntmps97
  go_upto_region 1 with fail
  rw [unhide E0]
  clear E0
  go_wp2_with fail
  refine (unhide D1).mono ?_
  rintro r w1 ⟨a1, c1, rfl, o1, b1⟩
  obtain ⟨k1, k2, k3, p⟩ := unhide Q
  have k1 := k1.below b1 (by omega)
  have K1 := k2.trans (b1.mono k2.size)
  have kh := SBlk.new w1 #[.int .i64 0, .slice a1 8 c1] 132
  have bh := below_alloc w1 (.cells #[.int .i64 0, .slice a1 8 c1] 132)
  have k1 := k1.below bh k1.lt
  have K2 := K1.trans (bh.mono K1.size)
  have o2 := own_below o1 bh (Nat.le_refl _)
  have hsz : W0.heap.size ≤ w1.heap.size := b1.size
  obtain ⟨W1, e1⟩ : ∃ W, w1.alloc (.cells #[.int .i64 0, .slice a1 8 c1] 132) = W := ⟨_, rfl⟩
  rw [e1] at kh k1 K2 o2
  have u0 := kh.cell 0
  have u1 := kh.cell 1
  have r0 := k1.cell 0
  have r1 := k1.cell 1
  have f0 := k1.free 0
  have f1 := k1.free 1
  simp only [List.getElem?_cons_zero, List.getElem?_cons_succ] at u0 u1 r0 r1
  have E1 := hide e1
  have Q2 := hide (And.intro k1 (And.intro K2 (And.intro o2 (And.intro hsz k3))))
  clear Q x3 D1 k1 k2 k3 K1 kh bh b1 o1 K2 o2 hsz e1
  rcases p with ⟨rfl, rfl⟩ | ⟨b, of', e, y0, rfl, rfl, hat⟩
  · obtain rfl : cc = 0 := unhide HCC
    obtain rfl : LL = wofList h.n3 := unhide HLL
    go_wp2_with (rw [unhide E1])
    obtain ⟨k1, K2, o2, hsz, k3⟩ := unhide Q2
    refine bodyPost_ret (v := .agg #[.int .i64 0, .slice a1 8 c1]) (by simp [results, Tryz.results97, go_sem, r0, r1]) rfl ⟨a1, c1, rfl, ?_, ?_⟩
    · exact ownsRow_base (ownsRow_setCell_below (ownsRow_setCell_below o2 (by show w.heap.size + 1 < _; omega) _) (by show w.heap.size + 1 < _; omega) _) (by omega)
    · exact (K2.setCell (by show w.heap.size ≤ w.heap.size + 1; omega) _).setCell (by show w.heap.size ≤ w.heap.size + 1; omega) _
  · obtain ⟨k1, K2, o2, hsz, k3⟩ := unhide Q2
    have hlt := hat.lt
    replace hat := hat.below K2 (Nat.le_refl _)
    have hit : IOk W1 e.2.2.2 y0.2.2.2 := hat.2.2.2.2
    have y3 := hat.1 13 _ rfl
    have n1 : ¬ b = w.heap.size + 1 := by omega
    have n2 : ¬ w1.heap.size = w.heap.size + 1 := by omega
    have D2 := hide (fun (W : World) (hb : Below W1.heap.size W1 W) => implAW_any e.2.2.2.a a1 e.2.2.2.n 8 e.2.2.2.c c1 y0.2.2.2 (wofList h.n3) W (hit.row.below hb (Nat.le_refl _)) ((IRow.own2 o2).below hb (Nat.le_refl _)) (by have := hit.row.1; have := hl y0 rfl; omega) (by omega))
    have hcc : cc = awCode y0.2.2.2 (wofList h.n3) := unhide HCC
    have hll : LL = awList y0.2.2.2 (wofList h.n3) := unhide HLL
    rw [← hcc, ← hll] at D2
    have HKP := hide (fun (W : World) (hb : Below W1.heap.size W1 W) => (⟨(hb.cell (p := ⟨b, of' + 13, none⟩) (lt_of_cell y3)).trans y3, (hb.cell (p := ⟨w1.heap.size, 1, none⟩) (lt_of_cell u1)).trans u1, (hb.cell (p := ⟨w.heap.size + 1, 0, none⟩) (lt_of_cell r0)).trans r0, (hb.cell (p := ⟨w.heap.size + 1, 1, none⟩) (lt_of_cell r1)).trans r1, (k1.below hb k1.lt).free 0, (k1.below hb k1.lt).free 1⟩ : W.cell? ⟨b, of' + 13, none⟩ = _ ∧ W.cell? ⟨w1.heap.size, 1, none⟩ = _ ∧ W.cell? ⟨w.heap.size + 1, 0, none⟩ = _ ∧ W.cell? ⟨w.heap.size + 1, 1, none⟩ = _ ∧ W.frozen? ⟨w.heap.size + 1, 0, none⟩ = false ∧ W.frozen? ⟨w.heap.size + 1, 1, none⟩ = false))
    clear hcc hll hit hat hl k1 K2 o2 hsz k3 HCC HLL hlt
    go_upto_region 4 with (rw [unhide E1])
    go_region_held3 (fun W => W.cell? ⟨b, of' + 13, none⟩ = some (.slice e.2.2.2.a e.2.2.2.n e.2.2.2.c) ∧ W.cell? ⟨w1.heap.size, 1, none⟩ = some (.slice a1 8 c1))
      (first | go_keep | exact ⟨cell_keep2 s1 n1, cell_keep2 s2 n2⟩) (first | (go_at_call 121; refine ((unhide D2) _ ((Below.refl _ _).drew)).mono ?_; rintro r w2 ⟨a2, c2, rfl, o3, b2⟩; obtain ⟨s1, s2, s3, s4, s5, s6⟩ := (unhide HKP) w2 ((Below.refl _ _).drew.trans b2)))
    all_goals
      obtain ⟨k1, K2, o2, hsz, k3⟩ := unhide Q2
      have B3 := (Below.refl W1.heap.size W1).drew.trans b2
      have q1 := k1.below B3 k1.lt
      have r2 := q1.cell 0
      have r3 := q1.cell 1
      have f2 := q1.free 0
      have f3 := q1.free 1
      simp only [List.getElem?_cons_zero, List.getElem?_cons_succ] at r2 r3
      have KK := hide ((K2.trans (B3.mono K2.size)))
      have OO := hide o3
      have hz : w.heap.size + 1 < W1.heap.size := k1.lt
      clear k1 K2 o2 hsz k3 b2 o3 B3 q1 HKP D2 s1 s2 s3 s4 s5 s6
      go_wp2_with fail
      refine bodyPost_ret (v := .agg #[.int .i64 cc, .slice a2 LL.length c2]) (by simp [results, Tryz.results97, go_sem, r2, r3]) rfl ⟨a2, c2, rfl, ?_, ?_⟩
      · exact ownsRow_base (ownsRow_setCell_below (ownsRow_setCell_below (unhide OO) (by show w.heap.size + 1 < W1.heap.size; omega) _) (by show w.heap.size + 1 < W1.heap.size; omega) _) (by show w.heap.size ≤ W1.heap.size; omega)
      · exact ((unhide KK).setCell (by show w.heap.size ≤ w.heap.size + 1; omega) _).setCell (by show w.heap.size ≤ w.heap.size + 1; omega) _

end Go.Proofs.YtldiilmpmcbjkaaGreatDoor

/- What is proved here: the program's last step of a round, told by lanes. -/
namespace Go.Proofs.YtldiilmpmcbjkaaGreatDoor
open Go.RowKit
set_option linter.unusedVariables false
set_option maxRecDepth 100000
attribute [local go_sem ↓] Go.wp_at_zero Go.wp_at_succ

theorem ones_xor (v : Nat) (h : v < 18446744073709551616) : 18446744073709551615 ^^^ v = 18446744073709551615 - v := by
  apply Nat.eq_of_testBit_eq
  intro i
  have e1 : Nat.testBit 18446744073709551615 i = decide (i < 64) := Nat.testBit_two_pow_sub_one 64 i
  have e2 : (18446744073709551615 - v).testBit i = (decide (i < 64) && !v.testBit i) := by
    rw [show 18446744073709551615 - v = 2 ^ 64 - (v + 1) by omega]
    exact Nat.testBit_two_pow_sub_succ (by omega) i
  rw [Nat.testBit_xor, e1, e2]
  by_cases hi : i < 64
  · simp [hi]
  · have : v.testBit i = false := Nat.testBit_lt_two_pow (Nat.lt_of_lt_of_le h (Nat.pow_le_pow_right (show 0 < 2 by decide) (by omega : 64 ≤ i)))
    simp [hi, this]

theorem chi_u64 (v0 v1 v2 : Nat) (h0 : v0 < 18446744073709551616) (h1 : v1 < 18446744073709551616) (h2 : v2 < 18446744073709551616) :
    bits .xor .u64 (v0 : Int) (bits .and .u64 (bits .xor .u64 (if IntKind.u64.signed = true then -1 else IntKind.u64.max) (v1 : Int)) (v2 : Int)) = ((v0 ^^^ ((18446744073709551615 - v1) &&& v2) : Nat) : Int) := by
  have e : (if IntKind.u64.signed = true then (-1 : Int) else IntKind.u64.max) = ((18446744073709551615 : Nat) : Int) := by decide
  rw [e, u64_xor_nat _ _ (by decide) h1, ones_xor v1 h1, u64_and_nat _ _ (by omega) h2, u64_xor_nat _ _ h0 (and_lt h2)]

set_option maxRecDepth 100000 in
set_option maxHeartbeats 1000000 in
theorem cross_any (B : List Nat) (hB : Lanes B) (w : World) :
    Calls Tryz.prog 142 #[.agg (vals B).toArray] w fun e w' => e = .returned (.agg (vals (chi B)).toArray) ∧ Below w.heap.size w w' := by
  have HBL := hide hB
  have blen := hB.1
  clear hB
  generalize hV : vals B = V
  have HV := hide hV
  clear hV
  go_enter Tryz.func142, Tryz.ntmps142
  go_upto_region 1 with fail
  obtain ⟨w1, hw1⟩ : ∃ w1, w1 = (w.alloc (.cells V.toArray 145)).alloc (.cells (vals (List.replicate 25 0)).toArray 145) := ⟨_, rfl⟩
  have e1 : (w.alloc (.cells V.toArray 145)).alloc (.cells #[.int .u64 0, .int .u64 0, .int .u64 0, .int .u64 0, .int .u64 0, .int .u64 0, .int .u64 0, .int .u64 0, .int .u64 0, .int .u64 0, .int .u64 0, .int .u64 0, .int .u64 0, .int .u64 0, .int .u64 0, .int .u64 0, .int .u64 0, .int .u64 0, .int .u64 0, .int .u64 0, .int .u64 0, .int .u64 0, .int .u64 0, .int .u64 0, .int .u64 0] 145) = w1 := by rw [hw1]; rfl
  rw [e1]
  have b1 : Below w.heap.size w w1 := by rw [hw1]; exact (below_alloc w _).alloc (by simp) _
  have S1 : UBlk w1 w.heap.size B 145 := by
    rw [hw1, ← unhide HV]
    exact (UBlk.new w B _).below (below_alloc _ _) (by simp)
  have s1 : w1.heap.size = w.heap.size + 2 := by rw [hw1]; simp
  have R1 : UBlk w1 (w.heap.size + 1) (List.replicate 25 0) 145 := by
    have := UBlk.new (w.alloc (.cells V.toArray 145)) (List.replicate 25 0) 145
    rw [hw1]
    simpa using this
  have HLD := hide (load25 S1 blen)
  have N1 := UBlk.new w1 (List.replicate 25 0) 145
  obtain ⟨w2, hst, O2, K2, _⟩ := store25 N1 (by simp) blen
  have HST : Hid ((Instr.storeAt 145 (.pointer (some ⟨w1.heap.size, 0, none⟩)) (.agg (vals B).toArray)).run Tryz.prog (w1.alloc (.cells #[.int .u64 0, .int .u64 0, .int .u64 0, .int .u64 0, .int .u64 0, .int .u64 0, .int .u64 0, .int .u64 0, .int .u64 0, .int .u64 0, .int .u64 0, .int .u64 0, .int .u64 0, .int .u64 0, .int .u64 0, .int .u64 0, .int .u64 0, .int .u64 0, .int .u64 0, .int .u64 0, .int .u64 0, .int .u64 0, .int .u64 0, .int .u64 0, .int .u64 0] 145)) = .ok () w2) := hst
  have B2 : Below w1.heap.size w1 w2 := (below_alloc w1 _).trans (K2 _ (Nat.le_refl _))
  have S2 := S1.below B2 S1.lt
  have R2 := R1.below B2 R1.lt
  have G2 := b1.trans (B2.mono b1.size)
  rw [unhide HV] at HLD HST
  have HS2 := hide S2
  have HR2 := hide R2
  have HO2 := hide O2
  have HG2 := hide G2
  rw [s1] at HST HO2
  clear e1 hw1 b1 S1 R1 N1 hst O2 K2 B2 S2 R2 G2
  go_upto_block 0 with (first | refine wpList_load_eq rfl 145 (.tmp 1) rfl _ _ rfl (unhide HLD) ?_ | refine wpList_store_eq rfl 145 (.tmp 3) (.tmp 6) rfl _ _ rfl rfl w2 (unhide HST) ?_)
  clear HST HLD
  go_wp2_with fail
  go_loopw [4] (fun r wr => ∃ row : Nat, row ≤ 25 ∧ row % 5 = 0 ∧ r = .int .i64 row ∧ UBlk wr w.heap.size B 145 ∧ UBlk wr (w.heap.size + 1) (List.replicate 25 0) 145 ∧ UBlk wr (w.heap.size + 2) ((chi B).take row ++ B.drop row) 145 ∧ Below w.heap.size w wr)
    (fun r _ => 25 - (intOf r).toNat)
  case atStart => exact ⟨0, by omega, by omega, rfl, unhide HS2, unhide HR2, by simpa using unhide HO2, unhide HG2⟩
  case round =>
    obtain ⟨row, hr, hr5, rfl, hS, hR, hO, hG⟩ := hrel
    clear HS2 HR2 HO2 HG2
    have HS := hide hS
    have HR := hide hR
    have HO := hide hO
    have HG := hide hG
    clear hS hR hO hG
    by_cases hlt : row < 25
    · have hdk : decide ((row : Int) < 25) = true := decide_eq_true (by omega)
      go_wp2_with fail
      go_loopw [11] (fun c wr => ∃ X : Nat, X ≤ 5 ∧ c = .int .i64 X ∧ UBlk wr w.heap.size B 145 ∧ UBlk wr (w.heap.size + 1) (List.replicate 25 0) 145 ∧ UBlk wr (w.heap.size + 2) ((chi B).take (row + X) ++ B.drop (row + X)) 145 ∧ Below w.heap.size w wr)
        (fun c _ => 5 - (intOf c).toNat)
      case atStart => exact ⟨0, by omega, rfl, unhide HS, unhide HR, unhide HO, unhide HG⟩
      case round =>
        obtain ⟨X, hX, rfl, hS, hR, hO, hG⟩ := hrel
        clear HS HR HO HG
        by_cases hx5 : X < 5
        · have hdx : decide ((X : Int) < 5) = true := decide_eq_true (by omega)
          obtain ⟨k, hk⟩ : ∃ k, k = row + X := ⟨_, rfl⟩
          obtain ⟨x1, hx1⟩ : ∃ x1, x1 = (X + 1) % 5 := ⟨_, rfl⟩
          obtain ⟨x2, hx2⟩ : ∃ x2, x2 = (X + 2) % 5 := ⟨_, rfl⟩
          obtain ⟨p1, hp1⟩ : ∃ p1, p1 = row + x1 := ⟨_, rfl⟩
          obtain ⟨p2, hp2⟩ : ∃ p2, p2 = row + x2 := ⟨_, rfl⟩
          rw [← hk] at hO
          have clen := (chi_lanes (unhide HBL)).1
          have hlen : ((chi B).take k ++ B.drop k).length = 25 := by simp; omega
          have c0 := hO.cell k (by omega)
          rw [fill_later (chi B) B 25 k clen blen (by omega)] at c0
          have f0 := hO.free k
          have c1 := hS.cell p1 (by omega)
          have c2 := hS.cell p2 (by omega)
          have hfill := fill_at (chi B) B 25 k clen blen (by omega)
          have hchi : (chi B).getD k 0 = chiOf B k := getDn_map _ _ _ (by omega)
          have hm : k % 5 = X := by omega
          have hkk : k - X = row := by omega
          have hchi2 : chiOf B k = B.getD k 0 ^^^ ((18446744073709551615 - B.getD p1 0) &&& B.getD p2 0) := by
            unfold chiOf
            rw [hm, hkk, ← hx1, ← hx2, ← hp1, ← hp2]
          rw [hchi, hchi2] at hfill
          have l0 : B.getD k 0 < 18446744073709551616 := getD_lt (unhide HBL).2 (by decide) _
          have l1 : B.getD p1 0 < 18446744073709551616 := getD_lt (unhide HBL).2 (by decide) _
          have l2 : B.getD p2 0 < 18446744073709551616 := getD_lt (unhide HBL).2 (by decide) _
          generalize B.getD k 0 = v0 at c0 hfill l0
          generalize B.getD p1 0 = v1 at c1 hfill l1
          generalize B.getD p2 0 = v2 at c2 hfill l2
          have HO5 := hide (hO.set k (v0 ^^^ ((18446744073709551615 - v1) &&& v2)))
          rw [hfill] at HO5
          have HS5 := hide (hS.other (b' := w.heap.size + 2) k (.int .u64 ((v0 ^^^ ((18446744073709551615 - v1) &&& v2) : Nat) : Int)) (by omega))
          have HR5 := hide (hR.other (b' := w.heap.size + 2) k (.int .u64 ((v0 ^^^ ((18446744073709551615 - v1) &&& v2) : Nat) : Int)) (by omega))
          have HG5 := hide (hG.setCell (p := ⟨w.heap.size + 2, k, none⟩) (by show w.heap.size ≤ w.heap.size + 2; omega) (.int .u64 ((v0 ^^^ ((18446744073709551615 - v1) &&& v2) : Nat) : Int)))
          have e1 : ((X : Int) + 1).tmod 5 = (x1 : Int) := by rw [Int.tmod_eq_emod_of_nonneg (by omega)]; omega
          have e2 : ((X : Int) + 2).tmod 5 = (x2 : Int) := by rw [Int.tmod_eq_emod_of_nonneg (by omega)]; omega
          have ek : (row : Int) + (X : Int) = (k : Int) := by omega
          have ep1 : (row : Int) + (x1 : Int) = (p1 : Int) := by omega
          have ep2 : (row : Int) + (x2 : Int) = (p2 : Int) := by omega
          have q1 : IntKind.i64.wrap ((X : Int) + 1) = (X : Int) + 1 := by rw [IntKind.wrap_i64]; omega
          have q2 : IntKind.i64.wrap ((X : Int) + 2) = (X : Int) + 2 := by rw [IntKind.wrap_i64]; omega
          have i0 : (k : Int) < 25 := by omega
          have i1 : (p1 : Int) < 25 := by omega
          have i2 : (p2 : Int) < 25 := by omega
          have hk' : row + (X + 1) = k + 1 := by omega
          have HK' := hide hk'
          clear hS hR hO hG hfill hchi hchi2 hm hkk hlen clen hk hx1 hx2 hp1 hp2 hk'
          go_wp2_with fail
          have HCV := hide (chi_u64 v0 v1 v2 l0 l1 l2)
          go_region
          rw [unhide HCV]
          go_wp2_with fail
          go_roundw
          case rel => exact ⟨X + 1, by omega, by go_num, unhide HS5, unhide HR5, by rw [unhide HK']; exact unhide HO5, (unhide HG5).drew⟩
          case measure => simp [intOf]; omega
        · obtain rfl : X = 5 := by omega
          have hdx : decide (((5 : Nat) : Int) < 5) = false := rfl
          go_wp2_with fail
          go_roundw
          case rel => exact ⟨row + 5, by omega, by omega, by go_num, hS, hR, hO, hG⟩
          case measure => simp [intOf]; omega
    · obtain rfl : row = 25 := by omega
      have hdk : decide (((25 : Nat) : Int) < 25) = false := rfl
      have clen := (chi_lanes (unhide HBL)).1
      have hO : UBlk wr (w.heap.size + 2) (chi B) 145 := by
        have := unhide HO
        rw [List.take_of_length_le (by omega), List.drop_eq_nil_of_le (by omega), List.append_nil] at this
        exact this
      have HLD := hide (load25 hO clen)
      obtain ⟨w3, hst, R3, K3, _⟩ := store25 (unhide HR) (by simp) clen
      have HST := hide hst
      have HR3 := hide R3
      have HG3 := hide ((unhide HG).trans (K3 w.heap.size (by omega)))
      clear hO hst R3 K3 HS HO HG HR
      go_wp2_with (first | refine wpList_load_eq rfl 145 (.tmp 3) rfl _ _ rfl (unhide HLD) ?_ | refine wpList_store_eq rfl 145 (.tmp 2) (.tmp 38) rfl _ _ rfl rfl w3 (unhide HST) ?_)
      exact bodyPost_ret (results_cell_row rfl _ _ (w.heap.size + 1) 145 _ (0, 0) _ rfl (unhide HR3) Tryz.underlying145 rfl (by rw [List.size_toArray, vals_length, clen]; kernel_rfl)) rfl ⟨rfl, unhide HG3⟩

end Go.Proofs.YtldiilmpmcbjkaaGreatDoor

/- What is proved here: the program's step with the columns' sums, told by lanes. -/
namespace Go.Proofs.YtldiilmpmcbjkaaGreatDoor
open Go.RowKit
set_option linter.unusedVariables false
set_option maxRecDepth 100000
attribute [local go_sem ↓] Go.wp_at_zero Go.wp_at_succ

/-- The state of which the first m lanes, column by column, are done. -/
def thAt (Z : List Nat) (m : Nat) : List Nat := (List.range 25).map fun i => if i % 5 * 5 + i / 5 < m then (theta Z).getD i 0 else Z.getD i 0

theorem thAt_length (Z : List Nat) (m : Nat) : (thAt Z m).length = 25 := by simp [thAt]

theorem thAt_zero (Z : List Nat) (h : Z.length = 25) : thAt Z 0 = Z := by
  unfold thAt
  simp only [Nat.not_lt_zero, if_false]
  exact map_getD Z 25 h

theorem thAt_all (Z : List Nat) : thAt Z 25 = theta Z := by
  have : thAt Z 25 = (List.range 25).map (fun i => (theta Z).getD i 0) := by
    unfold thAt
    apply List.map_congr_left
    intro i hi
    have : i < 25 := by simpa using hi
    rw [if_pos (by omega)]
  rw [this]
  exact map_getD _ 25 (by simp [theta])

theorem thAt_at (Z : List Nat) (x r : Nat) (hx : x < 5) (hr : r < 5) : (thAt Z (x * 5 + r)).getD (5 * r + x) 0 = Z.getD (5 * r + x) 0 := by
  unfold thAt
  rw [getDn_map _ _ _ (by omega), if_neg (by omega)]

theorem thAt_step (Z : List Nat) (x r : Nat) (hx : x < 5) (hr : r < 5) : (thAt Z (x * 5 + r)).set (5 * r + x) (Z.getD (5 * r + x) 0 ^^^ dOf (colAt Z 25) x) = thAt Z (x * 5 + r + 1) := by
  apply List.ext_getElem (by simp [thAt])
  intro i h1 h2
  have hi : i < 25 := by simpa [thAt] using h2
  rw [List.getElem_set]
  have e2 : ∀ h, (thAt Z (x * 5 + r + 1))[i]'h = if i % 5 * 5 + i / 5 < x * 5 + r + 1 then (theta Z).getD i 0 else Z.getD i 0 := by intro h; simp [thAt]
  have e1 : ∀ h, (thAt Z (x * 5 + r))[i]'h = if i % 5 * 5 + i / 5 < x * 5 + r then (theta Z).getD i 0 else Z.getD i 0 := by intro h; simp [thAt]
  rw [e2]
  by_cases hij : 5 * r + x = i
  · subst hij
    rw [if_pos rfl, if_pos (by omega)]
    unfold theta
    rw [getDn_map _ _ _ hi, show (5 * r + x) % 5 = x by omega]
  · rw [if_neg hij, e1]
    by_cases hc : i % 5 * 5 + i / 5 < x * 5 + r
    · rw [if_pos hc, if_pos (by omega)]
    · rw [if_neg hc, if_neg (by omega)]

theorem index25 (Z : List Nat) (hz : Z.length = 25) (k : Nat) (hk : k < 25) (w : World) : (Instr.index 145 (.agg (vals Z).toArray) (.int .i64 (k : Int))).run Tryz.prog w = .ok (.int .u64 (Z.getD k 0 : Int)) w := by
  have hn : (0 : Int) ≤ (k : Int) ∧ (k : Int) < ((25 : Nat) : Int) := by omega
  have hs : (sizeOf 143).run Tryz.prog w = .ok 1 w := by kernel_rfl
  have hu : Tryz.prog.underlying 143 = some (.int .u64) := by kernel_rfl
  have hv : (vals Z)[k]? = some (.int .u64 (Z.getD k 0 : Int)) := by
    rw [getDn_at Z k (by omega)]
    simp [vals, hz, hk]
  simp [Instr.index, run_underlying Tryz.underlying145, asIntOf, hn, go_sem, hs, hv]
  intro h
  omega

set_option maxRecDepth 100000 in
set_option maxHeartbeats 1000000 in
theorem theta_any (Z : List Nat) (hZ : Lanes Z) (w : World) :
    Calls Tryz.prog 144 #[.agg (vals Z).toArray] w fun e w' => e = .returned (.agg (vals (theta Z)).toArray) ∧ Below w.heap.size w w' := by
  have HZL := hide hZ
  have zlen := hZ.1
  clear hZ
  generalize hM : theta Z = M
  have HM := hide hM
  clear hM
  generalize hV : vals Z = V
  have HV := hide hV
  clear hV
  go_enter Tryz.func144, Tryz.ntmps144
  go_upto_region 2 with fail
  obtain ⟨w1, hw1⟩ : ∃ w1, w1 = ((w.alloc (.cells V.toArray 145)).alloc (.cells (vals (List.replicate 25 0)).toArray 145)).alloc (.cells (vals (List.replicate 5 0)).toArray 183) := ⟨_, rfl⟩
  have e1 : ((w.alloc (.cells V.toArray 145)).alloc (.cells #[.int .u64 0, .int .u64 0, .int .u64 0, .int .u64 0, .int .u64 0, .int .u64 0, .int .u64 0, .int .u64 0, .int .u64 0, .int .u64 0, .int .u64 0, .int .u64 0, .int .u64 0, .int .u64 0, .int .u64 0, .int .u64 0, .int .u64 0, .int .u64 0, .int .u64 0, .int .u64 0, .int .u64 0, .int .u64 0, .int .u64 0, .int .u64 0, .int .u64 0] 145)).alloc (.cells #[.int .u64 0, .int .u64 0, .int .u64 0, .int .u64 0, .int .u64 0] 183) = w1 := by rw [hw1]; rfl
  rw [e1]
  have G1 : Below w.heap.size w w1 := by rw [hw1]; exact ((below_alloc w _).alloc (by simp) _).alloc (by simp; omega) _
  have S1 : UBlk w1 w.heap.size Z 145 := by
    rw [hw1, ← unhide HV]
    exact ((UBlk.new w Z _).next _).next _
  have R1 : UBlk w1 (w.heap.size + 1) (List.replicate 25 0) 145 := by
    have := (UBlk.new (w.alloc (.cells V.toArray 145)) (List.replicate 25 0) 145).next (.cells (vals (List.replicate 5 0)).toArray 183)
    rw [hw1]
    simpa using this
  have C1 : UBlk w1 (w.heap.size + 1 + 1) (colAt Z 0) 183 := by
    have := UBlk.new ((w.alloc (.cells V.toArray 145)).alloc (.cells (vals (List.replicate 25 0)).toArray 145)) (List.replicate 5 0) 183
    have hs : ((w.alloc (.cells V.toArray 145)).alloc (.cells (vals (List.replicate 25 0)).toArray 145)).heap.size = w.heap.size + 1 + 1 := by simp
    rw [hs, ← hw1] at this
    exact this
  obtain ⟨q, hq⟩ : ∃ q, q = w.heap.size + 1 + 1 := ⟨_, rfl⟩
  rw [← hq] at C1
  try rw [← hq]
  have D1 : w.heap.size + 1 < q := by omega
  have HQ := hide hq
  have HLD := hide (load25 S1 zlen)
  rw [unhide HV] at HLD
  have HS := hide S1
  have HR := hide R1
  have HC := hide C1
  have HG := hide G1
  clear hq e1 hw1 S1 R1 C1 G1
  go_upto_block 0 with (refine wpList_load_eq rfl 145 _ rfl _ _ rfl (unhide HLD) ?_)
  go_cut [10] (fun c wr => UBlk wr w.heap.size Z 145 ∧ UBlk wr (w.heap.size + 1) (List.replicate 25 0) 145 ∧ UBlk wr q (colAt Z 25) 183 ∧ Below w.heap.size w wr)
  case first =>
    go_wp2_with fail
    go_loopw [10] (fun c wr => ∃ k : Nat, k ≤ 25 ∧ c = .int .i64 k ∧ UBlk wr w.heap.size Z 145 ∧ UBlk wr (w.heap.size + 1) (List.replicate 25 0) 145 ∧ UBlk wr q (colAt Z k) 183 ∧ Below w.heap.size w wr)
      (fun c _ => 25 - (intOf c).toNat)
    case atStart => exact ⟨0, by omega, rfl, unhide HS, unhide HR, unhide HC, unhide HG⟩
    case round =>
      obtain ⟨k, hk, rfl, hS, hR, hC, hG⟩ := hrel
      clear HS HR HC HG
      by_cases hlt : k < 25
      · have hdk : decide ((k : Int) < 25) = true := decide_eq_true (by omega)
        obtain ⟨j, hj⟩ : ∃ j, j = k % 5 := ⟨_, rfl⟩
        have hcl := colAt_props Z (unhide HZL).2 k
        have c0 := hC.cell j (by omega)
        have f0 := hC.free j
        have hvk : V.toArray[k]? = some (.int .u64 (Z.getD k 0 : Int)) := by
          rw [← unhide HV, getDn_at Z k (by omega)]
          simp [vals, zlen, hlt]
        have hidx : ∀ W, (Instr.index 145 (.agg V.toArray) (.int .i64 (k : Int))).run Tryz.prog W = .ok (.int .u64 (Z.getD k 0 : Int)) W := by rw [← unhide HV]; exact index25 Z zlen k hlt
        have hvk2 : V[k]? = some (.int .u64 (Z.getD k 0 : Int)) := by simpa using hvk
        have hVl : V.length = 25 := by rw [← unhide HV, vals_length, zlen]
        have hcg : (colAt Z k).getD j 0 < 18446744073709551616 := getD_lt hcl.2 (by decide) _
        have hzg : Z.getD k 0 < 18446744073709551616 := getD_lt (unhide HZL).2 (by decide) _
        have hsucc := colAt_succ Z k j hj
        generalize (colAt Z k).getD j 0 = x at c0 hcg hsucc
        generalize Z.getD k 0 = y at hvk hvk2 hidx hzg hsucc
        have hx := u64_xor_nat x y hcg hzg
        have HC5 := hide (hC.set j (x ^^^ y))
        rw [← hsucc] at HC5
        have HS5 := hide (hS.other (b' := q) j (.int .u64 ((x ^^^ y : Nat) : Int)) (by omega))
        have HR5 := hide (hR.other (b' := q) j (.int .u64 ((x ^^^ y : Nat) : Int)) (by omega))
        have HG5 := hide (hG.setCell (p := ⟨q, j, none⟩) (by show w.heap.size ≤ q; omega) (.int .u64 ((x ^^^ y : Nat) : Int)))
        have e5 : (k : Int).tmod 5 = (j : Int) := by rw [Int.tmod_eq_emod_of_nonneg (by omega)]; omega
        have e5' : (k : Int) % 5 = (j : Int) := by omega
        have i0 : (j : Int) < 5 := by omega
        have i1 : (k : Int) < 25 := by omega
        clear hS hR hC hG hsucc hj hcl
        go_wp2_with fail
        go_roundw
        case rel => exact ⟨k + 1, by omega, by go_num, unhide HS5, unhide HR5, unhide HC5, unhide HG5⟩
        case measure => simp [intOf]; omega
      · obtain rfl : k = 25 := by omega
        have hdk : decide (((25 : Nat) : Int) < 25) = false := rfl
        go_wp2_with fail
        go_meet
        exact ⟨hS, hR, hC, hG⟩
  case rest =>
    clear HS HR HC HG HLD
    obtain ⟨hS, hR, hC, hG⟩ := hcut
    have hS0 : UBlk wc w.heap.size (thAt Z (0 * 5)) 145 := by rw [Nat.zero_mul, thAt_zero Z zlen]; exact hS
    have hcp := colAt_props Z (unhide HZL).2 25
    generalize hcc : colAt Z 25 = C at hC hcp
    have HCC := hide hcc
    have HCP := hide hcp
    have clen := hcp.1
    have HS := hide hS0
    have HR := hide hR
    have HC := hide hC
    have HG := hide hG
    clear hS hR hC hG hS0 hcc hcp
    go_wp2_with fail
    go_loopw [22] (fun c wr => ∃ X : Nat, X ≤ 5 ∧ c = .int .i64 X ∧ UBlk wr w.heap.size (thAt Z (X * 5)) 145 ∧ UBlk wr (w.heap.size + 1) (List.replicate 25 0) 145 ∧ UBlk wr q C 183 ∧ Below w.heap.size w wr)
      (fun c _ => 5 - (intOf c).toNat)
    case atStart => exact ⟨0, by omega, rfl, unhide HS, unhide HR, unhide HC, unhide HG⟩
    case round =>
      obtain ⟨X, hX, rfl, hS, hR, hC, hG⟩ := hrel
      clear HS HR HC HG
      by_cases hlt : X < 5
      · have hdk : decide ((X : Int) < 5) = true := decide_eq_true (by omega)
        obtain ⟨a4, h4⟩ : ∃ a4, a4 = (X + 4) % 5 := ⟨_, rfl⟩
        obtain ⟨a1, h1⟩ : ∃ a1, a1 = (X + 1) % 5 := ⟨_, rfl⟩
        have hd : dOf C X = C.getD a4 0 ^^^ rotL (C.getD a1 0) 1 := by rw [h4, h1]; rfl
        have c4 := hC.cell a4 (by omega)
        have c1 := hC.cell a1 (by omega)
        have l4 : C.getD a4 0 < 18446744073709551616 := getD_lt (unhide HCP).2 (by decide) _
        have l1 : C.getD a1 0 < 18446744073709551616 := getD_lt (unhide HCP).2 (by decide) _
        generalize C.getD a4 0 = v4 at c4 l4 hd
        generalize C.getD a1 0 = v1 at c1 l1 hd
        have HRT := hide (rotl_any v1 1 l1 (by omega))
        have hx := u64_xor_nat v4 (rotL v1 1) l4 (rot_lt _ 1 l1 (by omega))
        rw [← hd] at hx
        have hdl := dOf_lt (unhide HCP).2 X
        have e4 : ((X : Int) + 4).tmod 5 = (a4 : Int) := by rw [Int.tmod_eq_emod_of_nonneg (by omega)]; omega
        have e1 : ((X : Int) + 1).tmod 5 = (a1 : Int) := by rw [Int.tmod_eq_emod_of_nonneg (by omega)]; omega
        have e4' : ((X : Int) + 4) % 5 = (a4 : Int) := by omega
        have e1' : ((X : Int) + 1) % 5 = (a1 : Int) := by omega
        have q4 : IntKind.i64.wrap ((X : Int) + 4) = (X : Int) + 4 := by rw [IntKind.wrap_i64]; omega
        have q1 : IntKind.i64.wrap ((X : Int) + 1) = (X : Int) + 1 := by rw [IntKind.wrap_i64]; omega
        have i4 : (a4 : Int) < 5 := by omega
        have i1 : (a1 : Int) < 5 := by omega
        have HS := hide hS
        have HR := hide hR
        have HC := hide hC
        have HG := hide hG
        have HHX := hide hx
        clear hS hR hC hG h4 h1 hd hx
        go_wp2_with fail
        go_cut [7] (fun v wx => v = .int .u64 (dOf C X : Int) ∧ wx = wr.drew)
        case first =>
          go_region_with (go_at_call 150; refine ((unhide HRT) _).mono ?_; rintro e w' ⟨rfl, rfl⟩)
          all_goals
            (try rw [unhide HHX])
            go_wp2_with fail
            go_meet
            exact ⟨rfl, rfl⟩
        case rest =>
          obtain ⟨rfl, rfl⟩ := hcut
          generalize hD : dOf C X = D at hdl
          have HD := hide hD
          clear hD c4 c1 q4 q1 e4 e1 e4' e1' i4 i1 HRT HHX
          have HS' : Hid (UBlk wr.drew w.heap.size (thAt Z (X * 5 + 0)) 145) := unhide HS
          have HR' : Hid (UBlk wr.drew (w.heap.size + 1) (List.replicate 25 0) 145) := unhide HR
          have HC' : Hid (UBlk wr.drew q C 183) := unhide HC
          have HG' := hide (unhide HG).drew
          clear HS HR HC HG
          go_wp2_with fail
          go_loopw [8] (fun c wr => ∃ r : Nat, r ≤ 5 ∧ c = .int .i64 ((5 * r : Nat) : Int) ∧ UBlk wr w.heap.size (thAt Z (X * 5 + r)) 145 ∧ UBlk wr (w.heap.size + 1) (List.replicate 25 0) 145 ∧ UBlk wr q C 183 ∧ Below w.heap.size w wr)
            (fun c _ => 25 - (intOf c).toNat)
          case atStart => exact ⟨0, by omega, rfl, unhide HS', unhide HR', unhide HC', unhide HG'⟩
          case round =>
            obtain ⟨r, hr, rfl, hS, hR, hC, hG⟩ := hrel
            clear HS' HR' HC' HG'
            obtain ⟨row, hrow⟩ : ∃ row, row = 5 * r := ⟨_, rfl⟩
            rw [← hrow]
            by_cases hr5 : r < 5
            · have hdr : decide ((row : Int) < 25) = true := decide_eq_true (by omega)
              obtain ⟨k, hk⟩ : ∃ k, k = 5 * r + X := ⟨_, rfl⟩
              have c0 := hS.cell k (by rw [thAt_length]; omega)
              have f0 := hS.free k
              have hold := thAt_at Z X r hlt hr5
              have hstep := thAt_step Z X r hlt hr5
              rw [unhide HCC, unhide HD] at hstep
              rw [← hk] at hold hstep
              rw [hold] at c0
              have hzg : Z.getD k 0 < 18446744073709551616 := getD_lt (unhide HZL).2 (by decide) _
              generalize Z.getD k 0 = y at c0 hstep hzg
              have hx := u64_xor_nat y D hzg hdl
              have HS5 := hide (hS.set k (y ^^^ D))
              rw [hstep] at HS5
              have HR5 := hide (hR.other (b' := w.heap.size) k (.int .u64 ((y ^^^ D : Nat) : Int)) (by omega))
              have HC5 := hide (hC.other (b' := w.heap.size) k (.int .u64 ((y ^^^ D : Nat) : Int)) (by omega))
              have HG5 := hide (hG.setCell (p := ⟨w.heap.size, k, none⟩) (Nat.le_refl _) (.int .u64 ((y ^^^ D : Nat) : Int)))
              have ek : (row : Int) + (X : Int) = (k : Int) := by omega
              have i0 : (k : Int) < 25 := by omega
              have hr25 : (row : Int) < 25 := by omega
              have hnx : (row : Int) + 5 = ((5 * (r + 1) : Nat) : Int) := by omega
              have HNX := hide hnx
              have HRW := hide hrow
              clear hS hR hC hG hstep hold hk hnx hrow
              go_wp2_with fail
              go_roundw
              case rel => exact ⟨r + 1, by omega, by rw [← unhide HNX], unhide HS5, unhide HR5, unhide HC5, unhide HG5⟩
              case measure => simp [intOf]; omega
            · obtain rfl : r = 5 := by omega
              obtain rfl : row = 25 := hrow
              have hdr : decide (((25 : Nat) : Int) < 25) = false := rfl
              have hS' : UBlk wr w.heap.size (thAt Z ((X + 1) * 5)) 145 := by rw [Nat.add_mul, Nat.one_mul]; exact hS
              go_wp2_with fail
              go_roundw
              case rel => exact ⟨X + 1, by omega, by go_num, hS', hR, hC, hG⟩
              case measure => simp [intOf]; omega
      · obtain rfl : X = 5 := by omega
        have hdk : decide (((5 : Nat) : Int) < 5) = false := rfl
        have hS' : UBlk wr w.heap.size M 145 := by
          have := hS
          rw [show 5 * 5 = 25 from rfl, thAt_all, unhide HM] at this
          exact this
        have mlen : M.length = 25 := by rw [← unhide HM]; exact (theta_lanes (unhide HZL)).1
        have HLD := hide (load25 hS' mlen)
        obtain ⟨w3, hst, R3, K3, _⟩ := store25 hR (by simp) mlen
        have HST := hide hst
        have HR3 := hide R3
        have HG3 := hide (hG.trans (K3 w.heap.size (by omega)))
        clear hS hR hC hG hS' hst R3 K3
        go_wp2_with (first | refine wpList_load_eq rfl 145 _ rfl _ _ rfl (unhide HLD) ?_ | refine wpList_store_eq rfl 145 _ _ rfl _ _ rfl rfl w3 (unhide HST) ?_)
        exact bodyPost_ret (results_cell_row rfl _ _ (w.heap.size + 1) 145 _ (0, 0) _ rfl (unhide HR3) Tryz.underlying145 rfl (by rw [List.size_toArray, vals_length, mlen]; kernel_rfl)) rfl ⟨rfl, unhide HG3⟩

end Go.Proofs.YtldiilmpmcbjkaaGreatDoor
