/- What is proved here: the contracts of the laws' helper functions that count headers, entries and stores, with the sum of what was counted (szHeader, szEntry, szEntryS, szStore), and that markStore writes nothing else. -/
import Derived.Test.YtioifgbnninmjaaGreatDoorJ25
import Derived.Test.YtioifgbnninmjaaGreatDoorJ29
import Derived.Test.YtioifgbnninmjaaGreatDoorJ5
import Derived.Deep.DeepCutAuto
import Derived.Test.YtioifgbnninmjaaGreatDoorChecked
import Derived.Test.YtioifgbnninmjaaGreatDoorJ1
import Derived.Test.YtioifgbnninmjaaGreatDoorJ8
import Derived.WalkKit
import Derived.WalkLawsBesides
import Derived.WalkSmall
import Derived.KernelRfl
import Derived.WalkSpells
namespace Go.Proofs.YtioifgbnninmjaaGreatDoor
open Go.RowKit
set_option linter.unusedVariables false
set_option linter.unusedSimpArgs false
set_option maxRecDepth 100000

set_option maxHeartbeats 4000000 in
theorem szHeader_sum (x : HS) (h : Hd) (L0 : Int) (w : World) (o : HOk w x h) (m : HMax x maxLen) (h0 : 0 ≤ L0) (h1 : L0 ≤ 1048576) :
    Calls Tryz.prog 12 #[.agg (hvals x h), .int .i64 L0] w fun e w' => (∃ r : Int, e = .returned (.int .i64 r) ∧ -1 ≤ r ∧ r ≤ L0 ∧ (0 ≤ r → HSm h ∧ r + (hTot h : Int) ≤ L0)) ∧ Below w.heap.size w w' := by
  have HB := hide (below_alloc w (.cells (hvals x h) 39))
  have HO := hide (fun (W : World) (hb : Below w.heap.size w W) => o.below hb (Nat.le_refl _))
  have HN := hide o
  unfold hvals at HB ⊢
  clear o
  go_enter Tryz.func12, Tryz.ntmps12
  obtain ⟨L1, e1⟩ : ∃ L : Int, L = if L0 - x.p.n < 0 then -1 else L0 - x.p.n := ⟨_, rfl⟩
  have C1 := hide (fun (W : World) (hb : Below w.heap.size w W) => szB1_to x.p.a x.p.n x.p.c L0 L1 W (by omega) (by omega) m.p e1)
  have E1 := hide e1
  clear e1
  go_wp2_with fail
  refine ((unhide C1) _ (unhide HB)).mono ?_
  rintro e w' ⟨rfl, rfl⟩
  clear C1
  by_cases t1 : L1 < 0
  · have d : decide (L1 < 0) = true := decide_eq_true t1
    go_wp2_with fail
    go_ret
    exact ⟨⟨-1, rfl, by omega, by omega, fun hh => by omega⟩, unhide HB⟩
  have d1 : decide (L1 < 0) = false := decide_eq_false t1
  have G1 : Hid (L1 = L0 - x.p.n) := by
    show _ = _
    have := unhide E1
    split at this <;> omega
  have f1 : (x.p.n : Int) ≤ 1048576 ∧ L1 ≤ L0 := by
    have := unhide E1
    split at this <;> omega
  clear E1
  obtain ⟨L2, e2⟩ : ∃ L : Int, L = if L1 - x.t.n < 0 then -1 else L1 - x.t.n := ⟨_, rfl⟩
  have C2 := hide (fun (W : World) (hb : Below w.heap.size w W) => szB1_to x.t.a x.t.n x.t.c L1 L2 W (by omega) (by omega) m.t e2)
  have E2 := hide e2
  clear e2
  go_wp2_with fail
  refine ((unhide C2) _ (unhide HB)).mono ?_
  rintro e w' ⟨rfl, rfl⟩
  clear C2
  by_cases t2 : L2 < 0
  · have d : decide (L2 < 0) = true := decide_eq_true t2
    go_wp2_with fail
    go_ret
    exact ⟨⟨-1, rfl, by omega, by omega, fun hh => by omega⟩, unhide HB⟩
  have d2 : decide (L2 < 0) = false := decide_eq_false t2
  have G2 : Hid (L2 = L1 - x.t.n) := by
    show _ = _
    have := unhide E2
    split at this <;> omega
  have f2 : (x.t.n : Int) ≤ 1048576 ∧ L2 ≤ L1 := by
    have := unhide E2
    split at this <;> omega
  clear E2
  obtain ⟨L3, e3⟩ : ∃ L : Int, L = szBss L2 h.s := ⟨_, rfl⟩
  have C3 := hide (fun (W : World) (hb : Below w.heap.size w W) => szBss_to x.s.a x.s.n x.s.c h.s L2 L3 W ((unhide HO) W hb).s m.s (by omega) (by omega) e3)
  have E3 := hide e3
  clear e3
  go_wp2_with fail
  refine ((unhide C3) _ (unhide HB)).mono ?_
  rintro e w' ⟨rfl, rfl⟩
  clear C3
  by_cases t3 : L3 < 0
  · have d : decide (L3 < 0) = true := decide_eq_true t3
    go_wp2_with fail
    go_ret
    exact ⟨⟨-1, rfl, by omega, by omega, fun hh => by omega⟩, unhide HB⟩
  have d3 : decide (L3 < 0) = false := decide_eq_false t3
  have f3 : L3 ≤ L2 := by rw [unhide E3]; exact szBss_le _ (by omega)
  have F3 := hide (szBss_ok (left := L2) (zss := h.s) (by rw [← unhide E3]; omega))
  have G3 : Hid (L3 = L2 - h.s.length - bsum h.s) := by show _ = _; rw [unhide E3]; exact szBss_eq (by rw [← unhide E3]; omega)
  clear E3
  obtain ⟨L4, e4⟩ : ∃ L : Int, L = if L3 - x.r.n < 0 then -1 else L3 - x.r.n := ⟨_, rfl⟩
  have C4 := hide (fun (W : World) (hb : Below w.heap.size w W) => szB1_to x.r.a x.r.n x.r.c L3 L4 W (by omega) (by omega) m.r e4)
  have E4 := hide e4
  clear e4
  go_wp2_with fail
  refine ((unhide C4) _ (unhide HB)).mono ?_
  rintro e w' ⟨rfl, rfl⟩
  clear C4
  by_cases t4 : L4 < 0
  · have d : decide (L4 < 0) = true := decide_eq_true t4
    go_wp2_with fail
    go_ret
    exact ⟨⟨-1, rfl, by omega, by omega, fun hh => by omega⟩, unhide HB⟩
  have d4 : decide (L4 < 0) = false := decide_eq_false t4
  have G4 : Hid (L4 = L3 - x.r.n) := by
    show _ = _
    have := unhide E4
    split at this <;> omega
  have f4 : (x.r.n : Int) ≤ 1048576 ∧ L4 ≤ L3 := by
    have := unhide E4
    split at this <;> omega
  clear E4
  obtain ⟨L5, e5⟩ : ∃ L : Int, L = if L4 - x.g.n < 0 then -1 else L4 - x.g.n := ⟨_, rfl⟩
  have C5 := hide (fun (W : World) (hb : Below w.heap.size w W) => szB1_to x.g.a x.g.n x.g.c L4 L5 W (by omega) (by omega) m.g e5)
  have E5 := hide e5
  clear e5
  go_wp2_with fail
  refine ((unhide C5) _ (unhide HB)).mono ?_
  rintro e w' ⟨rfl, rfl⟩
  clear C5
  by_cases t5 : L5 < 0
  · have d : decide (L5 < 0) = true := decide_eq_true t5
    go_wp2_with fail
    go_ret
    exact ⟨⟨-1, rfl, by omega, by omega, fun hh => by omega⟩, unhide HB⟩
  have d5 : decide (L5 < 0) = false := decide_eq_false t5
  have G5 : Hid (L5 = L4 - x.g.n) := by
    show _ = _
    have := unhide E5
    split at this <;> omega
  have f5 : (x.g.n : Int) ≤ 1048576 ∧ L5 ≤ L4 := by
    have := unhide E5
    split at this <;> omega
  clear E5
  obtain ⟨L6, e6⟩ : ∃ L : Int, L = if L5 - x.e.n < 0 then -1 else L5 - x.e.n := ⟨_, rfl⟩
  have C6 := hide (fun (W : World) (hb : Below w.heap.size w W) => szB1_to x.e.a x.e.n x.e.c L5 L6 W (by omega) (by omega) m.e e6)
  have E6 := hide e6
  clear e6
  go_wp2_with fail
  refine ((unhide C6) _ (unhide HB)).mono ?_
  rintro e w' ⟨rfl, rfl⟩
  clear C6
  by_cases t6 : L6 < 0
  · have d : decide (L6 < 0) = true := decide_eq_true t6
    go_wp2_with fail
    go_ret
    exact ⟨⟨-1, rfl, by omega, by omega, fun hh => by omega⟩, unhide HB⟩
  have d6 : decide (L6 < 0) = false := decide_eq_false t6
  have G6 : Hid (L6 = L5 - x.e.n) := by
    show _ = _
    have := unhide E6
    split at this <;> omega
  have f6 : (x.e.n : Int) ≤ 1048576 ∧ L6 ≤ L5 := by
    have := unhide E6
    split at this <;> omega
  clear E6
  obtain ⟨L7, e7⟩ : ∃ L : Int, L = szBss L6 h.k := ⟨_, rfl⟩
  have C7 := hide (fun (W : World) (hb : Below w.heap.size w W) => szBss_to x.k.a x.k.n x.k.c h.k L6 L7 W ((unhide HO) W hb).k m.k (by omega) (by omega) e7)
  have E7 := hide e7
  clear e7
  go_wp2_with fail
  refine ((unhide C7) _ (unhide HB)).mono ?_
  rintro e w' ⟨rfl, rfl⟩
  clear C7
  by_cases t7 : L7 < 0
  · have d : decide (L7 < 0) = true := decide_eq_true t7
    go_wp2_with fail
    go_ret
    exact ⟨⟨-1, rfl, by omega, by omega, fun hh => by omega⟩, unhide HB⟩
  have d7 : decide (L7 < 0) = false := decide_eq_false t7
  have f7 : L7 ≤ L6 := by rw [unhide E7]; exact szBss_le _ (by omega)
  have F7 := hide (szBss_ok (left := L6) (zss := h.k) (by rw [← unhide E7]; omega))
  have G7 : Hid (L7 = L6 - h.k.length - bsum h.k) := by show _ = _; rw [unhide E7]; exact szBss_eq (by rw [← unhide E7]; omega)
  clear E7
  go_wp2_with fail
  go_ret
  refine ⟨⟨L7, rfl, by omega, by omega, fun _ => ?_⟩, unhide HB⟩
  have o := unhide HN
  obtain ⟨u3, v3⟩ := unhide F3
  obtain ⟨u7, v7⟩ := unhide F7
  refine ⟨?_, by have q1 := o.p.1; have e1 := unhide G1; have e2 := unhide G2; have e3 := unhide G3; have e4 := unhide G4; have e5 := unhide G5; have e6 := unhide G6; have e7 := unhide G7; have q2 := o.t.1; have q3 := o.r.1; have q4 := o.g.1; have q5 := o.e.1; unfold hTot; omega⟩
  exact ⟨by rw [o.p.1]; omega, by rw [o.t.1]; omega, by omega, fun z hz => by have := v3 z hz; omega, by rw [o.r.1]; omega, by rw [o.g.1]; omega, by rw [o.e.1]; omega, by omega, fun z hz => by have := v7 z hz; omega⟩

set_option maxHeartbeats 4000000 in
theorem szEntry_sum (e : EnS) (x : En) (L0 : Int) (w : World) (o : enK.Ok w e x) (h0 : 0 ≤ L0) (h1 : L0 ≤ 1048576) :
    Calls Tryz.prog 68 #[.agg (evals e x), .int .i64 L0] w fun r w' => (∃ q : Int, r = .returned (.int .i64 q) ∧ -1 ≤ q ∧ q ≤ L0 ∧ (0 ≤ q → EnSm x ∧ q + (enTot x : Int) ≤ L0)) ∧ Below w.heap.size w w' := by
  have k0 := SBlk.new w (evals e x) 113
  have k2 := below_alloc w (.cells (evals e x) 113)
  obtain ⟨W0, e0⟩ : ∃ W, w.alloc (.cells (evals e x) 113) = W := ⟨_, rfl⟩
  rw [e0] at k0 k2
  replace o := enK.below o k2 (Nat.le_refl _)
  have D1 := hide (szHeader_sum e.1 x.1 L0 W0 (hd_ok o.1) (hd_max o.1) h0 h1)
  have l2 : e.2.1.n ≤ maxLen := Nat.le_trans (BOk.room o.2.1) (BOk.max o.2.1)
  have l3 : e.2.2.2.n ≤ maxLen := Nat.le_trans (IOk.room o.2.2.2) (IOk.max o.2.2.2)
  have z2 : x.2.1.length = e.2.1.n := (BOk.row o.2.1).1
  have z3 : x.2.2.2.length = e.2.2.2.n := (IOk.row o.2.2.2).1
  have HZ := hide (And.intro z2 z3)
  have HLa : Hid ((Instr.loadAt 39 (.pointer (some ⟨w.heap.size, 0, none⟩))).run Tryz.prog W0 = .ok (.agg (hvals e.1 x.1)) W0) :=
    ld_run (hvals e.1 x.1).toList 39 _ (fun j v hv => by rw [Nat.zero_add, k0.cell]; exact ev_hd e x j v hv) Tryz.underlying39 rfl (by kernel_rfl)
  have HK0 := hide (fun (W : World) (hb : Below W0.heap.size W0 W) => k0.below hb k0.lt)
  have HB0 := hide k2
  have E0 := hide e0
  clear e0 o k0 k2 z2 z3
  generalize hvals e.1 x.1 = V1 at HLa D1
  unfold evals at E0 HK0 ⊢
  go_enter Tryz.func68, Tryz.ntmps68
  go_upto_region 1 with fail
  rw [unhide E0]
  clear E0
  go_wp2_with (refine wpList_load_eq rfl 39 _ rfl _ _ rfl (unhide HLa) ?_)
  refine (unhide D1).mono ?_
  rintro r w1 ⟨⟨L1, rfl, a1, a2, a3⟩, b1⟩
  have B1 := hide ((unhide HB0).trans (b1.mono (unhide HB0).size))
  have k1 := (unhide HK0) w1 b1
  have x1 := k1.cell 11
  have x2 := k1.cell 13
  simp only [List.getElem?_cons_zero, List.getElem?_cons_succ] at x1 x2
  clear b1 k1 HK0 D1 HLa
  by_cases n1 : L1 < 0
  · have d1 : decide (L1 < 0) = true := decide_eq_true n1
    go_wp2_with fail
    go_ret
    exact ⟨⟨-1, rfl, by omega, by omega, fun h => by omega⟩, unhide B1⟩
  have d1 : decide (L1 < 0) = false := decide_eq_false n1
  have S1 := a3 (by omega)
  have HS1 := hide S1
  obtain ⟨L2, e2⟩ : ∃ L : Int, L = if L1 - e.2.1.n < 0 then -1 else L1 - e.2.1.n := ⟨_, rfl⟩
  have D2 := hide (szB1_to e.2.1.a e.2.1.n e.2.1.c L1 L2 w1 (by omega) (by omega) l2 e2)
  have E2 := hide e2
  clear e2 S1 a3
  go_wp2_with fail
  refine (unhide D2).mono ?_
  rintro r w2 ⟨rfl, rfl⟩
  by_cases n2 : L2 < 0
  · have d2 : decide (L2 < 0) = true := decide_eq_true n2
    go_wp2_with fail
    go_ret
    exact ⟨⟨-1, rfl, by omega, by omega, fun h => by omega⟩, unhide B1⟩
  have d2 : decide (L2 < 0) = false := decide_eq_false n2
  have f2 : L2 = L1 - e.2.1.n := by
    have := unhide E2
    split at this <;> omega
  have F2 := hide f2
  have g2 : L2 ≤ L1 := by omega
  have D3 := hide (szI1_any e.2.2.2.a e.2.2.2.n e.2.2.2.c L2 w2 (by omega) (by omega) l3)
  obtain ⟨L3, e3⟩ : ∃ L : Int, L = if L2 - e.2.2.2.n < 0 then -1 else L2 - e.2.2.2.n := ⟨_, rfl⟩
  rw [← e3] at D3
  have E3 := hide e3
  clear e3 f2 D2
  go_wp2_with fail
  refine (unhide D3).mono ?_
  rintro r w3 ⟨rfl, rfl⟩
  by_cases n3 : L3 < 0
  · have d3 : decide (L3 < 0) = true := decide_eq_true n3
    go_wp2_with fail
    go_ret
    exact ⟨⟨-1, rfl, by omega, by omega, fun h => by omega⟩, unhide B1⟩
  have d3 : decide (L3 < 0) = false := decide_eq_false n3
  go_wp2_with fail
  go_ret
  have f2 := unhide F2
  have f3 : L3 = L2 - e.2.2.2.n := by
    have := unhide E3
    split at this <;> omega
  obtain ⟨z2, z3⟩ := unhide HZ
  exact ⟨⟨L3, rfl, by omega, by omega, fun _ => ⟨⟨(unhide HS1).1, by omega, by omega⟩, by have := (unhide HS1).2; unfold enTot; omega⟩⟩, unhide B1⟩

set_option maxHeartbeats 4000000 in
theorem szEntryS_sum (s : Sl) (xs : List En) (L0 : Int) (w : World) (o : RowOk enK w s xs) (h0 : 0 ≤ L0) (h1 : L0 ≤ 1048576) :
    Calls Tryz.prog 33 #[.slice s.a s.n s.c, .int .i64 L0] w fun r w' => (∃ q : Int, r = .returned (.int .i64 q) ∧ -1 ≤ q ∧ q ≤ L0 ∧ (0 ≤ q → (xs.length ≤ 1048576 ∧ ∀ y ∈ xs, EnSm y) ∧ q + (lsum enTot xs : Nat) ≤ L0)) ∧ Below w.heap.size w w' := by
  obtain ⟨a, n, c⟩ := s
  have hn : n = xs.length := o.len
  have hl : n ≤ maxLen := Nat.le_trans o.room o.max
  unfold maxLen at hl
  by_cases hs : L0 - n < 0
  · have hd : decide (L0 - (n : Int) < 0) = true := decide_eq_true hs
    clear o
    go_enter Tryz.func33, Tryz.ntmps33
    go_wp2_with fail
    go_ret
    exact ⟨⟨-1, rfl, by omega, by omega, fun h => by omega⟩, Below.refl _ _⟩
  · rcases Nat.eq_zero_or_pos n with hz | hp
    · subst hz
      obtain rfl : xs = [] := List.length_eq_zero_iff.1 hn.symm
      clear o hn hl hs
      have hd : decide (L0 < 0) = false := decide_eq_false (by omega)
      go_enter Tryz.func33, Tryz.ntmps33
      go_wp2_with fail
      refine wp_loop_rounds 1 ?_
      rw [rounds_succ]
      go_wp2_with fail
      go_ret
      exact ⟨⟨L0, rfl, by omega, by omega, fun h => ⟨⟨by simp, fun y hy => by simp at hy⟩, by simp [lsum]⟩⟩, Below.refl _ _⟩
    · have hd : decide (L0 - (n : Int) < 0) = false := decide_eq_false hs
      obtain ⟨b, off, rfl, hb, hc⟩ := o.pos hp
      have HC := hide (fun (W : World) (hbl : Below w.heap.size w W) (i : Nat) (x : En) (hx : xs[i]? = some x) => match hc i x hx with | ⟨e, c, o⟩ => (⟨e, fun j v hv => (hbl.cell (p := ⟨b, off + i * 14 + j, none⟩) hb).trans (c j v hv), enK.below o hbl (Nat.le_refl _)⟩ : ∃ e : EnS, (∀ j v, (evals e x).toList[j]? = some v → W.cell? ⟨b, off + i * 14 + j, none⟩ = some v) ∧ enK.Ok W e x))
      have HL := hide hn
      clear o hc hn
      go_enter Tryz.func33, Tryz.ntmps33
      go_wp2_with fail
      go_loopw [1, 5] (fun q i wr => ∃ (k : Nat) (L : Int), k ≤ n ∧ i = .int .i64 k ∧ q = .int .i64 L ∧ 0 ≤ L ∧ L + (lsum enTot (xs.take k) : Nat) ≤ L0 - n ∧ (∀ (j : Nat) y, j < k → xs[j]? = some y → EnSm y) ∧ Below w.heap.size w wr) (fun _ i _ => n - (intOf i).toNat)
      case atStart => exact ⟨0, _, Nat.zero_le _, rfl, rfl, by omega, by simp [lsum], fun j y hj => absurd hj (Nat.not_lt_zero _), Below.refl _ _⟩
      case round =>
        obtain ⟨k, L, hk, rfl, rfl, hL0, hL1, hall, hbr⟩ := hrel
        have HA := hide hall
        clear hall
        by_cases hlt : k < n
        · have hkx : k < xs.length := by rw [← unhide HL]; exact hlt
          obtain ⟨x, hx⟩ : ∃ x, xs[k]? = some x := ⟨_, List.getElem?_eq_getElem hkx⟩
          obtain ⟨e, c, o⟩ := (unhide HC) wr hbr k x hx
          have HLD : Hid (∀ W, Below wr.heap.size wr W → (Instr.loadAt 113 (.pointer (some ⟨b, off + k * 14, none⟩))).run Tryz.prog W = .ok (.agg (evals e x)) W) := fun W hbl =>
            ld_run (evals e x).toList 113 _ (fun j v hv => (hbl.cell (p := ⟨b, off + k * 14 + j, none⟩) (lt_of_cell (c j v hv))).trans (c j v hv)) Tryz.underlying113 rfl (by kernel_rfl)
          have HD := hide (fun (W : World) (hbl : Below wr.heap.size wr W) => szEntry_sum e x L W (enK.below o hbl (Nat.le_refl _)) hL0 (by omega))
          have HX := hide hx
          have hsum := lsum_succ enTot xs k x hx
          have HSU := hide hsum
          have HLB := hide hL1
          have hL2 : L ≤ L0 := by omega
          have HB := hide hbr
          have i1 : (0 : Int) ≤ (k : Int) := by omega
          have i2 : (k : Int) < (n : Int) := by omega
          clear c o hbr hx hkx hsum hL1
          generalize evals e x = V at HLD HD
          go_wp2_with (refine wpList_load_eq rfl 113 _ rfl _ _ rfl ((unhide HLD) _ (by first | exact Below.refl _ _ | exact (Below.refl _ _).drew)) ?_)
          refine ((unhide HD) _ (by first | exact Below.refl _ _ | exact (Below.refl _ _).drew)).mono ?_
          rintro r w2 ⟨⟨q, rfl, a1, a2, a3⟩, b2⟩
          have b2' : Below wr.heap.size wr w2 := by first | exact b2 | exact Below.trans ((Below.refl _ _).drew) b2
          have HB2 := hide ((unhide HB).trans (b2'.mono (unhide HB).size))
          have HA3 := hide a3
          clear b2 b2' a3
          by_cases hq : q < 0
          · have dq : decide (q < 0) = true := decide_eq_true hq
            go_wp2_with fail
            go_ret
            exact ⟨⟨-1, rfl, by omega, by omega, fun h => by omega⟩, unhide HB2⟩
          · have dq : decide (q < 0) = false := decide_eq_false hq
            go_wp2_with fail
            go_roundw
            case rel =>
              refine ⟨k + 1, q, by omega, by go_num, rfl, by omega, by have h1 := unhide HSU; have h2 := unhide HLB; have h3 := ((unhide HA3) (by omega)).2; omega, fun j y hj hy => ?_, unhide HB2⟩
              by_cases e : j = k
              · subst e
                obtain rfl : x = y := Option.some.inj ((unhide HX).symm.trans hy)
                exact ((unhide HA3) (by omega)).1
              · exact (unhide HA) j y (by omega) hy
            case measure => simp [intOf]; omega
        · obtain rfl : k = n := by omega
          have HB := hide hbr
          clear hbr
          go_wp2_with fail
          go_ret
          have HLB := hide hL1
          rw [List.take_of_length_le (by rw [unhide HL]; exact Nat.le_refl _)] at hL1
          refine ⟨⟨L, rfl, by omega, by omega, fun _ => ⟨⟨by have := unhide HL; omega, fun y hy => ?_⟩, by omega⟩⟩, unhide HB⟩
          obtain ⟨j, hj⟩ := List.getElem?_of_mem hy
          have hjl := (List.getElem?_eq_some_iff.1 hj).1
          exact (unhide HA) j y (by have := unhide HL; omega) hj

set_option maxHeartbeats 4000000 in
theorem szStore_sum (s : Sl) (x : St) (L0 : Int) (w : World) (o : RowOk enK w s x.2) (h0 : 0 ≤ L0) (h1 : L0 ≤ 1048576) :
    Calls Tryz.prog 7 #[.agg (tvals s x), .int .i64 L0] w fun r w' => (∃ q : Int, r = .returned (.int .i64 q) ∧ -1 ≤ q ∧ q ≤ L0 ∧ (0 ≤ q → StSm x ∧ (lsum enTot x.2 : Nat) ≤ L0)) ∧ Below w.heap.size w w' := by
  have k0 := SBlk.new w (tvals s x) 26
  have k2 := below_alloc w (.cells (tvals s x) 26)
  obtain ⟨W0, e0⟩ : ∃ W, w.alloc (.cells (tvals s x) 26) = W := ⟨_, rfl⟩
  rw [e0] at k0 k2
  have D1 := hide (szEntryS_sum s x.2 L0 W0 (RowOk.below o k2 (Nat.le_refl _)) h0 h1)
  have HB0 := hide k2
  unfold tvals at k0 e0 ⊢
  have x1 := k0.cell 3
  simp only [List.getElem?_cons_zero, List.getElem?_cons_succ] at x1
  have E0 := hide e0
  clear e0 o k0 k2
  go_enter Tryz.func7, Tryz.ntmps7
  go_upto_region 1 with fail
  rw [unhide E0]
  clear E0
  go_wp2_with fail
  refine (unhide D1).mono ?_
  rintro r w1 ⟨⟨L1, rfl, a1, a2, a3⟩, b1⟩
  have B1 := hide ((unhide HB0).trans (b1.mono (unhide HB0).size))
  have HA3 := hide a3
  clear b1 D1 a3 x1
  by_cases n1 : L1 < 0
  · have d1 : decide (L1 < 0) = true := decide_eq_true n1
    go_wp2_with fail
    go_ret
    exact ⟨⟨-1, rfl, by omega, by omega, fun h => by omega⟩, unhide B1⟩
  have d1 : decide (L1 < 0) = false := decide_eq_false n1
  go_wp2_with fail
  go_ret
  refine ⟨⟨L1, rfl, by omega, by omega, fun h => ?_⟩, unhide B1⟩
  obtain ⟨⟨q1, q2⟩, q3⟩ := (unhide HA3) h
  exact ⟨⟨q1, q2⟩, by omega⟩

set_option maxHeartbeats 4000000 in
theorem markStore_any (B : Nat) (d : Nat → Path) (p : Path) (s : Sl) (x : St) (k0 : Int) (w : World) (h : ensK.Own w B d p s x.2) (hB : B ≤ w.heap.size) (m : StSm x) (hs : lsum enTot x.2 ≤ 1048576) (hk0 : 0 ≤ k0) (hk1 : k0 ≤ 1048576) :
    Calls Tryz.prog 30 #[.agg (tvals s x), .int .i64 k0] w fun e w' => (∃ r : Int, e = .returned (.int .i64 r) ∧ 0 ≤ r ∧ r ≤ 16777216) ∧ ∃ W, Below w.heap.size w W ∧ OnlyP B d p W w' := by
  have k0' := SBlk.new w (tvals s x) 32
  have k2 := below_alloc w (.cells (tvals s x) 32)
  obtain ⟨W0, e0⟩ : ∃ W, w.alloc (.cells (tvals s x) 32) = W := ⟨_, rfl⟩
  rw [e0] at k0' k2
  have D1 := hide (markEntryS_any B d p s x.2 k0 W0 (ensK.ownBelow h k2 (Nat.le_refl _)) (Nat.le_trans hB k2.size) m.n hs m.e hk0 hk1)
  have HB0 := hide k2
  unfold tvals at k0' e0 ⊢
  have x1 := k0'.cell 3
  simp only [List.getElem?_cons_zero, List.getElem?_cons_succ] at x1
  have E0 := hide e0
  clear e0 h m k0' k2 hs
  go_enter Tryz.func30, Tryz.ntmps30
  go_upto_region 1 with fail
  rw [unhide E0]
  clear E0
  go_wp2_with fail
  refine (unhide D1).mono ?_
  rintro r w1 ⟨⟨q, rfl, a1, a2⟩, b1⟩
  have B1 := hide b1
  clear b1 D1 x1
  go_wp2_with fail
  go_ret
  exact ⟨⟨q, rfl, a1, a2⟩, W0, unhide HB0, unhide B1⟩

end Go.Proofs.YtioifgbnninmjaaGreatDoor

/- What is proved here: the contract of the laws' helper function that writes marks into items (markItemS), for items that the call itself made: it changes their blocks alone. -/
namespace Go.Proofs.YtioifgbnninmjaaGreatDoor
open Go.RowKit
set_option linter.unusedVariables false
set_option maxRecDepth 100000

/-- Items that are being marked: their slices stay, the bytes from place k on are as they were. -/
def MUpto (w : World) (g : Nat) (its : List It) (k : Nat) (T : TypeId) (C : Nat) : Prop :=
  ∃ (vs : List Value) (f : Nat → Nat), VBlk w g vs T ∧ vs.length = its.length * 3 ∧ (∀ i, i < its.length → g < f i ∧ f i < C) ∧ (∀ i j, i < j → j < its.length → f i < f j) ∧
    ∀ i it, its[i]? = some it → vs[i * 3 + 2]? = some (.slice (some ⟨f i, 0, none⟩) it.z.length it.z.length) ∧
      (k ≤ i → w.ownsRow (g + 1) 5 1 (.slice (some ⟨f i, 0, none⟩) it.z.length it.z.length) it.z.length (it.z.map (Value.int .u8)))

theorem OIts.marks {w : World} {g : Nat} {its : List It} {T : TypeId} {C : Nat} (h : OIts w g its T C) : MUpto w g its 0 T C := by
  obtain ⟨vs, f, h1, h2, h3, h4, h5⟩ := h
  refine ⟨vs, f, h1, h2, h3, h4, fun i it hi => ?_⟩
  have hil := (List.getElem?_eq_some_iff.1 hi).1
  obtain ⟨_, _, q3, q4⟩ := h5 i it hil hi
  exact ⟨q3, fun _ => q4⟩

/-- Nothing has changed but blocks from B on and below C. -/
def OnlyIn (B C : Nat) (w w' : World) : Prop := Below B w w' ∧ ∀ k, C ≤ k → k < w.heap.size → w'.heap[k]? = w.heap[k]?

theorem OnlyIn.refl (B C : Nat) (w : World) : OnlyIn B C w w := ⟨Below.refl _ _, fun _ _ _ => rfl⟩

theorem OnlyIn.cell {B C : Nat} {w w' : World} (h : OnlyIn B C w w') {p : Addr} (hp : C ≤ p.block) (hl : p.block < w.heap.size) : w'.cell? p = w.cell? p := World.cell?_of_block (w := w) (h.2 p.block hp hl)

theorem OnlyIn.own {B C D : Nat} {w w' : World} (h : OnlyIn B C w w') {e : TypeId} {size n : Nat} {v : Value} {xs : List Value} (ho : w.ownsRow D e size v n xs) (hD : C ≤ D) : w'.ownsRow D e size v n xs := by
  refine ⟨ho.1, ?_⟩
  rcases ho.2 with h' | ⟨g, cap, cur, h1, h2, h3, h4⟩
  · exact .inl h'
  · exact .inr ⟨g, cap, cur, h1, h2, by rw [h.2 g (Nat.le_trans hD h2) (lt_of_block h3)]; exact h3, h4⟩

/-- One item more is marked. -/
theorem MUpto.step {w0 w w3 : World} {g fk k : Nat} {its : List It} {T : TypeId} {C : Nat} {it : It} {u v : Value} (h : MUpto w g its k T C) (hit : its[k]? = some it) (hC : g < C) (ho : OnlyIn g C w0 w)
    (hfk : w.cell? ⟨g, k * 3 + 2, none⟩ = some (.slice (some ⟨fk, 0, none⟩) it.z.length it.z.length)) (hg : ((w.setCell ⟨g, k * 3, none⟩ u).setCell ⟨g, k * 3 + 1, none⟩ v).grownBy w3 (some fk)) :
    MUpto w3 g its (k + 1) T C ∧ OnlyIn g C w0 w3 := by
  obtain ⟨vs, f, h1, h2, h3, h4, h5⟩ := h
  have hkl := (List.getElem?_eq_some_iff.1 hit).1
  obtain ⟨q1, _⟩ := h5 k it hit
  have efk : fk = f k := by
    rw [h1.cell, q1] at hfk
    simp only [Option.some.injEq, Value.slice.injEq, Addr.mk.injEq, and_true] at hfk
    exact hfk.symm
  subst efk
  obtain ⟨b1, b2⟩ := h3 k hkl
  have hv : VBlk ((w.setCell ⟨g, k * 3, none⟩ u).setCell ⟨g, k * 3 + 1, none⟩ v) g ((vs.set (k * 3) u).set (k * 3 + 1) v) T := (h1.set _ _).set _ _
  have hgl : g < ((w.setCell ⟨g, k * 3, none⟩ u).setCell ⟨g, k * 3 + 1, none⟩ v).heap.size := hv.lt
  have hv3 : VBlk w3 g ((vs.set (k * 3) u).set (k * 3 + 1) v) T := by
    unfold VBlk
    rw [hg.block g hgl (fun e => by cases e; exact absurd b1 (Nat.lt_irrefl _))]
    exact hv
  refine ⟨⟨_, f, hv3, by simp [h2], h3, h4, fun i jt hjt => ?_⟩, ?_, fun m hm hml => ?_⟩
  · have hil := (List.getElem?_eq_some_iff.1 hjt).1
    obtain ⟨p1, p2⟩ := h5 i jt hjt
    refine ⟨?_, fun hki => ?_⟩
    · rw [List.getElem?_set_ne (by omega), List.getElem?_set_ne (by omega)]; exact p1
    · have o1 := ownsRow_setCell_below (ownsRow_setCell_below (p2 (by omega)) (a := ⟨g, k * 3, none⟩) (Nat.lt_succ_self g) u) (a := ⟨g, k * 3 + 1, none⟩) (Nat.lt_succ_self g) v
      exact own_grown o1 hg (fun r hr e => by
        have hr' : r = f i := by simpa [Value.ownBlock] using hr.symm
        have he : r = f k := by simpa using e
        have := h4 k i (by omega) hil
        omega)
  · have s1 : Below g w ((w.setCell ⟨g, k * 3, none⟩ u).setCell ⟨g, k * 3 + 1, none⟩ v) := ((Below.refl g w).setCell (Nat.le_refl _) _).setCell (Nat.le_refl _) _
    exact ho.1.trans (s1.grown hg (Nat.le_of_lt hgl) (fun r e => by cases e; omega))
  · have hms : m < ((w.setCell ⟨g, k * 3, none⟩ u).setCell ⟨g, k * 3 + 1, none⟩ v).heap.size := by rw [size_set, size_set]; exact Nat.lt_of_lt_of_le hml ho.1.size
    rw [hg.block m hms (fun e => by cases e; omega), heap_setCell_other _ _ _ _ (by show m ≠ g; omega), heap_setCell_other _ _ _ _ (by show m ≠ g; omega)]
    exact ho.2 m hm hml

/-- How many marks items take. -/
def markN (its : List It) : Nat := its.length * 2 + bytesOf its

theorem markN_step (its : List It) (k : Nat) (it : It) (h : its[k]? = some it) : (markN (its.take (k + 1)) : Int) = markN (its.take k) + 1 + 1 + it.z.length := by
  obtain ⟨hk, e⟩ := List.getElem?_eq_some_iff.1 h
  rw [List.take_succ_eq_append_getElem hk, e]
  simp [markN, bytesOf]
  omega

theorem markN_le (its : List It) (k : Nat) : markN (its.take k) ≤ markN its := by
  have : markN its = markN (its.take k) + markN (its.drop k) := by
    conv => lhs; rw [← List.take_append_drop k its]
    simp only [markN, bytesOf, List.length_append, List.map_append, List.sum_append]
    omega
  omega

end Go.Proofs.YtioifgbnninmjaaGreatDoor
