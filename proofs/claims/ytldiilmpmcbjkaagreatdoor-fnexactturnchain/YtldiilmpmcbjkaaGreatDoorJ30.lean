/- What is proved here: the contracts of the laws' helper functions that count headers, entries and stores, with the sum of what was counted (szHeader, szEntry, szEntryS, szStore), and that markStore writes nothing else. -/
import Derived.Test.YtldiilmpmcbjkaaGreatDoorJ28
import Derived.Test.YtldiilmpmcbjkaaGreatDoorJ29
import Derived.Test.YtldiilmpmcbjkaaGreatDoorJ5
import Derived.Deep.DeepCutAuto
import Derived.Test.YtldiilmpmcbjkaaGreatDoorJ15
import Derived.Test.YtldiilmpmcbjkaaGreatDoorJ1
import Derived.Test.YtldiilmpmcbjkaaGreatDoorChecked
import Derived.Test.YtldiilmpmcbjkaaGreatDoorJ14
import Derived.KernelRfl
namespace Go.Proofs.YtldiilmpmcbjkaaGreatDoor
open Go.RowKit
set_option linter.unusedVariables false
set_option linter.unusedSimpArgs false
set_option maxRecDepth 100000

set_option maxHeartbeats 4000000 in
theorem szHeader_sum (x : HS) (h : Hd) (L0 : Int) (w : World) (o : HOk w x h) (m : HMax x maxLen) (h0 : 0 ≤ L0) (h1 : L0 ≤ 1048576) :
    Calls Tryz.prog 45 #[.agg (hvals x h), .int .i64 L0] w fun e w' => (∃ r : Int, e = .returned (.int .i64 r) ∧ -1 ≤ r ∧ r ≤ L0 ∧ (0 ≤ r → HSm h ∧ r + (hTot h : Int) ≤ L0)) ∧ Below w.heap.size w w' := by
  have HB := hide (below_alloc w (.cells (hvals x h) 63))
  have HO := hide (fun (W : World) (hb : Below w.heap.size w W) => o.below hb (Nat.le_refl _))
  have HN := hide o
  unfold hvals at HB ⊢
  clear o
  go_enter Tryz.func45, Tryz.ntmps45
  obtain ⟨L1, e1⟩ : ∃ L : Int, L = if L0 - x.p.n < 0 then -1 else L0 - x.p.n := ⟨_, rfl⟩
  have C1 := hide (fun (W : World) (hb : Below w.heap.size w W) => szB1_to x.p.a x.p.n x.p.c L0 L1 W (by omega) (by omega) m.p e1)
  have E1 := hide e1
  clear e1
  go_wp2_with fail
  refine ((unhide C1) _ (unhide HB)).mono ?_
  rintro e w' ⟨rfl, rfl⟩
  clear C1
  by_cases t1 : L1 < 0
  · have d : decide (L1 < 0) = true := decide_eq_true t1
    go_wp2_with fail
    go_ret
    exact ⟨⟨-1, rfl, by omega, by omega, fun hh => by omega⟩, unhide HB⟩
  have d1 : decide (L1 < 0) = false := decide_eq_false t1
  have G1 : Hid (L1 = L0 - x.p.n) := by
    show _ = _
    have := unhide E1
    split at this <;> omega
  have f1 : (x.p.n : Int) ≤ 1048576 ∧ L1 ≤ L0 := by
    have := unhide E1
    split at this <;> omega
  clear E1
  obtain ⟨L2, e2⟩ : ∃ L : Int, L = if L1 - x.t.n < 0 then -1 else L1 - x.t.n := ⟨_, rfl⟩
  have C2 := hide (fun (W : World) (hb : Below w.heap.size w W) => szB1_to x.t.a x.t.n x.t.c L1 L2 W (by omega) (by omega) m.t e2)
  have E2 := hide e2
  clear e2
  go_wp2_with fail
  refine ((unhide C2) _ (unhide HB)).mono ?_
  rintro e w' ⟨rfl, rfl⟩
  clear C2
  by_cases t2 : L2 < 0
  · have d : decide (L2 < 0) = true := decide_eq_true t2
    go_wp2_with fail
    go_ret
    exact ⟨⟨-1, rfl, by omega, by omega, fun hh => by omega⟩, unhide HB⟩
  have d2 : decide (L2 < 0) = false := decide_eq_false t2
  have G2 : Hid (L2 = L1 - x.t.n) := by
    show _ = _
    have := unhide E2
    split at this <;> omega
  have f2 : (x.t.n : Int) ≤ 1048576 ∧ L2 ≤ L1 := by
    have := unhide E2
    split at this <;> omega
  clear E2
  obtain ⟨L3, e3⟩ : ∃ L : Int, L = szBss L2 h.s := ⟨_, rfl⟩
  have C3 := hide (fun (W : World) (hb : Below w.heap.size w W) => szBss_to x.s.a x.s.n x.s.c h.s L2 L3 W ((unhide HO) W hb).s m.s (by omega) (by omega) e3)
  have E3 := hide e3
  clear e3
  go_wp2_with fail
  refine ((unhide C3) _ (unhide HB)).mono ?_
  rintro e w' ⟨rfl, rfl⟩
  clear C3
  by_cases t3 : L3 < 0
  · have d : decide (L3 < 0) = true := decide_eq_true t3
    go_wp2_with fail
    go_ret
    exact ⟨⟨-1, rfl, by omega, by omega, fun hh => by omega⟩, unhide HB⟩
  have d3 : decide (L3 < 0) = false := decide_eq_false t3
  have f3 : L3 ≤ L2 := by rw [unhide E3]; exact szBss_le _ (by omega)
  have F3 := hide (szBss_ok (left := L2) (zss := h.s) (by rw [← unhide E3]; omega))
  have G3 : Hid (L3 = L2 - h.s.length - bsum h.s) := by show _ = _; rw [unhide E3]; exact szBss_eq (by rw [← unhide E3]; omega)
  clear E3
  obtain ⟨L4, e4⟩ : ∃ L : Int, L = if L3 - x.r.n < 0 then -1 else L3 - x.r.n := ⟨_, rfl⟩
  have C4 := hide (fun (W : World) (hb : Below w.heap.size w W) => szB1_to x.r.a x.r.n x.r.c L3 L4 W (by omega) (by omega) m.r e4)
  have E4 := hide e4
  clear e4
  go_wp2_with fail
  refine ((unhide C4) _ (unhide HB)).mono ?_
  rintro e w' ⟨rfl, rfl⟩
  clear C4
  by_cases t4 : L4 < 0
  · have d : decide (L4 < 0) = true := decide_eq_true t4
    go_wp2_with fail
    go_ret
    exact ⟨⟨-1, rfl, by omega, by omega, fun hh => by omega⟩, unhide HB⟩
  have d4 : decide (L4 < 0) = false := decide_eq_false t4
  have G4 : Hid (L4 = L3 - x.r.n) := by
    show _ = _
    have := unhide E4
    split at this <;> omega
  have f4 : (x.r.n : Int) ≤ 1048576 ∧ L4 ≤ L3 := by
    have := unhide E4
    split at this <;> omega
  clear E4
  obtain ⟨L5, e5⟩ : ∃ L : Int, L = if L4 - x.g.n < 0 then -1 else L4 - x.g.n := ⟨_, rfl⟩
  have C5 := hide (fun (W : World) (hb : Below w.heap.size w W) => szB1_to x.g.a x.g.n x.g.c L4 L5 W (by omega) (by omega) m.g e5)
  have E5 := hide e5
  clear e5
  go_wp2_with fail
  refine ((unhide C5) _ (unhide HB)).mono ?_
  rintro e w' ⟨rfl, rfl⟩
  clear C5
  by_cases t5 : L5 < 0
  · have d : decide (L5 < 0) = true := decide_eq_true t5
    go_wp2_with fail
    go_ret
    exact ⟨⟨-1, rfl, by omega, by omega, fun hh => by omega⟩, unhide HB⟩
  have d5 : decide (L5 < 0) = false := decide_eq_false t5
  have G5 : Hid (L5 = L4 - x.g.n) := by
    show _ = _
    have := unhide E5
    split at this <;> omega
  have f5 : (x.g.n : Int) ≤ 1048576 ∧ L5 ≤ L4 := by
    have := unhide E5
    split at this <;> omega
  clear E5
  obtain ⟨L6, e6⟩ : ∃ L : Int, L = if L5 - x.e.n < 0 then -1 else L5 - x.e.n := ⟨_, rfl⟩
  have C6 := hide (fun (W : World) (hb : Below w.heap.size w W) => szB1_to x.e.a x.e.n x.e.c L5 L6 W (by omega) (by omega) m.e e6)
  have E6 := hide e6
  clear e6
  go_wp2_with fail
  refine ((unhide C6) _ (unhide HB)).mono ?_
  rintro e w' ⟨rfl, rfl⟩
  clear C6
  by_cases t6 : L6 < 0
  · have d : decide (L6 < 0) = true := decide_eq_true t6
    go_wp2_with fail
    go_ret
    exact ⟨⟨-1, rfl, by omega, by omega, fun hh => by omega⟩, unhide HB⟩
  have d6 : decide (L6 < 0) = false := decide_eq_false t6
  have G6 : Hid (L6 = L5 - x.e.n) := by
    show _ = _
    have := unhide E6
    split at this <;> omega
  have f6 : (x.e.n : Int) ≤ 1048576 ∧ L6 ≤ L5 := by
    have := unhide E6
    split at this <;> omega
  clear E6
  obtain ⟨L7, e7⟩ : ∃ L : Int, L = szBss L6 h.k := ⟨_, rfl⟩
  have C7 := hide (fun (W : World) (hb : Below w.heap.size w W) => szBss_to x.k.a x.k.n x.k.c h.k L6 L7 W ((unhide HO) W hb).k m.k (by omega) (by omega) e7)
  have E7 := hide e7
  clear e7
  go_wp2_with fail
  refine ((unhide C7) _ (unhide HB)).mono ?_
  rintro e w' ⟨rfl, rfl⟩
  clear C7
  by_cases t7 : L7 < 0
  · have d : decide (L7 < 0) = true := decide_eq_true t7
    go_wp2_with fail
    go_ret
    exact ⟨⟨-1, rfl, by omega, by omega, fun hh => by omega⟩, unhide HB⟩
  have d7 : decide (L7 < 0) = false := decide_eq_false t7
  have f7 : L7 ≤ L6 := by rw [unhide E7]; exact szBss_le _ (by omega)
  have F7 := hide (szBss_ok (left := L6) (zss := h.k) (by rw [← unhide E7]; omega))
  have G7 : Hid (L7 = L6 - h.k.length - bsum h.k) := by show _ = _; rw [unhide E7]; exact szBss_eq (by rw [← unhide E7]; omega)
  clear E7
  go_wp2_with fail
  go_ret
  refine ⟨⟨L7, rfl, by omega, by omega, fun _ => ?_⟩, unhide HB⟩
  have o := unhide HN
  obtain ⟨u3, v3⟩ := unhide F3
  obtain ⟨u7, v7⟩ := unhide F7
  refine ⟨?_, by have q1 := o.p.1; have e1 := unhide G1; have e2 := unhide G2; have e3 := unhide G3; have e4 := unhide G4; have e5 := unhide G5; have e6 := unhide G6; have e7 := unhide G7; have q2 := o.t.1; have q3 := o.r.1; have q4 := o.g.1; have q5 := o.e.1; unfold hTot; omega⟩
  exact ⟨by rw [o.p.1]; omega, by rw [o.t.1]; omega, by omega, fun z hz => by have := v3 z hz; omega, by rw [o.r.1]; omega, by rw [o.g.1]; omega, by rw [o.e.1]; omega, by omega, fun z hz => by have := v7 z hz; omega⟩

set_option maxHeartbeats 4000000 in
theorem szEntry_sum (e : EnS) (x : En) (L0 : Int) (w : World) (o : enK.Ok w e x) (h0 : 0 ≤ L0) (h1 : L0 ≤ 1048576) :
    Calls Tryz.prog 30 #[.agg (evals e x), .int .i64 L0] w fun r w' => (∃ q : Int, r = .returned (.int .i64 q) ∧ -1 ≤ q ∧ q ≤ L0 ∧ (0 ≤ q → EnSm x ∧ q + (enTot x : Int) ≤ L0)) ∧ Below w.heap.size w w' := by
  have k0 := SBlk.new w (evals e x) 65
  have k2 := below_alloc w (.cells (evals e x) 65)
  obtain ⟨W0, e0⟩ : ∃ W, w.alloc (.cells (evals e x) 65) = W := ⟨_, rfl⟩
  rw [e0] at k0 k2
  replace o := enK.below o k2 (Nat.le_refl _)
  have D1 := hide (szHeader_sum e.1 x.1 L0 W0 (hd_ok o.1) (hd_max o.1) h0 h1)
  have l2 : e.2.1.n ≤ maxLen := Nat.le_trans (BOk.room o.2.1) (BOk.max o.2.1)
  have l3 : e.2.2.2.n ≤ maxLen := Nat.le_trans (IOk.room o.2.2.2) (IOk.max o.2.2.2)
  have z2 : x.2.1.length = e.2.1.n := (BOk.row o.2.1).1
  have z3 : x.2.2.2.length = e.2.2.2.n := (IOk.row o.2.2.2).1
  have HZ := hide (And.intro z2 z3)
  have HLa : Hid ((Instr.loadAt 63 (.pointer (some ⟨w.heap.size, 0, none⟩))).run Tryz.prog W0 = .ok (.agg (hvals e.1 x.1)) W0) :=
    ld_run (hvals e.1 x.1).toList 63 _ (fun j v hv => by rw [Nat.zero_add, k0.cell]; exact ev_hd e x j v hv) Tryz.underlying63 rfl (by kernel_rfl)
  have HK0 := hide (fun (W : World) (hb : Below W0.heap.size W0 W) => k0.below hb k0.lt)
  have HB0 := hide k2
  have E0 := hide e0
  clear e0 o k0 k2 z2 z3
  generalize hvals e.1 x.1 = V1 at HLa D1
  unfold evals at E0 HK0 ⊢
  go_enter Tryz.func30, Tryz.ntmps30
  go_upto_region 1 with fail
  rw [unhide E0]
  clear E0
  go_wp2_with (refine wpList_load_eq rfl 63 _ rfl _ _ rfl (unhide HLa) ?_)
  refine (unhide D1).mono ?_
  rintro r w1 ⟨⟨L1, rfl, a1, a2, a3⟩, b1⟩
  have B1 := hide ((unhide HB0).trans (b1.mono (unhide HB0).size))
  have k1 := (unhide HK0) w1 b1
  have x1 := k1.cell 11
  have x2 := k1.cell 13
  simp only [List.getElem?_cons_zero, List.getElem?_cons_succ] at x1 x2
  clear b1 k1 HK0 D1 HLa
  by_cases n1 : L1 < 0
  · have d1 : decide (L1 < 0) = true := decide_eq_true n1
    go_wp2_with fail
    go_ret
    exact ⟨⟨-1, rfl, by omega, by omega, fun h => by omega⟩, unhide B1⟩
  have d1 : decide (L1 < 0) = false := decide_eq_false n1
  have S1 := a3 (by omega)
  have HS1 := hide S1
  obtain ⟨L2, e2⟩ : ∃ L : Int, L = if L1 - e.2.1.n < 0 then -1 else L1 - e.2.1.n := ⟨_, rfl⟩
  have D2 := hide (szB1_to e.2.1.a e.2.1.n e.2.1.c L1 L2 w1 (by omega) (by omega) l2 e2)
  have E2 := hide e2
  clear e2 S1 a3
  go_wp2_with fail
  refine (unhide D2).mono ?_
  rintro r w2 ⟨rfl, rfl⟩
  by_cases n2 : L2 < 0
  · have d2 : decide (L2 < 0) = true := decide_eq_true n2
    go_wp2_with fail
    go_ret
    exact ⟨⟨-1, rfl, by omega, by omega, fun h => by omega⟩, unhide B1⟩
  have d2 : decide (L2 < 0) = false := decide_eq_false n2
  have f2 : L2 = L1 - e.2.1.n := by
    have := unhide E2
    split at this <;> omega
  have F2 := hide f2
  have g2 : L2 ≤ L1 := by omega
  have D3 := hide (szI1_any e.2.2.2.a e.2.2.2.n e.2.2.2.c L2 w2 (by omega) (by omega) l3)
  obtain ⟨L3, e3⟩ : ∃ L : Int, L = if L2 - e.2.2.2.n < 0 then -1 else L2 - e.2.2.2.n := ⟨_, rfl⟩
  rw [← e3] at D3
  have E3 := hide e3
  clear e3 f2 D2
  go_wp2_with fail
  refine (unhide D3).mono ?_
  rintro r w3 ⟨rfl, rfl⟩
  by_cases n3 : L3 < 0
  · have d3 : decide (L3 < 0) = true := decide_eq_true n3
    go_wp2_with fail
    go_ret
    exact ⟨⟨-1, rfl, by omega, by omega, fun h => by omega⟩, unhide B1⟩
  have d3 : decide (L3 < 0) = false := decide_eq_false n3
  go_wp2_with fail
  go_ret
  have f2 := unhide F2
  have f3 : L3 = L2 - e.2.2.2.n := by
    have := unhide E3
    split at this <;> omega
  obtain ⟨z2, z3⟩ := unhide HZ
  exact ⟨⟨L3, rfl, by omega, by omega, fun _ => ⟨⟨(unhide HS1).1, by omega, by omega⟩, by have := (unhide HS1).2; unfold enTot; omega⟩⟩, unhide B1⟩

set_option maxHeartbeats 4000000 in
theorem szEntryS_sum (s : Sl) (xs : List En) (L0 : Int) (w : World) (o : RowOk enK w s xs) (h0 : 0 ≤ L0) (h1 : L0 ≤ 1048576) :
    Calls Tryz.prog 13 #[.slice s.a s.n s.c, .int .i64 L0] w fun r w' => (∃ q : Int, r = .returned (.int .i64 q) ∧ -1 ≤ q ∧ q ≤ L0 ∧ (0 ≤ q → (xs.length ≤ 1048576 ∧ ∀ y ∈ xs, EnSm y) ∧ q + (lsum enTot xs : Nat) ≤ L0)) ∧ Below w.heap.size w w' := by
  obtain ⟨a, n, c⟩ := s
  have hn : n = xs.length := o.len
  have hl : n ≤ maxLen := Nat.le_trans o.room o.max
  unfold maxLen at hl
  by_cases hs : L0 - n < 0
  · have hd : decide (L0 - (n : Int) < 0) = true := decide_eq_true hs
    clear o
    go_enter Tryz.func13, Tryz.ntmps13
    go_wp2_with fail
    go_ret
    exact ⟨⟨-1, rfl, by omega, by omega, fun h => by omega⟩, Below.refl _ _⟩
  · rcases Nat.eq_zero_or_pos n with hz | hp
    · subst hz
      obtain rfl : xs = [] := List.length_eq_zero_iff.1 hn.symm
      clear o hn hl hs
      have hd : decide (L0 < 0) = false := decide_eq_false (by omega)
      go_enter Tryz.func13, Tryz.ntmps13
      go_wp2_with fail
      refine wp_loop_rounds 1 ?_
      rw [rounds_succ]
      go_wp2_with fail
      go_ret
      exact ⟨⟨L0, rfl, by omega, by omega, fun h => ⟨⟨by simp, fun y hy => by simp at hy⟩, by simp [lsum]⟩⟩, Below.refl _ _⟩
    · have hd : decide (L0 - (n : Int) < 0) = false := decide_eq_false hs
      obtain ⟨b, off, rfl, hb, hc⟩ := o.pos hp
      have HC := hide (fun (W : World) (hbl : Below w.heap.size w W) (i : Nat) (x : En) (hx : xs[i]? = some x) => match hc i x hx with | ⟨e, c, o⟩ => (⟨e, fun j v hv => (hbl.cell (p := ⟨b, off + i * 14 + j, none⟩) hb).trans (c j v hv), enK.below o hbl (Nat.le_refl _)⟩ : ∃ e : EnS, (∀ j v, (evals e x).toList[j]? = some v → W.cell? ⟨b, off + i * 14 + j, none⟩ = some v) ∧ enK.Ok W e x))
      have HL := hide hn
      clear o hc hn
      go_enter Tryz.func13, Tryz.ntmps13
      go_wp2_with fail
      go_loopw [1, 5] (fun q i wr => ∃ (k : Nat) (L : Int), k ≤ n ∧ i = .int .i64 k ∧ q = .int .i64 L ∧ 0 ≤ L ∧ L + (lsum enTot (xs.take k) : Nat) ≤ L0 - n ∧ (∀ (j : Nat) y, j < k → xs[j]? = some y → EnSm y) ∧ Below w.heap.size w wr) (fun _ i _ => n - (intOf i).toNat)
      case atStart => exact ⟨0, _, Nat.zero_le _, rfl, rfl, by omega, by simp [lsum], fun j y hj => absurd hj (Nat.not_lt_zero _), Below.refl _ _⟩
      case round =>
        obtain ⟨k, L, hk, rfl, rfl, hL0, hL1, hall, hbr⟩ := hrel
        have HA := hide hall
        clear hall
        by_cases hlt : k < n
        · have hkx : k < xs.length := by rw [← unhide HL]; exact hlt
          obtain ⟨x, hx⟩ : ∃ x, xs[k]? = some x := ⟨_, List.getElem?_eq_getElem hkx⟩
          obtain ⟨e, c, o⟩ := (unhide HC) wr hbr k x hx
          have HLD : Hid (∀ W, Below wr.heap.size wr W → (Instr.loadAt 65 (.pointer (some ⟨b, off + k * 14, none⟩))).run Tryz.prog W = .ok (.agg (evals e x)) W) := fun W hbl =>
            ld_run (evals e x).toList 65 _ (fun j v hv => (hbl.cell (p := ⟨b, off + k * 14 + j, none⟩) (lt_of_cell (c j v hv))).trans (c j v hv)) Tryz.underlying65 rfl (by kernel_rfl)
          have HD := hide (fun (W : World) (hbl : Below wr.heap.size wr W) => szEntry_sum e x L W (enK.below o hbl (Nat.le_refl _)) hL0 (by omega))
          have HX := hide hx
          have hsum := lsum_succ enTot xs k x hx
          have HSU := hide hsum
          have HLB := hide hL1
          have hL2 : L ≤ L0 := by omega
          have HB := hide hbr
          have i1 : (0 : Int) ≤ (k : Int) := by omega
          have i2 : (k : Int) < (n : Int) := by omega
          clear c o hbr hx hkx hsum hL1
          generalize evals e x = V at HLD HD
          go_wp2_with (refine wpList_load_eq rfl 65 _ rfl _ _ rfl ((unhide HLD) _ (by first | exact Below.refl _ _ | exact (Below.refl _ _).drew)) ?_)
          refine ((unhide HD) _ (by first | exact Below.refl _ _ | exact (Below.refl _ _).drew)).mono ?_
          rintro r w2 ⟨⟨q, rfl, a1, a2, a3⟩, b2⟩
          have b2' : Below wr.heap.size wr w2 := by first | exact b2 | exact Below.trans ((Below.refl _ _).drew) b2
          have HB2 := hide ((unhide HB).trans (b2'.mono (unhide HB).size))
          have HA3 := hide a3
          clear b2 b2' a3
          by_cases hq : q < 0
          · have dq : decide (q < 0) = true := decide_eq_true hq
            go_wp2_with fail
            go_ret
            exact ⟨⟨-1, rfl, by omega, by omega, fun h => by omega⟩, unhide HB2⟩
          · have dq : decide (q < 0) = false := decide_eq_false hq
            go_wp2_with fail
            go_roundw
            case rel =>
              refine ⟨k + 1, q, by omega, by go_num, rfl, by omega, by have h1 := unhide HSU; have h2 := unhide HLB; have h3 := ((unhide HA3) (by omega)).2; omega, fun j y hj hy => ?_, unhide HB2⟩
              by_cases e : j = k
              · subst e
                obtain rfl : x = y := Option.some.inj ((unhide HX).symm.trans hy)
                exact ((unhide HA3) (by omega)).1
              · exact (unhide HA) j y (by omega) hy
            case measure => simp [intOf]; omega
        · obtain rfl : k = n := by omega
          have HB := hide hbr
          clear hbr
          go_wp2_with fail
          go_ret
          have HLB := hide hL1
          rw [List.take_of_length_le (by rw [unhide HL]; exact Nat.le_refl _)] at hL1
          refine ⟨⟨L, rfl, by omega, by omega, fun _ => ⟨⟨by have := unhide HL; omega, fun y hy => ?_⟩, by omega⟩⟩, unhide HB⟩
          obtain ⟨j, hj⟩ := List.getElem?_of_mem hy
          have hjl := (List.getElem?_eq_some_iff.1 hj).1
          exact (unhide HA) j y (by have := unhide HL; omega) hj

set_option maxHeartbeats 4000000 in
theorem szStore_sum (s : Sl) (x : St) (L0 : Int) (w : World) (o : RowOk enK w s x.2) (h0 : 0 ≤ L0) (h1 : L0 ≤ 1048576) :
    Calls Tryz.prog 4 #[.agg (tvals s x), .int .i64 L0] w fun r w' => (∃ q : Int, r = .returned (.int .i64 q) ∧ -1 ≤ q ∧ q ≤ L0 ∧ (0 ≤ q → StSm x ∧ (lsum enTot x.2 : Nat) ≤ L0)) ∧ Below w.heap.size w w' := by
  have k0 := SBlk.new w (tvals s x) 26
  have k2 := below_alloc w (.cells (tvals s x) 26)
  obtain ⟨W0, e0⟩ : ∃ W, w.alloc (.cells (tvals s x) 26) = W := ⟨_, rfl⟩
  rw [e0] at k0 k2
  have D1 := hide (szEntryS_sum s x.2 L0 W0 (RowOk.below o k2 (Nat.le_refl _)) h0 h1)
  have HB0 := hide k2
  unfold tvals at k0 e0 ⊢
  have x1 := k0.cell 3
  simp only [List.getElem?_cons_zero, List.getElem?_cons_succ] at x1
  have E0 := hide e0
  clear e0 o k0 k2
  go_enter Tryz.func4, Tryz.ntmps4
  go_upto_region 1 with fail
  rw [unhide E0]
  clear E0
  go_wp2_with fail
  refine (unhide D1).mono ?_
  rintro r w1 ⟨⟨L1, rfl, a1, a2, a3⟩, b1⟩
  have B1 := hide ((unhide HB0).trans (b1.mono (unhide HB0).size))
  have HA3 := hide a3
  clear b1 D1 a3 x1
  by_cases n1 : L1 < 0
  · have d1 : decide (L1 < 0) = true := decide_eq_true n1
    go_wp2_with fail
    go_ret
    exact ⟨⟨-1, rfl, by omega, by omega, fun h => by omega⟩, unhide B1⟩
  have d1 : decide (L1 < 0) = false := decide_eq_false n1
  go_wp2_with fail
  go_ret
  refine ⟨⟨L1, rfl, by omega, by omega, fun h => ?_⟩, unhide B1⟩
  obtain ⟨⟨q1, q2⟩, q3⟩ := (unhide HA3) h
  exact ⟨⟨q1, q2⟩, by omega⟩

set_option maxHeartbeats 4000000 in
theorem markStore_any (B : Nat) (d : Nat → Path) (p : Path) (s : Sl) (x : St) (k0 : Int) (w : World) (h : ensK.Own w B d p s x.2) (hB : B ≤ w.heap.size) (m : StSm x) (hs : lsum enTot x.2 ≤ 1048576) (hk0 : 0 ≤ k0) (hk1 : k0 ≤ 1048576) :
    Calls Tryz.prog 10 #[.agg (tvals s x), .int .i64 k0] w fun e w' => (∃ r : Int, e = .returned (.int .i64 r) ∧ 0 ≤ r ∧ r ≤ 16777216) ∧ ∃ W, Below w.heap.size w W ∧ OnlyP B d p W w' := by
  have k0' := SBlk.new w (tvals s x) 35
  have k2 := below_alloc w (.cells (tvals s x) 35)
  obtain ⟨W0, e0⟩ : ∃ W, w.alloc (.cells (tvals s x) 35) = W := ⟨_, rfl⟩
  rw [e0] at k0' k2
  have D1 := hide (markEntryS_any B d p s x.2 k0 W0 (ensK.ownBelow h k2 (Nat.le_refl _)) (Nat.le_trans hB k2.size) m.n hs m.e hk0 hk1)
  have HB0 := hide k2
  unfold tvals at k0' e0 ⊢
  have x1 := k0'.cell 3
  simp only [List.getElem?_cons_zero, List.getElem?_cons_succ] at x1
  have E0 := hide e0
  clear e0 h m k0' k2 hs
  go_enter Tryz.func10, Tryz.ntmps10
  go_upto_region 1 with fail
  rw [unhide E0]
  clear E0
  go_wp2_with fail
  refine (unhide D1).mono ?_
  rintro r w1 ⟨⟨q, rfl, a1, a2⟩, b1⟩
  have B1 := hide b1
  clear b1 D1 x1
  go_wp2_with fail
  go_ret
  exact ⟨⟨q, rfl, a1, a2⟩, W0, unhide HB0, unhide B1⟩

end Go.Proofs.YtldiilmpmcbjkaaGreatDoor

/- What is proved here: the contracts of the laws' helper functions that copy entries and stores (toEntryS, toStore). -/
namespace Go.Proofs.YtldiilmpmcbjkaaGreatDoor
open Go.RowKit
set_option linter.unusedVariables false
set_option linter.unusedSimpArgs false
set_option maxRecDepth 100000

/-- A thing stored whole at its place in a row. -/
theorem RowPart.store {α β : Type} {K : Kd α β} {T : TypeId} {w : World} {B : Nat} {d : Nat → Path} {p : Path} {s : Sl} {xs : List α} {k : Nat} (h : RowPart K T w B d p s xs k) {g off : Nat} (ha : s.a = some ⟨g, off, none⟩) {i : Nat} (hi : i < xs.length) (us : List Value) (hu : us.length = K.m) (ty : TypeId) (hf : (Tryz.prog.info? ty).map (·.size) = some us.length) (h1 : us.toArray.all (·.oneCell') = true) :
    (Instr.storeAt ty (.pointer (some ⟨g, off + i * K.m, none⟩)) (.agg us.toArray)).run Tryz.prog w = .ok () (putRow w g (off + i * K.m) us) := by
  obtain ⟨q1, q2⟩ := h.slot ha hi
  rw [putRow_cells]
  refine run_storeAt_mid (P := Tryz.prog) w g _ ty us.toArray (fun j hj => ⟨?_, q2 _⟩) (by simpa using hf) h1
  obtain ⟨u, hq⟩ := q1 j (by simp at hj; omega)
  rw [hq]
  rfl

theorem infoEntry : (Tryz.prog.info? 70).map (fun i => (i.zero, i.size, i.bytes)) = some (some (.agg ez14), 14, 256) := by kernel_rfl

set_option maxHeartbeats 4000000 in
theorem toEntryS_any (p : Path) (s : Sl) (xs : List En) (w : World) (o : RowOk enK w s xs) (hl : xs.length ≤ 1048576) (hz : ∀ x ∈ xs, EnSm x) :
    Calls Tryz.prog 18 #[.slice s.a s.n s.c] w fun e w' => ∃ (t : Sl) (d : Nat → Path), e = .returned (.slice t.a t.n t.c) ∧ ensK.Own w' w.heap.size d p t xs ∧ Below w.heap.size w w' := by
  obtain ⟨i0, hi, hz0, hz1, hz2⟩ := info_parts infoEntry
  obtain ⟨a, len, cap⟩ := s
  have hil : len = xs.length := o.len
  rcases Nat.eq_zero_or_pos len with h0 | hp
  · subst h0
    obtain rfl : xs = [] := List.length_eq_zero_iff.1 hil.symm
    clear o hl hz hil
    go_enter Tryz.func18, Tryz.ntmps18
    go_wp2_with (at_make; refine wpList_make_full _ rfl _ _ 33 rfl w.heap.size 70 i0 (.agg ez14) 14 Tryz.underlying33 hi hz0 hz1 _ _ _ _ 0 rfl rfl rfl rfl ?c1 ?c2 ?c3 ?_)
    case c1 => omega
    case c2 => unfold maxLen; omega
    case c3 => omega
    intro w1 hown hgrow
    go_wp2
    refine wp_loop_rounds 1 ?_
    rw [rounds_succ]
    go_wp2
    go_ret
    exact ⟨⟨some ⟨w.heap.size, 0, none⟩, 0, 0⟩, fun _ => p, rfl, RowPart.zero (OwnS.of hown) rfl (fun _ _ => rfl), (Below.refl _ _).grown hgrow (Nat.le_refl _) (fun k e => by cases e)⟩
  · obtain ⟨b, off, ea, hb, hc⟩ := o.pos hp
    simp only at ea
    subst ea
    have HC := hide (fun (W : World) (hbl : Below w.heap.size w W) (i : Nat) (x : En) (hx : xs[i]? = some x) => match hc i x hx with | ⟨e, c, o⟩ => (⟨e, fun j v hv => (hbl.cell (p := ⟨b, off + i * 14 + j, none⟩) hb).trans (c j v hv), enK.below o hbl (Nat.le_refl _)⟩ : ∃ e : EnS, (∀ j v, (evals e x).toList[j]? = some v → W.cell? ⟨b, off + i * 14 + j, none⟩ = some v) ∧ enK.Ok W e x))
    have HL := hide hil
    have HZ := hide hz
    have hla : len ≤ 1048576 := by omega
    clear o hc hil hz hl
    go_enter Tryz.func18, Tryz.ntmps18
    go_wp2_with (at_make; refine wpList_make_full _ rfl _ _ 33 rfl w.heap.size 70 i0 (.agg ez14) 14 Tryz.underlying33 hi hz0 hz1 _ _ _ _ len rfl rfl rfl rfl ?c1 ?c2 ?c3 ?_)
    case c1 => rw [hz2]; omega
    case c2 => unfold maxLen; omega
    case c3 => omega
    intro w1 hown hgrow
    have hst : RowPart enK 70 w1 w.heap.size (fun _ => p) p ⟨some ⟨w.heap.size, 0, none⟩, len, len⟩ xs 0 := RowPart.zero (OwnS.of hown) (unhide HL) (fun _ _ => rfl)
    have hbel : Below w.heap.size w w1 := (Below.refl _ _).grown hgrow (Nat.le_refl _) (fun k e => by cases e)
    clear hown hgrow
    go_wp2_with fail
    go_loopw [4] (fun i wr => ∃ (k : Nat) (d : Nat → Path), k ≤ len ∧ i = .int .i64 k ∧ RowPart enK 70 wr w.heap.size d p ⟨some ⟨w.heap.size, 0, none⟩, len, len⟩ xs k ∧ w.heap.size < wr.heap.size ∧ Below w.heap.size w wr) (fun i _ => len - (intOf i).toNat)
    case atStart => exact ⟨0, fun _ => p, Nat.zero_le _, rfl, hst, by obtain ⟨_, _, _, _, h, _⟩ := hst; exact (h.blk (x := ⟨w.heap.size, 0, none⟩) rfl).2, hbel⟩
    case round =>
      obtain ⟨k, d, hk, rfl, hup, hsw, hbr⟩ := hrel
      clear hst hbel
      by_cases hlt : k < len
      · have hkx : k < xs.length := by rw [← unhide HL]; exact hlt
        obtain ⟨x, hx⟩ : ∃ x, xs[k]? = some x := ⟨_, List.getElem?_eq_getElem hkx⟩
        have mx := (unhide HZ) x (List.mem_of_getElem? hx)
        obtain ⟨e, c, o⟩ := (unhide HC) wr hbr k x hx
        have HLD : Hid (∀ W, Below wr.heap.size wr W → (Instr.loadAt 65 (.pointer (some ⟨b, off + k * 14, none⟩))).run Tryz.prog W = .ok (.agg (evals e x)) W) := fun W hbl =>
          ld_run (evals e x).toList 65 _ (fun j v hv => (hbl.cell (p := ⟨b, off + k * 14 + j, none⟩) (lt_of_cell (c j v hv))).trans (c j v hv)) Tryz.underlying65 rfl (by kernel_rfl)
        have HT := hide (fun (W : World) (hbl : Below wr.heap.size wr W) => toEntry_any (p ++ [k]) e x W (enK.below o hbl (Nat.le_refl _)) mx)
        have HST := hide (fun (w2 : World) (hb : Below wr.heap.size wr w2) (us : List Value) (hu : us.length = 14) (h1 : us.toArray.all (·.oneCell') = true) => (hup.frame (w' := w2) (fun g h1 _ _ => hb.block g h1)).store (g := w.heap.size) (off := 0) rfl (i := k) hkx us hu 70 (by rw [hu]; kernel_rfl) h1)
        have hstep := hide (fun (w2 : World) (d2 : Nat → Path) (e2 : EnS) (hb : Below wr.heap.size wr w2) (ho : enK.Own w2 wr.heap.size d2 (p ++ [k]) e2 x) => hup.step hx (fun g hg => hb.block g hg) (d2 := joinD wr.heap.size d d2) (fun g hg => joinD_lt hg) (enK.base (Kd.right enK ho (Nat.le_refl _)) (Nat.le_of_lt hsw)) (g := w.heap.size) (off := 0) rfl)
        have HB := hide hbr
        have i1 : (0 : Int) ≤ (k : Int) := by omega
        have i2 : (k : Int) < (len : Int) := by omega
        clear hup hbr c o hx mx hkx
        go_wp2_with (refine wpList_load_eq rfl 65 _ rfl _ _ rfl ((unhide HLD) _ (by first | exact Below.refl _ _ | exact (Below.refl _ _).drew)) ?_)
        refine ((unhide HT) _ (by first | exact Below.refl _ _ | exact (Below.refl _ _).drew)).mono ?_
        rintro r w2 ⟨e2, d2, rfl, o2, b2⟩
        have b2' : Below wr.heap.size wr w2 := by first | exact b2 | exact Below.trans ((Below.refl _ _).drew) b2
        have HS := hide ((unhide HST) w2 b2' (evals e2 x).toList rfl (evals_one _ _))
        have HN := hide ((unhide hstep) w2 d2 e2 b2' o2)
        have HB2 := hide (putRow_below (evals e2 x).toList w w2 w.heap.size w.heap.size (k * 14) ((unhide HB).trans (b2'.mono (unhide HB).size)) (Nat.le_refl _))
        have hs2 : w.heap.size < (putRow w2 w.heap.size (k * 14) (evals e2 x).toList).heap.size := by rw [putRow_size]; exact Nat.lt_of_lt_of_le hsw b2'.size
        simp only [Nat.zero_add, show enK.m = 14 from rfl, enK_vals] at HS HN
        obtain ⟨W2, eW2⟩ : ∃ W, putRow w2 w.heap.size (k * 14) (evals e2 x).toList = W := ⟨_, rfl⟩
        rw [eW2] at HS HN HB2 hs2
        clear o2 b2 b2' HST hstep eW2
        have HV : Hid ((evals e2 x).toList.toArray = evals e2 x) := rfl
        rw [unhide HV] at HS
        generalize evals e2 x = V at HS
        go_wp2_with (refine wpList_store_eq rfl 70 _ _ rfl _ _ rfl rfl _ (unhide HS) ?_)
        go_roundw
        case rel => exact ⟨k + 1, joinD wr.heap.size d d2, by omega, by go_num, unhide HN, hs2, unhide HB2⟩
        case measure => simp [intOf]; omega
      · obtain rfl : k = len := by omega
        have HU := hide hup
        have HB := hide hbr
        clear hup hbr
        go_wp2_with fail
        go_ret
        refine ⟨⟨some ⟨w.heap.size, 0, none⟩, k, k⟩, d, rfl, ?_, unhide HB⟩
        show RowPart enK _ _ _ _ _ _ xs xs.length
        rw [← unhide HL]
        exact unhide HU

set_option maxHeartbeats 4000000 in
theorem toStore_any (p : Path) (s : Sl) (x : St) (w : World) (o : RowOk enK w s x.2) (m : StSm x) :
    Calls Tryz.prog 6 #[.agg (tvals s x)] w fun e w' => ∃ (t : Sl) (d : Nat → Path), e = .returned (.agg (tvals t x)) ∧ ensK.Own w' w.heap.size d p t x.2 ∧ Below w.heap.size w w' := by
  obtain ⟨c, xs⟩ := x
  have o' : RowOk enK w s xs := o
  have HC := hide (fun (W : World) => toConfig_any c W)
  have HT := hide (fun (W : World) (hb : Below w.heap.size w W) => toEntryS_any p s xs W (RowOk.below o' hb (Nat.le_refl _)) m.n m.e)
  obtain ⟨k0, k1, k2, K0, hsz⟩ := three_blk w (tvals s (c, xs)) #[.int .i64 0, .int .i64 0, .int .i64 0, .slice none 0 0] #[.int .i64 0, .int .i64 0, .int .i64 0, .slice none 0 0] 26 35 35
  obtain ⟨W0, e0⟩ : ∃ W0, ((w.alloc (.cells (tvals s (c, xs)) 26)).alloc (.cells #[.int .i64 0, .int .i64 0, .int .i64 0, .slice none 0 0] 35)).alloc (.cells #[.int .i64 0, .int .i64 0, .int .i64 0, .slice none 0 0] 35) = W0 := ⟨_, rfl⟩
  rw [e0] at k0 k1 k2 K0 hsz
  have E0 := hide e0
  clear e0 o o' m
  unfold cfvals at HC
  unfold tvals at E0 k0 ⊢
  dsimp only at E0 k0 ⊢
  have x0 := k0.cell 0
  have x1 := k0.cell 1
  have x2 := k0.cell 2
  simp only [List.getElem?_cons_zero, List.getElem?_cons_succ] at x0 x1 x2
  go_enter Tryz.func6, Tryz.ntmps6
  go_upto_region 2 with fail
  rw [unhide E0]
  clear E0
  have Q := hide (And.intro k0 (And.intro k1 (And.intro k2 (And.intro K0 hsz))))
  clear k0 k1 k2 K0 hsz
  go_wp2_with fail
  refine ((unhide HC) _).mono ?_
  rintro r w1 ⟨rfl, b1⟩
  obtain ⟨k0, k1, k2, K0, hsz⟩ := unhide Q
  have k0 := k0.below b1 (by omega)
  have k1 := k1.below b1 (by omega)
  have k2 := k2.below b1 (by omega)
  have K1 := K0.trans (b1.mono (by omega))
  have hs1 : w.heap.size + 3 ≤ w1.heap.size := Nat.le_trans (Nat.le_of_eq hsz.symm) b1.size
  have x3 := k0.cell 3
  have u0 := k2.cell 0
  have u1 := k2.cell 1
  have u2 := k2.cell 2
  have f0 := k2.free 0
  have f1 := k2.free 1
  have f2 := k2.free 2
  simp only [List.getElem?_cons_zero, List.getElem?_cons_succ] at x3 u0 u1 u2
  have R := hide (And.intro k1 (And.intro k2 (And.intro K1 hs1)))
  clear k0 k1 k2 K0 hsz K1 hs1 b1 Q x0 x1 x2
  go_wp2_with fail
  obtain ⟨k1, k2, K1, hs1⟩ := unhide R
  clear R x3 u0 u1 u2 f0 f1 f2
  have k1 := ((k1.other (g' := w.heap.size + 2) (i := 0) (v := .int .i64 c.1) (by omega)).other (g' := w.heap.size + 2) (i := 1) (v := .int .i64 c.2.1) (by omega)).other (g' := w.heap.size + 2) (i := 2) (v := .int .i64 c.2.2) (by omega)
  have k2 := ((k2.set 0 (.int .i64 c.1)).set 1 (.int .i64 c.2.1)).set 2 (.int .i64 c.2.2)
  have K1 := ((K1.setCell (p := ⟨w.heap.size + 2, 0, none⟩) (by show w.heap.size ≤ w.heap.size + 2; omega) (.int .i64 c.1)).setCell (p := ⟨w.heap.size + 2, 1, none⟩) (by show w.heap.size ≤ w.heap.size + 2; omega) (.int .i64 c.2.1)).setCell (p := ⟨w.heap.size + 2, 2, none⟩) (by show w.heap.size ≤ w.heap.size + 2; omega) (.int .i64 c.2.2)
  have hz1 : (((w1.setCell ⟨w.heap.size + 2, 0, none⟩ (.int .i64 c.1)).setCell ⟨w.heap.size + 2, 1, none⟩ (.int .i64 c.2.1)).setCell ⟨w.heap.size + 2, 2, none⟩ (.int .i64 c.2.2)).heap.size = w1.heap.size := by rw [size_set', size_set', size_set']
  generalize (((w1.setCell ⟨w.heap.size + 2, 0, none⟩ (.int .i64 c.1)).setCell ⟨w.heap.size + 2, 1, none⟩ (.int .i64 c.2.1)).setCell ⟨w.heap.size + 2, 2, none⟩ (.int .i64 c.2.2)) = W1 at k1 k2 K1 hz1 ⊢
  refine ((unhide HT) _ K1).mono ?_
  rintro r w2 ⟨t, d, rfl, q, b2⟩
  have k1 := k1.below b2 (by omega)
  have k2 := k2.below b2 (by omega)
  have K2 := K1.trans (b2.mono (by omega))
  have m2 := Kd.made _ q
  simp only [List.set_cons_zero, List.set_cons_succ] at k2
  have u0 := k2.cell 0
  have u1 := k2.cell 1
  have u2 := k2.cell 2
  have u3 := k2.cell 3
  have f3 := k2.free 3
  have r0 := k1.cell 0
  have r1 := k1.cell 1
  have r2 := k1.cell 2
  have r3 := k1.cell 3
  have q0 := k1.free 0
  have q1 := k1.free 1
  have q2 := k1.free 2
  have q3 := k1.free 3
  simp only [List.getElem?_cons_zero, List.getElem?_cons_succ] at u0 u1 u2 u3 r0 r1 r2 r3
  have Q := hide (And.intro K2 (And.intro m2 (And.intro hz1 hs1)))
  clear k1 k2 K1 K2 m2 hz1 hs1 b2 q HT HC
  go_wp2_with fail
  obtain ⟨K2, m2, hz1, hs1⟩ := unhide Q
  refine bodyPost_ret (v := .agg #[.int .i64 c.1, .int .i64 c.2.1, .int .i64 c.2.2, .slice t.a t.n t.c]) (by simp [results, Tryz.results6, go_sem, r0, r1, r2, r3]) rfl ⟨t, d, rfl, ?_, ?_⟩
  · have m3 := ((((m2.set (q := ⟨w.heap.size + 2, 3, none⟩) (by show w.heap.size + 2 < _; omega) (.slice t.a t.n t.c)).set (q := ⟨w.heap.size + 1, 0, none⟩) (by show w.heap.size + 1 < _; omega) (.int .i64 c.1)).set (q := ⟨w.heap.size + 1, 1, none⟩) (by show w.heap.size + 1 < _; omega) (.int .i64 c.2.1)).set (q := ⟨w.heap.size + 1, 2, none⟩) (by show w.heap.size + 1 < _; omega) (.int .i64 c.2.2)).set (q := ⟨w.heap.size + 1, 3, none⟩) (by show w.heap.size + 1 < _; omega) (.slice t.a t.n t.c)
    exact ensK.base (m3 d (fun g _ _ => rfl)) (by omega)
  · exact ((((K2.setCell (p := ⟨w.heap.size + 2, 3, none⟩) (by show w.heap.size ≤ w.heap.size + 2; omega) (.slice t.a t.n t.c)).setCell (p := ⟨w.heap.size + 1, 0, none⟩) (by show w.heap.size ≤ w.heap.size + 1; omega) (.int .i64 c.1)).setCell (p := ⟨w.heap.size + 1, 1, none⟩) (by show w.heap.size ≤ w.heap.size + 1; omega) (.int .i64 c.2.1)).setCell (p := ⟨w.heap.size + 1, 2, none⟩) (by show w.heap.size ≤ w.heap.size + 1; omega) (.int .i64 c.2.2)).setCell (p := ⟨w.heap.size + 1, 3, none⟩) (by show w.heap.size ≤ w.heap.size + 1; omega) (.slice t.a t.n t.c)

end Go.Proofs.YtldiilmpmcbjkaaGreatDoor

/- What is proved here: how arguments that are entries and stores read. -/
namespace Go.Proofs.YtldiilmpmcbjkaaGreatDoor
open Go.RowKit
set_option linter.unusedVariables false
set_option maxRecDepth 100000

section
variable {H : Type} {enc : TypeId × Value → H} {w : World} {sp : Nat → Bool} {held : Bool}

theorem opens_ints {P : Program} {t tu : TypeId} (us : P.underlying t = some (.slice tu)) (uu : P.underlying tu = some (.int .i64)) (cu : P.cellsOf tu = 1) : Opens enc P w sp held intsK t := by
  intro fuel cs y hl h
  obtain ⟨v, rfl⟩ := one_cell hl
  rcases ChangeShapes.open_ints us uu cu h with ⟨e2, _⟩ | ⟨sa, sl, sc, zs, e2, _, hsl, hsm, hzl, _, hzc, hzw⟩
  · simp only [List.cons.injEq, and_true] at e2
    subst e2
    exact ⟨⟨none, 0, 0⟩, [], rfl, ⟨rfl, trivial, fun _ => rfl, fun y hy => by cases hy⟩, Nat.le_refl _, Nat.zero_le _, fun _ => rfl⟩
  · simp only [List.cons.injEq, and_true] at e2
    subst e2
    have hzl' : sl ≤ zs.length := by rw [hzl]; split <;> omega
    refine ⟨⟨some sa, sl, sc⟩, zs.take sl, rfl, ⟨by simp; omega, trivial, (fun e => (by cases e)), fun y hy j hj => ?_⟩, hsl, hsm, fun e => by cases e⟩
    cases hy
    have hj' : j < sl := hj
    rw [hzc j (by omega), getD_at _ j (by omega), getD_at _ j (by simp; omega), List.getElem_take]

theorem opensHdr : Opens enc Tryz.prog w sp held (hdK) 63 := by
  intro fuel cs y hl h
  have hl' : cs.length = 11 := hl
  have f0 := opens_field (K := bytesK) Tryz.underlying63 h 0 _ rfl rfl rfl (by kernel_rfl) (opens_bytes Tryz.underlying60 Tryz.underlying5 (by kernel_rfl)) (by show 0 + 1 ≤ cs.length; omega)
  have f1 := opens_field (K := intK) Tryz.underlying63 h 1 _ rfl rfl rfl (by kernel_rfl) (opens_int Tryz.underlying2) (by show 1 + 1 ≤ cs.length; omega)
  have f2 := opens_field (K := intK) Tryz.underlying63 h 2 _ rfl rfl rfl (by kernel_rfl) (opens_int Tryz.underlying2) (by show 2 + 1 ≤ cs.length; omega)
  have f3 := opens_field (K := intK) Tryz.underlying63 h 3 _ rfl rfl rfl (by kernel_rfl) (opens_int Tryz.underlying2) (by show 3 + 1 ≤ cs.length; omega)
  have f4 := opens_field (K := bytesK) Tryz.underlying63 h 4 _ rfl rfl rfl (by kernel_rfl) (opens_bytes Tryz.underlying60 Tryz.underlying5 (by kernel_rfl)) (by show 4 + 1 ≤ cs.length; omega)
  have f5 := opens_field (K := intK) Tryz.underlying63 h 5 _ rfl rfl rfl (by kernel_rfl) (opens_int Tryz.underlying2) (by show 5 + 1 ≤ cs.length; omega)
  have f6 := opens_field (K := bssK) Tryz.underlying63 h 6 _ rfl rfl rfl (by kernel_rfl) (opens_row Tryz.underlying61 (by kernel_rfl) (by decide) (opens_bytes Tryz.underlying60 Tryz.underlying5 (by kernel_rfl))) (by show 6 + 1 ≤ cs.length; omega)
  have f7 := opens_field (K := bytesK) Tryz.underlying63 h 7 _ rfl rfl rfl (by kernel_rfl) (opens_bytes Tryz.underlying60 Tryz.underlying5 (by kernel_rfl)) (by show 7 + 1 ≤ cs.length; omega)
  have f8 := opens_field (K := bytesK) Tryz.underlying63 h 8 _ rfl rfl rfl (by kernel_rfl) (opens_bytes Tryz.underlying60 Tryz.underlying5 (by kernel_rfl)) (by show 8 + 1 ≤ cs.length; omega)
  have f9 := opens_field (K := bytesK) Tryz.underlying63 h 9 _ rfl rfl rfl (by kernel_rfl) (opens_bytes Tryz.underlying60 Tryz.underlying5 (by kernel_rfl)) (by show 9 + 1 ≤ cs.length; omega)
  have f10 := opens_field (K := bssK) Tryz.underlying63 h 10 _ rfl rfl rfl (by kernel_rfl) (opens_row Tryz.underlying61 (by kernel_rfl) (by decide) (opens_bytes Tryz.underlying60 Tryz.underlying5 (by kernel_rfl))) (by show 10 + 1 ≤ cs.length; omega)
  match cs, hl' with
  | [c0, c1, c2, c3, c4, c5, c6, c7, c8, c9, c10], _ =>
    replace f0 : ∃ e x, [c0] = (bytesK).vals e x ∧ (bytesK).Ok w e x := f0
    obtain ⟨e0, x0, q0, r0⟩ := f0
    replace f1 : ∃ e x, [c1] = (intK).vals e x ∧ (intK).Ok w e x := f1
    obtain ⟨e1, x1, q1, r1⟩ := f1
    replace f2 : ∃ e x, [c2] = (intK).vals e x ∧ (intK).Ok w e x := f2
    obtain ⟨e2, x2, q2, r2⟩ := f2
    replace f3 : ∃ e x, [c3] = (intK).vals e x ∧ (intK).Ok w e x := f3
    obtain ⟨e3, x3, q3, r3⟩ := f3
    replace f4 : ∃ e x, [c4] = (bytesK).vals e x ∧ (bytesK).Ok w e x := f4
    obtain ⟨e4, x4, q4, r4⟩ := f4
    replace f5 : ∃ e x, [c5] = (intK).vals e x ∧ (intK).Ok w e x := f5
    obtain ⟨e5, x5, q5, r5⟩ := f5
    replace f6 : ∃ e x, [c6] = (bssK).vals e x ∧ (bssK).Ok w e x := f6
    obtain ⟨e6, x6, q6, r6⟩ := f6
    replace f7 : ∃ e x, [c7] = (bytesK).vals e x ∧ (bytesK).Ok w e x := f7
    obtain ⟨e7, x7, q7, r7⟩ := f7
    replace f8 : ∃ e x, [c8] = (bytesK).vals e x ∧ (bytesK).Ok w e x := f8
    obtain ⟨e8, x8, q8, r8⟩ := f8
    replace f9 : ∃ e x, [c9] = (bytesK).vals e x ∧ (bytesK).Ok w e x := f9
    obtain ⟨e9, x9, q9, r9⟩ := f9
    replace f10 : ∃ e x, [c10] = (bssK).vals e x ∧ (bssK).Ok w e x := f10
    obtain ⟨e10, x10, q10, r10⟩ := f10
    refine ⟨⟨e0, e4, e6, e7, e8, e9, e10⟩, ⟨x0, x1, x2, x3, x4, x5, x6, x7, x8, x9, x10⟩, ?_, r0, r1, r2, r3, r4, r5, r6, r7, r8, r9, r10⟩
    show [c0, c1, c2, c3, c4, c5, c6, c7, c8, c9, c10] = (bytesK).vals e0 x0 ++ ((intK).vals e1 x1 ++ ((intK).vals e2 x2 ++ ((intK).vals e3 x3 ++ ((bytesK).vals e4 x4 ++ ((intK).vals e5 x5 ++ ((bssK).vals e6 x6 ++ ((bytesK).vals e7 x7 ++ ((bytesK).vals e8 x8 ++ ((bytesK).vals e9 x9 ++ ((bssK).vals e10 x10))))))))))
    rw [← q0, ← q1, ← q2, ← q3, ← q4, ← q5, ← q6, ← q7, ← q8, ← q9, ← q10]
    rfl

theorem opensEntry : Opens enc Tryz.prog w sp held (enK) 65 := by
  intro fuel cs y hl h
  have hl' : cs.length = 14 := hl
  have f0 := opens_field (K := hdK) Tryz.underlying65 h 0 _ rfl rfl rfl (by kernel_rfl) opensHdr (by show 0 + 11 ≤ cs.length; omega)
  have f1 := opens_field (K := bytesK) Tryz.underlying65 h 1 _ rfl rfl rfl (by kernel_rfl) (opens_bytes Tryz.underlying60 Tryz.underlying5 (by kernel_rfl)) (by show 11 + 1 ≤ cs.length; omega)
  have f2 := opens_field (K := intK) Tryz.underlying65 h 2 _ rfl rfl rfl (by kernel_rfl) (opens_int Tryz.underlying2) (by show 12 + 1 ≤ cs.length; omega)
  have f3 := opens_field (K := intsK) Tryz.underlying65 h 3 _ rfl rfl rfl (by kernel_rfl) (opens_ints Tryz.underlying28 Tryz.underlying2 (by kernel_rfl)) (by show 13 + 1 ≤ cs.length; omega)
  match cs, hl' with
  | [c0, c1, c2, c3, c4, c5, c6, c7, c8, c9, c10, c11, c12, c13], _ =>
    replace f0 : ∃ e x, [c0, c1, c2, c3, c4, c5, c6, c7, c8, c9, c10] = (hdK).vals e x ∧ (hdK).Ok w e x := f0
    obtain ⟨e0, x0, q0, r0⟩ := f0
    replace f1 : ∃ e x, [c11] = (bytesK).vals e x ∧ (bytesK).Ok w e x := f1
    obtain ⟨e1, x1, q1, r1⟩ := f1
    replace f2 : ∃ e x, [c12] = (intK).vals e x ∧ (intK).Ok w e x := f2
    obtain ⟨e2, x2, q2, r2⟩ := f2
    replace f3 : ∃ e x, [c13] = (intsK).vals e x ∧ (intsK).Ok w e x := f3
    obtain ⟨e3, x3, q3, r3⟩ := f3
    refine ⟨(e0, e1, e2, e3), (x0, x1, x2, x3), ?_, r0, r1, r2, r3⟩
    show [c0, c1, c2, c3, c4, c5, c6, c7, c8, c9, c10, c11, c12, c13] = (hdK).vals e0 x0 ++ ((bytesK).vals e1 x1 ++ ((intK).vals e2 x2 ++ ((intsK).vals e3 x3)))
    rw [← q0, ← q1, ← q2, ← q3]
    rfl

def cfgK : Kd Cf (Unit × Unit × Unit) := pairK intK (pairK intK intK)
theorem opensConfig : Opens enc Tryz.prog w sp held (cfgK) 23 := by
  intro fuel cs y hl h
  have hl' : cs.length = 3 := hl
  have f0 := opens_field (K := intK) Tryz.underlying23 h 0 _ rfl rfl rfl (by kernel_rfl) (opens_int Tryz.underlying2) (by show 0 + 1 ≤ cs.length; omega)
  have f1 := opens_field (K := intK) Tryz.underlying23 h 1 _ rfl rfl rfl (by kernel_rfl) (opens_int Tryz.underlying2) (by show 1 + 1 ≤ cs.length; omega)
  have f2 := opens_field (K := intK) Tryz.underlying23 h 2 _ rfl rfl rfl (by kernel_rfl) (opens_int Tryz.underlying2) (by show 2 + 1 ≤ cs.length; omega)
  match cs, hl' with
  | [c0, c1, c2], _ =>
    replace f0 : ∃ e x, [c0] = (intK).vals e x ∧ (intK).Ok w e x := f0
    obtain ⟨e0, x0, q0, r0⟩ := f0
    replace f1 : ∃ e x, [c1] = (intK).vals e x ∧ (intK).Ok w e x := f1
    obtain ⟨e1, x1, q1, r1⟩ := f1
    replace f2 : ∃ e x, [c2] = (intK).vals e x ∧ (intK).Ok w e x := f2
    obtain ⟨e2, x2, q2, r2⟩ := f2
    refine ⟨(e0, e1, e2), (x0, x1, x2), ?_, r0, r1, r2⟩
    show [c0, c1, c2] = (intK).vals e0 x0 ++ ((intK).vals e1 x1 ++ ((intK).vals e2 x2))
    rw [← q0, ← q1, ← q2]
    rfl

def stoK : Kd St ((Unit × Unit × Unit) × Sl) := pairK cfgK ensK
theorem opensStore : Opens enc Tryz.prog w sp held stoK 26 := by
  intro fuel cs y hl h
  have hl' : cs.length = 4 := hl
  have f0 := opens_field (K := cfgK) Tryz.underlying26 h 0 _ rfl rfl rfl (by kernel_rfl) opensConfig (by show 0 + 3 ≤ cs.length; omega)
  have f1 := opens_field (K := ensK) Tryz.underlying26 h 1 _ rfl rfl rfl (by kernel_rfl) (opens_row Tryz.underlying24 (by kernel_rfl) (by decide) opensEntry) (by show 3 + 1 ≤ cs.length; omega)
  match cs, hl' with
  | [c0, c1, c2, c3], _ =>
    replace f0 : ∃ e x, [c0, c1, c2] = cfgK.vals e x ∧ cfgK.Ok w e x := f0
    replace f1 : ∃ e x, [c3] = ensK.vals e x ∧ ensK.Ok w e x := f1
    obtain ⟨e0, x0, q0, r0⟩ := f0
    obtain ⟨e1, x1, q1, r1⟩ := f1
    refine ⟨(e0, e1), (x0, x1), ?_, r0, r1⟩
    show [c0, c1, c2] ++ [c3] = cfgK.vals e0 x0 ++ ensK.vals e1 x1
    rw [← q0, ← q1]

theorem open_store {v : Value} {d : DataW H} {ps : List MemPlace} (hv : ∃ cs, v = .agg cs ∧ cs.size = Tryz.prog.cellsOf 26) (h : DataW.Trod enc Tryz.prog w 0 sp held 26 v d ps) :
    ∃ (t : Sl) (x : St), v = .agg (tvals t x) ∧ RowOk enK w t x.2 := by
  obtain ⟨e, x, q, r⟩ := opens_arg opensStore hv (by kernel_rfl) h
  exact ⟨e.2, x, q, r.2⟩
end

end Go.Proofs.YtldiilmpmcbjkaaGreatDoor
