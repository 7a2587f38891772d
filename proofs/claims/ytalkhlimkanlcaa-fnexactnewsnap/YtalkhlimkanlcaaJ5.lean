/- What is proved here: the contracts of the laws' helper functions that count recents and votes (szRecentS, szVoteS). -/
import Derived.Test.YtalkhlimkanlcaaChecked
import Derived.Test.YtalkhlimkanlcaaJ1
import Derived.Test.YtalkhlimkanlcaaJ4
import Derived.WalkKit
import Derived.WalkLawsBesides
import Derived.WalkSmall
import Derived.Deep.RegionWith
import Derived.KernelRfl
import Derived.WalkSpells
import Derived.Test.YtalkhlimkanlcaaJ3
namespace Go.Proofs.Ytalkhlimkanlcaa
open Go.RowKit
set_option linter.unusedVariables false
set_option maxRecDepth 100000

theorem szRecent_any (n0 : Int) (s1 : Sl) (z1 : List Int) (left : Int) (w : World) (o0 : BOk w s1 z1) (h0 : 0 ≤ left) (h1 : left ≤ 1099511627776) :
    Calls Try.prog 72 #[.agg #[.int .i64 n0, .slice s1.a s1.n s1.c], .int .i64 left] w fun e w' => e = .returned (.int .i64 (szOf left (rcSz (n0, z1)))) ∧ Below w.heap.size w w' := by
  have HB := hide (below_alloc w (.cells #[.int .i64 n0, .slice s1.a s1.n s1.c] 95))
  have l0 : z1.length = s1.n := o0.row.1
  have HS0 := hide (fun (W : World) (L : Int) (q0 : 0 ≤ L) (q1 : L ≤ 1099511627776) => szByteS_any s1.a s1.n s1.c L W q0 q1 (Nat.le_trans o0.room o0.max))
  have e0 : rcSz (n0, z1) = s1.n := by simp only [rcSz]; omega
  rw [e0]
  clear e0 l0 o0
  by_cases c0 : left - s1.n < 0
  · have D0 := hide (fun W => (unhide HS0) W left (by omega) (by omega))
    rw [if_pos c0] at D0
    go_enter Try.func72, Try.ntmps72
    go_wp2_with fail
    refine ((unhide D0) _).mono ?_
    rintro e w' ⟨rfl, rfl⟩
    go_wp2_with fail
    go_ret
    exact ⟨ret_int (by unfold szOf; rw [if_pos (by omega)]), unhide HB⟩
  · have D0 := hide (fun W => (unhide HS0) W left (by omega) (by omega))
    rw [if_neg c0] at D0
    obtain ⟨L1, eL1⟩ : ∃ L : Int, L = left - s1.n := ⟨_, rfl⟩
    rw [← eL1] at D0
    have d0 : decide (L1 < 0) = false := decide_eq_false (by omega)
    have EL1 := hide eL1
    have q0 : 0 ≤ L1 ∧ L1 ≤ 1099511627776 := by omega
    clear eL1
    go_enter Try.func72, Try.ntmps72
    go_wp2_with fail
    refine ((unhide D0) _).mono ?_
    rintro e w' ⟨rfl, rfl⟩
    go_wp2_with fail
    go_ret
    have eL1 := unhide EL1; exact ⟨ret_int (by unfold szOf; rw [if_neg (by omega)]; omega), unhide HB⟩

set_option maxHeartbeats 1000000 in
theorem szRecentS_any (s : Sl) (xs : List Rc) (left : Int) (w : World) (h : RowOk rcK w s xs) (h0 : 0 ≤ left) (h1 : left ≤ 1099511627776) :
    Calls Try.prog 34 #[.slice s.a s.n s.c, .int .i64 left] w fun e w' => e = .returned (.int .i64 (szOf left (xs.length + lsum rcSz xs))) ∧ Below w.heap.size w w' := by
  obtain ⟨a, len, cap⟩ := s
  have hil : len = xs.length := h.len
  have hl : len ≤ maxLen := Nat.le_trans h.room h.max
  unfold maxLen at hl
  rw [← hil]
  by_cases hs : left - len < 0
  · have e : szOf left (len + lsum rcSz xs) = -1 := by unfold szOf; rw [if_pos (by omega)]
    rw [e]
    have hd : decide (left - (len : Int) < 0) = true := decide_eq_true hs
    clear h
    go_enter Try.func34, Try.ntmps34
    go_wp2_with fail
    go_ret
    exact ⟨rfl, Below.refl _ _⟩
  · have hd : decide (left - (len : Int) < 0) = false := decide_eq_false hs
    rcases Nat.eq_zero_or_pos len with hz | hp
    · subst hz
      obtain rfl : xs = [] := List.length_eq_zero_iff.1 hil.symm
      clear h hil hl hd hs
      have hd : decide (left < 0) = false := decide_eq_false (by omega)
      have HE : Hid (szOf left (0 + lsum rcSz ([] : List Rc)) = left) := by show _ = _; unfold szOf lsum; simp; omega
      go_enter Try.func34, Try.ntmps34
      go_wp2_with fail
      refine wp_loop_rounds 1 ?_
      rw [rounds_succ]
      go_wp2_with fail
      go_ret
      exact ⟨ret_int (by rw [unhide HE]), Below.refl _ _⟩
    · obtain ⟨b, off, rfl, hb, hc⟩ := h.pos hp
      have HC := hide (fun (W : World) (hbl : Below w.heap.size w W) (i : Nat) (x : Rc) (hx : xs[i]? = some x) => match hc i x hx with | ⟨e, c, o⟩ => (⟨e, fun j v hv => (hbl.cell (p := ⟨b, off + i * rcK.m + j, none⟩) hb).trans (c j v hv), rcK.below o hbl (Nat.le_refl _)⟩ : ∃ e, (∀ j v, (rcK.vals e x)[j]? = some v → W.cell? ⟨b, off + i * rcK.m + j, none⟩ = some v) ∧ rcK.Ok W e x))
      have HL := hide hil
      clear h hc hil
      go_enter Try.func34, Try.ntmps34
      go_wp2_with fail
      go_loopw [1, 5] (fun q i wr => ∃ (k : Nat) (L : Int), k ≤ len ∧ i = .int .i64 k ∧ q = .int .i64 L ∧ 0 ≤ L ∧ L = left - len - (lsum rcSz (xs.take k) : Nat) ∧ Below w.heap.size w wr) (fun _ i _ => len - (intOf i).toNat)
      case atStart => exact ⟨0, _, Nat.zero_le _, rfl, rfl, by omega, by simp [lsum], Below.refl _ _⟩
      case round =>
        obtain ⟨k, L, hk, rfl, rfl, hL0, hL1, hbr⟩ := hrel
        by_cases hlt : k < len
        · obtain ⟨x, hx⟩ : ∃ x, xs[k]? = some x := ⟨_, List.getElem?_eq_getElem (by rw [← unhide HL]; exact hlt)⟩
          have hsum := lsum_succ rcSz xs k x hx
          have htk := lsum_take rcSz xs (k + 1)
          obtain ⟨⟨⟨⟩, s1⟩, c, o⟩ := (unhide HC) wr hbr k x hx
          obtain ⟨n0, z1⟩ := x
          have c0 := c 0 _ rfl
          have c1 := c 1 _ rfl
          simp only [Nat.add_zero, show rcK.m = 2 from rfl] at c0 c1
          have HZ := hide (fun (W : World) (hbl : Below wr.heap.size wr W) => szRecent_any n0 s1 z1 L W (bytesK.below o.2 hbl (Nat.le_refl _)) hL0 (by omega))
          have HB := hide hbr
          have i1 : (0 : Int) ≤ (k : Int) := by omega
          have i2 : (k : Int) < (len : Int) := by omega
          have hL2 : L ≤ left := by omega
          generalize rcSz (n0, z1) = sz at HZ hsum
          have HN := hide (And.intro hL1 (And.intro hsum htk))
          have HL0 := hide hL2
          clear c o hbr hx hsum htk hL1 hL2
          by_cases hneg : L - sz < 0
          · have e1 : szOf L sz = -1 := if_pos hneg
            rw [e1] at HZ
            go_wp2_with fail
            refine ((unhide HZ) _ (by first | exact Below.refl _ _ | exact (Below.refl _ _).drew)).mono ?_
            rintro e w1 ⟨rfl, b1⟩
            go_wp2_with fail
            go_ret
            obtain ⟨a1, a2, a3⟩ := unhide HN
            exact ⟨ret_int (by unfold szOf; rw [if_pos (by omega)]), (unhide HB).trans (b1.mono (unhide HB).size)⟩
          · have e1 : szOf L sz = L - sz := if_neg hneg
            rw [e1] at HZ
            have hd2 : decide (L - (sz : Int) < 0) = false := decide_eq_false hneg
            go_wp2_with fail
            refine ((unhide HZ) _ (by first | exact Below.refl _ _ | exact (Below.refl _ _).drew)).mono ?_
            rintro e w1 ⟨rfl, b1⟩
            go_wp2_with fail
            go_roundw
            case rel => exact ⟨k + 1, L - sz, by omega, by go_num, rfl, by omega, by obtain ⟨a1, a2, a3⟩ := unhide HN; omega, (unhide HB).trans (b1.mono (unhide HB).size)⟩
            case measure => simp [intOf]; omega
        · obtain rfl : k = len := by omega
          rw [List.take_of_length_le (by rw [← unhide HL]; exact Nat.le_refl _)] at hL1
          have HR := hide hL1
          clear hL1
          go_wp2_with fail
          go_ret
          have hR := unhide HR
          exact ⟨ret_int (by unfold szOf; rw [if_neg (by omega)]; omega), hbr⟩

theorem szVote_any (s0 : Sl) (z0 : List Int) (s1 : Sl) (z1 : List Int) (b2 : Bool) (left : Int) (w : World) (o0 : BOk w s0 z0) (o1 : BOk w s1 z1) (h0 : 0 ≤ left) (h1 : left ≤ 1099511627776) :
    Calls Try.prog 73 #[.agg #[.slice s0.a s0.n s0.c, .slice s1.a s1.n s1.c, .bool b2], .int .i64 left] w fun e w' => e = .returned (.int .i64 (szOf left (vtSz (z0, z1, b2)))) ∧ Below w.heap.size w w' := by
  have HB := hide (below_alloc w (.cells #[.slice s0.a s0.n s0.c, .slice s1.a s1.n s1.c, .bool b2] 97))
  have l0 : z0.length = s0.n := o0.row.1
  have HS0 := hide (fun (W : World) (L : Int) (q0 : 0 ≤ L) (q1 : L ≤ 1099511627776) => szByteS_any s0.a s0.n s0.c L W q0 q1 (Nat.le_trans o0.room o0.max))
  have l1 : z1.length = s1.n := o1.row.1
  have HS1 := hide (fun (W : World) (L : Int) (q0 : 0 ≤ L) (q1 : L ≤ 1099511627776) => szByteS_any s1.a s1.n s1.c L W q0 q1 (Nat.le_trans o1.room o1.max))
  have e0 : vtSz (z0, z1, b2) = s0.n + s1.n := by simp only [vtSz]; omega
  rw [e0]
  clear e0 l0 l1 o0 o1
  by_cases c0 : left - s0.n < 0
  · have D0 := hide (fun W => (unhide HS0) W left (by omega) (by omega))
    rw [if_pos c0] at D0
    go_enter Try.func73, Try.ntmps73
    go_wp2_with fail
    refine ((unhide D0) _).mono ?_
    rintro e w' ⟨rfl, rfl⟩
    go_wp2_with fail
    go_ret
    exact ⟨ret_int (by unfold szOf; rw [if_pos (by omega)]), unhide HB⟩
  · have D0 := hide (fun W => (unhide HS0) W left (by omega) (by omega))
    rw [if_neg c0] at D0
    obtain ⟨L1, eL1⟩ : ∃ L : Int, L = left - s0.n := ⟨_, rfl⟩
    rw [← eL1] at D0
    have d0 : decide (L1 < 0) = false := decide_eq_false (by omega)
    have EL1 := hide eL1
    have q0 : 0 ≤ L1 ∧ L1 ≤ 1099511627776 := by omega
    clear eL1
    go_enter Try.func73, Try.ntmps73
    go_wp2_with fail
    refine ((unhide D0) _).mono ?_
    rintro e w' ⟨rfl, rfl⟩
    by_cases c1 : L1 - s1.n < 0
    · have D1 := hide (fun W => (unhide HS1) W L1 (by omega) (by omega))
      rw [if_pos c1] at D1
      go_wp2_with fail
      refine ((unhide D1) _).mono ?_
      rintro e w' ⟨rfl, rfl⟩
      go_wp2_with fail
      go_ret
      have eL1 := unhide EL1; exact ⟨ret_int (by unfold szOf; rw [if_pos (by omega)]), unhide HB⟩
    · have D1 := hide (fun W => (unhide HS1) W L1 (by omega) (by omega))
      rw [if_neg c1] at D1
      obtain ⟨L2, eL2⟩ : ∃ L : Int, L = L1 - s1.n := ⟨_, rfl⟩
      rw [← eL2] at D1
      have d1 : decide (L2 < 0) = false := decide_eq_false (by omega)
      have EL2 := hide eL2
      have q1 : 0 ≤ L2 ∧ L2 ≤ 1099511627776 := by omega
      clear eL2
      go_wp2_with fail
      refine ((unhide D1) _).mono ?_
      rintro e w' ⟨rfl, rfl⟩
      go_wp2_with fail
      go_ret
      have eL1 := unhide EL1; have eL2 := unhide EL2; exact ⟨ret_int (by unfold szOf; rw [if_neg (by omega)]; omega), unhide HB⟩

set_option maxHeartbeats 1000000 in
theorem szVoteS_any (s : Sl) (xs : List Vt) (left : Int) (w : World) (h : RowOk vtK w s xs) (h0 : 0 ≤ left) (h1 : left ≤ 1099511627776) :
    Calls Try.prog 35 #[.slice s.a s.n s.c, .int .i64 left] w fun e w' => e = .returned (.int .i64 (szOf left (xs.length + lsum vtSz xs))) ∧ Below w.heap.size w w' := by
  obtain ⟨a, len, cap⟩ := s
  have hil : len = xs.length := h.len
  have hl : len ≤ maxLen := Nat.le_trans h.room h.max
  unfold maxLen at hl
  rw [← hil]
  by_cases hs : left - len < 0
  · have e : szOf left (len + lsum vtSz xs) = -1 := by unfold szOf; rw [if_pos (by omega)]
    rw [e]
    have hd : decide (left - (len : Int) < 0) = true := decide_eq_true hs
    clear h
    go_enter Try.func35, Try.ntmps35
    go_wp2_with fail
    go_ret
    exact ⟨rfl, Below.refl _ _⟩
  · have hd : decide (left - (len : Int) < 0) = false := decide_eq_false hs
    rcases Nat.eq_zero_or_pos len with hz | hp
    · subst hz
      obtain rfl : xs = [] := List.length_eq_zero_iff.1 hil.symm
      clear h hil hl hd hs
      have hd : decide (left < 0) = false := decide_eq_false (by omega)
      have HE : Hid (szOf left (0 + lsum vtSz ([] : List Vt)) = left) := by show _ = _; unfold szOf lsum; simp; omega
      go_enter Try.func35, Try.ntmps35
      go_wp2_with fail
      refine wp_loop_rounds 1 ?_
      rw [rounds_succ]
      go_wp2_with fail
      go_ret
      exact ⟨ret_int (by rw [unhide HE]), Below.refl _ _⟩
    · obtain ⟨b, off, rfl, hb, hc⟩ := h.pos hp
      have HC := hide (fun (W : World) (hbl : Below w.heap.size w W) (i : Nat) (x : Vt) (hx : xs[i]? = some x) => match hc i x hx with | ⟨e, c, o⟩ => (⟨e, fun j v hv => (hbl.cell (p := ⟨b, off + i * vtK.m + j, none⟩) hb).trans (c j v hv), vtK.below o hbl (Nat.le_refl _)⟩ : ∃ e, (∀ j v, (vtK.vals e x)[j]? = some v → W.cell? ⟨b, off + i * vtK.m + j, none⟩ = some v) ∧ vtK.Ok W e x))
      have HL := hide hil
      clear h hc hil
      go_enter Try.func35, Try.ntmps35
      go_wp2_with fail
      go_loopw [1, 5] (fun q i wr => ∃ (k : Nat) (L : Int), k ≤ len ∧ i = .int .i64 k ∧ q = .int .i64 L ∧ 0 ≤ L ∧ L = left - len - (lsum vtSz (xs.take k) : Nat) ∧ Below w.heap.size w wr) (fun _ i _ => len - (intOf i).toNat)
      case atStart => exact ⟨0, _, Nat.zero_le _, rfl, rfl, by omega, by simp [lsum], Below.refl _ _⟩
      case round =>
        obtain ⟨k, L, hk, rfl, rfl, hL0, hL1, hbr⟩ := hrel
        by_cases hlt : k < len
        · obtain ⟨x, hx⟩ : ∃ x, xs[k]? = some x := ⟨_, List.getElem?_eq_getElem (by rw [← unhide HL]; exact hlt)⟩
          have hsum := lsum_succ vtSz xs k x hx
          have htk := lsum_take vtSz xs (k + 1)
          obtain ⟨⟨s0, s1, ⟨⟩⟩, c, o⟩ := (unhide HC) wr hbr k x hx
          obtain ⟨z0, z1, b2⟩ := x
          have c0 := c 0 _ rfl
          have c1 := c 1 _ rfl
          have c2 := c 2 _ rfl
          simp only [Nat.add_zero, show vtK.m = 3 from rfl] at c0 c1 c2
          have HZ := hide (fun (W : World) (hbl : Below wr.heap.size wr W) => szVote_any s0 z0 s1 z1 b2 L W (bytesK.below o.1 hbl (Nat.le_refl _)) (bytesK.below o.2.1 hbl (Nat.le_refl _)) hL0 (by omega))
          have HB := hide hbr
          have i1 : (0 : Int) ≤ (k : Int) := by omega
          have i2 : (k : Int) < (len : Int) := by omega
          have hL2 : L ≤ left := by omega
          generalize vtSz (z0, z1, b2) = sz at HZ hsum
          have HN := hide (And.intro hL1 (And.intro hsum htk))
          have HL0 := hide hL2
          clear c o hbr hx hsum htk hL1 hL2
          by_cases hneg : L - sz < 0
          · have e1 : szOf L sz = -1 := if_pos hneg
            rw [e1] at HZ
            go_wp2_with fail
            refine ((unhide HZ) _ (by first | exact Below.refl _ _ | exact (Below.refl _ _).drew)).mono ?_
            rintro e w1 ⟨rfl, b1⟩
            go_wp2_with fail
            go_ret
            obtain ⟨a1, a2, a3⟩ := unhide HN
            exact ⟨ret_int (by unfold szOf; rw [if_pos (by omega)]), (unhide HB).trans (b1.mono (unhide HB).size)⟩
          · have e1 : szOf L sz = L - sz := if_neg hneg
            rw [e1] at HZ
            have hd2 : decide (L - (sz : Int) < 0) = false := decide_eq_false hneg
            go_wp2_with fail
            refine ((unhide HZ) _ (by first | exact Below.refl _ _ | exact (Below.refl _ _).drew)).mono ?_
            rintro e w1 ⟨rfl, b1⟩
            go_wp2_with fail
            go_roundw
            case rel => exact ⟨k + 1, L - sz, by omega, by go_num, rfl, by omega, by obtain ⟨a1, a2, a3⟩ := unhide HN; omega, (unhide HB).trans (b1.mono (unhide HB).size)⟩
            case measure => simp [intOf]; omega
        · obtain rfl : k = len := by omega
          rw [List.take_of_length_le (by rw [← unhide HL]; exact Nat.le_refl _)] at hL1
          have HR := hide hL1
          clear hL1
          go_wp2_with fail
          go_ret
          have hR := unhide HR
          exact ⟨ret_int (by unfold szOf; rw [if_neg (by omega)]; omega), hbr⟩

end Go.Proofs.Ytalkhlimkanlcaa

/- What is proved here: the contracts of the laws' helper functions that compare recents and votes (eqRecentS, eqVoteS). -/
namespace Go.Proofs.Ytalkhlimkanlcaa
open Go.RowKit
set_option linter.unusedVariables false
set_option maxRecDepth 100000

theorem below_two' (w : World) (o1 o2 : Obj) : Below w.heap.size w ((w.alloc o1).alloc o2) := ((Below.refl _ _).alloc (Nat.le_refl _) _).alloc (by simp) _

theorem drop_same {α : Type} [DecidableEq α] (a b : List α) (k : Nat) (x y : α) (hx : a[k]? = some x) (hy : b[k]? = some y) : decide (a.drop k = b.drop k) = (decide (x = y) && decide (a.drop (k + 1) = b.drop (k + 1))) := by
  obtain ⟨h1, e1⟩ := List.getElem?_eq_some_iff.1 hx
  obtain ⟨h2, e2⟩ := List.getElem?_eq_some_iff.1 hy
  rw [List.drop_eq_getElem_cons h1, List.drop_eq_getElem_cons h2, e1, e2]
  simp

set_option maxHeartbeats 1000000 in
theorem eqRecent_any (n0x : Int) (s1x : Sl) (z1x : List Int) (n0y : Int) (s1y : Sl) (z1y : List Int) (w : World) (o0 : BOk w s1x z1x) (q0 : BOk w s1y z1y) (m0 : z1x.length ≤ 1048576) (t0 : z1y.length ≤ 1048576) :
    Calls Try.prog 82 #[.agg #[.int .i64 n0x, .slice s1x.a s1x.n s1x.c], .agg #[.int .i64 n0y, .slice s1y.a s1y.n s1y.c]] w fun e w' => e = .returned (.bool (decide ((n0x, z1x) = (n0y, z1y)))) ∧ Below w.heap.size w w' := by
  have HR0 := hide (fun (W : World) (hb : Below w.heap.size w W) => eqByteS_any s1x.a s1y.a s1x.n s1x.c s1y.n s1y.c z1x z1y W (o0.row.below hb (Nat.le_refl _)) (q0.row.below hb (Nat.le_refl _)) (by have := o0.row.1; omega) (by have := q0.row.1; omega))
  have HB0 := hide (below_two' w (.cells #[.int .i64 n0x, .slice s1x.a s1x.n s1x.c] 87) (.cells #[.int .i64 n0y, .slice s1y.a s1y.n s1y.c] 87))
  clear o0 q0 m0 t0
  by_cases c0 : n0x = n0y
  · subst c0
    have e0 : (n0x != n0x) = false := by simp
    go_enter Try.func82, Try.ntmps82
    go_wp2_with fail
    refine ((unhide HR0) _ (unhide HB0)).mono ?_
    rintro e w0 ⟨rfl, m0, rfl⟩
    have HB1 := hide (below_drewN (unhide HB0) m0)
    by_cases c1 : z1x = z1y
    · subst c1
      have e1 : sameB z1x z1x = true := by simp [sameB]
      rw [e1]
      go_wp2_with fail
      go_ret
      exact ⟨ret_bool (by first | rfl | exact (decide_eq_true rfl).symm), by first | exact unhide HB1 | exact below_drewN (unhide HB0) _⟩
    · have e1 : sameB z1x z1y = false := by simp [sameB, c1]
      rw [e1]
      go_wp2_with fail
      go_ret
      exact ⟨ret_bool (decide_eq_false (fun e => by simp only [Prod.mk.injEq] at e; exact absurd (by first | exact e.1 | exact e.2 | exact e.2.1 | exact e.2.2) (c1))).symm, by first | exact unhide HB1 | exact below_drewN (unhide HB0) _⟩
  · have e0 : (n0x != n0y) = true := by simp [c0]
    go_enter Try.func82, Try.ntmps82
    go_wp2_with fail
    go_ret
    exact ⟨ret_bool (decide_eq_false (fun e => by simp only [Prod.mk.injEq] at e; exact absurd (by first | exact e.1 | exact e.2 | exact e.2.1 | exact e.2.2) (c0))).symm, by first | exact unhide HB0 | exact below_drewN (unhide HB0) _⟩

set_option maxHeartbeats 2000000 in
theorem eqRecentS_any (s t : Sl) (xs ys : List Rc) (w : World) (ha : RowOk rcK w s xs) (hb : RowOk rcK w t ys) (hl : xs.length ≤ 1048576) (hl2 : ys.length ≤ 1048576) (hx : ∀ x ∈ xs, rcSz x ≤ 1048576) (hy : ∀ y ∈ ys, rcSz y ≤ 1048576) :
    Calls Try.prog 43 #[.slice s.a s.n s.c, .slice t.a t.n t.c] w fun e w' => e = .returned (.bool (decide (xs = ys))) ∧ Below w.heap.size w w' := by
  obtain ⟨a, la, ca⟩ := s
  obtain ⟨b, lb, cb⟩ := t
  have hxl : la = xs.length := ha.len
  have hyl : lb = ys.length := hb.len
  by_cases hne : la = lb
  · subst hne
    have hlen : (((la : Nat) : Int) != ((la : Nat) : Int)) = false := by simp
    rcases Nat.eq_zero_or_pos la with h0 | hp
    · subst h0
      obtain rfl : xs = [] := List.length_eq_zero_iff.1 hxl.symm
      obtain rfl : ys = [] := List.length_eq_zero_iff.1 hyl.symm
      clear ha hb hxl hyl hl hl2 hx hy
      go_enter Try.func43, Try.ntmps43
      go_wp2_with fail
      refine wp_loop_rounds 1 ?_
      rw [rounds_succ]
      go_wp2_with fail
      go_ret
      exact ⟨rfl, Below.refl _ _⟩
    · obtain ⟨ba, oa, ea, hba, hca⟩ := ha.pos hp
      obtain ⟨bb, ob, eb, hbb, hcb⟩ := hb.pos hp
      simp only at ea eb
      subst ea eb
      have HCA := hide (fun (W : World) (hbl : Below w.heap.size w W) (i : Nat) (x : Rc) (hx : xs[i]? = some x) => match hca i x hx with | ⟨e, c, o⟩ => (⟨e, fun j v hv => (hbl.cell (p := ⟨ba, oa + i * rcK.m + j, none⟩) hba).trans (c j v hv), rcK.below o hbl (Nat.le_refl _)⟩ : ∃ e, (∀ j v, (rcK.vals e x)[j]? = some v → W.cell? ⟨ba, oa + i * rcK.m + j, none⟩ = some v) ∧ rcK.Ok W e x))
      have HCB := hide (fun (W : World) (hbl : Below w.heap.size w W) (i : Nat) (x : Rc) (hx : ys[i]? = some x) => match hcb i x hx with | ⟨e, c, o⟩ => (⟨e, fun j v hv => (hbl.cell (p := ⟨bb, ob + i * rcK.m + j, none⟩) hbb).trans (c j v hv), rcK.below o hbl (Nat.le_refl _)⟩ : ∃ e, (∀ j v, (rcK.vals e x)[j]? = some v → W.cell? ⟨bb, ob + i * rcK.m + j, none⟩ = some v) ∧ rcK.Ok W e x))
      have HX := hide hx
      have HY := hide hy
      have HXL := hide hxl
      have HYL := hide hyl
      have hla : la ≤ 1048576 := by omega
      clear ha hb hca hcb hx hy hxl hyl hl hl2
      go_enter Try.func43, Try.ntmps43
      go_wp2_with fail
      go_loopw [5] (fun i wr => ∃ k : Nat, k ≤ la ∧ i = .int .i64 k ∧ decide (xs = ys) = decide (xs.drop k = ys.drop k) ∧ Below w.heap.size w wr) (fun i _ => la - (intOf i).toNat)
      case atStart => exact ⟨0, Nat.zero_le _, rfl, by simp, Below.refl _ _⟩
      case round =>
        obtain ⟨k, hk, rfl, hpre, hbr⟩ := hrel
        by_cases hlt : k < la
        · obtain ⟨x, hix⟩ : ∃ it, xs[k]? = some it := ⟨_, List.getElem?_eq_getElem (by rw [← unhide HXL]; exact hlt)⟩
          obtain ⟨y, hiy⟩ : ∃ it, ys[k]? = some it := ⟨_, List.getElem?_eq_getElem (by rw [← unhide HYL]; exact hlt)⟩
          have hst := drop_same xs ys k x y hix hiy
          rw [← hpre] at hst
          have mx := (unhide HX) x (List.mem_of_getElem? hix)
          have my := (unhide HY) y (List.mem_of_getElem? hiy)
          obtain ⟨⟨⟨⟩, s1x⟩, c, o⟩ := (unhide HCA) wr hbr k x hix
          obtain ⟨⟨⟨⟩, s1y⟩, d, q⟩ := (unhide HCB) wr hbr k y hiy
          obtain ⟨n0x, z1x⟩ := x
          obtain ⟨n0y, z1y⟩ := y
          have c0 := c 0 _ rfl
          have d0 := d 0 _ rfl
          have c1 := c 1 _ rfl
          have d1 := d 1 _ rfl
          simp only [Nat.add_zero, show rcK.m = 2 from rfl] at c0 d0 c1 d1
          simp only [rcSz] at mx my
          have HEQ := hide (fun (W : World) (hbl : Below wr.heap.size wr W) => eqRecent_any n0x s1x z1x n0y s1y z1y W (bytesK.below o.2 hbl (Nat.le_refl _)) (bytesK.below q.2 hbl (Nat.le_refl _)) (by omega) (by omega))
          have HP := hide hpre
          have HS := hide hst
          have HB := hide hbr
          have i1 : (0 : Int) ≤ (k : Int) := by omega
          have i2 : (k : Int) < (la : Int) := by omega
          clear c d o q hst hpre hbr hix hiy mx my
          generalize decide ((n0x, z1x) = (n0y, z1y)) = sb at HEQ HS
          go_wp2_with fail
          go_region_with (first | (go_at_call 82; refine ((unhide HEQ) _ (by first | exact Below.refl _ _ | exact (Below.refl _ _).drew | exact below_drewN (Below.refl _ _) _)).mono ?_; rintro e w1 ⟨rfl, b1⟩))
          all_goals
            have HB1 := hide ((unhide HB).trans (Below.mono (Below.trans (b := _) (by first | exact Below.refl _ _ | exact (Below.refl _ _).drew | exact below_drewN (Below.refl _ _) _ : Below wr.heap.size wr _) b1) (unhide HB).size))
            clear b1
            cases sb
            · go_wp2_with fail
              go_ret
              exact ⟨ret_bool (by rw [unhide HS]; rfl), unhide HB1⟩
            · go_wp2_with fail
              go_roundw
              case rel => exact ⟨k + 1, by omega, by go_num, by rw [unhide HS]; simp, unhide HB1⟩
              case measure => simp [intOf]; omega
        · obtain rfl : k = la := by omega
          rw [List.drop_eq_nil_of_le (by rw [← unhide HXL]; exact Nat.le_refl _), List.drop_eq_nil_of_le (by rw [← unhide HYL]; exact Nat.le_refl _)] at hpre
          have HE := hide hpre
          clear hpre
          go_wp2_with fail
          go_ret
          exact ⟨ret_bool (by rw [unhide HE]; rfl), hbr⟩
  · have hlen : (((la : Nat) : Int) != ((lb : Nat) : Int)) = true := by simp; omega
    have HE : Hid (decide (xs = ys) = false) := decide_eq_false (fun e => hne (by rw [hxl, hyl, e]))
    clear ha hb hxl hyl hx hy
    go_enter Try.func43, Try.ntmps43
    go_wp2_with fail
    go_ret
    exact ⟨ret_bool (unhide HE).symm, Below.refl _ _⟩

set_option maxHeartbeats 1000000 in
theorem eqVote_any (s0x : Sl) (z0x : List Int) (s1x : Sl) (z1x : List Int) (b2x : Bool) (s0y : Sl) (z0y : List Int) (s1y : Sl) (z1y : List Int) (b2y : Bool) (w : World) (o0 : BOk w s0x z0x) (q0 : BOk w s0y z0y) (m0 : z0x.length ≤ 1048576) (t0 : z0y.length ≤ 1048576) (o1 : BOk w s1x z1x) (q1 : BOk w s1y z1y) (m1 : z1x.length ≤ 1048576) (t1 : z1y.length ≤ 1048576) :
    Calls Try.prog 83 #[.agg #[.slice s0x.a s0x.n s0x.c, .slice s1x.a s1x.n s1x.c, .bool b2x], .agg #[.slice s0y.a s0y.n s0y.c, .slice s1y.a s1y.n s1y.c, .bool b2y]] w fun e w' => e = .returned (.bool (decide ((z0x, z1x, b2x) = (z0y, z1y, b2y)))) ∧ Below w.heap.size w w' := by
  have HR0 := hide (fun (W : World) (hb : Below w.heap.size w W) => eqByteS_any s0x.a s0y.a s0x.n s0x.c s0y.n s0y.c z0x z0y W (o0.row.below hb (Nat.le_refl _)) (q0.row.below hb (Nat.le_refl _)) (by have := o0.row.1; omega) (by have := q0.row.1; omega))
  have HR1 := hide (fun (W : World) (hb : Below w.heap.size w W) => eqByteS_any s1x.a s1y.a s1x.n s1x.c s1y.n s1y.c z1x z1y W (o1.row.below hb (Nat.le_refl _)) (q1.row.below hb (Nat.le_refl _)) (by have := o1.row.1; omega) (by have := q1.row.1; omega))
  have HB0 := hide (below_two' w (.cells #[.slice s0x.a s0x.n s0x.c, .slice s1x.a s1x.n s1x.c, .bool b2x] 89) (.cells #[.slice s0y.a s0y.n s0y.c, .slice s1y.a s1y.n s1y.c, .bool b2y] 89))
  clear o0 q0 m0 t0 o1 q1 m1 t1
  go_enter Try.func83, Try.ntmps83
  go_wp2_with fail
  refine ((unhide HR0) _ (unhide HB0)).mono ?_
  rintro e w0 ⟨rfl, m0, rfl⟩
  have HB1 := hide (below_drewN (unhide HB0) m0)
  by_cases c0 : z0x = z0y
  · subst c0
    have e0 : sameB z0x z0x = true := by simp [sameB]
    rw [e0]
    go_wp2_with fail
    refine ((unhide HR1) _ (unhide HB1)).mono ?_
    rintro e w1 ⟨rfl, m1, rfl⟩
    have HB2 := hide (below_drewN (unhide HB1) m1)
    by_cases c1 : z1x = z1y
    · subst c1
      have e1 : sameB z1x z1x = true := by simp [sameB]
      rw [e1]
      cases b2x <;> cases b2y
      · go_wp2_with fail
        go_ret
        exact ⟨ret_bool (by first | rfl | exact (decide_eq_true rfl).symm), by first | exact unhide HB2 | exact below_drewN (unhide HB0) _⟩
      · go_wp2_with fail
        go_ret
        exact ⟨ret_bool (decide_eq_false (fun e => by simp at e)).symm, by first | exact unhide HB2 | exact below_drewN (unhide HB0) _⟩
      · go_wp2_with fail
        go_ret
        exact ⟨ret_bool (decide_eq_false (fun e => by simp at e)).symm, by first | exact unhide HB2 | exact below_drewN (unhide HB0) _⟩
      · go_wp2_with fail
        go_ret
        exact ⟨ret_bool (by first | rfl | exact (decide_eq_true rfl).symm), by first | exact unhide HB2 | exact below_drewN (unhide HB0) _⟩
    · have e1 : sameB z1x z1y = false := by simp [sameB, c1]
      rw [e1]
      go_wp2_with fail
      go_ret
      exact ⟨ret_bool (decide_eq_false (fun e => by simp only [Prod.mk.injEq] at e; exact absurd (by first | exact e.1 | exact e.2 | exact e.2.1 | exact e.2.2) (c1))).symm, by first | exact unhide HB2 | exact below_drewN (unhide HB0) _⟩
  · have e0 : sameB z0x z0y = false := by simp [sameB, c0]
    rw [e0]
    go_wp2_with fail
    go_ret
    exact ⟨ret_bool (decide_eq_false (fun e => by simp only [Prod.mk.injEq] at e; exact absurd (by first | exact e.1 | exact e.2 | exact e.2.1 | exact e.2.2) (c0))).symm, by first | exact unhide HB1 | exact below_drewN (unhide HB0) _⟩

set_option maxHeartbeats 2000000 in
theorem eqVoteS_any (s t : Sl) (xs ys : List Vt) (w : World) (ha : RowOk vtK w s xs) (hb : RowOk vtK w t ys) (hl : xs.length ≤ 1048576) (hl2 : ys.length ≤ 1048576) (hx : ∀ x ∈ xs, vtSz x ≤ 1048576) (hy : ∀ y ∈ ys, vtSz y ≤ 1048576) :
    Calls Try.prog 44 #[.slice s.a s.n s.c, .slice t.a t.n t.c] w fun e w' => e = .returned (.bool (decide (xs = ys))) ∧ Below w.heap.size w w' := by
  obtain ⟨a, la, ca⟩ := s
  obtain ⟨b, lb, cb⟩ := t
  have hxl : la = xs.length := ha.len
  have hyl : lb = ys.length := hb.len
  by_cases hne : la = lb
  · subst hne
    have hlen : (((la : Nat) : Int) != ((la : Nat) : Int)) = false := by simp
    rcases Nat.eq_zero_or_pos la with h0 | hp
    · subst h0
      obtain rfl : xs = [] := List.length_eq_zero_iff.1 hxl.symm
      obtain rfl : ys = [] := List.length_eq_zero_iff.1 hyl.symm
      clear ha hb hxl hyl hl hl2 hx hy
      go_enter Try.func44, Try.ntmps44
      go_wp2_with fail
      refine wp_loop_rounds 1 ?_
      rw [rounds_succ]
      go_wp2_with fail
      go_ret
      exact ⟨rfl, Below.refl _ _⟩
    · obtain ⟨ba, oa, ea, hba, hca⟩ := ha.pos hp
      obtain ⟨bb, ob, eb, hbb, hcb⟩ := hb.pos hp
      simp only at ea eb
      subst ea eb
      have HCA := hide (fun (W : World) (hbl : Below w.heap.size w W) (i : Nat) (x : Vt) (hx : xs[i]? = some x) => match hca i x hx with | ⟨e, c, o⟩ => (⟨e, fun j v hv => (hbl.cell (p := ⟨ba, oa + i * vtK.m + j, none⟩) hba).trans (c j v hv), vtK.below o hbl (Nat.le_refl _)⟩ : ∃ e, (∀ j v, (vtK.vals e x)[j]? = some v → W.cell? ⟨ba, oa + i * vtK.m + j, none⟩ = some v) ∧ vtK.Ok W e x))
      have HCB := hide (fun (W : World) (hbl : Below w.heap.size w W) (i : Nat) (x : Vt) (hx : ys[i]? = some x) => match hcb i x hx with | ⟨e, c, o⟩ => (⟨e, fun j v hv => (hbl.cell (p := ⟨bb, ob + i * vtK.m + j, none⟩) hbb).trans (c j v hv), vtK.below o hbl (Nat.le_refl _)⟩ : ∃ e, (∀ j v, (vtK.vals e x)[j]? = some v → W.cell? ⟨bb, ob + i * vtK.m + j, none⟩ = some v) ∧ vtK.Ok W e x))
      have HX := hide hx
      have HY := hide hy
      have HXL := hide hxl
      have HYL := hide hyl
      have hla : la ≤ 1048576 := by omega
      clear ha hb hca hcb hx hy hxl hyl hl hl2
      go_enter Try.func44, Try.ntmps44
      go_wp2_with fail
      go_loopw [5] (fun i wr => ∃ k : Nat, k ≤ la ∧ i = .int .i64 k ∧ decide (xs = ys) = decide (xs.drop k = ys.drop k) ∧ Below w.heap.size w wr) (fun i _ => la - (intOf i).toNat)
      case atStart => exact ⟨0, Nat.zero_le _, rfl, by simp, Below.refl _ _⟩
      case round =>
        obtain ⟨k, hk, rfl, hpre, hbr⟩ := hrel
        by_cases hlt : k < la
        · obtain ⟨x, hix⟩ : ∃ it, xs[k]? = some it := ⟨_, List.getElem?_eq_getElem (by rw [← unhide HXL]; exact hlt)⟩
          obtain ⟨y, hiy⟩ : ∃ it, ys[k]? = some it := ⟨_, List.getElem?_eq_getElem (by rw [← unhide HYL]; exact hlt)⟩
          have hst := drop_same xs ys k x y hix hiy
          rw [← hpre] at hst
          have mx := (unhide HX) x (List.mem_of_getElem? hix)
          have my := (unhide HY) y (List.mem_of_getElem? hiy)
          obtain ⟨⟨s0x, s1x, ⟨⟩⟩, c, o⟩ := (unhide HCA) wr hbr k x hix
          obtain ⟨⟨s0y, s1y, ⟨⟩⟩, d, q⟩ := (unhide HCB) wr hbr k y hiy
          obtain ⟨z0x, z1x, b2x⟩ := x
          obtain ⟨z0y, z1y, b2y⟩ := y
          have c0 := c 0 _ rfl
          have d0 := d 0 _ rfl
          have c1 := c 1 _ rfl
          have d1 := d 1 _ rfl
          have c2 := c 2 _ rfl
          have d2 := d 2 _ rfl
          simp only [Nat.add_zero, show vtK.m = 3 from rfl] at c0 d0 c1 d1 c2 d2
          simp only [vtSz] at mx my
          have HEQ := hide (fun (W : World) (hbl : Below wr.heap.size wr W) => eqVote_any s0x z0x s1x z1x b2x s0y z0y s1y z1y b2y W (bytesK.below o.1 hbl (Nat.le_refl _)) (bytesK.below q.1 hbl (Nat.le_refl _)) (by omega) (by omega) (bytesK.below o.2.1 hbl (Nat.le_refl _)) (bytesK.below q.2.1 hbl (Nat.le_refl _)) (by omega) (by omega))
          have HP := hide hpre
          have HS := hide hst
          have HB := hide hbr
          have i1 : (0 : Int) ≤ (k : Int) := by omega
          have i2 : (k : Int) < (la : Int) := by omega
          clear c d o q hst hpre hbr hix hiy mx my
          generalize decide ((z0x, z1x, b2x) = (z0y, z1y, b2y)) = sb at HEQ HS
          go_wp2_with fail
          go_region_with (first | (go_at_call 83; refine ((unhide HEQ) _ (by first | exact Below.refl _ _ | exact (Below.refl _ _).drew | exact below_drewN (Below.refl _ _) _)).mono ?_; rintro e w1 ⟨rfl, b1⟩))
          all_goals
            have HB1 := hide ((unhide HB).trans (Below.mono (Below.trans (b := _) (by first | exact Below.refl _ _ | exact (Below.refl _ _).drew | exact below_drewN (Below.refl _ _) _ : Below wr.heap.size wr _) b1) (unhide HB).size))
            clear b1
            cases sb
            · go_wp2_with fail
              go_ret
              exact ⟨ret_bool (by rw [unhide HS]; rfl), unhide HB1⟩
            · go_wp2_with fail
              go_roundw
              case rel => exact ⟨k + 1, by omega, by go_num, by rw [unhide HS]; simp, unhide HB1⟩
              case measure => simp [intOf]; omega
        · obtain rfl : k = la := by omega
          rw [List.drop_eq_nil_of_le (by rw [← unhide HXL]; exact Nat.le_refl _), List.drop_eq_nil_of_le (by rw [← unhide HYL]; exact Nat.le_refl _)] at hpre
          have HE := hide hpre
          clear hpre
          go_wp2_with fail
          go_ret
          exact ⟨ret_bool (by rw [unhide HE]; rfl), hbr⟩
  · have hlen : (((la : Nat) : Int) != ((lb : Nat) : Int)) = true := by simp; omega
    have HE : Hid (decide (xs = ys) = false) := decide_eq_false (fun e => hne (by rw [hxl, hyl, e]))
    clear ha hb hxl hyl hx hy
    go_enter Try.func44, Try.ntmps44
    go_wp2_with fail
    go_ret
    exact ⟨ret_bool (unhide HE).symm, Below.refl _ _⟩

end Go.Proofs.Ytalkhlimkanlcaa

/- What is proved here: plain facts on what a call made, path by path, and the contracts of the laws' helper functions that copy bytes and lists of them, told by kinds. -/
namespace Go.Proofs.Ytalkhlimkanlcaa
open Go.RowKit
set_option linter.unusedVariables false
set_option maxRecDepth 100000

/-- What was made, with whatever colours stand elsewhere. -/
def Kd.Made {α β : Type} (K : Kd α β) (w : World) (n B : Nat) (d : Nat → Path) (p : Path) (e : β) (x : α) : Prop := ∀ d' : Nat → Path, (∀ g, B ≤ g → g < n → d' g = d g) → K.Own w B d' p e x

theorem Kd.made {α β : Type} (K : Kd α β) {w : World} {B : Nat} {d : Nat → Path} {p : Path} {e : β} {x : α} (h : K.Own w B d p e x) : K.Made w w.heap.size B d p e x := fun d' hd => K.recol h (fun g h1 h2 _ => hd g h2 h1)

theorem Kd.Made.below {α β : Type} {K : Kd α β} {w w' : World} {n B C : Nat} {d : Nat → Path} {p : Path} {e : β} {x : α} (h : K.Made w n B d p e x) (hb : Below C w w') (hC : w.heap.size ≤ C) : K.Made w' n B d p e x := fun d' hd => K.ownBelow (h d' hd) hb hC

theorem Kd.ownSet {α β : Type} (K : Kd α β) {w : World} {B : Nat} {d : Nat → Path} {p : Path} {e : β} {x : α} (h : K.Own w B d p e x) {q : Addr} (hq : q.block < B) (v : Value) : K.Own (w.setCell q v) B d p e x :=
  K.frame h (fun g _ hg _ => heap_setCell_other w q g v (fun e => by omega))

theorem Kd.Made.set {α β : Type} {K : Kd α β} {w : World} {n B : Nat} {d : Nat → Path} {p : Path} {e : β} {x : α} (h : K.Made w n B d p e x) {q : Addr} (hq : q.block < B) (v : Value) : K.Made (w.setCell q v) n B d p e x := fun d' hd => K.ownSet (h d' hd) hq v

theorem Kd.Made.get {α β : Type} {K : Kd α β} {w : World} {n B : Nat} {d : Nat → Path} {p : Path} {e : β} {x : α} (h : K.Made w n B d p e x) : K.Own w B d p e x := h d (fun _ _ _ => rfl)

theorem toB_kd (p : Path) (s : Sl) (z : List Int) (w : World) (o : BOk w s z) (hl : z.length ≤ 1048576) :
    Calls Try.prog 24 #[.slice s.a s.n s.c] w fun e w' => ∃ (t : Sl) (d : Nat → Path), e = .returned (.slice t.a t.n t.c) ∧ bytesK.Own w' w.heap.size d p t z ∧ Below w.heap.size w w' := by
  refine (toByteS_any s.a s.n s.c z w o.row (by have := o.row.1; omega)).mono ?_
  rintro e w' ⟨rfl, h1, h2⟩
  exact ⟨⟨some ⟨w.heap.size, 0, none⟩, s.n, s.n⟩, fun _ => p, rfl, ⟨o.row.2.1, h1, fun x hx => rfl⟩, h2⟩

theorem strict_inj {f : Nat → Nat} {k : Nat} (h : ∀ i j, i < j → j < k → f i < f j) {i j : Nat} (hi : i < k) (hj : j < k) (e : f i = f j) : i = j := by
  rcases Nat.lt_trichotomy i j with h' | h' | h'
  · have := h i j h' hj; omega
  · exact h'
  · have := h j i h' hi; omega

open Classical in
theorem row_of_obss {w : World} {g B : Nat} {zss : List (List Int)} {C : Nat} (h : OBss w g zss 45 C) (hB : B ≤ g) (hr : ∀ z ∈ zss, ∀ x ∈ z, 0 ≤ x ∧ x ≤ 255) (hl : zss.length ≤ 1048576) (p : Path) : ∃ d : Nat → Path, RowOwn bytesK 45 w B d p ⟨some ⟨g, 0, none⟩, zss.length, zss.length⟩ zss := by
  obtain ⟨vs, f, h1, h2, h3, h4, h5⟩ := h
  obtain ⟨d, hd⟩ : ∃ d : Nat → Path, d = fun q => if hq : ∃ i, i < zss.length ∧ f i = q then p ++ [hq.choose] else p := ⟨_, rfl⟩
  have dg : d g = p := by
    rw [hd]
    refine dif_neg ?_
    rintro ⟨i, hi, e⟩
    have := (h3 i hi).1
    omega
  have df : ∀ i, i < zss.length → d (f i) = p ++ [i] := by
    intro i hi
    have hq : ∃ j, j < zss.length ∧ f j = f i := ⟨i, hi, rfl⟩
    rw [hd]
    show (if hq : ∃ j, j < zss.length ∧ f j = f i then p ++ [hq.choose] else p) = _
    rw [dif_pos hq, strict_inj h4 hq.choose_spec.1 hi hq.choose_spec.2]
  obtain ⟨es, he1, he2⟩ : ∃ es : List Sl, es.length = zss.length ∧ ∀ (i : Nat) (e : Sl), es[i]? = some e → ∃ z, zss[i]? = some z ∧ e = ⟨some ⟨f i, 0, none⟩, z.length, z.length⟩ := by
    refine ⟨zss.zipIdx.map (fun q => ⟨some ⟨f q.2, 0, none⟩, q.1.length, q.1.length⟩), by simp, fun i e he => ?_⟩
    rw [List.getElem?_map, List.getElem?_zipIdx] at he
    cases hz : zss[i]? with
    | none => rw [hz] at he; simp at he
    | some z =>
      rw [hz] at he
      simp at he
      exact ⟨z, rfl, he.symm⟩
  refine ⟨d, rfl, es, vs, he1, ⟨h2.trans (Nat.mul_one _).symm, by show zss.length ≤ maxLen; unfold maxLen; omega, Nat.le_refl _, (fun e => by cases e), fun x hx => ?_⟩, fun x hx => by cases hx; exact dg, fun i e z he hz => ?_⟩
  · cases hx
    refine ⟨g, 0, vs.toArray, rfl, hB, h1, by simp [h2, bytesK], ?_⟩
    show (vs.drop 0).take (zss.length * 1) = vs
    rw [List.drop_zero, Nat.mul_one, ← h2, List.take_length]
  · have hi := (List.getElem?_eq_some_iff.1 hz).1
    obtain ⟨z', hz', rfl⟩ := he2 i e he
    obtain rfl : z = z' := Option.some.inj (hz.symm.trans hz')
    obtain ⟨q1, q2⟩ := h5 i z hi hz
    refine ⟨fun j v hv => ?_, hr z (List.mem_of_getElem? hz), ownsRow_base q2 (by omega), fun x hx => by cases hx; exact df i hi⟩
    match j, hv with
    | 0, hv =>
      simp only [bytesK, List.getElem?_cons_zero, Option.some.injEq] at hv
      subst hv
      have e1 : bytesK.m = 1 := rfl
      rw [e1, Nat.mul_one, Nat.add_zero]
      exact q1

theorem toBs_kd (p : Path) (s : Sl) (zss : List (List Int)) (w : World) (o : RowOk bytesK w s zss) (hl : zss.length ≤ 1048576) (hz : ∀ z ∈ zss, z.length ≤ 1048576) :
    Calls Try.prog 16 #[.slice s.a s.n s.c] w fun e w' => ∃ (t : Sl) (d : Nat → Path), e = .returned (.slice t.a t.n t.c) ∧ (rowK bytesK 45).Own w' w.heap.size d p t zss ∧ Below w.heap.size w w' := by
  have hb := bs_of_row o
  refine (toByteSS_any s.a s.n s.c zss w hb (by have := o.len; omega) hz).mono ?_
  rintro e w' ⟨rfl, h1, h2⟩
  obtain ⟨d, hd⟩ := row_of_obss h1 (Nat.le_refl _) hb.bytes hl p
  have e1 : s.n = zss.length := o.len
  refine ⟨⟨some ⟨w.heap.size, 0, none⟩, zss.length, zss.length⟩, d, by rw [e1], hd, h2⟩

end Go.Proofs.Ytalkhlimkanlcaa
