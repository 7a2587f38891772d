/- What is proved here: the contracts of the laws' helper functions that copy recents and votes (toRecentS, toVoteS). -/
import Derived.Test.YtalkhlimkanlcaaChecked
import Derived.Test.YtalkhlimkanlcaaJ1
import Derived.Test.YtalkhlimkanlcaaJ5
import Derived.Test.YtalkhlimkanlcaaJ3
import Derived.WalkKit
import Derived.WalkLawsBesides
import Derived.WalkSmall
import Derived.KernelRfl
import Derived.WalkSpells
import Derived.Test.YtalkhlimkanlcaaJ2
import Derived.Deep.RegionWith
namespace Go.Proofs.Ytalkhlimkanlcaa
open Go.RowKit
set_option linter.unusedVariables false
set_option maxRecDepth 100000

set_option maxHeartbeats 4000000 in
theorem toRecent_any (p : Path) (n0 : Int) (s1 : Sl) (z1 : List Int) (w : World) (i0 : in64 n0) (o1 : (bytesK).Ok w s1 z1) (m1_0 : z1.length ≤ 1048576) :
    Calls Try.prog 76 #[.agg #[.int .i64 n0, .slice s1.a s1.n s1.c]] w fun e w' => ∃ (t1 : Sl) (d : Nat → Path), e = .returned (.agg #[.int .i64 n0, .slice t1.a t1.n t1.c]) ∧ (rcK).Own w' w.heap.size d p ((), t1) (n0, z1) ∧ Below w.heap.size w w' := by
  have HO1 := hide (fun (W : World) (hb : Below w.heap.size w W) => toB_kd (p ++ [1]) s1 z1 W ((bytesK).below o1 hb (Nat.le_refl _)) m1_0)
  obtain ⟨k0, k1, k2, K0, hsz⟩ := three_blk w #[.int .i64 n0, .slice s1.a s1.n s1.c] #[.int .i64 0, .slice none 0 0] #[.int .i64 0, .slice none 0 0] 95 87 87
  obtain ⟨W0, e0⟩ : ∃ W0, ((w.alloc (.cells #[.int .i64 n0, .slice s1.a s1.n s1.c] 95)).alloc (.cells #[.int .i64 0, .slice none 0 0] 87)).alloc (.cells #[.int .i64 0, .slice none 0 0] 87) = W0 := ⟨_, rfl⟩
  rw [e0] at k0 k1 k2 K0 hsz
  clear o1
  go_enter Try.func76, Try.ntmps76
  have x0 := k0.cell 0
  have x1 := k0.cell 1
  have u0 := k2.cell 0
  have v0 := k2.free 0
  simp only [List.getElem?_cons_zero, List.getElem?_cons_succ] at x0 x1 u0
  have Q := hide (And.intro k0 (And.intro k1 (And.intro k2 (And.intro K0 hsz))))
  clear k0 k1 k2 K0 hsz
  go_wp2_with (rw [e0])
  try rw [e0]
  clear e0
  obtain ⟨k0, k1, k2, K0, hsz⟩ := unhide Q
  clear Q x0 x1 u0 v0
  have B0 := (K0.setCell (p := ⟨w.heap.size + 2, 0, none⟩) (by show w.heap.size ≤ w.heap.size + 2; omega) (.int .i64 n0))
  refine ((unhide HO1) _ B0).mono ?_
  rintro e w1 ⟨t1, d1, rfl, ow1, b1⟩
  simp only [size_set'] at ow1 b1
  have k0 := (k0.other (g' := w.heap.size + 2) (by omega)).below b1 (by omega)
  have k1 := (k1.other (g' := w.heap.size + 2) (by omega)).below b1 (by omega)
  have k2 := (k2.set 0 (.int .i64 n0)).below b1 (by omega)
  simp only [List.set_cons_zero] at k2
  have K1 := B0.trans (b1.mono (by omega))
  have ow1 := Kd.made _ ow1
  have g1 : W0.heap.size ≤ w1.heap.size := by have := b1.size; simp only [size_set'] at this; exact this
  have hs1 : w.heap.size + 3 ≤ w1.heap.size := by omega
  have hsW := hsz
  clear b1 B0 hsz
  have hsz := hs1
  have u0 := k2.cell 0
  have v0 := k2.free 0
  have r0 := k1.cell 0
  have q0 := k1.free 0
  have u1 := k2.cell 1
  have v1 := k2.free 1
  have r1 := k1.cell 1
  have q1 := k1.free 1
  simp only [List.getElem?_cons_zero, List.getElem?_cons_succ] at  u0 r0 u1 r1
  have Q := hide (And.intro K1 (And.intro hsz (And.intro hsW trivial)))
  clear k0 k1 k2 K1 hsz hsW
  have MO1 := hide ow1
  clear ow1
  go_wp2_with fail
  obtain ⟨K1, hsz, hsW, _⟩ := unhide Q
  refine bodyPost_ret (v := .agg #[.int .i64 n0, .slice t1.a t1.n t1.c]) (by simp [results, Try.results76, go_sem, r0, r1]) rfl ⟨t1, d1, rfl, ?_, ?_⟩
  · exact ⟨i0, (Kd.base _ (((((unhide MO1).set (q := ⟨w.heap.size + 2, _, none⟩) (by show w.heap.size + 2 < _; omega) _).set (q := ⟨w.heap.size + 1, _, none⟩) (by show w.heap.size + 1 < _; omega) _).set (q := ⟨w.heap.size + 1, _, none⟩) (by show w.heap.size + 1 < _; omega) _) _ (fun g h1 h2 => rfl)) (by omega))⟩
  · exact (((K1.setCell (p := ⟨w.heap.size + 2, 1, none⟩) (by show w.heap.size ≤ w.heap.size + 2; omega) (.slice t1.a t1.n t1.c)).setCell (p := ⟨w.heap.size + 1, 0, none⟩) (by show w.heap.size ≤ w.heap.size + 1; omega) (.int .i64 n0)).setCell (p := ⟨w.heap.size + 1, 1, none⟩) (by show w.heap.size ≤ w.heap.size + 1; omega) (.slice t1.a t1.n t1.c))

set_option maxHeartbeats 4000000 in
theorem toVote_any (p : Path) (s0 : Sl) (z0 : List Int) (s1 : Sl) (z1 : List Int) (b2 : Bool) (w : World) (o0 : (bytesK).Ok w s0 z0) (m0_0 : z0.length ≤ 1048576) (o1 : (bytesK).Ok w s1 z1) (m1_0 : z1.length ≤ 1048576) :
    Calls Try.prog 77 #[.agg #[.slice s0.a s0.n s0.c, .slice s1.a s1.n s1.c, .bool b2]] w fun e w' => ∃ (t0 : Sl) (t1 : Sl) (d : Nat → Path), e = .returned (.agg #[.slice t0.a t0.n t0.c, .slice t1.a t1.n t1.c, .bool b2]) ∧ (vtK).Own w' w.heap.size d p (t0, t1, ()) (z0, z1, b2) ∧ Below w.heap.size w w' := by
  have HO0 := hide (fun (W : World) (hb : Below w.heap.size w W) => toB_kd (p ++ [0]) s0 z0 W ((bytesK).below o0 hb (Nat.le_refl _)) m0_0)
  have HO1 := hide (fun (W : World) (hb : Below w.heap.size w W) => toB_kd (p ++ [1] ++ [0]) s1 z1 W ((bytesK).below o1 hb (Nat.le_refl _)) m1_0)
  obtain ⟨k0, k1, k2, K0, hsz⟩ := three_blk w #[.slice s0.a s0.n s0.c, .slice s1.a s1.n s1.c, .bool b2] #[.slice none 0 0, .slice none 0 0, .bool false] #[.slice none 0 0, .slice none 0 0, .bool false] 97 89 89
  obtain ⟨W0, e0⟩ : ∃ W0, ((w.alloc (.cells #[.slice s0.a s0.n s0.c, .slice s1.a s1.n s1.c, .bool b2] 97)).alloc (.cells #[.slice none 0 0, .slice none 0 0, .bool false] 89)).alloc (.cells #[.slice none 0 0, .slice none 0 0, .bool false] 89) = W0 := ⟨_, rfl⟩
  rw [e0] at k0 k1 k2 K0 hsz
  clear o0 o1
  go_enter Try.func77, Try.ntmps77
  have x0 := k0.cell 0
  simp only [List.getElem?_cons_zero] at x0 
  have Q := hide (And.intro k0 (And.intro k1 (And.intro k2 (And.intro K0 hsz))))
  clear k0 k1 k2 K0 hsz
  go_wp2_with (rw [e0])
  try rw [e0]
  clear e0
  obtain ⟨k0, k1, k2, K0, hsz⟩ := unhide Q
  clear Q x0 
  have B0 := K0
  refine ((unhide HO0) _ B0).mono ?_
  rintro e w1 ⟨t0, d0, rfl, ow0, b1⟩
  have k0 := k0.below b1 (by omega)
  have k1 := k1.below b1 (by omega)
  have k2 := k2.below b1 (by omega)
  have K1 := B0.trans (b1.mono (by omega))
  have ow0 := Kd.made _ ow0
  have g1 : W0.heap.size ≤ w1.heap.size := b1.size
  have hs1 : w.heap.size + 3 ≤ w1.heap.size := by omega
  have hsW := hsz
  clear b1 B0 hsz
  have hsz := hs1
  have x1 := k0.cell 1
  have u0 := k2.cell 0
  have v0 := k2.free 0
  simp only [List.getElem?_cons_zero, List.getElem?_cons_succ] at x1 u0
  have Q := hide (And.intro k0 (And.intro k1 (And.intro k2 (And.intro K1 hsz))))
  clear k0 k1 k2 K1 hsz
  go_wp2_with fail
  obtain ⟨k0, k1, k2, K1, hsz⟩ := unhide Q
  clear Q x1 u0 v0
  have B1 := (K1.setCell (p := ⟨w.heap.size + 2, 0, none⟩) (by show w.heap.size ≤ w.heap.size + 2; omega) (.slice t0.a t0.n t0.c))
  refine ((unhide HO1) _ B1).mono ?_
  rintro e w2 ⟨t1, d1, rfl, ow1, b2⟩
  simp only [size_set'] at ow1 b2
  have k0 := (k0.other (g' := w.heap.size + 2) (by omega)).below b2 (by omega)
  have k1 := (k1.other (g' := w.heap.size + 2) (by omega)).below b2 (by omega)
  have k2 := (k2.set 0 (.slice t0.a t0.n t0.c)).below b2 (by omega)
  simp only [List.set_cons_zero] at k2
  have K2 := B1.trans (b2.mono (by omega))
  have ow0 := (ow0.set (q := ⟨w.heap.size + 2, _, none⟩) (by show w.heap.size + 2 < _; omega) _).below b2 (by simp only [size_set']; exact Nat.le_refl _)
  have ow1 := Kd.made _ ow1
  have g2 : w1.heap.size ≤ w2.heap.size := by have := b2.size; simp only [size_set'] at this; exact this
  have hs2 : w.heap.size + 3 ≤ w2.heap.size := by omega
  clear b2 B1 hsz
  have hsz := hs2
  have x2 := k0.cell 2
  have u0 := k2.cell 0
  have v0 := k2.free 0
  have r0 := k1.cell 0
  have q0 := k1.free 0
  have u1 := k2.cell 1
  have v1 := k2.free 1
  have r1 := k1.cell 1
  have q1 := k1.free 1
  have u2 := k2.cell 2
  have v2 := k2.free 2
  have r2 := k1.cell 2
  have q2 := k1.free 2
  simp only [List.getElem?_cons_zero, List.getElem?_cons_succ] at x2 u0 r0 u1 r1 u2 r2
  have Q := hide (And.intro K2 (And.intro hsz (And.intro hsW trivial)))
  clear k0 k1 k2 K2 hsz hsW
  have MO0 := hide ow0
  clear ow0
  have MO1 := hide ow1
  clear ow1
  go_wp2_with fail
  obtain ⟨K2, hsz, hsW, _⟩ := unhide Q
  refine bodyPost_ret (v := .agg #[.slice t0.a t0.n t0.c, .slice t1.a t1.n t1.c, .bool b2]) (by simp [results, Try.results77, go_sem, r0, r1, r2]) rfl ⟨t0, t1, (joinD w1.heap.size d0 d1), rfl, ?_, ?_⟩
  · exact ⟨(Kd.base _ (((((((unhide MO0).set (q := ⟨w.heap.size + 2, _, none⟩) (by show w.heap.size + 2 < _; omega) _).set (q := ⟨w.heap.size + 2, _, none⟩) (by show w.heap.size + 2 < _; omega) _).set (q := ⟨w.heap.size + 1, _, none⟩) (by show w.heap.size + 1 < _; omega) _).set (q := ⟨w.heap.size + 1, _, none⟩) (by show w.heap.size + 1 < _; omega) _).set (q := ⟨w.heap.size + 1, _, none⟩) (by show w.heap.size + 1 < _; omega) _) _ (fun g h1 h2 => by rw [joinD_lt h2])) (by omega)), (Kd.base _ (((((((unhide MO1).set (q := ⟨w.heap.size + 2, _, none⟩) (by show w.heap.size + 2 < _; omega) _).set (q := ⟨w.heap.size + 2, _, none⟩) (by show w.heap.size + 2 < _; omega) _).set (q := ⟨w.heap.size + 1, _, none⟩) (by show w.heap.size + 1 < _; omega) _).set (q := ⟨w.heap.size + 1, _, none⟩) (by show w.heap.size + 1 < _; omega) _).set (q := ⟨w.heap.size + 1, _, none⟩) (by show w.heap.size + 1 < _; omega) _) _ (fun g h1 h2 => by rw [joinD_ge (by omega)])) (by omega)), trivial⟩
  · exact (((((K2.setCell (p := ⟨w.heap.size + 2, 1, none⟩) (by show w.heap.size ≤ w.heap.size + 2; omega) (.slice t1.a t1.n t1.c)).setCell (p := ⟨w.heap.size + 2, 2, none⟩) (by show w.heap.size ≤ w.heap.size + 2; omega) (.bool b2)).setCell (p := ⟨w.heap.size + 1, 0, none⟩) (by show w.heap.size ≤ w.heap.size + 1; omega) (.slice t0.a t0.n t0.c)).setCell (p := ⟨w.heap.size + 1, 1, none⟩) (by show w.heap.size ≤ w.heap.size + 1; omega) (.slice t1.a t1.n t1.c)).setCell (p := ⟨w.heap.size + 1, 2, none⟩) (by show w.heap.size ≤ w.heap.size + 1; omega) (.bool b2))

theorem infoRecent : (Try.prog.info? 87).map (fun i => (i.zero, i.size, i.bytes)) = some (some (.agg #[.int .i64 0, .slice none 0 0]), 2, 32) := by kernel_rfl

set_option maxHeartbeats 2000000 in
theorem toRecentS_any (p : Path) (s : Sl) (xs : List Rc) (w : World) (o : RowOk rcK w s xs) (hl : xs.length ≤ 1048576) (hz : ∀ x ∈ xs, rcSz x ≤ 1048576) :
    Calls Try.prog 37 #[.slice s.a s.n s.c] w fun e w' => ∃ (t : Sl) (d : Nat → Path), e = .returned (.slice t.a t.n t.c) ∧ (rowK rcK 87).Own w' w.heap.size d p t xs ∧ Below w.heap.size w w' := by
  obtain ⟨i0, hi, hz0, hz1, hz2⟩ := info_parts infoRecent
  obtain ⟨a, len, cap⟩ := s
  have hil : len = xs.length := o.len
  rcases Nat.eq_zero_or_pos len with h0 | hp
  · subst h0
    obtain rfl : xs = [] := List.length_eq_zero_iff.1 hil.symm
    clear o hl hz hil
    go_enter Try.func37, Try.ntmps37
    go_wp2_with (at_make; refine wpList_make_full _ rfl _ _ 29 rfl w.heap.size 87 i0 (.agg #[.int .i64 0, .slice none 0 0]) 2 Try.underlying29 hi hz0 hz1 _ _ _ _ 0 rfl rfl rfl rfl ?c1 ?c2 ?c3 ?_)
    case c1 => omega
    case c2 => unfold maxLen; omega
    case c3 => omega
    intro w1 hown hgrow
    go_wp2
    refine wp_loop_rounds 1 ?_
    rw [rounds_succ]
    go_wp2
    go_ret
    exact ⟨⟨some ⟨w.heap.size, 0, none⟩, 0, 0⟩, fun _ => p, rfl, RowPart.zero (OwnS.of hown) rfl (fun _ _ => rfl), (Below.refl _ _).grown hgrow (Nat.le_refl _) (fun k e => by cases e)⟩
  · obtain ⟨b, off, ea, hb, hc⟩ := o.pos hp
    simp only at ea
    subst ea
    have HC := hide (fun (W : World) (hbl : Below w.heap.size w W) (i : Nat) (x : Rc) (hx : xs[i]? = some x) => match hc i x hx with | ⟨e, c, o⟩ => (⟨e, fun j v hv => (hbl.cell (p := ⟨b, off + i * rcK.m + j, none⟩) hb).trans (c j v hv), rcK.below o hbl (Nat.le_refl _)⟩ : ∃ e, (∀ j v, (rcK.vals e x)[j]? = some v → W.cell? ⟨b, off + i * rcK.m + j, none⟩ = some v) ∧ rcK.Ok W e x))
    have HL := hide hil
    have HZ := hide hz
    have hla : len ≤ 1048576 := by omega
    clear o hc hil hz hl
    go_enter Try.func37, Try.ntmps37
    go_wp2_with (at_make; refine wpList_make_full _ rfl _ _ 29 rfl w.heap.size 87 i0 (.agg #[.int .i64 0, .slice none 0 0]) 2 Try.underlying29 hi hz0 hz1 _ _ _ _ len rfl rfl rfl rfl ?c1 ?c2 ?c3 ?_)
    case c1 => rw [hz2]; omega
    case c2 => unfold maxLen; omega
    case c3 => omega
    intro w1 hown hgrow
    have hst : RowPart rcK 87 w1 w.heap.size (fun _ => p) p ⟨some ⟨w.heap.size, 0, none⟩, len, len⟩ xs 0 := RowPart.zero (OwnS.of hown) (unhide HL) (fun _ _ => rfl)
    have hbel : Below w.heap.size w w1 := (Below.refl _ _).grown hgrow (Nat.le_refl _) (fun k e => by cases e)
    clear hown hgrow
    go_wp2_with fail
    go_loopw [4] (fun i wr => ∃ (k : Nat) (d : Nat → Path), k ≤ len ∧ i = .int .i64 k ∧ RowPart rcK 87 wr w.heap.size d p ⟨some ⟨w.heap.size, 0, none⟩, len, len⟩ xs k ∧ w.heap.size < wr.heap.size ∧ Below w.heap.size w wr) (fun i _ => len - (intOf i).toNat)
    case atStart => exact ⟨0, fun _ => p, Nat.zero_le _, rfl, hst, by obtain ⟨_, _, _, _, h, _⟩ := hst; exact (h.blk (x := ⟨w.heap.size, 0, none⟩) rfl).2, hbel⟩
    case round =>
      obtain ⟨k, d, hk, rfl, hup, hsw, hbr⟩ := hrel
      clear hst hbel
      by_cases hlt : k < len
      · obtain ⟨x, hx⟩ : ∃ x, xs[k]? = some x := ⟨_, List.getElem?_eq_getElem (by rw [← unhide HL]; exact hlt)⟩
        have mx := (unhide HZ) x (List.mem_of_getElem? hx)
        obtain ⟨⟨⟨⟩, s1⟩, c, o⟩ := (unhide HC) wr hbr k x hx
        obtain ⟨n0, z1⟩ := x
        have c0 := c 0 _ rfl
        have c1 := c 1 _ rfl
        simp only [Nat.add_zero, show rcK.m = 2 from rfl] at c0 c1
        simp only [rcSz] at mx
        have HT := hide (fun (W : World) (hbl : Below wr.heap.size wr W) => toRecent_any (p ++ [k]) n0 s1 z1 W o.1 ((bytesK).below o.2 hbl (Nat.le_refl _)) (by omega))
        have hslot := hide (fun (w2 : World) (hb : Below wr.heap.size wr w2) => (hup.frame (w' := w2) (fun g h1 _ _ => hb.block g h1)).slot (g := w.heap.size) (off := 0) rfl (i := k) (by rw [← unhide HL]; exact hlt))
        have hstep := hide (fun (w2 : World) (d2 : Nat → Path) (t1 : Sl) (hb : Below wr.heap.size wr w2) (ho : rcK.Own w2 wr.heap.size d2 (p ++ [k]) ((), t1) (n0, z1)) => hup.step hx (fun g hg => hb.block g hg) (d2 := joinD wr.heap.size d d2) (fun g hg => joinD_lt hg) (rcK.base (Kd.right rcK ho (Nat.le_refl _)) (Nat.le_of_lt hsw)) (g := w.heap.size) (off := 0) rfl)
        have HB := hide hbr
        have i1 : (0 : Int) ≤ (k : Int) := by omega
        have i2 : (k : Int) < (len : Int) := by omega
        clear hup hbr c o hx mx
        go_wp2_with fail
        refine ((unhide HT) _ (by first | exact Below.refl _ _ | exact (Below.refl _ _).drew)).mono ?_
        rintro e w2 ⟨t1, d2, rfl, o2, b2⟩
        have b2' : Below wr.heap.size wr w2 := by first | exact b2 | exact Below.trans ((Below.refl _ _).drew) b2
        obtain ⟨gs, gf⟩ := (unhide hslot) w2 b2'
        have HN := hide ((unhide hstep) w2 d2 t1 b2' o2)
        obtain ⟨u0, h0⟩ := gs 0 (by show 0 < 2; omega)
        obtain ⟨u1, h1⟩ := gs 1 (by show 1 < 2; omega)
        simp only [Nat.zero_add, Nat.add_zero, show rcK.m = 2 from rfl] at h0 h1
        have HB2 := hide ((unhide HB).trans (b2'.mono (unhide HB).size))
        have hs2 : w.heap.size < w2.heap.size := Nat.lt_of_lt_of_le hsw b2'.size
        clear o2 b2 b2' hslot hstep gs
        go_wp2_with fail
        go_roundw
        case rel =>
          have hN := unhide HN
          simp only [Nat.zero_add, show rcK.m = 2 from rfl] at hN
          exact ⟨k + 1, joinD wr.heap.size d d2, by omega, by go_num, hN, by simp only [size_set']; exact hs2, (((unhide HB2).setCell (Nat.le_refl _) _).setCell (Nat.le_refl _) _)⟩
        case measure => simp [intOf]; omega
      · obtain rfl : k = len := by omega
        have HU := hide hup
        have HB := hide hbr
        clear hup hbr
        go_wp2_with fail
        go_ret
        refine ⟨⟨some ⟨w.heap.size, 0, none⟩, k, k⟩, d, rfl, ?_, unhide HB⟩
        show RowPart rcK _ _ _ _ _ _ xs xs.length
        rw [← unhide HL]
        exact unhide HU

theorem infoVote : (Try.prog.info? 89).map (fun i => (i.zero, i.size, i.bytes)) = some (some (.agg #[.slice none 0 0, .slice none 0 0, .bool false]), 3, 56) := by kernel_rfl

set_option maxHeartbeats 2000000 in
theorem toVoteS_any (p : Path) (s : Sl) (xs : List Vt) (w : World) (o : RowOk vtK w s xs) (hl : xs.length ≤ 1048576) (hz : ∀ x ∈ xs, vtSz x ≤ 1048576) :
    Calls Try.prog 38 #[.slice s.a s.n s.c] w fun e w' => ∃ (t : Sl) (d : Nat → Path), e = .returned (.slice t.a t.n t.c) ∧ (rowK vtK 89).Own w' w.heap.size d p t xs ∧ Below w.heap.size w w' := by
  obtain ⟨i0, hi, hz0, hz1, hz2⟩ := info_parts infoVote
  obtain ⟨a, len, cap⟩ := s
  have hil : len = xs.length := o.len
  rcases Nat.eq_zero_or_pos len with h0 | hp
  · subst h0
    obtain rfl : xs = [] := List.length_eq_zero_iff.1 hil.symm
    clear o hl hz hil
    go_enter Try.func38, Try.ntmps38
    go_wp2_with (at_make; refine wpList_make_full _ rfl _ _ 30 rfl w.heap.size 89 i0 (.agg #[.slice none 0 0, .slice none 0 0, .bool false]) 3 Try.underlying30 hi hz0 hz1 _ _ _ _ 0 rfl rfl rfl rfl ?c1 ?c2 ?c3 ?_)
    case c1 => omega
    case c2 => unfold maxLen; omega
    case c3 => omega
    intro w1 hown hgrow
    go_wp2
    refine wp_loop_rounds 1 ?_
    rw [rounds_succ]
    go_wp2
    go_ret
    exact ⟨⟨some ⟨w.heap.size, 0, none⟩, 0, 0⟩, fun _ => p, rfl, RowPart.zero (OwnS.of hown) rfl (fun _ _ => rfl), (Below.refl _ _).grown hgrow (Nat.le_refl _) (fun k e => by cases e)⟩
  · obtain ⟨b, off, ea, hb, hc⟩ := o.pos hp
    simp only at ea
    subst ea
    have HC := hide (fun (W : World) (hbl : Below w.heap.size w W) (i : Nat) (x : Vt) (hx : xs[i]? = some x) => match hc i x hx with | ⟨e, c, o⟩ => (⟨e, fun j v hv => (hbl.cell (p := ⟨b, off + i * vtK.m + j, none⟩) hb).trans (c j v hv), vtK.below o hbl (Nat.le_refl _)⟩ : ∃ e, (∀ j v, (vtK.vals e x)[j]? = some v → W.cell? ⟨b, off + i * vtK.m + j, none⟩ = some v) ∧ vtK.Ok W e x))
    have HL := hide hil
    have HZ := hide hz
    have hla : len ≤ 1048576 := by omega
    clear o hc hil hz hl
    go_enter Try.func38, Try.ntmps38
    go_wp2_with (at_make; refine wpList_make_full _ rfl _ _ 30 rfl w.heap.size 89 i0 (.agg #[.slice none 0 0, .slice none 0 0, .bool false]) 3 Try.underlying30 hi hz0 hz1 _ _ _ _ len rfl rfl rfl rfl ?c1 ?c2 ?c3 ?_)
    case c1 => rw [hz2]; omega
    case c2 => unfold maxLen; omega
    case c3 => omega
    intro w1 hown hgrow
    have hst : RowPart vtK 89 w1 w.heap.size (fun _ => p) p ⟨some ⟨w.heap.size, 0, none⟩, len, len⟩ xs 0 := RowPart.zero (OwnS.of hown) (unhide HL) (fun _ _ => rfl)
    have hbel : Below w.heap.size w w1 := (Below.refl _ _).grown hgrow (Nat.le_refl _) (fun k e => by cases e)
    clear hown hgrow
    go_wp2_with fail
    go_loopw [4] (fun i wr => ∃ (k : Nat) (d : Nat → Path), k ≤ len ∧ i = .int .i64 k ∧ RowPart vtK 89 wr w.heap.size d p ⟨some ⟨w.heap.size, 0, none⟩, len, len⟩ xs k ∧ w.heap.size < wr.heap.size ∧ Below w.heap.size w wr) (fun i _ => len - (intOf i).toNat)
    case atStart => exact ⟨0, fun _ => p, Nat.zero_le _, rfl, hst, by obtain ⟨_, _, _, _, h, _⟩ := hst; exact (h.blk (x := ⟨w.heap.size, 0, none⟩) rfl).2, hbel⟩
    case round =>
      obtain ⟨k, d, hk, rfl, hup, hsw, hbr⟩ := hrel
      clear hst hbel
      by_cases hlt : k < len
      · obtain ⟨x, hx⟩ : ∃ x, xs[k]? = some x := ⟨_, List.getElem?_eq_getElem (by rw [← unhide HL]; exact hlt)⟩
        have mx := (unhide HZ) x (List.mem_of_getElem? hx)
        obtain ⟨⟨s0, s1, ⟨⟩⟩, c, o⟩ := (unhide HC) wr hbr k x hx
        obtain ⟨z0, z1, b2⟩ := x
        have c0 := c 0 _ rfl
        have c1 := c 1 _ rfl
        have c2 := c 2 _ rfl
        simp only [Nat.add_zero, show vtK.m = 3 from rfl] at c0 c1 c2
        simp only [vtSz] at mx
        have HT := hide (fun (W : World) (hbl : Below wr.heap.size wr W) => toVote_any (p ++ [k]) s0 z0 s1 z1 b2 W ((bytesK).below o.1 hbl (Nat.le_refl _)) (by omega) ((bytesK).below o.2.1 hbl (Nat.le_refl _)) (by omega))
        have hslot := hide (fun (w2 : World) (hb : Below wr.heap.size wr w2) => (hup.frame (w' := w2) (fun g h1 _ _ => hb.block g h1)).slot (g := w.heap.size) (off := 0) rfl (i := k) (by rw [← unhide HL]; exact hlt))
        have hstep := hide (fun (w2 : World) (d2 : Nat → Path) (t0 t1 : Sl) (hb : Below wr.heap.size wr w2) (ho : vtK.Own w2 wr.heap.size d2 (p ++ [k]) (t0, t1, ()) (z0, z1, b2)) => hup.step hx (fun g hg => hb.block g hg) (d2 := joinD wr.heap.size d d2) (fun g hg => joinD_lt hg) (vtK.base (Kd.right vtK ho (Nat.le_refl _)) (Nat.le_of_lt hsw)) (g := w.heap.size) (off := 0) rfl)
        have HB := hide hbr
        have i1 : (0 : Int) ≤ (k : Int) := by omega
        have i2 : (k : Int) < (len : Int) := by omega
        clear hup hbr c o hx mx
        go_wp2_with fail
        refine ((unhide HT) _ (by first | exact Below.refl _ _ | exact (Below.refl _ _).drew)).mono ?_
        rintro e w2 ⟨t0, t1, d2, rfl, o2, b2⟩
        have b2' : Below wr.heap.size wr w2 := by first | exact b2 | exact Below.trans ((Below.refl _ _).drew) b2
        obtain ⟨gs, gf⟩ := (unhide hslot) w2 b2'
        have HN := hide ((unhide hstep) w2 d2 t0 t1 b2' o2)
        obtain ⟨u0, h0⟩ := gs 0 (by show 0 < 3; omega)
        obtain ⟨u1, h1⟩ := gs 1 (by show 1 < 3; omega)
        obtain ⟨u2, h2⟩ := gs 2 (by show 2 < 3; omega)
        simp only [Nat.zero_add, Nat.add_zero, show vtK.m = 3 from rfl] at h0 h1 h2
        have HB2 := hide ((unhide HB).trans (b2'.mono (unhide HB).size))
        have hs2 : w.heap.size < w2.heap.size := Nat.lt_of_lt_of_le hsw b2'.size
        clear o2 b2 b2' hslot hstep gs
        go_wp2_with fail
        go_roundw
        case rel =>
          have hN := unhide HN
          simp only [Nat.zero_add, show vtK.m = 3 from rfl] at hN
          exact ⟨k + 1, joinD wr.heap.size d d2, by omega, by go_num, hN, by simp only [size_set']; exact hs2, ((((unhide HB2).setCell (Nat.le_refl _) _).setCell (Nat.le_refl _) _).setCell (Nat.le_refl _) _)⟩
        case measure => simp [intOf]; omega
      · obtain rfl : k = len := by omega
        have HU := hide hup
        have HB := hide hbr
        clear hup hbr
        go_wp2_with fail
        go_ret
        refine ⟨⟨some ⟨w.heap.size, 0, none⟩, k, k⟩, d, rfl, ?_, unhide HB⟩
        show RowPart vtK _ _ _ _ _ _ xs xs.length
        rw [← unhide HL]
        exact unhide HU

end Go.Proofs.Ytalkhlimkanlcaa

/- What is proved here: the contract of the laws' helper function that copies a snapshot (toSnap). -/
namespace Go.Proofs.Ytalkhlimkanlcaa
open Go.RowKit
set_option linter.unusedVariables false
set_option maxRecDepth 100000

set_option maxHeartbeats 4000000 in
theorem toSnap_any (p : Path) (n0 : Int) (s1 : Sl) (z1 : List (List Int)) (s2 : Sl) (z2 : List Rc) (s3 : Sl) (z3 : List Vt) (w : World) (i0 : in64 n0) (o1 : (rowK bytesK 45).Ok w s1 z1) (m1_0 : z1.length ≤ 1048576) (m1_1 : ∀ z ∈ z1, z.length ≤ 1048576) (o2 : (rowK rcK 87).Ok w s2 z2) (m2_0 : z2.length ≤ 1048576) (m2_1 : ∀ x ∈ z2, rcSz x ≤ 1048576) (o3 : (rowK vtK 89).Ok w s3 z3) (m3_0 : z3.length ≤ 1048576) (m3_1 : ∀ x ∈ z3, vtSz x ≤ 1048576) :
    Calls Try.prog 11 #[.agg #[.int .i64 n0, .slice s1.a s1.n s1.c, .slice s2.a s2.n s2.c, .slice s3.a s3.n s3.c]] w fun e w' => ∃ (t1 : Sl) (t2 : Sl) (t3 : Sl) (d : Nat → Path), e = .returned (.agg #[.int .i64 n0, .slice t1.a t1.n t1.c, .slice t2.a t2.n t2.c, .slice t3.a t3.n t3.c]) ∧ (snK 45 87 89).Own w' w.heap.size d p ((), t1, t2, t3) (n0, z1, z2, z3) ∧ Below w.heap.size w w' := by
  have HO1 := hide (fun (W : World) (hb : Below w.heap.size w W) => toBs_kd (p ++ [1] ++ [0]) s1 z1 W ((rowK bytesK 45).below o1 hb (Nat.le_refl _)) m1_0 m1_1)
  have HO2 := hide (fun (W : World) (hb : Below w.heap.size w W) => toRecentS_any (p ++ [1] ++ [1] ++ [0]) s2 z2 W ((rowK rcK 87).below o2 hb (Nat.le_refl _)) m2_0 m2_1)
  have HO3 := hide (fun (W : World) (hb : Below w.heap.size w W) => toVoteS_any (p ++ [1] ++ [1] ++ [1]) s3 z3 W ((rowK vtK 89).below o3 hb (Nat.le_refl _)) m3_0 m3_1)
  obtain ⟨k0, k1, k2, K0, hsz⟩ := three_blk w #[.int .i64 n0, .slice s1.a s1.n s1.c, .slice s2.a s2.n s2.c, .slice s3.a s3.n s3.c] #[.int .i64 0, .slice none 0 0, .slice none 0 0, .slice none 0 0] #[.int .i64 0, .slice none 0 0, .slice none 0 0, .slice none 0 0] 26 32 32
  obtain ⟨W0, e0⟩ : ∃ W0, ((w.alloc (.cells #[.int .i64 n0, .slice s1.a s1.n s1.c, .slice s2.a s2.n s2.c, .slice s3.a s3.n s3.c] 26)).alloc (.cells #[.int .i64 0, .slice none 0 0, .slice none 0 0, .slice none 0 0] 32)).alloc (.cells #[.int .i64 0, .slice none 0 0, .slice none 0 0, .slice none 0 0] 32) = W0 := ⟨_, rfl⟩
  rw [e0] at k0 k1 k2 K0 hsz
  clear o1 o2 o3
  go_enter Try.func11, Try.ntmps11
  have x0 := k0.cell 0
  have x1 := k0.cell 1
  have u0 := k2.cell 0
  have v0 := k2.free 0
  simp only [List.getElem?_cons_zero, List.getElem?_cons_succ] at x0 x1 u0
  have Q := hide (And.intro k0 (And.intro k1 (And.intro k2 (And.intro K0 hsz))))
  clear k0 k1 k2 K0 hsz
  go_wp2_with (rw [e0])
  try rw [e0]
  clear e0
  obtain ⟨k0, k1, k2, K0, hsz⟩ := unhide Q
  clear Q x0 x1 u0 v0
  have B0 := (K0.setCell (p := ⟨w.heap.size + 2, 0, none⟩) (by show w.heap.size ≤ w.heap.size + 2; omega) (.int .i64 n0))
  refine ((unhide HO1) _ B0).mono ?_
  rintro e w1 ⟨t1, d1, rfl, ow1, b1⟩
  simp only [size_set'] at ow1 b1
  have k0 := (k0.other (g' := w.heap.size + 2) (by omega)).below b1 (by omega)
  have k1 := (k1.other (g' := w.heap.size + 2) (by omega)).below b1 (by omega)
  have k2 := (k2.set 0 (.int .i64 n0)).below b1 (by omega)
  simp only [List.set_cons_zero] at k2
  have K1 := B0.trans (b1.mono (by omega))
  have ow1 := Kd.made _ ow1
  have g1 : W0.heap.size ≤ w1.heap.size := by have := b1.size; simp only [size_set'] at this; exact this
  have hs1 : w.heap.size + 3 ≤ w1.heap.size := by omega
  have hsW := hsz
  clear b1 B0 hsz
  have hsz := hs1
  have x2 := k0.cell 2
  have u1 := k2.cell 1
  have v1 := k2.free 1
  simp only [List.getElem?_cons_zero, List.getElem?_cons_succ] at x2 u1
  have Q := hide (And.intro k0 (And.intro k1 (And.intro k2 (And.intro K1 hsz))))
  clear k0 k1 k2 K1 hsz
  go_wp2_with fail
  obtain ⟨k0, k1, k2, K1, hsz⟩ := unhide Q
  clear Q x2 u1 v1
  have B1 := (K1.setCell (p := ⟨w.heap.size + 2, 1, none⟩) (by show w.heap.size ≤ w.heap.size + 2; omega) (.slice t1.a t1.n t1.c))
  refine ((unhide HO2) _ B1).mono ?_
  rintro e w2 ⟨t2, d2, rfl, ow2, b2⟩
  simp only [size_set'] at ow2 b2
  have k0 := (k0.other (g' := w.heap.size + 2) (by omega)).below b2 (by omega)
  have k1 := (k1.other (g' := w.heap.size + 2) (by omega)).below b2 (by omega)
  have k2 := (k2.set 1 (.slice t1.a t1.n t1.c)).below b2 (by omega)
  simp only [List.set_cons_zero, List.set_cons_succ] at k2
  have K2 := B1.trans (b2.mono (by omega))
  have ow1 := (ow1.set (q := ⟨w.heap.size + 2, _, none⟩) (by show w.heap.size + 2 < _; omega) _).below b2 (by simp only [size_set']; exact Nat.le_refl _)
  have ow2 := Kd.made _ ow2
  have g2 : w1.heap.size ≤ w2.heap.size := by have := b2.size; simp only [size_set'] at this; exact this
  have hs2 : w.heap.size + 3 ≤ w2.heap.size := by omega
  clear b2 B1 hsz
  have hsz := hs2
  have x3 := k0.cell 3
  have u2 := k2.cell 2
  have v2 := k2.free 2
  simp only [List.getElem?_cons_zero, List.getElem?_cons_succ] at x3 u2
  have Q := hide (And.intro k0 (And.intro k1 (And.intro k2 (And.intro K2 hsz))))
  clear k0 k1 k2 K2 hsz
  go_wp2_with fail
  obtain ⟨k0, k1, k2, K2, hsz⟩ := unhide Q
  clear Q x3 u2 v2
  have B2 := (K2.setCell (p := ⟨w.heap.size + 2, 2, none⟩) (by show w.heap.size ≤ w.heap.size + 2; omega) (.slice t2.a t2.n t2.c))
  refine ((unhide HO3) _ B2).mono ?_
  rintro e w3 ⟨t3, d3, rfl, ow3, b3⟩
  simp only [size_set'] at ow3 b3
  have k0 := (k0.other (g' := w.heap.size + 2) (by omega)).below b3 (by omega)
  have k1 := (k1.other (g' := w.heap.size + 2) (by omega)).below b3 (by omega)
  have k2 := (k2.set 2 (.slice t2.a t2.n t2.c)).below b3 (by omega)
  simp only [List.set_cons_zero, List.set_cons_succ] at k2
  have K3 := B2.trans (b3.mono (by omega))
  have ow1 := (ow1.set (q := ⟨w.heap.size + 2, _, none⟩) (by show w.heap.size + 2 < _; omega) _).below b3 (by simp only [size_set']; exact Nat.le_refl _)
  have ow2 := (ow2.set (q := ⟨w.heap.size + 2, _, none⟩) (by show w.heap.size + 2 < _; omega) _).below b3 (by simp only [size_set']; exact Nat.le_refl _)
  have ow3 := Kd.made _ ow3
  have g3 : w2.heap.size ≤ w3.heap.size := by have := b3.size; simp only [size_set'] at this; exact this
  have hs3 : w.heap.size + 3 ≤ w3.heap.size := by omega
  clear b3 B2 hsz
  have hsz := hs3
  have u0 := k2.cell 0
  have v0 := k2.free 0
  have r0 := k1.cell 0
  have q0 := k1.free 0
  have u1 := k2.cell 1
  have v1 := k2.free 1
  have r1 := k1.cell 1
  have q1 := k1.free 1
  have u2 := k2.cell 2
  have v2 := k2.free 2
  have r2 := k1.cell 2
  have q2 := k1.free 2
  have u3 := k2.cell 3
  have v3 := k2.free 3
  have r3 := k1.cell 3
  have q3 := k1.free 3
  simp only [List.getElem?_cons_zero, List.getElem?_cons_succ] at  u0 r0 u1 r1 u2 r2 u3 r3
  have Q := hide (And.intro K3 (And.intro hsz (And.intro hsW trivial)))
  clear k0 k1 k2 K3 hsz hsW
  have MO1 := hide ow1
  clear ow1
  have MO2 := hide ow2
  clear ow2
  have MO3 := hide ow3
  clear ow3
  go_wp2_with fail
  obtain ⟨K3, hsz, hsW, _⟩ := unhide Q
  refine bodyPost_ret (v := .agg #[.int .i64 n0, .slice t1.a t1.n t1.c, .slice t2.a t2.n t2.c, .slice t3.a t3.n t3.c]) (by simp [results, Try.results11, go_sem, r0, r1, r2, r3]) rfl ⟨t1, t2, t3, (joinD w1.heap.size d1 (joinD w2.heap.size d2 d3)), rfl, ?_, ?_⟩
  · exact ⟨i0, (Kd.base _ (((((((unhide MO1).set (q := ⟨w.heap.size + 2, _, none⟩) (by show w.heap.size + 2 < _; omega) _).set (q := ⟨w.heap.size + 1, _, none⟩) (by show w.heap.size + 1 < _; omega) _).set (q := ⟨w.heap.size + 1, _, none⟩) (by show w.heap.size + 1 < _; omega) _).set (q := ⟨w.heap.size + 1, _, none⟩) (by show w.heap.size + 1 < _; omega) _).set (q := ⟨w.heap.size + 1, _, none⟩) (by show w.heap.size + 1 < _; omega) _) _ (fun g h1 h2 => by rw [joinD_lt h2])) (by omega)), (Kd.base _ (((((((unhide MO2).set (q := ⟨w.heap.size + 2, _, none⟩) (by show w.heap.size + 2 < _; omega) _).set (q := ⟨w.heap.size + 1, _, none⟩) (by show w.heap.size + 1 < _; omega) _).set (q := ⟨w.heap.size + 1, _, none⟩) (by show w.heap.size + 1 < _; omega) _).set (q := ⟨w.heap.size + 1, _, none⟩) (by show w.heap.size + 1 < _; omega) _).set (q := ⟨w.heap.size + 1, _, none⟩) (by show w.heap.size + 1 < _; omega) _) _ (fun g h1 h2 => by rw [joinD_ge (by omega)]; rw [joinD_lt h2])) (by omega)), (Kd.base _ (((((((unhide MO3).set (q := ⟨w.heap.size + 2, _, none⟩) (by show w.heap.size + 2 < _; omega) _).set (q := ⟨w.heap.size + 1, _, none⟩) (by show w.heap.size + 1 < _; omega) _).set (q := ⟨w.heap.size + 1, _, none⟩) (by show w.heap.size + 1 < _; omega) _).set (q := ⟨w.heap.size + 1, _, none⟩) (by show w.heap.size + 1 < _; omega) _).set (q := ⟨w.heap.size + 1, _, none⟩) (by show w.heap.size + 1 < _; omega) _) _ (fun g h1 h2 => by rw [joinD_ge (by omega)]; rw [joinD_ge (by omega)])) (by omega))⟩
  · exact (((((K3.setCell (p := ⟨w.heap.size + 2, 3, none⟩) (by show w.heap.size ≤ w.heap.size + 2; omega) (.slice t3.a t3.n t3.c)).setCell (p := ⟨w.heap.size + 1, 0, none⟩) (by show w.heap.size ≤ w.heap.size + 1; omega) (.int .i64 n0)).setCell (p := ⟨w.heap.size + 1, 1, none⟩) (by show w.heap.size ≤ w.heap.size + 1; omega) (.slice t1.a t1.n t1.c)).setCell (p := ⟨w.heap.size + 1, 2, none⟩) (by show w.heap.size ≤ w.heap.size + 1; omega) (.slice t2.a t2.n t2.c)).setCell (p := ⟨w.heap.size + 1, 3, none⟩) (by show w.heap.size ≤ w.heap.size + 1; omega) (.slice t3.a t3.n t3.c))

end Go.Proofs.Ytalkhlimkanlcaa

/- What is proved here: the contract of the laws' helper function that compares slices of slices of bytes (eqByteSS). -/
namespace Go.Proofs.Ytalkhlimkanlcaa
open Go.RowKit
set_option linter.unusedVariables false
set_option maxRecDepth 100000

set_option maxHeartbeats 2000000 in
theorem eqByteSS_any (a b : Option Addr) (la ca lb cb : Nat) (xs ys : List (List Int)) (w : World) (ha : BsRow w a la xs) (hb : BsRow w b lb ys) (hl : la ≤ 1048576) (hl2 : lb ≤ 1048576) (hx : ∀ z ∈ xs, z.length ≤ 1048576) (hy : ∀ z ∈ ys, z.length ≤ 1048576) :
    Calls Try.prog 19 #[.slice a la ca, .slice b lb cb] w fun e w' => e = .returned (.bool (sameBs xs ys)) ∧ ∃ n, w' = w.drewN n := by
  have hxl := ha.1
  have hyl := hb.1
  by_cases hne : la = lb
  · subst hne
    have hlen : (((la : Nat) : Int) != ((la : Nat) : Int)) = false := by simp
    rcases Nat.eq_zero_or_pos la with h0 | hp
    · subst h0
      have hx : xs = [] := List.length_eq_zero_iff.1 hxl
      have hy : ys = [] := List.length_eq_zero_iff.1 hyl
      subst hx hy
      clear ha hb
      go_enter Try.func19, Try.ntmps19
      go_wp2_with fail
      refine wp_loop_rounds 1 ?_
      rw [rounds_succ]
      go_wp2_with fail
      go_ret
      exact ⟨rfl, 0, rfl⟩
    · obtain ⟨ba, oa, rfl, hba, hca⟩ := ha.at hp
      obtain ⟨bb, ob, rfl, hbb, hcb⟩ := hb.at hp
      have HCA := hide hca
      have HCB := hide hcb
      have HX := hide hx
      have HY := hide hy
      have HXL := hide hxl
      have HYL := hide hyl
      clear ha hb hca hcb hx hy hxl hyl
      go_enter Try.func19, Try.ntmps19
      go_wp2_with fail
      go_loopw [5] (fun i wr => ∃ k n : Nat, k ≤ la ∧ i = .int .i64 k ∧ sameBs xs ys = sameBs (xs.drop k) (ys.drop k) ∧ wr = w.drewN n) (fun i _ => la - (intOf i).toNat)
      case atStart => exact ⟨0, 0, Nat.zero_le _, rfl, by simp, rfl⟩
      case round =>
        obtain ⟨k, n, hk, rfl, hpre, rfl⟩ := hrel
        by_cases hlt : k < la
        · obtain ⟨x, hix⟩ : ∃ z, xs[k]? = some z := ⟨_, List.getElem?_eq_getElem (by rw [unhide HXL]; exact hlt)⟩
          obtain ⟨y, hiy⟩ : ∃ z, ys[k]? = some z := ⟨_, List.getElem?_eq_getElem (by rw [unhide HYL]; exact hlt)⟩
          have hst := sameBs_step xs ys k x y hix hiy
          rw [← hpre] at hst
          obtain ⟨s1, n1, d1, p0, r1⟩ := (unhide HCA) k x hix
          obtain ⟨s2, n2, d2, q0, r2⟩ := (unhide HCB) k y hiy
          have m1 : n1 ≤ 1048576 := by rw [← r1.1]; exact (unhide HX) x (List.mem_of_getElem? hix)
          have m2 : n2 ≤ 1048576 := by rw [← r2.1]; exact (unhide HY) y (List.mem_of_getElem? hiy)
          have HEQ := hide (fun (m : Nat) => eqByteS_any s1 s2 n1 d1 n2 d2 x y (w.drewN m) (r1.below (B := w.heap.size) (below_drewN (Below.refl _ _) m) (Nat.le_refl _)) (r2.below (B := w.heap.size) (below_drewN (Below.refl _ _) m) (Nat.le_refl _)) m1 m2)
          have HP := hide hpre
          have HS := hide hst
          have i1 : (0 : Int) ≤ (k : Int) := by omega
          have i2 : (k : Int) < (la : Int) := by omega
          clear r1 r2 hst hpre hix hiy m1 m2
          generalize sameB x y = sb at HEQ HS
          go_wp2_with fail
          go_region_with (first | (go_at_call 27; refine ((unhide HEQ) (n + 1)).mono ?_; rintro e w1 ⟨rfl, m, rfl⟩))
          all_goals
            cases sb
            · go_wp2_with fail
              go_ret
              exact ⟨ret_bool (by rw [unhide HS]; rfl), _, by first | rfl | exact World.drewN_drewN ..⟩
            · go_wp2_with fail
              go_roundw
              case rel => exact ⟨k + 1, _, by omega, by go_num, by rw [unhide HS]; simp, by first | rfl | exact World.drewN_drewN ..⟩
              case measure => simp [intOf]; omega
        · obtain rfl : k = la := by omega
          have e := sameBs_end xs ys k (unhide HXL) (unhide HYL)
          rw [e] at hpre
          have HE := hide hpre
          clear e hpre
          go_wp2_with fail
          go_ret
          exact ⟨ret_bool (unhide HE).symm, n, rfl⟩
  · have hlen : (((la : Nat) : Int) != ((lb : Nat) : Int)) = true := by simp; omega
    have HE := hide (sameBs_len xs ys (by rw [hxl, hyl]; exact hne))
    clear ha hb hxl hyl
    go_enter Try.func19, Try.ntmps19
    go_wp2_with fail
    go_ret
    exact ⟨ret_bool (unhide HE).symm, 0, rfl⟩

end Go.Proofs.Ytalkhlimkanlcaa

/- What is proved here: the contracts of the laws' helper functions that count and compare snapshots (szSnap, eqSnap). -/
namespace Go.Proofs.Ytalkhlimkanlcaa
open Go.RowKit
set_option linter.unusedVariables false
set_option maxRecDepth 100000

theorem sameBs_dec : ∀ (a b : List (List Int)), sameBs a b = decide (a = b)
  | [], [] => rfl
  | [], _ :: _ => by simp [sameBs]
  | _ :: _, [] => by simp [sameBs]
  | a :: r, b :: t => by
    rw [sameBs, sameBs_dec r t]
    by_cases h : a = b
    · subst h; simp [sameB]
    · simp [sameB, h]

/-- Whether two snapshots are the same. -/
def snSame (x y : Sn) : Bool := decide (x.1 = y.1) && (decide (x.2.1 = y.2.1) && (decide (x.2.2.1 = y.2.2.1) && decide (x.2.2.2 = y.2.2.2)))

theorem snSame_self (x : Sn) : snSame x x = true := by simp [snSame]

theorem snSame_iff (x y : Sn) : snSame x y = true ↔ x = y := by
  obtain ⟨x0, x1, x2, x3⟩ := x
  obtain ⟨y0, y1, y2, y3⟩ := y
  simp [snSame]

/-- The kind of a snapshot. -/
abbrev SNK : Kd Sn SnS := snK 45 87 89

structure SnSm (x : Sn) : Prop where
  s : x.2.1.length ≤ 1048576
  sz : ∀ z ∈ x.2.1, z.length ≤ 1048576
  r : x.2.2.1.length ≤ 1048576
  rz : ∀ y ∈ x.2.2.1, rcSz y ≤ 1048576
  v : x.2.2.2.length ≤ 1048576
  vz : ∀ y ∈ x.2.2.2, vtSz y ≤ 1048576

theorem snSm_of {x : Sn} (h : snSz x ≤ 1048576) : SnSm x := by
  unfold snSz at h
  exact ⟨by omega, fun z hz => by have := lsum_mem List.length _ z hz; omega, by omega, fun z hz => by have := lsum_mem rcSz _ z hz; omega, by omega, fun z hz => by have := lsum_mem vtSz _ z hz; omega⟩

/-- A snapshot copied in: its slices lie in memory of their own. -/
theorem toSnap_kd (p : Path) (e : SnS) (x : Sn) (w : World) (o : SNK.Ok w e x) (m : SnSm x) :
    Calls Try.prog 11 #[.agg (snvals e x)] w fun r w' => ∃ (e' : SnS) (d : Nat → Path), r = .returned (.agg (snvals e' x)) ∧ SNK.Own w' w.heap.size d p e' x ∧ Below w.heap.size w w' := by
  refine (toSnap_any p x.1 e.2.1 x.2.1 e.2.2.1 x.2.2.1 e.2.2.2 x.2.2.2 w o.1 o.2.1 m.s m.sz o.2.2.1 m.r m.rz o.2.2.2 m.v m.vz).mono ?_
  rintro r w' ⟨t1, t2, t3, d, rfl, h1, h2⟩
  exact ⟨((), t1, t2, t3), d, rfl, h1, h2⟩

set_option maxHeartbeats 2000000 in
theorem szSnap_any (e : SnS) (x : Sn) (left : Int) (w : World) (o : SNK.Ok w e x) (h0 : 0 ≤ left) (h1 : left ≤ 1048576) :
    Calls Try.prog 9 #[.agg (snvals e x), .int .i64 left] w fun r w' => r = .returned (.int .i64 (szOf left (snSz x))) ∧ Below w.heap.size w w' := by
  have kb := SBlk.new w (snvals e x) 26
  have bb := below_alloc w (.cells (snvals e x) 26)
  obtain ⟨W0, e0⟩ : ∃ W, w.alloc (.cells (snvals e x) 26) = W := ⟨_, rfl⟩
  rw [e0] at kb bb
  have bs := bs_of_row o.2.1
  have hl : e.2.1.n ≤ maxLen := Nat.le_trans o.2.1.room o.2.1.max
  have D1 := hide (szByteSS_any e.2.1.a e.2.1.n e.2.1.c x.2.1 left W0 (bs.below bb (Nat.le_refl _)) hl h0 (by omega))
  rw [szBss_lsum _ _ h0] at D1
  have D2 := hide (fun (L : Int) (q0 : 0 ≤ L) (q1 : L ≤ left) => szRecentS_any e.2.2.1 x.2.2.1 L W0 (o.2.2.1.below bb (Nat.le_refl _)) q0 (by omega))
  have D3 := hide (fun (W : World) (hb : Below W0.heap.size W0 W) (L : Int) (q0 : 0 ≤ L) (q1 : L ≤ left) => szVoteS_any e.2.2.2 x.2.2.2 L W (o.2.2.2.below (bb.trans (hb.mono bb.size)) (Nat.le_refl _)) q0 (by omega))
  have c0 := kb.cell 0
  have c1 := kb.cell 1
  have c2 := kb.cell 2
  have c3 := kb.cell 3
  simp only [snvals, List.getElem?_cons_zero, List.getElem?_cons_succ] at c0 c1 c2 c3
  have HK := hide (fun (W : World) (hb : Below W0.heap.size W0 W) => kb.below hb kb.lt)
  have HBB := hide bb
  unfold snSz
  generalize x.2.1.length + lsum List.length x.2.1 = a1 at D1 ⊢
  generalize x.2.2.1.length + lsum rcSz x.2.2.1 = a2 at D2 ⊢
  generalize x.2.2.2.length + lsum vtSz x.2.2.2 = a3 at D3 ⊢
  clear o bs hl kb bb
  unfold snvals at e0 ⊢
  by_cases n1 : szOf left a1 < 0
  · have q1 : szOf left a1 = -1 := szOf_neg n1 (Nat.le_refl _)
    have q2 : szOf left (a1 + a2 + a3) = -1 := szOf_neg n1 (by omega)
    rw [q1] at D1
    rw [q2]
    clear q1 q2 n1
    go_enter Try.func9, Try.ntmps9
    go_upto_region 1 with (rw [e0])
    try rw [e0]
    clear e0
    go_wp2_with fail
    refine (unhide D1).mono ?_
    rintro r w1 ⟨rfl, rfl⟩
    go_wp2_with fail
    go_ret
    exact ⟨rfl, unhide HBB⟩
  · obtain ⟨L1, eL1⟩ : ∃ L, L = szOf left a1 := ⟨_, rfl⟩
    have p1 := szOf_szOf (left := left) (a := a1) (b := a2) (by omega)
    have l1 : 0 ≤ L1 := by omega
    have l1' : L1 ≤ left := by rw [eL1]; unfold szOf; split <;> omega
    rw [← eL1] at D1 p1
    have d1 : decide (L1 < 0) = false := decide_eq_false (by omega)
    have D2' := hide ((unhide D2) L1 l1 l1')
    rw [p1] at D2'
    clear D2
    by_cases n2 : szOf left (a1 + a2) < 0
    · have q1 : szOf left (a1 + a2) = -1 := szOf_neg n2 (Nat.le_refl _)
      have q2 : szOf left (a1 + a2 + a3) = -1 := szOf_neg n2 (by omega)
      rw [q1] at D2'
      rw [q2]
      clear q1 q2 n2 n1 p1 eL1
      go_enter Try.func9, Try.ntmps9
      go_upto_region 1 with (rw [e0])
      try rw [e0]
      clear e0
      go_wp2_with fail
      refine (unhide D1).mono ?_
      rintro r w1 ⟨rfl, rfl⟩
      go_wp2_with fail
      refine (unhide D2').mono ?_
      rintro r w2 ⟨rfl, b2⟩
      have HB2 := hide ((unhide HBB).trans (b2.mono (unhide HBB).size))
      clear b2
      go_wp2_with fail
      go_ret
      exact ⟨rfl, unhide HB2⟩
    · obtain ⟨L2, eL2⟩ : ∃ L, L = szOf left (a1 + a2) := ⟨_, rfl⟩
      have p2 := szOf_szOf (left := left) (a := a1 + a2) (b := a3) (by omega)
      have l2 : 0 ≤ L2 := by omega
      have l2' : L2 ≤ left := by rw [eL2]; unfold szOf; split <;> omega
      rw [← eL2] at D2' p2
      have d2 : decide (L2 < 0) = false := decide_eq_false (by omega)
      rw [← p2]
      have D3' := hide (fun (W : World) (hb : Below W0.heap.size W0 W) => (unhide D3) W hb L2 l2 l2')
      obtain ⟨L3, eL3⟩ : ∃ L, L = szOf L2 a3 := ⟨_, rfl⟩
      have l3 : L3 < 0 → L3 = -1 := fun h => by rw [eL3] at h ⊢; exact szOf_neg h (Nat.le_refl _)
      rw [← eL3] at D3' ⊢
      clear n1 n2 p1 p2 eL1 eL2 eL3 D3
      go_enter Try.func9, Try.ntmps9
      go_upto_region 1 with (rw [e0])
      try rw [e0]
      clear e0
      go_wp2_with fail
      refine (unhide D1).mono ?_
      rintro r w1 ⟨rfl, rfl⟩
      go_wp2_with fail
      refine (unhide D2').mono ?_
      rintro r w2 ⟨rfl, b2⟩
      have HB2 := hide ((unhide HBB).trans (b2.mono (unhide HBB).size))
      have k2 := (unhide HK) w2 b2
      have c4 := k2.cell 3
      simp only [snvals, List.getElem?_cons_zero, List.getElem?_cons_succ] at c4
      have HD := hide ((unhide D3') w2 b2)
      clear b2 k2 D3'
      go_wp2_with fail
      refine (unhide HD).mono ?_
      rintro r w3 ⟨rfl, b3⟩
      have HB3 := hide ((unhide HB2).trans (b3.mono (unhide HB2).size))
      clear b3
      by_cases n3 : L3 < 0
      · have e3 := l3 n3
        subst e3
        go_wp2_with fail
        go_ret
        exact ⟨rfl, unhide HB3⟩
      · have d3 : decide (L3 < 0) = false := decide_eq_false n3
        go_wp2_with fail
        go_ret
        exact ⟨rfl, unhide HB3⟩

set_option maxHeartbeats 4000000 in
theorem eqSnap_any (e f : SnS) (x y : Sn) (w : World) (o : SNK.Ok w e x) (q : SNK.Ok w f y) (m : SnSm x) (m' : SnSm y) :
    Calls Try.prog 13 #[.agg (snvals e x), .agg (snvals f y)] w fun r w' => r = .returned (.bool (snSame x y)) ∧ Below w.heap.size w w' := by
  have ka := SBlk.new w (snvals e x) 32
  have ba := below_alloc w (.cells (snvals e x) 32)
  have za : (w.alloc (.cells (snvals e x) 32)).heap.size = w.heap.size + 1 := by simp
  obtain ⟨W0, ea⟩ : ∃ W0, w.alloc (.cells (snvals e x) 32) = W0 := ⟨_, rfl⟩
  rw [ea] at ka ba za
  have kb := SBlk.new W0 (snvals f y) 32
  have k1 := ka.next (.cells (snvals f y) 32)
  have bb := ba.trans ((below_alloc W0 (.cells (snvals f y) 32)).mono ba.size)
  obtain ⟨W1, eb⟩ : ∃ W1, W0.alloc (.cells (snvals f y) 32) = W1 := ⟨_, rfl⟩
  rw [za] at kb
  rw [eb] at kb k1 bb
  obtain ⟨e0, e1, e2, e3⟩ := e
  obtain ⟨f0, f1, f2, f3⟩ := f
  obtain ⟨x0, x1, x2, x3⟩ := x
  obtain ⟨y0, y1, y2, y3⟩ := y
  have D1 : Hid (Calls Try.prog 19 #[.slice e1.a e1.n e1.c, .slice f1.a f1.n f1.c] W1 fun r w' => r = .returned (.bool (decide (x1 = y1))) ∧ Below W1.heap.size W1 w') :=
    (eqByteSS_any e1.a f1.a e1.n e1.c f1.n f1.c x1 y1 W1 ((bs_of_row o.2.1).below bb (Nat.le_refl _)) ((bs_of_row q.2.1).below bb (Nat.le_refl _)) (by have := o.2.1.len; have := m.s; simp only at *; omega) (by have := q.2.1.len; have := m'.s; simp only at *; omega) m.sz m'.sz).mono (by
      rintro r w' ⟨rfl, n, rfl⟩
      exact ⟨by rw [sameBs_dec], below_drewN (Below.refl _ _) n⟩)
  have D2 := hide (fun (W : World) (hb : Below W1.heap.size W1 W) => eqRecentS_any e2 f2 x2 y2 W (o.2.2.1.below (bb.trans (hb.mono bb.size)) (Nat.le_refl _)) (q.2.2.1.below (bb.trans (hb.mono bb.size)) (Nat.le_refl _)) m.r m'.r m.rz m'.rz)
  have D3 := hide (fun (W : World) (hb : Below W1.heap.size W1 W) => eqVoteS_any e3 f3 x3 y3 W (o.2.2.2.below (bb.trans (hb.mono bb.size)) (Nat.le_refl _)) (q.2.2.2.below (bb.trans (hb.mono bb.size)) (Nat.le_refl _)) m.v m'.v m.vz m'.vz)
  have HKA := hide (fun (W : World) (hb : Below W1.heap.size W1 W) => k1.below hb k1.lt)
  have HKB := hide (fun (W : World) (hb : Below W1.heap.size W1 W) => kb.below hb kb.lt)
  have HBB := hide bb
  have HE : Hid (snSame (x0, x1, x2, x3) (y0, y1, y2, y3) = (decide (x0 = y0) && (decide (x1 = y1) && (decide (x2 = y2) && decide (x3 = y3))))) := rfl
  have u0 := k1.cell 0
  have u1 := k1.cell 1
  have u2 := k1.cell 2
  have u3 := k1.cell 3
  have v0 := kb.cell 0
  have v1 := kb.cell 1
  have v2 := kb.cell 2
  have v3 := kb.cell 3
  simp only [snvals, List.getElem?_cons_zero, List.getElem?_cons_succ] at u0 u1 u2 u3 v0 v1 v2 v3
  have EA := hide ea
  have EB := hide eb
  clear ea eb ka kb k1 ba bb o q m m' za
  unfold snvals at EA EB ⊢
  simp only at EA EB ⊢
  by_cases n0 : x0 = y0
  · subst n0
    have c0 : (x0 != x0) = false := by simp
    have HE' : Hid (snSame (x0, x1, x2, x3) (x0, y1, y2, y3) = (decide (x1 = y1) && (decide (x2 = y2) && decide (x3 = y3)))) := by show _ = _; rw [unhide HE]; simp
    clear HE
    generalize decide (x1 = y1) = s1 at D1 HE'
    generalize decide (x2 = y2) = s2 at D2 HE'
    generalize decide (x3 = y3) = s3 at D3 HE'
    generalize snSame (x0, x1, x2, x3) (x0, y1, y2, y3) = sa at HE' ⊢
    go_enter Try.func13, Try.ntmps13
    go_upto_region 1 with fail
    rw [unhide EA, unhide EB]
    clear EA EB
    go_wp2_with fail
    refine (unhide D1).mono ?_
    rintro r w2 ⟨rfl, b2⟩
    have B2 := hide b2
    have u4 := ((unhide HKA) w2 b2).cell 2
    have v4 := ((unhide HKB) w2 b2).cell 2
    simp only [snvals, List.getElem?_cons_zero, List.getElem?_cons_succ] at u4 v4
    clear b2
    cases s1
    · go_wp2_with fail
      go_ret
      exact ⟨ret_bool (by rw [unhide HE']; rfl), (unhide HBB).trans ((unhide B2).mono (unhide HBB).size)⟩
    go_wp2_with fail
    refine ((unhide D2) _ (unhide B2)).mono ?_
    rintro r w3 ⟨rfl, b3⟩
    have B3 := hide ((unhide B2).trans (b3.mono (unhide B2).size))
    have u5 := ((unhide HKA) w3 (unhide B3)).cell 3
    have v5 := ((unhide HKB) w3 (unhide B3)).cell 3
    simp only [snvals, List.getElem?_cons_zero, List.getElem?_cons_succ] at u5 v5
    clear b3
    cases s2
    · go_wp2_with fail
      go_ret
      exact ⟨ret_bool (by rw [unhide HE']; rfl), (unhide HBB).trans ((unhide B3).mono (unhide HBB).size)⟩
    go_wp2_with fail
    refine ((unhide D3) _ (unhide B3)).mono ?_
    rintro r w4 ⟨rfl, b4⟩
    have B4 := hide ((unhide B3).trans (b4.mono (unhide B3).size))
    clear b4
    cases s3
    · go_wp2_with fail
      go_ret
      exact ⟨ret_bool (by rw [unhide HE']; rfl), (unhide HBB).trans ((unhide B4).mono (unhide HBB).size)⟩
    · go_wp2_with fail
      go_ret
      exact ⟨ret_bool (by rw [unhide HE']; rfl), (unhide HBB).trans ((unhide B4).mono (unhide HBB).size)⟩
  · have c0 : (x0 != y0) = true := by simp [n0]
    have HE' : Hid (snSame (x0, x1, x2, x3) (y0, y1, y2, y3) = false) := by show _ = _; rw [unhide HE]; simp [n0]
    clear HE D1 D2 D3
    go_enter Try.func13, Try.ntmps13
    go_upto_region 1 with fail
    rw [unhide EA, unhide EB]
    clear EA EB
    go_wp2_with fail
    go_ret
    exact ⟨ret_bool (unhide HE').symm, unhide HBB⟩

end Go.Proofs.Ytalkhlimkanlcaa

/- What is proved here: two lists of bytes are the same as strings just where they are the same. -/
namespace Go.Proofs.Ytalkhlimkanlcaa
open Go.RowKit
set_option linter.unusedVariables false
set_option maxRecDepth 100000

theorem byteList_loop (bs : ByteArray) (i : Nat) (r : List UInt8) : ByteArray.toList.loop bs i r = r.reverse ++ bs.data.toList.drop i := by
  have hsz : bs.size = bs.data.toList.length := by cases bs; rfl
  induction h : bs.size - i generalizing i r with
  | zero =>
    unfold ByteArray.toList.loop
    have : bs.size ≤ i := by omega
    rw [if_neg (by omega), List.drop_eq_nil_of_le (by omega)]
    simp
  | succ n ih =>
    unfold ByteArray.toList.loop
    have hi : i < bs.size := by omega
    rw [if_pos hi, ih (i+1) _ (by omega)]
    have hi' : i < bs.data.toList.length := by omega
    rw [List.drop_eq_getElem_cons hi', List.reverse_cons, List.append_assoc]
    congr 1
    show _ :: _ = _ :: _
    congr 1
    cases bs with
    | mk d =>
      show d[i]! = d.toList[i]
      have hd : i < d.size := by simpa using hi'
      rw [getElem!_pos d i hd, Array.getElem_toList]

theorem byteList_data (bs : ByteArray) : bs.toList = bs.data.toList := by
  unfold ByteArray.toList
  rw [byteList_loop]; rfl

theorem strEq_dec {xs ys : List Int} (hx : ∀ x ∈ xs, 0 ≤ x ∧ x ≤ 255) (hy : ∀ y ∈ ys, 0 ≤ y ∧ y ≤ 255) : strEq xs ys = decide (xs = ys) := by
  unfold strEq
  rw [byteList_data, byteList_data, strOfNums_data, strOfNums_data]
  by_cases e : xs = ys
  · subst e; simp
  · rw [decide_eq_false e, beq_eq_false_iff_ne]
    intro h
    apply e
    have inj : ∀ (a b : List Int), (∀ x ∈ a, 0 ≤ x ∧ x ≤ 255) → (∀ x ∈ b, 0 ≤ x ∧ x ≤ 255) → a.map (fun n => UInt8.ofNat n.toNat) = b.map (fun n => UInt8.ofNat n.toNat) → a = b := by
      intro a
      induction a with
      | nil => intro b _ _ h; cases b with
        | nil => rfl
        | cons y t => simp at h
      | cons x r ih =>
        intro b ha hb h
        cases b with
        | nil => simp at h
        | cons y t =>
          rw [List.map_cons, List.map_cons, List.cons.injEq] at h
          have h1 := ha x (by simp)
          have h2 := hb y (by simp)
          have e1 : x.toNat = y.toNat := by
            have q := congrArg UInt8.toNat h.1
            simp only [UInt8.toNat_ofNat'] at q
            omega
          rw [show x = y by omega, ih t (fun z hz => ha z (by simp [hz])) (fun z hz => hb z (by simp [hz])) h.2]
    exact inj xs ys hx hy h

end Go.Proofs.Ytalkhlimkanlcaa

/- What is proved here: what the model's l1Same and the program's SameBytes answer: whether two slices are the same as strings. -/
namespace Go.Proofs.Ytalkhlimkanlcaa
open Go.RowKit
set_option linter.unusedVariables false
set_option maxRecDepth 100000

theorem l1Same_any (a b : Option Addr) (la ca lb cb : Nat) (xs ys : List Int) (w : World) (ha : BRow w a la xs) (hb : BRow w b lb ys) :
    Calls Try.prog 66 #[.slice a la ca, .slice b lb cb] w fun e w' => e = .returned (.bool (strEq xs ys)) ∧ w' = w := by
  have h1 := conv_any (P := Try.prog) w 45 5 9 Try.underlying45 Try.underlying5 Try.underlying9 a la ca xs ha
  have h2 := conv_any (P := Try.prog) w 45 5 9 Try.underlying45 Try.underlying5 Try.underlying9 b lb cb ys hb
  clear ha hb
  go_enter Try.func66, Try.ntmps66
  go_wp2
  go_ret
  exact ⟨rfl, rfl⟩

theorem implSame_any (a b : Option Addr) (la ca lb cb : Nat) (xs ys : List Int) (w : World) (ha : BRow w a la xs) (hb : BRow w b lb ys) :
    Calls Try.prog 64 #[.slice a la ca, .slice b lb cb] w fun e w' => e = .returned (.bool (strEq xs ys)) ∧ w' = w := by
  have h1 := conv_any (P := Try.prog) w 45 5 9 Try.underlying45 Try.underlying5 Try.underlying9 a la ca xs ha
  have h2 := conv_any (P := Try.prog) w 45 5 9 Try.underlying45 Try.underlying5 Try.underlying9 b lb cb ys hb
  clear ha hb
  go_enter Try.func64, Try.ntmps64
  go_wp2
  go_ret
  exact ⟨rfl, rfl⟩

end Go.Proofs.Ytalkhlimkanlcaa

/- What is proved here: plain facts on whether two headers are the same; no program is named. -/
namespace Go.Proofs.Ytalkhlimkanlcaa
open Go.RowKit
set_option linter.unusedVariables false
set_option maxRecDepth 100000

/-- Whether two lists of bytes are the same, as strings. -/
def sameLs : List (List Int) → List (List Int) → Bool
  | [], [] => true
  | a :: ar, b :: bs => strEq a b && sameLs ar bs
  | _, _ => false

theorem sameLs_length : ∀ (a b : List (List Int)), sameLs a b = true → a.length = b.length
  | [], [], _ => rfl
  | [], _ :: _, h => by simp [sameLs] at h
  | _ :: _, [], h => by simp [sameLs] at h
  | a :: ar, b :: bs, h => by
    simp [sameLs] at h
    simp [sameLs_length ar bs h.2]

theorem sameLs_step (a b : List (List Int)) (k : Nat) (x y : List Int) (hx : a[k]? = some x) (hy : b[k]? = some y) : sameLs (a.drop k) (b.drop k) = (strEq x y && sameLs (a.drop (k + 1)) (b.drop (k + 1))) := by
  obtain ⟨h1, e1⟩ := List.getElem?_eq_some_iff.1 hx
  obtain ⟨h2, e2⟩ := List.getElem?_eq_some_iff.1 hy
  rw [List.drop_eq_getElem_cons h1, List.drop_eq_getElem_cons h2, e1, e2]
  rfl

theorem sameLs_end (a b : List (List Int)) (k : Nat) (h1 : a.length = k) (h2 : b.length = k) : sameLs (a.drop k) (b.drop k) = true := by
  rw [List.drop_eq_nil_of_le (by omega), List.drop_eq_nil_of_le (by omega)]
  rfl

theorem sameLs_len (a b : List (List Int)) (h : a.length ≠ b.length) : sameLs a b = false := by
  rw [Bool.eq_false_iff]
  intro e
  exact h (sameLs_length a b e)

/-- Whether two headers are the same. -/
def sameHd (h k : Hd) : Bool := strEq h.p k.p && (h.n1 == k.n1) && (h.n2 == k.n2) && (h.n3 == k.n3) && strEq h.t k.t && (h.n5 == k.n5) && sameLs h.s k.s && strEq h.r k.r && strEq h.g k.g && strEq h.e k.e && sameLs h.k k.k

theorem bool11 (c0 c1 c2 c3 c4 c5 c6 c7 c8 c9 c10 : Bool) : ((c1 && c2 && c3) && (c0 && c7) && (c8 && c9 && c10) && (c4 && c5 && c6)) = (c0 && c1 && c2 && c3 && c4 && c5 && c6 && c7 && c8 && c9 && c10) := by
  ac_rfl

end Go.Proofs.Ytalkhlimkanlcaa
