/- What is proved here: the contracts of the laws' helper functions that compare recents and votes (eqRecentS, eqVoteS). -/
import Derived.Test.YtpkfgffgldjceaaDoorChecked
import Derived.Test.YtpkfgffgldjceaaDoorJ1
import Derived.Test.YtpkfgffgldjceaaDoorJ4
import Derived.WalkKit
import Derived.WalkLawsBesides
import Derived.WalkSmall
import Derived.Deep.RegionWith
import Derived.KernelRfl
import Derived.WalkSpells
import Derived.Test.YtpkfgffgldjceaaDoorJ3
namespace Go.Proofs.YtpkfgffgldjceaaDoor
open Go.RowKit
set_option linter.unusedVariables false
set_option maxRecDepth 100000

theorem below_two' (w : World) (o1 o2 : Obj) : Below w.heap.size w ((w.alloc o1).alloc o2) := ((Below.refl _ _).alloc (Nat.le_refl _) _).alloc (by simp) _

theorem drop_same {α : Type} [DecidableEq α] (a b : List α) (k : Nat) (x y : α) (hx : a[k]? = some x) (hy : b[k]? = some y) : decide (a.drop k = b.drop k) = (decide (x = y) && decide (a.drop (k + 1) = b.drop (k + 1))) := by
  obtain ⟨h1, e1⟩ := List.getElem?_eq_some_iff.1 hx
  obtain ⟨h2, e2⟩ := List.getElem?_eq_some_iff.1 hy
  rw [List.drop_eq_getElem_cons h1, List.drop_eq_getElem_cons h2, e1, e2]
  simp

set_option maxHeartbeats 1000000 in
theorem eqRecent_any (n0x : Int) (s1x : Sl) (z1x : List Int) (n0y : Int) (s1y : Sl) (z1y : List Int) (w : World) (o0 : BOk w s1x z1x) (q0 : BOk w s1y z1y) (m0 : z1x.length ≤ 1048576) (t0 : z1y.length ≤ 1048576) :
    Calls Tryd.prog 58 #[.agg #[.int .i64 n0x, .slice s1x.a s1x.n s1x.c], .agg #[.int .i64 n0y, .slice s1y.a s1y.n s1y.c]] w fun e w' => e = .returned (.bool (decide ((n0x, z1x) = (n0y, z1y)))) ∧ Below w.heap.size w w' := by
  have HR0 := hide (fun (W : World) (hb : Below w.heap.size w W) => eqByteS_any s1x.a s1y.a s1x.n s1x.c s1y.n s1y.c z1x z1y W (o0.row.below hb (Nat.le_refl _)) (q0.row.below hb (Nat.le_refl _)) (by have := o0.row.1; omega) (by have := q0.row.1; omega))
  have HB0 := hide (below_two' w (.cells #[.int .i64 n0x, .slice s1x.a s1x.n s1x.c] 60) (.cells #[.int .i64 n0y, .slice s1y.a s1y.n s1y.c] 60))
  clear o0 q0 m0 t0
  by_cases c0 : n0x = n0y
  · subst c0
    have e0 : (n0x != n0x) = false := by simp
    go_enter Tryd.func58, Tryd.ntmps58
    go_wp2_with fail
    refine ((unhide HR0) _ (unhide HB0)).mono ?_
    rintro e w0 ⟨rfl, m0, rfl⟩
    have HB1 := hide (below_drewN (unhide HB0) m0)
    by_cases c1 : z1x = z1y
    · subst c1
      have e1 : sameB z1x z1x = true := by simp [sameB]
      rw [e1]
      go_wp2_with fail
      go_ret
      exact ⟨ret_bool (by first | rfl | exact (decide_eq_true rfl).symm), by first | exact unhide HB1 | exact below_drewN (unhide HB0) _⟩
    · have e1 : sameB z1x z1y = false := by simp [sameB, c1]
      rw [e1]
      go_wp2_with fail
      go_ret
      exact ⟨ret_bool (decide_eq_false (fun e => by simp only [Prod.mk.injEq] at e; exact absurd (by first | exact e.1 | exact e.2 | exact e.2.1 | exact e.2.2) (c1))).symm, by first | exact unhide HB1 | exact below_drewN (unhide HB0) _⟩
  · have e0 : (n0x != n0y) = true := by simp [c0]
    go_enter Tryd.func58, Tryd.ntmps58
    go_wp2_with fail
    go_ret
    exact ⟨ret_bool (decide_eq_false (fun e => by simp only [Prod.mk.injEq] at e; exact absurd (by first | exact e.1 | exact e.2 | exact e.2.1 | exact e.2.2) (c0))).symm, by first | exact unhide HB0 | exact below_drewN (unhide HB0) _⟩

set_option maxHeartbeats 2000000 in
theorem eqRecentS_any (s t : Sl) (xs ys : List Rc) (w : World) (ha : RowOk rcK w s xs) (hb : RowOk rcK w t ys) (hl : xs.length ≤ 1048576) (hl2 : ys.length ≤ 1048576) (hx : ∀ x ∈ xs, rcSz x ≤ 1048576) (hy : ∀ y ∈ ys, rcSz y ≤ 1048576) :
    Calls Tryd.prog 30 #[.slice s.a s.n s.c, .slice t.a t.n t.c] w fun e w' => e = .returned (.bool (decide (xs = ys))) ∧ Below w.heap.size w w' := by
  obtain ⟨a, la, ca⟩ := s
  obtain ⟨b, lb, cb⟩ := t
  have hxl : la = xs.length := ha.len
  have hyl : lb = ys.length := hb.len
  by_cases hne : la = lb
  · subst hne
    have hlen : (((la : Nat) : Int) != ((la : Nat) : Int)) = false := by simp
    rcases Nat.eq_zero_or_pos la with h0 | hp
    · subst h0
      obtain rfl : xs = [] := List.length_eq_zero_iff.1 hxl.symm
      obtain rfl : ys = [] := List.length_eq_zero_iff.1 hyl.symm
      clear ha hb hxl hyl hl hl2 hx hy
      go_enter Tryd.func30, Tryd.ntmps30
      go_wp2_with fail
      refine wp_loop_rounds 1 ?_
      rw [rounds_succ]
      go_wp2_with fail
      go_ret
      exact ⟨rfl, Below.refl _ _⟩
    · obtain ⟨ba, oa, ea, hba, hca⟩ := ha.pos hp
      obtain ⟨bb, ob, eb, hbb, hcb⟩ := hb.pos hp
      simp only at ea eb
      subst ea eb
      have HCA := hide (fun (W : World) (hbl : Below w.heap.size w W) (i : Nat) (x : Rc) (hx : xs[i]? = some x) => match hca i x hx with | ⟨e, c, o⟩ => (⟨e, fun j v hv => (hbl.cell (p := ⟨ba, oa + i * rcK.m + j, none⟩) hba).trans (c j v hv), rcK.below o hbl (Nat.le_refl _)⟩ : ∃ e, (∀ j v, (rcK.vals e x)[j]? = some v → W.cell? ⟨ba, oa + i * rcK.m + j, none⟩ = some v) ∧ rcK.Ok W e x))
      have HCB := hide (fun (W : World) (hbl : Below w.heap.size w W) (i : Nat) (x : Rc) (hx : ys[i]? = some x) => match hcb i x hx with | ⟨e, c, o⟩ => (⟨e, fun j v hv => (hbl.cell (p := ⟨bb, ob + i * rcK.m + j, none⟩) hbb).trans (c j v hv), rcK.below o hbl (Nat.le_refl _)⟩ : ∃ e, (∀ j v, (rcK.vals e x)[j]? = some v → W.cell? ⟨bb, ob + i * rcK.m + j, none⟩ = some v) ∧ rcK.Ok W e x))
      have HX := hide hx
      have HY := hide hy
      have HXL := hide hxl
      have HYL := hide hyl
      have hla : la ≤ 1048576 := by omega
      clear ha hb hca hcb hx hy hxl hyl hl hl2
      go_enter Tryd.func30, Tryd.ntmps30
      go_wp2_with fail
      go_loopw [5] (fun i wr => ∃ k : Nat, k ≤ la ∧ i = .int .i64 k ∧ decide (xs = ys) = decide (xs.drop k = ys.drop k) ∧ Below w.heap.size w wr) (fun i _ => la - (intOf i).toNat)
      case atStart => exact ⟨0, Nat.zero_le _, rfl, by simp, Below.refl _ _⟩
      case round =>
        obtain ⟨k, hk, rfl, hpre, hbr⟩ := hrel
        by_cases hlt : k < la
        · obtain ⟨x, hix⟩ : ∃ it, xs[k]? = some it := ⟨_, List.getElem?_eq_getElem (by rw [← unhide HXL]; exact hlt)⟩
          obtain ⟨y, hiy⟩ : ∃ it, ys[k]? = some it := ⟨_, List.getElem?_eq_getElem (by rw [← unhide HYL]; exact hlt)⟩
          have hst := drop_same xs ys k x y hix hiy
          rw [← hpre] at hst
          have mx := (unhide HX) x (List.mem_of_getElem? hix)
          have my := (unhide HY) y (List.mem_of_getElem? hiy)
          obtain ⟨⟨⟨⟩, s1x⟩, c, o⟩ := (unhide HCA) wr hbr k x hix
          obtain ⟨⟨⟨⟩, s1y⟩, d, q⟩ := (unhide HCB) wr hbr k y hiy
          obtain ⟨n0x, z1x⟩ := x
          obtain ⟨n0y, z1y⟩ := y
          have c0 := c 0 _ rfl
          have d0 := d 0 _ rfl
          have c1 := c 1 _ rfl
          have d1 := d 1 _ rfl
          simp only [Nat.add_zero, show rcK.m = 2 from rfl] at c0 d0 c1 d1
          simp only [rcSz] at mx my
          have HEQ := hide (fun (W : World) (hbl : Below wr.heap.size wr W) => eqRecent_any n0x s1x z1x n0y s1y z1y W (bytesK.below o.2 hbl (Nat.le_refl _)) (bytesK.below q.2 hbl (Nat.le_refl _)) (by omega) (by omega))
          have HP := hide hpre
          have HS := hide hst
          have HB := hide hbr
          have i1 : (0 : Int) ≤ (k : Int) := by omega
          have i2 : (k : Int) < (la : Int) := by omega
          clear c d o q hst hpre hbr hix hiy mx my
          generalize decide ((n0x, z1x) = (n0y, z1y)) = sb at HEQ HS
          go_wp2_with fail
          go_region_with (first | (go_at_call 58; refine ((unhide HEQ) _ (by first | exact Below.refl _ _ | exact (Below.refl _ _).drew | exact below_drewN (Below.refl _ _) _)).mono ?_; rintro e w1 ⟨rfl, b1⟩))
          all_goals
            have HB1 := hide ((unhide HB).trans (Below.mono (Below.trans (b := _) (by first | exact Below.refl _ _ | exact (Below.refl _ _).drew | exact below_drewN (Below.refl _ _) _ : Below wr.heap.size wr _) b1) (unhide HB).size))
            clear b1
            cases sb
            · go_wp2_with fail
              go_ret
              exact ⟨ret_bool (by rw [unhide HS]; rfl), unhide HB1⟩
            · go_wp2_with fail
              go_roundw
              case rel => exact ⟨k + 1, by omega, by go_num, by rw [unhide HS]; simp, unhide HB1⟩
              case measure => simp [intOf]; omega
        · obtain rfl : k = la := by omega
          rw [List.drop_eq_nil_of_le (by rw [← unhide HXL]; exact Nat.le_refl _), List.drop_eq_nil_of_le (by rw [← unhide HYL]; exact Nat.le_refl _)] at hpre
          have HE := hide hpre
          clear hpre
          go_wp2_with fail
          go_ret
          exact ⟨ret_bool (by rw [unhide HE]; rfl), hbr⟩
  · have hlen : (((la : Nat) : Int) != ((lb : Nat) : Int)) = true := by simp; omega
    have HE : Hid (decide (xs = ys) = false) := decide_eq_false (fun e => hne (by rw [hxl, hyl, e]))
    clear ha hb hxl hyl hx hy
    go_enter Tryd.func30, Tryd.ntmps30
    go_wp2_with fail
    go_ret
    exact ⟨ret_bool (unhide HE).symm, Below.refl _ _⟩

set_option maxHeartbeats 1000000 in
theorem eqVote_any (s0x : Sl) (z0x : List Int) (s1x : Sl) (z1x : List Int) (b2x : Bool) (s0y : Sl) (z0y : List Int) (s1y : Sl) (z1y : List Int) (b2y : Bool) (w : World) (o0 : BOk w s0x z0x) (q0 : BOk w s0y z0y) (m0 : z0x.length ≤ 1048576) (t0 : z0y.length ≤ 1048576) (o1 : BOk w s1x z1x) (q1 : BOk w s1y z1y) (m1 : z1x.length ≤ 1048576) (t1 : z1y.length ≤ 1048576) :
    Calls Tryd.prog 59 #[.agg #[.slice s0x.a s0x.n s0x.c, .slice s1x.a s1x.n s1x.c, .bool b2x], .agg #[.slice s0y.a s0y.n s0y.c, .slice s1y.a s1y.n s1y.c, .bool b2y]] w fun e w' => e = .returned (.bool (decide ((z0x, z1x, b2x) = (z0y, z1y, b2y)))) ∧ Below w.heap.size w w' := by
  have HR0 := hide (fun (W : World) (hb : Below w.heap.size w W) => eqByteS_any s0x.a s0y.a s0x.n s0x.c s0y.n s0y.c z0x z0y W (o0.row.below hb (Nat.le_refl _)) (q0.row.below hb (Nat.le_refl _)) (by have := o0.row.1; omega) (by have := q0.row.1; omega))
  have HR1 := hide (fun (W : World) (hb : Below w.heap.size w W) => eqByteS_any s1x.a s1y.a s1x.n s1x.c s1y.n s1y.c z1x z1y W (o1.row.below hb (Nat.le_refl _)) (q1.row.below hb (Nat.le_refl _)) (by have := o1.row.1; omega) (by have := q1.row.1; omega))
  have HB0 := hide (below_two' w (.cells #[.slice s0x.a s0x.n s0x.c, .slice s1x.a s1x.n s1x.c, .bool b2x] 62) (.cells #[.slice s0y.a s0y.n s0y.c, .slice s1y.a s1y.n s1y.c, .bool b2y] 62))
  clear o0 q0 m0 t0 o1 q1 m1 t1
  go_enter Tryd.func59, Tryd.ntmps59
  go_wp2_with fail
  refine ((unhide HR0) _ (unhide HB0)).mono ?_
  rintro e w0 ⟨rfl, m0, rfl⟩
  have HB1 := hide (below_drewN (unhide HB0) m0)
  by_cases c0 : z0x = z0y
  · subst c0
    have e0 : sameB z0x z0x = true := by simp [sameB]
    rw [e0]
    go_wp2_with fail
    refine ((unhide HR1) _ (unhide HB1)).mono ?_
    rintro e w1 ⟨rfl, m1, rfl⟩
    have HB2 := hide (below_drewN (unhide HB1) m1)
    by_cases c1 : z1x = z1y
    · subst c1
      have e1 : sameB z1x z1x = true := by simp [sameB]
      rw [e1]
      cases b2x <;> cases b2y
      · go_wp2_with fail
        go_ret
        exact ⟨ret_bool (by first | rfl | exact (decide_eq_true rfl).symm), by first | exact unhide HB2 | exact below_drewN (unhide HB0) _⟩
      · go_wp2_with fail
        go_ret
        exact ⟨ret_bool (decide_eq_false (fun e => by simp at e)).symm, by first | exact unhide HB2 | exact below_drewN (unhide HB0) _⟩
      · go_wp2_with fail
        go_ret
        exact ⟨ret_bool (decide_eq_false (fun e => by simp at e)).symm, by first | exact unhide HB2 | exact below_drewN (unhide HB0) _⟩
      · go_wp2_with fail
        go_ret
        exact ⟨ret_bool (by first | rfl | exact (decide_eq_true rfl).symm), by first | exact unhide HB2 | exact below_drewN (unhide HB0) _⟩
    · have e1 : sameB z1x z1y = false := by simp [sameB, c1]
      rw [e1]
      go_wp2_with fail
      go_ret
      exact ⟨ret_bool (decide_eq_false (fun e => by simp only [Prod.mk.injEq] at e; exact absurd (by first | exact e.1 | exact e.2 | exact e.2.1 | exact e.2.2) (c1))).symm, by first | exact unhide HB2 | exact below_drewN (unhide HB0) _⟩
  · have e0 : sameB z0x z0y = false := by simp [sameB, c0]
    rw [e0]
    go_wp2_with fail
    go_ret
    exact ⟨ret_bool (decide_eq_false (fun e => by simp only [Prod.mk.injEq] at e; exact absurd (by first | exact e.1 | exact e.2 | exact e.2.1 | exact e.2.2) (c0))).symm, by first | exact unhide HB1 | exact below_drewN (unhide HB0) _⟩

set_option maxHeartbeats 2000000 in
theorem eqVoteS_any (s t : Sl) (xs ys : List Vt) (w : World) (ha : RowOk vtK w s xs) (hb : RowOk vtK w t ys) (hl : xs.length ≤ 1048576) (hl2 : ys.length ≤ 1048576) (hx : ∀ x ∈ xs, vtSz x ≤ 1048576) (hy : ∀ y ∈ ys, vtSz y ≤ 1048576) :
    Calls Tryd.prog 31 #[.slice s.a s.n s.c, .slice t.a t.n t.c] w fun e w' => e = .returned (.bool (decide (xs = ys))) ∧ Below w.heap.size w w' := by
  obtain ⟨a, la, ca⟩ := s
  obtain ⟨b, lb, cb⟩ := t
  have hxl : la = xs.length := ha.len
  have hyl : lb = ys.length := hb.len
  by_cases hne : la = lb
  · subst hne
    have hlen : (((la : Nat) : Int) != ((la : Nat) : Int)) = false := by simp
    rcases Nat.eq_zero_or_pos la with h0 | hp
    · subst h0
      obtain rfl : xs = [] := List.length_eq_zero_iff.1 hxl.symm
      obtain rfl : ys = [] := List.length_eq_zero_iff.1 hyl.symm
      clear ha hb hxl hyl hl hl2 hx hy
      go_enter Tryd.func31, Tryd.ntmps31
      go_wp2_with fail
      refine wp_loop_rounds 1 ?_
      rw [rounds_succ]
      go_wp2_with fail
      go_ret
      exact ⟨rfl, Below.refl _ _⟩
    · obtain ⟨ba, oa, ea, hba, hca⟩ := ha.pos hp
      obtain ⟨bb, ob, eb, hbb, hcb⟩ := hb.pos hp
      simp only at ea eb
      subst ea eb
      have HCA := hide (fun (W : World) (hbl : Below w.heap.size w W) (i : Nat) (x : Vt) (hx : xs[i]? = some x) => match hca i x hx with | ⟨e, c, o⟩ => (⟨e, fun j v hv => (hbl.cell (p := ⟨ba, oa + i * vtK.m + j, none⟩) hba).trans (c j v hv), vtK.below o hbl (Nat.le_refl _)⟩ : ∃ e, (∀ j v, (vtK.vals e x)[j]? = some v → W.cell? ⟨ba, oa + i * vtK.m + j, none⟩ = some v) ∧ vtK.Ok W e x))
      have HCB := hide (fun (W : World) (hbl : Below w.heap.size w W) (i : Nat) (x : Vt) (hx : ys[i]? = some x) => match hcb i x hx with | ⟨e, c, o⟩ => (⟨e, fun j v hv => (hbl.cell (p := ⟨bb, ob + i * vtK.m + j, none⟩) hbb).trans (c j v hv), vtK.below o hbl (Nat.le_refl _)⟩ : ∃ e, (∀ j v, (vtK.vals e x)[j]? = some v → W.cell? ⟨bb, ob + i * vtK.m + j, none⟩ = some v) ∧ vtK.Ok W e x))
      have HX := hide hx
      have HY := hide hy
      have HXL := hide hxl
      have HYL := hide hyl
      have hla : la ≤ 1048576 := by omega
      clear ha hb hca hcb hx hy hxl hyl hl hl2
      go_enter Tryd.func31, Tryd.ntmps31
      go_wp2_with fail
      go_loopw [5] (fun i wr => ∃ k : Nat, k ≤ la ∧ i = .int .i64 k ∧ decide (xs = ys) = decide (xs.drop k = ys.drop k) ∧ Below w.heap.size w wr) (fun i _ => la - (intOf i).toNat)
      case atStart => exact ⟨0, Nat.zero_le _, rfl, by simp, Below.refl _ _⟩
      case round =>
        obtain ⟨k, hk, rfl, hpre, hbr⟩ := hrel
        by_cases hlt : k < la
        · obtain ⟨x, hix⟩ : ∃ it, xs[k]? = some it := ⟨_, List.getElem?_eq_getElem (by rw [← unhide HXL]; exact hlt)⟩
          obtain ⟨y, hiy⟩ : ∃ it, ys[k]? = some it := ⟨_, List.getElem?_eq_getElem (by rw [← unhide HYL]; exact hlt)⟩
          have hst := drop_same xs ys k x y hix hiy
          rw [← hpre] at hst
          have mx := (unhide HX) x (List.mem_of_getElem? hix)
          have my := (unhide HY) y (List.mem_of_getElem? hiy)
          obtain ⟨⟨s0x, s1x, ⟨⟩⟩, c, o⟩ := (unhide HCA) wr hbr k x hix
          obtain ⟨⟨s0y, s1y, ⟨⟩⟩, d, q⟩ := (unhide HCB) wr hbr k y hiy
          obtain ⟨z0x, z1x, b2x⟩ := x
          obtain ⟨z0y, z1y, b2y⟩ := y
          have c0 := c 0 _ rfl
          have d0 := d 0 _ rfl
          have c1 := c 1 _ rfl
          have d1 := d 1 _ rfl
          have c2 := c 2 _ rfl
          have d2 := d 2 _ rfl
          simp only [Nat.add_zero, show vtK.m = 3 from rfl] at c0 d0 c1 d1 c2 d2
          simp only [vtSz] at mx my
          have HEQ := hide (fun (W : World) (hbl : Below wr.heap.size wr W) => eqVote_any s0x z0x s1x z1x b2x s0y z0y s1y z1y b2y W (bytesK.below o.1 hbl (Nat.le_refl _)) (bytesK.below q.1 hbl (Nat.le_refl _)) (by omega) (by omega) (bytesK.below o.2.1 hbl (Nat.le_refl _)) (bytesK.below q.2.1 hbl (Nat.le_refl _)) (by omega) (by omega))
          have HP := hide hpre
          have HS := hide hst
          have HB := hide hbr
          have i1 : (0 : Int) ≤ (k : Int) := by omega
          have i2 : (k : Int) < (la : Int) := by omega
          clear c d o q hst hpre hbr hix hiy mx my
          generalize decide ((z0x, z1x, b2x) = (z0y, z1y, b2y)) = sb at HEQ HS
          go_wp2_with fail
          go_region_with (first | (go_at_call 59; refine ((unhide HEQ) _ (by first | exact Below.refl _ _ | exact (Below.refl _ _).drew | exact below_drewN (Below.refl _ _) _)).mono ?_; rintro e w1 ⟨rfl, b1⟩))
          all_goals
            have HB1 := hide ((unhide HB).trans (Below.mono (Below.trans (b := _) (by first | exact Below.refl _ _ | exact (Below.refl _ _).drew | exact below_drewN (Below.refl _ _) _ : Below wr.heap.size wr _) b1) (unhide HB).size))
            clear b1
            cases sb
            · go_wp2_with fail
              go_ret
              exact ⟨ret_bool (by rw [unhide HS]; rfl), unhide HB1⟩
            · go_wp2_with fail
              go_roundw
              case rel => exact ⟨k + 1, by omega, by go_num, by rw [unhide HS]; simp, unhide HB1⟩
              case measure => simp [intOf]; omega
        · obtain rfl : k = la := by omega
          rw [List.drop_eq_nil_of_le (by rw [← unhide HXL]; exact Nat.le_refl _), List.drop_eq_nil_of_le (by rw [← unhide HYL]; exact Nat.le_refl _)] at hpre
          have HE := hide hpre
          clear hpre
          go_wp2_with fail
          go_ret
          exact ⟨ret_bool (by rw [unhide HE]; rfl), hbr⟩
  · have hlen : (((la : Nat) : Int) != ((lb : Nat) : Int)) = true := by simp; omega
    have HE : Hid (decide (xs = ys) = false) := decide_eq_false (fun e => hne (by rw [hxl, hyl, e]))
    clear ha hb hxl hyl hx hy
    go_enter Tryd.func31, Tryd.ntmps31
    go_wp2_with fail
    go_ret
    exact ⟨ret_bool (unhide HE).symm, Below.refl _ _⟩

end Go.Proofs.YtpkfgffgldjceaaDoor

/- What is proved here: plain facts on what a call made, path by path, and the contracts of the laws' helper functions that copy bytes and lists of them, told by kinds. -/
namespace Go.Proofs.YtpkfgffgldjceaaDoor
open Go.RowKit
set_option linter.unusedVariables false
set_option maxRecDepth 100000

/-- What was made, with whatever colours stand elsewhere. -/
def Kd.Made {α β : Type} (K : Kd α β) (w : World) (n B : Nat) (d : Nat → Path) (p : Path) (e : β) (x : α) : Prop := ∀ d' : Nat → Path, (∀ g, B ≤ g → g < n → d' g = d g) → K.Own w B d' p e x

theorem Kd.made {α β : Type} (K : Kd α β) {w : World} {B : Nat} {d : Nat → Path} {p : Path} {e : β} {x : α} (h : K.Own w B d p e x) : K.Made w w.heap.size B d p e x := fun d' hd => K.recol h (fun g h1 h2 _ => hd g h2 h1)

theorem Kd.Made.below {α β : Type} {K : Kd α β} {w w' : World} {n B C : Nat} {d : Nat → Path} {p : Path} {e : β} {x : α} (h : K.Made w n B d p e x) (hb : Below C w w') (hC : w.heap.size ≤ C) : K.Made w' n B d p e x := fun d' hd => K.ownBelow (h d' hd) hb hC

theorem Kd.ownSet {α β : Type} (K : Kd α β) {w : World} {B : Nat} {d : Nat → Path} {p : Path} {e : β} {x : α} (h : K.Own w B d p e x) {q : Addr} (hq : q.block < B) (v : Value) : K.Own (w.setCell q v) B d p e x :=
  K.frame h (fun g _ hg _ => heap_setCell_other w q g v (fun e => by omega))

theorem Kd.Made.set {α β : Type} {K : Kd α β} {w : World} {n B : Nat} {d : Nat → Path} {p : Path} {e : β} {x : α} (h : K.Made w n B d p e x) {q : Addr} (hq : q.block < B) (v : Value) : K.Made (w.setCell q v) n B d p e x := fun d' hd => K.ownSet (h d' hd) hq v

theorem Kd.Made.get {α β : Type} {K : Kd α β} {w : World} {n B : Nat} {d : Nat → Path} {p : Path} {e : β} {x : α} (h : K.Made w n B d p e x) : K.Own w B d p e x := h d (fun _ _ _ => rfl)

theorem toB_kd (p : Path) (s : Sl) (z : List Int) (w : World) (o : BOk w s z) (hl : z.length ≤ 1048576) :
    Calls Tryd.prog 47 #[.slice s.a s.n s.c] w fun e w' => ∃ (t : Sl) (d : Nat → Path), e = .returned (.slice t.a t.n t.c) ∧ bytesK.Own w' w.heap.size d p t z ∧ Below w.heap.size w w' := by
  refine (toByteS_any s.a s.n s.c z w o.row (by have := o.row.1; omega)).mono ?_
  rintro e w' ⟨rfl, h1, h2⟩
  exact ⟨⟨some ⟨w.heap.size, 0, none⟩, s.n, s.n⟩, fun _ => p, rfl, ⟨o.row.2.1, h1, fun x hx => rfl⟩, h2⟩

theorem strict_inj {f : Nat → Nat} {k : Nat} (h : ∀ i j, i < j → j < k → f i < f j) {i j : Nat} (hi : i < k) (hj : j < k) (e : f i = f j) : i = j := by
  rcases Nat.lt_trichotomy i j with h' | h' | h'
  · have := h i j h' hj; omega
  · exact h'
  · have := h j i h' hi; omega

open Classical in
theorem row_of_obss {w : World} {g B : Nat} {zss : List (List Int)} {C : Nat} (h : OBss w g zss 57 C) (hB : B ≤ g) (hr : ∀ z ∈ zss, ∀ x ∈ z, 0 ≤ x ∧ x ≤ 255) (hl : zss.length ≤ 1048576) (p : Path) : ∃ d : Nat → Path, RowOwn bytesK 57 w B d p ⟨some ⟨g, 0, none⟩, zss.length, zss.length⟩ zss := by
  obtain ⟨vs, f, h1, h2, h3, h4, h5⟩ := h
  obtain ⟨d, hd⟩ : ∃ d : Nat → Path, d = fun q => if hq : ∃ i, i < zss.length ∧ f i = q then p ++ [hq.choose] else p := ⟨_, rfl⟩
  have dg : d g = p := by
    rw [hd]
    refine dif_neg ?_
    rintro ⟨i, hi, e⟩
    have := (h3 i hi).1
    omega
  have df : ∀ i, i < zss.length → d (f i) = p ++ [i] := by
    intro i hi
    have hq : ∃ j, j < zss.length ∧ f j = f i := ⟨i, hi, rfl⟩
    rw [hd]
    show (if hq : ∃ j, j < zss.length ∧ f j = f i then p ++ [hq.choose] else p) = _
    rw [dif_pos hq, strict_inj h4 hq.choose_spec.1 hi hq.choose_spec.2]
  obtain ⟨es, he1, he2⟩ : ∃ es : List Sl, es.length = zss.length ∧ ∀ (i : Nat) (e : Sl), es[i]? = some e → ∃ z, zss[i]? = some z ∧ e = ⟨some ⟨f i, 0, none⟩, z.length, z.length⟩ := by
    refine ⟨zss.zipIdx.map (fun q => ⟨some ⟨f q.2, 0, none⟩, q.1.length, q.1.length⟩), by simp, fun i e he => ?_⟩
    rw [List.getElem?_map, List.getElem?_zipIdx] at he
    cases hz : zss[i]? with
    | none => rw [hz] at he; simp at he
    | some z =>
      rw [hz] at he
      simp at he
      exact ⟨z, rfl, he.symm⟩
  refine ⟨d, rfl, es, vs, he1, ⟨h2.trans (Nat.mul_one _).symm, by show zss.length ≤ maxLen; unfold maxLen; omega, Nat.le_refl _, (fun e => by cases e), fun x hx => ?_⟩, fun x hx => by cases hx; exact dg, fun i e z he hz => ?_⟩
  · cases hx
    refine ⟨g, 0, vs.toArray, rfl, hB, h1, by simp [h2, bytesK], ?_⟩
    show (vs.drop 0).take (zss.length * 1) = vs
    rw [List.drop_zero, Nat.mul_one, ← h2, List.take_length]
  · have hi := (List.getElem?_eq_some_iff.1 hz).1
    obtain ⟨z', hz', rfl⟩ := he2 i e he
    obtain rfl : z = z' := Option.some.inj (hz.symm.trans hz')
    obtain ⟨q1, q2⟩ := h5 i z hi hz
    refine ⟨fun j v hv => ?_, hr z (List.mem_of_getElem? hz), ownsRow_base q2 (by omega), fun x hx => by cases hx; exact df i hi⟩
    match j, hv with
    | 0, hv =>
      simp only [bytesK, List.getElem?_cons_zero, Option.some.injEq] at hv
      subst hv
      have e1 : bytesK.m = 1 := rfl
      rw [e1, Nat.mul_one, Nat.add_zero]
      exact q1

theorem toBs_kd (p : Path) (s : Sl) (zss : List (List Int)) (w : World) (o : RowOk bytesK w s zss) (hl : zss.length ≤ 1048576) (hz : ∀ z ∈ zss, z.length ≤ 1048576) :
    Calls Tryd.prog 21 #[.slice s.a s.n s.c] w fun e w' => ∃ (t : Sl) (d : Nat → Path), e = .returned (.slice t.a t.n t.c) ∧ (rowK bytesK 57).Own w' w.heap.size d p t zss ∧ Below w.heap.size w w' := by
  have hb := bs_of_row o
  refine (toByteSS_any s.a s.n s.c zss w hb (by have := o.len; omega) hz).mono ?_
  rintro e w' ⟨rfl, h1, h2⟩
  obtain ⟨d, hd⟩ := row_of_obss h1 (Nat.le_refl _) hb.bytes hl p
  have e1 : s.n = zss.length := o.len
  refine ⟨⟨some ⟨w.heap.size, 0, none⟩, zss.length, zss.length⟩, d, by rw [e1], hd, h2⟩

end Go.Proofs.YtpkfgffgldjceaaDoor

/- What is proved here: the contracts of the laws' helper functions that copy recents and votes (toRecentS, toVoteS). -/
namespace Go.Proofs.YtpkfgffgldjceaaDoor
open Go.RowKit
set_option linter.unusedVariables false
set_option maxRecDepth 100000

set_option maxHeartbeats 4000000 in
theorem toRecent_any (p : Path) (n0 : Int) (s1 : Sl) (z1 : List Int) (w : World) (i0 : in64 n0) (o1 : (bytesK).Ok w s1 z1) (m1_0 : z1.length ≤ 1048576) :
    Calls Tryd.prog 48 #[.agg #[.int .i64 n0, .slice s1.a s1.n s1.c]] w fun e w' => ∃ (t1 : Sl) (d : Nat → Path), e = .returned (.agg #[.int .i64 n0, .slice t1.a t1.n t1.c]) ∧ (rcK).Own w' w.heap.size d p ((), t1) (n0, z1) ∧ Below w.heap.size w w' := by
  have HO1 := hide (fun (W : World) (hb : Below w.heap.size w W) => toB_kd (p ++ [1]) s1 z1 W ((bytesK).below o1 hb (Nat.le_refl _)) m1_0)
  obtain ⟨k0, k1, k2, K0, hsz⟩ := three_blk w #[.int .i64 n0, .slice s1.a s1.n s1.c] #[.int .i64 0, .slice none 0 0] #[.int .i64 0, .slice none 0 0] 77 60 60
  obtain ⟨W0, e0⟩ : ∃ W0, ((w.alloc (.cells #[.int .i64 n0, .slice s1.a s1.n s1.c] 77)).alloc (.cells #[.int .i64 0, .slice none 0 0] 60)).alloc (.cells #[.int .i64 0, .slice none 0 0] 60) = W0 := ⟨_, rfl⟩
  rw [e0] at k0 k1 k2 K0 hsz
  clear o1
  go_enter Tryd.func48, Tryd.ntmps48
  have x0 := k0.cell 0
  have x1 := k0.cell 1
  have u0 := k2.cell 0
  have v0 := k2.free 0
  simp only [List.getElem?_cons_zero, List.getElem?_cons_succ] at x0 x1 u0
  have Q := hide (And.intro k0 (And.intro k1 (And.intro k2 (And.intro K0 hsz))))
  clear k0 k1 k2 K0 hsz
  go_wp2_with (rw [e0])
  try rw [e0]
  clear e0
  obtain ⟨k0, k1, k2, K0, hsz⟩ := unhide Q
  clear Q x0 x1 u0 v0
  have B0 := (K0.setCell (p := ⟨w.heap.size + 2, 0, none⟩) (by show w.heap.size ≤ w.heap.size + 2; omega) (.int .i64 n0))
  refine ((unhide HO1) _ B0).mono ?_
  rintro e w1 ⟨t1, d1, rfl, ow1, b1⟩
  simp only [size_set'] at ow1 b1
  have k0 := (k0.other (g' := w.heap.size + 2) (by omega)).below b1 (by omega)
  have k1 := (k1.other (g' := w.heap.size + 2) (by omega)).below b1 (by omega)
  have k2 := (k2.set 0 (.int .i64 n0)).below b1 (by omega)
  simp only [List.set_cons_zero] at k2
  have K1 := B0.trans (b1.mono (by omega))
  have ow1 := Kd.made _ ow1
  have g1 : W0.heap.size ≤ w1.heap.size := by have := b1.size; simp only [size_set'] at this; exact this
  have hs1 : w.heap.size + 3 ≤ w1.heap.size := by omega
  have hsW := hsz
  clear b1 B0 hsz
  have hsz := hs1
  have u0 := k2.cell 0
  have v0 := k2.free 0
  have r0 := k1.cell 0
  have q0 := k1.free 0
  have u1 := k2.cell 1
  have v1 := k2.free 1
  have r1 := k1.cell 1
  have q1 := k1.free 1
  simp only [List.getElem?_cons_zero, List.getElem?_cons_succ] at  u0 r0 u1 r1
  have Q := hide (And.intro K1 (And.intro hsz (And.intro hsW trivial)))
  clear k0 k1 k2 K1 hsz hsW
  have MO1 := hide ow1
  clear ow1
  go_wp2_with fail
  obtain ⟨K1, hsz, hsW, _⟩ := unhide Q
  refine bodyPost_ret (v := .agg #[.int .i64 n0, .slice t1.a t1.n t1.c]) (by simp [results, Tryd.results48, go_sem, r0, r1]) rfl ⟨t1, d1, rfl, ?_, ?_⟩
  · exact ⟨i0, (Kd.base _ (((((unhide MO1).set (q := ⟨w.heap.size + 2, _, none⟩) (by show w.heap.size + 2 < _; omega) _).set (q := ⟨w.heap.size + 1, _, none⟩) (by show w.heap.size + 1 < _; omega) _).set (q := ⟨w.heap.size + 1, _, none⟩) (by show w.heap.size + 1 < _; omega) _) _ (fun g h1 h2 => rfl)) (by omega))⟩
  · exact (((K1.setCell (p := ⟨w.heap.size + 2, 1, none⟩) (by show w.heap.size ≤ w.heap.size + 2; omega) (.slice t1.a t1.n t1.c)).setCell (p := ⟨w.heap.size + 1, 0, none⟩) (by show w.heap.size ≤ w.heap.size + 1; omega) (.int .i64 n0)).setCell (p := ⟨w.heap.size + 1, 1, none⟩) (by show w.heap.size ≤ w.heap.size + 1; omega) (.slice t1.a t1.n t1.c))

set_option maxHeartbeats 4000000 in
theorem toVote_any (p : Path) (s0 : Sl) (z0 : List Int) (s1 : Sl) (z1 : List Int) (b2 : Bool) (w : World) (o0 : (bytesK).Ok w s0 z0) (m0_0 : z0.length ≤ 1048576) (o1 : (bytesK).Ok w s1 z1) (m1_0 : z1.length ≤ 1048576) :
    Calls Tryd.prog 49 #[.agg #[.slice s0.a s0.n s0.c, .slice s1.a s1.n s1.c, .bool b2]] w fun e w' => ∃ (t0 : Sl) (t1 : Sl) (d : Nat → Path), e = .returned (.agg #[.slice t0.a t0.n t0.c, .slice t1.a t1.n t1.c, .bool b2]) ∧ (vtK).Own w' w.heap.size d p (t0, t1, ()) (z0, z1, b2) ∧ Below w.heap.size w w' := by
  have HO0 := hide (fun (W : World) (hb : Below w.heap.size w W) => toB_kd (p ++ [0]) s0 z0 W ((bytesK).below o0 hb (Nat.le_refl _)) m0_0)
  have HO1 := hide (fun (W : World) (hb : Below w.heap.size w W) => toB_kd (p ++ [1] ++ [0]) s1 z1 W ((bytesK).below o1 hb (Nat.le_refl _)) m1_0)
  obtain ⟨k0, k1, k2, K0, hsz⟩ := three_blk w #[.slice s0.a s0.n s0.c, .slice s1.a s1.n s1.c, .bool b2] #[.slice none 0 0, .slice none 0 0, .bool false] #[.slice none 0 0, .slice none 0 0, .bool false] 79 62 62
  obtain ⟨W0, e0⟩ : ∃ W0, ((w.alloc (.cells #[.slice s0.a s0.n s0.c, .slice s1.a s1.n s1.c, .bool b2] 79)).alloc (.cells #[.slice none 0 0, .slice none 0 0, .bool false] 62)).alloc (.cells #[.slice none 0 0, .slice none 0 0, .bool false] 62) = W0 := ⟨_, rfl⟩
  rw [e0] at k0 k1 k2 K0 hsz
  clear o0 o1
  go_enter Tryd.func49, Tryd.ntmps49
  have x0 := k0.cell 0
  simp only [List.getElem?_cons_zero] at x0 
  have Q := hide (And.intro k0 (And.intro k1 (And.intro k2 (And.intro K0 hsz))))
  clear k0 k1 k2 K0 hsz
  go_wp2_with (rw [e0])
  try rw [e0]
  clear e0
  obtain ⟨k0, k1, k2, K0, hsz⟩ := unhide Q
  clear Q x0 
  have B0 := K0
  refine ((unhide HO0) _ B0).mono ?_
  rintro e w1 ⟨t0, d0, rfl, ow0, b1⟩
  have k0 := k0.below b1 (by omega)
  have k1 := k1.below b1 (by omega)
  have k2 := k2.below b1 (by omega)
  have K1 := B0.trans (b1.mono (by omega))
  have ow0 := Kd.made _ ow0
  have g1 : W0.heap.size ≤ w1.heap.size := b1.size
  have hs1 : w.heap.size + 3 ≤ w1.heap.size := by omega
  have hsW := hsz
  clear b1 B0 hsz
  have hsz := hs1
  have x1 := k0.cell 1
  have u0 := k2.cell 0
  have v0 := k2.free 0
  simp only [List.getElem?_cons_zero, List.getElem?_cons_succ] at x1 u0
  have Q := hide (And.intro k0 (And.intro k1 (And.intro k2 (And.intro K1 hsz))))
  clear k0 k1 k2 K1 hsz
  go_wp2_with fail
  obtain ⟨k0, k1, k2, K1, hsz⟩ := unhide Q
  clear Q x1 u0 v0
  have B1 := (K1.setCell (p := ⟨w.heap.size + 2, 0, none⟩) (by show w.heap.size ≤ w.heap.size + 2; omega) (.slice t0.a t0.n t0.c))
  refine ((unhide HO1) _ B1).mono ?_
  rintro e w2 ⟨t1, d1, rfl, ow1, b2⟩
  simp only [size_set'] at ow1 b2
  have k0 := (k0.other (g' := w.heap.size + 2) (by omega)).below b2 (by omega)
  have k1 := (k1.other (g' := w.heap.size + 2) (by omega)).below b2 (by omega)
  have k2 := (k2.set 0 (.slice t0.a t0.n t0.c)).below b2 (by omega)
  simp only [List.set_cons_zero] at k2
  have K2 := B1.trans (b2.mono (by omega))
  have ow0 := (ow0.set (q := ⟨w.heap.size + 2, _, none⟩) (by show w.heap.size + 2 < _; omega) _).below b2 (by simp only [size_set']; exact Nat.le_refl _)
  have ow1 := Kd.made _ ow1
  have g2 : w1.heap.size ≤ w2.heap.size := by have := b2.size; simp only [size_set'] at this; exact this
  have hs2 : w.heap.size + 3 ≤ w2.heap.size := by omega
  clear b2 B1 hsz
  have hsz := hs2
  have x2 := k0.cell 2
  have u0 := k2.cell 0
  have v0 := k2.free 0
  have r0 := k1.cell 0
  have q0 := k1.free 0
  have u1 := k2.cell 1
  have v1 := k2.free 1
  have r1 := k1.cell 1
  have q1 := k1.free 1
  have u2 := k2.cell 2
  have v2 := k2.free 2
  have r2 := k1.cell 2
  have q2 := k1.free 2
  simp only [List.getElem?_cons_zero, List.getElem?_cons_succ] at x2 u0 r0 u1 r1 u2 r2
  have Q := hide (And.intro K2 (And.intro hsz (And.intro hsW trivial)))
  clear k0 k1 k2 K2 hsz hsW
  have MO0 := hide ow0
  clear ow0
  have MO1 := hide ow1
  clear ow1
  go_wp2_with fail
  obtain ⟨K2, hsz, hsW, _⟩ := unhide Q
  refine bodyPost_ret (v := .agg #[.slice t0.a t0.n t0.c, .slice t1.a t1.n t1.c, .bool b2]) (by simp [results, Tryd.results49, go_sem, r0, r1, r2]) rfl ⟨t0, t1, (joinD w1.heap.size d0 d1), rfl, ?_, ?_⟩
  · exact ⟨(Kd.base _ (((((((unhide MO0).set (q := ⟨w.heap.size + 2, _, none⟩) (by show w.heap.size + 2 < _; omega) _).set (q := ⟨w.heap.size + 2, _, none⟩) (by show w.heap.size + 2 < _; omega) _).set (q := ⟨w.heap.size + 1, _, none⟩) (by show w.heap.size + 1 < _; omega) _).set (q := ⟨w.heap.size + 1, _, none⟩) (by show w.heap.size + 1 < _; omega) _).set (q := ⟨w.heap.size + 1, _, none⟩) (by show w.heap.size + 1 < _; omega) _) _ (fun g h1 h2 => by rw [joinD_lt h2])) (by omega)), (Kd.base _ (((((((unhide MO1).set (q := ⟨w.heap.size + 2, _, none⟩) (by show w.heap.size + 2 < _; omega) _).set (q := ⟨w.heap.size + 2, _, none⟩) (by show w.heap.size + 2 < _; omega) _).set (q := ⟨w.heap.size + 1, _, none⟩) (by show w.heap.size + 1 < _; omega) _).set (q := ⟨w.heap.size + 1, _, none⟩) (by show w.heap.size + 1 < _; omega) _).set (q := ⟨w.heap.size + 1, _, none⟩) (by show w.heap.size + 1 < _; omega) _) _ (fun g h1 h2 => by rw [joinD_ge (by omega)])) (by omega)), trivial⟩
  · exact (((((K2.setCell (p := ⟨w.heap.size + 2, 1, none⟩) (by show w.heap.size ≤ w.heap.size + 2; omega) (.slice t1.a t1.n t1.c)).setCell (p := ⟨w.heap.size + 2, 2, none⟩) (by show w.heap.size ≤ w.heap.size + 2; omega) (.bool b2)).setCell (p := ⟨w.heap.size + 1, 0, none⟩) (by show w.heap.size ≤ w.heap.size + 1; omega) (.slice t0.a t0.n t0.c)).setCell (p := ⟨w.heap.size + 1, 1, none⟩) (by show w.heap.size ≤ w.heap.size + 1; omega) (.slice t1.a t1.n t1.c)).setCell (p := ⟨w.heap.size + 1, 2, none⟩) (by show w.heap.size ≤ w.heap.size + 1; omega) (.bool b2))

theorem infoRecent : (Tryd.prog.info? 60).map (fun i => (i.zero, i.size, i.bytes)) = some (some (.agg #[.int .i64 0, .slice none 0 0]), 2, 32) := by kernel_rfl

set_option maxHeartbeats 2000000 in
theorem toRecentS_any (p : Path) (s : Sl) (xs : List Rc) (w : World) (o : RowOk rcK w s xs) (hl : xs.length ≤ 1048576) (hz : ∀ x ∈ xs, rcSz x ≤ 1048576) :
    Calls Tryd.prog 22 #[.slice s.a s.n s.c] w fun e w' => ∃ (t : Sl) (d : Nat → Path), e = .returned (.slice t.a t.n t.c) ∧ (rowK rcK 60).Own w' w.heap.size d p t xs ∧ Below w.heap.size w w' := by
  obtain ⟨i0, hi, hz0, hz1, hz2⟩ := info_parts infoRecent
  obtain ⟨a, len, cap⟩ := s
  have hil : len = xs.length := o.len
  rcases Nat.eq_zero_or_pos len with h0 | hp
  · subst h0
    obtain rfl : xs = [] := List.length_eq_zero_iff.1 hil.symm
    clear o hl hz hil
    go_enter Tryd.func22, Tryd.ntmps22
    go_wp2_with (at_make; refine wpList_make_full _ rfl _ _ 31 rfl w.heap.size 60 i0 (.agg #[.int .i64 0, .slice none 0 0]) 2 Tryd.underlying31 hi hz0 hz1 _ _ _ _ 0 rfl rfl rfl rfl ?c1 ?c2 ?c3 ?_)
    case c1 => omega
    case c2 => unfold maxLen; omega
    case c3 => omega
    intro w1 hown hgrow
    go_wp2
    refine wp_loop_rounds 1 ?_
    rw [rounds_succ]
    go_wp2
    go_ret
    exact ⟨⟨some ⟨w.heap.size, 0, none⟩, 0, 0⟩, fun _ => p, rfl, RowPart.zero (OwnS.of hown) rfl (fun _ _ => rfl), (Below.refl _ _).grown hgrow (Nat.le_refl _) (fun k e => by cases e)⟩
  · obtain ⟨b, off, ea, hb, hc⟩ := o.pos hp
    simp only at ea
    subst ea
    have HC := hide (fun (W : World) (hbl : Below w.heap.size w W) (i : Nat) (x : Rc) (hx : xs[i]? = some x) => match hc i x hx with | ⟨e, c, o⟩ => (⟨e, fun j v hv => (hbl.cell (p := ⟨b, off + i * rcK.m + j, none⟩) hb).trans (c j v hv), rcK.below o hbl (Nat.le_refl _)⟩ : ∃ e, (∀ j v, (rcK.vals e x)[j]? = some v → W.cell? ⟨b, off + i * rcK.m + j, none⟩ = some v) ∧ rcK.Ok W e x))
    have HL := hide hil
    have HZ := hide hz
    have hla : len ≤ 1048576 := by omega
    clear o hc hil hz hl
    go_enter Tryd.func22, Tryd.ntmps22
    go_wp2_with (at_make; refine wpList_make_full _ rfl _ _ 31 rfl w.heap.size 60 i0 (.agg #[.int .i64 0, .slice none 0 0]) 2 Tryd.underlying31 hi hz0 hz1 _ _ _ _ len rfl rfl rfl rfl ?c1 ?c2 ?c3 ?_)
    case c1 => rw [hz2]; omega
    case c2 => unfold maxLen; omega
    case c3 => omega
    intro w1 hown hgrow
    have hst : RowPart rcK 60 w1 w.heap.size (fun _ => p) p ⟨some ⟨w.heap.size, 0, none⟩, len, len⟩ xs 0 := RowPart.zero (OwnS.of hown) (unhide HL) (fun _ _ => rfl)
    have hbel : Below w.heap.size w w1 := (Below.refl _ _).grown hgrow (Nat.le_refl _) (fun k e => by cases e)
    clear hown hgrow
    go_wp2_with fail
    go_loopw [4] (fun i wr => ∃ (k : Nat) (d : Nat → Path), k ≤ len ∧ i = .int .i64 k ∧ RowPart rcK 60 wr w.heap.size d p ⟨some ⟨w.heap.size, 0, none⟩, len, len⟩ xs k ∧ w.heap.size < wr.heap.size ∧ Below w.heap.size w wr) (fun i _ => len - (intOf i).toNat)
    case atStart => exact ⟨0, fun _ => p, Nat.zero_le _, rfl, hst, by obtain ⟨_, _, _, _, h, _⟩ := hst; exact (h.blk (x := ⟨w.heap.size, 0, none⟩) rfl).2, hbel⟩
    case round =>
      obtain ⟨k, d, hk, rfl, hup, hsw, hbr⟩ := hrel
      clear hst hbel
      by_cases hlt : k < len
      · obtain ⟨x, hx⟩ : ∃ x, xs[k]? = some x := ⟨_, List.getElem?_eq_getElem (by rw [← unhide HL]; exact hlt)⟩
        have mx := (unhide HZ) x (List.mem_of_getElem? hx)
        obtain ⟨⟨⟨⟩, s1⟩, c, o⟩ := (unhide HC) wr hbr k x hx
        obtain ⟨n0, z1⟩ := x
        have c0 := c 0 _ rfl
        have c1 := c 1 _ rfl
        simp only [Nat.add_zero, show rcK.m = 2 from rfl] at c0 c1
        simp only [rcSz] at mx
        have HT := hide (fun (W : World) (hbl : Below wr.heap.size wr W) => toRecent_any (p ++ [k]) n0 s1 z1 W o.1 ((bytesK).below o.2 hbl (Nat.le_refl _)) (by omega))
        have hslot := hide (fun (w2 : World) (hb : Below wr.heap.size wr w2) => (hup.frame (w' := w2) (fun g h1 _ _ => hb.block g h1)).slot (g := w.heap.size) (off := 0) rfl (i := k) (by rw [← unhide HL]; exact hlt))
        have hstep := hide (fun (w2 : World) (d2 : Nat → Path) (t1 : Sl) (hb : Below wr.heap.size wr w2) (ho : rcK.Own w2 wr.heap.size d2 (p ++ [k]) ((), t1) (n0, z1)) => hup.step hx (fun g hg => hb.block g hg) (d2 := joinD wr.heap.size d d2) (fun g hg => joinD_lt hg) (rcK.base (Kd.right rcK ho (Nat.le_refl _)) (Nat.le_of_lt hsw)) (g := w.heap.size) (off := 0) rfl)
        have HB := hide hbr
        have i1 : (0 : Int) ≤ (k : Int) := by omega
        have i2 : (k : Int) < (len : Int) := by omega
        clear hup hbr c o hx mx
        go_wp2_with fail
        refine ((unhide HT) _ (by first | exact Below.refl _ _ | exact (Below.refl _ _).drew)).mono ?_
        rintro e w2 ⟨t1, d2, rfl, o2, b2⟩
        have b2' : Below wr.heap.size wr w2 := by first | exact b2 | exact Below.trans ((Below.refl _ _).drew) b2
        obtain ⟨gs, gf⟩ := (unhide hslot) w2 b2'
        have HN := hide ((unhide hstep) w2 d2 t1 b2' o2)
        obtain ⟨u0, h0⟩ := gs 0 (by show 0 < 2; omega)
        obtain ⟨u1, h1⟩ := gs 1 (by show 1 < 2; omega)
        simp only [Nat.zero_add, Nat.add_zero, show rcK.m = 2 from rfl] at h0 h1
        have HB2 := hide ((unhide HB).trans (b2'.mono (unhide HB).size))
        have hs2 : w.heap.size < w2.heap.size := Nat.lt_of_lt_of_le hsw b2'.size
        clear o2 b2 b2' hslot hstep gs
        go_wp2_with fail
        go_roundw
        case rel =>
          have hN := unhide HN
          simp only [Nat.zero_add, show rcK.m = 2 from rfl] at hN
          exact ⟨k + 1, joinD wr.heap.size d d2, by omega, by go_num, hN, by simp only [size_set']; exact hs2, (((unhide HB2).setCell (Nat.le_refl _) _).setCell (Nat.le_refl _) _)⟩
        case measure => simp [intOf]; omega
      · obtain rfl : k = len := by omega
        have HU := hide hup
        have HB := hide hbr
        clear hup hbr
        go_wp2_with fail
        go_ret
        refine ⟨⟨some ⟨w.heap.size, 0, none⟩, k, k⟩, d, rfl, ?_, unhide HB⟩
        show RowPart rcK _ _ _ _ _ _ xs xs.length
        rw [← unhide HL]
        exact unhide HU

theorem infoVote : (Tryd.prog.info? 62).map (fun i => (i.zero, i.size, i.bytes)) = some (some (.agg #[.slice none 0 0, .slice none 0 0, .bool false]), 3, 56) := by kernel_rfl

set_option maxHeartbeats 2000000 in
theorem toVoteS_any (p : Path) (s : Sl) (xs : List Vt) (w : World) (o : RowOk vtK w s xs) (hl : xs.length ≤ 1048576) (hz : ∀ x ∈ xs, vtSz x ≤ 1048576) :
    Calls Tryd.prog 23 #[.slice s.a s.n s.c] w fun e w' => ∃ (t : Sl) (d : Nat → Path), e = .returned (.slice t.a t.n t.c) ∧ (rowK vtK 62).Own w' w.heap.size d p t xs ∧ Below w.heap.size w w' := by
  obtain ⟨i0, hi, hz0, hz1, hz2⟩ := info_parts infoVote
  obtain ⟨a, len, cap⟩ := s
  have hil : len = xs.length := o.len
  rcases Nat.eq_zero_or_pos len with h0 | hp
  · subst h0
    obtain rfl : xs = [] := List.length_eq_zero_iff.1 hil.symm
    clear o hl hz hil
    go_enter Tryd.func23, Tryd.ntmps23
    go_wp2_with (at_make; refine wpList_make_full _ rfl _ _ 32 rfl w.heap.size 62 i0 (.agg #[.slice none 0 0, .slice none 0 0, .bool false]) 3 Tryd.underlying32 hi hz0 hz1 _ _ _ _ 0 rfl rfl rfl rfl ?c1 ?c2 ?c3 ?_)
    case c1 => omega
    case c2 => unfold maxLen; omega
    case c3 => omega
    intro w1 hown hgrow
    go_wp2
    refine wp_loop_rounds 1 ?_
    rw [rounds_succ]
    go_wp2
    go_ret
    exact ⟨⟨some ⟨w.heap.size, 0, none⟩, 0, 0⟩, fun _ => p, rfl, RowPart.zero (OwnS.of hown) rfl (fun _ _ => rfl), (Below.refl _ _).grown hgrow (Nat.le_refl _) (fun k e => by cases e)⟩
  · obtain ⟨b, off, ea, hb, hc⟩ := o.pos hp
    simp only at ea
    subst ea
    have HC := hide (fun (W : World) (hbl : Below w.heap.size w W) (i : Nat) (x : Vt) (hx : xs[i]? = some x) => match hc i x hx with | ⟨e, c, o⟩ => (⟨e, fun j v hv => (hbl.cell (p := ⟨b, off + i * vtK.m + j, none⟩) hb).trans (c j v hv), vtK.below o hbl (Nat.le_refl _)⟩ : ∃ e, (∀ j v, (vtK.vals e x)[j]? = some v → W.cell? ⟨b, off + i * vtK.m + j, none⟩ = some v) ∧ vtK.Ok W e x))
    have HL := hide hil
    have HZ := hide hz
    have hla : len ≤ 1048576 := by omega
    clear o hc hil hz hl
    go_enter Tryd.func23, Tryd.ntmps23
    go_wp2_with (at_make; refine wpList_make_full _ rfl _ _ 32 rfl w.heap.size 62 i0 (.agg #[.slice none 0 0, .slice none 0 0, .bool false]) 3 Tryd.underlying32 hi hz0 hz1 _ _ _ _ len rfl rfl rfl rfl ?c1 ?c2 ?c3 ?_)
    case c1 => rw [hz2]; omega
    case c2 => unfold maxLen; omega
    case c3 => omega
    intro w1 hown hgrow
    have hst : RowPart vtK 62 w1 w.heap.size (fun _ => p) p ⟨some ⟨w.heap.size, 0, none⟩, len, len⟩ xs 0 := RowPart.zero (OwnS.of hown) (unhide HL) (fun _ _ => rfl)
    have hbel : Below w.heap.size w w1 := (Below.refl _ _).grown hgrow (Nat.le_refl _) (fun k e => by cases e)
    clear hown hgrow
    go_wp2_with fail
    go_loopw [4] (fun i wr => ∃ (k : Nat) (d : Nat → Path), k ≤ len ∧ i = .int .i64 k ∧ RowPart vtK 62 wr w.heap.size d p ⟨some ⟨w.heap.size, 0, none⟩, len, len⟩ xs k ∧ w.heap.size < wr.heap.size ∧ Below w.heap.size w wr) (fun i _ => len - (intOf i).toNat)
    case atStart => exact ⟨0, fun _ => p, Nat.zero_le _, rfl, hst, by obtain ⟨_, _, _, _, h, _⟩ := hst; exact (h.blk (x := ⟨w.heap.size, 0, none⟩) rfl).2, hbel⟩
    case round =>
      obtain ⟨k, d, hk, rfl, hup, hsw, hbr⟩ := hrel
      clear hst hbel
      by_cases hlt : k < len
      · obtain ⟨x, hx⟩ : ∃ x, xs[k]? = some x := ⟨_, List.getElem?_eq_getElem (by rw [← unhide HL]; exact hlt)⟩
        have mx := (unhide HZ) x (List.mem_of_getElem? hx)
        obtain ⟨⟨s0, s1, ⟨⟩⟩, c, o⟩ := (unhide HC) wr hbr k x hx
        obtain ⟨z0, z1, b2⟩ := x
        have c0 := c 0 _ rfl
        have c1 := c 1 _ rfl
        have c2 := c 2 _ rfl
        simp only [Nat.add_zero, show vtK.m = 3 from rfl] at c0 c1 c2
        simp only [vtSz] at mx
        have HT := hide (fun (W : World) (hbl : Below wr.heap.size wr W) => toVote_any (p ++ [k]) s0 z0 s1 z1 b2 W ((bytesK).below o.1 hbl (Nat.le_refl _)) (by omega) ((bytesK).below o.2.1 hbl (Nat.le_refl _)) (by omega))
        have hslot := hide (fun (w2 : World) (hb : Below wr.heap.size wr w2) => (hup.frame (w' := w2) (fun g h1 _ _ => hb.block g h1)).slot (g := w.heap.size) (off := 0) rfl (i := k) (by rw [← unhide HL]; exact hlt))
        have hstep := hide (fun (w2 : World) (d2 : Nat → Path) (t0 t1 : Sl) (hb : Below wr.heap.size wr w2) (ho : vtK.Own w2 wr.heap.size d2 (p ++ [k]) (t0, t1, ()) (z0, z1, b2)) => hup.step hx (fun g hg => hb.block g hg) (d2 := joinD wr.heap.size d d2) (fun g hg => joinD_lt hg) (vtK.base (Kd.right vtK ho (Nat.le_refl _)) (Nat.le_of_lt hsw)) (g := w.heap.size) (off := 0) rfl)
        have HB := hide hbr
        have i1 : (0 : Int) ≤ (k : Int) := by omega
        have i2 : (k : Int) < (len : Int) := by omega
        clear hup hbr c o hx mx
        go_wp2_with fail
        refine ((unhide HT) _ (by first | exact Below.refl _ _ | exact (Below.refl _ _).drew)).mono ?_
        rintro e w2 ⟨t0, t1, d2, rfl, o2, b2⟩
        have b2' : Below wr.heap.size wr w2 := by first | exact b2 | exact Below.trans ((Below.refl _ _).drew) b2
        obtain ⟨gs, gf⟩ := (unhide hslot) w2 b2'
        have HN := hide ((unhide hstep) w2 d2 t0 t1 b2' o2)
        obtain ⟨u0, h0⟩ := gs 0 (by show 0 < 3; omega)
        obtain ⟨u1, h1⟩ := gs 1 (by show 1 < 3; omega)
        obtain ⟨u2, h2⟩ := gs 2 (by show 2 < 3; omega)
        simp only [Nat.zero_add, Nat.add_zero, show vtK.m = 3 from rfl] at h0 h1 h2
        have HB2 := hide ((unhide HB).trans (b2'.mono (unhide HB).size))
        have hs2 : w.heap.size < w2.heap.size := Nat.lt_of_lt_of_le hsw b2'.size
        clear o2 b2 b2' hslot hstep gs
        go_wp2_with fail
        go_roundw
        case rel =>
          have hN := unhide HN
          simp only [Nat.zero_add, show vtK.m = 3 from rfl] at hN
          exact ⟨k + 1, joinD wr.heap.size d d2, by omega, by go_num, hN, by simp only [size_set']; exact hs2, ((((unhide HB2).setCell (Nat.le_refl _) _).setCell (Nat.le_refl _) _).setCell (Nat.le_refl _) _)⟩
        case measure => simp [intOf]; omega
      · obtain rfl : k = len := by omega
        have HU := hide hup
        have HB := hide hbr
        clear hup hbr
        go_wp2_with fail
        go_ret
        refine ⟨⟨some ⟨w.heap.size, 0, none⟩, k, k⟩, d, rfl, ?_, unhide HB⟩
        show RowPart vtK _ _ _ _ _ _ xs xs.length
        rw [← unhide HL]
        exact unhide HU

end Go.Proofs.YtpkfgffgldjceaaDoor

/- What is proved here: the contract of the laws' helper function that copies a snapshot (toSnap). -/
namespace Go.Proofs.YtpkfgffgldjceaaDoor
open Go.RowKit
set_option linter.unusedVariables false
set_option maxRecDepth 100000

set_option maxHeartbeats 4000000 in
theorem toSnap_any (p : Path) (n0 : Int) (s1 : Sl) (z1 : List (List Int)) (s2 : Sl) (z2 : List Rc) (s3 : Sl) (z3 : List Vt) (w : World) (i0 : in64 n0) (o1 : (rowK bytesK 57).Ok w s1 z1) (m1_0 : z1.length ≤ 1048576) (m1_1 : ∀ z ∈ z1, z.length ≤ 1048576) (o2 : (rowK rcK 60).Ok w s2 z2) (m2_0 : z2.length ≤ 1048576) (m2_1 : ∀ x ∈ z2, rcSz x ≤ 1048576) (o3 : (rowK vtK 62).Ok w s3 z3) (m3_0 : z3.length ≤ 1048576) (m3_1 : ∀ x ∈ z3, vtSz x ≤ 1048576) :
    Calls Tryd.prog 7 #[.agg #[.int .i64 n0, .slice s1.a s1.n s1.c, .slice s2.a s2.n s2.c, .slice s3.a s3.n s3.c]] w fun e w' => ∃ (t1 : Sl) (t2 : Sl) (t3 : Sl) (d : Nat → Path), e = .returned (.agg #[.int .i64 n0, .slice t1.a t1.n t1.c, .slice t2.a t2.n t2.c, .slice t3.a t3.n t3.c]) ∧ (snK 57 60 62).Own w' w.heap.size d p ((), t1, t2, t3) (n0, z1, z2, z3) ∧ Below w.heap.size w w' := by
  have HO1 := hide (fun (W : World) (hb : Below w.heap.size w W) => toBs_kd (p ++ [1] ++ [0]) s1 z1 W ((rowK bytesK 57).below o1 hb (Nat.le_refl _)) m1_0 m1_1)
  have HO2 := hide (fun (W : World) (hb : Below w.heap.size w W) => toRecentS_any (p ++ [1] ++ [1] ++ [0]) s2 z2 W ((rowK rcK 60).below o2 hb (Nat.le_refl _)) m2_0 m2_1)
  have HO3 := hide (fun (W : World) (hb : Below w.heap.size w W) => toVoteS_any (p ++ [1] ++ [1] ++ [1]) s3 z3 W ((rowK vtK 62).below o3 hb (Nat.le_refl _)) m3_0 m3_1)
  obtain ⟨k0, k1, k2, K0, hsz⟩ := three_blk w #[.int .i64 n0, .slice s1.a s1.n s1.c, .slice s2.a s2.n s2.c, .slice s3.a s3.n s3.c] #[.int .i64 0, .slice none 0 0, .slice none 0 0, .slice none 0 0] #[.int .i64 0, .slice none 0 0, .slice none 0 0, .slice none 0 0] 26 34 34
  obtain ⟨W0, e0⟩ : ∃ W0, ((w.alloc (.cells #[.int .i64 n0, .slice s1.a s1.n s1.c, .slice s2.a s2.n s2.c, .slice s3.a s3.n s3.c] 26)).alloc (.cells #[.int .i64 0, .slice none 0 0, .slice none 0 0, .slice none 0 0] 34)).alloc (.cells #[.int .i64 0, .slice none 0 0, .slice none 0 0, .slice none 0 0] 34) = W0 := ⟨_, rfl⟩
  rw [e0] at k0 k1 k2 K0 hsz
  clear o1 o2 o3
  go_enter Tryd.func7, Tryd.ntmps7
  have x0 := k0.cell 0
  have x1 := k0.cell 1
  have u0 := k2.cell 0
  have v0 := k2.free 0
  simp only [List.getElem?_cons_zero, List.getElem?_cons_succ] at x0 x1 u0
  have Q := hide (And.intro k0 (And.intro k1 (And.intro k2 (And.intro K0 hsz))))
  clear k0 k1 k2 K0 hsz
  go_wp2_with (rw [e0])
  try rw [e0]
  clear e0
  obtain ⟨k0, k1, k2, K0, hsz⟩ := unhide Q
  clear Q x0 x1 u0 v0
  have B0 := (K0.setCell (p := ⟨w.heap.size + 2, 0, none⟩) (by show w.heap.size ≤ w.heap.size + 2; omega) (.int .i64 n0))
  refine ((unhide HO1) _ B0).mono ?_
  rintro e w1 ⟨t1, d1, rfl, ow1, b1⟩
  simp only [size_set'] at ow1 b1
  have k0 := (k0.other (g' := w.heap.size + 2) (by omega)).below b1 (by omega)
  have k1 := (k1.other (g' := w.heap.size + 2) (by omega)).below b1 (by omega)
  have k2 := (k2.set 0 (.int .i64 n0)).below b1 (by omega)
  simp only [List.set_cons_zero] at k2
  have K1 := B0.trans (b1.mono (by omega))
  have ow1 := Kd.made _ ow1
  have g1 : W0.heap.size ≤ w1.heap.size := by have := b1.size; simp only [size_set'] at this; exact this
  have hs1 : w.heap.size + 3 ≤ w1.heap.size := by omega
  have hsW := hsz
  clear b1 B0 hsz
  have hsz := hs1
  have x2 := k0.cell 2
  have u1 := k2.cell 1
  have v1 := k2.free 1
  simp only [List.getElem?_cons_zero, List.getElem?_cons_succ] at x2 u1
  have Q := hide (And.intro k0 (And.intro k1 (And.intro k2 (And.intro K1 hsz))))
  clear k0 k1 k2 K1 hsz
  go_wp2_with fail
  obtain ⟨k0, k1, k2, K1, hsz⟩ := unhide Q
  clear Q x2 u1 v1
  have B1 := (K1.setCell (p := ⟨w.heap.size + 2, 1, none⟩) (by show w.heap.size ≤ w.heap.size + 2; omega) (.slice t1.a t1.n t1.c))
  refine ((unhide HO2) _ B1).mono ?_
  rintro e w2 ⟨t2, d2, rfl, ow2, b2⟩
  simp only [size_set'] at ow2 b2
  have k0 := (k0.other (g' := w.heap.size + 2) (by omega)).below b2 (by omega)
  have k1 := (k1.other (g' := w.heap.size + 2) (by omega)).below b2 (by omega)
  have k2 := (k2.set 1 (.slice t1.a t1.n t1.c)).below b2 (by omega)
  simp only [List.set_cons_zero, List.set_cons_succ] at k2
  have K2 := B1.trans (b2.mono (by omega))
  have ow1 := (ow1.set (q := ⟨w.heap.size + 2, _, none⟩) (by show w.heap.size + 2 < _; omega) _).below b2 (by simp only [size_set']; exact Nat.le_refl _)
  have ow2 := Kd.made _ ow2
  have g2 : w1.heap.size ≤ w2.heap.size := by have := b2.size; simp only [size_set'] at this; exact this
  have hs2 : w.heap.size + 3 ≤ w2.heap.size := by omega
  clear b2 B1 hsz
  have hsz := hs2
  have x3 := k0.cell 3
  have u2 := k2.cell 2
  have v2 := k2.free 2
  simp only [List.getElem?_cons_zero, List.getElem?_cons_succ] at x3 u2
  have Q := hide (And.intro k0 (And.intro k1 (And.intro k2 (And.intro K2 hsz))))
  clear k0 k1 k2 K2 hsz
  go_wp2_with fail
  obtain ⟨k0, k1, k2, K2, hsz⟩ := unhide Q
  clear Q x3 u2 v2
  have B2 := (K2.setCell (p := ⟨w.heap.size + 2, 2, none⟩) (by show w.heap.size ≤ w.heap.size + 2; omega) (.slice t2.a t2.n t2.c))
  refine ((unhide HO3) _ B2).mono ?_
  rintro e w3 ⟨t3, d3, rfl, ow3, b3⟩
  simp only [size_set'] at ow3 b3
  have k0 := (k0.other (g' := w.heap.size + 2) (by omega)).below b3 (by omega)
  have k1 := (k1.other (g' := w.heap.size + 2) (by omega)).below b3 (by omega)
  have k2 := (k2.set 2 (.slice t2.a t2.n t2.c)).below b3 (by omega)
  simp only [List.set_cons_zero, List.set_cons_succ] at k2
  have K3 := B2.trans (b3.mono (by omega))
  have ow1 := (ow1.set (q := ⟨w.heap.size + 2, _, none⟩) (by show w.heap.size + 2 < _; omega) _).below b3 (by simp only [size_set']; exact Nat.le_refl _)
  have ow2 := (ow2.set (q := ⟨w.heap.size + 2, _, none⟩) (by show w.heap.size + 2 < _; omega) _).below b3 (by simp only [size_set']; exact Nat.le_refl _)
  have ow3 := Kd.made _ ow3
  have g3 : w2.heap.size ≤ w3.heap.size := by have := b3.size; simp only [size_set'] at this; exact this
  have hs3 : w.heap.size + 3 ≤ w3.heap.size := by omega
  clear b3 B2 hsz
  have hsz := hs3
  have u0 := k2.cell 0
  have v0 := k2.free 0
  have r0 := k1.cell 0
  have q0 := k1.free 0
  have u1 := k2.cell 1
  have v1 := k2.free 1
  have r1 := k1.cell 1
  have q1 := k1.free 1
  have u2 := k2.cell 2
  have v2 := k2.free 2
  have r2 := k1.cell 2
  have q2 := k1.free 2
  have u3 := k2.cell 3
  have v3 := k2.free 3
  have r3 := k1.cell 3
  have q3 := k1.free 3
  simp only [List.getElem?_cons_zero, List.getElem?_cons_succ] at  u0 r0 u1 r1 u2 r2 u3 r3
  have Q := hide (And.intro K3 (And.intro hsz (And.intro hsW trivial)))
  clear k0 k1 k2 K3 hsz hsW
  have MO1 := hide ow1
  clear ow1
  have MO2 := hide ow2
  clear ow2
  have MO3 := hide ow3
  clear ow3
  go_wp2_with fail
  obtain ⟨K3, hsz, hsW, _⟩ := unhide Q
  refine bodyPost_ret (v := .agg #[.int .i64 n0, .slice t1.a t1.n t1.c, .slice t2.a t2.n t2.c, .slice t3.a t3.n t3.c]) (by simp [results, Tryd.results7, go_sem, r0, r1, r2, r3]) rfl ⟨t1, t2, t3, (joinD w1.heap.size d1 (joinD w2.heap.size d2 d3)), rfl, ?_, ?_⟩
  · exact ⟨i0, (Kd.base _ (((((((unhide MO1).set (q := ⟨w.heap.size + 2, _, none⟩) (by show w.heap.size + 2 < _; omega) _).set (q := ⟨w.heap.size + 1, _, none⟩) (by show w.heap.size + 1 < _; omega) _).set (q := ⟨w.heap.size + 1, _, none⟩) (by show w.heap.size + 1 < _; omega) _).set (q := ⟨w.heap.size + 1, _, none⟩) (by show w.heap.size + 1 < _; omega) _).set (q := ⟨w.heap.size + 1, _, none⟩) (by show w.heap.size + 1 < _; omega) _) _ (fun g h1 h2 => by rw [joinD_lt h2])) (by omega)), (Kd.base _ (((((((unhide MO2).set (q := ⟨w.heap.size + 2, _, none⟩) (by show w.heap.size + 2 < _; omega) _).set (q := ⟨w.heap.size + 1, _, none⟩) (by show w.heap.size + 1 < _; omega) _).set (q := ⟨w.heap.size + 1, _, none⟩) (by show w.heap.size + 1 < _; omega) _).set (q := ⟨w.heap.size + 1, _, none⟩) (by show w.heap.size + 1 < _; omega) _).set (q := ⟨w.heap.size + 1, _, none⟩) (by show w.heap.size + 1 < _; omega) _) _ (fun g h1 h2 => by rw [joinD_ge (by omega)]; rw [joinD_lt h2])) (by omega)), (Kd.base _ (((((((unhide MO3).set (q := ⟨w.heap.size + 2, _, none⟩) (by show w.heap.size + 2 < _; omega) _).set (q := ⟨w.heap.size + 1, _, none⟩) (by show w.heap.size + 1 < _; omega) _).set (q := ⟨w.heap.size + 1, _, none⟩) (by show w.heap.size + 1 < _; omega) _).set (q := ⟨w.heap.size + 1, _, none⟩) (by show w.heap.size + 1 < _; omega) _).set (q := ⟨w.heap.size + 1, _, none⟩) (by show w.heap.size + 1 < _; omega) _) _ (fun g h1 h2 => by rw [joinD_ge (by omega)]; rw [joinD_ge (by omega)])) (by omega))⟩
  · exact (((((K3.setCell (p := ⟨w.heap.size + 2, 3, none⟩) (by show w.heap.size ≤ w.heap.size + 2; omega) (.slice t3.a t3.n t3.c)).setCell (p := ⟨w.heap.size + 1, 0, none⟩) (by show w.heap.size ≤ w.heap.size + 1; omega) (.int .i64 n0)).setCell (p := ⟨w.heap.size + 1, 1, none⟩) (by show w.heap.size ≤ w.heap.size + 1; omega) (.slice t1.a t1.n t1.c)).setCell (p := ⟨w.heap.size + 1, 2, none⟩) (by show w.heap.size ≤ w.heap.size + 1; omega) (.slice t2.a t2.n t2.c)).setCell (p := ⟨w.heap.size + 1, 3, none⟩) (by show w.heap.size ≤ w.heap.size + 1; omega) (.slice t3.a t3.n t3.c))

end Go.Proofs.YtpkfgffgldjceaaDoor
