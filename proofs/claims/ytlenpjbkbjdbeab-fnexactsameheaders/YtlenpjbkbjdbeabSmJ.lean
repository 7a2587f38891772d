/- What is proved here: what the program's SameHeaders answers: whether two headers are the same. -/
import Derived.Test.YtlenpjbkbjdbeabSmI
namespace Go.Proofs.Ytlenpjbkbjdbeab
open Go.RowKit
set_option linter.unusedVariables false

set_option maxHeartbeats 4000000 in
theorem sameVotes_to (x y : HS) (h k : Hd) (c4 c5 c6 : Bool) (w : World) (o : HOk w x h) (q : HOk w y k) (mx : HSm h) (my : HSm k) (e4 : strEq h.t k.t = c4) (e5 : (h.n5 == k.n5) = c5) (e6 : sameLs h.s k.s = c6) :
    Calls Try.prog 30 #[.agg #[.slice x.t.a x.t.n x.t.c, .int .i64 h.n5, .slice x.s.a x.s.n x.s.c], .agg #[.slice y.t.a y.t.n y.t.c, .int .i64 k.n5, .slice y.s.a y.s.n y.s.c]] w fun e w' => e = .returned (.bool (c4 && c5 && c6)) ∧ Below w.heap.size w w' := by
  have HB := hide (two_blk w #[.slice x.t.a x.t.n x.t.c, .int .i64 h.n5, .slice x.s.a x.s.n x.s.c] #[.slice y.t.a y.t.n y.t.c, .int .i64 k.n5, .slice y.s.a y.s.n y.s.c] 43 43).2.2.1
  have C4 := hide (fun (W : World) (hb : Below w.heap.size w W) => implSame_to x.t.a y.t.a x.t.n x.t.c y.t.n y.t.c h.t k.t c4 W (o.t.below hb (Nat.le_refl _)) (q.t.below hb (Nat.le_refl _)) e4)
  have C6 := hide (fun (W : World) (hb : Below w.heap.size w W) => sameLists_to x.s.a y.s.a x.s.n x.s.c y.s.n y.s.c h.s k.s c6 W (o.s.below hb (Nat.le_refl _)) (q.s.below hb (Nat.le_refl _)) (by have := o.s.1; have := mx.s; omega) (by have := q.s.1; have := my.s; omega) e6)
  clear o q mx my e4 e6
  go_enter Try.func30, Try.ntmps30
  go_wp2_with fail
  refine ((unhide C4) _ (unhide HB)).mono ?_
  rintro e w1 ⟨rfl, rfl⟩
  cases c4
  · go_wp2_with fail
    go_ret
    exact ⟨rfl, unhide HB⟩
  cases c5
  · go_wp2_with fail
    go_ret
    exact ⟨rfl, unhide HB⟩
  go_wp2_with fail
  refine ((unhide C6) _ (unhide HB)).mono ?_
  rintro e w1 ⟨rfl, rfl⟩
  go_wp2_with fail
  go_ret
  exact ⟨rfl, unhide HB⟩

set_option maxRecDepth 100000 in
set_option maxHeartbeats 16000000 in
theorem blockSame_any (x y : HS) (h k : Hd) (w : World) (o : HOk w x h) (q : HOk w y k) (mx : HSm h) (my : HSm k) :
    Calls Try.prog 23 #[.agg (hvals x h), .agg (hvals y k)] w fun e w' => e = .returned (.bool (sameHd h k)) ∧ Below w.heap.size w w' := by
  obtain ⟨k0, k1, k2, k3⟩ := two_blk w (hvals x h) (hvals y k) 45 45
  unfold hvals at k0 k1 k2 k3 ⊢
  obtain ⟨W0, e0⟩ : ∃ W0, (w.alloc (.cells #[.slice x.p.a x.p.n x.p.c, .int .i64 h.n1, .int .i64 h.n2, .int .i64 h.n3, .slice x.t.a x.t.n x.t.c, .int .i64 h.n5, .slice x.s.a x.s.n x.s.c, .slice x.r.a x.r.n x.r.c, .slice x.g.a x.g.n x.g.c, .slice x.e.a x.e.n x.e.c, .slice x.k.a x.k.n x.k.c] 45)).alloc (.cells #[.slice y.p.a y.p.n y.p.c, .int .i64 k.n1, .int .i64 k.n2, .int .i64 k.n3, .slice y.t.a y.t.n y.t.c, .int .i64 k.n5, .slice y.s.a y.s.n y.s.c, .slice y.r.a y.r.n y.r.c, .slice y.g.a y.g.n y.g.c, .slice y.e.a y.e.n y.e.c, .slice y.k.a y.k.n y.k.c] 45) = W0 := ⟨_, rfl⟩
  rw [e0] at k0 k1 k2 k3
  have x0 := k0.cell 0
  have y0 := k1.cell 0
  have x1 := k0.cell 1
  have y1 := k1.cell 1
  have x2 := k0.cell 2
  have y2 := k1.cell 2
  have x3 := k0.cell 3
  have y3 := k1.cell 3
  have x4 := k0.cell 4
  have y4 := k1.cell 4
  have x5 := k0.cell 5
  have y5 := k1.cell 5
  have x6 := k0.cell 6
  have y6 := k1.cell 6
  have x7 := k0.cell 7
  have y7 := k1.cell 7
  have x8 := k0.cell 8
  have y8 := k1.cell 8
  have x9 := k0.cell 9
  have y9 := k1.cell 9
  have x10 := k0.cell 10
  have y10 := k1.cell 10
  simp only [List.getElem?_cons_zero, List.getElem?_cons_succ] at x0 y0 x1 y1 x2 y2 x3 y3 x4 y4 x5 y5 x6 y6 x7 y7 x8 y8 x9 y9 x10 y10
  obtain ⟨c0, f0⟩ : ∃ c, (strEq h.p k.p) = c := ⟨_, rfl⟩
  obtain ⟨c1, e1⟩ : ∃ c, ((h.n1 == k.n1)) = c := ⟨_, rfl⟩
  obtain ⟨c2, e2⟩ : ∃ c, ((h.n2 == k.n2)) = c := ⟨_, rfl⟩
  obtain ⟨c3, e3⟩ : ∃ c, ((h.n3 == k.n3)) = c := ⟨_, rfl⟩
  obtain ⟨c4, e4⟩ : ∃ c, (strEq h.t k.t) = c := ⟨_, rfl⟩
  obtain ⟨c5, e5⟩ : ∃ c, ((h.n5 == k.n5)) = c := ⟨_, rfl⟩
  obtain ⟨c6, e6⟩ : ∃ c, (sameLs h.s k.s) = c := ⟨_, rfl⟩
  obtain ⟨c7, e7⟩ : ∃ c, (strEq h.r k.r) = c := ⟨_, rfl⟩
  obtain ⟨c8, e8⟩ : ∃ c, (strEq h.g k.g) = c := ⟨_, rfl⟩
  obtain ⟨c9, e9⟩ : ∃ c, (strEq h.e k.e) = c := ⟨_, rfl⟩
  obtain ⟨c10, e10⟩ : ∃ c, (sameLs h.k k.k) = c := ⟨_, rfl⟩
  have HE : Hid (sameHd h k = ((c1 && c2 && c3) && (c0 && c7) && (c8 && c9 && c10) && (c4 && c5 && c6))) := by
    show _ = _
    unfold sameHd
    rw [bool11, f0, e1, e2, e3, e4, e5, e6, e7, e8, e9, e10]
  have C0 := hide (implSame_to x.p.a y.p.a x.p.n x.p.c y.p.n y.p.c h.p k.p c0 W0 (o.p.below k2 (Nat.le_refl _)) (q.p.below k2 (Nat.le_refl _)) f0)
  clear f0
  have C7 := hide (implSame_to x.r.a y.r.a x.r.n x.r.c y.r.n y.r.c h.r k.r c7 W0 (o.r.below k2 (Nat.le_refl _)) (q.r.below k2 (Nat.le_refl _)) e7)
  clear e7
  have C8 := hide (implSame_to x.g.a y.g.a x.g.n x.g.c y.g.n y.g.c h.g k.g c8 W0 (o.g.below k2 (Nat.le_refl _)) (q.g.below k2 (Nat.le_refl _)) e8)
  clear e8
  have C9 := hide (implSame_to x.e.a y.e.a x.e.n x.e.c y.e.n y.e.c h.e k.e c9 W0 (o.e.below k2 (Nat.le_refl _)) (q.e.below k2 (Nat.le_refl _)) e9)
  clear e9
  have C10 := hide (sameLists_to x.k.a y.k.a x.k.n x.k.c y.k.n y.k.c h.k k.k c10 W0 (o.k.below k2 (Nat.le_refl _)) (q.k.below k2 (Nat.le_refl _)) (by have := o.k.1; have := mx.k; omega) (by have := q.k.1; have := my.k; omega) e10)
  clear e10
  have CV := hide (sameVotes_to x y h k c4 c5 c6 W0 (o.below k2 (Nat.le_refl _)) (q.below k2 (Nat.le_refl _)) mx my e4 e5 e6)
  have HB := hide k2
  clear o q mx my e4 e5 e6 k0 k1 k2 k3
  generalize (c4 && c5 && c6) = cv at HE CV
  go_enter Try.func23, Try.ntmps23
  go_upto_region 1 with (rw [e0])
  try rw [e0]
  clear e0
  go_cut [5] (fun s wx => s = .bool (c1 && c2 && c3) ∧ wx = W0)
  case first =>
    cases c1
    · go_wp2_with fail
      go_meet
      exact ⟨rfl, rfl⟩
    cases c2
    · go_wp2_with fail
      go_meet
      exact ⟨rfl, rfl⟩
    go_wp2_with fail
    go_meet
    exact ⟨by simp, rfl⟩
  case rest =>
    obtain ⟨rfl, hwc⟩ := hcut; rw [hwc]; clear hwc
    clear e1 e2 e3
    generalize (c1 && c2 && c3) = cn at HE
    go_upto_region 2 with fail
    go_cut [6] (fun s wx => s = .bool (c0 && c7) ∧ wx = W0)
    case first =>
      go_wp2_with fail
      refine (unhide C0).mono ?_
      rintro e w1 ⟨rfl, rfl⟩
      cases c0
      · go_wp2_with fail
        go_meet
        exact ⟨rfl, rfl⟩
      go_wp2_with fail
      refine (unhide C7).mono ?_
      rintro e w1 ⟨rfl, rfl⟩
      go_wp2_with fail
      go_meet
      exact ⟨by simp, rfl⟩
    case rest =>
      obtain ⟨rfl, hwc⟩ := hcut; rw [hwc]; clear hwc
      generalize (c0 && c7) = ch at HE
      go_upto_region 3 with fail
      go_cut [7] (fun s wx => s = .bool (c8 && c9 && c10) ∧ wx = W0)
      case first =>
        go_wp2_with fail
        refine (unhide C8).mono ?_
        rintro e w1 ⟨rfl, rfl⟩
        cases c8
        · go_wp2_with fail
          go_meet
          exact ⟨rfl, rfl⟩
        go_wp2_with fail
        refine (unhide C9).mono ?_
        rintro e w1 ⟨rfl, rfl⟩
        cases c9
        · go_wp2_with fail
          go_meet
          exact ⟨rfl, rfl⟩
        go_wp2_with fail
        refine (unhide C10).mono ?_
        rintro e w1 ⟨rfl, rfl⟩
        go_wp2_with fail
        go_meet
        exact ⟨by simp, rfl⟩
      case rest =>
        obtain ⟨rfl, hwc⟩ := hcut; rw [hwc]; clear hwc
        generalize (c8 && c9 && c10) = cs at HE
        cases cn
        · go_wp2_with fail
          go_ret
          exact ⟨ret_bool (by rw [unhide HE]; simp), unhide HB⟩
        cases ch
        · go_wp2_with fail
          go_ret
          exact ⟨ret_bool (by rw [unhide HE]; simp), unhide HB⟩
        cases cs
        · go_wp2_with fail
          go_ret
          exact ⟨ret_bool (by rw [unhide HE]; simp), unhide HB⟩
        go_wp2_with fail
        refine (unhide CV).mono ?_
        rintro e w1 ⟨rfl, b1⟩
        go_wp2_with fail
        go_ret
        exact ⟨ret_bool (by rw [unhide HE]; simp), (unhide HB).trans (b1.mono (unhide HB).size)⟩

end Go.Proofs.Ytlenpjbkbjdbeab
