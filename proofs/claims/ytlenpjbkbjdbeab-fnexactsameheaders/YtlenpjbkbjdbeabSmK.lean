/- What is proved here: what the program's SameHeaders answers: whether two headers are the same. -/
import Derived.Test.YtlenpjbkbjdbeabSmJ
import Derived.Test.YtlenpjbkbjdbeabHfF
import Derived.Deep.RegionHeld3
namespace Go.Proofs.Ytlenpjbkbjdbeab
open Go.RowKit
set_option linter.unusedVariables false

set_option maxRecDepth 100000 in
set_option maxHeartbeats 4000000 in
theorem implSameHeaders_any (x y : HS) (h k : Hd) (w : World) (o : HOk w x h) (q : HOk w y k) (mx : HSm h) (my : HSm k) :
    Calls Try.prog 13 #[.agg (hvals x h), .agg (hvals y k)] w fun e w' => e = .returned (.bool (sameHd h k)) ∧ Below w.heap.size w w' := by
  obtain ⟨k0, k1, k2, k3⟩ := two_blk w (hvals x h) (hvals y k) 33 33
  have HOQ := hide (fun (W : World) (hb : Below w.heap.size w W) => And.intro (o.below hb (Nat.le_refl _)) (q.below hb (Nat.le_refl _)))
  have HM := hide (And.intro mx my)
  obtain ⟨W0, e0⟩ : ∃ W0, (w.alloc (.cells (hvals x h) 33)).alloc (.cells (hvals y k) 33) = W0 := ⟨_, rfl⟩
  rw [e0] at k0 k1 k2 k3
  obtain ⟨x0, x1, x2, x3, x4, x5, x6, x7, x8, x9, x10⟩ := hcells k0
  obtain ⟨y0, y1, y2, y3, y4, y5, y6, y7, y8, y9, y10⟩ := hcells k1
  have HK := hide (fun (W : World) (hb : Below W0.heap.size W0 W) => And.intro (hcells (k0.below hb k0.lt)) (hcells (k1.below hb k1.lt)))
  have HB := hide k2
  clear o q mx my k0 k1 k2 k3
  generalize hc : sameHd h k = c
  have HS := hide (fun (W : World) (hb : Below w.heap.size w W) => blockSame_any x y h k W ((unhide HOQ) W hb).1 ((unhide HOQ) W hb).2 (unhide HM).1 (unhide HM).2)
  rw [hc] at HS
  clear hc HM HOQ
  have DX := hide (fun (W : World) => blockOf_any x h W)
  have DY := hide (fun (W : World) => blockOf_any y k W)
  unfold hvals at e0 DX DY HS ⊢
  go_enter Try.func13, Try.ntmps13
  go_wp2_with (rw [e0])
  clear e0
  go_region_held3 (fun W => (W.cell? ⟨w.heap.size, 0, none⟩ = some (.slice x.p.a x.p.n x.p.c) ∧ W.cell? ⟨w.heap.size, 1, none⟩ = some (.int .i64 h.n1) ∧ W.cell? ⟨w.heap.size, 2, none⟩ = some (.int .i64 h.n2) ∧ W.cell? ⟨w.heap.size, 3, none⟩ = some (.int .i64 h.n3) ∧ W.cell? ⟨w.heap.size, 4, none⟩ = some (.slice x.t.a x.t.n x.t.c) ∧ W.cell? ⟨w.heap.size, 5, none⟩ = some (.int .i64 h.n5) ∧ W.cell? ⟨w.heap.size, 6, none⟩ = some (.slice x.s.a x.s.n x.s.c) ∧ W.cell? ⟨w.heap.size, 7, none⟩ = some (.slice x.r.a x.r.n x.r.c) ∧ W.cell? ⟨w.heap.size, 8, none⟩ = some (.slice x.g.a x.g.n x.g.c) ∧ W.cell? ⟨w.heap.size, 9, none⟩ = some (.slice x.e.a x.e.n x.e.c) ∧ W.cell? ⟨w.heap.size, 10, none⟩ = some (.slice x.k.a x.k.n x.k.c)) ∧ (W.cell? ⟨w.heap.size + 1, 0, none⟩ = some (.slice y.p.a y.p.n y.p.c) ∧ W.cell? ⟨w.heap.size + 1, 1, none⟩ = some (.int .i64 k.n1) ∧ W.cell? ⟨w.heap.size + 1, 2, none⟩ = some (.int .i64 k.n2) ∧ W.cell? ⟨w.heap.size + 1, 3, none⟩ = some (.int .i64 k.n3) ∧ W.cell? ⟨w.heap.size + 1, 4, none⟩ = some (.slice y.t.a y.t.n y.t.c) ∧ W.cell? ⟨w.heap.size + 1, 5, none⟩ = some (.int .i64 k.n5) ∧ W.cell? ⟨w.heap.size + 1, 6, none⟩ = some (.slice y.s.a y.s.n y.s.c) ∧ W.cell? ⟨w.heap.size + 1, 7, none⟩ = some (.slice y.r.a y.r.n y.r.c) ∧ W.cell? ⟨w.heap.size + 1, 8, none⟩ = some (.slice y.g.a y.g.n y.g.c) ∧ W.cell? ⟨w.heap.size + 1, 9, none⟩ = some (.slice y.e.a y.e.n y.e.c) ∧ W.cell? ⟨w.heap.size + 1, 10, none⟩ = some (.slice y.k.a y.k.n y.k.c)))
    (exact (unhide HK) _ (by first | assumption | exact (Below.refl W0.heap.size W0).drew | exact below_drewN (Below.refl W0.heap.size W0) _))
    (first
    | (go_at_call 23; refine ((unhide HS) _ ((unhide HB).trans (K2.mono (unhide HB).size))).mono ?_; rintro e w3 ⟨rfl, b3⟩; have K3 : Below W0.heap.size W0 w3 := K2.trans (b3.mono K2.size))
    | (go_at_call 22; have KK := K1; refine ((unhide DY) _).mono ?_; rintro e w2 ⟨rfl, b2⟩; have K2 : Below W0.heap.size W0 w2 := KK.trans (b2.mono KK.size); clear KK)
    | (go_at_call 22; refine ((unhide DX) _).mono ?_; rintro e w1 ⟨rfl, b1⟩; have K1 : Below W0.heap.size W0 w1 := Below.trans (by first | exact Below.refl W0.heap.size W0 | exact (Below.refl W0.heap.size W0).drew | exact below_drewN (Below.refl W0.heap.size W0) _) b1))
  all_goals
    go_wp2_with fail
    go_ret
    exact ⟨rfl, (unhide HB).trans (K3.mono (unhide HB).size)⟩

end Go.Proofs.Ytlenpjbkbjdbeab
