/- What is proved here: the contract of the laws' helper function toHeader: the header's copy, in new memory of its own. -/
import Derived.Test.YtifhaihddimdfaaGreatDoorChecked
import Derived.Test.YtifhaihddimdfaaGreatDoorJ4
import Derived.WalkKit
import Derived.WalkLawsBesides
import Derived.WalkSmall
import Derived.Deep.DeepCutAuto
import Derived.KernelRfl
import Derived.WalkSpells
import Derived.Test.YtifhaihddimdfaaGreatDoorJ1
import Derived.Test.YtifhaihddimdfaaGreatDoorJ3
import Derived.Deep.RegionWith
import Derived.OpenShut
namespace Go.Proofs.YtifhaihddimdfaaGreatDoor
open Go.RowKit
set_option linter.unusedVariables false
set_option maxRecDepth 100000

theorem three_blk (w : World) (vs us ts : Array Value) (T S R : TypeId) : SBlk (((w.alloc (.cells vs T)).alloc (.cells us S)).alloc (.cells ts R)) w.heap.size vs.toList T ∧ SBlk (((w.alloc (.cells vs T)).alloc (.cells us S)).alloc (.cells ts R)) (w.heap.size + 1) us.toList S ∧
    SBlk (((w.alloc (.cells vs T)).alloc (.cells us S)).alloc (.cells ts R)) (w.heap.size + 2) ts.toList R ∧ Below w.heap.size w (((w.alloc (.cells vs T)).alloc (.cells us S)).alloc (.cells ts R)) ∧ (((w.alloc (.cells vs T)).alloc (.cells us S)).alloc (.cells ts R)).heap.size = w.heap.size + 3 := by
  refine ⟨((SBlk.new w vs T).next _).next _, ?_, ?_, (((Below.refl _ _).alloc (Nat.le_refl _) _).alloc (by simp) _).alloc (by simp; omega) _, by simp⟩
  · have h := (SBlk.new (w.alloc (.cells vs T)) us S).next (.cells ts R)
    rwa [show (w.alloc (.cells vs T)).heap.size = w.heap.size + 1 by simp] at h
  · have h := SBlk.new ((w.alloc (.cells vs T)).alloc (.cells us S)) ts R
    rwa [show ((w.alloc (.cells vs T)).alloc (.cells us S)).heap.size = w.heap.size + 2 by simp] at h

theorem toB_to (a : Option Addr) (n cap : Nat) (z : List Int) (W : World) (g : Nat) (hg : W.heap.size = g) (h : BRow W a n z) (hl : z.length ≤ 1048576) :
    Calls Tryz.prog 70 #[.slice a n cap] W fun e w' => e = .returned (.slice (some ⟨g, 0, none⟩) z.length z.length) ∧ w'.ownsRow g 5 1 (.slice (some ⟨g, 0, none⟩) z.length z.length) z.length (z.map (Value.int .u8)) ∧ Below g W w' := by
  subst hg
  obtain rfl : z.length = n := h.1
  exact toByteS_any a _ cap z W h hl

theorem toBs_to (a : Option Addr) (n cap : Nat) (z : List (List Int)) (W : World) (g : Nat) (hg : W.heap.size = g) (h : BsRow W a n z) (hl : z.length ≤ 1048576) (hz : ∀ y ∈ z, y.length ≤ 1048576) :
    Calls Tryz.prog 28 #[.slice a n cap] W fun e w' => e = .returned (.slice (some ⟨g, 0, none⟩) z.length z.length) ∧ OBss w' g z 22 w'.heap.size ∧ Below g W w' := by
  subst hg
  obtain rfl : z.length = n := h.1
  exact toByteSS_any a _ cap z W h hl hz

/-- The header's slices lie in blocks of their own, all from B on. -/
def HOwn (w : World) (B : Nat) (x : HS) (h : Hd) : Prop :=
  ∃ g1 g2 g3 g4 g5 g6 g7 : Nat, x = ⟨⟨some ⟨g1, 0, none⟩, h.p.length, h.p.length⟩, ⟨some ⟨g2, 0, none⟩, h.t.length, h.t.length⟩, ⟨some ⟨g3, 0, none⟩, h.s.length, h.s.length⟩, ⟨some ⟨g4, 0, none⟩, h.r.length, h.r.length⟩, ⟨some ⟨g5, 0, none⟩, h.g.length, h.g.length⟩, ⟨some ⟨g6, 0, none⟩, h.e.length, h.e.length⟩, ⟨some ⟨g7, 0, none⟩, h.k.length, h.k.length⟩⟩ ∧
    (B ≤ g1 ∧ g1 < g2 ∧ g2 < g3 ∧ g3 < g4 ∧ g4 < g5 ∧ g5 < g6 ∧ g6 < g7) ∧
    w.ownsRow g1 5 1 (.slice (some ⟨g1, 0, none⟩) h.p.length h.p.length) h.p.length (h.p.map (Value.int .u8)) ∧
    w.ownsRow g2 5 1 (.slice (some ⟨g2, 0, none⟩) h.t.length h.t.length) h.t.length (h.t.map (Value.int .u8)) ∧
    OBss w g3 h.s 22 g4 ∧
    w.ownsRow g4 5 1 (.slice (some ⟨g4, 0, none⟩) h.r.length h.r.length) h.r.length (h.r.map (Value.int .u8)) ∧
    w.ownsRow g5 5 1 (.slice (some ⟨g5, 0, none⟩) h.g.length h.g.length) h.g.length (h.g.map (Value.int .u8)) ∧
    w.ownsRow g6 5 1 (.slice (some ⟨g6, 0, none⟩) h.e.length h.e.length) h.e.length (h.e.map (Value.int .u8)) ∧
    OBss w g7 h.k 22 w.heap.size

/-- What is owned reads so. -/
theorem HOwn.ok {w v : World} {B : Nat} {x y : HS} {h : Hd} (o : HOwn w B x h) (q : HOk v y h) : HOk w x h := by
  obtain ⟨g1, g2, g3, g4, g5, g6, g7, rfl, _, o1, o2, o3, o4, o5, o6, o7⟩ := o
  exact ⟨BRow.own2 o1 q.p.2.1, BRow.own2 o2 q.t.2.1, o3.row q.s.2.1 q.s.bytes, BRow.own2 o4 q.r.2.1, BRow.own2 o5 q.g.2.1, BRow.own2 o6 q.e.2.1, o7.row q.k.2.1 q.k.bytes⟩

set_option maxHeartbeats 16000000 in
theorem toHeader_any (x : HS) (h : Hd) (w : World) (o : HOk w x h) (m : HSm h) :
    Calls Tryz.prog 29 #[.agg (hvals x h)] w fun e w' => ∃ y, e = .returned (.agg (hvals y h)) ∧ HOwn w' (w.heap.size + 3) y h ∧ Below w.heap.size w w' := by
  have HO := hide (fun (W : World) (hb : Below w.heap.size w W) => o.below hb (Nat.le_refl _))
  have HM := hide m
  obtain ⟨k0, k1, k2, K0, hsz⟩ := three_blk w (hvals x h) #[.slice none 0 0, .int .i64 0, .int .i64 0, .int .i64 0, .slice none 0 0, .int .i64 0, .slice none 0 0, .slice none 0 0, .slice none 0 0, .slice none 0 0, .slice none 0 0] #[.slice none 0 0, .int .i64 0, .int .i64 0, .int .i64 0, .slice none 0 0, .int .i64 0, .slice none 0 0, .slice none 0 0, .slice none 0 0, .slice none 0 0, .slice none 0 0] 44 26 26
  clear o m
  unfold hvals at k0 k1 k2 K0 hsz ⊢
  obtain ⟨W0, e0⟩ : ∃ W0, ((w.alloc (.cells #[.slice x.p.a x.p.n x.p.c, .int .i64 h.n1, .int .i64 h.n2, .int .i64 h.n3, .slice x.t.a x.t.n x.t.c, .int .i64 h.n5, .slice x.s.a x.s.n x.s.c, .slice x.r.a x.r.n x.r.c, .slice x.g.a x.g.n x.g.c, .slice x.e.a x.e.n x.e.c, .slice x.k.a x.k.n x.k.c] 44)).alloc (.cells #[.slice none 0 0, .int .i64 0, .int .i64 0, .int .i64 0, .slice none 0 0, .int .i64 0, .slice none 0 0, .slice none 0 0, .slice none 0 0, .slice none 0 0, .slice none 0 0] 26)).alloc (.cells #[.slice none 0 0, .int .i64 0, .int .i64 0, .int .i64 0, .slice none 0 0, .int .i64 0, .slice none 0 0, .slice none 0 0, .slice none 0 0, .slice none 0 0, .slice none 0 0] 26) = W0 := ⟨_, rfl⟩
  rw [e0] at k0 k1 k2 K0 hsz
  go_enter Tryz.func29, Tryz.ntmps29
  have x0 := k0.cell 0
  simp only [List.getElem?_cons_zero] at x0
  go_wp2_with (rw [e0])
  clear e0 x0
  have hg1 : w.heap.size + 2 < W0.heap.size := by omega
  obtain ⟨g1, eg1⟩ : ∃ g, g = W0.heap.size := ⟨_, rfl⟩
  have cg1 : w.heap.size + 3 ≤ g1 := by omega
  clear hsz hg1
  have EG1 := hide eg1
  clear eg1
  refine (toB_to x.p.a x.p.n x.p.c h.p _ g1 ((unhide EG1).symm) ((unhide HO) _ K0).p (unhide HM).p).mono ?_
  rintro e w1 ⟨rfl, o1, b1⟩
  have k0 := k0.below b1 (by omega)
  have k1 := k1.below b1 (by omega)
  have k2 := k2.below b1 (by omega)
  have K1 := K0.trans (b1.mono (by omega))
  have lt1 : g1 < w1.heap.size := (o1.lt g1 rfl).2
  have x1 := k0.cell 1
  have x2 := k0.cell 2
  have x3 := k0.cell 3
  have x4 := k0.cell 4
  have u0 := k2.cell 0
  have v0 := k2.free 0
  have u1 := k2.cell 1
  have v1 := k2.free 1
  have u2 := k2.cell 2
  have v2 := k2.free 2
  have u3 := k2.cell 3
  have v3 := k2.free 3
  simp only [List.getElem?_cons_zero, List.getElem?_cons_succ] at x1 x2 x3 x4 u0 u1 u2 u3
  have Q := hide (And.intro k1 (And.intro b1 (And.intro K1 trivial)))
  go_wp2_with fail
  clear Q x1 x2 x3 x4 u0 u1 u2 u3 v0 v1 v2 v3
  obtain ⟨g2, eg2⟩ : ∃ g, g = w1.heap.size := ⟨_, rfl⟩
  have cg2 : g1 < g2 := by omega
  clear lt1
  have EG2 := hide eg2
  clear eg2
  refine (toB_to x.t.a x.t.n x.t.c h.t _ g2 (by simp only [size_set']; exact (unhide EG2).symm) ((unhide HO) _ ((((K1.setCell (p := ⟨w.heap.size + 2, _, none⟩) (by show w.heap.size ≤ w.heap.size + 2; omega) _).setCell (p := ⟨w.heap.size + 2, _, none⟩) (by show w.heap.size ≤ w.heap.size + 2; omega) _).setCell (p := ⟨w.heap.size + 2, _, none⟩) (by show w.heap.size ≤ w.heap.size + 2; omega) _).setCell (p := ⟨w.heap.size + 2, _, none⟩) (by show w.heap.size ≤ w.heap.size + 2; omega) _)).t (unhide HM).t).mono ?_
  rintro e w2 ⟨rfl, o2, b2⟩
  have k0 := ((((k0.other (g' := w.heap.size + 2) (by omega)).other (g' := w.heap.size + 2) (by omega)).other (g' := w.heap.size + 2) (by omega)).other (g' := w.heap.size + 2) (by omega)).below b2 (by omega)
  have k1 := ((((k1.other (g' := w.heap.size + 2) (by omega)).other (g' := w.heap.size + 2) (by omega)).other (g' := w.heap.size + 2) (by omega)).other (g' := w.heap.size + 2) (by omega)).below b2 (by omega)
  have k2 := ((((k2.set 0 (.slice (some ⟨g1, 0, none⟩) h.p.length h.p.length)).set 1 (.int .i64 h.n1)).set 2 (.int .i64 h.n2)).set 3 (.int .i64 h.n3)).below b2 (by omega)
  simp only [List.set_cons_zero, List.set_cons_succ] at k2
  have K2 := ((((K1.setCell (p := ⟨w.heap.size + 2, _, none⟩) (by show w.heap.size ≤ w.heap.size + 2; omega) _).setCell (p := ⟨w.heap.size + 2, _, none⟩) (by show w.heap.size ≤ w.heap.size + 2; omega) _).setCell (p := ⟨w.heap.size + 2, _, none⟩) (by show w.heap.size ≤ w.heap.size + 2; omega) _).setCell (p := ⟨w.heap.size + 2, _, none⟩) (by show w.heap.size ≤ w.heap.size + 2; omega) _).trans (b2.mono (by omega))
  have o1 := own_below (ownsRow_setCell_below (ownsRow_setCell_below (ownsRow_setCell_below (ownsRow_setCell_below o1 (by show w.heap.size + 2 < g1; omega) _) (by show w.heap.size + 2 < g1; omega) _) (by show w.heap.size + 2 < g1; omega) _) (by show w.heap.size + 2 < g1; omega) _) b2 (by simp only [size_set']; exact Nat.le_of_eq (unhide EG2).symm)
  have lt2 : g2 < w2.heap.size := (o2.lt g2 rfl).2
  have x5 := k0.cell 5
  have x6 := k0.cell 6
  have u4 := k2.cell 4
  have v4 := k2.free 4
  have u5 := k2.cell 5
  have v5 := k2.free 5
  simp only [List.getElem?_cons_zero, List.getElem?_cons_succ] at x5 x6 u4 u5
  have Q := hide (And.intro k1 (And.intro b2 (And.intro K2 trivial)))
  go_wp2_with fail
  clear Q x5 x6 u4 u5 v4 v5
  obtain ⟨g3, eg3⟩ : ∃ g, g = w2.heap.size := ⟨_, rfl⟩
  have cg3 : g2 < g3 := by omega
  clear lt2
  have EG3 := hide eg3
  clear eg3
  refine (toBs_to x.s.a x.s.n x.s.c h.s _ g3 (by simp only [size_set']; exact (unhide EG3).symm) ((unhide HO) _ ((K2.setCell (p := ⟨w.heap.size + 2, _, none⟩) (by show w.heap.size ≤ w.heap.size + 2; omega) _).setCell (p := ⟨w.heap.size + 2, _, none⟩) (by show w.heap.size ≤ w.heap.size + 2; omega) _)).s (unhide HM).s (unhide HM).sz).mono ?_
  rintro e w3 ⟨rfl, o3, b3⟩
  have k0 := ((k0.other (g' := w.heap.size + 2) (by omega)).other (g' := w.heap.size + 2) (by omega)).below b3 (by omega)
  have k1 := ((k1.other (g' := w.heap.size + 2) (by omega)).other (g' := w.heap.size + 2) (by omega)).below b3 (by omega)
  have k2 := ((k2.set 4 (.slice (some ⟨g2, 0, none⟩) h.t.length h.t.length)).set 5 (.int .i64 h.n5)).below b3 (by omega)
  simp only [List.set_cons_zero, List.set_cons_succ] at k2
  have K3 := ((K2.setCell (p := ⟨w.heap.size + 2, _, none⟩) (by show w.heap.size ≤ w.heap.size + 2; omega) _).setCell (p := ⟨w.heap.size + 2, _, none⟩) (by show w.heap.size ≤ w.heap.size + 2; omega) _).trans (b3.mono (by omega))
  have o1 := own_below (ownsRow_setCell_below (ownsRow_setCell_below o1 (by show w.heap.size + 2 < g1; omega) _) (by show w.heap.size + 2 < g1; omega) _) b3 (by simp only [size_set']; exact Nat.le_of_eq (unhide EG3).symm)
  have o2 := own_below (ownsRow_setCell_below (ownsRow_setCell_below o2 (by show w.heap.size + 2 < g2; omega) _) (by show w.heap.size + 2 < g2; omega) _) b3 (by simp only [size_set']; exact Nat.le_of_eq (unhide EG3).symm)
  have lt3 : g3 < w3.heap.size := BUpto.lt o3
  have x7 := k0.cell 7
  have u6 := k2.cell 6
  have v6 := k2.free 6
  simp only [List.getElem?_cons_zero, List.getElem?_cons_succ] at x7 u6
  have Q := hide (And.intro k1 (And.intro b3 (And.intro K3 trivial)))
  go_wp2_with fail
  clear Q x7 u6 v6
  obtain ⟨g4, eg4⟩ : ∃ g, g = w3.heap.size := ⟨_, rfl⟩
  have cg4 : g3 < g4 := by omega
  clear lt3
  have EG4 := hide eg4
  clear eg4
  refine (toB_to x.r.a x.r.n x.r.c h.r _ g4 (by simp only [size_set']; exact (unhide EG4).symm) ((unhide HO) _ (K3.setCell (p := ⟨w.heap.size + 2, _, none⟩) (by show w.heap.size ≤ w.heap.size + 2; omega) _)).r (unhide HM).r).mono ?_
  rintro e w4 ⟨rfl, o4, b4⟩
  have k0 := (k0.other (g' := w.heap.size + 2) (by omega)).below b4 (by omega)
  have k1 := (k1.other (g' := w.heap.size + 2) (by omega)).below b4 (by omega)
  have k2 := (k2.set 6 (.slice (some ⟨g3, 0, none⟩) h.s.length h.s.length)).below b4 (by omega)
  simp only [List.set_cons_zero, List.set_cons_succ] at k2
  have K4 := (K3.setCell (p := ⟨w.heap.size + 2, _, none⟩) (by show w.heap.size ≤ w.heap.size + 2; omega) _).trans (b4.mono (by omega))
  have o1 := own_below (ownsRow_setCell_below o1 (by show w.heap.size + 2 < g1; omega) _) b4 (by simp only [size_set']; exact Nat.le_of_eq (unhide EG4).symm)
  have o2 := own_below (ownsRow_setCell_below o2 (by show w.heap.size + 2 < g2; omega) _) b4 (by simp only [size_set']; exact Nat.le_of_eq (unhide EG4).symm)
  have o3 := BUpto.below (BUpto.stored (g' := w.heap.size + 2) o3 (by omega)) b4 (by simp only [size_set']; exact Nat.le_of_eq (unhide EG4).symm)
  have lt4 : g4 < w4.heap.size := (o4.lt g4 rfl).2
  have x8 := k0.cell 8
  have u7 := k2.cell 7
  have v7 := k2.free 7
  simp only [List.getElem?_cons_zero, List.getElem?_cons_succ] at x8 u7
  have Q := hide (And.intro k1 (And.intro b4 (And.intro K4 trivial)))
  go_wp2_with fail
  clear Q x8 u7 v7
  obtain ⟨g5, eg5⟩ : ∃ g, g = w4.heap.size := ⟨_, rfl⟩
  have cg5 : g4 < g5 := by omega
  clear lt4
  have EG5 := hide eg5
  clear eg5
  refine (toB_to x.g.a x.g.n x.g.c h.g _ g5 (by simp only [size_set']; exact (unhide EG5).symm) ((unhide HO) _ (K4.setCell (p := ⟨w.heap.size + 2, _, none⟩) (by show w.heap.size ≤ w.heap.size + 2; omega) _)).g (unhide HM).g).mono ?_
  rintro e w5 ⟨rfl, o5, b5⟩
  have k0 := (k0.other (g' := w.heap.size + 2) (by omega)).below b5 (by omega)
  have k1 := (k1.other (g' := w.heap.size + 2) (by omega)).below b5 (by omega)
  have k2 := (k2.set 7 (.slice (some ⟨g4, 0, none⟩) h.r.length h.r.length)).below b5 (by omega)
  simp only [List.set_cons_zero, List.set_cons_succ] at k2
  have K5 := (K4.setCell (p := ⟨w.heap.size + 2, _, none⟩) (by show w.heap.size ≤ w.heap.size + 2; omega) _).trans (b5.mono (by omega))
  have o1 := own_below (ownsRow_setCell_below o1 (by show w.heap.size + 2 < g1; omega) _) b5 (by simp only [size_set']; exact Nat.le_of_eq (unhide EG5).symm)
  have o2 := own_below (ownsRow_setCell_below o2 (by show w.heap.size + 2 < g2; omega) _) b5 (by simp only [size_set']; exact Nat.le_of_eq (unhide EG5).symm)
  have o3 := BUpto.below (BUpto.stored (g' := w.heap.size + 2) o3 (by omega)) b5 (by simp only [size_set']; exact Nat.le_of_eq (unhide EG5).symm)
  have o4 := own_below (ownsRow_setCell_below o4 (by show w.heap.size + 2 < g4; omega) _) b5 (by simp only [size_set']; exact Nat.le_of_eq (unhide EG5).symm)
  have lt5 : g5 < w5.heap.size := (o5.lt g5 rfl).2
  have x9 := k0.cell 9
  have u8 := k2.cell 8
  have v8 := k2.free 8
  simp only [List.getElem?_cons_zero, List.getElem?_cons_succ] at x9 u8
  have Q := hide (And.intro k1 (And.intro b5 (And.intro K5 trivial)))
  go_wp2_with fail
  clear Q x9 u8 v8
  obtain ⟨g6, eg6⟩ : ∃ g, g = w5.heap.size := ⟨_, rfl⟩
  have cg6 : g5 < g6 := by omega
  clear lt5
  have EG6 := hide eg6
  clear eg6
  refine (toB_to x.e.a x.e.n x.e.c h.e _ g6 (by simp only [size_set']; exact (unhide EG6).symm) ((unhide HO) _ (K5.setCell (p := ⟨w.heap.size + 2, _, none⟩) (by show w.heap.size ≤ w.heap.size + 2; omega) _)).e (unhide HM).e).mono ?_
  rintro e w6 ⟨rfl, o6, b6⟩
  have k0 := (k0.other (g' := w.heap.size + 2) (by omega)).below b6 (by omega)
  have k1 := (k1.other (g' := w.heap.size + 2) (by omega)).below b6 (by omega)
  have k2 := (k2.set 8 (.slice (some ⟨g5, 0, none⟩) h.g.length h.g.length)).below b6 (by omega)
  simp only [List.set_cons_zero, List.set_cons_succ] at k2
  have K6 := (K5.setCell (p := ⟨w.heap.size + 2, _, none⟩) (by show w.heap.size ≤ w.heap.size + 2; omega) _).trans (b6.mono (by omega))
  have o1 := own_below (ownsRow_setCell_below o1 (by show w.heap.size + 2 < g1; omega) _) b6 (by simp only [size_set']; exact Nat.le_of_eq (unhide EG6).symm)
  have o2 := own_below (ownsRow_setCell_below o2 (by show w.heap.size + 2 < g2; omega) _) b6 (by simp only [size_set']; exact Nat.le_of_eq (unhide EG6).symm)
  have o3 := BUpto.below (BUpto.stored (g' := w.heap.size + 2) o3 (by omega)) b6 (by simp only [size_set']; exact Nat.le_of_eq (unhide EG6).symm)
  have o4 := own_below (ownsRow_setCell_below o4 (by show w.heap.size + 2 < g4; omega) _) b6 (by simp only [size_set']; exact Nat.le_of_eq (unhide EG6).symm)
  have o5 := own_below (ownsRow_setCell_below o5 (by show w.heap.size + 2 < g5; omega) _) b6 (by simp only [size_set']; exact Nat.le_of_eq (unhide EG6).symm)
  have lt6 : g6 < w6.heap.size := (o6.lt g6 rfl).2
  have x10 := k0.cell 10
  have u9 := k2.cell 9
  have v9 := k2.free 9
  simp only [List.getElem?_cons_zero, List.getElem?_cons_succ] at x10 u9
  have Q := hide (And.intro k1 (And.intro b6 (And.intro K6 trivial)))
  go_wp2_with fail
  clear Q x10 u9 v9
  obtain ⟨g7, eg7⟩ : ∃ g, g = w6.heap.size := ⟨_, rfl⟩
  have cg7 : g6 < g7 := by omega
  clear lt6
  have EG7 := hide eg7
  clear eg7
  refine (toBs_to x.k.a x.k.n x.k.c h.k _ g7 (by simp only [size_set']; exact (unhide EG7).symm) ((unhide HO) _ (K6.setCell (p := ⟨w.heap.size + 2, _, none⟩) (by show w.heap.size ≤ w.heap.size + 2; omega) _)).k (unhide HM).k (unhide HM).kz).mono ?_
  rintro e w7 ⟨rfl, o7, b7⟩
  have k0 := (k0.other (g' := w.heap.size + 2) (by omega)).below b7 (by omega)
  have k1 := (k1.other (g' := w.heap.size + 2) (by omega)).below b7 (by omega)
  have k2 := (k2.set 9 (.slice (some ⟨g6, 0, none⟩) h.e.length h.e.length)).below b7 (by omega)
  simp only [List.set_cons_zero, List.set_cons_succ] at k2
  have K7 := (K6.setCell (p := ⟨w.heap.size + 2, _, none⟩) (by show w.heap.size ≤ w.heap.size + 2; omega) _).trans (b7.mono (by omega))
  have o1 := own_below (ownsRow_setCell_below o1 (by show w.heap.size + 2 < g1; omega) _) b7 (by simp only [size_set']; exact Nat.le_of_eq (unhide EG7).symm)
  have o2 := own_below (ownsRow_setCell_below o2 (by show w.heap.size + 2 < g2; omega) _) b7 (by simp only [size_set']; exact Nat.le_of_eq (unhide EG7).symm)
  have o3 := BUpto.below (BUpto.stored (g' := w.heap.size + 2) o3 (by omega)) b7 (by simp only [size_set']; exact Nat.le_of_eq (unhide EG7).symm)
  have o4 := own_below (ownsRow_setCell_below o4 (by show w.heap.size + 2 < g4; omega) _) b7 (by simp only [size_set']; exact Nat.le_of_eq (unhide EG7).symm)
  have o5 := own_below (ownsRow_setCell_below o5 (by show w.heap.size + 2 < g5; omega) _) b7 (by simp only [size_set']; exact Nat.le_of_eq (unhide EG7).symm)
  have o6 := own_below (ownsRow_setCell_below o6 (by show w.heap.size + 2 < g6; omega) _) b7 (by simp only [size_set']; exact Nat.le_of_eq (unhide EG7).symm)
  have lt7 : g7 < w7.heap.size := BUpto.lt o7
  have u0 := k2.cell 0
  have u1 := k2.cell 1
  have u2 := k2.cell 2
  have u3 := k2.cell 3
  have u4 := k2.cell 4
  have u5 := k2.cell 5
  have u6 := k2.cell 6
  have u7 := k2.cell 7
  have u8 := k2.cell 8
  have u9 := k2.cell 9
  have u10 := k2.cell 10
  have v10 := k2.free 10
  have r0 := k1.cell 0
  have q0 := k1.free 0
  have r1 := k1.cell 1
  have q1 := k1.free 1
  have r2 := k1.cell 2
  have q2 := k1.free 2
  have r3 := k1.cell 3
  have q3 := k1.free 3
  have r4 := k1.cell 4
  have q4 := k1.free 4
  have r5 := k1.cell 5
  have q5 := k1.free 5
  have r6 := k1.cell 6
  have q6 := k1.free 6
  have r7 := k1.cell 7
  have q7 := k1.free 7
  have r8 := k1.cell 8
  have q8 := k1.free 8
  have r9 := k1.cell 9
  have q9 := k1.free 9
  have r10 := k1.cell 10
  have q10 := k1.free 10
  simp only [List.getElem?_cons_zero, List.getElem?_cons_succ] at u0 r0 u1 r1 u2 r2 u3 r3 u4 r4 u5 r5 u6 r6 u7 r7 u8 r8 u9 r9 u10 r10
  go_wp2_with fail
  refine bodyPost_ret (v := .agg #[.slice (some ⟨g1, 0, none⟩) h.p.length h.p.length, .int .i64 h.n1, .int .i64 h.n2, .int .i64 h.n3, .slice (some ⟨g2, 0, none⟩) h.t.length h.t.length, .int .i64 h.n5, .slice (some ⟨g3, 0, none⟩) h.s.length h.s.length, .slice (some ⟨g4, 0, none⟩) h.r.length h.r.length, .slice (some ⟨g5, 0, none⟩) h.g.length h.g.length, .slice (some ⟨g6, 0, none⟩) h.e.length h.e.length, .slice (some ⟨g7, 0, none⟩) h.k.length h.k.length]) (by simp [results, Tryz.results29, go_sem, r0, r1, r2, r3, r4, r5, r6, r7, r8, r9, r10]) rfl ⟨⟨⟨some ⟨g1, 0, none⟩, h.p.length, h.p.length⟩, ⟨some ⟨g2, 0, none⟩, h.t.length, h.t.length⟩, ⟨some ⟨g3, 0, none⟩, h.s.length, h.s.length⟩, ⟨some ⟨g4, 0, none⟩, h.r.length, h.r.length⟩, ⟨some ⟨g5, 0, none⟩, h.g.length, h.g.length⟩, ⟨some ⟨g6, 0, none⟩, h.e.length, h.e.length⟩, ⟨some ⟨g7, 0, none⟩, h.k.length, h.k.length⟩⟩, rfl, ⟨g1, g2, g3, g4, g5, g6, g7, rfl, ?_, ?_, ?_, ?_, ?_, ?_, ?_, ?_⟩, ?_⟩
  · refine ⟨?_, ?_, ?_, ?_, ?_, ?_, ?_⟩ <;> omega
  · exact (ownsRow_setCell_below (ownsRow_setCell_below (ownsRow_setCell_below (ownsRow_setCell_below (ownsRow_setCell_below (ownsRow_setCell_below (ownsRow_setCell_below (ownsRow_setCell_below (ownsRow_setCell_below (ownsRow_setCell_below (ownsRow_setCell_below (ownsRow_setCell_below o1 (by show w.heap.size + 2 < g1; omega) _) (by show w.heap.size + 1 < g1; omega) _) (by show w.heap.size + 1 < g1; omega) _) (by show w.heap.size + 1 < g1; omega) _) (by show w.heap.size + 1 < g1; omega) _) (by show w.heap.size + 1 < g1; omega) _) (by show w.heap.size + 1 < g1; omega) _) (by show w.heap.size + 1 < g1; omega) _) (by show w.heap.size + 1 < g1; omega) _) (by show w.heap.size + 1 < g1; omega) _) (by show w.heap.size + 1 < g1; omega) _) (by show w.heap.size + 1 < g1; omega) _)
  · exact (ownsRow_setCell_below (ownsRow_setCell_below (ownsRow_setCell_below (ownsRow_setCell_below (ownsRow_setCell_below (ownsRow_setCell_below (ownsRow_setCell_below (ownsRow_setCell_below (ownsRow_setCell_below (ownsRow_setCell_below (ownsRow_setCell_below (ownsRow_setCell_below o2 (by show w.heap.size + 2 < g2; omega) _) (by show w.heap.size + 1 < g2; omega) _) (by show w.heap.size + 1 < g2; omega) _) (by show w.heap.size + 1 < g2; omega) _) (by show w.heap.size + 1 < g2; omega) _) (by show w.heap.size + 1 < g2; omega) _) (by show w.heap.size + 1 < g2; omega) _) (by show w.heap.size + 1 < g2; omega) _) (by show w.heap.size + 1 < g2; omega) _) (by show w.heap.size + 1 < g2; omega) _) (by show w.heap.size + 1 < g2; omega) _) (by show w.heap.size + 1 < g2; omega) _)
  · rw [unhide EG4]
    exact (BUpto.stored (g' := w.heap.size + 1) (BUpto.stored (g' := w.heap.size + 1) (BUpto.stored (g' := w.heap.size + 1) (BUpto.stored (g' := w.heap.size + 1) (BUpto.stored (g' := w.heap.size + 1) (BUpto.stored (g' := w.heap.size + 1) (BUpto.stored (g' := w.heap.size + 1) (BUpto.stored (g' := w.heap.size + 1) (BUpto.stored (g' := w.heap.size + 1) (BUpto.stored (g' := w.heap.size + 1) (BUpto.stored (g' := w.heap.size + 1) (BUpto.stored (g' := w.heap.size + 2) o3 (by omega)) (by omega)) (by omega)) (by omega)) (by omega)) (by omega)) (by omega)) (by omega)) (by omega)) (by omega)) (by omega)) (by omega))
  · exact (ownsRow_setCell_below (ownsRow_setCell_below (ownsRow_setCell_below (ownsRow_setCell_below (ownsRow_setCell_below (ownsRow_setCell_below (ownsRow_setCell_below (ownsRow_setCell_below (ownsRow_setCell_below (ownsRow_setCell_below (ownsRow_setCell_below (ownsRow_setCell_below o4 (by show w.heap.size + 2 < g4; omega) _) (by show w.heap.size + 1 < g4; omega) _) (by show w.heap.size + 1 < g4; omega) _) (by show w.heap.size + 1 < g4; omega) _) (by show w.heap.size + 1 < g4; omega) _) (by show w.heap.size + 1 < g4; omega) _) (by show w.heap.size + 1 < g4; omega) _) (by show w.heap.size + 1 < g4; omega) _) (by show w.heap.size + 1 < g4; omega) _) (by show w.heap.size + 1 < g4; omega) _) (by show w.heap.size + 1 < g4; omega) _) (by show w.heap.size + 1 < g4; omega) _)
  · exact (ownsRow_setCell_below (ownsRow_setCell_below (ownsRow_setCell_below (ownsRow_setCell_below (ownsRow_setCell_below (ownsRow_setCell_below (ownsRow_setCell_below (ownsRow_setCell_below (ownsRow_setCell_below (ownsRow_setCell_below (ownsRow_setCell_below (ownsRow_setCell_below o5 (by show w.heap.size + 2 < g5; omega) _) (by show w.heap.size + 1 < g5; omega) _) (by show w.heap.size + 1 < g5; omega) _) (by show w.heap.size + 1 < g5; omega) _) (by show w.heap.size + 1 < g5; omega) _) (by show w.heap.size + 1 < g5; omega) _) (by show w.heap.size + 1 < g5; omega) _) (by show w.heap.size + 1 < g5; omega) _) (by show w.heap.size + 1 < g5; omega) _) (by show w.heap.size + 1 < g5; omega) _) (by show w.heap.size + 1 < g5; omega) _) (by show w.heap.size + 1 < g5; omega) _)
  · exact (ownsRow_setCell_below (ownsRow_setCell_below (ownsRow_setCell_below (ownsRow_setCell_below (ownsRow_setCell_below (ownsRow_setCell_below (ownsRow_setCell_below (ownsRow_setCell_below (ownsRow_setCell_below (ownsRow_setCell_below (ownsRow_setCell_below (ownsRow_setCell_below o6 (by show w.heap.size + 2 < g6; omega) _) (by show w.heap.size + 1 < g6; omega) _) (by show w.heap.size + 1 < g6; omega) _) (by show w.heap.size + 1 < g6; omega) _) (by show w.heap.size + 1 < g6; omega) _) (by show w.heap.size + 1 < g6; omega) _) (by show w.heap.size + 1 < g6; omega) _) (by show w.heap.size + 1 < g6; omega) _) (by show w.heap.size + 1 < g6; omega) _) (by show w.heap.size + 1 < g6; omega) _) (by show w.heap.size + 1 < g6; omega) _) (by show w.heap.size + 1 < g6; omega) _)
  · simp only [size_set']
    exact (BUpto.stored (g' := w.heap.size + 1) (BUpto.stored (g' := w.heap.size + 1) (BUpto.stored (g' := w.heap.size + 1) (BUpto.stored (g' := w.heap.size + 1) (BUpto.stored (g' := w.heap.size + 1) (BUpto.stored (g' := w.heap.size + 1) (BUpto.stored (g' := w.heap.size + 1) (BUpto.stored (g' := w.heap.size + 1) (BUpto.stored (g' := w.heap.size + 1) (BUpto.stored (g' := w.heap.size + 1) (BUpto.stored (g' := w.heap.size + 1) (BUpto.stored (g' := w.heap.size + 2) o7 (by omega)) (by omega)) (by omega)) (by omega)) (by omega)) (by omega)) (by omega)) (by omega)) (by omega)) (by omega)) (by omega)) (by omega))
  · exact ((((((((((((K7.setCell (p := ⟨w.heap.size + 2, _, none⟩) (by show w.heap.size ≤ w.heap.size + 2; omega) _).setCell (p := ⟨w.heap.size + 1, _, none⟩) (by show w.heap.size ≤ w.heap.size + 1; omega) _).setCell (p := ⟨w.heap.size + 1, _, none⟩) (by show w.heap.size ≤ w.heap.size + 1; omega) _).setCell (p := ⟨w.heap.size + 1, _, none⟩) (by show w.heap.size ≤ w.heap.size + 1; omega) _).setCell (p := ⟨w.heap.size + 1, _, none⟩) (by show w.heap.size ≤ w.heap.size + 1; omega) _).setCell (p := ⟨w.heap.size + 1, _, none⟩) (by show w.heap.size ≤ w.heap.size + 1; omega) _).setCell (p := ⟨w.heap.size + 1, _, none⟩) (by show w.heap.size ≤ w.heap.size + 1; omega) _).setCell (p := ⟨w.heap.size + 1, _, none⟩) (by show w.heap.size ≤ w.heap.size + 1; omega) _).setCell (p := ⟨w.heap.size + 1, _, none⟩) (by show w.heap.size ≤ w.heap.size + 1; omega) _).setCell (p := ⟨w.heap.size + 1, _, none⟩) (by show w.heap.size ≤ w.heap.size + 1; omega) _).setCell (p := ⟨w.heap.size + 1, _, none⟩) (by show w.heap.size ≤ w.heap.size + 1; omega) _).setCell (p := ⟨w.heap.size + 1, _, none⟩) (by show w.heap.size ≤ w.heap.size + 1; omega) _)

end Go.Proofs.YtifhaihddimdfaaGreatDoor

/- What is proved here: the contract of the laws' helper function that compares slices of slices of bytes (eqByteSS). -/
namespace Go.Proofs.YtifhaihddimdfaaGreatDoor
open Go.RowKit
set_option linter.unusedVariables false
set_option maxRecDepth 100000

set_option maxHeartbeats 2000000 in
theorem eqByteSS_any (a b : Option Addr) (la ca lb cb : Nat) (xs ys : List (List Int)) (w : World) (ha : BsRow w a la xs) (hb : BsRow w b lb ys) (hl : la ≤ 1048576) (hl2 : lb ≤ 1048576) (hx : ∀ z ∈ xs, z.length ≤ 1048576) (hy : ∀ z ∈ ys, z.length ≤ 1048576) :
    Calls Tryz.prog 31 #[.slice a la ca, .slice b lb cb] w fun e w' => e = .returned (.bool (sameBs xs ys)) ∧ ∃ n, w' = w.drewN n := by
  have hxl := ha.1
  have hyl := hb.1
  by_cases hne : la = lb
  · subst hne
    have hlen : (((la : Nat) : Int) != ((la : Nat) : Int)) = false := by simp
    rcases Nat.eq_zero_or_pos la with h0 | hp
    · subst h0
      have hx : xs = [] := List.length_eq_zero_iff.1 hxl
      have hy : ys = [] := List.length_eq_zero_iff.1 hyl
      subst hx hy
      clear ha hb
      go_enter Tryz.func31, Tryz.ntmps31
      go_wp2_with fail
      refine wp_loop_rounds 1 ?_
      rw [rounds_succ]
      go_wp2_with fail
      go_ret
      exact ⟨rfl, 0, rfl⟩
    · obtain ⟨ba, oa, rfl, hba, hca⟩ := ha.at hp
      obtain ⟨bb, ob, rfl, hbb, hcb⟩ := hb.at hp
      have HCA := hide hca
      have HCB := hide hcb
      have HX := hide hx
      have HY := hide hy
      have HXL := hide hxl
      have HYL := hide hyl
      clear ha hb hca hcb hx hy hxl hyl
      go_enter Tryz.func31, Tryz.ntmps31
      go_wp2_with fail
      go_loopw [5] (fun i wr => ∃ k n : Nat, k ≤ la ∧ i = .int .i64 k ∧ sameBs xs ys = sameBs (xs.drop k) (ys.drop k) ∧ wr = w.drewN n) (fun i _ => la - (intOf i).toNat)
      case atStart => exact ⟨0, 0, Nat.zero_le _, rfl, by simp, rfl⟩
      case round =>
        obtain ⟨k, n, hk, rfl, hpre, rfl⟩ := hrel
        by_cases hlt : k < la
        · obtain ⟨x, hix⟩ : ∃ z, xs[k]? = some z := ⟨_, List.getElem?_eq_getElem (by rw [unhide HXL]; exact hlt)⟩
          obtain ⟨y, hiy⟩ : ∃ z, ys[k]? = some z := ⟨_, List.getElem?_eq_getElem (by rw [unhide HYL]; exact hlt)⟩
          have hst := sameBs_step xs ys k x y hix hiy
          rw [← hpre] at hst
          obtain ⟨s1, n1, d1, p0, r1⟩ := (unhide HCA) k x hix
          obtain ⟨s2, n2, d2, q0, r2⟩ := (unhide HCB) k y hiy
          have m1 : n1 ≤ 1048576 := by rw [← r1.1]; exact (unhide HX) x (List.mem_of_getElem? hix)
          have m2 : n2 ≤ 1048576 := by rw [← r2.1]; exact (unhide HY) y (List.mem_of_getElem? hiy)
          have HEQ := hide (fun (m : Nat) => eqByteS_any s1 s2 n1 d1 n2 d2 x y (w.drewN m) (r1.below (B := w.heap.size) (below_drewN (Below.refl _ _) m) (Nat.le_refl _)) (r2.below (B := w.heap.size) (below_drewN (Below.refl _ _) m) (Nat.le_refl _)) m1 m2)
          have HP := hide hpre
          have HS := hide hst
          have i1 : (0 : Int) ≤ (k : Int) := by omega
          have i2 : (k : Int) < (la : Int) := by omega
          clear r1 r2 hst hpre hix hiy m1 m2
          generalize sameB x y = sb at HEQ HS
          go_wp2_with fail
          go_region_with (first | (go_at_call 74; refine ((unhide HEQ) (n + 1)).mono ?_; rintro e w1 ⟨rfl, m, rfl⟩))
          all_goals
            cases sb
            · go_wp2_with fail
              go_ret
              exact ⟨ret_bool (by rw [unhide HS]; rfl), _, by first | rfl | exact World.drewN_drewN ..⟩
            · go_wp2_with fail
              go_roundw
              case rel => exact ⟨k + 1, _, by omega, by go_num, by rw [unhide HS]; simp, by first | rfl | exact World.drewN_drewN ..⟩
              case measure => simp [intOf]; omega
        · obtain rfl : k = la := by omega
          have e := sameBs_end xs ys k (unhide HXL) (unhide HYL)
          rw [e] at hpre
          have HE := hide hpre
          clear e hpre
          go_wp2_with fail
          go_ret
          exact ⟨ret_bool (unhide HE).symm, n, rfl⟩
  · have hlen : (((la : Nat) : Int) != ((lb : Nat) : Int)) = true := by simp; omega
    have HE := hide (sameBs_len xs ys (by rw [hxl, hyl]; exact hne))
    clear ha hb hxl hyl
    go_enter Tryz.func31, Tryz.ntmps31
    go_wp2_with fail
    go_ret
    exact ⟨ret_bool (unhide HE).symm, 0, rfl⟩

end Go.Proofs.YtifhaihddimdfaaGreatDoor

/- What is proved here: the contract of the laws' helper function eqHeader, for two that are the same: it answers true. -/
namespace Go.Proofs.YtifhaihddimdfaaGreatDoor
open Go.RowKit
set_option linter.unusedVariables false
set_option maxRecDepth 100000

theorem ne64 (n : Int) : (n != n) = false := by simp

theorem eqB_yes (a b : Option Addr) (la ca lb cb : Nat) (xs : List Int) (w : World) (ha : BRow w a la xs) (hb : BRow w b lb xs) (hl : xs.length ≤ 1048576) :
    Calls Tryz.prog 74 #[.slice a la ca, .slice b lb cb] w fun e w' => e = .returned (.bool true) ∧ Below w.heap.size w w' :=
  (eqByteS_any a b la ca lb cb xs xs w ha hb (by rw [← ha.1]; exact hl) (by rw [← hb.1]; exact hl)).mono fun e w' ⟨he, n, hw⟩ => ⟨by rw [he, sameB_self], by rw [hw]; exact below_drewN (Below.refl _ _) n⟩

theorem eqBs_yes (a b : Option Addr) (la ca lb cb : Nat) (xs : List (List Int)) (w : World) (ha : BsRow w a la xs) (hb : BsRow w b lb xs) (hl : xs.length ≤ 1048576) (hz : ∀ z ∈ xs, z.length ≤ 1048576) :
    Calls Tryz.prog 31 #[.slice a la ca, .slice b lb cb] w fun e w' => e = .returned (.bool true) ∧ Below w.heap.size w w' :=
  (eqByteSS_any a b la ca lb cb xs xs w ha hb (by rw [← ha.1]; exact hl) (by rw [← hb.1]; exact hl) hz hz).mono fun e w' ⟨he, n, hw⟩ => ⟨by rw [he, sameBs_self], by rw [hw]; exact below_drewN (Below.refl _ _) n⟩

theorem two_blk (w : World) (vs us : Array Value) (T S : TypeId) : SBlk ((w.alloc (.cells vs T)).alloc (.cells us S)) w.heap.size vs.toList T ∧ SBlk ((w.alloc (.cells vs T)).alloc (.cells us S)) (w.heap.size + 1) us.toList S ∧ Below w.heap.size w ((w.alloc (.cells vs T)).alloc (.cells us S)) ∧ ((w.alloc (.cells vs T)).alloc (.cells us S)).heap.size = w.heap.size + 2 := by
  refine ⟨?_, ?_, ((Below.refl _ _).alloc (Nat.le_refl _) _).alloc (by simp) _, by simp⟩
  · exact (SBlk.new w vs T).next _
  · have h := SBlk.new (w.alloc (.cells vs T)) us S
    rwa [show (w.alloc (.cells vs T)).heap.size = w.heap.size + 1 by simp] at h

set_option maxHeartbeats 8000000 in
theorem eqHeader_same (x y : HS) (h : Hd) (w : World) (o : HOk w x h) (q : HOk w y h) (m : HSm h) :
    Calls Tryz.prog 32 #[.agg (hvals x h), .agg (hvals y h)] w fun e w' => e = .returned (.bool true) ∧ Below w.heap.size w w' := by
  have HO := hide (fun (W : World) (hb : Below w.heap.size w W) => o.below hb (Nat.le_refl _))
  have HQ := hide (fun (W : World) (hb : Below w.heap.size w W) => q.below hb (Nat.le_refl _))
  have HM := hide m
  obtain ⟨k0, k1, k2, k3⟩ := two_blk w (hvals x h) (hvals y h) 26 26
  clear o q m
  have hn1 := ne64 h.n1
  have hn2 := ne64 h.n2
  have hn3 := ne64 h.n3
  have hn5 := ne64 h.n5
  unfold hvals at k0 k1 k2 k3 ⊢
  obtain ⟨W0, e0⟩ : ∃ W0, (w.alloc (.cells #[.slice x.p.a x.p.n x.p.c, .int .i64 h.n1, .int .i64 h.n2, .int .i64 h.n3, .slice x.t.a x.t.n x.t.c, .int .i64 h.n5, .slice x.s.a x.s.n x.s.c, .slice x.r.a x.r.n x.r.c, .slice x.g.a x.g.n x.g.c, .slice x.e.a x.e.n x.e.c, .slice x.k.a x.k.n x.k.c] 26)).alloc (.cells #[.slice y.p.a y.p.n y.p.c, .int .i64 h.n1, .int .i64 h.n2, .int .i64 h.n3, .slice y.t.a y.t.n y.t.c, .int .i64 h.n5, .slice y.s.a y.s.n y.s.c, .slice y.r.a y.r.n y.r.c, .slice y.g.a y.g.n y.g.c, .slice y.e.a y.e.n y.e.c, .slice y.k.a y.k.n y.k.c] 26) = W0 := ⟨_, rfl⟩
  rw [e0] at k0 k1 k2 k3
  have hg : w.heap.size + 1 < W0.heap.size := by omega
  go_enter Tryz.func32, Tryz.ntmps32
  have x0 := k0.cell 0
  have y0 := k1.cell 0
  simp only [List.getElem?_cons_zero] at x0 y0
  go_wp2_with (rw [e0])
  clear e0
  refine (eqB_yes _ _ _ _ _ _ h.p _ ((unhide HO) _ k2).p ((unhide HQ) _ k2).p (unhide HM).p).mono ?_
  rintro e w1 ⟨rfl, b1⟩
  have k0 := k0.below b1 k0.lt
  have k1 := k1.below b1 k1.lt
  have k2 := k2.trans (b1.mono k2.size)
  clear b1
  have x1 := k0.cell 1
  have y1 := k1.cell 1
  have x2 := k0.cell 2
  have y2 := k1.cell 2
  have x3 := k0.cell 3
  have y3 := k1.cell 3
  have x4 := k0.cell 4
  have y4 := k1.cell 4
  simp only [List.getElem?_cons_zero, List.getElem?_cons_succ] at x1 y1 x2 y2 x3 y3 x4 y4
  go_wp2_with fail
  refine (eqB_yes _ _ _ _ _ _ h.t _ ((unhide HO) _ k2).t ((unhide HQ) _ k2).t (unhide HM).t).mono ?_
  rintro e w2 ⟨rfl, b2⟩
  have k0 := k0.below b2 k0.lt
  have k1 := k1.below b2 k1.lt
  have k2 := k2.trans (b2.mono k2.size)
  clear b2
  have x5 := k0.cell 5
  have y5 := k1.cell 5
  have x6 := k0.cell 6
  have y6 := k1.cell 6
  simp only [List.getElem?_cons_zero, List.getElem?_cons_succ] at x5 y5 x6 y6
  go_wp2_with fail
  refine (eqBs_yes _ _ _ _ _ _ h.s _ ((unhide HO) _ k2).s ((unhide HQ) _ k2).s (unhide HM).s (unhide HM).sz).mono ?_
  rintro e w3 ⟨rfl, b3⟩
  have k0 := k0.below b3 k0.lt
  have k1 := k1.below b3 k1.lt
  have k2 := k2.trans (b3.mono k2.size)
  clear b3
  have x7 := k0.cell 7
  have y7 := k1.cell 7
  simp only [List.getElem?_cons_zero, List.getElem?_cons_succ] at x7 y7
  go_wp2_with fail
  refine (eqB_yes _ _ _ _ _ _ h.r _ ((unhide HO) _ k2).r ((unhide HQ) _ k2).r (unhide HM).r).mono ?_
  rintro e w4 ⟨rfl, b4⟩
  have k0 := k0.below b4 k0.lt
  have k1 := k1.below b4 k1.lt
  have k2 := k2.trans (b4.mono k2.size)
  clear b4
  have x8 := k0.cell 8
  have y8 := k1.cell 8
  simp only [List.getElem?_cons_zero, List.getElem?_cons_succ] at x8 y8
  go_wp2_with fail
  refine (eqB_yes _ _ _ _ _ _ h.g _ ((unhide HO) _ k2).g ((unhide HQ) _ k2).g (unhide HM).g).mono ?_
  rintro e w5 ⟨rfl, b5⟩
  have k0 := k0.below b5 k0.lt
  have k1 := k1.below b5 k1.lt
  have k2 := k2.trans (b5.mono k2.size)
  clear b5
  have x9 := k0.cell 9
  have y9 := k1.cell 9
  simp only [List.getElem?_cons_zero, List.getElem?_cons_succ] at x9 y9
  go_wp2_with fail
  refine (eqB_yes _ _ _ _ _ _ h.e _ ((unhide HO) _ k2).e ((unhide HQ) _ k2).e (unhide HM).e).mono ?_
  rintro e w6 ⟨rfl, b6⟩
  have k0 := k0.below b6 k0.lt
  have k1 := k1.below b6 k1.lt
  have k2 := k2.trans (b6.mono k2.size)
  clear b6
  have x10 := k0.cell 10
  have y10 := k1.cell 10
  simp only [List.getElem?_cons_zero, List.getElem?_cons_succ] at x10 y10
  go_wp2_with fail
  refine (eqBs_yes _ _ _ _ _ _ h.k _ ((unhide HO) _ k2).k ((unhide HQ) _ k2).k (unhide HM).k (unhide HM).kz).mono ?_
  rintro e w7 ⟨rfl, b7⟩
  have k0 := k0.below b7 k0.lt
  have k1 := k1.below b7 k1.lt
  have k2 := k2.trans (b7.mono k2.size)
  clear b7
  go_wp2_with fail
  go_ret
  exact ⟨rfl, k2⟩

end Go.Proofs.YtifhaihddimdfaaGreatDoor

/- What is proved here: the contracts of the laws' helper functions that write marks into an answer's bytes and look for them later (markByteS, heldByteS and those over BytesResult), for slices that the call itself made. -/
namespace Go.Proofs.YtifhaihddimdfaaGreatDoor
open Go.RowKit
set_option linter.unusedVariables false
set_option maxRecDepth 100000

end Go.Proofs.YtifhaihddimdfaaGreatDoor

/- What is proved here: a row that the call owns stays when another block is written; it holds for every program. -/
namespace Go.Proofs.YtifhaihddimdfaaGreatDoor
open Go.RowKit
set_option linter.unusedVariables false
set_option maxRecDepth 100000

theorem own_grown {w w' : World} {B : Nat} {e : TypeId} {size n : Nat} {v : Value} {xs : List Value} {row : Option Nat} (h : w.ownsRow B e size v n xs) (hg : w.grownBy w' row) (hne : ∀ g, v.ownBlock = some g → some g ≠ row) : w'.ownsRow B e size v n xs := by
  refine ⟨h.1, ?_⟩
  rcases h.2 with h' | ⟨g, cap, cur, h1, h2, h3, h4⟩
  · exact .inl h'
  · refine .inr ⟨g, cap, cur, h1, h2, ?_, h4⟩
    rw [hg.block g (lt_of_block h3) (hne g (by rw [h1]; rfl))]
    exact h3

end Go.Proofs.YtifhaihddimdfaaGreatDoor

/- What is proved here: the contracts of the laws' helper functions that mark a header's bytes (markByteSS, markHeader): they write into its own blocks alone. -/
namespace Go.Proofs.YtifhaihddimdfaaGreatDoor
open Go.RowKit
set_option linter.unusedVariables false
set_option maxRecDepth 100000

/-- Nothing is written below B, nor from C on. -/
def OnlyH (B C : Nat) (w w' : World) : Prop := Below B w w' ∧ ∀ k, C ≤ k → k < w.heap.size → w'.heap[k]? = w.heap[k]?

theorem OnlyH.refl (B C : Nat) (w : World) : OnlyH B C w w := ⟨Below.refl _ _, fun _ _ _ => rfl⟩

theorem OnlyH.trans {B C : Nat} {a b c : World} (h : OnlyH B C a b) (k : OnlyH B C b c) : OnlyH B C a c :=
  ⟨h.1.trans k.1, fun q hq hl => (k.2 q hq (Nat.lt_of_lt_of_le hl h.1.size)).trans (h.2 q hq hl)⟩

theorem OnlyH.mono {B B' C C' : Nat} {a b : World} (h : OnlyH B C a b) (hB : B' ≤ B) (hC : C ≤ C') : OnlyH B' C' a b := ⟨h.1.mono hB, fun q hq hl => h.2 q (by omega) hl⟩

theorem OnlyH.grown {a b : World} {g : Nat} (B : Nat) (hg : a.grownBy b (some g)) (h : Below B a b) : OnlyH B (g + 1) a b := ⟨h, fun q hq hl => hg.block q hl (fun e => by have := Option.some.inj e; omega)⟩

theorem OnlyH.cell {B C : Nat} {w w' : World} (h : OnlyH B C w w') {p : Addr} (hp : C ≤ p.block) (hl : p.block < w.heap.size) : w'.cell? p = w.cell? p := World.cell?_of_block (w := w) (h.2 p.block hp hl)

theorem OnlyH.own {B C D : Nat} {w w' : World} (h : OnlyH B C w w') {e : TypeId} {size n : Nat} {v : Value} {xs : List Value} (ho : w.ownsRow D e size v n xs) (hD : C ≤ D) : w'.ownsRow D e size v n xs := by
  refine ⟨ho.1, ?_⟩
  rcases ho.2 with h' | ⟨g, cap, cur, h1, h2, h3, h4⟩
  · exact .inl h'
  · exact .inr ⟨g, cap, cur, h1, h2, (h.2 g (by omega) (lt_of_block h3)).trans h3, h4⟩

theorem OnlyH.sblk {B C : Nat} {w w' : World} (h : OnlyH B C w w') {g : Nat} {vs : List Value} {T : TypeId} (hs : SBlk w g vs T) (hg : C ≤ g) : SBlk w' g vs T := (h.2 g hg hs.lt).trans hs

/-- Slices of slices of bytes: those from k on are as they were. -/
def MBs (w : World) (g : Nat) (zss : List (List Int)) (k : Nat) (T : TypeId) (C : Nat) : Prop :=
  ∃ (vs : List Value) (f : Nat → Nat), SBlk w g vs T ∧ vs.length = zss.length ∧ (∀ i, i < zss.length → g < f i ∧ f i < C) ∧ (∀ i j, i < j → j < zss.length → f i < f j) ∧
    ∀ i z, k ≤ i → zss[i]? = some z → vs[i]? = some (.slice (some ⟨f i, 0, none⟩) z.length z.length) ∧ w.ownsRow (g + 1) 5 1 (.slice (some ⟨f i, 0, none⟩) z.length z.length) z.length (z.map (Value.int .u8))

theorem OBss.mbs {w : World} {g : Nat} {zss : List (List Int)} {T : TypeId} {C : Nat} (h : OBss w g zss T C) : MBs w g zss 0 T C := by
  obtain ⟨vs, f, h1, h2, h3, h4, h5⟩ := h
  exact ⟨vs, f, h1, h2, h3, h4, fun i z _ hz => h5 i z (List.getElem?_eq_some_iff.1 hz).1 hz⟩

theorem bsum_snoc (zss : List (List Int)) (k : Nat) (z : List Int) (h : zss[k]? = some z) : bsum (zss.take (k + 1)) = bsum (zss.take k) + z.length := by
  obtain ⟨hk, e⟩ := List.getElem?_eq_some_iff.1 h
  unfold bsum
  rw [List.take_succ_eq_append_getElem hk, e]
  simp

theorem bsum_le (zss : List (List Int)) (k : Nat) : bsum (zss.take k) ≤ bsum zss := by
  have : zss = zss.take k ++ zss.drop k := (List.take_append_drop k zss).symm
  have e : bsum zss = bsum (zss.take k) + bsum (zss.drop k) := by
    unfold bsum
    rw [← List.sum_append, ← List.map_append, List.take_append_drop]
  omega

end Go.Proofs.YtifhaihddimdfaaGreatDoor

/- What is proved here: the contract of the laws' helper function markHeader: it writes into the header's own blocks alone. -/
namespace Go.Proofs.YtifhaihddimdfaaGreatDoor
open Go.RowKit
set_option linter.unusedVariables false
set_option maxRecDepth 100000

theorem BUpto.only {B C D : Nat} {w w' : World} (h : OnlyH B C w w') {g : Nat} {zss : List (List Int)} {k len : Nat} {T : TypeId} (hs : BUpto w g zss k len T D) (hg : C ≤ g) : BUpto w' g zss k len T D := by
  obtain ⟨vs, f, h1, h2, h3, h4, h5⟩ := hs
  refine ⟨vs, f, h.sblk h1 hg, h2, h3, h4, fun i z hi hz => ?_⟩
  obtain ⟨q1, q2⟩ := h5 i z hi hz
  exact ⟨q1, h.own q2 (by omega)⟩

/-- As HOwn, all below C. -/
def HOwnC (w : World) (B C : Nat) (x : HS) (h : Hd) : Prop :=
  ∃ g1 g2 g3 g4 g5 g6 g7 : Nat, x = ⟨⟨some ⟨g1, 0, none⟩, h.p.length, h.p.length⟩, ⟨some ⟨g2, 0, none⟩, h.t.length, h.t.length⟩, ⟨some ⟨g3, 0, none⟩, h.s.length, h.s.length⟩, ⟨some ⟨g4, 0, none⟩, h.r.length, h.r.length⟩, ⟨some ⟨g5, 0, none⟩, h.g.length, h.g.length⟩, ⟨some ⟨g6, 0, none⟩, h.e.length, h.e.length⟩, ⟨some ⟨g7, 0, none⟩, h.k.length, h.k.length⟩⟩ ∧
    (B ≤ g1 ∧ g1 < g2 ∧ g2 < g3 ∧ g3 < g4 ∧ g4 < g5 ∧ g5 < g6 ∧ g6 < g7 ∧ g7 < C) ∧
    w.ownsRow g1 5 1 (.slice (some ⟨g1, 0, none⟩) h.p.length h.p.length) h.p.length (h.p.map (Value.int .u8)) ∧
    w.ownsRow g2 5 1 (.slice (some ⟨g2, 0, none⟩) h.t.length h.t.length) h.t.length (h.t.map (Value.int .u8)) ∧
    OBss w g3 h.s 22 g4 ∧
    w.ownsRow g4 5 1 (.slice (some ⟨g4, 0, none⟩) h.r.length h.r.length) h.r.length (h.r.map (Value.int .u8)) ∧
    w.ownsRow g5 5 1 (.slice (some ⟨g5, 0, none⟩) h.g.length h.g.length) h.g.length (h.g.map (Value.int .u8)) ∧
    w.ownsRow g6 5 1 (.slice (some ⟨g6, 0, none⟩) h.e.length h.e.length) h.e.length (h.e.map (Value.int .u8)) ∧
    OBss w g7 h.k 22 C

theorem HOwn.c {w : World} {B : Nat} {x : HS} {h : Hd} (o : HOwn w B x h) : HOwnC w B w.heap.size x h := by
  obtain ⟨g1, g2, g3, g4, g5, g6, g7, e, ⟨a1, a2, a3, a4, a5, a6, a7⟩, o1, o2, o3, o4, o5, o6, o7⟩ := o
  exact ⟨g1, g2, g3, g4, g5, g6, g7, e, ⟨a1, a2, a3, a4, a5, a6, a7, BUpto.lt o7⟩, o1, o2, o3, o4, o5, o6, o7⟩

theorem HOwnC.below {w w' : World} {B C D : Nat} {x : HS} {h : Hd} (o : HOwnC w B C x h) (hb : Below D w w') (hD : w.heap.size ≤ D) : HOwnC w' B C x h := by
  obtain ⟨g1, g2, g3, g4, g5, g6, g7, e, a, o1, o2, o3, o4, o5, o6, o7⟩ := o
  exact ⟨g1, g2, g3, g4, g5, g6, g7, e, a, own_below o1 hb hD, own_below o2 hb hD, BUpto.below o3 hb hD, own_below o4 hb hD, own_below o5 hb hD, own_below o6 hb hD, BUpto.below o7 hb hD⟩

end Go.Proofs.YtifhaihddimdfaaGreatDoor

/- What is proved here: plain facts on slices of items in a world, and how an argument that is such a slice reads; they hold for every program. -/
namespace Go.Proofs.YtifhaihddimdfaaGreatDoor
open Go.RowKit
set_option linter.unusedVariables false
set_option maxRecDepth 100000

/-- An item: whether it is a list, its parent, its bytes. -/
structure It where
  l : Bool
  p : Int
  z : List Int

/-- The item 'it' lies at three cells. -/
def ItAt (w : World) (b o : Nat) (it : It) : Prop :=
  ∃ sa sl sc, w.cell? ⟨b, o, none⟩ = some (.bool it.l) ∧ w.cell? ⟨b, o + 1, none⟩ = some (.int .i64 it.p) ∧ w.cell? ⟨b, o + 2, none⟩ = some (.slice sa sl sc) ∧ BRow w sa sl it.z

/-- What the numbers of an item keep to. -/
def ItOk (it : It) : Prop := -9223372036854775808 ≤ it.p ∧ it.p ≤ 9223372036854775807 ∧ it.z.length ≤ maxLen

/-- The slice 'a', of 'len' items, reads as 'its'. -/
def ItRow (w : World) (a : Option Addr) (len : Nat) (its : List It) : Prop :=
  its.length = len ∧ (∀ it ∈ its, ItOk it) ∧ (0 < len → ∃ b off, a = some ⟨b, off, none⟩ ∧ ∀ i it, its[i]? = some it → ItAt w b (off + i * 3) it)

theorem ItAt.lt {w : World} {b o : Nat} {it : It} (h : ItAt w b o it) : b < w.heap.size := by
  obtain ⟨_, _, _, h, _⟩ := h
  exact lt_of_cell h

theorem ItAt.below {w w' : World} {b o : Nat} {it : It} (h : ItAt w b o it) {B : Nat} (hb : Below B w w') (hB : w.heap.size ≤ B) : ItAt w' b o it := by
  have hl := Nat.lt_of_lt_of_le h.lt hB
  obtain ⟨sa, sl, sc, h1, h2, h3, h4⟩ := h
  exact ⟨sa, sl, sc, (hb.cell hl).trans h1, (hb.cell hl).trans h2, (hb.cell hl).trans h3, h4.below hb hB⟩

theorem ItRow.below {w w' : World} {a : Option Addr} {len : Nat} {its : List It} (h : ItRow w a len its) {B : Nat} (hb : Below B w w') (hB : w.heap.size ≤ B) : ItRow w' a len its := by
  refine ⟨h.1, h.2.1, fun hp => ?_⟩
  obtain ⟨b, off, e, k⟩ := h.2.2 hp
  exact ⟨b, off, e, fun i it hi => (k i it hi).below hb hB⟩

theorem ItRow.at {w : World} {a : Option Addr} {len : Nat} {its : List It} (h : ItRow w a len its) (hp : 0 < len) :
    ∃ b off, a = some ⟨b, off, none⟩ ∧ b < w.heap.size ∧ ∀ i it, its[i]? = some it → ItAt w b (off + i * 3) it := by
  obtain ⟨b, off, e, k⟩ := h.2.2 hp
  refine ⟨b, off, e, ?_, k⟩
  have hl : 0 < its.length := by rw [h.1]; exact hp
  exact (k 0 its[0] (List.getElem?_eq_getElem hl)).lt

theorem ItRow.bytes {w : World} {a : Option Addr} {len : Nat} {its : List It} (h : ItRow w a len its) : ∀ it ∈ its, ∀ x ∈ it.z, 0 ≤ x ∧ x ≤ 255 := by
  intro it hit
  obtain ⟨i, hi⟩ := List.getElem?_of_mem hit
  have hl := (List.getElem?_eq_some_iff.1 hi).1
  obtain ⟨b, off, _, k⟩ := h.2.2 (by rw [← h.1]; omega)
  obtain ⟨_, _, _, _, _, _, hb⟩ := k i it hi
  exact hb.2.1

theorem add_add (x : Addr) (hx : x.spot = none) (i j : Nat) : (x.add i).add j = ⟨x.block, x.off + i + j, none⟩ := by
  obtain ⟨b, o, s⟩ := x
  simp only at hx
  subst hx
  rw [add_none, add_none]

/-- How an argument that is a slice of items reads. -/
theorem open_items {H : Type} {enc : TypeId × Value → H} {P : Program} {w : World} {sp : Nat → Bool} {held : Bool} {t e tb ti ts tu : TypeId} {fs : Array Field} {f0 f1 f2 : Field} {v : Value} {d : DataW H} {ps : List MemPlace}
    (ht : P.underlying t = some (.slice e)) (he : P.underlying e = some (.struct fs)) (hc : P.cellsOf e = 3)
    (h0 : fs[0]? = some f0) (h1 : fs[1]? = some f1) (h2 : fs[2]? = some f2)
    (o0 : f0.offset = 0) (o1 : f1.offset = 1) (o2 : f2.offset = 2) (t0 : f0.type = tb) (t1 : f1.type = ti) (t2 : f2.type = ts)
    (c0 : P.cellsOf tb = 1) (c1 : P.cellsOf ti = 1) (c2 : P.cellsOf ts = 1) (cu : P.cellsOf tu = 1)
    (ub : P.underlying tb = some .bool) (ui : P.underlying ti = some (.int .i64)) (us : P.underlying ts = some (.slice tu)) (uu : P.underlying tu = some (.int .u8))
    (hv : ∃ a len cap, v = .slice a len cap) (h : DataW.Trod enc P w 0 sp held t v d ps) : ∃ a len cap its, v = .slice a len cap ∧ len ≤ maxLen ∧ ItRow w a len its := by
  obtain ⟨a, len, cap, rfl⟩ := hv
  obtain ⟨fuel, h⟩ := h
  rcases DataW.trod_slice ht h with ⟨hn, _⟩ | ⟨x, len', cap', elems, rest, n, _, hcs, _, _, hl, hm, hlen, hel, _⟩
  · have hn' : [Value.slice a len cap] = [Value.slice none 0 0] := hn
    simp only [List.cons.injEq, Value.slice.injEq, and_true] at hn'
    obtain ⟨rfl, rfl, rfl⟩ := hn'
    exact ⟨none, 0, 0, [], rfl, Nat.zero_le _, rfl, fun it hi => by simp at hi, fun hp => absurd hp (Nat.lt_irrefl _)⟩
  · have hcs' : [Value.slice a len cap] = [Value.slice (some x) len' cap'] := hcs
    simp only [List.cons.injEq, Value.slice.injEq, and_true] at hcs'
    obtain ⟨rfl, rfl, rfl⟩ := hcs'
    have each : ∀ i, i < len → ∃ it : It, ItOk it ∧ x.spot = none ∧ ItAt w x.block (x.off + i * 3) it := by
      intro i hi
      have hE := hel i hi
      have hi' : i < elems.length := by omega
      rw [List.getElem?_eq_getElem hi', Option.bind_eq_some_iff, hc] at hE
      obtain ⟨cs, hcells, htr⟩ := hE
      obtain ⟨_, hcl, hcell⟩ := World.cells?_some hcells
      obtain ⟨xs, m, _, _, _, hxl, hf⟩ := DataW.trod_struct he htr
      have hs3 : 3 ≤ xs.length := by
        rw [hxl]
        have := (Array.getElem?_eq_some_iff.1 h2).1
        omega
      have g0 := hf 0 f0 h0
      have g1 := hf 1 f1 h1
      have g2 := hf 2 f2 h2
      rw [List.getElem?_eq_getElem (by omega)] at g0 g1 g2
      rw [t0, o0, c0] at g0
      rw [t1, o1, c1] at g1
      rw [t2, o2, c2] at g2
      obtain ⟨bl, e0, _⟩ := DataW.trod_bool ub g0
      obtain ⟨pn, e1, _, hwf⟩ := DataW.trod_int ui g1
      match cs, hcl with
      | [x0, x1, x2], _ =>
        simp only [List.drop_zero, List.drop_succ_cons, List.take_succ_cons, List.take_zero, List.cons.injEq, and_true] at e0 e1 g2
        subst e0 e1
        have k0 : w.cell? ((x.add (i * 3)).add 0) = some (.bool bl) := hcell 0 (by omega)
        have k1 : w.cell? ((x.add (i * 3)).add 1) = some (.int .i64 pn) := hcell 1 (by omega)
        have k2 : w.cell? ((x.add (i * 3)).add 2) = some x2 := hcell 2 (by omega)
        have hsp : x.spot = none := by
          have hk := World.cell?_spot k0
          by_cases hi0 : i * 3 = 0
          · simpa [Addr.add, hi0] using hk
          · cases i with
            | zero => simp at hi0
            | succ j =>
              have hE0 := hel 0 (by omega)
              rw [List.getElem?_eq_getElem (by omega), Option.bind_eq_some_iff, hc] at hE0
              obtain ⟨cs0, hcells0, _⟩ := hE0
              obtain ⟨_, hcl0, hcell0⟩ := World.cells?_some hcells0
              have q := hcell0 0 (by omega)
              rw [List.getElem?_eq_getElem (by omega)] at q
              simpa [Addr.add] using World.cell?_spot q
        rw [add_add x hsp] at k0 k1 k2
        have hb := bounds_i64 hwf
        rcases ChangeShapes.open_ints us uu cu g2 with ⟨e2, _⟩ | ⟨sa, sl, sc, zs, e2, _, hsl, hsm, hzl, _, hzc, hzw⟩
        · simp only [List.cons.injEq, and_true] at e2
          subst e2
          exact ⟨⟨bl, pn, []⟩, ⟨hb.1, hb.2, Nat.zero_le _⟩, hsp, none, 0, 0, k0, k1, k2, rfl, fun n hn => by simp at hn, fun _ => rfl, fun y hy => by cases hy⟩
        · simp only [List.cons.injEq, and_true] at e2
          subst e2
          have hzl' : sl ≤ zs.length := by rw [hzl]; split <;> omega
          refine ⟨⟨bl, pn, zs.take sl⟩, ⟨hb.1, hb.2, by simp; omega⟩, hsp, some sa, sl, sc, k0, k1, k2, by simp; omega, fun n hn => ?_, (fun e => (by cases e)), fun y hy j hj => ?_⟩
          · exact bounds_u8 (hzw n (List.mem_of_mem_take hn))
          · cases hy
            rw [hzc j (by omega), getD_at _ j (by omega), getD_at _ j (by simp; omega), List.getElem_take]
    have build : ∀ m, m ≤ len → ∃ its : List It, its.length = m ∧ (∀ it ∈ its, ItOk it) ∧ ∀ i it, its[i]? = some it → ItAt w x.block (x.off + i * 3) it := by
      intro m
      induction m with
      | zero => intro _; exact ⟨[], rfl, fun it hi => by simp at hi, fun i it hi => by simp at hi⟩
      | succ m ih =>
        intro hm'
        obtain ⟨its, q1, q2, q3⟩ := ih (by omega)
        obtain ⟨it, r1, _, r2⟩ := each m (by omega)
        refine ⟨its ++ [it], by simp [q1], fun y hy => ?_, fun i y hy => ?_⟩
        · rcases List.mem_append.1 hy with h' | h'
          · exact q2 y h'
          · simp at h'; subst h'; exact r1
        · rcases Nat.lt_or_ge i m with h' | h'
          · rw [List.getElem?_append_left (by omega)] at hy
            exact q3 i y hy
          · have hi : i < (its ++ [it]).length := (List.getElem?_eq_some_iff.1 hy).1
            simp at hi
            obtain rfl : i = m := by omega
            rw [List.getElem?_append_right (by omega), q1, Nat.sub_self] at hy
            simp at hy
            subst hy
            exact r2
    obtain ⟨its, q1, q2, q3⟩ := build len (Nat.le_refl _)
    refine ⟨some x, len, cap, its, rfl, Nat.le_trans hl hm, q1, q2, fun hp => ⟨x.block, x.off, ?_, q3⟩⟩
    obtain ⟨_, _, hsp, _⟩ := each 0 hp
    obtain ⟨b, o, s⟩ := x
    simp only at hsp
    subst hsp
    rfl

end Go.Proofs.YtifhaihddimdfaaGreatDoor
