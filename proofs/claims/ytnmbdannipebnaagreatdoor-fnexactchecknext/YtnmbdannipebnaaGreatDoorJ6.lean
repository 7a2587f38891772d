/- What is proved here: the contract of the laws' helper function toHeader: the header's copy, in new memory of its own. -/
import Derived.Test.YtnmbdannipebnaaGreatDoorChecked
import Derived.Test.YtnmbdannipebnaaGreatDoorJ5
import Derived.Test.YtnmbdannipebnaaGreatDoorJ4
import Derived.WalkKit
import Derived.WalkLawsBesides
import Derived.WalkSmall
import Derived.Deep.DeepCutAuto
import Derived.KernelRfl
import Derived.WalkSpells
import Derived.Test.YtnmbdannipebnaaGreatDoorJ1
namespace Go.Proofs.YtnmbdannipebnaaGreatDoor
open Go.RowKit
set_option linter.unusedVariables false
set_option maxRecDepth 100000

theorem three_blk (w : World) (vs us ts : Array Value) (T S R : TypeId) : SBlk (((w.alloc (.cells vs T)).alloc (.cells us S)).alloc (.cells ts R)) w.heap.size vs.toList T ∧ SBlk (((w.alloc (.cells vs T)).alloc (.cells us S)).alloc (.cells ts R)) (w.heap.size + 1) us.toList S ∧
    SBlk (((w.alloc (.cells vs T)).alloc (.cells us S)).alloc (.cells ts R)) (w.heap.size + 2) ts.toList R ∧ Below w.heap.size w (((w.alloc (.cells vs T)).alloc (.cells us S)).alloc (.cells ts R)) ∧ (((w.alloc (.cells vs T)).alloc (.cells us S)).alloc (.cells ts R)).heap.size = w.heap.size + 3 := by
  refine ⟨((SBlk.new w vs T).next _).next _, ?_, ?_, (((Below.refl _ _).alloc (Nat.le_refl _) _).alloc (by simp) _).alloc (by simp; omega) _, by simp⟩
  · have h := (SBlk.new (w.alloc (.cells vs T)) us S).next (.cells ts R)
    rwa [show (w.alloc (.cells vs T)).heap.size = w.heap.size + 1 by simp] at h
  · have h := SBlk.new ((w.alloc (.cells vs T)).alloc (.cells us S)) ts R
    rwa [show ((w.alloc (.cells vs T)).alloc (.cells us S)).heap.size = w.heap.size + 2 by simp] at h

theorem toB_to (a : Option Addr) (n cap : Nat) (z : List Int) (W : World) (g : Nat) (hg : W.heap.size = g) (h : BRow W a n z) (hl : z.length ≤ 1048576) :
    Calls Tryz.prog 15 #[.slice a n cap] W fun e w' => e = .returned (.slice (some ⟨g, 0, none⟩) z.length z.length) ∧ w'.ownsRow g 5 1 (.slice (some ⟨g, 0, none⟩) z.length z.length) z.length (z.map (Value.int .u8)) ∧ Below g W w' := by
  subst hg
  obtain rfl : z.length = n := h.1
  exact toByteS_any a _ cap z W h hl

theorem toBs_to (a : Option Addr) (n cap : Nat) (z : List (List Int)) (W : World) (g : Nat) (hg : W.heap.size = g) (h : BsRow W a n z) (hl : z.length ≤ 1048576) (hz : ∀ y ∈ z, y.length ≤ 1048576) :
    Calls Tryz.prog 33 #[.slice a n cap] W fun e w' => e = .returned (.slice (some ⟨g, 0, none⟩) z.length z.length) ∧ OBss w' g z 29 w'.heap.size ∧ Below g W w' := by
  subst hg
  obtain rfl : z.length = n := h.1
  exact toByteSS_any a _ cap z W h hl hz

/-- The header's slices lie in blocks of their own, all from B on. -/
def HOwn (w : World) (B : Nat) (x : HS) (h : Hd) : Prop :=
  ∃ g1 g2 g3 g4 g5 g6 g7 : Nat, x = ⟨⟨some ⟨g1, 0, none⟩, h.p.length, h.p.length⟩, ⟨some ⟨g2, 0, none⟩, h.t.length, h.t.length⟩, ⟨some ⟨g3, 0, none⟩, h.s.length, h.s.length⟩, ⟨some ⟨g4, 0, none⟩, h.r.length, h.r.length⟩, ⟨some ⟨g5, 0, none⟩, h.g.length, h.g.length⟩, ⟨some ⟨g6, 0, none⟩, h.e.length, h.e.length⟩, ⟨some ⟨g7, 0, none⟩, h.k.length, h.k.length⟩⟩ ∧
    (B ≤ g1 ∧ g1 < g2 ∧ g2 < g3 ∧ g3 < g4 ∧ g4 < g5 ∧ g5 < g6 ∧ g6 < g7) ∧
    w.ownsRow g1 5 1 (.slice (some ⟨g1, 0, none⟩) h.p.length h.p.length) h.p.length (h.p.map (Value.int .u8)) ∧
    w.ownsRow g2 5 1 (.slice (some ⟨g2, 0, none⟩) h.t.length h.t.length) h.t.length (h.t.map (Value.int .u8)) ∧
    OBss w g3 h.s 29 g4 ∧
    w.ownsRow g4 5 1 (.slice (some ⟨g4, 0, none⟩) h.r.length h.r.length) h.r.length (h.r.map (Value.int .u8)) ∧
    w.ownsRow g5 5 1 (.slice (some ⟨g5, 0, none⟩) h.g.length h.g.length) h.g.length (h.g.map (Value.int .u8)) ∧
    w.ownsRow g6 5 1 (.slice (some ⟨g6, 0, none⟩) h.e.length h.e.length) h.e.length (h.e.map (Value.int .u8)) ∧
    OBss w g7 h.k 29 w.heap.size

/-- What is owned reads so. -/
theorem HOwn.ok {w v : World} {B : Nat} {x y : HS} {h : Hd} (o : HOwn w B x h) (q : HOk v y h) : HOk w x h := by
  obtain ⟨g1, g2, g3, g4, g5, g6, g7, rfl, _, o1, o2, o3, o4, o5, o6, o7⟩ := o
  exact ⟨BRow.own2 o1 q.p.2.1, BRow.own2 o2 q.t.2.1, o3.row q.s.2.1 q.s.bytes, BRow.own2 o4 q.r.2.1, BRow.own2 o5 q.g.2.1, BRow.own2 o6 q.e.2.1, o7.row q.k.2.1 q.k.bytes⟩

set_option maxHeartbeats 16000000 in
theorem toHeader_any (x : HS) (h : Hd) (w : World) (o : HOk w x h) (m : HSm h) :
    Calls Tryz.prog 10 #[.agg (hvals x h)] w fun e w' => ∃ y, e = .returned (.agg (hvals y h)) ∧ HOwn w' (w.heap.size + 3) y h ∧ Below w.heap.size w w' := by
  have HO := hide (fun (W : World) (hb : Below w.heap.size w W) => o.below hb (Nat.le_refl _))
  have HM := hide m
  obtain ⟨k0, k1, k2, K0, hsz⟩ := three_blk w (hvals x h) #[.slice none 0 0, .int .i64 0, .int .i64 0, .int .i64 0, .slice none 0 0, .int .i64 0, .slice none 0 0, .slice none 0 0, .slice none 0 0, .slice none 0 0, .slice none 0 0] #[.slice none 0 0, .int .i64 0, .int .i64 0, .int .i64 0, .slice none 0 0, .int .i64 0, .slice none 0 0, .slice none 0 0, .slice none 0 0, .slice none 0 0, .slice none 0 0] 31 42 42
  clear o m
  unfold hvals at k0 k1 k2 K0 hsz ⊢
  obtain ⟨W0, e0⟩ : ∃ W0, ((w.alloc (.cells #[.slice x.p.a x.p.n x.p.c, .int .i64 h.n1, .int .i64 h.n2, .int .i64 h.n3, .slice x.t.a x.t.n x.t.c, .int .i64 h.n5, .slice x.s.a x.s.n x.s.c, .slice x.r.a x.r.n x.r.c, .slice x.g.a x.g.n x.g.c, .slice x.e.a x.e.n x.e.c, .slice x.k.a x.k.n x.k.c] 31)).alloc (.cells #[.slice none 0 0, .int .i64 0, .int .i64 0, .int .i64 0, .slice none 0 0, .int .i64 0, .slice none 0 0, .slice none 0 0, .slice none 0 0, .slice none 0 0, .slice none 0 0] 42)).alloc (.cells #[.slice none 0 0, .int .i64 0, .int .i64 0, .int .i64 0, .slice none 0 0, .int .i64 0, .slice none 0 0, .slice none 0 0, .slice none 0 0, .slice none 0 0, .slice none 0 0] 42) = W0 := ⟨_, rfl⟩
  rw [e0] at k0 k1 k2 K0 hsz
  go_enter Tryz.func10, Tryz.ntmps10
  have x0 := k0.cell 0
  simp only [List.getElem?_cons_zero] at x0
  go_wp2_with (rw [e0])
  clear e0 x0
  have hg1 : w.heap.size + 2 < W0.heap.size := by omega
  obtain ⟨g1, eg1⟩ : ∃ g, g = W0.heap.size := ⟨_, rfl⟩
  have cg1 : w.heap.size + 3 ≤ g1 := by omega
  clear hsz hg1
  have EG1 := hide eg1
  clear eg1
  refine (toB_to x.p.a x.p.n x.p.c h.p _ g1 ((unhide EG1).symm) ((unhide HO) _ K0).p (unhide HM).p).mono ?_
  rintro e w1 ⟨rfl, o1, b1⟩
  have k0 := k0.below b1 (by omega)
  have k1 := k1.below b1 (by omega)
  have k2 := k2.below b1 (by omega)
  have K1 := K0.trans (b1.mono (by omega))
  have lt1 : g1 < w1.heap.size := (o1.lt g1 rfl).2
  have x1 := k0.cell 1
  have x2 := k0.cell 2
  have x3 := k0.cell 3
  have x4 := k0.cell 4
  have u0 := k2.cell 0
  have v0 := k2.free 0
  have u1 := k2.cell 1
  have v1 := k2.free 1
  have u2 := k2.cell 2
  have v2 := k2.free 2
  have u3 := k2.cell 3
  have v3 := k2.free 3
  simp only [List.getElem?_cons_zero, List.getElem?_cons_succ] at x1 x2 x3 x4 u0 u1 u2 u3
  have Q := hide (And.intro k1 (And.intro b1 (And.intro K1 trivial)))
  go_wp2_with fail
  clear Q x1 x2 x3 x4 u0 u1 u2 u3 v0 v1 v2 v3
  obtain ⟨g2, eg2⟩ : ∃ g, g = w1.heap.size := ⟨_, rfl⟩
  have cg2 : g1 < g2 := by omega
  clear lt1
  have EG2 := hide eg2
  clear eg2
  refine (toB_to x.t.a x.t.n x.t.c h.t _ g2 (by simp only [size_set']; exact (unhide EG2).symm) ((unhide HO) _ ((((K1.setCell (p := ⟨w.heap.size + 2, _, none⟩) (by show w.heap.size ≤ w.heap.size + 2; omega) _).setCell (p := ⟨w.heap.size + 2, _, none⟩) (by show w.heap.size ≤ w.heap.size + 2; omega) _).setCell (p := ⟨w.heap.size + 2, _, none⟩) (by show w.heap.size ≤ w.heap.size + 2; omega) _).setCell (p := ⟨w.heap.size + 2, _, none⟩) (by show w.heap.size ≤ w.heap.size + 2; omega) _)).t (unhide HM).t).mono ?_
  rintro e w2 ⟨rfl, o2, b2⟩
  have k0 := ((((k0.other (g' := w.heap.size + 2) (by omega)).other (g' := w.heap.size + 2) (by omega)).other (g' := w.heap.size + 2) (by omega)).other (g' := w.heap.size + 2) (by omega)).below b2 (by omega)
  have k1 := ((((k1.other (g' := w.heap.size + 2) (by omega)).other (g' := w.heap.size + 2) (by omega)).other (g' := w.heap.size + 2) (by omega)).other (g' := w.heap.size + 2) (by omega)).below b2 (by omega)
  have k2 := ((((k2.set 0 (.slice (some ⟨g1, 0, none⟩) h.p.length h.p.length)).set 1 (.int .i64 h.n1)).set 2 (.int .i64 h.n2)).set 3 (.int .i64 h.n3)).below b2 (by omega)
  simp only [List.set_cons_zero, List.set_cons_succ] at k2
  have K2 := ((((K1.setCell (p := ⟨w.heap.size + 2, _, none⟩) (by show w.heap.size ≤ w.heap.size + 2; omega) _).setCell (p := ⟨w.heap.size + 2, _, none⟩) (by show w.heap.size ≤ w.heap.size + 2; omega) _).setCell (p := ⟨w.heap.size + 2, _, none⟩) (by show w.heap.size ≤ w.heap.size + 2; omega) _).setCell (p := ⟨w.heap.size + 2, _, none⟩) (by show w.heap.size ≤ w.heap.size + 2; omega) _).trans (b2.mono (by omega))
  have o1 := own_below (ownsRow_setCell_below (ownsRow_setCell_below (ownsRow_setCell_below (ownsRow_setCell_below o1 (by show w.heap.size + 2 < g1; omega) _) (by show w.heap.size + 2 < g1; omega) _) (by show w.heap.size + 2 < g1; omega) _) (by show w.heap.size + 2 < g1; omega) _) b2 (by simp only [size_set']; exact Nat.le_of_eq (unhide EG2).symm)
  have lt2 : g2 < w2.heap.size := (o2.lt g2 rfl).2
  have x5 := k0.cell 5
  have x6 := k0.cell 6
  have u4 := k2.cell 4
  have v4 := k2.free 4
  have u5 := k2.cell 5
  have v5 := k2.free 5
  simp only [List.getElem?_cons_zero, List.getElem?_cons_succ] at x5 x6 u4 u5
  have Q := hide (And.intro k1 (And.intro b2 (And.intro K2 trivial)))
  go_wp2_with fail
  clear Q x5 x6 u4 u5 v4 v5
  obtain ⟨g3, eg3⟩ : ∃ g, g = w2.heap.size := ⟨_, rfl⟩
  have cg3 : g2 < g3 := by omega
  clear lt2
  have EG3 := hide eg3
  clear eg3
  refine (toBs_to x.s.a x.s.n x.s.c h.s _ g3 (by simp only [size_set']; exact (unhide EG3).symm) ((unhide HO) _ ((K2.setCell (p := ⟨w.heap.size + 2, _, none⟩) (by show w.heap.size ≤ w.heap.size + 2; omega) _).setCell (p := ⟨w.heap.size + 2, _, none⟩) (by show w.heap.size ≤ w.heap.size + 2; omega) _)).s (unhide HM).s (unhide HM).sz).mono ?_
  rintro e w3 ⟨rfl, o3, b3⟩
  have k0 := ((k0.other (g' := w.heap.size + 2) (by omega)).other (g' := w.heap.size + 2) (by omega)).below b3 (by omega)
  have k1 := ((k1.other (g' := w.heap.size + 2) (by omega)).other (g' := w.heap.size + 2) (by omega)).below b3 (by omega)
  have k2 := ((k2.set 4 (.slice (some ⟨g2, 0, none⟩) h.t.length h.t.length)).set 5 (.int .i64 h.n5)).below b3 (by omega)
  simp only [List.set_cons_zero, List.set_cons_succ] at k2
  have K3 := ((K2.setCell (p := ⟨w.heap.size + 2, _, none⟩) (by show w.heap.size ≤ w.heap.size + 2; omega) _).setCell (p := ⟨w.heap.size + 2, _, none⟩) (by show w.heap.size ≤ w.heap.size + 2; omega) _).trans (b3.mono (by omega))
  have o1 := own_below (ownsRow_setCell_below (ownsRow_setCell_below o1 (by show w.heap.size + 2 < g1; omega) _) (by show w.heap.size + 2 < g1; omega) _) b3 (by simp only [size_set']; exact Nat.le_of_eq (unhide EG3).symm)
  have o2 := own_below (ownsRow_setCell_below (ownsRow_setCell_below o2 (by show w.heap.size + 2 < g2; omega) _) (by show w.heap.size + 2 < g2; omega) _) b3 (by simp only [size_set']; exact Nat.le_of_eq (unhide EG3).symm)
  have lt3 : g3 < w3.heap.size := BUpto.lt o3
  have x7 := k0.cell 7
  have u6 := k2.cell 6
  have v6 := k2.free 6
  simp only [List.getElem?_cons_zero, List.getElem?_cons_succ] at x7 u6
  have Q := hide (And.intro k1 (And.intro b3 (And.intro K3 trivial)))
  go_wp2_with fail
  clear Q x7 u6 v6
  obtain ⟨g4, eg4⟩ : ∃ g, g = w3.heap.size := ⟨_, rfl⟩
  have cg4 : g3 < g4 := by omega
  clear lt3
  have EG4 := hide eg4
  clear eg4
  refine (toB_to x.r.a x.r.n x.r.c h.r _ g4 (by simp only [size_set']; exact (unhide EG4).symm) ((unhide HO) _ (K3.setCell (p := ⟨w.heap.size + 2, _, none⟩) (by show w.heap.size ≤ w.heap.size + 2; omega) _)).r (unhide HM).r).mono ?_
  rintro e w4 ⟨rfl, o4, b4⟩
  have k0 := (k0.other (g' := w.heap.size + 2) (by omega)).below b4 (by omega)
  have k1 := (k1.other (g' := w.heap.size + 2) (by omega)).below b4 (by omega)
  have k2 := (k2.set 6 (.slice (some ⟨g3, 0, none⟩) h.s.length h.s.length)).below b4 (by omega)
  simp only [List.set_cons_zero, List.set_cons_succ] at k2
  have K4 := (K3.setCell (p := ⟨w.heap.size + 2, _, none⟩) (by show w.heap.size ≤ w.heap.size + 2; omega) _).trans (b4.mono (by omega))
  have o1 := own_below (ownsRow_setCell_below o1 (by show w.heap.size + 2 < g1; omega) _) b4 (by simp only [size_set']; exact Nat.le_of_eq (unhide EG4).symm)
  have o2 := own_below (ownsRow_setCell_below o2 (by show w.heap.size + 2 < g2; omega) _) b4 (by simp only [size_set']; exact Nat.le_of_eq (unhide EG4).symm)
  have o3 := BUpto.below (BUpto.stored (g' := w.heap.size + 2) o3 (by omega)) b4 (by simp only [size_set']; exact Nat.le_of_eq (unhide EG4).symm)
  have lt4 : g4 < w4.heap.size := (o4.lt g4 rfl).2
  have x8 := k0.cell 8
  have u7 := k2.cell 7
  have v7 := k2.free 7
  simp only [List.getElem?_cons_zero, List.getElem?_cons_succ] at x8 u7
  have Q := hide (And.intro k1 (And.intro b4 (And.intro K4 trivial)))
  go_wp2_with fail
  clear Q x8 u7 v7
  obtain ⟨g5, eg5⟩ : ∃ g, g = w4.heap.size := ⟨_, rfl⟩
  have cg5 : g4 < g5 := by omega
  clear lt4
  have EG5 := hide eg5
  clear eg5
  refine (toB_to x.g.a x.g.n x.g.c h.g _ g5 (by simp only [size_set']; exact (unhide EG5).symm) ((unhide HO) _ (K4.setCell (p := ⟨w.heap.size + 2, _, none⟩) (by show w.heap.size ≤ w.heap.size + 2; omega) _)).g (unhide HM).g).mono ?_
  rintro e w5 ⟨rfl, o5, b5⟩
  have k0 := (k0.other (g' := w.heap.size + 2) (by omega)).below b5 (by omega)
  have k1 := (k1.other (g' := w.heap.size + 2) (by omega)).below b5 (by omega)
  have k2 := (k2.set 7 (.slice (some ⟨g4, 0, none⟩) h.r.length h.r.length)).below b5 (by omega)
  simp only [List.set_cons_zero, List.set_cons_succ] at k2
  have K5 := (K4.setCell (p := ⟨w.heap.size + 2, _, none⟩) (by show w.heap.size ≤ w.heap.size + 2; omega) _).trans (b5.mono (by omega))
  have o1 := own_below (ownsRow_setCell_below o1 (by show w.heap.size + 2 < g1; omega) _) b5 (by simp only [size_set']; exact Nat.le_of_eq (unhide EG5).symm)
  have o2 := own_below (ownsRow_setCell_below o2 (by show w.heap.size + 2 < g2; omega) _) b5 (by simp only [size_set']; exact Nat.le_of_eq (unhide EG5).symm)
  have o3 := BUpto.below (BUpto.stored (g' := w.heap.size + 2) o3 (by omega)) b5 (by simp only [size_set']; exact Nat.le_of_eq (unhide EG5).symm)
  have o4 := own_below (ownsRow_setCell_below o4 (by show w.heap.size + 2 < g4; omega) _) b5 (by simp only [size_set']; exact Nat.le_of_eq (unhide EG5).symm)
  have lt5 : g5 < w5.heap.size := (o5.lt g5 rfl).2
  have x9 := k0.cell 9
  have u8 := k2.cell 8
  have v8 := k2.free 8
  simp only [List.getElem?_cons_zero, List.getElem?_cons_succ] at x9 u8
  have Q := hide (And.intro k1 (And.intro b5 (And.intro K5 trivial)))
  go_wp2_with fail
  clear Q x9 u8 v8
  obtain ⟨g6, eg6⟩ : ∃ g, g = w5.heap.size := ⟨_, rfl⟩
  have cg6 : g5 < g6 := by omega
  clear lt5
  have EG6 := hide eg6
  clear eg6
  refine (toB_to x.e.a x.e.n x.e.c h.e _ g6 (by simp only [size_set']; exact (unhide EG6).symm) ((unhide HO) _ (K5.setCell (p := ⟨w.heap.size + 2, _, none⟩) (by show w.heap.size ≤ w.heap.size + 2; omega) _)).e (unhide HM).e).mono ?_
  rintro e w6 ⟨rfl, o6, b6⟩
  have k0 := (k0.other (g' := w.heap.size + 2) (by omega)).below b6 (by omega)
  have k1 := (k1.other (g' := w.heap.size + 2) (by omega)).below b6 (by omega)
  have k2 := (k2.set 8 (.slice (some ⟨g5, 0, none⟩) h.g.length h.g.length)).below b6 (by omega)
  simp only [List.set_cons_zero, List.set_cons_succ] at k2
  have K6 := (K5.setCell (p := ⟨w.heap.size + 2, _, none⟩) (by show w.heap.size ≤ w.heap.size + 2; omega) _).trans (b6.mono (by omega))
  have o1 := own_below (ownsRow_setCell_below o1 (by show w.heap.size + 2 < g1; omega) _) b6 (by simp only [size_set']; exact Nat.le_of_eq (unhide EG6).symm)
  have o2 := own_below (ownsRow_setCell_below o2 (by show w.heap.size + 2 < g2; omega) _) b6 (by simp only [size_set']; exact Nat.le_of_eq (unhide EG6).symm)
  have o3 := BUpto.below (BUpto.stored (g' := w.heap.size + 2) o3 (by omega)) b6 (by simp only [size_set']; exact Nat.le_of_eq (unhide EG6).symm)
  have o4 := own_below (ownsRow_setCell_below o4 (by show w.heap.size + 2 < g4; omega) _) b6 (by simp only [size_set']; exact Nat.le_of_eq (unhide EG6).symm)
  have o5 := own_below (ownsRow_setCell_below o5 (by show w.heap.size + 2 < g5; omega) _) b6 (by simp only [size_set']; exact Nat.le_of_eq (unhide EG6).symm)
  have lt6 : g6 < w6.heap.size := (o6.lt g6 rfl).2
  have x10 := k0.cell 10
  have u9 := k2.cell 9
  have v9 := k2.free 9
  simp only [List.getElem?_cons_zero, List.getElem?_cons_succ] at x10 u9
  have Q := hide (And.intro k1 (And.intro b6 (And.intro K6 trivial)))
  go_wp2_with fail
  clear Q x10 u9 v9
  obtain ⟨g7, eg7⟩ : ∃ g, g = w6.heap.size := ⟨_, rfl⟩
  have cg7 : g6 < g7 := by omega
  clear lt6
  have EG7 := hide eg7
  clear eg7
  refine (toBs_to x.k.a x.k.n x.k.c h.k _ g7 (by simp only [size_set']; exact (unhide EG7).symm) ((unhide HO) _ (K6.setCell (p := ⟨w.heap.size + 2, _, none⟩) (by show w.heap.size ≤ w.heap.size + 2; omega) _)).k (unhide HM).k (unhide HM).kz).mono ?_
  rintro e w7 ⟨rfl, o7, b7⟩
  have k0 := (k0.other (g' := w.heap.size + 2) (by omega)).below b7 (by omega)
  have k1 := (k1.other (g' := w.heap.size + 2) (by omega)).below b7 (by omega)
  have k2 := (k2.set 9 (.slice (some ⟨g6, 0, none⟩) h.e.length h.e.length)).below b7 (by omega)
  simp only [List.set_cons_zero, List.set_cons_succ] at k2
  have K7 := (K6.setCell (p := ⟨w.heap.size + 2, _, none⟩) (by show w.heap.size ≤ w.heap.size + 2; omega) _).trans (b7.mono (by omega))
  have o1 := own_below (ownsRow_setCell_below o1 (by show w.heap.size + 2 < g1; omega) _) b7 (by simp only [size_set']; exact Nat.le_of_eq (unhide EG7).symm)
  have o2 := own_below (ownsRow_setCell_below o2 (by show w.heap.size + 2 < g2; omega) _) b7 (by simp only [size_set']; exact Nat.le_of_eq (unhide EG7).symm)
  have o3 := BUpto.below (BUpto.stored (g' := w.heap.size + 2) o3 (by omega)) b7 (by simp only [size_set']; exact Nat.le_of_eq (unhide EG7).symm)
  have o4 := own_below (ownsRow_setCell_below o4 (by show w.heap.size + 2 < g4; omega) _) b7 (by simp only [size_set']; exact Nat.le_of_eq (unhide EG7).symm)
  have o5 := own_below (ownsRow_setCell_below o5 (by show w.heap.size + 2 < g5; omega) _) b7 (by simp only [size_set']; exact Nat.le_of_eq (unhide EG7).symm)
  have o6 := own_below (ownsRow_setCell_below o6 (by show w.heap.size + 2 < g6; omega) _) b7 (by simp only [size_set']; exact Nat.le_of_eq (unhide EG7).symm)
  have lt7 : g7 < w7.heap.size := BUpto.lt o7
  have u0 := k2.cell 0
  have u1 := k2.cell 1
  have u2 := k2.cell 2
  have u3 := k2.cell 3
  have u4 := k2.cell 4
  have u5 := k2.cell 5
  have u6 := k2.cell 6
  have u7 := k2.cell 7
  have u8 := k2.cell 8
  have u9 := k2.cell 9
  have u10 := k2.cell 10
  have v10 := k2.free 10
  have r0 := k1.cell 0
  have q0 := k1.free 0
  have r1 := k1.cell 1
  have q1 := k1.free 1
  have r2 := k1.cell 2
  have q2 := k1.free 2
  have r3 := k1.cell 3
  have q3 := k1.free 3
  have r4 := k1.cell 4
  have q4 := k1.free 4
  have r5 := k1.cell 5
  have q5 := k1.free 5
  have r6 := k1.cell 6
  have q6 := k1.free 6
  have r7 := k1.cell 7
  have q7 := k1.free 7
  have r8 := k1.cell 8
  have q8 := k1.free 8
  have r9 := k1.cell 9
  have q9 := k1.free 9
  have r10 := k1.cell 10
  have q10 := k1.free 10
  simp only [List.getElem?_cons_zero, List.getElem?_cons_succ] at u0 r0 u1 r1 u2 r2 u3 r3 u4 r4 u5 r5 u6 r6 u7 r7 u8 r8 u9 r9 u10 r10
  go_wp2_with fail
  refine bodyPost_ret (v := .agg #[.slice (some ⟨g1, 0, none⟩) h.p.length h.p.length, .int .i64 h.n1, .int .i64 h.n2, .int .i64 h.n3, .slice (some ⟨g2, 0, none⟩) h.t.length h.t.length, .int .i64 h.n5, .slice (some ⟨g3, 0, none⟩) h.s.length h.s.length, .slice (some ⟨g4, 0, none⟩) h.r.length h.r.length, .slice (some ⟨g5, 0, none⟩) h.g.length h.g.length, .slice (some ⟨g6, 0, none⟩) h.e.length h.e.length, .slice (some ⟨g7, 0, none⟩) h.k.length h.k.length]) (by simp [results, Tryz.results10, go_sem, r0, r1, r2, r3, r4, r5, r6, r7, r8, r9, r10]) rfl ⟨⟨⟨some ⟨g1, 0, none⟩, h.p.length, h.p.length⟩, ⟨some ⟨g2, 0, none⟩, h.t.length, h.t.length⟩, ⟨some ⟨g3, 0, none⟩, h.s.length, h.s.length⟩, ⟨some ⟨g4, 0, none⟩, h.r.length, h.r.length⟩, ⟨some ⟨g5, 0, none⟩, h.g.length, h.g.length⟩, ⟨some ⟨g6, 0, none⟩, h.e.length, h.e.length⟩, ⟨some ⟨g7, 0, none⟩, h.k.length, h.k.length⟩⟩, rfl, ⟨g1, g2, g3, g4, g5, g6, g7, rfl, ?_, ?_, ?_, ?_, ?_, ?_, ?_, ?_⟩, ?_⟩
  · refine ⟨?_, ?_, ?_, ?_, ?_, ?_, ?_⟩ <;> omega
  · exact (ownsRow_setCell_below (ownsRow_setCell_below (ownsRow_setCell_below (ownsRow_setCell_below (ownsRow_setCell_below (ownsRow_setCell_below (ownsRow_setCell_below (ownsRow_setCell_below (ownsRow_setCell_below (ownsRow_setCell_below (ownsRow_setCell_below (ownsRow_setCell_below o1 (by show w.heap.size + 2 < g1; omega) _) (by show w.heap.size + 1 < g1; omega) _) (by show w.heap.size + 1 < g1; omega) _) (by show w.heap.size + 1 < g1; omega) _) (by show w.heap.size + 1 < g1; omega) _) (by show w.heap.size + 1 < g1; omega) _) (by show w.heap.size + 1 < g1; omega) _) (by show w.heap.size + 1 < g1; omega) _) (by show w.heap.size + 1 < g1; omega) _) (by show w.heap.size + 1 < g1; omega) _) (by show w.heap.size + 1 < g1; omega) _) (by show w.heap.size + 1 < g1; omega) _)
  · exact (ownsRow_setCell_below (ownsRow_setCell_below (ownsRow_setCell_below (ownsRow_setCell_below (ownsRow_setCell_below (ownsRow_setCell_below (ownsRow_setCell_below (ownsRow_setCell_below (ownsRow_setCell_below (ownsRow_setCell_below (ownsRow_setCell_below (ownsRow_setCell_below o2 (by show w.heap.size + 2 < g2; omega) _) (by show w.heap.size + 1 < g2; omega) _) (by show w.heap.size + 1 < g2; omega) _) (by show w.heap.size + 1 < g2; omega) _) (by show w.heap.size + 1 < g2; omega) _) (by show w.heap.size + 1 < g2; omega) _) (by show w.heap.size + 1 < g2; omega) _) (by show w.heap.size + 1 < g2; omega) _) (by show w.heap.size + 1 < g2; omega) _) (by show w.heap.size + 1 < g2; omega) _) (by show w.heap.size + 1 < g2; omega) _) (by show w.heap.size + 1 < g2; omega) _)
  · rw [unhide EG4]
    exact (BUpto.stored (g' := w.heap.size + 1) (BUpto.stored (g' := w.heap.size + 1) (BUpto.stored (g' := w.heap.size + 1) (BUpto.stored (g' := w.heap.size + 1) (BUpto.stored (g' := w.heap.size + 1) (BUpto.stored (g' := w.heap.size + 1) (BUpto.stored (g' := w.heap.size + 1) (BUpto.stored (g' := w.heap.size + 1) (BUpto.stored (g' := w.heap.size + 1) (BUpto.stored (g' := w.heap.size + 1) (BUpto.stored (g' := w.heap.size + 1) (BUpto.stored (g' := w.heap.size + 2) o3 (by omega)) (by omega)) (by omega)) (by omega)) (by omega)) (by omega)) (by omega)) (by omega)) (by omega)) (by omega)) (by omega)) (by omega))
  · exact (ownsRow_setCell_below (ownsRow_setCell_below (ownsRow_setCell_below (ownsRow_setCell_below (ownsRow_setCell_below (ownsRow_setCell_below (ownsRow_setCell_below (ownsRow_setCell_below (ownsRow_setCell_below (ownsRow_setCell_below (ownsRow_setCell_below (ownsRow_setCell_below o4 (by show w.heap.size + 2 < g4; omega) _) (by show w.heap.size + 1 < g4; omega) _) (by show w.heap.size + 1 < g4; omega) _) (by show w.heap.size + 1 < g4; omega) _) (by show w.heap.size + 1 < g4; omega) _) (by show w.heap.size + 1 < g4; omega) _) (by show w.heap.size + 1 < g4; omega) _) (by show w.heap.size + 1 < g4; omega) _) (by show w.heap.size + 1 < g4; omega) _) (by show w.heap.size + 1 < g4; omega) _) (by show w.heap.size + 1 < g4; omega) _) (by show w.heap.size + 1 < g4; omega) _)
  · exact (ownsRow_setCell_below (ownsRow_setCell_below (ownsRow_setCell_below (ownsRow_setCell_below (ownsRow_setCell_below (ownsRow_setCell_below (ownsRow_setCell_below (ownsRow_setCell_below (ownsRow_setCell_below (ownsRow_setCell_below (ownsRow_setCell_below (ownsRow_setCell_below o5 (by show w.heap.size + 2 < g5; omega) _) (by show w.heap.size + 1 < g5; omega) _) (by show w.heap.size + 1 < g5; omega) _) (by show w.heap.size + 1 < g5; omega) _) (by show w.heap.size + 1 < g5; omega) _) (by show w.heap.size + 1 < g5; omega) _) (by show w.heap.size + 1 < g5; omega) _) (by show w.heap.size + 1 < g5; omega) _) (by show w.heap.size + 1 < g5; omega) _) (by show w.heap.size + 1 < g5; omega) _) (by show w.heap.size + 1 < g5; omega) _) (by show w.heap.size + 1 < g5; omega) _)
  · exact (ownsRow_setCell_below (ownsRow_setCell_below (ownsRow_setCell_below (ownsRow_setCell_below (ownsRow_setCell_below (ownsRow_setCell_below (ownsRow_setCell_below (ownsRow_setCell_below (ownsRow_setCell_below (ownsRow_setCell_below (ownsRow_setCell_below (ownsRow_setCell_below o6 (by show w.heap.size + 2 < g6; omega) _) (by show w.heap.size + 1 < g6; omega) _) (by show w.heap.size + 1 < g6; omega) _) (by show w.heap.size + 1 < g6; omega) _) (by show w.heap.size + 1 < g6; omega) _) (by show w.heap.size + 1 < g6; omega) _) (by show w.heap.size + 1 < g6; omega) _) (by show w.heap.size + 1 < g6; omega) _) (by show w.heap.size + 1 < g6; omega) _) (by show w.heap.size + 1 < g6; omega) _) (by show w.heap.size + 1 < g6; omega) _) (by show w.heap.size + 1 < g6; omega) _)
  · simp only [size_set']
    exact (BUpto.stored (g' := w.heap.size + 1) (BUpto.stored (g' := w.heap.size + 1) (BUpto.stored (g' := w.heap.size + 1) (BUpto.stored (g' := w.heap.size + 1) (BUpto.stored (g' := w.heap.size + 1) (BUpto.stored (g' := w.heap.size + 1) (BUpto.stored (g' := w.heap.size + 1) (BUpto.stored (g' := w.heap.size + 1) (BUpto.stored (g' := w.heap.size + 1) (BUpto.stored (g' := w.heap.size + 1) (BUpto.stored (g' := w.heap.size + 1) (BUpto.stored (g' := w.heap.size + 2) o7 (by omega)) (by omega)) (by omega)) (by omega)) (by omega)) (by omega)) (by omega)) (by omega)) (by omega)) (by omega)) (by omega)) (by omega))
  · exact ((((((((((((K7.setCell (p := ⟨w.heap.size + 2, _, none⟩) (by show w.heap.size ≤ w.heap.size + 2; omega) _).setCell (p := ⟨w.heap.size + 1, _, none⟩) (by show w.heap.size ≤ w.heap.size + 1; omega) _).setCell (p := ⟨w.heap.size + 1, _, none⟩) (by show w.heap.size ≤ w.heap.size + 1; omega) _).setCell (p := ⟨w.heap.size + 1, _, none⟩) (by show w.heap.size ≤ w.heap.size + 1; omega) _).setCell (p := ⟨w.heap.size + 1, _, none⟩) (by show w.heap.size ≤ w.heap.size + 1; omega) _).setCell (p := ⟨w.heap.size + 1, _, none⟩) (by show w.heap.size ≤ w.heap.size + 1; omega) _).setCell (p := ⟨w.heap.size + 1, _, none⟩) (by show w.heap.size ≤ w.heap.size + 1; omega) _).setCell (p := ⟨w.heap.size + 1, _, none⟩) (by show w.heap.size ≤ w.heap.size + 1; omega) _).setCell (p := ⟨w.heap.size + 1, _, none⟩) (by show w.heap.size ≤ w.heap.size + 1; omega) _).setCell (p := ⟨w.heap.size + 1, _, none⟩) (by show w.heap.size ≤ w.heap.size + 1; omega) _).setCell (p := ⟨w.heap.size + 1, _, none⟩) (by show w.heap.size ≤ w.heap.size + 1; omega) _).setCell (p := ⟨w.heap.size + 1, _, none⟩) (by show w.heap.size ≤ w.heap.size + 1; omega) _)

end Go.Proofs.YtnmbdannipebnaaGreatDoor

/- What is proved here: the contracts of the laws' helper functions that write marks into an answer's bytes and look for them later (markByteS, heldByteS and those over BytesResult), for slices that the call itself made. -/
namespace Go.Proofs.YtnmbdannipebnaaGreatDoor
open Go.RowKit
set_option linter.unusedVariables false
set_option maxRecDepth 100000

end Go.Proofs.YtnmbdannipebnaaGreatDoor

/- What is proved here: a row that the call owns stays when another block is written; it holds for every program. -/
namespace Go.Proofs.YtnmbdannipebnaaGreatDoor
open Go.RowKit
set_option linter.unusedVariables false
set_option maxRecDepth 100000

theorem own_grown {w w' : World} {B : Nat} {e : TypeId} {size n : Nat} {v : Value} {xs : List Value} {row : Option Nat} (h : w.ownsRow B e size v n xs) (hg : w.grownBy w' row) (hne : ∀ g, v.ownBlock = some g → some g ≠ row) : w'.ownsRow B e size v n xs := by
  refine ⟨h.1, ?_⟩
  rcases h.2 with h' | ⟨g, cap, cur, h1, h2, h3, h4⟩
  · exact .inl h'
  · refine .inr ⟨g, cap, cur, h1, h2, ?_, h4⟩
    rw [hg.block g (lt_of_block h3) (hne g (by rw [h1]; rfl))]
    exact h3

end Go.Proofs.YtnmbdannipebnaaGreatDoor

/- What is proved here: the contracts of the laws' helper functions that mark a header's bytes (markByteSS, markHeader): they write into its own blocks alone. -/
namespace Go.Proofs.YtnmbdannipebnaaGreatDoor
open Go.RowKit
set_option linter.unusedVariables false
set_option maxRecDepth 100000

/-- Nothing is written below B, nor from C on. -/
def OnlyH (B C : Nat) (w w' : World) : Prop := Below B w w' ∧ ∀ k, C ≤ k → k < w.heap.size → w'.heap[k]? = w.heap[k]?

theorem OnlyH.refl (B C : Nat) (w : World) : OnlyH B C w w := ⟨Below.refl _ _, fun _ _ _ => rfl⟩

theorem OnlyH.trans {B C : Nat} {a b c : World} (h : OnlyH B C a b) (k : OnlyH B C b c) : OnlyH B C a c :=
  ⟨h.1.trans k.1, fun q hq hl => (k.2 q hq (Nat.lt_of_lt_of_le hl h.1.size)).trans (h.2 q hq hl)⟩

theorem OnlyH.mono {B B' C C' : Nat} {a b : World} (h : OnlyH B C a b) (hB : B' ≤ B) (hC : C ≤ C') : OnlyH B' C' a b := ⟨h.1.mono hB, fun q hq hl => h.2 q (by omega) hl⟩

theorem OnlyH.grown {a b : World} {g : Nat} (B : Nat) (hg : a.grownBy b (some g)) (h : Below B a b) : OnlyH B (g + 1) a b := ⟨h, fun q hq hl => hg.block q hl (fun e => by have := Option.some.inj e; omega)⟩

theorem OnlyH.cell {B C : Nat} {w w' : World} (h : OnlyH B C w w') {p : Addr} (hp : C ≤ p.block) (hl : p.block < w.heap.size) : w'.cell? p = w.cell? p := World.cell?_of_block (w := w) (h.2 p.block hp hl)

theorem OnlyH.own {B C D : Nat} {w w' : World} (h : OnlyH B C w w') {e : TypeId} {size n : Nat} {v : Value} {xs : List Value} (ho : w.ownsRow D e size v n xs) (hD : C ≤ D) : w'.ownsRow D e size v n xs := by
  refine ⟨ho.1, ?_⟩
  rcases ho.2 with h' | ⟨g, cap, cur, h1, h2, h3, h4⟩
  · exact .inl h'
  · exact .inr ⟨g, cap, cur, h1, h2, (h.2 g (by omega) (lt_of_block h3)).trans h3, h4⟩

theorem OnlyH.sblk {B C : Nat} {w w' : World} (h : OnlyH B C w w') {g : Nat} {vs : List Value} {T : TypeId} (hs : SBlk w g vs T) (hg : C ≤ g) : SBlk w' g vs T := (h.2 g hg hs.lt).trans hs

/-- Slices of slices of bytes: those from k on are as they were. -/
def MBs (w : World) (g : Nat) (zss : List (List Int)) (k : Nat) (T : TypeId) (C : Nat) : Prop :=
  ∃ (vs : List Value) (f : Nat → Nat), SBlk w g vs T ∧ vs.length = zss.length ∧ (∀ i, i < zss.length → g < f i ∧ f i < C) ∧ (∀ i j, i < j → j < zss.length → f i < f j) ∧
    ∀ i z, k ≤ i → zss[i]? = some z → vs[i]? = some (.slice (some ⟨f i, 0, none⟩) z.length z.length) ∧ w.ownsRow (g + 1) 5 1 (.slice (some ⟨f i, 0, none⟩) z.length z.length) z.length (z.map (Value.int .u8))

end Go.Proofs.YtnmbdannipebnaaGreatDoor

/- What is proved here: plain facts on slices of slices of bytes: none is a bare nil with some room. -/
namespace Go.Proofs.YtnmbdannipebnaaGreatDoor
open Go.RowKit
set_option linter.unusedVariables false
set_option maxRecDepth 100000

/-- None of the slices is a bare nil with some room. -/
def BsNil (w : World) (a : Option Addr) (len : Nat) : Prop := ∀ b off, a = some ⟨b, off, none⟩ → ∀ i, i < len → ∃ sa sl sc, w.cell? ⟨b, off + i, none⟩ = some (.slice sa sl sc) ∧ (sa = none → sc = 0)

theorem BsNil.below {w w' : World} {a : Option Addr} {len : Nat} (h : BsNil w a len) {B : Nat} (hb : Below B w w') (hB : w.heap.size ≤ B) : BsNil w' a len := by
  intro b off e i hi
  obtain ⟨sa, sl, sc, hc, hn⟩ := h b off e i hi
  exact ⟨sa, sl, sc, (hb.cell (Nat.lt_of_lt_of_le (lt_of_cell hc) hB)).trans hc, hn⟩

theorem OBss.nilOk {w : World} {g : Nat} {zss : List (List Int)} {T : TypeId} {C : Nat} (h : OBss w g zss T C) : BsNil w (some ⟨g, 0, none⟩) zss.length := by
  obtain ⟨vs, f, h1, h2, h3, h4, h5⟩ := h
  intro b off e i hi
  simp only [Option.some.injEq, Addr.mk.injEq, and_true] at e
  obtain ⟨rfl, rfl⟩ := e
  obtain ⟨z, hz⟩ : ∃ z, zss[i]? = some z := ⟨_, List.getElem?_eq_getElem hi⟩
  obtain ⟨q1, _⟩ := h5 i z hi hz
  exact ⟨_, _, _, by rw [Nat.zero_add, h1.cell]; exact q1, fun e => by cases e⟩

end Go.Proofs.YtnmbdannipebnaaGreatDoor

/- What is proved here: plain facts on headers that a call made in memory of their own, told by colours of blocks: what is written in blocks of one colour leaves all else. -/
namespace Go.Proofs.YtnmbdannipebnaaGreatDoor
open Go.RowKit
set_option linter.unusedVariables false
set_option maxRecDepth 100000

/-- A slice's value. -/
def Sl.v (s : Sl) : Value := .slice s.a s.n s.c

/-- Bytes in memory of their own, at or beyond B; its block has the colour j. -/
structure CB (w : World) (B : Nat) (d : Nat → Nat) (j : Nat) (s : Sl) (z : List Int) : Prop where
  len : s.n = z.length
  rng : ∀ x ∈ z, 0 ≤ x ∧ x ≤ 255
  own : w.ownsRow B 5 1 (.slice s.a s.n s.c) s.n (z.map (Value.int .u8))
  col : ∀ g, (Value.slice s.a s.n s.c).ownBlock = some g → d g = j

/-- Nothing is written below B, nor in blocks whose colour is not in S. -/
def OnlyD (B : Nat) (d : Nat → Nat) (S : Nat → Prop) (w w' : World) : Prop := Below B w w' ∧ ∀ g, g < w.heap.size → ¬ S (d g) → w'.heap[g]? = w.heap[g]?

theorem OnlyD.refl (B : Nat) (d : Nat → Nat) (S : Nat → Prop) (w : World) : OnlyD B d S w w := ⟨Below.refl _ _, fun _ _ _ => rfl⟩

theorem OnlyD.trans {B : Nat} {d : Nat → Nat} {S : Nat → Prop} {a b c : World} (h : OnlyD B d S a b) (k : OnlyD B d S b c) : OnlyD B d S a c :=
  ⟨h.1.trans k.1, fun g hg hs => (k.2 g (Nat.lt_of_lt_of_le hg h.1.size) hs).trans (h.2 g hg hs)⟩

theorem OnlyD.mono {B : Nat} {d : Nat → Nat} {S T : Nat → Prop} {a b : World} (h : OnlyD B d S a b) (hs : ∀ c, S c → T c) : OnlyD B d T a b := ⟨h.1, fun g hg ht => h.2 g hg (fun q => ht (hs _ q))⟩

theorem OnlyD.below {B C : Nat} {d : Nat → Nat} {S : Nat → Prop} {a b : World} (h : Below C a b) (hC : a.heap.size ≤ C) (hB : B ≤ C) : OnlyD B d S a b := ⟨h.mono hB, fun g hg _ => h.block g (Nat.lt_of_lt_of_le hg hC)⟩

theorem OnlyD.grown {B j : Nat} {d : Nat → Nat} {a b : World} {row : Option Nat} (hg : a.grownBy b row) (hB : B ≤ a.heap.size) (hr : ∀ g, row = some g → B ≤ g ∧ d g = j) : OnlyD B d (fun c => c = j) a b :=
  ⟨(Below.refl B a).grown hg hB (fun k e => (hr k e).1), fun g hl hs => hg.block g hl (fun e => hs (hr g e.symm).2)⟩

theorem own_keep {B D : Nat} {d : Nat → Nat} {S : Nat → Prop} {w w' : World} {e : TypeId} {size n j : Nat} {v : Value} {xs : List Value} (ho : w.ownsRow D e size v n xs) (h : OnlyD B d S w w') (hc : ∀ g, v.ownBlock = some g → d g = j) (hj : ¬ S j) : w'.ownsRow D e size v n xs := by
  refine ⟨ho.1, ?_⟩
  rcases ho.2 with h' | ⟨g, cap, cur, h1, h2, h3, h4⟩
  · exact .inl h'
  · have hd := hc g (by rw [h1]; rfl)
    exact .inr ⟨g, cap, cur, h1, h2, (h.2 g (lt_of_block h3) (by rw [hd]; exact hj)).trans h3, h4⟩

theorem own_lt {w : World} {B : Nat} {e : TypeId} {size n : Nat} {v : Value} {xs : List Value} (h : w.ownsRow B e size v n xs) (g : Nat) (hg : v.ownBlock = some g) : B ≤ g ∧ g < w.heap.size := h.lt g hg

theorem CB.only {B D j : Nat} {d : Nat → Nat} {S : Nat → Prop} {w w' : World} {s : Sl} {z : List Int} (h : CB w B d j s z) (o : OnlyD D d S w w') (hj : ¬ S j) : CB w' B d j s z := ⟨h.len, h.rng, own_keep h.own o h.col hj, h.col⟩

theorem CB.below {B C j : Nat} {d : Nat → Nat} {w w' : World} {s : Sl} {z : List Int} (h : CB w B d j s z) (hb : Below C w w') (hC : w.heap.size ≤ C) : CB w' B d j s z := ⟨h.len, h.rng, own_below h.own hb hC, h.col⟩

theorem CB.recol {B j : Nat} {d d' : Nat → Nat} {w : World} {s : Sl} {z : List Int} (h : CB w B d j s z) (hd : ∀ g, g < w.heap.size → d' g = d g) : CB w B d' j s z := ⟨h.len, h.rng, h.own, fun g hg => by rw [hd g (own_lt h.own g hg).2]; exact h.col g hg⟩

theorem CB.base {B B' j : Nat} {d : Nat → Nat} {w : World} {s : Sl} {z : List Int} (h : CB w B d j s z) (hB : B' ≤ B) : CB w B' d j s z := ⟨h.len, h.rng, ownsRow_base h.own hB, h.col⟩

theorem CB.brow {B j : Nat} {d : Nat → Nat} {w : World} {s : Sl} {z : List Int} (h : CB w B d j s z) : BRow w s.a s.n z := BRow.own2 h.own h.rng

theorem CB.nil (w : World) (B : Nat) (d : Nat → Nat) (j : Nat) : CB w B d j ⟨none, 0, 0⟩ [] := ⟨rfl, fun x hx => by simp at hx, World.ownsRow_nil _ _ _ _, fun g hg => by cases hg⟩

/-- What is made anew has any colour that one gives it. -/
theorem CB.new {w w' : World} {B j : Nat} {d : Nat → Nat} {a : Option Addr} {n c : Nat} {z : List Int} (hn : n = z.length) (hr : ∀ x ∈ z, 0 ≤ x ∧ x ≤ 255) (h : w'.ownsRow w.heap.size 5 1 (.slice a n c) n (z.map (Value.int .u8))) (hB : B ≤ w.heap.size) : CB w' B (fun g => if w.heap.size ≤ g then j else d g) j ⟨a, n, c⟩ z :=
  ⟨hn, hr, ownsRow_base h hB, fun g hg => if_pos (own_lt h g hg).1⟩

/-- A list of slices of bytes in memory of its own: its row has the colour r, its slices c, c + 3 and so on. -/
def CS (w : World) (B : Nat) (d : Nat → Nat) (r c : Nat) (s : Sl) (zss : List (List Int)) : Prop :=
  s.n = zss.length ∧ ∃ es : List Sl, es.length = zss.length ∧ w.ownsRow B 29 1 (.slice s.a s.n s.c) s.n (es.map Sl.v) ∧ (∀ g, (Value.slice s.a s.n s.c).ownBlock = some g → d g = r) ∧
    ∀ i e z, es[i]? = some e → zss[i]? = some z → CB w B d (c + 3 * i) e z

theorem CS.only {B D r c : Nat} {d : Nat → Nat} {S : Nat → Prop} {w w' : World} {s : Sl} {zss : List (List Int)} (h : CS w B d r c s zss) (o : OnlyD D d S w w') (hr : ¬ S r) (hc : ∀ i, ¬ S (c + 3 * i)) : CS w' B d r c s zss := by
  obtain ⟨h1, es, h2, h3, h4, h5⟩ := h
  exact ⟨h1, es, h2, own_keep h3 o h4 hr, h4, fun i e z he hz => (h5 i e z he hz).only o (hc i)⟩

theorem CS.below {B C r c : Nat} {d : Nat → Nat} {w w' : World} {s : Sl} {zss : List (List Int)} (h : CS w B d r c s zss) (hb : Below C w w') (hC : w.heap.size ≤ C) : CS w' B d r c s zss := by
  obtain ⟨h1, es, h2, h3, h4, h5⟩ := h
  exact ⟨h1, es, h2, own_below h3 hb hC, h4, fun i e z he hz => (h5 i e z he hz).below hb hC⟩

theorem CS.recol {B r c : Nat} {d d' : Nat → Nat} {w : World} {s : Sl} {zss : List (List Int)} (h : CS w B d r c s zss) (hd : ∀ g, g < w.heap.size → d' g = d g) : CS w B d' r c s zss := by
  obtain ⟨h1, es, h2, h3, h4, h5⟩ := h
  exact ⟨h1, es, h2, h3, fun g hg => by rw [hd g (own_lt h3 g hg).2]; exact h4 g hg, fun i e z he hz => (h5 i e z he hz).recol hd⟩

theorem CS.base {B B' r c : Nat} {d : Nat → Nat} {w : World} {s : Sl} {zss : List (List Int)} (h : CS w B d r c s zss) (hB : B' ≤ B) : CS w B' d r c s zss := by
  obtain ⟨h1, es, h2, h3, h4, h5⟩ := h
  exact ⟨h1, es, h2, ownsRow_base h3 hB, h4, fun i e z he hz => (h5 i e z he hz).base hB⟩

theorem CS.nil (w : World) (B : Nat) (d : Nat → Nat) (r c : Nat) : CS w B d r c ⟨none, 0, 0⟩ [] := ⟨rfl, [], rfl, World.ownsRow_nil _ _ _ _, (fun g hg => by cases hg), fun i e z he => by simp at he⟩

/-- The slice at a place, and what becomes of the list when it alone is written. -/
theorem CS.at {B r c : Nat} {d : Nat → Nat} {w : World} {s : Sl} {zss : List (List Int)} (h : CS w B d r c s zss) {k : Nat} {z : List Int} (hz : zss[k]? = some z) (hr : r ≠ c + 3 * k) :
    ∃ (g : Nat) (e : Sl), s.a = some ⟨g, 0, none⟩ ∧ w.cell? ⟨g, k, none⟩ = some (.slice e.a e.n e.c) ∧ CB w B d (c + 3 * k) e z ∧
      ∀ w' z', OnlyD B d (fun q => q = c + 3 * k) w w' → CB w' B d (c + 3 * k) e z' → CS w' B d r c s (zss.set k z') := by
  obtain ⟨h1, es, h2, h3, h4, h5⟩ := h
  have hk := (List.getElem?_eq_some_iff.1 hz).1
  obtain ⟨e, he⟩ : ∃ e, es[k]? = some e := ⟨_, List.getElem?_eq_getElem (by omega)⟩
  obtain ⟨g, cap, hv⟩ := own_some h3 (by omega)
  have hv2 := hv
  simp only [Value.slice.injEq] at hv2
  refine ⟨g, e, hv2.1, ?_, h5 k e z he hz, fun w' z' ho hc => ⟨by rw [List.length_set]; exact h1, es, by rw [List.length_set]; exact h2, own_keep h3 ho h4 hr, h4, fun i e' z'' he' hz'' => ?_⟩⟩
  · rw [hv] at h3
    rw [h3.cellAt k (by omega), List.getElem?_map, he]
    rfl
  · rw [List.getElem?_set] at hz''
    by_cases hik : k = i
    · subst hik
      rw [if_pos rfl, if_pos hk] at hz''
      obtain rfl := Option.some.inj hz''
      obtain rfl := Option.some.inj (he.symm.trans he')
      exact hc
    · rw [if_neg hik] at hz''
      exact (h5 i e' z'' he' hz'').only ho (fun q => hik (by omega))

theorem CS.bsrow {B r c : Nat} {d : Nat → Nat} {w : World} {s : Sl} {zss : List (List Int)} (h : CS w B d r c s zss) (hl : ∀ z ∈ zss, z.length ≤ maxLen) : BsRow w s.a s.n zss := by
  obtain ⟨h1, es, h2, h3, h4, h5⟩ := h
  refine ⟨h1.symm, hl, fun hp => ?_⟩
  obtain ⟨g, cap, hv⟩ := own_some h3 hp
  have hv2 := hv
  simp only [Value.slice.injEq] at hv2
  refine ⟨g, 0, hv2.1, fun i z hz => ?_⟩
  have hi := (List.getElem?_eq_some_iff.1 hz).1
  obtain ⟨e, he⟩ : ∃ e, es[i]? = some e := ⟨_, List.getElem?_eq_getElem (by omega)⟩
  rw [hv] at h3
  exact ⟨e.a, e.n, e.c, by rw [Nat.zero_add, h3.cellAt i (by omega), List.getElem?_map, he]; rfl, (h5 i e z he hz).brow⟩

/-- A header in memory of its own. -/
structure CH (w : World) (B : Nat) (d : Nat → Nat) (x : HS) (h : Hd) : Prop where
  p : CB w B d 0 x.p h.p
  t : CB w B d 1 x.t h.t
  s : CS w B d 5 7 x.s h.s
  r : CB w B d 2 x.r h.r
  g : CB w B d 3 x.g h.g
  e : CB w B d 4 x.e h.e
  k : CS w B d 6 8 x.k h.k

theorem CH.below {B C : Nat} {d : Nat → Nat} {w w' : World} {x : HS} {h : Hd} (o : CH w B d x h) (hb : Below C w w') (hC : w.heap.size ≤ C) : CH w' B d x h :=
  ⟨o.p.below hb hC, o.t.below hb hC, o.s.below hb hC, o.r.below hb hC, o.g.below hb hC, o.e.below hb hC, o.k.below hb hC⟩

theorem CH.base {B B' : Nat} {d : Nat → Nat} {w : World} {x : HS} {h : Hd} (o : CH w B d x h) (hB : B' ≤ B) : CH w B' d x h :=
  ⟨o.p.base hB, o.t.base hB, o.s.base hB, o.r.base hB, o.g.base hB, o.e.base hB, o.k.base hB⟩

theorem CH.recol {B : Nat} {d d' : Nat → Nat} {w : World} {x : HS} {h : Hd} (o : CH w B d x h) (hd : ∀ g, g < w.heap.size → d' g = d g) : CH w B d' x h :=
  ⟨o.p.recol hd, o.t.recol hd, o.s.recol hd, o.r.recol hd, o.g.recol hd, o.e.recol hd, o.k.recol hd⟩

theorem OnlyD.sblk {B : Nat} {d : Nat → Nat} {S : Nat → Prop} {w w' : World} (h : OnlyD B d S w w') {g : Nat} {vs : List Value} {T : TypeId} (hs : SBlk w g vs T) (hg : ¬ S (d g)) : SBlk w' g vs T := (h.2 g hs.lt hg).trans hs

theorem CH.hok {B : Nat} {d : Nat → Nat} {w : World} {x : HS} {h : Hd} (o : CH w B d x h) (m : HSm h) : HOk w x h :=
  ⟨o.p.brow, o.t.brow, o.s.bsrow (fun z hz => by have := m.sz z hz; unfold maxLen; omega), o.r.brow, o.g.brow, o.e.brow, o.k.bsrow (fun z hz => by have := m.kz z hz; unfold maxLen; omega)⟩

/-- The marks of a list of slices. -/
def mkss : Int → List (List Int) → List (List Int)
  | _, [] => []
  | k, z :: r => marks k z.length :: mkss (k + (z.length : Nat)) r

/-- The marks of a header. -/
def mkH (k : Int) (h : Hd) : Hd :=
  { h with
    p := marks k h.p.length
    t := marks (k + (h.p.length : Nat)) h.t.length
    s := mkss (k + (h.p.length : Nat) + (h.t.length : Nat)) h.s
    r := marks (k + (h.p.length : Nat) + (h.t.length : Nat) + (bsum h.s : Nat)) h.r.length
    g := marks (k + (h.p.length : Nat) + (h.t.length : Nat) + (bsum h.s : Nat) + (h.r.length : Nat)) h.g.length
    e := marks (k + (h.p.length : Nat) + (h.t.length : Nat) + (bsum h.s : Nat) + (h.r.length : Nat) + (h.g.length : Nat)) h.e.length
    k := mkss (k + (h.p.length : Nat) + (h.t.length : Nat) + (bsum h.s : Nat) + (h.r.length : Nat) + (h.g.length : Nat) + (h.e.length : Nat)) h.k }

end Go.Proofs.YtnmbdannipebnaaGreatDoor
