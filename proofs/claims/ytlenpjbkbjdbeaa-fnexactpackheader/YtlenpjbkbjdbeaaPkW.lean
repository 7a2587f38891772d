/- What is proved here: the contract of the laws' helper function markHeader: it writes into the header's own blocks alone. -/
import Derived.Test.YtlenpjbkbjdbeaaPkV
import Derived.Deep.DeepCutAuto
namespace Go.Proofs.Ytlenpjbkbjdbeaa
open Go.RowKit
set_option linter.unusedVariables false

theorem BUpto.only {B C D : Nat} {w w' : World} (h : OnlyH B C w w') {g : Nat} {zss : List (List Int)} {k len : Nat} {T : TypeId} (hs : BUpto w g zss k len T D) (hg : C ≤ g) : BUpto w' g zss k len T D := by
  obtain ⟨vs, f, h1, h2, h3, h4, h5⟩ := hs
  refine ⟨vs, f, h.sblk h1 hg, h2, h3, h4, fun i z hi hz => ?_⟩
  obtain ⟨q1, q2⟩ := h5 i z hi hz
  exact ⟨q1, h.own q2 (by omega)⟩

/-- As HOwn, all below C. -/
def HOwnC (w : World) (B C : Nat) (x : HS) (h : Hd) : Prop :=
  ∃ g1 g2 g3 g4 g5 g6 g7 : Nat, x = ⟨⟨some ⟨g1, 0, none⟩, h.p.length, h.p.length⟩, ⟨some ⟨g2, 0, none⟩, h.t.length, h.t.length⟩, ⟨some ⟨g3, 0, none⟩, h.s.length, h.s.length⟩, ⟨some ⟨g4, 0, none⟩, h.r.length, h.r.length⟩, ⟨some ⟨g5, 0, none⟩, h.g.length, h.g.length⟩, ⟨some ⟨g6, 0, none⟩, h.e.length, h.e.length⟩, ⟨some ⟨g7, 0, none⟩, h.k.length, h.k.length⟩⟩ ∧
    (B ≤ g1 ∧ g1 < g2 ∧ g2 < g3 ∧ g3 < g4 ∧ g4 < g5 ∧ g5 < g6 ∧ g6 < g7 ∧ g7 < C) ∧
    w.ownsRow g1 5 1 (.slice (some ⟨g1, 0, none⟩) h.p.length h.p.length) h.p.length (h.p.map (Value.int .u8)) ∧
    w.ownsRow g2 5 1 (.slice (some ⟨g2, 0, none⟩) h.t.length h.t.length) h.t.length (h.t.map (Value.int .u8)) ∧
    OBss w g3 h.s 22 g4 ∧
    w.ownsRow g4 5 1 (.slice (some ⟨g4, 0, none⟩) h.r.length h.r.length) h.r.length (h.r.map (Value.int .u8)) ∧
    w.ownsRow g5 5 1 (.slice (some ⟨g5, 0, none⟩) h.g.length h.g.length) h.g.length (h.g.map (Value.int .u8)) ∧
    w.ownsRow g6 5 1 (.slice (some ⟨g6, 0, none⟩) h.e.length h.e.length) h.e.length (h.e.map (Value.int .u8)) ∧
    OBss w g7 h.k 22 C

theorem HOwn.c {w : World} {B : Nat} {x : HS} {h : Hd} (o : HOwn w B x h) : HOwnC w B w.heap.size x h := by
  obtain ⟨g1, g2, g3, g4, g5, g6, g7, e, ⟨a1, a2, a3, a4, a5, a6, a7⟩, o1, o2, o3, o4, o5, o6, o7⟩ := o
  exact ⟨g1, g2, g3, g4, g5, g6, g7, e, ⟨a1, a2, a3, a4, a5, a6, a7, BUpto.lt o7⟩, o1, o2, o3, o4, o5, o6, o7⟩

theorem HOwnC.below {w w' : World} {B C D : Nat} {x : HS} {h : Hd} (o : HOwnC w B C x h) (hb : Below D w w') (hD : w.heap.size ≤ D) : HOwnC w' B C x h := by
  obtain ⟨g1, g2, g3, g4, g5, g6, g7, e, a, o1, o2, o3, o4, o5, o6, o7⟩ := o
  exact ⟨g1, g2, g3, g4, g5, g6, g7, e, a, own_below o1 hb hD, own_below o2 hb hD, BUpto.below o3 hb hD, own_below o4 hb hD, own_below o5 hb hD, own_below o6 hb hD, BUpto.below o7 hb hD⟩

set_option maxRecDepth 100000 in
set_option maxHeartbeats 4000000 in
theorem markHeader_any (x : HS) (h : Hd) (B C : Nat) (w : World) (o : HOwnC w B C x h) (hC : C ≤ w.heap.size) (m : HSm h) (ht : hTot h ≤ 1048576) :
    Calls Try.prog 13 #[.agg (hvals x h), .int .i64 1] w fun e w' => e = .returned (.int .i64 (1 + (hTot h : Nat))) ∧ OnlyH B C w w' := by
  have kb := SBlk.new w (hvals x h) 28
  have bb := below_alloc w (.cells (hvals x h) 28)
  obtain ⟨W0, eb⟩ : ∃ W0, w.alloc (.cells (hvals x h) 28) = W0 := ⟨_, rfl⟩
  rw [eb] at kb bb
  obtain ⟨g1, g2, g3, g4, g5, g6, g7, rfl, ⟨a1, a2, a3, a4, a5, a6, a7, a8⟩, o1, o2, o3, o4, o5, o6, o7⟩ := o.below bb (Nat.le_refl _)
  have on : OnlyH B C w W0 := ⟨bb.mono (by omega), fun q hq hl => bb.block q hl⟩
  have tp : h.p.length ≤ 1048576 := m.p
  unfold hTot at ht
  have HTOT : Hid ((hTot h : Nat) = h.p.length + h.t.length + bsum h.s + h.r.length + h.g.length + h.e.length + bsum h.k) := rfl
  generalize hTot h = tot at HTOT ⊢
  have hgb : C ≤ w.heap.size := hC
  unfold hvals at kb eb ⊢
  have HM := hide m
  clear o m
  go_enter Try.func13, Try.ntmps13
  go_upto_region 1 with (rw [eb])
  try rw [eb]
  clear eb bb
  have c1 := kb.cell 0
  simp only [List.getElem?_cons_zero] at c1
  have D1 := hide (markB_only g1 h.p.length h.p 1 W0 o1 (by omega) (by omega) (by omega))
  go_wp2_with fail
  refine (unhide D1).mono ?_
  rintro e w1 ⟨rfl, n1⟩
  have o2 := n1.own o2 (by omega)
  have o3 := BUpto.only n1 o3 (by omega)
  have o4 := n1.own o4 (by omega)
  have o5 := n1.own o5 (by omega)
  have o6 := n1.own o6 (by omega)
  have o7 := BUpto.only n1 o7 (by omega)
  have kb := n1.sblk kb (by omega)
  have on := on.trans (n1.mono (B' := B) (C' := C) (by omega) (by omega))
  clear n1 c1 D1
  have c2 := kb.cell 4
  simp only [List.getElem?_cons_zero, List.getElem?_cons_succ] at c2
  obtain ⟨K1, eK1⟩ : ∃ K : Int, K = 1 + (h.p.length : Nat) := ⟨_, rfl⟩
  have bK1 : 0 ≤ K1 ∧ K1 ≤ 1048577 := by omega
  have D2 := hide (markB_only g2 h.t.length h.t K1 w1 o2 (by omega) (by omega) (by omega))
  have EK1 := hide eK1
  clear eK1
  go_wp2_with fail
  rw [← unhide EK1]
  refine (unhide D2).mono ?_
  rintro e w2 ⟨rfl, n2⟩
  have o3 := BUpto.only n2 o3 (by omega)
  have o4 := n2.own o4 (by omega)
  have o5 := n2.own o5 (by omega)
  have o6 := n2.own o6 (by omega)
  have o7 := BUpto.only n2 o7 (by omega)
  have kb := n2.sblk kb (by omega)
  have on := on.trans (n2.mono (B' := B) (C' := C) (by omega) (by omega))
  clear n2 c2 D2
  have c3 := kb.cell 6
  simp only [List.getElem?_cons_zero, List.getElem?_cons_succ] at c3
  obtain ⟨K2, eK2⟩ : ∃ K : Int, K = K1 + (h.t.length : Nat) := ⟨_, rfl⟩
  have bK2 : 0 ≤ K2 ∧ K2 ≤ 1048577 := by have q1 := unhide EK1; omega
  have D3 := hide (markSS_any g3 h.s 22 g4 K2 w2 o3 (by omega) (unhide HM).s (by omega) (by omega) (by omega))
  have EK2 := hide eK2
  clear eK2
  go_wp2_with fail
  rw [← unhide EK2]
  refine (unhide D3).mono ?_
  rintro e w3 ⟨rfl, n3⟩
  have o4 := n3.own o4 (by omega)
  have o5 := n3.own o5 (by omega)
  have o6 := n3.own o6 (by omega)
  have o7 := BUpto.only n3 o7 (by omega)
  have kb := n3.sblk kb (by omega)
  have on := on.trans (n3.mono (B' := B) (C' := C) (by omega) (by omega))
  clear n3 c3 D3
  have c4 := kb.cell 7
  simp only [List.getElem?_cons_zero, List.getElem?_cons_succ] at c4
  obtain ⟨K3, eK3⟩ : ∃ K : Int, K = K2 + (bsum h.s : Nat) := ⟨_, rfl⟩
  have bK3 : 0 ≤ K3 ∧ K3 ≤ 1048577 := by have q1 := unhide EK1; have q2 := unhide EK2; omega
  have D4 := hide (markB_only g4 h.r.length h.r K3 w3 o4 (by omega) (by omega) (by omega))
  have EK3 := hide eK3
  clear eK3
  go_wp2_with fail
  rw [← unhide EK3]
  refine (unhide D4).mono ?_
  rintro e w4 ⟨rfl, n4⟩
  have o5 := n4.own o5 (by omega)
  have o6 := n4.own o6 (by omega)
  have o7 := BUpto.only n4 o7 (by omega)
  have kb := n4.sblk kb (by omega)
  have on := on.trans (n4.mono (B' := B) (C' := C) (by omega) (by omega))
  clear n4 c4 D4
  have c5 := kb.cell 8
  simp only [List.getElem?_cons_zero, List.getElem?_cons_succ] at c5
  obtain ⟨K4, eK4⟩ : ∃ K : Int, K = K3 + (h.r.length : Nat) := ⟨_, rfl⟩
  have bK4 : 0 ≤ K4 ∧ K4 ≤ 1048577 := by have q1 := unhide EK1; have q2 := unhide EK2; have q3 := unhide EK3; omega
  have D5 := hide (markB_only g5 h.g.length h.g K4 w4 o5 (by omega) (by omega) (by omega))
  have EK4 := hide eK4
  clear eK4
  go_wp2_with fail
  rw [← unhide EK4]
  refine (unhide D5).mono ?_
  rintro e w5 ⟨rfl, n5⟩
  have o6 := n5.own o6 (by omega)
  have o7 := BUpto.only n5 o7 (by omega)
  have kb := n5.sblk kb (by omega)
  have on := on.trans (n5.mono (B' := B) (C' := C) (by omega) (by omega))
  clear n5 c5 D5
  have c6 := kb.cell 9
  simp only [List.getElem?_cons_zero, List.getElem?_cons_succ] at c6
  obtain ⟨K5, eK5⟩ : ∃ K : Int, K = K4 + (h.g.length : Nat) := ⟨_, rfl⟩
  have bK5 : 0 ≤ K5 ∧ K5 ≤ 1048577 := by have q1 := unhide EK1; have q2 := unhide EK2; have q3 := unhide EK3; have q4 := unhide EK4; omega
  have D6 := hide (markB_only g6 h.e.length h.e K5 w5 o6 (by omega) (by omega) (by omega))
  have EK5 := hide eK5
  clear eK5
  go_wp2_with fail
  rw [← unhide EK5]
  refine (unhide D6).mono ?_
  rintro e w6 ⟨rfl, n6⟩
  have o7 := BUpto.only n6 o7 (by omega)
  have kb := n6.sblk kb (by omega)
  have on := on.trans (n6.mono (B' := B) (C' := C) (by omega) (by omega))
  clear n6 c6 D6
  have c7 := kb.cell 10
  simp only [List.getElem?_cons_zero, List.getElem?_cons_succ] at c7
  obtain ⟨K6, eK6⟩ : ∃ K : Int, K = K5 + (h.e.length : Nat) := ⟨_, rfl⟩
  have bK6 : 0 ≤ K6 ∧ K6 ≤ 1048577 := by have q1 := unhide EK1; have q2 := unhide EK2; have q3 := unhide EK3; have q4 := unhide EK4; have q5 := unhide EK5; omega
  have D7 := hide (markSS_any g7 h.k 22 C K6 w6 o7 (by omega) (unhide HM).k (by omega) (by omega) (by omega))
  have EK6 := hide eK6
  clear eK6
  go_wp2_with fail
  rw [← unhide EK6]
  refine (unhide D7).mono ?_
  rintro e w7 ⟨rfl, n7⟩
  have kb := n7.sblk kb (by omega)
  have on := on.trans (n7.mono (B' := B) (C' := C) (by omega) (by omega))
  clear n7 c7 D7
  go_wp2_with fail
  go_ret
  refine ⟨ret_int ?_, on⟩
  have t := unhide HTOT
  have t1 := unhide EK1
  have t2 := unhide EK2
  have t3 := unhide EK3
  have t4 := unhide EK4
  have t5 := unhide EK5
  have t6 := unhide EK6
  omega

end Go.Proofs.Ytlenpjbkbjdbeaa
