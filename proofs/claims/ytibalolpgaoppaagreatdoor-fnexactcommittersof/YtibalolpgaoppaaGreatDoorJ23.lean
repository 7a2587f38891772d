/- What is proved here: the contracts of the laws' helper functions that mark a header that a call made, and look for the marks later (markHeader, heldHeader). -/
import Derived.Test.YtibalolpgaoppaaGreatDoorJ6
import Derived.Test.YtibalolpgaoppaaGreatDoorJ5
import Derived.Test.YtibalolpgaoppaaGreatDoorJ22
import Derived.Test.YtibalolpgaoppaaGreatDoorJ16
import Derived.Test.YtibalolpgaoppaaGreatDoorJ12
namespace Go.Proofs.YtibalolpgaoppaaGreatDoor
open Go.RowKit
set_option linter.unusedVariables false
set_option maxRecDepth 100000

set_option maxHeartbeats 4000000 in
theorem markHeader_col (x : HS) (h : Hd) (B : Nat) (d : Nat → Nat) (k0 : Int) (w : World) (o : CH w B d x h) (hB : B ≤ w.heap.size) (hd : ∀ g, w.heap.size ≤ g → d g = 9) (m : HSm h) (ht : hTot h ≤ 1048576) (hk0 : 0 ≤ k0) (hk1 : k0 ≤ 1048576) :
    Calls Tryz.prog 30 #[.agg (hvals x h), .int .i64 k0] w fun e w' => e = .returned (.int .i64 (k0 + (hTot h : Nat))) ∧ CH w' B d x (mkH k0 h) ∧ OnlyD B d (fun q => q ≠ 9) w w' := by
  have kb := SBlk.new w (hvals x h) 26
  have bb := below_alloc w (.cells (hvals x h) 26)
  have d9 : d w.heap.size = 9 := hd _ (Nat.le_refl _)
  obtain ⟨W0, eb⟩ : ∃ W0, w.alloc (.cells (hvals x h) 26) = W0 := ⟨_, rfl⟩
  rw [eb] at kb bb
  obtain ⟨op, ot, os, or', og, oe, ok⟩ := o.below bb (Nat.le_refl _)
  have on : OnlyD B d (fun q => q ≠ 9) w W0 := OnlyD.below bb (Nat.le_refl _) hB
  have hB0 : B ≤ W0.heap.size := Nat.le_trans hB bb.size
  have HMK : Hid (∀ W', CB W' B d 0 x.p (mkH k0 h).p → CB W' B d 1 x.t (mkH k0 h).t → CS W' B d 5 7 x.s (mkH k0 h).s → CB W' B d 2 x.r (mkH k0 h).r → CB W' B d 3 x.g (mkH k0 h).g → CB W' B d 4 x.e (mkH k0 h).e → CS W' B d 6 8 x.k (mkH k0 h).k → CH W' B d x (mkH k0 h)) := fun W' a b c e f g i => ⟨a, b, c, e, f, g, i⟩
  unfold hTot at ht
  have HTOT : Hid ((hTot h : Nat) = h.p.length + h.t.length + bsum h.s + h.r.length + h.g.length + h.e.length + bsum h.k) := rfl
  generalize hTot h = tot at HTOT ⊢
  unfold hvals at kb eb ⊢
  have HM := hide m
  have EB := hide eb
  clear o m eb hd
  go_enter Tryz.func30, Tryz.ntmps30
  go_upto_region 1 with fail
  rw [unhide EB]
  clear EB bb
  have c1 := kb.cell 0
  simp only [List.getElem?_cons_zero] at c1
  have D1 := hide (markB_col B 0 d x.p h.p k0 W0 op hB0 (by omega) (by omega) (by omega))
  go_wp2_with fail
  refine (unhide D1).mono ?_
  rintro e w1 ⟨rfl, m1, n1⟩
  have ot := ot.only n1 (by omega)
  have os := os.only n1 (by omega) (by intro j; omega)
  have or' := or'.only n1 (by omega)
  have og := og.only n1 (by omega)
  have oe := oe.only n1 (by omega)
  have ok := ok.only n1 (by omega) (by intro j; omega)
  have kb := n1.sblk kb (by rw [d9]; omega)
  have on := on.trans (n1.mono (T := fun q => q ≠ 9) (by intro q e; omega))
  have hB1 : B ≤ w1.heap.size := Nat.le_trans hB0 n1.1.size
  clear n1 c1 D1
  obtain ⟨K1, eK1⟩ : ∃ K : Int, K = k0 + (h.p.length : Nat) := ⟨_, rfl⟩
  have bK1 : 0 ≤ K1 ∧ K1 ≤ 2097152 := by omega
  have EK1 := hide eK1
  clear eK1
  have c2 := kb.cell 4
  simp only [List.getElem?_cons_zero, List.getElem?_cons_succ] at c2
  have D2 := hide (markB_col B 1 d x.t h.t K1 w1 ot hB1 (by omega) (by omega) (by omega))
  go_wp2_with fail
  rw [← unhide EK1]
  refine (unhide D2).mono ?_
  rintro e w2 ⟨rfl, m2, n2⟩
  have m1 := m1.only n2 (by omega)
  have os := os.only n2 (by omega) (by intro j; omega)
  have or' := or'.only n2 (by omega)
  have og := og.only n2 (by omega)
  have oe := oe.only n2 (by omega)
  have ok := ok.only n2 (by omega) (by intro j; omega)
  have kb := n2.sblk kb (by rw [d9]; omega)
  have on := on.trans (n2.mono (T := fun q => q ≠ 9) (by intro q e; omega))
  have hB2 : B ≤ w2.heap.size := Nat.le_trans hB1 n2.1.size
  clear n2 c2 D2
  obtain ⟨K2, eK2⟩ : ∃ K : Int, K = K1 + (h.t.length : Nat) := ⟨_, rfl⟩
  have bK2 : 0 ≤ K2 ∧ K2 ≤ 2097152 := by have q1 := unhide EK1; omega
  have EK2 := hide eK2
  clear eK2
  have c3 := kb.cell 6
  simp only [List.getElem?_cons_zero, List.getElem?_cons_succ] at c3
  have D3 := hide (markSS_col B 5 7 d x.s h.s K2 w2 os (by omega) hB2 (unhide HM).s (by omega) (by omega) (by omega))
  go_wp2_with fail
  rw [← unhide EK2]
  refine (unhide D3).mono ?_
  rintro e w3 ⟨rfl, m3, n3⟩
  have m1 := m1.only n3 (by rintro ⟨i, hi⟩; omega)
  have m2 := m2.only n3 (by rintro ⟨i, hi⟩; omega)
  have or' := or'.only n3 (by rintro ⟨i, hi⟩; omega)
  have og := og.only n3 (by rintro ⟨i, hi⟩; omega)
  have oe := oe.only n3 (by rintro ⟨i, hi⟩; omega)
  have ok := ok.only n3 (by rintro ⟨i, hi⟩; omega) (by intro j; rintro ⟨i, hi⟩; omega)
  have kb := n3.sblk kb (by rw [d9]; rintro ⟨i, hi⟩; omega)
  have on := on.trans (n3.mono (T := fun q => q ≠ 9) (by rintro q ⟨i, hi⟩; omega))
  have hB3 : B ≤ w3.heap.size := Nat.le_trans hB2 n3.1.size
  clear n3 c3 D3
  obtain ⟨K3, eK3⟩ : ∃ K : Int, K = K2 + (bsum h.s : Nat) := ⟨_, rfl⟩
  have bK3 : 0 ≤ K3 ∧ K3 ≤ 2097152 := by have q1 := unhide EK1; have q2 := unhide EK2; omega
  have EK3 := hide eK3
  clear eK3
  have c4 := kb.cell 7
  simp only [List.getElem?_cons_zero, List.getElem?_cons_succ] at c4
  have D4 := hide (markB_col B 2 d x.r h.r K3 w3 or' hB3 (by omega) (by omega) (by omega))
  go_wp2_with fail
  rw [← unhide EK3]
  refine (unhide D4).mono ?_
  rintro e w4 ⟨rfl, m4, n4⟩
  have m1 := m1.only n4 (by omega)
  have m2 := m2.only n4 (by omega)
  have m3 := m3.only n4 (by omega) (by intro j; omega)
  have og := og.only n4 (by omega)
  have oe := oe.only n4 (by omega)
  have ok := ok.only n4 (by omega) (by intro j; omega)
  have kb := n4.sblk kb (by rw [d9]; omega)
  have on := on.trans (n4.mono (T := fun q => q ≠ 9) (by intro q e; omega))
  have hB4 : B ≤ w4.heap.size := Nat.le_trans hB3 n4.1.size
  clear n4 c4 D4
  obtain ⟨K4, eK4⟩ : ∃ K : Int, K = K3 + (h.r.length : Nat) := ⟨_, rfl⟩
  have bK4 : 0 ≤ K4 ∧ K4 ≤ 2097152 := by have q1 := unhide EK1; have q2 := unhide EK2; have q3 := unhide EK3; omega
  have EK4 := hide eK4
  clear eK4
  have c5 := kb.cell 8
  simp only [List.getElem?_cons_zero, List.getElem?_cons_succ] at c5
  have D5 := hide (markB_col B 3 d x.g h.g K4 w4 og hB4 (by omega) (by omega) (by omega))
  go_wp2_with fail
  rw [← unhide EK4]
  refine (unhide D5).mono ?_
  rintro e w5 ⟨rfl, m5, n5⟩
  have m1 := m1.only n5 (by omega)
  have m2 := m2.only n5 (by omega)
  have m3 := m3.only n5 (by omega) (by intro j; omega)
  have m4 := m4.only n5 (by omega)
  have oe := oe.only n5 (by omega)
  have ok := ok.only n5 (by omega) (by intro j; omega)
  have kb := n5.sblk kb (by rw [d9]; omega)
  have on := on.trans (n5.mono (T := fun q => q ≠ 9) (by intro q e; omega))
  have hB5 : B ≤ w5.heap.size := Nat.le_trans hB4 n5.1.size
  clear n5 c5 D5
  obtain ⟨K5, eK5⟩ : ∃ K : Int, K = K4 + (h.g.length : Nat) := ⟨_, rfl⟩
  have bK5 : 0 ≤ K5 ∧ K5 ≤ 2097152 := by have q1 := unhide EK1; have q2 := unhide EK2; have q3 := unhide EK3; have q4 := unhide EK4; omega
  have EK5 := hide eK5
  clear eK5
  have c6 := kb.cell 9
  simp only [List.getElem?_cons_zero, List.getElem?_cons_succ] at c6
  have D6 := hide (markB_col B 4 d x.e h.e K5 w5 oe hB5 (by omega) (by omega) (by omega))
  go_wp2_with fail
  rw [← unhide EK5]
  refine (unhide D6).mono ?_
  rintro e w6 ⟨rfl, m6, n6⟩
  have m1 := m1.only n6 (by omega)
  have m2 := m2.only n6 (by omega)
  have m3 := m3.only n6 (by omega) (by intro j; omega)
  have m4 := m4.only n6 (by omega)
  have m5 := m5.only n6 (by omega)
  have ok := ok.only n6 (by omega) (by intro j; omega)
  have kb := n6.sblk kb (by rw [d9]; omega)
  have on := on.trans (n6.mono (T := fun q => q ≠ 9) (by intro q e; omega))
  have hB6 : B ≤ w6.heap.size := Nat.le_trans hB5 n6.1.size
  clear n6 c6 D6
  obtain ⟨K6, eK6⟩ : ∃ K : Int, K = K5 + (h.e.length : Nat) := ⟨_, rfl⟩
  have bK6 : 0 ≤ K6 ∧ K6 ≤ 2097152 := by have q1 := unhide EK1; have q2 := unhide EK2; have q3 := unhide EK3; have q4 := unhide EK4; have q5 := unhide EK5; omega
  have EK6 := hide eK6
  clear eK6
  have c7 := kb.cell 10
  simp only [List.getElem?_cons_zero, List.getElem?_cons_succ] at c7
  have D7 := hide (markSS_col B 6 8 d x.k h.k K6 w6 ok (by omega) hB6 (unhide HM).k (by omega) (by omega) (by omega))
  go_wp2_with fail
  rw [← unhide EK6]
  refine (unhide D7).mono ?_
  rintro e w7 ⟨rfl, m7, n7⟩
  have m1 := m1.only n7 (by rintro ⟨i, hi⟩; omega)
  have m2 := m2.only n7 (by rintro ⟨i, hi⟩; omega)
  have m3 := m3.only n7 (by rintro ⟨i, hi⟩; omega) (by intro j; rintro ⟨i, hi⟩; omega)
  have m4 := m4.only n7 (by rintro ⟨i, hi⟩; omega)
  have m5 := m5.only n7 (by rintro ⟨i, hi⟩; omega)
  have m6 := m6.only n7 (by rintro ⟨i, hi⟩; omega)
  have kb := n7.sblk kb (by rw [d9]; rintro ⟨i, hi⟩; omega)
  have on := on.trans (n7.mono (T := fun q => q ≠ 9) (by rintro q ⟨i, hi⟩; omega))
  have hB7 : B ≤ w7.heap.size := Nat.le_trans hB6 n7.1.size
  clear n7 c7 D7
  go_wp2_with fail
  go_ret
  have t := unhide HTOT
  have t1 := unhide EK1
  have t2 := unhide EK2
  have t3 := unhide EK3
  have t4 := unhide EK4
  have t5 := unhide EK5
  have t6 := unhide EK6
  refine ⟨ret_int (by omega), (unhide HMK) _ m1 ?_ ?_ ?_ ?_ ?_ ?_, on⟩
  · have e : K1 = k0 + (h.p.length : Nat) := by omega
    show CB w7 B d 1 x.t (marks (k0 + (h.p.length : Nat)) h.t.length)
    rw [← e]
    exact m2
  · have e : K2 = k0 + (h.p.length : Nat) + (h.t.length : Nat) := by omega
    show CS w7 B d 5 7 x.s (mkss (k0 + (h.p.length : Nat) + (h.t.length : Nat)) h.s)
    rw [← e]
    exact m3
  · have e : K3 = k0 + (h.p.length : Nat) + (h.t.length : Nat) + (bsum h.s : Nat) := by omega
    show CB w7 B d 2 x.r (marks (k0 + (h.p.length : Nat) + (h.t.length : Nat) + (bsum h.s : Nat)) h.r.length)
    rw [← e]
    exact m4
  · have e : K4 = k0 + (h.p.length : Nat) + (h.t.length : Nat) + (bsum h.s : Nat) + (h.r.length : Nat) := by omega
    show CB w7 B d 3 x.g (marks (k0 + (h.p.length : Nat) + (h.t.length : Nat) + (bsum h.s : Nat) + (h.r.length : Nat)) h.g.length)
    rw [← e]
    exact m5
  · have e : K5 = k0 + (h.p.length : Nat) + (h.t.length : Nat) + (bsum h.s : Nat) + (h.r.length : Nat) + (h.g.length : Nat) := by omega
    show CB w7 B d 4 x.e (marks (k0 + (h.p.length : Nat) + (h.t.length : Nat) + (bsum h.s : Nat) + (h.r.length : Nat) + (h.g.length : Nat)) h.e.length)
    rw [← e]
    exact m6
  · have e : K6 = k0 + (h.p.length : Nat) + (h.t.length : Nat) + (bsum h.s : Nat) + (h.r.length : Nat) + (h.g.length : Nat) + (h.e.length : Nat) := by omega
    show CS w7 B d 6 8 x.k (mkss (k0 + (h.p.length : Nat) + (h.t.length : Nat) + (bsum h.s : Nat) + (h.r.length : Nat) + (h.g.length : Nat) + (h.e.length : Nat)) h.k)
    rw [← e]
    exact m7

end Go.Proofs.YtibalolpgaoppaaGreatDoor

/- What is proved here: the twelve cells of a HeaderResult, and the contracts of the laws' helper functions over one (eqHeaderResult, markHeaderResult, heldHeaderResult). -/
namespace Go.Proofs.YtibalolpgaoppaaGreatDoor
open Go.RowKit
set_option linter.unusedVariables false
set_option maxRecDepth 100000

/-- The twelve cells of a HeaderResult. -/
def hrvals (c : Int) (x : HS) (h : Hd) : Array Value := #[.int .i64 c, .slice x.p.a x.p.n x.p.c, .int .i64 h.n1, .int .i64 h.n2, .int .i64 h.n3, .slice x.t.a x.t.n x.t.c, .int .i64 h.n5, .slice x.s.a x.s.n x.s.c, .slice x.r.a x.r.n x.r.c, .slice x.g.a x.g.n x.g.c, .slice x.e.a x.e.n x.e.c, .slice x.k.a x.k.n x.k.c]

theorem hrcells {W : World} {g : Nat} {c : Int} {x : HS} {h : Hd} {T : TypeId} (b : SBlk W g (hrvals c x h).toList T) : W.cell? ⟨g, 0, none⟩ = some (.int .i64 c) ∧ W.cell? ⟨g, 1, none⟩ = some (.slice x.p.a x.p.n x.p.c) ∧ W.cell? ⟨g, 2, none⟩ = some (.int .i64 h.n1) ∧ W.cell? ⟨g, 3, none⟩ = some (.int .i64 h.n2) ∧ W.cell? ⟨g, 4, none⟩ = some (.int .i64 h.n3) ∧ W.cell? ⟨g, 5, none⟩ = some (.slice x.t.a x.t.n x.t.c) ∧ W.cell? ⟨g, 6, none⟩ = some (.int .i64 h.n5) ∧ W.cell? ⟨g, 7, none⟩ = some (.slice x.s.a x.s.n x.s.c) ∧ W.cell? ⟨g, 8, none⟩ = some (.slice x.r.a x.r.n x.r.c) ∧ W.cell? ⟨g, 9, none⟩ = some (.slice x.g.a x.g.n x.g.c) ∧ W.cell? ⟨g, 10, none⟩ = some (.slice x.e.a x.e.n x.e.c) ∧ W.cell? ⟨g, 11, none⟩ = some (.slice x.k.a x.k.n x.k.c) :=
  ⟨b.cell 0, b.cell 1, b.cell 2, b.cell 3, b.cell 4, b.cell 5, b.cell 6, b.cell 7, b.cell 8, b.cell 9, b.cell 10, b.cell 11⟩

/-- No header. -/
def hd0 : Hd := ⟨[], 0, 0, 0, [], 0, [], [], [], [], []⟩
def hs0 : HS := ⟨⟨none, 0, 0⟩, ⟨none, 0, 0⟩, ⟨none, 0, 0⟩, ⟨none, 0, 0⟩, ⟨none, 0, 0⟩, ⟨none, 0, 0⟩, ⟨none, 0, 0⟩⟩

theorem ch0 (w : World) (B : Nat) (d : Nat → Nat) : CH w B d hs0 hd0 := ⟨CB.nil _ _ _ _, CB.nil _ _ _ _, CS.nil _ _ _ _ _, CB.nil _ _ _ _, CB.nil _ _ _ _, CB.nil _ _ _ _, CS.nil _ _ _ _ _⟩

end Go.Proofs.YtibalolpgaoppaaGreatDoor

/- What is proved here: plain facts on a header's marks, and that what is written elsewhere leaves a header. -/
namespace Go.Proofs.YtibalolpgaoppaaGreatDoor
open Go.RowKit
set_option linter.unusedVariables false
set_option maxRecDepth 100000

theorem CB.onlyH {B B' C j : Nat} {d : Nat → Nat} {w w' : World} {s : Sl} {z : List Int} (h : CB w B d j s z) (o : OnlyH B' C w w') (hC : C ≤ B) : CB w' B d j s z := ⟨h.len, h.rng, o.own h.own hC, h.col⟩

theorem CS.onlyH {B B' C r c : Nat} {d : Nat → Nat} {w w' : World} {s : Sl} {zss : List (List Int)} (h : CS w B d r c s zss) (o : OnlyH B' C w w') (hC : C ≤ B) : CS w' B d r c s zss := by
  obtain ⟨h1, es, h2, h3, h4, h5⟩ := h
  exact ⟨h1, es, h2, o.own h3 hC, h4, fun i e z he hz => (h5 i e z he hz).onlyH o hC⟩

theorem CH.onlyH {B B' C : Nat} {d : Nat → Nat} {w w' : World} {x : HS} {h : Hd} (q : CH w B d x h) (o : OnlyH B' C w w') (hC : C ≤ B) : CH w' B d x h :=
  ⟨q.p.onlyH o hC, q.t.onlyH o hC, q.s.onlyH o hC, q.r.onlyH o hC, q.g.onlyH o hC, q.e.onlyH o hC, q.k.onlyH o hC⟩

theorem mkss_mem : ∀ (zss : List (List Int)) (k : Int) (z : List Int), z ∈ mkss k zss → ∃ y ∈ zss, z.length = y.length
  | [], k, z, h => by simp [mkss] at h
  | a :: r, k, z, h => by
    rw [mkss] at h
    rcases List.mem_cons.1 h with e | e
    · exact ⟨a, by simp, by rw [e, marks_length]⟩
    · obtain ⟨y, hy, he⟩ := mkss_mem r _ z e
      exact ⟨y, by simp [hy], he⟩

theorem mkH_sm {h : Hd} (k : Int) (m : HSm h) : HSm (mkH k h) := by
  refine ⟨?_, ?_, ?_, fun z hz => ?_, ?_, ?_, ?_, ?_, fun z hz => ?_⟩
  · show (marks _ _).length ≤ _; rw [marks_length]; exact m.p
  · show (marks _ _).length ≤ _; rw [marks_length]; exact m.t
  · show (mkss _ _).length ≤ _; rw [mkss_length]; exact m.s
  · obtain ⟨y, hy, he⟩ := mkss_mem _ _ z hz; rw [he]; exact m.sz y hy
  · show (marks _ _).length ≤ _; rw [marks_length]; exact m.r
  · show (marks _ _).length ≤ _; rw [marks_length]; exact m.g
  · show (marks _ _).length ≤ _; rw [marks_length]; exact m.e
  · show (mkss _ _).length ≤ _; rw [mkss_length]; exact m.k
  · obtain ⟨y, hy, he⟩ := mkss_mem _ _ z hz; rw [he]; exact m.kz y hy

end Go.Proofs.YtibalolpgaoppaaGreatDoor

/- What is proved here: plain facts for the law of who committed: rooms of what was copied in, and how long the answer is. -/
namespace Go.Proofs.YtibalolpgaoppaaGreatDoor
open Go.RowKit
set_option linter.unusedVariables false
set_option maxRecDepth 100000

theorem OBss.cap {w : World} {g : Nat} {zss : List (List Int)} {T : TypeId} {C : Nat} (o : OBss w g zss T C) : BsCap w (some ⟨g, 0, none⟩) zss.length := by
  obtain ⟨vs, f, h1, h2, h3, h4, h5⟩ := o
  intro b off e i hi
  simp only [Option.some.injEq, Addr.mk.injEq] at e
  obtain ⟨rfl, rfl, _⟩ := e
  obtain ⟨z, hz⟩ : ∃ z, zss[i]? = some z := ⟨_, List.getElem?_eq_getElem hi⟩
  have k := (h5 i z hi hz).1
  exact ⟨some ⟨f i, 0, none⟩, z.length, z.length, by rw [Nat.zero_add, h1.cell i, k], Nat.le_refl _⟩

theorem HOwn.cap {w : World} {B : Nat} {x : HS} {h : Hd} (o : HOwn w B x h) : BsCap w x.k.a x.k.n := by
  obtain ⟨g1, g2, g3, g4, g5, g6, g7, rfl, _, o1, o2, o3, o4, o5, o6, o7⟩ := o
  exact OBss.cap o7

theorem coAns_len (h : Hd) : (coAns h).length ≤ 7 := by
  unfold coAns
  split
  · rename_i hf
    have := (good_of hf.1).k
    rw [coAd_length]
    exact this
  · simp

theorem coAns_z (h : Hd) : ∀ z ∈ coAns h, z.length ≤ 4 := by
  unfold coAns
  split
  · intro z hz
    unfold coAd at hz
    obtain ⟨y, _, rfl⟩ := List.mem_map.1 hz
    rw [List.length_take]
    omega
  · intro z hz
    simp at hz

theorem bsum_le4 (zss : List (List Int)) (b : Nat) (h : ∀ z ∈ zss, z.length ≤ b) : bsum zss ≤ b * zss.length := by
  induction zss with
  | nil => simp [bsum]
  | cons z r ih =>
    have h1 := h z (by simp)
    have h2 := ih (fun y hy => h y (by simp [hy]))
    have e : bsum (z :: r) = z.length + bsum r := by simp [bsum]
    rw [e, List.length_cons, Nat.mul_add]
    omega

theorem coAns_sum (h : Hd) : bsum (coAns h) ≤ 1048576 := by
  have h1 := bsum_le4 (coAns h) 4 (coAns_z h)
  have h2 := coAns_len h
  omega

/-- What is wanted of an answer's lists. -/
structure CoSm (zss : List (List Int)) : Prop where
  l : zss.length ≤ 1048576
  z : ∀ z ∈ zss, z.length ≤ 1048576
  t : bsum zss ≤ 1048576

theorem coAns_sm (h : Hd) : CoSm (coAns h) := ⟨by have := coAns_len h; omega, fun z hz => by have := coAns_z h z hz; omega, coAns_sum h⟩

theorem CS.row {B r c : Nat} {d : Nat → Nat} {w : World} {s : Sl} {zss : List (List Int)} (h : CS w B d r c s zss) (m : CoSm zss) : BsRow w s.a s.n zss := h.bsrow (fun z hz => by have := m.z z hz; unfold maxLen; omega)

theorem CS.rowM {B r c : Nat} {d : Nat → Nat} {w : World} {s : Sl} {zss : List (List Int)} {k : Int} (h : CS w B d r c s (mkss k zss)) (m : CoSm zss) : BsRow w s.a s.n (mkss k zss) := h.bsrow (fun z hz => by obtain ⟨y, hy, he⟩ := mkss_mem _ _ z hz; have := m.z y hy; unfold maxLen; omega)

end Go.Proofs.YtibalolpgaoppaaGreatDoor
