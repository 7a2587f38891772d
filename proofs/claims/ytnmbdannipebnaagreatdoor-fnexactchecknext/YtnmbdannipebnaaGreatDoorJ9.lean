/- What is proved here: the contracts of the laws' helper functions that count and compare snapshots (szSnap, eqSnap). -/
import Derived.Test.YtnmbdannipebnaaGreatDoorJ7
import Derived.Test.YtnmbdannipebnaaGreatDoorJ8
import Derived.Test.YtnmbdannipebnaaGreatDoorJ4
import Derived.Test.YtnmbdannipebnaaGreatDoorJ6
import Derived.Deep.DeepCutAuto
import Derived.Test.YtnmbdannipebnaaGreatDoorJ1
import Derived.OpenShut
import Derived.Laws.OwnMore
namespace Go.Proofs.YtnmbdannipebnaaGreatDoor
open Go.RowKit
set_option linter.unusedVariables false
set_option maxRecDepth 100000

theorem sameBs_dec : ∀ (a b : List (List Int)), sameBs a b = decide (a = b)
  | [], [] => rfl
  | [], _ :: _ => by simp [sameBs]
  | _ :: _, [] => by simp [sameBs]
  | a :: r, b :: t => by
    rw [sameBs, sameBs_dec r t]
    by_cases h : a = b
    · subst h; simp [sameB]
    · simp [sameB, h]

/-- Whether two snapshots are the same. -/
def snSame (x y : Sn) : Bool := decide (x.1 = y.1) && (decide (x.2.1 = y.2.1) && (decide (x.2.2.1 = y.2.2.1) && decide (x.2.2.2 = y.2.2.2)))

theorem snSame_self (x : Sn) : snSame x x = true := by simp [snSame]

/-- The kind of a snapshot. -/
abbrev SNK : Kd Sn SnS := snK 29 109 111

structure SnSm (x : Sn) : Prop where
  s : x.2.1.length ≤ 1048576
  sz : ∀ z ∈ x.2.1, z.length ≤ 1048576
  r : x.2.2.1.length ≤ 1048576
  rz : ∀ y ∈ x.2.2.1, rcSz y ≤ 1048576
  v : x.2.2.2.length ≤ 1048576
  vz : ∀ y ∈ x.2.2.2, vtSz y ≤ 1048576

theorem snSm_of {x : Sn} (h : snSz x ≤ 1048576) : SnSm x := by
  unfold snSz at h
  exact ⟨by omega, fun z hz => by have := lsum_mem List.length _ z hz; omega, by omega, fun z hz => by have := lsum_mem rcSz _ z hz; omega, by omega, fun z hz => by have := lsum_mem vtSz _ z hz; omega⟩

/-- A snapshot copied in: its slices lie in memory of their own. -/
theorem toSnap_kd (p : Path) (e : SnS) (x : Sn) (w : World) (o : SNK.Ok w e x) (m : SnSm x) :
    Calls Tryz.prog 9 #[.agg (snvals e x)] w fun r w' => ∃ (e' : SnS) (d : Nat → Path), r = .returned (.agg (snvals e' x)) ∧ SNK.Own w' w.heap.size d p e' x ∧ Below w.heap.size w w' := by
  refine (toSnap_any p x.1 e.2.1 x.2.1 e.2.2.1 x.2.2.1 e.2.2.2 x.2.2.2 w o.1 o.2.1 m.s m.sz o.2.2.1 m.r m.rz o.2.2.2 m.v m.vz).mono ?_
  rintro r w' ⟨t1, t2, t3, d, rfl, h1, h2⟩
  exact ⟨((), t1, t2, t3), d, rfl, h1, h2⟩

set_option maxHeartbeats 2000000 in
theorem szSnap_any (e : SnS) (x : Sn) (left : Int) (w : World) (o : SNK.Ok w e x) (h0 : 0 ≤ left) (h1 : left ≤ 1048576) :
    Calls Tryz.prog 5 #[.agg (snvals e x), .int .i64 left] w fun r w' => r = .returned (.int .i64 (szOf left (snSz x))) ∧ Below w.heap.size w w' := by
  have kb := SBlk.new w (snvals e x) 28
  have bb := below_alloc w (.cells (snvals e x) 28)
  obtain ⟨W0, e0⟩ : ∃ W, w.alloc (.cells (snvals e x) 28) = W := ⟨_, rfl⟩
  rw [e0] at kb bb
  have bs := bs_of_row o.2.1
  have hl : e.2.1.n ≤ maxLen := Nat.le_trans o.2.1.room o.2.1.max
  have D1 := hide (szByteSS_any e.2.1.a e.2.1.n e.2.1.c x.2.1 left W0 (bs.below bb (Nat.le_refl _)) hl h0 (by omega))
  rw [szBss_lsum _ _ h0] at D1
  have D2 := hide (fun (L : Int) (q0 : 0 ≤ L) (q1 : L ≤ left) => szRecentS_any e.2.2.1 x.2.2.1 L W0 (o.2.2.1.below bb (Nat.le_refl _)) q0 (by omega))
  have D3 := hide (fun (W : World) (hb : Below W0.heap.size W0 W) (L : Int) (q0 : 0 ≤ L) (q1 : L ≤ left) => szVoteS_any e.2.2.2 x.2.2.2 L W (o.2.2.2.below (bb.trans (hb.mono bb.size)) (Nat.le_refl _)) q0 (by omega))
  have c0 := kb.cell 0
  have c1 := kb.cell 1
  have c2 := kb.cell 2
  have c3 := kb.cell 3
  simp only [snvals, List.getElem?_cons_zero, List.getElem?_cons_succ] at c0 c1 c2 c3
  have HK := hide (fun (W : World) (hb : Below W0.heap.size W0 W) => kb.below hb kb.lt)
  have HBB := hide bb
  unfold snSz
  generalize x.2.1.length + lsum List.length x.2.1 = a1 at D1 ⊢
  generalize x.2.2.1.length + lsum rcSz x.2.2.1 = a2 at D2 ⊢
  generalize x.2.2.2.length + lsum vtSz x.2.2.2 = a3 at D3 ⊢
  clear o bs hl kb bb
  unfold snvals at e0 ⊢
  by_cases n1 : szOf left a1 < 0
  · have q1 : szOf left a1 = -1 := szOf_neg n1 (Nat.le_refl _)
    have q2 : szOf left (a1 + a2 + a3) = -1 := szOf_neg n1 (by omega)
    rw [q1] at D1
    rw [q2]
    clear q1 q2 n1
    go_enter Tryz.func5, Tryz.ntmps5
    go_upto_region 1 with (rw [e0])
    try rw [e0]
    clear e0
    go_wp2_with fail
    refine (unhide D1).mono ?_
    rintro r w1 ⟨rfl, rfl⟩
    go_wp2_with fail
    go_ret
    exact ⟨rfl, unhide HBB⟩
  · obtain ⟨L1, eL1⟩ : ∃ L, L = szOf left a1 := ⟨_, rfl⟩
    have p1 := szOf_szOf (left := left) (a := a1) (b := a2) (by omega)
    have l1 : 0 ≤ L1 := by omega
    have l1' : L1 ≤ left := by rw [eL1]; unfold szOf; split <;> omega
    rw [← eL1] at D1 p1
    have d1 : decide (L1 < 0) = false := decide_eq_false (by omega)
    have D2' := hide ((unhide D2) L1 l1 l1')
    rw [p1] at D2'
    clear D2
    by_cases n2 : szOf left (a1 + a2) < 0
    · have q1 : szOf left (a1 + a2) = -1 := szOf_neg n2 (Nat.le_refl _)
      have q2 : szOf left (a1 + a2 + a3) = -1 := szOf_neg n2 (by omega)
      rw [q1] at D2'
      rw [q2]
      clear q1 q2 n2 n1 p1 eL1
      go_enter Tryz.func5, Tryz.ntmps5
      go_upto_region 1 with (rw [e0])
      try rw [e0]
      clear e0
      go_wp2_with fail
      refine (unhide D1).mono ?_
      rintro r w1 ⟨rfl, rfl⟩
      go_wp2_with fail
      refine (unhide D2').mono ?_
      rintro r w2 ⟨rfl, b2⟩
      have HB2 := hide ((unhide HBB).trans (b2.mono (unhide HBB).size))
      clear b2
      go_wp2_with fail
      go_ret
      exact ⟨rfl, unhide HB2⟩
    · obtain ⟨L2, eL2⟩ : ∃ L, L = szOf left (a1 + a2) := ⟨_, rfl⟩
      have p2 := szOf_szOf (left := left) (a := a1 + a2) (b := a3) (by omega)
      have l2 : 0 ≤ L2 := by omega
      have l2' : L2 ≤ left := by rw [eL2]; unfold szOf; split <;> omega
      rw [← eL2] at D2' p2
      have d2 : decide (L2 < 0) = false := decide_eq_false (by omega)
      rw [← p2]
      have D3' := hide (fun (W : World) (hb : Below W0.heap.size W0 W) => (unhide D3) W hb L2 l2 l2')
      obtain ⟨L3, eL3⟩ : ∃ L, L = szOf L2 a3 := ⟨_, rfl⟩
      have l3 : L3 < 0 → L3 = -1 := fun h => by rw [eL3] at h ⊢; exact szOf_neg h (Nat.le_refl _)
      rw [← eL3] at D3' ⊢
      clear n1 n2 p1 p2 eL1 eL2 eL3 D3
      go_enter Tryz.func5, Tryz.ntmps5
      go_upto_region 1 with (rw [e0])
      try rw [e0]
      clear e0
      go_wp2_with fail
      refine (unhide D1).mono ?_
      rintro r w1 ⟨rfl, rfl⟩
      go_wp2_with fail
      refine (unhide D2').mono ?_
      rintro r w2 ⟨rfl, b2⟩
      have HB2 := hide ((unhide HBB).trans (b2.mono (unhide HBB).size))
      have k2 := (unhide HK) w2 b2
      have c4 := k2.cell 3
      simp only [snvals, List.getElem?_cons_zero, List.getElem?_cons_succ] at c4
      have HD := hide ((unhide D3') w2 b2)
      clear b2 k2 D3'
      go_wp2_with fail
      refine (unhide HD).mono ?_
      rintro r w3 ⟨rfl, b3⟩
      have HB3 := hide ((unhide HB2).trans (b3.mono (unhide HB2).size))
      clear b3
      by_cases n3 : L3 < 0
      · have e3 := l3 n3
        subst e3
        go_wp2_with fail
        go_ret
        exact ⟨rfl, unhide HB3⟩
      · have d3 : decide (L3 < 0) = false := decide_eq_false n3
        go_wp2_with fail
        go_ret
        exact ⟨rfl, unhide HB3⟩

set_option maxHeartbeats 4000000 in
theorem eqSnap_any (e f : SnS) (x y : Sn) (w : World) (o : SNK.Ok w e x) (q : SNK.Ok w f y) (m : SnSm x) (m' : SnSm y) :
    Calls Tryz.prog 12 #[.agg (snvals e x), .agg (snvals f y)] w fun r w' => r = .returned (.bool (snSame x y)) ∧ Below w.heap.size w w' := by
  have ka := SBlk.new w (snvals e x) 40
  have ba := below_alloc w (.cells (snvals e x) 40)
  have za : (w.alloc (.cells (snvals e x) 40)).heap.size = w.heap.size + 1 := by simp
  obtain ⟨W0, ea⟩ : ∃ W0, w.alloc (.cells (snvals e x) 40) = W0 := ⟨_, rfl⟩
  rw [ea] at ka ba za
  have kb := SBlk.new W0 (snvals f y) 40
  have k1 := ka.next (.cells (snvals f y) 40)
  have bb := ba.trans ((below_alloc W0 (.cells (snvals f y) 40)).mono ba.size)
  obtain ⟨W1, eb⟩ : ∃ W1, W0.alloc (.cells (snvals f y) 40) = W1 := ⟨_, rfl⟩
  rw [za] at kb
  rw [eb] at kb k1 bb
  obtain ⟨e0, e1, e2, e3⟩ := e
  obtain ⟨f0, f1, f2, f3⟩ := f
  obtain ⟨x0, x1, x2, x3⟩ := x
  obtain ⟨y0, y1, y2, y3⟩ := y
  have D1 : Hid (Calls Tryz.prog 51 #[.slice e1.a e1.n e1.c, .slice f1.a f1.n f1.c] W1 fun r w' => r = .returned (.bool (decide (x1 = y1))) ∧ Below W1.heap.size W1 w') :=
    (eqByteSS_any e1.a f1.a e1.n e1.c f1.n f1.c x1 y1 W1 ((bs_of_row o.2.1).below bb (Nat.le_refl _)) ((bs_of_row q.2.1).below bb (Nat.le_refl _)) (by have := o.2.1.len; have := m.s; simp only at *; omega) (by have := q.2.1.len; have := m'.s; simp only at *; omega) m.sz m'.sz).mono (by
      rintro r w' ⟨rfl, n, rfl⟩
      exact ⟨by rw [sameBs_dec], below_drewN (Below.refl _ _) n⟩)
  have D2 := hide (fun (W : World) (hb : Below W1.heap.size W1 W) => eqRecentS_any e2 f2 x2 y2 W (o.2.2.1.below (bb.trans (hb.mono bb.size)) (Nat.le_refl _)) (q.2.2.1.below (bb.trans (hb.mono bb.size)) (Nat.le_refl _)) m.r m'.r m.rz m'.rz)
  have D3 := hide (fun (W : World) (hb : Below W1.heap.size W1 W) => eqVoteS_any e3 f3 x3 y3 W (o.2.2.2.below (bb.trans (hb.mono bb.size)) (Nat.le_refl _)) (q.2.2.2.below (bb.trans (hb.mono bb.size)) (Nat.le_refl _)) m.v m'.v m.vz m'.vz)
  have HKA := hide (fun (W : World) (hb : Below W1.heap.size W1 W) => k1.below hb k1.lt)
  have HKB := hide (fun (W : World) (hb : Below W1.heap.size W1 W) => kb.below hb kb.lt)
  have HBB := hide bb
  have HE : Hid (snSame (x0, x1, x2, x3) (y0, y1, y2, y3) = (decide (x0 = y0) && (decide (x1 = y1) && (decide (x2 = y2) && decide (x3 = y3))))) := rfl
  have u0 := k1.cell 0
  have u1 := k1.cell 1
  have u2 := k1.cell 2
  have u3 := k1.cell 3
  have v0 := kb.cell 0
  have v1 := kb.cell 1
  have v2 := kb.cell 2
  have v3 := kb.cell 3
  simp only [snvals, List.getElem?_cons_zero, List.getElem?_cons_succ] at u0 u1 u2 u3 v0 v1 v2 v3
  have EA := hide ea
  have EB := hide eb
  clear ea eb ka kb k1 ba bb o q m m' za
  unfold snvals at EA EB ⊢
  simp only at EA EB ⊢
  by_cases n0 : x0 = y0
  · subst n0
    have c0 : (x0 != x0) = false := by simp
    have HE' : Hid (snSame (x0, x1, x2, x3) (x0, y1, y2, y3) = (decide (x1 = y1) && (decide (x2 = y2) && decide (x3 = y3)))) := by show _ = _; rw [unhide HE]; simp
    clear HE
    generalize decide (x1 = y1) = s1 at D1 HE'
    generalize decide (x2 = y2) = s2 at D2 HE'
    generalize decide (x3 = y3) = s3 at D3 HE'
    generalize snSame (x0, x1, x2, x3) (x0, y1, y2, y3) = sa at HE' ⊢
    go_enter Tryz.func12, Tryz.ntmps12
    go_upto_region 1 with fail
    rw [unhide EA, unhide EB]
    clear EA EB
    go_wp2_with fail
    refine (unhide D1).mono ?_
    rintro r w2 ⟨rfl, b2⟩
    have B2 := hide b2
    have u4 := ((unhide HKA) w2 b2).cell 2
    have v4 := ((unhide HKB) w2 b2).cell 2
    simp only [snvals, List.getElem?_cons_zero, List.getElem?_cons_succ] at u4 v4
    clear b2
    cases s1
    · go_wp2_with fail
      go_ret
      exact ⟨ret_bool (by rw [unhide HE']; rfl), (unhide HBB).trans ((unhide B2).mono (unhide HBB).size)⟩
    go_wp2_with fail
    refine ((unhide D2) _ (unhide B2)).mono ?_
    rintro r w3 ⟨rfl, b3⟩
    have B3 := hide ((unhide B2).trans (b3.mono (unhide B2).size))
    have u5 := ((unhide HKA) w3 (unhide B3)).cell 3
    have v5 := ((unhide HKB) w3 (unhide B3)).cell 3
    simp only [snvals, List.getElem?_cons_zero, List.getElem?_cons_succ] at u5 v5
    clear b3
    cases s2
    · go_wp2_with fail
      go_ret
      exact ⟨ret_bool (by rw [unhide HE']; rfl), (unhide HBB).trans ((unhide B3).mono (unhide HBB).size)⟩
    go_wp2_with fail
    refine ((unhide D3) _ (unhide B3)).mono ?_
    rintro r w4 ⟨rfl, b4⟩
    have B4 := hide ((unhide B3).trans (b4.mono (unhide B3).size))
    clear b4
    cases s3
    · go_wp2_with fail
      go_ret
      exact ⟨ret_bool (by rw [unhide HE']; rfl), (unhide HBB).trans ((unhide B4).mono (unhide HBB).size)⟩
    · go_wp2_with fail
      go_ret
      exact ⟨ret_bool (by rw [unhide HE']; rfl), (unhide HBB).trans ((unhide B4).mono (unhide HBB).size)⟩
  · have c0 : (x0 != y0) = true := by simp [n0]
    have HE' : Hid (snSame (x0, x1, x2, x3) (y0, y1, y2, y3) = false) := by show _ = _; rw [unhide HE]; simp [n0]
    clear HE D1 D2 D3
    go_enter Tryz.func12, Tryz.ntmps12
    go_upto_region 1 with fail
    rw [unhide EA, unhide EB]
    clear EA EB
    go_wp2_with fail
    go_ret
    exact ⟨ret_bool (unhide HE').symm, unhide HBB⟩

end Go.Proofs.YtnmbdannipebnaaGreatDoor

/- What is proved here: the contract of the laws' helper function markHeader: it writes into the header's own blocks alone. -/
namespace Go.Proofs.YtnmbdannipebnaaGreatDoor
open Go.RowKit
set_option linter.unusedVariables false
set_option maxRecDepth 100000

theorem BUpto.only {B C D : Nat} {w w' : World} (h : OnlyH B C w w') {g : Nat} {zss : List (List Int)} {k len : Nat} {T : TypeId} (hs : BUpto w g zss k len T D) (hg : C ≤ g) : BUpto w' g zss k len T D := by
  obtain ⟨vs, f, h1, h2, h3, h4, h5⟩ := hs
  refine ⟨vs, f, h.sblk h1 hg, h2, h3, h4, fun i z hi hz => ?_⟩
  obtain ⟨q1, q2⟩ := h5 i z hi hz
  exact ⟨q1, h.own q2 (by omega)⟩

/-- As HOwn, all below C. -/
def HOwnC (w : World) (B C : Nat) (x : HS) (h : Hd) : Prop :=
  ∃ g1 g2 g3 g4 g5 g6 g7 : Nat, x = ⟨⟨some ⟨g1, 0, none⟩, h.p.length, h.p.length⟩, ⟨some ⟨g2, 0, none⟩, h.t.length, h.t.length⟩, ⟨some ⟨g3, 0, none⟩, h.s.length, h.s.length⟩, ⟨some ⟨g4, 0, none⟩, h.r.length, h.r.length⟩, ⟨some ⟨g5, 0, none⟩, h.g.length, h.g.length⟩, ⟨some ⟨g6, 0, none⟩, h.e.length, h.e.length⟩, ⟨some ⟨g7, 0, none⟩, h.k.length, h.k.length⟩⟩ ∧
    (B ≤ g1 ∧ g1 < g2 ∧ g2 < g3 ∧ g3 < g4 ∧ g4 < g5 ∧ g5 < g6 ∧ g6 < g7 ∧ g7 < C) ∧
    w.ownsRow g1 5 1 (.slice (some ⟨g1, 0, none⟩) h.p.length h.p.length) h.p.length (h.p.map (Value.int .u8)) ∧
    w.ownsRow g2 5 1 (.slice (some ⟨g2, 0, none⟩) h.t.length h.t.length) h.t.length (h.t.map (Value.int .u8)) ∧
    OBss w g3 h.s 29 g4 ∧
    w.ownsRow g4 5 1 (.slice (some ⟨g4, 0, none⟩) h.r.length h.r.length) h.r.length (h.r.map (Value.int .u8)) ∧
    w.ownsRow g5 5 1 (.slice (some ⟨g5, 0, none⟩) h.g.length h.g.length) h.g.length (h.g.map (Value.int .u8)) ∧
    w.ownsRow g6 5 1 (.slice (some ⟨g6, 0, none⟩) h.e.length h.e.length) h.e.length (h.e.map (Value.int .u8)) ∧
    OBss w g7 h.k 29 C

theorem HOwn.c {w : World} {B : Nat} {x : HS} {h : Hd} (o : HOwn w B x h) : HOwnC w B w.heap.size x h := by
  obtain ⟨g1, g2, g3, g4, g5, g6, g7, e, ⟨a1, a2, a3, a4, a5, a6, a7⟩, o1, o2, o3, o4, o5, o6, o7⟩ := o
  exact ⟨g1, g2, g3, g4, g5, g6, g7, e, ⟨a1, a2, a3, a4, a5, a6, a7, BUpto.lt o7⟩, o1, o2, o3, o4, o5, o6, o7⟩

theorem HOwnC.below {w w' : World} {B C D : Nat} {x : HS} {h : Hd} (o : HOwnC w B C x h) (hb : Below D w w') (hD : w.heap.size ≤ D) : HOwnC w' B C x h := by
  obtain ⟨g1, g2, g3, g4, g5, g6, g7, e, a, o1, o2, o3, o4, o5, o6, o7⟩ := o
  exact ⟨g1, g2, g3, g4, g5, g6, g7, e, a, own_below o1 hb hD, own_below o2 hb hD, BUpto.below o3 hb hD, own_below o4 hb hD, own_below o5 hb hD, own_below o6 hb hD, BUpto.below o7 hb hD⟩

end Go.Proofs.YtnmbdannipebnaaGreatDoor

/- What is proved here: plain facts on slices of items in a world, and how an argument that is such a slice reads; they hold for every program. -/
namespace Go.Proofs.YtnmbdannipebnaaGreatDoor
open Go.RowKit
set_option linter.unusedVariables false
set_option maxRecDepth 100000

/-- An item: whether it is a list, its parent, its bytes. -/
structure It where
  l : Bool
  p : Int
  z : List Int

/-- The item 'it' lies at three cells. -/
def ItAt (w : World) (b o : Nat) (it : It) : Prop :=
  ∃ sa sl sc, w.cell? ⟨b, o, none⟩ = some (.bool it.l) ∧ w.cell? ⟨b, o + 1, none⟩ = some (.int .i64 it.p) ∧ w.cell? ⟨b, o + 2, none⟩ = some (.slice sa sl sc) ∧ BRow w sa sl it.z

/-- What the numbers of an item keep to. -/
def ItOk (it : It) : Prop := -9223372036854775808 ≤ it.p ∧ it.p ≤ 9223372036854775807 ∧ it.z.length ≤ maxLen

/-- The slice 'a', of 'len' items, reads as 'its'. -/
def ItRow (w : World) (a : Option Addr) (len : Nat) (its : List It) : Prop :=
  its.length = len ∧ (∀ it ∈ its, ItOk it) ∧ (0 < len → ∃ b off, a = some ⟨b, off, none⟩ ∧ ∀ i it, its[i]? = some it → ItAt w b (off + i * 3) it)

theorem ItAt.lt {w : World} {b o : Nat} {it : It} (h : ItAt w b o it) : b < w.heap.size := by
  obtain ⟨_, _, _, h, _⟩ := h
  exact lt_of_cell h

theorem ItAt.below {w w' : World} {b o : Nat} {it : It} (h : ItAt w b o it) {B : Nat} (hb : Below B w w') (hB : w.heap.size ≤ B) : ItAt w' b o it := by
  have hl := Nat.lt_of_lt_of_le h.lt hB
  obtain ⟨sa, sl, sc, h1, h2, h3, h4⟩ := h
  exact ⟨sa, sl, sc, (hb.cell hl).trans h1, (hb.cell hl).trans h2, (hb.cell hl).trans h3, h4.below hb hB⟩

theorem ItRow.below {w w' : World} {a : Option Addr} {len : Nat} {its : List It} (h : ItRow w a len its) {B : Nat} (hb : Below B w w') (hB : w.heap.size ≤ B) : ItRow w' a len its := by
  refine ⟨h.1, h.2.1, fun hp => ?_⟩
  obtain ⟨b, off, e, k⟩ := h.2.2 hp
  exact ⟨b, off, e, fun i it hi => (k i it hi).below hb hB⟩

theorem ItRow.at {w : World} {a : Option Addr} {len : Nat} {its : List It} (h : ItRow w a len its) (hp : 0 < len) :
    ∃ b off, a = some ⟨b, off, none⟩ ∧ b < w.heap.size ∧ ∀ i it, its[i]? = some it → ItAt w b (off + i * 3) it := by
  obtain ⟨b, off, e, k⟩ := h.2.2 hp
  refine ⟨b, off, e, ?_, k⟩
  have hl : 0 < its.length := by rw [h.1]; exact hp
  exact (k 0 its[0] (List.getElem?_eq_getElem hl)).lt

theorem ItRow.bytes {w : World} {a : Option Addr} {len : Nat} {its : List It} (h : ItRow w a len its) : ∀ it ∈ its, ∀ x ∈ it.z, 0 ≤ x ∧ x ≤ 255 := by
  intro it hit
  obtain ⟨i, hi⟩ := List.getElem?_of_mem hit
  have hl := (List.getElem?_eq_some_iff.1 hi).1
  obtain ⟨b, off, _, k⟩ := h.2.2 (by rw [← h.1]; omega)
  obtain ⟨_, _, _, _, _, _, hb⟩ := k i it hi
  exact hb.2.1

end Go.Proofs.YtnmbdannipebnaaGreatDoor

/- What is proved here: plain facts on lists of items: how great they are, and whether two are the same; no program is named. -/
namespace Go.Proofs.YtnmbdannipebnaaGreatDoor
open Go.RowKit
set_option linter.unusedVariables false
set_option maxRecDepth 100000

/-- What is left of a number behind the bytes of items: below 0 at the first time: -1. -/
def szIts : Int → List It → Int
  | left, [] => left
  | left, it :: r => if left - it.z.length < 0 then -1 else szIts (left - it.z.length) r

def szAll (left : Int) (its : List It) : Int := if left - its.length < 0 then -1 else szIts (left - its.length) its

/-- All bytes of items. -/
def bytesOf (its : List It) : Nat := (its.map fun it => it.z.length).sum

/-- Whether two items, two lists of them, are the same. -/
def sameIt (a b : It) : Bool := a.l == b.l && a.p == b.p && sameB a.z b.z
def sameIts : List It → List It → Bool
  | [], [] => true
  | a :: ar, b :: bs => sameIt a b && sameIts ar bs
  | _, _ => false

end Go.Proofs.YtnmbdannipebnaaGreatDoor

/- What is proved here: plain facts on slices of items that a call made itself: the block of the items, and a block of bytes for each; they hold for every program. -/
namespace Go.Proofs.YtnmbdannipebnaaGreatDoor
open Go.RowKit
set_option linter.unusedVariables false
set_option maxRecDepth 100000

/-- A block that holds these values, none of it frozen. -/
def VBlk (w : World) (g : Nat) (vs : List Value) (T : TypeId) : Prop := w.heap[g]? = some (.cells vs.toArray T (0, 0))

theorem VBlk.cell {w : World} {g : Nat} {vs : List Value} {T : TypeId} (h : VBlk w g vs T) (i : Nat) : w.cell? ⟨g, i, none⟩ = vs[i]? := by
  simp [World.cell?, show w.heap[g]? = _ from h]

theorem VBlk.free {w : World} {g : Nat} {vs : List Value} {T : TypeId} (h : VBlk w g vs T) (i : Nat) : w.frozen? ⟨g, i, none⟩ = false := frozen_of_row w g i _ T h

theorem VBlk.set {w : World} {g : Nat} {vs : List Value} {T : TypeId} (h : VBlk w g vs T) (i : Nat) (x : Value) : VBlk (w.setCell ⟨g, i, none⟩ x) g (vs.set i x) T := by
  have := heap_setCell_same w g i _ T x h
  unfold VBlk
  rw [this]
  simp

theorem VBlk.lt {w : World} {g : Nat} {vs : List Value} {T : TypeId} (h : VBlk w g vs T) : g < w.heap.size := lt_of_block h

theorem VBlk.below {w w' : World} {g C : Nat} {vs : List Value} {T : TypeId} (h : VBlk w g vs T) (hb : Below C w w') (hC : g < C) : VBlk w' g vs T := by
  unfold VBlk
  rw [hb.block g hC]
  exact h

/-- Of the items 'its' the first k lie in the block g, each with its bytes in a block of its own, all these blocks rising. -/
def OUpto (w : World) (g : Nat) (its : List It) (k len : Nat) (T : TypeId) (C : Nat) : Prop :=
  ∃ (vs : List Value) (f : Nat → Nat), VBlk w g vs T ∧ vs.length = len * 3 ∧ (∀ i, i < k → g < f i ∧ f i < C) ∧ (∀ i j, i < j → j < k → f i < f j) ∧
    ∀ i it, i < k → its[i]? = some it → vs[i * 3]? = some (.bool it.l) ∧ vs[i * 3 + 1]? = some (.int .i64 it.p) ∧ vs[i * 3 + 2]? = some (.slice (some ⟨f i, 0, none⟩) it.z.length it.z.length) ∧
      w.ownsRow (g + 1) 5 1 (.slice (some ⟨f i, 0, none⟩) it.z.length it.z.length) it.z.length (it.z.map (Value.int .u8))

/-- All of them. -/
def OIts (w : World) (g : Nat) (its : List It) (T : TypeId) (C : Nat) : Prop := OUpto w g its its.length its.length T C

theorem OUpto.lt {w : World} {g : Nat} {its : List It} {k len : Nat} {T : TypeId} {C : Nat} (h : OUpto w g its k len T C) : g < w.heap.size := by
  obtain ⟨_, _, h, _⟩ := h
  exact h.lt

theorem OUpto.below {w w' : World} {g : Nat} {its : List It} {k len : Nat} {T : TypeId} {C : Nat} (h : OUpto w g its k len T C) {B : Nat} (hb : Below B w w') (hB : w.heap.size ≤ B) : OUpto w' g its k len T C := by
  obtain ⟨vs, f, h1, h2, h3, h4, h5⟩ := h
  refine ⟨vs, f, h1.below hb (Nat.lt_of_lt_of_le h1.lt hB), h2, h3, h4, fun i it hi hit => ?_⟩
  obtain ⟨q1, q2, q3, q4⟩ := h5 i it hi hit
  exact ⟨q1, q2, q3, own_below q4 hb hB⟩

theorem OUpto.zero {w : World} {g : Nat} {its : List It} {len : Nat} {T : TypeId} {vs : List Value} {C : Nat} (h : VBlk w g vs T) (hl : vs.length = len * 3) : OUpto w g its 0 len T C :=
  ⟨vs, fun _ => 0, h, hl, fun i hi => absurd hi (Nat.not_lt_zero _), fun i j _ hj => absurd hj (Nat.not_lt_zero _), fun i it hi => absurd hi (Nat.not_lt_zero _)⟩

/-- What is there at the place of the next one. -/
theorem OUpto.slot {w : World} {g : Nat} {its : List It} {k len : Nat} {T : TypeId} {C : Nat} (h : OUpto w g its k len T C) (hk : k < len) :
    (∃ u, w.cell? ⟨g, k * 3, none⟩ = some u) ∧ (∃ u, w.cell? ⟨g, k * 3 + 1, none⟩ = some u) ∧ (∃ u, w.cell? ⟨g, k * 3 + 2, none⟩ = some u) ∧ ∀ i, w.frozen? ⟨g, i, none⟩ = false := by
  obtain ⟨vs, f, h1, h2, _⟩ := h
  refine ⟨?_, ?_, ?_, fun i => h1.free i⟩
  all_goals
    rw [h1.cell]
    exact ⟨_, List.getElem?_eq_getElem (by omega)⟩

/-- One item more. -/
theorem OUpto.step {w w2 : World} {g m : Nat} {its : List It} {k len : Nat} {T : TypeId} {it : It} (h : OUpto w g its k len T w.heap.size) (hk : k < len) (hit : its[k]? = some it) (hb : Below w.heap.size w w2) (hm : w.heap.size ≤ m) (hm2 : m < w2.heap.size)
    (ho : w2.ownsRow (g + 1) 5 1 (.slice (some ⟨m, 0, none⟩) it.z.length it.z.length) it.z.length (it.z.map (Value.int .u8))) :
    OUpto (((w2.setCell ⟨g, k * 3, none⟩ (.bool it.l)).setCell ⟨g, k * 3 + 1, none⟩ (.int .i64 it.p)).setCell ⟨g, k * 3 + 2, none⟩ (.slice (some ⟨m, 0, none⟩) it.z.length it.z.length)) g its (k + 1) len T w2.heap.size := by
  have h' := h.below hb (Nat.le_refl _)
  have hgl := h.lt
  obtain ⟨vs, f, h1, h2, h3, h4, h5⟩ := h
  obtain ⟨q1, q2, q3⟩ : VBlk w2 g vs T ∧ (∀ i, i < k → f i < w.heap.size) ∧ True := ⟨h1.below hb h1.lt, fun i hi => (h3 i hi).2, trivial⟩
  have hlt : ∀ {B : Nat} {v : Value} {n : Nat} {xs : List Value} {W : World}, W.ownsRow (g + 1) 5 1 v n xs → ∀ i u, (W.setCell ⟨g, i, none⟩ u).ownsRow (g + 1) 5 1 v n xs := fun h i u => ownsRow_setCell_below h (Nat.lt_succ_self g) u
  refine ⟨((vs.set (k * 3) (.bool it.l)).set (k * 3 + 1) (.int .i64 it.p)).set (k * 3 + 2) (.slice (some ⟨m, 0, none⟩) it.z.length it.z.length), fun i => if i = k then m else f i, ((q1.set _ _).set _ _).set _ _, by simp [h2], fun i hi => ?_, fun i j hij hj => ?_, fun i jt hi hjt => ?_⟩
  · dsimp only
    split
    · exact ⟨by omega, hm2⟩
    · have := h3 i (by omega)
      exact ⟨this.1, Nat.lt_of_lt_of_le this.2 hb.size⟩
  · dsimp only
    rw [if_neg (by omega)]
    split
    · have := q2 i (by omega); omega
    · exact h4 i j hij (by omega)
  · dsimp only
    by_cases e : i = k
    · subst e
      rw [if_pos rfl]
      obtain rfl : jt = it := by rw [hit] at hjt; exact (Option.some.inj hjt).symm
      refine ⟨?_, ?_, ?_, hlt (B := 0) (hlt (B := 0) (hlt (B := 0) ho _ _) _ _) _ _⟩
      · rw [List.getElem?_set_ne (by omega), List.getElem?_set_ne (by omega), List.getElem?_set_self (by omega)]
      · rw [List.getElem?_set_ne (by omega), List.getElem?_set_self (by simp; omega)]
      · rw [List.getElem?_set_self (by simp; omega)]
    · rw [if_neg e]
      obtain ⟨p1, p2, p3, p4⟩ := h5 i jt (by omega) hjt
      refine ⟨?_, ?_, ?_, hlt (B := 0) (hlt (B := 0) (hlt (B := 0) (own_below p4 hb (Nat.le_refl _)) _ _) _ _) _ _⟩
      · rw [List.getElem?_set_ne (by omega), List.getElem?_set_ne (by omega), List.getElem?_set_ne (by omega)]; exact p1
      · rw [List.getElem?_set_ne (by omega), List.getElem?_set_ne (by omega), List.getElem?_set_ne (by omega)]; exact p2
      · rw [List.getElem?_set_ne (by omega), List.getElem?_set_ne (by omega), List.getElem?_set_ne (by omega)]; exact p3

/-- What is owned reads as items. -/
theorem OIts.row {w : World} {g : Nat} {its : List It} {T : TypeId} {C : Nat} (h : OIts w g its T C) (hok : ∀ it ∈ its, ItOk it) (hz : ∀ it ∈ its, ∀ x ∈ it.z, 0 ≤ x ∧ x ≤ 255) : ItRow w (some ⟨g, 0, none⟩) its.length its := by
  obtain ⟨vs, f, h1, h2, h3, h4, h5⟩ := h
  refine ⟨rfl, hok, fun _ => ⟨g, 0, rfl, fun i it hi => ?_⟩⟩
  have hil := (List.getElem?_eq_some_iff.1 hi).1
  obtain ⟨q1, q2, q3, q4⟩ := h5 i it hil hi
  refine ⟨some ⟨f i, 0, none⟩, it.z.length, it.z.length, ?_, ?_, ?_, BRow.own q4 (hz it (List.mem_of_getElem? hi))⟩
  all_goals
    rw [h1.cell]
    simpa using by assumption

end Go.Proofs.YtnmbdannipebnaaGreatDoor

/- What is proved here: slices of items whose empty bytes have no room: plain facts. -/
namespace Go.Proofs.YtnmbdannipebnaaGreatDoor
open Go.RowKit
set_option linter.unusedVariables false
set_option maxRecDepth 100000

/-- No item's bytes are a bare nil with some room. -/
def ItNil (w : World) (a : Option Addr) (len : Nat) : Prop := ∀ b off, a = some ⟨b, off, none⟩ → ∀ i, i < len → ∃ sa sl sc, w.cell? ⟨b, off + i * 3 + 2, none⟩ = some (.slice sa sl sc) ∧ (sa = none → sc = 0)

theorem ItNil.below {w w' : World} {a : Option Addr} {len : Nat} (h : ItNil w a len) {B : Nat} (hb : Below B w w') (hB : w.heap.size ≤ B) : ItNil w' a len := by
  intro b off e i hi
  obtain ⟨sa, sl, sc, hc, hn⟩ := h b off e i hi
  exact ⟨sa, sl, sc, (hb.cell (Nat.lt_of_lt_of_le (lt_of_cell hc) hB)).trans hc, hn⟩

def ItRowN (w : World) (a : Option Addr) (len : Nat) (its : List It) : Prop := ItRow w a len its ∧ ItNil w a len

theorem ItRowN.below {w w' : World} {a : Option Addr} {len : Nat} {its : List It} (h : ItRowN w a len its) {B : Nat} (hb : Below B w w') (hB : w.heap.size ≤ B) : ItRowN w' a len its := ⟨h.1.below hb hB, h.2.below hb hB⟩

theorem OIts.nilOk {w : World} {g : Nat} {its : List It} {T : TypeId} {C : Nat} (h : OIts w g its T C) : ItNil w (some ⟨g, 0, none⟩) its.length := by
  obtain ⟨vs, f, h1, h2, h3, h4, h5⟩ := h
  intro b off e i hi
  simp only [Option.some.injEq, Addr.mk.injEq, and_true] at e
  obtain ⟨rfl, rfl⟩ := e
  obtain ⟨_, _, q3, _⟩ := h5 i _ hi (List.getElem?_eq_getElem hi)
  exact ⟨_, _, _, by rw [h1.cell, Nat.zero_add]; exact q3, fun e => by cases e⟩

/-- One item of a row, its bytes no bare nil with some room. -/
theorem ItRowN.at {w : World} {a : Option Addr} {len : Nat} {its : List It} (h : ItRowN w a len its) (hp : 0 < len) :
    ∃ b off, a = some ⟨b, off, none⟩ ∧ b < w.heap.size ∧ ∀ i it, its[i]? = some it → ∃ sa sc, w.cell? ⟨b, off + i * 3, none⟩ = some (.bool it.l) ∧ w.cell? ⟨b, off + i * 3 + 1, none⟩ = some (.int .i64 it.p) ∧ w.cell? ⟨b, off + i * 3 + 2, none⟩ = some (.slice sa it.z.length sc) ∧ BRow w sa it.z.length it.z ∧ (sa = none → sc = 0) := by
  obtain ⟨b, off, e, hb, k⟩ := h.1.at hp
  refine ⟨b, off, e, hb, fun i it hi => ?_⟩
  obtain ⟨sa, sl, sc, c0, c1, c2, hr⟩ := k i it hi
  have hil : i < len := by rw [← h.1.1]; exact (List.getElem?_eq_some_iff.1 hi).1
  obtain ⟨sa', sl', sc', hc, hn⟩ := h.2 b off e i hil
  rw [c2] at hc
  simp only [Option.some.injEq, Value.slice.injEq] at hc
  obtain ⟨rfl, rfl, rfl⟩ := hc
  have := hr.1
  subst this
  exact ⟨sa, sc, c0, c1, c2, hr, hn⟩

/-- Rows of other elements lie in other blocks. -/
theorem own_apart {w : World} {B B' s s' n n' : Nat} {e e' : TypeId} {v v' : Value} {xs xs' : List Value} (h : w.ownsRow B e s v n xs) (h' : w.ownsRow B' e' s' v' n' xs') (he : e ≠ e') : ∀ g, v'.ownBlock = some g → some g ≠ v.ownBlock := by
  intro g hg heq
  rcases h.2 with ⟨q, _⟩ | ⟨b, cap, cur, q, _, hb, _⟩
  · rw [q] at heq; simp [Value.ownBlock] at heq
  · rcases h'.2 with ⟨q', _⟩ | ⟨b', cap', cur', q', _, hb', _⟩
    · rw [q'] at hg; simp [Value.ownBlock] at hg
    · rw [q] at heq; rw [q'] at hg
      simp [Value.ownBlock] at heq hg
      subst hg
      subst heq
      rw [hb] at hb'
      simp at hb'
      exact he hb'.2

end Go.Proofs.YtnmbdannipebnaaGreatDoor

/- What is proved here: items that a call makes one by one: a row of three cells an item, each with bytes of its own, kept while the row grows and other memory is written. -/
namespace Go.Proofs.YtnmbdannipebnaaGreatDoor
open Go.RowKit
set_option linter.unusedVariables false
set_option maxRecDepth 100000

/-- The cells of items whose bytes lie in the given slices. -/
def cellsOf : List It → List Value → List Value
  | [], _ => []
  | it :: its, v :: vs => .bool it.l :: .int .i64 it.p :: v :: cellsOf its vs
  | _ :: _, [] => []

theorem cellsOf_snoc : ∀ (its : List It) (vs : List Value) (it : It) (v : Value), vs.length = its.length → cellsOf (its ++ [it]) (vs ++ [v]) = cellsOf its vs ++ [.bool it.l, .int .i64 it.p, v]
  | [], [], it, v, _ => rfl
  | x :: its, u :: vs, it, v, h => by
    have := cellsOf_snoc its vs it v (by simpa using h)
    simp [cellsOf, this]
  | [], _ :: _, _, _, h => by simp at h
  | _ :: _, [], _, _, h => by simp at h

theorem cellsOf_at : ∀ (its : List It) (vs : List Value) (i : Nat) (it : It) (v : Value), vs.length = its.length → its[i]? = some it → vs[i]? = some v →
    (cellsOf its vs)[i * 3]? = some (.bool it.l) ∧ (cellsOf its vs)[i * 3 + 1]? = some (.int .i64 it.p) ∧ (cellsOf its vs)[i * 3 + 2]? = some v
  | [], _, i, it, v, _, h, _ => by simp at h
  | _ :: _, [], _, _, _, h, _, _ => by simp at h
  | x :: its, u :: vs, 0, it, v, h, h1, h2 => by
    simp at h1 h2
    subst h1 h2
    exact ⟨rfl, rfl, rfl⟩
  | x :: its, u :: vs, i + 1, it, v, h, h1, h2 => by
    have := cellsOf_at its vs i it v (by simpa using h) (by simpa using h1) (by simpa using h2)
    rw [show (i + 1) * 3 = i * 3 + 1 + 1 + 1 by omega, show i * 3 + 1 + 1 + 1 + 1 = i * 3 + 1 + 1 + 1 + 1 from rfl]
    simpa [cellsOf] using this

/-- Items that were made: their row, and the bytes of each, all behind a block B. -/
def MkR (W : World) (B : Nat) (v : Value) (n : Nat) (its : List It) : Prop :=
  its.length = n ∧ (∀ it ∈ its, ItOk it ∧ it.z.length ≤ 1000 ∧ ∀ x ∈ it.z, 0 ≤ x ∧ x ≤ 255) ∧ ∃ vs : List Value, vs.length = its.length ∧ W.ownsRow B 204 3 v n (cellsOf its vs) ∧
    ∀ (i : Nat) (it : It) (u : Value), its[i]? = some it → vs[i]? = some u → W.ownsRow B 5 1 u it.z.length (it.z.map (Value.int .u8))

theorem MkR.nil (W : World) (B : Nat) : MkR W B (.slice none 0 0) 0 [] :=
  ⟨rfl, fun it h => by simp at h, [], rfl, World.ownsRow_nil _ _ _ _, fun i it u h _ => by simp at h⟩

theorem MkR.below {W W' : World} {B C n : Nat} {v : Value} {its : List It} (h : MkR W B v n its) (hb : Below C W W') (hC : W.heap.size ≤ C) : MkR W' B v n its := by
  obtain ⟨h1, h2, vs, h3, h4, h5⟩ := h
  exact ⟨h1, h2, vs, h3, own_below h4 hb hC, fun i it u hi hu => own_below (h5 i it u hi hu) hb hC⟩

/-- The source is written: nothing of it lies there. -/
theorem MkR.source {W W' : World} {B b n : Nat} {v : Value} {its : List It} (h : MkR W B v n its) (hg : W.grownBy W' (some b)) (hb : b < B) : MkR W' B v n its := by
  obtain ⟨h1, h2, vs, h3, h4, h5⟩ := h
  exact ⟨h1, h2, vs, h3, own_grown h4 hg (fun g e e2 => by have := (h4.lt g e).1; have := Option.some.inj e2; omega), fun i it u hi hu => own_grown (h5 i it u hi hu) hg (fun g e e2 => by have := ((h5 i it u hi hu).lt g e).1; have := Option.some.inj e2; omega)⟩

/-- One item more. -/
theorem MkR.snoc {W W' : World} {B n : Nat} {v v' u : Value} {its : List It} {vs : List Value} {it : It} (h1 : its.length = n) (h2 : ∀ it ∈ its, ItOk it ∧ it.z.length ≤ 1000 ∧ ∀ x ∈ it.z, 0 ≤ x ∧ x ≤ 255) (h3 : vs.length = its.length) (h4 : W.ownsRow B 204 3 v n (cellsOf its vs))
    (h5 : ∀ (i : Nat) (it : It) (u : Value), its[i]? = some it → vs[i]? = some u → W.ownsRow B 5 1 u it.z.length (it.z.map (Value.int .u8))) (hu : W.ownsRow B 5 1 u it.z.length (it.z.map (Value.int .u8))) (hok : ItOk it ∧ it.z.length ≤ 1000 ∧ ∀ x ∈ it.z, 0 ≤ x ∧ x ≤ 255)
    (hown : W'.ownsRow B 204 3 v' (n + 1) (cellsOf its vs ++ [.bool it.l, .int .i64 it.p, u])) (hg : W.grownBy W' v.ownBlock) : MkR W' B v' (n + 1) (its ++ [it]) := by
  have keep : ∀ {q : Value} {m : Nat} {xs : List Value}, W.ownsRow B 5 1 q m xs → W'.ownsRow B 5 1 q m xs := fun hq => own_grown hq hg (own_apart h4 hq (by decide))
  refine ⟨by simp [h1], fun x hx => ?_, vs ++ [u], by simp [h3], by rw [cellsOf_snoc its vs it u h3]; exact hown, fun i x q hi hq => ?_⟩
  · rcases List.mem_append.1 hx with hx | hx
    · exact h2 x hx
    · rw [List.mem_singleton.1 hx]; exact hok
  · by_cases hlt : i < its.length
    · rw [List.getElem?_append_left hlt] at hi
      rw [List.getElem?_append_left (by omega)] at hq
      exact keep (h5 i x q hi hq)
    · rw [List.getElem?_append_right (by omega)] at hi
      rw [List.getElem?_append_right (by omega)] at hq
      rw [h3] at hq
      cases hk : i - its.length with
      | zero =>
        rw [hk] at hi hq
        simp at hi hq
        subst hi hq
        exact keep hu
      | succ m => rw [hk] at hi; simp at hi

end Go.Proofs.YtnmbdannipebnaaGreatDoor
