/- What is proved here: the contract of the laws' helper function that compares slices of slices of bytes (eqByteSS). -/
import Derived.Test.YtpkfgffgldjceaaDoorChecked
import Derived.Test.YtpkfgffgldjceaaDoorJ1
import Derived.Test.YtpkfgffgldjceaaDoorJ2
import Derived.WalkKit
import Derived.WalkLawsBesides
import Derived.WalkSmall
import Derived.Deep.RegionWith
import Derived.KernelRfl
import Derived.WalkSpells
import Derived.Test.YtpkfgffgldjceaaDoorJ4
import Derived.Test.YtpkfgffgldjceaaDoorJ5
import Derived.Test.YtpkfgffgldjceaaDoorJ3
import Derived.Lib.BytesEntry
import Derived.Deep.MidRow
namespace Go.Proofs.YtpkfgffgldjceaaDoor
open Go.RowKit
set_option linter.unusedVariables false
set_option maxRecDepth 100000

set_option maxHeartbeats 2000000 in
theorem eqByteSS_any (a b : Option Addr) (la ca lb cb : Nat) (xs ys : List (List Int)) (w : World) (ha : BsRow w a la xs) (hb : BsRow w b lb ys) (hl : la ≤ 1048576) (hl2 : lb ≤ 1048576) (hx : ∀ z ∈ xs, z.length ≤ 1048576) (hy : ∀ z ∈ ys, z.length ≤ 1048576) :
    Calls Tryd.prog 29 #[.slice a la ca, .slice b lb cb] w fun e w' => e = .returned (.bool (sameBs xs ys)) ∧ ∃ n, w' = w.drewN n := by
  have hxl := ha.1
  have hyl := hb.1
  by_cases hne : la = lb
  · subst hne
    have hlen : (((la : Nat) : Int) != ((la : Nat) : Int)) = false := by simp
    rcases Nat.eq_zero_or_pos la with h0 | hp
    · subst h0
      have hx : xs = [] := List.length_eq_zero_iff.1 hxl
      have hy : ys = [] := List.length_eq_zero_iff.1 hyl
      subst hx hy
      clear ha hb
      go_enter Tryd.func29, Tryd.ntmps29
      go_wp2_with fail
      refine wp_loop_rounds 1 ?_
      rw [rounds_succ]
      go_wp2_with fail
      go_ret
      exact ⟨rfl, 0, rfl⟩
    · obtain ⟨ba, oa, rfl, hba, hca⟩ := ha.at hp
      obtain ⟨bb, ob, rfl, hbb, hcb⟩ := hb.at hp
      have HCA := hide hca
      have HCB := hide hcb
      have HX := hide hx
      have HY := hide hy
      have HXL := hide hxl
      have HYL := hide hyl
      clear ha hb hca hcb hx hy hxl hyl
      go_enter Tryd.func29, Tryd.ntmps29
      go_wp2_with fail
      go_loopw [5] (fun i wr => ∃ k n : Nat, k ≤ la ∧ i = .int .i64 k ∧ sameBs xs ys = sameBs (xs.drop k) (ys.drop k) ∧ wr = w.drewN n) (fun i _ => la - (intOf i).toNat)
      case atStart => exact ⟨0, 0, Nat.zero_le _, rfl, by simp, rfl⟩
      case round =>
        obtain ⟨k, n, hk, rfl, hpre, rfl⟩ := hrel
        by_cases hlt : k < la
        · obtain ⟨x, hix⟩ : ∃ z, xs[k]? = some z := ⟨_, List.getElem?_eq_getElem (by rw [unhide HXL]; exact hlt)⟩
          obtain ⟨y, hiy⟩ : ∃ z, ys[k]? = some z := ⟨_, List.getElem?_eq_getElem (by rw [unhide HYL]; exact hlt)⟩
          have hst := sameBs_step xs ys k x y hix hiy
          rw [← hpre] at hst
          obtain ⟨s1, n1, d1, p0, r1⟩ := (unhide HCA) k x hix
          obtain ⟨s2, n2, d2, q0, r2⟩ := (unhide HCB) k y hiy
          have m1 : n1 ≤ 1048576 := by rw [← r1.1]; exact (unhide HX) x (List.mem_of_getElem? hix)
          have m2 : n2 ≤ 1048576 := by rw [← r2.1]; exact (unhide HY) y (List.mem_of_getElem? hiy)
          have HEQ := hide (fun (m : Nat) => eqByteS_any s1 s2 n1 d1 n2 d2 x y (w.drewN m) (r1.below (B := w.heap.size) (below_drewN (Below.refl _ _) m) (Nat.le_refl _)) (r2.below (B := w.heap.size) (below_drewN (Below.refl _ _) m) (Nat.le_refl _)) m1 m2)
          have HP := hide hpre
          have HS := hide hst
          have i1 : (0 : Int) ≤ (k : Int) := by omega
          have i2 : (k : Int) < (la : Int) := by omega
          clear r1 r2 hst hpre hix hiy m1 m2
          generalize sameB x y = sb at HEQ HS
          go_wp2_with fail
          go_region_with (first | (go_at_call 57; refine ((unhide HEQ) (n + 1)).mono ?_; rintro e w1 ⟨rfl, m, rfl⟩))
          all_goals
            cases sb
            · go_wp2_with fail
              go_ret
              exact ⟨ret_bool (by rw [unhide HS]; rfl), _, by first | rfl | exact World.drewN_drewN ..⟩
            · go_wp2_with fail
              go_roundw
              case rel => exact ⟨k + 1, _, by omega, by go_num, by rw [unhide HS]; simp, by first | rfl | exact World.drewN_drewN ..⟩
              case measure => simp [intOf]; omega
        · obtain rfl : k = la := by omega
          have e := sameBs_end xs ys k (unhide HXL) (unhide HYL)
          rw [e] at hpre
          have HE := hide hpre
          clear e hpre
          go_wp2_with fail
          go_ret
          exact ⟨ret_bool (unhide HE).symm, n, rfl⟩
  · have hlen : (((la : Nat) : Int) != ((lb : Nat) : Int)) = true := by simp; omega
    have HE := hide (sameBs_len xs ys (by rw [hxl, hyl]; exact hne))
    clear ha hb hxl hyl
    go_enter Tryd.func29, Tryd.ntmps29
    go_wp2_with fail
    go_ret
    exact ⟨ret_bool (unhide HE).symm, 0, rfl⟩

end Go.Proofs.YtpkfgffgldjceaaDoor

/- What is proved here: the contracts of the laws' helper functions that count and compare snapshots (szSnap, eqSnap). -/
namespace Go.Proofs.YtpkfgffgldjceaaDoor
open Go.RowKit
set_option linter.unusedVariables false
set_option maxRecDepth 100000

theorem sameBs_dec : ∀ (a b : List (List Int)), sameBs a b = decide (a = b)
  | [], [] => rfl
  | [], _ :: _ => by simp [sameBs]
  | _ :: _, [] => by simp [sameBs]
  | a :: r, b :: t => by
    rw [sameBs, sameBs_dec r t]
    by_cases h : a = b
    · subst h; simp [sameB]
    · simp [sameB, h]

/-- Whether two snapshots are the same. -/
def snSame (x y : Sn) : Bool := decide (x.1 = y.1) && (decide (x.2.1 = y.2.1) && (decide (x.2.2.1 = y.2.2.1) && decide (x.2.2.2 = y.2.2.2)))

theorem snSame_self (x : Sn) : snSame x x = true := by simp [snSame]

theorem snSame_iff (x y : Sn) : snSame x y = true ↔ x = y := by
  obtain ⟨x0, x1, x2, x3⟩ := x
  obtain ⟨y0, y1, y2, y3⟩ := y
  simp [snSame]

/-- The kind of a snapshot. -/
abbrev SNK : Kd Sn SnS := snK 57 60 62

structure SnSm (x : Sn) : Prop where
  s : x.2.1.length ≤ 1048576
  sz : ∀ z ∈ x.2.1, z.length ≤ 1048576
  r : x.2.2.1.length ≤ 1048576
  rz : ∀ y ∈ x.2.2.1, rcSz y ≤ 1048576
  v : x.2.2.2.length ≤ 1048576
  vz : ∀ y ∈ x.2.2.2, vtSz y ≤ 1048576

theorem snSm_of {x : Sn} (h : snSz x ≤ 1048576) : SnSm x := by
  unfold snSz at h
  exact ⟨by omega, fun z hz => by have := lsum_mem List.length _ z hz; omega, by omega, fun z hz => by have := lsum_mem rcSz _ z hz; omega, by omega, fun z hz => by have := lsum_mem vtSz _ z hz; omega⟩

/-- A snapshot copied in: its slices lie in memory of their own. -/
theorem toSnap_kd (p : Path) (e : SnS) (x : Sn) (w : World) (o : SNK.Ok w e x) (m : SnSm x) :
    Calls Tryd.prog 7 #[.agg (snvals e x)] w fun r w' => ∃ (e' : SnS) (d : Nat → Path), r = .returned (.agg (snvals e' x)) ∧ SNK.Own w' w.heap.size d p e' x ∧ Below w.heap.size w w' := by
  refine (toSnap_any p x.1 e.2.1 x.2.1 e.2.2.1 x.2.2.1 e.2.2.2 x.2.2.2 w o.1 o.2.1 m.s m.sz o.2.2.1 m.r m.rz o.2.2.2 m.v m.vz).mono ?_
  rintro r w' ⟨t1, t2, t3, d, rfl, h1, h2⟩
  exact ⟨((), t1, t2, t3), d, rfl, h1, h2⟩

set_option maxHeartbeats 2000000 in
theorem szSnap_any (e : SnS) (x : Sn) (left : Int) (w : World) (o : SNK.Ok w e x) (h0 : 0 ≤ left) (h1 : left ≤ 1048576) :
    Calls Tryd.prog 5 #[.agg (snvals e x), .int .i64 left] w fun r w' => r = .returned (.int .i64 (szOf left (snSz x))) ∧ Below w.heap.size w w' := by
  have kb := SBlk.new w (snvals e x) 26
  have bb := below_alloc w (.cells (snvals e x) 26)
  obtain ⟨W0, e0⟩ : ∃ W, w.alloc (.cells (snvals e x) 26) = W := ⟨_, rfl⟩
  rw [e0] at kb bb
  have bs := bs_of_row o.2.1
  have hl : e.2.1.n ≤ maxLen := Nat.le_trans o.2.1.room o.2.1.max
  have D1 := hide (szByteSS_any e.2.1.a e.2.1.n e.2.1.c x.2.1 left W0 (bs.below bb (Nat.le_refl _)) hl h0 (by omega))
  rw [szBss_lsum _ _ h0] at D1
  have D2 := hide (fun (L : Int) (q0 : 0 ≤ L) (q1 : L ≤ left) => szRecentS_any e.2.2.1 x.2.2.1 L W0 (o.2.2.1.below bb (Nat.le_refl _)) q0 (by omega))
  have D3 := hide (fun (W : World) (hb : Below W0.heap.size W0 W) (L : Int) (q0 : 0 ≤ L) (q1 : L ≤ left) => szVoteS_any e.2.2.2 x.2.2.2 L W (o.2.2.2.below (bb.trans (hb.mono bb.size)) (Nat.le_refl _)) q0 (by omega))
  have c0 := kb.cell 0
  have c1 := kb.cell 1
  have c2 := kb.cell 2
  have c3 := kb.cell 3
  simp only [snvals, List.getElem?_cons_zero, List.getElem?_cons_succ] at c0 c1 c2 c3
  have HK := hide (fun (W : World) (hb : Below W0.heap.size W0 W) => kb.below hb kb.lt)
  have HBB := hide bb
  unfold snSz
  generalize x.2.1.length + lsum List.length x.2.1 = a1 at D1 ⊢
  generalize x.2.2.1.length + lsum rcSz x.2.2.1 = a2 at D2 ⊢
  generalize x.2.2.2.length + lsum vtSz x.2.2.2 = a3 at D3 ⊢
  clear o bs hl kb bb
  unfold snvals at e0 ⊢
  by_cases n1 : szOf left a1 < 0
  · have q1 : szOf left a1 = -1 := szOf_neg n1 (Nat.le_refl _)
    have q2 : szOf left (a1 + a2 + a3) = -1 := szOf_neg n1 (by omega)
    rw [q1] at D1
    rw [q2]
    clear q1 q2 n1
    go_enter Tryd.func5, Tryd.ntmps5
    go_upto_region 1 with (rw [e0])
    try rw [e0]
    clear e0
    go_wp2_with fail
    refine (unhide D1).mono ?_
    rintro r w1 ⟨rfl, rfl⟩
    go_wp2_with fail
    go_ret
    exact ⟨rfl, unhide HBB⟩
  · obtain ⟨L1, eL1⟩ : ∃ L, L = szOf left a1 := ⟨_, rfl⟩
    have p1 := szOf_szOf (left := left) (a := a1) (b := a2) (by omega)
    have l1 : 0 ≤ L1 := by omega
    have l1' : L1 ≤ left := by rw [eL1]; unfold szOf; split <;> omega
    rw [← eL1] at D1 p1
    have d1 : decide (L1 < 0) = false := decide_eq_false (by omega)
    have D2' := hide ((unhide D2) L1 l1 l1')
    rw [p1] at D2'
    clear D2
    by_cases n2 : szOf left (a1 + a2) < 0
    · have q1 : szOf left (a1 + a2) = -1 := szOf_neg n2 (Nat.le_refl _)
      have q2 : szOf left (a1 + a2 + a3) = -1 := szOf_neg n2 (by omega)
      rw [q1] at D2'
      rw [q2]
      clear q1 q2 n2 n1 p1 eL1
      go_enter Tryd.func5, Tryd.ntmps5
      go_upto_region 1 with (rw [e0])
      try rw [e0]
      clear e0
      go_wp2_with fail
      refine (unhide D1).mono ?_
      rintro r w1 ⟨rfl, rfl⟩
      go_wp2_with fail
      refine (unhide D2').mono ?_
      rintro r w2 ⟨rfl, b2⟩
      have HB2 := hide ((unhide HBB).trans (b2.mono (unhide HBB).size))
      clear b2
      go_wp2_with fail
      go_ret
      exact ⟨rfl, unhide HB2⟩
    · obtain ⟨L2, eL2⟩ : ∃ L, L = szOf left (a1 + a2) := ⟨_, rfl⟩
      have p2 := szOf_szOf (left := left) (a := a1 + a2) (b := a3) (by omega)
      have l2 : 0 ≤ L2 := by omega
      have l2' : L2 ≤ left := by rw [eL2]; unfold szOf; split <;> omega
      rw [← eL2] at D2' p2
      have d2 : decide (L2 < 0) = false := decide_eq_false (by omega)
      rw [← p2]
      have D3' := hide (fun (W : World) (hb : Below W0.heap.size W0 W) => (unhide D3) W hb L2 l2 l2')
      obtain ⟨L3, eL3⟩ : ∃ L, L = szOf L2 a3 := ⟨_, rfl⟩
      have l3 : L3 < 0 → L3 = -1 := fun h => by rw [eL3] at h ⊢; exact szOf_neg h (Nat.le_refl _)
      rw [← eL3] at D3' ⊢
      clear n1 n2 p1 p2 eL1 eL2 eL3 D3
      go_enter Tryd.func5, Tryd.ntmps5
      go_upto_region 1 with (rw [e0])
      try rw [e0]
      clear e0
      go_wp2_with fail
      refine (unhide D1).mono ?_
      rintro r w1 ⟨rfl, rfl⟩
      go_wp2_with fail
      refine (unhide D2').mono ?_
      rintro r w2 ⟨rfl, b2⟩
      have HB2 := hide ((unhide HBB).trans (b2.mono (unhide HBB).size))
      have k2 := (unhide HK) w2 b2
      have c4 := k2.cell 3
      simp only [snvals, List.getElem?_cons_zero, List.getElem?_cons_succ] at c4
      have HD := hide ((unhide D3') w2 b2)
      clear b2 k2 D3'
      go_wp2_with fail
      refine (unhide HD).mono ?_
      rintro r w3 ⟨rfl, b3⟩
      have HB3 := hide ((unhide HB2).trans (b3.mono (unhide HB2).size))
      clear b3
      by_cases n3 : L3 < 0
      · have e3 := l3 n3
        subst e3
        go_wp2_with fail
        go_ret
        exact ⟨rfl, unhide HB3⟩
      · have d3 : decide (L3 < 0) = false := decide_eq_false n3
        go_wp2_with fail
        go_ret
        exact ⟨rfl, unhide HB3⟩

set_option maxHeartbeats 4000000 in
theorem eqSnap_any (e f : SnS) (x y : Sn) (w : World) (o : SNK.Ok w e x) (q : SNK.Ok w f y) (m : SnSm x) (m' : SnSm y) :
    Calls Tryd.prog 10 #[.agg (snvals e x), .agg (snvals f y)] w fun r w' => r = .returned (.bool (snSame x y)) ∧ Below w.heap.size w w' := by
  have ka := SBlk.new w (snvals e x) 34
  have ba := below_alloc w (.cells (snvals e x) 34)
  have za : (w.alloc (.cells (snvals e x) 34)).heap.size = w.heap.size + 1 := by simp
  obtain ⟨W0, ea⟩ : ∃ W0, w.alloc (.cells (snvals e x) 34) = W0 := ⟨_, rfl⟩
  rw [ea] at ka ba za
  have kb := SBlk.new W0 (snvals f y) 34
  have k1 := ka.next (.cells (snvals f y) 34)
  have bb := ba.trans ((below_alloc W0 (.cells (snvals f y) 34)).mono ba.size)
  obtain ⟨W1, eb⟩ : ∃ W1, W0.alloc (.cells (snvals f y) 34) = W1 := ⟨_, rfl⟩
  rw [za] at kb
  rw [eb] at kb k1 bb
  obtain ⟨e0, e1, e2, e3⟩ := e
  obtain ⟨f0, f1, f2, f3⟩ := f
  obtain ⟨x0, x1, x2, x3⟩ := x
  obtain ⟨y0, y1, y2, y3⟩ := y
  have D1 : Hid (Calls Tryd.prog 29 #[.slice e1.a e1.n e1.c, .slice f1.a f1.n f1.c] W1 fun r w' => r = .returned (.bool (decide (x1 = y1))) ∧ Below W1.heap.size W1 w') :=
    (eqByteSS_any e1.a f1.a e1.n e1.c f1.n f1.c x1 y1 W1 ((bs_of_row o.2.1).below bb (Nat.le_refl _)) ((bs_of_row q.2.1).below bb (Nat.le_refl _)) (by have := o.2.1.len; have := m.s; simp only at *; omega) (by have := q.2.1.len; have := m'.s; simp only at *; omega) m.sz m'.sz).mono (by
      rintro r w' ⟨rfl, n, rfl⟩
      exact ⟨by rw [sameBs_dec], below_drewN (Below.refl _ _) n⟩)
  have D2 := hide (fun (W : World) (hb : Below W1.heap.size W1 W) => eqRecentS_any e2 f2 x2 y2 W (o.2.2.1.below (bb.trans (hb.mono bb.size)) (Nat.le_refl _)) (q.2.2.1.below (bb.trans (hb.mono bb.size)) (Nat.le_refl _)) m.r m'.r m.rz m'.rz)
  have D3 := hide (fun (W : World) (hb : Below W1.heap.size W1 W) => eqVoteS_any e3 f3 x3 y3 W (o.2.2.2.below (bb.trans (hb.mono bb.size)) (Nat.le_refl _)) (q.2.2.2.below (bb.trans (hb.mono bb.size)) (Nat.le_refl _)) m.v m'.v m.vz m'.vz)
  have HKA := hide (fun (W : World) (hb : Below W1.heap.size W1 W) => k1.below hb k1.lt)
  have HKB := hide (fun (W : World) (hb : Below W1.heap.size W1 W) => kb.below hb kb.lt)
  have HBB := hide bb
  have HE : Hid (snSame (x0, x1, x2, x3) (y0, y1, y2, y3) = (decide (x0 = y0) && (decide (x1 = y1) && (decide (x2 = y2) && decide (x3 = y3))))) := rfl
  have u0 := k1.cell 0
  have u1 := k1.cell 1
  have u2 := k1.cell 2
  have u3 := k1.cell 3
  have v0 := kb.cell 0
  have v1 := kb.cell 1
  have v2 := kb.cell 2
  have v3 := kb.cell 3
  simp only [snvals, List.getElem?_cons_zero, List.getElem?_cons_succ] at u0 u1 u2 u3 v0 v1 v2 v3
  have EA := hide ea
  have EB := hide eb
  clear ea eb ka kb k1 ba bb o q m m' za
  unfold snvals at EA EB ⊢
  simp only at EA EB ⊢
  by_cases n0 : x0 = y0
  · subst n0
    have c0 : (x0 != x0) = false := by simp
    have HE' : Hid (snSame (x0, x1, x2, x3) (x0, y1, y2, y3) = (decide (x1 = y1) && (decide (x2 = y2) && decide (x3 = y3)))) := by show _ = _; rw [unhide HE]; simp
    clear HE
    generalize decide (x1 = y1) = s1 at D1 HE'
    generalize decide (x2 = y2) = s2 at D2 HE'
    generalize decide (x3 = y3) = s3 at D3 HE'
    generalize snSame (x0, x1, x2, x3) (x0, y1, y2, y3) = sa at HE' ⊢
    go_enter Tryd.func10, Tryd.ntmps10
    go_upto_region 1 with fail
    rw [unhide EA, unhide EB]
    clear EA EB
    go_wp2_with fail
    refine (unhide D1).mono ?_
    rintro r w2 ⟨rfl, b2⟩
    have B2 := hide b2
    have u4 := ((unhide HKA) w2 b2).cell 2
    have v4 := ((unhide HKB) w2 b2).cell 2
    simp only [snvals, List.getElem?_cons_zero, List.getElem?_cons_succ] at u4 v4
    clear b2
    cases s1
    · go_wp2_with fail
      go_ret
      exact ⟨ret_bool (by rw [unhide HE']; rfl), (unhide HBB).trans ((unhide B2).mono (unhide HBB).size)⟩
    go_wp2_with fail
    refine ((unhide D2) _ (unhide B2)).mono ?_
    rintro r w3 ⟨rfl, b3⟩
    have B3 := hide ((unhide B2).trans (b3.mono (unhide B2).size))
    have u5 := ((unhide HKA) w3 (unhide B3)).cell 3
    have v5 := ((unhide HKB) w3 (unhide B3)).cell 3
    simp only [snvals, List.getElem?_cons_zero, List.getElem?_cons_succ] at u5 v5
    clear b3
    cases s2
    · go_wp2_with fail
      go_ret
      exact ⟨ret_bool (by rw [unhide HE']; rfl), (unhide HBB).trans ((unhide B3).mono (unhide HBB).size)⟩
    go_wp2_with fail
    refine ((unhide D3) _ (unhide B3)).mono ?_
    rintro r w4 ⟨rfl, b4⟩
    have B4 := hide ((unhide B3).trans (b4.mono (unhide B3).size))
    clear b4
    cases s3
    · go_wp2_with fail
      go_ret
      exact ⟨ret_bool (by rw [unhide HE']; rfl), (unhide HBB).trans ((unhide B4).mono (unhide HBB).size)⟩
    · go_wp2_with fail
      go_ret
      exact ⟨ret_bool (by rw [unhide HE']; rfl), (unhide HBB).trans ((unhide B4).mono (unhide HBB).size)⟩
  · have c0 : (x0 != y0) = true := by simp [n0]
    have HE' : Hid (snSame (x0, x1, x2, x3) (y0, y1, y2, y3) = false) := by show _ = _; rw [unhide HE]; simp [n0]
    clear HE D1 D2 D3
    go_enter Tryd.func10, Tryd.ntmps10
    go_upto_region 1 with fail
    rw [unhide EA, unhide EB]
    clear EA EB
    go_wp2_with fail
    go_ret
    exact ⟨ret_bool (unhide HE').symm, unhide HBB⟩

end Go.Proofs.YtpkfgffgldjceaaDoor

/- What is proved here: what the program's IsAhead and the model's l1Ahead answer, for slices of bytes of any length: whether the first is less than the second, byte by byte. -/
namespace Go.Proofs.YtpkfgffgldjceaaDoor
open Go.RowKit
set_option linter.unusedVariables false
set_option maxRecDepth 100000

/-- Whether the first list of bytes is less than the second. -/
def aheadB (xs ys : List Int) : Bool := Op.bytesLess (strOfNums xs).toList (strOfNums ys).toList

theorem less_of_compare : ∀ (l m : List UInt8), decide (Lib.compareBytes l m < 0) = Op.bytesLess l m
  | [], [] => by simp [Lib.compareBytes, Op.bytesLess]
  | [], _ :: _ => by simp [Lib.compareBytes, Op.bytesLess]
  | _ :: _, [] => by simp [Lib.compareBytes, Op.bytesLess]
  | x :: a, y :: b => by
    have ih := less_of_compare a b
    unfold Lib.compareBytes Op.bytesLess
    by_cases h1 : x < y
    · simp [h1]
    · by_cases h2 : y < x
      · have hne : (x == y) = false := by
          rw [beq_eq_false_iff_ne]; intro e; subst e; exact h1 h2
        simp [h1, h2, hne]
      · have e : x = y := UInt8.le_antisymm (UInt8.not_lt.1 h2) (UInt8.not_lt.1 h1)
        subst e
        simp [h1, ih]

theorem run_bytesOf {P : Program} (w : World) (a : Option Addr) (len cap : Nat) (xs : List Int) (h : BRow w a len xs) :
    (Extern.Bytes.bytesOf (.slice a len cap)).run P w = .ok ⟨(Lib.bytesOf xs).toArray⟩ w := by
  cases a with
  | none =>
    have h0 := h.2.2.1 rfl
    have hx : xs = [] := List.length_eq_zero_iff.1 (by rw [h.1]; exact h0)
    subst hx
    rfl
  | some x =>
    have hl := Lib.run_loadBytesX (P := P) w xs x .empty (fun j y hj => by
      have hjl : j < xs.length := (List.getElem?_eq_some_iff.1 hj).1
      rw [h.2.2.2 x rfl j (by rw [← h.1]; exact hjl), List.getD_eq_getElem?_getD, hj]
      rfl)
    rw [h.1] at hl
    show (Extern.Bytes.loadBytes x len .empty).run P w = _
    rw [hl]
    congr 1
    apply ByteArray.ext
    show (#[] : Array UInt8) ++ (Lib.bytesOf xs).toArray = (Lib.bytesOf xs).toArray
    simp

theorem run_compare {P : Program} (w : World) (a b : Option Addr) (la ca lb cb : Nat) (xs ys : List Int) (ha : BRow w a la xs) (hb : BRow w b lb ys) :
    (Extern.BytealgCompare.compare #[.slice a la ca, .slice b lb cb]).run P w = .ok (.int .i64 (Lib.compareBytes (Lib.bytesOf xs) (Lib.bytesOf ys))) w := by
  change Sem.run P (do pure (goInt (Extern.BytealgCompare.cmp (← Extern.Bytes.bytesOf (.slice a la ca)) (← Extern.Bytes.bytesOf (.slice b lb cb))))) w = _
  simp only [Sem.run_bind, run_bytesOf w a la ca xs ha, run_bytesOf w b lb cb ys hb, Sem.run_pure, Result.andThen]
  rw [Lib.cmp_eq]
  rfl

theorem l1Ahead_any (a b : Option Addr) (la ca lb cb : Nat) (xs ys : List Int) (w : World) (ha : BRow w a la xs) (hb : BRow w b lb ys) :
    Calls Tryd.prog 82 #[.slice a la ca, .slice b lb cb] w fun e w' => e = .returned (.bool (aheadB xs ys)) ∧ w' = w := by
  have h1 := conv_any (P := Tryd.prog) w 57 5 9 Tryd.underlying57 Tryd.underlying5 Tryd.underlying9 a la ca xs ha
  have h2 := conv_any (P := Tryd.prog) w 57 5 9 Tryd.underlying57 Tryd.underlying5 Tryd.underlying9 b lb cb ys hb
  clear ha hb
  go_enter Tryd.func82, Tryd.ntmps82
  go_wp2
  go_ret
  exact ⟨rfl, rfl⟩

theorem implAhead_any (a b : Option Addr) (la ca lb cb : Nat) (xs ys : List Int) (w : World) (ha : BRow w a la xs) (hb : BRow w b lb ys) :
    Calls Tryd.prog 84 #[.slice a la ca, .slice b lb cb] w fun e w' => e = .returned (.bool (aheadB xs ys)) ∧ w' = w := by
  have hr : (callFunc 110 #[.slice a la ca, .slice b lb cb]).run Tryd.prog w = .ok (.value (.int .i64 (Lib.compareBytes (Lib.bytesOf xs) (Lib.bytesOf ys)))) w := by
    rw [run_callFunc_extern (P := Tryd.prog) Tryd.func110 (by kernel_rfl) (by kernel_rfl) (by kernel_rfl) (e := Extern.BytealgCompare.compare) (by kernel_rfl), run_compare w a b la ca lb cb xs ys ha hb]
    rfl
  have e := less_of_compare (Lib.bytesOf xs) (Lib.bytesOf ys)
  rw [← Lib.strOfNums_toList, ← Lib.strOfNums_toList] at e
  rw [← Lib.strOfNums_toList, ← Lib.strOfNums_toList] at hr
  have HE := hide e
  clear ha hb e
  generalize Lib.compareBytes (strOfNums xs).toList (strOfNums ys).toList = c at hr HE
  go_enter Tryd.func84, Tryd.ntmps84
  go_wp2
  go_ret
  exact ⟨ret_bool (unhide HE), rfl⟩

end Go.Proofs.YtpkfgffgldjceaaDoor

/- What is proved here: plain facts on the fault of a list of signers; no program is named. -/
namespace Go.Proofs.YtpkfgffgldjceaaDoor
open Go.RowKit
set_option linter.unusedVariables false
set_option maxRecDepth 100000

/-- Whether the signer at a place has a fault: no address, or not behind the one ahead. -/
def sgBad (zss : List (List Int)) (k : Nat) (z : List Int) : Bool := z.length != 4 || (decide (0 < k) && !aheadB (zss.getD (k - 1) []) z)

/-- The first fault among the signers from a place on. -/
def sgFrom (zss : List (List Int)) : Nat → List (List Int) → Int
  | _, [] => 0
  | k, z :: r => if sgBad zss k z = true then 1 else sgFrom zss (k + 1) r

def sgFlt (zss : List (List Int)) : Int := if 7 < zss.length then 2 else sgFrom zss 0 zss

theorem sgFrom_step (zss : List (List Int)) (k : Nat) (z : List Int) (h : zss[k]? = some z) : sgFrom zss k (zss.drop k) = if sgBad zss k z = true then 1 else sgFrom zss (k + 1) (zss.drop (k + 1)) := by
  obtain ⟨hk, e⟩ := List.getElem?_eq_some_iff.1 h
  rw [List.drop_eq_getElem_cons hk, e]
  rfl

theorem sgFrom_end (zss : List (List Int)) (k : Nat) (h : zss.length ≤ k) : sgFrom zss k (zss.drop k) = 0 := by
  rw [List.drop_eq_nil_of_le h]; rfl

theorem sgFrom_cases (zss : List (List Int)) : ∀ (r : List (List Int)) (k : Nat), sgFrom zss k r = 0 ∨ sgFrom zss k r = 1
  | [], k => .inl rfl
  | z :: r, k => by
    unfold sgFrom
    split
    · exact .inr rfl
    · exact sgFrom_cases zss r (k + 1)

theorem sgFlt_cases (zss : List (List Int)) : sgFlt zss = 0 ∨ sgFlt zss = 1 ∨ sgFlt zss = 2 := by
  unfold sgFlt
  split
  · omega
  · rcases sgFrom_cases zss zss 0 with h | h <;> omega

end Go.Proofs.YtpkfgffgldjceaaDoor

/- What is proved here: two lists of bytes are the same as strings just where they are the same. -/
namespace Go.Proofs.YtpkfgffgldjceaaDoor
open Go.RowKit
set_option linter.unusedVariables false
set_option maxRecDepth 100000

theorem byteList_loop (bs : ByteArray) (i : Nat) (r : List UInt8) : ByteArray.toList.loop bs i r = r.reverse ++ bs.data.toList.drop i := by
  have hsz : bs.size = bs.data.toList.length := by cases bs; rfl
  induction h : bs.size - i generalizing i r with
  | zero =>
    unfold ByteArray.toList.loop
    have : bs.size ≤ i := by omega
    rw [if_neg (by omega), List.drop_eq_nil_of_le (by omega)]
    simp
  | succ n ih =>
    unfold ByteArray.toList.loop
    have hi : i < bs.size := by omega
    rw [if_pos hi, ih (i+1) _ (by omega)]
    have hi' : i < bs.data.toList.length := by omega
    rw [List.drop_eq_getElem_cons hi', List.reverse_cons, List.append_assoc]
    congr 1
    show _ :: _ = _ :: _
    congr 1
    cases bs with
    | mk d =>
      show d[i]! = d.toList[i]
      have hd : i < d.size := by simpa using hi'
      rw [getElem!_pos d i hd, Array.getElem_toList]

theorem byteList_data (bs : ByteArray) : bs.toList = bs.data.toList := by
  unfold ByteArray.toList
  rw [byteList_loop]; rfl

theorem strEq_dec {xs ys : List Int} (hx : ∀ x ∈ xs, 0 ≤ x ∧ x ≤ 255) (hy : ∀ y ∈ ys, 0 ≤ y ∧ y ≤ 255) : strEq xs ys = decide (xs = ys) := by
  unfold strEq
  rw [byteList_data, byteList_data, strOfNums_data, strOfNums_data]
  by_cases e : xs = ys
  · subst e; simp
  · rw [decide_eq_false e, beq_eq_false_iff_ne]
    intro h
    apply e
    have inj : ∀ (a b : List Int), (∀ x ∈ a, 0 ≤ x ∧ x ≤ 255) → (∀ x ∈ b, 0 ≤ x ∧ x ≤ 255) → a.map (fun n => UInt8.ofNat n.toNat) = b.map (fun n => UInt8.ofNat n.toNat) → a = b := by
      intro a
      induction a with
      | nil => intro b _ _ h; cases b with
        | nil => rfl
        | cons y t => simp at h
      | cons x r ih =>
        intro b ha hb h
        cases b with
        | nil => simp at h
        | cons y t =>
          rw [List.map_cons, List.map_cons, List.cons.injEq] at h
          have h1 := ha x (by simp)
          have h2 := hb y (by simp)
          have e1 : x.toNat = y.toNat := by
            have q := congrArg UInt8.toNat h.1
            simp only [UInt8.toNat_ofNat'] at q
            omega
          rw [show x = y by omega, ih t (fun z hz => ha z (by simp [hz])) (fun z hz => hb z (by simp [hz])) h.2]
    exact inj xs ys hx hy h

end Go.Proofs.YtpkfgffgldjceaaDoor

/- What is proved here: plain facts on the order of lists of bytes, and on where one stands among others that rise; no program is named. -/
namespace Go.Proofs.YtpkfgffgldjceaaDoor
open Go.RowKit
set_option linter.unusedVariables false
set_option maxRecDepth 100000

/-- How two lists of bytes compare. -/
def cmpB (xs ys : List Int) : Int := Lib.compareBytes (Lib.bytesOf xs) (Lib.bytesOf ys)

theorem cmp_zero : ∀ (a b : List UInt8), Lib.compareBytes a b = 0 ↔ a = b
  | [], [] => by simp [Lib.compareBytes]
  | [], _ :: _ => by simp [Lib.compareBytes]
  | _ :: _, [] => by simp [Lib.compareBytes]
  | x :: a, y :: b => by
    unfold Lib.compareBytes
    by_cases h1 : x < y
    · have hne : x ≠ y := fun e => by subst e; exact UInt8.lt_irrefl _ h1
      simp [h1, hne]
    · by_cases h2 : y < x
      · have hne : x ≠ y := fun e => by subst e; exact h1 h2
        simp [h1, h2, hne]
      · have e : x = y := UInt8.le_antisymm (UInt8.not_lt.1 h2) (UInt8.not_lt.1 h1)
        subst e
        simp [h1, cmp_zero a b]

theorem less_trans : ∀ (a b c : List UInt8), Op.bytesLess a b = true → Op.bytesLess b c = true → Op.bytesLess a c = true
  | _, [], _, h, _ => by simp [Op.bytesLess] at h
  | _, _ :: _, [], _, h => by simp [Op.bytesLess] at h
  | [], _ :: _, _ :: _, _, _ => by simp [Op.bytesLess]
  | x :: a, y :: b, z :: c, h1, h2 => by
    simp only [Op.bytesLess, Bool.or_eq_true, decide_eq_true_eq, Bool.and_eq_true, beq_iff_eq] at h1 h2 ⊢
    rcases h1 with h1 | ⟨rfl, h1⟩
    · rcases h2 with h2 | ⟨rfl, h2⟩
      · exact .inl (UInt8.lt_trans h1 h2)
      · exact .inl h1
    · rcases h2 with h2 | ⟨rfl, h2⟩
      · exact .inl h2
      · exact .inr ⟨rfl, less_trans a b c h1 h2⟩

theorem less_irrefl : ∀ a : List UInt8, Op.bytesLess a a = false
  | [] => rfl
  | x :: a => by simp [Op.bytesLess, less_irrefl a, UInt8.lt_irrefl]

theorem aheadB_def (xs ys : List Int) : aheadB xs ys = Op.bytesLess (Lib.bytesOf xs) (Lib.bytesOf ys) := by
  unfold aheadB
  rw [Lib.strOfNums_toList, Lib.strOfNums_toList]

theorem cmpB_neg (xs ys : List Int) : decide (cmpB xs ys < 0) = aheadB xs ys := by
  rw [aheadB_def]
  exact less_of_compare _ _

theorem aheadB_trans {xs ys zs : List Int} (h1 : aheadB xs ys = true) (h2 : aheadB ys zs = true) : aheadB xs zs = true := by
  rw [aheadB_def] at *
  exact less_trans _ _ _ h1 h2

theorem aheadB_irrefl (xs : List Int) : aheadB xs xs = false := by
  rw [aheadB_def]
  exact less_irrefl _

theorem bytesOf_inj : ∀ (a b : List Int), (∀ x ∈ a, 0 ≤ x ∧ x ≤ 255) → (∀ x ∈ b, 0 ≤ x ∧ x ≤ 255) → Lib.bytesOf a = Lib.bytesOf b → a = b := by
  intro a b ha hb h
  have e := strEq_dec ha hb
  unfold strEq at e
  rw [Lib.strOfNums_toList, Lib.strOfNums_toList, h] at e
  simp at e
  exact e

theorem cmpB_zero {xs ys : List Int} (hx : ∀ x ∈ xs, 0 ≤ x ∧ x ≤ 255) (hy : ∀ x ∈ ys, 0 ≤ x ∧ x ≤ 255) : cmpB xs ys = 0 ↔ xs = ys := by
  unfold cmpB
  rw [cmp_zero]
  exact ⟨bytesOf_inj xs ys hx hy, fun e => by rw [e]⟩

/-- Signers without a fault: each is ahead of the next one. -/
theorem sgFrom_rise (zss : List (List Int)) : ∀ (n k : Nat), n = zss.length - k → sgFrom zss k (zss.drop k) = 0 → ∀ i z, k ≤ i → zss[i]? = some z → z.length = 4 ∧ (0 < i → aheadB (zss.getD (i - 1) []) z = true) := by
  intro n
  induction n with
  | zero =>
    intro k hk h i z hi hz
    have := (List.getElem?_eq_some_iff.1 hz).1
    omega
  | succ n ih =>
    intro k hk h i z hi hz
    obtain ⟨y, hy⟩ : ∃ y, zss[k]? = some y := ⟨_, List.getElem?_eq_getElem (by omega)⟩
    rw [sgFrom_step zss k y hy] at h
    split at h
    · omega
    · rename_i hb
      by_cases e : i = k
      · subst e
        obtain rfl : y = z := Option.some.inj (hy.symm.trans hz)
        unfold sgBad at hb
        simp only [Bool.or_eq_true, bne_iff_ne, ne_eq, Bool.and_eq_true, decide_eq_true_eq, Bool.not_eq_true', not_or, Decidable.not_not, not_and, Bool.not_eq_false] at hb
        exact ⟨hb.1, hb.2⟩
      · exact ih (k + 1) (by omega) h i z (by omega) hz

theorem sg_rise {zss : List (List Int)} (h : sgFlt zss = 0) : zss.length ≤ 7 ∧ (∀ z ∈ zss, z.length = 4) ∧ ∀ (i j : Nat) (x y : List Int), i < j → zss[i]? = some x → zss[j]? = some y → aheadB x y = true := by
  unfold sgFlt at h
  split at h
  · omega
  · rename_i h7
    have key := sgFrom_rise zss _ 0 rfl h
    refine ⟨by omega, fun z hz => ?_, ?_⟩
    · obtain ⟨i, hi⟩ := List.getElem?_of_mem hz
      exact (key i z (Nat.zero_le _) hi).1
    · intro i j
      induction j with
      | zero => intro x y hij; omega
      | succ j ih =>
        intro x y hij hx hy
        have h1 := (key (j + 1) y (Nat.zero_le _) hy).2 (by omega)
        have hjl : j < zss.length := by have := (List.getElem?_eq_some_iff.1 hy).1; omega
        have e1 : zss.getD (j + 1 - 1) [] = zss[j] := by rw [Nat.add_sub_cancel, List.getD_eq_getElem?_getD, List.getElem?_eq_getElem hjl]; rfl
        rw [e1] at h1
        by_cases e : i = j
        · subst e
          obtain rfl : zss[i] = x := Option.some.inj ((List.getElem?_eq_getElem hjl).symm.trans hx)
          exact h1
        · exact aheadB_trans (ih x zss[j] (by omega) hx (List.getElem?_eq_getElem hjl)) h1

/-- How many are ahead of one. -/
def plB (zss : List (List Int)) (t : List Int) : Nat := (zss.takeWhile (fun z => aheadB z t)).length

theorem plB_le (zss : List (List Int)) (t : List Int) : plB zss t ≤ zss.length := by
  unfold plB
  exact (List.takeWhile_prefix _).length_le

theorem plB_lt (zss : List (List Int)) (t : List Int) : ∀ (i : Nat) (z : List Int), zss[i]? = some z → i < plB zss t → aheadB z t = true := by
  unfold plB
  induction zss with
  | nil => intro i z hz; simp at hz
  | cons y r ih =>
    intro i z hz h
    rw [List.takeWhile_cons] at h
    split at h
    · rename_i hb
      cases i with
      | zero => simp at hz; subst hz; exact hb
      | succ i => exact ih i z (by simpa using hz) (by simpa using h)
    · simp at h

theorem plB_at (zss : List (List Int)) (t z : List Int) (h : zss[plB zss t]? = some z) : aheadB z t = false := by
  unfold plB at h
  induction zss with
  | nil => simp at h
  | cons y r ih =>
    rw [List.takeWhile_cons] at h
    split at h
    · rw [List.length_cons, List.getElem?_cons_succ] at h
      exact ih h
    · rename_i hb
      simp at h
      subst h
      simpa using hb

/-- Where all rise, just those below that place are ahead. -/
theorem plB_iff {zss : List (List Int)} (hr : ∀ (i j : Nat) (x y : List Int), i < j → zss[i]? = some x → zss[j]? = some y → aheadB x y = true) (t : List Int) (i : Nat) (z : List Int) (hz : zss[i]? = some z) : aheadB z t = decide (i < plB zss t) := by
  by_cases h : i < plB zss t
  · rw [decide_eq_true h]
    exact plB_lt zss t i z hz h
  · rw [decide_eq_false h]
    by_cases e : i = plB zss t
    · subst e
      exact plB_at zss t z hz
    · have hl : plB zss t < zss.length := by have := (List.getElem?_eq_some_iff.1 hz).1; omega
      have h1 := hr (plB zss t) i zss[plB zss t] z (by omega) (List.getElem?_eq_getElem hl) hz
      have h2 := plB_at zss t _ (List.getElem?_eq_getElem hl)
      cases h3 : aheadB z t with
      | false => rfl
      | true => rw [aheadB_trans h1 h3] at h2; cases h2

/-- One is there just where it stands at that place. -/
theorem plB_mem {zss : List (List Int)} (hr : ∀ (i j : Nat) (x y : List Int), i < j → zss[i]? = some x → zss[j]? = some y → aheadB x y = true) (t : List Int) : zss[plB zss t]? = some t ↔ t ∈ zss := by
  constructor
  · intro h; exact List.mem_of_getElem? h
  · intro h
    obtain ⟨i, hi⟩ := List.getElem?_of_mem h
    have h1 := plB_iff hr t i t hi
    rw [aheadB_irrefl] at h1
    have h2 : ¬ i < plB zss t := by simpa using h1.symm
    by_cases e : i = plB zss t
    · rw [← e]; exact hi
    · have hl : plB zss t < zss.length := by have := (List.getElem?_eq_some_iff.1 hi).1; omega
      have h3 := hr (plB zss t) i zss[plB zss t] t (by omega) (List.getElem?_eq_getElem hl) hi
      have h4 := plB_at zss t _ (List.getElem?_eq_getElem hl)
      rw [h3] at h4
      cases h4

end Go.Proofs.YtpkfgffgldjceaaDoor

/- What is proved here: plain facts on the fault of a header, and the eleven cells of one; no program is named. -/
namespace Go.Proofs.YtpkfgffgldjceaaDoor
open Go.RowKit
set_option linter.unusedVariables false
set_option maxRecDepth 100000

theorem hcells {W : World} {g : Nat} {x : HS} {h : Hd} {T : TypeId} (b : SBlk W g (hvals x h).toList T) : W.cell? ⟨g, 0, none⟩ = some (.slice x.p.a x.p.n x.p.c) ∧ W.cell? ⟨g, 1, none⟩ = some (.int .i64 h.n1) ∧ W.cell? ⟨g, 2, none⟩ = some (.int .i64 h.n2) ∧ W.cell? ⟨g, 3, none⟩ = some (.int .i64 h.n3) ∧ W.cell? ⟨g, 4, none⟩ = some (.slice x.t.a x.t.n x.t.c) ∧ W.cell? ⟨g, 5, none⟩ = some (.int .i64 h.n5) ∧ W.cell? ⟨g, 6, none⟩ = some (.slice x.s.a x.s.n x.s.c) ∧ W.cell? ⟨g, 7, none⟩ = some (.slice x.r.a x.r.n x.r.c) ∧ W.cell? ⟨g, 8, none⟩ = some (.slice x.g.a x.g.n x.g.c) ∧ W.cell? ⟨g, 9, none⟩ = some (.slice x.e.a x.e.n x.e.c) ∧ W.cell? ⟨g, 10, none⟩ = some (.slice x.k.a x.k.n x.k.c) :=
  ⟨b.cell 0, b.cell 1, b.cell 2, b.cell 3, b.cell 4, b.cell 5, b.cell 6, b.cell 7, b.cell 8, b.cell 9, b.cell 10⟩

theorem srange {W : World} {g : Nat} {vs : List Value} {T : TypeId} (b : SBlk W g vs T) : W.rangeAt g 0 vs := fun j v hj => by
  rw [Nat.zero_add, b.cell j]; exact hj

/-- Whether a field has a wrong number of bytes. -/
def hdLen (h : Hd) : Bool := ((h.p.length : Int) != 32) || (((h.t.length : Int) != 0) && ((h.t.length : Int) != 4)) || ((h.r.length : Int) != 32) || ((h.g.length : Int) != 4) || (((h.e.length : Int) != 0) && ((h.e.length : Int) != 4))

def within (n lo hi : Int) : Bool := decide (lo ≤ n ∧ n ≤ hi)

/-- Whether all numbers lie within their bounds. -/
def hdNum (h : Hd) : Bool := within h.n1 0 1099511627776 && within h.n2 0 1099511627776 && within h.n3 0 9 && within h.n5 0 2

/-- The fault of the commits from a place on. -/
def coFrom : List (List Int) → Int
  | [] => 0
  | z :: r => if z.length = 8 then coFrom r else 1

def coFlt (zss : List (List Int)) : Int := if 7 < zss.length then 2 else coFrom zss

/-- The fault of a header. -/
def hdFlt (h : Hd) : Int := if hdLen h = true then 1 else if hdNum h = false then 3 else if sgFlt h.s = 0 then coFlt h.k else sgFlt h.s

theorem coFrom_step (zss : List (List Int)) (k : Nat) (z : List Int) (h : zss[k]? = some z) : coFrom (zss.drop k) = if z.length = 8 then coFrom (zss.drop (k + 1)) else 1 := by
  obtain ⟨hk, e⟩ := List.getElem?_eq_some_iff.1 h
  rw [List.drop_eq_getElem_cons hk, e]
  rfl

theorem coFrom_end (zss : List (List Int)) (k : Nat) (h : zss.length ≤ k) : coFrom (zss.drop k) = 0 := by
  rw [List.drop_eq_nil_of_le h]; rfl

end Go.Proofs.YtpkfgffgldjceaaDoor

/- What is proved here: plain facts on the fault of a snapshot; no program is named. -/
namespace Go.Proofs.YtpkfgffgldjceaaDoor
open Go.RowKit
set_option linter.unusedVariables false
set_option maxRecDepth 100000

/-- The fault of one vote, where some stand ahead of it. -/
def vtOne (sg : List (List Int)) (seen : List (List Int × List Int)) (v : Vt) : Int :=
  if (v.1.length == 4 && v.2.1.length == 4) = false then 1 else if decide (v.1 ∈ sg) = false then 4 else if (v.2.2 == decide (v.2.1 ∈ sg)) = true then 8 else if decide ((v.1, v.2.1) ∈ seen) = true then 6 else 0

/-- Who votes on whom. -/
def vtKeys (vs : List Vt) : List (List Int × List Int) := vs.map (fun v => (v.1, v.2.1))

/-- The first fault among the votes from a place on. -/
def vtFrom (sg : List (List Int)) (vs : List Vt) : Nat → List Vt → Int
  | _, [] => 0
  | k, v :: r => if vtOne sg (vtKeys (vs.take k)) v = 0 then vtFrom sg vs (k + 1) r else vtOne sg (vtKeys (vs.take k)) v

def rcOne (last least : Int) (r : Rc) : Int := if (r.2.length == 4) = false then 1 else if within r.1 least last = false then 3 else 0

/-- The first fault among recents, the first of which has to be at least so much. -/
def rcFrom (last : Int) : Int → List Rc → Int
  | _, [] => 0
  | least, r :: t => if rcOne last least r = 0 then rcFrom last (r.1 + 1) t else rcOne last least r

def sgSome (zss : List (List Int)) : Int := if zss.length = 0 then 4 else sgFlt zss

def snFlt (x : Sn) : Int :=
  if within x.1 0 1099511627776 = false then 3
  else if sgSome x.2.1 ≠ 0 then sgSome x.2.1
  else if 7 < x.2.2.1.length ∨ 30 < x.2.2.2.length then 2
  else if rcFrom x.1 0 x.2.2.1 ≠ 0 then rcFrom x.1 0 x.2.2.1
  else vtFrom x.2.1 x.2.2.2 0 x.2.2.2

theorem vtFrom_step (sg : List (List Int)) (vs : List Vt) (k : Nat) (v : Vt) (h : vs[k]? = some v) : vtFrom sg vs k (vs.drop k) = if vtOne sg (vtKeys (vs.take k)) v = 0 then vtFrom sg vs (k + 1) (vs.drop (k + 1)) else vtOne sg (vtKeys (vs.take k)) v := by
  obtain ⟨hk, e⟩ := List.getElem?_eq_some_iff.1 h
  rw [List.drop_eq_getElem_cons hk, e]
  rfl

theorem vtKeys_snoc (vs : List Vt) (k : Nat) (v : Vt) (h : vs[k]? = some v) : vtKeys (vs.take (k + 1)) = vtKeys (vs.take k) ++ [(v.1, v.2.1)] := by
  obtain ⟨hk, e⟩ := List.getElem?_eq_some_iff.1 h
  unfold vtKeys
  rw [List.take_succ_eq_append_getElem hk, List.map_append, e]
  rfl

theorem rcFrom_step (last least : Int) (rs : List Rc) (k : Nat) (r : Rc) (h : rs[k]? = some r) : rcFrom last least (rs.drop k) = if rcOne last least r = 0 then rcFrom last (r.1 + 1) (rs.drop (k + 1)) else rcOne last least r := by
  obtain ⟨hk, e⟩ := List.getElem?_eq_some_iff.1 h
  rw [List.drop_eq_getElem_cons hk, e]
  rfl

theorem vtOne_zero {sg : List (List Int)} {seen : List (List Int × List Int)} {v : Vt} (h : vtOne sg seen v = 0) : v.1.length = 4 ∧ v.2.1.length = 4 ∧ v.1 ∈ sg ∧ v.2.2 ≠ decide (v.2.1 ∈ sg) ∧ (v.1, v.2.1) ∉ seen := by
  unfold vtOne at h
  split at h
  · omega
  · rename_i h1
    split at h
    · omega
    · rename_i h2
      split at h
      · omega
      · rename_i h3
        split at h
        · omega
        · rename_i h4
          simp at h1 h2 h3 h4
          exact ⟨h1.1, h1.2, h2, by simpa using h3, h4⟩

end Go.Proofs.YtpkfgffgldjceaaDoor

/- What is proved here: plain facts on the place of an address among signers, and of a vote among votes; no program is named. -/
namespace Go.Proofs.YtpkfgffgldjceaaDoor
open Go.RowKit
set_option linter.unusedVariables false
set_option maxRecDepth 100000

/-- The place of one from a place on; -1: it is not there. -/
def atFrom {α : Type} [DecidableEq α] (z : α) : Nat → List α → Int
  | _, [] => -1
  | k, y :: r => if y = z then (k : Int) else atFrom z (k + 1) r

theorem atFrom_step {α : Type} [DecidableEq α] (z : α) (zs : List α) (k : Nat) (y : α) (h : zs[k]? = some y) : atFrom z k (zs.drop k) = if y = z then (k : Int) else atFrom z (k + 1) (zs.drop (k + 1)) := by
  obtain ⟨hk, e⟩ := List.getElem?_eq_some_iff.1 h
  rw [List.drop_eq_getElem_cons hk, e]
  rfl

theorem atFrom_neg {α : Type} [DecidableEq α] (z : α) : ∀ (zs : List α) (k : Nat), decide (atFrom z k zs < 0) = !decide (z ∈ zs)
  | [], k => by simp [atFrom]
  | y :: r, k => by
    unfold atFrom
    by_cases e : y = z
    · subst e
      have h : ¬ ((k : Int) < 0) := by omega
      simp [h]
    · have e' : ¬ z = y := fun q => e q.symm
      rw [if_neg e, atFrom_neg z r (k + 1)]
      simp [e']

theorem atFrom_bd {α : Type} [DecidableEq α] (z : α) : ∀ (zs : List α) (k : Nat), -1 ≤ atFrom z k zs ∧ atFrom z k zs ≤ (k : Int) + zs.length
  | [], k => by simp [atFrom]
  | y :: r, k => by
    unfold atFrom
    have := atFrom_bd z r (k + 1)
    split
    · simp; omega
    · simp at this ⊢; omega

/-- Where one stands is the first of its places. -/
theorem atFrom_at {α : Type} [DecidableEq α] (z : α) : ∀ (zs : List α) (k i : Nat), zs[i]? = some z → (atFrom z k zs == ((k + i : Nat) : Int)) = !decide (z ∈ zs.take i)
  | [], k, i, h => by simp at h
  | y :: r, k, 0, h => by
    simp at h
    subst h
    simp [atFrom]
  | y :: r, k, i + 1, h => by
    rw [List.getElem?_cons_succ] at h
    unfold atFrom
    by_cases e : y = z
    · subst e
      have h1 : ¬ ((k : Int) = ((k + (i + 1) : Nat) : Int)) := by omega
      simp only [if_true, List.take_succ_cons, List.mem_cons, true_or, decide_true, Bool.not_true]
      rw [beq_eq_false_iff_ne]
      exact h1
    · have e' : ¬ z = y := fun q => e q.symm
      rw [if_neg e, show ((k + (i + 1) : Nat) : Int) = ((k + 1 + i : Nat) : Int) by omega, atFrom_at z r (k + 1) i h]
      simp [e']

/-- Among signers that rise the place is that which a search finds. -/
theorem atFrom_low {zss : List (List Int)} (hr : ∀ (i j : Nat) (x y : List Int), i < j → zss[i]? = some x → zss[j]? = some y → aheadB x y = true) (t : List Int) (h : t ∈ zss) : atFrom t 0 zss = (plB zss t : Nat) := by
  have h1 := (plB_mem hr t).2 h
  have h2 := atFrom_at t zss 0 (plB zss t) h1
  have h3 : t ∉ zss.take (plB zss t) := fun q => by
    obtain ⟨i, hi⟩ := List.getElem?_of_mem q
    have hl := (List.getElem?_eq_some_iff.1 hi).1
    rw [List.length_take] at hl
    rw [List.getElem?_take_of_lt (by omega)] at hi
    have := plB_lt zss t i t hi (by omega)
    rw [aheadB_irrefl] at this
    cases this
  simp [h3] at h2
  exact h2

end Go.Proofs.YtpkfgffgldjceaaDoor

/- What is proved here: plain facts on rows of a kind that grow: they own their whole block, each thing in memory of its own by its path; they hold for every program. -/
namespace Go.Proofs.YtpkfgffgldjceaaDoor
open Go.RowKit
set_option linter.unusedVariables false
set_option maxRecDepth 100000

/-- The cells of things, one behind the other. -/
def flatV {α β : Type} (K : Kd α β) : List β → List α → List Value
  | e :: es, x :: xs => K.vals e x ++ flatV K es xs
  | _, _ => []

theorem flatV_snoc {α β : Type} (K : Kd α β) : ∀ (es : List β) (xs : List α) (e : β) (x : α), es.length = xs.length → flatV K (es ++ [e]) (xs ++ [x]) = flatV K es xs ++ K.vals e x
  | [], [], e, x, _ => by simp [flatV]
  | e' :: es, x' :: xs, e, x, h => by
    show K.vals e' x' ++ flatV K (es ++ [e]) (xs ++ [x]) = (K.vals e' x' ++ flatV K es xs) ++ K.vals e x
    rw [flatV_snoc K es xs e x (by simpa using h), List.append_assoc]
  | [], _ :: _, _, _, h => by simp at h
  | _ :: _, [], _, _, h => by simp at h

theorem flatV_at {α β : Type} (K : Kd α β) : ∀ (es : List β) (xs : List α) (i j : Nat) (e : β) (x : α) (v : Value), es[i]? = some e → xs[i]? = some x → (K.vals e x)[j]? = some v → (flatV K es xs)[i * K.m + j]? = some v
  | e' :: es, x' :: xs, 0, j, e, x, v, h1, h2, h3 => by
    simp at h1 h2
    subst h1 h2
    have hj := (List.getElem?_eq_some_iff.1 h3).1
    show (K.vals e' x' ++ flatV K es xs)[0 * K.m + j]? = some v
    rw [Nat.zero_mul, Nat.zero_add, List.getElem?_append_left hj]
    exact h3
  | e' :: es, x' :: xs, i + 1, j, e, x, v, h1, h2, h3 => by
    have h := flatV_at K es xs i j e x v (by simpa using h1) (by simpa using h2) h3
    show (K.vals e' x' ++ flatV K es xs)[(i + 1) * K.m + j]? = some v
    rw [List.getElem?_append_right (by rw [K.len, Nat.succ_mul]; omega), K.len, show (i + 1) * K.m + j - K.m = i * K.m + j by rw [Nat.succ_mul]; omega]
    exact h
  | [], _, i, j, e, x, v, h1, _, _ => by simp at h1
  | _ :: _, [], i, j, e, x, v, _, h2, _ => by simp at h2

/-- A row of a kind that may grow: it owns its whole block. -/
structure RowG {α β : Type} (K : Kd α β) (T : TypeId) (w : World) (B : Nat) (d : Nat → Path) (p : Path) (s : Sl) (xs : List α) : Prop where
  len : s.n = xs.length
  all : ∃ es : List β, es.length = xs.length ∧ w.ownsRow B T K.m (.slice s.a s.n s.c) s.n (flatV K es xs) ∧ (∀ x, s.a = some x → d x.block = p) ∧ ∀ i e x, es[i]? = some e → xs[i]? = some x → K.Own w B d (p ++ [i]) e x

theorem RowG.nil {α β : Type} (K : Kd α β) (T : TypeId) (w : World) (B : Nat) (d : Nat → Path) (p : Path) : RowG K T w B d p ⟨none, 0, 0⟩ [] :=
  ⟨rfl, [], rfl, World.ownsRow_nil _ _ _ _, (fun x hx => by cases hx), fun i e x he => by simp at he⟩

theorem RowG.own {α β : Type} {K : Kd α β} {T : TypeId} {w : World} {B : Nat} {d : Nat → Path} {p : Path} {s : Sl} {xs : List α} (h : RowG K T w B d p s xs) : RowOwn K T w B d p s xs := by
  obtain ⟨h1, es, h2, h3, h4, h5⟩ := h
  exact ⟨h1, es, _, h2, OwnS.of h3, h4, fun i e x he hx => ⟨fun j v hv => flatV_at K es xs i j e x v he hx hv, h5 i e x he hx⟩⟩

theorem RowG.blk {α β : Type} {K : Kd α β} {T : TypeId} {w : World} {B : Nat} {d : Nat → Path} {p : Path} {s : Sl} {xs : List α} (h : RowG K T w B d p s xs) {x : Addr} (hx : s.a = some x) : B ≤ x.block ∧ x.block < w.heap.size := by
  obtain ⟨h1, es, h2, h3, h4, h5⟩ := h
  exact (OwnS.of h3).blk hx

theorem RowG.frame {α β : Type} {K : Kd α β} {T : TypeId} {w w' : World} {B : Nat} {d : Nat → Path} {p : Path} {s : Sl} {xs : List α} (h : RowG K T w B d p s xs) (hk : ∀ g, g < w.heap.size → B ≤ g → p <+: d g → w'.heap[g]? = w.heap[g]?) : RowG K T w' B d p s xs := by
  have hb := fun {x} hx => h.blk (x := x) hx
  obtain ⟨h1, es, h2, h3, h4, h5⟩ := h
  exact ⟨h1, es, h2, own_frame h3 (fun x hx => hk _ (hb hx).2 (hb hx).1 (by rw [h4 x hx]; exact List.prefix_rfl)), h4, fun i e x he hx => K.frame (h5 i e x he hx) (fun g a b c => hk g a b ((List.prefix_append _ _).trans c))⟩

theorem RowG.below {α β : Type} {K : Kd α β} {T : TypeId} {w w' : World} {B C : Nat} {d : Nat → Path} {p : Path} {s : Sl} {xs : List α} (h : RowG K T w B d p s xs) (hb : Below C w w') (hC : w.heap.size ≤ C) : RowG K T w' B d p s xs :=
  h.frame (fun g hg _ _ => hb.block g (Nat.lt_of_lt_of_le hg hC))

theorem RowG.recol {α β : Type} {K : Kd α β} {T : TypeId} {w : World} {B : Nat} {d d' : Nat → Path} {p : Path} {s : Sl} {xs : List α} (h : RowG K T w B d p s xs) (hk : ∀ g, g < w.heap.size → d' g = d g) : RowG K T w B d' p s xs := by
  have hb := fun {x} hx => h.blk (x := x) hx
  obtain ⟨h1, es, h2, h3, h4, h5⟩ := h
  exact ⟨h1, es, h2, h3, fun x hx => by rw [hk _ (hb hx).2]; exact h4 x hx, fun i e x he hx => K.recolNew (h5 i e x he hx) hk⟩

theorem RowG.recolB {α β : Type} {K : Kd α β} {T : TypeId} {w : World} {B : Nat} {d d' : Nat → Path} {p : Path} {s : Sl} {xs : List α} (h : RowG K T w B d p s xs) (hk : ∀ g, g < w.heap.size → B ≤ g → d' g = d g) : RowG K T w B d' p s xs := by
  have hb := fun {x} hx => h.blk (x := x) hx
  obtain ⟨h1, es, h2, h3, h4, h5⟩ := h
  exact ⟨h1, es, h2, h3, fun x hx => by rw [hk _ (hb hx).2 (hb hx).1]; exact h4 x hx, fun i e x he hx => K.recol (h5 i e x he hx) (fun g a b _ => hk g a b)⟩

theorem RowG.base {α β : Type} {K : Kd α β} {T : TypeId} {w : World} {B B' : Nat} {d : Nat → Path} {p : Path} {s : Sl} {xs : List α} (h : RowG K T w B d p s xs) (hB : B' ≤ B) : RowG K T w B' d p s xs := by
  obtain ⟨h1, es, h2, h3, h4, h5⟩ := h
  exact ⟨h1, es, h2, ownsRow_base h3 hB, h4, fun i e x he hx => K.base (h5 i e x he hx) hB⟩

/-- A store below the base. -/
theorem RowG.set {α β : Type} {K : Kd α β} {T : TypeId} {w : World} {B g i : Nat} {v : Value} {d : Nat → Path} {p : Path} {s : Sl} {xs : List α} (h : RowG K T w B d p s xs) (hg : g < B) : RowG K T (w.setCell ⟨g, i, none⟩ v) B d p s xs :=
  h.frame (fun k _ hk _ => heap_setCell_other w ⟨g, i, none⟩ k v (fun e => by simp at e; omega))

/-- One more. -/
theorem RowG.snoc {α β : Type} {K : Kd α β} {T : TypeId} {w w2 : World} {B : Nat} {d : Nat → Path} {p : Path} {s : Sl} {xs : List α} {es : List β} {e : β} {x : α} {g2 cap2 : Nat} (h1 : s.n = xs.length) (h2 : es.length = xs.length)
    (h4 : ∀ x, s.a = some x → d x.block = p) (h5 : ∀ i e x, es[i]? = some e → xs[i]? = some x → K.Own w B d (p ++ [i]) e x) (o : K.Own w B d (p ++ [xs.length]) e x)
    (hown : w2.ownsRow B T K.m (.slice (some ⟨g2, 0, none⟩) (s.n + 1) cap2) (s.n + 1) (flatV K es xs ++ K.vals e x)) (hg : w.grownBy w2 (Value.slice s.a s.n s.c).ownBlock) (hat : (Value.slice s.a s.n s.c).ownBlock = some g2 ∨ g2 = w.heap.size) :
    RowG K T w2 B (fun g => if w.heap.size ≤ g then p else d g) p ⟨some ⟨g2, 0, none⟩, s.n + 1, cap2⟩ (xs ++ [x]) := by
  have hob : ∀ g, (Value.slice s.a s.n s.c).ownBlock = some g → d g = p := fun g hg' => by
    cases ha : s.a with
    | none => rw [ha] at hg'; cases hg'
    | some y => rw [ha] at hg'; obtain rfl := Option.some.inj hg'; exact h4 y ha
  have keep : ∀ {i e' x'}, K.Own w B d (p ++ [i]) e' x' → K.Own w2 B (fun g => if w.heap.size ≤ g then p else d g) (p ++ [i]) e' x' := fun {i e' x'} q => by
    have q' := K.recolNew (d' := fun g => if w.heap.size ≤ g then p else d g) q (fun g hg' => if_neg (by omega))
    refine K.frame q' (fun g a b c => hg.block g a (fun ee => ?_))
    have hd := hob g ee.symm
    have c' : (p ++ [i]) <+: d g := by rw [show (if w.heap.size ≤ g then p else d g) = d g from if_neg (by omega)] at c; exact c
    rw [hd] at c'
    exact not_pre_self p i c'
  refine ⟨by simp [h1], es ++ [e], by simp [h2], ?_, fun y hy => ?_, fun i e' x' he hx' => ?_⟩
  · rw [flatV_snoc K es xs e x h2]; exact hown
  · obtain rfl := Option.some.inj hy
    show (if w.heap.size ≤ g2 then p else d g2) = p
    rcases hat with hat | hat
    · split
      · rfl
      · exact hob g2 hat
    · rw [if_pos (by omega)]
  · by_cases hik : i < xs.length
    · rw [List.getElem?_append_left (by omega)] at he
      rw [List.getElem?_append_left hik] at hx'
      exact keep (h5 i e' x' he hx')
    · have hi : i < (xs ++ [x]).length := (List.getElem?_eq_some_iff.1 hx').1
      simp at hi
      obtain rfl : i = xs.length := by omega
      rw [← h2, List.getElem?_concat_length] at he
      rw [List.getElem?_concat_length] at hx'
      obtain rfl := Option.some.inj he
      obtain rfl := Option.some.inj hx'
      exact keep o

end Go.Proofs.YtpkfgffgldjceaaDoor

/- What is proved here: what the program's SignersFault answers: the first fault of a list of signers. -/
namespace Go.Proofs.YtpkfgffgldjceaaDoor
open Go.RowKit
set_option linter.unusedVariables false
set_option maxRecDepth 100000

theorem isAddr_any (a : Option Addr) (n cap : Nat) (w : World) : Calls Tryd.prog 72 #[.slice a n cap] w fun e w' => e = .returned (.bool (((n : Nat) : Int) == 4)) ∧ w' = w := by
  go_enter Tryd.func72, Tryd.ntmps72
  go_wp2_with fail
  go_ret
  exact ⟨rfl, rfl⟩

set_option maxHeartbeats 2000000 in
theorem implSigners_any (a : Option Addr) (len cap : Nat) (zss : List (List Int)) (w : World) (h : BsRow w a len zss) (hl : len ≤ 1048576) :
    Calls Tryd.prog 71 #[.slice a len cap] w fun e w' => e = .returned (.int .i64 (sgFlt zss)) ∧ w' = w := by
  have hil := h.1
  by_cases h2 : 7 < len
  · have HE : Hid (sgFlt zss = 2) := by show _ = _; unfold sgFlt; rw [if_pos (by rw [hil]; exact h2)]
    have hd : decide ((7 : Int) < (len : Int)) = true := decide_eq_true (by omega)
    clear h hil
    go_enter Tryd.func71, Tryd.ntmps71
    go_wp2_with fail
    go_ret
    exact ⟨ret_int (unhide HE).symm, rfl⟩
  · have d2 : decide ((7 : Int) < (len : Int)) = false := decide_eq_false (by omega)
    have HE : Hid (sgFlt zss = sgFrom zss 0 zss) := by show _ = _; unfold sgFlt; rw [if_neg (by omega)]
    rcases Nat.eq_zero_or_pos len with h0 | hp
    · subst h0
      have hn : zss = [] := List.length_eq_zero_iff.1 hil
      subst hn
      clear h
      go_enter Tryd.func71, Tryd.ntmps71
      go_wp2_with fail
      refine wp_loop_rounds 1 ?_
      rw [rounds_succ]
      go_wp2_with fail
      go_ret
      exact ⟨ret_int (by rw [unhide HE]; rfl), rfl⟩
    · obtain ⟨b, off, rfl, hb, hc⟩ := h.at hp
      have HC := hide hc
      have HL := hide hil
      clear h hc hil
      go_enter Tryd.func71, Tryd.ntmps71
      go_wp2_with fail
      go_loop [10] (fun i => ∃ k : Nat, k ≤ len ∧ i = .int .i64 k ∧ sgFrom zss 0 zss = sgFrom zss k (zss.drop k)) (fun i => len - (intOf i).toNat)
      case atStart => exact ⟨0, Nat.zero_le _, rfl, by simp⟩
      case round =>
        obtain ⟨k, hk, rfl, hpre⟩ := hrel
        by_cases hlt : k < len
        · obtain ⟨z, hit⟩ : ∃ z, zss[k]? = some z := ⟨_, List.getElem?_eq_getElem (by rw [unhide HL]; exact hlt)⟩
          have hst := sgFrom_step zss k z hit
          rw [← hpre] at hst
          obtain ⟨s1, n1, d1, p0, r1⟩ := (unhide HC) k z hit
          have hzl : z.length = n1 := r1.1
          have HS := hide hst
          have i1 : (0 : Int) ≤ (k : Int) := by omega
          have i2 : (k : Int) < (len : Int) := by omega
          have HI := hide (isAddr_any s1 n1 d1 w)
          by_cases h4 : n1 = 4
          · have d4 : (((n1 : Nat) : Int) == 4) = true := by simp [h4]
            rw [d4] at HI
            by_cases k0 : k = 0
            · have e : sgBad zss k z = false := by unfold sgBad; simp [hzl, h4, k0]
              rw [e, if_neg (by simp)] at HS
              have dk : decide ((0 : Int) < (k : Int)) = false := decide_eq_false (by omega)
              have dk' : decide (0 < k) = false := decide_eq_false (by omega)
              clear r1 hst hpre hit hzl e k0 h4
              go_wp2_with fail
              refine (unhide HI).mono ?_
              rintro e w1 ⟨rfl, rfl⟩
              go_wp2_with fail
              go_round
              case rel => exact ⟨k + 1, by omega, by go_num, unhide HS⟩
              case measure => simp [intOf]; omega
            · obtain ⟨y, hiy⟩ : ∃ y, zss[k - 1]? = some y := ⟨_, List.getElem?_eq_getElem (by rw [unhide HL]; omega)⟩
              obtain ⟨s2, n2, d2', q0, r2⟩ := (unhide HC) (k - 1) y hiy
              have hgd : zss.getD (k - 1) [] = y := by rw [List.getD_eq_getElem?_getD, hiy]; rfl
              have e : sgBad zss k z = !aheadB y z := by unfold sgBad; rw [hgd, hzl, h4]; simp; omega
              rw [e] at HS
              have dk : decide ((0 : Int) < (k : Int)) = true := decide_eq_true (by omega)
              have dk' : decide (0 < k) = true := decide_eq_true (by omega)
              have ek : ((k : Int) - 1).toNat = k - 1 := by omega
              have j1 : (0 : Int) ≤ (k : Int) - 1 := by omega
              have j2 : (k : Int) - 1 < (len : Int) := by omega
              have hwr : IntKind.i64.wrap ((k : Int) - 1) = (k : Int) - 1 := by rw [IntKind.wrap_i64]; omega
              have HA := hide (implAhead_any s2 s1 n2 d2' n1 d1 y z w r2 r1)
              have q1 : w.cell? ⟨b, off + ((k : Int) - 1).toNat, none⟩ = some (.slice s2 n2 d2') := by rw [ek]; exact q0
              clear r1 r2 hst hpre hit hiy hzl hgd e k0 h4 ek
              generalize aheadB y z = sb at HA HS
              cases sb
              · go_wp2_with fail
                refine (unhide HI).mono ?_
                rintro e w1 ⟨rfl, rfl⟩
                go_wp2_with fail
                refine (unhide HA).mono ?_
                rintro e w1 ⟨rfl, rfl⟩
                go_wp2_with fail
                go_ret
                exact ⟨ret_int (by rw [unhide HE, unhide HS]; rfl), rfl⟩
              · go_wp2_with fail
                refine (unhide HI).mono ?_
                rintro e w1 ⟨rfl, rfl⟩
                go_wp2_with fail
                refine (unhide HA).mono ?_
                rintro e w1 ⟨rfl, rfl⟩
                go_wp2_with fail
                go_round
                case rel => exact ⟨k + 1, by omega, by go_num, by rw [unhide HS]; rfl⟩
                case measure => simp [intOf]; omega
          · have d4 : (((n1 : Nat) : Int) == 4) = false := by rw [beq_eq_false_iff_ne]; omega
            rw [d4] at HI
            have e : sgBad zss k z = true := by unfold sgBad; simp [hzl, h4]
            rw [e, if_pos rfl] at HS
            clear r1 hst hpre hit hzl e h4
            go_wp2_with fail
            refine (unhide HI).mono ?_
            rintro e w1 ⟨rfl, rfl⟩
            go_wp2_with fail
            go_ret
            exact ⟨ret_int (by rw [unhide HE, unhide HS]), rfl⟩
        · obtain rfl : k = len := by omega
          have e := sgFrom_end zss k (by rw [unhide HL]; exact Nat.le_refl _)
          rw [e] at hpre
          have HP := hide hpre
          clear e hpre
          go_wp2_with fail
          go_ret
          exact ⟨ret_int (by rw [unhide HE, unhide HP]), rfl⟩

end Go.Proofs.YtpkfgffgldjceaaDoor
