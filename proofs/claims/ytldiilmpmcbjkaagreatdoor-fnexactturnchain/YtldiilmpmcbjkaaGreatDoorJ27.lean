/- What is proved here: what the program's TurnChain answers: the way from an entry to another one. -/
import Derived.Test.YtldiilmpmcbjkaaGreatDoorJ26
import Derived.Deep.AppendLies
import Derived.Test.YtldiilmpmcbjkaaGreatDoorChecked
import Derived.Test.YtldiilmpmcbjkaaGreatDoorJ1
import Derived.Test.YtldiilmpmcbjkaaGreatDoorJ5
import Derived.Test.YtldiilmpmcbjkaaGreatDoorJ7
import Derived.WalkKit
import Derived.WalkLawsBesides
import Derived.WalkSmall
import Derived.KernelRfl
import Derived.WalkSpells
namespace Go.Proofs.YtldiilmpmcbjkaaGreatDoor
open Go.RowKit
set_option linter.unusedVariables false
set_option linter.unusedSimpArgs false
set_option maxRecDepth 100000

/-- What TurnChain answers: back and forth. -/
def tcBack (x : St) (a b : Int) : List Int := if plsCode x [a, b] = 0 then ((lineL x.2 a).drop (cmn (lineL x.2 a) (lineL x.2 b))).reverse else []
def tcForth (x : St) (a b : Int) : List Int := if plsCode x [a, b] = 0 then (lineL x.2 b).drop (cmn (lineL x.2 a) (lineL x.2 b)) else []

/-- Two slices in memory of their own, in two blocks; or both are nil. -/
def TrOwn (w : World) (B : Nat) (a1 a2 : Option Addr) (c1 c2 : Nat) (T1 T2 : List Int) : Prop :=
  (a1 = none ∧ a2 = none ∧ c1 = 0 ∧ c2 = 0 ∧ T1 = [] ∧ T2 = []) ∨ ∃ g1 g2 o1 o2 d1 d2, a1 = some ⟨g1, o1, none⟩ ∧ a2 = some ⟨g2, o2, none⟩ ∧ ¬ g1 = g2 ∧ Tl w B g1 o1 d1 T1 ∧ Tl w B g2 o2 d2 T2

theorem Tl.base {w : World} {B B' g off c : Nat} {T : List Int} (h : Tl w B g off c T) (hB : B' ≤ B) : Tl w B' g off c T := by
  obtain ⟨P, e, o⟩ := h
  exact ⟨P, e, ownsRow_base o hB⟩

/-- A place stands once in a line. -/
theorem line_once {xs : List En} (h : UpsOk xs) {p : Int} (h0 : -1 ≤ p) (h1 : p < xs.length) {i j : Nat} {u : Int} (hi : (lineL xs p)[i]? = some u) (hj : (lineL xs p)[j]? = some u) : i = j := by
  have e1 := line_take h _ p (Nat.le_refl _) h0 h1 i u hi
  have e2 := line_take h _ p (Nat.le_refl _) h0 h1 j u hj
  have l1 := (List.getElem?_eq_some_iff.1 hi).1
  have l2 := (List.getElem?_eq_some_iff.1 hj).1
  have := congrArg List.length (e1.trans e2.symm)
  simp only [List.length_take] at this
  omega

/-- What the two lines of a store without a fault have. -/
theorem tc_facts {x : St} {a b : Int} (hz : plsCode x [a, b] = 0) : ∃ k : Nat, cmn (lineL x.2 a) (lineL x.2 b) = k + 1 ∧ (lineL x.2 a).length ≤ 24 ∧ (lineL x.2 b).length ≤ 24 ∧
    (lineL x.2 a)[k]? = some (lob (lineL x.2 b) (lineL x.2 a).reverse) ∧ (lineL x.2 b)[k]? = some (lob (lineL x.2 b) (lineL x.2 a).reverse) ∧
    (∀ (j : Nat) u, j < k → (lineL x.2 a)[j]? = some u → u ≠ lob (lineL x.2 b) (lineL x.2 a).reverse) ∧ (∀ (j : Nat) u, j < k → (lineL x.2 b)[j]? = some u → u ≠ lob (lineL x.2 b) (lineL x.2 a).reverse) := by
  obtain ⟨h0, hab⟩ := pls_zero hz
  have ha := hab a (by simp)
  have hb := hab b (by simp)
  have hl := (st_zero h0).2.1.2
  have hu := st_ups h0
  obtain ⟨h1, h2⟩ := lob_line hu ha hb
  have ht := cmn_take (lineL x.2 a) (lineL x.2 b)
  obtain ⟨k, hk⟩ : ∃ k, cmn (lineL x.2 a) (lineL x.2 b) = k + 1 := ⟨cmn (lineL x.2 a) (lineL x.2 b) - 1, by omega⟩
  rw [hk, Nat.add_sub_cancel] at h2
  rw [hk] at ht
  have h3 : (lineL x.2 b)[k]? = some (lob (lineL x.2 b) (lineL x.2 a).reverse) := by
    have e : ((lineL x.2 a).take (k + 1))[k]? = some (lob (lineL x.2 b) (lineL x.2 a).reverse) := by rw [List.getElem?_take, if_pos (by omega)]; exact h2
    rw [ht, List.getElem?_take, if_pos (by omega)] at e
    exact e
  refine ⟨k, hk, lineL_len _ _ (by omega), lineL_len _ _ (by omega), h2, h3, fun j u hj hju e => ?_, fun j u hj hju e => ?_⟩
  · have := line_once hu (by omega) ha.2 hju (by rw [e]; exact h2); omega
  · have := line_once hu (by omega) hb.2 hju (by rw [e]; exact h3); omega

theorem own_at {w : World} {B n c : Nat} {a : Option Addr} {vs : List Value} (h : w.ownsRow B 2 1 (.slice a n c) n vs) (hp : 0 < n) : ∃ g, a = some ⟨g, 0, none⟩ := by
  rcases h.2 with ⟨h1, _⟩ | ⟨g, cap, cur, h1, _⟩
  · simp only [Value.slice.injEq] at h1; omega
  · simp only [Value.slice.injEq] at h1; exact ⟨g, h1.1⟩

theorem three_blk' {w : World} {g : Nat} {x y z : Value} {t : TypeId} (k : SBlk w g [x, y, z] t) : w.cell? ⟨g, 0, none⟩ = some x ∧ w.cell? ⟨g, 1, none⟩ = some y ∧ w.cell? ⟨g, 2, none⟩ = some z ∧ w.frozen? ⟨g, 0, none⟩ = false ∧ w.frozen? ⟨g, 1, none⟩ = false ∧ w.frozen? ⟨g, 2, none⟩ = false := ⟨k.cell 0, k.cell 1, k.cell 2, k.free 0, k.free 1, k.free 2⟩

set_option maxHeartbeats 4000000 in
theorem implTurnC_any (s : Sl) (x : St) (a b : Int) (w : World) (o : RowOk enK w s x.2) (m : StSm x) (V : Laid w) :
    Calls Tryz.prog 7 #[.agg (tvals s x), .int .i64 a, .int .i64 b] w fun r w' => ∃ a1 a2 c1 c2, r = .returned (.agg #[.int .i64 (plsCode x [a, b]), .slice a1 (tcBack x a b).length c1, .slice a2 (tcForth x a b).length c2]) ∧
      TrOwn w' w.heap.size a1 a2 c1 c2 (tcBack x a b) (tcForth x a b) ∧ Below w.heap.size w w' := by
  obtain ⟨k0, k1, k2, k3⟩ := two_blk w (tvals s x) #[.int .i64 0, .slice none 0 0, .slice none 0 0] 35 30
  obtain ⟨W0, e0⟩ : ∃ W, (w.alloc (.cells (tvals s x) 35)).alloc (.cells #[.int .i64 0, .slice none 0 0, .slice none 0 0] 30) = W := ⟨_, rfl⟩
  rw [e0] at k0 k1 k2 k3
  have hal := below_alloc W0 (.cells #[.int .i64 a, .int .i64 b] 2)
  have D1 := hide (placeFaults_any s x (some ⟨W0.heap.size, 0, none⟩) 2 2 [a, b] (W0.alloc (.cells #[.int .i64 a, .int .i64 b] 2)) (RowOk.below o (k2.trans (hal.mono k2.size)) (Nat.le_refl _)) (irow2 W0 a b) (by decide) m (V.below (k2.trans (hal.mono k2.size)) (Nat.le_refl _)))
  have HAL := hide hal
  have D2 : Hid (plsCode x [a, b] = 0 → ∀ (p : Int), p ∈ [a, b] → ∀ (W : World), Below W0.heap.size W0 W → Calls Tryz.prog 20 #[.slice s.a s.n s.c, .int .i64 p] W fun r w' => ∃ a c, r = .returned (.slice a (lineL x.2 p).length c) ∧ w'.ownsRow W.heap.size 2 1 (.slice a (lineL x.2 p).length c) (lineL x.2 p).length ((lineL x.2 p).map (Value.int .i64)) ∧ Below W.heap.size W w') := fun hz p hp W hb => by
    obtain ⟨h0, hab⟩ := pls_zero hz
    have hpr := hab p hp
    have := lineTo_any s x.2 p.toNat W (RowOk.below o (k2.trans (hb.mono k2.size)) (Nat.le_refl _)) (st_ups h0) (st_zero h0).2.1.2 (by omega)
    rw [show ((p.toNat : Nat) : Int) = p by omega] at this
    exact this
  have HTC := hide (tc_facts (x := x) (a := a) (b := b))
  have HTB : Hid (tcBack x a b = if plsCode x [a, b] = 0 then ((lineL x.2 a).drop (cmn (lineL x.2 a) (lineL x.2 b))).reverse else []) := rfl
  have HTF : Hid (tcForth x a b = if plsCode x [a, b] = 0 then (lineL x.2 b).drop (cmn (lineL x.2 a) (lineL x.2 b)) else []) := rfl
  have HK := hide (fun (W : World) (hb : Below W0.heap.size W0 W) => And.intro (k0.below hb k0.lt) (k1.below hb k1.lt))
  have hz : w.heap.size + 1 < W0.heap.size := by omega
  have HB0 := hide k2
  have E0 := hide e0
  unfold tvals at E0 k0 HK D1 ⊢
  have x0 := k0.cell 0
  have x1 := k0.cell 1
  have x2 := k0.cell 2
  have x3 := k0.cell 3
  simp only [List.getElem?_cons_zero, List.getElem?_cons_succ] at x0 x1 x2 x3
  generalize tcBack x a b = TB at HTB ⊢
  generalize tcForth x a b = TF at HTF ⊢
  generalize plsCode x [a, b] = q0 at D1 D2 HTC HTB HTF ⊢
  have DA := hide (fun h => (unhide D2) h a (by simp))
  have DB := hide (fun h => (unhide D2) h b (by simp))
  generalize lineL x.2 a = LA at DA HTC HTB HTF
  generalize lineL x.2 b = LB at DB HTC HTB HTF
  clear e0 o m V k0 k1 k2 k3 D2 hal
  go_enter Tryz.func7, Tryz.ntmps7
  go_upto_region 1 with fail
  rw [unhide E0]
  clear E0
  go_wp2_with fail
  refine (unhide D1).mono ?_
  rintro r w1 ⟨rfl, b1⟩
  have b1 := (unhide HAL).trans (b1.mono (unhide HAL).size)
  obtain ⟨r0, r1, r2, f0, f1, f2⟩ := three_blk' ((unhide HK) w1 b1).2
  have B1 := hide ((unhide HB0).trans (b1.mono (unhide HB0).size))
  have BW := hide b1
  clear b1 x0 x1 x2 x3 D1
  have HFIN : Hid (∀ (W : World), Below w.heap.size w W → ∀ u v z, Below w.heap.size w (((W.setCell ⟨w.heap.size + 1, 0, none⟩ u).setCell ⟨w.heap.size + 1, 1, none⟩ v).setCell ⟨w.heap.size + 1, 2, none⟩ z)) := fun W h u v z => ((h.setCell (by show w.heap.size ≤ w.heap.size + 1; omega) u).setCell (by show w.heap.size ≤ w.heap.size + 1; omega) v).setCell (by show w.heap.size ≤ w.heap.size + 1; omega) z
  by_cases hq : q0 = 0
  · subst hq
    obtain ⟨k, hk, l1, l2, ga, gb, fa, fb⟩ := (unhide HTC) rfl
    have hTB := (unhide HTB).trans (if_pos rfl)
    have hTF := (unhide HTF).trans (if_pos rfl)
    rw [hk] at hTB hTF
    have la := (List.getElem?_eq_some_iff.1 ga).1
    have lb := (List.getElem?_eq_some_iff.1 gb).1
    obtain ⟨v, ev⟩ : ∃ v, v = lob LB LA.reverse := ⟨_, rfl⟩
    rw [← ev] at ga gb fa fb
    have DAn := hide (fun (W : World) (hb : Below w1.heap.size w1 W) => (unhide DA) rfl W ((unhide BW).trans (hb.mono (unhide BW).size)))
    have DBn := hide (fun (W : World) (hb : Below w1.heap.size w1 W) => (unhide DB) rfl W ((unhide BW).trans (hb.mono (unhide BW).size)))
    have HKP : Hid (∀ W, Below w1.heap.size w1 W → W.cell? ⟨w.heap.size, 3, none⟩ = some (.slice s.a s.n s.c)) := fun W hb => ((unhide HK) W ((unhide BW).trans (hb.mono (unhide BW).size))).1.cell 3
    have Q := hide (And.intro ga (And.intro gb (And.intro fa (And.intro fb (And.intro hTB (And.intro hTF (And.intro ev (And.intro la lb))))))))
    clear HTC HTB HTF DA DB hk ga gb fa fb hTB hTF ev la lb
    go_wp2_with fail
    go_region_held3 (fun W => W.cell? ⟨w.heap.size, 3, none⟩ = some (.slice s.a s.n s.c))
      (first | exact (unhide HKP) _ (Below.refl w1.heap.size w1).drew | assumption | exact s1 | exact t1 | go_keep)
      (first
        | (go_at_call 20; refine ((unhide DBn) _ J2).mono ?_; rintro r w3 ⟨a3, c3, rfl, o3, b3⟩; have J3 : Below w1.heap.size w1 w3 := J2.trans (b3.mono J2.size); have t1 := (unhide HKP) w3 J3)
        | (go_at_call 20; refine ((unhide DAn) _ ((Below.refl _ _).drew)).mono ?_; rintro r w2 ⟨a2, c2, rfl, o2, b2⟩; have J2 : Below w1.heap.size w1 w2 := (Below.refl w1.heap.size w1).drew.trans b2; have s1 := (unhide HKP) w2 J2))
    all_goals
      obtain ⟨ga, gb, fa, fb, hTB, hTF, ev, la, lb⟩ := unhide Q
      obtain ⟨g1, rfl⟩ := own_at o2 (by omega)
      obtain ⟨g2, rfl⟩ := own_at o3 (by omega)
      have hz1 : W0.heap.size ≤ w1.heap.size := (unhide BW).size
      have q1 : w1.heap.size ≤ g1 ∧ g1 < w2.heap.size := o2.lt g1 rfl
      have q2 : w2.heap.size ≤ g2 ∧ g2 < w3.heap.size := o3.lt g2 rfl
      have hne : ¬ g2 = g1 := by omega
      have p2 : w3.ownsRow W0.heap.size 2 1 (.slice (some ⟨g1, 0, none⟩) LA.length c2) LA.length (LA.map (Value.int .i64)) := ownsRow_base (B := w1.heap.size) (own_frame o2 (fun y hy => by
        obtain rfl : (⟨g1, 0, none⟩ : Addr) = y := Option.some.inj hy
        exact b3.block g1 q1.2)) hz1
      have p3 : w3.ownsRow W0.heap.size 2 1 (.slice (some ⟨g2, 0, none⟩) LB.length c3) LB.length (LB.map (Value.int .i64)) := ownsRow_base o3 (by omega)
      have q13 : g1 < w3.heap.size := by have := b3.size; omega
      have JW : Below W0.heap.size W0 w3 := (unhide BW).trans (J3.mono (unhide BW).size)
      have DL := hide (lastOf_any (some ⟨g1, 0, none⟩) (some ⟨g2, 0, none⟩) LA.length c2 LB.length c3 LA LB w3 (IRow.own2 p2) (by omega) (IRow.own2 p3) (by omega))
      rw [← ev] at DL
      have HA := hide (fun (W : World) (hb : Below w3.heap.size w3 W) => own_frame (w' := W) p2 (fun y hy => by
        obtain rfl : (⟨g1, 0, none⟩ : Addr) = y := Option.some.inj hy
        exact hb.block g1 q13))
      have HBB := hide (fun (W : World) (hb : Below w3.heap.size w3 W) => own_frame (w' := W) p3 (fun y hy => by
        obtain rfl : (⟨g2, 0, none⟩ : Addr) = y := Option.some.inj hy
        exact hb.block g2 q2.2))
      have E1 := hide (fun (W : World) (hb : Below w3.heap.size w3 W) => behind_any W0.heap.size g1 c2 LA v k W ((unhide HA) W hb) (by omega) ga fa)
      have E2 := hide (fun (W : World) (hb : Below w3.heap.size w3 W) => behind_any W0.heap.size g2 c3 LB v k W ((unhide HBB) W hb) (by omega) gb fb)
      have HT := hide (And.intro hTB (And.intro hTF JW))
      have HGS : Hid (W0.heap.size ≤ g1 ∧ W0.heap.size ≤ g2 ∧ ¬ g2 = g1) := ⟨by omega, by omega, hne⟩
      have HLN : Hid ((LA.drop (k + 1)).length ≤ 1048576) := by show _ ≤ _; rw [List.length_drop]; omega
      clear Q ga gb fa fb hTB hTF ev la lb o2 o3 J2 J3 b2 b3 s1 t1 q1 q2 p2 p3 q13 JW r0 r1 r2 f0 f1 f2 hne hz1
      generalize hDA : LA.drop (k + 1) = XA at E1 HT HLN
      generalize hDB : LB.drop (k + 1) = XB at E2 HT
      clear hDA hDB
      go_wp2_with fail
      refine (unhide DL).mono ?_
      rintro r w4 ⟨rfl, b4⟩
      have H4 := hide b4
      clear b4
      go_wp2_with fail
      refine ((unhide E1) w4 (unhide H4)).mono ?_
      rintro r w5 ⟨u1, cc1, rfl, T1, b5⟩
      have H5 := hide ((unhide H4).trans (b5.mono (unhide H4).size))
      have HT1 := hide T1
      clear b5 T1
      go_wp2_with fail
      refine ((unhide E2) w5 (unhide H5)).mono ?_
      rintro r w6 ⟨u2, cc2, rfl, T2, b6⟩
      have H6 := hide ((unhide H5).trans (b6.mono (unhide H5).size))
      have HT2 := hide (T2 w6 W0.heap.size ((unhide HBB) w6 (unhide H6)))
      have D7 := hide (reverseT_any W0.heap.size g1 u1 c2 cc1 XA w6 ((unhide HT1) w6 W0.heap.size ((unhide HA) w6 (unhide H6))) (unhide HLN))
      clear b6 T2
      go_wp2_with fail
      refine (unhide D7).mono ?_
      rintro r w7 ⟨⟨rv, rfl⟩, t1, b7, el⟩
      have JW := (unhide HT).2.2
      have BW7 : Below W0.heap.size W0 w7 := (JW.trans ((unhide H6).mono JW.size)).trans b7
      have HT3 := hide (And.intro t1 ((unhide HT2).keep (el g2 (unhide HGS).2.2)))
      obtain ⟨r0, r1, r2, f0, f1, f2⟩ := three_blk' ((unhide HK) w7 BW7).2
      have B7 := hide ((unhide HB0).trans (BW7.mono (unhide HB0).size))
      clear t1 b7 el JW BW7 HT1 HT2 D7
      go_wp2_with fail
      obtain ⟨hTB, hTF, _⟩ := unhide HT
      obtain ⟨t1, t2⟩ := unhide HT3
      obtain ⟨gs1, gs2, gs3⟩ := unhide HGS
      refine bodyPost_ret (v := .agg #[.int .i64 0, .slice (some ⟨g1, u1, none⟩) XA.length cc1, .slice (some ⟨g2, u2, none⟩) XB.length cc2]) (by simp [results, Tryz.results7, go_sem, r0, r1, r2]) rfl ⟨some ⟨g1, u1, none⟩, some ⟨g2, u2, none⟩, cc1, cc2, by rw [hTB, hTF, List.length_reverse], ?_, (unhide HFIN) _ (unhide B7) _ _ _⟩
      have hk3 : ∀ (g : Nat), ¬ g = w.heap.size + 1 → ∀ u v z, (((w7.setCell ⟨w.heap.size + 1, 0, none⟩ u).setCell ⟨w.heap.size + 1, 1, none⟩ v).setCell ⟨w.heap.size + 1, 2, none⟩ z).heap[g]? = w7.heap[g]? := fun g hg u v z => by
        rw [heap_setCell_other _ ⟨w.heap.size + 1, 2, none⟩ g z hg, heap_setCell_other _ ⟨w.heap.size + 1, 1, none⟩ g v hg, heap_setCell_other _ ⟨w.heap.size + 1, 0, none⟩ g u hg]
      rw [hTB, hTF]
      exact .inr ⟨g1, g2, u1, u2, c2, c3, rfl, rfl, fun e => gs3 e.symm, (t1.keep (hk3 g1 (by omega) _ _ _)).base (by omega), (t2.keep (hk3 g2 (by omega) _ _ _)).base (by omega)⟩
  · have hne : (q0 != 0) = true := by simp [hq]
    have h1 := (unhide HTB).trans (if_neg hq)
    have h2 := (unhide HTF).trans (if_neg hq)
    subst h1
    subst h2
    clear hq HTB HTF HTC DA DB
    go_wp2_with fail
    exact bodyPost_ret (v := .agg #[.int .i64 q0, .slice none 0 0, .slice none 0 0]) (by simp [results, Tryz.results7, go_sem, r0, r1, r2]) rfl ⟨none, none, 0, 0, rfl, .inl ⟨rfl, rfl, rfl, rfl, rfl, rfl⟩, (unhide HFIN) _ (unhide B1) _ _ _⟩

end Go.Proofs.YtldiilmpmcbjkaaGreatDoor

/- What is proved here: what IsBetter of the program answers. -/
namespace Go.Proofs.YtldiilmpmcbjkaaGreatDoor
open Go.RowKit
set_option linter.unusedVariables false
set_option linter.unusedSimpArgs false
set_option maxRecDepth 100000

end Go.Proofs.YtldiilmpmcbjkaaGreatDoor

/- What is proved here: what CommonOf of the program and of the model answers: the last place that two lines have. -/
namespace Go.Proofs.YtldiilmpmcbjkaaGreatDoor
open Go.RowKit
set_option linter.unusedVariables false
set_option linter.unusedSimpArgs false
set_option maxRecDepth 100000

/-- What CommonOf answers beside the code. -/
def cmVal (x : St) (a b : Int) : Int := if plsCode x [a, b] = 0 then lob (lineL x.2 b) (lineL x.2 a).reverse else 0

theorem cmn_eq {L M : List Int} {k : Nat} {u : Int} (h1 : L[k]? = some u) (h2 : M[k]? = some u) : cmn (L.drop k) (M.drop k) = cmn (L.drop (k + 1)) (M.drop (k + 1)) + 1 := by
  obtain ⟨a1, e1⟩ := List.getElem?_eq_some_iff.1 h1
  obtain ⟨a2, e2⟩ := List.getElem?_eq_some_iff.1 h2
  rw [List.drop_eq_getElem_cons a1, List.drop_eq_getElem_cons a2, e1, e2, cmn, if_pos rfl]

theorem cmn_ne {L M : List Int} {k : Nat} {u v : Int} (h1 : L[k]? = some u) (h2 : M[k]? = some v) (h : u ≠ v) : cmn (L.drop k) (M.drop k) = 0 := by
  obtain ⟨a1, e1⟩ := List.getElem?_eq_some_iff.1 h1
  obtain ⟨a2, e2⟩ := List.getElem?_eq_some_iff.1 h2
  rw [List.drop_eq_getElem_cons a1, List.drop_eq_getElem_cons a2, e1, e2, cmn, if_neg h]

theorem cmn_end {L M : List Int} {k : Nat} (h : L.length ≤ k ∨ M.length ≤ k) : cmn (L.drop k) (M.drop k) = 0 := by
  rcases h with h | h
  · rw [List.drop_eq_nil_of_le h]; unfold cmn; rfl
  · rw [List.drop_eq_nil_of_le h]
    cases L.drop k <;> rfl

set_option maxHeartbeats 4000000 in
theorem l11Common_any (a b : Option Addr) (la ca lb cb : Nat) (L M : List Int) (w : World) (hI : IRow w a la L) (hl : la ≤ 1048576) (hJ : IRow w b lb M) (hlb : lb ≤ 1048576) :
    Calls Tryz.prog 16 #[.slice a la ca, .slice b lb cb] w fun r w' => r = .returned (.int .i64 (cmn L M : Int)) ∧ Below w.heap.size w w' := by
  obtain ⟨R, eR⟩ : ∃ R, R = cmn L M := ⟨_, rfl⟩
  rw [← eR]
  have HF : Hid (R = 0 + cmn (L.drop 0) (M.drop 0)) := by show _ = _; rw [eR, Nat.zero_add]; rfl
  have HIa := hide hI
  have HJb := hide hJ
  clear eR hI hJ
  go_enter Tryz.func16, Tryz.ntmps16
  go_wp2_with fail
  go_loopw [5] (fun i wr => ∃ (k nn : Nat), k ≤ la ∧ k ≤ lb ∧ i = .int .i64 k ∧ R = k + cmn (L.drop k) (M.drop k) ∧ wr = w.drewN nn) (fun i _ => la - (intOf i).toNat)
  case atStart => exact ⟨0, 0, Nat.zero_le _, Nat.zero_le _, rfl, unhide HF, rfl⟩
  case round =>
    obtain ⟨k, nn, hk1, hk2, rfl, hR, hwr⟩ := hrel
    subst hwr
    clear HF
    have hLl := (unhide HIa).1
    have hMl := (unhide HJb).1
    have HFIN : Hid (∀ n2, Below w.heap.size w ((w.drewN nn).drewN n2)) := fun n2 => below_drewN (below_drewN (Below.refl _ _) _) _
    by_cases h1 : k < la
    · by_cases h2 : k < lb
      · obtain ⟨u, hu⟩ : ∃ u, L[k]? = some u := ⟨_, List.getElem?_eq_getElem (by omega)⟩
        obtain ⟨v, hv⟩ : ∃ v, M[k]? = some v := ⟨_, List.getElem?_eq_getElem (by omega)⟩
        obtain ⟨ba, oa, rfl, _, hca⟩ := (unhide HIa).at (by omega)
        obtain ⟨bb, ob, rfl, _, hcb⟩ := (unhide HJb).at (by omega)
        have cu := hca k h1
        have cv := hcb k h2
        rw [List.getD_eq_getElem?_getD, hu] at cu
        rw [List.getD_eq_getElem?_getD, hv] at cv
        simp only [Option.getD_some] at cu cv
        have d1 : decide ((k : Int) < (la : Int)) = true := decide_eq_true (by omega)
        have d2 : decide ((k : Int) < (lb : Int)) = true := decide_eq_true (by omega)
        have i1 : (0 : Int) ≤ (k : Int) := by omega
        have i2 : (k : Int) < (la : Int) := by omega
        have i3 : (k : Int) < (lb : Int) := by omega
        by_cases he : u = v
        · subst he
          have HN : Hid (R = (k + 1) + cmn (L.drop (k + 1)) (M.drop (k + 1))) := by
            show _ = _
            rw [hR, cmn_eq hu hv]
            omega
          have d3 : (u == u) = true := by simp
          clear hca hcb hu hv hR hLl hMl
          go_wp2_with fail
          go_quiet (fail)
          go_wp2_with fail
          go_roundw
          case rel => exact ⟨k + 1, nn + nq, by omega, by omega, by go_num, unhide HN, by first | rfl | simp⟩
          case measure => simp [intOf]; omega
        · have HN : Hid (R = k) := by
            show _ = _
            rw [hR, cmn_ne hu hv he, Nat.add_zero]
          have d3 : (u == v) = false := by simp [he]
          clear hca hcb hu hv hR hLl hMl he
          go_wp2_with fail
          go_quiet (fail)
          go_wp2_with fail
          go_ret
          exact ⟨by rw [unhide HN]; rfl, (unhide HFIN) _⟩
      · have HN : Hid (R = k) := by
          show _ = _
          rw [hR, cmn_end (.inr (by omega)), Nat.add_zero]
        have d1 : decide ((k : Int) < (la : Int)) = true := decide_eq_true (by omega)
        have d2 : decide ((k : Int) < (lb : Int)) = false := decide_eq_false (by omega)
        clear hR hLl hMl
        go_wp2_with fail
        go_quiet (fail)
        go_wp2_with fail
        go_ret
        exact ⟨by rw [unhide HN]; rfl, (unhide HFIN) _⟩
    · have HN : Hid (R = k) := by
        show _ = _
        rw [hR, cmn_end (.inl (by omega)), Nat.add_zero]
      have d1 : decide ((k : Int) < (la : Int)) = false := decide_eq_false (by omega)
      clear hR hLl hMl
      go_wp2_with fail
      go_quiet (fail)
      go_wp2_with fail
      go_ret
      exact ⟨by rw [unhide HN]; rfl, (unhide HFIN) _⟩

set_option maxHeartbeats 4000000 in
theorem l11Two_any (g of' : Nat) (s : Sl) (x : St) (a b : Int) (w : World) (sb : ∀ j v, (tvals s x).toList[j]? = some v → w.cell? ⟨g, of' + j, none⟩ = some v) (o : RowOk enK w s x.2) (m : StSm x) :
    Calls Tryz.prog 14 #[.pointer (some ⟨g, of', none⟩), .int .i64 a, .int .i64 b] w fun r w' => r = .returned (.int .i64 (plsCode x [a, b])) ∧ Below w.heap.size w w' := by
  have D1 := hide (l10Fault_any g of' s x w sb o m)
  have x3 := sb 3 _ rfl
  have D2 := hide (fun (p : Int) (W : World) (hb : Below w.heap.size w W) => l11Place_any g of' s x.2 p W ((hb.cell (p := ⟨g, of' + 3, none⟩) (lt_of_cell x3)).trans x3) (RowOk.below o hb (Nat.le_refl _)))
  have HE : Hid (plsCode x [a, b] = if stFlt x = 0 then (if (within a 0 ((x.2.length : Int) - 1) && within b 0 ((x.2.length : Int) - 1)) = true then 0 else 3) else stFlt x) := by
    show _ = _
    unfold plsCode plsOk
    simp only [List.all_cons, List.all_nil, Bool.and_true]
  have DA := hide ((unhide D2) a)
  have DB := hide ((unhide D2) b)
  generalize plsCode x [a, b] = R at HE ⊢
  generalize stFlt x = q0 at D1 HE
  generalize within a 0 ((x.2.length : Int) - 1) = wa at DA HE
  generalize within b 0 ((x.2.length : Int) - 1) = wb at DB HE
  clear sb o m D2 x3
  go_enter Tryz.func14, Tryz.ntmps14
  go_wp2_with fail
  refine (unhide D1).mono ?_
  rintro r w1 ⟨rfl, b1⟩
  have B1 := hide b1
  clear b1 D1
  by_cases hq : q0 = 0
  · subst hq
    have HE1 := hide ((unhide HE).trans (if_pos rfl))
    cases wa
    · go_wp2_with fail
      refine ((unhide DA) _ (unhide B1)).mono ?_
      rintro r w2 ⟨rfl, rfl⟩
      go_wp2_with fail
      go_ret
      exact ⟨ret_int (unhide HE1).symm, unhide B1⟩
    · cases wb
      all_goals
        go_wp2_with fail
        refine ((unhide DA) _ (unhide B1)).mono ?_
        rintro r w2 ⟨rfl, rfl⟩
        go_wp2_with fail
        refine ((unhide DB) _ (unhide B1)).mono ?_
        rintro r w3 ⟨rfl, rfl⟩
        go_wp2_with fail
        go_ret
        exact ⟨ret_int (unhide HE1).symm, unhide B1⟩
  · have HE1 := hide ((unhide HE).trans (if_neg hq))
    have hne : (q0 != 0) = true := by simp [hq]
    go_wp2_with fail
    go_ret
    exact ⟨ret_int (unhide HE1).symm, unhide B1⟩

theorem cm_cases (x : St) (a b : Int) : (plsCode x [a, b] ≠ 0 ∧ cmVal x a b = 0) ∨ (plsCode x [a, b] = 0 ∧ cmVal x a b = lob (lineL x.2 b) (lineL x.2 a).reverse) := by
  unfold cmVal
  by_cases h : plsCode x [a, b] = 0
  · rw [if_pos h]; exact .inr ⟨h, rfl⟩
  · rw [if_neg h]; exact .inl ⟨h, rfl⟩

end Go.Proofs.YtldiilmpmcbjkaaGreatDoor

/- What is proved here: what the model's TurnChain answers: the way from an entry to another one. -/
namespace Go.Proofs.YtldiilmpmcbjkaaGreatDoor
open Go.RowKit
set_option linter.unusedVariables false
set_option linter.unusedSimpArgs false
set_option maxRecDepth 100000

/-- While numbers are appended to a TurnResult's Back: its block at go, its own row. -/
structure TcI (W6 wr : World) (go : Nat) (sf : Value) (T : TypeId) (sb : Sl) (ys : List Int) : Prop where
  blk : SBlk wr go [.int .i64 0, .slice sb.a sb.n sb.c, sf] T
  own : wr.ownsRow W6.heap.size 2 1 (.slice sb.a sb.n sb.c) sb.n (ys.map (Value.int .i64))
  old : Below go W6 wr

theorem TcI.step {W6 wr WA W2 : World} {go : Nat} {sf : Value} {T : TypeId} {sb : Sl} {ys : List Int} {v : Int} {g2 cap2 : Nat} (h : TcI W6 wr go sf T sb ys) (hgo : go < W6.heap.size) (bA : Below wr.heap.size wr WA)
    (hown : W2.ownsRow W6.heap.size 2 1 (.slice (some ⟨g2, 0, none⟩) (sb.n + 1) cap2) (sb.n + 1) (ys.map (Value.int .i64) ++ [.int .i64 v])) (hg : WA.grownBy W2 (Value.slice sb.a sb.n sb.c).ownBlock) :
    (∃ u, W2.cell? ⟨go, 1, none⟩ = some u) ∧ W2.frozen? ⟨go, 1, none⟩ = false ∧ Below go W6 W2 ∧ TcI W6 (W2.setCell ⟨go, 1, none⟩ (.slice (some ⟨g2, 0, none⟩) (sb.n + 1) cap2)) go sf T ⟨some ⟨g2, 0, none⟩, sb.n + 1, cap2⟩ (ys ++ [v]) := by
  have hob : ∀ g, (Value.slice sb.a sb.n sb.c).ownBlock = some g → W6.heap.size ≤ g := fun g e => (h.own.lt g e).1
  have hs := h.old.size
  have kA := h.blk.below bA h.blk.lt
  have k2 : SBlk W2 go [.int .i64 0, .slice sb.a sb.n sb.c, sf] T := (hg.block go kA.lt (fun e => by have := hob go e.symm; omega)).trans kA
  have b2 : Below go W6 W2 := (h.old.trans (bA.mono (by omega))).grown hg (by have := bA.size; omega) (fun g e => by have := hob g e; omega)
  have hg2 : W6.heap.size ≤ g2 := (hown.lt g2 rfl).1
  refine ⟨⟨_, k2.cell 1⟩, k2.free 1, b2, k2.set 1 _, ?_, b2.setCell (p := ⟨go, 1, none⟩) (Nat.le_refl _) _⟩
  rw [List.map_append]
  exact own_frame hown (fun x hx => by
    obtain rfl := Option.some.inj hx
    exact heap_setCell_other W2 ⟨go, 1, none⟩ g2 _ (fun e => by have e' : g2 = go := e; omega))

theorem rev_drop (L : List Int) (j : Nat) (h0 : 0 < j) (h1 : j ≤ L.length) : (L.drop (j - 1)).reverse = (L.drop j).reverse ++ [L.getD (j - 1) 0] := by
  have e : L.drop (j - 1) = L[j - 1]'(by omega) :: L.drop j := by
    rw [List.drop_eq_getElem_cons (by omega)]
    congr 1
    rw [show j - 1 + 1 = j by omega]
  rw [e, List.reverse_cons, List.getD_eq_getElem?_getD, List.getElem?_eq_getElem (by omega)]
  rfl

theorem one_at1 (w : World) (x : Value) (t : TypeId) : ∀ (j : Nat) (u : Value), [x][j]? = some u → (w.alloc (.cells #[x] t)).cell? ((⟨w.heap.size, 0, none⟩ : Addr).add j) = some u := by
  intro j u hj
  rw [add_none, Nat.zero_add, World.cell?_alloc_new]
  match j, hj with
  | 0, hj => simpa using hj

theorem IRow.keep {w w' : World} {a : Option Addr} {n : Nat} {zs : List Int} (h : IRow w a n zs) (hk : ∀ x, a = some x → w'.heap[x.block]? = w.heap[x.block]?) : IRow w' a n zs := by
  rcases Nat.eq_zero_or_pos n with h0 | hp
  · subst h0
    exact ⟨h.1, h.2.1, h.2.2.1, fun x hx i hi => absurd hi (Nat.not_lt_zero _)⟩
  · obtain ⟨b, off, rfl, _, _⟩ := h.at hp
    refine ⟨h.1, h.2.1, h.2.2.1, fun x hx i hi => ?_⟩
    obtain rfl := Option.some.inj hx
    rw [← h.2.2.2 _ rfl i hi, add_none]
    exact World.cell?_of_block (w := w) (hk ⟨b, off, none⟩ rfl)

set_option maxHeartbeats 4000000 in
theorem specTurnC_any (s : Sl) (x : St) (a b : Int) (w : World) (o : RowOk enK w s x.2) (m : StSm x) :
    Calls Tryz.prog 5 #[.agg (tvals s x), .int .i64 a, .int .i64 b] w fun r w' => ∃ a1 a2 c1 c2, r = .returned (.agg #[.int .i64 (plsCode x [a, b]), .slice a1 (tcBack x a b).length c1, .slice a2 (tcForth x a b).length c2]) ∧
      IRow w' a1 (tcBack x a b).length (tcBack x a b) ∧ IRow w' a2 (tcForth x a b).length (tcForth x a b) ∧ Below w.heap.size w w' := by
  obtain ⟨i0, hi, hz0, hz1, hz2⟩ := info_parts info2
  obtain ⟨k0, k1, k2, k3⟩ := two_blk w (tvals s x) #[.int .i64 0, .slice none 0 0, .slice none 0 0] 35 30
  obtain ⟨W0, e0⟩ : ∃ W, (w.alloc (.cells (tvals s x) 35)).alloc (.cells #[.int .i64 0, .slice none 0 0, .slice none 0 0] 30) = W := ⟨_, rfl⟩
  rw [e0] at k0 k1 k2 k3
  have D1 := hide (l11Two_any w.heap.size 0 s x a b W0 (fun j v hv => by rw [Nat.zero_add, k0.cell]; exact hv) (RowOk.below o k2 (Nat.le_refl _)) m)
  have D2 : Hid (plsCode x [a, b] = 0 → ∀ (p : Int), p ∈ [a, b] → ∀ (W : World), Below W0.heap.size W0 W → Calls Tryz.prog 15 #[.pointer (some ⟨w.heap.size, 0, none⟩), .int .i64 p] W fun r w' => ∃ a c, r = .returned (.slice a (lineL x.2 p).length c) ∧ w'.ownsRow W.heap.size 2 1 (.slice a (lineL x.2 p).length c) (lineL x.2 p).length ((lineL x.2 p).map (Value.int .i64)) ∧ Below W.heap.size W w') := fun hz p hp W hb => by
    obtain ⟨h0, hab⟩ := pls_zero hz
    have hpr := hab p hp
    exact l10Line_any w.heap.size 0 s x.2 (st_ups h0) (st_zero h0).2.1.2 (p + 1).toNat p (Nat.le_refl _) (by omega) hpr.2 W (by rw [Nat.zero_add]; exact (k0.below hb k0.lt).cell 3) (RowOk.below o (k2.trans (hb.mono k2.size)) (Nat.le_refl _))
  have HTC := hide (tc_facts (x := x) (a := a) (b := b))
  have HCL := hide (cmn_le (lineL x.2 a) (lineL x.2 b))
  have HTB : Hid (tcBack x a b = if plsCode x [a, b] = 0 then ((lineL x.2 a).drop (cmn (lineL x.2 a) (lineL x.2 b))).reverse else []) := rfl
  have HTF : Hid (tcForth x a b = if plsCode x [a, b] = 0 then (lineL x.2 b).drop (cmn (lineL x.2 a) (lineL x.2 b)) else []) := rfl
  have HK := hide (fun (W : World) (hb : Below W0.heap.size W0 W) => And.intro (k0.below hb k0.lt) (k1.below hb k1.lt))
  have hz : w.heap.size + 1 < W0.heap.size := by omega
  have HB0 := hide k2
  have E0 := hide e0
  unfold tvals at E0 k0 HK ⊢
  generalize tcBack x a b = TB at HTB ⊢
  generalize tcForth x a b = TF at HTF ⊢
  generalize plsCode x [a, b] = q0 at D1 D2 HTC HTB HTF ⊢
  have DA := hide (fun h => (unhide D2) h a (by simp))
  have DB := hide (fun h => (unhide D2) h b (by simp))
  generalize lineL x.2 a = LA at DA HTC HTB HTF HCL
  generalize lineL x.2 b = LB at DB HTC HTB HTF HCL
  clear e0 o m k0 k1 k2 k3 D2
  go_enter Tryz.func5, Tryz.ntmps5
  go_upto_region 1 with fail
  rw [unhide E0]
  clear E0
  go_wp2_with fail
  refine (unhide D1).mono ?_
  rintro r w1 ⟨rfl, b1⟩
  obtain ⟨r0, r1, r2, f0, f1, f2⟩ := three_blk' ((unhide HK) w1 b1).2
  have B1 := hide ((unhide HB0).trans (b1.mono (unhide HB0).size))
  have BW := hide b1
  clear b1 D1
  have HFIN : Hid (∀ (W : World), Below w.heap.size w W → ∀ u v z, Below w.heap.size w (((W.setCell ⟨w.heap.size + 1, 0, none⟩ u).setCell ⟨w.heap.size + 1, 1, none⟩ v).setCell ⟨w.heap.size + 1, 2, none⟩ z)) := fun W h u v z => ((h.setCell (by show w.heap.size ≤ w.heap.size + 1; omega) u).setCell (by show w.heap.size ≤ w.heap.size + 1; omega) v).setCell (by show w.heap.size ≤ w.heap.size + 1; omega) z
  by_cases hq : q0 = 0
  · subst hq
    obtain ⟨k, hk, l1, l2, ga, gb, fa, fb⟩ := (unhide HTC) rfl
    have hTB := (unhide HTB).trans (if_pos rfl)
    have hTF := (unhide HTF).trans (if_pos rfl)
    have hcl := unhide HCL
    have D3 := hide ((unhide DA) rfl w1 (unhide BW))
    have D4 := hide ((unhide DB) rfl)
    have HCM := hide (fun (W : World) (aa ab : Option Addr) (ca cb : Nat) (h1 : IRow W aa LA.length LA) (h2 : IRow W ab LB.length LB) => l11Common_any aa ab LA.length ca LB.length cb LA LB W h1 (by omega) h2 (by omega))
    generalize cmn LA LB = n at hTB hTF hcl HCM
    have HT := hide (And.intro hTB hTF)
    have lb := (List.getElem?_eq_some_iff.1 gb).1
    clear hTB hTF HTC HTB HTF DA DB hk ga gb fa fb HCL
    go_wp2_with fail
    refine (unhide D3).mono ?_
    rintro r w2 ⟨a2, c2, rfl, o2, b2⟩
    have H2 := hide ((unhide BW).trans (b2.mono (unhide BW).size))
    have IA := hide (IRow.own2 o2)
    clear b2 o2 D3
    go_wp2_with fail
    refine ((unhide D4) w2 (unhide H2)).mono ?_
    rintro r w3 ⟨a3, c3, rfl, o3, b3⟩
    have H3 := hide ((unhide H2).trans (b3.mono (unhide H2).size))
    have IA3 := hide ((unhide IA).below b3 (Nat.le_refl _))
    have IB3 := hide (IRow.own2 o3)
    have hcap3 : LB.length ≤ c3 := (OwnS.of o3).room
    obtain ⟨g3, rfl⟩ := own_at o3 (by omega)
    clear b3 o3 IA D4
    go_wp2_with fail
    refine ((unhide HCM) w3 _ _ _ _ (unhide IA3) (unhide IB3)).mono ?_
    rintro r w4 ⟨rfl, b4⟩
    have H4 := hide ((unhide H3).trans (b4.mono (unhide H3).size))
    have IA4 := hide ((unhide IA3).below b4 (Nat.le_refl _))
    have IB4 := hide ((unhide IB3).below b4 (Nat.le_refl _))
    clear b4 IA3 IB3 HCM
    obtain ⟨off, hoff⟩ : ∃ off, off = if c3 = n then 0 else n := ⟨_, rfl⟩
    have hown0 : (w4.alloc (.cells #[] 2)).ownsRow w4.heap.size 2 1 (.slice (some ⟨w4.heap.size, 0, none⟩) 0 0) 0 [] := World.ownsRow_lit w4 #[] 0 (Nat.le_refl _) (by unfold maxLen; omega) rfl
    have HNW : Hid (∀ (j : Nat) u, ((LB.drop n).map (Value.int .i64))[j]? = some u → (w4.alloc (.cells #[] 2)).cell? ((⟨g3, off, none⟩ : Addr).add j) = some u) := fun j u hu => by
      have hj := (List.getElem?_eq_some_iff.1 hu).1
      rw [List.length_map, List.length_drop] at hj
      have hne : ¬ c3 = n := by omega
      rw [hoff, if_neg hne, add_none]
      rw [List.getElem?_map, List.getElem?_drop] at hu
      obtain ⟨b', o', e', hb', hc'⟩ := (unhide IB4).at (by omega)
      obtain ⟨rfl, rfl⟩ : b' = g3 ∧ o' = 0 := by cases e'; exact ⟨rfl, rfl⟩
      have hcc := hc' (n + j) (by omega)
      rw [Nat.zero_add] at hcc
      rw [((below_alloc w4 (.cells #[] 2)).cell (p := ⟨b', n + j, none⟩) hb'), hcc]
      rw [List.getElem?_eq_getElem (by omega), Option.map_some] at hu
      rw [List.getD_eq_getElem?_getD, List.getElem?_eq_getElem (by omega)]
      exact hu
    have n1 : (0 : Int) ≤ (n : Int) := by omega
    have n2 : (n : Int) ≤ (LB.length : Int) := by omega
    have hcz : (c3 - n = 0 ∧ off = 0) ∨ (¬ c3 - n = 0 ∧ off = n) := by
      by_cases hc : c3 = n
      · exact .inl ⟨by omega, by rw [hoff, if_pos hc]⟩
      · exact .inr ⟨by omega, by rw [hoff, if_neg hc]⟩
    have HLD : Hid ((LB.drop n).length = LB.length - n) := List.length_drop
    have n3 : (LB.length : Int) ≤ (c3 : Int) := by omega
    clear hoff
    rcases hcz with ⟨hc, ho⟩ | ⟨hc, ho⟩
    all_goals
      rw [ho] at HNW
      clear ho
      go_wp2_with (at_builtin; refine wpList_append_own _ rfl _ _ 28 rfl w4.heap.size 2 i0 (.int .i64 0) 1 8 Tryz.underlying28 hi hz0 hz1 hz2 rfl (by decide) _ _ _ rfl hown0 ⟨g3, _, none⟩ (LB.length - n) _ ((LB.drop n).map (Value.int .i64)) rfl ?c0 ?c1 ?c2 ?c3 ?c4 ?c5 ?_)
      case c0 => rw [List.length_map, unhide HLD, Nat.mul_one]
      case c1 => exact unhide HNW
      case c2 => intro u hu; obtain ⟨z, _, rfl⟩ := List.mem_map.1 hu; rfl
      case c3 => unfold maxLen; omega
      case c4 => omega
      case c5 => simp
      intro v' w5 hown5 hgrow5 _
      obtain ⟨a5, cap5, hv5⟩ := own_shape hown5
      rw [hv5] at hown5 ⊢
      have b45 : Below w4.heap.size w4 w5 := (below_alloc w4 (.cells #[] 2)).grown hgrow5 (by simp) (fun g e => (hown0.lt g e).1)
      have H5 := hide ((unhide H4).trans (b45.mono (unhide H4).size))
      have IA5 := hide ((unhide IA4).below b45 (Nat.le_refl _))
      have hF5 : w5.ownsRow w4.heap.size 2 1 (.slice a5 (LB.length - n) cap5) (LB.length - n) ((LB.drop n).map (Value.int .i64)) := by rw [List.map_drop]; exact hown5
      have IF5 := hide (And.intro (IRow.own2 hF5) (fun (x : Addr) (hx : a5 = some x) => hF5.lt x.block (by rw [hx]; rfl)))
      have kO := SBlk.new w5 #[.int .i64 0, .slice none 0 0, .slice a5 (LB.length - n) cap5] 30
      have b56 := below_alloc w5 (.cells #[.int .i64 0, .slice none 0 0, .slice a5 (LB.length - n) cap5] 30)
      obtain ⟨W6, e6⟩ : ∃ W, w5.alloc (.cells #[.int .i64 0, .slice none 0 0, .slice a5 (LB.length - n) cap5] 30) = W := ⟨_, rfl⟩
      rw [e6] at kO b56
      have E6 := hide e6
      have hgo := kO.lt
      have I0 : TcI W6 W6 w5.heap.size (.slice a5 (LB.length - n) cap5) 30 ⟨none, 0, 0⟩ (LA.drop LA.length).reverse := ⟨kO, by rw [List.drop_length]; exact World.ownsRow_nil _ _ _ _, Below.refl _ _⟩
      have HI0 := hide I0
      have HB56 := hide b56
      have hz5 := (unhide H5).size
      have hz4 := (unhide H4).size
      clear hgrow5 hown5 hF5 hown0 b45 HNW IA4 IB4 H4 kO e6 b56 I0
      go_wp2_with (rw [unhide E6])
      try rw [unhide E6]
      clear E6
      obtain ⟨go, ego⟩ : ∃ g, g = w5.heap.size := ⟨_, rfl⟩
      rw [← ego] at hgo HI0 ⊢
      have EGO := hide ego
      clear ego
      go_loopw [12] (fun i wr => ∃ (j : Nat) (sb : Sl), n ≤ j ∧ j ≤ LA.length ∧ i = .int .i64 ((j : Int) - 1) ∧ TcI W6 wr go (.slice a5 (LB.length - n) cap5) 30 sb (LA.drop j).reverse) (fun i _ => (intOf i + 1).toNat)
      case atStart => exact ⟨LA.length, ⟨none, 0, 0⟩, hcl.1, Nat.le_refl _, by go_num, unhide HI0⟩
      case round =>
        obtain ⟨j, sb, hj0, hj1, rfl, I⟩ := hrel
        clear HI0
        have bwr : Below w5.heap.size w5 wr := by
          have := I.old
          rw [unhide EGO] at this
          exact (unhide HB56).trans (this.mono (Nat.le_refl _))
        by_cases hlt : n < j
        · obtain ⟨q, rfl⟩ : ∃ q, j = q + 1 := ⟨j - 1, by omega⟩
          rw [show (((q + 1 : Nat) : Int) - 1) = (q : Int) by omega]
          obtain ⟨gA, oA, ea, hgA, hcA⟩ := (unhide IA5).at (by omega)
          have hcq := hcA q (by omega)
          have hrv := rev_drop LA (q + 1) (by omega) hj1
          rw [show q + 1 - 1 = q by omega] at hrv
          generalize LA.getD q 0 = vq at hcq hrv
          have HSS : Hid (∀ W, Below wr.heap.size wr W → (fun W => W.cell? ⟨gA, oA + q, none⟩ = some (.int .i64 vq)) W) := fun W hb => by
            show W.cell? _ = _
            rw [(bwr.trans (hb.mono bwr.size)).cell (p := ⟨gA, oA + q, none⟩) hgA]
            exact hcq
          have hsn : sb.n ≤ 24 := by have := I.own.1; simp at this; omega
          have HST : Hid (∀ (WA W2 : World) (g2 cap2 : Nat), Below wr.heap.size wr WA → W2.ownsRow W6.heap.size 2 1 (.slice (some ⟨g2, 0, none⟩) (sb.n + 1) cap2) (sb.n + 1) ((LA.drop (q + 1)).reverse.map (Value.int .i64) ++ [.int .i64 vq]) → WA.grownBy W2 (Value.slice sb.a sb.n sb.c).ownBlock →
              (∃ u, W2.cell? ⟨go, 1, none⟩ = some u) ∧ W2.frozen? ⟨go, 1, none⟩ = false ∧ (fun W => W.cell? ⟨gA, oA + q, none⟩ = some (.int .i64 vq)) W2 ∧ (fun W => W.cell? ⟨gA, oA + q, none⟩ = some (.int .i64 vq)) (W2.setCell ⟨go, 1, none⟩ (.slice (some ⟨g2, 0, none⟩) (sb.n + 1) cap2)) ∧ TcI W6 (W2.setCell ⟨go, 1, none⟩ (.slice (some ⟨g2, 0, none⟩) (sb.n + 1) cap2)) go (.slice a5 (LB.length - n) cap5) 30 ⟨some ⟨g2, 0, none⟩, sb.n + 1, cap2⟩ (LA.drop q).reverse) := fun WA W2 g2 cap2 bA ho hg => by
            obtain ⟨p1, p2, p3, p4⟩ := TcI.step I hgo bA ho hg
            rw [← hrv] at p4
            have ego := unhide EGO
            have hcell : ∀ W, Below go W6 W → W.cell? ⟨gA, oA + q, none⟩ = some (.int .i64 vq) := fun W hb => by
              rw [hb.cell (p := ⟨gA, oA + q, none⟩) (by rw [ego]; exact hgA), (unhide HB56).cell (p := ⟨gA, oA + q, none⟩) hgA]
              exact hcq
            exact ⟨p1, p2, hcell _ p3, hcell _ p4.old, p4⟩
          have ownd : ∀ o, (wr.alloc o).drew.ownsRow W6.heap.size 2 1 (.slice sb.a sb.n sb.c) sb.n ((LA.drop (q + 1)).reverse.map (Value.int .i64)) := fun o => I.own.alloc o
          have g1c := I.blk.cell 1
          simp only [List.getElem?_cons_zero, List.getElem?_cons_succ] at g1c
          have hgl := I.blk.lt
          have g1a : ∀ o, (wr.alloc o).cell? ⟨go, 1, none⟩ = some (.slice sb.a sb.n sb.c) := fun o => ((below_alloc wr o).cell (p := ⟨go, 1, none⟩) hgl).trans g1c
          have zW : W6.heap.size ≤ wr.heap.size := I.old.size
          have k1 : (0 : Int) ≤ (q : Int) := by omega
          have k2 : (q : Int) < (LA.length : Int) := by omega
          have k3 : decide ((n : Int) ≤ (q : Int)) = true := decide_eq_true (by omega)
          obtain rfl := ea
          clear I bwr hcA hcq hrv hgl
          go_wp2_with fail
          refine wp_region_held_drew (S := (fun W => W.cell? ⟨gA, oA + q, none⟩ = some (.int .i64 vq))) (by kernel_rfl) ((unhide HSS) _ (Below.refl wr.heap.size wr).drew) (fun hHeld => ?_)
          refine wpAnyH_take (i := 0) (oi := _) (v := ?_) rfl (by kernel_rfl) (by kernel_rfl) (by kernel_rfl) (fun _ _ _ h => h) (Or.inl ⟨by rfl, ?_⟩) (by assumption) ?_
          rotate_left
          · ((intro wq hSw; (try dsimp only at hSw); go_simp) <;> with_reducible rfl)
          try dsimp only
          refine wpAnyH_take (i := 2) (oi := _) (v := ?_) rfl (by kernel_rfl) (by kernel_rfl) (by kernel_rfl) (fun _ _ _ h => h) (Or.inl ⟨by rfl, ?_⟩) (by assumption) ?_
          rotate_left
          · ((intro wq hSw; (try dsimp only at hSw); go_simp) <;> with_reducible rfl)
          try dsimp only
          refine wpAnyH_take (i := 3) (oi := _) (v := ?_) rfl (by kernel_rfl) (by kernel_rfl) (by kernel_rfl) (fun _ _ _ h => h) (Or.inl ⟨by rfl, ?_⟩) (by assumption) ?_
          rotate_left
          · ((intro wq hSw; (try dsimp only at hSw); go_simp) <;> with_reducible rfl)
          try dsimp only
          refine wpAnyH_take (i := 4) (oi := _) (v := ?_) rfl (by kernel_rfl) (by kernel_rfl) (by kernel_rfl) (fun _ _ _ h => h) (Or.inl ⟨by rfl, ?_⟩) (by assumption) ?_
          rotate_left
          · ((intro wq hSw; (try dsimp only at hSw); go_simp) <;> with_reducible rfl)
          try dsimp only
          refine wpAnyH_take (i := 5) (oi := _) (v := ?_) rfl (by kernel_rfl) (by kernel_rfl) (by kernel_rfl) (fun _ _ _ h => h) (Or.inl ⟨by rfl, ?_⟩) (by assumption) ?_
          rotate_left
          · ((intro wq hSw; (try dsimp only at hSw); go_simp) <;> with_reducible rfl)
          try dsimp only
          refine wpAnyH_ready (rs := [1, 6]) (by kernel_rfl) (by simp) ?_
          refine AllReadyH.cons (o := _) rfl (fun K hK => ?_) ?_
          · skip
            go_simp
            refine hK.out _ _ (hHeld) (fun hHeld => ?_)
            clear hK K
            try dsimp only
            refine wpAnyH_ready (rs := [6]) (by kernel_rfl) (by simp) ?_
            refine AllReadyH.cons (o := _) rfl (fun K hK => ?_) AllReadyH.nil
            go_simp
            refine hK.out _ _ ((unhide HSS) _ (below_alloc wr _).drew) (fun hHeld => ?_)
            clear hK K
            try dsimp only
            refine wpAnyH_ready (rs := [7]) (by kernel_rfl) (by simp) ?_
            refine AllReadyH.cons (o := _) rfl (fun K hK => ?_) AllReadyH.nil
            refine step_append_lies _ (by rfl) (.tmp 42) (.tmp 47) 28 (by rfl) W6.heap.size 2 i0 (.int .i64 0) 1 8 Tryz.underlying28 hi hz0 hz1 hz2 rfl (by decide) _ _ _ (by rfl) (by exact ownd _) ⟨wr.heap.size, 0, none⟩ 1 1 [.int .i64 vq] (by rfl) rfl (by exact one_at1 wr _ _) (by simp [Value.oneCell']) (by omega) (by unfold maxLen; omega) (by omega) (by simp; omega) _ rfl ?_
            intro g2 cap2 W2 hown2 hgrow2 hat2 hlt2
            obtain ⟨⟨u10, hu10⟩, hf10, hS2, hS3, I2⟩ := (unhide HST) _ W2 g2 cap2 (below_alloc wr _).drew hown2 hgrow2
            have HI2 := hide I2
            clear I2 hown2 hgrow2 hat2 hlt2
            refine hK.out _ _ (hS2) (fun hHeld => ?_)
            clear hK K
            try dsimp only
            refine wpAnyH_take (i := 8) (oi := _) (v := ?_) rfl (by kernel_rfl) (by kernel_rfl) (by kernel_rfl) (fun _ _ _ h => h) (Or.inl ⟨by rfl, ?_⟩) (by assumption) ?_
            rotate_left
            · ((intro wq hSw; (try dsimp only at hSw); go_simp) <;> with_reducible rfl)
            try dsimp only
            refine wpAnyH_ready (rs := [9]) (by kernel_rfl) (by simp) ?_
            refine AllReadyH.cons (o := _) rfl (fun K hK => ?_) AllReadyH.nil
            go_simp
            refine hK.out _ _ (hS3) (fun hHeld => ?_)
            clear hK K
            try dsimp only
            refine wpAnyH_done (by kernel_rfl) ?_ _
            obtain ⟨hrow, hrest⟩ := And.intro (unhide HI2) True.intro
            go_wp2_with fail
            go_roundw
            case rel => exact ⟨q, ⟨some ⟨g2, 0, none⟩, sb.n + 1, cap2⟩, by omega, by omega, by go_num, unhide HI2⟩
            case measure => simp [intOf] <;> omega
          refine AllReadyH.cons (o := _) rfl (fun K hK => ?_) AllReadyH.nil
          go_simp
          refine hK.out _ _ ((unhide HSS) _ (below_alloc wr _).drew) (fun hHeld => ?_)
          clear hK K
          try dsimp only
          refine wpAnyH_ready (rs := [1]) (by kernel_rfl) (by simp) ?_
          refine AllReadyH.cons (o := _) rfl (fun K hK => ?_) AllReadyH.nil
          go_simp
          refine hK.out _ _ (hHeld) (fun hHeld => ?_)
          clear hK K
          try dsimp only
          refine wpAnyH_ready (rs := [7]) (by kernel_rfl) (by simp) ?_
          refine AllReadyH.cons (o := _) rfl (fun K hK => ?_) AllReadyH.nil
          refine step_append_lies _ (by rfl) (.tmp 42) (.tmp 47) 28 (by rfl) W6.heap.size 2 i0 (.int .i64 0) 1 8 Tryz.underlying28 hi hz0 hz1 hz2 rfl (by decide) _ _ _ (by rfl) (by exact ownd _) ⟨wr.heap.size, 0, none⟩ 1 1 [.int .i64 vq] (by rfl) rfl (by exact one_at1 wr _ _) (by simp [Value.oneCell']) (by omega) (by unfold maxLen; omega) (by omega) (by simp; omega) _ rfl ?_
          intro g2 cap2 W2 hown2 hgrow2 hat2 hlt2
          obtain ⟨⟨u10, hu10⟩, hf10, hS2, hS3, I2⟩ := (unhide HST) _ W2 g2 cap2 (below_alloc wr _).drew hown2 hgrow2
          have HI2 := hide I2
          clear I2 hown2 hgrow2 hat2 hlt2
          refine hK.out _ _ (hS2) (fun hHeld => ?_)
          clear hK K
          try dsimp only
          refine wpAnyH_take (i := 8) (oi := _) (v := ?_) rfl (by kernel_rfl) (by kernel_rfl) (by kernel_rfl) (fun _ _ _ h => h) (Or.inl ⟨by rfl, ?_⟩) (by assumption) ?_
          rotate_left
          · ((intro wq hSw; (try dsimp only at hSw); go_simp) <;> with_reducible rfl)
          try dsimp only
          refine wpAnyH_ready (rs := [9]) (by kernel_rfl) (by simp) ?_
          refine AllReadyH.cons (o := _) rfl (fun K hK => ?_) AllReadyH.nil
          go_simp
          refine hK.out _ _ (hS3) (fun hHeld => ?_)
          clear hK K
          try dsimp only
          refine wpAnyH_done (by kernel_rfl) ?_ _
          obtain ⟨hrow, hrest⟩ := And.intro (unhide HI2) True.intro
          go_wp2_with fail
          go_roundw
          case rel => exact ⟨q, ⟨some ⟨g2, 0, none⟩, sb.n + 1, cap2⟩, by omega, by omega, by go_num, unhide HI2⟩
          case measure => simp [intOf] <;> omega
        · obtain rfl : j = n := by omega
          have k3 : decide ((j : Int) ≤ (j : Int) - 1) = false := decide_eq_false (by omega)
          obtain ⟨u0, u1, u2, _⟩ := three_blk' I.blk
          have bW0 := (unhide H5).trans (bwr.mono (unhide H5).size)
          clear r0 r1 r2 f0 f1 f2
          obtain ⟨r0, r1, r2, f0, f1, f2⟩ := three_blk' ((unhide HK) wr bW0).2
          have hsn : sb.n = (LA.drop j).reverse.length := by have := I.own.1; rw [List.length_map, Nat.mul_one] at this; exact this.symm
          have HX := hide (And.intro I.own (And.intro bwr (And.intro bW0 (And.intro hsn I.old))))
          clear I bwr bW0 hsn hlt hj0 hj1 hv5
          go_wp2_with fail
          refine bodyPost_ret (v := .agg #[.int .i64 0, .slice sb.a sb.n sb.c, .slice a5 (LB.length - j) cap5]) (by simp [results, Tryz.results5, go_sem, r0, r1, r2, u0, u1, u2]) rfl ?_
          obtain ⟨own, bwr, bW0, hsn, old⟩ := unhide HX
          obtain ⟨hTB, hTF⟩ := unhide HT
          have hz6 := (unhide HB56).size
          have K : ∀ (g : Nat) (u v z : Value), ¬ g = w.heap.size + 1 → (((wr.setCell ⟨w.heap.size + 1, 0, none⟩ u).setCell ⟨w.heap.size + 1, 1, none⟩ v).setCell ⟨w.heap.size + 1, 2, none⟩ z).heap[g]? = wr.heap[g]? := fun g u v z hg => by
            rw [heap_setCell_other _ ⟨w.heap.size + 1, 2, none⟩ g z hg, heap_setCell_other _ ⟨w.heap.size + 1, 1, none⟩ g v hg, heap_setCell_other _ ⟨w.heap.size + 1, 0, none⟩ g u hg]
          refine ⟨sb.a, a5, sb.c, cap5, by rw [hTB, hTF, unhide HLD, hsn], ?_, ?_, (unhide HFIN) _ ((unhide HB0).trans (bW0.mono (unhide HB0).size)) _ _ _⟩
          · rw [hTB, ← hsn]
            exact (IRow.own2 own).keep (fun x hx => K _ _ _ _ (fun e => by have := (own.lt x.block (by rw [hx]; rfl)).1; omega))
          · rw [hTF, unhide HLD]
            exact ((unhide IF5).1.below bwr (Nat.le_refl _)).keep (fun x hx => K _ _ _ _ (fun e => by have := (unhide IF5).2 x hx; omega))
  · have hne : (q0 != 0) = true := by simp [hq]
    have h1 := (unhide HTB).trans (if_neg hq)
    have h2 := (unhide HTF).trans (if_neg hq)
    subst h1
    subst h2
    clear hq HTB HTF HTC DA DB
    go_wp2_with fail
    exact bodyPost_ret (v := .agg #[.int .i64 q0, .slice none 0 0, .slice none 0 0]) (by simp [results, Tryz.results5, go_sem, r0, r1, r2]) rfl ⟨none, none, 0, 0, rfl, ⟨rfl, True.intro, fun _ => rfl, fun y hy => by cases hy⟩, ⟨rfl, True.intro, fun _ => rfl, fun y hy => by cases hy⟩, (unhide HFIN) _ (unhide B1) _ _ _⟩

end Go.Proofs.YtldiilmpmcbjkaaGreatDoor

/- What is proved here: the contract of the laws' helper function that writes marks into items (markItemS), for items that the call itself made: it changes their blocks alone. -/
namespace Go.Proofs.YtldiilmpmcbjkaaGreatDoor
open Go.RowKit
set_option linter.unusedVariables false
set_option maxRecDepth 100000

/-- Items that are being marked: their slices stay, the bytes from place k on are as they were. -/
def MUpto (w : World) (g : Nat) (its : List It) (k : Nat) (T : TypeId) (C : Nat) : Prop :=
  ∃ (vs : List Value) (f : Nat → Nat), VBlk w g vs T ∧ vs.length = its.length * 3 ∧ (∀ i, i < its.length → g < f i ∧ f i < C) ∧ (∀ i j, i < j → j < its.length → f i < f j) ∧
    ∀ i it, its[i]? = some it → vs[i * 3 + 2]? = some (.slice (some ⟨f i, 0, none⟩) it.z.length it.z.length) ∧
      (k ≤ i → w.ownsRow (g + 1) 5 1 (.slice (some ⟨f i, 0, none⟩) it.z.length it.z.length) it.z.length (it.z.map (Value.int .u8)))

theorem OIts.marks {w : World} {g : Nat} {its : List It} {T : TypeId} {C : Nat} (h : OIts w g its T C) : MUpto w g its 0 T C := by
  obtain ⟨vs, f, h1, h2, h3, h4, h5⟩ := h
  refine ⟨vs, f, h1, h2, h3, h4, fun i it hi => ?_⟩
  have hil := (List.getElem?_eq_some_iff.1 hi).1
  obtain ⟨_, _, q3, q4⟩ := h5 i it hil hi
  exact ⟨q3, fun _ => q4⟩

/-- Nothing has changed but blocks from B on and below C. -/
def OnlyIn (B C : Nat) (w w' : World) : Prop := Below B w w' ∧ ∀ k, C ≤ k → k < w.heap.size → w'.heap[k]? = w.heap[k]?

theorem OnlyIn.refl (B C : Nat) (w : World) : OnlyIn B C w w := ⟨Below.refl _ _, fun _ _ _ => rfl⟩

theorem OnlyIn.cell {B C : Nat} {w w' : World} (h : OnlyIn B C w w') {p : Addr} (hp : C ≤ p.block) (hl : p.block < w.heap.size) : w'.cell? p = w.cell? p := World.cell?_of_block (w := w) (h.2 p.block hp hl)

theorem OnlyIn.own {B C D : Nat} {w w' : World} (h : OnlyIn B C w w') {e : TypeId} {size n : Nat} {v : Value} {xs : List Value} (ho : w.ownsRow D e size v n xs) (hD : C ≤ D) : w'.ownsRow D e size v n xs := by
  refine ⟨ho.1, ?_⟩
  rcases ho.2 with h' | ⟨g, cap, cur, h1, h2, h3, h4⟩
  · exact .inl h'
  · exact .inr ⟨g, cap, cur, h1, h2, by rw [h.2 g (Nat.le_trans hD h2) (lt_of_block h3)]; exact h3, h4⟩

/-- One item more is marked. -/
theorem MUpto.step {w0 w w3 : World} {g fk k : Nat} {its : List It} {T : TypeId} {C : Nat} {it : It} {u v : Value} (h : MUpto w g its k T C) (hit : its[k]? = some it) (hC : g < C) (ho : OnlyIn g C w0 w)
    (hfk : w.cell? ⟨g, k * 3 + 2, none⟩ = some (.slice (some ⟨fk, 0, none⟩) it.z.length it.z.length)) (hg : ((w.setCell ⟨g, k * 3, none⟩ u).setCell ⟨g, k * 3 + 1, none⟩ v).grownBy w3 (some fk)) :
    MUpto w3 g its (k + 1) T C ∧ OnlyIn g C w0 w3 := by
  obtain ⟨vs, f, h1, h2, h3, h4, h5⟩ := h
  have hkl := (List.getElem?_eq_some_iff.1 hit).1
  obtain ⟨q1, _⟩ := h5 k it hit
  have efk : fk = f k := by
    rw [h1.cell, q1] at hfk
    simp only [Option.some.injEq, Value.slice.injEq, Addr.mk.injEq, and_true] at hfk
    exact hfk.symm
  subst efk
  obtain ⟨b1, b2⟩ := h3 k hkl
  have hv : VBlk ((w.setCell ⟨g, k * 3, none⟩ u).setCell ⟨g, k * 3 + 1, none⟩ v) g ((vs.set (k * 3) u).set (k * 3 + 1) v) T := (h1.set _ _).set _ _
  have hgl : g < ((w.setCell ⟨g, k * 3, none⟩ u).setCell ⟨g, k * 3 + 1, none⟩ v).heap.size := hv.lt
  have hv3 : VBlk w3 g ((vs.set (k * 3) u).set (k * 3 + 1) v) T := by
    unfold VBlk
    rw [hg.block g hgl (fun e => by cases e; exact absurd b1 (Nat.lt_irrefl _))]
    exact hv
  refine ⟨⟨_, f, hv3, by simp [h2], h3, h4, fun i jt hjt => ?_⟩, ?_, fun m hm hml => ?_⟩
  · have hil := (List.getElem?_eq_some_iff.1 hjt).1
    obtain ⟨p1, p2⟩ := h5 i jt hjt
    refine ⟨?_, fun hki => ?_⟩
    · rw [List.getElem?_set_ne (by omega), List.getElem?_set_ne (by omega)]; exact p1
    · have o1 := ownsRow_setCell_below (ownsRow_setCell_below (p2 (by omega)) (a := ⟨g, k * 3, none⟩) (Nat.lt_succ_self g) u) (a := ⟨g, k * 3 + 1, none⟩) (Nat.lt_succ_self g) v
      exact own_grown o1 hg (fun r hr e => by
        have hr' : r = f i := by simpa [Value.ownBlock] using hr.symm
        have he : r = f k := by simpa using e
        have := h4 k i (by omega) hil
        omega)
  · have s1 : Below g w ((w.setCell ⟨g, k * 3, none⟩ u).setCell ⟨g, k * 3 + 1, none⟩ v) := ((Below.refl g w).setCell (Nat.le_refl _) _).setCell (Nat.le_refl _) _
    exact ho.1.trans (s1.grown hg (Nat.le_of_lt hgl) (fun r e => by cases e; omega))
  · have hms : m < ((w.setCell ⟨g, k * 3, none⟩ u).setCell ⟨g, k * 3 + 1, none⟩ v).heap.size := by rw [size_set, size_set]; exact Nat.lt_of_lt_of_le hml ho.1.size
    rw [hg.block m hms (fun e => by cases e; omega), heap_setCell_other _ _ _ _ (by show m ≠ g; omega), heap_setCell_other _ _ _ _ (by show m ≠ g; omega)]
    exact ho.2 m hm hml

/-- How many marks items take. -/
def markN (its : List It) : Nat := its.length * 2 + bytesOf its

theorem markN_step (its : List It) (k : Nat) (it : It) (h : its[k]? = some it) : (markN (its.take (k + 1)) : Int) = markN (its.take k) + 1 + 1 + it.z.length := by
  obtain ⟨hk, e⟩ := List.getElem?_eq_some_iff.1 h
  rw [List.take_succ_eq_append_getElem hk, e]
  simp [markN, bytesOf]
  omega

theorem markN_le (its : List It) (k : Nat) : markN (its.take k) ≤ markN its := by
  have : markN its = markN (its.take k) + markN (its.drop k) := by
    conv => lhs; rw [← List.take_append_drop k its]
    simp only [markN, bytesOf, List.length_append, List.map_append, List.sum_append]
    omega
  omega

end Go.Proofs.YtldiilmpmcbjkaaGreatDoor
