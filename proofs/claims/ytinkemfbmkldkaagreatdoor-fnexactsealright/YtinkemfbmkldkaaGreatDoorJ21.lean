/- What is proved here: what the program's SealOf answers: the code, and a seal in new memory. -/
import Derived.Test.YtinkemfbmkldkaaGreatDoorJ20
import Derived.Test.YtinkemfbmkldkaaGreatDoorJ8
import Derived.Deep.RegionHeld3
import Derived.Test.YtinkemfbmkldkaaGreatDoorJ18
namespace Go.Proofs.YtinkemfbmkldkaaGreatDoor
open Go.RowKit
set_option linter.unusedVariables false
set_option maxRecDepth 100000

set_option maxRecDepth 100000 in
set_option maxHeartbeats 2000000 in
theorem implSeal_any (a : Option Addr) (n c : Nat) (b : Option Addr) (m d : Nat) (xs ys : List Int) (w : World) (h : BRow w a n xs) (k : BRow w b m ys) (hc : a = none → c = 0) (hd : b = none → d = 0) (hn : n ≤ 1048576) (hm : m ≤ 1048576) (hv : Laid w) :
    Calls Tryz.prog 13 #[.slice a n c, .slice b m d] w fun e w' => ∃ a' c', e = .returned (.agg #[.int .i64 (slCode xs ys), .slice a' (slBytes xs ys).length c']) ∧
      w'.ownsRow w.heap.size 5 1 (.slice a' (slBytes xs ys).length c') (slBytes xs ys).length ((slBytes xs ys).map (Value.int .u8)) ∧ Below w.heap.size w w' := by
  have hxl := h.1
  have hyl := k.1
  have HA := hide (fun W => isAddr_any a n c W)
  have HH := hide (fun W => isHash_any b m d W)
  have kr := SBlk.new w #[.int .i64 0, .slice none 0 0] 33
  have b1 := below_alloc w (.cells #[.int .i64 0, .slice none 0 0] 33)
  have z1 : (w.alloc (.cells #[.int .i64 0, .slice none 0 0] 33)).heap.size = w.heap.size + 1 := by simp
  obtain ⟨W1, e1⟩ : ∃ W1, w.alloc (.cells #[.int .i64 0, .slice none 0 0] 33) = W1 := ⟨_, rfl⟩
  rw [e1] at kr b1 z1
  have r0 := kr.cell 0
  have r1 := kr.cell 1
  have f0 := kr.free 0
  have f1 := kr.free 1
  simp only [List.getElem?_cons_zero, List.getElem?_cons_succ] at r0 r1
  have HB1 := hide b1
  have E1 := hide e1
  clear e1
  by_cases h1 : n = 4
  · by_cases h2 : m = 32
    · subst h1 h2
      have e1 : slCode xs ys = 0 := if_pos ⟨hxl, hyl⟩
      have e2 : slBytes xs ys = sealL xs ys := if_pos ⟨hxl, hyl⟩
      have e3 := seal4 hxl hyl
      have hz2 : (W1.alloc (.cells #[.slice a 4 c, .slice b 32 d] 22)).heap.size = w.heap.size + 2 := by simp; omega
      have D : Hid (Calls Tryz.prog 43 #[.slice (some ⟨w.heap.size + 1, 0, none⟩) 2 2] (W1.alloc (.cells #[.slice a 4 c, .slice b 32 d] 22)) fun e w' => ∃ a' c', e = .returned (.slice a' 4 c') ∧ w'.ownsRow (w.heap.size + 2) 5 1 (.slice a' 4 c') 4 ((sealL xs ys).map (Value.int .u8)) ∧ Below (w.heap.size + 1) W1 w') := by
        have b2 := below_alloc W1 (.cells #[.slice a 4 c, .slice b 32 d] 22)
        obtain ⟨R, N⟩ := two_row W1 a 4 c xs b 32 d ys 22 (h.below b1 (Nat.le_refl _)) (k.below b1 (Nat.le_refl _)) hn hm hc hd
        rw [z1] at R N
        have ef : [xs, ys].flatten = xs ++ ys := by simp
        have K := markOf_any _ 2 2 [xs, ys] _ R N (by omega) (by rw [ef]; simp; omega) (by rw [ef]; simp; omega) ((hv.below b1 (Nat.le_refl _)).below b2 (Nat.le_refl _))
        rw [ef] at K
        rw [hz2] at K
        refine K.mono ?_
        rintro e w' ⟨a', c', rfl, ho, hb⟩
        exact ⟨a', c', rfl, ho, by rw [z1] at b2; exact b2.trans (hb.mono (by omega))⟩
      have HK := hide (fun (W' : World) (hb : Below (w.heap.size + 1) W1 W') => kr.below hb (by omega))
      rw [e1, e2, e3]
      clear e1 e2 e3 h k hv hxl hyl hc hd kr r0 r1 f0 f1 b1 hz2
      generalize sealL xs ys = SL at D ⊢
      go_enter Tryz.func13, Tryz.ntmps13
      go_upto_region 1 with fail
      rw [unhide E1]
      clear E1
      go_wp2_with fail
      refine ((unhide HA) _).mono ?_
      rintro e w' ⟨rfl, rfl⟩
      go_wp2_with fail
      refine ((unhide HH) _).mono ?_
      rintro e w' ⟨rfl, rfl⟩
      go_wp2_with fail
      refine (unhide D).mono ?_
      rintro e w3 ⟨a3, c3, rfl, o3, b3⟩
      have kr3 := (unhide HK) w3 b3
      have r0 := kr3.cell 0
      have r1 := kr3.cell 1
      have f0 := kr3.free 0
      have f1 := kr3.free 1
      simp only [List.getElem?_cons_zero, List.getElem?_cons_succ] at r0 r1
      have HB3 := hide ((unhide HB1).trans (b3.mono (by omega)))
      have HO3 := hide o3
      clear kr3 o3 b3 D HK
      go_wp2_with fail
      refine bodyPost_ret (v := .agg #[.int .i64 0, .slice a3 4 c3]) (by simp [results, Tryz.results13, go_sem, r0, r1]) rfl ⟨a3, c3, rfl, ?_, ?_⟩
      · exact ownsRow_base (ownsRow_setCell_below (ownsRow_setCell_below (unhide HO3) (by show w.heap.size < w.heap.size + 2; omega) _) (by show w.heap.size < w.heap.size + 2; omega) _) (by omega)
      · exact ((unhide HB3).setCell (p := ⟨w.heap.size, _, none⟩) (by show w.heap.size ≤ w.heap.size; omega) _).setCell (p := ⟨w.heap.size, _, none⟩) (by show w.heap.size ≤ w.heap.size; omega) _
    · have e1 : slCode xs ys = 1 := if_neg (fun q => h2 (by omega))
      have e2 : slBytes xs ys = [] := if_neg (fun q => h2 (by omega))
      have q1 : (((n : Nat) : Int) == 4) = true := by simp; omega
      have q2 : (((m : Nat) : Int) == 32) = false := by simp; omega
      simp only [q1] at HA
      simp only [q2] at HH
      rw [e1, e2]
      clear e1 e2 h k hv hxl hyl hc hd kr b1 q1 q2 h1 h2
      go_enter Tryz.func13, Tryz.ntmps13
      go_upto_region 1 with fail
      rw [unhide E1]
      clear E1
      go_wp2_with fail
      refine ((unhide HA) _).mono ?_
      rintro e w' ⟨rfl, rfl⟩
      go_wp2_with fail
      refine ((unhide HH) _).mono ?_
      rintro e w' ⟨rfl, rfl⟩
      go_wp2_with fail
      refine bodyPost_ret (v := .agg #[.int .i64 1, .slice none 0 0]) (by simp [results, Tryz.results13, go_sem, r0, r1]) rfl ⟨none, 0, rfl, World.ownsRow_nil _ _ _ _, ?_⟩
      exact ((unhide HB1).setCell (p := ⟨w.heap.size, _, none⟩) (by show w.heap.size ≤ w.heap.size; omega) _).setCell (p := ⟨w.heap.size, _, none⟩) (by show w.heap.size ≤ w.heap.size; omega) _
  · have e1 : slCode xs ys = 1 := if_neg (fun q => h1 (by omega))
    have e2 : slBytes xs ys = [] := if_neg (fun q => h1 (by omega))
    have q1 : (((n : Nat) : Int) == 4) = false := by simp; omega
    simp only [q1] at HA
    rw [e1, e2]
    clear e1 e2 h k hv hxl hyl hc hd kr b1 q1 h1
    go_enter Tryz.func13, Tryz.ntmps13
    go_upto_region 1 with fail
    rw [unhide E1]
    clear E1
    go_wp2_with fail
    refine ((unhide HA) _).mono ?_
    rintro e w' ⟨rfl, rfl⟩
    go_wp2_with fail
    refine bodyPost_ret (v := .agg #[.int .i64 1, .slice none 0 0]) (by simp [results, Tryz.results13, go_sem, r0, r1]) rfl ⟨none, 0, rfl, World.ownsRow_nil _ _ _ _, ?_⟩
    exact ((unhide HB1).setCell (p := ⟨w.heap.size, _, none⟩) (by show w.heap.size ≤ w.heap.size; omega) _).setCell (p := ⟨w.heap.size, _, none⟩) (by show w.heap.size ≤ w.heap.size; omega) _

end Go.Proofs.YtinkemfbmkldkaaGreatDoor

/- What is proved here: what the program's sealFor answers: the seal of a header without a fault. -/
namespace Go.Proofs.YtinkemfbmkldkaaGreatDoor
open Go.RowKit
set_option linter.unusedVariables false
set_option maxRecDepth 100000

/-- The seal of a header. -/
def sealH (h : Hd) : List Int := sealL h.g (kcBytes (packL (noK (noE h))))

set_option maxHeartbeats 8000000 in
theorem sealFor_any (x : HS) (h : Hd) (w : World) (o : HOk w x h) (nn : HNil w x) (m : HSm h) (hv : Laid w) (hf : hdFlt h = 0) :
    Calls Tryz.prog 36 #[.agg (hvals x h)] w fun e w' => ∃ a c, e = .returned (.slice a 4 c) ∧
      w'.ownsRow w.heap.size 5 1 (.slice a 4 c) 4 ((sealH h).map (Value.int .u8)) ∧ Below w.heap.size w w' := by
  have hfl := fldB1
  have kb := SBlk.new w (hvals x h) 26
  have bb := below_alloc w (.cells (hvals x h) 26)
  obtain ⟨W0, eb⟩ : ∃ W0, w.alloc (.cells (hvals x h) 26) = W0 := ⟨_, rfl⟩
  rw [eb] at kb bb
  have HRR : Hid (∀ W, Below W0.heap.size W0 W → (W.cell? ⟨w.heap.size, 0, none⟩ = some (.slice x.p.a x.p.n x.p.c) ∧ W.cell? ⟨w.heap.size, 1, none⟩ = some (.int .i64 h.n1) ∧ W.cell? ⟨w.heap.size, 2, none⟩ = some (.int .i64 h.n2) ∧ W.cell? ⟨w.heap.size, 3, none⟩ = some (.int .i64 h.n3) ∧ W.cell? ⟨w.heap.size, 4, none⟩ = some (.slice x.t.a x.t.n x.t.c) ∧ W.cell? ⟨w.heap.size, 5, none⟩ = some (.int .i64 h.n5) ∧ W.cell? ⟨w.heap.size, 6, none⟩ = some (.slice x.s.a x.s.n x.s.c) ∧ W.cell? ⟨w.heap.size, 7, none⟩ = some (.slice x.r.a x.r.n x.r.c) ∧ W.cell? ⟨w.heap.size, 8, none⟩ = some (.slice x.g.a x.g.n x.g.c) ∧ W.cell? ⟨w.heap.size, 9, none⟩ = some (.slice x.e.a x.e.n x.e.c) ∧ W.cell? ⟨w.heap.size, 10, none⟩ = some (.slice x.k.a x.k.n x.k.c))) := fun W hb => hcells (kb.below hb kb.lt)
  have HSH : Hid (∀ W, Below W0.heap.size W0 W → Calls Tryz.prog 12 #[.agg (hvals x h)] W fun e w' => ∃ a c, e = .returned (.agg #[.int .i64 0, .slice a 32 c]) ∧ (a = none → c = 0) ∧ BRow w' a 32 (kcBytes (packL (noK (noE h)))) ∧ Below W0.heap.size W0 w') := fun W hb => by
    have b1 := bb.trans (hb.mono bb.size)
    have K := implSealHash_any x h W (o.below b1 (Nat.le_refl _)) (nn.below b1 (Nat.le_refl _)) m (hv.below b1 (Nat.le_refl _))
    have e1 : shBytes h = kcBytes (packL (noK (noE h))) := if_pos hf
    have e2 : (kcBytes (packL (noK (noE h)))).length = 32 := kcBytes_good (packL_le (hdFlt_noK (hdFlt_noE hf)))
    rw [hf, e1, e2] at K
    refine K.mono ?_
    rintro e w' ⟨a, c, rfl, ho, hb'⟩
    exact ⟨a, c, rfl, own_cap ho, BRow.own2 ho (kcBytes_range _ (packL_rng (hdFlt_noK (hdFlt_noE hf)) o.noE.noK)), hb.trans (hb'.mono hb.size)⟩
  have HSO : Hid (∀ W a c, Below W0.heap.size W0 W → (a = none → c = 0) → BRow W a 32 (kcBytes (packL (noK (noE h)))) → Calls Tryz.prog 13 #[.slice x.g.a x.g.n x.g.c, .slice a 32 c] W fun e w' => ∃ a' c', e = .returned (.agg #[.int .i64 0, .slice a' 4 c']) ∧ w'.ownsRow w.heap.size 5 1 (.slice a' 4 c') 4 ((sealH h).map (Value.int .u8)) ∧ Below W0.heap.size W0 w') := fun W a c hb hc hr => by
    have b1 := bb.trans (hb.mono bb.size)
    have g4 : h.g.length = 4 := (good_of hf).g
    have e2 : (kcBytes (packL (noK (noE h)))).length = 32 := kcBytes_good (packL_le (hdFlt_noK (hdFlt_noE hf)))
    have g5 := o.g.1
    have K := implSeal_any x.g.a x.g.n x.g.c a 32 c h.g (kcBytes (packL (noK (noE h)))) W (o.g.below b1 (Nat.le_refl _)) hr nn.g hc (by omega) (by omega) (hv.below b1 (Nat.le_refl _))
    have e3 : slCode h.g (kcBytes (packL (noK (noE h)))) = 0 := if_pos ⟨g4, e2⟩
    have e4 : slBytes h.g (kcBytes (packL (noK (noE h)))) = sealH h := if_pos ⟨g4, e2⟩
    have e5 : (sealH h).length = 4 := seal4 g4 e2
    rw [e3, e4, e5] at K
    refine K.mono ?_
    rintro e w' ⟨a', c', rfl, ho, hb'⟩
    exact ⟨a', c', rfl, ownsRow_base ho b1.size, hb.trans (hb'.mono hb.size)⟩
  have HBB := hide bb
  have EB := hide eb
  clear eb o nn m hv hf kb bb
  generalize kcBytes (packL (noK (noE h))) = KB at HSH HSO
  generalize sealH h = SL at HSO ⊢
  unfold hvals at EB HSH ⊢
  go_enter Tryz.func36, Tryz.ntmps36
  go_upto_region 1 with fail
  rw [unhide EB]
  clear EB
  go_region_held3 (fun W => (W.cell? ⟨w.heap.size, 0, none⟩ = some (.slice x.p.a x.p.n x.p.c) ∧ W.cell? ⟨w.heap.size, 1, none⟩ = some (.int .i64 h.n1) ∧ W.cell? ⟨w.heap.size, 2, none⟩ = some (.int .i64 h.n2) ∧ W.cell? ⟨w.heap.size, 3, none⟩ = some (.int .i64 h.n3) ∧ W.cell? ⟨w.heap.size, 4, none⟩ = some (.slice x.t.a x.t.n x.t.c) ∧ W.cell? ⟨w.heap.size, 5, none⟩ = some (.int .i64 h.n5) ∧ W.cell? ⟨w.heap.size, 6, none⟩ = some (.slice x.s.a x.s.n x.s.c) ∧ W.cell? ⟨w.heap.size, 7, none⟩ = some (.slice x.r.a x.r.n x.r.c) ∧ W.cell? ⟨w.heap.size, 8, none⟩ = some (.slice x.g.a x.g.n x.g.c) ∧ W.cell? ⟨w.heap.size, 9, none⟩ = some (.slice x.e.a x.e.n x.e.c) ∧ W.cell? ⟨w.heap.size, 10, none⟩ = some (.slice x.k.a x.k.n x.k.c)))
    (exact (unhide HRR) _ (by first | assumption | exact (Below.refl W0.heap.size W0).drew | exact below_drewN (Below.refl W0.heap.size W0) _ | exact below_drewN (by assumption) _))
    (first
      | (go_at_call 12; refine ((unhide HSH) _ (by first | exact (Below.refl W0.heap.size W0).drew | exact below_drewN (Below.refl W0.heap.size W0) _)).mono ?_; rintro e w1 ⟨a1, c1, rfl, hc1, r1, K1⟩)
      | (go_at_call 13; refine ((unhide HSO) _ a1 c1 K1 hc1 r1).mono ?_; rintro e w2 ⟨a2, c2, rfl, o2, K2⟩))
  all_goals
    have HB2 := hide ((unhide HBB).trans (K2.mono (unhide HBB).size))
    have HO2 := hide o2
    clear HRR HSH HSO K1 K2 r1 hc1 o2
    go_wp2_with fail
    go_ret
    exact ⟨a2, c2, rfl, unhide HO2, unhide HB2⟩

end Go.Proofs.YtinkemfbmkldkaaGreatDoor

/- What is proved here: what the program's SealRight answers: whether there is no fault, and the seal is that of the header. -/
namespace Go.Proofs.YtinkemfbmkldkaaGreatDoor
open Go.RowKit
set_option linter.unusedVariables false
set_option maxRecDepth 100000

/-- What SealRight answers. -/
def srB (h : Hd) : Bool := if hdFlt h = 0 then strEq h.e (sealH h) else false

theorem isUnborne_br (xs ys zs : List Int) (w : World) (hg : LaidE w) : Calls Tryz.prog 39 #[brV xs ys zs] w fun e w' => e = .returned (.bool (!strEq ys zs)) ∧ Below w.heap.size w w' := by
  unfold brV
  cases strEq ys zs
  · exact isUnborne_hit _ w hg
  · exact isUnborne_nil w

set_option maxHeartbeats 8000000 in
theorem implRight_any (x : HS) (h : Hd) (w : World) (o : HOk w x h) (nn : HNil w x) (m : HSm h) (hv : Laid w) (hE : LaidE w) :
    Calls Tryz.prog 11 #[.agg (hvals x h)] w fun e w' => e = .returned (.bool (srB h)) ∧ Below w.heap.size w w' := by
  have kb := SBlk.new w (hvals x h) 26
  have bb := below_alloc w (.cells (hvals x h) 26)
  obtain ⟨W0, eb⟩ : ∃ W0, w.alloc (.cells (hvals x h) 26) = W0 := ⟨_, rfl⟩
  rw [eb] at kb bb
  have D1 := hide (implHeaderFault_any x h W0 (o.below bb (Nat.le_refl _)) m)
  have HRR : Hid (∀ W, Below W0.heap.size W0 W → (W.cell? ⟨w.heap.size, 0, none⟩ = some (.slice x.p.a x.p.n x.p.c) ∧ W.cell? ⟨w.heap.size, 1, none⟩ = some (.int .i64 h.n1) ∧ W.cell? ⟨w.heap.size, 2, none⟩ = some (.int .i64 h.n2) ∧ W.cell? ⟨w.heap.size, 3, none⟩ = some (.int .i64 h.n3) ∧ W.cell? ⟨w.heap.size, 4, none⟩ = some (.slice x.t.a x.t.n x.t.c) ∧ W.cell? ⟨w.heap.size, 5, none⟩ = some (.int .i64 h.n5) ∧ W.cell? ⟨w.heap.size, 6, none⟩ = some (.slice x.s.a x.s.n x.s.c) ∧ W.cell? ⟨w.heap.size, 7, none⟩ = some (.slice x.r.a x.r.n x.r.c) ∧ W.cell? ⟨w.heap.size, 8, none⟩ = some (.slice x.g.a x.g.n x.g.c) ∧ W.cell? ⟨w.heap.size, 9, none⟩ = some (.slice x.e.a x.e.n x.e.c) ∧ W.cell? ⟨w.heap.size, 10, none⟩ = some (.slice x.k.a x.k.n x.k.c))) := fun W hb => hcells (kb.below hb kb.lt)
  obtain ⟨x0, x1, x2, x3, x4, x5, x6, x7, x8, x9, x10⟩ := hcells kb
  have HSF : Hid (hdFlt h = 0 → ∀ W, Below W0.heap.size W0 W → Calls Tryz.prog 36 #[.agg (hvals x h)] W fun e w' => ∃ a c, e = .returned (.slice a 4 c) ∧ BRow w' a 4 (sealH h) ∧ Below W0.heap.size W0 w') := fun hf W hb => by
    have b1 := bb.trans (hb.mono bb.size)
    refine (sealFor_any x h W (o.below b1 (Nat.le_refl _)) (nn.below b1 (Nat.le_refl _)) m (hv.below b1 (Nat.le_refl _)) hf).mono ?_
    rintro e w' ⟨a, c, rfl, ho, hb'⟩
    exact ⟨a, c, rfl, BRow.own2 ho (sealL_rng o.g.2.1 (kcBytes_range _ (packL_rng (hdFlt_noK (hdFlt_noE hf)) o.noE.noK))), hb.trans (hb'.mono hb.size)⟩
  have HBR : Hid (∀ W a c, Below W0.heap.size W0 W → BRow W a 4 (sealH h) → Calls Tryz.prog 40 #[.slice x.g.a x.g.n x.g.c, .slice x.e.a x.e.n x.e.c, .slice a 4 c] W fun e w' => e = .returned (brV h.g h.e (sealH h)) ∧ Below W0.heap.size W0 w') := fun W a c hb hr => by
    have b1 := bb.trans (hb.mono bb.size)
    have g1 := o.g.1
    have g2 := m.g
    refine (bearing_any x.g.a x.g.n x.g.c x.e.a x.e.n x.e.c a 4 c h.g h.e (sealH h) W (o.g.below b1 (Nat.le_refl _)) (o.e.below b1 (Nat.le_refl _)) hr (by omega)).mono ?_
    rintro e w' ⟨rfl, hb'⟩
    exact ⟨rfl, hb.trans (hb'.mono hb.size)⟩
  have HUB : Hid (∀ W, Below W0.heap.size W0 W → Calls Tryz.prog 39 #[brV h.g h.e (sealH h)] W fun e w' => e = .returned (.bool (!strEq h.e (sealH h))) ∧ Below W0.heap.size W0 w') := fun W hb => by
    have b1 := bb.trans (hb.mono bb.size)
    refine (isUnborne_br h.g h.e (sealH h) W (hE.below b1 (Nat.le_refl _))).mono ?_
    rintro e w' ⟨rfl, hb'⟩
    exact ⟨rfl, hb.trans (hb'.mono hb.size)⟩
  have HPB : Hid (srB h = if hdFlt h = 0 then strEq h.e (sealH h) else false) := rfl
  have HBB := hide bb
  have EB := hide eb
  clear eb o nn m hv hE kb bb
  generalize hdFlt h = q at D1 HSF HPB
  generalize srB h = R at HPB ⊢
  generalize brV h.g h.e (sealH h) = V at HBR HUB
  generalize strEq h.e (sealH h) = t at HUB HPB
  generalize sealH h = SL at HSF HBR
  unfold hvals at EB D1 HSF ⊢
  go_enter Tryz.func11, Tryz.ntmps11
  go_upto_region 1 with fail
  rw [unhide EB]
  clear EB
  go_wp2_with fail
  refine (unhide D1).mono ?_
  rintro e w2 ⟨rfl, b2⟩
  clear D1 x0 x1 x2 x3 x4 x5 x6 x7 x8 x9 x10
  by_cases hq : q = 0
  · subst hq
    have HPB2 : Hid (R = t) := unhide HPB
    have HSF2 := hide ((unhide HSF) (by first | exact rfl | trivial))
    have HK2 := hide b2
    clear HPB HSF b2
    go_wp2_with fail
    go_region_held3 (fun W => (W.cell? ⟨w.heap.size, 0, none⟩ = some (.slice x.p.a x.p.n x.p.c) ∧ W.cell? ⟨w.heap.size, 1, none⟩ = some (.int .i64 h.n1) ∧ W.cell? ⟨w.heap.size, 2, none⟩ = some (.int .i64 h.n2) ∧ W.cell? ⟨w.heap.size, 3, none⟩ = some (.int .i64 h.n3) ∧ W.cell? ⟨w.heap.size, 4, none⟩ = some (.slice x.t.a x.t.n x.t.c) ∧ W.cell? ⟨w.heap.size, 5, none⟩ = some (.int .i64 h.n5) ∧ W.cell? ⟨w.heap.size, 6, none⟩ = some (.slice x.s.a x.s.n x.s.c) ∧ W.cell? ⟨w.heap.size, 7, none⟩ = some (.slice x.r.a x.r.n x.r.c) ∧ W.cell? ⟨w.heap.size, 8, none⟩ = some (.slice x.g.a x.g.n x.g.c) ∧ W.cell? ⟨w.heap.size, 9, none⟩ = some (.slice x.e.a x.e.n x.e.c) ∧ W.cell? ⟨w.heap.size, 10, none⟩ = some (.slice x.k.a x.k.n x.k.c)))
      (exact (unhide HRR) _ (by first | assumption | exact unhide HK2 | exact (unhide HK2).drew | exact below_drewN (unhide HK2) _ | exact below_drewN (by assumption) _))
      (first
        | (go_at_call 36; refine ((unhide HSF2) _ (by first | exact unhide HK2 | exact (unhide HK2).drew | exact below_drewN (unhide HK2) _)).mono ?_; rintro e w3 ⟨a3, c3, rfl, r3, K3⟩)
        | (go_at_call 40; refine ((unhide HBR) _ a3 c3 K3 r3).mono ?_; rintro e w4 ⟨rfl, K4⟩)
        | (go_at_call 39; refine ((unhide HUB) _ K4).mono ?_; rintro e w5 ⟨rfl, K5⟩))
    all_goals
      have HB5 := hide ((unhide HBB).trans (K5.mono (unhide HBB).size))
      clear HRR HSF2 HBR HUB K3 K4 K5 r3
      go_wp2_with fail
      go_ret
      exact ⟨by rw [unhide HPB2]; exact ret_bool (by simp), unhide HB5⟩
  · have hne : (q != 0) = true := by simp [hq]
    have HPB2 : Hid (R = false) := by show _ = _; rw [unhide HPB, if_neg hq]
    have HB2 := hide ((unhide HBB).trans (b2.mono (unhide HBB).size))
    clear hq HPB b2
    go_wp2_with fail
    go_ret
    exact ⟨by rw [unhide HPB2]; rfl, unhide HB2⟩

end Go.Proofs.YtinkemfbmkldkaaGreatDoor

/- What is proved here: what the model's SealRight answers: whether there is no fault, and the seal is that of the header. -/
namespace Go.Proofs.YtinkemfbmkldkaaGreatDoor
open Go.RowKit
set_option linter.unusedVariables false
set_option maxRecDepth 100000

set_option maxHeartbeats 8000000 in
theorem specRight_any (x : HS) (h : Hd) (w : World) (o : HOk w x h) (nn : HNil w x) (m : HSm h) :
    Calls Tryz.prog 16 #[.agg (hvals x h)] w fun e w' => e = .returned (.bool (srB h)) ∧ Below w.heap.size w w' := by
  have kb := SBlk.new w (hvals x h) 26
  have bb := below_alloc w (.cells (hvals x h) 26)
  obtain ⟨W0, eb⟩ : ∃ W0, w.alloc (.cells (hvals x h) 26) = W0 := ⟨_, rfl⟩
  rw [eb] at kb bb
  have D1 := hide (l5Fault_any w.heap.size x h _ W0 kb (o.below bb (Nat.le_refl _)) m)
  have HL6 : Hid (hdFlt h = 0 → ∀ n, Calls Tryz.prog 45 #[.pointer (some ⟨w.heap.size, 0, none⟩)] (W0.drewN n) fun e w' => e = .returned (.bool (strEq h.e (sealH h))) ∧ Below W0.heap.size W0 w') := fun hf n => by
    have bd : Below W0.heap.size W0 (W0.drewN n) := below_drewN (Below.refl _ _) n
    have b1 := bb.trans (bd.mono bb.size)
    refine (l6Right_any w.heap.size x h _ (W0.drewN n) (kb.below bd kb.lt) (o.below b1 (Nat.le_refl _)) (nn.below b1 (Nat.le_refl _)) hf).mono ?_
    rintro e w' ⟨rfl, hb⟩
    exact ⟨rfl, bd.trans (hb.mono bd.size)⟩
  have HPB : Hid (srB h = if hdFlt h = 0 then strEq h.e (sealH h) else false) := rfl
  have HBB := hide bb
  have EB := hide eb
  clear eb o nn m kb bb
  generalize hdFlt h = q at D1 HL6 HPB
  generalize srB h = R at HPB ⊢
  generalize strEq h.e (sealH h) = t at HL6 HPB
  unfold hvals at EB ⊢
  go_enter Tryz.func16, Tryz.ntmps16
  go_upto_region 1 with fail
  rw [unhide EB]
  clear EB
  go_wp2_with fail
  refine (unhide D1).mono ?_
  rintro e w2 ⟨rfl, n2, rfl⟩
  have bd : Below W0.heap.size W0 (W0.drewN n2) := below_drewN (Below.refl _ _) n2
  by_cases hq : q = 0
  · subst hq
    have HPB2 : Hid (R = t) := unhide HPB
    have D2 := hide ((unhide HL6) (by first | exact rfl | trivial) n2)
    clear HPB HL6 D1 bd
    go_wp2_with fail
    refine (unhide D2).mono ?_
    rintro e w3 ⟨rfl, b3⟩
    have HB3 := hide ((unhide HBB).trans (b3.mono (unhide HBB).size))
    go_wp2_with fail
    go_ret
    exact ⟨by rw [unhide HPB2]; exact ret_bool (by simp), unhide HB3⟩
  · have hne : (q == 0) = false := by simp [hq]
    have HPB2 : Hid (R = false) := by show _ = _; rw [unhide HPB, if_neg hq]
    have HB2 := hide ((unhide HBB).trans (bd.mono (unhide HBB).size))
    clear hq HPB bd
    go_wp2_with fail
    go_ret
    exact ⟨by rw [unhide HPB2]; exact ret_bool (by simp), unhide HB2⟩

end Go.Proofs.YtinkemfbmkldkaaGreatDoor
