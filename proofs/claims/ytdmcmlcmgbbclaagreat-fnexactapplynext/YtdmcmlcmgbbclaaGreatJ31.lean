/- What is proved here: what the program's ApplyNext answers. -/
import Derived.Test.YtdmcmlcmgbbclaaGreatJ29
import Derived.Test.YtdmcmlcmgbbclaaGreatJ16
import Derived.Test.YtdmcmlcmgbbclaaGreatJ30
import Derived.Test.YtdmcmlcmgbbclaaGreatJ27
import Derived.Test.YtdmcmlcmgbbclaaGreatJ28
import Derived.Test.YtdmcmlcmgbbclaaGreatJ10
import Derived.Test.YtdmcmlcmgbbclaaGreatJ9
import Derived.Test.YtdmcmlcmgbbclaaGreatJ4
import Derived.Deep.DeepCutAuto
import Derived.Test.YtdmcmlcmgbbclaaGreatJ6
import Derived.Test.YtdmcmlcmgbbclaaGreatJ3
namespace Go.Proofs.YtdmcmlcmgbbclaaGreat
set_option linter.unusedVariables false
set_option linter.unusedSimpArgs false
open Go.RowKit
set_option maxRecDepth 100000

theorem passed_any (p : Path) (c : Cf) (e : SnS) (x : Sn) (hx : HS) (h : Hd) (w : World) (o : SNK.Ok w e x) (m : SnSm x) (og : BOk w hx.g h.g) (h0 : snFlt x = 0) (hc : cfFlt c = 0) (hg1 : h.g.length ≤ 1048576) (hn : 0 ≤ h.n1 ∧ h.n1 ≤ 1099511627776) :
    Calls Tryz.prog 37 #[.agg (cfvals c), .agg (snvals e x), .agg (hvals hx h)] w fun r w' => ∃ e' : SnS, r = .returned (.agg (snvals e' (apPass c x h))) ∧ (∃ d, SNK.Own w' w.heap.size d p e' (apPass c x h)) ∧ Below w.heap.size w w' := by
 have hk := cfCk_ok hc hn
 unfold apPass
 by_cases hm : h.n1 % c.2.2 = 0
 · rw [if_pos hm]
   exact passed_yes p c e x hx h w o m og h0 hg1 hn (by rw [hk, decide_eq_true hm])
 · rw [if_neg hm]
   exact passed_no p c e x hx h w o m og h0 hg1 hn (by rw [hk, decide_eq_false hm])

theorem ent_ap (f : Nat) (hf : f ∈ [31, 32, 33, 34, 35]) (V : Value) (W : World) : (callFunc f #[V]).run Tryz.prog W = .ok (.enter f #[V]) W := by
 simp only [List.mem_cons, List.not_mem_nil, or_false] at hf
 rcases hf with rfl | rfl | rfl | rfl | rfl <;> kernel_rfl

theorem snFlt_num0 {x : Sn} (h : snFlt x = 0) : 0 ≤ x.1 ∧ x.1 ≤ 1099511627776 := by
 have := (sn_iff.1 h).1
 unfold within at this
 simpa using this

theorem hd_t4 {h : Hd} (hf : hdFlt h = 0) (ht : h.t.length ≠ 0) : h.t.length = 4 := by
 have hl : hdLen h = false := by
  cases hh : hdLen h with
  | false => rfl
  | true => unfold hdFlt at hf; rw [if_pos hh] at hf; omega
 unfold hdLen at hl
 simp only [Bool.or_eq_false_iff, Bool.and_eq_false_iff] at hl
 have h1 := hl.1.1.1.2
 rcases h1 with h1 | h1
 · exact absurd (by simpa using h1) ht
 · have : (h.t.length : Int) = 4 := by simpa using h1
   omega

/-- The slices of a header that is not there, and the header. -/
def hs0 : HS := ⟨⟨none, 0, 0⟩, ⟨none, 0, 0⟩, ⟨none, 0, 0⟩, ⟨none, 0, 0⟩, ⟨none, 0, 0⟩, ⟨none, 0, 0⟩, ⟨none, 0, 0⟩⟩
def hd0 : Hd := ⟨[], 0, 0, 0, [], 0, [], [], [], [], []⟩

theorem brow0 (w : World) : BOk w ⟨none, 0, 0⟩ [] := bytesK.ok (w := w) (B := 0) (d := fun _ => []) (p := []) ⟨by simp, World.ownsRow_nil _ _ _ _, fun x hx => by cases hx⟩
theorem bsrow0 (w : World) : RowOk bytesK w ⟨none, 0, 0⟩ [] := (RowOwn.nil bytesK 29 w 0 (fun _ => []) []).ok

theorem hkd0 (w : World) : HKd w hs0 hd0 where
 ok := ⟨(brow0 w).row, (brow0 w).row, bs_of_row (bsrow0 w), (brow0 w).row, (brow0 w).row, (brow0 w).row, bs_of_row (bsrow0 w)⟩
 nn := ⟨fun _ => rfl, fun _ => rfl, bsnil_of_row (bsrow0 w), fun _ => rfl, fun _ => rfl, fun _ => rfl, bsnil_of_row (bsrow0 w)⟩
 bc := fun b off e i hi => absurd hi (Nat.not_lt_zero _)
 g := brow0 w
 s := bsrow0 w

theorem hsm0 : HSm hd0 := by constructor <;> simp [hd0]

theorem entryA (c : Cf) (e : SnS) (x : Sn) (hx : HS) (h : Hd) (w : World) : ∃ W0, (((w.alloc (.cells (cfvals c) 41)).alloc (.cells (snvals e x) 37)).alloc (.cells (hvals hx h) 44)).alloc (.cells #[.int .i64 0, .int .i64 0, .slice none 0 0, .slice none 0 0, .slice none 0 0] 39) = W0 ∧ Below w.heap.size w W0 ∧ W0.heap.size = w.heap.size + 4 ∧ SBlk W0 w.heap.size (cfvals c).toList 41 ∧ SBlk W0 (w.heap.size + 1) (snvals e x).toList 37 ∧ SBlk W0 (w.heap.size + 2) (hvals hx h).toList 44 ∧ SBlk W0 (w.heap.size + 3) [.int .i64 0, .int .i64 0, .slice none 0 0, .slice none 0 0, .slice none 0 0] 39 := by
 refine ⟨_, rfl, (((Below.refl _ _).alloc (Nat.le_refl _) _).alloc (by simp) _ |>.alloc (by simp; omega) _).alloc (by simp; omega) _, by simp, ?_, ?_, ?_, ?_⟩
 · exact (((SBlk.new w (cfvals c) 41).next _).next _).next _
 · have k := ((SBlk.new (w.alloc (.cells (cfvals c) 41)) (snvals e x) 37).next (.cells (hvals hx h) 44)).next (.cells #[.int .i64 0, .int .i64 0, .slice none 0 0, .slice none 0 0, .slice none 0 0] 39)
   simpa using k
 · have k := (SBlk.new ((w.alloc (.cells (cfvals c) 41)).alloc (.cells (snvals e x) 37)) (hvals hx h) 44).next (.cells #[.int .i64 0, .int .i64 0, .slice none 0 0, .slice none 0 0, .slice none 0 0] 39)
   simpa using k
 · have k := SBlk.new (((w.alloc (.cells (cfvals c) 41)).alloc (.cells (snvals e x) 37)).alloc (.cells (hvals hx h) 44)) #[.int .i64 0, .int .i64 0, .slice none 0 0, .slice none 0 0, .slice none 0 0] 39
   simpa using k

theorem ap_rules (c : Cf) (e : SnS) (x : Sn) (px : HS) (p : Hd) (nx : HS) (n : Hd) (w : World) (o : StOk w e x px p nx n) (i f : Nat) (k : Int) (hf : ([31, 32, 33, 34, 35] : List Nat)[i]? = some f) (hk : (apKs c x n)[i]? = some k)
    (hz : ∀ j, j < i → (apKs c x n)[j]? = some 0) (W : World) (hb : Below w.heap.size w W) : Calls Tryz.prog f #[.agg (stvals c e x px p nx n)] W fun r w' => r = .returned (.int .i64 k) ∧ Below W.heap.size W w' := by
 have oW := o.below hb (Nat.le_refl _)
 have zz : ∀ (j : Nat) (q : Int), j < i → (apKs c x n)[j]? = some q → q = 0 := fun j q hj hq => Option.some.inj (hq.symm.trans (hz j hj))
 clear hz o
 unfold apKs at hk zz
 match i, hf, hk, zz with
 | 0, hf, hk, zz => cases hf; cases hk; exact configRule_any c e x px p nx n W oW
 | 1, hf, hk, zz => cases hf; cases hk; exact snapRule_any c e x px p nx n W oW
 | 2, hf, hk, zz => cases hf; cases hk; exact nextRule_any c e x px p nx n W oW
 | 3, hf, hk, zz => cases hf; cases hk; exact numberRule_any c e x px p nx n W oW (snFlt_num0 (zz 1 _ (by omega) rfl))
 | 4, hf, hk, zz => cases hf; cases hk; exact knownRule_any c e x px p nx n W oW (zz 1 _ (by omega) rfl)
 | i + 5, hf, hk, zz => cases hf

theorem ret5 {W : World} {R : Nat} {a b c d e : Value} {T : TypeId} (k : SBlk W R [a, b, c, d, e] T) (v0 v1 v2 v3 v4 : Value) : SBlk (((((W.setCell ⟨R, 0, none⟩ v0).setCell ⟨R, 1, none⟩ v1).setCell ⟨R, 2, none⟩ v2).setCell ⟨R, 3, none⟩ v3).setCell ⟨R, 4, none⟩ v4) R [v0, v1, v2, v3, v4] T ∧ (∀ q, q ≠ R → (((((W.setCell ⟨R, 0, none⟩ v0).setCell ⟨R, 1, none⟩ v1).setCell ⟨R, 2, none⟩ v2).setCell ⟨R, 3, none⟩ v3).setCell ⟨R, 4, none⟩ v4).heap[q]? = W.heap[q]?) ∧ ∀ (B : Nat) (W0 : World), B ≤ R → Below B W0 W → Below B W0 (((((W.setCell ⟨R, 0, none⟩ v0).setCell ⟨R, 1, none⟩ v1).setCell ⟨R, 2, none⟩ v2).setCell ⟨R, 3, none⟩ v3).setCell ⟨R, 4, none⟩ v4) :=
 ⟨((((k.set 0 v0).set 1 v1).set 2 v2).set 3 v3).set 4 v4, fun q hq => by
  rw [heap_setCell_other _ ⟨R, 4, none⟩ q v4 hq, heap_setCell_other _ ⟨R, 3, none⟩ q v3 hq, heap_setCell_other _ ⟨R, 2, none⟩ q v2 hq, heap_setCell_other _ ⟨R, 1, none⟩ q v1 hq, heap_setCell_other _ ⟨R, 0, none⟩ q v0 hq], fun B W0 hB b => ((((b.setCell (p := ⟨R, 0, none⟩) hB v0).setCell (p := ⟨R, 1, none⟩) hB v1).setCell (p := ⟨R, 2, none⟩) hB v2).setCell (p := ⟨R, 3, none⟩) hB v3).setCell (p := ⟨R, 4, none⟩) hB v4⟩

set_option maxHeartbeats 8000000 in
theorem implApply_any (p : Path) (c : Cf) (e : SnS) (x : Sn) (nx : HS) (h : Hd) (w : World) (o : SNK.Ok w e x) (on : HKd w nx h) (ot : BOk w nx.t h.t) (m : SnSm x) (mn : HSm h) (lv : LV w) :
    Calls Tryz.prog 10 #[.agg (cfvals c), .agg (snvals e x), .agg (hvals nx h)] w fun r w' => ∃ e' : SnS, r = .returned (.agg (srvals (apCode c x h) e' (apAns c x h))) ∧ (∃ d, SNK.Own w' w.heap.size d p e' (apAns c x h)) ∧ Below w.heap.size w w' := by
 obtain ⟨W0, e0, b0, hz, kc, kx, kh, kr⟩ := entryA c e x nx h w
 have ka := SBlk.new W0 #[.func (.func 31) #[] #[], .func (.func 32) #[] #[], .func (.func 33) #[] #[], .func (.func 34) #[] #[], .func (.func 35) #[] #[]] 104
 have ba := below_alloc W0 (.cells #[.func (.func 31) #[] #[], .func (.func 32) #[] #[], .func (.func 33) #[] #[], .func (.func 34) #[] #[], .func (.func 35) #[] #[]] 104)
 obtain ⟨W1, e1⟩ : ∃ W, W0.alloc (.cells #[.func (.func 31) #[] #[], .func (.func 32) #[] #[], .func (.func 33) #[] #[], .func (.func 34) #[] #[], .func (.func 35) #[] #[]] 104) = W := ⟨_, rfl⟩
 rw [e1] at ka ba
 have b1 := b0.trans (ba.mono b0.size)
 have o1 : StOk W1 e x hs0 hd0 nx h := ⟨SNK.below o b1 (Nat.le_refl _), hkd0 W1, on.below b1 (Nat.le_refl _), (lv.below b1 (Nat.le_refl _)).1, (lv.below b1 (Nat.le_refl _)).2, m, hsm0, mn⟩
 have HFB := firstBroken_any c e x hs0 hd0 nx h [31, 32, 33, 34, 35] (apKs c x h) W0.heap.size 0 5 W1 (fun i f hf => by
  rw [Nat.zero_add, ka.cell i]
  match i, hf with
  | 0, hf => cases hf; rfl
  | 1, hf => cases hf; rfl
  | 2, hf => cases hf; rfl
  | 3, hf => cases hf; rfl
  | 4, hf => cases hf; rfl
  | i + 5, hf => cases hf) ka.lt rfl (by show 5 ≤ 100; omega) ent_ap (fun i f k hf hk hz W hb => ap_rules c e x hs0 hd0 nx h W1 o1 i f k hf hk hz W hb)
 rw [ap_code] at HFB
 replace HFB := hide HFB
 unfold stvals at HFB
 have c0 := (kc.below ba kc.lt).cell 0
 have c1 := (kc.below ba kc.lt).cell 1
 have c2 := (kc.below ba kc.lt).cell 2
 simp only [cfvals, List.getElem?_cons_zero, List.getElem?_cons_succ] at c0 c1 c2
 have x0 := (kx.below ba kx.lt).cell 0
 have x1 := (kx.below ba kx.lt).cell 1
 have x2 := (kx.below ba kx.lt).cell 2
 have x3 := (kx.below ba kx.lt).cell 3
 simp only [snvals, List.getElem?_cons_zero, List.getElem?_cons_succ] at x0 x1 x2 x3
 obtain ⟨y0, y1, y2, y3, y4, y5, y6, y7, y8, y9, y10⟩ := hcells (kh.below ba kh.lt)
 have HO1 := hide (And.intro o (And.intro on ot))
 have HB1 := hide b1
 have HB0 := hide b0
 have E0 := hide e0
 have E1 := hide e1
 have HKX := hide (And.intro (kc.below ba kc.lt) (And.intro (kx.below ba kx.lt) (And.intro (kh.below ba kh.lt) (kr.below ba kr.lt))))
 have HM := hide (And.intro m (And.intro mn lv))
 have HAN : Hid (apCode c x h ≠ 0 → apAns c x h = (0, [], [], [])) := fun hh => if_neg hh
 have HAP : Hid (apCode c x h = 0 → apAns c x h = apSn c x h) := fun hh => if_pos hh
 have HAZ : Hid (apCode c x h = 0 → cfFlt c = 0 ∧ snFlt x = 0 ∧ hdFlt h = 0 ∧ h.n1 = x.1 + 1 ∧ h.g ∈ x.2.1) := fun hh => ap_zero hh
 generalize apCode c x h = A at HFB HAN HAP HAZ ⊢
 generalize apAns c x h = R at HAN HAP ⊢
 rw [hz] at HFB
 clear e0 e1 b0 b1 ba kc kx kh kr ka o1 o on ot m mn lv
 go_enter Tryz.func10, Tryz.ntmps10
 go_upto_region 1 with fail
 rw [unhide E0]
 go_upto_region 2 with (rw [unhide E1])
 try rw [unhide E1]
 clear E0 E1
 go_wp2_with fail
 refine (unhide HFB).mono ?_
 rintro r w2 ⟨rfl, b2⟩
 have HB2 := hide (And.intro b2 (And.intro ((unhide HB1).trans (b2.mono (unhide HB1).size)) (And.intro ((unhide HKX).1.below b2 (unhide HKX).1.lt) (And.intro ((unhide HKX).2.1.below b2 (unhide HKX).2.1.lt) (And.intro ((unhide HKX).2.2.1.below b2 (unhide HKX).2.2.1.lt) ((unhide HKX).2.2.2.below b2 (unhide HKX).2.2.2.lt))))))
 clear b2 c0 c1 c2 x0 x1 x2 x3 y0 y1 y2 y3 y4 y5 y6 y7 y8 y9 y10 HFB
 by_cases hq : A = 0
 case neg =>
  obtain rfl := (unhide HAN) hq
  have hq1 : (A != 0) = true := by simp [hq]
  obtain ⟨⟨t0, t1, t2, t3, t4⟩, f0, f1, f2, f3, f4⟩ := five_blk (unhide HB2).2.2.2.2.2
  have HK3 : Hid (SBlk w2 (w.heap.size + 1 + 1 + 1) [.int .i64 0, .int .i64 0, .slice none 0 0, .slice none 0 0, .slice none 0 0] 39) := (unhide HB2).2.2.2.2.2
  clear HAN HAP HAZ
  go_wp2_with fail
  obtain ⟨k9, n9, b9⟩ := ret5 (unhide HK3) (.int .i64 A) (.int .i64 0) (.slice none 0 0) (.slice none 0 0) (.slice none 0 0)
  exact bodyPost_ret (results_cell_row rfl _ _ (w.heap.size + 1 + 1 + 1) 39 _ (0, 0) _ rfl k9 Tryz.underlying39 rfl (by kernel_rfl)) rfl ⟨((), ⟨none, 0, 0⟩, ⟨none, 0, 0⟩, ⟨none, 0, 0⟩), rfl, ⟨fun _ => [], sn_own_nil _ _ _ _⟩, b9 _ _ (by omega) (unhide HB2).2.1⟩
 subst hq
 obtain ⟨zc, zx, zh, zn, zg⟩ := (unhide HAZ) rfl
 have hR := (unhide HAP) rfl
 have hgood := good_of zh
 obtain ⟨b2, b02, kc, kx, kh, kr⟩ := unhide HB2
 have hPO := ap_ok (c := c) zx zn hgood.n1 zg
 have HPB := passed_any p c e x nx h w2 (SNK.below (unhide HO1).1 b02 (Nat.le_refl _)) (unhide HM).1 (bytesK.below (unhide HO1).2.1.g b02 (Nat.le_refl _)) zx zc (by have := hgood.g; omega) hgood.n1
 have HG := hide (And.intro hgood.g (And.intro zg (And.intro hPO (And.intro hR (hd_t4 zh)))))
 have c0 := kc.cell 0
 have c1 := kc.cell 1
 have c2 := kc.cell 2
 simp only [cfvals, List.getElem?_cons_zero, List.getElem?_cons_succ] at c0 c1 c2
 have x0 := kx.cell 0
 have x1 := kx.cell 1
 have x2 := kx.cell 2
 have x3 := kx.cell 3
 simp only [snvals, List.getElem?_cons_zero, List.getElem?_cons_succ] at x0 x1 x2 x3
 obtain ⟨y0, y1, y2, y3, y4, y5, y6, y7, y8, y9, y10⟩ := hcells kh
 unfold cfvals snvals hvals at HPB
 replace HPB := hide HPB
 clear zc zx zh zn zg hR hgood b2 b02 kc kx kh kr hPO HAN HAP HAZ
 go_wp2_with fail
 refine (unhide HPB).mono ?_
 rintro r w3 ⟨e3, rfl, ⟨d3, O3⟩, b3⟩
 obtain ⟨hg4, hgm, hPO, hR, ht4⟩ := unhide HG
 obtain ⟨Y, hY⟩ : ∃ Y, apPass c x h = Y := ⟨_, rfl⟩
 unfold apSn at hR
 rw [hY] at hR hPO O3 ⊢
 obtain ⟨b2, b02, kc, kx, kh, kr⟩ := unhide HB2
 have b03 := b02.trans (b3.mono b02.size)
 have hyg : Y.2.1 = x.2.1 := by rw [← hY]; rfl
 have kp := SBlk.new w3 (snvals e3 Y) 37
 have bp := below_alloc w3 (.cells (snvals e3 Y) 37)
 obtain ⟨W4, e4⟩ : ∃ W, w3.alloc (.cells (snvals e3 Y) 37) = W := ⟨_, rfl⟩
 rw [e4] at kp bp
 have E4 := hide e4
 obtain ⟨gp, hgp⟩ : ∃ g, g = w3.heap.size := ⟨_, rfl⟩
 rw [← hgp] at kp
 have HGP := hide hgp
 have s23 := b02.size
 have s34 := b3.size
 have O4 : SNK.Own W4 w.heap.size d3 p e3 Y := SNK.base (SNK.ownBelow O3 bp (Nat.le_refl _)) s23
 have b4 := b03.trans (bp.mono b03.size)
 have hlow : ∀ k, k < 4 → w.heap.size + k < w2.heap.size := fun k hk => by have h1 := kr.lt; omega
 have HFR : Hid (∀ W, (∀ q, w2.heap.size ≤ q → q < W4.heap.size → W.heap[q]? = W4.heap[q]?) → SNK.Own W w.heap.size d3 p e3 Y) := fun W hW => SNK.base (SNK.frame (SNK.ownBelow O3 bp (Nat.le_refl _)) (fun q a b _ => hW q b a)) s23
 have HH3 := hide (And.intro hg4 (And.intro (show h.g ∈ Y.2.1 by rw [hyg]; exact hgm) (And.intro hPO (And.intro hR (And.intro ht4 (And.intro O4 (And.intro hlow (And.intro b4 (And.intro (((kh.below b3 kh.lt).below bp (kh.below b3 kh.lt).lt)) ((kr.below b3 kr.lt).below bp (kr.below b3 kr.lt).lt))))))))))
 obtain ⟨⟨z0, z1, z2, z3⟩, _, _, _, _⟩ := four_blk kp
 unfold snvals at E4
 clear c0 c1 c2 x0 x1 x2 x3 y0 y1 y2 y3 y4 y5 y6 y7 y8 y9 y10 HPB HG HB2 HKX hY hR hPO O3 b2 b02 kc kx kh kr hg4 hgm ht4 b3 b03 hyg kp bp e4 O4 b4 hlow s23 s34
 go_upto_region 6 with (rw [unhide E4])
 try rw [unhide E4]
 rw [← unhide HGP]
 clear E4 hgp
 obtain ⟨_, y1, _, _, y4, y5, _, _, y8, _, _⟩ := hcells (unhide HH3).2.2.2.2.2.2.2.2.1
 have htl : nx.t.n = h.t.length := ((unhide HO1).2.1.ok.t.1).symm
 by_cases ht : h.t.length = 0
 · have hn0 : ¬ 0 < nx.t.n := by omega
   have hR := (unhide HH3).2.2.2.1
   rw [if_pos ht] at hR
   subst hR
   obtain ⟨⟨t0, t1, t2, t3, t4⟩, f0, f1, f2, f3, f4⟩ := five_blk (unhide HH3).2.2.2.2.2.2.2.2.2
   have HK3 : Hid (SBlk W4 (w.heap.size + 1 + 1 + 1) [.int .i64 0, .int .i64 0, .slice none 0 0, .slice none 0 0, .slice none 0 0] 39) := (unhide HH3).2.2.2.2.2.2.2.2.2
   clear htl ht
   go_wp2_with fail
   obtain ⟨k9, n9, b9⟩ := ret5 (unhide HK3) (.int .i64 0) (.int .i64 R.1) (.slice e3.2.1.a e3.2.1.n e3.2.1.c) (.slice e3.2.2.1.a e3.2.2.1.n e3.2.2.1.c) (.slice e3.2.2.2.a e3.2.2.2.n e3.2.2.2.c)
   refine bodyPost_ret (results_cell_row rfl _ _ (w.heap.size + 1 + 1 + 1) 39 _ (0, 0) _ rfl k9 Tryz.underlying39 rfl (by kernel_rfl)) rfl ⟨e3, rfl, ⟨d3, (unhide HFR) _ (fun q a b => n9 q (fun ee => ?_))⟩, b9 _ _ (by omega) (unhide HH3).2.2.2.2.2.2.2.1⟩
   have := (unhide HH3).2.2.2.2.2.2.1 3 (by omega)
   omega
 · have hn0 : 0 < nx.t.n := by omega
   have ht4 := (unhide HH3).2.2.2.2.1 ht
   have hR := (unhide HH3).2.2.2.1
   rw [if_neg ht] at hR
   have hO := unhide HO1
   have b4 := (unhide HH3).2.2.2.2.2.2.2.1
   have hCF : cfCode Y h.g h.t = 0 := by
    unfold cfCode
    rw [if_neg (by simp [(unhide HH3).2.2.1]), if_neg (by simp [(unhide HH3).1]), if_neg (by simp [ht4]), if_neg (by simp [(unhide HH3).2.1])]
   have HCV := implCast_any p e3 Y nx.g nx.t h.g h.t (h.n5 == 1) W4 (SNK.ok (unhide HH3).2.2.2.2.2.1) (snT_flt (unhide HH3).2.2.1).sm (bytesK.below hO.2.1.g b4 (Nat.le_refl _)) (bytesK.below hO.2.2 b4 (Nat.le_refl _))
   have hA2 : cvCode Y h.g h.t (h.n5 == 1) = ctCode Y h.g h.t (h.n5 == 1) := cv_ct hCF
   have hV2 : cvCode Y h.g h.t (h.n5 == 1) = 0 → cvSn Y h.g h.t (h.n5 == 1) = ctSn Y h.g h.t (h.n5 == 1) := fun hh => cv_sn hh
   rw [← hA2] at hR
   generalize cvCode Y h.g h.t (h.n5 == 1) = A at HCV hR hV2
   generalize cvSn Y h.g h.t (h.n5 == 1) = V at HCV hV2
   have HRV : Hid ((A = 0 → R = V) ∧ (A ≠ 0 → R = Y)) := ⟨fun hh => by rw [hR, if_pos hh, hV2 hh], fun hh => by rw [hR, if_neg hh]⟩
   replace HCV := hide HCV
   unfold snvals at HCV
   clear hA2 hV2 hR hCF hO b4 ht4 ht htl
   go_wp2_with fail
   refine (unhide HCV).mono ?_
   rintro r w5 ⟨e5, rfl, ⟨d5, O5⟩, b5⟩
   have bv := below_alloc w5 (.cells (srvals A e5 V) 39)
   have kv := SBlk.new w5 (srvals A e5 V) 39
   obtain ⟨W6, e6⟩ : ∃ W, w5.alloc (.cells (srvals A e5 V) 39) = W := ⟨_, rfl⟩
   rw [e6] at kv bv
   have E6 := hide e6
   obtain ⟨gv, hgv⟩ : ∃ g, g = w5.heap.size := ⟨_, rfl⟩
   rw [← hgv] at kv
   have HGV := hide hgv
   have b56 := b5.trans (bv.mono b5.size)
   have z0 := (b56.cell (p := ⟨gp, 0, none⟩) (lt_of_cell z0)).trans z0
   have z1 := (b56.cell (p := ⟨gp, 1, none⟩) (lt_of_cell z1)).trans z1
   have z2 := (b56.cell (p := ⟨gp, 2, none⟩) (lt_of_cell z2)).trans z2
   have z3 := (b56.cell (p := ⟨gp, 3, none⟩) (lt_of_cell z3)).trans z3
   have kr6 := (unhide HH3).2.2.2.2.2.2.2.2.2.below b56 (unhide HH3).2.2.2.2.2.2.2.2.2.lt
   have HK6 : Hid (SBlk W6 (w.heap.size + 1 + 1 + 1) [.int .i64 0, .int .i64 0, .slice none 0 0, .slice none 0 0, .slice none 0 0] 39) := kr6
   obtain ⟨⟨t0, t1, t2, t3, t4⟩, f0, f1, f2, f3, f4⟩ := five_blk kr6
   obtain ⟨⟨v0, v1, v2, v3, v4⟩, _, _, _, _, _⟩ := five_blk kv
   have s5 := (unhide HH3).2.2.2.2.2.2.2.1.size
   have HO5 : Hid (∀ W, (∀ q, W4.heap.size ≤ q → q < W6.heap.size → W.heap[q]? = W6.heap[q]?) → SNK.Own W w.heap.size d5 p e5 V) := fun W hW => SNK.base (SNK.frame (SNK.ownBelow O5 bv (Nat.le_refl _)) (fun q a b _ => hW q b a)) s5
   have H56 := hide (And.intro b56 ((unhide HH3).2.2.2.2.2.2.2.1.trans (b56.mono s5)))
   have HLOW := hide (And.intro ((unhide HH3).2.2.2.2.2.2.1 3 (by omega)) (unhide HH3).2.2.2.2.2.2.2.2.2.lt)
   unfold srvals at E6 ⊢
   dsimp only
   clear HCV HH3 y1 y4 y5 y8 kv bv e6 b56 kr6 O5 b5 s5
   go_upto_region 8 with (rw [unhide E6])
   try rw [unhide E6]
   rw [← unhide HGV]
   clear E6 hgv
   by_cases hA : A = 0
   · subst hA
     obtain rfl := (unhide HRV).1 rfl
     go_wp2_with fail
     obtain ⟨k9, n9, b9⟩ := ret5 (unhide HK6) (.int .i64 0) (.int .i64 R.1) (.slice e5.2.1.a e5.2.1.n e5.2.1.c) (.slice e5.2.2.1.a e5.2.2.1.n e5.2.2.1.c) (.slice e5.2.2.2.a e5.2.2.2.n e5.2.2.2.c)
     refine bodyPost_ret (results_cell_row rfl _ _ (w.heap.size + 1 + 1 + 1) 39 _ (0, 0) _ rfl k9 Tryz.underlying39 rfl (by kernel_rfl)) rfl ⟨(), e5.2.1, e5.2.2.1, e5.2.2.2, rfl, ⟨d5, (unhide HO5) _ (fun q a b => n9 q (fun ee => ?_))⟩, b9 _ _ (by omega) (unhide H56).2⟩
     have := (unhide HLOW).2
     omega
   · obtain rfl := (unhide HRV).2 hA
     have hA1 : (A == 0) = false := by simp [hA]
     go_wp2_with fail
     obtain ⟨k9, n9, b9⟩ := ret5 (unhide HK6) (.int .i64 0) (.int .i64 R.1) (.slice e3.2.1.a e3.2.1.n e3.2.1.c) (.slice e3.2.2.1.a e3.2.2.1.n e3.2.2.1.c) (.slice e3.2.2.2.a e3.2.2.2.n e3.2.2.2.c)
     refine bodyPost_ret (results_cell_row rfl _ _ (w.heap.size + 1 + 1 + 1) 39 _ (0, 0) _ rfl k9 Tryz.underlying39 rfl (by kernel_rfl)) rfl ⟨(), e3.2.1, e3.2.2.1, e3.2.2.2, rfl, ⟨d3, (unhide HFR) _ (fun q a b => (n9 q (fun ee => ?_)).trans ((unhide H56).1.block q b))⟩, b9 _ _ (by omega) (unhide H56).2⟩
     have := (unhide HLOW).1
     omega

set_option maxRecDepth 100000

set_option maxHeartbeats 8000000 in
theorem specApply_any (c : Cf) (e : SnS) (x : Sn) (nx : HS) (h : Hd) (w : World) (o : SNK.Ok w e x) (on : HKd w nx h) (ot : BOk w nx.t h.t) (m : SnSm x) (mn : HSm h) :
    Calls Tryz.prog 6 #[.agg (cfvals c), .agg (snvals e x), .agg (hvals nx h)] w fun r w' => ∃ e' : SnS, r = .returned (.agg (srvals (apCode c x h) e' (apAns c x h))) ∧ (∀ W : World, Std w.heap.size w' W → SNK.Ok W e' (apAns c x h)) ∧ Below w.heap.size w w' := by
 obtain ⟨W0, e0, b0, hz, kc, kx, kh, kr⟩ := entryA c e x nx h w
 have D0 := hide (l8Fault_any w.heap.size c 41 W0 kc)
 have D1 := hide (l7Fault_any (w.heap.size + 1) e x 37 W0 kx (SNK.below o b0 (Nat.le_refl _)) m)
 have D2 := hide (fun (W : World) (hb : Below W0.heap.size W0 W) => l5Fault_any (w.heap.size + 2) nx h 44 W (kh.below hb kh.lt) (on.ok.below (b0.trans (hb.mono b0.size)) (Nat.le_refl _)) mn)
 have DA := hide (fun (W : World) (hb : Below W0.heap.size W0 W) => l7At_any e.2.1 nx.g x.2.1 h.g W (RowOk.below o.2.1 (b0.trans (hb.mono b0.size)) (Nat.le_refl _)) (bytesK.below on.g (b0.trans (hb.mono b0.size)) (Nat.le_refl _)) m.s)
 have HNEG := hide (atFrom_neg h.g x.2.1 0)
 have DL := hide (fun (zc : cfFlt c = 0) (zx : snFlt x = 0) (zh : hdFlt h = 0) (zn : h.n1 = x.1 + 1) (zg : h.g ∈ x.2.1) (W : World) (hb : Below W0.heap.size W0 W) => l9Apply_any w.heap.size (w.heap.size + 2) c e x nx h W (kc.below hb kc.lt) (kh.below hb kh.lt) (SNK.below o (b0.trans (hb.mono b0.size)) (Nat.le_refl _)) m (bytesK.below on.g (b0.trans (hb.mono b0.size)) (Nat.le_refl _)) (bytesK.below ot (b0.trans (hb.mono b0.size)) (Nat.le_refl _)) zc zx zh zn zg)
 have HKR := hide (fun (W : World) (hb : Below W0.heap.size W0 W) => five_blk (kr.below hb kr.lt))
 have HKX := hide (fun (W : World) (hb : Below W0.heap.size W0 W) => (four_blk (kx.below hb kx.lt)).1)
 have HKH := hide (fun (W : World) (hb : Below W0.heap.size W0 W) => hcells (kh.below hb kh.lt))
 have HW : Hid (snFlt x = 0 → IntKind.i64.wrap (x.1 + 1) = x.1 + 1) := fun hh => by
  rw [IntKind.wrap_i64]
  have := snFlt_num0 hh
  omega
 have HBB := hide b0
 have HZ := hide (And.intro hz kr.lt)
 have HC : Hid (apCode c x h = if cfFlt c ≠ 0 then cfFlt c else if snFlt x ≠ 0 then snFlt x else if hdFlt h ≠ 0 then hdFlt h else if ¬ h.n1 = x.1 + 1 then 3 else if ¬ h.g ∈ x.2.1 then 4 else 0) := rfl
 have HV : Hid ((apCode c x h = 0 → apAns c x h = apSn c x h) ∧ (apCode c x h ≠ 0 → apAns c x h = (0, [], [], []))) := ⟨fun hh => if_pos hh, fun hh => if_neg hh⟩
 have EA := hide e0
 clear o on ot m mn kc kx kh kr b0 e0 hz
 generalize apAns c x h = XX at HV ⊢
 generalize apCode c x h = CC at HC HV ⊢
 generalize apSn c x h = CX at HV DL
 generalize snFlt x = k1 at D1 DL HC HW
 generalize cfFlt c = k0 at D0 DL HC
 generalize hdFlt h = k2 at D2 DL HC
 generalize atFrom h.g 0 x.2.1 = at0 at DA HNEG
 obtain ⟨n, zss, rs, vs⟩ := x
 obtain ⟨⟨⟩, sg, sr, sv⟩ := e
 unfold snvals at EA DL ⊢
 unfold cfvals at EA ⊢
 unfold hvals at EA ⊢
 unfold srvals
 simp only at DL DA HKX HW HC
 have FIN : Hid (∀ c : Int, CC = c → ¬ c = 0 → ∃ e' : SnS, Ending.returned (Value.agg #[.int .i64 c, .int .i64 0, .slice none 0 0, .slice none 0 0, .slice none 0 0]) = Ending.returned (Value.agg #[.int .i64 CC, .int .i64 XX.1, .slice e'.2.1.a e'.2.1.n e'.2.1.c, .slice e'.2.2.1.a e'.2.2.1.n e'.2.2.1.c, .slice e'.2.2.2.a e'.2.2.2.n e'.2.2.2.c]) ∧ (∀ W, SNK.Ok W e' XX)) := fun c hc hn => by
  have hX : XX = (0, [], [], []) := (unhide HV).2 (by rw [hc]; exact hn)
  subst hX
  subst hc
  exact ⟨((), ⟨none, 0, 0⟩, ⟨none, 0, 0⟩, ⟨none, 0, 0⟩), rfl, fun W => sn_nil W⟩
 have J0 := hide (Below.refl W0.heap.size W0)
 obtain ⟨⟨r0, r1, r2, r3, r4⟩, f0, f1, f2, f3, f4⟩ := (unhide HKR) W0 (unhide J0)
 go_enter Tryz.func6, Tryz.ntmps6
 go_upto_region 1 with fail
 rw [unhide EA]
 clear EA
 go_wp2_with fail
 refine (unhide D0).mono ?_
 rintro r w1 ⟨rfl, rfl⟩
 by_cases n0 : k0 = 0
 case neg =>
  have h0 : (k0 != 0) = true := by simp [n0]
  have hC : CC = k0 := by rw [unhide HC]; simp [n0]
  obtain ⟨e', p1, p2⟩ := (unhide FIN) k0 hC n0
  clear n0
  go_wp2_with fail
  exact bodyPost_ret (v := .agg #[.int .i64 (k0), .int .i64 0, .slice none 0 0, .slice none 0 0, .slice none 0 0]) (by simp [results, Tryz.results6, go_sem, r0, r1, r2, r3, r4]) rfl ⟨e', p1, fun W _ => p2 W, set5 ((unhide HBB).trans ((unhide J0).mono (unhide HBB).size)) (by omega) _ _ _ _ _⟩
 subst n0
 have h0 : ((0 : Int) != 0) = false := by simp
 go_wp2_with fail
 refine (unhide D1).mono ?_
 rintro r w2 ⟨rfl, q1, rfl⟩
 have J1 := hide (below_drewN (unhide J0) q1)
 generalize w1.drewN q1 = w2 at J1 ⊢
 clear r0 r1 r2 r3 r4 f0 f1 f2 f3 f4
 obtain ⟨⟨r0, r1, r2, r3, r4⟩, f0, f1, f2, f3, f4⟩ := (unhide HKR) w2 (unhide J1)
 by_cases n1 : k1 = 0
 case neg =>
  have h1 : (k1 != 0) = true := by simp [n1]
  have hC : CC = k1 := by rw [unhide HC]; simp [n1]
  obtain ⟨e', p1, p2⟩ := (unhide FIN) k1 hC n1
  clear n1
  go_wp2_with fail
  exact bodyPost_ret (v := .agg #[.int .i64 (k1), .int .i64 0, .slice none 0 0, .slice none 0 0, .slice none 0 0]) (by simp [results, Tryz.results6, go_sem, r0, r1, r2, r3, r4]) rfl ⟨e', p1, fun W _ => p2 W, set5 ((unhide HBB).trans ((unhide J1).mono (unhide HBB).size)) (by omega) _ _ _ _ _⟩
 subst n1
 have h1 : ((0 : Int) != 0) = false := by simp
 go_wp2_with fail
 refine ((unhide D2) w2 (unhide J1)).mono ?_
 rintro r w3 ⟨rfl, q2, rfl⟩
 have J2 := hide (below_drewN (unhide J1) q2)
 generalize w2.drewN q2 = w3 at J2 ⊢
 clear r0 r1 r2 r3 r4 f0 f1 f2 f3 f4
 obtain ⟨⟨r0, r1, r2, r3, r4⟩, f0, f1, f2, f3, f4⟩ := (unhide HKR) w3 (unhide J2)
 by_cases n2 : k2 = 0
 case neg =>
  have h2 : (k2 != 0) = true := by simp [n2]
  have hC : CC = k2 := by rw [unhide HC]; simp [n2]
  obtain ⟨e', p1, p2⟩ := (unhide FIN) k2 hC n2
  clear n2
  go_wp2_with fail
  exact bodyPost_ret (v := .agg #[.int .i64 (k2), .int .i64 0, .slice none 0 0, .slice none 0 0, .slice none 0 0]) (by simp [results, Tryz.results6, go_sem, r0, r1, r2, r3, r4]) rfl ⟨e', p1, fun W _ => p2 W, set5 ((unhide HBB).trans ((unhide J2).mono (unhide HBB).size)) (by omega) _ _ _ _ _⟩
 subst n2
 have h2 : ((0 : Int) != 0) = false := by simp
 obtain ⟨x0, x1, x2, x3⟩ := (unhide HKX) w3 (unhide J2)
 obtain ⟨_, y1, _, _, _, _, _, _, y8, _, _⟩ := (unhide HKH) w3 (unhide J2)
 have hw := (unhide HW) (by simp)
 by_cases e1 : h.n1 = n + 1
 case neg =>
  have g1 : (h.n1 != n + 1) = true := by simp [e1]
  have hC : CC = 3 := by rw [unhide HC]; simp [e1]
  obtain ⟨e', p1, p2⟩ := (unhide FIN) 3 hC (by decide)
  go_wp2_with fail
  exact bodyPost_ret (v := .agg #[.int .i64 3, .int .i64 0, .slice none 0 0, .slice none 0 0, .slice none 0 0]) (by simp [results, Tryz.results6, go_sem, r0, r1, r2, r3, r4]) rfl ⟨e', p1, fun W _ => p2 W, set5 ((unhide HBB).trans ((unhide J2).mono (unhide HBB).size)) (by omega) _ _ _ _ _⟩
 have g1 : (h.n1 != n + 1) = false := by simp [e1]
 have HE1 := hide e1
 clear e1
 by_cases e2 : h.g ∈ zss
 case neg =>
  have g2 : decide (at0 < 0) = true := by rw [unhide HNEG]; simp [e2]
  have hC : CC = 4 := by rw [unhide HC]; simp [e2, unhide HE1]
  obtain ⟨e', p1, p2⟩ := (unhide FIN) 4 hC (by decide)
  go_wp2_with fail
  refine ((unhide DA) _ (unhide J2)).mono ?_
  rintro r w4 ⟨rfl, hw4⟩
  rw [hw4]
  clear hw4
  go_wp2_with fail
  exact bodyPost_ret (v := .agg #[.int .i64 4, .int .i64 0, .slice none 0 0, .slice none 0 0, .slice none 0 0]) (by simp [results, Tryz.results6, go_sem, r0, r1, r2, r3, r4]) rfl ⟨e', p1, fun W _ => p2 W, set5 ((unhide HBB).trans ((unhide J2).mono (unhide HBB).size)) (by omega) _ _ _ _ _⟩
 have g2 : decide (at0 < 0) = false := by rw [unhide HNEG]; simp [e2]
 have hC : CC = 0 := by rw [unhide HC]; simp [e2, unhide HE1]
 have hX := (unhide HV).1 hC
 subst hC
 subst hX
 have DC := hide (fun (W : World) (hb : Below w1.heap.size w1 W) => (unhide DL) (by simp) (by simp) (by simp) (unhide HE1) e2 W hb)
 clear DL FIN HV HC
 go_wp2_with fail
 refine ((unhide DA) _ (unhide J2)).mono ?_
 rintro r w4 ⟨rfl, hw4⟩
 rw [hw4]
 clear hw4 e2 y1 y8
 have HS5 := hide (unhide J2).size
 go_wp2_with fail
 refine ((unhide DC) w3 (unhide J2)).mono ?_
 rintro r w6 ⟨⟨⟨⟩, s5, r5, v5⟩, rfl, ok5, b5⟩
 have J6 := hide ((unhide J2).trans (b5.mono (unhide J2).size))
 simp only at ok5 ⊢
 have HOK := hide ok5
 clear x0 x1 x2 x3 ok5 b5
 clear r0 r1 r2 r3 r4 f0 f1 f2 f3 f4
 obtain ⟨⟨r0, r1, r2, r3, r4⟩, f0, f1, f2, f3, f4⟩ := (unhide HKR) w6 (unhide J6)
 go_wp2_with fail
 have bw6 := (unhide HBB).trans ((unhide J6).mono (unhide HBB).size)
 have HF := set5 bw6 (show w.heap.size ≤ w.heap.size + 3 by omega) (.int .i64 0) (.int .i64 XX.1) (.slice s5.a s5.n s5.c) (.slice r5.a r5.n r5.c) (.slice v5.a v5.n v5.c)
 have hz4 := (unhide HS5)
 have hz3 := (unhide HZ).2
 refine bodyPost_ret (v := .agg #[.int .i64 0, .int .i64 XX.1, .slice s5.a s5.n s5.c, .slice r5.a r5.n r5.c, .slice v5.a v5.n v5.c]) (by simp [results, Tryz.results6, go_sem, r0, r1, r2, r3, r4]) rfl ?_
 have hOk : ∀ W : World, Std w.heap.size (((((w6.setCell ⟨w.heap.size + 3, 0, none⟩ (.int .i64 0)).setCell ⟨w.heap.size + 3, 1, none⟩ (.int .i64 XX.1)).setCell ⟨w.heap.size + 3, 2, none⟩ (.slice s5.a s5.n s5.c)).setCell ⟨w.heap.size + 3, 3, none⟩ (.slice r5.a r5.n r5.c)).setCell ⟨w.heap.size + 3, 4, none⟩ (.slice v5.a v5.n v5.c)) W → SNK.Ok W ((), s5, r5, v5) XX := fun W hW => (unhide HOK) W (fun g a b => (hW g (by omega) (by simpa [World.setCell] using b)).trans (other5 (w := w6) (k := g) (g := w.heap.size + 3) (by omega) (.int .i64 0) (.int .i64 XX.1) (.slice s5.a s5.n s5.c) (.slice r5.a r5.n r5.c) (.slice v5.a v5.n v5.c)))
 first
  | exact ⟨((), s5, r5, v5), rfl, hOk, HF⟩
  | exact ⟨(), s5, r5, v5, rfl, hOk, HF⟩

set_option maxRecDepth 100000

theorem BUpto.only {B C D : Nat} {w w' : World} (h : OnlyH B C w w') {g : Nat} {zss : List (List Int)} {k len : Nat} {T : TypeId} (hs : BUpto w g zss k len T D) (hg : C ≤ g) : BUpto w' g zss k len T D := by
 obtain ⟨vs, f, h1, h2, h3, h4, h5⟩ := hs
 refine ⟨vs, f, h.sblk h1 hg, h2, h3, h4, fun i z hi hz => ?_⟩
 obtain ⟨q1, q2⟩ := h5 i z hi hz
 exact ⟨q1, h.own q2 (by omega)⟩

/-- As HOwn, all below C. -/
def HOwnC (w : World) (B C : Nat) (x : HS) (h : Hd) : Prop :=
 ∃ g1 g2 g3 g4 g5 g6 g7 : Nat, x = ⟨⟨some ⟨g1, 0, none⟩, h.p.length, h.p.length⟩, ⟨some ⟨g2, 0, none⟩, h.t.length, h.t.length⟩, ⟨some ⟨g3, 0, none⟩, h.s.length, h.s.length⟩, ⟨some ⟨g4, 0, none⟩, h.r.length, h.r.length⟩, ⟨some ⟨g5, 0, none⟩, h.g.length, h.g.length⟩, ⟨some ⟨g6, 0, none⟩, h.e.length, h.e.length⟩, ⟨some ⟨g7, 0, none⟩, h.k.length, h.k.length⟩⟩ ∧
  (B ≤ g1 ∧ g1 < g2 ∧ g2 < g3 ∧ g3 < g4 ∧ g4 < g5 ∧ g5 < g6 ∧ g6 < g7 ∧ g7 < C) ∧
  w.ownsRow g1 5 1 (.slice (some ⟨g1, 0, none⟩) h.p.length h.p.length) h.p.length (h.p.map (Value.int .u8)) ∧
  w.ownsRow g2 5 1 (.slice (some ⟨g2, 0, none⟩) h.t.length h.t.length) h.t.length (h.t.map (Value.int .u8)) ∧
  OBss w g3 h.s 29 g4 ∧
  w.ownsRow g4 5 1 (.slice (some ⟨g4, 0, none⟩) h.r.length h.r.length) h.r.length (h.r.map (Value.int .u8)) ∧
  w.ownsRow g5 5 1 (.slice (some ⟨g5, 0, none⟩) h.g.length h.g.length) h.g.length (h.g.map (Value.int .u8)) ∧
  w.ownsRow g6 5 1 (.slice (some ⟨g6, 0, none⟩) h.e.length h.e.length) h.e.length (h.e.map (Value.int .u8)) ∧
  OBss w g7 h.k 29 C

theorem HOwn.c {w : World} {B : Nat} {x : HS} {h : Hd} (o : HOwn w B x h) : HOwnC w B w.heap.size x h := by
 obtain ⟨g1, g2, g3, g4, g5, g6, g7, e, ⟨a1, a2, a3, a4, a5, a6, a7⟩, o1, o2, o3, o4, o5, o6, o7⟩ := o
 exact ⟨g1, g2, g3, g4, g5, g6, g7, e, ⟨a1, a2, a3, a4, a5, a6, a7, BUpto.lt o7⟩, o1, o2, o3, o4, o5, o6, o7⟩

theorem HOwnC.below {w w' : World} {B C D : Nat} {x : HS} {h : Hd} (o : HOwnC w B C x h) (hb : Below D w w') (hD : w.heap.size ≤ D) : HOwnC w' B C x h := by
 obtain ⟨g1, g2, g3, g4, g5, g6, g7, e, a, o1, o2, o3, o4, o5, o6, o7⟩ := o
 exact ⟨g1, g2, g3, g4, g5, g6, g7, e, a, own_below o1 hb hD, own_below o2 hb hD, BUpto.below o3 hb hD, own_below o4 hb hD, own_below o5 hb hD, own_below o6 hb hD, BUpto.below o7 hb hD⟩

set_option maxRecDepth 100000

set_option maxRecDepth 100000 in
set_option maxHeartbeats 4000000 in
theorem markHeaderK_any (k0 : Int) (hk0 : 0 ≤ k0) (hk1 : k0 ≤ 8388608) (x : HS) (h : Hd) (B C : Nat) (w : World) (o : HOwnC w B C x h) (hC : C ≤ w.heap.size) (m : HSm h) (ht : hTot h ≤ 1048576) :
    Calls Tryz.prog 15 #[.agg (hvals x h), .int .i64 k0] w fun e w' => e = .returned (.int .i64 (k0 + (hTot h : Nat))) ∧ OnlyH B C w w' := by
 have kb := SBlk.new w (hvals x h) 44
 have bb := below_alloc w (.cells (hvals x h) 44)
 obtain ⟨W0, eb⟩ : ∃ W0, w.alloc (.cells (hvals x h) 44) = W0 := ⟨_, rfl⟩
 rw [eb] at kb bb
 obtain ⟨g1, g2, g3, g4, g5, g6, g7, rfl, ⟨a1, a2, a3, a4, a5, a6, a7, a8⟩, o1, o2, o3, o4, o5, o6, o7⟩ := o.below bb (Nat.le_refl _)
 have on : OnlyH B C w W0 := ⟨bb.mono (by omega), fun q hq hl => bb.block q hl⟩
 have tp : h.p.length ≤ 1048576 := m.p
 unfold hTot at ht
 have HTOT : Hid ((hTot h : Nat) = h.p.length + h.t.length + bsum h.s + h.r.length + h.g.length + h.e.length + bsum h.k) := rfl
 generalize hTot h = tot at HTOT ⊢
 have hgb : C ≤ w.heap.size := hC
 unfold hvals at kb eb ⊢
 have HM := hide m
 clear o m
 go_enter Tryz.func15, Tryz.ntmps15
 go_upto_region 1 with (rw [eb])
 try rw [eb]
 clear eb bb
 have c1 := kb.cell 0
 simp only [List.getElem?_cons_zero] at c1
 have D1 := hide (markB_only g1 h.p.length h.p k0 W0 o1 (by omega) (by omega) (by omega))
 go_wp2_with fail
 refine (unhide D1).mono ?_
 rintro e w1 ⟨rfl, n1⟩
 have o2 := n1.own o2 (by omega)
 have o3 := BUpto.only n1 o3 (by omega)
 have o4 := n1.own o4 (by omega)
 have o5 := n1.own o5 (by omega)
 have o6 := n1.own o6 (by omega)
 have o7 := BUpto.only n1 o7 (by omega)
 have kb := n1.sblk kb (by omega)
 have on := on.trans (n1.mono (B' := B) (C' := C) (by omega) (by omega))
 clear n1 c1 D1
 have c2 := kb.cell 4
 simp only [List.getElem?_cons_zero, List.getElem?_cons_succ] at c2
 obtain ⟨K1, eK1⟩ : ∃ K : Int, K = k0 + (h.p.length : Nat) := ⟨_, rfl⟩
 have bK1 : 0 ≤ K1 ∧ K1 ≤ 9437184 := by omega
 have D2 := hide (markB_only g2 h.t.length h.t K1 w1 o2 (by omega) (by omega) (by omega))
 have EK1 := hide eK1
 clear eK1
 go_wp2_with fail
 rw [← unhide EK1]
 refine (unhide D2).mono ?_
 rintro e w2 ⟨rfl, n2⟩
 have o3 := BUpto.only n2 o3 (by omega)
 have o4 := n2.own o4 (by omega)
 have o5 := n2.own o5 (by omega)
 have o6 := n2.own o6 (by omega)
 have o7 := BUpto.only n2 o7 (by omega)
 have kb := n2.sblk kb (by omega)
 have on := on.trans (n2.mono (B' := B) (C' := C) (by omega) (by omega))
 clear n2 c2 D2
 have c3 := kb.cell 6
 simp only [List.getElem?_cons_zero, List.getElem?_cons_succ] at c3
 obtain ⟨K2, eK2⟩ : ∃ K : Int, K = K1 + (h.t.length : Nat) := ⟨_, rfl⟩
 have bK2 : 0 ≤ K2 ∧ K2 ≤ 9437184 := by have q1 := unhide EK1; omega
 have D3 := hide (markSS_any g3 h.s 29 g4 K2 w2 o3 (by omega) (unhide HM).s (by omega) (by omega) (by omega))
 have EK2 := hide eK2
 clear eK2
 go_wp2_with fail
 rw [← unhide EK2]
 refine (unhide D3).mono ?_
 rintro e w3 ⟨rfl, n3⟩
 have o4 := n3.own o4 (by omega)
 have o5 := n3.own o5 (by omega)
 have o6 := n3.own o6 (by omega)
 have o7 := BUpto.only n3 o7 (by omega)
 have kb := n3.sblk kb (by omega)
 have on := on.trans (n3.mono (B' := B) (C' := C) (by omega) (by omega))
 clear n3 c3 D3
 have c4 := kb.cell 7
 simp only [List.getElem?_cons_zero, List.getElem?_cons_succ] at c4
 obtain ⟨K3, eK3⟩ : ∃ K : Int, K = K2 + (bsum h.s : Nat) := ⟨_, rfl⟩
 have bK3 : 0 ≤ K3 ∧ K3 ≤ 9437184 := by have q1 := unhide EK1; have q2 := unhide EK2; omega
 have D4 := hide (markB_only g4 h.r.length h.r K3 w3 o4 (by omega) (by omega) (by omega))
 have EK3 := hide eK3
 clear eK3
 go_wp2_with fail
 rw [← unhide EK3]
 refine (unhide D4).mono ?_
 rintro e w4 ⟨rfl, n4⟩
 have o5 := n4.own o5 (by omega)
 have o6 := n4.own o6 (by omega)
 have o7 := BUpto.only n4 o7 (by omega)
 have kb := n4.sblk kb (by omega)
 have on := on.trans (n4.mono (B' := B) (C' := C) (by omega) (by omega))
 clear n4 c4 D4
 have c5 := kb.cell 8
 simp only [List.getElem?_cons_zero, List.getElem?_cons_succ] at c5
 obtain ⟨K4, eK4⟩ : ∃ K : Int, K = K3 + (h.r.length : Nat) := ⟨_, rfl⟩
 have bK4 : 0 ≤ K4 ∧ K4 ≤ 9437184 := by have q1 := unhide EK1; have q2 := unhide EK2; have q3 := unhide EK3; omega
 have D5 := hide (markB_only g5 h.g.length h.g K4 w4 o5 (by omega) (by omega) (by omega))
 have EK4 := hide eK4
 clear eK4
 go_wp2_with fail
 rw [← unhide EK4]
 refine (unhide D5).mono ?_
 rintro e w5 ⟨rfl, n5⟩
 have o6 := n5.own o6 (by omega)
 have o7 := BUpto.only n5 o7 (by omega)
 have kb := n5.sblk kb (by omega)
 have on := on.trans (n5.mono (B' := B) (C' := C) (by omega) (by omega))
 clear n5 c5 D5
 have c6 := kb.cell 9
 simp only [List.getElem?_cons_zero, List.getElem?_cons_succ] at c6
 obtain ⟨K5, eK5⟩ : ∃ K : Int, K = K4 + (h.g.length : Nat) := ⟨_, rfl⟩
 have bK5 : 0 ≤ K5 ∧ K5 ≤ 9437184 := by have q1 := unhide EK1; have q2 := unhide EK2; have q3 := unhide EK3; have q4 := unhide EK4; omega
 have D6 := hide (markB_only g6 h.e.length h.e K5 w5 o6 (by omega) (by omega) (by omega))
 have EK5 := hide eK5
 clear eK5
 go_wp2_with fail
 rw [← unhide EK5]
 refine (unhide D6).mono ?_
 rintro e w6 ⟨rfl, n6⟩
 have o7 := BUpto.only n6 o7 (by omega)
 have kb := n6.sblk kb (by omega)
 have on := on.trans (n6.mono (B' := B) (C' := C) (by omega) (by omega))
 clear n6 c6 D6
 have c7 := kb.cell 10
 simp only [List.getElem?_cons_zero, List.getElem?_cons_succ] at c7
 obtain ⟨K6, eK6⟩ : ∃ K : Int, K = K5 + (h.e.length : Nat) := ⟨_, rfl⟩
 have bK6 : 0 ≤ K6 ∧ K6 ≤ 9437184 := by have q1 := unhide EK1; have q2 := unhide EK2; have q3 := unhide EK3; have q4 := unhide EK4; have q5 := unhide EK5; omega
 have D7 := hide (markSS_any g7 h.k 29 C K6 w6 o7 (by omega) (unhide HM).k (by omega) (by omega) (by omega))
 have EK6 := hide eK6
 clear eK6
 go_wp2_with fail
 rw [← unhide EK6]
 refine (unhide D7).mono ?_
 rintro e w7 ⟨rfl, n7⟩
 have kb := n7.sblk kb (by omega)
 have on := on.trans (n7.mono (B' := B) (C' := C) (by omega) (by omega))
 clear n7 c7 D7
 go_wp2_with fail
 go_ret
 refine ⟨ret_int ?_, on⟩
 have t := unhide HTOT
 have t1 := unhide EK1
 have t2 := unhide EK2
 have t3 := unhide EK3
 have t4 := unhide EK4
 have t5 := unhide EK5
 have t6 := unhide EK6
 omega

set_option maxRecDepth 100000

theorem ap_flt {c : Cf} {x : Sn} {h : Hd} (hb : ∀ z ∈ x.2.1, Byt z) (hbt : Byt h.t) : apCode c x h = 0 → snFlt (apAns c x h) = 0 := fun hc => by
 obtain ⟨zc, zx, zh, zn, zg⟩ := ap_zero hc
 have hgood := good_of zh
 have hP := ap_ok (c := c) zx zn hgood.n1 zg
 unfold apAns
 rw [if_pos hc]
 unfold apSn
 by_cases ht : h.t.length = 0
 · rw [if_pos ht]
   exact hP
 · rw [if_neg ht]
   by_cases hq : ctCode (apPass c x h) h.g h.t (h.n5 == 1) = 0
   · rw [if_pos hq]
     exact ct_ok hP hgood.g (hd_t4 zh ht) (show h.g ∈ x.2.1 from zg) (show ∀ z ∈ x.2.1, Byt z from hb) hbt
   · rw [if_neg hq]
     exact hP

theorem ap_tiny {w : World} {e : SnS} {x : Sn} {c : Cf} {h : Hd} (o : SNK.Ok w e x) (hbt : Byt h.t) : SnT (apAns c x h) := by
 by_cases hc : apCode c x h = 0
 · exact snT_flt (ap_flt (row_byt o.2.1) hbt hc)
 · rw [show apAns c x h = (0, [], [], []) from if_neg hc]
   exact snT_nil

/-- A header that reads by kinds, its target too. -/
structure HGd (w : World) (x : HS) (h : Hd) : Prop where
 kd : HKd w x h
 t : BOk w x.t h.t

theorem HGd.below {w w' : World} {x : HS} {h : Hd} (o : HGd w x h) {B : Nat} (hb : Below B w w') (hB : w.heap.size ≤ B) : HGd w' x h := ⟨o.kd.below hb hB, bytesK.below o.t hb hB⟩

theorem HOwnC.weak {w : World} {B B' C : Nat} {x : HS} {h : Hd} (o : HOwnC w B C x h) (hB : B' ≤ B) : HOwnC w B' C x h := by
 obtain ⟨g1, g2, g3, g4, g5, g6, g7, e, ⟨a1, a2⟩, r⟩ := o
 exact ⟨g1, g2, g3, g4, g5, g6, g7, e, ⟨by omega, a2⟩, r⟩

theorem HOwnC.only {w w' : World} {B C B' C' : Nat} {x : HS} {h : Hd} (n : OnlyH B' C' w w') (o : HOwnC w B C x h) (hC : C' ≤ B) : HOwnC w' B C x h := by
 obtain ⟨g1, g2, g3, g4, g5, g6, g7, e, ⟨a1, a2, a3, a4, a5, a6, a7, a8⟩, o1, o2, o3, o4, o5, o6, o7⟩ := o
 exact ⟨g1, g2, g3, g4, g5, g6, g7, e, ⟨a1, a2, a3, a4, a5, a6, a7, a8⟩, n.own o1 (by omega), n.own o2 (by omega), BUpto.only n o3 (by omega), n.own o4 (by omega), n.own o5 (by omega), n.own o6 (by omega), BUpto.only n o7 (by omega)⟩

theorem obss_cap2 {w : World} {g : Nat} {zss : List (List Int)} {T : TypeId} {C : Nat} (o : OBss w g zss T C) : BsCap w (some ⟨g, 0, none⟩) zss.length := by
 obtain ⟨vs, f, h1, h2, h3, h4, h5⟩ := o
 intro b off e i hi
 simp only [Option.some.injEq, Addr.mk.injEq] at e
 obtain ⟨rfl, rfl, _⟩ := e
 obtain ⟨z, hz⟩ : ∃ z, zss[i]? = some z := ⟨_, List.getElem?_eq_getElem hi⟩
 have k := (h5 i z hi hz).1
 exact ⟨some ⟨f i, 0, none⟩, z.length, z.length, by rw [Nat.zero_add, h1.cell i, k], Nat.le_refl _⟩

theorem hown_kd2 {w : World} {B : Nat} {x : HS} {h : Hd} (o : HOwn w B x h) (ok : HOk w x h) (m : HSm h) : HKd w x h := by
 obtain ⟨g1, g2, g3, g4, g5, g6, g7, rfl, _, o1, o2, o3, o4, o5, o6, o7⟩ := o
 obtain ⟨d, hd⟩ := row_of_obss o3 (Nat.le_refl _) ok.s.bytes m.s []
 have mg := m.g
 refine ⟨ok, ⟨fun e => (by cases e), fun e => (by cases e), OBss.nilOk o3, fun e => (by cases e), fun e => (by cases e), fun e => (by cases e), OBss.nilOk o7⟩, obss_cap2 o7, ⟨ok.g, Nat.le_refl _, ?_, fun e => by cases e⟩, (rowK bytesK 29).ok hd⟩
 show h.g.length ≤ maxLen
 unfold maxLen
 omega

theorem toHeader_ap (x : HS) (h : Hd) (w : World) (o : HOk w x h) (m : HSm h) :
    Calls Tryz.prog 9 #[.agg (hvals x h)] w fun e w' => ∃ y, e = .returned (.agg (hvals y h)) ∧ HGd w' y h ∧ HOwnC w' w.heap.size w'.heap.size y h ∧ Below w.heap.size w w' :=
 (toHeader_any x h w o m).mono fun e w' ⟨y, he, ho, hb⟩ => by
  have hk := hown_kd2 ho (ho.ok o) m
  have hc := HOwnC.weak ho.c (show w.heap.size ≤ w.heap.size + 3 by omega)
  have hok := ho.ok o
  have mt : h.t.length ≤ 1048576 := m.t
  obtain ⟨g1, g2, g3, g4, g5, g6, g7, rfl, _, o1, o2, o3, o4, o5, o6, o7⟩ := ho
  exact ⟨_, he, ⟨hk, ⟨hok.t, Nat.le_refl _, by show h.t.length ≤ maxLen; unfold maxLen; omega, fun e => by cases e⟩⟩, hc, hb⟩

/-- The block of a SnapResult that is made ahead of a call: it stays as it is while the call runs. -/
theorem zb_new {W' : World} (u : World) (b : Below (u.alloc (.cells #[.int .i64 0, .int .i64 0, .slice none 0 0, .slice none 0 0, .slice none 0 0] 39)).heap.size (u.alloc (.cells #[.int .i64 0, .int .i64 0, .slice none 0 0, .slice none 0 0, .slice none 0 0] 39)) W') :
    SBlk W' u.heap.size [.int .i64 0, .int .i64 0, .slice none 0 0, .slice none 0 0, .slice none 0 0] 39 ∧ u.heap.size < (u.alloc (.cells #[.int .i64 0, .int .i64 0, .slice none 0 0, .slice none 0 0, .slice none 0 0] 39)).heap.size :=
 have k := SBlk.new u #[.int .i64 0, .int .i64 0, .slice none 0 0, .slice none 0 0, .slice none 0 0] 39
 ⟨k.below b k.lt, k.lt⟩

theorem zb_old {W W' : World} {g : Nat} {vs : List Value} {T : TypeId} (k : SBlk W g vs T) (b : Below W.heap.size W W') : SBlk W' g vs T ∧ g < W.heap.size := ⟨k.below b k.lt, k.lt⟩

theorem zb_first {W' : World} (u : World) (b : Below ((u.alloc (.cells #[.int .i64 0, .int .i64 0, .slice none 0 0, .slice none 0 0, .slice none 0 0] 39)).drew).heap.size ((u.alloc (.cells #[.int .i64 0, .int .i64 0, .slice none 0 0, .slice none 0 0, .slice none 0 0] 39)).drew) W') :
    SBlk W' u.heap.size [.int .i64 0, .int .i64 0, .slice none 0 0, .slice none 0 0, .slice none 0 0] 39 ∧ u.heap.size < ((u.alloc (.cells #[.int .i64 0, .int .i64 0, .slice none 0 0, .slice none 0 0, .slice none 0 0] 39)).drew).heap.size := by
 have k := SBlk.new u #[.int .i64 0, .int .i64 0, .slice none 0 0, .slice none 0 0, .slice none 0 0] 39
 have k2 := k.below ((Below.refl (u.alloc (.cells #[.int .i64 0, .int .i64 0, .slice none 0 0, .slice none 0 0, .slice none 0 0] 39)).heap.size (u.alloc (.cells #[.int .i64 0, .int .i64 0, .slice none 0 0, .slice none 0 0, .slice none 0 0] 39))).drew) k.lt
 exact ⟨k2.below b k2.lt, k2.lt⟩

end Go.Proofs.YtdmcmlcmgbbclaaGreat
