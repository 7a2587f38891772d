/- What is proved here: what the model's l9Apply answers. -/
import Derived.Test.YtdmcmlcmgbbclaaGreatK0
import Derived.Test.YtdmcmlcmgbbclaaGreatJ16
import Derived.Test.YtdmcmlcmgbbclaaGreatJ15
import Derived.Test.YtdmcmlcmgbbclaaGreatJ27
import Derived.Test.YtdmcmlcmgbbclaaGreatJ10
import Derived.Deep.DeepCutAuto
namespace Go.Proofs.YtdmcmlcmgbbclaaGreat
set_option linter.unusedVariables false
set_option linter.unusedSimpArgs false
open Go.RowKit
set_option maxRecDepth 100000

theorem flt_yes {rs : List Rc} {bd : Int} {k : Nat} {r : Rc} (hr : rs[k]? = some r) (h : bd < r.1) : (rs.take (k + 1)).filter (fun r => decide (bd < r.1)) = (rs.take k).filter (fun r => decide (bd < r.1)) ++ [r] := by
 rw [List.take_add_one, hr, List.filter_append]
 simp [h]
theorem flt_no {rs : List Rc} {bd : Int} {k : Nat} {r : Rc} (hr : rs[k]? = some r) (h : ¬ bd < r.1) : (rs.take (k + 1)).filter (fun r => decide (bd < r.1)) = (rs.take k).filter (fun r => decide (bd < r.1)) := by
 rw [List.take_add_one, hr, List.filter_append]
 simp [h]

theorem lt_of_same {w w' : World} {q : Nat} (h : w'.heap[q]? = w.heap[q]?) (hq : q < w.heap.size) : q < w'.heap.size := by
 rw [Array.getElem?_eq_getElem hq] at h
 exact (Array.getElem?_eq_some_iff.1 h).1

/-- What lies in memory behind 'next, k := ..': the block gq holds what came. -/
structure NxW (W12 w13 W14 : World) (gq : Nat) (e : SnS) (x : Sn) : Prop where
 blk : SBlk W14 gq [.int .i64 x.1, .slice e.2.1.a e.2.1.n e.2.1.c, .slice e.2.2.1.a e.2.2.1.n e.2.2.1.c, .slice e.2.2.2.a e.2.2.2.n e.2.2.2.c] 37
 old : Below W12.heap.size W12 W14
 same : ∀ q, q ≠ gq → q < w13.heap.size → W14.heap[q]? = w13.heap[q]?
 low : W12.heap.size ≤ gq
 big : w13.heap.size ≤ W14.heap.size

theorem nx_late {W12 w13 : World} (e : SnS) (x : Sn) (o : Below W12.heap.size W12 w13) : NxW W12 w13 (w13.alloc (.cells #[.int .i64 x.1, .slice e.2.1.a e.2.1.n e.2.1.c, .slice e.2.2.1.a e.2.2.1.n e.2.2.1.c, .slice e.2.2.2.a e.2.2.2.n e.2.2.2.c] 37)) w13.heap.size e x :=
 ⟨SBlk.new w13 #[.int .i64 x.1, .slice e.2.1.a e.2.1.n e.2.1.c, .slice e.2.2.1.a e.2.2.1.n e.2.2.1.c, .slice e.2.2.2.a e.2.2.2.n e.2.2.2.c] 37, o.alloc o.size _, fun q _ hq => (below_alloc w13 _).block q hq, o.size, by simp⟩

theorem nx_early {W12 w13 : World} {e : SnS} {x : Sn} (o : Below W12.heap.size W12 w13) (k : SBlk w13 W12.heap.size [.int .i64 0, .slice none 0 0, .slice none 0 0, .slice none 0 0] 37) : NxW W12 w13 ((((w13.setCell ⟨W12.heap.size, 0, none⟩ (.int .i64 x.1)).setCell ⟨W12.heap.size, 1, none⟩ (.slice e.2.1.a e.2.1.n e.2.1.c)).setCell ⟨W12.heap.size, 2, none⟩ (.slice e.2.2.1.a e.2.2.1.n e.2.2.1.c)).setCell ⟨W12.heap.size, 3, none⟩ (.slice e.2.2.2.a e.2.2.2.n e.2.2.2.c)) W12.heap.size e x := by
 obtain ⟨k9, n9, b9⟩ := ret4 k (.int .i64 x.1) (.slice e.2.1.a e.2.1.n e.2.1.c) (.slice e.2.2.1.a e.2.2.1.n e.2.2.1.c) (.slice e.2.2.2.a e.2.2.2.n e.2.2.2.c)
 exact ⟨k9, b9 _ _ (Nat.le_refl _) o, fun q hq _ => n9 q hq, Nat.le_refl _, by simp [World.setCell]⟩

set_option maxHeartbeats 8000000 in
theorem l9Apply_any (gc gh : Nat) (c : Cf) (e : SnS) (x : Sn) (nx : HS) (h : Hd) (w : World) (kc : SBlk w gc (cfvals c).toList 41) (kh : SBlk w gh (hvals nx h).toList 44) (o : SNK.Ok w e x) (m : SnSm x) (og : BOk w nx.g h.g) (ot : BOk w nx.t h.t) (zc : cfFlt c = 0) (zx : snFlt x = 0) (zh : hdFlt h = 0) (zn : h.n1 = x.1 + 1) (zg : h.g ∈ x.2.1) :
    Calls Tryz.prog 26 #[.pointer (some ⟨gc, 0, none⟩), .agg (snvals e x), .pointer (some ⟨gh, 0, none⟩)] w fun r w' => ∃ e' : SnS, r = .returned (.agg (snvals e' (apSn c x h))) ∧ (∀ W : World, Std w.heap.size w' W → SNK.Ok W e' (apSn c x h)) ∧ Below w.heap.size w w' := by
 have hgood := good_of zh
 obtain ⟨⟨⟩, sg, sr, sv⟩ := e
 obtain ⟨xn, zss, rs, vs⟩ := x
 obtain ⟨kb, kr, bb⟩ := two_sblk w (snvals ((), sg, sr, sv) (xn, zss, rs, vs)) #[.int .i64 0, .slice none 0 0, .slice none 0 0, .slice none 0 0] 37 37
 obtain ⟨W0, e0⟩ : ∃ W, (w.alloc (.cells (snvals ((), sg, sr, sv) (xn, zss, rs, vs)) 37)).alloc (.cells #[.int .i64 0, .slice none 0 0, .slice none 0 0, .slice none 0 0] 37) = W := ⟨_, rfl⟩
 have hz : W0.heap.size = w.heap.size + 2 := by rw [← e0]; simp
 rw [e0] at kb kr bb
 have EA := hide e0
 have HCY := hide (l7Copy_any ((), sg, sr, sv) (xn, zss, rs, vs) W0 (SNK.below o bb (Nat.le_refl _)) m)
 have HCK := hide (fun (W : World) (hb : Below w.heap.size w W) => l8Checkpoint_any gc c h.n1 41 W (kc.below hb kc.lt) zc hgood.n1)
 obtain ⟨ck, hck⟩ : ∃ b, b = decide (h.n1 % c.2.2 = 0) := ⟨_, rfl⟩
 rw [← hck] at HCK
 have HCKE := hide hck
 clear hck
 have HBB := hide bb
 have HKB := hide kb
 have HKR := hide kr
 have HKH := hide kh
 have HOO := hide (And.intro o (And.intro m (And.intro og ot)))
 have HZZ := hide (And.intro zx (And.intro zn (And.intro zg hgood)))
 obtain ⟨⟨x0, x1, x2, x3⟩, _⟩ := four_blk kb
 generalize hRR : apSn c (xn, zss, rs, vs) h = R at ⊢
 replace hRR := hide hRR
 unfold snvals at HCY EA ⊢
 dsimp only at HCY EA x0 x1 x2 x3 ⊢
 clear e0 kb kr bb kc kh o m og ot zc zx zh zn zg hgood
 go_enter Tryz.func26, Tryz.ntmps26
 go_upto_region 1 with fail
 rw [unhide EA]
 clear EA
 go_wp2_with fail
 refine (unhide HCY).mono ?_
 rintro r w1 ⟨e1, rfl, hs1, b1⟩
 have kg := SBlk.new w1 (snvals e1 (xn, zss, rs, vs)) 37
 have bg := below_alloc w1 (.cells (snvals e1 (xn, zss, rs, vs)) 37)
 obtain ⟨W2, e2⟩ : ∃ W, w1.alloc (.cells (snvals e1 (xn, zss, rs, vs)) 37) = W := ⟨_, rfl⟩
 rw [e2] at kg bg
 have E2 := hide e2
 obtain ⟨gs, hgs⟩ : ∃ g, g = w1.heap.size := ⟨_, rfl⟩
 rw [← hgs] at kg
 have HGS := hide hgs
 have b12 := b1.trans (bg.mono b1.size)
 have b02 := (unhide HBB).trans (b12.mono (unhide HBB).size)
 have HB1 := hide (And.intro hs1 (And.intro b1 (And.intro bg b02)))
 have HKG := hide kg
 obtain ⟨⟨g0, g1, g2, g3⟩, f0, f1, f2, f3⟩ := four_blk kg
 have y1 : W2.cell? ⟨gh, 1, none⟩ = some (.int .i64 h.n1) := ((unhide HKH).below b02 (unhide HKH).lt).cell 1
 unfold snvals at E2
 clear hs1 b1 bg e2 kg b12 b02 HCY x0 x1 x2 x3
 go_upto_region 2 with (rw [unhide E2])
 try rw [unhide E2]
 rw [← unhide HGS]
 clear E2 hgs
 go_wp2_with fail
 have b02 := (unhide HB1).2.2.2
 have hlo : w.heap.size ≤ gs := by have h1 := unhide HGS; have h2 := (unhide HBB).size; have h3 := (unhide HB1).2.1.size; omega
 have k3 := ((unhide HKG).set 0 (.int .i64 h.n1)).set 2 (.slice none 0 0)
 have b3 := (b02.setCell (p := ⟨gs, 0, none⟩) hlo (.int .i64 h.n1)).setCell (p := ⟨gs, 2, none⟩) hlo (.slice none 0 0)
 have n3 : ∀ q, q ≠ gs → ((W2.setCell ⟨gs, 0, none⟩ (.int .i64 h.n1)).setCell ⟨gs, 2, none⟩ (.slice none 0 0)).heap[q]? = W2.heap[q]? := fun q hq => by
  rw [heap_setCell_other _ ⟨gs, 2, none⟩ q _ hq, heap_setCell_other _ ⟨gs, 0, none⟩ q _ hq]
 have z3 : ((W2.setCell ⟨gs, 0, none⟩ (.int .i64 h.n1)).setCell ⟨gs, 2, none⟩ (.slice none 0 0)).heap.size = W2.heap.size := by simp [World.setCell]
 obtain ⟨W3, e3⟩ : ∃ W, (W2.setCell ⟨gs, 0, none⟩ (.int .i64 h.n1)).setCell ⟨gs, 2, none⟩ (.slice none 0 0) = W := ⟨_, rfl⟩
 rw [e3] at k3 b3 n3 z3 ⊢
 simp only [snvals, Array.toList, List.set_cons_zero, List.set_cons_succ] at k3
 refine ((unhide HCK) W3 b3).mono ?_
 rintro r w4 ⟨rfl, rfl⟩
 have b4 : Below W0.heap.size W0 w4 := by
  have q := (unhide HB1).2.1
  have q2 := q.trans ((unhide HB1).2.2.1.mono q.size)
  have h1 : W0.heap.size ≤ gs := by have h1 := unhide HGS; have h3 := q.size; omega
  have q3 := (q2.setCell (p := ⟨gs, 0, none⟩) h1 (.int .i64 h.n1)).setCell (p := ⟨gs, 2, none⟩) h1 (.slice none 0 0)
  rw [e3] at q3
  exact q3
 clear e3 g0 g1 g2 g3 f0 f1 f2 f3
 go_upto_if 25 with fail
 go_cut [] (fun wx => ∃ (V3 : Sl) (vz : List Vt), ((if h.n1 % c.2.2 = 0 then [] else vs) = vz ∧ (∀ W : World, RowOk vtK W e1.2.2.2 vs → RowOk vtK W V3 vz)) ∧ SBlk wx gs [.int .i64 h.n1, .slice e1.2.1.a e1.2.1.n e1.2.1.c, .slice none 0 0, .slice V3.a V3.n V3.c] 37 ∧ Below w.heap.size w wx ∧ (∀ q, q ≠ gs → wx.heap[q]? = W2.heap[q]?) ∧ wx.heap.size = W2.heap.size ∧ Below W0.heap.size W0 wx)
 case first =>
  cases ck
  · have hm := of_decide_eq_false (unhide HCKE).symm
    go_wp2_with fail
    go_meet
    exact ⟨e1.2.2.2, vs, ⟨if_neg hm, fun _ h => h⟩, k3, b3, n3, z3, b4⟩
  · have hm := of_decide_eq_true (unhide HCKE).symm
    obtain ⟨⟨g0, g1, g2, g3⟩, f0, f1, f2, f3⟩ := four_blk k3
    have h1 : W0.heap.size ≤ gs := by have h1 := unhide HGS; have h3 := (unhide HB1).2.1.size; omega
    have k5 := k3.set 3 (.slice none 0 0)
    simp only [List.set_cons_zero, List.set_cons_succ] at k5
    have r5 : ∀ W : World, RowOk vtK W ⟨none, 0, 0⟩ [] := fun W => (RowOwn.nil vtK 97 W 0 (fun _ => []) []).ok
    go_wp2_with fail
    go_meet
    exact ⟨⟨none, 0, 0⟩, [], ⟨if_pos hm, fun W _ => r5 W⟩, k5, b3.setCell (p := ⟨gs, 3, none⟩) hlo (.slice none 0 0), fun q hq => (heap_setCell_other _ ⟨gs, 3, none⟩ q _ hq).trans (n3 q hq), by rw [← z3]; simp [World.setCell], b4.setCell (p := ⟨gs, 3, none⟩) h1 (.slice none 0 0)⟩
 clear k3 b3 n3 z3 b4
 obtain ⟨V3, vz, hvz, k3, b3, n3, z3, b4⟩ := hcut
 clear w4
 obtain ⟨w4, hwc⟩ : ∃ W, W = wc := ⟨_, rfl⟩
 subst hwc
 have HVZ := hide hvz
 clear hvz
 have J0 : RcJ w4 gs gs w4.heap.size (.int .i64 h.n1) (.slice e1.2.1.a e1.2.1.n e1.2.1.c) (.slice V3.a V3.n V3.c) [] w4 ⟨none, 0, 0⟩ (fun _ => []) :=
  ⟨k3, RowG.nil _ _ _ _ _ _, fun _ _ _ => rfl, Below.refl _ _, Nat.le_refl _, k3.lt, Nat.le_refl _⟩
 have HJ := hide (And.intro J0 (And.intro b3 (And.intro n3 z3)))
 obtain ⟨⟨x0, x1, x2, x3⟩, _⟩ := four_blk ((unhide HKB).below b4 (unhide HKB).lt)
 have HKR4 : Hid (SBlk w4 (w.heap.size + 1) [.int .i64 0, .slice none 0 0, .slice none 0 0, .slice none 0 0] 37) := (unhide HKR).below b4 (unhide HKR).lt
 have y1 : w4.cell? ⟨gh, 1, none⟩ = some (.int .i64 h.n1) := ((unhide HKH).below b3 (unhide HKH).lt).cell 1
 clear J0 b02 k3 b3 n3 z3 b4
 have hlen : sg.n = zss.length := (unhide HOO).1.2.1.len
 have hs7 : zss.length ≤ 7 := (snFlt_sg (unhide HZZ).1).2.2
 obtain ⟨bd, hbd⟩ : ∃ bd, apBound (xn, zss, rs, vs) h.n1 = bd := ⟨_, rfl⟩
 have hw1 : wrap64 (wrap64 ((sg.n : Int) / 2) + 1) = ((zss.length / 2 : Nat) : Int) + 1 := by rw [hlen]; unfold wrap64; omega
 have hw2 : wrap64 (h.n1 - (((zss.length / 2 : Nat) : Int) + 1)) = bd := by rw [← hbd]; unfold apBound wrap64; have := (unhide HZZ).2.2.2.n1; simp only; omega
 obtain ⟨lm, hlm⟩ : ∃ lm, ((zss.length / 2 : Nat) : Int) + 1 = lm := ⟨_, rfl⟩
 rw [hlm] at hw1 hw2
 have hrl : sr.n = rs.length := (unhide HOO).1.2.2.1.len
 have hr7 : rs.length ≤ 7 := (sn_iff.1 (unhide HZZ).1).2.2.2.1
 have HRA := hide hRR
 have HSR := hide hrl
 have HX2 : Hid (∀ W, Below gs w4 W → W.cell? ⟨w.heap.size, 2, none⟩ = some (.slice sr.a sr.n sr.c)) := fun W hW => (hW.cell (p := ⟨w.heap.size, 2, none⟩) (by show w.heap.size < gs; have h1 := unhide HGS; have h3 := (unhide HB1).2.1.size; omega)).trans x2
 have HWB : Hid (∀ W, Below gs w4 W → Below w.heap.size w W) := fun W hW => (unhide HJ).2.1.trans (hW.mono hlo)
 have HY1 : Hid (∀ W, Below gs w4 W → W.cell? ⟨gh, 1, none⟩ = some (.int .i64 h.n1)) := fun W hW => ((unhide HKH).below ((unhide HWB) W hW) (unhide HKH).lt).cell 1
 have HIR := hide (info_parts infoRc)
 have hr10 : sr.n ≤ 7 := by omega
 have hs10 : sg.n ≤ 7 := by omega
 have HBD := hide (And.intro hbd hlm)
 have hl2 : (sg.n : Int) / 2 + 1 = lm := by rw [← hlm, hlen]; omega
 have hsub : h.n1 - lm = bd := by rw [← hbd, ← hlm]; unfold apBound; simp only; omega
 have hnb := (unhide HZZ).2.2.2.n1
 have hlb : 0 ≤ lm ∧ lm ≤ 5 := by omega
 have hg4 : gs < w4.heap.size := (unhide HJ).1.blk.lt
 clear hrl hr7 hs7 hlen hbd hlm hRR hw1 hw2
 go_wp2_with fail
 clear hl2
 go_loopw [9] (fun i wr => ∃ (k : Nat) (s : Sl) (d : Nat → Path), k ≤ sr.n ∧ i = .int .i64 k ∧ RcJ w4 gs gs w4.heap.size (.int .i64 h.n1) (.slice e1.2.1.a e1.2.1.n e1.2.1.c) (.slice V3.a V3.n V3.c) ((rs.take k).filter (fun r => decide (bd < r.1))) wr s d) (fun i _ => sr.n - (intOf i).toNat)
 case atStart => exact ⟨0, _, _, Nat.zero_le _, rfl, by simpa using (unhide HJ).1⟩
 case round =>
  obtain ⟨k, s, d, hk, rfl, I⟩ := hrel
  clear x0 x1 x2 x3 y1
  have x2 := (unhide HX2) wr I.old
  by_cases hlt : k < sr.n
  · obtain ⟨b, off, ea, hb, hc⟩ := (unhide HOO).1.2.2.1.pos (by show 0 < sr.n; omega)
    simp only at ea hc
    obtain ⟨y, hy⟩ : ∃ v, rs[k]? = some v := ⟨_, List.getElem?_eq_getElem (by rw [← unhide HSR]; exact hlt)⟩
    obtain ⟨⟨⟨⟩, t⟩, cc, oo⟩ := hc k y hy
    obtain ⟨q, z⟩ := y
    have c0' := cc 0 _ rfl
    have c1' := cc 1 _ rfl
    simp only [Nat.add_zero, show rcK.m = 2 from rfl] at c0' c1'
    have bw := (unhide HWB) wr I.old
    have n0 := (bw.cell (p := ⟨b, off + k * 2, none⟩) hb).trans c0'
    have y1 := (unhide HY1) wr I.old
    have k1 : (0 : Int) ≤ (k : Int) := by omega
    have k2 : (k : Int) < (sr.n : Int) := by omega
    obtain ⟨sra, srn, src⟩ := sr
    simp only at ea hlt hk k2 x2 hr10
    subst ea
    have HI := hide I
    have HY := hide hy
    by_cases hz : bd < q
    · have HZ := hide hz
      have hq64 := oo.1
      have HOZ := hide oo.2
      have zl : z.length ≤ 1048576 := by have := (unhide HOO).2.1.rz _ (List.mem_of_getElem? hy); exact this
      have tn : t.n ≤ 1048576 := by have h1 : z.length = t.n := oo.2.row.1; omega
      clear zl
      have HC0 : Hid (∀ W, Below w.heap.size w W → W.cell? ⟨b, off + k * 2, none⟩ = some (.int .i64 q) ∧ W.cell? ⟨b, off + k * 2 + 1, none⟩ = some (.slice t.a t.n t.c)) := fun W hbW => ⟨(hbW.cell (p := ⟨b, off + k * 2, none⟩) hb).trans c0', (hbW.cell (p := ⟨b, off + k * 2 + 1, none⟩) hb).trans c1'⟩
      clear I bw hc cc oo hy c0' c1' x2 y1 n0
      have x2 := (unhide HX2) wr (unhide HI).old
      have y1 := (unhide HY1) wr (unhide HI).old
      have n0 := ((unhide HC0) wr ((unhide HWB) wr (unhide HI).old)).1
      go_upto_region 10 with fail
      go_quiet (fail)
      generalize hwr : wr.drewN nq = ws
      have HIs : Hid (RcJ w4 gs gs w4.heap.size (.int .i64 h.n1) (.slice e1.2.1.a e1.2.1.n e1.2.1.c) (.slice V3.a V3.n V3.c) ((rs.take k).filter (fun r => decide (bd < r.1))) ws s d) := by rw [← hwr]; exact (unhide HI).below (below_drewN (Below.refl _ _) _)
      clear hwr HI x2 y1 n0
      obtain ⟨i0, hi, hz0, hz1, hz2⟩ := unhide HIR
      have g2c : ws.cell? ⟨gs, 2, none⟩ = some (.slice s.a s.n s.c) := (unhide HIs).blk.cell 2
      have hsn : s.n ≤ 1048576 := by
       have h1 := (unhide HIs).row.len
       have h2 := List.length_filter_le (fun r : Rc => decide (bd < r.1)) (rs.take k)
       rw [List.length_take] at h2
       omega
      have hB4 : w4.heap.size ≤ ws.heap.size := (unhide HIs).size
      have HCO : Hid (∀ W, Below ws.heap.size ws W → Calls Tryz.prog 59 #[.slice t.a t.n t.c] W fun e w' => ∃ (a1 : Option Addr) (c1 : Nat) (es : List RcS) (WW : World), e = .returned (.slice a1 t.n c1) ∧ w'.cell? ⟨gs, 2, none⟩ = some (.slice s.a s.n s.c) ∧ Below gs w4 w' ∧ w'.ownsRow w4.heap.size 93 2 (.slice s.a s.n s.c) s.n (flatV rcK es ((rs.take k).filter (fun r => decide (bd < r.1)))) ∧ w4.heap.size ≤ w'.heap.size ∧ Hid (RcJ w4 gs gs w4.heap.size (.int .i64 h.n1) (.slice e1.2.1.a e1.2.1.n e1.2.1.c) (.slice V3.a V3.n V3.c) ((rs.take k).filter (fun r => decide (bd < r.1))) WW s d ∧ w'.ownsRow WW.heap.size 5 1 (.slice a1 t.n c1) t.n (z.map (Value.int .u8)) ∧ Below WW.heap.size WW w' ∧ es.length = ((rs.take k).filter (fun r => decide (bd < r.1))).length ∧ ∀ i e x, es[i]? = some e → ((rs.take k).filter (fun r => decide (bd < r.1)))[i]? = some x → rcK.Own WW w4.heap.size d ([] ++ [i]) e x)) := fun W hbW => by
       have IW := (unhide HIs).below hbW
       have oW := bytesK.below (unhide HOZ) ((unhide HWB) W IW.old) (Nat.le_refl _)
       refine (copy_any t.a t.n t.c z W oW.row oW.nil (by omega)).mono ?_
       rintro e w' ⟨a1, c1, rfl, ho, hb'⟩
       have I' := IW.below hb'
       obtain ⟨es', e2', e3', e4', e5'⟩ := IW.row.all
       exact ⟨a1, c1, es', W, rfl, I'.blk.cell 2, I'.old, own_below e3' hb' (Nat.le_refl _), I'.size, ⟨IW, ho, hb', e2', e5'⟩⟩
      have HZR : Hid (∀ y ∈ z, 0 ≤ y ∧ y ≤ 255) := (unhide HOZ).row.2.1
      have HST := hide (fun (W1 WW WA W2 : World) (a1 : Option Addr) (c1 g2 cap2 : Nat) (es : List RcS) (I1 : RcJ w4 gs gs w4.heap.size (.int .i64 h.n1) (.slice e1.2.1.a e1.2.1.n e1.2.1.c) (.slice V3.a V3.n V3.c) ((rs.take k).filter (fun r => decide (bd < r.1))) WW s d) (ho : W1.ownsRow WW.heap.size 5 1 (.slice a1 t.n c1) t.n (z.map (Value.int .u8))) (hbW : Below WW.heap.size WW W1) (e2) (e5) (bA : Below W1.heap.size W1 WA) (hown) (hg) (hat) => RcJ.step (W1 := W1) (WA := WA) (W2 := W2) (g2 := g2) (cap2 := cap2) (es := es) I1 hq64 (unhide HZR) ho hbW bA e2 e5 hown hg hat)
      have HSS : Hid (∀ W, Below gs w4 W → (fun W => W.cell? ⟨w.heap.size, 2, none⟩ = some (.slice (some ⟨b, off, none⟩) srn src) ∧ W.cell? ⟨b, off + k * 2, none⟩ = some (.int .i64 q) ∧ W.cell? ⟨b, off + k * 2 + 1, none⟩ = some (.slice t.a t.n t.c)) W) := fun W hbW => ⟨(unhide HX2) W hbW, (unhide HC0) W ((unhide HWB) W hbW)⟩
      have HO1 := hide (unhide HIs).old
      go_upto_region 11 with fail
      refine wp_region_held_drew (S := (fun W => W.cell? ⟨w.heap.size, 2, none⟩ = some (.slice (some ⟨b, off, none⟩) srn src) ∧ W.cell? ⟨b, off + k * 2, none⟩ = some (.int .i64 q) ∧ W.cell? ⟨b, off + k * 2 + 1, none⟩ = some (.slice t.a t.n t.c))) (by kernel_rfl) ((unhide HSS) _ ((unhide HO1).drew)) (fun hHeld => ?_)
      refine tkA 0 ?_
      try dsimp only
      refine tkA 2 ?_
      try dsimp only
      refine tkA 3 ?_
      try dsimp only
      refine tkA 4 ?_
      try dsimp only
      refine tkA 5 ?_
      try dsimp only
      refine tkA 6 ?_
      try dsimp only
      refine tkA 7 ?_
      try dsimp only
      refine tkA 8 ?_
      try dsimp only
      refine tkA 9 ?_
      try dsimp only
      refine tkA 10 ?_
      try dsimp only
      refine tkA 11 ?_
      try dsimp only
      refine tkA 12 ?_
      try dsimp only
      refine tkA 13 ?_
      try dsimp only
      refine wpAnyH_ready (rs := [1, 14]) (by kernel_rfl) (by simp) ?_
      refine AllReadyH.cons (o := _) rfl (fun K hK => ?_) ?_
      · skip
        go_simp
        refine hK.out _ _ (hHeld) (fun hHeld => ?_)
        clear hK K
        try dsimp only
        refine rdA 14 (fun K hK => ?_)
        go_simp
        go_at_call 59
        refine ((unhide HCO) _ (by first | exact (Below.refl ws.heap.size ws).drew | exact below_drewN (Below.refl ws.heap.size ws) _)).mono ?_
        rintro e W1 ⟨a1, c1, es, WW, rfl, m2, o1, q3, zW, HQ⟩
        have m2a : ∀ o, (W1.alloc o).cell? ⟨gs, 2, none⟩ = some (.slice s.a s.n s.c) := fun o => ((below_alloc W1 o).cell (lt_of_cell m2)).trans m2
        (try dsimp only)
        refine hK.out _ _ ((unhide HSS) _ o1) (fun hHeld => ?_)
        clear hK K
        try dsimp only
        refine tkA 15 ?_
        try dsimp only
        refine rdA 16 (fun K hK => ?_)
        go_simp
        refine hK.out _ _ ((unhide HSS) _ (o1.alloc (by have := lt_of_cell m2; simp only at this; omega) _)) (fun hHeld => ?_)
        clear hK K
        try dsimp only
        refine rdA 17 (fun K hK => ?_)
        refine step_append_lies _ (by rfl) (.tmp 53) (.tmp 68) 34 (by rfl) w4.heap.size 93 i0 (.agg #[.int .i64 0, .slice none 0 0]) 2 32 Tryz.underlying34 hi hz0 hz1 hz2 rfl (by decide) _ _ _ (by rfl) (by exact q3.alloc _) ⟨W1.heap.size, 0, none⟩ 1 1 [.int .i64 q, .slice a1 t.n c1] (by rfl) rfl (by exact two_at _ _ _ _) (by simp [Value.oneCell']) (by omega) (by unfold maxLen; omega) (by omega) (by simp; omega) _ rfl ?_
        intro g2 cap2 W2 hown2 hgrow2 hat2 hlt2
        obtain ⟨⟨u10, hu10⟩, hf10, o2, d2, I2⟩ := (unhide HST) W1 WW _ W2 a1 c1 g2 cap2 es (unhide HQ).1 (unhide HQ).2.1 (unhide HQ).2.2.1 (unhide HQ).2.2.2.1 (unhide HQ).2.2.2.2 (below_alloc W1 _) hown2 hgrow2 hat2
        have o3 := I2.old
        have HI2 := hide I2
        clear I2 hown2 hgrow2 hat2 hlt2
        refine hK.out _ _ ((unhide HSS) _ o2) (fun hHeld => ?_)
        clear hK K
        try dsimp only
        refine tkA 18 ?_
        try dsimp only
        refine rdA 19 (fun K hK => ?_)
        go_simp
        refine hK.out _ _ ((unhide HSS) _ o3) (fun hHeld => ?_)
        clear hK K
        try dsimp only
        refine wpAnyH_done (by kernel_rfl) ?_ _
        clear HQ q3 m2 m2a hu10 hf10 HCO HST hHeld
        go_wp2_with fail
        go_roundw
        case rel => exact ⟨k + 1, _, d2, (by show k + 1 ≤ srn; omega), by go_num, by rw [flt_yes (unhide HY) (unhide HZ)]; exact unhide HI2⟩
        case measure => simp [intOf]; omega
      refine AllReadyH.cons (o := _) rfl (fun K hK => ?_) AllReadyH.nil
      go_simp
      go_at_call 59
      refine ((unhide HCO) _ (by first | exact (Below.refl ws.heap.size ws).drew | exact below_drewN (Below.refl ws.heap.size ws) _)).mono ?_
      rintro e W1 ⟨a1, c1, es, WW, rfl, m2, o1, q3, zW, HQ⟩
      have m2a : ∀ o, (W1.alloc o).cell? ⟨gs, 2, none⟩ = some (.slice s.a s.n s.c) := fun o => ((below_alloc W1 o).cell (lt_of_cell m2)).trans m2
      (try dsimp only)
      refine hK.out _ _ ((unhide HSS) _ o1) (fun hHeld => ?_)
      clear hK K
      try dsimp only
      refine tkA 15 ?_
      try dsimp only
      refine wpAnyH_ready (rs := [1, 16]) (by kernel_rfl) (by simp) ?_
      refine AllReadyH.cons (o := _) rfl (fun K hK => ?_) ?_
      · skip
        go_simp
        refine hK.out _ _ (hHeld) (fun hHeld => ?_)
        clear hK K
        try dsimp only
        refine rdA 16 (fun K hK => ?_)
        go_simp
        refine hK.out _ _ ((unhide HSS) _ (o1.alloc (by have := lt_of_cell m2; simp only at this; omega) _)) (fun hHeld => ?_)
        clear hK K
        try dsimp only
        refine rdA 17 (fun K hK => ?_)
        refine step_append_lies _ (by rfl) (.tmp 53) (.tmp 68) 34 (by rfl) w4.heap.size 93 i0 (.agg #[.int .i64 0, .slice none 0 0]) 2 32 Tryz.underlying34 hi hz0 hz1 hz2 rfl (by decide) _ _ _ (by rfl) (by exact q3.alloc _) ⟨W1.heap.size, 0, none⟩ 1 1 [.int .i64 q, .slice a1 t.n c1] (by rfl) rfl (by exact two_at _ _ _ _) (by simp [Value.oneCell']) (by omega) (by unfold maxLen; omega) (by omega) (by simp; omega) _ rfl ?_
        intro g2 cap2 W2 hown2 hgrow2 hat2 hlt2
        obtain ⟨⟨u10, hu10⟩, hf10, o2, d2, I2⟩ := (unhide HST) W1 WW _ W2 a1 c1 g2 cap2 es (unhide HQ).1 (unhide HQ).2.1 (unhide HQ).2.2.1 (unhide HQ).2.2.2.1 (unhide HQ).2.2.2.2 (below_alloc W1 _) hown2 hgrow2 hat2
        have o3 := I2.old
        have HI2 := hide I2
        clear I2 hown2 hgrow2 hat2 hlt2
        refine hK.out _ _ ((unhide HSS) _ o2) (fun hHeld => ?_)
        clear hK K
        try dsimp only
        refine tkA 18 ?_
        try dsimp only
        refine rdA 19 (fun K hK => ?_)
        go_simp
        refine hK.out _ _ ((unhide HSS) _ o3) (fun hHeld => ?_)
        clear hK K
        try dsimp only
        refine wpAnyH_done (by kernel_rfl) ?_ _
        clear HQ q3 m2 m2a hu10 hf10 HCO HST hHeld
        go_wp2_with fail
        go_roundw
        case rel => exact ⟨k + 1, _, d2, (by show k + 1 ≤ srn; omega), by go_num, by rw [flt_yes (unhide HY) (unhide HZ)]; exact unhide HI2⟩
        case measure => simp [intOf]; omega
      refine AllReadyH.cons (o := _) rfl (fun K hK => ?_) AllReadyH.nil
      go_simp
      refine hK.out _ _ ((unhide HSS) _ (o1.alloc (by have := lt_of_cell m2; simp only at this; omega) _)) (fun hHeld => ?_)
      clear hK K
      try dsimp only
      refine rdA 1 (fun K hK => ?_)
      go_simp
      refine hK.out _ _ (hHeld) (fun hHeld => ?_)
      clear hK K
      try dsimp only
      refine rdA 17 (fun K hK => ?_)
      refine step_append_lies _ (by rfl) (.tmp 53) (.tmp 68) 34 (by rfl) w4.heap.size 93 i0 (.agg #[.int .i64 0, .slice none 0 0]) 2 32 Tryz.underlying34 hi hz0 hz1 hz2 rfl (by decide) _ _ _ (by rfl) (by exact q3.alloc _) ⟨W1.heap.size, 0, none⟩ 1 1 [.int .i64 q, .slice a1 t.n c1] (by rfl) rfl (by exact two_at _ _ _ _) (by simp [Value.oneCell']) (by omega) (by unfold maxLen; omega) (by omega) (by simp; omega) _ rfl ?_
      intro g2 cap2 W2 hown2 hgrow2 hat2 hlt2
      obtain ⟨⟨u10, hu10⟩, hf10, o2, d2, I2⟩ := (unhide HST) W1 WW _ W2 a1 c1 g2 cap2 es (unhide HQ).1 (unhide HQ).2.1 (unhide HQ).2.2.1 (unhide HQ).2.2.2.1 (unhide HQ).2.2.2.2 (below_alloc W1 _) hown2 hgrow2 hat2
      have o3 := I2.old
      have HI2 := hide I2
      clear I2 hown2 hgrow2 hat2 hlt2
      refine hK.out _ _ ((unhide HSS) _ o2) (fun hHeld => ?_)
      clear hK K
      try dsimp only
      refine tkA 18 ?_
      try dsimp only
      refine rdA 19 (fun K hK => ?_)
      go_simp
      refine hK.out _ _ ((unhide HSS) _ o3) (fun hHeld => ?_)
      clear hK K
      try dsimp only
      refine wpAnyH_done (by kernel_rfl) ?_ _
      clear HQ q3 m2 m2a hu10 hf10 HCO HST hHeld
      go_wp2_with fail
      go_roundw
      case rel => exact ⟨k + 1, _, d2, (by show k + 1 ≤ srn; omega), by go_num, by rw [flt_yes (unhide HY) (unhide HZ)]; exact unhide HI2⟩
      case measure => simp [intOf]; omega
    · have HZ := hide hz
      clear I bw hc cc oo hy c0' c1'
      go_upto_region 10 with fail
      go_quiet (fail)
      go_wp2_with fail
      go_roundw
      case rel => exact ⟨k + 1, _, _, (by show k + 1 ≤ srn; omega), by go_num, by rw [flt_no (unhide HY) (unhide HZ)]; exact (unhide HI).below (below_drewN (Below.refl _ _) _)⟩
      case measure => simp [intOf]; omega
  · obtain rfl : k = sr.n := by omega
    have hfl : (rs.take sr.n).filter (fun r => decide (bd < r.1)) = rs.filter (fun r => decide (bd < r.1)) := by rw [unhide HSR, List.take_length]
    rw [hfl] at I
    have HI := hide I
    have hsn : s.n ≤ 7 := by
     have h1 := I.row.len
     have h2 := List.length_filter_le (fun r : Rc => decide (bd < r.1)) rs
     have h3 := unhide HSR
     omega
    clear hfl I hlt hk
    obtain ⟨i0, hi, hz0, hz1, hz2⟩ := unhide HIR
    have g2c : wr.cell? ⟨gs, 2, none⟩ = some (.slice s.a s.n s.c) := (unhide HI).blk.cell 2
    have hB4 : w4.heap.size ≤ wr.heap.size := (unhide HI).size
    have hgn : nx.g.n ≤ 1048576 := by have h1 : h.g.length = nx.g.n := (unhide HOO).2.2.1.row.1; have h2 := (unhide HZZ).2.2.2.g; omega
    have HCO : Hid (∀ W, Below wr.heap.size wr W → Calls Tryz.prog 59 #[.slice nx.g.a nx.g.n nx.g.c] W fun e w' => ∃ (a1 : Option Addr) (c1 : Nat) (es : List RcS) (WW : World), e = .returned (.slice a1 nx.g.n c1) ∧ w'.cell? ⟨gs, 2, none⟩ = some (.slice s.a s.n s.c) ∧ Below gs w4 w' ∧ w'.ownsRow w4.heap.size 93 2 (.slice s.a s.n s.c) s.n (flatV rcK es (rs.filter (fun r => decide (bd < r.1)))) ∧ w4.heap.size ≤ w'.heap.size ∧ Hid (RcJ w4 gs gs w4.heap.size (.int .i64 h.n1) (.slice e1.2.1.a e1.2.1.n e1.2.1.c) (.slice V3.a V3.n V3.c) (rs.filter (fun r => decide (bd < r.1))) WW s d ∧ w'.ownsRow WW.heap.size 5 1 (.slice a1 nx.g.n c1) nx.g.n (h.g.map (Value.int .u8)) ∧ Below WW.heap.size WW w' ∧ es.length = (rs.filter (fun r => decide (bd < r.1))).length ∧ ∀ i e x, es[i]? = some e → (rs.filter (fun r => decide (bd < r.1)))[i]? = some x → rcK.Own WW w4.heap.size d ([] ++ [i]) e x)) := fun W hbW => by
     have IW := (unhide HI).below hbW
     have oW := bytesK.below (unhide HOO).2.2.1 ((unhide HWB) W IW.old) (Nat.le_refl _)
     refine (copy_any nx.g.a nx.g.n nx.g.c h.g W oW.row oW.nil (by omega)).mono ?_
     rintro e w' ⟨a1, c1, rfl, ho, hb'⟩
     have I' := IW.below hb'
     obtain ⟨es', e2', e3', e4', e5'⟩ := IW.row.all
     exact ⟨a1, c1, es', W, rfl, I'.blk.cell 2, I'.old, own_below e3' hb' (Nat.le_refl _), I'.size, ⟨IW, ho, hb', e2', e5'⟩⟩
    have HZR : Hid (∀ y ∈ h.g, 0 ≤ y ∧ y ≤ 255) := (unhide HOO).2.2.1.row.2.1
    have hq64 : in64 h.n1 := by unfold in64; omega
    have HST := hide (fun (W1 WW WA W2 : World) (a1 : Option Addr) (c1 g2 cap2 : Nat) (es : List RcS) (I1 : RcJ w4 gs gs w4.heap.size (.int .i64 h.n1) (.slice e1.2.1.a e1.2.1.n e1.2.1.c) (.slice V3.a V3.n V3.c) (rs.filter (fun r => decide (bd < r.1))) WW s d) (ho : W1.ownsRow WW.heap.size 5 1 (.slice a1 nx.g.n c1) nx.g.n (h.g.map (Value.int .u8))) (hbW : Below WW.heap.size WW W1) (e2) (e5) (bA : Below W1.heap.size W1 WA) (hown) (hg) (hat) => RcJ.step (W1 := W1) (WA := WA) (W2 := W2) (g2 := g2) (cap2 := cap2) (es := es) I1 hq64 (unhide HZR) ho hbW bA e2 e5 hown hg hat)
    have HSS : Hid (∀ W, Below gs w4 W → (fun W => W.cell? ⟨gh, 1, none⟩ = some (.int .i64 h.n1) ∧ W.cell? ⟨gh, 8, none⟩ = some (.slice nx.g.a nx.g.n nx.g.c)) W) := fun W hbW => by
     have kk := (unhide HKH).below ((unhide HWB) W hbW) (unhide HKH).lt
     exact ⟨kk.cell 1, kk.cell 8⟩
    have HO1 := hide (unhide HI).old
    have HKP : Hid (∀ W : World, (∀ q, q < w4.heap.size → q ≠ gs → W.heap[q]? = w4.heap[q]?) → ∀ q, W0.heap.size ≤ q → q < gs → W.heap[q]? = w1.heap[q]?) := fun W hW q h1 h2 => by
     have hg := unhide HGS
     rw [hW q (by omega) (by omega), (unhide HJ).2.2.1 q (by omega), (unhide HB1).2.2.1.block q (by omega)]
    have HEK : Hid (∀ (W : World) (s : Sl) (d : Nat → Path), RowG rcK 93 W w4.heap.size d [] s ((rs.filter (fun r => decide (bd < r.1))) ++ [(h.n1, h.g)]) → (∀ q, W0.heap.size ≤ q → q < gs → W.heap[q]? = w1.heap[q]?) → SNK.Ok W ((), e1.2.1, s, V3) (h.n1, zss, (rs.filter (fun r => decide (bd < r.1))) ++ [(h.n1, h.g)], vz)) := fun W s d G hW => by
     obtain ⟨q1, q2, q3, q4⟩ := (unhide HB1).1 W (fun g h1 h2 => hW g (by omega) (by have := unhide HGS; omega))
     exact ⟨(show in64 h.n1 by unfold in64; omega), q2, G.own.ok, (unhide HVZ).2 W q4⟩
    have hY : apPass c (xn, zss, rs, vs) h = (h.n1, zss, (rs.filter (fun r => decide (bd < r.1))) ++ [(h.n1, h.g)], vz) := by
     unfold apPass apRc
     rw [(unhide HBD).1, (unhide HVZ).1]
    have HRY : Hid (R = if h.t.length = 0 then (h.n1, zss, (rs.filter (fun r => decide (bd < r.1))) ++ [(h.n1, h.g)], vz) else if ctCode (h.n1, zss, (rs.filter (fun r => decide (bd < r.1))) ++ [(h.n1, h.g)], vz) h.g h.t (h.n5 == 1) = 0 then ctSn (h.n1, zss, (rs.filter (fun r => decide (bd < r.1))) ++ [(h.n1, h.g)], vz) h.g h.t (h.n5 == 1) else (h.n1, zss, (rs.filter (fun r => decide (bd < r.1))) ++ [(h.n1, h.g)], vz)) := by
     have q := unhide HRA
     unfold apSn at q
     rw [hY] at q
     exact q.symm
    have HYO : Hid (snFlt (h.n1, zss, (rs.filter (fun r => decide (bd < r.1))) ++ [(h.n1, h.g)], vz) = 0) := by
     have q := ap_ok (c := c) (x := (xn, zss, rs, vs)) (h := h) (unhide HZZ).1 (unhide HZZ).2.1 hnb (unhide HZZ).2.2.1
     rw [hY] at q
     exact q
    have hzs : 0 < zss.length ∧ zss.length ≤ 7 := (snFlt_sg (unhide HZZ).1).2
    have HZS := hide hzs
    clear hY hzs
    clear hq64
    go_upto_region 12 with fail
    clear x2
    refine wp_region_held_drew (S := (fun W => W.cell? ⟨gh, 1, none⟩ = some (.int .i64 h.n1) ∧ W.cell? ⟨gh, 8, none⟩ = some (.slice nx.g.a nx.g.n nx.g.c))) (by kernel_rfl) ((unhide HSS) _ ((unhide HO1).drew)) (fun hHeld => ?_)
    refine tkA 0 ?_
    try dsimp only
    refine tkA 2 ?_
    try dsimp only
    refine tkA 3 ?_
    try dsimp only
    refine tkA 4 ?_
    try dsimp only
    refine tkA 5 ?_
    try dsimp only
    refine tkA 6 ?_
    try dsimp only
    refine tkA 7 ?_
    try dsimp only
    refine tkA 8 ?_
    try dsimp only
    refine tkA 9 ?_
    try dsimp only
    refine wpAnyH_ready (rs := [1, 10]) (by kernel_rfl) (by simp) ?_
    refine AllReadyH.cons (o := _) rfl (fun K hK => ?_) ?_
    · skip
      go_simp
      refine hK.out _ _ (hHeld) (fun hHeld => ?_)
      clear hK K
      try dsimp only
      refine rdA 10 (fun K hK => ?_)
      go_simp
      go_at_call 59
      refine ((unhide HCO) _ (by first | exact (Below.refl wr.heap.size wr).drew | exact below_drewN (Below.refl wr.heap.size wr) _)).mono ?_
      rintro e W1 ⟨a1, c1, es, WW, rfl, m2, o1, q3, zW, HQ⟩
      have m2a : ∀ o, (W1.alloc o).cell? ⟨gs, 2, none⟩ = some (.slice s.a s.n s.c) := fun o => ((below_alloc W1 o).cell (lt_of_cell m2)).trans m2
      (try dsimp only)
      refine hK.out _ _ ((unhide HSS) _ o1) (fun hHeld => ?_)
      clear hK K
      try dsimp only
      refine tkA 11 ?_
      try dsimp only
      refine rdA 12 (fun K hK => ?_)
      go_simp
      refine hK.out _ _ ((unhide HSS) _ (o1.alloc (by have := lt_of_cell m2; simp only at this; omega) _)) (fun hHeld => ?_)
      clear hK K
      try dsimp only
      refine rdA 13 (fun K hK => ?_)
      refine step_append_lies _ (by rfl) (.tmp 72) (.tmp 83) 34 (by rfl) w4.heap.size 93 i0 (.agg #[.int .i64 0, .slice none 0 0]) 2 32 Tryz.underlying34 hi hz0 hz1 hz2 rfl (by decide) _ _ _ (by rfl) (by exact q3.alloc _) ⟨W1.heap.size, 0, none⟩ 1 1 [.int .i64 h.n1, .slice a1 nx.g.n c1] (by rfl) rfl (by exact two_at _ _ _ _) (by simp [Value.oneCell']) (by omega) (by unfold maxLen; omega) (by omega) (by simp; omega) _ rfl ?_
      intro g2 cap2 W2 hown2 hgrow2 hat2 hlt2
      obtain ⟨⟨u10, hu10⟩, hf10, o2, d2, I2⟩ := (unhide HST) W1 WW _ W2 a1 c1 g2 cap2 es (unhide HQ).1 (unhide HQ).2.1 (unhide HQ).2.2.1 (unhide HQ).2.2.2.1 (unhide HQ).2.2.2.2 (below_alloc W1 _) hown2 hgrow2 hat2
      have o3 := I2.old
      have HI2 := hide I2
      clear I2 hown2 hgrow2 hat2 hlt2
      refine hK.out _ _ ((unhide HSS) _ o2) (fun hHeld => ?_)
      clear hK K
      try dsimp only
      refine tkA 14 ?_
      try dsimp only
      refine rdA 15 (fun K hK => ?_)
      go_simp
      refine hK.out _ _ ((unhide HSS) _ o3) (fun hHeld => ?_)
      clear hK K
      try dsimp only
      refine wpAnyH_done (by kernel_rfl) ?_ _
      clear HQ q3 m2 m2a hu10 hf10 HCO HST hHeld
      have I2 := unhide HI2
      obtain ⟨W12, e12⟩ : ∃ W, W2.setCell ⟨gs, 2, none⟩ (.slice (some ⟨g2, 0, none⟩) (s.n + 1) cap2) = W := ⟨_, rfl⟩
      rw [e12] at I2 o3 ⊢
      clear e12 HI2 o1 o2 zW
      have b12 := (unhide HWB) W12 o3
      have kr12 : SBlk W12 (w.heap.size + 1) [.int .i64 0, .slice none 0 0, .slice none 0 0, .slice none 0 0] 37 := by
       exact (unhide HKR4).below o3 (by have := unhide HGS; have h3 := (unhide HB1).2.1.size; omega)
      obtain ⟨_, y1, _, _, y4, y5, _, _, y8, _, _⟩ := hcells ((unhide HKH).below b12 (unhide HKH).lt)
      obtain ⟨⟨v0, v1, v2, v3⟩, _, _, _, _⟩ := four_blk I2.blk
      obtain ⟨⟨r0, r1, r2, r3⟩, f0, f1, f2, f3⟩ := four_blk kr12
      have G12 := I2.row
      have K12 := (unhide HKP) W12 I2.keep
      have htl : nx.t.n = h.t.length := (unhide HOO).2.2.2.row.1.symm
      have HT12 := hide (And.intro kr12 (And.intro G12 (And.intro K12 (And.intro b12 I2.size))))
      by_cases ht : h.t.length = 0
      · have hR := (unhide HRY).trans (if_pos ht)
        subst hR
        have hn0 : nx.t.n = 0 := by omega
        clear G12 K12 kr12 b12 I2 o3 htl ht
        go_wp2_with fail
        obtain ⟨k9, n9, b9⟩ := ret4 (unhide HT12).1 (.int .i64 h.n1) (.slice e1.2.1.a e1.2.1.n e1.2.1.c) (.slice (some ⟨g2, 0, none⟩) (s.n + 1) cap2) (.slice V3.a V3.n V3.c)
        obtain ⟨kr12, G12, K12, b12, s12⟩ := unhide HT12
        have hgs := unhide HGS
        have hb1 := (unhide HB1).2.1.size
        refine bodyPost_ret (results_cell_row rfl _ _ (w.heap.size + 1) 37 _ (0, 0) _ rfl k9 Tryz.underlying37 rfl (by kernel_rfl)) rfl ⟨(), e1.2.1, ⟨some ⟨g2, 0, none⟩, s.n + 1, cap2⟩, V3, rfl, fun W' hW' => (unhide HEK) W' _ d2 (G12.frame (fun q a hB _ => (hW' q (by omega) (lt_of_same (n9 q (by omega)) a)).trans (n9 q (by omega)))) (fun q h1 h2 => (hW' q (by omega) (lt_of_same (n9 q (by omega)) (by omega))).trans ((n9 q (by omega)).trans (K12 q h1 h2))), b9 _ _ (by omega) b12⟩
      have hn0 : ¬ nx.t.n = 0 := by omega
      have hR := (unhide HRY).trans (if_neg ht)
      have hPO := unhide HYO
      have O12 := (unhide HEK) _ _ d2 G12 K12
      have HS15 : Hid (∀ W, Below W12.heap.size W12 W → (fun W => W.cell? ⟨gs, 0, none⟩ = some (.int .i64 h.n1) ∧ W.cell? ⟨gs, 1, none⟩ = some (.slice e1.2.1.a e1.2.1.n e1.2.1.c) ∧ W.cell? ⟨gs, 2, none⟩ = some (.slice (some ⟨g2, 0, none⟩) (s.n + 1) cap2) ∧ W.cell? ⟨gs, 3, none⟩ = some (.slice V3.a V3.n V3.c) ∧ W.cell? ⟨gh, 8, none⟩ = some (.slice nx.g.a nx.g.n nx.g.c) ∧ W.cell? ⟨gh, 4, none⟩ = some (.slice nx.t.a nx.t.n nx.t.c) ∧ W.cell? ⟨gh, 5, none⟩ = some (.int .i64 h.n5)) W) := fun W hb => ⟨(hb.cell (p := ⟨gs, 0, none⟩) (lt_of_cell v0)).trans v0, (hb.cell (p := ⟨gs, 1, none⟩) (lt_of_cell v1)).trans v1, (hb.cell (p := ⟨gs, 2, none⟩) (lt_of_cell v2)).trans v2, (hb.cell (p := ⟨gs, 3, none⟩) (lt_of_cell v3)).trans v3, (hb.cell (p := ⟨gh, 8, none⟩) (lt_of_cell y8)).trans y8, (hb.cell (p := ⟨gh, 4, none⟩) (lt_of_cell y4)).trans y4, (hb.cell (p := ⟨gh, 5, none⟩) (lt_of_cell y5)).trans y5⟩
      have HLC : ∀ W, Below W12.heap.size W12 W → Calls Tryz.prog 60 #[.agg (snvals ((), e1.2.1, ⟨some ⟨g2, 0, none⟩, s.n + 1, cap2⟩, V3) (h.n1, zss, (rs.filter (fun r => decide (bd < r.1))) ++ [(h.n1, h.g)], vz)), .slice nx.g.a nx.g.n nx.g.c, .slice nx.t.a nx.t.n nx.t.c, .bool (h.n5 == 1)] W fun r w' => ∃ e' : SnS, r = .returned (.tuple #[.agg (snvals e' (ctSn (h.n1, zss, (rs.filter (fun r => decide (bd < r.1))) ++ [(h.n1, h.g)], vz) h.g h.t (h.n5 == 1))), .int .i64 (ctCode (h.n1, zss, (rs.filter (fun r => decide (bd < r.1))) ++ [(h.n1, h.g)], vz) h.g h.t (h.n5 == 1))]) ∧ (∀ W' : World, Std W.heap.size w' W' → SNK.Ok W' ((), e1.2.1, ⟨some ⟨g2, 0, none⟩, s.n + 1, cap2⟩, V3) (h.n1, zss, (rs.filter (fun r => decide (bd < r.1))) ++ [(h.n1, h.g)], vz) → SNK.Ok W' e' (ctSn (h.n1, zss, (rs.filter (fun r => decide (bd < r.1))) ++ [(h.n1, h.g)], vz) h.g h.t (h.n5 == 1))) ∧ Below W.heap.size W w' ∧ Below W12.heap.size W12 w' ∧ (SBlk W W12.heap.size [.int .i64 0, .slice none 0 0, .slice none 0 0, .slice none 0 0] 37 → SBlk w' W12.heap.size [.int .i64 0, .slice none 0 0, .slice none 0 0, .slice none 0 0] 37) := fun W hb => by
       refine (l7Cast_any ((), e1.2.1, ⟨some ⟨g2, 0, none⟩, s.n + 1, cap2⟩, V3) (h.n1, zss, (rs.filter (fun r => decide (bd < r.1))) ++ [(h.n1, h.g)], vz) nx.g nx.t h.g h.t (h.n5 == 1) W (SNK.below O12 hb (Nat.le_refl _)) (snT_flt hPO).sm (bytesK.below (unhide HOO).2.2.1 (b12.trans (hb.mono b12.size)) (Nat.le_refl _)) (bytesK.below (unhide HOO).2.2.2 (b12.trans (hb.mono b12.size)) (Nat.le_refl _)) (by have := (unhide HZZ).2.2.2.g; omega) (by have := (unhide HZZ).2.2.2.t; omega) (unhide HZS).1 (by have := (unhide HZS).2; show zss.length ≤ 100000; omega)).mono ?_
       rintro r w' ⟨e', h1, h2, h3⟩
       exact ⟨e', h1, h2, h3, hb.trans (h3.mono hb.size), fun k => k.below h3 k.lt⟩
      generalize ctCode (h.n1, zss, (rs.filter (fun r => decide (bd < r.1))) ++ [(h.n1, h.g)], vz) h.g h.t (h.n5 == 1) = CC at HLC hR
      generalize ctSn (h.n1, zss, (rs.filter (fun r => decide (bd < r.1))) ++ [(h.n1, h.g)], vz) h.g h.t (h.n5 == 1) = CS at HLC hR
      unfold snvals at HLC
      dsimp only at HLC
      replace HLC := hide HLC
      have HO12 := hide O12
      have HRC := hide hR
      clear hR hPO O12 G12 K12 kr12 b12 I2 o3 htl ht
      go_upto_region 15 with fail
      clear v0 v1 v2 v3 y4 y5 y8 y1
      refine wp_region_held_drew (S := (fun W => W.cell? ⟨gs, 0, none⟩ = some (.int .i64 h.n1) ∧ W.cell? ⟨gs, 1, none⟩ = some (.slice e1.2.1.a e1.2.1.n e1.2.1.c) ∧ W.cell? ⟨gs, 2, none⟩ = some (.slice (some ⟨g2, 0, none⟩) (s.n + 1) cap2) ∧ W.cell? ⟨gs, 3, none⟩ = some (.slice V3.a V3.n V3.c) ∧ W.cell? ⟨gh, 8, none⟩ = some (.slice nx.g.a nx.g.n nx.g.c) ∧ W.cell? ⟨gh, 4, none⟩ = some (.slice nx.t.a nx.t.n nx.t.c) ∧ W.cell? ⟨gh, 5, none⟩ = some (.int .i64 h.n5))) (by kernel_rfl) ((unhide HS15) _ ((Below.refl W12.heap.size W12).drew)) (fun hHeld => ?_)
      refine tkA 0 ?_
      try dsimp only
      refine tkA 1 ?_
      try dsimp only
      refine tkA 2 ?_
      try dsimp only
      refine tkA 3 ?_
      try dsimp only
      refine tkA 4 ?_
      try dsimp only
      refine tkA 5 ?_
      try dsimp only
      refine tkA 6 ?_
      try dsimp only
      refine tkA 7 ?_
      try dsimp only
      refine tkA 8 ?_
      try dsimp only
      refine tkA 9 ?_
      try dsimp only
      refine tkA 10 ?_
      try dsimp only
      refine tkA 11 ?_
      try dsimp only
      refine tkA 12 ?_
      try dsimp only
      refine tkA 13 ?_
      try dsimp only
      refine wpAnyH_ready (rs := [14, 18]) (by kernel_rfl) (by simp) ?_
      refine AllReadyH.cons (o := _) rfl (fun K hK => ?_) ?_
      · skip
        go_simp
        go_at_call 60
        refine ((unhide HLC) _ (by first | exact (Below.refl W12.heap.size W12).drew | exact below_drewN (Below.refl W12.heap.size W12) _ | exact ((Below.refl W12.heap.size W12).alloc (Nat.le_refl _) _).drew | exact ((Below.refl W12.heap.size W12).drew.alloc (Nat.le_refl _) _) | exact below_drewN ((Below.refl W12.heap.size W12).alloc (Nat.le_refl _) _) _)).mono ?_
        rintro r w13 ⟨e13, rfl, hs13, b13, o13, hkz⟩
        try (have kz := hkz (SBlk.new W12 #[.int .i64 0, .slice none 0 0, .slice none 0 0, .slice none 0 0] 37); obtain ⟨⟨q0, q1, q2, q3⟩, p0, p1, p2, p3⟩ := four_blk kz)
        (try dsimp only)
        refine hK.out _ _ ((unhide HS15) _ o13) (fun hHeld => ?_)
        clear hK K
        try dsimp only
        refine tkA 15 ?_
        try dsimp only
        refine tkA 16 ?_
        try dsimp only
        refine tkA 17 ?_
        try dsimp only
        refine rdA 18 (fun K hK => ?_)
        go_simp
        refine hK.out _ _ ((unhide HS15) _ (by first | exact o13.alloc o13.size _ | exact ((Below.refl W12.heap.size W12).drew.alloc (Nat.le_refl _) _) | exact ((Below.refl W12.heap.size W12).alloc (Nat.le_refl _) _).drew | exact below_drewN ((Below.refl W12.heap.size W12).alloc (Nat.le_refl _) _) _)) (fun hHeld => ?_)
        clear hK K
        try dsimp only
        refine rdA 19 (fun K hK => ?_)
        go_simp
        refine hK.out _ _ ((unhide HS15) _ (by first | exact o13.alloc o13.size _ | ((repeat (refine Below.setCell ?_ (by first | exact Nat.le_refl _ | exact o13.size) _)) <;> first | assumption | exact o13.alloc o13.size _))) (fun hHeld => ?_)
        clear hK K
        try dsimp only
        refine tkA 20 ?_
        try dsimp only
        refine wpAnyH_done (by kernel_rfl) ?_ _
        clear hHeld HLC
        first
         | (have nx := nx_early (e := e13) (x := CS) o13 kz
            clear q0 q1 q2 q3 p0 p1 p2 p3 kz
            obtain ⟨W14, e14⟩ : ∃ W, ((((w13.setCell ⟨W12.heap.size, 0, none⟩ (.int .i64 CS.1)).setCell ⟨W12.heap.size, 1, none⟩ (.slice e13.2.1.a e13.2.1.n e13.2.1.c)).setCell ⟨W12.heap.size, 2, none⟩ (.slice e13.2.2.1.a e13.2.2.1.n e13.2.2.1.c)).setCell ⟨W12.heap.size, 3, none⟩ (.slice e13.2.2.2.a e13.2.2.2.n e13.2.2.2.c)) = W := ⟨_, rfl⟩
            obtain ⟨gq, egq⟩ : ∃ g, g = W12.heap.size := ⟨_, rfl⟩
            rw [← egq] at e14 nx ⊢
            rw [e14] at nx ⊢
            have EGQ := hide egq
            clear e14 egq)
         | (have nx := nx_late e13 CS o13
            obtain ⟨W14, e14⟩ : ∃ W, w13.alloc (.cells #[.int .i64 CS.1, .slice e13.2.1.a e13.2.1.n e13.2.1.c, .slice e13.2.2.1.a e13.2.2.1.n e13.2.2.1.c, .slice e13.2.2.2.a e13.2.2.2.n e13.2.2.2.c] 37) = W := ⟨_, rfl⟩
            obtain ⟨gq, egq⟩ : ∃ g, g = w13.heap.size := ⟨_, rfl⟩
            rw [← egq] at nx ⊢
            rw [e14] at nx ⊢
            have EGQ := hide egq
            clear e14 egq)
        obtain ⟨t12, G12, K12, b12, s12⟩ := unhide HT12
        have t14 := t12.below nx.old t12.lt
        obtain ⟨⟨r0, r1, r2, r3⟩, f0, f1, f2, f3⟩ := four_blk t14
        obtain ⟨v0, v1, v2, v3, _, _, _⟩ := (unhide HS15) W14 nx.old
        obtain ⟨⟨x0, x1, x2, x3⟩, _, _, _, _⟩ := four_blk nx.blk
        have HEND : Hid (SBlk W14 (w.heap.size + 1) [.int .i64 0, .slice none 0 0, .slice none 0 0, .slice none 0 0] 37 ∧ Below w.heap.size w W14 ∧ (∀ W : World, (∀ q, w.heap.size ≤ q → q < W14.heap.size → q ≠ w.heap.size + 1 → W.heap[q]? = W14.heap[q]?) → SNK.Ok W ((), e1.2.1, ⟨some ⟨g2, 0, none⟩, s.n + 1, cap2⟩, V3) (h.n1, zss, (rs.filter (fun r => decide (bd < r.1))) ++ [(h.n1, h.g)], vz) ∧ (SNK.Ok W ((), e1.2.1, ⟨some ⟨g2, 0, none⟩, s.n + 1, cap2⟩, V3) (h.n1, zss, (rs.filter (fun r => decide (bd < r.1))) ++ [(h.n1, h.g)], vz) → SNK.Ok W e13 CS))) := by
         have hgs := unhide HGS
         have hb1 := (unhide HB1).2.1.size
         have hb4 := s12
         have hg4' := hg4
         have hgq := unhide EGQ
         have hnl := nx.low
         have ho14 := nx.old.size
         have hb14 := nx.big
         have hbw := b12.size
         refine ⟨t14, b12.trans (nx.old.mono b12.size), fun W hW => ⟨(unhide HEK) _ _ d2 (G12.frame (fun q a b _ => (hW q (by omega) (by omega) (by omega)).trans (nx.old.block q a))) (fun q a b => (hW q (by omega) (by omega) (by omega)).trans ((nx.old.block q (by omega)).trans (K12 q a b))), fun hk => hs13 W (fun q a b => ?_) hk⟩⟩
         have hsz : W12.heap.size ≤ q ∧ q ≠ gq := by
          first
           | (have a2 : (W12.alloc (.cells #[.int .i64 0, .slice none 0 0, .slice none 0 0, .slice none 0 0] 37)).heap.size ≤ q := a
              simp at a2
              omega)
           | (have a2 : W12.heap.size ≤ q := a
              omega)
         rw [hW q (by omega) (by omega) (by omega)]
         exact nx.same q hsz.2 b
        clear nx t12 G12 K12 b12 s12 t14 hs13 o13 hkz
        try clear b13
        by_cases hC : CC = 0
        · have hR := (unhide HRC).trans (if_pos hC)
          subst hR
          subst hC
          go_wp2_with fail
          obtain ⟨k9, n9, b9⟩ := ret4 (unhide HEND).1 (.int .i64 R.1) (.slice e13.2.1.a e13.2.1.n e13.2.1.c) (.slice e13.2.2.1.a e13.2.2.1.n e13.2.2.1.c) (.slice e13.2.2.2.a e13.2.2.2.n e13.2.2.2.c)
          have q9 := fun (W' : World) (hW' : Std w.heap.size _ W') => (unhide HEND).2.2 W' (fun q a b c => (hW' q a (lt_of_same (n9 q c) b)).trans (n9 q c))
          refine bodyPost_ret (results_cell_row rfl _ _ (w.heap.size + 1) 37 _ (0, 0) _ rfl k9 Tryz.underlying37 rfl (by kernel_rfl)) rfl ⟨(), e13.2.1, e13.2.2.1, e13.2.2.2, rfl, fun W' hW' => (q9 W' hW').2 (q9 W' hW').1, b9 _ _ (by omega) (unhide HEND).2.1⟩
        · have hR := (unhide HRC).trans (if_neg hC)
          subst hR
          have hC1 : (CC != 0) = true := by simp [hC]
          go_wp2_with fail
          obtain ⟨k9, n9, b9⟩ := ret4 (unhide HEND).1 (.int .i64 h.n1) (.slice e1.2.1.a e1.2.1.n e1.2.1.c) (.slice (some ⟨g2, 0, none⟩) (s.n + 1) cap2) (.slice V3.a V3.n V3.c)
          have q9 := fun (W' : World) (hW' : Std w.heap.size _ W') => (unhide HEND).2.2 W' (fun q a b c => (hW' q a (lt_of_same (n9 q c) b)).trans (n9 q c))
          refine bodyPost_ret (results_cell_row rfl _ _ (w.heap.size + 1) 37 _ (0, 0) _ rfl k9 Tryz.underlying37 rfl (by kernel_rfl)) rfl ⟨(), e1.2.1, ⟨some ⟨g2, 0, none⟩, s.n + 1, cap2⟩, V3, rfl, fun W' hW' => (q9 W' hW').1, b9 _ _ (by omega) (unhide HEND).2.1⟩
      refine AllReadyH.cons (o := _) rfl (fun K hK => ?_) AllReadyH.nil
      go_simp
      refine hK.out _ _ ((unhide HS15) _ (by first | exact o13.alloc o13.size _ | exact ((Below.refl W12.heap.size W12).drew.alloc (Nat.le_refl _) _) | exact ((Below.refl W12.heap.size W12).alloc (Nat.le_refl _) _).drew | exact below_drewN ((Below.refl W12.heap.size W12).alloc (Nat.le_refl _) _) _)) (fun hHeld => ?_)
      clear hK K
      try dsimp only
      refine rdA 14 (fun K hK => ?_)
      go_simp
      go_at_call 60
      refine ((unhide HLC) _ (by first | exact (Below.refl W12.heap.size W12).drew | exact below_drewN (Below.refl W12.heap.size W12) _ | exact ((Below.refl W12.heap.size W12).alloc (Nat.le_refl _) _).drew | exact ((Below.refl W12.heap.size W12).drew.alloc (Nat.le_refl _) _) | exact below_drewN ((Below.refl W12.heap.size W12).alloc (Nat.le_refl _) _) _)).mono ?_
      rintro r w13 ⟨e13, rfl, hs13, b13, o13, hkz⟩
      try (have kz := hkz (SBlk.new W12 #[.int .i64 0, .slice none 0 0, .slice none 0 0, .slice none 0 0] 37); obtain ⟨⟨q0, q1, q2, q3⟩, p0, p1, p2, p3⟩ := four_blk kz)
      (try dsimp only)
      refine hK.out _ _ ((unhide HS15) _ o13) (fun hHeld => ?_)
      clear hK K
      try dsimp only
      refine tkA 15 ?_
      try dsimp only
      refine tkA 16 ?_
      try dsimp only
      refine tkA 17 ?_
      try dsimp only
      refine rdA 19 (fun K hK => ?_)
      go_simp
      refine hK.out _ _ ((unhide HS15) _ (by first | exact o13.alloc o13.size _ | ((repeat (refine Below.setCell ?_ (by first | exact Nat.le_refl _ | exact o13.size) _)) <;> first | assumption | exact o13.alloc o13.size _))) (fun hHeld => ?_)
      clear hK K
      try dsimp only
      refine tkA 20 ?_
      try dsimp only
      refine wpAnyH_done (by kernel_rfl) ?_ _
      clear hHeld HLC
      first
       | (have nx := nx_early (e := e13) (x := CS) o13 kz
          clear q0 q1 q2 q3 p0 p1 p2 p3 kz
          obtain ⟨W14, e14⟩ : ∃ W, ((((w13.setCell ⟨W12.heap.size, 0, none⟩ (.int .i64 CS.1)).setCell ⟨W12.heap.size, 1, none⟩ (.slice e13.2.1.a e13.2.1.n e13.2.1.c)).setCell ⟨W12.heap.size, 2, none⟩ (.slice e13.2.2.1.a e13.2.2.1.n e13.2.2.1.c)).setCell ⟨W12.heap.size, 3, none⟩ (.slice e13.2.2.2.a e13.2.2.2.n e13.2.2.2.c)) = W := ⟨_, rfl⟩
          obtain ⟨gq, egq⟩ : ∃ g, g = W12.heap.size := ⟨_, rfl⟩
          rw [← egq] at e14 nx ⊢
          rw [e14] at nx ⊢
          have EGQ := hide egq
          clear e14 egq)
       | (have nx := nx_late e13 CS o13
          obtain ⟨W14, e14⟩ : ∃ W, w13.alloc (.cells #[.int .i64 CS.1, .slice e13.2.1.a e13.2.1.n e13.2.1.c, .slice e13.2.2.1.a e13.2.2.1.n e13.2.2.1.c, .slice e13.2.2.2.a e13.2.2.2.n e13.2.2.2.c] 37) = W := ⟨_, rfl⟩
          obtain ⟨gq, egq⟩ : ∃ g, g = w13.heap.size := ⟨_, rfl⟩
          rw [← egq] at nx ⊢
          rw [e14] at nx ⊢
          have EGQ := hide egq
          clear e14 egq)
      obtain ⟨t12, G12, K12, b12, s12⟩ := unhide HT12
      have t14 := t12.below nx.old t12.lt
      obtain ⟨⟨r0, r1, r2, r3⟩, f0, f1, f2, f3⟩ := four_blk t14
      obtain ⟨v0, v1, v2, v3, _, _, _⟩ := (unhide HS15) W14 nx.old
      obtain ⟨⟨x0, x1, x2, x3⟩, _, _, _, _⟩ := four_blk nx.blk
      have HEND : Hid (SBlk W14 (w.heap.size + 1) [.int .i64 0, .slice none 0 0, .slice none 0 0, .slice none 0 0] 37 ∧ Below w.heap.size w W14 ∧ (∀ W : World, (∀ q, w.heap.size ≤ q → q < W14.heap.size → q ≠ w.heap.size + 1 → W.heap[q]? = W14.heap[q]?) → SNK.Ok W ((), e1.2.1, ⟨some ⟨g2, 0, none⟩, s.n + 1, cap2⟩, V3) (h.n1, zss, (rs.filter (fun r => decide (bd < r.1))) ++ [(h.n1, h.g)], vz) ∧ (SNK.Ok W ((), e1.2.1, ⟨some ⟨g2, 0, none⟩, s.n + 1, cap2⟩, V3) (h.n1, zss, (rs.filter (fun r => decide (bd < r.1))) ++ [(h.n1, h.g)], vz) → SNK.Ok W e13 CS))) := by
       have hgs := unhide HGS
       have hb1 := (unhide HB1).2.1.size
       have hb4 := s12
       have hg4' := hg4
       have hgq := unhide EGQ
       have hnl := nx.low
       have ho14 := nx.old.size
       have hb14 := nx.big
       have hbw := b12.size
       refine ⟨t14, b12.trans (nx.old.mono b12.size), fun W hW => ⟨(unhide HEK) _ _ d2 (G12.frame (fun q a b _ => (hW q (by omega) (by omega) (by omega)).trans (nx.old.block q a))) (fun q a b => (hW q (by omega) (by omega) (by omega)).trans ((nx.old.block q (by omega)).trans (K12 q a b))), fun hk => hs13 W (fun q a b => ?_) hk⟩⟩
       have hsz : W12.heap.size ≤ q ∧ q ≠ gq := by
        first
         | (have a2 : (W12.alloc (.cells #[.int .i64 0, .slice none 0 0, .slice none 0 0, .slice none 0 0] 37)).heap.size ≤ q := a
            simp at a2
            omega)
         | (have a2 : W12.heap.size ≤ q := a
            omega)
       rw [hW q (by omega) (by omega) (by omega)]
       exact nx.same q hsz.2 b
      clear nx t12 G12 K12 b12 s12 t14 hs13 o13 hkz
      try clear b13
      by_cases hC : CC = 0
      · have hR := (unhide HRC).trans (if_pos hC)
        subst hR
        subst hC
        go_wp2_with fail
        obtain ⟨k9, n9, b9⟩ := ret4 (unhide HEND).1 (.int .i64 R.1) (.slice e13.2.1.a e13.2.1.n e13.2.1.c) (.slice e13.2.2.1.a e13.2.2.1.n e13.2.2.1.c) (.slice e13.2.2.2.a e13.2.2.2.n e13.2.2.2.c)
        have q9 := fun (W' : World) (hW' : Std w.heap.size _ W') => (unhide HEND).2.2 W' (fun q a b c => (hW' q a (lt_of_same (n9 q c) b)).trans (n9 q c))
        refine bodyPost_ret (results_cell_row rfl _ _ (w.heap.size + 1) 37 _ (0, 0) _ rfl k9 Tryz.underlying37 rfl (by kernel_rfl)) rfl ⟨(), e13.2.1, e13.2.2.1, e13.2.2.2, rfl, fun W' hW' => (q9 W' hW').2 (q9 W' hW').1, b9 _ _ (by omega) (unhide HEND).2.1⟩
      · have hR := (unhide HRC).trans (if_neg hC)
        subst hR
        have hC1 : (CC != 0) = true := by simp [hC]
        go_wp2_with fail
        obtain ⟨k9, n9, b9⟩ := ret4 (unhide HEND).1 (.int .i64 h.n1) (.slice e1.2.1.a e1.2.1.n e1.2.1.c) (.slice (some ⟨g2, 0, none⟩) (s.n + 1) cap2) (.slice V3.a V3.n V3.c)
        have q9 := fun (W' : World) (hW' : Std w.heap.size _ W') => (unhide HEND).2.2 W' (fun q a b c => (hW' q a (lt_of_same (n9 q c) b)).trans (n9 q c))
        refine bodyPost_ret (results_cell_row rfl _ _ (w.heap.size + 1) 37 _ (0, 0) _ rfl k9 Tryz.underlying37 rfl (by kernel_rfl)) rfl ⟨(), e1.2.1, ⟨some ⟨g2, 0, none⟩, s.n + 1, cap2⟩, V3, rfl, fun W' hW' => (q9 W' hW').1, b9 _ _ (by omega) (unhide HEND).2.1⟩
    refine AllReadyH.cons (o := _) rfl (fun K hK => ?_) AllReadyH.nil
    go_simp
    go_at_call 59
    refine ((unhide HCO) _ (by first | exact (Below.refl wr.heap.size wr).drew | exact below_drewN (Below.refl wr.heap.size wr) _)).mono ?_
    rintro e W1 ⟨a1, c1, es, WW, rfl, m2, o1, q3, zW, HQ⟩
    have m2a : ∀ o, (W1.alloc o).cell? ⟨gs, 2, none⟩ = some (.slice s.a s.n s.c) := fun o => ((below_alloc W1 o).cell (lt_of_cell m2)).trans m2
    (try dsimp only)
    refine hK.out _ _ ((unhide HSS) _ o1) (fun hHeld => ?_)
    clear hK K
    try dsimp only
    refine tkA 11 ?_
    try dsimp only
    refine wpAnyH_ready (rs := [1, 12]) (by kernel_rfl) (by simp) ?_
    refine AllReadyH.cons (o := _) rfl (fun K hK => ?_) ?_
    · skip
      go_simp
      refine hK.out _ _ (hHeld) (fun hHeld => ?_)
      clear hK K
      try dsimp only
      refine rdA 12 (fun K hK => ?_)
      go_simp
      refine hK.out _ _ ((unhide HSS) _ (o1.alloc (by have := lt_of_cell m2; simp only at this; omega) _)) (fun hHeld => ?_)
      clear hK K
      try dsimp only
      refine rdA 13 (fun K hK => ?_)
      refine step_append_lies _ (by rfl) (.tmp 72) (.tmp 83) 34 (by rfl) w4.heap.size 93 i0 (.agg #[.int .i64 0, .slice none 0 0]) 2 32 Tryz.underlying34 hi hz0 hz1 hz2 rfl (by decide) _ _ _ (by rfl) (by exact q3.alloc _) ⟨W1.heap.size, 0, none⟩ 1 1 [.int .i64 h.n1, .slice a1 nx.g.n c1] (by rfl) rfl (by exact two_at _ _ _ _) (by simp [Value.oneCell']) (by omega) (by unfold maxLen; omega) (by omega) (by simp; omega) _ rfl ?_
      intro g2 cap2 W2 hown2 hgrow2 hat2 hlt2
      obtain ⟨⟨u10, hu10⟩, hf10, o2, d2, I2⟩ := (unhide HST) W1 WW _ W2 a1 c1 g2 cap2 es (unhide HQ).1 (unhide HQ).2.1 (unhide HQ).2.2.1 (unhide HQ).2.2.2.1 (unhide HQ).2.2.2.2 (below_alloc W1 _) hown2 hgrow2 hat2
      have o3 := I2.old
      have HI2 := hide I2
      clear I2 hown2 hgrow2 hat2 hlt2
      refine hK.out _ _ ((unhide HSS) _ o2) (fun hHeld => ?_)
      clear hK K
      try dsimp only
      refine tkA 14 ?_
      try dsimp only
      refine rdA 15 (fun K hK => ?_)
      go_simp
      refine hK.out _ _ ((unhide HSS) _ o3) (fun hHeld => ?_)
      clear hK K
      try dsimp only
      refine wpAnyH_done (by kernel_rfl) ?_ _
      clear HQ q3 m2 m2a hu10 hf10 HCO HST hHeld
      have I2 := unhide HI2
      obtain ⟨W12, e12⟩ : ∃ W, W2.setCell ⟨gs, 2, none⟩ (.slice (some ⟨g2, 0, none⟩) (s.n + 1) cap2) = W := ⟨_, rfl⟩
      rw [e12] at I2 o3 ⊢
      clear e12 HI2 o1 o2 zW
      have b12 := (unhide HWB) W12 o3
      have kr12 : SBlk W12 (w.heap.size + 1) [.int .i64 0, .slice none 0 0, .slice none 0 0, .slice none 0 0] 37 := by
       exact (unhide HKR4).below o3 (by have := unhide HGS; have h3 := (unhide HB1).2.1.size; omega)
      obtain ⟨_, y1, _, _, y4, y5, _, _, y8, _, _⟩ := hcells ((unhide HKH).below b12 (unhide HKH).lt)
      obtain ⟨⟨v0, v1, v2, v3⟩, _, _, _, _⟩ := four_blk I2.blk
      obtain ⟨⟨r0, r1, r2, r3⟩, f0, f1, f2, f3⟩ := four_blk kr12
      have G12 := I2.row
      have K12 := (unhide HKP) W12 I2.keep
      have htl : nx.t.n = h.t.length := (unhide HOO).2.2.2.row.1.symm
      have HT12 := hide (And.intro kr12 (And.intro G12 (And.intro K12 (And.intro b12 I2.size))))
      by_cases ht : h.t.length = 0
      · have hR := (unhide HRY).trans (if_pos ht)
        subst hR
        have hn0 : nx.t.n = 0 := by omega
        clear G12 K12 kr12 b12 I2 o3 htl ht
        go_wp2_with fail
        obtain ⟨k9, n9, b9⟩ := ret4 (unhide HT12).1 (.int .i64 h.n1) (.slice e1.2.1.a e1.2.1.n e1.2.1.c) (.slice (some ⟨g2, 0, none⟩) (s.n + 1) cap2) (.slice V3.a V3.n V3.c)
        obtain ⟨kr12, G12, K12, b12, s12⟩ := unhide HT12
        have hgs := unhide HGS
        have hb1 := (unhide HB1).2.1.size
        refine bodyPost_ret (results_cell_row rfl _ _ (w.heap.size + 1) 37 _ (0, 0) _ rfl k9 Tryz.underlying37 rfl (by kernel_rfl)) rfl ⟨(), e1.2.1, ⟨some ⟨g2, 0, none⟩, s.n + 1, cap2⟩, V3, rfl, fun W' hW' => (unhide HEK) W' _ d2 (G12.frame (fun q a hB _ => (hW' q (by omega) (lt_of_same (n9 q (by omega)) a)).trans (n9 q (by omega)))) (fun q h1 h2 => (hW' q (by omega) (lt_of_same (n9 q (by omega)) (by omega))).trans ((n9 q (by omega)).trans (K12 q h1 h2))), b9 _ _ (by omega) b12⟩
      have hn0 : ¬ nx.t.n = 0 := by omega
      have hR := (unhide HRY).trans (if_neg ht)
      have hPO := unhide HYO
      have O12 := (unhide HEK) _ _ d2 G12 K12
      have HS15 : Hid (∀ W, Below W12.heap.size W12 W → (fun W => W.cell? ⟨gs, 0, none⟩ = some (.int .i64 h.n1) ∧ W.cell? ⟨gs, 1, none⟩ = some (.slice e1.2.1.a e1.2.1.n e1.2.1.c) ∧ W.cell? ⟨gs, 2, none⟩ = some (.slice (some ⟨g2, 0, none⟩) (s.n + 1) cap2) ∧ W.cell? ⟨gs, 3, none⟩ = some (.slice V3.a V3.n V3.c) ∧ W.cell? ⟨gh, 8, none⟩ = some (.slice nx.g.a nx.g.n nx.g.c) ∧ W.cell? ⟨gh, 4, none⟩ = some (.slice nx.t.a nx.t.n nx.t.c) ∧ W.cell? ⟨gh, 5, none⟩ = some (.int .i64 h.n5)) W) := fun W hb => ⟨(hb.cell (p := ⟨gs, 0, none⟩) (lt_of_cell v0)).trans v0, (hb.cell (p := ⟨gs, 1, none⟩) (lt_of_cell v1)).trans v1, (hb.cell (p := ⟨gs, 2, none⟩) (lt_of_cell v2)).trans v2, (hb.cell (p := ⟨gs, 3, none⟩) (lt_of_cell v3)).trans v3, (hb.cell (p := ⟨gh, 8, none⟩) (lt_of_cell y8)).trans y8, (hb.cell (p := ⟨gh, 4, none⟩) (lt_of_cell y4)).trans y4, (hb.cell (p := ⟨gh, 5, none⟩) (lt_of_cell y5)).trans y5⟩
      have HLC : ∀ W, Below W12.heap.size W12 W → Calls Tryz.prog 60 #[.agg (snvals ((), e1.2.1, ⟨some ⟨g2, 0, none⟩, s.n + 1, cap2⟩, V3) (h.n1, zss, (rs.filter (fun r => decide (bd < r.1))) ++ [(h.n1, h.g)], vz)), .slice nx.g.a nx.g.n nx.g.c, .slice nx.t.a nx.t.n nx.t.c, .bool (h.n5 == 1)] W fun r w' => ∃ e' : SnS, r = .returned (.tuple #[.agg (snvals e' (ctSn (h.n1, zss, (rs.filter (fun r => decide (bd < r.1))) ++ [(h.n1, h.g)], vz) h.g h.t (h.n5 == 1))), .int .i64 (ctCode (h.n1, zss, (rs.filter (fun r => decide (bd < r.1))) ++ [(h.n1, h.g)], vz) h.g h.t (h.n5 == 1))]) ∧ (∀ W' : World, Std W.heap.size w' W' → SNK.Ok W' ((), e1.2.1, ⟨some ⟨g2, 0, none⟩, s.n + 1, cap2⟩, V3) (h.n1, zss, (rs.filter (fun r => decide (bd < r.1))) ++ [(h.n1, h.g)], vz) → SNK.Ok W' e' (ctSn (h.n1, zss, (rs.filter (fun r => decide (bd < r.1))) ++ [(h.n1, h.g)], vz) h.g h.t (h.n5 == 1))) ∧ Below W.heap.size W w' ∧ Below W12.heap.size W12 w' ∧ (SBlk W W12.heap.size [.int .i64 0, .slice none 0 0, .slice none 0 0, .slice none 0 0] 37 → SBlk w' W12.heap.size [.int .i64 0, .slice none 0 0, .slice none 0 0, .slice none 0 0] 37) := fun W hb => by
       refine (l7Cast_any ((), e1.2.1, ⟨some ⟨g2, 0, none⟩, s.n + 1, cap2⟩, V3) (h.n1, zss, (rs.filter (fun r => decide (bd < r.1))) ++ [(h.n1, h.g)], vz) nx.g nx.t h.g h.t (h.n5 == 1) W (SNK.below O12 hb (Nat.le_refl _)) (snT_flt hPO).sm (bytesK.below (unhide HOO).2.2.1 (b12.trans (hb.mono b12.size)) (Nat.le_refl _)) (bytesK.below (unhide HOO).2.2.2 (b12.trans (hb.mono b12.size)) (Nat.le_refl _)) (by have := (unhide HZZ).2.2.2.g; omega) (by have := (unhide HZZ).2.2.2.t; omega) (unhide HZS).1 (by have := (unhide HZS).2; show zss.length ≤ 100000; omega)).mono ?_
       rintro r w' ⟨e', h1, h2, h3⟩
       exact ⟨e', h1, h2, h3, hb.trans (h3.mono hb.size), fun k => k.below h3 k.lt⟩
      generalize ctCode (h.n1, zss, (rs.filter (fun r => decide (bd < r.1))) ++ [(h.n1, h.g)], vz) h.g h.t (h.n5 == 1) = CC at HLC hR
      generalize ctSn (h.n1, zss, (rs.filter (fun r => decide (bd < r.1))) ++ [(h.n1, h.g)], vz) h.g h.t (h.n5 == 1) = CS at HLC hR
      unfold snvals at HLC
      dsimp only at HLC
      replace HLC := hide HLC
      have HO12 := hide O12
      have HRC := hide hR
      clear hR hPO O12 G12 K12 kr12 b12 I2 o3 htl ht
      go_upto_region 15 with fail
      clear v0 v1 v2 v3 y4 y5 y8 y1
      refine wp_region_held_drew (S := (fun W => W.cell? ⟨gs, 0, none⟩ = some (.int .i64 h.n1) ∧ W.cell? ⟨gs, 1, none⟩ = some (.slice e1.2.1.a e1.2.1.n e1.2.1.c) ∧ W.cell? ⟨gs, 2, none⟩ = some (.slice (some ⟨g2, 0, none⟩) (s.n + 1) cap2) ∧ W.cell? ⟨gs, 3, none⟩ = some (.slice V3.a V3.n V3.c) ∧ W.cell? ⟨gh, 8, none⟩ = some (.slice nx.g.a nx.g.n nx.g.c) ∧ W.cell? ⟨gh, 4, none⟩ = some (.slice nx.t.a nx.t.n nx.t.c) ∧ W.cell? ⟨gh, 5, none⟩ = some (.int .i64 h.n5))) (by kernel_rfl) ((unhide HS15) _ ((Below.refl W12.heap.size W12).drew)) (fun hHeld => ?_)
      refine tkA 0 ?_
      try dsimp only
      refine tkA 1 ?_
      try dsimp only
      refine tkA 2 ?_
      try dsimp only
      refine tkA 3 ?_
      try dsimp only
      refine tkA 4 ?_
      try dsimp only
      refine tkA 5 ?_
      try dsimp only
      refine tkA 6 ?_
      try dsimp only
      refine tkA 7 ?_
      try dsimp only
      refine tkA 8 ?_
      try dsimp only
      refine tkA 9 ?_
      try dsimp only
      refine tkA 10 ?_
      try dsimp only
      refine tkA 11 ?_
      try dsimp only
      refine tkA 12 ?_
      try dsimp only
      refine tkA 13 ?_
      try dsimp only
      refine wpAnyH_ready (rs := [14, 18]) (by kernel_rfl) (by simp) ?_
      refine AllReadyH.cons (o := _) rfl (fun K hK => ?_) ?_
      · skip
        go_simp
        go_at_call 60
        refine ((unhide HLC) _ (by first | exact (Below.refl W12.heap.size W12).drew | exact below_drewN (Below.refl W12.heap.size W12) _ | exact ((Below.refl W12.heap.size W12).alloc (Nat.le_refl _) _).drew | exact ((Below.refl W12.heap.size W12).drew.alloc (Nat.le_refl _) _) | exact below_drewN ((Below.refl W12.heap.size W12).alloc (Nat.le_refl _) _) _)).mono ?_
        rintro r w13 ⟨e13, rfl, hs13, b13, o13, hkz⟩
        try (have kz := hkz (SBlk.new W12 #[.int .i64 0, .slice none 0 0, .slice none 0 0, .slice none 0 0] 37); obtain ⟨⟨q0, q1, q2, q3⟩, p0, p1, p2, p3⟩ := four_blk kz)
        (try dsimp only)
        refine hK.out _ _ ((unhide HS15) _ o13) (fun hHeld => ?_)
        clear hK K
        try dsimp only
        refine tkA 15 ?_
        try dsimp only
        refine tkA 16 ?_
        try dsimp only
        refine tkA 17 ?_
        try dsimp only
        refine rdA 18 (fun K hK => ?_)
        go_simp
        refine hK.out _ _ ((unhide HS15) _ (by first | exact o13.alloc o13.size _ | exact ((Below.refl W12.heap.size W12).drew.alloc (Nat.le_refl _) _) | exact ((Below.refl W12.heap.size W12).alloc (Nat.le_refl _) _).drew | exact below_drewN ((Below.refl W12.heap.size W12).alloc (Nat.le_refl _) _) _)) (fun hHeld => ?_)
        clear hK K
        try dsimp only
        refine rdA 19 (fun K hK => ?_)
        go_simp
        refine hK.out _ _ ((unhide HS15) _ (by first | exact o13.alloc o13.size _ | ((repeat (refine Below.setCell ?_ (by first | exact Nat.le_refl _ | exact o13.size) _)) <;> first | assumption | exact o13.alloc o13.size _))) (fun hHeld => ?_)
        clear hK K
        try dsimp only
        refine tkA 20 ?_
        try dsimp only
        refine wpAnyH_done (by kernel_rfl) ?_ _
        clear hHeld HLC
        first
         | (have nx := nx_early (e := e13) (x := CS) o13 kz
            clear q0 q1 q2 q3 p0 p1 p2 p3 kz
            obtain ⟨W14, e14⟩ : ∃ W, ((((w13.setCell ⟨W12.heap.size, 0, none⟩ (.int .i64 CS.1)).setCell ⟨W12.heap.size, 1, none⟩ (.slice e13.2.1.a e13.2.1.n e13.2.1.c)).setCell ⟨W12.heap.size, 2, none⟩ (.slice e13.2.2.1.a e13.2.2.1.n e13.2.2.1.c)).setCell ⟨W12.heap.size, 3, none⟩ (.slice e13.2.2.2.a e13.2.2.2.n e13.2.2.2.c)) = W := ⟨_, rfl⟩
            obtain ⟨gq, egq⟩ : ∃ g, g = W12.heap.size := ⟨_, rfl⟩
            rw [← egq] at e14 nx ⊢
            rw [e14] at nx ⊢
            have EGQ := hide egq
            clear e14 egq)
         | (have nx := nx_late e13 CS o13
            obtain ⟨W14, e14⟩ : ∃ W, w13.alloc (.cells #[.int .i64 CS.1, .slice e13.2.1.a e13.2.1.n e13.2.1.c, .slice e13.2.2.1.a e13.2.2.1.n e13.2.2.1.c, .slice e13.2.2.2.a e13.2.2.2.n e13.2.2.2.c] 37) = W := ⟨_, rfl⟩
            obtain ⟨gq, egq⟩ : ∃ g, g = w13.heap.size := ⟨_, rfl⟩
            rw [← egq] at nx ⊢
            rw [e14] at nx ⊢
            have EGQ := hide egq
            clear e14 egq)
        obtain ⟨t12, G12, K12, b12, s12⟩ := unhide HT12
        have t14 := t12.below nx.old t12.lt
        obtain ⟨⟨r0, r1, r2, r3⟩, f0, f1, f2, f3⟩ := four_blk t14
        obtain ⟨v0, v1, v2, v3, _, _, _⟩ := (unhide HS15) W14 nx.old
        obtain ⟨⟨x0, x1, x2, x3⟩, _, _, _, _⟩ := four_blk nx.blk
        have HEND : Hid (SBlk W14 (w.heap.size + 1) [.int .i64 0, .slice none 0 0, .slice none 0 0, .slice none 0 0] 37 ∧ Below w.heap.size w W14 ∧ (∀ W : World, (∀ q, w.heap.size ≤ q → q < W14.heap.size → q ≠ w.heap.size + 1 → W.heap[q]? = W14.heap[q]?) → SNK.Ok W ((), e1.2.1, ⟨some ⟨g2, 0, none⟩, s.n + 1, cap2⟩, V3) (h.n1, zss, (rs.filter (fun r => decide (bd < r.1))) ++ [(h.n1, h.g)], vz) ∧ (SNK.Ok W ((), e1.2.1, ⟨some ⟨g2, 0, none⟩, s.n + 1, cap2⟩, V3) (h.n1, zss, (rs.filter (fun r => decide (bd < r.1))) ++ [(h.n1, h.g)], vz) → SNK.Ok W e13 CS))) := by
         have hgs := unhide HGS
         have hb1 := (unhide HB1).2.1.size
         have hb4 := s12
         have hg4' := hg4
         have hgq := unhide EGQ
         have hnl := nx.low
         have ho14 := nx.old.size
         have hb14 := nx.big
         have hbw := b12.size
         refine ⟨t14, b12.trans (nx.old.mono b12.size), fun W hW => ⟨(unhide HEK) _ _ d2 (G12.frame (fun q a b _ => (hW q (by omega) (by omega) (by omega)).trans (nx.old.block q a))) (fun q a b => (hW q (by omega) (by omega) (by omega)).trans ((nx.old.block q (by omega)).trans (K12 q a b))), fun hk => hs13 W (fun q a b => ?_) hk⟩⟩
         have hsz : W12.heap.size ≤ q ∧ q ≠ gq := by
          first
           | (have a2 : (W12.alloc (.cells #[.int .i64 0, .slice none 0 0, .slice none 0 0, .slice none 0 0] 37)).heap.size ≤ q := a
              simp at a2
              omega)
           | (have a2 : W12.heap.size ≤ q := a
              omega)
         rw [hW q (by omega) (by omega) (by omega)]
         exact nx.same q hsz.2 b
        clear nx t12 G12 K12 b12 s12 t14 hs13 o13 hkz
        try clear b13
        by_cases hC : CC = 0
        · have hR := (unhide HRC).trans (if_pos hC)
          subst hR
          subst hC
          go_wp2_with fail
          obtain ⟨k9, n9, b9⟩ := ret4 (unhide HEND).1 (.int .i64 R.1) (.slice e13.2.1.a e13.2.1.n e13.2.1.c) (.slice e13.2.2.1.a e13.2.2.1.n e13.2.2.1.c) (.slice e13.2.2.2.a e13.2.2.2.n e13.2.2.2.c)
          have q9 := fun (W' : World) (hW' : Std w.heap.size _ W') => (unhide HEND).2.2 W' (fun q a b c => (hW' q a (lt_of_same (n9 q c) b)).trans (n9 q c))
          refine bodyPost_ret (results_cell_row rfl _ _ (w.heap.size + 1) 37 _ (0, 0) _ rfl k9 Tryz.underlying37 rfl (by kernel_rfl)) rfl ⟨(), e13.2.1, e13.2.2.1, e13.2.2.2, rfl, fun W' hW' => (q9 W' hW').2 (q9 W' hW').1, b9 _ _ (by omega) (unhide HEND).2.1⟩
        · have hR := (unhide HRC).trans (if_neg hC)
          subst hR
          have hC1 : (CC != 0) = true := by simp [hC]
          go_wp2_with fail
          obtain ⟨k9, n9, b9⟩ := ret4 (unhide HEND).1 (.int .i64 h.n1) (.slice e1.2.1.a e1.2.1.n e1.2.1.c) (.slice (some ⟨g2, 0, none⟩) (s.n + 1) cap2) (.slice V3.a V3.n V3.c)
          have q9 := fun (W' : World) (hW' : Std w.heap.size _ W') => (unhide HEND).2.2 W' (fun q a b c => (hW' q a (lt_of_same (n9 q c) b)).trans (n9 q c))
          refine bodyPost_ret (results_cell_row rfl _ _ (w.heap.size + 1) 37 _ (0, 0) _ rfl k9 Tryz.underlying37 rfl (by kernel_rfl)) rfl ⟨(), e1.2.1, ⟨some ⟨g2, 0, none⟩, s.n + 1, cap2⟩, V3, rfl, fun W' hW' => (q9 W' hW').1, b9 _ _ (by omega) (unhide HEND).2.1⟩
      refine AllReadyH.cons (o := _) rfl (fun K hK => ?_) AllReadyH.nil
      go_simp
      refine hK.out _ _ ((unhide HS15) _ (by first | exact o13.alloc o13.size _ | exact ((Below.refl W12.heap.size W12).drew.alloc (Nat.le_refl _) _) | exact ((Below.refl W12.heap.size W12).alloc (Nat.le_refl _) _).drew | exact below_drewN ((Below.refl W12.heap.size W12).alloc (Nat.le_refl _) _) _)) (fun hHeld => ?_)
      clear hK K
      try dsimp only
      refine rdA 14 (fun K hK => ?_)
      go_simp
      go_at_call 60
      refine ((unhide HLC) _ (by first | exact (Below.refl W12.heap.size W12).drew | exact below_drewN (Below.refl W12.heap.size W12) _ | exact ((Below.refl W12.heap.size W12).alloc (Nat.le_refl _) _).drew | exact ((Below.refl W12.heap.size W12).drew.alloc (Nat.le_refl _) _) | exact below_drewN ((Below.refl W12.heap.size W12).alloc (Nat.le_refl _) _) _)).mono ?_
      rintro r w13 ⟨e13, rfl, hs13, b13, o13, hkz⟩
      try (have kz := hkz (SBlk.new W12 #[.int .i64 0, .slice none 0 0, .slice none 0 0, .slice none 0 0] 37); obtain ⟨⟨q0, q1, q2, q3⟩, p0, p1, p2, p3⟩ := four_blk kz)
      (try dsimp only)
      refine hK.out _ _ ((unhide HS15) _ o13) (fun hHeld => ?_)
      clear hK K
      try dsimp only
      refine tkA 15 ?_
      try dsimp only
      refine tkA 16 ?_
      try dsimp only
      refine tkA 17 ?_
      try dsimp only
      refine rdA 19 (fun K hK => ?_)
      go_simp
      refine hK.out _ _ ((unhide HS15) _ (by first | exact o13.alloc o13.size _ | ((repeat (refine Below.setCell ?_ (by first | exact Nat.le_refl _ | exact o13.size) _)) <;> first | assumption | exact o13.alloc o13.size _))) (fun hHeld => ?_)
      clear hK K
      try dsimp only
      refine tkA 20 ?_
      try dsimp only
      refine wpAnyH_done (by kernel_rfl) ?_ _
      clear hHeld HLC
      first
       | (have nx := nx_early (e := e13) (x := CS) o13 kz
          clear q0 q1 q2 q3 p0 p1 p2 p3 kz
          obtain ⟨W14, e14⟩ : ∃ W, ((((w13.setCell ⟨W12.heap.size, 0, none⟩ (.int .i64 CS.1)).setCell ⟨W12.heap.size, 1, none⟩ (.slice e13.2.1.a e13.2.1.n e13.2.1.c)).setCell ⟨W12.heap.size, 2, none⟩ (.slice e13.2.2.1.a e13.2.2.1.n e13.2.2.1.c)).setCell ⟨W12.heap.size, 3, none⟩ (.slice e13.2.2.2.a e13.2.2.2.n e13.2.2.2.c)) = W := ⟨_, rfl⟩
          obtain ⟨gq, egq⟩ : ∃ g, g = W12.heap.size := ⟨_, rfl⟩
          rw [← egq] at e14 nx ⊢
          rw [e14] at nx ⊢
          have EGQ := hide egq
          clear e14 egq)
       | (have nx := nx_late e13 CS o13
          obtain ⟨W14, e14⟩ : ∃ W, w13.alloc (.cells #[.int .i64 CS.1, .slice e13.2.1.a e13.2.1.n e13.2.1.c, .slice e13.2.2.1.a e13.2.2.1.n e13.2.2.1.c, .slice e13.2.2.2.a e13.2.2.2.n e13.2.2.2.c] 37) = W := ⟨_, rfl⟩
          obtain ⟨gq, egq⟩ : ∃ g, g = w13.heap.size := ⟨_, rfl⟩
          rw [← egq] at nx ⊢
          rw [e14] at nx ⊢
          have EGQ := hide egq
          clear e14 egq)
      obtain ⟨t12, G12, K12, b12, s12⟩ := unhide HT12
      have t14 := t12.below nx.old t12.lt
      obtain ⟨⟨r0, r1, r2, r3⟩, f0, f1, f2, f3⟩ := four_blk t14
      obtain ⟨v0, v1, v2, v3, _, _, _⟩ := (unhide HS15) W14 nx.old
      obtain ⟨⟨x0, x1, x2, x3⟩, _, _, _, _⟩ := four_blk nx.blk
      have HEND : Hid (SBlk W14 (w.heap.size + 1) [.int .i64 0, .slice none 0 0, .slice none 0 0, .slice none 0 0] 37 ∧ Below w.heap.size w W14 ∧ (∀ W : World, (∀ q, w.heap.size ≤ q → q < W14.heap.size → q ≠ w.heap.size + 1 → W.heap[q]? = W14.heap[q]?) → SNK.Ok W ((), e1.2.1, ⟨some ⟨g2, 0, none⟩, s.n + 1, cap2⟩, V3) (h.n1, zss, (rs.filter (fun r => decide (bd < r.1))) ++ [(h.n1, h.g)], vz) ∧ (SNK.Ok W ((), e1.2.1, ⟨some ⟨g2, 0, none⟩, s.n + 1, cap2⟩, V3) (h.n1, zss, (rs.filter (fun r => decide (bd < r.1))) ++ [(h.n1, h.g)], vz) → SNK.Ok W e13 CS))) := by
       have hgs := unhide HGS
       have hb1 := (unhide HB1).2.1.size
       have hb4 := s12
       have hg4' := hg4
       have hgq := unhide EGQ
       have hnl := nx.low
       have ho14 := nx.old.size
       have hb14 := nx.big
       have hbw := b12.size
       refine ⟨t14, b12.trans (nx.old.mono b12.size), fun W hW => ⟨(unhide HEK) _ _ d2 (G12.frame (fun q a b _ => (hW q (by omega) (by omega) (by omega)).trans (nx.old.block q a))) (fun q a b => (hW q (by omega) (by omega) (by omega)).trans ((nx.old.block q (by omega)).trans (K12 q a b))), fun hk => hs13 W (fun q a b => ?_) hk⟩⟩
       have hsz : W12.heap.size ≤ q ∧ q ≠ gq := by
        first
         | (have a2 : (W12.alloc (.cells #[.int .i64 0, .slice none 0 0, .slice none 0 0, .slice none 0 0] 37)).heap.size ≤ q := a
            simp at a2
            omega)
         | (have a2 : W12.heap.size ≤ q := a
            omega)
       rw [hW q (by omega) (by omega) (by omega)]
       exact nx.same q hsz.2 b
      clear nx t12 G12 K12 b12 s12 t14 hs13 o13 hkz
      try clear b13
      by_cases hC : CC = 0
      · have hR := (unhide HRC).trans (if_pos hC)
        subst hR
        subst hC
        go_wp2_with fail
        obtain ⟨k9, n9, b9⟩ := ret4 (unhide HEND).1 (.int .i64 R.1) (.slice e13.2.1.a e13.2.1.n e13.2.1.c) (.slice e13.2.2.1.a e13.2.2.1.n e13.2.2.1.c) (.slice e13.2.2.2.a e13.2.2.2.n e13.2.2.2.c)
        have q9 := fun (W' : World) (hW' : Std w.heap.size _ W') => (unhide HEND).2.2 W' (fun q a b c => (hW' q a (lt_of_same (n9 q c) b)).trans (n9 q c))
        refine bodyPost_ret (results_cell_row rfl _ _ (w.heap.size + 1) 37 _ (0, 0) _ rfl k9 Tryz.underlying37 rfl (by kernel_rfl)) rfl ⟨(), e13.2.1, e13.2.2.1, e13.2.2.2, rfl, fun W' hW' => (q9 W' hW').2 (q9 W' hW').1, b9 _ _ (by omega) (unhide HEND).2.1⟩
      · have hR := (unhide HRC).trans (if_neg hC)
        subst hR
        have hC1 : (CC != 0) = true := by simp [hC]
        go_wp2_with fail
        obtain ⟨k9, n9, b9⟩ := ret4 (unhide HEND).1 (.int .i64 h.n1) (.slice e1.2.1.a e1.2.1.n e1.2.1.c) (.slice (some ⟨g2, 0, none⟩) (s.n + 1) cap2) (.slice V3.a V3.n V3.c)
        have q9 := fun (W' : World) (hW' : Std w.heap.size _ W') => (unhide HEND).2.2 W' (fun q a b c => (hW' q a (lt_of_same (n9 q c) b)).trans (n9 q c))
        refine bodyPost_ret (results_cell_row rfl _ _ (w.heap.size + 1) 37 _ (0, 0) _ rfl k9 Tryz.underlying37 rfl (by kernel_rfl)) rfl ⟨(), e1.2.1, ⟨some ⟨g2, 0, none⟩, s.n + 1, cap2⟩, V3, rfl, fun W' hW' => (q9 W' hW').1, b9 _ _ (by omega) (unhide HEND).2.1⟩
    refine AllReadyH.cons (o := _) rfl (fun K hK => ?_) AllReadyH.nil
    go_simp
    refine hK.out _ _ ((unhide HSS) _ (o1.alloc (by have := lt_of_cell m2; simp only at this; omega) _)) (fun hHeld => ?_)
    clear hK K
    try dsimp only
    refine rdA 1 (fun K hK => ?_)
    go_simp
    refine hK.out _ _ (hHeld) (fun hHeld => ?_)
    clear hK K
    try dsimp only
    refine rdA 13 (fun K hK => ?_)
    refine step_append_lies _ (by rfl) (.tmp 72) (.tmp 83) 34 (by rfl) w4.heap.size 93 i0 (.agg #[.int .i64 0, .slice none 0 0]) 2 32 Tryz.underlying34 hi hz0 hz1 hz2 rfl (by decide) _ _ _ (by rfl) (by exact q3.alloc _) ⟨W1.heap.size, 0, none⟩ 1 1 [.int .i64 h.n1, .slice a1 nx.g.n c1] (by rfl) rfl (by exact two_at _ _ _ _) (by simp [Value.oneCell']) (by omega) (by unfold maxLen; omega) (by omega) (by simp; omega) _ rfl ?_
    intro g2 cap2 W2 hown2 hgrow2 hat2 hlt2
    obtain ⟨⟨u10, hu10⟩, hf10, o2, d2, I2⟩ := (unhide HST) W1 WW _ W2 a1 c1 g2 cap2 es (unhide HQ).1 (unhide HQ).2.1 (unhide HQ).2.2.1 (unhide HQ).2.2.2.1 (unhide HQ).2.2.2.2 (below_alloc W1 _) hown2 hgrow2 hat2
    have o3 := I2.old
    have HI2 := hide I2
    clear I2 hown2 hgrow2 hat2 hlt2
    refine hK.out _ _ ((unhide HSS) _ o2) (fun hHeld => ?_)
    clear hK K
    try dsimp only
    refine tkA 14 ?_
    try dsimp only
    refine rdA 15 (fun K hK => ?_)
    go_simp
    refine hK.out _ _ ((unhide HSS) _ o3) (fun hHeld => ?_)
    clear hK K
    try dsimp only
    refine wpAnyH_done (by kernel_rfl) ?_ _
    clear HQ q3 m2 m2a hu10 hf10 HCO HST hHeld
    have I2 := unhide HI2
    obtain ⟨W12, e12⟩ : ∃ W, W2.setCell ⟨gs, 2, none⟩ (.slice (some ⟨g2, 0, none⟩) (s.n + 1) cap2) = W := ⟨_, rfl⟩
    rw [e12] at I2 o3 ⊢
    clear e12 HI2 o1 o2 zW
    have b12 := (unhide HWB) W12 o3
    have kr12 : SBlk W12 (w.heap.size + 1) [.int .i64 0, .slice none 0 0, .slice none 0 0, .slice none 0 0] 37 := by
     exact (unhide HKR4).below o3 (by have := unhide HGS; have h3 := (unhide HB1).2.1.size; omega)
    obtain ⟨_, y1, _, _, y4, y5, _, _, y8, _, _⟩ := hcells ((unhide HKH).below b12 (unhide HKH).lt)
    obtain ⟨⟨v0, v1, v2, v3⟩, _, _, _, _⟩ := four_blk I2.blk
    obtain ⟨⟨r0, r1, r2, r3⟩, f0, f1, f2, f3⟩ := four_blk kr12
    have G12 := I2.row
    have K12 := (unhide HKP) W12 I2.keep
    have htl : nx.t.n = h.t.length := (unhide HOO).2.2.2.row.1.symm
    have HT12 := hide (And.intro kr12 (And.intro G12 (And.intro K12 (And.intro b12 I2.size))))
    by_cases ht : h.t.length = 0
    · have hR := (unhide HRY).trans (if_pos ht)
      subst hR
      have hn0 : nx.t.n = 0 := by omega
      clear G12 K12 kr12 b12 I2 o3 htl ht
      go_wp2_with fail
      obtain ⟨k9, n9, b9⟩ := ret4 (unhide HT12).1 (.int .i64 h.n1) (.slice e1.2.1.a e1.2.1.n e1.2.1.c) (.slice (some ⟨g2, 0, none⟩) (s.n + 1) cap2) (.slice V3.a V3.n V3.c)
      obtain ⟨kr12, G12, K12, b12, s12⟩ := unhide HT12
      have hgs := unhide HGS
      have hb1 := (unhide HB1).2.1.size
      refine bodyPost_ret (results_cell_row rfl _ _ (w.heap.size + 1) 37 _ (0, 0) _ rfl k9 Tryz.underlying37 rfl (by kernel_rfl)) rfl ⟨(), e1.2.1, ⟨some ⟨g2, 0, none⟩, s.n + 1, cap2⟩, V3, rfl, fun W' hW' => (unhide HEK) W' _ d2 (G12.frame (fun q a hB _ => (hW' q (by omega) (lt_of_same (n9 q (by omega)) a)).trans (n9 q (by omega)))) (fun q h1 h2 => (hW' q (by omega) (lt_of_same (n9 q (by omega)) (by omega))).trans ((n9 q (by omega)).trans (K12 q h1 h2))), b9 _ _ (by omega) b12⟩
    have hn0 : ¬ nx.t.n = 0 := by omega
    have hR := (unhide HRY).trans (if_neg ht)
    have hPO := unhide HYO
    have O12 := (unhide HEK) _ _ d2 G12 K12
    have HS15 : Hid (∀ W, Below W12.heap.size W12 W → (fun W => W.cell? ⟨gs, 0, none⟩ = some (.int .i64 h.n1) ∧ W.cell? ⟨gs, 1, none⟩ = some (.slice e1.2.1.a e1.2.1.n e1.2.1.c) ∧ W.cell? ⟨gs, 2, none⟩ = some (.slice (some ⟨g2, 0, none⟩) (s.n + 1) cap2) ∧ W.cell? ⟨gs, 3, none⟩ = some (.slice V3.a V3.n V3.c) ∧ W.cell? ⟨gh, 8, none⟩ = some (.slice nx.g.a nx.g.n nx.g.c) ∧ W.cell? ⟨gh, 4, none⟩ = some (.slice nx.t.a nx.t.n nx.t.c) ∧ W.cell? ⟨gh, 5, none⟩ = some (.int .i64 h.n5)) W) := fun W hb => ⟨(hb.cell (p := ⟨gs, 0, none⟩) (lt_of_cell v0)).trans v0, (hb.cell (p := ⟨gs, 1, none⟩) (lt_of_cell v1)).trans v1, (hb.cell (p := ⟨gs, 2, none⟩) (lt_of_cell v2)).trans v2, (hb.cell (p := ⟨gs, 3, none⟩) (lt_of_cell v3)).trans v3, (hb.cell (p := ⟨gh, 8, none⟩) (lt_of_cell y8)).trans y8, (hb.cell (p := ⟨gh, 4, none⟩) (lt_of_cell y4)).trans y4, (hb.cell (p := ⟨gh, 5, none⟩) (lt_of_cell y5)).trans y5⟩
    have HLC : ∀ W, Below W12.heap.size W12 W → Calls Tryz.prog 60 #[.agg (snvals ((), e1.2.1, ⟨some ⟨g2, 0, none⟩, s.n + 1, cap2⟩, V3) (h.n1, zss, (rs.filter (fun r => decide (bd < r.1))) ++ [(h.n1, h.g)], vz)), .slice nx.g.a nx.g.n nx.g.c, .slice nx.t.a nx.t.n nx.t.c, .bool (h.n5 == 1)] W fun r w' => ∃ e' : SnS, r = .returned (.tuple #[.agg (snvals e' (ctSn (h.n1, zss, (rs.filter (fun r => decide (bd < r.1))) ++ [(h.n1, h.g)], vz) h.g h.t (h.n5 == 1))), .int .i64 (ctCode (h.n1, zss, (rs.filter (fun r => decide (bd < r.1))) ++ [(h.n1, h.g)], vz) h.g h.t (h.n5 == 1))]) ∧ (∀ W' : World, Std W.heap.size w' W' → SNK.Ok W' ((), e1.2.1, ⟨some ⟨g2, 0, none⟩, s.n + 1, cap2⟩, V3) (h.n1, zss, (rs.filter (fun r => decide (bd < r.1))) ++ [(h.n1, h.g)], vz) → SNK.Ok W' e' (ctSn (h.n1, zss, (rs.filter (fun r => decide (bd < r.1))) ++ [(h.n1, h.g)], vz) h.g h.t (h.n5 == 1))) ∧ Below W.heap.size W w' ∧ Below W12.heap.size W12 w' ∧ (SBlk W W12.heap.size [.int .i64 0, .slice none 0 0, .slice none 0 0, .slice none 0 0] 37 → SBlk w' W12.heap.size [.int .i64 0, .slice none 0 0, .slice none 0 0, .slice none 0 0] 37) := fun W hb => by
     refine (l7Cast_any ((), e1.2.1, ⟨some ⟨g2, 0, none⟩, s.n + 1, cap2⟩, V3) (h.n1, zss, (rs.filter (fun r => decide (bd < r.1))) ++ [(h.n1, h.g)], vz) nx.g nx.t h.g h.t (h.n5 == 1) W (SNK.below O12 hb (Nat.le_refl _)) (snT_flt hPO).sm (bytesK.below (unhide HOO).2.2.1 (b12.trans (hb.mono b12.size)) (Nat.le_refl _)) (bytesK.below (unhide HOO).2.2.2 (b12.trans (hb.mono b12.size)) (Nat.le_refl _)) (by have := (unhide HZZ).2.2.2.g; omega) (by have := (unhide HZZ).2.2.2.t; omega) (unhide HZS).1 (by have := (unhide HZS).2; show zss.length ≤ 100000; omega)).mono ?_
     rintro r w' ⟨e', h1, h2, h3⟩
     exact ⟨e', h1, h2, h3, hb.trans (h3.mono hb.size), fun k => k.below h3 k.lt⟩
    generalize ctCode (h.n1, zss, (rs.filter (fun r => decide (bd < r.1))) ++ [(h.n1, h.g)], vz) h.g h.t (h.n5 == 1) = CC at HLC hR
    generalize ctSn (h.n1, zss, (rs.filter (fun r => decide (bd < r.1))) ++ [(h.n1, h.g)], vz) h.g h.t (h.n5 == 1) = CS at HLC hR
    unfold snvals at HLC
    dsimp only at HLC
    replace HLC := hide HLC
    have HO12 := hide O12
    have HRC := hide hR
    clear hR hPO O12 G12 K12 kr12 b12 I2 o3 htl ht
    go_upto_region 15 with fail
    clear v0 v1 v2 v3 y4 y5 y8 y1
    refine wp_region_held_drew (S := (fun W => W.cell? ⟨gs, 0, none⟩ = some (.int .i64 h.n1) ∧ W.cell? ⟨gs, 1, none⟩ = some (.slice e1.2.1.a e1.2.1.n e1.2.1.c) ∧ W.cell? ⟨gs, 2, none⟩ = some (.slice (some ⟨g2, 0, none⟩) (s.n + 1) cap2) ∧ W.cell? ⟨gs, 3, none⟩ = some (.slice V3.a V3.n V3.c) ∧ W.cell? ⟨gh, 8, none⟩ = some (.slice nx.g.a nx.g.n nx.g.c) ∧ W.cell? ⟨gh, 4, none⟩ = some (.slice nx.t.a nx.t.n nx.t.c) ∧ W.cell? ⟨gh, 5, none⟩ = some (.int .i64 h.n5))) (by kernel_rfl) ((unhide HS15) _ ((Below.refl W12.heap.size W12).drew)) (fun hHeld => ?_)
    refine tkA 0 ?_
    try dsimp only
    refine tkA 1 ?_
    try dsimp only
    refine tkA 2 ?_
    try dsimp only
    refine tkA 3 ?_
    try dsimp only
    refine tkA 4 ?_
    try dsimp only
    refine tkA 5 ?_
    try dsimp only
    refine tkA 6 ?_
    try dsimp only
    refine tkA 7 ?_
    try dsimp only
    refine tkA 8 ?_
    try dsimp only
    refine tkA 9 ?_
    try dsimp only
    refine tkA 10 ?_
    try dsimp only
    refine tkA 11 ?_
    try dsimp only
    refine tkA 12 ?_
    try dsimp only
    refine tkA 13 ?_
    try dsimp only
    refine wpAnyH_ready (rs := [14, 18]) (by kernel_rfl) (by simp) ?_
    refine AllReadyH.cons (o := _) rfl (fun K hK => ?_) ?_
    · skip
      go_simp
      go_at_call 60
      refine ((unhide HLC) _ (by first | exact (Below.refl W12.heap.size W12).drew | exact below_drewN (Below.refl W12.heap.size W12) _ | exact ((Below.refl W12.heap.size W12).alloc (Nat.le_refl _) _).drew | exact ((Below.refl W12.heap.size W12).drew.alloc (Nat.le_refl _) _) | exact below_drewN ((Below.refl W12.heap.size W12).alloc (Nat.le_refl _) _) _)).mono ?_
      rintro r w13 ⟨e13, rfl, hs13, b13, o13, hkz⟩
      try (have kz := hkz (SBlk.new W12 #[.int .i64 0, .slice none 0 0, .slice none 0 0, .slice none 0 0] 37); obtain ⟨⟨q0, q1, q2, q3⟩, p0, p1, p2, p3⟩ := four_blk kz)
      (try dsimp only)
      refine hK.out _ _ ((unhide HS15) _ o13) (fun hHeld => ?_)
      clear hK K
      try dsimp only
      refine tkA 15 ?_
      try dsimp only
      refine tkA 16 ?_
      try dsimp only
      refine tkA 17 ?_
      try dsimp only
      refine rdA 18 (fun K hK => ?_)
      go_simp
      refine hK.out _ _ ((unhide HS15) _ (by first | exact o13.alloc o13.size _ | exact ((Below.refl W12.heap.size W12).drew.alloc (Nat.le_refl _) _) | exact ((Below.refl W12.heap.size W12).alloc (Nat.le_refl _) _).drew | exact below_drewN ((Below.refl W12.heap.size W12).alloc (Nat.le_refl _) _) _)) (fun hHeld => ?_)
      clear hK K
      try dsimp only
      refine rdA 19 (fun K hK => ?_)
      go_simp
      refine hK.out _ _ ((unhide HS15) _ (by first | exact o13.alloc o13.size _ | ((repeat (refine Below.setCell ?_ (by first | exact Nat.le_refl _ | exact o13.size) _)) <;> first | assumption | exact o13.alloc o13.size _))) (fun hHeld => ?_)
      clear hK K
      try dsimp only
      refine tkA 20 ?_
      try dsimp only
      refine wpAnyH_done (by kernel_rfl) ?_ _
      clear hHeld HLC
      first
       | (have nx := nx_early (e := e13) (x := CS) o13 kz
          clear q0 q1 q2 q3 p0 p1 p2 p3 kz
          obtain ⟨W14, e14⟩ : ∃ W, ((((w13.setCell ⟨W12.heap.size, 0, none⟩ (.int .i64 CS.1)).setCell ⟨W12.heap.size, 1, none⟩ (.slice e13.2.1.a e13.2.1.n e13.2.1.c)).setCell ⟨W12.heap.size, 2, none⟩ (.slice e13.2.2.1.a e13.2.2.1.n e13.2.2.1.c)).setCell ⟨W12.heap.size, 3, none⟩ (.slice e13.2.2.2.a e13.2.2.2.n e13.2.2.2.c)) = W := ⟨_, rfl⟩
          obtain ⟨gq, egq⟩ : ∃ g, g = W12.heap.size := ⟨_, rfl⟩
          rw [← egq] at e14 nx ⊢
          rw [e14] at nx ⊢
          have EGQ := hide egq
          clear e14 egq)
       | (have nx := nx_late e13 CS o13
          obtain ⟨W14, e14⟩ : ∃ W, w13.alloc (.cells #[.int .i64 CS.1, .slice e13.2.1.a e13.2.1.n e13.2.1.c, .slice e13.2.2.1.a e13.2.2.1.n e13.2.2.1.c, .slice e13.2.2.2.a e13.2.2.2.n e13.2.2.2.c] 37) = W := ⟨_, rfl⟩
          obtain ⟨gq, egq⟩ : ∃ g, g = w13.heap.size := ⟨_, rfl⟩
          rw [← egq] at nx ⊢
          rw [e14] at nx ⊢
          have EGQ := hide egq
          clear e14 egq)
      obtain ⟨t12, G12, K12, b12, s12⟩ := unhide HT12
      have t14 := t12.below nx.old t12.lt
      obtain ⟨⟨r0, r1, r2, r3⟩, f0, f1, f2, f3⟩ := four_blk t14
      obtain ⟨v0, v1, v2, v3, _, _, _⟩ := (unhide HS15) W14 nx.old
      obtain ⟨⟨x0, x1, x2, x3⟩, _, _, _, _⟩ := four_blk nx.blk
      have HEND : Hid (SBlk W14 (w.heap.size + 1) [.int .i64 0, .slice none 0 0, .slice none 0 0, .slice none 0 0] 37 ∧ Below w.heap.size w W14 ∧ (∀ W : World, (∀ q, w.heap.size ≤ q → q < W14.heap.size → q ≠ w.heap.size + 1 → W.heap[q]? = W14.heap[q]?) → SNK.Ok W ((), e1.2.1, ⟨some ⟨g2, 0, none⟩, s.n + 1, cap2⟩, V3) (h.n1, zss, (rs.filter (fun r => decide (bd < r.1))) ++ [(h.n1, h.g)], vz) ∧ (SNK.Ok W ((), e1.2.1, ⟨some ⟨g2, 0, none⟩, s.n + 1, cap2⟩, V3) (h.n1, zss, (rs.filter (fun r => decide (bd < r.1))) ++ [(h.n1, h.g)], vz) → SNK.Ok W e13 CS))) := by
       have hgs := unhide HGS
       have hb1 := (unhide HB1).2.1.size
       have hb4 := s12
       have hg4' := hg4
       have hgq := unhide EGQ
       have hnl := nx.low
       have ho14 := nx.old.size
       have hb14 := nx.big
       have hbw := b12.size
       refine ⟨t14, b12.trans (nx.old.mono b12.size), fun W hW => ⟨(unhide HEK) _ _ d2 (G12.frame (fun q a b _ => (hW q (by omega) (by omega) (by omega)).trans (nx.old.block q a))) (fun q a b => (hW q (by omega) (by omega) (by omega)).trans ((nx.old.block q (by omega)).trans (K12 q a b))), fun hk => hs13 W (fun q a b => ?_) hk⟩⟩
       have hsz : W12.heap.size ≤ q ∧ q ≠ gq := by
        first
         | (have a2 : (W12.alloc (.cells #[.int .i64 0, .slice none 0 0, .slice none 0 0, .slice none 0 0] 37)).heap.size ≤ q := a
            simp at a2
            omega)
         | (have a2 : W12.heap.size ≤ q := a
            omega)
       rw [hW q (by omega) (by omega) (by omega)]
       exact nx.same q hsz.2 b
      clear nx t12 G12 K12 b12 s12 t14 hs13 o13 hkz
      try clear b13
      by_cases hC : CC = 0
      · have hR := (unhide HRC).trans (if_pos hC)
        subst hR
        subst hC
        go_wp2_with fail
        obtain ⟨k9, n9, b9⟩ := ret4 (unhide HEND).1 (.int .i64 R.1) (.slice e13.2.1.a e13.2.1.n e13.2.1.c) (.slice e13.2.2.1.a e13.2.2.1.n e13.2.2.1.c) (.slice e13.2.2.2.a e13.2.2.2.n e13.2.2.2.c)
        have q9 := fun (W' : World) (hW' : Std w.heap.size _ W') => (unhide HEND).2.2 W' (fun q a b c => (hW' q a (lt_of_same (n9 q c) b)).trans (n9 q c))
        refine bodyPost_ret (results_cell_row rfl _ _ (w.heap.size + 1) 37 _ (0, 0) _ rfl k9 Tryz.underlying37 rfl (by kernel_rfl)) rfl ⟨(), e13.2.1, e13.2.2.1, e13.2.2.2, rfl, fun W' hW' => (q9 W' hW').2 (q9 W' hW').1, b9 _ _ (by omega) (unhide HEND).2.1⟩
      · have hR := (unhide HRC).trans (if_neg hC)
        subst hR
        have hC1 : (CC != 0) = true := by simp [hC]
        go_wp2_with fail
        obtain ⟨k9, n9, b9⟩ := ret4 (unhide HEND).1 (.int .i64 h.n1) (.slice e1.2.1.a e1.2.1.n e1.2.1.c) (.slice (some ⟨g2, 0, none⟩) (s.n + 1) cap2) (.slice V3.a V3.n V3.c)
        have q9 := fun (W' : World) (hW' : Std w.heap.size _ W') => (unhide HEND).2.2 W' (fun q a b c => (hW' q a (lt_of_same (n9 q c) b)).trans (n9 q c))
        refine bodyPost_ret (results_cell_row rfl _ _ (w.heap.size + 1) 37 _ (0, 0) _ rfl k9 Tryz.underlying37 rfl (by kernel_rfl)) rfl ⟨(), e1.2.1, ⟨some ⟨g2, 0, none⟩, s.n + 1, cap2⟩, V3, rfl, fun W' hW' => (q9 W' hW').1, b9 _ _ (by omega) (unhide HEND).2.1⟩
    refine AllReadyH.cons (o := _) rfl (fun K hK => ?_) AllReadyH.nil
    go_simp
    refine hK.out _ _ ((unhide HS15) _ (by first | exact o13.alloc o13.size _ | exact ((Below.refl W12.heap.size W12).drew.alloc (Nat.le_refl _) _) | exact ((Below.refl W12.heap.size W12).alloc (Nat.le_refl _) _).drew | exact below_drewN ((Below.refl W12.heap.size W12).alloc (Nat.le_refl _) _) _)) (fun hHeld => ?_)
    clear hK K
    try dsimp only
    refine rdA 14 (fun K hK => ?_)
    go_simp
    go_at_call 60
    refine ((unhide HLC) _ (by first | exact (Below.refl W12.heap.size W12).drew | exact below_drewN (Below.refl W12.heap.size W12) _ | exact ((Below.refl W12.heap.size W12).alloc (Nat.le_refl _) _).drew | exact ((Below.refl W12.heap.size W12).drew.alloc (Nat.le_refl _) _) | exact below_drewN ((Below.refl W12.heap.size W12).alloc (Nat.le_refl _) _) _)).mono ?_
    rintro r w13 ⟨e13, rfl, hs13, b13, o13, hkz⟩
    try (have kz := hkz (SBlk.new W12 #[.int .i64 0, .slice none 0 0, .slice none 0 0, .slice none 0 0] 37); obtain ⟨⟨q0, q1, q2, q3⟩, p0, p1, p2, p3⟩ := four_blk kz)
    (try dsimp only)
    refine hK.out _ _ ((unhide HS15) _ o13) (fun hHeld => ?_)
    clear hK K
    try dsimp only
    refine tkA 15 ?_
    try dsimp only
    refine tkA 16 ?_
    try dsimp only
    refine tkA 17 ?_
    try dsimp only
    refine rdA 19 (fun K hK => ?_)
    go_simp
    refine hK.out _ _ ((unhide HS15) _ (by first | exact o13.alloc o13.size _ | ((repeat (refine Below.setCell ?_ (by first | exact Nat.le_refl _ | exact o13.size) _)) <;> first | assumption | exact o13.alloc o13.size _))) (fun hHeld => ?_)
    clear hK K
    try dsimp only
    refine tkA 20 ?_
    try dsimp only
    refine wpAnyH_done (by kernel_rfl) ?_ _
    clear hHeld HLC
    first
     | (have nx := nx_early (e := e13) (x := CS) o13 kz
        clear q0 q1 q2 q3 p0 p1 p2 p3 kz
        obtain ⟨W14, e14⟩ : ∃ W, ((((w13.setCell ⟨W12.heap.size, 0, none⟩ (.int .i64 CS.1)).setCell ⟨W12.heap.size, 1, none⟩ (.slice e13.2.1.a e13.2.1.n e13.2.1.c)).setCell ⟨W12.heap.size, 2, none⟩ (.slice e13.2.2.1.a e13.2.2.1.n e13.2.2.1.c)).setCell ⟨W12.heap.size, 3, none⟩ (.slice e13.2.2.2.a e13.2.2.2.n e13.2.2.2.c)) = W := ⟨_, rfl⟩
        obtain ⟨gq, egq⟩ : ∃ g, g = W12.heap.size := ⟨_, rfl⟩
        rw [← egq] at e14 nx ⊢
        rw [e14] at nx ⊢
        have EGQ := hide egq
        clear e14 egq)
     | (have nx := nx_late e13 CS o13
        obtain ⟨W14, e14⟩ : ∃ W, w13.alloc (.cells #[.int .i64 CS.1, .slice e13.2.1.a e13.2.1.n e13.2.1.c, .slice e13.2.2.1.a e13.2.2.1.n e13.2.2.1.c, .slice e13.2.2.2.a e13.2.2.2.n e13.2.2.2.c] 37) = W := ⟨_, rfl⟩
        obtain ⟨gq, egq⟩ : ∃ g, g = w13.heap.size := ⟨_, rfl⟩
        rw [← egq] at nx ⊢
        rw [e14] at nx ⊢
        have EGQ := hide egq
        clear e14 egq)
    obtain ⟨t12, G12, K12, b12, s12⟩ := unhide HT12
    have t14 := t12.below nx.old t12.lt
    obtain ⟨⟨r0, r1, r2, r3⟩, f0, f1, f2, f3⟩ := four_blk t14
    obtain ⟨v0, v1, v2, v3, _, _, _⟩ := (unhide HS15) W14 nx.old
    obtain ⟨⟨x0, x1, x2, x3⟩, _, _, _, _⟩ := four_blk nx.blk
    have HEND : Hid (SBlk W14 (w.heap.size + 1) [.int .i64 0, .slice none 0 0, .slice none 0 0, .slice none 0 0] 37 ∧ Below w.heap.size w W14 ∧ (∀ W : World, (∀ q, w.heap.size ≤ q → q < W14.heap.size → q ≠ w.heap.size + 1 → W.heap[q]? = W14.heap[q]?) → SNK.Ok W ((), e1.2.1, ⟨some ⟨g2, 0, none⟩, s.n + 1, cap2⟩, V3) (h.n1, zss, (rs.filter (fun r => decide (bd < r.1))) ++ [(h.n1, h.g)], vz) ∧ (SNK.Ok W ((), e1.2.1, ⟨some ⟨g2, 0, none⟩, s.n + 1, cap2⟩, V3) (h.n1, zss, (rs.filter (fun r => decide (bd < r.1))) ++ [(h.n1, h.g)], vz) → SNK.Ok W e13 CS))) := by
     have hgs := unhide HGS
     have hb1 := (unhide HB1).2.1.size
     have hb4 := s12
     have hg4' := hg4
     have hgq := unhide EGQ
     have hnl := nx.low
     have ho14 := nx.old.size
     have hb14 := nx.big
     have hbw := b12.size
     refine ⟨t14, b12.trans (nx.old.mono b12.size), fun W hW => ⟨(unhide HEK) _ _ d2 (G12.frame (fun q a b _ => (hW q (by omega) (by omega) (by omega)).trans (nx.old.block q a))) (fun q a b => (hW q (by omega) (by omega) (by omega)).trans ((nx.old.block q (by omega)).trans (K12 q a b))), fun hk => hs13 W (fun q a b => ?_) hk⟩⟩
     have hsz : W12.heap.size ≤ q ∧ q ≠ gq := by
      first
       | (have a2 : (W12.alloc (.cells #[.int .i64 0, .slice none 0 0, .slice none 0 0, .slice none 0 0] 37)).heap.size ≤ q := a
          simp at a2
          omega)
       | (have a2 : W12.heap.size ≤ q := a
          omega)
     rw [hW q (by omega) (by omega) (by omega)]
     exact nx.same q hsz.2 b
    clear nx t12 G12 K12 b12 s12 t14 hs13 o13 hkz
    try clear b13
    by_cases hC : CC = 0
    · have hR := (unhide HRC).trans (if_pos hC)
      subst hR
      subst hC
      go_wp2_with fail
      obtain ⟨k9, n9, b9⟩ := ret4 (unhide HEND).1 (.int .i64 R.1) (.slice e13.2.1.a e13.2.1.n e13.2.1.c) (.slice e13.2.2.1.a e13.2.2.1.n e13.2.2.1.c) (.slice e13.2.2.2.a e13.2.2.2.n e13.2.2.2.c)
      have q9 := fun (W' : World) (hW' : Std w.heap.size _ W') => (unhide HEND).2.2 W' (fun q a b c => (hW' q a (lt_of_same (n9 q c) b)).trans (n9 q c))
      refine bodyPost_ret (results_cell_row rfl _ _ (w.heap.size + 1) 37 _ (0, 0) _ rfl k9 Tryz.underlying37 rfl (by kernel_rfl)) rfl ⟨(), e13.2.1, e13.2.2.1, e13.2.2.2, rfl, fun W' hW' => (q9 W' hW').2 (q9 W' hW').1, b9 _ _ (by omega) (unhide HEND).2.1⟩
    · have hR := (unhide HRC).trans (if_neg hC)
      subst hR
      have hC1 : (CC != 0) = true := by simp [hC]
      go_wp2_with fail
      obtain ⟨k9, n9, b9⟩ := ret4 (unhide HEND).1 (.int .i64 h.n1) (.slice e1.2.1.a e1.2.1.n e1.2.1.c) (.slice (some ⟨g2, 0, none⟩) (s.n + 1) cap2) (.slice V3.a V3.n V3.c)
      have q9 := fun (W' : World) (hW' : Std w.heap.size _ W') => (unhide HEND).2.2 W' (fun q a b c => (hW' q a (lt_of_same (n9 q c) b)).trans (n9 q c))
      refine bodyPost_ret (results_cell_row rfl _ _ (w.heap.size + 1) 37 _ (0, 0) _ rfl k9 Tryz.underlying37 rfl (by kernel_rfl)) rfl ⟨(), e1.2.1, ⟨some ⟨g2, 0, none⟩, s.n + 1, cap2⟩, V3, rfl, fun W' hW' => (q9 W' hW').1, b9 _ _ (by omega) (unhide HEND).2.1⟩
end Go.Proofs.YtdmcmlcmgbbclaaGreat
