/- What is proved here: what the model's l7Copy answers: a snapshot that reads as the given one. -/
import Derived.Test.YtdmcmlcmgbbclaaGreatK0
import Derived.Test.YtdmcmlcmgbbclaaGreatJ8
import Derived.Test.YtdmcmlcmgbbclaaGreatJ10
namespace Go.Proofs.YtdmcmlcmgbbclaaGreat
set_option linter.unusedVariables false
set_option linter.unusedSimpArgs false
open Go.RowKit
set_option maxRecDepth 100000

set_option maxHeartbeats 16000000 in
theorem l7Copy_any (e : SnS) (x : Sn) (w : World) (o : SNK.Ok w e x) (m : SnSm x) :
    Calls Tryz.prog 57 #[.agg (snvals e x)] w fun r w' => ∃ e' : SnS, r = .returned (.agg (snvals e' x)) ∧ (∀ W : World, (∀ g, w.heap.size + 2 ≤ g → g < w'.heap.size → W.heap[g]? = w'.heap[g]?) → SNK.Ok W e' x) ∧ Below w.heap.size w w' := by
 obtain ⟨kb, kr, bb⟩ := two_sblk w (snvals e x) #[.int .i64 0, .slice none 0 0, .slice none 0 0, .slice none 0 0] 37 37
 have z0 : ((w.alloc (.cells (snvals e x) 37)).alloc (.cells #[.int .i64 0, .slice none 0 0, .slice none 0 0, .slice none 0 0] 37)).heap.size = w.heap.size + 2 := by simp
 obtain ⟨W0, e0⟩ : ∃ W, (w.alloc (.cells (snvals e x) 37)).alloc (.cells #[.int .i64 0, .slice none 0 0, .slice none 0 0, .slice none 0 0] 37) = W := ⟨_, rfl⟩
 rw [e0] at kb kr bb z0
 have EA := hide e0
 clear e0
 have HP := hide (fun (W : World) (hb : Below W0.heap.size W0 W) => l5Lists_any 6 8 (by intro i; omega) e.2.1.a e.2.1.n e.2.1.c x.2.1 W (bs_of_row (RowOk.below o.2.1 (bb.trans (hb.mono bb.size)) (Nat.le_refl _))) (bsnil_of_row (RowOk.below o.2.1 (bb.trans (hb.mono bb.size)) (Nat.le_refl _))) (by have := o.2.1.len; have := m.s; omega) m.sz)
 have HKB := hide (fun (W : World) (hb : Below W0.heap.size W0 W) => kb.below hb kb.lt)
 have HKR := hide (fun (W : World) (hb : Below W0.heap.size W0 W) => kr.below hb kr.lt)
 have HBB := hide bb
 have HZ0 := hide z0
 have HO := hide o
 have HM := hide m
 have c0 := kb.cell 0
 have c1 := kb.cell 1
 simp only [snvals, List.getElem?_cons_zero, List.getElem?_cons_succ] at c0 c1
 obtain ⟨n, zss, rs, vs⟩ := x
 obtain ⟨⟨⟩, sg, sr, sv⟩ := e
 simp only at HP c0 c1 HO
 have HS : Hid (∀ W, Below W0.heap.size W0 W → W.cell? ⟨w.heap.size, 0, none⟩ = some (.int .i64 n) ∧ W.cell? ⟨w.heap.size, 1, none⟩ = some (.slice sg.a sg.n sg.c)) := fun W hb => ⟨((unhide HKB) W hb).cell 0, ((unhide HKB) W hb).cell 1⟩
 clear kb kr bb z0 o m
 unfold snvals at EA ⊢
 go_enter Tryz.func57, Tryz.ntmps57
 go_upto_region 1 with fail
 rw [unhide EA]
 clear EA
 have HBZ : Hid (Below W0.heap.size W0 (W0.alloc (Obj.cells #[Value.int IntKind.i64 0, Value.slice none 0 0, Value.slice none 0 0, Value.slice none 0 0] 37)).drew) := ((Below.refl W0.heap.size W0).alloc (Nat.le_refl _) _).drew
 have HKZ : Hid (∀ W, Below ((W0.alloc (Obj.cells #[Value.int IntKind.i64 0, Value.slice none 0 0, Value.slice none 0 0, Value.slice none 0 0] 37)).drew).heap.size ((W0.alloc (Obj.cells #[Value.int IntKind.i64 0, Value.slice none 0 0, Value.slice none 0 0, Value.slice none 0 0] 37)).drew) W → SBlk W W0.heap.size [.int .i64 0, .slice none 0 0, .slice none 0 0, .slice none 0 0] 37) := fun W hb => by
  have k : SBlk ((W0.alloc (Obj.cells #[Value.int IntKind.i64 0, Value.slice none 0 0, Value.slice none 0 0, Value.slice none 0 0] 37)).drew) W0.heap.size [.int .i64 0, .slice none 0 0, .slice none 0 0, .slice none 0 0] 37 := SBlk.new W0 #[.int .i64 0, .slice none 0 0, .slice none 0 0, .slice none 0 0] 37
  exact k.below hb k.lt
 go_region_held3 (fun W => W.cell? ⟨w.heap.size, 0, none⟩ = some (.int .i64 n) ∧ W.cell? ⟨w.heap.size, 1, none⟩ = some (.slice sg.a sg.n sg.c))
  (exact (unhide HS) _ (by first | assumption | exact (Below.refl W0.heap.size W0).drew | exact unhide HBZ | exact J5.alloc J5.size _ | (repeat (refine Below.setCell ?_ (by first | exact Nat.le_refl _ | exact J5.size) _)) <;> first | assumption | exact J5.alloc J5.size _))
  (first
   | (go_at_call 89; refine ((unhide HP) _ (Below.refl W0.heap.size W0).drew).mono ?_; rintro r w5 ⟨s5, d5, rfl, r5, b5⟩; have J5 : Below W0.heap.size W0 w5 := ((Below.refl W0.heap.size W0).drew).trans (b5.mono (Nat.le_refl _)); have r5 : CS w5 W0.heap.size d5 6 8 s5 zss := r5; have kz : True := trivial)
   | (go_at_call 89; refine ((unhide HP) _ (unhide HBZ)).mono ?_; rintro r w5 ⟨s5, d5, rfl, r5, b5⟩; have J5 : Below W0.heap.size W0 w5 := (unhide HBZ).trans (b5.mono (unhide HBZ).size); have r5 : CS w5 (W0.heap.size + 1) d5 6 8 s5 zss := (by simpa using r5); have kz := (unhide HKZ) _ b5; have q0 := kz.cell 0; have q1 := kz.cell 1; have q2 := kz.cell 2; have q3 := kz.cell 3; have y0 := kz.free 0; have y1 := kz.free 1; have y2 := kz.free 2; have y3 := kz.free 3; simp only [List.getElem?_cons_zero, List.getElem?_cons_succ] at q0 q1 q2 q3))
 all_goals
  have HCP : ∃ (gs : Nat) (W6 : World), CpW W0 W6 gs n s5 zss := by
   first
    | exact ⟨_, _, cpw_early r5 J5 kz⟩
    | exact ⟨_, _, cpw_late (W0 := W0) r5 J5⟩
  clear HCP
  first
   | (have cp := cpw_early (n := n) r5 J5 kz
      clear q0 q1 q2 q3 y0 y1 y2 y3
      obtain ⟨gs, eg⟩ : ∃ g, g = W0.heap.size := ⟨_, rfl⟩
      rw [← eg] at cp
      obtain ⟨W6, e6⟩ : ∃ W, ((((w5.setCell ⟨gs, 0, none⟩ (.int .i64 n)).setCell ⟨gs, 1, none⟩ (.slice s5.a s5.n s5.c)).setCell ⟨gs, 2, none⟩ (.slice none 0 0)).setCell ⟨gs, 3, none⟩ (.slice none 0 0)) = W := ⟨_, rfl⟩
      rw [← eg, e6]
      rw [e6] at cp
      clear eg e6 kz)
   | (have cp := cpw_late (W0 := W0) (n := n) r5 J5
      obtain ⟨W6, e6⟩ : ∃ W, w5.alloc (.cells #[.int .i64 n, .slice s5.a s5.n s5.c, .slice none 0 0, .slice none 0 0] 37) = W := ⟨_, rfl⟩
      obtain ⟨gs, eg⟩ : ∃ g, g = w5.heap.size := ⟨_, rfl⟩
      rw [e6, ← eg]
      rw [e6, ← eg] at cp
      clear eg e6 kz)
  clear r5 J5 b5 c0 c1 HP HS HBZ HKZ
  have HCP := hide cp
  have z6 : W0.heap.size ≤ W6.heap.size := cp.old.size
  have HIR := hide (info_parts infoRc)
  have H0 : Hid (RcInv W6 W0.heap.size gs W6.heap.size n s5 rs 0 W6 ⟨none, 0, 0⟩ (fun _ => [])) := ⟨cp.blk, RowG.nil _ _ _ _ _ _, fun _ _ _ => rfl, Below.refl _ _, Nat.le_refl _, cp.blk.lt, cp.low⟩
  have hsr : sr.n = rs.length := (unhide HO).2.2.1.len
  have hsv : sv.n = vs.length := (unhide HO).2.2.2.len
  have hrl : sr.n ≤ 1048576 := by have := (unhide HM).r; simp only at this; omega
  have HSR := hide hsr
  have HX2 : Hid (∀ W, Below W0.heap.size W6 W → W.cell? ⟨w.heap.size, 2, none⟩ = some (.slice sr.a sr.n sr.c)) := fun W hb => ((unhide HKB) W ((unhide HCP).old.trans (hb.mono (Nat.le_refl _)))).cell 2
  have HRO : Hid (∀ W, Below W0.heap.size W6 W → RowOk rcK W sr rs) := fun W hb => RowOk.below (unhide HO).2.2.1 ((unhide HBB).trans (((unhide HCP).old.trans (hb.mono (Nat.le_refl _))).mono (unhide HBB).size)) (Nat.le_refl _)
  have HRZ : Hid (∀ y ∈ rs, y.2.length ≤ 1048576) := fun y hy => by have := (unhide HM).rz y hy; unfold rcSz at this; exact this
  have x2 := (unhide HX2) W6 (Below.refl _ _)
  clear cp hsr hsv
  go_wp2_with fail
  go_loopw [4] (fun i wr => ∃ (k : Nat) (s : Sl) (d : Nat → Path), k ≤ sr.n ∧ i = .int .i64 k ∧ RcInv W6 W0.heap.size gs W6.heap.size n s5 rs k wr s d) (fun i _ => sr.n - (intOf i).toNat)
  case atStart => exact ⟨0, _, _, Nat.zero_le _, rfl, unhide H0⟩
  case round =>
   obtain ⟨k, s, d, hk, rfl, I⟩ := hrel
   clear H0 x2
   have x2 := (unhide HX2) wr I.old
   by_cases hlt : k < sr.n
   · obtain ⟨b, off, ea, hb, hc⟩ := (unhide HO).2.2.1.pos (by show 0 < sr.n; omega)
     simp only at ea hc
     obtain ⟨y, hy⟩ : ∃ v, rs[k]? = some v := ⟨_, List.getElem?_eq_getElem (by rw [← unhide HSR]; exact hlt)⟩
     obtain ⟨⟨⟨⟩, t⟩, c, oo⟩ := hc k y hy
     obtain ⟨q, z⟩ := y
     have c0' := c 0 _ rfl
     have c1' := c 1 _ rfl
     simp only [Nat.add_zero, show rcK.m = 2 from rfl] at c0' c1'
     have zl : z.length ≤ 1048576 := (unhide HRZ) _ (List.mem_of_getElem? hy)
     have tn : t.n = z.length := oo.2.row.1.symm
     obtain ⟨i0, hi, hz0, hz1, hz2⟩ := unhide HIR
     have HWB : Hid (∀ W, Below W0.heap.size W6 W → Below w.heap.size w W) := fun W hbW => (unhide HBB).trans (((unhide HCP).old.trans (hbW.mono (Nat.le_refl _))).mono (unhide HBB).size)
     have HCO : Hid (∀ W, Below wr.heap.size wr W → Calls Tryz.prog 59 #[.slice t.a t.n t.c] W fun e w' => ∃ (a1 : Option Addr) (c1 : Nat) (es : List RcS) (WW : World), e = .returned (.slice a1 t.n c1) ∧ w'.cell? ⟨gs, 2, none⟩ = some (.slice s.a s.n s.c) ∧ Below W0.heap.size W6 w' ∧ w'.ownsRow W6.heap.size 93 2 (.slice s.a s.n s.c) s.n (flatV rcK es (rs.take k)) ∧ W6.heap.size ≤ w'.heap.size ∧ Hid (RcInv W6 W0.heap.size gs W6.heap.size n s5 rs k WW s d ∧ w'.ownsRow WW.heap.size 5 1 (.slice a1 t.n c1) t.n (z.map (Value.int .u8)) ∧ Below WW.heap.size WW w' ∧ es.length = (rs.take k).length ∧ ∀ i e x, es[i]? = some e → (rs.take k)[i]? = some x → rcK.Own WW W6.heap.size d ([] ++ [i]) e x)) := fun W hbW => by
      have IW := I.below hbW
      have oW := bytesK.below oo.2 ((unhide HWB) W IW.old) (Nat.le_refl _)
      refine (copy_any t.a t.n t.c z W oW.row oW.nil (by omega)).mono ?_
      rintro e w' ⟨a1, c1, rfl, ho, hb'⟩
      have I' := IW.below hb'
      obtain ⟨es', e2', e3', e4', e5'⟩ := IW.row.all
      exact ⟨a1, c1, es', W, rfl, I'.blk.cell 2, I'.old, own_below e3' hb' (Nat.le_refl _), I'.size, ⟨IW, ho, hb', e2', e5'⟩⟩
     have HST := hide (fun (W1 WW WA W2 : World) (a1 : Option Addr) (c1 g2 cap2 : Nat) (es : List RcS) (I1 : RcInv W6 W0.heap.size gs W6.heap.size n s5 rs k WW s d) (ho : W1.ownsRow WW.heap.size 5 1 (.slice a1 t.n c1) t.n (z.map (Value.int .u8))) (hbW : Below WW.heap.size WW W1) (e2) (e5) (bA : Below W1.heap.size W1 WA) (hown) (hg) (hat) => RcInv.step (W1 := W1) (WA := WA) (W2 := W2) (g2 := g2) (cap2 := cap2) (es := es) I1 hy oo.1 oo.2.row.2.1 ho hbW bA e2 e5 hown hg hat)
     have g2c := I.blk.cell 2
     simp only [List.getElem?_cons_zero, List.getElem?_cons_succ] at g2c
     have hsn : s.n ≤ 1048576 := by have := I.row.len; rw [this, List.length_take]; omega
     have k1 : (0 : Int) ≤ (k : Int) := by omega
     have k2 : (k : Int) < (sr.n : Int) := by omega
     have HC0 : Hid (∀ W, Below w.heap.size w W → W.cell? ⟨b, off + k * 2, none⟩ = some (.int .i64 q) ∧ W.cell? ⟨b, off + k * 2 + 1, none⟩ = some (.slice t.a t.n t.c)) := fun W hbW => ⟨(hbW.cell (p := ⟨b, off + k * 2, none⟩) hb).trans c0', (hbW.cell (p := ⟨b, off + k * 2 + 1, none⟩) hb).trans c1'⟩
     obtain ⟨sra, srn, src⟩ := sr
     simp only at ea
     subst ea
     have HSS : Hid (∀ W, Below W0.heap.size W6 W → (fun W => W.cell? ⟨w.heap.size, 2, none⟩ = some (.slice (some ⟨b, off, none⟩) srn src) ∧ W.cell? ⟨b, off + k * 2, none⟩ = some (.int .i64 q) ∧ W.cell? ⟨b, off + k * 2 + 1, none⟩ = some (.slice t.a t.n t.c)) W) := fun W hbW => ⟨(unhide HX2) W hbW, (unhide HC0) W ((unhide HWB) W hbW)⟩
     have HO1 := hide I.old
     have zlo : W0.heap.size ≤ gs := I.low
     clear I hc c oo hy zl tn c0' c1'
     simp only at k2 hlt hk
     have hrl' : srn ≤ 1048576 := hrl
     go_upto_region 5 with fail
     refine wp_region_held_drew (S := (fun W => W.cell? ⟨w.heap.size, 2, none⟩ = some (.slice (some ⟨b, off, none⟩) srn src) ∧ W.cell? ⟨b, off + k * 2, none⟩ = some (.int .i64 q) ∧ W.cell? ⟨b, off + k * 2 + 1, none⟩ = some (.slice t.a t.n t.c))) (by kernel_rfl) ((unhide HSS) _ ((unhide HO1).drew)) (fun hHeld => ?_)
     refine tkA 0 ?_
     try dsimp only
     refine tkA 2 ?_
     try dsimp only
     refine tkA 3 ?_
     try dsimp only
     refine tkA 4 ?_
     try dsimp only
     refine tkA 5 ?_
     try dsimp only
     refine tkA 6 ?_
     try dsimp only
     refine tkA 7 ?_
     try dsimp only
     refine tkA 8 ?_
     try dsimp only
     refine tkA 9 ?_
     try dsimp only
     refine tkA 10 ?_
     try dsimp only
     refine tkA 11 ?_
     try dsimp only
     refine tkA 12 ?_
     try dsimp only
     refine tkA 13 ?_
     try dsimp only
     refine wpAnyH_ready (rs := [1, 14]) (by kernel_rfl) (by simp) ?_
     refine AllReadyH.cons (o := _) rfl (fun K hK => ?_) ?_
     · skip
       go_simp
       refine hK.out _ _ (hHeld) (fun hHeld => ?_)
       clear hK K
       try dsimp only
       refine rdA 14 (fun K hK => ?_)
       go_simp
       go_at_call 59
       refine ((unhide HCO) _ (by first | exact (Below.refl wr.heap.size wr).drew | exact below_drewN (Below.refl wr.heap.size wr) _)).mono ?_
       rintro e W1 ⟨a1, c1, es, WW, rfl, m2, o1, q3, zW, HQ⟩
       have m2a : ∀ o, (W1.alloc o).cell? ⟨gs, 2, none⟩ = some (.slice s.a s.n s.c) := fun o => ((below_alloc W1 o).cell (lt_of_cell m2)).trans m2
       (try dsimp only)
       refine hK.out _ _ ((unhide HSS) _ o1) (fun hHeld => ?_)
       clear hK K
       try dsimp only
       refine tkA 15 ?_
       try dsimp only
       refine rdA 16 (fun K hK => ?_)
       go_simp
       refine hK.out _ _ ((unhide HSS) _ (o1.alloc (Nat.le_trans (Nat.le_trans zlo (Nat.le_of_lt (lt_of_cell m2))) (Nat.le_refl _)) _)) (fun hHeld => ?_)
       clear hK K
       try dsimp only
       refine rdA 17 (fun K hK => ?_)
       refine step_append_lies _ (by rfl) (.tmp 21) (.tmp 36) 34 (by rfl) W6.heap.size 93 i0 (.agg #[.int .i64 0, .slice none 0 0]) 2 32 Tryz.underlying34 hi hz0 hz1 hz2 rfl (by decide) _ _ _ (by rfl) (by exact q3.alloc _) ⟨W1.heap.size, 0, none⟩ 1 1 [.int .i64 q, .slice a1 t.n c1] (by rfl) rfl (by exact two_at _ _ _ _) (by simp [Value.oneCell']) (by omega) (by unfold maxLen; omega) (by omega) (by simp; omega) _ rfl ?_
       intro g2 cap2 W2 hown2 hgrow2 hat2 hlt2
       obtain ⟨⟨u10, hu10⟩, hf10, o2, d2, I2⟩ := (unhide HST) W1 WW _ W2 a1 c1 g2 cap2 es (unhide HQ).1 (unhide HQ).2.1 (unhide HQ).2.2.1 (unhide HQ).2.2.2.1 (unhide HQ).2.2.2.2 (below_alloc W1 _) hown2 hgrow2 hat2
       have o3 := I2.old
       have HI2 := hide I2
       clear I2 hown2 hgrow2 hat2 hlt2
       refine hK.out _ _ ((unhide HSS) _ o2) (fun hHeld => ?_)
       clear hK K
       try dsimp only
       refine tkA 18 ?_
       try dsimp only
       refine rdA 19 (fun K hK => ?_)
       go_simp
       refine hK.out _ _ ((unhide HSS) _ o3) (fun hHeld => ?_)
       clear hK K
       try dsimp only
       refine wpAnyH_done (by kernel_rfl) ?_ _
       clear HQ q3 m2 m2a hu10 hf10 HCO HST hHeld
       go_wp2_with fail
       go_roundw
       case rel => exact ⟨k + 1, _, d2, (by show k + 1 ≤ srn; omega), by go_num, unhide HI2⟩
       case measure => simp [intOf]; omega
     refine AllReadyH.cons (o := _) rfl (fun K hK => ?_) AllReadyH.nil
     go_simp
     go_at_call 59
     refine ((unhide HCO) _ (by first | exact (Below.refl wr.heap.size wr).drew | exact below_drewN (Below.refl wr.heap.size wr) _)).mono ?_
     rintro e W1 ⟨a1, c1, es, WW, rfl, m2, o1, q3, zW, HQ⟩
     have m2a : ∀ o, (W1.alloc o).cell? ⟨gs, 2, none⟩ = some (.slice s.a s.n s.c) := fun o => ((below_alloc W1 o).cell (lt_of_cell m2)).trans m2
     (try dsimp only)
     refine hK.out _ _ ((unhide HSS) _ o1) (fun hHeld => ?_)
     clear hK K
     try dsimp only
     refine tkA 15 ?_
     try dsimp only
     refine wpAnyH_ready (rs := [1, 16]) (by kernel_rfl) (by simp) ?_
     refine AllReadyH.cons (o := _) rfl (fun K hK => ?_) ?_
     · skip
       go_simp
       refine hK.out _ _ (hHeld) (fun hHeld => ?_)
       clear hK K
       try dsimp only
       refine rdA 16 (fun K hK => ?_)
       go_simp
       refine hK.out _ _ ((unhide HSS) _ (o1.alloc (Nat.le_trans (Nat.le_trans zlo (Nat.le_of_lt (lt_of_cell m2))) (Nat.le_refl _)) _)) (fun hHeld => ?_)
       clear hK K
       try dsimp only
       refine rdA 17 (fun K hK => ?_)
       refine step_append_lies _ (by rfl) (.tmp 21) (.tmp 36) 34 (by rfl) W6.heap.size 93 i0 (.agg #[.int .i64 0, .slice none 0 0]) 2 32 Tryz.underlying34 hi hz0 hz1 hz2 rfl (by decide) _ _ _ (by rfl) (by exact q3.alloc _) ⟨W1.heap.size, 0, none⟩ 1 1 [.int .i64 q, .slice a1 t.n c1] (by rfl) rfl (by exact two_at _ _ _ _) (by simp [Value.oneCell']) (by omega) (by unfold maxLen; omega) (by omega) (by simp; omega) _ rfl ?_
       intro g2 cap2 W2 hown2 hgrow2 hat2 hlt2
       obtain ⟨⟨u10, hu10⟩, hf10, o2, d2, I2⟩ := (unhide HST) W1 WW _ W2 a1 c1 g2 cap2 es (unhide HQ).1 (unhide HQ).2.1 (unhide HQ).2.2.1 (unhide HQ).2.2.2.1 (unhide HQ).2.2.2.2 (below_alloc W1 _) hown2 hgrow2 hat2
       have o3 := I2.old
       have HI2 := hide I2
       clear I2 hown2 hgrow2 hat2 hlt2
       refine hK.out _ _ ((unhide HSS) _ o2) (fun hHeld => ?_)
       clear hK K
       try dsimp only
       refine tkA 18 ?_
       try dsimp only
       refine rdA 19 (fun K hK => ?_)
       go_simp
       refine hK.out _ _ ((unhide HSS) _ o3) (fun hHeld => ?_)
       clear hK K
       try dsimp only
       refine wpAnyH_done (by kernel_rfl) ?_ _
       clear HQ q3 m2 m2a hu10 hf10 HCO HST hHeld
       go_wp2_with fail
       go_roundw
       case rel => exact ⟨k + 1, _, d2, (by show k + 1 ≤ srn; omega), by go_num, unhide HI2⟩
       case measure => simp [intOf]; omega
     refine AllReadyH.cons (o := _) rfl (fun K hK => ?_) AllReadyH.nil
     go_simp
     refine hK.out _ _ ((unhide HSS) _ (o1.alloc (Nat.le_trans (Nat.le_trans zlo (Nat.le_of_lt (lt_of_cell m2))) (Nat.le_refl _)) _)) (fun hHeld => ?_)
     clear hK K
     try dsimp only
     refine rdA 1 (fun K hK => ?_)
     go_simp
     refine hK.out _ _ (hHeld) (fun hHeld => ?_)
     clear hK K
     try dsimp only
     refine rdA 17 (fun K hK => ?_)
     refine step_append_lies _ (by rfl) (.tmp 21) (.tmp 36) 34 (by rfl) W6.heap.size 93 i0 (.agg #[.int .i64 0, .slice none 0 0]) 2 32 Tryz.underlying34 hi hz0 hz1 hz2 rfl (by decide) _ _ _ (by rfl) (by exact q3.alloc _) ⟨W1.heap.size, 0, none⟩ 1 1 [.int .i64 q, .slice a1 t.n c1] (by rfl) rfl (by exact two_at _ _ _ _) (by simp [Value.oneCell']) (by omega) (by unfold maxLen; omega) (by omega) (by simp; omega) _ rfl ?_
     intro g2 cap2 W2 hown2 hgrow2 hat2 hlt2
     obtain ⟨⟨u10, hu10⟩, hf10, o2, d2, I2⟩ := (unhide HST) W1 WW _ W2 a1 c1 g2 cap2 es (unhide HQ).1 (unhide HQ).2.1 (unhide HQ).2.2.1 (unhide HQ).2.2.2.1 (unhide HQ).2.2.2.2 (below_alloc W1 _) hown2 hgrow2 hat2
     have o3 := I2.old
     have HI2 := hide I2
     clear I2 hown2 hgrow2 hat2 hlt2
     refine hK.out _ _ ((unhide HSS) _ o2) (fun hHeld => ?_)
     clear hK K
     try dsimp only
     refine tkA 18 ?_
     try dsimp only
     refine rdA 19 (fun K hK => ?_)
     go_simp
     refine hK.out _ _ ((unhide HSS) _ o3) (fun hHeld => ?_)
     clear hK K
     try dsimp only
     refine wpAnyH_done (by kernel_rfl) ?_ _
     clear HQ q3 m2 m2a hu10 hf10 HCO HST hHeld
     go_wp2_with fail
     go_roundw
     case rel => exact ⟨k + 1, _, d2, (by show k + 1 ≤ srn; omega), by go_num, unhide HI2⟩
     case measure => simp [intOf]; omega
   · obtain rfl : k = sr.n := by omega
     have et : rs.take sr.n = rs := List.take_of_length_le (by rw [← unhide HSR]; exact Nat.le_refl _)
     obtain ⟨W7, rfl⟩ : ∃ W, W = wr := ⟨_, rfl⟩
     have HI7 := hide I
     have hrow := I.row
     rw [et] at hrow
     have HR7 := hide hrow
     have z7 : W6.heap.size ≤ W7.heap.size := I.size
     have zg : gs < W7.heap.size := I.blk.lt
     have zc : W0.heap.size ≤ gs := I.low
     clear et hrow
     have HIV := hide (info_parts infoVt)
     have H70 : Hid (VtInv W7 W0.heap.size gs W7.heap.size (.int .i64 n) (.slice s5.a s5.n s5.c) (.slice s.a s.n s.c) [] W7 ⟨none, 0, 0⟩ (fun _ => [])) := ⟨I.blk, RowG.nil _ _ _ _ _ _, fun _ _ _ => rfl, Below.refl _ _, Nat.le_refl _, zg, zc⟩
     have hsv : sv.n = vs.length := (unhide HO).2.2.2.len
     have HSV := hide hsv
     have hvl : sv.n ≤ 1048576 := by have := (unhide HM).v; simp only at this; omega
     have HX3 : Hid (∀ W, Below W0.heap.size W7 W → W.cell? ⟨w.heap.size, 3, none⟩ = some (.slice sv.a sv.n sv.c)) := fun W hb => ((unhide HKB) W ((unhide HCP).old.trans (((unhide HI7).old.trans (hb.mono (Nat.le_refl _))).mono (Nat.le_refl _)))).cell 3
     have HVZ : Hid (∀ y ∈ vs, y.1.length ≤ 1048576 ∧ y.2.1.length ≤ 1048576) := fun y hy => by have := (unhide HM).vz y hy; unfold vtSz at this; omega
     have HWB7 : Hid (∀ W, Below W0.heap.size W7 W → Below w.heap.size w W) := fun W hbW => (unhide HBB).trans (((unhide HCP).old.trans (((unhide HI7).old.trans (hbW.mono (Nat.le_refl _))).mono (Nat.le_refl _))).mono (unhide HBB).size)
     have x3 := (unhide HX3) W7 (Below.refl _ _)
     clear I hsv
     go_wp2_with fail
     go_loopw [5] (fun i wq => ∃ (k : Nat) (s3 : Sl) (d3 : Nat → Path), k ≤ sv.n ∧ i = .int .i64 k ∧ VtInv W7 W0.heap.size gs W7.heap.size (.int .i64 n) (.slice s5.a s5.n s5.c) (.slice s.a s.n s.c) (vs.take k) wq s3 d3) (fun i _ => sv.n - (intOf i).toNat)
     case atStart => exact ⟨0, _, _, Nat.zero_le _, rfl, unhide H70⟩
     case round =>
      obtain ⟨k, s3, d3, hk3, rfl, I⟩ := hrel
      clear H70 x3
      have x3 := (unhide HX3) _ I.old
      by_cases hlt : k < sv.n
      · obtain ⟨b, off, ea, hb, hc⟩ := (unhide HO).2.2.2.pos (by show 0 < sv.n; omega)
        simp only at ea hc
        obtain ⟨y, hy⟩ : ∃ v, vs[k]? = some v := ⟨_, List.getElem?_eq_getElem (by rw [← unhide HSV]; exact hlt)⟩
        obtain ⟨⟨t1, t2, ⟨⟩⟩, c, oo⟩ := hc k y hy
        obtain ⟨z1, z2, q⟩ := y
        have c0' := c 0 _ rfl
        have c1' := c 1 _ rfl
        have c2' := c 2 _ rfl
        simp only [Nat.add_zero, show vtK.m = 3 from rfl] at c0' c1' c2'
        obtain ⟨sva, svn, svc⟩ := sv
        simp only at ea
        subst ea
        have hvl' : svn ≤ 1048576 := hvl
        simp only at hlt hk3
        have k1 : (0 : Int) ≤ (k : Int) := by omega
        have k2 : (k : Int) < (svn : Int) := by omega
        have cc0 := (((unhide HWB7) _ I.old).cell (p := ⟨b, off + k * 3, none⟩) hb).trans c0'
        have cc1 := (((unhide HWB7) _ I.old).cell (p := ⟨b, off + k * 3 + 1, none⟩) hb).trans c1'
        have cc2 := (((unhide HWB7) _ I.old).cell (p := ⟨b, off + k * 3 + 2, none⟩) hb).trans c2'
        have zl := (unhide HVZ) _ (List.mem_of_getElem? hy)
        have HTS : Hid (vs.take (k + 1) = vs.take k ++ [(z1, z2, q)]) := by obtain ⟨hk', e'⟩ := List.getElem?_eq_some_iff.1 hy; show _ = _; rw [List.take_succ_eq_append_getElem hk', e']
        have kv := SBlk.new wr #[.slice t1.a t1.n t1.c, .slice t2.a t2.n t2.c, .bool q] 97
        have bv := below_alloc wr (.cells #[.slice t1.a t1.n t1.c, .slice t2.a t2.n t2.c, .bool q] 97)
        obtain ⟨Wv, ev⟩ : ∃ W, wr.alloc (.cells #[.slice t1.a t1.n t1.c, .slice t2.a t2.n t2.c, .bool q] 97) = W := ⟨_, rfl⟩
        rw [ev] at kv bv
        have Iv := I.below bv
        have hgv : gs < wr.heap.size := I.blk.lt
        have hrb := fun {x : Addr} (hx : s3.a = some x) => (I.row.blk hx).2
        have zlo : W0.heap.size ≤ gs := I.low
        obtain ⟨gv, egv⟩ : ∃ g, g = wr.heap.size := ⟨_, rfl⟩
        rw [← egv] at kv hgv hrb
        have EGV := hide egv
        clear egv
        have HSS : Hid (∀ W, Below Wv.heap.size Wv W → (fun W => W.cell? ⟨gv, 0, none⟩ = some (.slice t1.a t1.n t1.c) ∧ W.cell? ⟨gv, 1, none⟩ = some (.slice t2.a t2.n t2.c) ∧ W.cell? ⟨gv, 2, none⟩ = some (.bool q)) W) := fun W hbW => by
         have k := kv.below hbW kv.lt
         exact ⟨k.cell 0, k.cell 1, k.cell 2⟩
        have HV1 : Hid (∀ W, Below Wv.heap.size Wv W → BOk W t1 z1 ∧ BOk W t2 z2) := fun W hbW => by
         have bw := (unhide HWB7) W ((Iv.below hbW).old)
         exact ⟨bytesK.below oo.1 bw (Nat.le_refl _), bytesK.below oo.2.1 bw (Nat.le_refl _)⟩
        have t1n : t1.n ≤ 1048576 := by have h1 : z1.length = t1.n := oo.1.row.1; have h2 : z1.length ≤ 1048576 := zl.1; omega
        have t2n : t2.n ≤ 1048576 := by have h1 : z2.length = t2.n := oo.2.1.row.1; have h2 : z2.length ≤ 1048576 := zl.2; omega
        have HCA : Hid (∀ W, Below Wv.heap.size Wv W → Calls Tryz.prog 59 #[.slice t1.a t1.n t1.c] W fun e w' => ∃ (a1 : Option Addr) (c1 : Nat) (WW : World), e = .returned (.slice a1 t1.n c1) ∧ w'.cell? ⟨gs, 3, none⟩ = some (.slice s3.a s3.n s3.c) ∧ Below Wv.heap.size Wv w' ∧ Hid (Below Wv.heap.size Wv WW ∧ w'.ownsRow WW.heap.size 5 1 (.slice a1 t1.n c1) t1.n (z1.map (Value.int .u8)) ∧ Below WW.heap.size WW w')) := fun W hbW => by
         refine (copy_any t1.a t1.n t1.c z1 W ((unhide HV1) W hbW).1.row ((unhide HV1) W hbW).1.nil t1n).mono ?_
         rintro e w' ⟨a1, c1, rfl, ho, hb'⟩
         have o1 := hbW.trans (hb'.mono hbW.size)
         exact ⟨a1, c1, W, rfl, (Iv.below o1).blk.cell 3, o1, hbW, ho, hb'⟩
        have HCB : Hid (∀ W1, Below Wv.heap.size Wv W1 → Calls Tryz.prog 59 #[.slice t2.a t2.n t2.c] W1 fun e w' => ∃ (a2 : Option Addr) (c2 : Nat) (es : List VtS), e = .returned (.slice a2 t2.n c2) ∧ w'.cell? ⟨gs, 3, none⟩ = some (.slice s3.a s3.n s3.c) ∧ Below Wv.heap.size Wv w' ∧ w'.ownsRow W7.heap.size 97 3 (.slice s3.a s3.n s3.c) s3.n (flatV vtK es (vs.take k)) ∧ W7.heap.size ≤ w'.heap.size ∧ Hid (w'.ownsRow W1.heap.size 5 1 (.slice a2 t2.n c2) t2.n (z2.map (Value.int .u8)) ∧ Below W1.heap.size W1 w' ∧ es.length = (vs.take k).length ∧ ∀ i e x, es[i]? = some e → (vs.take k)[i]? = some x → vtK.Own Wv W7.heap.size d3 ([] ++ [i]) e x)) := fun W hbW => by
         refine (copy_any t2.a t2.n t2.c z2 W ((unhide HV1) W hbW).2.row ((unhide HV1) W hbW).2.nil t2n).mono ?_
         rintro e w' ⟨a2, c2, rfl, ho, hb'⟩
         have o1 := hbW.trans (hb'.mono hbW.size)
         have I' := Iv.below o1
         obtain ⟨es', e2', e3', e4', e5'⟩ := Iv.row.all
         exact ⟨a2, c2, es', rfl, I'.blk.cell 3, o1, own_below e3' o1 (Nat.le_refl _), I'.size, ho, hb', e2', e5'⟩
        have HST : Hid (∀ (WW W1 W1' WA W2 : World) (a1 a2 : Option Addr) (c1 c2 g2 cap2 : Nat) (es : List VtS), Below Wv.heap.size Wv WW → W1.ownsRow WW.heap.size 5 1 (.slice a1 t1.n c1) t1.n (z1.map (Value.int .u8)) → Below WW.heap.size WW W1 → W1'.ownsRow W1.heap.size 5 1 (.slice a2 t2.n c2) t2.n (z2.map (Value.int .u8)) → Below W1.heap.size W1 W1' → Below W1'.heap.size W1' WA → es.length = (vs.take k).length → (∀ i e x, es[i]? = some e → (vs.take k)[i]? = some x → vtK.Own Wv W7.heap.size d3 ([] ++ [i]) e x) → W2.ownsRow W7.heap.size 97 3 (.slice (some ⟨g2, 0, none⟩) (s3.n + 1) cap2) (s3.n + 1) (flatV vtK es (vs.take k) ++ [.slice a1 t1.n c1, .slice a2 t2.n c2, .bool q]) → WA.grownBy W2 (Value.slice s3.a s3.n s3.c).ownBlock → ((Value.slice s3.a s3.n s3.c).ownBlock = some g2 ∨ g2 = WA.heap.size) →
            (∃ u, W2.cell? ⟨gs, 3, none⟩ = some u) ∧ W2.frozen? ⟨gs, 3, none⟩ = false ∧ (fun W => W.cell? ⟨gv, 0, none⟩ = some (.slice t1.a t1.n t1.c) ∧ W.cell? ⟨gv, 1, none⟩ = some (.slice t2.a t2.n t2.c) ∧ W.cell? ⟨gv, 2, none⟩ = some (.bool q)) W2 ∧ (fun W => W.cell? ⟨gv, 0, none⟩ = some (.slice t1.a t1.n t1.c) ∧ W.cell? ⟨gv, 1, none⟩ = some (.slice t2.a t2.n t2.c) ∧ W.cell? ⟨gv, 2, none⟩ = some (.bool q)) (W2.setCell ⟨gs, 3, none⟩ (.slice (some ⟨g2, 0, none⟩) (s3.n + 1) cap2)) ∧ ∃ d', VtInv W7 W0.heap.size gs W7.heap.size (.int .i64 n) (.slice s5.a s5.n s5.c) (.slice s.a s.n s.c) (vs.take k ++ [(z1, z2, q)]) (W2.setCell ⟨gs, 3, none⟩ (.slice (some ⟨g2, 0, none⟩) (s3.n + 1) cap2)) ⟨some ⟨g2, 0, none⟩, s3.n + 1, cap2⟩ d') := fun WW W1 W1' WA W2 a1 a2 c1 c2 g2 cap2 es bW ho hbW ho2 hb2 bA e2 e5 hown hg hat => by
         obtain ⟨p1, p2, p3, p4⟩ := VtInv.step (W1 := W1) (W1' := W1') (WA := WA) (W2 := W2) (g2 := g2) (cap2 := cap2) (es := es) (Iv.below bW) oo.1.row.2.1 oo.2.1.row.2.1 ho hbW ho2 hb2 bA e2 (fun i e x he hx => vtK.ownBelow (e5 i e x he hx) bW (Nat.le_refl _)) hown hg hat
         have bA1 := bW.trans (hbW.mono bW.size)
         have bA2 := bA1.trans (hb2.mono bA1.size)
         have bA3 := bA2.trans (bA.mono bA2.size)
         have kA := kv.below bA3 kv.lt
         have k2 : SBlk W2 gv [.slice t1.a t1.n t1.c, .slice t2.a t2.n t2.c, .bool q] 97 := (hg.block gv kA.lt (fun e => by
          cases ha : s3.a with
          | none => rw [ha] at e; cases e
          | some y => rw [ha] at e; have e' := Option.some.inj e; have := hrb ha; rw [← e'] at this; exact Nat.lt_irrefl _ this)).trans kA
         have k3 := k2.other (g' := gs) (i := 3) (v := .slice (some ⟨g2, 0, none⟩) (s3.n + 1) cap2) (by omega)
         exact ⟨p1, p2, ⟨k2.cell 0, k2.cell 1, k2.cell 2⟩, ⟨k3.cell 0, k3.cell 1, k3.cell 2⟩, p4⟩
        have g3c := Iv.blk.cell 3
        simp only [List.getElem?_cons_zero, List.getElem?_cons_succ] at g3c
        have hsn : s3.n ≤ 1048576 := by have := I.row.len; rw [this]; rw [List.length_take]; omega
        obtain ⟨i0, hi, hz0, hz1, hz2⟩ := unhide HIV
        have EV := hide ev
        clear ev I Iv kv bv hrb oo hy zl t1n t2n
        go_upto_region 10 with (rw [unhide EV])
        try rw [unhide EV]
        rw [← unhide EGV]
        clear EV EGV
        refine wp_region_held_drew (S := (fun W => W.cell? ⟨gv, 0, none⟩ = some (.slice t1.a t1.n t1.c) ∧ W.cell? ⟨gv, 1, none⟩ = some (.slice t2.a t2.n t2.c) ∧ W.cell? ⟨gv, 2, none⟩ = some (.bool q))) (by kernel_rfl) ((unhide HSS) _ ((Below.refl Wv.heap.size Wv).drew)) (fun hHeld => ?_)
        refine tkA 0 ?_
        try dsimp only
        refine tkA 2 ?_
        try dsimp only
        refine tkA 3 ?_
        try dsimp only
        refine tkA 5 ?_
        try dsimp only
        refine tkA 6 ?_
        try dsimp only
        refine tkA 8 ?_
        try dsimp only
        refine tkA 9 ?_
        try dsimp only
        refine wpAnyH_ready (rs := [1, 4]) (by kernel_rfl) (by simp) ?_
        refine AllReadyH.cons (o := _) rfl (fun K hK => ?_) ?_
        · skip
          go_simp
          refine hK.out _ _ (hHeld) (fun hHeld => ?_)
          clear hK K
          try dsimp only
          refine rdA 4 (fun K hK => ?_)
          go_simp
          go_at_call 59
          refine ((unhide HCA) _ (by first | exact (Below.refl Wv.heap.size Wv).drew | exact below_drewN (Below.refl Wv.heap.size Wv) _)).mono ?_
          rintro e W1 ⟨a1, c1, WW, rfl, m3, o1, HQA⟩
          (try dsimp only)
          refine hK.out _ _ ((unhide HSS) _ o1) (fun hHeld => ?_)
          clear hK K
          try dsimp only
          refine rdA 7 (fun K hK => ?_)
          go_simp
          go_at_call 59
          refine ((unhide HCB) _ o1).mono ?_
          rintro e W1' ⟨a2, c2, es, rfl, m3', o2, q3, zW, HQB⟩
          have m3a : ∀ o, (W1'.alloc o).cell? ⟨gs, 3, none⟩ = some (.slice s3.a s3.n s3.c) := fun o => ((below_alloc W1' o).cell (lt_of_cell m3')).trans m3'
          (try dsimp only)
          refine hK.out _ _ ((unhide HSS) _ o2) (fun hHeld => ?_)
          clear hK K
          try dsimp only
          refine tkA 10 ?_
          try dsimp only
          refine rdA 11 (fun K hK => ?_)
          go_simp
          refine hK.out _ _ ((unhide HSS) _ (o2.alloc o2.size _)) (fun hHeld => ?_)
          clear hK K
          try dsimp only
          refine rdA 12 (fun K hK => ?_)
          refine step_append_lies _ (by rfl) (.tmp 52) (.tmp 62) 35 (by rfl) W7.heap.size 97 i0 (.agg #[.slice none 0 0, .slice none 0 0, .bool false]) 3 56 Tryz.underlying35 hi hz0 hz1 hz2 rfl (by decide) _ _ _ (by rfl) (by exact q3.alloc _) ⟨W1'.heap.size, 0, none⟩ 1 1 [.slice a1 t1.n c1, .slice a2 t2.n c2, .bool q] (by rfl) rfl (by exact three_at _ _ _ _ _) (by simp [Value.oneCell']) (by omega) (by unfold maxLen; omega) (by omega) (by simp; omega) _ rfl ?_
          intro g2 cap2 W2 hown2 hgrow2 hat2 hlt2
          obtain ⟨⟨u10, hu10⟩, hf10, hS2, hS3, d2, I2⟩ := (unhide HST) WW W1 W1' _ W2 a1 a2 c1 c2 g2 cap2 es (unhide HQA).1 (unhide HQA).2.1 (unhide HQA).2.2 (unhide HQB).1 (unhide HQB).2.1 (below_alloc W1' _) (unhide HQB).2.2.1 (unhide HQB).2.2.2 hown2 hgrow2 hat2
          have HI2 := hide I2
          clear I2 hown2 hgrow2 hat2 hlt2
          refine hK.out _ _ (hS2) (fun hHeld => ?_)
          clear hK K
          try dsimp only
          refine tkA 13 ?_
          try dsimp only
          refine rdA 14 (fun K hK => ?_)
          go_simp
          refine hK.out _ _ (hS3) (fun hHeld => ?_)
          clear hK K
          try dsimp only
          refine wpAnyH_done (by kernel_rfl) ?_ _
          have h3 := unhide HI2
          rw [← unhide HTS] at h3
          have HI3 := hide h3
          clear h3
          clear HQA HQB q3 m3 m3' m3a hu10 hf10 hHeld hS2 hS3 HCA HCB HST HI2
          go_wp2_with fail
          go_roundw
          case rel => exact ⟨k + 1, _, d2, (by show k + 1 ≤ svn; omega), by go_num, unhide HI3⟩
          case measure => simp [intOf]; omega
        refine AllReadyH.cons (o := _) rfl (fun K hK => ?_) AllReadyH.nil
        go_simp
        go_at_call 59
        refine ((unhide HCA) _ (by first | exact (Below.refl Wv.heap.size Wv).drew | exact below_drewN (Below.refl Wv.heap.size Wv) _)).mono ?_
        rintro e W1 ⟨a1, c1, WW, rfl, m3, o1, HQA⟩
        (try dsimp only)
        refine hK.out _ _ ((unhide HSS) _ o1) (fun hHeld => ?_)
        clear hK K
        try dsimp only
        refine wpAnyH_ready (rs := [1, 7]) (by kernel_rfl) (by simp) ?_
        refine AllReadyH.cons (o := _) rfl (fun K hK => ?_) ?_
        · skip
          go_simp
          refine hK.out _ _ (hHeld) (fun hHeld => ?_)
          clear hK K
          try dsimp only
          refine rdA 7 (fun K hK => ?_)
          go_simp
          go_at_call 59
          refine ((unhide HCB) _ o1).mono ?_
          rintro e W1' ⟨a2, c2, es, rfl, m3', o2, q3, zW, HQB⟩
          have m3a : ∀ o, (W1'.alloc o).cell? ⟨gs, 3, none⟩ = some (.slice s3.a s3.n s3.c) := fun o => ((below_alloc W1' o).cell (lt_of_cell m3')).trans m3'
          (try dsimp only)
          refine hK.out _ _ ((unhide HSS) _ o2) (fun hHeld => ?_)
          clear hK K
          try dsimp only
          refine tkA 10 ?_
          try dsimp only
          refine rdA 11 (fun K hK => ?_)
          go_simp
          refine hK.out _ _ ((unhide HSS) _ (o2.alloc o2.size _)) (fun hHeld => ?_)
          clear hK K
          try dsimp only
          refine rdA 12 (fun K hK => ?_)
          refine step_append_lies _ (by rfl) (.tmp 52) (.tmp 62) 35 (by rfl) W7.heap.size 97 i0 (.agg #[.slice none 0 0, .slice none 0 0, .bool false]) 3 56 Tryz.underlying35 hi hz0 hz1 hz2 rfl (by decide) _ _ _ (by rfl) (by exact q3.alloc _) ⟨W1'.heap.size, 0, none⟩ 1 1 [.slice a1 t1.n c1, .slice a2 t2.n c2, .bool q] (by rfl) rfl (by exact three_at _ _ _ _ _) (by simp [Value.oneCell']) (by omega) (by unfold maxLen; omega) (by omega) (by simp; omega) _ rfl ?_
          intro g2 cap2 W2 hown2 hgrow2 hat2 hlt2
          obtain ⟨⟨u10, hu10⟩, hf10, hS2, hS3, d2, I2⟩ := (unhide HST) WW W1 W1' _ W2 a1 a2 c1 c2 g2 cap2 es (unhide HQA).1 (unhide HQA).2.1 (unhide HQA).2.2 (unhide HQB).1 (unhide HQB).2.1 (below_alloc W1' _) (unhide HQB).2.2.1 (unhide HQB).2.2.2 hown2 hgrow2 hat2
          have HI2 := hide I2
          clear I2 hown2 hgrow2 hat2 hlt2
          refine hK.out _ _ (hS2) (fun hHeld => ?_)
          clear hK K
          try dsimp only
          refine tkA 13 ?_
          try dsimp only
          refine rdA 14 (fun K hK => ?_)
          go_simp
          refine hK.out _ _ (hS3) (fun hHeld => ?_)
          clear hK K
          try dsimp only
          refine wpAnyH_done (by kernel_rfl) ?_ _
          have h3 := unhide HI2
          rw [← unhide HTS] at h3
          have HI3 := hide h3
          clear h3
          clear HQA HQB q3 m3 m3' m3a hu10 hf10 hHeld hS2 hS3 HCA HCB HST HI2
          go_wp2_with fail
          go_roundw
          case rel => exact ⟨k + 1, _, d2, (by show k + 1 ≤ svn; omega), by go_num, unhide HI3⟩
          case measure => simp [intOf]; omega
        refine AllReadyH.cons (o := _) rfl (fun K hK => ?_) AllReadyH.nil
        go_simp
        go_at_call 59
        refine ((unhide HCB) _ o1).mono ?_
        rintro e W1' ⟨a2, c2, es, rfl, m3', o2, q3, zW, HQB⟩
        have m3a : ∀ o, (W1'.alloc o).cell? ⟨gs, 3, none⟩ = some (.slice s3.a s3.n s3.c) := fun o => ((below_alloc W1' o).cell (lt_of_cell m3')).trans m3'
        (try dsimp only)
        refine hK.out _ _ ((unhide HSS) _ o2) (fun hHeld => ?_)
        clear hK K
        try dsimp only
        refine tkA 10 ?_
        try dsimp only
        refine wpAnyH_ready (rs := [1, 11]) (by kernel_rfl) (by simp) ?_
        refine AllReadyH.cons (o := _) rfl (fun K hK => ?_) ?_
        · skip
          go_simp
          refine hK.out _ _ (hHeld) (fun hHeld => ?_)
          clear hK K
          try dsimp only
          refine rdA 11 (fun K hK => ?_)
          go_simp
          refine hK.out _ _ ((unhide HSS) _ (o2.alloc o2.size _)) (fun hHeld => ?_)
          clear hK K
          try dsimp only
          refine rdA 12 (fun K hK => ?_)
          refine step_append_lies _ (by rfl) (.tmp 52) (.tmp 62) 35 (by rfl) W7.heap.size 97 i0 (.agg #[.slice none 0 0, .slice none 0 0, .bool false]) 3 56 Tryz.underlying35 hi hz0 hz1 hz2 rfl (by decide) _ _ _ (by rfl) (by exact q3.alloc _) ⟨W1'.heap.size, 0, none⟩ 1 1 [.slice a1 t1.n c1, .slice a2 t2.n c2, .bool q] (by rfl) rfl (by exact three_at _ _ _ _ _) (by simp [Value.oneCell']) (by omega) (by unfold maxLen; omega) (by omega) (by simp; omega) _ rfl ?_
          intro g2 cap2 W2 hown2 hgrow2 hat2 hlt2
          obtain ⟨⟨u10, hu10⟩, hf10, hS2, hS3, d2, I2⟩ := (unhide HST) WW W1 W1' _ W2 a1 a2 c1 c2 g2 cap2 es (unhide HQA).1 (unhide HQA).2.1 (unhide HQA).2.2 (unhide HQB).1 (unhide HQB).2.1 (below_alloc W1' _) (unhide HQB).2.2.1 (unhide HQB).2.2.2 hown2 hgrow2 hat2
          have HI2 := hide I2
          clear I2 hown2 hgrow2 hat2 hlt2
          refine hK.out _ _ (hS2) (fun hHeld => ?_)
          clear hK K
          try dsimp only
          refine tkA 13 ?_
          try dsimp only
          refine rdA 14 (fun K hK => ?_)
          go_simp
          refine hK.out _ _ (hS3) (fun hHeld => ?_)
          clear hK K
          try dsimp only
          refine wpAnyH_done (by kernel_rfl) ?_ _
          have h3 := unhide HI2
          rw [← unhide HTS] at h3
          have HI3 := hide h3
          clear h3
          clear HQA HQB q3 m3 m3' m3a hu10 hf10 hHeld hS2 hS3 HCA HCB HST HI2
          go_wp2_with fail
          go_roundw
          case rel => exact ⟨k + 1, _, d2, (by show k + 1 ≤ svn; omega), by go_num, unhide HI3⟩
          case measure => simp [intOf]; omega
        refine AllReadyH.cons (o := _) rfl (fun K hK => ?_) AllReadyH.nil
        go_simp
        refine hK.out _ _ ((unhide HSS) _ (o2.alloc o2.size _)) (fun hHeld => ?_)
        clear hK K
        try dsimp only
        refine rdA 1 (fun K hK => ?_)
        go_simp
        refine hK.out _ _ (hHeld) (fun hHeld => ?_)
        clear hK K
        try dsimp only
        refine rdA 12 (fun K hK => ?_)
        refine step_append_lies _ (by rfl) (.tmp 52) (.tmp 62) 35 (by rfl) W7.heap.size 97 i0 (.agg #[.slice none 0 0, .slice none 0 0, .bool false]) 3 56 Tryz.underlying35 hi hz0 hz1 hz2 rfl (by decide) _ _ _ (by rfl) (by exact q3.alloc _) ⟨W1'.heap.size, 0, none⟩ 1 1 [.slice a1 t1.n c1, .slice a2 t2.n c2, .bool q] (by rfl) rfl (by exact three_at _ _ _ _ _) (by simp [Value.oneCell']) (by omega) (by unfold maxLen; omega) (by omega) (by simp; omega) _ rfl ?_
        intro g2 cap2 W2 hown2 hgrow2 hat2 hlt2
        obtain ⟨⟨u10, hu10⟩, hf10, hS2, hS3, d2, I2⟩ := (unhide HST) WW W1 W1' _ W2 a1 a2 c1 c2 g2 cap2 es (unhide HQA).1 (unhide HQA).2.1 (unhide HQA).2.2 (unhide HQB).1 (unhide HQB).2.1 (below_alloc W1' _) (unhide HQB).2.2.1 (unhide HQB).2.2.2 hown2 hgrow2 hat2
        have HI2 := hide I2
        clear I2 hown2 hgrow2 hat2 hlt2
        refine hK.out _ _ (hS2) (fun hHeld => ?_)
        clear hK K
        try dsimp only
        refine tkA 13 ?_
        try dsimp only
        refine rdA 14 (fun K hK => ?_)
        go_simp
        refine hK.out _ _ (hS3) (fun hHeld => ?_)
        clear hK K
        try dsimp only
        refine wpAnyH_done (by kernel_rfl) ?_ _
        have h3 := unhide HI2
        rw [← unhide HTS] at h3
        have HI3 := hide h3
        clear h3
        clear HQA HQB q3 m3 m3' m3a hu10 hf10 hHeld hS2 hS3 HCA HCB HST HI2
        go_wp2_with fail
        go_roundw
        case rel => exact ⟨k + 1, _, d2, (by show k + 1 ≤ svn; omega), by go_num, unhide HI3⟩
        case measure => simp [intOf]; omega
      · obtain rfl : k = sv.n := by omega
        have et : vs.take sv.n = vs := List.take_of_length_le (by rw [← unhide HSV]; exact Nat.le_refl _)
        have hrow := I.row
        rw [et] at hrow
        have B6 : Below W0.heap.size W6 wr := (unhide HI7).old.trans (I.old.mono (Nat.le_refl _))
        have B0r : Below W0.heap.size W0 wr := (unhide HCP).old.trans (B6.mono (Nat.le_refl _))
        have kr := (unhide HKR) _ B0r
        have r0 := kr.cell 0
        have r1 := kr.cell 1
        have r2 := kr.cell 2
        have r3 := kr.cell 3
        have f0 := kr.free 0
        have f1 := kr.free 1
        have f2 := kr.free 2
        have f3 := kr.free 3
        have o0 := I.blk.cell 0
        have o1 := I.blk.cell 1
        have o2 := I.blk.cell 2
        have o3 := I.blk.cell 3
        simp only [List.getElem?_cons_zero, List.getElem?_cons_succ] at r0 r1 r2 r3 o0 o1 o2 o3
        have HFIN : Hid (∀ W : World, (∀ g, W0.heap.size ≤ g → g < wr.heap.size → W.heap[g]? = wr.heap[g]?) → SNK.Ok W ((), s5, s, s3) (n, zss, rs, vs)) := fun W hW => by
         refine ⟨(unhide HO).1, ?_, ?_, ?_⟩
         · refine (unhide HCP).sgn W (fun g a b c => ?_)
           have s7 := (unhide HI7).size
           have sv' := I.size
           rw [hW g a (by omega), I.keep g (by omega) c, (unhide HI7).keep g b c]
         · refine (rowK rcK 93).ok (RowG.own ((unhide HR7).frame (fun g a b c => ?_)))
           have gB := (unhide HI7).gsB
           have sv' := I.size
           rw [hW g (by omega) (by omega), I.keep g a (by omega)]
         · exact (rowK vtK 97).ok (RowG.own (hrow.frame (fun g a b c => hW g (by omega) a)))
        have HBF := hide ((unhide HBB).trans (B0r.mono (unhide HBB).size))
        have HZZ := hide (unhide HZ0)
        clear I et hrow B6 B0r kr
        go_wp2_with fail
        refine bodyPost_ret (v := .agg #[.int .i64 n, .slice s5.a s5.n s5.c, .slice s.a s.n s.c, .slice s3.a s3.n s3.c]) (by simp [results, Tryz.results57, go_sem, r0, r1, r2, r3]) rfl ?_
        refine ⟨((), s5, s, s3), rfl, fun W hW => (unhide HFIN) W (fun g hg hg2 => ?_), ?_⟩
        · have zz := unhide HZZ
          rw [hW g (by omega) (by simp [World.setCell]; exact hg2)]
          rw [heap_setCell_other _ ⟨w.heap.size + 1, 3, none⟩ g _ (fun e => by simp at e; omega), heap_setCell_other _ ⟨w.heap.size + 1, 2, none⟩ g _ (fun e => by simp at e; omega), heap_setCell_other _ ⟨w.heap.size + 1, 1, none⟩ g _ (fun e => by simp at e; omega), heap_setCell_other _ ⟨w.heap.size + 1, 0, none⟩ g _ (fun e => by simp at e; omega)]
        · repeat (refine Below.setCell ?_ (by show w.heap.size ≤ w.heap.size + 1; omega) _)
          exact unhide HBF

end Go.Proofs.YtdmcmlcmgbbclaaGreat
