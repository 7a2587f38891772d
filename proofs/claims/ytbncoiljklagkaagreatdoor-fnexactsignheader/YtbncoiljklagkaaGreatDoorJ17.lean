/- What is proved here: what the model's l5Copy answers: the same header in memory of its own. -/
import Derived.Test.YtbncoiljklagkaaGreatDoorJ16
import Derived.Test.YtbncoiljklagkaaGreatDoorJ12
namespace Go.Proofs.YtbncoiljklagkaaGreatDoor
open Go.RowKit
set_option linter.unusedVariables false
set_option maxRecDepth 100000

set_option maxHeartbeats 8000000 in
theorem l5Copy_any (x : HS) (h : Hd) (w : World) (o : HOk w x h) (nn : HNil w x) (m : HSm h) :
    Calls Tryz.prog 30 #[.agg (hvals x h)] w fun e w' => ∃ (y : HS) (d : Nat → Nat), e = .returned (.agg (hvals y h)) ∧ CH w' (w.heap.size + 2) d y h ∧ Below w.heap.size w w' := by
  have kb := SBlk.new w (hvals x h) 27
  have bb := below_alloc w (.cells (hvals x h) 27)
  have zb : (w.alloc (.cells (hvals x h) 27)).heap.size = w.heap.size + 1 := by simp
  obtain ⟨W, eb⟩ : ∃ W, w.alloc (.cells (hvals x h) 27) = W := ⟨_, rfl⟩
  rw [eb] at kb bb zb
  have kr := SBlk.new W #[.slice none 0 0, .int .i64 0, .int .i64 0, .int .i64 0, .slice none 0 0, .int .i64 0, .slice none 0 0, .slice none 0 0, .slice none 0 0, .slice none 0 0, .slice none 0 0] 27
  have kb := kb.next (.cells #[.slice none 0 0, .int .i64 0, .int .i64 0, .int .i64 0, .slice none 0 0, .int .i64 0, .slice none 0 0, .slice none 0 0, .slice none 0 0, .slice none 0 0, .slice none 0 0] 27)
  have K0 := bb.trans ((below_alloc W (.cells #[.slice none 0 0, .int .i64 0, .int .i64 0, .int .i64 0, .slice none 0 0, .int .i64 0, .slice none 0 0, .slice none 0 0, .slice none 0 0, .slice none 0 0, .slice none 0 0] 27)).mono bb.size)
  have z0 : (W.alloc (.cells #[.slice none 0 0, .int .i64 0, .int .i64 0, .int .i64 0, .slice none 0 0, .int .i64 0, .slice none 0 0, .slice none 0 0, .slice none 0 0, .slice none 0 0, .slice none 0 0] 27)).heap.size = w.heap.size + 2 := by simp; omega
  rw [zb] at kr
  obtain ⟨W0, e0⟩ : ∃ W0, W.alloc (.cells #[.slice none 0 0, .int .i64 0, .int .i64 0, .int .i64 0, .slice none 0 0, .int .i64 0, .slice none 0 0, .slice none 0 0, .slice none 0 0, .slice none 0 0, .slice none 0 0] 27) = W0 := ⟨_, rfl⟩
  rw [e0] at kr kb K0 z0
  have HO := hide (fun (W : World) (hb : Below w.heap.size w W) => o.below hb (Nat.le_refl _))
  have HN := hide (fun (W : World) (hb : Below w.heap.size w W) => nn.below hb (Nat.le_refl _))
  have HM := hide m
  have hB0 : w.heap.size + 2 ≤ W0.heap.size := by omega
  obtain ⟨d, hd⟩ : ∃ d : Nat → Nat, d = fun _ => 0 := ⟨_, rfl⟩
  clear hd bb zb z0 o m nn
  have EB := hide eb
  have E0 := hide e0
  clear eb e0
  unfold hvals at EB kb ⊢
  go_enter Tryz.func30, Tryz.ntmps30
  go_upto_region 1 with fail
  rw [unhide EB, unhide E0]
  clear EB E0
  have c1 := kb.cell 0
  have f1 := kb.free 0
  simp only [List.getElem?_cons_zero] at c1
  have l1 : h.p.length = x.p.n := (unhide HO _ K0).p.1
  have D1 := hide (copy_any x.p.a x.p.n x.p.c h.p W0 (unhide HO _ K0).p (unhide HN _ K0).p (by have := (unhide HM).p; omega))
  go_wp2_with fail
  refine (unhide D1).mono ?_
  rintro ev v1 ⟨a1, c'1, rfl, ow1, b1⟩
  obtain ⟨d', hd'⟩ : ∃ d' : Nat → Nat, d' = fun g => if W0.heap.size ≤ g then 0 else d g := ⟨_, rfl⟩
  obtain ⟨yp, hyp⟩ : ∃ y : Sl, y = ⟨a1, x.p.n, c'1⟩ := ⟨_, rfl⟩
  have n_p : CB v1 (w.heap.size + 2) d' 0 yp h.p := by rw [hyp, hd']; exact CB.new l1.symm (unhide HO _ K0).p.2.1 ow1 hB0
  have q1 : Value.slice a1 x.p.n c'1 = .slice yp.a yp.n yp.c := by rw [hyp]
  have hB1' : w.heap.size + 2 ≤ v1.heap.size := Nat.le_trans hB0 b1.size
  replace c1 := (b1.cell (p := ⟨w.heap.size, 0, none⟩) (by show w.heap.size < W0.heap.size; omega)).trans c1
  replace f1 : v1.frozen? ⟨w.heap.size, 0, none⟩ = false := by rw [World.frozen?_of_block (b1.block w.heap.size (by omega))]; exact f1
  replace kb := ((kb.below b1 (by omega)).set 0 (.slice yp.a yp.n yp.c))
  simp only [List.set_cons_zero] at kb
  replace kr := (kr.below b1 (by omega)).other (g' := w.heap.size) (i := 0) (v := .slice yp.a yp.n yp.c) (by omega)
  have K1 := (K0.trans (b1.mono (by omega))).setCell (p := ⟨w.heap.size, 0, none⟩) (Nat.le_refl _) (.slice yp.a yp.n yp.c)
  have m_p := n_p.set (p := ⟨w.heap.size, 0, none⟩) (v := .slice yp.a yp.n yp.c) (by show w.heap.size < w.heap.size + 2; omega)
  have hB1 : w.heap.size + 2 ≤ (v1.setCell ⟨w.heap.size, 0, none⟩ (.slice yp.a yp.n yp.c)).heap.size := by rw [size_set']; exact hB1'
  rw [q1]
  clear q1 hd' hyp n_p b1 D1 hB1' ow1 l1 d
  obtain ⟨d, hd⟩ : ∃ d : Nat → Nat, d = d' := ⟨_, rfl⟩
  rw [← hd] at m_p
  clear hd d'
  obtain ⟨W1, e1⟩ : ∃ W, v1.setCell ⟨w.heap.size, 0, none⟩ (.slice yp.a yp.n yp.c) = W := ⟨_, rfl⟩
  rw [e1] at kb kr K1 hB1 m_p
  have E1 := hide e1
  clear e1
  go_upto_region 2 with fail
  rw [unhide E1]
  clear E1 c1 f1 K0 hB0
  have c2 := kb.cell 4
  have f2 := kb.free 4
  simp only [List.getElem?_cons_zero, List.getElem?_cons_succ] at c2
  have l2 : h.t.length = x.t.n := (unhide HO _ K1).t.1
  have D2 := hide (copy_any x.t.a x.t.n x.t.c h.t W1 (unhide HO _ K1).t (unhide HN _ K1).t (by have := (unhide HM).t; omega))
  go_wp2_with fail
  refine (unhide D2).mono ?_
  rintro ev v2 ⟨a2, c'2, rfl, ow2, b2⟩
  obtain ⟨d', hd'⟩ : ∃ d' : Nat → Nat, d' = fun g => if W1.heap.size ≤ g then 1 else d g := ⟨_, rfl⟩
  obtain ⟨yt, hyt⟩ : ∃ y : Sl, y = ⟨a2, x.t.n, c'2⟩ := ⟨_, rfl⟩
  have n_t : CB v2 (w.heap.size + 2) d' 1 yt h.t := by rw [hyt, hd']; exact CB.new l2.symm (unhide HO _ K1).t.2.1 ow2 hB1
  have q2 : Value.slice a2 x.t.n c'2 = .slice yt.a yt.n yt.c := by rw [hyt]
  replace m_p := (m_p.recol (d' := d') (fun g hg => by rw [hd']; exact if_neg (by omega))).below b2 (Nat.le_refl _)
  have hB2' : w.heap.size + 2 ≤ v2.heap.size := Nat.le_trans hB1 b2.size
  replace c2 := (b2.cell (p := ⟨w.heap.size, 4, none⟩) (by show w.heap.size < W1.heap.size; omega)).trans c2
  replace f2 : v2.frozen? ⟨w.heap.size, 4, none⟩ = false := by rw [World.frozen?_of_block (b2.block w.heap.size (by omega))]; exact f2
  replace kb := ((kb.below b2 (by omega)).set 4 (.slice yt.a yt.n yt.c))
  simp only [List.set_cons_zero, List.set_cons_succ] at kb
  replace kr := (kr.below b2 (by omega)).other (g' := w.heap.size) (i := 4) (v := .slice yt.a yt.n yt.c) (by omega)
  have K2 := (K1.trans (b2.mono (by omega))).setCell (p := ⟨w.heap.size, 4, none⟩) (Nat.le_refl _) (.slice yt.a yt.n yt.c)
  have m_t := n_t.set (p := ⟨w.heap.size, 4, none⟩) (v := .slice yt.a yt.n yt.c) (by show w.heap.size < w.heap.size + 2; omega)
  replace m_p := m_p.set (p := ⟨w.heap.size, 4, none⟩) (v := .slice yt.a yt.n yt.c) (by show w.heap.size < w.heap.size + 2; omega)
  have hB2 : w.heap.size + 2 ≤ (v2.setCell ⟨w.heap.size, 4, none⟩ (.slice yt.a yt.n yt.c)).heap.size := by rw [size_set']; exact hB2'
  rw [q2]
  clear q2 hd' hyt n_t b2 D2 hB2' ow2 l2 d
  obtain ⟨d, hd⟩ : ∃ d : Nat → Nat, d = d' := ⟨_, rfl⟩
  rw [← hd] at m_t m_p
  clear hd d'
  obtain ⟨W2, e2⟩ : ∃ W, v2.setCell ⟨w.heap.size, 4, none⟩ (.slice yt.a yt.n yt.c) = W := ⟨_, rfl⟩
  rw [e2] at kb kr K2 hB2 m_p m_t
  have E2 := hide e2
  clear e2
  go_upto_region 3 with fail
  rw [unhide E2]
  clear E2 c2 f2 K1 hB1
  have c3 := kb.cell 6
  have f3 := kb.free 6
  simp only [List.getElem?_cons_zero, List.getElem?_cons_succ] at c3
  have D3 := hide (l5Lists_any 5 7 (by omega) x.s.a x.s.n x.s.c h.s W2 (unhide HO _ K2).s (unhide HN _ K2).s (by have := (unhide HO _ K2).s.1; have := (unhide HM).s; omega) (unhide HM).sz)
  go_wp2_with fail
  refine (unhide D3).mono ?_
  rintro ev v3 ⟨s3, d3, rfl, cs3, b3⟩
  obtain ⟨d', hd'⟩ : ∃ d' : Nat → Nat, d' = fun g => if W2.heap.size ≤ g then d3 g else d g := ⟨_, rfl⟩
  obtain ⟨ys, hys⟩ : ∃ y : Sl, y = s3 := ⟨_, rfl⟩
  have n_s : CS v3 (w.heap.size + 2) d' 5 7 ys h.s := by rw [hys, hd']; exact (cs3.recol2 (fun g hg => if_pos hg)).base hB2
  have q3 : Value.slice s3.a s3.n s3.c = .slice ys.a ys.n ys.c := by rw [hys]
  replace m_p := (m_p.recol (d' := d') (fun g hg => by rw [hd']; exact if_neg (by omega))).below b3 (Nat.le_refl _)
  replace m_t := (m_t.recol (d' := d') (fun g hg => by rw [hd']; exact if_neg (by omega))).below b3 (Nat.le_refl _)
  have hB3' : w.heap.size + 2 ≤ v3.heap.size := Nat.le_trans hB2 b3.size
  replace c3 := (b3.cell (p := ⟨w.heap.size, 6, none⟩) (by show w.heap.size < W2.heap.size; omega)).trans c3
  replace f3 : v3.frozen? ⟨w.heap.size, 6, none⟩ = false := by rw [World.frozen?_of_block (b3.block w.heap.size (by omega))]; exact f3
  replace kb := ((kb.below b3 (by omega)).set 6 (.slice ys.a ys.n ys.c))
  simp only [List.set_cons_zero, List.set_cons_succ] at kb
  replace kr := (kr.below b3 (by omega)).other (g' := w.heap.size) (i := 6) (v := .slice ys.a ys.n ys.c) (by omega)
  have K3 := (K2.trans (b3.mono (by omega))).setCell (p := ⟨w.heap.size, 6, none⟩) (Nat.le_refl _) (.slice ys.a ys.n ys.c)
  have m_s := n_s.set (p := ⟨w.heap.size, 6, none⟩) (v := .slice ys.a ys.n ys.c) (by show w.heap.size < w.heap.size + 2; omega)
  replace m_p := m_p.set (p := ⟨w.heap.size, 6, none⟩) (v := .slice ys.a ys.n ys.c) (by show w.heap.size < w.heap.size + 2; omega)
  replace m_t := m_t.set (p := ⟨w.heap.size, 6, none⟩) (v := .slice ys.a ys.n ys.c) (by show w.heap.size < w.heap.size + 2; omega)
  have hB3 : w.heap.size + 2 ≤ (v3.setCell ⟨w.heap.size, 6, none⟩ (.slice ys.a ys.n ys.c)).heap.size := by rw [size_set']; exact hB3'
  rw [q3]
  clear q3 hd' hys n_s b3 D3 hB3' cs3 d
  obtain ⟨d, hd⟩ : ∃ d : Nat → Nat, d = d' := ⟨_, rfl⟩
  rw [← hd] at m_s m_p m_t
  clear hd d'
  obtain ⟨W3, e3⟩ : ∃ W, v3.setCell ⟨w.heap.size, 6, none⟩ (.slice ys.a ys.n ys.c) = W := ⟨_, rfl⟩
  rw [e3] at kb kr K3 hB3 m_p m_t m_s
  have E3 := hide e3
  clear e3
  go_upto_region 4 with fail
  rw [unhide E3]
  clear E3 c3 f3 K2 hB2
  have c4 := kb.cell 7
  have f4 := kb.free 7
  simp only [List.getElem?_cons_zero, List.getElem?_cons_succ] at c4
  have l4 : h.r.length = x.r.n := (unhide HO _ K3).r.1
  have D4 := hide (copy_any x.r.a x.r.n x.r.c h.r W3 (unhide HO _ K3).r (unhide HN _ K3).r (by have := (unhide HM).r; omega))
  go_wp2_with fail
  refine (unhide D4).mono ?_
  rintro ev v4 ⟨a4, c'4, rfl, ow4, b4⟩
  obtain ⟨d', hd'⟩ : ∃ d' : Nat → Nat, d' = fun g => if W3.heap.size ≤ g then 2 else d g := ⟨_, rfl⟩
  obtain ⟨yr, hyr⟩ : ∃ y : Sl, y = ⟨a4, x.r.n, c'4⟩ := ⟨_, rfl⟩
  have n_r : CB v4 (w.heap.size + 2) d' 2 yr h.r := by rw [hyr, hd']; exact CB.new l4.symm (unhide HO _ K3).r.2.1 ow4 hB3
  have q4 : Value.slice a4 x.r.n c'4 = .slice yr.a yr.n yr.c := by rw [hyr]
  replace m_p := (m_p.recol (d' := d') (fun g hg => by rw [hd']; exact if_neg (by omega))).below b4 (Nat.le_refl _)
  replace m_t := (m_t.recol (d' := d') (fun g hg => by rw [hd']; exact if_neg (by omega))).below b4 (Nat.le_refl _)
  replace m_s := (m_s.recol (d' := d') (fun g hg => by rw [hd']; exact if_neg (by omega))).below b4 (Nat.le_refl _)
  have hB4' : w.heap.size + 2 ≤ v4.heap.size := Nat.le_trans hB3 b4.size
  replace c4 := (b4.cell (p := ⟨w.heap.size, 7, none⟩) (by show w.heap.size < W3.heap.size; omega)).trans c4
  replace f4 : v4.frozen? ⟨w.heap.size, 7, none⟩ = false := by rw [World.frozen?_of_block (b4.block w.heap.size (by omega))]; exact f4
  replace kb := ((kb.below b4 (by omega)).set 7 (.slice yr.a yr.n yr.c))
  simp only [List.set_cons_zero, List.set_cons_succ] at kb
  replace kr := (kr.below b4 (by omega)).other (g' := w.heap.size) (i := 7) (v := .slice yr.a yr.n yr.c) (by omega)
  have K4 := (K3.trans (b4.mono (by omega))).setCell (p := ⟨w.heap.size, 7, none⟩) (Nat.le_refl _) (.slice yr.a yr.n yr.c)
  have m_r := n_r.set (p := ⟨w.heap.size, 7, none⟩) (v := .slice yr.a yr.n yr.c) (by show w.heap.size < w.heap.size + 2; omega)
  replace m_p := m_p.set (p := ⟨w.heap.size, 7, none⟩) (v := .slice yr.a yr.n yr.c) (by show w.heap.size < w.heap.size + 2; omega)
  replace m_t := m_t.set (p := ⟨w.heap.size, 7, none⟩) (v := .slice yr.a yr.n yr.c) (by show w.heap.size < w.heap.size + 2; omega)
  replace m_s := m_s.set (p := ⟨w.heap.size, 7, none⟩) (v := .slice yr.a yr.n yr.c) (by show w.heap.size < w.heap.size + 2; omega)
  have hB4 : w.heap.size + 2 ≤ (v4.setCell ⟨w.heap.size, 7, none⟩ (.slice yr.a yr.n yr.c)).heap.size := by rw [size_set']; exact hB4'
  rw [q4]
  clear q4 hd' hyr n_r b4 D4 hB4' ow4 l4 d
  obtain ⟨d, hd⟩ : ∃ d : Nat → Nat, d = d' := ⟨_, rfl⟩
  rw [← hd] at m_r m_p m_t m_s
  clear hd d'
  obtain ⟨W4, e4⟩ : ∃ W, v4.setCell ⟨w.heap.size, 7, none⟩ (.slice yr.a yr.n yr.c) = W := ⟨_, rfl⟩
  rw [e4] at kb kr K4 hB4 m_p m_t m_s m_r
  have E4 := hide e4
  clear e4
  go_upto_region 5 with fail
  rw [unhide E4]
  clear E4 c4 f4 K3 hB3
  have c5 := kb.cell 8
  have f5 := kb.free 8
  simp only [List.getElem?_cons_zero, List.getElem?_cons_succ] at c5
  have l5 : h.g.length = x.g.n := (unhide HO _ K4).g.1
  have D5 := hide (copy_any x.g.a x.g.n x.g.c h.g W4 (unhide HO _ K4).g (unhide HN _ K4).g (by have := (unhide HM).g; omega))
  go_wp2_with fail
  refine (unhide D5).mono ?_
  rintro ev v5 ⟨a5, c'5, rfl, ow5, b5⟩
  obtain ⟨d', hd'⟩ : ∃ d' : Nat → Nat, d' = fun g => if W4.heap.size ≤ g then 3 else d g := ⟨_, rfl⟩
  obtain ⟨yg, hyg⟩ : ∃ y : Sl, y = ⟨a5, x.g.n, c'5⟩ := ⟨_, rfl⟩
  have n_g : CB v5 (w.heap.size + 2) d' 3 yg h.g := by rw [hyg, hd']; exact CB.new l5.symm (unhide HO _ K4).g.2.1 ow5 hB4
  have q5 : Value.slice a5 x.g.n c'5 = .slice yg.a yg.n yg.c := by rw [hyg]
  replace m_p := (m_p.recol (d' := d') (fun g hg => by rw [hd']; exact if_neg (by omega))).below b5 (Nat.le_refl _)
  replace m_t := (m_t.recol (d' := d') (fun g hg => by rw [hd']; exact if_neg (by omega))).below b5 (Nat.le_refl _)
  replace m_s := (m_s.recol (d' := d') (fun g hg => by rw [hd']; exact if_neg (by omega))).below b5 (Nat.le_refl _)
  replace m_r := (m_r.recol (d' := d') (fun g hg => by rw [hd']; exact if_neg (by omega))).below b5 (Nat.le_refl _)
  have hB5' : w.heap.size + 2 ≤ v5.heap.size := Nat.le_trans hB4 b5.size
  replace c5 := (b5.cell (p := ⟨w.heap.size, 8, none⟩) (by show w.heap.size < W4.heap.size; omega)).trans c5
  replace f5 : v5.frozen? ⟨w.heap.size, 8, none⟩ = false := by rw [World.frozen?_of_block (b5.block w.heap.size (by omega))]; exact f5
  replace kb := ((kb.below b5 (by omega)).set 8 (.slice yg.a yg.n yg.c))
  simp only [List.set_cons_zero, List.set_cons_succ] at kb
  replace kr := (kr.below b5 (by omega)).other (g' := w.heap.size) (i := 8) (v := .slice yg.a yg.n yg.c) (by omega)
  have K5 := (K4.trans (b5.mono (by omega))).setCell (p := ⟨w.heap.size, 8, none⟩) (Nat.le_refl _) (.slice yg.a yg.n yg.c)
  have m_g := n_g.set (p := ⟨w.heap.size, 8, none⟩) (v := .slice yg.a yg.n yg.c) (by show w.heap.size < w.heap.size + 2; omega)
  replace m_p := m_p.set (p := ⟨w.heap.size, 8, none⟩) (v := .slice yg.a yg.n yg.c) (by show w.heap.size < w.heap.size + 2; omega)
  replace m_t := m_t.set (p := ⟨w.heap.size, 8, none⟩) (v := .slice yg.a yg.n yg.c) (by show w.heap.size < w.heap.size + 2; omega)
  replace m_s := m_s.set (p := ⟨w.heap.size, 8, none⟩) (v := .slice yg.a yg.n yg.c) (by show w.heap.size < w.heap.size + 2; omega)
  replace m_r := m_r.set (p := ⟨w.heap.size, 8, none⟩) (v := .slice yg.a yg.n yg.c) (by show w.heap.size < w.heap.size + 2; omega)
  have hB5 : w.heap.size + 2 ≤ (v5.setCell ⟨w.heap.size, 8, none⟩ (.slice yg.a yg.n yg.c)).heap.size := by rw [size_set']; exact hB5'
  rw [q5]
  clear q5 hd' hyg n_g b5 D5 hB5' ow5 l5 d
  obtain ⟨d, hd⟩ : ∃ d : Nat → Nat, d = d' := ⟨_, rfl⟩
  rw [← hd] at m_g m_p m_t m_s m_r
  clear hd d'
  obtain ⟨W5, e5⟩ : ∃ W, v5.setCell ⟨w.heap.size, 8, none⟩ (.slice yg.a yg.n yg.c) = W := ⟨_, rfl⟩
  rw [e5] at kb kr K5 hB5 m_p m_t m_s m_r m_g
  have E5 := hide e5
  clear e5
  go_upto_region 6 with fail
  rw [unhide E5]
  clear E5 c5 f5 K4 hB4
  have c6 := kb.cell 9
  have f6 := kb.free 9
  simp only [List.getElem?_cons_zero, List.getElem?_cons_succ] at c6
  have l6 : h.e.length = x.e.n := (unhide HO _ K5).e.1
  have D6 := hide (copy_any x.e.a x.e.n x.e.c h.e W5 (unhide HO _ K5).e (unhide HN _ K5).e (by have := (unhide HM).e; omega))
  go_wp2_with fail
  refine (unhide D6).mono ?_
  rintro ev v6 ⟨a6, c'6, rfl, ow6, b6⟩
  obtain ⟨d', hd'⟩ : ∃ d' : Nat → Nat, d' = fun g => if W5.heap.size ≤ g then 4 else d g := ⟨_, rfl⟩
  obtain ⟨ye, hye⟩ : ∃ y : Sl, y = ⟨a6, x.e.n, c'6⟩ := ⟨_, rfl⟩
  have n_e : CB v6 (w.heap.size + 2) d' 4 ye h.e := by rw [hye, hd']; exact CB.new l6.symm (unhide HO _ K5).e.2.1 ow6 hB5
  have q6 : Value.slice a6 x.e.n c'6 = .slice ye.a ye.n ye.c := by rw [hye]
  replace m_p := (m_p.recol (d' := d') (fun g hg => by rw [hd']; exact if_neg (by omega))).below b6 (Nat.le_refl _)
  replace m_t := (m_t.recol (d' := d') (fun g hg => by rw [hd']; exact if_neg (by omega))).below b6 (Nat.le_refl _)
  replace m_s := (m_s.recol (d' := d') (fun g hg => by rw [hd']; exact if_neg (by omega))).below b6 (Nat.le_refl _)
  replace m_r := (m_r.recol (d' := d') (fun g hg => by rw [hd']; exact if_neg (by omega))).below b6 (Nat.le_refl _)
  replace m_g := (m_g.recol (d' := d') (fun g hg => by rw [hd']; exact if_neg (by omega))).below b6 (Nat.le_refl _)
  have hB6' : w.heap.size + 2 ≤ v6.heap.size := Nat.le_trans hB5 b6.size
  replace c6 := (b6.cell (p := ⟨w.heap.size, 9, none⟩) (by show w.heap.size < W5.heap.size; omega)).trans c6
  replace f6 : v6.frozen? ⟨w.heap.size, 9, none⟩ = false := by rw [World.frozen?_of_block (b6.block w.heap.size (by omega))]; exact f6
  replace kb := ((kb.below b6 (by omega)).set 9 (.slice ye.a ye.n ye.c))
  simp only [List.set_cons_zero, List.set_cons_succ] at kb
  replace kr := (kr.below b6 (by omega)).other (g' := w.heap.size) (i := 9) (v := .slice ye.a ye.n ye.c) (by omega)
  have K6 := (K5.trans (b6.mono (by omega))).setCell (p := ⟨w.heap.size, 9, none⟩) (Nat.le_refl _) (.slice ye.a ye.n ye.c)
  have m_e := n_e.set (p := ⟨w.heap.size, 9, none⟩) (v := .slice ye.a ye.n ye.c) (by show w.heap.size < w.heap.size + 2; omega)
  replace m_p := m_p.set (p := ⟨w.heap.size, 9, none⟩) (v := .slice ye.a ye.n ye.c) (by show w.heap.size < w.heap.size + 2; omega)
  replace m_t := m_t.set (p := ⟨w.heap.size, 9, none⟩) (v := .slice ye.a ye.n ye.c) (by show w.heap.size < w.heap.size + 2; omega)
  replace m_s := m_s.set (p := ⟨w.heap.size, 9, none⟩) (v := .slice ye.a ye.n ye.c) (by show w.heap.size < w.heap.size + 2; omega)
  replace m_r := m_r.set (p := ⟨w.heap.size, 9, none⟩) (v := .slice ye.a ye.n ye.c) (by show w.heap.size < w.heap.size + 2; omega)
  replace m_g := m_g.set (p := ⟨w.heap.size, 9, none⟩) (v := .slice ye.a ye.n ye.c) (by show w.heap.size < w.heap.size + 2; omega)
  have hB6 : w.heap.size + 2 ≤ (v6.setCell ⟨w.heap.size, 9, none⟩ (.slice ye.a ye.n ye.c)).heap.size := by rw [size_set']; exact hB6'
  rw [q6]
  clear q6 hd' hye n_e b6 D6 hB6' ow6 l6 d
  obtain ⟨d, hd⟩ : ∃ d : Nat → Nat, d = d' := ⟨_, rfl⟩
  rw [← hd] at m_e m_p m_t m_s m_r m_g
  clear hd d'
  obtain ⟨W6, e6⟩ : ∃ W, v6.setCell ⟨w.heap.size, 9, none⟩ (.slice ye.a ye.n ye.c) = W := ⟨_, rfl⟩
  rw [e6] at kb kr K6 hB6 m_p m_t m_s m_r m_g m_e
  have E6 := hide e6
  clear e6
  go_upto_region 7 with fail
  rw [unhide E6]
  clear E6 c6 f6 K5 hB5
  have c7 := kb.cell 10
  have f7 := kb.free 10
  simp only [List.getElem?_cons_zero, List.getElem?_cons_succ] at c7
  have D7 := hide (l5Lists_any 6 8 (by omega) x.k.a x.k.n x.k.c h.k W6 (unhide HO _ K6).k (unhide HN _ K6).k (by have := (unhide HO _ K6).k.1; have := (unhide HM).k; omega) (unhide HM).kz)
  go_wp2_with fail
  refine (unhide D7).mono ?_
  rintro ev v7 ⟨s7, d7, rfl, cs7, b7⟩
  obtain ⟨d', hd'⟩ : ∃ d' : Nat → Nat, d' = fun g => if W6.heap.size ≤ g then d7 g else d g := ⟨_, rfl⟩
  obtain ⟨yk, hyk⟩ : ∃ y : Sl, y = s7 := ⟨_, rfl⟩
  have n_k : CS v7 (w.heap.size + 2) d' 6 8 yk h.k := by rw [hyk, hd']; exact (cs7.recol2 (fun g hg => if_pos hg)).base hB6
  have q7 : Value.slice s7.a s7.n s7.c = .slice yk.a yk.n yk.c := by rw [hyk]
  replace m_p := (m_p.recol (d' := d') (fun g hg => by rw [hd']; exact if_neg (by omega))).below b7 (Nat.le_refl _)
  replace m_t := (m_t.recol (d' := d') (fun g hg => by rw [hd']; exact if_neg (by omega))).below b7 (Nat.le_refl _)
  replace m_s := (m_s.recol (d' := d') (fun g hg => by rw [hd']; exact if_neg (by omega))).below b7 (Nat.le_refl _)
  replace m_r := (m_r.recol (d' := d') (fun g hg => by rw [hd']; exact if_neg (by omega))).below b7 (Nat.le_refl _)
  replace m_g := (m_g.recol (d' := d') (fun g hg => by rw [hd']; exact if_neg (by omega))).below b7 (Nat.le_refl _)
  replace m_e := (m_e.recol (d' := d') (fun g hg => by rw [hd']; exact if_neg (by omega))).below b7 (Nat.le_refl _)
  have hB7' : w.heap.size + 2 ≤ v7.heap.size := Nat.le_trans hB6 b7.size
  replace c7 := (b7.cell (p := ⟨w.heap.size, 10, none⟩) (by show w.heap.size < W6.heap.size; omega)).trans c7
  replace f7 : v7.frozen? ⟨w.heap.size, 10, none⟩ = false := by rw [World.frozen?_of_block (b7.block w.heap.size (by omega))]; exact f7
  replace kb := ((kb.below b7 (by omega)).set 10 (.slice yk.a yk.n yk.c))
  simp only [List.set_cons_zero, List.set_cons_succ] at kb
  replace kr := (kr.below b7 (by omega)).other (g' := w.heap.size) (i := 10) (v := .slice yk.a yk.n yk.c) (by omega)
  have K7 := (K6.trans (b7.mono (by omega))).setCell (p := ⟨w.heap.size, 10, none⟩) (Nat.le_refl _) (.slice yk.a yk.n yk.c)
  have m_k := n_k.set (p := ⟨w.heap.size, 10, none⟩) (v := .slice yk.a yk.n yk.c) (by show w.heap.size < w.heap.size + 2; omega)
  replace m_p := m_p.set (p := ⟨w.heap.size, 10, none⟩) (v := .slice yk.a yk.n yk.c) (by show w.heap.size < w.heap.size + 2; omega)
  replace m_t := m_t.set (p := ⟨w.heap.size, 10, none⟩) (v := .slice yk.a yk.n yk.c) (by show w.heap.size < w.heap.size + 2; omega)
  replace m_s := m_s.set (p := ⟨w.heap.size, 10, none⟩) (v := .slice yk.a yk.n yk.c) (by show w.heap.size < w.heap.size + 2; omega)
  replace m_r := m_r.set (p := ⟨w.heap.size, 10, none⟩) (v := .slice yk.a yk.n yk.c) (by show w.heap.size < w.heap.size + 2; omega)
  replace m_g := m_g.set (p := ⟨w.heap.size, 10, none⟩) (v := .slice yk.a yk.n yk.c) (by show w.heap.size < w.heap.size + 2; omega)
  replace m_e := m_e.set (p := ⟨w.heap.size, 10, none⟩) (v := .slice yk.a yk.n yk.c) (by show w.heap.size < w.heap.size + 2; omega)
  have hB7 : w.heap.size + 2 ≤ (v7.setCell ⟨w.heap.size, 10, none⟩ (.slice yk.a yk.n yk.c)).heap.size := by rw [size_set']; exact hB7'
  rw [q7]
  clear q7 hd' hyk n_k b7 D7 hB7' cs7 d
  obtain ⟨d, hd⟩ : ∃ d : Nat → Nat, d = d' := ⟨_, rfl⟩
  rw [← hd] at m_k m_p m_t m_s m_r m_g m_e
  clear hd d'
  obtain ⟨W7, e7⟩ : ∃ W, v7.setCell ⟨w.heap.size, 10, none⟩ (.slice yk.a yk.n yk.c) = W := ⟨_, rfl⟩
  rw [e7] at kb kr K7 hB7 m_p m_t m_s m_r m_g m_e m_k
  have E7 := hide e7
  clear e7
  go_upto_region 8 with fail
  rw [unhide E7]
  clear E7 c7 f7 K6 hB6
  have HC : Hid (CH W7 (w.heap.size + 2) d ⟨yp, yt, ys, yr, yg, ye, yk⟩ h) := ⟨m_p, m_t, m_s, m_r, m_g, m_e, m_k⟩
  have HK := hide K7
  have u0 := kb.cell 0
  have r0 := kr.cell 0
  have q0 := kr.free 0
  have u1 := kb.cell 1
  have r1 := kr.cell 1
  have q1 := kr.free 1
  have u2 := kb.cell 2
  have r2 := kr.cell 2
  have q2 := kr.free 2
  have u3 := kb.cell 3
  have r3 := kr.cell 3
  have q3 := kr.free 3
  have u4 := kb.cell 4
  have r4 := kr.cell 4
  have q4 := kr.free 4
  have u5 := kb.cell 5
  have r5 := kr.cell 5
  have q5 := kr.free 5
  have u6 := kb.cell 6
  have r6 := kr.cell 6
  have q6 := kr.free 6
  have u7 := kb.cell 7
  have r7 := kr.cell 7
  have q7 := kr.free 7
  have u8 := kb.cell 8
  have r8 := kr.cell 8
  have q8 := kr.free 8
  have u9 := kb.cell 9
  have r9 := kr.cell 9
  have q9 := kr.free 9
  have u10 := kb.cell 10
  have r10 := kr.cell 10
  have q10 := kr.free 10
  simp only [List.getElem?_cons_zero, List.getElem?_cons_succ] at u0 r0 u1 r1 u2 r2 u3 r3 u4 r4 u5 r5 u6 r6 u7 r7 u8 r8 u9 r9 u10 r10
  clear kb kr K7 hB7 m_p m_t m_s m_r m_g m_e m_k
  go_wp2_with fail
  refine bodyPost_ret (v := .agg #[.slice yp.a yp.n yp.c, .int .i64 h.n1, .int .i64 h.n2, .int .i64 h.n3, .slice yt.a yt.n yt.c, .int .i64 h.n5, .slice ys.a ys.n ys.c, .slice yr.a yr.n yr.c, .slice yg.a yg.n yg.c, .slice ye.a ye.n ye.c, .slice yk.a yk.n yk.c]) (by simp [results, Tryz.results30, go_sem, r0, r1, r2, r3, r4, r5, r6, r7, r8, r9, r10]) rfl ⟨⟨yp, yt, ys, yr, yg, ye, yk⟩, d, rfl, ?_, ?_⟩
  · repeat (refine CH.set ?_ (by show w.heap.size + 1 < w.heap.size + 2; omega))
    exact unhide HC
  · repeat (refine Below.setCell ?_ (by show w.heap.size ≤ w.heap.size + 1; omega) _)
    exact unhide HK

end Go.Proofs.YtbncoiljklagkaaGreatDoor
