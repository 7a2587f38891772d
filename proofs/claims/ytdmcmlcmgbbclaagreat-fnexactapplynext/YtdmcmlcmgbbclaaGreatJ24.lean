/- What is proved here: what the program's takeIn answers. -/
import Derived.Test.YtdmcmlcmgbbclaaGreatK0
import Derived.Test.YtdmcmlcmgbbclaaGreatJ23
import Derived.Test.YtdmcmlcmgbbclaaGreatJ18
import Derived.Test.YtdmcmlcmgbbclaaGreatJ9
import Derived.Test.YtdmcmlcmgbbclaaGreatJ19
import Derived.Test.YtdmcmlcmgbbclaaGreatJ16
import Derived.Test.YtdmcmlcmgbbclaaGreatJ17
import Derived.Test.YtdmcmlcmgbbclaaGreatJ10
namespace Go.Proofs.YtdmcmlcmgbbclaaGreat
set_option linter.unusedVariables false
set_option linter.unusedSimpArgs false
open Go.RowKit
set_option maxRecDepth 100000

/-- What is known at the entry of takeIn, takeOut: x and the answer lie in blocks of their own. -/
theorem entry_sr (e : SnS) (x : Sn) (w : World) : ∃ W0, (w.alloc (.cells (snvals e x) 37)).alloc (.cells #[.int .i64 0, .int .i64 0, .slice none 0 0, .slice none 0 0, .slice none 0 0] 39) = W0 ∧ Below w.heap.size w W0 ∧ W0.heap.size = w.heap.size + 2 ∧ SBlk W0 w.heap.size (snvals e x).toList 37 ∧ SBlk W0 (w.heap.size + 1) [.int .i64 0, .int .i64 0, .slice none 0 0, .slice none 0 0, .slice none 0 0] 39 := by
 have kr := SBlk.new (w.alloc (.cells (snvals e x) 37)) #[.int .i64 0, .int .i64 0, .slice none 0 0, .slice none 0 0, .slice none 0 0] 39
 have hz1 : (w.alloc (.cells (snvals e x) 37)).heap.size = w.heap.size + 1 := by simp
 rw [hz1] at kr
 exact ⟨_, rfl, (below_alloc w _).trans ((below_alloc _ _).mono (by simp)), by simp, (SBlk.new w (snvals e x) 37).next _, kr⟩

set_option maxHeartbeats 4000000 in
theorem takeIn_full (e : SnS) (x : Sn) (g : Nat) (t : Sl) (w : World) (o : SNK.Ok w e x) (hs : 7 ≤ x.2.1.length) :
    Calls Tryz.prog 79 #[.agg (snvals e x), .map (some g), .slice t.a t.n t.c] w fun r w' => r = .returned (.agg (srvals 10 ((), ⟨none, 0, 0⟩, ⟨none, 0, 0⟩, ⟨none, 0, 0⟩) (0, [], [], []))) ∧ Below w.heap.size w w' := by
 have hl := o.2.1.len
 have hd : decide ((7 : Int) ≤ (e.2.1.n : Int)) = true := decide_eq_true (by omega)
 obtain ⟨W0, e0, b0, hz, kx, kr⟩ := entry_sr e x w
 have x1 := kx.cell 1
 obtain ⟨⟨r0, r1, r2, r3, r4⟩, f0, f1, f2, f3, f4⟩ := five_blk kr
 simp only [snvals, List.getElem?_cons_zero, List.getElem?_cons_succ] at x1
 have HB := hide b0
 clear o kx kr b0
 go_enter Tryz.func79, Tryz.ntmps79
 go_wp2_with (rw [e0])
 refine bodyPost_ret (v := .agg (srvals 10 ((), ⟨none, 0, 0⟩, ⟨none, 0, 0⟩, ⟨none, 0, 0⟩) (0, [], [], []))) (by simp [results, Tryz.results79, go_sem, r0, r1, r2, r3, r4, srvals]) rfl ⟨rfl, ?_⟩
 exact set5 (unhide HB) (by omega) _ _ _ _ _

theorem grownB {w w1 w2 : World} {r : Option Nat} {C : Nat} (h : w.grownBy w1 r) (k : Below C w1 w2) (hC : w.heap.size ≤ C) : w.grownBy w2 r :=
 ⟨k.os.trans h.os, k.tape.trans h.tape, k.output.trans h.output, Nat.le_trans h.size k.size, fun q hq hne => (k.block q (Nat.lt_of_lt_of_le hq hC)).trans (h.block q hq hne)⟩

set_option maxHeartbeats 8000000 in
theorem takeIn_any (p : Path) (e : SnS) (x : Sn) (g k : Nat) (L : Pv) (t : Sl) (zt : List Int) (w : World) (C : Nat) (hC : C ≤ g) (o : ∀ W, Below C w W → SNK.Ok W e x) (m : SnSm x) (hf : sgFlt x.2.1 = 0) (h0 : 0 < x.2.1.length) (hs : ¬ 7 ≤ x.2.1.length) (hp : PollV w g k L) (hr : Rise L) (hl : L.length ≤ 31) (ot : ∀ W, Below C w W → BOk W t zt) (h4 : zt.length = 4) :
    Calls Tryz.prog 79 #[.agg (snvals e x), .map (some g), .slice t.a t.n t.c] w fun r w' => ∃ e' : SnS, r = .returned (.agg (srvals 0 e' (x.1, putL x.2.1 zt, x.2.2.1, (L.filter (fun q => !decide (q.2.2.1 = zt))).map Prod.snd))) ∧ (∃ d, SNK.Own w' w.heap.size d p e' (x.1, putL x.2.1 zt, x.2.2.1, (L.filter (fun q => !decide (q.2.2.1 = zt))).map Prod.snd)) ∧ w.grownBy w' (some g) := by
 have hl1 := (o w (Below.refl _ _)).2.1.len
 have hd : decide ((7 : Int) ≤ (e.2.1.n : Int)) = false := decide_eq_false (by omega)
 obtain ⟨z0, z1, z2, z3, rfl⟩ : ∃ z0 z1 z2 z3, zt = [z0, z1, z2, z3] := by
  match zt, h4 with
  | [a, b, c, d], _ => exact ⟨a, b, c, d, rfl⟩
 have had : Adr [z0, z1, z2, z3] := ⟨rfl, (ot w (Below.refl _ _)).row.2.1⟩
 have hgw := hp.lt
 have HAB := hide had
 obtain ⟨W0, e0, b0, hz, kx, kr⟩ := entry_sr e x w
 have x1 := kx.cell 1
 simp only [snvals, List.getElem?_cons_zero, List.getElem?_cons_succ] at x1
 have HAD := hide (fun (W : World) (hb : Below W0.heap.size W0 W) => addressOf_any t z0 z1 z2 z3 W (ot W ((b0.trans (hb.mono b0.size)).mono (by omega))))
 have HDR := hide (fun (W : World) (hb : Below W0.heap.size W0 W) => dropOn_any g k z0 z1 z2 z3 L W (hp.below (b0.trans (hb.mono b0.size)) (Nat.le_refl _)) had)
 have HB := hide b0
 have HKX := hide kx
 have HKR := hide kr
 have HO := hide o
 have HOT := hide ot
 clear o kx kr b0 hp ot
 obtain ⟨VL, hVL⟩ : ∃ VL, VL = (L.filter (fun q => !decide (q.2.2.1 = [z0, z1, z2, z3]))).map Prod.snd := ⟨_, rfl⟩
 rw [← hVL]
 have HVL := hide hVL
 clear hVL
 go_enter Tryz.func79, Tryz.ntmps79
 go_wp2_with (rw [e0])
 refine ((unhide HAD) W0 (Below.refl _ _)).mono ?_
 rintro e1 w1 ⟨rfl, b1⟩
 have HB1 := hide b1
 clear x1 e0 b1
 go_wp2_with fail
 refine ((unhide HDR) w1 (unhide HB1)).mono ?_
 rintro e2 w2 ⟨rfl, hp2, g2⟩
 have B1 : Below w.heap.size w w1 := (unhide HB).trans ((unhide HB1).mono (unhide HB).size)
 have s1 := (unhide HB1).size
 have s2 := g2.size
 have kx2 : SBlk w2 w.heap.size (snvals e x).toList 37 := (g2.block _ (by omega) (fun e => by have := Option.some.inj e; omega)).trans ((unhide HKX).below (unhide HB1) (unhide HKX).lt)
 have kr2 : SBlk w2 (w.heap.size + 1) _ 39 := (g2.block _ (by omega) (fun e => by have := Option.some.inj e; omega)).trans ((unhide HKR).below (unhide HB1) (unhide HKR).lt)
 have B2 : Below C w w2 := (B1.mono (by omega)).grown g2 (by omega) (fun b e => by have := Option.some.inj e; omega)
 have o2 : SNK.Ok w2 e x := (unhide HO) w2 B2
 have HWV := hide (withVotes_any p e x g k _ w2 o2 m hp2 (hr.filter _) (Nat.le_trans (List.length_filter_le _ _) hl))
 have q0 := kx2.cell 0
 have q1 := kx2.cell 1
 have q2 := kx2.cell 2
 have q3 := kx2.cell 3
 simp only [snvals, List.getElem?_cons_zero, List.getElem?_cons_succ] at q0 q1 q2 q3
 unfold snvals at HWV
 have HKR2 := hide kr2
 have HG2 := hide (And.intro B1 (And.intro g2 B2))
 have sw2 : w.heap.size + 2 ≤ w2.heap.size := by omega
 clear hp2 g2 kx2 kr2 o2 B1 B2
 go_wp2_with fail
 rw [hl1] at HWV
 refine (unhide HWV).mono ?_
 rintro r3 w3 ⟨e3, rfl, V3, b3⟩
 rw [← unhide HVL] at V3
 obtain ⟨d3, es, V3, G3⟩ := V3
 obtain ⟨⟨⟩, s1, s2', s3⟩ := e3
 simp only at V3 G3
 obtain ⟨s1a, s1n, s1c⟩ := s1
 have hn1 : s1n = x.2.1.length := G3.len
 obtain ⟨gg, c1, hv1⟩ := own_some G3.own (by show 0 < s1n; omega)
 simp only [Value.slice.injEq] at hv1
 obtain ⟨rfl, _, rfl⟩ := hv1
 have HN1 := hide hn1
 have hn7 : s1n < 7 := by omega
 clear hn1 hl1
 have k4 := SBlk.new w3 #[.int .i64 x.1, .slice (some ⟨gg, 0, none⟩) s1n s1c, .slice s2'.a s2'.n s2'.c, .slice s3.a s3.n s3.c] 37
 have b4 := below_alloc w3 (.cells #[.int .i64 x.1, .slice (some ⟨gg, 0, none⟩) s1n s1c, .slice s2'.a s2'.n s2'.c, .slice s3.a s3.n s3.c] 37)
 have hz4 : (w3.alloc (.cells #[.int .i64 x.1, .slice (some ⟨gg, 0, none⟩) s1n s1c, .slice s2'.a s2'.n s2'.c, .slice s3.a s3.n s3.c] 37)).heap.size = w3.heap.size + 1 := by simp
 obtain ⟨W4, e4⟩ : ∃ W, w3.alloc (.cells #[.int .i64 x.1, .slice (some ⟨gg, 0, none⟩) s1n s1c, .slice s2'.a s2'.n s2'.c, .slice s3.a s3.n s3.c] 37) = W := ⟨_, rfl⟩
 rw [e4] at k4 b4 hz4
 obtain ⟨d4, hd4, hd4'⟩ : ∃ d4 : Nat → Path, (∀ q, q < w3.heap.size → d4 q = d3 q) ∧ d4 w3.heap.size = [] := ⟨fun q => if q < w3.heap.size then d3 q else [], fun q h => if_pos h, if_neg (Nat.lt_irrefl _)⟩
 have V4 := SNK.ownBelow (SNK.recolNew (d' := d4) V3 hd4) b4 (Nat.le_refl _)
 have G4 : SgOwn W4 w2.heap.size d4 (p ++ [1] ++ [0]) ⟨some ⟨gg, 0, none⟩, s1n, s1c⟩ x.2.1 es := (G3.recol (d' := d4) (fun q hq _ _ => hd4 q hq)).frame (fun q hq _ _ => b4.block q hq)
 have hgg : gg < w3.heap.size := ((OwnS.of G3.own).blk (x := ⟨gg, 0, none⟩) rfl).2
 have hPL := hide (fun (W : World) (hb : Below W4.heap.size W4 W) => placeAmong_any ⟨some ⟨gg, 0, none⟩, s1n, s1c⟩ t x.2.1 [z0, z1, z2, z3] W (RowOk.below G4.row.ok hb (Nat.le_refl _)) ((unhide HOT) W ((unhide HG2).2.2.trans ((b3.mono (by omega)).trans ((b4.mono (by have := b3.size; omega)).trans (hb.mono (by have := b3.size; have := b4.size; omega)))))) hf)
 obtain ⟨y0, y1, y2, y3⟩ := (four_blk k4).1
 obtain ⟨h0, h1, h2, h3⟩ := (four_blk k4).2
 have E4 := hide e4
 have K4 := hide (And.intro k4 (And.intro b3 (And.intro b4 (And.intro V4 G4))))
 have HD4 := hide hd4'
 clear k4 b4 b3 V3 V4 G3 G4 e4 hd4 hd4' q0 q1 q2 q3
 go_wp2_with (rw [unhide E4])
 refine ((unhide hPL) W4 (Below.refl _ _)).mono ?_
 rintro r5 w5 ⟨rfl, rfl⟩
 have hpl : plB x.2.1 [z0, z1, z2, z3] ≤ s1n := by rw [unhide HN1]; exact plB_le x.2.1 [z0, z1, z2, z3]
 have i0 : (0 : Int) ≤ (plB x.2.1 [z0, z1, z2, z3] : Nat) := by omega
 generalize decide ([z0, z1, z2, z3] ∈ x.2.1) = bIn
 obtain ⟨pk, hpk⟩ : ∃ pk, plB x.2.1 [z0, z1, z2, z3] = pk := ⟨_, rfl⟩
 rw [hpk] at hpl i0 ⊢
 have HPK := hide hpk
 clear hpk
 have HY : Hid (∀ W, Below w5.heap.size w5 W → W.cell? ⟨w3.heap.size, 1, none⟩ = some (.slice (some ⟨gg, 0, none⟩) s1n s1c)) := fun W hb => ((unhide K4).1.below hb (unhide K4).1.lt).cell 1
 have HCL := hide (clone_any t.a t.n t.c [z0, z1, z2, z3] w5.drew ((unhide HOT) w5.drew ((unhide HG2).2.2.trans (((unhide K4).2.1.mono (by omega)).trans (((unhide K4).2.2.1.drew).mono (by have := (unhide K4).2.1.size; omega))))).row (by have := ((unhide HOT) w2 (unhide HG2).2.2).row.1; simp at this; omega))
 have yd : w5.drew.cell? ⟨w3.heap.size, 1, none⟩ = some (.slice (some ⟨gg, 0, none⟩) s1n s1c) := (unhide HY) _ (Below.refl w5.heap.size w5).drew
 clear hd
 go_upto_region 7 with fail
 refine wp_region_held_drew (S := (fun _ => True)) (by kernel_rfl) (trivial) (fun hHeld => ?_)
 refine wpAnyH_take (i := 0) (oi := _) (v := ?_) rfl (by kernel_rfl) (by kernel_rfl) (by kernel_rfl) (fun _ _ _ h => h) (Or.inl ⟨by kernel_rfl, ?_⟩) (by assumption) ?_
 rotate_left
 · ((intro wq hSw; (try dsimp only at hSw); go_simp) <;> with_reducible rfl)
 (try simp only [List.getElem_toArray, List.getElem_cons_zero, List.getElem_cons_succ, Act.put, List.setIfInBounds_toArray, List.set_cons_zero, List.set_cons_succ]); (try dsimp only)
 refine wpAnyH_take (i := 2) (oi := _) (v := ?_) rfl (by kernel_rfl) (by kernel_rfl) (by kernel_rfl) (fun _ _ _ h => h) (Or.inl ⟨by kernel_rfl, ?_⟩) (by assumption) ?_
 rotate_left
 · ((intro wq hSw; (try dsimp only at hSw); go_simp) <;> with_reducible rfl)
 (try simp only [List.getElem_toArray, List.getElem_cons_zero, List.getElem_cons_succ, Act.put, List.setIfInBounds_toArray, List.set_cons_zero, List.set_cons_succ]); (try dsimp only)
 refine wpAnyH_take (i := 3) (oi := _) (v := ?_) rfl (by kernel_rfl) (by kernel_rfl) (by kernel_rfl) (fun _ _ _ h => h) (Or.inl ⟨by kernel_rfl, ?_⟩) (by assumption) ?_
 rotate_left
 · ((intro wq hSw; (try dsimp only at hSw); go_simp) <;> with_reducible rfl)
 (try simp only [List.getElem_toArray, List.getElem_cons_zero, List.getElem_cons_succ, Act.put, List.setIfInBounds_toArray, List.set_cons_zero, List.set_cons_succ]); (try dsimp only)
 refine wpAnyH_ready (rs := [1, 4]) (by kernel_rfl) (by simp) ?_
 refine AllReadyH.cons (o := _) rfl (fun K hK => ?_) ?_
 · skip
   go_simp
   refine hK.out _ _ (trivial) (fun hHeld => ?_)
   clear hK K
   (try simp only [List.getElem_toArray, List.getElem_cons_zero, List.getElem_cons_succ, Act.put, List.setIfInBounds_toArray, List.set_cons_zero, List.set_cons_succ]); (try dsimp only)
   refine rdA 4 (fun K hK => ?_)
   go_simp
   go_at_call 74
   refine (unhide HCL).mono ?_
   rintro r w6 ⟨ta, tc, rfl, o6, b6⟩
   have J6 : Below w5.heap.size w5 w6 := (Below.refl w5.heap.size w5).drew.trans (b6.mono (Nat.le_refl _))
   have z6 := J6.size
   have yc := (unhide HY) w6 J6
   have ya : ∀ o, (w6.alloc o).cell? ⟨w3.heap.size, 1, none⟩ = some (.slice (some ⟨gg, 0, none⟩) s1n s1c) := fun o => (unhide HY) _ (J6.alloc z6 o)
   have O6 := hide (And.intro o6 J6)
   clear o6 b6 J6
   refine hK.out _ _ (trivial) (fun hHeld => ?_)
   clear hK K
   (try simp only [List.getElem_toArray, List.getElem_cons_zero, List.getElem_cons_succ, Act.put, List.setIfInBounds_toArray, List.set_cons_zero, List.set_cons_succ]); (try dsimp only)
   refine rdA 5 (fun K hK => ?_)
   go_simp
   refine hK.out _ _ (trivial) (fun hHeld => ?_)
   clear hK K
   (try simp only [List.getElem_toArray, List.getElem_cons_zero, List.getElem_cons_succ, Act.put, List.setIfInBounds_toArray, List.set_cons_zero, List.set_cons_succ]); (try dsimp only)
   refine rdA 6 (fun K hK => ?_)
   go_simp
   go_at_call 112
   have B7 : Below w5.heap.size w5 (w6.alloc (.cells #[.slice ta t.n tc] 29)) := (unhide O6).2.alloc z6 _
   have hb7 : (w6.alloc (.cells #[.slice ta t.n tc] 29)).heap[w6.heap.size]? = some (.cells #[Sl.v ⟨ta, t.n, tc⟩] 29 (0, 0)) := SBlk.new w6 #[.slice ta t.n tc] 29
   have hz7 : (w6.alloc (.cells #[.slice ta t.n tc] 29)).heap.size = w6.heap.size + 1 := by simp
   have ow7 := own_below (unhide K4).2.2.2.2.own B7 (Nat.le_refl _)
   refine (insert_any w2.heap.size gg s1n s1c pk w6.heap.size 1 29 es ⟨ta, t.n, tc⟩ _ ow7 (by omega) (by omega) (by have := (unhide K4).2.1.size; omega) hb7 (by omega)).mono ?_
   rintro r w8 ⟨g', c', rfl, o8, g8, hgg'⟩
   have k8 : SBlk w8 w3.heap.size [.int .i64 x.1, .slice (some ⟨gg, 0, none⟩) s1n s1c, .slice s2'.a s2'.n s2'.c, .slice s3.a s3.n s3.c] 37 := (g8.block w3.heap.size (by omega) (fun e => by have := Option.some.inj e; omega)).trans ((unhide K4).1.below B7 (unhide K4).1.lt)
   have y8 := k8.cell 1
   have h8 := k8.free 1
   simp only [List.getElem?_cons_zero, List.getElem?_cons_succ] at y8
   refine hK.out _ _ (trivial) (fun hHeld => ?_)
   clear hK K
   (try simp only [List.getElem_toArray, List.getElem_cons_zero, List.getElem_cons_succ, Act.put, List.setIfInBounds_toArray, List.set_cons_zero, List.set_cons_succ]); (try dsimp only)
   refine wpAnyH_take (i := 7) (oi := _) (v := ?_) rfl (by kernel_rfl) (by kernel_rfl) (by kernel_rfl) (fun _ _ _ h => h) (Or.inl ⟨by kernel_rfl, ?_⟩) (by assumption) ?_
   rotate_left
   · ((intro wq hSw; (try dsimp only at hSw); go_simp) <;> with_reducible rfl)
   (try simp only [List.getElem_toArray, List.getElem_cons_zero, List.getElem_cons_succ, Act.put, List.setIfInBounds_toArray, List.set_cons_zero, List.set_cons_succ]); (try dsimp only)
   refine rdA 8 (fun K hK => ?_)
   go_simp
   refine hK.out _ _ (trivial) (fun hHeld => ?_)
   clear hK K
   (try simp only [List.getElem_toArray, List.getElem_cons_zero, List.getElem_cons_succ, Act.put, List.setIfInBounds_toArray, List.set_cons_zero, List.set_cons_succ]); (try dsimp only)
   refine wpAnyH_done (by kernel_rfl) ?_ _
   have k9 := k8.set 1 (.slice (some ⟨g', 0, none⟩) (s1n + 1) c')
   simp only [List.set_cons_zero, List.set_cons_succ] at k9
   have b3 := (unhide K4).2.1
   have sb3 := b3.size
   have b4 := (unhide K4).2.2.1
   have hgw2 : w2.heap.size ≤ gg := ((OwnS.of (unhide K4).2.2.2.2.own).blk (x := ⟨gg, 0, none⟩) rfl).1
   have B48 : Below w2.heap.size w2 w8 := (b3.trans ((b4.mono sb3).trans (B7.mono (by omega)))).grown g8 (by omega) (fun b e => by have := Option.some.inj e; omega)
   have B9 : Below w2.heap.size w2 (w8.setCell ⟨w3.heap.size, 1, none⟩ (.slice (some ⟨g', 0, none⟩) (s1n + 1) c')) := B48.setCell (by show w2.heap.size ≤ w3.heap.size; omega) _
   have kr9 := (unhide HKR2).below B9 (by omega)
   obtain ⟨d', Vp, hj⟩ := voted_put (w0 := w5) (w := w6.alloc (.cells #[.slice ta t.n tc] 29)) (w' := w8) (g := gg) (g' := g') (n := s1n) (c := s1c) (c' := c') (k := pk) (t := ⟨ta, t.n, tc⟩) (z := [z0, z1, z2, z3]) (unhide K4).2.2.2.1 (unhide K4).2.2.2.2 B7 (unhide HAB).2 (own_below (unhide O6).1 (below_alloc w6 _) (Nat.le_refl _)) (by omega) hpl o8 g8 hgg'
   have hdv : d' w3.heap.size = [] := hj _ (by omega) (by omega) (unhide HD4)
   obtain ⟨⟨u0, u1, u2, u3⟩, v0, v1, v2, v3⟩ := four_blk k9
   obtain ⟨⟨r0, r1, r2, r3, r4⟩, f0, f1, f2, f3, f4⟩ := five_blk kr9
   obtain ⟨W9, e9⟩ : ∃ W, w8.setCell ⟨w3.heap.size, 1, none⟩ (.slice (some ⟨g', 0, none⟩) (s1n + 1) c') = W := ⟨_, rfl⟩
   have h98 : ∀ q, q ≠ w3.heap.size → W9.heap[q]? = w8.heap[q]? := fun q hq => by rw [← e9]; exact heap_setCell_other _ _ _ _ hq
   rw [e9] at B9 u0 u1 u2 u3 v0 v1 v2 v3 r0 r1 r2 r3 r4 f0 f1 f2 f3 f4
   try rw [e9]
   have HVp := hide Vp
   have HB9 := hide B9
   have HJ := hide hdv
   have H98 := hide h98
   have HSZ := hide (And.intro sb3 (And.intro hz4 (And.intro hz7 (And.intro z6 (And.intro hgw2 g8.size)))))
   clear k8 k9 b3 b4 B48 B9 kr9 Vp hj hdv h98 e9 B7 hb7 ow7 o8 g8 hgg' y8 h8 yd yc ya hz7 z6 sb3 hgw2 y0 y1 y2 y3 h0 h1 h2 h3 hz4
   go_wp2_with fail
   refine bodyPost_ret (v := .agg (srvals 0 ((), ⟨some ⟨g', 0, none⟩, s1n + 1, c'⟩, s2', s3) (x.1, putL x.2.1 [z0, z1, z2, z3], x.2.2.1, VL))) (by simp [results, Tryz.results79, go_sem, r0, r1, r2, r3, r4, srvals]) rfl ⟨(), ⟨some ⟨g', 0, none⟩, s1n + 1, c'⟩, s2', s3, rfl, ⟨d', ?_⟩, ?_⟩
   · have e : putL x.2.1 [z0, z1, z2, z3] = putAt x.2.1 pk [z0, z1, z2, z3] := by unfold putL putAt; rw [unhide HPK]
     rw [e]
     refine SNK.base (sn_frame (unhide HVp) (fun q hq hB hne => ?_)) (by omega : w.heap.size ≤ w2.heap.size)
     rw [other5 (by omega)]
     exact (unhide H98) q (fun e => hne (by rw [e]; exact unhide HJ))
   · exact grownB (grownP ((grown_of_below (unhide HG2).1 (Nat.le_refl _)).weaken g) (unhide HG2).2.1) (set5 ((unhide HB9).mono (by omega)) (by omega) _ _ _ _ _) (Nat.le_refl _)
 refine AllReadyH.cons (o := _) rfl (fun K hK => ?_) AllReadyH.nil
 go_simp
 go_at_call 74
 refine (unhide HCL).mono ?_
 rintro r w6 ⟨ta, tc, rfl, o6, b6⟩
 have J6 : Below w5.heap.size w5 w6 := (Below.refl w5.heap.size w5).drew.trans (b6.mono (Nat.le_refl _))
 have z6 := J6.size
 have yc := (unhide HY) w6 J6
 have ya : ∀ o, (w6.alloc o).cell? ⟨w3.heap.size, 1, none⟩ = some (.slice (some ⟨gg, 0, none⟩) s1n s1c) := fun o => (unhide HY) _ (J6.alloc z6 o)
 have O6 := hide (And.intro o6 J6)
 clear o6 b6 J6
 refine hK.out _ _ (trivial) (fun hHeld => ?_)
 clear hK K
 (try simp only [List.getElem_toArray, List.getElem_cons_zero, List.getElem_cons_succ, Act.put, List.setIfInBounds_toArray, List.set_cons_zero, List.set_cons_succ]); (try dsimp only)
 refine wpAnyH_ready (rs := [1, 5]) (by kernel_rfl) (by simp) ?_
 refine AllReadyH.cons (o := _) rfl (fun K hK => ?_) ?_
 · skip
   go_simp
   refine hK.out _ _ (trivial) (fun hHeld => ?_)
   clear hK K
   (try simp only [List.getElem_toArray, List.getElem_cons_zero, List.getElem_cons_succ, Act.put, List.setIfInBounds_toArray, List.set_cons_zero, List.set_cons_succ]); (try dsimp only)
   refine rdA 5 (fun K hK => ?_)
   go_simp
   refine hK.out _ _ (trivial) (fun hHeld => ?_)
   clear hK K
   (try simp only [List.getElem_toArray, List.getElem_cons_zero, List.getElem_cons_succ, Act.put, List.setIfInBounds_toArray, List.set_cons_zero, List.set_cons_succ]); (try dsimp only)
   refine rdA 6 (fun K hK => ?_)
   go_simp
   go_at_call 112
   have B7 : Below w5.heap.size w5 (w6.alloc (.cells #[.slice ta t.n tc] 29)) := (unhide O6).2.alloc z6 _
   have hb7 : (w6.alloc (.cells #[.slice ta t.n tc] 29)).heap[w6.heap.size]? = some (.cells #[Sl.v ⟨ta, t.n, tc⟩] 29 (0, 0)) := SBlk.new w6 #[.slice ta t.n tc] 29
   have hz7 : (w6.alloc (.cells #[.slice ta t.n tc] 29)).heap.size = w6.heap.size + 1 := by simp
   have ow7 := own_below (unhide K4).2.2.2.2.own B7 (Nat.le_refl _)
   refine (insert_any w2.heap.size gg s1n s1c pk w6.heap.size 1 29 es ⟨ta, t.n, tc⟩ _ ow7 (by omega) (by omega) (by have := (unhide K4).2.1.size; omega) hb7 (by omega)).mono ?_
   rintro r w8 ⟨g', c', rfl, o8, g8, hgg'⟩
   have k8 : SBlk w8 w3.heap.size [.int .i64 x.1, .slice (some ⟨gg, 0, none⟩) s1n s1c, .slice s2'.a s2'.n s2'.c, .slice s3.a s3.n s3.c] 37 := (g8.block w3.heap.size (by omega) (fun e => by have := Option.some.inj e; omega)).trans ((unhide K4).1.below B7 (unhide K4).1.lt)
   have y8 := k8.cell 1
   have h8 := k8.free 1
   simp only [List.getElem?_cons_zero, List.getElem?_cons_succ] at y8
   refine hK.out _ _ (trivial) (fun hHeld => ?_)
   clear hK K
   (try simp only [List.getElem_toArray, List.getElem_cons_zero, List.getElem_cons_succ, Act.put, List.setIfInBounds_toArray, List.set_cons_zero, List.set_cons_succ]); (try dsimp only)
   refine wpAnyH_take (i := 7) (oi := _) (v := ?_) rfl (by kernel_rfl) (by kernel_rfl) (by kernel_rfl) (fun _ _ _ h => h) (Or.inl ⟨by kernel_rfl, ?_⟩) (by assumption) ?_
   rotate_left
   · ((intro wq hSw; (try dsimp only at hSw); go_simp) <;> with_reducible rfl)
   (try simp only [List.getElem_toArray, List.getElem_cons_zero, List.getElem_cons_succ, Act.put, List.setIfInBounds_toArray, List.set_cons_zero, List.set_cons_succ]); (try dsimp only)
   refine rdA 8 (fun K hK => ?_)
   go_simp
   refine hK.out _ _ (trivial) (fun hHeld => ?_)
   clear hK K
   (try simp only [List.getElem_toArray, List.getElem_cons_zero, List.getElem_cons_succ, Act.put, List.setIfInBounds_toArray, List.set_cons_zero, List.set_cons_succ]); (try dsimp only)
   refine wpAnyH_done (by kernel_rfl) ?_ _
   have k9 := k8.set 1 (.slice (some ⟨g', 0, none⟩) (s1n + 1) c')
   simp only [List.set_cons_zero, List.set_cons_succ] at k9
   have b3 := (unhide K4).2.1
   have sb3 := b3.size
   have b4 := (unhide K4).2.2.1
   have hgw2 : w2.heap.size ≤ gg := ((OwnS.of (unhide K4).2.2.2.2.own).blk (x := ⟨gg, 0, none⟩) rfl).1
   have B48 : Below w2.heap.size w2 w8 := (b3.trans ((b4.mono sb3).trans (B7.mono (by omega)))).grown g8 (by omega) (fun b e => by have := Option.some.inj e; omega)
   have B9 : Below w2.heap.size w2 (w8.setCell ⟨w3.heap.size, 1, none⟩ (.slice (some ⟨g', 0, none⟩) (s1n + 1) c')) := B48.setCell (by show w2.heap.size ≤ w3.heap.size; omega) _
   have kr9 := (unhide HKR2).below B9 (by omega)
   obtain ⟨d', Vp, hj⟩ := voted_put (w0 := w5) (w := w6.alloc (.cells #[.slice ta t.n tc] 29)) (w' := w8) (g := gg) (g' := g') (n := s1n) (c := s1c) (c' := c') (k := pk) (t := ⟨ta, t.n, tc⟩) (z := [z0, z1, z2, z3]) (unhide K4).2.2.2.1 (unhide K4).2.2.2.2 B7 (unhide HAB).2 (own_below (unhide O6).1 (below_alloc w6 _) (Nat.le_refl _)) (by omega) hpl o8 g8 hgg'
   have hdv : d' w3.heap.size = [] := hj _ (by omega) (by omega) (unhide HD4)
   obtain ⟨⟨u0, u1, u2, u3⟩, v0, v1, v2, v3⟩ := four_blk k9
   obtain ⟨⟨r0, r1, r2, r3, r4⟩, f0, f1, f2, f3, f4⟩ := five_blk kr9
   obtain ⟨W9, e9⟩ : ∃ W, w8.setCell ⟨w3.heap.size, 1, none⟩ (.slice (some ⟨g', 0, none⟩) (s1n + 1) c') = W := ⟨_, rfl⟩
   have h98 : ∀ q, q ≠ w3.heap.size → W9.heap[q]? = w8.heap[q]? := fun q hq => by rw [← e9]; exact heap_setCell_other _ _ _ _ hq
   rw [e9] at B9 u0 u1 u2 u3 v0 v1 v2 v3 r0 r1 r2 r3 r4 f0 f1 f2 f3 f4
   try rw [e9]
   have HVp := hide Vp
   have HB9 := hide B9
   have HJ := hide hdv
   have H98 := hide h98
   have HSZ := hide (And.intro sb3 (And.intro hz4 (And.intro hz7 (And.intro z6 (And.intro hgw2 g8.size)))))
   clear k8 k9 b3 b4 B48 B9 kr9 Vp hj hdv h98 e9 B7 hb7 ow7 o8 g8 hgg' y8 h8 yd yc ya hz7 z6 sb3 hgw2 y0 y1 y2 y3 h0 h1 h2 h3 hz4
   go_wp2_with fail
   refine bodyPost_ret (v := .agg (srvals 0 ((), ⟨some ⟨g', 0, none⟩, s1n + 1, c'⟩, s2', s3) (x.1, putL x.2.1 [z0, z1, z2, z3], x.2.2.1, VL))) (by simp [results, Tryz.results79, go_sem, r0, r1, r2, r3, r4, srvals]) rfl ⟨(), ⟨some ⟨g', 0, none⟩, s1n + 1, c'⟩, s2', s3, rfl, ⟨d', ?_⟩, ?_⟩
   · have e : putL x.2.1 [z0, z1, z2, z3] = putAt x.2.1 pk [z0, z1, z2, z3] := by unfold putL putAt; rw [unhide HPK]
     rw [e]
     refine SNK.base (sn_frame (unhide HVp) (fun q hq hB hne => ?_)) (by omega : w.heap.size ≤ w2.heap.size)
     rw [other5 (by omega)]
     exact (unhide H98) q (fun e => hne (by rw [e]; exact unhide HJ))
   · exact grownB (grownP ((grown_of_below (unhide HG2).1 (Nat.le_refl _)).weaken g) (unhide HG2).2.1) (set5 ((unhide HB9).mono (by omega)) (by omega) _ _ _ _ _) (Nat.le_refl _)
 refine AllReadyH.cons (o := _) rfl (fun K hK => ?_) AllReadyH.nil
 go_simp
 refine hK.out _ _ (trivial) (fun hHeld => ?_)
 clear hK K
 (try simp only [List.getElem_toArray, List.getElem_cons_zero, List.getElem_cons_succ, Act.put, List.setIfInBounds_toArray, List.set_cons_zero, List.set_cons_succ]); (try dsimp only)
 refine rdA 1 (fun K hK => ?_)
 go_simp
 refine hK.out _ _ (trivial) (fun hHeld => ?_)
 clear hK K
 (try simp only [List.getElem_toArray, List.getElem_cons_zero, List.getElem_cons_succ, Act.put, List.setIfInBounds_toArray, List.set_cons_zero, List.set_cons_succ]); (try dsimp only)
 refine rdA 6 (fun K hK => ?_)
 go_simp
 go_at_call 112
 have B7 : Below w5.heap.size w5 (w6.alloc (.cells #[.slice ta t.n tc] 29)) := (unhide O6).2.alloc z6 _
 have hb7 : (w6.alloc (.cells #[.slice ta t.n tc] 29)).heap[w6.heap.size]? = some (.cells #[Sl.v ⟨ta, t.n, tc⟩] 29 (0, 0)) := SBlk.new w6 #[.slice ta t.n tc] 29
 have hz7 : (w6.alloc (.cells #[.slice ta t.n tc] 29)).heap.size = w6.heap.size + 1 := by simp
 have ow7 := own_below (unhide K4).2.2.2.2.own B7 (Nat.le_refl _)
 refine (insert_any w2.heap.size gg s1n s1c pk w6.heap.size 1 29 es ⟨ta, t.n, tc⟩ _ ow7 (by omega) (by omega) (by have := (unhide K4).2.1.size; omega) hb7 (by omega)).mono ?_
 rintro r w8 ⟨g', c', rfl, o8, g8, hgg'⟩
 have k8 : SBlk w8 w3.heap.size [.int .i64 x.1, .slice (some ⟨gg, 0, none⟩) s1n s1c, .slice s2'.a s2'.n s2'.c, .slice s3.a s3.n s3.c] 37 := (g8.block w3.heap.size (by omega) (fun e => by have := Option.some.inj e; omega)).trans ((unhide K4).1.below B7 (unhide K4).1.lt)
 have y8 := k8.cell 1
 have h8 := k8.free 1
 simp only [List.getElem?_cons_zero, List.getElem?_cons_succ] at y8
 refine hK.out _ _ (trivial) (fun hHeld => ?_)
 clear hK K
 (try simp only [List.getElem_toArray, List.getElem_cons_zero, List.getElem_cons_succ, Act.put, List.setIfInBounds_toArray, List.set_cons_zero, List.set_cons_succ]); (try dsimp only)
 refine wpAnyH_take (i := 7) (oi := _) (v := ?_) rfl (by kernel_rfl) (by kernel_rfl) (by kernel_rfl) (fun _ _ _ h => h) (Or.inl ⟨by kernel_rfl, ?_⟩) (by assumption) ?_
 rotate_left
 · ((intro wq hSw; (try dsimp only at hSw); go_simp) <;> with_reducible rfl)
 (try simp only [List.getElem_toArray, List.getElem_cons_zero, List.getElem_cons_succ, Act.put, List.setIfInBounds_toArray, List.set_cons_zero, List.set_cons_succ]); (try dsimp only)
 refine rdA 8 (fun K hK => ?_)
 go_simp
 refine hK.out _ _ (trivial) (fun hHeld => ?_)
 clear hK K
 (try simp only [List.getElem_toArray, List.getElem_cons_zero, List.getElem_cons_succ, Act.put, List.setIfInBounds_toArray, List.set_cons_zero, List.set_cons_succ]); (try dsimp only)
 refine wpAnyH_done (by kernel_rfl) ?_ _
 have k9 := k8.set 1 (.slice (some ⟨g', 0, none⟩) (s1n + 1) c')
 simp only [List.set_cons_zero, List.set_cons_succ] at k9
 have b3 := (unhide K4).2.1
 have sb3 := b3.size
 have b4 := (unhide K4).2.2.1
 have hgw2 : w2.heap.size ≤ gg := ((OwnS.of (unhide K4).2.2.2.2.own).blk (x := ⟨gg, 0, none⟩) rfl).1
 have B48 : Below w2.heap.size w2 w8 := (b3.trans ((b4.mono sb3).trans (B7.mono (by omega)))).grown g8 (by omega) (fun b e => by have := Option.some.inj e; omega)
 have B9 : Below w2.heap.size w2 (w8.setCell ⟨w3.heap.size, 1, none⟩ (.slice (some ⟨g', 0, none⟩) (s1n + 1) c')) := B48.setCell (by show w2.heap.size ≤ w3.heap.size; omega) _
 have kr9 := (unhide HKR2).below B9 (by omega)
 obtain ⟨d', Vp, hj⟩ := voted_put (w0 := w5) (w := w6.alloc (.cells #[.slice ta t.n tc] 29)) (w' := w8) (g := gg) (g' := g') (n := s1n) (c := s1c) (c' := c') (k := pk) (t := ⟨ta, t.n, tc⟩) (z := [z0, z1, z2, z3]) (unhide K4).2.2.2.1 (unhide K4).2.2.2.2 B7 (unhide HAB).2 (own_below (unhide O6).1 (below_alloc w6 _) (Nat.le_refl _)) (by omega) hpl o8 g8 hgg'
 have hdv : d' w3.heap.size = [] := hj _ (by omega) (by omega) (unhide HD4)
 obtain ⟨⟨u0, u1, u2, u3⟩, v0, v1, v2, v3⟩ := four_blk k9
 obtain ⟨⟨r0, r1, r2, r3, r4⟩, f0, f1, f2, f3, f4⟩ := five_blk kr9
 obtain ⟨W9, e9⟩ : ∃ W, w8.setCell ⟨w3.heap.size, 1, none⟩ (.slice (some ⟨g', 0, none⟩) (s1n + 1) c') = W := ⟨_, rfl⟩
 have h98 : ∀ q, q ≠ w3.heap.size → W9.heap[q]? = w8.heap[q]? := fun q hq => by rw [← e9]; exact heap_setCell_other _ _ _ _ hq
 rw [e9] at B9 u0 u1 u2 u3 v0 v1 v2 v3 r0 r1 r2 r3 r4 f0 f1 f2 f3 f4
 try rw [e9]
 have HVp := hide Vp
 have HB9 := hide B9
 have HJ := hide hdv
 have H98 := hide h98
 have HSZ := hide (And.intro sb3 (And.intro hz4 (And.intro hz7 (And.intro z6 (And.intro hgw2 g8.size)))))
 clear k8 k9 b3 b4 B48 B9 kr9 Vp hj hdv h98 e9 B7 hb7 ow7 o8 g8 hgg' y8 h8 yd yc ya hz7 z6 sb3 hgw2 y0 y1 y2 y3 h0 h1 h2 h3 hz4
 go_wp2_with fail
 refine bodyPost_ret (v := .agg (srvals 0 ((), ⟨some ⟨g', 0, none⟩, s1n + 1, c'⟩, s2', s3) (x.1, putL x.2.1 [z0, z1, z2, z3], x.2.2.1, VL))) (by simp [results, Tryz.results79, go_sem, r0, r1, r2, r3, r4, srvals]) rfl ⟨(), ⟨some ⟨g', 0, none⟩, s1n + 1, c'⟩, s2', s3, rfl, ⟨d', ?_⟩, ?_⟩
 · have e : putL x.2.1 [z0, z1, z2, z3] = putAt x.2.1 pk [z0, z1, z2, z3] := by unfold putL putAt; rw [unhide HPK]
   rw [e]
   refine SNK.base (sn_frame (unhide HVp) (fun q hq hB hne => ?_)) (by omega : w.heap.size ≤ w2.heap.size)
   rw [other5 (by omega)]
   exact (unhide H98) q (fun e => hne (by rw [e]; exact unhide HJ))
 · exact grownB (grownP ((grown_of_below (unhide HG2).1 (Nat.le_refl _)).weaken g) (unhide HG2).2.1) (set5 ((unhide HB9).mono (by omega)) (by omega) _ _ _ _ _) (Nat.le_refl _)

set_option maxRecDepth 100000

theorem plB_in {zss : List (List Int)} {t : List Int} (h : sgFlt zss = 0) (hm : t ∈ zss) : plB zss t < zss.length :=
 (List.getElem?_eq_some_iff.1 ((plB_mem (sg_rise h).2.2 t).2 hm)).1

set_option maxHeartbeats 8000000 in
theorem takeOut_any (p : Path) (e : SnS) (x : Sn) (g k : Nat) (L : Pv) (t : Sl) (zt : List Int) (w : World) (C : Nat) (hC : C ≤ g) (o : ∀ W, Below C w W → SNK.Ok W e x) (m : SnSm x) (hf : sgFlt x.2.1 = 0) (h0 : 0 < x.2.1.length) (hs : ¬ x.2.1.length = 1) (hs7 : x.2.1.length ≤ 7) (hmem : zt ∈ x.2.1) (hp : PollV w g k L) (hr : Rise L) (hl : L.length ≤ 31) (ot : ∀ W, Below C w W → BOk W t zt) (h4 : zt.length = 4) :
    Calls Tryz.prog 80 #[.agg (snvals e x), .map (some g), .slice t.a t.n t.c] w fun r w' => ∃ e' : SnS, r = .returned (.agg (srvals 0 e' (x.1, outL x.2.1 (plB x.2.1 zt), keepLast x.2.2.1 ((outL x.2.1 (plB x.2.1 zt)).length / 2), ((L.filter (fun q => !decide (q.2.1 = zt))).filter (fun q => !decide (q.2.2.1 = zt))).map Prod.snd))) ∧ (∃ d, SNK.Own w' w.heap.size d p e' (x.1, outL x.2.1 (plB x.2.1 zt), keepLast x.2.2.1 ((outL x.2.1 (plB x.2.1 zt)).length / 2), ((L.filter (fun q => !decide (q.2.1 = zt))).filter (fun q => !decide (q.2.2.1 = zt))).map Prod.snd)) ∧ w.grownBy w' (some g) := by
 have hl1 := (o w (Below.refl _ _)).2.1.len
 have hd : ((e.2.1.n : Int) == 1) = false := by simp; omega
 obtain ⟨z0, z1, z2, z3, rfl⟩ : ∃ z0 z1 z2 z3, zt = [z0, z1, z2, z3] := by
  match zt, h4 with
  | [a, b, c, d], _ => exact ⟨a, b, c, d, rfl⟩
 have had : Adr [z0, z1, z2, z3] := ⟨rfl, (ot w (Below.refl _ _)).row.2.1⟩
 have hgw := hp.lt
 have HAB := hide had
 obtain ⟨W0, e0, b0, hz, kx, kr⟩ := entry_sr e x w
 have x1 := kx.cell 1
 simp only [snvals, List.getElem?_cons_zero, List.getElem?_cons_succ] at x1
 have HAD := hide (fun (W : World) (hb : Below W0.heap.size W0 W) => addressOf_any t z0 z1 z2 z3 W (ot W ((b0.trans (hb.mono b0.size)).mono (by omega))))
 have HDF := hide (fun (W : World) (hb : Below W0.heap.size W0 W) => dropOf_any g k z0 z1 z2 z3 L W (hp.below (b0.trans (hb.mono b0.size)) (Nat.le_refl _)) had)
 have HB := hide b0
 have HKX := hide kx
 have HKR := hide kr
 have HO := hide o
 have HOT := hide ot
 clear o kx kr b0 hp ot
 have HMEM : Hid (plB x.2.1 [z0, z1, z2, z3] < x.2.1.length) := plB_in hf hmem
 have HM := hide m
 obtain ⟨KL, hKL⟩ : ∃ KL, KL = keepLast x.2.2.1 ((outL x.2.1 (plB x.2.1 [z0, z1, z2, z3])).length / 2) := ⟨_, rfl⟩
 rw [← hKL]
 obtain ⟨OL, hOL⟩ : ∃ OL, OL = outL x.2.1 (plB x.2.1 [z0, z1, z2, z3]) := ⟨_, rfl⟩
 rw [← hOL]
 have HKL0 := hide hKL
 have HOL := hide hOL
 clear hKL hOL
 obtain ⟨VL, hVL⟩ : ∃ VL, VL = ((L.filter (fun q => !decide (q.2.1 = [z0, z1, z2, z3]))).filter (fun q => !decide (q.2.2.1 = [z0, z1, z2, z3]))).map Prod.snd := ⟨_, rfl⟩
 rw [← hVL]
 have HVL := hide hVL
 clear hVL
 go_enter Tryz.func80, Tryz.ntmps80
 go_wp2_with (rw [e0])
 refine ((unhide HAD) W0 (Below.refl _ _)).mono ?_
 rintro e1 w1 ⟨rfl, b1⟩
 have HB1 := hide b1
 clear x1 e0 b1
 go_wp2_with fail
 refine ((unhide HDF) w1 (unhide HB1)).mono ?_
 rintro e2 wa ⟨rfl, hpa, ga⟩
 have B1 : Below w.heap.size w w1 := (unhide HB).trans ((unhide HB1).mono (unhide HB).size)
 have s1 := (unhide HB1).size
 have sa := ga.size
 have BA : Below C w wa := (B1.mono (by omega)).grown ga (by omega) (fun b e => by have := Option.some.inj e; omega)
 have HBA := hide (And.intro B1 (And.intro ga BA))
 have HAD2 := hide (addressOf_any t z0 z1 z2 z3 wa ((unhide HOT) wa BA))
 have HPA := hide hpa
 clear hpa ga BA B1
 go_wp2_with fail
 refine (unhide HAD2).mono ?_
 rintro e2 wb ⟨rfl, bb⟩
 have HBB := hide bb
 have sb := bb.size
 have HDR := hide (dropOn_any g k z0 z1 z2 z3 _ wb ((unhide HPA).below bb (Nat.le_refl _)) (unhide HAB))
 clear bb
 go_wp2_with fail
 refine (unhide HDR).mono ?_
 rintro e2 w2 ⟨rfl, hp2, g2'⟩
 have sg2 := g2'.size
 have B1 := (unhide HBA).1
 have B2 : Below C w w2 := (((unhide HBA).2.2).trans ((unhide HBB).mono (by omega))).grown g2' (by omega) (fun b e => by have := Option.some.inj e; omega)
 have g2 : w1.grownBy w2 (some g) := grownP (grownQ (unhide HBA).2.1 (unhide HBB) (Nat.le_refl _)) g2'
 have s2 : w1.heap.size ≤ w2.heap.size := by omega
 have kx2 : SBlk w2 w.heap.size (snvals e x).toList 37 := (g2.block _ (by omega) (fun e => by have := Option.some.inj e; omega)).trans ((unhide HKX).below (unhide HB1) (unhide HKX).lt)
 have kr2 : SBlk w2 (w.heap.size + 1) _ 39 := (g2.block _ (by omega) (fun e => by have := Option.some.inj e; omega)).trans ((unhide HKR).below (unhide HB1) (unhide HKR).lt)
 have o2 : SNK.Ok w2 e x := (unhide HO) w2 B2
 have HWV := hide (withVotes_any p e x g k _ w2 o2 m hp2 ((hr.filter _).filter _) (Nat.le_trans (List.length_filter_le _ _) (Nat.le_trans (List.length_filter_le _ _) hl)))
 have q0 := kx2.cell 0
 have q1 := kx2.cell 1
 have q2 := kx2.cell 2
 have q3 := kx2.cell 3
 simp only [snvals, List.getElem?_cons_zero, List.getElem?_cons_succ] at q0 q1 q2 q3
 unfold snvals at HWV
 have HKR2 := hide kr2
 have HG2 := hide (And.intro B1 (And.intro g2 B2))
 have sw2 : w.heap.size + 2 ≤ w2.heap.size := by omega
 clear hp2 g2 g2' kx2 kr2 o2 B1 B2
 go_wp2_with fail
 rw [hl1] at HWV
 refine (unhide HWV).mono ?_
 rintro r3 w3 ⟨e3, rfl, V3, b3⟩
 rw [← unhide HVL] at V3
 obtain ⟨d3, es, V3, G3⟩ := V3
 obtain ⟨⟨⟩, s1, s2', s3⟩ := e3
 simp only at V3 G3
 obtain ⟨s1a, s1n, s1c⟩ := s1
 have hn1 : s1n = x.2.1.length := G3.len
 obtain ⟨gg, c1, hv1⟩ := own_some G3.own (by show 0 < s1n; omega)
 simp only [Value.slice.injEq] at hv1
 obtain ⟨rfl, _, rfl⟩ := hv1
 have HN1 := hide hn1
 have hn7 : s1n ≤ 7 := by omega
 clear hn1 hl1
 have k4 := SBlk.new w3 #[.int .i64 x.1, .slice (some ⟨gg, 0, none⟩) s1n s1c, .slice s2'.a s2'.n s2'.c, .slice s3.a s3.n s3.c] 37
 have b4 := below_alloc w3 (.cells #[.int .i64 x.1, .slice (some ⟨gg, 0, none⟩) s1n s1c, .slice s2'.a s2'.n s2'.c, .slice s3.a s3.n s3.c] 37)
 have hz4 : (w3.alloc (.cells #[.int .i64 x.1, .slice (some ⟨gg, 0, none⟩) s1n s1c, .slice s2'.a s2'.n s2'.c, .slice s3.a s3.n s3.c] 37)).heap.size = w3.heap.size + 1 := by simp
 obtain ⟨W4, e4⟩ : ∃ W, w3.alloc (.cells #[.int .i64 x.1, .slice (some ⟨gg, 0, none⟩) s1n s1c, .slice s2'.a s2'.n s2'.c, .slice s3.a s3.n s3.c] 37) = W := ⟨_, rfl⟩
 rw [e4] at k4 b4 hz4
 obtain ⟨d4, hd4, hd4'⟩ : ∃ d4 : Nat → Path, (∀ q, q < w3.heap.size → d4 q = d3 q) ∧ d4 w3.heap.size = [] := ⟨fun q => if q < w3.heap.size then d3 q else [], fun q h => if_pos h, if_neg (Nat.lt_irrefl _)⟩
 have V4 := SNK.ownBelow (SNK.recolNew (d' := d4) V3 hd4) b4 (Nat.le_refl _)
 have G4 : SgOwn W4 w2.heap.size d4 (p ++ [1] ++ [0]) ⟨some ⟨gg, 0, none⟩, s1n, s1c⟩ x.2.1 es := (G3.recol (d' := d4) (fun q hq _ _ => hd4 q hq)).frame (fun q hq _ _ => b4.block q hq)
 have hgg : gg < w3.heap.size := ((OwnS.of G3.own).blk (x := ⟨gg, 0, none⟩) rfl).2
 have hPL := hide (fun (W : World) (hb : Below W4.heap.size W4 W) => placeAmong_any ⟨some ⟨gg, 0, none⟩, s1n, s1c⟩ t x.2.1 [z0, z1, z2, z3] W (RowOk.below G4.row.ok hb (Nat.le_refl _)) ((unhide HOT) W ((unhide HG2).2.2.trans ((b3.mono (by omega)).trans ((b4.mono (by have := b3.size; omega)).trans (hb.mono (by have := b3.size; have := b4.size; omega)))))) hf)
 obtain ⟨y0, y1, y2, y3⟩ := (four_blk k4).1
 obtain ⟨h0, h1, h2, h3⟩ := (four_blk k4).2
 have E4 := hide e4
 have K4 := hide (And.intro k4 (And.intro b3 (And.intro b4 (And.intro V4 G4))))
 have HD4 := hide hd4'
 clear k4 b4 b3 V3 V4 G3 G4 e4 hd4 hd4' q0 q1 q2 q3
 go_wp2_with (rw [unhide E4])
 refine ((unhide hPL) W4 (Below.refl _ _)).mono ?_
 rintro r5 w5 ⟨rfl, rfl⟩
 have hpl : plB x.2.1 [z0, z1, z2, z3] ≤ s1n := by rw [unhide HN1]; exact plB_le x.2.1 [z0, z1, z2, z3]
 have i0 : (0 : Int) ≤ (plB x.2.1 [z0, z1, z2, z3] : Nat) := by omega
 generalize decide ([z0, z1, z2, z3] ∈ x.2.1) = bIn
 obtain ⟨pk, hpk⟩ : ∃ pk, plB x.2.1 [z0, z1, z2, z3] = pk := ⟨_, rfl⟩
 rw [hpk] at hpl i0 ⊢
 have HPK := hide hpk
 clear hpk
 have HY : Hid (∀ W, Below w5.heap.size w5 W → W.cell? ⟨w3.heap.size, 1, none⟩ = some (.slice (some ⟨gg, 0, none⟩) s1n s1c)) := fun W hb => ((unhide K4).1.below hb (unhide K4).1.lt).cell 1
 clear hd
 have hmem2 := (unhide HMEM)
 have hpl2 : pk < s1n := by rw [← unhide HPK, unhide HN1]; exact hmem2
 have hww1 : w.heap.size + 1 < w2.heap.size := by omega
 have hww : w.heap.size ≤ w2.heap.size := by omega
 have HDL := hide (delete_any w2.heap.size gg s1n s1c pk es w5 (unhide K4).2.2.2.2.own hpl2 (by omega))
 have HRN := hide (show s2'.n = x.2.2.1.length from (unhide K4).2.2.2.1.2.2.1.1)
 have hwp : IntKind.i64.wrap ((pk : Int) + 1) = (pk : Int) + 1 := by rw [IntKind.wrap_i64]; omega
 go_wp2_with fail
 refine (unhide HDL).mono ?_
 rintro r w8 ⟨rfl, o8, g8⟩
 have k8 : SBlk w8 w3.heap.size [.int .i64 x.1, .slice (some ⟨gg, 0, none⟩) s1n s1c, .slice s2'.a s2'.n s2'.c, .slice s3.a s3.n s3.c] 37 := (g8.block w3.heap.size (by omega) (fun e => by have := Option.some.inj e; omega)).trans (unhide K4).1
 have y8 := k8.cell 1
 have h8 := k8.free 1
 simp only [List.getElem?_cons_zero, List.getElem?_cons_succ] at y8
 have k9 := k8.set 1 (.slice (some ⟨gg, 0, none⟩) (s1n - 1) s1c)
 simp only [List.set_cons_zero, List.set_cons_succ] at k9
 have b3 := (unhide K4).2.1
 have sb3 := b3.size
 have b4 := (unhide K4).2.2.1
 have hgw2 : w2.heap.size ≤ gg := ((OwnS.of (unhide K4).2.2.2.2.own).blk (x := ⟨gg, 0, none⟩) rfl).1
 have B48 : Below w2.heap.size w2 w8 := (b3.trans (b4.mono sb3)).grown g8 (by omega) (fun b e => by have := Option.some.inj e; omega)
 have B9 : Below w2.heap.size w2 (w8.setCell ⟨w3.heap.size, 1, none⟩ (.slice (some ⟨gg, 0, none⟩) (s1n - 1) s1c)) := B48.setCell (by show w2.heap.size ≤ w3.heap.size; omega) _
 have kr9 := (unhide HKR2).below B9 (by omega)
 obtain ⟨d', Vp, hj⟩ := voted_cut (unhide K4).2.2.2.1 (unhide K4).2.2.2.2 hpl2 o8 g8
 have hdv : d' w3.heap.size = [] := hj _ (by omega) (unhide HD4)
 obtain ⟨⟨u0, u1, u2, u3⟩, v0, v1, v2, v3⟩ := four_blk k9
 obtain ⟨W9, e9⟩ : ∃ W, w8.setCell ⟨w3.heap.size, 1, none⟩ (.slice (some ⟨gg, 0, none⟩) (s1n - 1) s1c) = W := ⟨_, rfl⟩
 have h98 : ∀ q, q ≠ w3.heap.size → W9.heap[q]? = w8.heap[q]? := fun q hq => by rw [← e9]; exact heap_setCell_other _ _ _ _ hq
 rw [e9] at B9 k9 u0 u1 u2 u3 v0 v1 v2 v3 kr9
 obtain ⟨H, hH⟩ : ∃ H : Nat, H = (s1n - 1) / 2 := ⟨_, rfl⟩
 have hq2 : ((s1n - 1 : Nat) : Int).tdiv 2 = (H : Int) := by
  rw [Int.tdiv_eq_ediv_of_nonneg (by omega)]
  omega
 have hlo : (outL x.2.1 (plB x.2.1 [z0, z1, z2, z3])).length / 2 = H := by
  have h1 : (outL x.2.1 (plB x.2.1 [z0, z1, z2, z3])).length = s1n - 1 := by
   rw [unhide HPK]
   unfold outL
   have := unhide HN1
   simp
   omega
  rw [h1, hH]
 have hrm : s2'.n ≤ 1048576 := by rw [unhide HRN]; exact (unhide HM).r
 have hH7 : H ≤ 7 := by omega
 have HSZ := hide (And.intro sb3 hz4)
 have HB9 := hide B9
 have H98a := hide h98
 have HLO := hide hlo
 have HK9 := hide k9
 have HKR9 := hide kr9
 have E9 := hide e9
 have HHH := hide hH
 have zz : w3.heap.size < W9.heap.size := k9.lt
 have hg23 : w2.heap.size ≤ w3.heap.size := sb3
 by_cases hov : H < s2'.n
 · have hrow : RowPart rcK 93 w8 w2.heap.size d' (p ++ [1] ++ [1] ++ [0]) s2' x.2.2.1 x.2.2.1.length := Vp.2.2.1
   obtain ⟨hq0, es2, vs2, hq1, ho2, hq3, hq4⟩ := hrow
   clear hq0 hq1 hq3 hq4
   obtain ⟨rb, ro, hra, hrb, hrl⟩ := ho2.pos (by omega)
   have hroom2 := ho2.room
   obtain ⟨ov, hovv⟩ : ∃ ov : Nat, ov = s2'.n - H := ⟨_, rfl⟩
   obtain ⟨A, hif⟩ : ∃ A, (if s2'.c = ov then some (⟨rb, ro, none⟩ : Addr) else some ⟨rb, ro + ov * 2, none⟩) = A := ⟨_, rfl⟩
   obtain ⟨d'', Vq, hjq⟩ := sn_drop (k := ov) Vp hra (by show ov ≤ s2'.n; omega)
   have hdq : d'' w3.heap.size = [] := hjq _ hdv
   simp only at Vq
   rw [hif] at Vq
   have hwo : IntKind.i64.wrap ((s2'.n : Int) - (H : Int)) = (ov : Int) := by rw [IntKind.wrap_i64]; omega
   have hsub : (s2'.n : Int) - (H : Int) = (ov : Int) := by omega
   have hp1 : decide ((0 : Int) < (ov : Int)) = true := decide_eq_true (by omega)
   have hp2 : decide (0 < ov) = true := decide_eq_true (by omega)
   have hp3 : (ov : Int) ≤ (s2'.n : Int) := by omega
   have hp4 : (0 : Int) ≤ (ov : Int) := by omega
   have hp5 : ov ≤ s2'.n := by omega
   have HKL : Hid (keepLast x.2.2.1 ((outL x.2.1 pk).length / 2) = x.2.2.1.drop ov) := by
    have h := unhide HLO
    rw [unhide HPK] at h
    show _ = _
    rw [h]
    unfold keepLast
    have hr := unhide HRN
    rw [if_pos (by omega), show x.2.2.1.length - H = ov by omega]
   have B10 : Below w2.heap.size w2 (W9.setCell ⟨w3.heap.size, 2, none⟩ (.slice A (s2'.n - ov) (s2'.c - ov))) := B9.setCell (by show w2.heap.size ≤ w3.heap.size; omega) _
   have kr10 := (unhide HKR2).below B10 (by omega)
   have k10 := k9.set 2 (.slice A (s2'.n - ov) (s2'.c - ov))
   simp only [List.set_cons_zero, List.set_cons_succ] at k10
   obtain ⟨W10, e10⟩ : ∃ W, W9.setCell ⟨w3.heap.size, 2, none⟩ (.slice A (s2'.n - ov) (s2'.c - ov)) = W := ⟨_, rfl⟩
   have h10 : ∀ q, q ≠ w3.heap.size → W10.heap[q]? = w8.heap[q]? := fun q hq => by rw [← e10, heap_setCell_other _ _ _ _ hq]; exact h98 q hq
   rw [e10] at B10 kr10 k10
   obtain ⟨⟨p0, p1, p2, p3⟩, _⟩ := four_blk k10
   obtain ⟨⟨r0, r1, r2, r3, r4⟩, f0, f1, f2, f3, f4⟩ := five_blk kr10
   have HVp := hide Vq
   have HJ := hide hdq
   have H98 := hide h10
   have HB9 := hide B10
   have E10 := hide e10
   have HOV := hide hovv
   rw [hra] at u2
   clear k8 k9 b3 b4 B48 B9 kr9 Vp Vq hj hjq hdv hdq h98 o8 g8 e9 hH hlo y0 y1 y2 y3 h0 h1 h2 h3 sb3 hz4 hgw2 hmem2 ho2 hra B10 kr10 k10 e10 h10 hovv
   go_wp2_with (first | (rw [unhide E9]) | (rw [unhide E10]))
   refine bodyPost_ret (v := .agg (srvals 0 ((), ⟨some ⟨gg, 0, none⟩, s1n - 1, s1c⟩, ⟨A, s2'.n - ov, s2'.c - ov⟩, s3) (x.1, OL, KL, VL))) (by simp [results, Tryz.results80, go_sem, r0, r1, r2, r3, r4, srvals]) rfl ⟨((), ⟨some ⟨gg, 0, none⟩, s1n - 1, s1c⟩, ⟨A, s2'.n - ov, s2'.c - ov⟩, s3), rfl, ⟨d'', ?_⟩, ?_⟩
   · rw [unhide HOL, unhide HKL0, unhide HPK, unhide HKL]
     refine SNK.base (sn_frame (unhide HVp) (fun q hq hB hne => ?_)) hww
     have hne5 : ¬ q = w.heap.size + 1 := fun e => by rw [e] at hB; exact Nat.not_le_of_lt hww1 hB
     rw [other5 hne5]
     exact (unhide H98) q (fun e => hne (by rw [e]; exact unhide HJ))
   · exact grownB (grownP ((grown_of_below (unhide HG2).1 (Nat.le_refl _)).weaken g) (unhide HG2).2.1) (set5 ((unhide HB9).mono hww) (Nat.le_succ _) _ _ _ _ _) (Nat.le_refl _)
 · have hov' : decide ((0 : Int) < (s2'.n : Int) - (H : Int)) = false := decide_eq_false (by omega)
   have hwo : IntKind.i64.wrap ((s2'.n : Int) - (H : Int)) = (s2'.n : Int) - (H : Int) := by rw [IntKind.wrap_i64]; omega
   have HKL : Hid (keepLast x.2.2.1 ((outL x.2.1 pk).length / 2) = x.2.2.1) := by
    have h := unhide HLO
    rw [unhide HPK] at h
    show _ = _
    rw [h]
    unfold keepLast
    rw [if_neg (by have := unhide HRN; omega)]
   have HVp := hide Vp
   have HJ := hide hdv
   have H98 := H98a
   obtain ⟨⟨r0, r1, r2, r3, r4⟩, f0, f1, f2, f3, f4⟩ := five_blk kr9
   clear k8 k9 b3 b4 B48 B9 kr9 Vp hj hdv h98 o8 g8 e9 hH hlo y0 y1 y2 y3 h0 h1 h2 h3 sb3 hz4 hgw2 hmem2
   go_wp2_with (rw [unhide E9])
   refine bodyPost_ret (v := .agg (srvals 0 ((), ⟨some ⟨gg, 0, none⟩, s1n - 1, s1c⟩, s2', s3) (x.1, OL, KL, VL))) (by simp [results, Tryz.results80, go_sem, r0, r1, r2, r3, r4, srvals]) rfl ⟨((), ⟨some ⟨gg, 0, none⟩, s1n - 1, s1c⟩, s2', s3), rfl, ⟨d', ?_⟩, ?_⟩
   · rw [unhide HOL, unhide HKL0, unhide HPK, unhide HKL]
     refine SNK.base (sn_frame (unhide HVp) (fun q hq hB hne => ?_)) hww
     have hne5 : ¬ q = w.heap.size + 1 := fun e => by rw [e] at hB; exact Nat.not_le_of_lt hww1 hB
     rw [other5 hne5]
     exact (unhide H98) q (fun e => hne (by rw [e]; exact unhide HJ))
   · exact grownB (grownP ((grown_of_below (unhide HG2).1 (Nat.le_refl _)).weaken g) (unhide HG2).2.1) (set5 ((unhide HB9).mono hww) (Nat.le_succ _) _ _ _ _ _) (Nat.le_refl _)

set_option maxRecDepth 100000

/-- Both ways name the place of an address that is there. -/
theorem plB_atFrom {zss : List (List Int)} {t : List Int} (h : sgFlt zss = 0) (hm : t ∈ zss) : plB zss t = (atFrom t 0 zss).toNat := by
 have h1 := (plB_mem (sg_rise h).2.2 t).2 hm
 have h2 := at_at hm
 obtain ⟨a, ea⟩ := List.getElem?_eq_some_iff.1 h1
 obtain ⟨b, eb⟩ := List.getElem?_eq_some_iff.1 h2
 have hr := (sg_rise h).2.2
 rcases Nat.lt_trichotomy (plB zss t) (atFrom t 0 zss).toNat with q | q | q
 · have h3 := hr _ _ t t q h1 h2
   rw [aheadB_irrefl] at h3
   cases h3
 · exact q
 · have h3 := hr _ _ t t q h2 h1
   rw [aheadB_irrefl] at h3
   cases h3

set_option maxHeartbeats 4000000 in
theorem takeOut_one (p : Path) (e : SnS) (x : Sn) (g k : Nat) (L : Pv) (t : Sl) (w : World) (o : SNK.Ok w e x) (m : SnSm x) (h1 : x.2.1.length = 1) (hp : PollV w g k L) (hr : Rise L) (hl : L.length ≤ 31) :
    Calls Tryz.prog 80 #[.agg (snvals e x), .map (some g), .slice t.a t.n t.c] w fun r w' => ∃ e' : SnS, r = .returned (.agg (srvals 0 e' (x.1, x.2.1, x.2.2.1, L.map Prod.snd))) ∧ (∃ d, SNK.Own w' w.heap.size d p e' (x.1, x.2.1, x.2.2.1, L.map Prod.snd)) ∧ Below w.heap.size w w' := by
 have hl1 := o.2.1.len
 have hd : ((e.2.1.n : Int) == 1) = true := by simp; omega
 obtain ⟨W0, e0, b0, hz, kx, kr⟩ := entry_sr e x w
 have x0 := kx.cell 0
 have x1 := kx.cell 1
 have x2 := kx.cell 2
 have x3 := kx.cell 3
 simp only [snvals, List.getElem?_cons_zero, List.getElem?_cons_succ] at x0 x1 x2 x3
 have HWV := hide (fun (W : World) (hb : Below W0.heap.size W0 W) => withVotes_any p e x g k L W (SNK.below o (b0.trans (hb.mono b0.size)) (Nat.le_refl _)) m (hp.below (b0.trans (hb.mono b0.size)) (Nat.le_refl _)) hr hl)
 unfold snvals at HWV
 have HB := hide b0
 have HKR := hide kr
 clear o kx kr b0 hp hl1
 generalize L.map Prod.snd = VL at HWV ⊢
 go_enter Tryz.func80, Tryz.ntmps80
 go_wp2_with (rw [e0])
 refine ((unhide HWV) W0 (Below.refl _ _)).mono ?_
 rintro r1 w1 ⟨e1, rfl, V1, b1⟩
 obtain ⟨d1, es, V1, _⟩ := V1
 obtain ⟨⟨r0, r1, r2, r3, r4⟩, f0, f1, f2, f3, f4⟩ := five_blk ((unhide HKR).below b1 (unhide HKR).lt)
 have HV := hide V1
 have HB1 := hide ((unhide HB).trans (b1.mono (unhide HB).size))
 have hww1 : w.heap.size + 1 < W0.heap.size := by omega
 have hww : w.heap.size ≤ W0.heap.size := by omega
 obtain ⟨⟨⟩, s1, s2, s3⟩ := e1
 clear V1 b1 e0 x0 x1 x2 x3
 go_wp2_with fail
 refine bodyPost_ret (v := .agg (srvals 0 ((), s1, s2, s3) (x.1, x.2.1, x.2.2.1, VL))) (by simp [results, Tryz.results80, go_sem, r0, r1, r2, r3, r4, srvals]) rfl ⟨((), s1, s2, s3), rfl, ⟨d1, ?_⟩, ?_⟩
 · refine SNK.base (sn_frame (unhide HV) (fun q hq hB hne => ?_)) hww
   have hne5 : ¬ q = w.heap.size + 1 := fun e => by rw [e] at hB; exact Nat.not_le_of_lt hww1 hB
   rw [other5 hne5]
 · exact set5 (unhide HB1) (Nat.le_succ _) _ _ _ _ _

set_option maxRecDepth 100000

/-- The code by which a vote can't be cast, whatever it is. -/
def cfCode (x : Sn) (s t : List Int) : Int :=
 if snFlt x ≠ 0 then snFlt x else if (s.length == 4) = false then 1 else if (t.length == 4) = false then 1 else if decide (s ∈ x.2.1) = false then 4 else 0

set_option maxHeartbeats 4000000 in
theorem castFault_any (e : SnS) (x : Sn) (sa sb : Sl) (za zb : List Int) (w : World) (o : SNK.Ok w e x) (m : SnSm x) (oa : BOk w sa za) (ob : BOk w sb zb) :
    Calls Tryz.prog 75 #[.agg (snvals e x), .slice sa.a sa.n sa.c, .slice sb.a sb.n sb.c] w fun r w' => r = .returned (.int .i64 (cfCode x za zb)) ∧ Below w.heap.size w w' := by
 have HF := hide (fun (W : World) (hb : Below w.heap.size w W) => implSnapFault_any e x W (SNK.below o hb (Nat.le_refl _)) m)
 have HA := hide (fun W => isAddr_any sa.a sa.n sa.c W)
 have HB := hide (fun W => isAddr_any sb.a sb.n sb.c W)
 have hna : (((sa.n : Nat) : Int) == 4) = (za.length == 4) := by rw [oa.row.1, Bool.eq_iff_iff, beq_iff_eq, beq_iff_eq]; omega
 have hnb : (((sb.n : Nat) : Int) == 4) = (zb.length == 4) := by rw [ob.row.1, Bool.eq_iff_iff, beq_iff_eq, beq_iff_eq]; omega
 rw [hna] at HA
 rw [hnb] at HB
 have kb := SBlk.new w (snvals e x) 37
 have bb := below_alloc w (.cells (snvals e x) 37)
 obtain ⟨W0, e0⟩ : ∃ W, w.alloc (.cells (snvals e x) 37) = W := ⟨_, rfl⟩
 rw [e0] at kb bb
 have HM := hide (fun (h : snFlt x = 0) (W : World) (hb : Below w.heap.size w W) => isAmong_any e.2.1 sa x.2.1 za W (RowOk.below o.2.1 hb (Nat.le_refl _)) (bytesK.below oa hb (Nat.le_refl _)) (snFlt_sg h).1)
 have HK := hide (fun (W : World) (hb : Below W0.heap.size W0 W) => kb.below hb kb.lt)
 have HBB := hide bb
 have HC : Hid (cfCode x za zb = if snFlt x ≠ 0 then snFlt x else if (za.length == 4) = false then 1 else if (zb.length == 4) = false then 1 else if decide (za ∈ x.2.1) = false then 4 else 0) := rfl
 have EA := hide e0
 clear o oa ob m kb bb hna hnb e0
 generalize cfCode x za zb = CC at HC ⊢
 generalize snFlt x = fl at HF HC HM
 generalize (za.length == 4) = wa at HA HC
 generalize (zb.length == 4) = wb at HB HC
 generalize decide (za ∈ x.2.1) = inn at HC HM
 have c := (unhide HK) W0 (Below.refl _ _)
 unfold snvals at EA HF c ⊢
 obtain ⟨n, zss, rs, vs⟩ := x
 obtain ⟨⟨⟩, sg, sr, sv⟩ := e
 simp only at EA HF HM c ⊢
 have c0 := c.cell 0
 have c1 := c.cell 1
 have c2 := c.cell 2
 have c3 := c.cell 3
 simp only [List.getElem?_cons_zero, List.getElem?_cons_succ] at c0 c1 c2 c3
 clear c
 go_enter Tryz.func75, Tryz.ntmps75
 go_upto_region 1 with fail
 rw [unhide EA]
 clear EA
 go_wp2_with fail
 refine ((unhide HF) _ (unhide HBB)).mono ?_
 rintro r w1 ⟨rfl, b1⟩
 have B1 := hide ((unhide HBB).trans (b1.mono (unhide HBB).size))
 have k1 := (unhide HK) w1 b1
 have d1 := k1.cell 1
 unfold snvals at d1
 simp only [List.getElem?_cons_zero, List.getElem?_cons_succ] at d1
 clear c0 c1 c2 c3 k1 b1
 by_cases n0 : fl = 0
 case neg =>
  have h0 : (fl != 0) = true := by simp [n0]
  have hC : CC = fl := (unhide HC).trans (if_pos n0)
  subst hC
  clear n0
  go_wp2_with fail
  go_ret
  exact ⟨rfl, unhide B1⟩
 subst n0
 have h0 : ((0 : Int) != 0) = false := by simp
 go_wp2_with fail
 refine ((unhide HA) _).mono ?_
 rintro r w2 ⟨rfl, rfl⟩
 cases wa
 · have hC : CC = 1 := by rw [unhide HC]; simp
   subst hC
   go_wp2_with fail
   go_ret
   exact ⟨rfl, unhide B1⟩
 go_wp2_with fail
 refine ((unhide HB) _).mono ?_
 rintro r w3 ⟨rfl, rfl⟩
 cases wb
 · have hC : CC = 1 := by rw [unhide HC]; simp
   subst hC
   go_wp2_with fail
   go_ret
   exact ⟨rfl, unhide B1⟩
 go_wp2_with fail
 refine ((unhide HM) (by simp) _ (unhide B1)).mono ?_
 rintro r w4 ⟨rfl, rfl⟩
 cases inn
 · have hC : CC = 4 := by rw [unhide HC]; simp
   subst hC
   go_wp2_with fail
   go_ret
   exact ⟨rfl, unhide B1⟩
 · have hC : CC = 0 := by rw [unhide HC]; simp
   subst hC
   go_wp2_with fail
   go_ret
   exact ⟨rfl, unhide B1⟩

set_option maxRecDepth 100000

set_option maxHeartbeats 4000000 in
theorem cast_fault (e : SnS) (x : Sn) (sa sb : Sl) (za zb : List Int) (add : Bool) (w : World) (o : SNK.Ok w e x) (m : SnSm x) (oa : BOk w sa za) (ob : BOk w sb zb) (hc : cfCode x za zb ≠ 0) :
    Calls Tryz.prog 38 #[.agg (snvals e x), .slice sa.a sa.n sa.c, .slice sb.a sb.n sb.c, .bool add] w fun r w' => r = .returned (.agg (srvals (cfCode x za zb) ((), ⟨none, 0, 0⟩, ⟨none, 0, 0⟩, ⟨none, 0, 0⟩) (0, [], [], []))) ∧ Below w.heap.size w w' := by
 obtain ⟨W0, e0, b0, hz, kx, kr⟩ := entry_sr e x w
 have HCF := hide (fun (W : World) (hb : Below W0.heap.size W0 W) => castFault_any e x sa sb za zb W (SNK.below o (b0.trans (hb.mono b0.size)) (Nat.le_refl _)) m (bytesK.below oa (b0.trans (hb.mono b0.size)) (Nat.le_refl _)) (bytesK.below ob (b0.trans (hb.mono b0.size)) (Nat.le_refl _)))
 have x0 := kx.cell 0
 have x1 := kx.cell 1
 have x2 := kx.cell 2
 have x3 := kx.cell 3
 simp only [snvals, List.getElem?_cons_zero, List.getElem?_cons_succ] at x0 x1 x2 x3
 unfold snvals at HCF
 have hne : (cfCode x za zb != 0) = true := by simp [hc]
 generalize cfCode x za zb = cc at HCF hne hc ⊢
 have HB := hide b0
 have HKR := hide kr
 clear o oa ob kx kr b0 hc
 go_enter Tryz.func38, Tryz.ntmps38
 go_wp2_with (rw [e0])
 refine ((unhide HCF) W0 (Below.refl _ _)).mono ?_
 rintro r1 w1 ⟨rfl, b1⟩
 obtain ⟨⟨r0, r1, r2, r3, r4⟩, f0, f1, f2, f3, f4⟩ := five_blk ((unhide HKR).below b1 (unhide HKR).lt)
 have HB1 := hide ((unhide HB).trans (b1.mono (unhide HB).size))
 clear b1 e0 x0 x1 x2 x3
 go_wp2_with fail
 refine bodyPost_ret (v := .agg (srvals cc ((), ⟨none, 0, 0⟩, ⟨none, 0, 0⟩, ⟨none, 0, 0⟩) (0, [], [], []))) (by simp [results, Tryz.results38, go_sem, r0, r1, r2, r3, r4, srvals]) rfl ⟨rfl, ?_⟩
 exact set5 (unhide HB1) (Nat.le_succ _) _ _ _ _ _

end Go.Proofs.YtdmcmlcmgbbclaaGreat
