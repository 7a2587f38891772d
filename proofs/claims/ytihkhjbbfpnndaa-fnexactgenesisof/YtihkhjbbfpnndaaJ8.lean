/- What is proved here: what the program's GenesisOf answers: a code, and the first header in memory of its own. -/
import Derived.Test.YtihkhjbbfpnndaaJ6
import Derived.Test.YtihkhjbbfpnndaaJ7
import Derived.Deep.RegionHeld3
import Derived.Test.YtihkhjbbfpnndaaChecked
import Derived.Test.YtihkhjbbfpnndaaJ1
import Derived.Laws.AppendOwnNone
import Derived.WalkKit
import Derived.WalkLawsBesides
import Derived.WalkSmall
import Derived.WalkSpells
import Derived.KernelRfl
import Derived.Test.YtihkhjbbfpnndaaJ5
import Derived.Test.YtihkhjbbfpnndaaJ3
import Derived.Maps.AppendAt
namespace Go.Proofs.Ytihkhjbbfpnndaa
open Go.RowKit
set_option linter.unusedVariables false
set_option maxRecDepth 100000

set_option maxHeartbeats 8000000 in
theorem implGenesis_any (s t : Sl) (zss : List (List Int)) (z : List Int) (w : World) (o : RowOk bytesK w s zss) (q : BOk w t z) (hl : zss.length ≤ 1048576) :
    Calls Try.prog 8 #[.slice s.a s.n s.c, .slice t.a t.n t.c] w fun e w' => ∃ (y : HS) (d : Nat → Nat), e = .returned (.agg (hrvals (gnCode zss z) y (gnH zss z))) ∧ CH w' w.heap.size d y (gnH zss z) ∧ Below w.heap.size w w' := by
  have kr := SBlk.new w #[.int .i64 0, .slice none 0 0, .int .i64 0, .int .i64 0, .int .i64 0, .slice none 0 0, .int .i64 0, .slice none 0 0, .slice none 0 0, .slice none 0 0, .slice none 0 0, .slice none 0 0] 28
  have bb := below_alloc w (.cells #[.int .i64 0, .slice none 0 0, .int .i64 0, .int .i64 0, .int .i64 0, .slice none 0 0, .int .i64 0, .slice none 0 0, .slice none 0 0, .slice none 0 0, .slice none 0 0, .slice none 0 0] 28)
  have zb : (w.alloc (.cells #[.int .i64 0, .slice none 0 0, .int .i64 0, .int .i64 0, .int .i64 0, .slice none 0 0, .int .i64 0, .slice none 0 0, .slice none 0 0, .slice none 0 0, .slice none 0 0, .slice none 0 0] 28)).heap.size = w.heap.size + 1 := by simp
  obtain ⟨W0, e0⟩ : ∃ W, w.alloc (.cells #[.int .i64 0, .slice none 0 0, .int .i64 0, .int .i64 0, .int .i64 0, .slice none 0 0, .int .i64 0, .slice none 0 0, .slice none 0 0, .slice none 0 0, .slice none 0 0, .slice none 0 0] 28) = W := ⟨_, rfl⟩
  rw [e0] at kr bb zb
  have o0 := RowOk.below o bb (Nat.le_refl _)
  have HF := hide (someSigners_any s zss W0 o0 hl)
  have HI := hide (isHash_any t.a t.n t.c W0)
  have HQ := hide (fun (W : World) (hb : Below w.heap.size w W) => q.row.below hb (Nat.le_refl _))
  have HO := hide (fun (W : World) (hb : Below w.heap.size w W) => RowOk.below o hb (Nat.le_refl _))
  have HTN : Hid (t.n = z.length) := q.row.1.symm
  have HSN : Hid (s.n = zss.length) := o.len
  have HKR := hide (fun (W : World) (hb : Below (w.heap.size + 1) W0 W) => kr.below hb (by omega))
  have HBB := hide bb
  have HC : Hid (gnCode zss z = if sgSome zss = 0 then (if z.length = 32 then 0 else 1) else sgSome zss) := rfl
  have HH : Hid (gnH zss z = if gnCode zss z = 0 then gnHd zss z else hd0) := rfl
  have HSM : Hid (gnCode zss z = 0 → HSm (gnHd zss z)) := fun h => gnHd_sm h
  have HPS : Hid (sgSome zss = 0 → 0 < zss.length) := fun h => (sgSome_pos h).1
  have r0 := kr.cell 0
  have r1 := kr.cell 1
  have r2 := kr.cell 2
  have r3 := kr.cell 3
  have r4 := kr.cell 4
  have r5 := kr.cell 5
  have r6 := kr.cell 6
  have r7 := kr.cell 7
  have r8 := kr.cell 8
  have r9 := kr.cell 9
  have r10 := kr.cell 10
  have r11 := kr.cell 11
  have f0 := kr.free 0
  have f1 := kr.free 1
  have f2 := kr.free 2
  have f3 := kr.free 3
  have f4 := kr.free 4
  have f5 := kr.free 5
  have f6 := kr.free 6
  have f7 := kr.free 7
  have f8 := kr.free 8
  have f9 := kr.free 9
  have f10 := kr.free 10
  have f11 := kr.free 11
  simp only [List.getElem?_cons_zero, List.getElem?_cons_succ] at r0 r1 r2 r3 r4 r5 r6 r7 r8 r9 r10 r11
  clear o o0 q hl kr bb
  have HQ0 : Hid (∀ x, x ≠ 0 → sgSome zss = x → gnCode zss z = x ∧ gnH zss z = hd0) := fun x hx h => by
    have e : gnCode zss z = x := by rw [unhide HC, h, if_neg hx]
    exact ⟨e, by rw [unhide HH, e, if_neg hx]⟩
  have HQ1 : Hid (sgSome zss = 0 → z.length ≠ 32 → gnCode zss z = 1 ∧ gnH zss z = hd0) := fun h h1 => by
    have e : gnCode zss z = 1 := by rw [unhide HC, h, if_pos rfl, if_neg h1]
    exact ⟨e, by rw [unhide HH, e, if_neg (by omega)]⟩
  have HQ2 : Hid (sgSome zss = 0 → z.length = 32 → gnCode zss z = 0 ∧ gnH zss z = gnHd zss z ∧ HSm (gnHd zss z) ∧ 0 < zss.length) := fun h h1 => by
    have e : gnCode zss z = 0 := by rw [unhide HC, h, if_pos rfl, if_pos h1]
    exact ⟨e, by rw [unhide HH, e, if_pos rfl], gnHd_sm e, (sgSome_pos h).1⟩
  clear HC HH HSM HPS
  generalize gnH zss z = AA at HQ0 HQ1 HQ2 ⊢
  generalize gnCode zss z = cc at HQ0 HQ1 HQ2 ⊢
  generalize sgSome zss = fl at HF HQ0 HQ1 HQ2 ⊢
  go_enter Try.func8, Try.ntmps8
  go_wp2_with (rw [e0])
  try rw [e0]
  clear e0
  refine (unhide HF).mono ?_
  rintro r w1 ⟨rfl, rfl⟩
  by_cases n0 : fl = 0
  case neg =>
    have h0 : (fl != 0) = true := by simp [n0]
    obtain ⟨ecc, eaa⟩ := (unhide HQ0) fl n0 (by first | rfl | trivial)
    have HCC := hide ecc
    have HAV := hide eaa
    clear n0 HQ0 HQ1 HQ2 ecc eaa
    go_wp2_with fail
    refine bodyPost_ret (v := .agg (hrvals fl hs0 hd0)) (by simp [results, Try.results8, go_sem, r0, r1, r2, r3, r4, r5, r6, r7, r8, r9, r10, r11, hrvals, hs0, hd0]) rfl ⟨hs0, fun _ => 0, by rw [unhide HAV, unhide HCC], by rw [unhide HAV]; exact ch0 _ _ _, ?_⟩
    repeat (refine Below.setCell ?_ (by show w.heap.size ≤ w.heap.size; omega) _)
    exact unhide HBB
  subst n0
  have h0 : ((0 : Int) != 0) = false := by simp
  go_wp2_with fail
  refine (unhide HI).mono ?_
  rintro r w1 ⟨rfl, rfl⟩
  by_cases n1 : t.n = 32
  case neg =>
    have h1 : ((((t.n : Nat) : Int) == 32)) = false := by rw [beq_eq_false_iff_ne]; omega
    obtain ⟨ecc, eaa⟩ := (unhide HQ1) (by first | rfl | trivial) (by rw [← unhide HTN]; exact n1)
    have HCC := hide ecc
    have HAV := hide eaa
    clear n1 HQ0 HQ1 HQ2 ecc eaa
    go_wp2_with fail
    refine bodyPost_ret (v := .agg (hrvals 1 hs0 hd0)) (by simp [results, Try.results8, go_sem, r0, r1, r2, r3, r4, r5, r6, r7, r8, r9, r10, r11, hrvals, hs0, hd0]) rfl ⟨hs0, fun _ => 0, by rw [unhide HAV, unhide HCC], by rw [unhide HAV]; exact ch0 _ _ _, ?_⟩
    repeat (refine Below.setCell ?_ (by show w.heap.size ≤ w.heap.size; omega) _)
    exact unhide HBB
  have h1 : ((((t.n : Nat) : Int) == 32)) = true := by rw [n1]; rfl
  obtain ⟨ecc, eaa, hsm, hpos⟩ := (unhide HQ2) (by first | rfl | trivial) (by rw [← unhide HTN]; exact n1)
  have HCC := hide ecc
  have HAV := hide eaa
  have HS2 := hide hsm
  have hsp : (0 : Int) < ((s.n : Nat) : Int) := by rw [unhide HSN]; omega
  clear HQ0 HQ1 HQ2 ecc eaa hsm r0 r1 r2 r3 r4 r5 r6 r7 r8 r9 r10 r11 f0 f1 f2 f3 f4 f5 f6 f7 f8 f9 f10 f11
  obtain ⟨b, off, ha, _, hat⟩ := (RowOk.below ((unhide HO) w1 (unhide HBB)) (Below.refl w1.heap.size w1) (Nat.le_refl _)).pos (by rw [unhide HSN]; exact hpos)
  obtain ⟨e8, hc8, ho8⟩ := hat 0 _ (gn_head hpos)
  have hc8' : w1.cell? ⟨b, off, none⟩ = some (.slice e8.a e8.n e8.c) := hc8 0 _ rfl
  have hb8 : b < w1.heap.size := by assumption
  have HO8 := hide ho8
  clear hc8 ho8 hat
  have hmk : ∀ W : World, (Instr.makeSlice 23 (.int .i64 32) (.int .i64 32)).run Try.prog W = .ok (.slice (some ⟨W.heap.size, 0, none⟩) 32 32) (W.alloc (.cells (madeCells #[.int .u8 0] 32) 5)) := fun W => by kernel_rfl
  have HMO : Hid (∀ (W : World) (B : Nat), B ≤ W.heap.size → (W.alloc (.cells (madeCells #[.int .u8 0] 32) 5)).ownsRow B 5 1 (.slice (some ⟨W.heap.size, 0, none⟩) 32 32) 32 ((List.replicate 32 (0 : Int)).map (Value.int .u8))) := fun W B hB => by
    have e : (madeCells #[.int .u8 0] 32).toList = (List.replicate 32 (0 : Int)).map (Value.int .u8) := by kernel_rfl
    have q := World.ownsRow_lit (e := 5) (size := 1) W (madeCells #[.int .u8 0] 32) 32 hB (by unfold maxLen; decide) (by rw [size_madeCells])
    rw [e] at q
    exact q
  generalize madeCells #[.int .u8 0] 32 = ZZ at hmk HMO
  have hsq : 0 < s.n := by rw [unhide HSN]; exact hpos
  have HCK : Hid (∀ W, Below w1.heap.size w1 W → W.cell? ⟨b, off, none⟩ = some (.slice e8.a e8.n e8.c)) := fun W hb => (hb.cell (p := ⟨b, off, none⟩) hb8).trans hc8'
  rw [ha]
  go_wp2_with fail
  go_region_held3 (fun W => W.cell? ⟨b, off, none⟩ = some (.slice e8.a e8.n e8.c))
    (exact (unhide HCK) _ (by repeat (first | exact Below.refl _ _ | refine Below.drew ?_ | refine below_drewN ?_ _ | refine bAlloc ?_ _ | refine Below.setCell ?_ (by simp) _)))
    (first | fail)
  · have kb : SBlk (((w1.alloc (.cells ZZ 5)).alloc (.cells #[.slice (some ⟨w.heap.size + 1, 0, none⟩) 32 32, .int .i64 0, .int .i64 0, .int .i64 1, .slice none 0 0, .int .i64 0, .slice (some ⟨b, off, none⟩) s.n s.c, .slice t.a 32 t.c, .slice e8.a e8.n e8.c, .slice none 0 0, .slice none 0 0] 26)).drew) (w.heap.size + 1 + 1) #[.slice (some ⟨w.heap.size + 1, 0, none⟩) 32 32, .int .i64 0, .int .i64 0, .int .i64 1, .slice none 0 0, .int .i64 0, .slice (some ⟨b, off, none⟩) s.n s.c, .slice t.a 32 t.c, .slice e8.a e8.n e8.c, .slice none 0 0, .slice none 0 0].toList 26 := by
      have k := SBlk.new (w1.alloc (.cells ZZ 5)) #[.slice (some ⟨w.heap.size + 1, 0, none⟩) 32 32, .int .i64 0, .int .i64 0, .int .i64 1, .slice none 0 0, .int .i64 0, .slice (some ⟨b, off, none⟩) s.n s.c, .slice t.a 32 t.c, .slice e8.a e8.n e8.c, .slice none 0 0, .slice none 0 0] 26
      rw [show (w1.alloc (.cells ZZ 5)).heap.size = w.heap.size + 1 + 1 by simp [zb]] at k
      exact k.below ((Below.refl _ _).drew) k.lt
    have op : (((w1.alloc (.cells ZZ 5)).alloc (.cells #[.slice (some ⟨w.heap.size + 1, 0, none⟩) 32 32, .int .i64 0, .int .i64 0, .int .i64 1, .slice none 0 0, .int .i64 0, .slice (some ⟨b, off, none⟩) s.n s.c, .slice t.a 32 t.c, .slice e8.a e8.n e8.c, .slice none 0 0, .slice none 0 0] 26)).drew).ownsRow w1.heap.size 5 1 (.slice (some ⟨w.heap.size + 1, 0, none⟩) 32 32) 32 ((List.replicate 32 (0 : Int)).map (Value.int .u8)) := by
      have k := (unhide HMO) w1 w1.heap.size (Nat.le_refl _)
      have k2 := own_below (own_below k (below_alloc _ (.cells #[.slice (some ⟨w.heap.size + 1, 0, none⟩) 32 32, .int .i64 0, .int .i64 0, .int .i64 1, .slice none 0 0, .int .i64 0, .slice (some ⟨b, off, none⟩) s.n s.c, .slice t.a 32 t.c, .slice e8.a e8.n e8.c, .slice none 0 0, .slice none 0 0] 26)) (Nat.le_refl _)) ((Below.refl _ _).drew) (Nat.le_refl _)
      rw [show (Value.slice (some ⟨w1.heap.size, 0, none⟩) 32 32) = .slice (some ⟨w.heap.size + 1, 0, none⟩) 32 32 by rw [zb]] at k2
      exact k2
    have K2 : Below w1.heap.size w1 (((w1.alloc (.cells ZZ 5)).alloc (.cells #[.slice (some ⟨w.heap.size + 1, 0, none⟩) 32 32, .int .i64 0, .int .i64 0, .int .i64 1, .slice none 0 0, .int .i64 0, .slice (some ⟨b, off, none⟩) s.n s.c, .slice t.a 32 t.c, .slice e8.a e8.n e8.c, .slice none 0 0, .slice none 0 0] 26)).drew) := by repeat (first | exact Below.refl _ _ | refine Below.drew ?_ | refine bAlloc ?_ _)
    obtain ⟨W2, e2⟩ : ∃ W, (((w1.alloc (.cells ZZ 5)).alloc (.cells #[.slice (some ⟨w.heap.size + 1, 0, none⟩) 32 32, .int .i64 0, .int .i64 0, .int .i64 1, .slice none 0 0, .int .i64 0, .slice (some ⟨b, off, none⟩) s.n s.c, .slice t.a 32 t.c, .slice e8.a e8.n e8.c, .slice none 0 0, .slice none 0 0] 26)).drew) = W := ⟨_, rfl⟩
    rw [e2] at kb op K2 ⊢
    clear e2
    obtain ⟨gs, egs⟩ : ∃ g, g = w.heap.size + 1 + 1 := ⟨_, rfl⟩
    obtain ⟨gp, egp⟩ : ∃ g, g = w.heap.size + 1 := ⟨_, rfl⟩
    rw [← egs] at kb ⊢
    rw [← egp] at kb op ⊢
    have hgs : w.heap.size < gs := by omega
    clear egs egp
    obtain ⟨x, ex⟩ : ∃ x : HS, x = ⟨⟨some ⟨gp, 0, none⟩, 32, 32⟩, ⟨none, 0, 0⟩, ⟨some ⟨b, off, none⟩, s.n, s.c⟩, ⟨t.a, 32, t.c⟩, e8, ⟨none, 0, 0⟩, ⟨none, 0, 0⟩⟩ := ⟨_, rfl⟩
    have K3 := (unhide HBB).trans (K2.mono (unhide HBB).size)
    have ho : HOk W2 x (gnHd zss z) := by
      rw [ex]
      have hsr := bs_of_row ((unhide HO) W2 K3)
      have htr := (unhide HQ) W2 K3
      rw [ha] at hsr
      rw [n1] at htr
      have hn0 : BRow W2 none 0 [] := ⟨rfl, fun n hn => by simp at hn, fun _ => rfl, fun y hy => by cases hy⟩
      exact ⟨BRow.own2 op (fun y hy => by rw [List.eq_of_mem_replicate hy]; omega), hn0, hsr, htr, (unhide HO8).row.below K2 (Nat.le_refl _), hn0, ⟨rfl, fun z hz => by simp [gnHd] at hz, fun h => by simp at h⟩⟩
    have DC := hide (copyHeader_any x (gnHd zss z) W2 ho (unhide HS2))
    have HK3 := hide K3
    have kr := (unhide HKR) W2 (K2.mono (by omega))
    have HKR2 := hide (fun (W : World) (hb : Below W2.heap.size W2 W) => kr.below hb kr.lt)
    have hz2 : w.heap.size + 1 ≤ W2.heap.size := by have := K2.size; omega
    have c0 := kb.cell 0
    have c1 := kb.cell 1
    have c2 := kb.cell 2
    have c3 := kb.cell 3
    have c4 := kb.cell 4
    have c5 := kb.cell 5
    have c6 := kb.cell 6
    have c7 := kb.cell 7
    have c8 := kb.cell 8
    have c9 := kb.cell 9
    have c10 := kb.cell 10
    simp only [List.getElem?_cons_zero, List.getElem?_cons_succ] at c0 c1 c2 c3 c4 c5 c6 c7 c8 c9 c10
    rw [ex] at DC
    unfold hvals at DC
    have HG : Hid (gnHd zss z = ⟨List.replicate 32 0, 0, 0, 1, [], 0, zss, z, zss.headD [], [], []⟩) := rfl
    simp only [gnHd] at DC
    clear kb op K2 K3 ho kr ex x hmk HMO HCK hc8' hsp hsq HO8 HQ HO
    go_wp2_with fail
    refine (unhide DC).mono ?_
    rintro r w3 ⟨y, d, rfl, ch, b3⟩
    have kr := (unhide HKR2) w3 b3
    have HCH := hide ch
    have HB3 := hide b3
    have r0 := kr.cell 0
    have r1 := kr.cell 1
    have r2 := kr.cell 2
    have r3 := kr.cell 3
    have r4 := kr.cell 4
    have r5 := kr.cell 5
    have r6 := kr.cell 6
    have r7 := kr.cell 7
    have r8 := kr.cell 8
    have r9 := kr.cell 9
    have r10 := kr.cell 10
    have r11 := kr.cell 11
    have f0 := kr.free 0
    have f1 := kr.free 1
    have f2 := kr.free 2
    have f3 := kr.free 3
    have f4 := kr.free 4
    have f5 := kr.free 5
    have f6 := kr.free 6
    have f7 := kr.free 7
    have f8 := kr.free 8
    have f9 := kr.free 9
    have f10 := kr.free 10
    have f11 := kr.free 11
    simp only [List.getElem?_cons_zero, List.getElem?_cons_succ] at r0 r1 r2 r3 r4 r5 r6 r7 r8 r9 r10 r11
    clear ch b3 kr c0 c1 c2 c3 c4 c5 c6 c7 c8 c9 c10 DC HKR2 HKR
    go_wp2_with fail
    refine bodyPost_ret (v := .agg #[.int .i64 0, .slice y.p.a y.p.n y.p.c, .int .i64 0, .int .i64 0, .int .i64 1, .slice y.t.a y.t.n y.t.c, .int .i64 0, .slice y.s.a y.s.n y.s.c, .slice y.r.a y.r.n y.r.c, .slice y.g.a y.g.n y.g.c, .slice y.e.a y.e.n y.e.c, .slice y.k.a y.k.n y.k.c]) (by simp [results, Try.results8, go_sem, r0, r1, r2, r3, r4, r5, r6, r7, r8, r9, r10, r11]) rfl ⟨y, d, by rw [unhide HAV, unhide HCC]; rfl, ?_, ?_⟩
    · rw [unhide HAV]
      refine CH.base (B := W2.heap.size + 2) ?_ (by omega)
      repeat (refine CH.set ?_ (by show w.heap.size < W2.heap.size + 2; omega))
      exact unhide HCH
    · repeat (refine Below.setCell ?_ (by show w.heap.size ≤ w.heap.size; omega) _)
      exact (unhide HK3).trans ((unhide HB3).mono (unhide HK3).size)
  · have kb : SBlk (((w1.alloc (.cells #[.slice (some ⟨w.heap.size + 1 + 1, 0, none⟩) 32 32, .int .i64 0, .int .i64 0, .int .i64 1, .slice none 0 0, .int .i64 0, .slice (some ⟨b, off, none⟩) s.n s.c, .slice t.a 32 t.c, .slice e8.a e8.n e8.c, .slice none 0 0, .slice none 0 0] 26)).alloc (.cells ZZ 5)).drew) (w.heap.size + 1) #[.slice (some ⟨w.heap.size + 1 + 1, 0, none⟩) 32 32, .int .i64 0, .int .i64 0, .int .i64 1, .slice none 0 0, .int .i64 0, .slice (some ⟨b, off, none⟩) s.n s.c, .slice t.a 32 t.c, .slice e8.a e8.n e8.c, .slice none 0 0, .slice none 0 0].toList 26 := by
      have k := (SBlk.new w1 #[.slice (some ⟨w.heap.size + 1 + 1, 0, none⟩) 32 32, .int .i64 0, .int .i64 0, .int .i64 1, .slice none 0 0, .int .i64 0, .slice (some ⟨b, off, none⟩) s.n s.c, .slice t.a 32 t.c, .slice e8.a e8.n e8.c, .slice none 0 0, .slice none 0 0] 26).next (.cells ZZ 5)
      rw [zb] at k
      exact k.below ((Below.refl _ _).drew) k.lt
    have op : (((w1.alloc (.cells #[.slice (some ⟨w.heap.size + 1 + 1, 0, none⟩) 32 32, .int .i64 0, .int .i64 0, .int .i64 1, .slice none 0 0, .int .i64 0, .slice (some ⟨b, off, none⟩) s.n s.c, .slice t.a 32 t.c, .slice e8.a e8.n e8.c, .slice none 0 0, .slice none 0 0] 26)).alloc (.cells ZZ 5)).drew).ownsRow w1.heap.size 5 1 (.slice (some ⟨w.heap.size + 1 + 1, 0, none⟩) 32 32) 32 ((List.replicate 32 (0 : Int)).map (Value.int .u8)) := by
      have k := (unhide HMO) (w1.alloc (.cells #[.slice (some ⟨w.heap.size + 1 + 1, 0, none⟩) 32 32, .int .i64 0, .int .i64 0, .int .i64 1, .slice none 0 0, .int .i64 0, .slice (some ⟨b, off, none⟩) s.n s.c, .slice t.a 32 t.c, .slice e8.a e8.n e8.c, .slice none 0 0, .slice none 0 0] 26)) w1.heap.size (by simp)
      have k2 := own_below k ((Below.refl _ _).drew) (Nat.le_refl _)
      rw [show (Value.slice (some ⟨(w1.alloc (.cells #[.slice (some ⟨w.heap.size + 1 + 1, 0, none⟩) 32 32, .int .i64 0, .int .i64 0, .int .i64 1, .slice none 0 0, .int .i64 0, .slice (some ⟨b, off, none⟩) s.n s.c, .slice t.a 32 t.c, .slice e8.a e8.n e8.c, .slice none 0 0, .slice none 0 0] 26)).heap.size, 0, none⟩) 32 32) = .slice (some ⟨w.heap.size + 1 + 1, 0, none⟩) 32 32 by rw [show (w1.alloc (.cells #[.slice (some ⟨w.heap.size + 1 + 1, 0, none⟩) 32 32, .int .i64 0, .int .i64 0, .int .i64 1, .slice none 0 0, .int .i64 0, .slice (some ⟨b, off, none⟩) s.n s.c, .slice t.a 32 t.c, .slice e8.a e8.n e8.c, .slice none 0 0, .slice none 0 0] 26)).heap.size = w.heap.size + 1 + 1 by simp [zb]]] at k2
      exact k2
    have K2 : Below w1.heap.size w1 (((w1.alloc (.cells #[.slice (some ⟨w.heap.size + 1 + 1, 0, none⟩) 32 32, .int .i64 0, .int .i64 0, .int .i64 1, .slice none 0 0, .int .i64 0, .slice (some ⟨b, off, none⟩) s.n s.c, .slice t.a 32 t.c, .slice e8.a e8.n e8.c, .slice none 0 0, .slice none 0 0] 26)).alloc (.cells ZZ 5)).drew) := by repeat (first | exact Below.refl _ _ | refine Below.drew ?_ | refine bAlloc ?_ _)
    obtain ⟨W2, e2⟩ : ∃ W, (((w1.alloc (.cells #[.slice (some ⟨w.heap.size + 1 + 1, 0, none⟩) 32 32, .int .i64 0, .int .i64 0, .int .i64 1, .slice none 0 0, .int .i64 0, .slice (some ⟨b, off, none⟩) s.n s.c, .slice t.a 32 t.c, .slice e8.a e8.n e8.c, .slice none 0 0, .slice none 0 0] 26)).alloc (.cells ZZ 5)).drew) = W := ⟨_, rfl⟩
    rw [e2] at kb op K2 ⊢
    clear e2
    obtain ⟨gs, egs⟩ : ∃ g, g = w.heap.size + 1 := ⟨_, rfl⟩
    obtain ⟨gp, egp⟩ : ∃ g, g = w.heap.size + 1 + 1 := ⟨_, rfl⟩
    rw [← egp] at kb op ⊢
    rw [← egs] at kb ⊢
    have hgs : w.heap.size < gs := by omega
    clear egs egp
    obtain ⟨x, ex⟩ : ∃ x : HS, x = ⟨⟨some ⟨gp, 0, none⟩, 32, 32⟩, ⟨none, 0, 0⟩, ⟨some ⟨b, off, none⟩, s.n, s.c⟩, ⟨t.a, 32, t.c⟩, e8, ⟨none, 0, 0⟩, ⟨none, 0, 0⟩⟩ := ⟨_, rfl⟩
    have K3 := (unhide HBB).trans (K2.mono (unhide HBB).size)
    have ho : HOk W2 x (gnHd zss z) := by
      rw [ex]
      have hsr := bs_of_row ((unhide HO) W2 K3)
      have htr := (unhide HQ) W2 K3
      rw [ha] at hsr
      rw [n1] at htr
      have hn0 : BRow W2 none 0 [] := ⟨rfl, fun n hn => by simp at hn, fun _ => rfl, fun y hy => by cases hy⟩
      exact ⟨BRow.own2 op (fun y hy => by rw [List.eq_of_mem_replicate hy]; omega), hn0, hsr, htr, (unhide HO8).row.below K2 (Nat.le_refl _), hn0, ⟨rfl, fun z hz => by simp [gnHd] at hz, fun h => by simp at h⟩⟩
    have DC := hide (copyHeader_any x (gnHd zss z) W2 ho (unhide HS2))
    have HK3 := hide K3
    have kr := (unhide HKR) W2 (K2.mono (by omega))
    have HKR2 := hide (fun (W : World) (hb : Below W2.heap.size W2 W) => kr.below hb kr.lt)
    have hz2 : w.heap.size + 1 ≤ W2.heap.size := by have := K2.size; omega
    have c0 := kb.cell 0
    have c1 := kb.cell 1
    have c2 := kb.cell 2
    have c3 := kb.cell 3
    have c4 := kb.cell 4
    have c5 := kb.cell 5
    have c6 := kb.cell 6
    have c7 := kb.cell 7
    have c8 := kb.cell 8
    have c9 := kb.cell 9
    have c10 := kb.cell 10
    simp only [List.getElem?_cons_zero, List.getElem?_cons_succ] at c0 c1 c2 c3 c4 c5 c6 c7 c8 c9 c10
    rw [ex] at DC
    unfold hvals at DC
    have HG : Hid (gnHd zss z = ⟨List.replicate 32 0, 0, 0, 1, [], 0, zss, z, zss.headD [], [], []⟩) := rfl
    simp only [gnHd] at DC
    clear kb op K2 K3 ho kr ex x hmk HMO HCK hc8' hsp hsq HO8 HQ HO
    go_wp2_with fail
    refine (unhide DC).mono ?_
    rintro r w3 ⟨y, d, rfl, ch, b3⟩
    have kr := (unhide HKR2) w3 b3
    have HCH := hide ch
    have HB3 := hide b3
    have r0 := kr.cell 0
    have r1 := kr.cell 1
    have r2 := kr.cell 2
    have r3 := kr.cell 3
    have r4 := kr.cell 4
    have r5 := kr.cell 5
    have r6 := kr.cell 6
    have r7 := kr.cell 7
    have r8 := kr.cell 8
    have r9 := kr.cell 9
    have r10 := kr.cell 10
    have r11 := kr.cell 11
    have f0 := kr.free 0
    have f1 := kr.free 1
    have f2 := kr.free 2
    have f3 := kr.free 3
    have f4 := kr.free 4
    have f5 := kr.free 5
    have f6 := kr.free 6
    have f7 := kr.free 7
    have f8 := kr.free 8
    have f9 := kr.free 9
    have f10 := kr.free 10
    have f11 := kr.free 11
    simp only [List.getElem?_cons_zero, List.getElem?_cons_succ] at r0 r1 r2 r3 r4 r5 r6 r7 r8 r9 r10 r11
    clear ch b3 kr c0 c1 c2 c3 c4 c5 c6 c7 c8 c9 c10 DC HKR2 HKR
    go_wp2_with fail
    refine bodyPost_ret (v := .agg #[.int .i64 0, .slice y.p.a y.p.n y.p.c, .int .i64 0, .int .i64 0, .int .i64 1, .slice y.t.a y.t.n y.t.c, .int .i64 0, .slice y.s.a y.s.n y.s.c, .slice y.r.a y.r.n y.r.c, .slice y.g.a y.g.n y.g.c, .slice y.e.a y.e.n y.e.c, .slice y.k.a y.k.n y.k.c]) (by simp [results, Try.results8, go_sem, r0, r1, r2, r3, r4, r5, r6, r7, r8, r9, r10, r11]) rfl ⟨y, d, by rw [unhide HAV, unhide HCC]; rfl, ?_, ?_⟩
    · rw [unhide HAV]
      refine CH.base (B := W2.heap.size + 2) ?_ (by omega)
      repeat (refine CH.set ?_ (by show w.heap.size < W2.heap.size + 2; omega))
      exact unhide HCH
    · repeat (refine Below.setCell ?_ (by show w.heap.size ≤ w.heap.size; omega) _)
      exact (unhide HK3).trans ((unhide HB3).mono (unhide HK3).size)

end Go.Proofs.Ytihkhjbbfpnndaa

/- What is proved here: the model's copy of bytes gives the same bytes in new memory. -/
namespace Go.Proofs.Ytihkhjbbfpnndaa
open Go.RowKit
set_option linter.unusedVariables false
set_option maxRecDepth 100000

set_option maxHeartbeats 1000000 in
theorem copy_any (a : Option Addr) (n cap : Nat) (zs : List Int) (w : World) (h : BRow w a n zs) (hcap : a = none → cap = 0) (hn : n ≤ 1048576) :
    Calls Try.prog 19 #[.slice a n cap] w fun e w' => ∃ (a' : Option Addr) (cap' : Nat), e = .returned (.slice a' n cap') ∧ w'.ownsRow w.heap.size 5 1 (.slice a' n cap') n (zs.map (Value.int .u8)) ∧ Below w.heap.size w w' := by
  obtain ⟨i0, hi, hz0, hz1, hz2⟩ := info_parts info5
  have hown0 : (w.alloc (.cells #[] 5)).ownsRow w.heap.size 5 1 (.slice (some ⟨w.heap.size, 0, none⟩) 0 0) 0 [] := World.ownsRow_lit w #[] 0 (Nat.le_refl _) (by unfold maxLen; omega) rfl
  have hb := below_alloc w (.cells #[] 5)
  have hr := h.below hb (Nat.le_refl _)
  cases a with
  | none =>
    obtain rfl : n = 0 := h.2.2.1 rfl
    obtain rfl : zs = [] := List.length_eq_zero_iff.1 h.1
    obtain rfl : cap = 0 := hcap rfl
    have HB := hide hb
    clear h hr hb
    go_enter Try.func19, Try.ntmps19
    go_wp2_with (at_builtin; refine wpList_append_own_none rfl _ _ 23 rfl w.heap.size 5 i0 1 Try.underlying23 hi _ _ _ rfl hown0 rfl ?_)
    go_ret
    exact ⟨_, _, rfl, hown0, unhide HB⟩
  | some x =>
    have HR := hide hr
    have hzl := h.1
    clear h hr
    go_enter Try.func19, Try.ntmps19
    go_wp2_with (at_builtin; refine wpList_append_own _ rfl _ _ 23 rfl w.heap.size 5 i0 (.int .u8 0) 1 1 Try.underlying23 hi hz0 hz1 hz2 rfl (by decide) _ _ _ rfl hown0 x n cap (zs.map (Value.int .u8)) rfl ?c0 ?c1 ?c2 ?c3 ?c4 ?c5 ?_)
    case c0 => simp [hzl]
    case c1 =>
      intro j u hj
      have hjl : j < zs.length := by have := (List.getElem?_eq_some_iff.1 hj).1; simpa using this
      rw [(unhide HR).2.2.2 x rfl j (by omega)]
      rw [List.getElem?_map, List.getElem?_eq_getElem hjl] at hj
      rw [getD_at _ _ hjl]
      exact hj
    case c2 => intro u hu; obtain ⟨z, _, rfl⟩ := List.mem_map.1 hu; rfl
    case c3 => unfold maxLen; omega
    case c4 => omega
    case c5 => simp
    intro v' w2 hown2 hgrow _
    obtain ⟨a2, cap2, hvv⟩ := own_shape hown2
    have hb2 : Below w.heap.size w w2 := hb.grown hgrow (by simp) (fun g e => by simp [Value.ownBlock] at e; omega)
    rw [hvv] at hown2
    rw [hvv]
    have HO := hide hown2
    have HB := hide hb2
    clear hown2 hb2 hgrow hvv hown0 hb
    go_wp2_with fail
    go_ret
    refine ⟨a2, cap2, ?_, ?_, unhide HB⟩
    · simp
    · simpa using unhide HO

end Go.Proofs.Ytihkhjbbfpnndaa

/- What is proved here: what the model's l5Lists answers: the same list in memory of its own, down to the bytes. -/
namespace Go.Proofs.Ytihkhjbbfpnndaa
open Go.RowKit
set_option linter.unusedVariables false
set_option maxRecDepth 100000

theorem one_at (w : World) (x : Value) (t : TypeId) : ∀ (j : Nat) (u : Value), [x][j]? = some u → (w.alloc (.cells #[x] t)).cell? ((⟨w.heap.size, 0, none⟩ : Addr).add j) = some u := by
  intro j u hj
  rw [add_none, Nat.zero_add, World.cell?_alloc_new]
  match j, hj with
  | 0, hj => simpa using hj

set_option maxHeartbeats 4000000 in
theorem l5Lists_any (r c : Nat) (hr : ∀ i, r ≠ c + 3 * i) (a : Option Addr) (len cap : Nat) (zss : List (List Int)) (w : World) (h : BsRow w a len zss) (hn : BsNil w a len) (hl : len ≤ 1048576) (hz : ∀ z ∈ zss, z.length ≤ 1048576) :
    Calls Try.prog 18 #[.slice a len cap] w fun e w' => ∃ (s : Sl) (d : Nat → Nat), e = .returned (.slice s.a s.n s.c) ∧ CS w' w.heap.size d r c s zss ∧ Below w.heap.size w w' := by
  obtain ⟨i0, hi, hz0, hz1, hz2⟩ := info_parts infoSB
  have hil := h.1
  have o0 : (w.alloc (.cells #[] 23)).ownsRow w.heap.size 23 1 (.slice (some ⟨w.heap.size, 0, none⟩) 0 0) 0 (([] : List Sl).map Sl.v) := World.ownsRow_lit w #[] 0 (Nat.le_refl _) (by unfold maxLen; omega) rfl
  have HC0 : Hid (CS (w.alloc (.cells #[] 23)) w.heap.size (fun _ => r) r c ⟨some ⟨w.heap.size, 0, none⟩, 0, 0⟩ []) := ⟨rfl, [], rfl, o0, (fun _ _ => rfl), fun i e z he => by simp at he⟩
  have HROW := hide (fun (W : World) (hb : Below w.heap.size w W) => And.intro (h.below hb (Nat.le_refl _)) (hn.below hb (Nat.le_refl _)))
  have HBY := hide h.bytes
  have HZ := hide hz
  have HL := hide hil
  have HR := hide hr
  clear h hn hil o0 hz hr
  go_enter Try.func18, Try.ntmps18
  go_wp2_with fail
  go_loopw [3, 4] (fun s i wr => ∃ (k : Nat) (t : Sl) (d : Nat → Nat), k ≤ len ∧ i = .int .i64 k ∧ s = .slice t.a t.n t.c ∧ CS wr w.heap.size d r c t (zss.take k) ∧ Below w.heap.size w wr) (fun _ i _ => len - (intOf i).toNat)
  case atStart => exact ⟨0, ⟨some ⟨w.heap.size, 0, none⟩, 0, 0⟩, fun _ => r, Nat.zero_le _, rfl, rfl, unhide HC0, below_alloc w _⟩
  case round =>
    obtain ⟨k, t, d, hk, rfl, rfl, hcs, hbr⟩ := hrel
    clear HC0
    by_cases hlt : k < len
    · obtain ⟨z, hit⟩ : ∃ z, zss[k]? = some z := ⟨_, List.getElem?_eq_getElem (by rw [unhide HL]; exact hlt)⟩
      obtain ⟨hrow, hnil⟩ := (unhide HROW) wr hbr
      obtain ⟨b, off, rfl, _, hat⟩ := hrow.at (by omega)
      obtain ⟨s1, n1, d1, c0, r1⟩ := hat k z hit
      obtain ⟨s1', n1', d1', c0', hnn⟩ := hnil b off rfl k hlt
      rw [c0] at c0'
      simp only [Option.some.injEq, Value.slice.injEq] at c0'
      obtain ⟨rfl, rfl, rfl⟩ := c0'
      have hz8 := (unhide HZ) z (List.mem_of_getElem? hit)
      have hzl : z.length = n1 := r1.1
      have hzr := (unhide HBY) z (List.mem_of_getElem? hit)
      have HP := hide (copy_any s1 n1 d1 z wr r1 hnn (by omega))
      have hts : zss.take (k + 1) = zss.take k ++ [z] := by obtain ⟨hk', e'⟩ := List.getElem?_eq_some_iff.1 hit; rw [List.take_succ_eq_append_getElem hk', e']
      have htl : (zss.take k).length = k := by rw [List.length_take]; have := unhide HL; omega
      have htn : t.n = k := by rw [hcs.1]; exact htl
      have k1 : (0 : Int) ≤ (k : Int) := by omega
      have k2 : (k : Int) < (len : Int) := by omega
      have HCS := hide hcs
      have HB := hide hbr
      have HTS := hide hts
      have HTL := hide htl
      have HTN := hide htn
      have HZR := hide hzr
      clear hcs hbr hit hrow hnil hat r1 hnn hz8 hts htl htn hzr
      go_wp2_with fail
      refine (unhide HP).mono ?_
      rintro e w2 ⟨a2, c2, rfl, o2, b2⟩
      have ba := below_alloc w2 (.cells #[.slice a2 n1 c2] 23)
      have hs2 : wr.heap.size ≤ w2.heap.size := b2.size
      have hwr : w.heap.size ≤ wr.heap.size := (unhide HB).size
      obtain ⟨d', hd'⟩ : ∃ d' : Nat → Nat, d' = fun g => if wr.heap.size ≤ g then c + 3 * k else d g := ⟨_, rfl⟩
      have cz : CB w2 w.heap.size d' (c + 3 * k) ⟨a2, n1, c2⟩ z := by rw [hd']; exact CB.new hzl.symm (unhide HZR) o2 hwr
      have cs2 := ((unhide HCS).recol (d' := d') (fun g hg => by rw [hd']; exact if_neg (by omega))).below b2 (Nat.le_refl _)
      have cz := cz.below ba (Nat.le_refl _)
      obtain ⟨h1, es, h2, h3, h4, h5⟩ := cs2.below ba (Nat.le_refl _)
      have H1 := hide h1
      have H2 := hide h2
      have H4 := hide h4
      have H5 := hide h5
      have HCZ := hide cz
      have HCS2 := hide cs2
      clear h1 h2 h4 h5 cz cs2
      have B3 := (unhide HB).trans ((b2.trans (ba.mono b2.size)).mono hwr)
      have hsz3 : w.heap.size ≤ (w2.alloc (.cells #[.slice a2 n1 c2] 23)).heap.size := B3.size
      have hnk : t.n ≤ 1048576 := by have := unhide HTN; omega
      go_wp2_with (at_builtin; refine wpList_append_own_at _ rfl _ _ 22 rfl w.heap.size 23 i0 (.slice none 0 0) 1 24 Try.underlying22 hi hz0 hz1 hz2 rfl (by decide) _ _ _ rfl h3 ⟨w2.heap.size, 0, none⟩ 1 1 [.slice a2 n1 c2] rfl rfl ?c1 ?c2 ?c3 ?c4 ?c5 ?_)
      case c1 => exact one_at _ _ _
      case c2 => intro u hu; simp at hu; subst hu; rfl
      case c3 => unfold maxLen; omega
      case c4 => omega
      case c5 => exact hsz3
      intro v' w6 hown2 hgrow _ hblk
      obtain ⟨a6, c6, hv6⟩ := own_shape hown2
      subst hv6
      have SN := CS.mkSnoc (unhide HR) hsz3 (unhide H1) (unhide H2) h3 (unhide H4) (unhide H5) (by rw [unhide HTL]; exact unhide HCZ) hown2 hgrow (by rw [show (w2.alloc (.cells #[.slice a2 n1 c2] 23)).heap.size = w2.heap.size + 1 by simp]; exact hblk)
      rw [← unhide HTS] at SN
      have B6 : Below w.heap.size w w6 := B3.grown hgrow hsz3 (fun g e => (h3.lt g e).1)
      have HS6 := hide SN.1
      have HB6 := hide B6
      clear SN B6 hown2 hgrow hblk H1 H2 h3 H4 H5 HCZ HCS2 B3 ba o2 b2 HP HCS HB hd'
      go_wp2_with fail
      go_roundw
      case rel => exact ⟨k + 1, ⟨a6, t.n + 1, c6⟩, _, by omega, by go_num, rfl, unhide HS6, unhide HB6⟩
      case measure => simp [intOf]; omega
    · obtain rfl : k = len := by omega
      have et : zss.take k = zss := List.take_of_length_le (by rw [unhide HL]; exact Nat.le_refl _)
      rw [et] at hcs
      have HC := hide hcs
      have HB := hide hbr
      clear et hcs hbr
      go_wp2_with fail
      go_ret
      exact ⟨t, d, rfl, unhide HC, unhide HB⟩

end Go.Proofs.Ytihkhjbbfpnndaa

/- What is proved here: what the model's GenesisOf answers: a code, and the first header. -/
namespace Go.Proofs.Ytihkhjbbfpnndaa
open Go.RowKit
set_option linter.unusedVariables false
set_option linter.unusedSimpArgs false
set_option maxRecDepth 100000

set_option maxHeartbeats 8000000 in
theorem specGenesis_any (s t : Sl) (zss : List (List Int)) (z : List Int) (w : World) (o : RowOk bytesK w s zss) (q : BOk w t z) (hl : zss.length ≤ 1048576) (hz : ∀ y ∈ zss, y.length ≤ 1048576) :
    Calls Try.prog 5 #[.slice s.a s.n s.c, .slice t.a t.n t.c] w fun e w' => ∃ (y : HS), e = .returned (.agg (hrvals (gnCode zss z) y (gnH zss z))) ∧ HOk w' y (gnH zss z) ∧ Below w.heap.size w w' := by
  have kr := SBlk.new w #[.int .i64 0, .slice none 0 0, .int .i64 0, .int .i64 0, .int .i64 0, .slice none 0 0, .int .i64 0, .slice none 0 0, .slice none 0 0, .slice none 0 0, .slice none 0 0, .slice none 0 0] 28
  have bb := below_alloc w (.cells #[.int .i64 0, .slice none 0 0, .int .i64 0, .int .i64 0, .int .i64 0, .slice none 0 0, .int .i64 0, .slice none 0 0, .slice none 0 0, .slice none 0 0, .slice none 0 0, .slice none 0 0] 28)
  have zb : (w.alloc (.cells #[.int .i64 0, .slice none 0 0, .int .i64 0, .int .i64 0, .int .i64 0, .slice none 0 0, .int .i64 0, .slice none 0 0, .slice none 0 0, .slice none 0 0, .slice none 0 0, .slice none 0 0] 28)).heap.size = w.heap.size + 1 := by simp
  obtain ⟨W0, e0⟩ : ∃ W, w.alloc (.cells #[.int .i64 0, .slice none 0 0, .int .i64 0, .int .i64 0, .int .i64 0, .slice none 0 0, .int .i64 0, .slice none 0 0, .slice none 0 0, .slice none 0 0, .slice none 0 0, .slice none 0 0] 28) = W := ⟨_, rfl⟩
  rw [e0] at kr bb zb
  have o0 := RowOk.below o bb (Nat.le_refl _)
  have HF := hide (l7List_any s zss W0 o0 hl)
  have HQ := hide (fun (W : World) (hb : Below w.heap.size w W) => q.row.below hb (Nat.le_refl _))
  have HO := hide (fun (W : World) (hb : Below w.heap.size w W) => RowOk.below o hb (Nat.le_refl _))
  have HTN : Hid (t.n = z.length) := q.row.1.symm
  have HTC := hide q.nil
  have HSN : Hid (s.n = zss.length) := o.len
  have HKR := hide (fun (W : World) (hb : Below (w.heap.size + 1) W0 W) => kr.below hb (by omega))
  have HBB := hide bb
  have HC : Hid (gnCode zss z = if sgSome zss = 0 then (if z.length = 32 then 0 else 1) else sgSome zss) := rfl
  have HH : Hid (gnH zss z = if gnCode zss z = 0 then gnHd zss z else hd0) := rfl
  have HSM : Hid (gnCode zss z = 0 → HSm (gnHd zss z)) := fun h => gnHd_sm h
  have HPS : Hid (sgSome zss = 0 → 0 < zss.length) := fun h => (sgSome_pos h).1
  have r0 := kr.cell 0
  have r1 := kr.cell 1
  have r2 := kr.cell 2
  have r3 := kr.cell 3
  have r4 := kr.cell 4
  have r5 := kr.cell 5
  have r6 := kr.cell 6
  have r7 := kr.cell 7
  have r8 := kr.cell 8
  have r9 := kr.cell 9
  have r10 := kr.cell 10
  have r11 := kr.cell 11
  have f0 := kr.free 0
  have f1 := kr.free 1
  have f2 := kr.free 2
  have f3 := kr.free 3
  have f4 := kr.free 4
  have f5 := kr.free 5
  have f6 := kr.free 6
  have f7 := kr.free 7
  have f8 := kr.free 8
  have f9 := kr.free 9
  have f10 := kr.free 10
  have f11 := kr.free 11
  simp only [List.getElem?_cons_zero, List.getElem?_cons_succ] at r0 r1 r2 r3 r4 r5 r6 r7 r8 r9 r10 r11
  clear o o0 q hl kr bb
  have HQ0 : Hid (∀ x, x ≠ 0 → sgSome zss = x → gnCode zss z = x ∧ gnH zss z = hd0) := fun x hx h => by
    have e : gnCode zss z = x := by rw [unhide HC, h, if_neg hx]
    exact ⟨e, by rw [unhide HH, e, if_neg hx]⟩
  have HQ1 : Hid (sgSome zss = 0 → z.length ≠ 32 → gnCode zss z = 1 ∧ gnH zss z = hd0) := fun h h1 => by
    have e : gnCode zss z = 1 := by rw [unhide HC, h, if_pos rfl, if_neg h1]
    exact ⟨e, by rw [unhide HH, e, if_neg (by omega)]⟩
  have HQ2 : Hid (sgSome zss = 0 → z.length = 32 → gnCode zss z = 0 ∧ gnH zss z = gnHd zss z ∧ HSm (gnHd zss z) ∧ 0 < zss.length) := fun h h1 => by
    have e : gnCode zss z = 0 := by rw [unhide HC, h, if_pos rfl, if_pos h1]
    exact ⟨e, by rw [unhide HH, e, if_pos rfl], gnHd_sm e, (sgSome_pos h).1⟩
  clear HC HH HSM HPS
  generalize gnH zss z = AA at HQ0 HQ1 HQ2 ⊢
  generalize gnCode zss z = cc at HQ0 HQ1 HQ2 ⊢
  generalize sgSome zss = fl at HF HQ0 HQ1 HQ2 ⊢
  go_enter Try.func5, Try.ntmps5
  go_wp2_with (rw [e0])
  try rw [e0]
  clear e0
  refine (unhide HF).mono ?_
  rintro r w1 ⟨rfl, k1, rfl⟩
  by_cases n0 : fl = 0
  case neg =>
    have h0 : (fl != 0) = true := by simp [n0]
    obtain ⟨ecc, eaa⟩ := (unhide HQ0) fl n0 (by first | rfl | trivial)
    have HCC := hide ecc
    have HAV := hide eaa
    clear n0 HQ0 HQ1 HQ2 ecc eaa
    go_wp2_with fail
    refine bodyPost_ret (v := .agg (hrvals fl hs0 hd0)) (by simp [results, Try.results5, go_sem, r0, r1, r2, r3, r4, r5, r6, r7, r8, r9, r10, r11, hrvals, hs0, hd0]) rfl ⟨hs0, by rw [unhide HAV, unhide HCC], by rw [unhide HAV]; exact (ch0 _ 0 (fun _ => 0)).hok gnsm0, ?_⟩
    repeat (refine Below.setCell ?_ (by show w.heap.size ≤ w.heap.size; omega) _)
    exact below_drewN (unhide HBB) k1
  subst n0
  have h0 : ((0 : Int) != 0) = false := by simp
  by_cases n1 : t.n = 32
  case neg =>
    have h1 : ((((t.n : Nat) : Int) != 32)) = true := by simp; omega
    obtain ⟨ecc, eaa⟩ := (unhide HQ1) (by first | rfl | trivial) (by rw [← unhide HTN]; exact n1)
    have HCC := hide ecc
    have HAV := hide eaa
    clear n1 HQ0 HQ1 HQ2 ecc eaa
    go_wp2_with fail
    refine bodyPost_ret (v := .agg (hrvals 1 hs0 hd0)) (by simp [results, Try.results5, go_sem, r0, r1, r2, r3, r4, r5, r6, r7, r8, r9, r10, r11, hrvals, hs0, hd0]) rfl ⟨hs0, by rw [unhide HAV, unhide HCC], by rw [unhide HAV]; exact (ch0 _ 0 (fun _ => 0)).hok gnsm0, ?_⟩
    repeat (refine Below.setCell ?_ (by show w.heap.size ≤ w.heap.size; omega) _)
    exact below_drewN (unhide HBB) k1
  have h1 : ((((t.n : Nat) : Int) != 32)) = false := by rw [n1]; rfl
  obtain ⟨ecc, eaa, hsm, hpos⟩ := (unhide HQ2) (by first | rfl | trivial) (by rw [← unhide HTN]; exact n1)
  have HCC := hide ecc
  have HAV := hide eaa
  have HS2 := hide hsm
  have hsp : (0 : Int) < ((s.n : Nat) : Int) := by rw [unhide HSN]; omega
  have hsq : 0 < s.n := by rw [unhide HSN]; exact hpos
  clear HQ0 HQ1 HQ2 ecc eaa hsm r0 r1 r2 r3 r4 r5 r6 r7 r8 r9 r10 r11 f0 f1 f2 f3 f4 f5 f6 f7 f8 f9 f10 f11
  go_wp2_with fail
  have KD := below_drewN (Below.refl W0.heap.size W0) k1
  have HBD := hide ((unhide HBB).trans (KD.mono (unhide HBB).size))
  have HKR2 := hide (fun (W : World) (hb : Below (W0.drewN k1).heap.size (W0.drewN k1) W) => (unhide HKR) W ((KD.mono (by omega)).trans (hb.mono (by simp [zb]))))
  have hzd : (W0.drewN k1).heap.size = w.heap.size + 1 := by simp [zb]
  obtain ⟨w1, ew1⟩ : ∃ W, W0.drewN k1 = W := ⟨_, rfl⟩
  rw [ew1] at HBD HKR2 hzd ⊢
  have HZ1 := hide hzd
  clear ew1 KD hzd zb HKR
  obtain ⟨b, off, ha, hb8, hat⟩ := ((unhide HO) w (Below.refl _ _)).pos hsq
  obtain ⟨e8, hc8, ho8⟩ := hat 0 _ (gn_head hpos)
  have hcw : w.cell? ⟨b, off, none⟩ = some (.slice e8.a e8.n e8.c) := hc8 0 _ rfl
  have hc8' : w1.cell? ⟨b, off, none⟩ = some (.slice e8.a e8.n e8.c) := ((unhide HBD).cell (p := ⟨b, off, none⟩) hb8).trans hcw
  have HO8 := hide ho8
  clear hc8 ho8 hat
  have hmk : ∀ W : World, (Instr.makeSlice 23 (.int .i64 32) (.int .i64 32)).run Try.prog W = .ok (.slice (some ⟨W.heap.size, 0, none⟩) 32 32) (W.alloc (.cells (madeCells #[.int .u8 0] 32) 5)) := fun W => by kernel_rfl
  have HMO : Hid (∀ (W : World) (B : Nat), B ≤ W.heap.size → (W.alloc (.cells (madeCells #[.int .u8 0] 32) 5)).ownsRow B 5 1 (.slice (some ⟨W.heap.size, 0, none⟩) 32 32) 32 ((List.replicate 32 (0 : Int)).map (Value.int .u8))) := fun W B hB => by
    have e : (madeCells #[.int .u8 0] 32).toList = (List.replicate 32 (0 : Int)).map (Value.int .u8) := by kernel_rfl
    have q := World.ownsRow_lit (e := 5) (size := 1) W (madeCells #[.int .u8 0] 32) 32 hB (by unfold maxLen; decide) (by rw [size_madeCells])
    rw [e] at q
    exact q
  generalize madeCells #[.int .u8 0] 32 = ZZ at hmk HMO
  have HCK : Hid (∀ W, Below w.heap.size w W → W.cell? ⟨b, off, none⟩ = some (.slice e8.a e8.n e8.c)) := fun W hb => (hb.cell (p := ⟨b, off, none⟩) hb8).trans hcw
  have HL : Hid (∀ W, Below w1.heap.size w1 W → Calls Try.prog 18 #[.slice s.a s.n s.c] W fun e w' => ∃ (y : Sl) (d : Nat → Nat), e = .returned (.slice y.a y.n y.c) ∧ CS w' w1.heap.size d 5 7 y zss ∧ Below W.heap.size W w') := fun W hb => by
    have K := (unhide HBD).trans (hb.mono (unhide HBD).size)
    have r := (unhide HO) W K
    refine (l5Lists_any 5 7 (by intro i; omega) s.a s.n s.c zss W (bs_of_row r) (bsnil_of_row r) (by rw [unhide HSN]; exact (unhide HS2).s) (unhide HS2).sz).mono ?_
    rintro e w' ⟨y, d, rfl, cs, hb'⟩
    exact ⟨y, d, rfl, cs.base hb.size, hb'⟩
  have HR : Hid (∀ W, Below w1.heap.size w1 W → Calls Try.prog 19 #[.slice t.a t.n t.c] W fun e w' => ∃ a c, e = .returned (.slice a 32 c) ∧ CB w' w1.heap.size (fun _ => 0) 0 ⟨a, 32, c⟩ z ∧ Below W.heap.size W w') := fun W hb => by
    have K := (unhide HBD).trans (hb.mono (unhide HBD).size)
    have r := (unhide HQ) W K
    refine (copy_any t.a t.n t.c z W r (unhide HTC) (by omega)).mono ?_
    rintro e w' ⟨a, c, rfl, ow, hb'⟩
    rw [n1] at ow
    exact ⟨a, c, by rw [n1], ⟨by rw [← n1]; exact unhide HTN, r.2.1, ownsRow_base ow hb.size, fun _ _ => rfl⟩, hb'⟩
  have HG : Hid (∀ W, Below w1.heap.size w1 W → Calls Try.prog 19 #[.slice e8.a e8.n e8.c] W fun e w' => ∃ a c, e = .returned (.slice a e8.n c) ∧ CB w' w1.heap.size (fun _ => 0) 0 ⟨a, e8.n, c⟩ (zss.headD []) ∧ Below W.heap.size W w') := fun W hb => by
    have r := (unhide HO8).row.below ((unhide HBD).trans (hb.mono (unhide HBD).size)) (Nat.le_refl _)
    refine (copy_any e8.a e8.n e8.c _ W r (unhide HO8).nil (by have := r.1; have := (unhide HS2).g; have e : (gnHd zss z).g = zss.headD [] := rfl; rw [e] at this; omega)).mono ?_
    rintro e w' ⟨a, c, rfl, ow, hb'⟩
    exact ⟨a, c, rfl, ⟨r.1.symm, r.2.1, ownsRow_base ow hb.size, fun _ _ => rfl⟩, hb'⟩
  rw [ha] at HL
  rw [ha]
  rw [n1] at HR
  have HBL := HBD
  go_region_held3 (fun W => W.cell? ⟨b, off, none⟩ = some (.slice e8.a e8.n e8.c))
    (exact (unhide HCK) _ (by (repeat (with_reducible refine bSet ?_)); refine bStep (unhide HBL) ?_; (repeat (first | (with_reducible assumption) | (with_reducible exact Below.refl _ _) | (with_reducible refine Below.drew ?_) | (with_reducible refine below_drewN ?_ _) | (with_reducible refine bAlloc ?_ _)))))
    (first
      | (go_at_call 18; refine ((unhide HL) _ (by repeat (first | (with_reducible assumption) | (with_reducible exact Below.refl _ _) | (with_reducible refine Below.drew ?_) | (with_reducible refine below_drewN ?_ _) | (with_reducible refine bAlloc ?_ _)))).mono ?_; rintro e wL ⟨yL, dL, rfl, rL, bL⟩; have KL : Below w1.heap.size w1 wL := bStep (by repeat (first | (with_reducible assumption) | (with_reducible exact Below.refl _ _) | (with_reducible refine Below.drew ?_) | (with_reducible refine below_drewN ?_ _) | (with_reducible refine bAlloc ?_ _))) bL)
      | (go_at_call_of 19 t.c; refine ((unhide HR) _ (by repeat (first | (with_reducible assumption) | (with_reducible exact Below.refl _ _) | (with_reducible refine Below.drew ?_) | (with_reducible refine below_drewN ?_ _) | (with_reducible refine bAlloc ?_ _)))).mono ?_; rintro e wR ⟨aR, cR, rfl, rR, bR⟩; have BLR : Below wL.heap.size wL wR := bStep (by repeat (first | exact Below.refl _ _ | (with_reducible refine Below.drew ?_) | (with_reducible refine below_drewN ?_ _) | (with_reducible refine bAlloc ?_ _))) bR; have KR : Below w1.heap.size w1 wR := bStep (by repeat (first | (with_reducible assumption) | (with_reducible exact Below.refl _ _) | (with_reducible refine Below.drew ?_) | (with_reducible refine below_drewN ?_ _) | (with_reducible refine bAlloc ?_ _))) bR)
      | (go_at_call_of 19 e8.c; refine ((unhide HG) _ (by repeat (first | (with_reducible assumption) | (with_reducible exact Below.refl _ _) | (with_reducible refine Below.drew ?_) | (with_reducible refine below_drewN ?_ _) | (with_reducible refine bAlloc ?_ _)))).mono ?_; rintro e wG ⟨aG, cG, rfl, rG, bG⟩; have BRG : Below wR.heap.size wR wG := bStep (by repeat (first | exact Below.refl _ _ | (with_reducible refine Below.drew ?_) | (with_reducible refine below_drewN ?_ _) | (with_reducible refine bAlloc ?_ _))) bG; have KG : Below w1.heap.size w1 wG := bStep (by repeat (first | (with_reducible assumption) | (with_reducible exact Below.refl _ _) | (with_reducible refine Below.drew ?_) | (with_reducible refine below_drewN ?_ _) | (with_reducible refine bAlloc ?_ _))) bG; have kg := (unhide HKR2) wG KG; have r0 := kg.cell 0; have f0 := kg.free 0; have q0 := fun o => (kg.next o).cell 0; have p0 := fun o => (kg.next o).free 0; have r1 := kg.cell 1; have f1 := kg.free 1; have q1 := fun o => (kg.next o).cell 1; have p1 := fun o => (kg.next o).free 1; have r2 := kg.cell 2; have f2 := kg.free 2; have q2 := fun o => (kg.next o).cell 2; have p2 := fun o => (kg.next o).free 2; have r3 := kg.cell 3; have f3 := kg.free 3; have q3 := fun o => (kg.next o).cell 3; have p3 := fun o => (kg.next o).free 3; have r4 := kg.cell 4; have f4 := kg.free 4; have q4 := fun o => (kg.next o).cell 4; have p4 := fun o => (kg.next o).free 4; have r5 := kg.cell 5; have f5 := kg.free 5; have q5 := fun o => (kg.next o).cell 5; have p5 := fun o => (kg.next o).free 5; have r6 := kg.cell 6; have f6 := kg.free 6; have q6 := fun o => (kg.next o).cell 6; have p6 := fun o => (kg.next o).free 6; have r7 := kg.cell 7; have f7 := kg.free 7; have q7 := fun o => (kg.next o).cell 7; have p7 := fun o => (kg.next o).free 7; have r8 := kg.cell 8; have f8 := kg.free 8; have q8 := fun o => (kg.next o).cell 8; have p8 := fun o => (kg.next o).free 8; have r9 := kg.cell 9; have f9 := kg.free 9; have q9 := fun o => (kg.next o).cell 9; have p9 := fun o => (kg.next o).free 9; have r10 := kg.cell 10; have f10 := kg.free 10; have q10 := fun o => (kg.next o).cell 10; have p10 := fun o => (kg.next o).free 10; have r11 := kg.cell 11; have f11 := kg.free 11; have q11 := fun o => (kg.next o).cell 11; have p11 := fun o => (kg.next o).free 11; simp only [List.getElem?_cons_zero, List.getElem?_cons_succ] at r0 q0 r1 q1 r2 q2 r3 q3 r4 q4 r5 q5 r6 q6 r7 q7 r8 q8 r9 q9 r10 q10 r11 q11; clear kg))
  all_goals
    first
      | (
        have kp : Below (w1.alloc (.cells ZZ 5)).heap.size (w1.alloc (.cells ZZ 5)) (wG) := bStep (bStep (bStep ((Below.refl _ _).drew) bL) bR) bG
        have cp : CB (wG) w1.heap.size (fun _ => 0) 0 ⟨some ⟨w1.heap.size, 0, none⟩, 32, 32⟩ (List.replicate 32 0) := ⟨rfl, fun y hy => by rw [List.eq_of_mem_replicate hy]; omega, own_below ((unhide HMO) w1 w1.heap.size (Below.size (show Below w1.heap.size w1 w1 from Below.refl _ _))) kp (Nat.le_refl _), fun _ _ => rfl⟩
        have cl := rL.below (bStep (bStep BLR BRG) (Below.refl _ _)) (Nat.le_refl _)
        have cr := rR.below (bStep BRG (Below.refl _ _)) (Nat.le_refl _)
        have cg := rG.below (Below.refl wG.heap.size wG) (Nat.le_refl _)
        have kF : Below w1.heap.size w1 (wG) := bStep KG (Below.refl _ _)
        have HCP := hide cp
        have HCL := hide cl
        have HCR := hide cr
        have HCG := hide cg
        have HKF := hide kF
        clear kp cp cl cr cg kF
        go_wp2_with fail
        refine bodyPost_ret (v := .agg (hrvals 0 ⟨⟨some ⟨w1.heap.size, 0, none⟩, 32, 32⟩, ⟨none, 0, 0⟩, yL, ⟨aR, 32, cR⟩, ⟨aG, e8.n, cG⟩, ⟨none, 0, 0⟩, ⟨none, 0, 0⟩⟩ (gnHd zss z))) (by simp [results, Try.results5, go_sem, r0, q0, r1, q1, r2, q2, r3, q3, r4, q4, r5, q5, r6, q6, r7, q7, r8, q8, r9, q9, r10, q10, r11, q11, hrvals, gnHd]) rfl ⟨⟨⟨some ⟨w1.heap.size, 0, none⟩, 32, 32⟩, ⟨none, 0, 0⟩, yL, ⟨aR, 32, cR⟩, ⟨aG, e8.n, cG⟩, ⟨none, 0, 0⟩, ⟨none, 0, 0⟩⟩, by rw [unhide HAV, unhide HCC], ?_, ?_⟩
        · rw [unhide HAV]
          refine ⟨?_, ⟨rfl, fun n hn => by simp [gnHd] at hn, fun _ => rfl, fun y hy => by cases hy⟩, ?_, ?_, ?_, ⟨rfl, fun n hn => by simp [gnHd] at hn, fun _ => rfl, fun y hy => by cases hy⟩, ⟨rfl, fun z hz => by simp [gnHd] at hz, fun h => by simp at h⟩⟩
          · refine CB.brow (B := w1.heap.size) (d := fun _ => 0) (j := 0) (s := ⟨some ⟨w1.heap.size, 0, none⟩, 32, 32⟩) ?_
            repeat (refine CB.set ?_ (by show w.heap.size < w1.heap.size; rw [unhide HZ1]; omega))
            exact unhide HCP
          · refine CS.nrowM (B := w1.heap.size) (d := dL) (r := 5) (c := 7) (s := yL) ?_ (by intro i; omega)
            repeat (refine CS.set ?_ (by show w.heap.size < w1.heap.size; rw [unhide HZ1]; omega))
            exact unhide HCL
          · refine CB.brow (B := w1.heap.size) (d := fun _ => 0) (j := 0) (s := ⟨aR, 32, cR⟩) ?_
            repeat (refine CB.set ?_ (by show w.heap.size < w1.heap.size; rw [unhide HZ1]; omega))
            exact unhide HCR
          · refine CB.brow (B := w1.heap.size) (d := fun _ => 0) (j := 0) (s := ⟨aG, e8.n, cG⟩) ?_
            repeat (refine CB.set ?_ (by show w.heap.size < w1.heap.size; rw [unhide HZ1]; omega))
            exact unhide HCG
        · repeat (refine Below.setCell ?_ (by show w.heap.size ≤ w.heap.size; omega) _)
          exact (unhide HBD).trans ((unhide HKF).mono (unhide HBD).size))
      | (
        have kp : Below (wL.alloc (.cells ZZ 5)).heap.size (wL.alloc (.cells ZZ 5)) (wG) := bStep bR bG
        have cp : CB (wG) w1.heap.size (fun _ => 0) 0 ⟨some ⟨wL.heap.size, 0, none⟩, 32, 32⟩ (List.replicate 32 0) := ⟨rfl, fun y hy => by rw [List.eq_of_mem_replicate hy]; omega, own_below ((unhide HMO) wL w1.heap.size (Below.size (show Below w1.heap.size w1 wL from KL))) kp (Nat.le_refl _), fun _ _ => rfl⟩
        have cl := rL.below (bStep (bStep BLR BRG) (Below.refl _ _)) (Nat.le_refl _)
        have cr := rR.below (bStep BRG (Below.refl _ _)) (Nat.le_refl _)
        have cg := rG.below (Below.refl wG.heap.size wG) (Nat.le_refl _)
        have kF : Below w1.heap.size w1 (wG) := bStep KG (Below.refl _ _)
        have HCP := hide cp
        have HCL := hide cl
        have HCR := hide cr
        have HCG := hide cg
        have HKF := hide kF
        clear kp cp cl cr cg kF
        go_wp2_with fail
        refine bodyPost_ret (v := .agg (hrvals 0 ⟨⟨some ⟨wL.heap.size, 0, none⟩, 32, 32⟩, ⟨none, 0, 0⟩, yL, ⟨aR, 32, cR⟩, ⟨aG, e8.n, cG⟩, ⟨none, 0, 0⟩, ⟨none, 0, 0⟩⟩ (gnHd zss z))) (by simp [results, Try.results5, go_sem, r0, q0, r1, q1, r2, q2, r3, q3, r4, q4, r5, q5, r6, q6, r7, q7, r8, q8, r9, q9, r10, q10, r11, q11, hrvals, gnHd]) rfl ⟨⟨⟨some ⟨wL.heap.size, 0, none⟩, 32, 32⟩, ⟨none, 0, 0⟩, yL, ⟨aR, 32, cR⟩, ⟨aG, e8.n, cG⟩, ⟨none, 0, 0⟩, ⟨none, 0, 0⟩⟩, by rw [unhide HAV, unhide HCC], ?_, ?_⟩
        · rw [unhide HAV]
          refine ⟨?_, ⟨rfl, fun n hn => by simp [gnHd] at hn, fun _ => rfl, fun y hy => by cases hy⟩, ?_, ?_, ?_, ⟨rfl, fun n hn => by simp [gnHd] at hn, fun _ => rfl, fun y hy => by cases hy⟩, ⟨rfl, fun z hz => by simp [gnHd] at hz, fun h => by simp at h⟩⟩
          · refine CB.brow (B := w1.heap.size) (d := fun _ => 0) (j := 0) (s := ⟨some ⟨wL.heap.size, 0, none⟩, 32, 32⟩) ?_
            repeat (refine CB.set ?_ (by show w.heap.size < w1.heap.size; rw [unhide HZ1]; omega))
            exact unhide HCP
          · refine CS.nrowM (B := w1.heap.size) (d := dL) (r := 5) (c := 7) (s := yL) ?_ (by intro i; omega)
            repeat (refine CS.set ?_ (by show w.heap.size < w1.heap.size; rw [unhide HZ1]; omega))
            exact unhide HCL
          · refine CB.brow (B := w1.heap.size) (d := fun _ => 0) (j := 0) (s := ⟨aR, 32, cR⟩) ?_
            repeat (refine CB.set ?_ (by show w.heap.size < w1.heap.size; rw [unhide HZ1]; omega))
            exact unhide HCR
          · refine CB.brow (B := w1.heap.size) (d := fun _ => 0) (j := 0) (s := ⟨aG, e8.n, cG⟩) ?_
            repeat (refine CB.set ?_ (by show w.heap.size < w1.heap.size; rw [unhide HZ1]; omega))
            exact unhide HCG
        · repeat (refine Below.setCell ?_ (by show w.heap.size ≤ w.heap.size; omega) _)
          exact (unhide HBD).trans ((unhide HKF).mono (unhide HBD).size))
      | (
        have kp : Below (wR.alloc (.cells ZZ 5)).heap.size (wR.alloc (.cells ZZ 5)) (wG) := bG
        have cp : CB (wG) w1.heap.size (fun _ => 0) 0 ⟨some ⟨wR.heap.size, 0, none⟩, 32, 32⟩ (List.replicate 32 0) := ⟨rfl, fun y hy => by rw [List.eq_of_mem_replicate hy]; omega, own_below ((unhide HMO) wR w1.heap.size (Below.size (show Below w1.heap.size w1 wR from KR))) kp (Nat.le_refl _), fun _ _ => rfl⟩
        have cl := rL.below (bStep (bStep BLR BRG) (Below.refl _ _)) (Nat.le_refl _)
        have cr := rR.below (bStep BRG (Below.refl _ _)) (Nat.le_refl _)
        have cg := rG.below (Below.refl wG.heap.size wG) (Nat.le_refl _)
        have kF : Below w1.heap.size w1 (wG) := bStep KG (Below.refl _ _)
        have HCP := hide cp
        have HCL := hide cl
        have HCR := hide cr
        have HCG := hide cg
        have HKF := hide kF
        clear kp cp cl cr cg kF
        go_wp2_with fail
        refine bodyPost_ret (v := .agg (hrvals 0 ⟨⟨some ⟨wR.heap.size, 0, none⟩, 32, 32⟩, ⟨none, 0, 0⟩, yL, ⟨aR, 32, cR⟩, ⟨aG, e8.n, cG⟩, ⟨none, 0, 0⟩, ⟨none, 0, 0⟩⟩ (gnHd zss z))) (by simp [results, Try.results5, go_sem, r0, q0, r1, q1, r2, q2, r3, q3, r4, q4, r5, q5, r6, q6, r7, q7, r8, q8, r9, q9, r10, q10, r11, q11, hrvals, gnHd]) rfl ⟨⟨⟨some ⟨wR.heap.size, 0, none⟩, 32, 32⟩, ⟨none, 0, 0⟩, yL, ⟨aR, 32, cR⟩, ⟨aG, e8.n, cG⟩, ⟨none, 0, 0⟩, ⟨none, 0, 0⟩⟩, by rw [unhide HAV, unhide HCC], ?_, ?_⟩
        · rw [unhide HAV]
          refine ⟨?_, ⟨rfl, fun n hn => by simp [gnHd] at hn, fun _ => rfl, fun y hy => by cases hy⟩, ?_, ?_, ?_, ⟨rfl, fun n hn => by simp [gnHd] at hn, fun _ => rfl, fun y hy => by cases hy⟩, ⟨rfl, fun z hz => by simp [gnHd] at hz, fun h => by simp at h⟩⟩
          · refine CB.brow (B := w1.heap.size) (d := fun _ => 0) (j := 0) (s := ⟨some ⟨wR.heap.size, 0, none⟩, 32, 32⟩) ?_
            repeat (refine CB.set ?_ (by show w.heap.size < w1.heap.size; rw [unhide HZ1]; omega))
            exact unhide HCP
          · refine CS.nrowM (B := w1.heap.size) (d := dL) (r := 5) (c := 7) (s := yL) ?_ (by intro i; omega)
            repeat (refine CS.set ?_ (by show w.heap.size < w1.heap.size; rw [unhide HZ1]; omega))
            exact unhide HCL
          · refine CB.brow (B := w1.heap.size) (d := fun _ => 0) (j := 0) (s := ⟨aR, 32, cR⟩) ?_
            repeat (refine CB.set ?_ (by show w.heap.size < w1.heap.size; rw [unhide HZ1]; omega))
            exact unhide HCR
          · refine CB.brow (B := w1.heap.size) (d := fun _ => 0) (j := 0) (s := ⟨aG, e8.n, cG⟩) ?_
            repeat (refine CB.set ?_ (by show w.heap.size < w1.heap.size; rw [unhide HZ1]; omega))
            exact unhide HCG
        · repeat (refine Below.setCell ?_ (by show w.heap.size ≤ w.heap.size; omega) _)
          exact (unhide HBD).trans ((unhide HKF).mono (unhide HBD).size))
      | (
        have kp : Below (wG.alloc (.cells ZZ 5)).heap.size (wG.alloc (.cells ZZ 5)) (wG.alloc (.cells ZZ 5)) := Below.refl _ _
        have cp : CB (wG.alloc (.cells ZZ 5)) w1.heap.size (fun _ => 0) 0 ⟨some ⟨wG.heap.size, 0, none⟩, 32, 32⟩ (List.replicate 32 0) := ⟨rfl, fun y hy => by rw [List.eq_of_mem_replicate hy]; omega, own_below ((unhide HMO) wG w1.heap.size (Below.size (show Below w1.heap.size w1 wG from KG))) kp (Nat.le_refl _), fun _ _ => rfl⟩
        have cl := rL.below (bStep (bStep BLR BRG) (bAlloc (Below.refl _ _) (.cells ZZ 5))) (Nat.le_refl _)
        have cr := rR.below (bStep BRG (bAlloc (Below.refl _ _) (.cells ZZ 5))) (Nat.le_refl _)
        have cg := rG.below (bAlloc (Below.refl _ _) (.cells ZZ 5)) (Nat.le_refl _)
        have kF : Below w1.heap.size w1 (wG.alloc (.cells ZZ 5)) := bStep KG (bAlloc (Below.refl _ _) (.cells ZZ 5))
        have HCP := hide cp
        have HCL := hide cl
        have HCR := hide cr
        have HCG := hide cg
        have HKF := hide kF
        clear kp cp cl cr cg kF
        go_wp2_with fail
        refine bodyPost_ret (v := .agg (hrvals 0 ⟨⟨some ⟨wG.heap.size, 0, none⟩, 32, 32⟩, ⟨none, 0, 0⟩, yL, ⟨aR, 32, cR⟩, ⟨aG, e8.n, cG⟩, ⟨none, 0, 0⟩, ⟨none, 0, 0⟩⟩ (gnHd zss z))) (by simp [results, Try.results5, go_sem, r0, q0, r1, q1, r2, q2, r3, q3, r4, q4, r5, q5, r6, q6, r7, q7, r8, q8, r9, q9, r10, q10, r11, q11, hrvals, gnHd]) rfl ⟨⟨⟨some ⟨wG.heap.size, 0, none⟩, 32, 32⟩, ⟨none, 0, 0⟩, yL, ⟨aR, 32, cR⟩, ⟨aG, e8.n, cG⟩, ⟨none, 0, 0⟩, ⟨none, 0, 0⟩⟩, by rw [unhide HAV, unhide HCC], ?_, ?_⟩
        · rw [unhide HAV]
          refine ⟨?_, ⟨rfl, fun n hn => by simp [gnHd] at hn, fun _ => rfl, fun y hy => by cases hy⟩, ?_, ?_, ?_, ⟨rfl, fun n hn => by simp [gnHd] at hn, fun _ => rfl, fun y hy => by cases hy⟩, ⟨rfl, fun z hz => by simp [gnHd] at hz, fun h => by simp at h⟩⟩
          · refine CB.brow (B := w1.heap.size) (d := fun _ => 0) (j := 0) (s := ⟨some ⟨wG.heap.size, 0, none⟩, 32, 32⟩) ?_
            repeat (refine CB.set ?_ (by show w.heap.size < w1.heap.size; rw [unhide HZ1]; omega))
            exact unhide HCP
          · refine CS.nrowM (B := w1.heap.size) (d := dL) (r := 5) (c := 7) (s := yL) ?_ (by intro i; omega)
            repeat (refine CS.set ?_ (by show w.heap.size < w1.heap.size; rw [unhide HZ1]; omega))
            exact unhide HCL
          · refine CB.brow (B := w1.heap.size) (d := fun _ => 0) (j := 0) (s := ⟨aR, 32, cR⟩) ?_
            repeat (refine CB.set ?_ (by show w.heap.size < w1.heap.size; rw [unhide HZ1]; omega))
            exact unhide HCR
          · refine CB.brow (B := w1.heap.size) (d := fun _ => 0) (j := 0) (s := ⟨aG, e8.n, cG⟩) ?_
            repeat (refine CB.set ?_ (by show w.heap.size < w1.heap.size; rw [unhide HZ1]; omega))
            exact unhide HCG
        · repeat (refine Below.setCell ?_ (by show w.heap.size ≤ w.heap.size; omega) _)
          exact (unhide HBD).trans ((unhide HKF).mono (unhide HBD).size))

end Go.Proofs.Ytihkhjbbfpnndaa
