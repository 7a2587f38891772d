/- What is proved here: what the program's passedBy answers: the snapshot behind a header whose vote is not cast yet. -/
import Derived.Test.YtdmcmlcmgbbclaaGreatK0
import Derived.Test.YtdmcmlcmgbbclaaGreatJ27
import Derived.Test.YtdmcmlcmgbbclaaGreatJ16
import Derived.Test.YtdmcmlcmgbbclaaGreatJ24
import Derived.Test.YtdmcmlcmgbbclaaGreatJ3
import Derived.Test.YtdmcmlcmgbbclaaGreatJ19
namespace Go.Proofs.YtdmcmlcmgbbclaaGreat
set_option linter.unusedVariables false
set_option linter.unusedSimpArgs false
open Go.RowKit Go.ChangeMaps Go.MapKept
set_option maxRecDepth 100000

set_option maxHeartbeats 8000000 in
theorem passed_yes (p : Path) (c : Cf) (e : SnS) (x : Sn) (hx : HS) (h : Hd) (w : World) (o : SNK.Ok w e x) (m : SnSm x) (og : BOk w hx.g h.g) (h0 : snFlt x = 0) (hg1 : h.g.length ≤ 1048576) (hn : 0 ≤ h.n1 ∧ h.n1 ≤ 1099511627776) (hck : cfCk c h.n1 = true) :
    Calls Tryz.prog 37 #[.agg (cfvals c), .agg (snvals e x), .agg (hvals hx h)] w fun r w' => ∃ e' : SnS, r = .returned (.agg (snvals e' (h.n1, x.2.1, apRc x h.n1 h.g, []))) ∧ (∃ d, SNK.Own w' w.heap.size d p e' (h.n1, x.2.1, apRc x h.n1 h.g, [])) ∧ Below w.heap.size w w' := by
 obtain ⟨q1, q2, q3, q4, q5, q6, q7, q8⟩ := sn_iff.1 h0
 have hs7 : e.2.1.n ≤ 7 := by have := o.2.1.len; have := q3.1; omega
 have hbd : h.n1 - ((e.2.1.n / 2 : Nat) : Int) - 1 = apBound x h.n1 := by unfold apBound; rw [o.2.1.len]
 have hrc : apRc x h.n1 h.g = x.2.2.1.drop (oldN (apBound x h.n1) x.2.2.1) ++ [(h.n1, h.g)] := by unfold apRc; rw [oldN_drop _ _ q6.2]
 have hiff := oldN_iff (apBound x h.n1) x.2.2.1 q6.2
 have hole := oldN_le (apBound x h.n1) x.2.2.1
 rw [hrc]
 clear hrc
 generalize oldN (apBound x h.n1) x.2.2.1 = k at hiff hole ⊢
 generalize apBound x h.n1 = bd at hbd hiff ⊢
 obtain ⟨W0, e0, b0, hz, kc, kx, kh, kr⟩ := entry4 c e x hx h w
 have HO := hide (fun (W : World) (hb : Below W0.heap.size W0 W) => SNK.below o (b0.trans (hb.mono b0.size)) (Nat.le_refl _))
 have HOG := hide (fun (W : World) (hb : Below W0.heap.size W0 W) => bytesK.below og (b0.trans (hb.mono b0.size)) (Nat.le_refl _))
 have HPL := hide (fun (W : World) (hb : Below W0.heap.size W0 W) => pollV_any e.2.2.2 x.2.2.2 W ((unhide HO) W hb).2.2.2 q5 (fun v hv => ⟨(q7 v hv).1, (q7 v hv).2.1⟩) q8)
 have HCK := hide (fun (W : World) => implCheckpoint_any c h.n1 W)
 rw [hck] at HCK
 have HRB := hide (fun (W : World) => recentBound_any e.2.1 h.n1 W hs7 hn)
 rw [hbd] at HRB
 have HQ := hide (And.intro q4 q5)
 have HIFF := hide hiff
 have HLE := hide hole
 have HM := hide m
 have HN := hide hn
 have c0 := kc.cell 0
 have c1 := kc.cell 1
 have c2 := kc.cell 2
 simp only [cfvals, List.getElem?_cons_zero, List.getElem?_cons_succ] at c0 c1 c2
 have x0 := kx.cell 0
 have x1 := kx.cell 1
 have x2 := kx.cell 2
 have x3 := kx.cell 3
 simp only [snvals, List.getElem?_cons_zero, List.getElem?_cons_succ] at x0 x1 x2 x3
 have y1 : W0.cell? ⟨w.heap.size + 2, 1, none⟩ = some (.int .i64 h.n1) := kh.cell 1
 have y8 : W0.cell? ⟨w.heap.size + 2, 8, none⟩ = some (.slice hx.g.a hx.g.n hx.g.c) := kh.cell 8
 have HKC := hide kc
 have HKX := hide kx
 have HKH := hide kh
 have HKR := hide kr
 have HB := hide b0
 have E0 := hide e0
 unfold cfvals at HCK
 clear o og m h0 q1 q2 q3 q4 q5 q6 q7 q8 hbd hck hiff hole kc kx kh kr b0 e0 hs7 hn
 go_enter Tryz.func37, Tryz.ntmps37
 go_upto_region 1 with fail
 rw [unhide E0]
 clear E0
 go_wp2_with fail
 refine ((unhide HPL) W0 (Below.refl _ _)).mono ?_
 rintro r1 w1 ⟨rfl, hp1, b1⟩
 obtain ⟨g, hg⟩ : ∃ g, W0.heap.size = g := ⟨_, rfl⟩
 have hgW0 : W0.heap.size ≤ g := Nat.le_of_eq hg
 rw [hg] at hp1 ⊢
 have HB1 := hide b1
 have c0 := ((unhide HKC).below b1 (unhide HKC).lt).cell 0
 have c1 := ((unhide HKC).below b1 (unhide HKC).lt).cell 1
 have c2 := ((unhide HKC).below b1 (unhide HKC).lt).cell 2
 simp only [cfvals, Array.toList, List.getElem?_cons_zero, List.getElem?_cons_succ] at c0 c1 c2
 have y1 : w1.cell? ⟨w.heap.size + 2, 1, none⟩ = some (.int .i64 h.n1) := ((unhide HKH).below b1 (unhide HKH).lt).cell 1
 have HP1 := hide hp1
 clear hp1 b1 hg x0 x1 x2 x3
 go_wp2_with fail
 refine ((unhide HCK) w1).mono ?_
 rintro r2 w2 ⟨rfl, b2⟩
 have HB2 := hide ((unhide HB1).trans (b2.mono (unhide HB1).size))
 have HP2 := hide ((unhide HP1).below b2 (Nat.le_refl _))
 clear b2 c0 c1 c2 y1
 obtain ⟨w3, hcl, hp3, g3⟩ := (unhide HP2).clear
 have HB3 := hide ((unhide HB2).grown g3 (unhide HB2).size (fun b e => by have := Option.some.inj e; omega))
 have HP3 := hide hp3
 clear hp3 g3
 have hm3 := (unhide HO) w3 (unhide HB3)
 have kx3 := (unhide HKX).below (unhide HB3) (unhide HKX).lt
 have x0 := kx3.cell 0
 have x1 := kx3.cell 1
 have x2 := kx3.cell 2
 have x3 := kx3.cell 3
 simp only [snvals, Array.toList, List.getElem?_cons_zero, List.getElem?_cons_succ] at x0 x1 x2 x3
 have hWV := withVotesG_any p e x g _ _ w3 hm3 (unhide HM) (unhide HP3) List.Pairwise.nil (by simp)
 rw [show ([] : Pv).map Prod.snd = ([] : List Vt) from rfl] at hWV
 have HWV := hide hWV
 unfold snvals at HWV
 clear hWV hm3 kx3
 go_wp2_with fail
 refine (unhide HWV).mono ?_
 rintro r4 w4 ⟨e4, rfl, V4, b4⟩
 obtain ⟨d4, es4, V4, _, G4⟩ := V4
 obtain ⟨⟨⟩, s1, s2, s3⟩ := e4
 simp only at V4 G4
 have B4 := (unhide HB3).trans (b4.mono (unhide HB3).size)
 have kp := SBlk.new w4 #[.int .i64 x.1, .slice s1.a s1.n s1.c, .slice s2.a s2.n s2.c, .slice s3.a s3.n s3.c] 37
 have bp := below_alloc w4 (.cells #[.int .i64 x.1, .slice s1.a s1.n s1.c, .slice s2.a s2.n s2.c, .slice s3.a s3.n s3.c] 37)
 obtain ⟨W5, e5⟩ : ∃ W, w4.alloc (.cells #[.int .i64 x.1, .slice s1.a s1.n s1.c, .slice s2.a s2.n s2.c, .slice s3.a s3.n s3.c] 37) = W := ⟨_, rfl⟩
 rw [e5] at kp bp
 have E5 := hide e5
 obtain ⟨gp, hgp⟩ : ∃ g, g = w4.heap.size := ⟨_, rfl⟩
 rw [← hgp] at kp
 have s34 := (unhide HB3).size
 have s4 := b4.size
 have B5 := B4.trans (bp.mono B4.size)
 have hgp0 : W0.heap.size ≤ gp := by rw [hgp]; exact B4.size
 have B6 : Below W0.heap.size W0 (W5.setCell ⟨gp, 0, none⟩ (.int .i64 h.n1)) := B5.setCell (p := ⟨gp, 0, none⟩) hgp0 _
 have k6 := kp.set 0 (.int .i64 h.n1)
 simp only [Array.toList, List.set_cons_zero, List.set_cons_succ] at k6
 obtain ⟨⟨z0, z1, z2, z3⟩, f0, f1, f2, f3⟩ := four_blk kp
 have y1 : W5.cell? ⟨w.heap.size + 2, 1, none⟩ = some (.int .i64 h.n1) := ((unhide HKH).below B5 (unhide HKH).lt).cell 1
 obtain ⟨W6, e6⟩ : ∃ W, W5.setCell ⟨gp, 0, none⟩ (.int .i64 h.n1) = W := ⟨_, rfl⟩
 rw [e6] at B6 k6
 have E6 := hide e6
 have HGP := hide hgp
 have HV4 := hide (And.intro V4 (And.intro G4 (And.intro b4 (e6 ▸ bp.setCell (p := ⟨gp, 0, none⟩) (Nat.le_of_eq hgp.symm) (.int .i64 h.n1) : Below w4.heap.size w4 W6))))
 have HB6 := hide B6
 have HK6 := hide k6
 clear V4 G4 b4 bp B4 B5 B6 k6 e5 e6 x0 x1 x2 x3
 go_upto_region 5 with (rw [unhide E5])
 try rw [unhide E5]
 rw [← unhide HGP]
 clear E5 hgp
 go_upto_region 6 with (rw [unhide E6])
 try rw [unhide E6]
 clear E6 z0 z1 z2 z3 f0 f1 f2 f3 y1 kp
 have x1 := ((unhide HKX).below (unhide HB6) (unhide HKX).lt).cell 1
 simp only [snvals, Array.toList, List.getElem?_cons_zero, List.getElem?_cons_succ] at x1
 have y1 : W6.cell? ⟨w.heap.size + 2, 1, none⟩ = some (.int .i64 h.n1) := ((unhide HKH).below (unhide HB6) (unhide HKH).lt).cell 1
 go_wp2_with fail
 refine ((unhide HRB) _).mono ?_
 rintro r7 w7 ⟨rfl, rfl⟩
 obtain ⟨V4, G4, b4, b47⟩ := unhide HV4
 obtain ⟨d5, hd5⟩ : ∃ d5 : Nat → Path, d5 = fun q => if q < w4.heap.size then d4 q else [] := ⟨_, rfl⟩
 have hdl : ∀ q, q < w4.heap.size → d5 q = d4 q := fun q hq => by rw [hd5]; exact if_pos hq
 have hdg : ∀ q, w4.heap.size ≤ q → d5 q = [] := fun q hq => by rw [hd5]; exact if_neg (by omega)
 have bx8 := below_alloc w7 (.cells #[.int .i64 bd] 2)
 have kb := SBlk.new w7 #[.int .i64 bd] 2
 obtain ⟨W8, e8⟩ : ∃ W, w7.alloc (.cells #[.int .i64 bd] 2) = W := ⟨_, rfl⟩
 rw [e8] at bx8 kb
 have E8 := hide e8
 obtain ⟨bx, hbx⟩ : ∃ b, b = w7.heap.size := ⟨_, rfl⟩
 rw [← hbx] at kb
 have HBX := hide hbx
 have b48 := b47.trans (bx8.mono b47.size)
 have V8 : SNK.Own W8 w3.heap.size d5 p ((), s1, s2, s3) (x.1, x.2.1, x.2.2.1, []) := SNK.ownBelow (SNK.recolNew V4 hdl) b48 (Nat.le_refl _)
 have G8 := (G4.recolB (fun q hq _ => hdl q hq)).below b48 (Nat.le_refl _)
 have hob : ∀ q, (Value.slice s2.a s2.n s2.c).ownBlock = some q → w3.heap.size ≤ q ∧ q < w4.heap.size := fun q hq => by
  cases ha : s2.a with
  | none => rw [ha] at hq; cases hq
  | some y => rw [ha] at hq; obtain rfl := Option.some.inj hq; exact G4.blk ha
 have HD8 := hide (delG_any w3.heap.size d5 (p ++ [1] ++ [1] ++ [0]) s2 x.2.2.1 bd bx k W8 G8 (kb.cell 0) (fun y hy e => by have h1 := (G4.blk hy).2; have h2 := b47.size; omega) (unhide HIFF) (unhide HLE) (by have := (unhide HQ).1; omega))
 have k8 := (unhide HK6).below bx8 (unhide HK6).lt
 have B8 := (unhide HB6).trans (bx8.mono (unhide HB6).size)
 have HOB := hide hob
 have HV8 := hide (And.intro V8 (And.intro G8 (And.intro hdl (And.intro hdg (And.intro b4 (And.intro b47 (And.intro b48 B8)))))))
 have HK8 := hide k8
 obtain ⟨⟨z0, z1, z2, z3⟩, f0, f1, f2, f3⟩ := four_blk k8
 clear HV4 V4 G4 b4 b47 hd5 hdl hdg bx8 kb e8 b48 V8 G8 hob k8 B8 x1 y1
 go_upto_region 7 with (rw [unhide E8])
 try rw [unhide E8]
 rw [← unhide HBX]
 clear E8 hbx
 go_wp2_with fail
 refine (unhide HD8).mono ?_
 rintro r9 w9 ⟨s', f, rfl, G9, hf, gr9⟩
 have hob := unhide HOB
 obtain ⟨V8, G8, hdl, hdg, b4, b47, b48, B8⟩ := unhide HV8
 have s48 := b48.size
 have k9 : SBlk w9 gp _ 37 := (gr9.block gp (unhide HK8).lt (fun e => by have := (hob gp e.symm).2; have := unhide HGP; omega)).trans (unhide HK8)
 have B9 := B8.grown gr9 B8.size (fun q e => by have := (hob q e).1; have := (unhide HB3).size; omega)
 have B10 := B9.setCell (p := ⟨gp, 2, none⟩) hgp0 (.slice s'.a s'.n s'.c)
 have k10 := k9.set 2 (.slice s'.a s'.n s'.c)
 simp only [Array.toList, List.set_cons_zero, List.set_cons_succ] at k10
 obtain ⟨W10, e10⟩ : ∃ W, w9.setCell ⟨gp, 2, none⟩ (.slice s'.a s'.n s'.c) = W := ⟨_, rfl⟩
 have E10 := hide e10
 rw [e10] at B10 k10
 have P9 : PbP w9 w3.heap.size f p gp s1 s' s3 x.2.1 (x.2.2.1.drop k) [] := PbP.del V8 G8 (hdg gp (Nat.le_of_eq (unhide HGP).symm)) (unhide HK8).lt G9 hf gr9
 have P10 := P9.set (i := 2) (.slice s'.a s'.n s'.c)
 rw [e10] at P10
 have hB10 : w3.heap.size ≤ W10.heap.size := by have h1 := P10.lt; have h2 := unhide HGP; have h3 := b4.size; omega
 obtain ⟨⟨z0, z1, z2, z3⟩, f0, f1, f2, f3⟩ := four_blk k9
 have HK10 := hide k10
 have HP10 := hide P10
 have HO1 := hide B10
 clear hob V8 G8 hdl hdg b4 b47 b48 B8 s48 k9 B9 B10 k10 e10 P9 P10 G9 hf gr9
 go_upto_region 8 with (rw [unhide E10])
 try rw [unhide E10]
 clear E10 z0 z1 z2 z3 f0 f1 f2 f3 y1 y8
 have hgn : hx.g.n ≤ 1048576 := by have h1 : h.g.length = hx.g.n := ((unhide HOG) W10 (unhide HO1)).row.1; omega
 have hsn : s'.n ≤ 1048576 := by have h1 := (unhide HP10).row.len; have h2 := (unhide HQ).1; rw [List.length_drop] at h1; omega
 have HIR := hide (info_parts infoRc)
 obtain ⟨i0, hi, hz0, hz1, hz2⟩ := unhide HIR
 have HSS : Hid (∀ W, Below W0.heap.size W0 W → (fun W => W.cell? ⟨w.heap.size + 2, 1, none⟩ = some (.int .i64 h.n1) ∧ W.cell? ⟨w.heap.size + 2, 8, none⟩ = some (.slice hx.g.a hx.g.n hx.g.c)) W) := fun W hbW => by
  have kk := (unhide HKH).below hbW (unhide HKH).lt
  exact ⟨kk.cell 1, kk.cell 8⟩
 have HCO : Hid (∀ W, Below W10.heap.size W10 W → Calls Tryz.prog 74 #[.slice hx.g.a hx.g.n hx.g.c] W fun e w' => ∃ (a1 : Option Addr) (c1 : Nat) (es : List RcS) (WW : World), e = .returned (.slice a1 hx.g.n c1) ∧ w'.cell? ⟨gp, 2, none⟩ = some (.slice s'.a s'.n s'.c) ∧ Below W0.heap.size W0 w' ∧ w'.ownsRow w3.heap.size 93 2 (.slice s'.a s'.n s'.c) s'.n (flatV rcK es (x.2.2.1.drop k)) ∧ w3.heap.size ≤ w'.heap.size ∧ Hid (Below W10.heap.size W10 WW ∧ w'.ownsRow WW.heap.size 5 1 (.slice a1 hx.g.n c1) hx.g.n (h.g.map (Value.int .u8)) ∧ Below WW.heap.size WW w' ∧ es.length = (x.2.2.1.drop k).length ∧ (∀ i e y, es[i]? = some e → (x.2.2.1.drop k)[i]? = some y → rcK.Own W10 w3.heap.size f (p ++ [1] ++ [1] ++ [0] ++ [i]) e y))) := fun W hbW => by
  have oW := (unhide HOG) W ((unhide HO1).trans (hbW.mono (unhide HO1).size))
  refine (clone_any hx.g.a hx.g.n hx.g.c h.g W oW.row hgn).mono ?_
  rintro e w' ⟨a1, c1, rfl, ho, hb'⟩
  have o1 := hbW.trans (hb'.mono hbW.size)
  obtain ⟨_, es', e2', e3', e4', e5'⟩ := (unhide HP10).row
  exact ⟨a1, c1, es', W, rfl, (((unhide HK10).below o1 (unhide HK10).lt).cell 2), (unhide HO1).trans (o1.mono (unhide HO1).size), own_below e3' o1 (Nat.le_refl _), Nat.le_trans hB10 o1.size, hbW, ho, hb', e2', e5'⟩
 have HZG : Hid (∀ y ∈ h.g, 0 ≤ y ∧ y ≤ 255) := ((unhide HOG) W10 (unhide HO1)).row.2.1
 have HN64 : Hid (in64 h.n1) := (by have := unhide HN; show in64 h.n1; unfold in64; omega)
 have HST : Hid (∀ (W1 WW WA W2 : World) (a1 : Option Addr) (c1 g2 cap2 : Nat) (es : List RcS), Below W10.heap.size W10 WW → W1.ownsRow WW.heap.size 5 1 (.slice a1 hx.g.n c1) hx.g.n (h.g.map (Value.int .u8)) → Below WW.heap.size WW W1 → es.length = (x.2.2.1.drop k).length → (∀ i e y, es[i]? = some e → (x.2.2.1.drop k)[i]? = some y → rcK.Own W10 w3.heap.size f (p ++ [1] ++ [1] ++ [0] ++ [i]) e y) → Below W1.heap.size W1 WA → W2.ownsRow w3.heap.size 93 2 (.slice (some ⟨g2, 0, none⟩) (s'.n + 1) cap2) (s'.n + 1) (flatV rcK es (x.2.2.1.drop k) ++ [.int .i64 h.n1, .slice a1 hx.g.n c1]) → WA.grownBy W2 (Value.slice s'.a s'.n s'.c).ownBlock → ((Value.slice s'.a s'.n s'.c).ownBlock = some g2 ∨ g2 = WA.heap.size) →
     (∃ u, W2.cell? ⟨gp, 2, none⟩ = some u) ∧ W2.frozen? ⟨gp, 2, none⟩ = false ∧ Below W0.heap.size W0 W2 ∧ Below W0.heap.size W0 (W2.setCell ⟨gp, 2, none⟩ (.slice (some ⟨g2, 0, none⟩) (s'.n + 1) cap2)) ∧ Hid ((∃ d, SNK.Own (W2.setCell ⟨gp, 2, none⟩ (.slice (some ⟨g2, 0, none⟩) (s'.n + 1) cap2)) w3.heap.size d p ((), s1, ⟨some ⟨g2, 0, none⟩, s'.n + 1, cap2⟩, s3) (h.n1, x.2.1, x.2.2.1.drop k ++ [(h.n1, h.g)], [])) ∧ SBlk (W2.setCell ⟨gp, 2, none⟩ (.slice (some ⟨g2, 0, none⟩) (s'.n + 1) cap2)) gp [.int .i64 h.n1, .slice s1.a s1.n s1.c, .slice (some ⟨g2, 0, none⟩) (s'.n + 1) cap2, .slice s3.a s3.n s3.c] 37)) := fun W1 WW WA W2 a1 c1 g2 cap2 es bW ho hbW e2 e5 bA hown hg hat => by
  obtain ⟨d, S⟩ := (unhide HP10).snoc hB10 (unhide HN64) (unhide HZG) bW ho hbW bA e2 e5 hown hg hat
  have b0A : Below W10.heap.size W10 WA := bW.trans ((hbW.trans (bA.mono hbW.size)).mono bW.size)
  have hob2 : ∀ q, (Value.slice s'.a s'.n s'.c).ownBlock = some q → w3.heap.size ≤ q ∧ q ≠ gp := fun q hq => by
   cases ha : s'.a with
   | none => rw [ha] at hq; cases hq
   | some y =>
    rw [ha] at hq
    obtain rfl := Option.some.inj hq
    refine ⟨((unhide HP10).row.blk ha).1, fun e => ?_⟩
    have h1 := (unhide HP10).none
    obtain ⟨_, _, _, _, q4, _⟩ := (unhide HP10).row
    have h2 := q4 y ha
    rw [e, h1] at h2
    simp at h2
  have kA := (unhide HK10).below b0A (unhide HK10).lt
  have k2 : SBlk W2 gp [.int .i64 h.n1, .slice s1.a s1.n s1.c, .slice s'.a s'.n s'.c, .slice s3.a s3.n s3.c] 37 := (hg.block gp kA.lt (fun e => (hob2 gp e.symm).2 rfl)).trans kA
  have B2 : Below W0.heap.size W0 W2 := ((unhide HO1).trans (b0A.mono (unhide HO1).size)).grown hg (Nat.le_trans (unhide HO1).size b0A.size) (fun q e => Nat.le_trans (unhide HB3).size (hob2 q e).1)
  exact ⟨⟨_, k2.cell 2⟩, k2.free 2, B2, B2.setCell (p := ⟨gp, 2, none⟩) hgp0 _, ⟨d, (S.set (i := 2) _).own (unhide HN64)⟩, k2.set 2 _⟩
 have g2c := (unhide HK10).cell 2
 simp only [List.getElem?_cons_zero, List.getElem?_cons_succ] at g2c
 refine wp_region_held_drew (S := (fun W => W.cell? ⟨w.heap.size + 2, 1, none⟩ = some (.int .i64 h.n1) ∧ W.cell? ⟨w.heap.size + 2, 8, none⟩ = some (.slice hx.g.a hx.g.n hx.g.c))) (by kernel_rfl) ((unhide HSS) _ ((unhide HO1).drew)) (fun hHeld => ?_)
 refine tkA 0 ?_
 try dsimp only
 refine tkA 2 ?_
 try dsimp only
 refine tkA 3 ?_
 try dsimp only
 refine tkA 4 ?_
 try dsimp only
 refine tkA 5 ?_
 try dsimp only
 refine wpAnyH_ready (rs := [1, 6]) (by kernel_rfl) (by simp) ?_
 refine AllReadyH.cons (o := _) rfl (fun K hK => ?_) ?_
 · skip
   go_simp
   refine hK.out _ _ (hHeld) (fun hHeld => ?_)
   clear hK K
   try dsimp only
   refine rdA 6 (fun K hK => ?_)
   go_simp
   go_at_call 74
   refine ((unhide HCO) _ (by first | exact (Below.refl W10.heap.size W10).drew | exact below_drewN (Below.refl W10.heap.size W10) _)).mono ?_
   rintro e W1 ⟨a1, c1, es, WW, rfl, m2, o1, q3, zW, HQ2⟩
   have m2a : ∀ o, (W1.alloc o).cell? ⟨gp, 2, none⟩ = some (.slice s'.a s'.n s'.c) := fun o => ((below_alloc W1 o).cell (lt_of_cell m2)).trans m2
   (try dsimp only)
   refine hK.out _ _ ((unhide HSS) _ o1) (fun hHeld => ?_)
   clear hK K
   try dsimp only
   refine tkA 7 ?_
   try dsimp only
   refine rdA 8 (fun K hK => ?_)
   go_simp
   refine hK.out _ _ ((unhide HSS) _ (o1.alloc o1.size _)) (fun hHeld => ?_)
   clear hK K
   try dsimp only
   refine rdA 9 (fun K hK => ?_)
   refine step_append_lies _ (by rfl) (.tmp 35) (.tmp 42) 34 (by rfl) w3.heap.size 93 i0 (.agg #[.int .i64 0, .slice none 0 0]) 2 32 Tryz.underlying34 hi hz0 hz1 hz2 rfl (by decide) _ _ _ (by rfl) (by exact q3.alloc _) ⟨W1.heap.size, 0, none⟩ 1 1 [.int .i64 h.n1, .slice a1 hx.g.n c1] (by rfl) rfl (by exact two_at _ _ _ _) (by simp [Value.oneCell']) (by omega) (by unfold maxLen; omega) (by omega) (by simp; omega) _ rfl ?_
   intro g2 cap2 W2 hown2 hgrow2 hat2 hlt2
   obtain ⟨⟨u10, hu10⟩, hf10, o2, o3, I2⟩ := (unhide HST) W1 WW _ W2 a1 c1 g2 cap2 es (unhide HQ2).1 (unhide HQ2).2.1 (unhide HQ2).2.2.1 (unhide HQ2).2.2.2.1 (unhide HQ2).2.2.2.2 (below_alloc W1 _) hown2 hgrow2 hat2
   clear hown2 hgrow2 hat2 hlt2
   refine hK.out _ _ ((unhide HSS) _ o2) (fun hHeld => ?_)
   clear hK K
   try dsimp only
   refine tkA 10 ?_
   try dsimp only
   refine rdA 11 (fun K hK => ?_)
   go_simp
   refine hK.out _ _ ((unhide HSS) _ o3) (fun hHeld => ?_)
   clear hK K
   try dsimp only
   refine wpAnyH_done (by kernel_rfl) ?_ _
   clear HCO HST hHeld HQ2 q3 m2 m2a hu10 hf10 zW o1 o2
   obtain ⟨⟨dd, OO⟩, kk⟩ := unhide I2
   obtain ⟨W12, e12⟩ : ∃ W, W2.setCell ⟨gp, 2, none⟩ (.slice (some ⟨g2, 0, none⟩) (s'.n + 1) cap2) = W := ⟨_, rfl⟩
   rw [e12] at OO kk o3 ⊢
   obtain ⟨⟨z0, z1, z2, z3⟩, _, _, _, _⟩ := four_blk kk
   have HK12 : Hid (SBlk W12 (w.heap.size + 1 + 1 + 1) [.int .i64 0, .slice none 0 0, .slice none 0 0, .slice none 0 0] 37) := (unhide HKR).below o3 (unhide HKR).lt
   obtain ⟨⟨t0, t1, t2, t3⟩, t4, t5, t6, t7⟩ := four_blk ((unhide HKR).below o3 (unhide HKR).lt)
   have HEND := hide (And.intro OO o3)
   clear OO o3 kk e12 I2 g2c hi hz0 hz1 hz2 hcl hsn hgn
   go_wp2_with fail
   obtain ⟨k13, n13, b13⟩ := ret4 (unhide HK12) (.int .i64 h.n1) (.slice s1.a s1.n s1.c) (.slice (some ⟨g2, 0, none⟩) (s'.n + 1) cap2) (.slice s3.a s3.n s3.c)
   refine bodyPost_ret (results_cell_row rfl _ _ (w.heap.size + 1 + 1 + 1) 37 _ (0, 0) _ rfl k13 Tryz.underlying37 rfl (by kernel_rfl)) rfl ⟨(), s1, ⟨some ⟨g2, 0, none⟩, s'.n + 1, cap2⟩, s3, rfl, ⟨dd, ?_⟩, ?_⟩
   · exact SNK.base (SNK.frame (unhide HEND).1 (fun q _ hq _ => n13 q (by have := (unhide HB3).size; omega))) (by have := (unhide HB3).size; omega)
   · exact b13 _ _ (by omega) ((unhide HB).trans ((unhide HEND).2.mono (unhide HB).size))
 refine AllReadyH.cons (o := _) rfl (fun K hK => ?_) AllReadyH.nil
 go_simp
 go_at_call 74
 refine ((unhide HCO) _ (by first | exact (Below.refl W10.heap.size W10).drew | exact below_drewN (Below.refl W10.heap.size W10) _)).mono ?_
 rintro e W1 ⟨a1, c1, es, WW, rfl, m2, o1, q3, zW, HQ2⟩
 have m2a : ∀ o, (W1.alloc o).cell? ⟨gp, 2, none⟩ = some (.slice s'.a s'.n s'.c) := fun o => ((below_alloc W1 o).cell (lt_of_cell m2)).trans m2
 (try dsimp only)
 refine hK.out _ _ ((unhide HSS) _ o1) (fun hHeld => ?_)
 clear hK K
 try dsimp only
 refine tkA 7 ?_
 try dsimp only
 refine wpAnyH_ready (rs := [1, 8]) (by kernel_rfl) (by simp) ?_
 refine AllReadyH.cons (o := _) rfl (fun K hK => ?_) ?_
 · skip
   go_simp
   refine hK.out _ _ (hHeld) (fun hHeld => ?_)
   clear hK K
   try dsimp only
   refine rdA 8 (fun K hK => ?_)
   go_simp
   refine hK.out _ _ ((unhide HSS) _ (o1.alloc o1.size _)) (fun hHeld => ?_)
   clear hK K
   try dsimp only
   refine rdA 9 (fun K hK => ?_)
   refine step_append_lies _ (by rfl) (.tmp 35) (.tmp 42) 34 (by rfl) w3.heap.size 93 i0 (.agg #[.int .i64 0, .slice none 0 0]) 2 32 Tryz.underlying34 hi hz0 hz1 hz2 rfl (by decide) _ _ _ (by rfl) (by exact q3.alloc _) ⟨W1.heap.size, 0, none⟩ 1 1 [.int .i64 h.n1, .slice a1 hx.g.n c1] (by rfl) rfl (by exact two_at _ _ _ _) (by simp [Value.oneCell']) (by omega) (by unfold maxLen; omega) (by omega) (by simp; omega) _ rfl ?_
   intro g2 cap2 W2 hown2 hgrow2 hat2 hlt2
   obtain ⟨⟨u10, hu10⟩, hf10, o2, o3, I2⟩ := (unhide HST) W1 WW _ W2 a1 c1 g2 cap2 es (unhide HQ2).1 (unhide HQ2).2.1 (unhide HQ2).2.2.1 (unhide HQ2).2.2.2.1 (unhide HQ2).2.2.2.2 (below_alloc W1 _) hown2 hgrow2 hat2
   clear hown2 hgrow2 hat2 hlt2
   refine hK.out _ _ ((unhide HSS) _ o2) (fun hHeld => ?_)
   clear hK K
   try dsimp only
   refine tkA 10 ?_
   try dsimp only
   refine rdA 11 (fun K hK => ?_)
   go_simp
   refine hK.out _ _ ((unhide HSS) _ o3) (fun hHeld => ?_)
   clear hK K
   try dsimp only
   refine wpAnyH_done (by kernel_rfl) ?_ _
   clear HCO HST hHeld HQ2 q3 m2 m2a hu10 hf10 zW o1 o2
   obtain ⟨⟨dd, OO⟩, kk⟩ := unhide I2
   obtain ⟨W12, e12⟩ : ∃ W, W2.setCell ⟨gp, 2, none⟩ (.slice (some ⟨g2, 0, none⟩) (s'.n + 1) cap2) = W := ⟨_, rfl⟩
   rw [e12] at OO kk o3 ⊢
   obtain ⟨⟨z0, z1, z2, z3⟩, _, _, _, _⟩ := four_blk kk
   have HK12 : Hid (SBlk W12 (w.heap.size + 1 + 1 + 1) [.int .i64 0, .slice none 0 0, .slice none 0 0, .slice none 0 0] 37) := (unhide HKR).below o3 (unhide HKR).lt
   obtain ⟨⟨t0, t1, t2, t3⟩, t4, t5, t6, t7⟩ := four_blk ((unhide HKR).below o3 (unhide HKR).lt)
   have HEND := hide (And.intro OO o3)
   clear OO o3 kk e12 I2 g2c hi hz0 hz1 hz2 hcl hsn hgn
   go_wp2_with fail
   obtain ⟨k13, n13, b13⟩ := ret4 (unhide HK12) (.int .i64 h.n1) (.slice s1.a s1.n s1.c) (.slice (some ⟨g2, 0, none⟩) (s'.n + 1) cap2) (.slice s3.a s3.n s3.c)
   refine bodyPost_ret (results_cell_row rfl _ _ (w.heap.size + 1 + 1 + 1) 37 _ (0, 0) _ rfl k13 Tryz.underlying37 rfl (by kernel_rfl)) rfl ⟨(), s1, ⟨some ⟨g2, 0, none⟩, s'.n + 1, cap2⟩, s3, rfl, ⟨dd, ?_⟩, ?_⟩
   · exact SNK.base (SNK.frame (unhide HEND).1 (fun q _ hq _ => n13 q (by have := (unhide HB3).size; omega))) (by have := (unhide HB3).size; omega)
   · exact b13 _ _ (by omega) ((unhide HB).trans ((unhide HEND).2.mono (unhide HB).size))
 refine AllReadyH.cons (o := _) rfl (fun K hK => ?_) AllReadyH.nil
 go_simp
 refine hK.out _ _ ((unhide HSS) _ (o1.alloc o1.size _)) (fun hHeld => ?_)
 clear hK K
 try dsimp only
 refine rdA 1 (fun K hK => ?_)
 go_simp
 refine hK.out _ _ (hHeld) (fun hHeld => ?_)
 clear hK K
 try dsimp only
 refine rdA 9 (fun K hK => ?_)
 refine step_append_lies _ (by rfl) (.tmp 35) (.tmp 42) 34 (by rfl) w3.heap.size 93 i0 (.agg #[.int .i64 0, .slice none 0 0]) 2 32 Tryz.underlying34 hi hz0 hz1 hz2 rfl (by decide) _ _ _ (by rfl) (by exact q3.alloc _) ⟨W1.heap.size, 0, none⟩ 1 1 [.int .i64 h.n1, .slice a1 hx.g.n c1] (by rfl) rfl (by exact two_at _ _ _ _) (by simp [Value.oneCell']) (by omega) (by unfold maxLen; omega) (by omega) (by simp; omega) _ rfl ?_
 intro g2 cap2 W2 hown2 hgrow2 hat2 hlt2
 obtain ⟨⟨u10, hu10⟩, hf10, o2, o3, I2⟩ := (unhide HST) W1 WW _ W2 a1 c1 g2 cap2 es (unhide HQ2).1 (unhide HQ2).2.1 (unhide HQ2).2.2.1 (unhide HQ2).2.2.2.1 (unhide HQ2).2.2.2.2 (below_alloc W1 _) hown2 hgrow2 hat2
 clear hown2 hgrow2 hat2 hlt2
 refine hK.out _ _ ((unhide HSS) _ o2) (fun hHeld => ?_)
 clear hK K
 try dsimp only
 refine tkA 10 ?_
 try dsimp only
 refine rdA 11 (fun K hK => ?_)
 go_simp
 refine hK.out _ _ ((unhide HSS) _ o3) (fun hHeld => ?_)
 clear hK K
 try dsimp only
 refine wpAnyH_done (by kernel_rfl) ?_ _
 clear HCO HST hHeld HQ2 q3 m2 m2a hu10 hf10 zW o1 o2
 obtain ⟨⟨dd, OO⟩, kk⟩ := unhide I2
 obtain ⟨W12, e12⟩ : ∃ W, W2.setCell ⟨gp, 2, none⟩ (.slice (some ⟨g2, 0, none⟩) (s'.n + 1) cap2) = W := ⟨_, rfl⟩
 rw [e12] at OO kk o3 ⊢
 obtain ⟨⟨z0, z1, z2, z3⟩, _, _, _, _⟩ := four_blk kk
 have HK12 : Hid (SBlk W12 (w.heap.size + 1 + 1 + 1) [.int .i64 0, .slice none 0 0, .slice none 0 0, .slice none 0 0] 37) := (unhide HKR).below o3 (unhide HKR).lt
 obtain ⟨⟨t0, t1, t2, t3⟩, t4, t5, t6, t7⟩ := four_blk ((unhide HKR).below o3 (unhide HKR).lt)
 have HEND := hide (And.intro OO o3)
 clear OO o3 kk e12 I2 g2c hi hz0 hz1 hz2 hcl hsn hgn
 go_wp2_with fail
 obtain ⟨k13, n13, b13⟩ := ret4 (unhide HK12) (.int .i64 h.n1) (.slice s1.a s1.n s1.c) (.slice (some ⟨g2, 0, none⟩) (s'.n + 1) cap2) (.slice s3.a s3.n s3.c)
 refine bodyPost_ret (results_cell_row rfl _ _ (w.heap.size + 1 + 1 + 1) 37 _ (0, 0) _ rfl k13 Tryz.underlying37 rfl (by kernel_rfl)) rfl ⟨(), s1, ⟨some ⟨g2, 0, none⟩, s'.n + 1, cap2⟩, s3, rfl, ⟨dd, ?_⟩, ?_⟩
 · exact SNK.base (SNK.frame (unhide HEND).1 (fun q _ hq _ => n13 q (by have := (unhide HB3).size; omega))) (by have := (unhide HB3).size; omega)
 · exact b13 _ _ (by omega) ((unhide HB).trans ((unhide HEND).2.mono (unhide HB).size))


open Go.RowKit Go.ChangeMaps Go.MapKept
set_option maxRecDepth 100000

set_option maxHeartbeats 8000000 in
theorem passed_no (p : Path) (c : Cf) (e : SnS) (x : Sn) (hx : HS) (h : Hd) (w : World) (o : SNK.Ok w e x) (m : SnSm x) (og : BOk w hx.g h.g) (h0 : snFlt x = 0) (hg1 : h.g.length ≤ 1048576) (hn : 0 ≤ h.n1 ∧ h.n1 ≤ 1099511627776) (hck : cfCk c h.n1 = false) :
    Calls Tryz.prog 37 #[.agg (cfvals c), .agg (snvals e x), .agg (hvals hx h)] w fun r w' => ∃ e' : SnS, r = .returned (.agg (snvals e' (h.n1, x.2.1, apRc x h.n1 h.g, x.2.2.2))) ∧ (∃ d, SNK.Own w' w.heap.size d p e' (h.n1, x.2.1, apRc x h.n1 h.g, x.2.2.2)) ∧ Below w.heap.size w w' := by
 obtain ⟨q1, q2, q3, q4, q5, q6, q7, q8⟩ := sn_iff.1 h0
 have hs7 : e.2.1.n ≤ 7 := by have := o.2.1.len; have := q3.1; omega
 have hbd : h.n1 - ((e.2.1.n / 2 : Nat) : Int) - 1 = apBound x h.n1 := by unfold apBound; rw [o.2.1.len]
 have hrc : apRc x h.n1 h.g = x.2.2.1.drop (oldN (apBound x h.n1) x.2.2.1) ++ [(h.n1, h.g)] := by unfold apRc; rw [oldN_drop _ _ q6.2]
 have hiff := oldN_iff (apBound x h.n1) x.2.2.1 q6.2
 have hole := oldN_le (apBound x h.n1) x.2.2.1
 rw [hrc]
 clear hrc
 generalize oldN (apBound x h.n1) x.2.2.1 = k at hiff hole ⊢
 generalize apBound x h.n1 = bd at hbd hiff ⊢
 obtain ⟨W0, e0, b0, hz, kc, kx, kh, kr⟩ := entry4 c e x hx h w
 have HO := hide (fun (W : World) (hb : Below W0.heap.size W0 W) => SNK.below o (b0.trans (hb.mono b0.size)) (Nat.le_refl _))
 have HOG := hide (fun (W : World) (hb : Below W0.heap.size W0 W) => bytesK.below og (b0.trans (hb.mono b0.size)) (Nat.le_refl _))
 have HPL := hide (fun (W : World) (hb : Below W0.heap.size W0 W) => pollV_any e.2.2.2 x.2.2.2 W ((unhide HO) W hb).2.2.2 q5 (fun v hv => ⟨(q7 v hv).1, (q7 v hv).2.1⟩) q8)
 have HCK := hide (fun (W : World) => implCheckpoint_any c h.n1 W)
 rw [hck] at HCK
 have HRB := hide (fun (W : World) => recentBound_any e.2.1 h.n1 W hs7 hn)
 rw [hbd] at HRB
 have HQ := hide (And.intro q4 q5)
 have HIFF := hide hiff
 have HLE := hide hole
 have HM := hide m
 have HN := hide hn
 have c0 := kc.cell 0
 have c1 := kc.cell 1
 have c2 := kc.cell 2
 simp only [cfvals, List.getElem?_cons_zero, List.getElem?_cons_succ] at c0 c1 c2
 have x0 := kx.cell 0
 have x1 := kx.cell 1
 have x2 := kx.cell 2
 have x3 := kx.cell 3
 simp only [snvals, List.getElem?_cons_zero, List.getElem?_cons_succ] at x0 x1 x2 x3
 have y1 : W0.cell? ⟨w.heap.size + 2, 1, none⟩ = some (.int .i64 h.n1) := kh.cell 1
 have y8 : W0.cell? ⟨w.heap.size + 2, 8, none⟩ = some (.slice hx.g.a hx.g.n hx.g.c) := kh.cell 8
 have HKC := hide kc
 have HKX := hide kx
 have HKH := hide kh
 have HKR := hide kr
 have HB := hide b0
 have E0 := hide e0
 unfold cfvals at HCK
 clear o og m h0 q1 q2 q3 q4 q5 q6 q7 q8 hbd hck hiff hole kc kx kh kr b0 e0 hs7 hn
 go_enter Tryz.func37, Tryz.ntmps37
 go_upto_region 1 with fail
 rw [unhide E0]
 clear E0
 go_wp2_with fail
 refine ((unhide HPL) W0 (Below.refl _ _)).mono ?_
 rintro r1 w1 ⟨rfl, hp1, b1⟩
 obtain ⟨g, hg⟩ : ∃ g, W0.heap.size = g := ⟨_, rfl⟩
 have hgW0 : W0.heap.size ≤ g := Nat.le_of_eq hg
 rw [hg] at hp1 ⊢
 have HB1 := hide b1
 have c0 := ((unhide HKC).below b1 (unhide HKC).lt).cell 0
 have c1 := ((unhide HKC).below b1 (unhide HKC).lt).cell 1
 have c2 := ((unhide HKC).below b1 (unhide HKC).lt).cell 2
 simp only [cfvals, Array.toList, List.getElem?_cons_zero, List.getElem?_cons_succ] at c0 c1 c2
 have y1 : w1.cell? ⟨w.heap.size + 2, 1, none⟩ = some (.int .i64 h.n1) := ((unhide HKH).below b1 (unhide HKH).lt).cell 1
 have HP1 := hide hp1
 clear hp1 b1 hg x0 x1 x2 x3
 go_wp2_with fail
 refine ((unhide HCK) w1).mono ?_
 rintro r2 w2 ⟨rfl, b2⟩
 have HB2 := hide ((unhide HB1).trans (b2.mono (unhide HB1).size))
 have HP2 := hide ((unhide HP1).below b2 (Nat.le_refl _))
 clear b2 c0 c1 c2 y1
 obtain ⟨w3, e3⟩ : ∃ w3, w3 = w2 := ⟨_, rfl⟩
 subst e3
 have HB3 := HB2
 have HP3 := HP2
 have hm3 := (unhide HO) w3 (unhide HB3)
 have kx3 := (unhide HKX).below (unhide HB3) (unhide HKX).lt
 have x0 := kx3.cell 0
 have x1 := kx3.cell 1
 have x2 := kx3.cell 2
 have x3 := kx3.cell 3
 simp only [snvals, Array.toList, List.getElem?_cons_zero, List.getElem?_cons_succ] at x0 x1 x2 x3
 have hWV := withVotesG_any p e x g _ _ w3 hm3 (unhide HM) (unhide HP3) (placed_rise _) (by rw [← List.length_map (f := Prod.snd), placed_snd]; have := (unhide HQ).2; omega)
 rw [placed_snd] at hWV
 have HWV := hide hWV
 unfold snvals at HWV
 clear hWV hm3 kx3
 go_wp2_with fail
 refine (unhide HWV).mono ?_
 rintro r4 w4 ⟨e4, rfl, V4, b4⟩
 obtain ⟨d4, es4, V4, _, G4⟩ := V4
 obtain ⟨⟨⟩, s1, s2, s3⟩ := e4
 simp only at V4 G4
 have B4 := (unhide HB3).trans (b4.mono (unhide HB3).size)
 have kp := SBlk.new w4 #[.int .i64 x.1, .slice s1.a s1.n s1.c, .slice s2.a s2.n s2.c, .slice s3.a s3.n s3.c] 37
 have bp := below_alloc w4 (.cells #[.int .i64 x.1, .slice s1.a s1.n s1.c, .slice s2.a s2.n s2.c, .slice s3.a s3.n s3.c] 37)
 obtain ⟨W5, e5⟩ : ∃ W, w4.alloc (.cells #[.int .i64 x.1, .slice s1.a s1.n s1.c, .slice s2.a s2.n s2.c, .slice s3.a s3.n s3.c] 37) = W := ⟨_, rfl⟩
 rw [e5] at kp bp
 have E5 := hide e5
 obtain ⟨gp, hgp⟩ : ∃ g, g = w4.heap.size := ⟨_, rfl⟩
 rw [← hgp] at kp
 have s34 := (unhide HB3).size
 have s4 := b4.size
 have B5 := B4.trans (bp.mono B4.size)
 have hgp0 : W0.heap.size ≤ gp := by rw [hgp]; exact B4.size
 have B6 : Below W0.heap.size W0 (W5.setCell ⟨gp, 0, none⟩ (.int .i64 h.n1)) := B5.setCell (p := ⟨gp, 0, none⟩) hgp0 _
 have k6 := kp.set 0 (.int .i64 h.n1)
 simp only [Array.toList, List.set_cons_zero, List.set_cons_succ] at k6
 obtain ⟨⟨z0, z1, z2, z3⟩, f0, f1, f2, f3⟩ := four_blk kp
 have y1 : W5.cell? ⟨w.heap.size + 2, 1, none⟩ = some (.int .i64 h.n1) := ((unhide HKH).below B5 (unhide HKH).lt).cell 1
 obtain ⟨W6, e6⟩ : ∃ W, W5.setCell ⟨gp, 0, none⟩ (.int .i64 h.n1) = W := ⟨_, rfl⟩
 rw [e6] at B6 k6
 have E6 := hide e6
 have HGP := hide hgp
 have HV4 := hide (And.intro V4 (And.intro G4 (And.intro b4 (e6 ▸ bp.setCell (p := ⟨gp, 0, none⟩) (Nat.le_of_eq hgp.symm) (.int .i64 h.n1) : Below w4.heap.size w4 W6))))
 have HB6 := hide B6
 have HK6 := hide k6
 clear V4 G4 b4 bp B4 B5 B6 k6 e5 e6 x0 x1 x2 x3
 go_upto_region 5 with (rw [unhide E5])
 try rw [unhide E5]
 rw [← unhide HGP]
 clear E5 hgp
 go_upto_region 6 with (rw [unhide E6])
 try rw [unhide E6]
 clear E6 z0 z1 z2 z3 f0 f1 f2 f3 y1 kp
 have x1 := ((unhide HKX).below (unhide HB6) (unhide HKX).lt).cell 1
 simp only [snvals, Array.toList, List.getElem?_cons_zero, List.getElem?_cons_succ] at x1
 have y1 : W6.cell? ⟨w.heap.size + 2, 1, none⟩ = some (.int .i64 h.n1) := ((unhide HKH).below (unhide HB6) (unhide HKH).lt).cell 1
 go_wp2_with fail
 refine ((unhide HRB) _).mono ?_
 rintro r7 w7 ⟨rfl, rfl⟩
 obtain ⟨V4, G4, b4, b47⟩ := unhide HV4
 obtain ⟨d5, hd5⟩ : ∃ d5 : Nat → Path, d5 = fun q => if q < w4.heap.size then d4 q else [] := ⟨_, rfl⟩
 have hdl : ∀ q, q < w4.heap.size → d5 q = d4 q := fun q hq => by rw [hd5]; exact if_pos hq
 have hdg : ∀ q, w4.heap.size ≤ q → d5 q = [] := fun q hq => by rw [hd5]; exact if_neg (by omega)
 have bx8 := below_alloc w7 (.cells #[.int .i64 bd] 2)
 have kb := SBlk.new w7 #[.int .i64 bd] 2
 obtain ⟨W8, e8⟩ : ∃ W, w7.alloc (.cells #[.int .i64 bd] 2) = W := ⟨_, rfl⟩
 rw [e8] at bx8 kb
 have E8 := hide e8
 obtain ⟨bx, hbx⟩ : ∃ b, b = w7.heap.size := ⟨_, rfl⟩
 rw [← hbx] at kb
 have HBX := hide hbx
 have b48 := b47.trans (bx8.mono b47.size)
 have V8 : SNK.Own W8 w3.heap.size d5 p ((), s1, s2, s3) (x.1, x.2.1, x.2.2.1, x.2.2.2) := SNK.ownBelow (SNK.recolNew V4 hdl) b48 (Nat.le_refl _)
 have G8 := (G4.recolB (fun q hq _ => hdl q hq)).below b48 (Nat.le_refl _)
 have hob : ∀ q, (Value.slice s2.a s2.n s2.c).ownBlock = some q → w3.heap.size ≤ q ∧ q < w4.heap.size := fun q hq => by
  cases ha : s2.a with
  | none => rw [ha] at hq; cases hq
  | some y => rw [ha] at hq; obtain rfl := Option.some.inj hq; exact G4.blk ha
 have HD8 := hide (delG_any w3.heap.size d5 (p ++ [1] ++ [1] ++ [0]) s2 x.2.2.1 bd bx k W8 G8 (kb.cell 0) (fun y hy e => by have h1 := (G4.blk hy).2; have h2 := b47.size; omega) (unhide HIFF) (unhide HLE) (by have := (unhide HQ).1; omega))
 have k8 := (unhide HK6).below bx8 (unhide HK6).lt
 have B8 := (unhide HB6).trans (bx8.mono (unhide HB6).size)
 have HOB := hide hob
 have HV8 := hide (And.intro V8 (And.intro G8 (And.intro hdl (And.intro hdg (And.intro b4 (And.intro b47 (And.intro b48 B8)))))))
 have HK8 := hide k8
 obtain ⟨⟨z0, z1, z2, z3⟩, f0, f1, f2, f3⟩ := four_blk k8
 clear HV4 V4 G4 b4 b47 hd5 hdl hdg bx8 kb e8 b48 V8 G8 hob k8 B8 x1 y1
 go_upto_region 7 with (rw [unhide E8])
 try rw [unhide E8]
 rw [← unhide HBX]
 clear E8 hbx
 go_wp2_with fail
 refine (unhide HD8).mono ?_
 rintro r9 w9 ⟨s', f, rfl, G9, hf, gr9⟩
 have hob := unhide HOB
 obtain ⟨V8, G8, hdl, hdg, b4, b47, b48, B8⟩ := unhide HV8
 have s48 := b48.size
 have k9 : SBlk w9 gp _ 37 := (gr9.block gp (unhide HK8).lt (fun e => by have := (hob gp e.symm).2; have := unhide HGP; omega)).trans (unhide HK8)
 have B9 := B8.grown gr9 B8.size (fun q e => by have := (hob q e).1; have := (unhide HB3).size; omega)
 have B10 := B9.setCell (p := ⟨gp, 2, none⟩) hgp0 (.slice s'.a s'.n s'.c)
 have k10 := k9.set 2 (.slice s'.a s'.n s'.c)
 simp only [Array.toList, List.set_cons_zero, List.set_cons_succ] at k10
 obtain ⟨W10, e10⟩ : ∃ W, w9.setCell ⟨gp, 2, none⟩ (.slice s'.a s'.n s'.c) = W := ⟨_, rfl⟩
 have E10 := hide e10
 rw [e10] at B10 k10
 have P9 : PbP w9 w3.heap.size f p gp s1 s' s3 x.2.1 (x.2.2.1.drop k) x.2.2.2 := PbP.del V8 G8 (hdg gp (Nat.le_of_eq (unhide HGP).symm)) (unhide HK8).lt G9 hf gr9
 have P10 := P9.set (i := 2) (.slice s'.a s'.n s'.c)
 rw [e10] at P10
 have hB10 : w3.heap.size ≤ W10.heap.size := by have h1 := P10.lt; have h2 := unhide HGP; have h3 := b4.size; omega
 obtain ⟨⟨z0, z1, z2, z3⟩, f0, f1, f2, f3⟩ := four_blk k9
 have HK10 := hide k10
 have HP10 := hide P10
 have HO1 := hide B10
 clear hob V8 G8 hdl hdg b4 b47 b48 B8 s48 k9 B9 B10 k10 e10 P9 P10 G9 hf gr9
 go_upto_region 8 with (rw [unhide E10])
 try rw [unhide E10]
 clear E10 z0 z1 z2 z3 f0 f1 f2 f3 y1 y8
 have hgn : hx.g.n ≤ 1048576 := by have h1 : h.g.length = hx.g.n := ((unhide HOG) W10 (unhide HO1)).row.1; omega
 have hsn : s'.n ≤ 1048576 := by have h1 := (unhide HP10).row.len; have h2 := (unhide HQ).1; rw [List.length_drop] at h1; omega
 have HIR := hide (info_parts infoRc)
 obtain ⟨i0, hi, hz0, hz1, hz2⟩ := unhide HIR
 have HSS : Hid (∀ W, Below W0.heap.size W0 W → (fun W => W.cell? ⟨w.heap.size + 2, 1, none⟩ = some (.int .i64 h.n1) ∧ W.cell? ⟨w.heap.size + 2, 8, none⟩ = some (.slice hx.g.a hx.g.n hx.g.c)) W) := fun W hbW => by
  have kk := (unhide HKH).below hbW (unhide HKH).lt
  exact ⟨kk.cell 1, kk.cell 8⟩
 have HCO : Hid (∀ W, Below W10.heap.size W10 W → Calls Tryz.prog 74 #[.slice hx.g.a hx.g.n hx.g.c] W fun e w' => ∃ (a1 : Option Addr) (c1 : Nat) (es : List RcS) (WW : World), e = .returned (.slice a1 hx.g.n c1) ∧ w'.cell? ⟨gp, 2, none⟩ = some (.slice s'.a s'.n s'.c) ∧ Below W0.heap.size W0 w' ∧ w'.ownsRow w3.heap.size 93 2 (.slice s'.a s'.n s'.c) s'.n (flatV rcK es (x.2.2.1.drop k)) ∧ w3.heap.size ≤ w'.heap.size ∧ Hid (Below W10.heap.size W10 WW ∧ w'.ownsRow WW.heap.size 5 1 (.slice a1 hx.g.n c1) hx.g.n (h.g.map (Value.int .u8)) ∧ Below WW.heap.size WW w' ∧ es.length = (x.2.2.1.drop k).length ∧ (∀ i e y, es[i]? = some e → (x.2.2.1.drop k)[i]? = some y → rcK.Own W10 w3.heap.size f (p ++ [1] ++ [1] ++ [0] ++ [i]) e y))) := fun W hbW => by
  have oW := (unhide HOG) W ((unhide HO1).trans (hbW.mono (unhide HO1).size))
  refine (clone_any hx.g.a hx.g.n hx.g.c h.g W oW.row hgn).mono ?_
  rintro e w' ⟨a1, c1, rfl, ho, hb'⟩
  have o1 := hbW.trans (hb'.mono hbW.size)
  obtain ⟨_, es', e2', e3', e4', e5'⟩ := (unhide HP10).row
  exact ⟨a1, c1, es', W, rfl, (((unhide HK10).below o1 (unhide HK10).lt).cell 2), (unhide HO1).trans (o1.mono (unhide HO1).size), own_below e3' o1 (Nat.le_refl _), Nat.le_trans hB10 o1.size, hbW, ho, hb', e2', e5'⟩
 have HZG : Hid (∀ y ∈ h.g, 0 ≤ y ∧ y ≤ 255) := ((unhide HOG) W10 (unhide HO1)).row.2.1
 have HN64 : Hid (in64 h.n1) := (by have := unhide HN; show in64 h.n1; unfold in64; omega)
 have HST : Hid (∀ (W1 WW WA W2 : World) (a1 : Option Addr) (c1 g2 cap2 : Nat) (es : List RcS), Below W10.heap.size W10 WW → W1.ownsRow WW.heap.size 5 1 (.slice a1 hx.g.n c1) hx.g.n (h.g.map (Value.int .u8)) → Below WW.heap.size WW W1 → es.length = (x.2.2.1.drop k).length → (∀ i e y, es[i]? = some e → (x.2.2.1.drop k)[i]? = some y → rcK.Own W10 w3.heap.size f (p ++ [1] ++ [1] ++ [0] ++ [i]) e y) → Below W1.heap.size W1 WA → W2.ownsRow w3.heap.size 93 2 (.slice (some ⟨g2, 0, none⟩) (s'.n + 1) cap2) (s'.n + 1) (flatV rcK es (x.2.2.1.drop k) ++ [.int .i64 h.n1, .slice a1 hx.g.n c1]) → WA.grownBy W2 (Value.slice s'.a s'.n s'.c).ownBlock → ((Value.slice s'.a s'.n s'.c).ownBlock = some g2 ∨ g2 = WA.heap.size) →
     (∃ u, W2.cell? ⟨gp, 2, none⟩ = some u) ∧ W2.frozen? ⟨gp, 2, none⟩ = false ∧ Below W0.heap.size W0 W2 ∧ Below W0.heap.size W0 (W2.setCell ⟨gp, 2, none⟩ (.slice (some ⟨g2, 0, none⟩) (s'.n + 1) cap2)) ∧ Hid ((∃ d, SNK.Own (W2.setCell ⟨gp, 2, none⟩ (.slice (some ⟨g2, 0, none⟩) (s'.n + 1) cap2)) w3.heap.size d p ((), s1, ⟨some ⟨g2, 0, none⟩, s'.n + 1, cap2⟩, s3) (h.n1, x.2.1, x.2.2.1.drop k ++ [(h.n1, h.g)], x.2.2.2)) ∧ SBlk (W2.setCell ⟨gp, 2, none⟩ (.slice (some ⟨g2, 0, none⟩) (s'.n + 1) cap2)) gp [.int .i64 h.n1, .slice s1.a s1.n s1.c, .slice (some ⟨g2, 0, none⟩) (s'.n + 1) cap2, .slice s3.a s3.n s3.c] 37)) := fun W1 WW WA W2 a1 c1 g2 cap2 es bW ho hbW e2 e5 bA hown hg hat => by
  obtain ⟨d, S⟩ := (unhide HP10).snoc hB10 (unhide HN64) (unhide HZG) bW ho hbW bA e2 e5 hown hg hat
  have b0A : Below W10.heap.size W10 WA := bW.trans ((hbW.trans (bA.mono hbW.size)).mono bW.size)
  have hob2 : ∀ q, (Value.slice s'.a s'.n s'.c).ownBlock = some q → w3.heap.size ≤ q ∧ q ≠ gp := fun q hq => by
   cases ha : s'.a with
   | none => rw [ha] at hq; cases hq
   | some y =>
    rw [ha] at hq
    obtain rfl := Option.some.inj hq
    refine ⟨((unhide HP10).row.blk ha).1, fun e => ?_⟩
    have h1 := (unhide HP10).none
    obtain ⟨_, _, _, _, q4, _⟩ := (unhide HP10).row
    have h2 := q4 y ha
    rw [e, h1] at h2
    simp at h2
  have kA := (unhide HK10).below b0A (unhide HK10).lt
  have k2 : SBlk W2 gp [.int .i64 h.n1, .slice s1.a s1.n s1.c, .slice s'.a s'.n s'.c, .slice s3.a s3.n s3.c] 37 := (hg.block gp kA.lt (fun e => (hob2 gp e.symm).2 rfl)).trans kA
  have B2 : Below W0.heap.size W0 W2 := ((unhide HO1).trans (b0A.mono (unhide HO1).size)).grown hg (Nat.le_trans (unhide HO1).size b0A.size) (fun q e => Nat.le_trans (unhide HB3).size (hob2 q e).1)
  exact ⟨⟨_, k2.cell 2⟩, k2.free 2, B2, B2.setCell (p := ⟨gp, 2, none⟩) hgp0 _, ⟨d, (S.set (i := 2) _).own (unhide HN64)⟩, k2.set 2 _⟩
 have g2c := (unhide HK10).cell 2
 simp only [List.getElem?_cons_zero, List.getElem?_cons_succ] at g2c
 refine wp_region_held_drew (S := (fun W => W.cell? ⟨w.heap.size + 2, 1, none⟩ = some (.int .i64 h.n1) ∧ W.cell? ⟨w.heap.size + 2, 8, none⟩ = some (.slice hx.g.a hx.g.n hx.g.c))) (by kernel_rfl) ((unhide HSS) _ ((unhide HO1).drew)) (fun hHeld => ?_)
 refine tkA 0 ?_
 try dsimp only
 refine tkA 2 ?_
 try dsimp only
 refine tkA 3 ?_
 try dsimp only
 refine tkA 4 ?_
 try dsimp only
 refine tkA 5 ?_
 try dsimp only
 refine wpAnyH_ready (rs := [1, 6]) (by kernel_rfl) (by simp) ?_
 refine AllReadyH.cons (o := _) rfl (fun K hK => ?_) ?_
 · skip
   go_simp
   refine hK.out _ _ (hHeld) (fun hHeld => ?_)
   clear hK K
   try dsimp only
   refine rdA 6 (fun K hK => ?_)
   go_simp
   go_at_call 74
   refine ((unhide HCO) _ (by first | exact (Below.refl W10.heap.size W10).drew | exact below_drewN (Below.refl W10.heap.size W10) _)).mono ?_
   rintro e W1 ⟨a1, c1, es, WW, rfl, m2, o1, q3, zW, HQ2⟩
   have m2a : ∀ o, (W1.alloc o).cell? ⟨gp, 2, none⟩ = some (.slice s'.a s'.n s'.c) := fun o => ((below_alloc W1 o).cell (lt_of_cell m2)).trans m2
   (try dsimp only)
   refine hK.out _ _ ((unhide HSS) _ o1) (fun hHeld => ?_)
   clear hK K
   try dsimp only
   refine tkA 7 ?_
   try dsimp only
   refine rdA 8 (fun K hK => ?_)
   go_simp
   refine hK.out _ _ ((unhide HSS) _ (o1.alloc o1.size _)) (fun hHeld => ?_)
   clear hK K
   try dsimp only
   refine rdA 9 (fun K hK => ?_)
   refine step_append_lies _ (by rfl) (.tmp 35) (.tmp 42) 34 (by rfl) w3.heap.size 93 i0 (.agg #[.int .i64 0, .slice none 0 0]) 2 32 Tryz.underlying34 hi hz0 hz1 hz2 rfl (by decide) _ _ _ (by rfl) (by exact q3.alloc _) ⟨W1.heap.size, 0, none⟩ 1 1 [.int .i64 h.n1, .slice a1 hx.g.n c1] (by rfl) rfl (by exact two_at _ _ _ _) (by simp [Value.oneCell']) (by omega) (by unfold maxLen; omega) (by omega) (by simp; omega) _ rfl ?_
   intro g2 cap2 W2 hown2 hgrow2 hat2 hlt2
   obtain ⟨⟨u10, hu10⟩, hf10, o2, o3, I2⟩ := (unhide HST) W1 WW _ W2 a1 c1 g2 cap2 es (unhide HQ2).1 (unhide HQ2).2.1 (unhide HQ2).2.2.1 (unhide HQ2).2.2.2.1 (unhide HQ2).2.2.2.2 (below_alloc W1 _) hown2 hgrow2 hat2
   clear hown2 hgrow2 hat2 hlt2
   refine hK.out _ _ ((unhide HSS) _ o2) (fun hHeld => ?_)
   clear hK K
   try dsimp only
   refine tkA 10 ?_
   try dsimp only
   refine rdA 11 (fun K hK => ?_)
   go_simp
   refine hK.out _ _ ((unhide HSS) _ o3) (fun hHeld => ?_)
   clear hK K
   try dsimp only
   refine wpAnyH_done (by kernel_rfl) ?_ _
   clear HCO HST hHeld HQ2 q3 m2 m2a hu10 hf10 zW o1 o2
   obtain ⟨⟨dd, OO⟩, kk⟩ := unhide I2
   obtain ⟨W12, e12⟩ : ∃ W, W2.setCell ⟨gp, 2, none⟩ (.slice (some ⟨g2, 0, none⟩) (s'.n + 1) cap2) = W := ⟨_, rfl⟩
   rw [e12] at OO kk o3 ⊢
   obtain ⟨⟨z0, z1, z2, z3⟩, _, _, _, _⟩ := four_blk kk
   have HK12 : Hid (SBlk W12 (w.heap.size + 1 + 1 + 1) [.int .i64 0, .slice none 0 0, .slice none 0 0, .slice none 0 0] 37) := (unhide HKR).below o3 (unhide HKR).lt
   obtain ⟨⟨t0, t1, t2, t3⟩, t4, t5, t6, t7⟩ := four_blk ((unhide HKR).below o3 (unhide HKR).lt)
   have HEND := hide (And.intro OO o3)
   clear OO o3 kk e12 I2 g2c hi hz0 hz1 hz2 hsn hgn
   go_wp2_with fail
   obtain ⟨k13, n13, b13⟩ := ret4 (unhide HK12) (.int .i64 h.n1) (.slice s1.a s1.n s1.c) (.slice (some ⟨g2, 0, none⟩) (s'.n + 1) cap2) (.slice s3.a s3.n s3.c)
   refine bodyPost_ret (results_cell_row rfl _ _ (w.heap.size + 1 + 1 + 1) 37 _ (0, 0) _ rfl k13 Tryz.underlying37 rfl (by kernel_rfl)) rfl ⟨(), s1, ⟨some ⟨g2, 0, none⟩, s'.n + 1, cap2⟩, s3, rfl, ⟨dd, ?_⟩, ?_⟩
   · exact SNK.base (SNK.frame (unhide HEND).1 (fun q _ hq _ => n13 q (by have := (unhide HB3).size; omega))) (by have := (unhide HB3).size; omega)
   · exact b13 _ _ (by omega) ((unhide HB).trans ((unhide HEND).2.mono (unhide HB).size))
 refine AllReadyH.cons (o := _) rfl (fun K hK => ?_) AllReadyH.nil
 go_simp
 go_at_call 74
 refine ((unhide HCO) _ (by first | exact (Below.refl W10.heap.size W10).drew | exact below_drewN (Below.refl W10.heap.size W10) _)).mono ?_
 rintro e W1 ⟨a1, c1, es, WW, rfl, m2, o1, q3, zW, HQ2⟩
 have m2a : ∀ o, (W1.alloc o).cell? ⟨gp, 2, none⟩ = some (.slice s'.a s'.n s'.c) := fun o => ((below_alloc W1 o).cell (lt_of_cell m2)).trans m2
 (try dsimp only)
 refine hK.out _ _ ((unhide HSS) _ o1) (fun hHeld => ?_)
 clear hK K
 try dsimp only
 refine tkA 7 ?_
 try dsimp only
 refine wpAnyH_ready (rs := [1, 8]) (by kernel_rfl) (by simp) ?_
 refine AllReadyH.cons (o := _) rfl (fun K hK => ?_) ?_
 · skip
   go_simp
   refine hK.out _ _ (hHeld) (fun hHeld => ?_)
   clear hK K
   try dsimp only
   refine rdA 8 (fun K hK => ?_)
   go_simp
   refine hK.out _ _ ((unhide HSS) _ (o1.alloc o1.size _)) (fun hHeld => ?_)
   clear hK K
   try dsimp only
   refine rdA 9 (fun K hK => ?_)
   refine step_append_lies _ (by rfl) (.tmp 35) (.tmp 42) 34 (by rfl) w3.heap.size 93 i0 (.agg #[.int .i64 0, .slice none 0 0]) 2 32 Tryz.underlying34 hi hz0 hz1 hz2 rfl (by decide) _ _ _ (by rfl) (by exact q3.alloc _) ⟨W1.heap.size, 0, none⟩ 1 1 [.int .i64 h.n1, .slice a1 hx.g.n c1] (by rfl) rfl (by exact two_at _ _ _ _) (by simp [Value.oneCell']) (by omega) (by unfold maxLen; omega) (by omega) (by simp; omega) _ rfl ?_
   intro g2 cap2 W2 hown2 hgrow2 hat2 hlt2
   obtain ⟨⟨u10, hu10⟩, hf10, o2, o3, I2⟩ := (unhide HST) W1 WW _ W2 a1 c1 g2 cap2 es (unhide HQ2).1 (unhide HQ2).2.1 (unhide HQ2).2.2.1 (unhide HQ2).2.2.2.1 (unhide HQ2).2.2.2.2 (below_alloc W1 _) hown2 hgrow2 hat2
   clear hown2 hgrow2 hat2 hlt2
   refine hK.out _ _ ((unhide HSS) _ o2) (fun hHeld => ?_)
   clear hK K
   try dsimp only
   refine tkA 10 ?_
   try dsimp only
   refine rdA 11 (fun K hK => ?_)
   go_simp
   refine hK.out _ _ ((unhide HSS) _ o3) (fun hHeld => ?_)
   clear hK K
   try dsimp only
   refine wpAnyH_done (by kernel_rfl) ?_ _
   clear HCO HST hHeld HQ2 q3 m2 m2a hu10 hf10 zW o1 o2
   obtain ⟨⟨dd, OO⟩, kk⟩ := unhide I2
   obtain ⟨W12, e12⟩ : ∃ W, W2.setCell ⟨gp, 2, none⟩ (.slice (some ⟨g2, 0, none⟩) (s'.n + 1) cap2) = W := ⟨_, rfl⟩
   rw [e12] at OO kk o3 ⊢
   obtain ⟨⟨z0, z1, z2, z3⟩, _, _, _, _⟩ := four_blk kk
   have HK12 : Hid (SBlk W12 (w.heap.size + 1 + 1 + 1) [.int .i64 0, .slice none 0 0, .slice none 0 0, .slice none 0 0] 37) := (unhide HKR).below o3 (unhide HKR).lt
   obtain ⟨⟨t0, t1, t2, t3⟩, t4, t5, t6, t7⟩ := four_blk ((unhide HKR).below o3 (unhide HKR).lt)
   have HEND := hide (And.intro OO o3)
   clear OO o3 kk e12 I2 g2c hi hz0 hz1 hz2 hsn hgn
   go_wp2_with fail
   obtain ⟨k13, n13, b13⟩ := ret4 (unhide HK12) (.int .i64 h.n1) (.slice s1.a s1.n s1.c) (.slice (some ⟨g2, 0, none⟩) (s'.n + 1) cap2) (.slice s3.a s3.n s3.c)
   refine bodyPost_ret (results_cell_row rfl _ _ (w.heap.size + 1 + 1 + 1) 37 _ (0, 0) _ rfl k13 Tryz.underlying37 rfl (by kernel_rfl)) rfl ⟨(), s1, ⟨some ⟨g2, 0, none⟩, s'.n + 1, cap2⟩, s3, rfl, ⟨dd, ?_⟩, ?_⟩
   · exact SNK.base (SNK.frame (unhide HEND).1 (fun q _ hq _ => n13 q (by have := (unhide HB3).size; omega))) (by have := (unhide HB3).size; omega)
   · exact b13 _ _ (by omega) ((unhide HB).trans ((unhide HEND).2.mono (unhide HB).size))
 refine AllReadyH.cons (o := _) rfl (fun K hK => ?_) AllReadyH.nil
 go_simp
 refine hK.out _ _ ((unhide HSS) _ (o1.alloc o1.size _)) (fun hHeld => ?_)
 clear hK K
 try dsimp only
 refine rdA 1 (fun K hK => ?_)
 go_simp
 refine hK.out _ _ (hHeld) (fun hHeld => ?_)
 clear hK K
 try dsimp only
 refine rdA 9 (fun K hK => ?_)
 refine step_append_lies _ (by rfl) (.tmp 35) (.tmp 42) 34 (by rfl) w3.heap.size 93 i0 (.agg #[.int .i64 0, .slice none 0 0]) 2 32 Tryz.underlying34 hi hz0 hz1 hz2 rfl (by decide) _ _ _ (by rfl) (by exact q3.alloc _) ⟨W1.heap.size, 0, none⟩ 1 1 [.int .i64 h.n1, .slice a1 hx.g.n c1] (by rfl) rfl (by exact two_at _ _ _ _) (by simp [Value.oneCell']) (by omega) (by unfold maxLen; omega) (by omega) (by simp; omega) _ rfl ?_
 intro g2 cap2 W2 hown2 hgrow2 hat2 hlt2
 obtain ⟨⟨u10, hu10⟩, hf10, o2, o3, I2⟩ := (unhide HST) W1 WW _ W2 a1 c1 g2 cap2 es (unhide HQ2).1 (unhide HQ2).2.1 (unhide HQ2).2.2.1 (unhide HQ2).2.2.2.1 (unhide HQ2).2.2.2.2 (below_alloc W1 _) hown2 hgrow2 hat2
 clear hown2 hgrow2 hat2 hlt2
 refine hK.out _ _ ((unhide HSS) _ o2) (fun hHeld => ?_)
 clear hK K
 try dsimp only
 refine tkA 10 ?_
 try dsimp only
 refine rdA 11 (fun K hK => ?_)
 go_simp
 refine hK.out _ _ ((unhide HSS) _ o3) (fun hHeld => ?_)
 clear hK K
 try dsimp only
 refine wpAnyH_done (by kernel_rfl) ?_ _
 clear HCO HST hHeld HQ2 q3 m2 m2a hu10 hf10 zW o1 o2
 obtain ⟨⟨dd, OO⟩, kk⟩ := unhide I2
 obtain ⟨W12, e12⟩ : ∃ W, W2.setCell ⟨gp, 2, none⟩ (.slice (some ⟨g2, 0, none⟩) (s'.n + 1) cap2) = W := ⟨_, rfl⟩
 rw [e12] at OO kk o3 ⊢
 obtain ⟨⟨z0, z1, z2, z3⟩, _, _, _, _⟩ := four_blk kk
 have HK12 : Hid (SBlk W12 (w.heap.size + 1 + 1 + 1) [.int .i64 0, .slice none 0 0, .slice none 0 0, .slice none 0 0] 37) := (unhide HKR).below o3 (unhide HKR).lt
 obtain ⟨⟨t0, t1, t2, t3⟩, t4, t5, t6, t7⟩ := four_blk ((unhide HKR).below o3 (unhide HKR).lt)
 have HEND := hide (And.intro OO o3)
 clear OO o3 kk e12 I2 g2c hi hz0 hz1 hz2 hsn hgn
 go_wp2_with fail
 obtain ⟨k13, n13, b13⟩ := ret4 (unhide HK12) (.int .i64 h.n1) (.slice s1.a s1.n s1.c) (.slice (some ⟨g2, 0, none⟩) (s'.n + 1) cap2) (.slice s3.a s3.n s3.c)
 refine bodyPost_ret (results_cell_row rfl _ _ (w.heap.size + 1 + 1 + 1) 37 _ (0, 0) _ rfl k13 Tryz.underlying37 rfl (by kernel_rfl)) rfl ⟨(), s1, ⟨some ⟨g2, 0, none⟩, s'.n + 1, cap2⟩, s3, rfl, ⟨dd, ?_⟩, ?_⟩
 · exact SNK.base (SNK.frame (unhide HEND).1 (fun q _ hq _ => n13 q (by have := (unhide HB3).size; omega))) (by have := (unhide HB3).size; omega)
 · exact b13 _ _ (by omega) ((unhide HB).trans ((unhide HEND).2.mono (unhide HB).size))


end Go.Proofs.YtdmcmlcmgbbclaaGreat
