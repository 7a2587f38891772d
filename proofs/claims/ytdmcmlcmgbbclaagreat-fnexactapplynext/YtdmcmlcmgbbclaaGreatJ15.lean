/- What is proved here: what the model's l7Won and l7Cast answer: what a vote makes of a snapshot. -/
import Derived.Test.YtdmcmlcmgbbclaaGreatK0
import Derived.Test.YtdmcmlcmgbbclaaGreatJ14
import Derived.Test.YtdmcmlcmgbbclaaGreatJ13
import Derived.Deep.RegionHeld3
namespace Go.Proofs.YtdmcmlcmgbbclaaGreat
set_option linter.unusedVariables false
set_option linter.unusedSimpArgs false
open Go.RowKit
set_option maxRecDepth 100000

theorem l7Won_any (e : SnS) (x : Sn) (t : Sl) (z : List Int) (add : Bool) (w : World) (o : SNK.Ok w e x) (m : SnSm x) (ot : BOk w t z) (hz : z.length ≤ 100000) (hp : 0 < x.2.1.length) (hl : x.2.1.length ≤ 100000) (hd : add = false → z ∈ x.2.1) :
    Calls Tryz.prog 92 #[.agg (snvals e x), .slice t.a t.n t.c, .bool add] w fun r w' => ∃ e' : SnS, r = .returned (.tuple #[.agg (snvals e' (wonSn x z add)), .int .i64 (wonCode x add)]) ∧ (∀ W : World, Std w.heap.size w' W → SNK.Ok W e x → SNK.Ok W e' (wonSn x z add)) ∧ Below w.heap.size w w' := by
 cases add with
 | true =>
  by_cases h7 : 7 ≤ x.2.1.length
  · have e1 : wonSn x z true = x := by unfold wonSn; rw [if_pos rfl, if_pos h7]
    have e2 : wonCode x true = 10 := by unfold wonCode; rw [if_pos ⟨rfl, h7⟩]
    rw [e1, e2]
    exact wonA_any e x t w o h7
  · have e1 : wonSn x z true = wonIn x z := by unfold wonSn; rw [if_pos rfl, if_neg h7]
    have e2 : wonCode x true = 0 := by unfold wonCode; rw [if_neg (fun h => h7 h.2)]
    rw [e1, e2]
    exact wonB_any e x t z w o m ot hz hp (by omega)
 | false =>
  have e2 : wonCode x false = 0 := by unfold wonCode; rw [if_neg (fun h => by cases h.1)]
  by_cases h1 : x.2.1.length = 1
  · have e1 : wonSn x z false = x := by unfold wonSn; rw [if_neg (by decide), if_pos h1]
    rw [e1, e2]
    exact wonC_any e x t w o h1
  · have e1 : wonSn x z false = wonOut x z := by unfold wonSn; rw [if_neg (by decide), if_neg h1]
    rw [e1, e2]
    exact wonD_any e x t z w o m ot (hd rfl) (by omega) hl

theorem at_ge (t : List Int) (zss : List (List Int)) : decide (0 ≤ atFrom t 0 zss) = decide (t ∈ zss) := by
 have h := atFrom_neg t zss 0
 by_cases hm : t ∈ zss
 · simp [hm] at h ⊢
   omega
 · simp [hm] at h ⊢
   omega

theorem wrap2 {t : Int} (h0 : 0 ≤ t) (h1 : t ≤ 31) : IntKind.i64.wrap (2 * t) = 2 * t := by
 have : t = 0 ∨ t = 1 ∨ t = 2 ∨ t = 3 ∨ t = 4 ∨ t = 5 ∨ t = 6 ∨ t = 7 ∨ t = 8 ∨ t = 9 ∨ t = 10 ∨ t = 11 ∨ t = 12 ∨ t = 13 ∨ t = 14 ∨ t = 15 ∨ t = 16 ∨ t = 17 ∨ t = 18 ∨ t = 19 ∨ t = 20 ∨ t = 21 ∨ t = 22 ∨ t = 23 ∨ t = 24 ∨ t = 25 ∨ t = 26 ∨ t = 27 ∨ t = 28 ∨ t = 29 ∨ t = 30 ∨ t = 31 := by omega
 rcases this with rfl | rfl | rfl | rfl | rfl | rfl | rfl | rfl | rfl | rfl | rfl | rfl | rfl | rfl | rfl | rfl | rfl | rfl | rfl | rfl | rfl | rfl | rfl | rfl | rfl | rfl | rfl | rfl | rfl | rfl | rfl | rfl <;> rfl

set_option maxHeartbeats 8000000 in
theorem l7Cast_any (e : SnS) (x : Sn) (sa sb : Sl) (za zb : List Int) (add : Bool) (w : World) (o : SNK.Ok w e x) (m : SnSm x) (oa : BOk w sa za) (ob : BOk w sb zb) (ha : za.length ≤ 100000) (hb : zb.length ≤ 100000) (hp : 0 < x.2.1.length) (hl : x.2.1.length ≤ 100000) :
    Calls Tryz.prog 60 #[.agg (snvals e x), .slice sa.a sa.n sa.c, .slice sb.a sb.n sb.c, .bool add] w fun r w' => ∃ e' : SnS, r = .returned (.tuple #[.agg (snvals e' (ctSn x za zb add)), .int .i64 (ctCode x za zb add)]) ∧ (∀ W : World, Std w.heap.size w' W → SNK.Ok W e x → SNK.Ok W e' (ctSn x za zb add)) ∧ Below w.heap.size w w' := by
 obtain ⟨kb, kr, bb⟩ := two_sblk w (snvals e x) #[.int .i64 0, .slice none 0 0, .slice none 0 0, .slice none 0 0] 37 37
 obtain ⟨W0, e0⟩ : ∃ W, (w.alloc (.cells (snvals e x) 37)).alloc (.cells #[.int .i64 0, .slice none 0 0, .slice none 0 0, .slice none 0 0] 37) = W := ⟨_, rfl⟩
 rw [e0] at kb kr bb
 have EA := hide e0
 clear e0
 have HBB := hide bb
 have DL := hide (l7Less_any e x W0 (SNK.below o bb (Nat.le_refl _)) m sa sb za zb (bytesK.below oa bb (Nat.le_refl _)) (bytesK.below ob bb (Nat.le_refl _)))
 have HAT := hide (fun (W : World) (hbW : Below w.heap.size w W) => l7At_any e.2.1 sb x.2.1 zb W (RowOk.below o.2.1 hbW (Nat.le_refl _)) (bytesK.below ob hbW (Nat.le_refl _)) (by omega))
 have HOK := hide (And.intro o (And.intro m (And.intro oa (And.intro ob (And.intro hp hl)))))
 have hla : za.length = sa.n := oa.row.1
 have hlb : zb.length = sb.n := ob.row.1
 have hsa : sa.n ≤ 100000 := by omega
 have hsb : sb.n ≤ 100000 := by omega
 obtain ⟨n, zss, rs, vs⟩ := x
 obtain ⟨⟨⟩, sg, sr, sv⟩ := e
 have HKB := hide (fun (W : World) (hbW : Below W0.heap.size W0 W) => And.intro (kb.below hbW kb.lt) (kr.below hbW kr.lt))
 have z0 : w.heap.size + 1 < W0.heap.size := kr.lt
 have kb' := kb
 unfold snvals at kb'
 obtain ⟨⟨c0, c1, c2, c3⟩, _⟩ := four_blk kb'
 have HAG := hide (at_ge zb zss)
 generalize atFrom zb 0 zss = at0 at HAT HAG
 clear kb kb' kr bb o m oa ob hla hlb ha hb hp hl
 have hcs : Hid (ctSn (n, zss, rs, vs) za zb add = if add = decide (zb ∈ zss) then (n, zss, rs, vs.filter (keepV za zb)) else if 30 ≤ (vs.filter (keepV za zb)).length then (n, zss, rs, vs)
  else if 2 * tlOf zb (vtKeys (vs.filter (keepV za zb) ++ [(za, zb, add)])) ≤ zss.length then (n, zss, rs, vs.filter (keepV za zb) ++ [(za, zb, add)]) else wonSn (n, zss, rs, vs.filter (keepV za zb) ++ [(za, zb, add)]) zb add) := rfl
 have hcc : Hid (ctCode (n, zss, rs, vs) za zb add = if add = decide (zb ∈ zss) then 0 else if 30 ≤ (vs.filter (keepV za zb)).length then 2
  else if 2 * tlOf zb (vtKeys (vs.filter (keepV za zb) ++ [(za, zb, add)])) ≤ zss.length then 0 else wonCode (n, zss, rs, vs.filter (keepV za zb) ++ [(za, zb, add)]) add) := rfl
 have HFM : Hid (∀ y ∈ vs.filter (keepV za zb), y ∈ vs) := fun y hy => (List.mem_filter.1 hy).1
 have HFL : Hid ((vs.filter (keepV za zb)).length ≤ vs.length) := List.length_filter_le _ _
 generalize ctSn (n, zss, rs, vs) za zb add = XX at hcs ⊢
 generalize ctCode (n, zss, rs, vs) za zb add = CC at hcc ⊢
 unfold lessSn at DL
 generalize vs.filter (keepV za zb) = fv at DL hcs hcc HFM HFL
 unfold snvals at EA DL ⊢
 simp only at DL HAT ⊢
 go_enter Tryz.func60, Tryz.ntmps60
 go_upto_region 1 with fail
 rw [unhide EA]
 clear EA
 go_wp2_with fail
 refine (unhide DL).mono ?_
 rintro r w5 ⟨⟨⟨⟩, s5, r5, v5⟩, d5, B, rfl, hB, hB', hv, hr, b5⟩
 simp only at hv hr ⊢
 have kg := SBlk.new w5 #[.int .i64 n, .slice s5.a s5.n s5.c, .slice r5.a r5.n r5.c, .slice v5.a v5.n v5.c] 37
 have bg := below_alloc w5 (.cells #[.int .i64 n, .slice s5.a s5.n s5.c, .slice r5.a r5.n r5.c, .slice v5.a v5.n v5.c] 37)
 obtain ⟨W6, e6⟩ : ∃ W, w5.alloc (.cells #[.int .i64 n, .slice s5.a s5.n s5.c, .slice r5.a r5.n r5.c, .slice v5.a v5.n v5.c] 37) = W := ⟨_, rfl⟩
 rw [e6] at kg bg
 obtain ⟨gs, eg⟩ : ∃ g, g = w5.heap.size := ⟨_, rfl⟩
 rw [← eg] at kg
 have hz5 : W0.heap.size ≤ gs := by rw [eg]; exact b5.size
 have b06' := b5.trans (bg.mono b5.size)
 have b06 := (unhide HBB).trans (b06'.mono (unhide HBB).size)
 have DA := hide ((unhide HAT) W6 b06)
 have E6 := hide e6
 have EG := hide eg
 have HKG := hide kg
 have HX := hide (And.intro hB (And.intro hB' (And.intro hv (And.intro hr (And.intro b5 (And.intro bg (And.intro b06 b06')))))))
 obtain ⟨⟨g0, g1, g2, g3⟩, y0, y1, y2, y3⟩ := four_blk kg
 have kb6 := ((unhide HKB) W6 b06').1
 have kr6 := ((unhide HKB) W6 b06').2
 clear c0 c1 c2 c3
 unfold snvals at kb6
 obtain ⟨⟨c0, c1, c2, c3⟩, _⟩ := four_blk kb6
 obtain ⟨⟨r0, r1, r2, r3⟩, f0, f1, f2, f3⟩ := four_blk kr6
 clear kb6 kr6 e6 eg kg bg b06 b06' hB hB' hv hr b5 DL HAT
 go_upto_region 2 with (rw [unhide E6])
 try rw [unhide E6]
 clear E6
 rw [← unhide EG]
 go_wp2_with fail
 refine (unhide DA).mono ?_
 rintro r w6 ⟨rfl, rfl⟩
 have hvl : v5.n = fv.length := (unhide HX).2.2.1.len
 have hv30 : v5.n ≤ 1048576 := by have := (unhide HOK).2.1.v; have := unhide HFL; simp only at *; omega
 by_cases hc : add = decide (zb ∈ zss)
 · have hA : (add == decide (0 ≤ at0)) = true := by rw [unhide HAG, ← hc]; simp
   have hXX := (unhide hcs).trans (if_pos hc)
   have hCC := (unhide hcc).trans (if_pos hc)
   subst hXX
   subst hCC
   clear hc hcs hcc HAG hvl
   go_wp2_with fail
   obtain ⟨hB, hB', hv, hr, b5, bg, b06, b06'⟩ := unhide HX
   have eg := unhide EG
   have HF := set4 b06 (Nat.le_succ w.heap.size) (.int .i64 n) (.slice s5.a s5.n s5.c) (.slice r5.a r5.n r5.c) (.slice v5.a v5.n v5.c)
   have stF : ∀ g, W0.heap.size + 2 ≤ g → g < w5.heap.size → _ = w5.heap[g]? := fun g h1 h2 => (other4 (w := w6) (k := g) (g := w.heap.size + 1) (by omega) (.int .i64 n) (.slice s5.a s5.n s5.c) (.slice r5.a r5.n r5.c) (.slice v5.a v5.n v5.c)).trans (bg.block g h2)
   refine bodyPost_ret (v := .tuple #[.agg #[.int .i64 n, .slice s5.a s5.n s5.c, .slice r5.a r5.n r5.c, .slice v5.a v5.n v5.c], .int .i64 0]) (by simp [results, Tryz.results60, go_sem, r0, r1, r2, r3]) rfl ⟨(), s5, r5, v5, rfl, fun W hW _ => ?_, HF⟩
   have sF := size4 w6 (w.heap.size + 1) (.int .i64 n) (.slice s5.a s5.n s5.c) (.slice r5.a r5.n r5.c) (.slice v5.a v5.n v5.c)
   have sg6 := bg.size
   have stW : ∀ g, W0.heap.size + 2 ≤ g → g < w5.heap.size → W.heap[g]? = w5.heap[g]? := fun g h1 h2 => (hW g (by omega) (by rw [sF]; omega)).trans (stF g h1 h2)
   obtain ⟨q1, q2⟩ := hr W (fun g h1 h2 => stW g h1 (by omega))
   exact ⟨(unhide HOK).1.1, q1, q2, (hv.frame (fun g a b c => stW g (by omega) a)).own.ok⟩
 have hA : (add == decide (0 ≤ at0)) = false := by rw [unhide HAG]; simpa using hc
 have hXX := (unhide hcs).trans (if_neg hc)
 have hCC := (unhide hcc).trans (if_neg hc)
 have HC := hide hc
 clear hcs hcc HAG hc
 by_cases h30 : 30 ≤ fv.length
 · rw [if_pos h30] at hXX hCC
   subst hXX
   subst hCC
   have h30' : 30 ≤ v5.n := by omega
   clear hvl
   go_wp2_with fail
   obtain ⟨hB, hB', hv, hr, b5, bg, b06, b06'⟩ := unhide HX
   have HF := set4 b06 (Nat.le_succ w.heap.size) (.int .i64 n) (.slice sg.a sg.n sg.c) (.slice sr.a sr.n sr.c) (.slice sv.a sv.n sv.c)
   exact bodyPost_ret (v := .tuple #[.agg #[.int .i64 n, .slice sg.a sg.n sg.c, .slice sr.a sr.n sr.c, .slice sv.a sv.n sv.c], .int .i64 2]) (by simp [results, Tryz.results60, go_sem, r0, r1, r2, r3]) rfl ⟨(), sg, sr, sv, rfl, fun W _ h => h, HF⟩
 rw [if_neg h30] at hXX hCC
 have h30' : ¬ 30 ≤ v5.n := by omega
 have HXX := hide hXX
 have HCC := hide hCC
 have HVL := hide hvl
 have h30v : v5.n ≤ 30 := by omega
 clear hXX hCC hvl h30
 obtain ⟨hB, hB', hv, hr, b5, bg, b06, b06'⟩ := unhide HX
 obtain ⟨es, e2, e3, e4, e5⟩ := hv.all
 have hvb := fun {y : Addr} (hy : v5.a = some y) => hv.blk hy
 have eg := unhide EG
 have hgl := (unhide HKG).lt
 have HOV : Hid (∀ W, Below w6.heap.size w6 W → W.ownsRow B 97 3 (.slice v5.a v5.n v5.c) v5.n (flatV vtK es fv)) := fun W hb => own_below (own_below e3 bg (Nat.le_refl _)) hb (Nat.le_refl _)
 have HG3 : Hid (∀ W, Below w6.heap.size w6 W → W.cell? ⟨gs, 3, none⟩ = some (.slice v5.a v5.n v5.c)) := fun W hb => ((unhide HKG).below hb hgl).cell 3
 have HCA : Hid (∀ W, Below w6.heap.size w6 W → Calls Tryz.prog 59 #[.slice sa.a sa.n sa.c] W fun r w' => ∃ (a1 : Option Addr) (c1 : Nat), r = .returned (.slice a1 sa.n c1) ∧ w'.cell? ⟨gs, 3, none⟩ = some (.slice v5.a v5.n v5.c) ∧ w'.ownsRow w6.heap.size 5 1 (.slice a1 sa.n c1) sa.n (za.map (Value.int .u8)) ∧ Below w6.heap.size w6 w') := fun W hb => by
  have oa := (unhide HOK).2.2.1
  have bw := b06.trans (hb.mono b06.size)
  refine (copy_any sa.a sa.n sa.c za W (oa.row.below bw (Nat.le_refl _)) oa.nil (by omega)).mono ?_
  rintro r w' ⟨a', c', rfl, h1, h2⟩
  have h3 := hb.trans (h2.mono hb.size)
  exact ⟨a', c', rfl, (unhide HG3) _ h3, ownsRow_base h1 hb.size, h3⟩
 have HCB : Hid (∀ W, Below w6.heap.size w6 W → Calls Tryz.prog 59 #[.slice sb.a sb.n sb.c] W fun r w' => ∃ (a1 : Option Addr) (c1 : Nat), r = .returned (.slice a1 sb.n c1) ∧ w'.cell? ⟨gs, 3, none⟩ = some (.slice v5.a v5.n v5.c) ∧ w'.ownsRow W.heap.size 5 1 (.slice a1 sb.n c1) sb.n (zb.map (Value.int .u8)) ∧ Below W.heap.size W w' ∧ Below w6.heap.size w6 w') := fun W hb => by
  have ob := (unhide HOK).2.2.2.1
  have bw := b06.trans (hb.mono b06.size)
  refine (copy_any sb.a sb.n sb.c zb W (ob.row.below bw (Nat.le_refl _)) ob.nil (by omega)).mono ?_
  rintro r w' ⟨a', c', rfl, h1, h2⟩
  have h3 := hb.trans (h2.mono hb.size)
  exact ⟨a', c', rfl, (unhide HG3) _ h3, h1, h2, h3⟩
 have HST : Hid (∀ (W1 W1' W2 : World) (a1 a2 : Option Addr) (c1 c2 g2 cap2 : Nat), Below w6.heap.size w6 W1 → W1.ownsRow w6.heap.size 5 1 (.slice a1 sa.n c1) sa.n (za.map (Value.int .u8)) → Below W1.heap.size W1 W1' → W1'.ownsRow W1.heap.size 5 1 (.slice a2 sb.n c2) sb.n (zb.map (Value.int .u8)) →
     W2.ownsRow B 97 3 (.slice (some ⟨g2, 0, none⟩) (v5.n + 1) cap2) (v5.n + 1) (flatV vtK es fv ++ [.slice a1 sa.n c1, .slice a2 sb.n c2, .bool add]) → (W1'.alloc (.cells #[.slice a1 sa.n c1, .slice a2 sb.n c2, .bool add] 97)).grownBy W2 (Value.slice v5.a v5.n v5.c).ownBlock → ((Value.slice v5.a v5.n v5.c).ownBlock = some g2 ∨ g2 = (W1'.alloc (.cells #[.slice a1 sa.n c1, .slice a2 sb.n c2, .bool add] 97)).heap.size) →
     (∃ u, W2.cell? ⟨gs, 3, none⟩ = some u) ∧ W2.frozen? ⟨gs, 3, none⟩ = false ∧ SBlk (W2.setCell ⟨gs, 3, none⟩ (.slice (some ⟨g2, 0, none⟩) (v5.n + 1) cap2)) gs [.int .i64 n, .slice s5.a s5.n s5.c, .slice r5.a r5.n r5.c, .slice (some ⟨g2, 0, none⟩) (v5.n + 1) cap2] 37 ∧ Below W0.heap.size W0 (W2.setCell ⟨gs, 3, none⟩ (.slice (some ⟨g2, 0, none⟩) (v5.n + 1) cap2)) ∧
     ∀ W : World, (∀ g, W0.heap.size + 2 ≤ g → g < W2.heap.size → ¬ g = gs → W.heap[g]? = W2.heap[g]?) → SNK.Ok W ((), s5, r5, ⟨some ⟨g2, 0, none⟩, v5.n + 1, cap2⟩) (n, zss, rs, fv ++ [(za, zb, add)])) := fun W1 W1' W2 a1 a2 c1 c2 g2 cap2 h1 h2 h3 h4 h5 h6 h7 => by
  have bA := below_alloc W1' (.cells #[.slice a1 sa.n c1, .slice a2 sb.n c2, .bool add] 97)
  obtain ⟨p1, p2, p3⟩ := cast_row (d := d5) (gs := gs) hB' eg bg hgl hv.len e2 e4 (fun x hx => hvb hx) e5 h1 h2 (unhide HOK).2.2.1.row.2.1 h3 h4 (unhide HOK).2.2.2.1.row.2.1 bA h5 h6 h7
  have hgx : ∀ x, v5.a = some x → ¬ gs = x.block := fun x hx e => by have := (hvb hx).2; omega
  have k2 : SBlk W2 gs [.int .i64 n, .slice s5.a s5.n s5.c, .slice r5.a r5.n r5.c, .slice v5.a v5.n v5.c] 37 := (p2 gs hgl (by omega) hgx).trans (unhide HKG)
  have hob : ∀ g, (Value.slice v5.a v5.n v5.c).ownBlock = some g → B ≤ g := fun g hg' => by
   cases ha : v5.a with
   | none => rw [ha] at hg'; cases hg'
   | some y => rw [ha] at hg'; obtain rfl := Option.some.inj hg'; exact (hvb ha).1
  have b6A := (h1.trans (h3.mono h1.size)).trans (bA.mono (Nat.le_trans h1.size h3.size))
  have b0A := b06'.trans (b6A.mono b06'.size)
  have b02 : Below W0.heap.size W0 W2 := b0A.grown h6 b0A.size (fun g e => by have := hob g e; omega)
  have s6 := h6.size
  refine ⟨⟨_, k2.cell 3⟩, k2.free 3, k2.set 3 _, b02.setCell (p := ⟨gs, 3, none⟩) hz5 _, fun W hW => ?_⟩
  have hlow : ∀ g, g < B → ∀ x, v5.a = some x → ¬ g = x.block := fun g hg x hx e => by have := (hvb hx).1; omega
  have sz2 : w5.heap.size ≤ W2.heap.size := by have := b6A.size; have := bg.size; omega
  obtain ⟨q1, q2⟩ := hr W (fun g a b => (hW g a (by omega) (by omega)).trans (p1 g (by omega) (hlow g b)))
  exact ⟨(unhide HOK).1.1, q1, q2, p3 W (fun g a b c => hW g (by omega) b c)⟩
 have HS5 : Hid (s5.n = zss.length) := by
  obtain ⟨q1, _⟩ := hr w5 (fun _ _ _ => rfl)
  exact q1.len
 obtain ⟨i0, hi, hz0, hz1, hz2⟩ := info_parts infoVt
 have hB6 : B ≤ w6.heap.size := Nat.le_trans hB' bg.size
 clear hB hB' hv hr b5 bg b06 b06' e2 e3 e4 e5 hvb eg hgl
 go_upto_region 6 with fail
 refine wp_region_held_drew (S := (fun _ => True)) (by kernel_rfl) (trivial) (fun hHeld => ?_)
 refine tkA 0 ?_
 try dsimp only
 refine tkA 2 ?_
 try dsimp only
 refine tkA 4 ?_
 try dsimp only
 refine tkA 6 ?_
 try dsimp only
 refine wpAnyH_ready (rs := [1, 3]) (by kernel_rfl) (by simp) ?_
 refine AllReadyH.cons (o := _) rfl (fun K hK => ?_) ?_
 · skip
   go_simp
   refine hK.out _ _ (trivial) (fun hHeld => ?_)
   clear hK K
   try dsimp only
   refine rdA 3 (fun K hK => ?_)
   go_simp
   go_at_call 59
   refine ((unhide HCA) _ (by first | exact (Below.refl w6.heap.size w6).drew | exact below_drewN (Below.refl w6.heap.size w6) _ | exact Below.refl w6.heap.size w6)).mono ?_
   rintro r W1 ⟨a1, c1, rfl, m3, o1, b1⟩
   (try dsimp only)
   refine hK.out _ _ (trivial) (fun hHeld => ?_)
   clear hK K
   try dsimp only
   refine rdA 5 (fun K hK => ?_)
   go_simp
   go_at_call 59
   refine ((unhide HCB) _ b1).mono ?_
   rintro r W1' ⟨a2, c2, rfl, m3', o2, b2, b12⟩
   have m3a : ∀ o, (W1'.alloc o).cell? ⟨gs, 3, none⟩ = some (.slice v5.a v5.n v5.c) := fun o => ((below_alloc W1' o).cell (lt_of_cell m3')).trans m3'
   (try dsimp only)
   refine hK.out _ _ (trivial) (fun hHeld => ?_)
   clear hK K
   try dsimp only
   refine tkA 7 ?_
   try dsimp only
   refine rdA 8 (fun K hK => ?_)
   go_simp
   refine hK.out _ _ (trivial) (fun hHeld => ?_)
   clear hK K
   try dsimp only
   refine rdA 9 (fun K hK => ?_)
   refine step_append_lies _ (by rfl) (.tmp 29) (.tmp 36) 35 (by rfl) B 97 i0 (.agg #[.slice none 0 0, .slice none 0 0, .bool false]) 3 56 Tryz.underlying35 hi hz0 hz1 hz2 rfl (by decide) _ _ _ (by rfl) (by exact ((unhide HOV) _ b12).alloc _) ⟨W1'.heap.size, 0, none⟩ 1 1 [.slice a1 sa.n c1, .slice a2 sb.n c2, .bool add] (by rfl) rfl (by exact three_at _ _ _ _ _) (by simp [Value.oneCell']) (by omega) (by unfold maxLen; omega) (by omega) (by simp; have := b12.size; omega) _ rfl ?_
   intro gn cap2 W2 hown2 hgrow2 hat2 hlt2
   obtain ⟨⟨u10, hu10⟩, hf10, I2⟩ := (unhide HST) W1 W1' W2 a1 a2 c1 c2 gn cap2 b1 o1 b2 o2 hown2 hgrow2 hat2
   have HI2 := hide I2
   clear I2 hown2 hgrow2 hat2 hlt2 o1 o2 b2 b12 b1
   refine hK.out _ _ (trivial) (fun hHeld => ?_)
   clear hK K
   try dsimp only
   refine tkA 10 ?_
   try dsimp only
   refine rdA 11 (fun K hK => ?_)
   go_simp
   refine hK.out _ _ (trivial) (fun hHeld => ?_)
   clear hK K
   try dsimp only
   refine wpAnyH_done (by kernel_rfl) ?_ _
   obtain ⟨k8, b08, ok8⟩ := unhide HI2
   obtain ⟨w8, e8⟩ : ∃ W, W2.setCell ⟨gs, 3, none⟩ (.slice (some ⟨gn, 0, none⟩) (v5.n + 1) cap2) = W := ⟨_, rfl⟩
   have h8 : ∀ k, ¬ k = gs → w8.heap[k]? = W2.heap[k]? := fun k hk => by rw [← e8]; exact heap_setCell_other W2 ⟨gs, 3, none⟩ k _ hk
   have s8 : w8.heap.size = W2.heap.size := by rw [← e8]; simp [World.setCell]
   rw [e8] at k8 b08 ⊢
   obtain ⟨oW, mW, oaW, obW, hpW, hlW⟩ := unhide HOK
   have ok88 := ok8 w8 (fun g _ _ h => h8 g h)
   have bw8 := (unhide HBB).trans (b08.mono (unhide HBB).size)
   have lfv : v5.n = fv.length := unhide HVL
   have m8 : SnSm (n, zss, rs, fv ++ [(za, zb, add)]) := ⟨mW.s, mW.sz, mW.r, mW.rz, by show (fv ++ [_]).length ≤ _; rw [List.length_append]; simp; omega, fun y hy => by
    have hy' : y ∈ fv ++ [(za, zb, add)] := hy
    rcases List.mem_append.1 hy' with h | h
    · exact mW.vz y ((unhide HFM) y h)
    · simp at h
      subst h
      have h1 : za.length = sa.n := oaW.row.1
      have h2 : zb.length = sb.n := obW.row.1
      unfold vtSz
      simp only
      omega⟩
   have hd : add = false → zb ∈ zss := fun h => by
    have hc := unhide HC
    rcases Decidable.em (zb ∈ zss) with h' | h'
    · exact h'
    · exact absurd (by rw [h, decide_eq_false h']) hc
   have DT : Hid (∀ W, Below w8.heap.size w8 W → Calls Tryz.prog 91 #[.pointer (some ⟨gs, 0, none⟩), .slice sb.a sb.n sb.c] W fun r w' => r = .returned (.int .i64 (tlOf zb (vtKeys (fv ++ [(za, zb, add)])) : Nat)) ∧ Below w8.heap.size w8 w') := fun W hb => by
    refine (l7Tally_any gs ((), s5, r5, ⟨some ⟨gn, 0, none⟩, v5.n + 1, cap2⟩) (n, zss, rs, fv ++ [(za, zb, add)]) 37 sb zb W (k8.below hb k8.lt) (RowOk.below ok88.2.2.2 hb (Nat.le_refl _)) (bytesK.below obW (bw8.trans (hb.mono bw8.size)) (Nat.le_refl _)) m8.v).mono ?_
    rintro r w' ⟨rfl, rfl⟩
    exact ⟨rfl, hb⟩
   have DW := hide (fun (W : World) (hb : Below w8.heap.size w8 W) => l7Won_any ((), s5, r5, ⟨some ⟨gn, 0, none⟩, v5.n + 1, cap2⟩) (n, zss, rs, fv ++ [(za, zb, add)]) sb zb add W (SNK.below ok88 hb (Nat.le_refl _)) m8 (bytesK.below obW (bw8.trans (hb.mono bw8.size)) (Nat.le_refl _)) (by have h2 : zb.length = sb.n := obW.row.1; omega) hpW hlW hd)
   have hT0 : tlOf zb (vtKeys (fv ++ [(za, zb, add)])) ≤ 31 := by have := tlOf_le zb (fv ++ [(za, zb, add)]); rw [List.length_append] at this; simp at this; omega
   have hXX := unhide HXX
   have hCC := unhide HCC
   generalize tlOf zb (vtKeys (fv ++ [(za, zb, add)])) = T0 at DT hXX hCC hT0
   clear r0 r1 r2 r3 f0 f1 f2 f3 g0 g1 g2 g3 y0 y1 y2 y3
   have HK8 := hide (fun (W : World) (hb : Below w8.heap.size w8 W) => k8.below hb k8.lt)
   have HG1 : Hid (∀ W, Below w8.heap.size w8 W → (fun W => W.cell? ⟨gs, 1, none⟩ = some (.slice s5.a s5.n s5.c)) W) := fun W hb => (k8.below hb k8.lt).cell 1
   have HY := hide (And.intro b08 (And.intro ok8 (And.intro h8 s8)))
   have zw8 : W0.heap.size ≤ w8.heap.size := b08.size
   clear oW mW oaW obW hpW hlW ok88 m8 hd e8 ok8 h8 s8 k8 HI2 hu10 hf10 m3 lfv b08
   go_wp2_with fail
   go_region_held3 (fun W => W.cell? ⟨gs, 1, none⟩ = some (.slice s5.a s5.n s5.c))
    (exact (unhide HG1) _ (by first | assumption | exact (Below.refl w8.heap.size w8).drew | exact below_drewN (Below.refl w8.heap.size w8) _ | exact below_drewN (by assumption) _))
    (first | (go_at_call 91; refine ((unhide DT) _ (by first | exact (Below.refl w8.heap.size w8).drew | exact below_drewN (Below.refl w8.heap.size w8) _ | exact Below.refl w8.heap.size w8)).mono ?_; rintro r w9 ⟨rfl, JJ⟩))
   all_goals
    obtain ⟨b08, ok8', h8, s8⟩ := unhide HY
    have b09 : Below W0.heap.size W0 w9 := b08.trans (JJ.mono b08.size)
    have k9 := (unhide HK8) w9 JJ
    have kr9 := ((unhide HKB) w9 b09).2
    have ok9 : ∀ W : World, (∀ g, W0.heap.size + 2 ≤ g → g < w9.heap.size → ¬ g = gs → W.heap[g]? = w9.heap[g]?) → SNK.Ok W ((), s5, r5, ⟨some ⟨gn, 0, none⟩, v5.n + 1, cap2⟩) (n, zss, rs, fv ++ [(za, zb, add)]) := fun W hW => ok8' W (fun g a b c => (hW g a (by have := JJ.size; omega) c).trans ((JJ.block g (by omega)).trans (h8 g c)))
    have bw9 := (unhide HBB).trans (b09.mono (unhide HBB).size)
    have zw9 : W0.heap.size ≤ w9.heap.size := b09.size
    have DW := hide ((unhide DW) w9 JJ)
    obtain ⟨⟨g0', g1', g2', g3'⟩, _⟩ := four_blk k9
    have HY := hide (And.intro ok9 bw9)
    clear b08 ok8' h8 s8 b09 k9 ok9 bw9 JJ
    have hw2 : IntKind.i64.wrap (2 * (T0 : Int)) = 2 * (T0 : Int) := by
     have hT : (T0 : Int) ≤ 31 := by omega
     have hT' : (0 : Int) ≤ (T0 : Int) := by omega
     exact wrap2 hT' hT
    by_cases h2 : 2 * T0 ≤ zss.length
    · have hs5 : s5.n = zss.length := unhide HS5
      have h2' : 2 * T0 ≤ s5.n := by omega
      have h2i : (2 : Int) * (T0 : Int) ≤ (s5.n : Int) := by omega
      rw [if_pos h2] at hXX hCC
      subst hXX
      subst hCC
      obtain ⟨⟨r0, r1, r2, r3⟩, f0, f1, f2, f3⟩ := four_blk kr9
      have HS5' := hide hs5
      clear kr9 DW h2 hs5
      go_wp2_with fail
      obtain ⟨ok9, bw9⟩ := unhide HY
      have HF := set4 bw9 (Nat.le_succ w.heap.size) (.int .i64 n) (.slice s5.a s5.n s5.c) (.slice r5.a r5.n r5.c) (.slice (some ⟨gn, 0, none⟩) (v5.n + 1) cap2)
      have sF := size4 w9 (w.heap.size + 1) (.int .i64 n) (.slice s5.a s5.n s5.c) (.slice r5.a r5.n r5.c) (.slice (some ⟨gn, 0, none⟩) (v5.n + 1) cap2)
      have hOk : ∀ W : World, Std w.heap.size _ W → SNK.Ok W ((), s5, r5, ⟨some ⟨gn, 0, none⟩, v5.n + 1, cap2⟩) (n, zss, rs, fv ++ [(za, zb, add)]) := fun W hW => ok9 W (fun g a b c => (hW g (by omega) (by rw [sF]; exact b)).trans (other4 (w := w9) (k := g) (g := w.heap.size + 1) (by omega) (.int .i64 n) (.slice s5.a s5.n s5.c) (.slice r5.a r5.n r5.c) (.slice (some ⟨gn, 0, none⟩) (v5.n + 1) cap2)))
      exact bodyPost_ret (v := .tuple #[.agg #[.int .i64 n, .slice s5.a s5.n s5.c, .slice r5.a r5.n r5.c, .slice (some ⟨gn, 0, none⟩) (v5.n + 1) cap2], .int .i64 0]) (by simp [results, Tryz.results60, go_sem, r0, r1, r2, r3]) rfl (by first | exact ⟨((), s5, r5, ⟨some ⟨gn, 0, none⟩, v5.n + 1, cap2⟩), rfl, fun W hW _ => hOk W hW, HF⟩ | exact ⟨(), s5, r5, ⟨some ⟨gn, 0, none⟩, v5.n + 1, cap2⟩, rfl, fun W hW _ => hOk W hW, HF⟩)
    · have hs5 : s5.n = zss.length := unhide HS5
      have h2' : ¬ 2 * T0 ≤ s5.n := by omega
      have h2i : ¬ (2 : Int) * (T0 : Int) ≤ (s5.n : Int) := by omega
      rw [if_neg h2] at hXX hCC
      have HS5' := hide hs5
      have HKR := hide kr9
      clear kr9 h2 hs5
      unfold snvals at DW
      simp only at DW
      rw [← hXX, ← hCC] at DW
      clear hXX hCC
      go_wp2_with fail
      refine (unhide DW).mono ?_
      rintro r w10 ⟨⟨⟨⟩, s10, r10, v10⟩, rfl, ok10, b10⟩
      have kr10 := (unhide HKR).below b10 (unhide HKR).lt
      obtain ⟨⟨r0, r1, r2, r3⟩, f0, f1, f2, f3⟩ := four_blk kr10
      have HZ := hide (And.intro ok10 b10)
      clear kr10 ok10 b10
      simp only
      go_wp2_with fail
      obtain ⟨ok9, bw9⟩ := unhide HY
      obtain ⟨ok10, b10⟩ := unhide HZ
      have bw10 := bw9.trans (b10.mono bw9.size)
      have z10 := b10.size
      have HF := set4 bw10 (Nat.le_succ w.heap.size) (.int .i64 XX.1) (.slice s10.a s10.n s10.c) (.slice r10.a r10.n r10.c) (.slice v10.a v10.n v10.c)
      have sF := size4 w10 (w.heap.size + 1) (.int .i64 XX.1) (.slice s10.a s10.n s10.c) (.slice r10.a r10.n r10.c) (.slice v10.a v10.n v10.c)
      have oF : ∀ k, ¬ k = w.heap.size + 1 → _ = w10.heap[k]? := fun k hk => other4 (w := w10) (k := k) (g := w.heap.size + 1) hk (.int .i64 XX.1) (.slice s10.a s10.n s10.c) (.slice r10.a r10.n r10.c) (.slice v10.a v10.n v10.c)
      have hOk : ∀ W : World, Std w.heap.size _ W → SNK.Ok W ((), s10, r10, v10) XX := fun W hW => ok10 W (fun g a b => (hW g (by omega) (by rw [sF]; exact b)).trans (oF g (by omega))) (ok9 W (fun g a b c => (hW g (by omega) (by rw [sF]; omega)).trans ((oF g (by omega)).trans (b10.block g b))))
      exact bodyPost_ret (v := .tuple #[.agg #[.int .i64 XX.1, .slice s10.a s10.n s10.c, .slice r10.a r10.n r10.c, .slice v10.a v10.n v10.c], .int .i64 CC]) (by simp [results, Tryz.results60, go_sem, r0, r1, r2, r3]) rfl (by first | exact ⟨((), s10, r10, v10), rfl, fun W hW _ => hOk W hW, HF⟩ | exact ⟨(), s10, r10, v10, rfl, fun W hW _ => hOk W hW, HF⟩)
 refine AllReadyH.cons (o := _) rfl (fun K hK => ?_) AllReadyH.nil
 go_simp
 go_at_call 59
 refine ((unhide HCA) _ (by first | exact (Below.refl w6.heap.size w6).drew | exact below_drewN (Below.refl w6.heap.size w6) _ | exact Below.refl w6.heap.size w6)).mono ?_
 rintro r W1 ⟨a1, c1, rfl, m3, o1, b1⟩
 (try dsimp only)
 refine hK.out _ _ (trivial) (fun hHeld => ?_)
 clear hK K
 try dsimp only
 refine wpAnyH_ready (rs := [1, 5]) (by kernel_rfl) (by simp) ?_
 refine AllReadyH.cons (o := _) rfl (fun K hK => ?_) ?_
 · skip
   go_simp
   refine hK.out _ _ (trivial) (fun hHeld => ?_)
   clear hK K
   try dsimp only
   refine rdA 5 (fun K hK => ?_)
   go_simp
   go_at_call 59
   refine ((unhide HCB) _ b1).mono ?_
   rintro r W1' ⟨a2, c2, rfl, m3', o2, b2, b12⟩
   have m3a : ∀ o, (W1'.alloc o).cell? ⟨gs, 3, none⟩ = some (.slice v5.a v5.n v5.c) := fun o => ((below_alloc W1' o).cell (lt_of_cell m3')).trans m3'
   (try dsimp only)
   refine hK.out _ _ (trivial) (fun hHeld => ?_)
   clear hK K
   try dsimp only
   refine tkA 7 ?_
   try dsimp only
   refine rdA 8 (fun K hK => ?_)
   go_simp
   refine hK.out _ _ (trivial) (fun hHeld => ?_)
   clear hK K
   try dsimp only
   refine rdA 9 (fun K hK => ?_)
   refine step_append_lies _ (by rfl) (.tmp 29) (.tmp 36) 35 (by rfl) B 97 i0 (.agg #[.slice none 0 0, .slice none 0 0, .bool false]) 3 56 Tryz.underlying35 hi hz0 hz1 hz2 rfl (by decide) _ _ _ (by rfl) (by exact ((unhide HOV) _ b12).alloc _) ⟨W1'.heap.size, 0, none⟩ 1 1 [.slice a1 sa.n c1, .slice a2 sb.n c2, .bool add] (by rfl) rfl (by exact three_at _ _ _ _ _) (by simp [Value.oneCell']) (by omega) (by unfold maxLen; omega) (by omega) (by simp; have := b12.size; omega) _ rfl ?_
   intro gn cap2 W2 hown2 hgrow2 hat2 hlt2
   obtain ⟨⟨u10, hu10⟩, hf10, I2⟩ := (unhide HST) W1 W1' W2 a1 a2 c1 c2 gn cap2 b1 o1 b2 o2 hown2 hgrow2 hat2
   have HI2 := hide I2
   clear I2 hown2 hgrow2 hat2 hlt2 o1 o2 b2 b12 b1
   refine hK.out _ _ (trivial) (fun hHeld => ?_)
   clear hK K
   try dsimp only
   refine tkA 10 ?_
   try dsimp only
   refine rdA 11 (fun K hK => ?_)
   go_simp
   refine hK.out _ _ (trivial) (fun hHeld => ?_)
   clear hK K
   try dsimp only
   refine wpAnyH_done (by kernel_rfl) ?_ _
   obtain ⟨k8, b08, ok8⟩ := unhide HI2
   obtain ⟨w8, e8⟩ : ∃ W, W2.setCell ⟨gs, 3, none⟩ (.slice (some ⟨gn, 0, none⟩) (v5.n + 1) cap2) = W := ⟨_, rfl⟩
   have h8 : ∀ k, ¬ k = gs → w8.heap[k]? = W2.heap[k]? := fun k hk => by rw [← e8]; exact heap_setCell_other W2 ⟨gs, 3, none⟩ k _ hk
   have s8 : w8.heap.size = W2.heap.size := by rw [← e8]; simp [World.setCell]
   rw [e8] at k8 b08 ⊢
   obtain ⟨oW, mW, oaW, obW, hpW, hlW⟩ := unhide HOK
   have ok88 := ok8 w8 (fun g _ _ h => h8 g h)
   have bw8 := (unhide HBB).trans (b08.mono (unhide HBB).size)
   have lfv : v5.n = fv.length := unhide HVL
   have m8 : SnSm (n, zss, rs, fv ++ [(za, zb, add)]) := ⟨mW.s, mW.sz, mW.r, mW.rz, by show (fv ++ [_]).length ≤ _; rw [List.length_append]; simp; omega, fun y hy => by
    have hy' : y ∈ fv ++ [(za, zb, add)] := hy
    rcases List.mem_append.1 hy' with h | h
    · exact mW.vz y ((unhide HFM) y h)
    · simp at h
      subst h
      have h1 : za.length = sa.n := oaW.row.1
      have h2 : zb.length = sb.n := obW.row.1
      unfold vtSz
      simp only
      omega⟩
   have hd : add = false → zb ∈ zss := fun h => by
    have hc := unhide HC
    rcases Decidable.em (zb ∈ zss) with h' | h'
    · exact h'
    · exact absurd (by rw [h, decide_eq_false h']) hc
   have DT : Hid (∀ W, Below w8.heap.size w8 W → Calls Tryz.prog 91 #[.pointer (some ⟨gs, 0, none⟩), .slice sb.a sb.n sb.c] W fun r w' => r = .returned (.int .i64 (tlOf zb (vtKeys (fv ++ [(za, zb, add)])) : Nat)) ∧ Below w8.heap.size w8 w') := fun W hb => by
    refine (l7Tally_any gs ((), s5, r5, ⟨some ⟨gn, 0, none⟩, v5.n + 1, cap2⟩) (n, zss, rs, fv ++ [(za, zb, add)]) 37 sb zb W (k8.below hb k8.lt) (RowOk.below ok88.2.2.2 hb (Nat.le_refl _)) (bytesK.below obW (bw8.trans (hb.mono bw8.size)) (Nat.le_refl _)) m8.v).mono ?_
    rintro r w' ⟨rfl, rfl⟩
    exact ⟨rfl, hb⟩
   have DW := hide (fun (W : World) (hb : Below w8.heap.size w8 W) => l7Won_any ((), s5, r5, ⟨some ⟨gn, 0, none⟩, v5.n + 1, cap2⟩) (n, zss, rs, fv ++ [(za, zb, add)]) sb zb add W (SNK.below ok88 hb (Nat.le_refl _)) m8 (bytesK.below obW (bw8.trans (hb.mono bw8.size)) (Nat.le_refl _)) (by have h2 : zb.length = sb.n := obW.row.1; omega) hpW hlW hd)
   have hT0 : tlOf zb (vtKeys (fv ++ [(za, zb, add)])) ≤ 31 := by have := tlOf_le zb (fv ++ [(za, zb, add)]); rw [List.length_append] at this; simp at this; omega
   have hXX := unhide HXX
   have hCC := unhide HCC
   generalize tlOf zb (vtKeys (fv ++ [(za, zb, add)])) = T0 at DT hXX hCC hT0
   clear r0 r1 r2 r3 f0 f1 f2 f3 g0 g1 g2 g3 y0 y1 y2 y3
   have HK8 := hide (fun (W : World) (hb : Below w8.heap.size w8 W) => k8.below hb k8.lt)
   have HG1 : Hid (∀ W, Below w8.heap.size w8 W → (fun W => W.cell? ⟨gs, 1, none⟩ = some (.slice s5.a s5.n s5.c)) W) := fun W hb => (k8.below hb k8.lt).cell 1
   have HY := hide (And.intro b08 (And.intro ok8 (And.intro h8 s8)))
   have zw8 : W0.heap.size ≤ w8.heap.size := b08.size
   clear oW mW oaW obW hpW hlW ok88 m8 hd e8 ok8 h8 s8 k8 HI2 hu10 hf10 m3 lfv b08
   go_wp2_with fail
   go_region_held3 (fun W => W.cell? ⟨gs, 1, none⟩ = some (.slice s5.a s5.n s5.c))
    (exact (unhide HG1) _ (by first | assumption | exact (Below.refl w8.heap.size w8).drew | exact below_drewN (Below.refl w8.heap.size w8) _ | exact below_drewN (by assumption) _))
    (first | (go_at_call 91; refine ((unhide DT) _ (by first | exact (Below.refl w8.heap.size w8).drew | exact below_drewN (Below.refl w8.heap.size w8) _ | exact Below.refl w8.heap.size w8)).mono ?_; rintro r w9 ⟨rfl, JJ⟩))
   all_goals
    obtain ⟨b08, ok8', h8, s8⟩ := unhide HY
    have b09 : Below W0.heap.size W0 w9 := b08.trans (JJ.mono b08.size)
    have k9 := (unhide HK8) w9 JJ
    have kr9 := ((unhide HKB) w9 b09).2
    have ok9 : ∀ W : World, (∀ g, W0.heap.size + 2 ≤ g → g < w9.heap.size → ¬ g = gs → W.heap[g]? = w9.heap[g]?) → SNK.Ok W ((), s5, r5, ⟨some ⟨gn, 0, none⟩, v5.n + 1, cap2⟩) (n, zss, rs, fv ++ [(za, zb, add)]) := fun W hW => ok8' W (fun g a b c => (hW g a (by have := JJ.size; omega) c).trans ((JJ.block g (by omega)).trans (h8 g c)))
    have bw9 := (unhide HBB).trans (b09.mono (unhide HBB).size)
    have zw9 : W0.heap.size ≤ w9.heap.size := b09.size
    have DW := hide ((unhide DW) w9 JJ)
    obtain ⟨⟨g0', g1', g2', g3'⟩, _⟩ := four_blk k9
    have HY := hide (And.intro ok9 bw9)
    clear b08 ok8' h8 s8 b09 k9 ok9 bw9 JJ
    have hw2 : IntKind.i64.wrap (2 * (T0 : Int)) = 2 * (T0 : Int) := by
     have hT : (T0 : Int) ≤ 31 := by omega
     have hT' : (0 : Int) ≤ (T0 : Int) := by omega
     exact wrap2 hT' hT
    by_cases h2 : 2 * T0 ≤ zss.length
    · have hs5 : s5.n = zss.length := unhide HS5
      have h2' : 2 * T0 ≤ s5.n := by omega
      have h2i : (2 : Int) * (T0 : Int) ≤ (s5.n : Int) := by omega
      rw [if_pos h2] at hXX hCC
      subst hXX
      subst hCC
      obtain ⟨⟨r0, r1, r2, r3⟩, f0, f1, f2, f3⟩ := four_blk kr9
      have HS5' := hide hs5
      clear kr9 DW h2 hs5
      go_wp2_with fail
      obtain ⟨ok9, bw9⟩ := unhide HY
      have HF := set4 bw9 (Nat.le_succ w.heap.size) (.int .i64 n) (.slice s5.a s5.n s5.c) (.slice r5.a r5.n r5.c) (.slice (some ⟨gn, 0, none⟩) (v5.n + 1) cap2)
      have sF := size4 w9 (w.heap.size + 1) (.int .i64 n) (.slice s5.a s5.n s5.c) (.slice r5.a r5.n r5.c) (.slice (some ⟨gn, 0, none⟩) (v5.n + 1) cap2)
      have hOk : ∀ W : World, Std w.heap.size _ W → SNK.Ok W ((), s5, r5, ⟨some ⟨gn, 0, none⟩, v5.n + 1, cap2⟩) (n, zss, rs, fv ++ [(za, zb, add)]) := fun W hW => ok9 W (fun g a b c => (hW g (by omega) (by rw [sF]; exact b)).trans (other4 (w := w9) (k := g) (g := w.heap.size + 1) (by omega) (.int .i64 n) (.slice s5.a s5.n s5.c) (.slice r5.a r5.n r5.c) (.slice (some ⟨gn, 0, none⟩) (v5.n + 1) cap2)))
      exact bodyPost_ret (v := .tuple #[.agg #[.int .i64 n, .slice s5.a s5.n s5.c, .slice r5.a r5.n r5.c, .slice (some ⟨gn, 0, none⟩) (v5.n + 1) cap2], .int .i64 0]) (by simp [results, Tryz.results60, go_sem, r0, r1, r2, r3]) rfl (by first | exact ⟨((), s5, r5, ⟨some ⟨gn, 0, none⟩, v5.n + 1, cap2⟩), rfl, fun W hW _ => hOk W hW, HF⟩ | exact ⟨(), s5, r5, ⟨some ⟨gn, 0, none⟩, v5.n + 1, cap2⟩, rfl, fun W hW _ => hOk W hW, HF⟩)
    · have hs5 : s5.n = zss.length := unhide HS5
      have h2' : ¬ 2 * T0 ≤ s5.n := by omega
      have h2i : ¬ (2 : Int) * (T0 : Int) ≤ (s5.n : Int) := by omega
      rw [if_neg h2] at hXX hCC
      have HS5' := hide hs5
      have HKR := hide kr9
      clear kr9 h2 hs5
      unfold snvals at DW
      simp only at DW
      rw [← hXX, ← hCC] at DW
      clear hXX hCC
      go_wp2_with fail
      refine (unhide DW).mono ?_
      rintro r w10 ⟨⟨⟨⟩, s10, r10, v10⟩, rfl, ok10, b10⟩
      have kr10 := (unhide HKR).below b10 (unhide HKR).lt
      obtain ⟨⟨r0, r1, r2, r3⟩, f0, f1, f2, f3⟩ := four_blk kr10
      have HZ := hide (And.intro ok10 b10)
      clear kr10 ok10 b10
      simp only
      go_wp2_with fail
      obtain ⟨ok9, bw9⟩ := unhide HY
      obtain ⟨ok10, b10⟩ := unhide HZ
      have bw10 := bw9.trans (b10.mono bw9.size)
      have z10 := b10.size
      have HF := set4 bw10 (Nat.le_succ w.heap.size) (.int .i64 XX.1) (.slice s10.a s10.n s10.c) (.slice r10.a r10.n r10.c) (.slice v10.a v10.n v10.c)
      have sF := size4 w10 (w.heap.size + 1) (.int .i64 XX.1) (.slice s10.a s10.n s10.c) (.slice r10.a r10.n r10.c) (.slice v10.a v10.n v10.c)
      have oF : ∀ k, ¬ k = w.heap.size + 1 → _ = w10.heap[k]? := fun k hk => other4 (w := w10) (k := k) (g := w.heap.size + 1) hk (.int .i64 XX.1) (.slice s10.a s10.n s10.c) (.slice r10.a r10.n r10.c) (.slice v10.a v10.n v10.c)
      have hOk : ∀ W : World, Std w.heap.size _ W → SNK.Ok W ((), s10, r10, v10) XX := fun W hW => ok10 W (fun g a b => (hW g (by omega) (by rw [sF]; exact b)).trans (oF g (by omega))) (ok9 W (fun g a b c => (hW g (by omega) (by rw [sF]; omega)).trans ((oF g (by omega)).trans (b10.block g b))))
      exact bodyPost_ret (v := .tuple #[.agg #[.int .i64 XX.1, .slice s10.a s10.n s10.c, .slice r10.a r10.n r10.c, .slice v10.a v10.n v10.c], .int .i64 CC]) (by simp [results, Tryz.results60, go_sem, r0, r1, r2, r3]) rfl (by first | exact ⟨((), s10, r10, v10), rfl, fun W hW _ => hOk W hW, HF⟩ | exact ⟨(), s10, r10, v10, rfl, fun W hW _ => hOk W hW, HF⟩)
 refine AllReadyH.cons (o := _) rfl (fun K hK => ?_) AllReadyH.nil
 go_simp
 go_at_call 59
 refine ((unhide HCB) _ b1).mono ?_
 rintro r W1' ⟨a2, c2, rfl, m3', o2, b2, b12⟩
 have m3a : ∀ o, (W1'.alloc o).cell? ⟨gs, 3, none⟩ = some (.slice v5.a v5.n v5.c) := fun o => ((below_alloc W1' o).cell (lt_of_cell m3')).trans m3'
 (try dsimp only)
 refine hK.out _ _ (trivial) (fun hHeld => ?_)
 clear hK K
 try dsimp only
 refine tkA 7 ?_
 try dsimp only
 refine wpAnyH_ready (rs := [1, 8]) (by kernel_rfl) (by simp) ?_
 refine AllReadyH.cons (o := _) rfl (fun K hK => ?_) ?_
 · skip
   go_simp
   refine hK.out _ _ (trivial) (fun hHeld => ?_)
   clear hK K
   try dsimp only
   refine rdA 8 (fun K hK => ?_)
   go_simp
   refine hK.out _ _ (trivial) (fun hHeld => ?_)
   clear hK K
   try dsimp only
   refine rdA 9 (fun K hK => ?_)
   refine step_append_lies _ (by rfl) (.tmp 29) (.tmp 36) 35 (by rfl) B 97 i0 (.agg #[.slice none 0 0, .slice none 0 0, .bool false]) 3 56 Tryz.underlying35 hi hz0 hz1 hz2 rfl (by decide) _ _ _ (by rfl) (by exact ((unhide HOV) _ b12).alloc _) ⟨W1'.heap.size, 0, none⟩ 1 1 [.slice a1 sa.n c1, .slice a2 sb.n c2, .bool add] (by rfl) rfl (by exact three_at _ _ _ _ _) (by simp [Value.oneCell']) (by omega) (by unfold maxLen; omega) (by omega) (by simp; have := b12.size; omega) _ rfl ?_
   intro gn cap2 W2 hown2 hgrow2 hat2 hlt2
   obtain ⟨⟨u10, hu10⟩, hf10, I2⟩ := (unhide HST) W1 W1' W2 a1 a2 c1 c2 gn cap2 b1 o1 b2 o2 hown2 hgrow2 hat2
   have HI2 := hide I2
   clear I2 hown2 hgrow2 hat2 hlt2 o1 o2 b2 b12 b1
   refine hK.out _ _ (trivial) (fun hHeld => ?_)
   clear hK K
   try dsimp only
   refine tkA 10 ?_
   try dsimp only
   refine rdA 11 (fun K hK => ?_)
   go_simp
   refine hK.out _ _ (trivial) (fun hHeld => ?_)
   clear hK K
   try dsimp only
   refine wpAnyH_done (by kernel_rfl) ?_ _
   obtain ⟨k8, b08, ok8⟩ := unhide HI2
   obtain ⟨w8, e8⟩ : ∃ W, W2.setCell ⟨gs, 3, none⟩ (.slice (some ⟨gn, 0, none⟩) (v5.n + 1) cap2) = W := ⟨_, rfl⟩
   have h8 : ∀ k, ¬ k = gs → w8.heap[k]? = W2.heap[k]? := fun k hk => by rw [← e8]; exact heap_setCell_other W2 ⟨gs, 3, none⟩ k _ hk
   have s8 : w8.heap.size = W2.heap.size := by rw [← e8]; simp [World.setCell]
   rw [e8] at k8 b08 ⊢
   obtain ⟨oW, mW, oaW, obW, hpW, hlW⟩ := unhide HOK
   have ok88 := ok8 w8 (fun g _ _ h => h8 g h)
   have bw8 := (unhide HBB).trans (b08.mono (unhide HBB).size)
   have lfv : v5.n = fv.length := unhide HVL
   have m8 : SnSm (n, zss, rs, fv ++ [(za, zb, add)]) := ⟨mW.s, mW.sz, mW.r, mW.rz, by show (fv ++ [_]).length ≤ _; rw [List.length_append]; simp; omega, fun y hy => by
    have hy' : y ∈ fv ++ [(za, zb, add)] := hy
    rcases List.mem_append.1 hy' with h | h
    · exact mW.vz y ((unhide HFM) y h)
    · simp at h
      subst h
      have h1 : za.length = sa.n := oaW.row.1
      have h2 : zb.length = sb.n := obW.row.1
      unfold vtSz
      simp only
      omega⟩
   have hd : add = false → zb ∈ zss := fun h => by
    have hc := unhide HC
    rcases Decidable.em (zb ∈ zss) with h' | h'
    · exact h'
    · exact absurd (by rw [h, decide_eq_false h']) hc
   have DT : Hid (∀ W, Below w8.heap.size w8 W → Calls Tryz.prog 91 #[.pointer (some ⟨gs, 0, none⟩), .slice sb.a sb.n sb.c] W fun r w' => r = .returned (.int .i64 (tlOf zb (vtKeys (fv ++ [(za, zb, add)])) : Nat)) ∧ Below w8.heap.size w8 w') := fun W hb => by
    refine (l7Tally_any gs ((), s5, r5, ⟨some ⟨gn, 0, none⟩, v5.n + 1, cap2⟩) (n, zss, rs, fv ++ [(za, zb, add)]) 37 sb zb W (k8.below hb k8.lt) (RowOk.below ok88.2.2.2 hb (Nat.le_refl _)) (bytesK.below obW (bw8.trans (hb.mono bw8.size)) (Nat.le_refl _)) m8.v).mono ?_
    rintro r w' ⟨rfl, rfl⟩
    exact ⟨rfl, hb⟩
   have DW := hide (fun (W : World) (hb : Below w8.heap.size w8 W) => l7Won_any ((), s5, r5, ⟨some ⟨gn, 0, none⟩, v5.n + 1, cap2⟩) (n, zss, rs, fv ++ [(za, zb, add)]) sb zb add W (SNK.below ok88 hb (Nat.le_refl _)) m8 (bytesK.below obW (bw8.trans (hb.mono bw8.size)) (Nat.le_refl _)) (by have h2 : zb.length = sb.n := obW.row.1; omega) hpW hlW hd)
   have hT0 : tlOf zb (vtKeys (fv ++ [(za, zb, add)])) ≤ 31 := by have := tlOf_le zb (fv ++ [(za, zb, add)]); rw [List.length_append] at this; simp at this; omega
   have hXX := unhide HXX
   have hCC := unhide HCC
   generalize tlOf zb (vtKeys (fv ++ [(za, zb, add)])) = T0 at DT hXX hCC hT0
   clear r0 r1 r2 r3 f0 f1 f2 f3 g0 g1 g2 g3 y0 y1 y2 y3
   have HK8 := hide (fun (W : World) (hb : Below w8.heap.size w8 W) => k8.below hb k8.lt)
   have HG1 : Hid (∀ W, Below w8.heap.size w8 W → (fun W => W.cell? ⟨gs, 1, none⟩ = some (.slice s5.a s5.n s5.c)) W) := fun W hb => (k8.below hb k8.lt).cell 1
   have HY := hide (And.intro b08 (And.intro ok8 (And.intro h8 s8)))
   have zw8 : W0.heap.size ≤ w8.heap.size := b08.size
   clear oW mW oaW obW hpW hlW ok88 m8 hd e8 ok8 h8 s8 k8 HI2 hu10 hf10 m3 lfv b08
   go_wp2_with fail
   go_region_held3 (fun W => W.cell? ⟨gs, 1, none⟩ = some (.slice s5.a s5.n s5.c))
    (exact (unhide HG1) _ (by first | assumption | exact (Below.refl w8.heap.size w8).drew | exact below_drewN (Below.refl w8.heap.size w8) _ | exact below_drewN (by assumption) _))
    (first | (go_at_call 91; refine ((unhide DT) _ (by first | exact (Below.refl w8.heap.size w8).drew | exact below_drewN (Below.refl w8.heap.size w8) _ | exact Below.refl w8.heap.size w8)).mono ?_; rintro r w9 ⟨rfl, JJ⟩))
   all_goals
    obtain ⟨b08, ok8', h8, s8⟩ := unhide HY
    have b09 : Below W0.heap.size W0 w9 := b08.trans (JJ.mono b08.size)
    have k9 := (unhide HK8) w9 JJ
    have kr9 := ((unhide HKB) w9 b09).2
    have ok9 : ∀ W : World, (∀ g, W0.heap.size + 2 ≤ g → g < w9.heap.size → ¬ g = gs → W.heap[g]? = w9.heap[g]?) → SNK.Ok W ((), s5, r5, ⟨some ⟨gn, 0, none⟩, v5.n + 1, cap2⟩) (n, zss, rs, fv ++ [(za, zb, add)]) := fun W hW => ok8' W (fun g a b c => (hW g a (by have := JJ.size; omega) c).trans ((JJ.block g (by omega)).trans (h8 g c)))
    have bw9 := (unhide HBB).trans (b09.mono (unhide HBB).size)
    have zw9 : W0.heap.size ≤ w9.heap.size := b09.size
    have DW := hide ((unhide DW) w9 JJ)
    obtain ⟨⟨g0', g1', g2', g3'⟩, _⟩ := four_blk k9
    have HY := hide (And.intro ok9 bw9)
    clear b08 ok8' h8 s8 b09 k9 ok9 bw9 JJ
    have hw2 : IntKind.i64.wrap (2 * (T0 : Int)) = 2 * (T0 : Int) := by
     have hT : (T0 : Int) ≤ 31 := by omega
     have hT' : (0 : Int) ≤ (T0 : Int) := by omega
     exact wrap2 hT' hT
    by_cases h2 : 2 * T0 ≤ zss.length
    · have hs5 : s5.n = zss.length := unhide HS5
      have h2' : 2 * T0 ≤ s5.n := by omega
      have h2i : (2 : Int) * (T0 : Int) ≤ (s5.n : Int) := by omega
      rw [if_pos h2] at hXX hCC
      subst hXX
      subst hCC
      obtain ⟨⟨r0, r1, r2, r3⟩, f0, f1, f2, f3⟩ := four_blk kr9
      have HS5' := hide hs5
      clear kr9 DW h2 hs5
      go_wp2_with fail
      obtain ⟨ok9, bw9⟩ := unhide HY
      have HF := set4 bw9 (Nat.le_succ w.heap.size) (.int .i64 n) (.slice s5.a s5.n s5.c) (.slice r5.a r5.n r5.c) (.slice (some ⟨gn, 0, none⟩) (v5.n + 1) cap2)
      have sF := size4 w9 (w.heap.size + 1) (.int .i64 n) (.slice s5.a s5.n s5.c) (.slice r5.a r5.n r5.c) (.slice (some ⟨gn, 0, none⟩) (v5.n + 1) cap2)
      have hOk : ∀ W : World, Std w.heap.size _ W → SNK.Ok W ((), s5, r5, ⟨some ⟨gn, 0, none⟩, v5.n + 1, cap2⟩) (n, zss, rs, fv ++ [(za, zb, add)]) := fun W hW => ok9 W (fun g a b c => (hW g (by omega) (by rw [sF]; exact b)).trans (other4 (w := w9) (k := g) (g := w.heap.size + 1) (by omega) (.int .i64 n) (.slice s5.a s5.n s5.c) (.slice r5.a r5.n r5.c) (.slice (some ⟨gn, 0, none⟩) (v5.n + 1) cap2)))
      exact bodyPost_ret (v := .tuple #[.agg #[.int .i64 n, .slice s5.a s5.n s5.c, .slice r5.a r5.n r5.c, .slice (some ⟨gn, 0, none⟩) (v5.n + 1) cap2], .int .i64 0]) (by simp [results, Tryz.results60, go_sem, r0, r1, r2, r3]) rfl (by first | exact ⟨((), s5, r5, ⟨some ⟨gn, 0, none⟩, v5.n + 1, cap2⟩), rfl, fun W hW _ => hOk W hW, HF⟩ | exact ⟨(), s5, r5, ⟨some ⟨gn, 0, none⟩, v5.n + 1, cap2⟩, rfl, fun W hW _ => hOk W hW, HF⟩)
    · have hs5 : s5.n = zss.length := unhide HS5
      have h2' : ¬ 2 * T0 ≤ s5.n := by omega
      have h2i : ¬ (2 : Int) * (T0 : Int) ≤ (s5.n : Int) := by omega
      rw [if_neg h2] at hXX hCC
      have HS5' := hide hs5
      have HKR := hide kr9
      clear kr9 h2 hs5
      unfold snvals at DW
      simp only at DW
      rw [← hXX, ← hCC] at DW
      clear hXX hCC
      go_wp2_with fail
      refine (unhide DW).mono ?_
      rintro r w10 ⟨⟨⟨⟩, s10, r10, v10⟩, rfl, ok10, b10⟩
      have kr10 := (unhide HKR).below b10 (unhide HKR).lt
      obtain ⟨⟨r0, r1, r2, r3⟩, f0, f1, f2, f3⟩ := four_blk kr10
      have HZ := hide (And.intro ok10 b10)
      clear kr10 ok10 b10
      simp only
      go_wp2_with fail
      obtain ⟨ok9, bw9⟩ := unhide HY
      obtain ⟨ok10, b10⟩ := unhide HZ
      have bw10 := bw9.trans (b10.mono bw9.size)
      have z10 := b10.size
      have HF := set4 bw10 (Nat.le_succ w.heap.size) (.int .i64 XX.1) (.slice s10.a s10.n s10.c) (.slice r10.a r10.n r10.c) (.slice v10.a v10.n v10.c)
      have sF := size4 w10 (w.heap.size + 1) (.int .i64 XX.1) (.slice s10.a s10.n s10.c) (.slice r10.a r10.n r10.c) (.slice v10.a v10.n v10.c)
      have oF : ∀ k, ¬ k = w.heap.size + 1 → _ = w10.heap[k]? := fun k hk => other4 (w := w10) (k := k) (g := w.heap.size + 1) hk (.int .i64 XX.1) (.slice s10.a s10.n s10.c) (.slice r10.a r10.n r10.c) (.slice v10.a v10.n v10.c)
      have hOk : ∀ W : World, Std w.heap.size _ W → SNK.Ok W ((), s10, r10, v10) XX := fun W hW => ok10 W (fun g a b => (hW g (by omega) (by rw [sF]; exact b)).trans (oF g (by omega))) (ok9 W (fun g a b c => (hW g (by omega) (by rw [sF]; omega)).trans ((oF g (by omega)).trans (b10.block g b))))
      exact bodyPost_ret (v := .tuple #[.agg #[.int .i64 XX.1, .slice s10.a s10.n s10.c, .slice r10.a r10.n r10.c, .slice v10.a v10.n v10.c], .int .i64 CC]) (by simp [results, Tryz.results60, go_sem, r0, r1, r2, r3]) rfl (by first | exact ⟨((), s10, r10, v10), rfl, fun W hW _ => hOk W hW, HF⟩ | exact ⟨(), s10, r10, v10, rfl, fun W hW _ => hOk W hW, HF⟩)
 refine AllReadyH.cons (o := _) rfl (fun K hK => ?_) AllReadyH.nil
 go_simp
 refine hK.out _ _ (trivial) (fun hHeld => ?_)
 clear hK K
 try dsimp only
 refine rdA 1 (fun K hK => ?_)
 go_simp
 refine hK.out _ _ (trivial) (fun hHeld => ?_)
 clear hK K
 try dsimp only
 refine rdA 9 (fun K hK => ?_)
 refine step_append_lies _ (by rfl) (.tmp 29) (.tmp 36) 35 (by rfl) B 97 i0 (.agg #[.slice none 0 0, .slice none 0 0, .bool false]) 3 56 Tryz.underlying35 hi hz0 hz1 hz2 rfl (by decide) _ _ _ (by rfl) (by exact ((unhide HOV) _ b12).alloc _) ⟨W1'.heap.size, 0, none⟩ 1 1 [.slice a1 sa.n c1, .slice a2 sb.n c2, .bool add] (by rfl) rfl (by exact three_at _ _ _ _ _) (by simp [Value.oneCell']) (by omega) (by unfold maxLen; omega) (by omega) (by simp; have := b12.size; omega) _ rfl ?_
 intro gn cap2 W2 hown2 hgrow2 hat2 hlt2
 obtain ⟨⟨u10, hu10⟩, hf10, I2⟩ := (unhide HST) W1 W1' W2 a1 a2 c1 c2 gn cap2 b1 o1 b2 o2 hown2 hgrow2 hat2
 have HI2 := hide I2
 clear I2 hown2 hgrow2 hat2 hlt2 o1 o2 b2 b12 b1
 refine hK.out _ _ (trivial) (fun hHeld => ?_)
 clear hK K
 try dsimp only
 refine tkA 10 ?_
 try dsimp only
 refine rdA 11 (fun K hK => ?_)
 go_simp
 refine hK.out _ _ (trivial) (fun hHeld => ?_)
 clear hK K
 try dsimp only
 refine wpAnyH_done (by kernel_rfl) ?_ _
 obtain ⟨k8, b08, ok8⟩ := unhide HI2
 obtain ⟨w8, e8⟩ : ∃ W, W2.setCell ⟨gs, 3, none⟩ (.slice (some ⟨gn, 0, none⟩) (v5.n + 1) cap2) = W := ⟨_, rfl⟩
 have h8 : ∀ k, ¬ k = gs → w8.heap[k]? = W2.heap[k]? := fun k hk => by rw [← e8]; exact heap_setCell_other W2 ⟨gs, 3, none⟩ k _ hk
 have s8 : w8.heap.size = W2.heap.size := by rw [← e8]; simp [World.setCell]
 rw [e8] at k8 b08 ⊢
 obtain ⟨oW, mW, oaW, obW, hpW, hlW⟩ := unhide HOK
 have ok88 := ok8 w8 (fun g _ _ h => h8 g h)
 have bw8 := (unhide HBB).trans (b08.mono (unhide HBB).size)
 have lfv : v5.n = fv.length := unhide HVL
 have m8 : SnSm (n, zss, rs, fv ++ [(za, zb, add)]) := ⟨mW.s, mW.sz, mW.r, mW.rz, by show (fv ++ [_]).length ≤ _; rw [List.length_append]; simp; omega, fun y hy => by
  have hy' : y ∈ fv ++ [(za, zb, add)] := hy
  rcases List.mem_append.1 hy' with h | h
  · exact mW.vz y ((unhide HFM) y h)
  · simp at h
    subst h
    have h1 : za.length = sa.n := oaW.row.1
    have h2 : zb.length = sb.n := obW.row.1
    unfold vtSz
    simp only
    omega⟩
 have hd : add = false → zb ∈ zss := fun h => by
  have hc := unhide HC
  rcases Decidable.em (zb ∈ zss) with h' | h'
  · exact h'
  · exact absurd (by rw [h, decide_eq_false h']) hc
 have DT : Hid (∀ W, Below w8.heap.size w8 W → Calls Tryz.prog 91 #[.pointer (some ⟨gs, 0, none⟩), .slice sb.a sb.n sb.c] W fun r w' => r = .returned (.int .i64 (tlOf zb (vtKeys (fv ++ [(za, zb, add)])) : Nat)) ∧ Below w8.heap.size w8 w') := fun W hb => by
  refine (l7Tally_any gs ((), s5, r5, ⟨some ⟨gn, 0, none⟩, v5.n + 1, cap2⟩) (n, zss, rs, fv ++ [(za, zb, add)]) 37 sb zb W (k8.below hb k8.lt) (RowOk.below ok88.2.2.2 hb (Nat.le_refl _)) (bytesK.below obW (bw8.trans (hb.mono bw8.size)) (Nat.le_refl _)) m8.v).mono ?_
  rintro r w' ⟨rfl, rfl⟩
  exact ⟨rfl, hb⟩
 have DW := hide (fun (W : World) (hb : Below w8.heap.size w8 W) => l7Won_any ((), s5, r5, ⟨some ⟨gn, 0, none⟩, v5.n + 1, cap2⟩) (n, zss, rs, fv ++ [(za, zb, add)]) sb zb add W (SNK.below ok88 hb (Nat.le_refl _)) m8 (bytesK.below obW (bw8.trans (hb.mono bw8.size)) (Nat.le_refl _)) (by have h2 : zb.length = sb.n := obW.row.1; omega) hpW hlW hd)
 have hT0 : tlOf zb (vtKeys (fv ++ [(za, zb, add)])) ≤ 31 := by have := tlOf_le zb (fv ++ [(za, zb, add)]); rw [List.length_append] at this; simp at this; omega
 have hXX := unhide HXX
 have hCC := unhide HCC
 generalize tlOf zb (vtKeys (fv ++ [(za, zb, add)])) = T0 at DT hXX hCC hT0
 clear r0 r1 r2 r3 f0 f1 f2 f3 g0 g1 g2 g3 y0 y1 y2 y3
 have HK8 := hide (fun (W : World) (hb : Below w8.heap.size w8 W) => k8.below hb k8.lt)
 have HG1 : Hid (∀ W, Below w8.heap.size w8 W → (fun W => W.cell? ⟨gs, 1, none⟩ = some (.slice s5.a s5.n s5.c)) W) := fun W hb => (k8.below hb k8.lt).cell 1
 have HY := hide (And.intro b08 (And.intro ok8 (And.intro h8 s8)))
 have zw8 : W0.heap.size ≤ w8.heap.size := b08.size
 clear oW mW oaW obW hpW hlW ok88 m8 hd e8 ok8 h8 s8 k8 HI2 hu10 hf10 m3 lfv b08
 go_wp2_with fail
 go_region_held3 (fun W => W.cell? ⟨gs, 1, none⟩ = some (.slice s5.a s5.n s5.c))
  (exact (unhide HG1) _ (by first | assumption | exact (Below.refl w8.heap.size w8).drew | exact below_drewN (Below.refl w8.heap.size w8) _ | exact below_drewN (by assumption) _))
  (first | (go_at_call 91; refine ((unhide DT) _ (by first | exact (Below.refl w8.heap.size w8).drew | exact below_drewN (Below.refl w8.heap.size w8) _ | exact Below.refl w8.heap.size w8)).mono ?_; rintro r w9 ⟨rfl, JJ⟩))
 all_goals
  obtain ⟨b08, ok8', h8, s8⟩ := unhide HY
  have b09 : Below W0.heap.size W0 w9 := b08.trans (JJ.mono b08.size)
  have k9 := (unhide HK8) w9 JJ
  have kr9 := ((unhide HKB) w9 b09).2
  have ok9 : ∀ W : World, (∀ g, W0.heap.size + 2 ≤ g → g < w9.heap.size → ¬ g = gs → W.heap[g]? = w9.heap[g]?) → SNK.Ok W ((), s5, r5, ⟨some ⟨gn, 0, none⟩, v5.n + 1, cap2⟩) (n, zss, rs, fv ++ [(za, zb, add)]) := fun W hW => ok8' W (fun g a b c => (hW g a (by have := JJ.size; omega) c).trans ((JJ.block g (by omega)).trans (h8 g c)))
  have bw9 := (unhide HBB).trans (b09.mono (unhide HBB).size)
  have zw9 : W0.heap.size ≤ w9.heap.size := b09.size
  have DW := hide ((unhide DW) w9 JJ)
  obtain ⟨⟨g0', g1', g2', g3'⟩, _⟩ := four_blk k9
  have HY := hide (And.intro ok9 bw9)
  clear b08 ok8' h8 s8 b09 k9 ok9 bw9 JJ
  have hw2 : IntKind.i64.wrap (2 * (T0 : Int)) = 2 * (T0 : Int) := by
   have hT : (T0 : Int) ≤ 31 := by omega
   have hT' : (0 : Int) ≤ (T0 : Int) := by omega
   exact wrap2 hT' hT
  by_cases h2 : 2 * T0 ≤ zss.length
  · have hs5 : s5.n = zss.length := unhide HS5
    have h2' : 2 * T0 ≤ s5.n := by omega
    have h2i : (2 : Int) * (T0 : Int) ≤ (s5.n : Int) := by omega
    rw [if_pos h2] at hXX hCC
    subst hXX
    subst hCC
    obtain ⟨⟨r0, r1, r2, r3⟩, f0, f1, f2, f3⟩ := four_blk kr9
    have HS5' := hide hs5
    clear kr9 DW h2 hs5
    go_wp2_with fail
    obtain ⟨ok9, bw9⟩ := unhide HY
    have HF := set4 bw9 (Nat.le_succ w.heap.size) (.int .i64 n) (.slice s5.a s5.n s5.c) (.slice r5.a r5.n r5.c) (.slice (some ⟨gn, 0, none⟩) (v5.n + 1) cap2)
    have sF := size4 w9 (w.heap.size + 1) (.int .i64 n) (.slice s5.a s5.n s5.c) (.slice r5.a r5.n r5.c) (.slice (some ⟨gn, 0, none⟩) (v5.n + 1) cap2)
    have hOk : ∀ W : World, Std w.heap.size _ W → SNK.Ok W ((), s5, r5, ⟨some ⟨gn, 0, none⟩, v5.n + 1, cap2⟩) (n, zss, rs, fv ++ [(za, zb, add)]) := fun W hW => ok9 W (fun g a b c => (hW g (by omega) (by rw [sF]; exact b)).trans (other4 (w := w9) (k := g) (g := w.heap.size + 1) (by omega) (.int .i64 n) (.slice s5.a s5.n s5.c) (.slice r5.a r5.n r5.c) (.slice (some ⟨gn, 0, none⟩) (v5.n + 1) cap2)))
    exact bodyPost_ret (v := .tuple #[.agg #[.int .i64 n, .slice s5.a s5.n s5.c, .slice r5.a r5.n r5.c, .slice (some ⟨gn, 0, none⟩) (v5.n + 1) cap2], .int .i64 0]) (by simp [results, Tryz.results60, go_sem, r0, r1, r2, r3]) rfl (by first | exact ⟨((), s5, r5, ⟨some ⟨gn, 0, none⟩, v5.n + 1, cap2⟩), rfl, fun W hW _ => hOk W hW, HF⟩ | exact ⟨(), s5, r5, ⟨some ⟨gn, 0, none⟩, v5.n + 1, cap2⟩, rfl, fun W hW _ => hOk W hW, HF⟩)
  · have hs5 : s5.n = zss.length := unhide HS5
    have h2' : ¬ 2 * T0 ≤ s5.n := by omega
    have h2i : ¬ (2 : Int) * (T0 : Int) ≤ (s5.n : Int) := by omega
    rw [if_neg h2] at hXX hCC
    have HS5' := hide hs5
    have HKR := hide kr9
    clear kr9 h2 hs5
    unfold snvals at DW
    simp only at DW
    rw [← hXX, ← hCC] at DW
    clear hXX hCC
    go_wp2_with fail
    refine (unhide DW).mono ?_
    rintro r w10 ⟨⟨⟨⟩, s10, r10, v10⟩, rfl, ok10, b10⟩
    have kr10 := (unhide HKR).below b10 (unhide HKR).lt
    obtain ⟨⟨r0, r1, r2, r3⟩, f0, f1, f2, f3⟩ := four_blk kr10
    have HZ := hide (And.intro ok10 b10)
    clear kr10 ok10 b10
    simp only
    go_wp2_with fail
    obtain ⟨ok9, bw9⟩ := unhide HY
    obtain ⟨ok10, b10⟩ := unhide HZ
    have bw10 := bw9.trans (b10.mono bw9.size)
    have z10 := b10.size
    have HF := set4 bw10 (Nat.le_succ w.heap.size) (.int .i64 XX.1) (.slice s10.a s10.n s10.c) (.slice r10.a r10.n r10.c) (.slice v10.a v10.n v10.c)
    have sF := size4 w10 (w.heap.size + 1) (.int .i64 XX.1) (.slice s10.a s10.n s10.c) (.slice r10.a r10.n r10.c) (.slice v10.a v10.n v10.c)
    have oF : ∀ k, ¬ k = w.heap.size + 1 → _ = w10.heap[k]? := fun k hk => other4 (w := w10) (k := k) (g := w.heap.size + 1) hk (.int .i64 XX.1) (.slice s10.a s10.n s10.c) (.slice r10.a r10.n r10.c) (.slice v10.a v10.n v10.c)
    have hOk : ∀ W : World, Std w.heap.size _ W → SNK.Ok W ((), s10, r10, v10) XX := fun W hW => ok10 W (fun g a b => (hW g (by omega) (by rw [sF]; exact b)).trans (oF g (by omega))) (ok9 W (fun g a b c => (hW g (by omega) (by rw [sF]; omega)).trans ((oF g (by omega)).trans (b10.block g b))))
    exact bodyPost_ret (v := .tuple #[.agg #[.int .i64 XX.1, .slice s10.a s10.n s10.c, .slice r10.a r10.n r10.c, .slice v10.a v10.n v10.c], .int .i64 CC]) (by simp [results, Tryz.results60, go_sem, r0, r1, r2, r3]) rfl (by first | exact ⟨((), s10, r10, v10), rfl, fun W hW _ => hOk W hW, HF⟩ | exact ⟨(), s10, r10, v10, rfl, fun W hW _ => hOk W hW, HF⟩)

end Go.Proofs.YtdmcmlcmgbbclaaGreat
