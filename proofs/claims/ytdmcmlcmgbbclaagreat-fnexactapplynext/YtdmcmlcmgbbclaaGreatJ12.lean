/- What is proved here: what the model's l7Less answers: a copied snapshot without some votes. -/
import Derived.Test.YtdmcmlcmgbbclaaGreatK0
import Derived.Test.YtdmcmlcmgbbclaaGreatJ8
import Derived.Test.YtdmcmlcmgbbclaaGreatJ10
namespace Go.Proofs.YtdmcmlcmgbbclaaGreat
set_option linter.unusedVariables false
set_option linter.unusedSimpArgs false
open Go.RowKit
set_option maxRecDepth 100000

/-- Whether a vote stays. -/
def keepV (sg tg : List Int) (v : Vt) : Bool := (decide (0 < sg.length) && !decide (v.1 = sg)) || (decide (0 < tg.length) && !decide (v.2.1 = tg))
def lessSn (x : Sn) (sg tg : List Int) : Sn := (x.1, x.2.1, x.2.2.1, x.2.2.2.filter (keepV sg tg))

theorem filt_keep (za zb : List Int) (l : List Vt) (v : Vt) (h : keepV za zb v = true) : (l ++ [v]).filter (keepV za zb) = l.filter (keepV za zb) ++ [v] := by
 rw [List.filter_append]
 simp [h]
theorem filt_drop (za zb : List Int) (l : List Vt) (v : Vt) (h : keepV za zb v = false) : (l ++ [v]).filter (keepV za zb) = l.filter (keepV za zb) := by
 rw [List.filter_append]
 simp [h]

/-- What l7Copy answers. -/
def CopyOk : Prop := ∀ (e : SnS) (x : Sn) (w : World), SNK.Ok w e x → SnSm x →
    Calls Tryz.prog 57 #[.agg (snvals e x)] w fun r w' => ∃ e' : SnS, r = .returned (.agg (snvals e' x)) ∧ (∀ W : World, (∀ g, w.heap.size + 2 ≤ g → g < w'.heap.size → W.heap[g]? = w'.heap[g]?) → SNK.Ok W e' x) ∧ Below w.heap.size w w'

set_option maxHeartbeats 16000000 in
theorem l7Less_of (HC : CopyOk) (e : SnS) (x : Sn) (w : World) (o : SNK.Ok w e x) (m : SnSm x) (sa sb : Sl) (za zb : List Int) (oa : BOk w sa za) (ob : BOk w sb zb) :
    Calls Tryz.prog 90 #[.agg (snvals e x), .slice sa.a sa.n sa.c, .slice sb.a sb.n sb.c] w fun r w' => ∃ (e' : SnS) (d : Nat → Path) (B : Nat), r = .returned (.agg (snvals e' (lessSn x za zb))) ∧ w.heap.size + 2 ≤ B ∧ B ≤ w'.heap.size ∧ RowG vtK 97 w' B d [] e'.2.2.2 (lessSn x za zb).2.2.2 ∧ (∀ W : World, (∀ g, w.heap.size + 2 ≤ g → g < B → W.heap[g]? = w'.heap[g]?) → RowOk bytesK W e'.2.1 x.2.1 ∧ RowOk rcK W e'.2.2.1 x.2.2.1) ∧ Below w.heap.size w w' := by
 obtain ⟨kb, kr, bb⟩ := two_sblk w (snvals e x) #[.int .i64 0, .slice none 0 0, .slice none 0 0, .slice none 0 0] 37 37
 have z0 : ((w.alloc (.cells (snvals e x) 37)).alloc (.cells #[.int .i64 0, .slice none 0 0, .slice none 0 0, .slice none 0 0] 37)).heap.size = w.heap.size + 2 := by simp
 obtain ⟨W0, e0⟩ : ∃ W, (w.alloc (.cells (snvals e x) 37)).alloc (.cells #[.int .i64 0, .slice none 0 0, .slice none 0 0, .slice none 0 0] 37) = W := ⟨_, rfl⟩
 rw [e0] at kb kr bb z0
 have EA := hide e0
 clear e0
 have HP := hide (fun (W : World) (hb : Below W0.heap.size W0 W) => HC e x W (SNK.below o (bb.trans (hb.mono bb.size)) (Nat.le_refl _)) m)
 have HKB := hide (fun (W : World) (hb : Below W0.heap.size W0 W) => kb.below hb kb.lt)
 have HKR := hide (fun (W : World) (hb : Below W0.heap.size W0 W) => kr.below hb kr.lt)
 have HBB := hide bb
 have HZ0 := hide z0
 have HO := hide o
 have HM := hide m
 have c0 := kb.cell 0
 have c1 := kb.cell 1
 have c2 := kb.cell 2
 have c3 := kb.cell 3
 simp only [snvals, List.getElem?_cons_zero, List.getElem?_cons_succ] at c0 c1 c2 c3
 obtain ⟨n, zss, rs, vs⟩ := x
 obtain ⟨⟨⟩, sg, sr, sv⟩ := e
 simp only at HP c0 c1 c2 c3 HO
 clear kb kr bb z0 o m
 unfold snvals at EA HP ⊢
 simp only at HP
 go_enter Tryz.func90, Tryz.ntmps90
 go_upto_region 1 with fail
 rw [unhide EA]
 clear EA
 go_wp2_with fail
 refine ((unhide HP) _ (Below.refl _ _)).mono ?_
 rintro r w5 ⟨⟨⟨⟩, s5, r5, v5⟩, rfl, ok5, b5⟩
 simp only at ok5 ⊢
 have kg := SBlk.new w5 #[.int .i64 n, .slice s5.a s5.n s5.c, .slice r5.a r5.n r5.c, .slice v5.a v5.n v5.c] 37
 have bg := below_alloc w5 (.cells #[.int .i64 n, .slice s5.a s5.n s5.c, .slice r5.a r5.n r5.c, .slice v5.a v5.n v5.c] 37)
 have zg : (w5.alloc (.cells #[.int .i64 n, .slice s5.a s5.n s5.c, .slice r5.a r5.n r5.c, .slice v5.a v5.n v5.c] 37)).heap.size = w5.heap.size + 1 := by simp
 obtain ⟨W6, e6⟩ : ∃ W, w5.alloc (.cells #[.int .i64 n, .slice s5.a s5.n s5.c, .slice r5.a r5.n r5.c, .slice v5.a v5.n v5.c] 37) = W := ⟨_, rfl⟩
 rw [e6] at kg bg zg
 obtain ⟨gs, eg⟩ : ∃ g, g = w5.heap.size := ⟨_, rfl⟩
 rw [← eg] at kg zg
 have q3 := kg.cell 3
 have y3 := kg.free 3
 simp only [List.getElem?_cons_zero, List.getElem?_cons_succ] at q3
 have k7 := kg.set 3 (.slice none 0 0)
 simp only [List.set_cons_zero, List.set_cons_succ] at k7
 have b56 : Below w5.heap.size w5 (W6.setCell ⟨gs, 3, none⟩ (.slice none 0 0)) := bg.setCell (p := ⟨gs, 3, none⟩) (by rw [eg]; exact Nat.le_refl _) _
 have z7 : (W6.setCell ⟨gs, 3, none⟩ (.slice none 0 0)).heap.size = gs + 1 := by simp [World.setCell]; exact zg
 obtain ⟨W7, e7⟩ : ∃ W, W6.setCell ⟨gs, 3, none⟩ (.slice none 0 0) = W := ⟨_, rfl⟩
 rw [e7] at k7 b56 z7
 have E6 := hide e6
 have E7 := hide e7
 have EG := hide eg
 have B07 := hide (b5.trans (b56.mono b5.size))
 have HK5 := hide ok5
 rw [← eg] at b56
 have HB56 := hide b56
 have z5 : W0.heap.size ≤ gs := by rw [eg]; exact b5.size
 clear e6 e7 eg bg zg kg b5 b56 ok5 c0 c1 c2 c3
 go_upto_region 2 with (rw [unhide E6])
 try rw [unhide E6]
 rw [← unhide EG]
 go_upto_region 3 with (rw [unhide E7])
 try rw [unhide E7]
 have zg : gs < W7.heap.size := k7.lt
 have HIV := hide (info_parts infoVt)
 have H70 : Hid (VtInv W7 gs gs W7.heap.size (.int .i64 n) (.slice s5.a s5.n s5.c) (.slice r5.a r5.n r5.c) [] W7 ⟨none, 0, 0⟩ (fun _ => [])) := ⟨k7, RowG.nil _ _ _ _ _ _, fun _ _ _ => rfl, Below.refl _ _, Nat.le_refl _, zg, Nat.le_refl _⟩
 have hsv : sv.n = vs.length := (unhide HO).2.2.2.len
 have HSV := hide hsv
 have hvl : sv.n ≤ 1048576 := by have := (unhide HM).v; simp only at this; omega
 have HB0 : Hid (∀ W, Below gs W7 W → Below W0.heap.size W0 W) := fun W hb => (unhide B07).trans (hb.mono z5)
 have HX3 : Hid (∀ W, Below gs W7 W → W.cell? ⟨w.heap.size, 3, none⟩ = some (.slice sv.a sv.n sv.c)) := fun W hb => ((unhide HKB) W ((unhide HB0) W hb)).cell 3
 have HVZ : Hid (∀ y ∈ vs, y.1.length ≤ 1048576 ∧ y.2.1.length ≤ 1048576) := fun y hy => by have := (unhide HM).vz y hy; unfold vtSz at this; omega
 have HWB7 : Hid (∀ W, Below gs W7 W → Below w.heap.size w W) := fun W hbW => (unhide HBB).trans (((unhide HB0) W hbW).mono (unhide HBB).size)
 have HOA := hide oa
 have HOB := hide ob
 have x3 := (unhide HX3) W7 (Below.refl _ _)
 have HZ7 := hide z7
 have HW5 : Hid (w5.heap.size = gs) := (unhide EG).symm
 clear hsv k7 q3 y3 oa ob E6 E7 EG HP z7
 go_wp2_with fail
 go_loopw [8] (fun i wq => ∃ (k : Nat) (s3 : Sl) (d3 : Nat → Path), k ≤ sv.n ∧ i = .int .i64 k ∧ VtInv W7 gs gs W7.heap.size (.int .i64 n) (.slice s5.a s5.n s5.c) (.slice r5.a r5.n r5.c) ((vs.take k).filter (keepV za zb)) wq s3 d3) (fun i _ => sv.n - (intOf i).toNat)
 case atStart => exact ⟨0, _, _, Nat.zero_le _, rfl, unhide H70⟩
 case round =>
  obtain ⟨k, s3, d3, hk3, rfl, I⟩ := hrel
  clear H70 x3
  have x3 := (unhide HX3) _ I.old
  by_cases hlt : k < sv.n
  · obtain ⟨b, off, ea, hb, hc⟩ := (unhide HO).2.2.2.pos (by show 0 < sv.n; omega)
    simp only at ea hc
    obtain ⟨y, hy⟩ : ∃ v, vs[k]? = some v := ⟨_, List.getElem?_eq_getElem (by rw [← unhide HSV]; exact hlt)⟩
    obtain ⟨⟨t1, t2, ⟨⟩⟩, c, oo⟩ := hc k y hy
    obtain ⟨z1, z2, q⟩ := y
    have c0' := c 0 _ rfl
    have c1' := c 1 _ rfl
    have c2' := c 2 _ rfl
    simp only [Nat.add_zero, show vtK.m = 3 from rfl] at c0' c1' c2'
    obtain ⟨sva, svn, svc⟩ := sv
    simp only at ea
    subst ea
    have hvl' : svn ≤ 1048576 := hvl
    simp only at hlt hk3
    have k1 : (0 : Int) ≤ (k : Int) := by omega
    have k2 : (k : Int) < (svn : Int) := by omega
    have cc0 := (((unhide HWB7) _ I.old).cell (p := ⟨b, off + k * 3, none⟩) hb).trans c0'
    have cc1 := (((unhide HWB7) _ I.old).cell (p := ⟨b, off + k * 3 + 1, none⟩) hb).trans c1'
    have cc2 := (((unhide HWB7) _ I.old).cell (p := ⟨b, off + k * 3 + 2, none⟩) hb).trans c2'
    have zl := (unhide HVZ) _ (List.mem_of_getElem? hy)
    have HTS : Hid (vs.take (k + 1) = vs.take k ++ [(z1, z2, q)]) := by obtain ⟨hk', e'⟩ := List.getElem?_eq_some_iff.1 hy; show _ = _; rw [List.take_succ_eq_append_getElem hk', e']
    have kv := SBlk.new wr #[.slice t1.a t1.n t1.c, .slice t2.a t2.n t2.c, .bool q] 97
    have bv := below_alloc wr (.cells #[.slice t1.a t1.n t1.c, .slice t2.a t2.n t2.c, .bool q] 97)
    obtain ⟨Wv, ev⟩ : ∃ W, wr.alloc (.cells #[.slice t1.a t1.n t1.c, .slice t2.a t2.n t2.c, .bool q] 97) = W := ⟨_, rfl⟩
    rw [ev] at kv bv
    have Iv := I.below bv
    have hgv : gs < wr.heap.size := I.blk.lt
    have hrb := fun {x : Addr} (hx : s3.a = some x) => (I.row.blk hx).2
    have zlo : gs ≤ gs := I.low
    obtain ⟨gv, egv⟩ : ∃ g, g = wr.heap.size := ⟨_, rfl⟩
    rw [← egv] at kv hgv hrb
    have EGV := hide egv
    clear egv
    have HSS : Hid (∀ W, Below Wv.heap.size Wv W → (fun W => W.cell? ⟨gv, 0, none⟩ = some (.slice t1.a t1.n t1.c) ∧ W.cell? ⟨gv, 1, none⟩ = some (.slice t2.a t2.n t2.c) ∧ W.cell? ⟨gv, 2, none⟩ = some (.bool q)) W) := fun W hbW => by
     have k := kv.below hbW kv.lt
     exact ⟨k.cell 0, k.cell 1, k.cell 2⟩
    have HV1 : Hid (∀ W, Below Wv.heap.size Wv W → BOk W t1 z1 ∧ BOk W t2 z2) := fun W hbW => by
     have bw := (unhide HWB7) W ((Iv.below hbW).old)
     exact ⟨bytesK.below oo.1 bw (Nat.le_refl _), bytesK.below oo.2.1 bw (Nat.le_refl _)⟩
    have t1n : t1.n ≤ 1048576 := by have h1 : z1.length = t1.n := oo.1.row.1; have h2 : z1.length ≤ 1048576 := zl.1; omega
    have t2n : t2.n ≤ 1048576 := by have h1 : z2.length = t2.n := oo.2.1.row.1; have h2 : z2.length ≤ 1048576 := zl.2; omega
    have HCA : Hid (∀ W, Below Wv.heap.size Wv W → Calls Tryz.prog 59 #[.slice t1.a t1.n t1.c] W fun e w' => ∃ (a1 : Option Addr) (c1 : Nat) (WW : World), e = .returned (.slice a1 t1.n c1) ∧ w'.cell? ⟨gs, 3, none⟩ = some (.slice s3.a s3.n s3.c) ∧ Below Wv.heap.size Wv w' ∧ Hid (Below Wv.heap.size Wv WW ∧ w'.ownsRow WW.heap.size 5 1 (.slice a1 t1.n c1) t1.n (z1.map (Value.int .u8)) ∧ Below WW.heap.size WW w')) := fun W hbW => by
     refine (copy_any t1.a t1.n t1.c z1 W ((unhide HV1) W hbW).1.row ((unhide HV1) W hbW).1.nil t1n).mono ?_
     rintro e w' ⟨a1, c1, rfl, ho, hb'⟩
     have o1 := hbW.trans (hb'.mono hbW.size)
     exact ⟨a1, c1, W, rfl, (Iv.below o1).blk.cell 3, o1, hbW, ho, hb'⟩
    have HCB : Hid (∀ W1, Below Wv.heap.size Wv W1 → Calls Tryz.prog 59 #[.slice t2.a t2.n t2.c] W1 fun e w' => ∃ (a2 : Option Addr) (c2 : Nat) (es : List VtS), e = .returned (.slice a2 t2.n c2) ∧ w'.cell? ⟨gs, 3, none⟩ = some (.slice s3.a s3.n s3.c) ∧ Below Wv.heap.size Wv w' ∧ w'.ownsRow W7.heap.size 97 3 (.slice s3.a s3.n s3.c) s3.n (flatV vtK es ((vs.take k).filter (keepV za zb))) ∧ W7.heap.size ≤ w'.heap.size ∧ Hid (w'.ownsRow W1.heap.size 5 1 (.slice a2 t2.n c2) t2.n (z2.map (Value.int .u8)) ∧ Below W1.heap.size W1 w' ∧ es.length = ((vs.take k).filter (keepV za zb)).length ∧ ∀ i e x, es[i]? = some e → ((vs.take k).filter (keepV za zb))[i]? = some x → vtK.Own Wv W7.heap.size d3 ([] ++ [i]) e x)) := fun W hbW => by
     refine (copy_any t2.a t2.n t2.c z2 W ((unhide HV1) W hbW).2.row ((unhide HV1) W hbW).2.nil t2n).mono ?_
     rintro e w' ⟨a2, c2, rfl, ho, hb'⟩
     have o1 := hbW.trans (hb'.mono hbW.size)
     have I' := Iv.below o1
     obtain ⟨es', e2', e3', e4', e5'⟩ := Iv.row.all
     exact ⟨a2, c2, es', rfl, I'.blk.cell 3, o1, own_below e3' o1 (Nat.le_refl _), I'.size, ho, hb', e2', e5'⟩
    have HST : Hid (∀ (WW W1 W1' WA W2 : World) (a1 a2 : Option Addr) (c1 c2 g2 cap2 : Nat) (es : List VtS), Below Wv.heap.size Wv WW → W1.ownsRow WW.heap.size 5 1 (.slice a1 t1.n c1) t1.n (z1.map (Value.int .u8)) → Below WW.heap.size WW W1 → W1'.ownsRow W1.heap.size 5 1 (.slice a2 t2.n c2) t2.n (z2.map (Value.int .u8)) → Below W1.heap.size W1 W1' → Below W1'.heap.size W1' WA → es.length = ((vs.take k).filter (keepV za zb)).length → (∀ i e x, es[i]? = some e → ((vs.take k).filter (keepV za zb))[i]? = some x → vtK.Own Wv W7.heap.size d3 ([] ++ [i]) e x) → W2.ownsRow W7.heap.size 97 3 (.slice (some ⟨g2, 0, none⟩) (s3.n + 1) cap2) (s3.n + 1) (flatV vtK es ((vs.take k).filter (keepV za zb)) ++ [.slice a1 t1.n c1, .slice a2 t2.n c2, .bool q]) → WA.grownBy W2 (Value.slice s3.a s3.n s3.c).ownBlock → ((Value.slice s3.a s3.n s3.c).ownBlock = some g2 ∨ g2 = WA.heap.size) →
        (∃ u, W2.cell? ⟨gs, 3, none⟩ = some u) ∧ W2.frozen? ⟨gs, 3, none⟩ = false ∧ (fun W => W.cell? ⟨gv, 0, none⟩ = some (.slice t1.a t1.n t1.c) ∧ W.cell? ⟨gv, 1, none⟩ = some (.slice t2.a t2.n t2.c) ∧ W.cell? ⟨gv, 2, none⟩ = some (.bool q)) W2 ∧ (fun W => W.cell? ⟨gv, 0, none⟩ = some (.slice t1.a t1.n t1.c) ∧ W.cell? ⟨gv, 1, none⟩ = some (.slice t2.a t2.n t2.c) ∧ W.cell? ⟨gv, 2, none⟩ = some (.bool q)) (W2.setCell ⟨gs, 3, none⟩ (.slice (some ⟨g2, 0, none⟩) (s3.n + 1) cap2)) ∧ ∃ d', VtInv W7 gs gs W7.heap.size (.int .i64 n) (.slice s5.a s5.n s5.c) (.slice r5.a r5.n r5.c) ((vs.take k).filter (keepV za zb) ++ [(z1, z2, q)]) (W2.setCell ⟨gs, 3, none⟩ (.slice (some ⟨g2, 0, none⟩) (s3.n + 1) cap2)) ⟨some ⟨g2, 0, none⟩, s3.n + 1, cap2⟩ d') := fun WW W1 W1' WA W2 a1 a2 c1 c2 g2 cap2 es bW ho hbW ho2 hb2 bA e2 e5 hown hg hat => by
     obtain ⟨p1, p2, p3, p4⟩ := VtInv.step (W1 := W1) (W1' := W1') (WA := WA) (W2 := W2) (g2 := g2) (cap2 := cap2) (es := es) (Iv.below bW) oo.1.row.2.1 oo.2.1.row.2.1 ho hbW ho2 hb2 bA e2 (fun i e x he hx => vtK.ownBelow (e5 i e x he hx) bW (Nat.le_refl _)) hown hg hat
     have bA1 := bW.trans (hbW.mono bW.size)
     have bA2 := bA1.trans (hb2.mono bA1.size)
     have bA3 := bA2.trans (bA.mono bA2.size)
     have kA := kv.below bA3 kv.lt
     have k2 : SBlk W2 gv [.slice t1.a t1.n t1.c, .slice t2.a t2.n t2.c, .bool q] 97 := (hg.block gv kA.lt (fun e => by
      cases ha : s3.a with
      | none => rw [ha] at e; cases e
      | some y => rw [ha] at e; have e' := Option.some.inj e; have := hrb ha; rw [← e'] at this; exact Nat.lt_irrefl _ this)).trans kA
     have k3 := k2.other (g' := gs) (i := 3) (v := .slice (some ⟨g2, 0, none⟩) (s3.n + 1) cap2) (by omega)
     exact ⟨p1, p2, ⟨k2.cell 0, k2.cell 1, k2.cell 2⟩, ⟨k3.cell 0, k3.cell 1, k3.cell 2⟩, p4⟩
    have g3c := Iv.blk.cell 3
    simp only [List.getElem?_cons_zero, List.getElem?_cons_succ] at g3c
    have hsn : s3.n ≤ 1048576 := by have := I.row.len; rw [this]; have := List.length_filter_le (keepV za zb) (vs.take k); rw [List.length_take] at this; omega
    have HIN := hide Iv
    obtain ⟨i0, hi, hz0, hz1, hz2⟩ := unhide HIV
    have EV := hide ev
    clear ev I Iv kv bv hrb oo hy zl t1n t2n
    have HQ1 := hide (fun (W : World) (hbW : Below Wv.heap.size Wv W) => l1Same_kd t1 sa z1 za W ((unhide HV1) W hbW).1 (bytesK.below (unhide HOA) ((unhide HWB7) W (((unhide HIN).below hbW).old)) (Nat.le_refl _)))
    have HQ2 := hide (fun (W : World) (hbW : Below Wv.heap.size Wv W) => l1Same_kd t2 sb z2 zb W ((unhide HV1) W hbW).2 (bytesK.below (unhide HOB) ((unhide HWB7) W (((unhide HIN).below hbW).old)) (Nat.le_refl _)))
    have HNA : Hid (za.length = sa.n) := (unhide HOA).row.1
    have HNB : Hid (zb.length = sb.n) := (unhide HOB).row.1
    go_upto_region 7 with (rw [unhide EV])
    try rw [unhide EV]
    try rw [← unhide EGV]
    obtain ⟨v0c, v1c, v2c⟩ := (unhide HSS) Wv (Below.refl _ _)
    clear EV EGV
    by_cases hA : 0 < sa.n
    · have dA1 : decide ((0 : Int) < (sa.n : Int)) = true := decide_eq_true (by omega)
      have dA2 : decide (0 < sa.n) = true := decide_eq_true hA
      by_cases hm1 : z1 = za
      · skip
        by_cases hB : 0 < sb.n
        · have dB1 : decide ((0 : Int) < (sb.n : Int)) = true := decide_eq_true (by omega)
          have dB2 : decide (0 < sb.n) = true := decide_eq_true hB
          by_cases hm2 : z2 = zb
          · have HKV : Hid (keepV za zb (z1, z2, q) = false) := by show _ = _; unfold keepV; simp only [unhide HNA, unhide HNB]; simp [hA, hm1, hm2, hB]
            go_wp2_with fail
            refine ((unhide HQ1) _ (Below.refl _ _)).mono ?_
            rintro r Wv ⟨rfl, rfl⟩
            rw [decide_eq_true hm1]
            go_wp2_with fail
            refine ((unhide HQ2) _ (Below.refl _ _)).mono ?_
            rintro r Wv ⟨rfl, rfl⟩
            rw [decide_eq_true hm2]
            have h3 := unhide HIN
            rw [← filt_drop za zb (vs.take k) _ (unhide HKV), ← unhide HTS] at h3
            have HI3 := hide h3
            clear h3
            clear HCA HCB HST
            go_wp2_with fail
            go_roundw
            case rel => exact ⟨k + 1, _, d3, (by show k + 1 ≤ svn; omega), by go_num, unhide HI3⟩
            case measure => simp [intOf]; omega
          · have HKV : Hid (keepV za zb (z1, z2, q) = true) := by show _ = _; unfold keepV; simp only [unhide HNA, unhide HNB]; simp [hA, hm1, hm2, hB]
            go_wp2_with fail
            refine ((unhide HQ1) _ (Below.refl _ _)).mono ?_
            rintro r Wv ⟨rfl, rfl⟩
            rw [decide_eq_true hm1]
            go_wp2_with fail
            refine ((unhide HQ2) _ (Below.refl _ _)).mono ?_
            rintro r Wv ⟨rfl, rfl⟩
            rw [decide_eq_false hm2]
            go_wp2_with fail
            refine wp_region_held_drew (S := (fun W => W.cell? ⟨gv, 0, none⟩ = some (.slice t1.a t1.n t1.c) ∧ W.cell? ⟨gv, 1, none⟩ = some (.slice t2.a t2.n t2.c) ∧ W.cell? ⟨gv, 2, none⟩ = some (.bool q))) (by kernel_rfl) ((unhide HSS) _ ((Below.refl Wv.heap.size Wv).drew)) (fun hHeld => ?_)
            refine tkA 0 ?_
            try dsimp only
            refine tkA 2 ?_
            try dsimp only
            refine tkA 3 ?_
            try dsimp only
            refine tkA 5 ?_
            try dsimp only
            refine tkA 6 ?_
            try dsimp only
            refine tkA 8 ?_
            try dsimp only
            refine tkA 9 ?_
            try dsimp only
            refine wpAnyH_ready (rs := [1, 4]) (by kernel_rfl) (by simp) ?_
            refine AllReadyH.cons (o := _) rfl (fun K hK => ?_) ?_
            · skip
              go_simp
              refine hK.out _ _ (hHeld) (fun hHeld => ?_)
              clear hK K
              try dsimp only
              refine rdA 4 (fun K hK => ?_)
              go_simp
              go_at_call 59
              refine ((unhide HCA) _ (by first | exact (Below.refl Wv.heap.size Wv).drew | exact below_drewN (Below.refl Wv.heap.size Wv) _)).mono ?_
              rintro e W1 ⟨a1, c1, WW, rfl, m3, o1, HQA⟩
              (try dsimp only)
              refine hK.out _ _ ((unhide HSS) _ o1) (fun hHeld => ?_)
              clear hK K
              try dsimp only
              refine rdA 7 (fun K hK => ?_)
              go_simp
              go_at_call 59
              refine ((unhide HCB) _ o1).mono ?_
              rintro e W1' ⟨a2, c2, es, rfl, m3', o2, q3, zW, HQB⟩
              have m3a : ∀ o, (W1'.alloc o).cell? ⟨gs, 3, none⟩ = some (.slice s3.a s3.n s3.c) := fun o => ((below_alloc W1' o).cell (lt_of_cell m3')).trans m3'
              (try dsimp only)
              refine hK.out _ _ ((unhide HSS) _ o2) (fun hHeld => ?_)
              clear hK K
              try dsimp only
              refine tkA 10 ?_
              try dsimp only
              refine rdA 11 (fun K hK => ?_)
              go_simp
              refine hK.out _ _ ((unhide HSS) _ (o2.alloc o2.size _)) (fun hHeld => ?_)
              clear hK K
              try dsimp only
              refine rdA 12 (fun K hK => ?_)
              refine step_append_lies _ (by rfl) (.tmp 48) (.tmp 58) 35 (by rfl) W7.heap.size 97 i0 (.agg #[.slice none 0 0, .slice none 0 0, .bool false]) 3 56 Tryz.underlying35 hi hz0 hz1 hz2 rfl (by decide) _ _ _ (by rfl) (by exact q3.alloc _) ⟨W1'.heap.size, 0, none⟩ 1 1 [.slice a1 t1.n c1, .slice a2 t2.n c2, .bool q] (by rfl) rfl (by exact three_at _ _ _ _ _) (by simp [Value.oneCell']) (by omega) (by unfold maxLen; omega) (by omega) (by simp; omega) _ rfl ?_
              intro g2 cap2 W2 hown2 hgrow2 hat2 hlt2
              obtain ⟨⟨u10, hu10⟩, hf10, hS2, hS3, d2, I2⟩ := (unhide HST) WW W1 W1' _ W2 a1 a2 c1 c2 g2 cap2 es (unhide HQA).1 (unhide HQA).2.1 (unhide HQA).2.2 (unhide HQB).1 (unhide HQB).2.1 (below_alloc W1' _) (unhide HQB).2.2.1 (unhide HQB).2.2.2 hown2 hgrow2 hat2
              have HI2 := hide I2
              clear I2 hown2 hgrow2 hat2 hlt2
              refine hK.out _ _ (hS2) (fun hHeld => ?_)
              clear hK K
              try dsimp only
              refine tkA 13 ?_
              try dsimp only
              refine rdA 14 (fun K hK => ?_)
              go_simp
              refine hK.out _ _ (hS3) (fun hHeld => ?_)
              clear hK K
              try dsimp only
              refine wpAnyH_done (by kernel_rfl) ?_ _
              have h3 := unhide HI2
              rw [← filt_keep za zb (vs.take k) _ (unhide HKV), ← unhide HTS] at h3
              have HI3 := hide h3
              clear h3
              clear HQA HQB q3 m3 m3' m3a hu10 hf10 hHeld hS2 hS3 HCA HCB HST HI2
              go_wp2_with fail
              go_roundw
              case rel => exact ⟨k + 1, _, d2, (by show k + 1 ≤ svn; omega), by go_num, unhide HI3⟩
              case measure => simp [intOf]; omega
            refine AllReadyH.cons (o := _) rfl (fun K hK => ?_) AllReadyH.nil
            go_simp
            go_at_call 59
            refine ((unhide HCA) _ (by first | exact (Below.refl Wv.heap.size Wv).drew | exact below_drewN (Below.refl Wv.heap.size Wv) _)).mono ?_
            rintro e W1 ⟨a1, c1, WW, rfl, m3, o1, HQA⟩
            (try dsimp only)
            refine hK.out _ _ ((unhide HSS) _ o1) (fun hHeld => ?_)
            clear hK K
            try dsimp only
            refine wpAnyH_ready (rs := [1, 7]) (by kernel_rfl) (by simp) ?_
            refine AllReadyH.cons (o := _) rfl (fun K hK => ?_) ?_
            · skip
              go_simp
              refine hK.out _ _ (hHeld) (fun hHeld => ?_)
              clear hK K
              try dsimp only
              refine rdA 7 (fun K hK => ?_)
              go_simp
              go_at_call 59
              refine ((unhide HCB) _ o1).mono ?_
              rintro e W1' ⟨a2, c2, es, rfl, m3', o2, q3, zW, HQB⟩
              have m3a : ∀ o, (W1'.alloc o).cell? ⟨gs, 3, none⟩ = some (.slice s3.a s3.n s3.c) := fun o => ((below_alloc W1' o).cell (lt_of_cell m3')).trans m3'
              (try dsimp only)
              refine hK.out _ _ ((unhide HSS) _ o2) (fun hHeld => ?_)
              clear hK K
              try dsimp only
              refine tkA 10 ?_
              try dsimp only
              refine rdA 11 (fun K hK => ?_)
              go_simp
              refine hK.out _ _ ((unhide HSS) _ (o2.alloc o2.size _)) (fun hHeld => ?_)
              clear hK K
              try dsimp only
              refine rdA 12 (fun K hK => ?_)
              refine step_append_lies _ (by rfl) (.tmp 48) (.tmp 58) 35 (by rfl) W7.heap.size 97 i0 (.agg #[.slice none 0 0, .slice none 0 0, .bool false]) 3 56 Tryz.underlying35 hi hz0 hz1 hz2 rfl (by decide) _ _ _ (by rfl) (by exact q3.alloc _) ⟨W1'.heap.size, 0, none⟩ 1 1 [.slice a1 t1.n c1, .slice a2 t2.n c2, .bool q] (by rfl) rfl (by exact three_at _ _ _ _ _) (by simp [Value.oneCell']) (by omega) (by unfold maxLen; omega) (by omega) (by simp; omega) _ rfl ?_
              intro g2 cap2 W2 hown2 hgrow2 hat2 hlt2
              obtain ⟨⟨u10, hu10⟩, hf10, hS2, hS3, d2, I2⟩ := (unhide HST) WW W1 W1' _ W2 a1 a2 c1 c2 g2 cap2 es (unhide HQA).1 (unhide HQA).2.1 (unhide HQA).2.2 (unhide HQB).1 (unhide HQB).2.1 (below_alloc W1' _) (unhide HQB).2.2.1 (unhide HQB).2.2.2 hown2 hgrow2 hat2
              have HI2 := hide I2
              clear I2 hown2 hgrow2 hat2 hlt2
              refine hK.out _ _ (hS2) (fun hHeld => ?_)
              clear hK K
              try dsimp only
              refine tkA 13 ?_
              try dsimp only
              refine rdA 14 (fun K hK => ?_)
              go_simp
              refine hK.out _ _ (hS3) (fun hHeld => ?_)
              clear hK K
              try dsimp only
              refine wpAnyH_done (by kernel_rfl) ?_ _
              have h3 := unhide HI2
              rw [← filt_keep za zb (vs.take k) _ (unhide HKV), ← unhide HTS] at h3
              have HI3 := hide h3
              clear h3
              clear HQA HQB q3 m3 m3' m3a hu10 hf10 hHeld hS2 hS3 HCA HCB HST HI2
              go_wp2_with fail
              go_roundw
              case rel => exact ⟨k + 1, _, d2, (by show k + 1 ≤ svn; omega), by go_num, unhide HI3⟩
              case measure => simp [intOf]; omega
            refine AllReadyH.cons (o := _) rfl (fun K hK => ?_) AllReadyH.nil
            go_simp
            go_at_call 59
            refine ((unhide HCB) _ o1).mono ?_
            rintro e W1' ⟨a2, c2, es, rfl, m3', o2, q3, zW, HQB⟩
            have m3a : ∀ o, (W1'.alloc o).cell? ⟨gs, 3, none⟩ = some (.slice s3.a s3.n s3.c) := fun o => ((below_alloc W1' o).cell (lt_of_cell m3')).trans m3'
            (try dsimp only)
            refine hK.out _ _ ((unhide HSS) _ o2) (fun hHeld => ?_)
            clear hK K
            try dsimp only
            refine tkA 10 ?_
            try dsimp only
            refine wpAnyH_ready (rs := [1, 11]) (by kernel_rfl) (by simp) ?_
            refine AllReadyH.cons (o := _) rfl (fun K hK => ?_) ?_
            · skip
              go_simp
              refine hK.out _ _ (hHeld) (fun hHeld => ?_)
              clear hK K
              try dsimp only
              refine rdA 11 (fun K hK => ?_)
              go_simp
              refine hK.out _ _ ((unhide HSS) _ (o2.alloc o2.size _)) (fun hHeld => ?_)
              clear hK K
              try dsimp only
              refine rdA 12 (fun K hK => ?_)
              refine step_append_lies _ (by rfl) (.tmp 48) (.tmp 58) 35 (by rfl) W7.heap.size 97 i0 (.agg #[.slice none 0 0, .slice none 0 0, .bool false]) 3 56 Tryz.underlying35 hi hz0 hz1 hz2 rfl (by decide) _ _ _ (by rfl) (by exact q3.alloc _) ⟨W1'.heap.size, 0, none⟩ 1 1 [.slice a1 t1.n c1, .slice a2 t2.n c2, .bool q] (by rfl) rfl (by exact three_at _ _ _ _ _) (by simp [Value.oneCell']) (by omega) (by unfold maxLen; omega) (by omega) (by simp; omega) _ rfl ?_
              intro g2 cap2 W2 hown2 hgrow2 hat2 hlt2
              obtain ⟨⟨u10, hu10⟩, hf10, hS2, hS3, d2, I2⟩ := (unhide HST) WW W1 W1' _ W2 a1 a2 c1 c2 g2 cap2 es (unhide HQA).1 (unhide HQA).2.1 (unhide HQA).2.2 (unhide HQB).1 (unhide HQB).2.1 (below_alloc W1' _) (unhide HQB).2.2.1 (unhide HQB).2.2.2 hown2 hgrow2 hat2
              have HI2 := hide I2
              clear I2 hown2 hgrow2 hat2 hlt2
              refine hK.out _ _ (hS2) (fun hHeld => ?_)
              clear hK K
              try dsimp only
              refine tkA 13 ?_
              try dsimp only
              refine rdA 14 (fun K hK => ?_)
              go_simp
              refine hK.out _ _ (hS3) (fun hHeld => ?_)
              clear hK K
              try dsimp only
              refine wpAnyH_done (by kernel_rfl) ?_ _
              have h3 := unhide HI2
              rw [← filt_keep za zb (vs.take k) _ (unhide HKV), ← unhide HTS] at h3
              have HI3 := hide h3
              clear h3
              clear HQA HQB q3 m3 m3' m3a hu10 hf10 hHeld hS2 hS3 HCA HCB HST HI2
              go_wp2_with fail
              go_roundw
              case rel => exact ⟨k + 1, _, d2, (by show k + 1 ≤ svn; omega), by go_num, unhide HI3⟩
              case measure => simp [intOf]; omega
            refine AllReadyH.cons (o := _) rfl (fun K hK => ?_) AllReadyH.nil
            go_simp
            refine hK.out _ _ ((unhide HSS) _ (o2.alloc o2.size _)) (fun hHeld => ?_)
            clear hK K
            try dsimp only
            refine rdA 1 (fun K hK => ?_)
            go_simp
            refine hK.out _ _ (hHeld) (fun hHeld => ?_)
            clear hK K
            try dsimp only
            refine rdA 12 (fun K hK => ?_)
            refine step_append_lies _ (by rfl) (.tmp 48) (.tmp 58) 35 (by rfl) W7.heap.size 97 i0 (.agg #[.slice none 0 0, .slice none 0 0, .bool false]) 3 56 Tryz.underlying35 hi hz0 hz1 hz2 rfl (by decide) _ _ _ (by rfl) (by exact q3.alloc _) ⟨W1'.heap.size, 0, none⟩ 1 1 [.slice a1 t1.n c1, .slice a2 t2.n c2, .bool q] (by rfl) rfl (by exact three_at _ _ _ _ _) (by simp [Value.oneCell']) (by omega) (by unfold maxLen; omega) (by omega) (by simp; omega) _ rfl ?_
            intro g2 cap2 W2 hown2 hgrow2 hat2 hlt2
            obtain ⟨⟨u10, hu10⟩, hf10, hS2, hS3, d2, I2⟩ := (unhide HST) WW W1 W1' _ W2 a1 a2 c1 c2 g2 cap2 es (unhide HQA).1 (unhide HQA).2.1 (unhide HQA).2.2 (unhide HQB).1 (unhide HQB).2.1 (below_alloc W1' _) (unhide HQB).2.2.1 (unhide HQB).2.2.2 hown2 hgrow2 hat2
            have HI2 := hide I2
            clear I2 hown2 hgrow2 hat2 hlt2
            refine hK.out _ _ (hS2) (fun hHeld => ?_)
            clear hK K
            try dsimp only
            refine tkA 13 ?_
            try dsimp only
            refine rdA 14 (fun K hK => ?_)
            go_simp
            refine hK.out _ _ (hS3) (fun hHeld => ?_)
            clear hK K
            try dsimp only
            refine wpAnyH_done (by kernel_rfl) ?_ _
            have h3 := unhide HI2
            rw [← filt_keep za zb (vs.take k) _ (unhide HKV), ← unhide HTS] at h3
            have HI3 := hide h3
            clear h3
            clear HQA HQB q3 m3 m3' m3a hu10 hf10 hHeld hS2 hS3 HCA HCB HST HI2
            go_wp2_with fail
            go_roundw
            case rel => exact ⟨k + 1, _, d2, (by show k + 1 ≤ svn; omega), by go_num, unhide HI3⟩
            case measure => simp [intOf]; omega
        · have dB1 : decide ((0 : Int) < (sb.n : Int)) = false := decide_eq_false (by omega)
          have dB2 : decide (0 < sb.n) = false := decide_eq_false hB
          have HKV : Hid (keepV za zb (z1, z2, q) = false) := by show _ = _; unfold keepV; simp only [unhide HNA, unhide HNB]; simp [hA, hm1, hB]
          go_wp2_with fail
          refine ((unhide HQ1) _ (Below.refl _ _)).mono ?_
          rintro r Wv ⟨rfl, rfl⟩
          rw [decide_eq_true hm1]
          have h3 := unhide HIN
          rw [← filt_drop za zb (vs.take k) _ (unhide HKV), ← unhide HTS] at h3
          have HI3 := hide h3
          clear h3
          clear HCA HCB HST
          go_wp2_with fail
          go_roundw
          case rel => exact ⟨k + 1, _, d3, (by show k + 1 ≤ svn; omega), by go_num, unhide HI3⟩
          case measure => simp [intOf]; omega
      · have HKV : Hid (keepV za zb (z1, z2, q) = true) := by show _ = _; unfold keepV; simp only [unhide HNA, unhide HNB]; simp [hA, hm1]
        go_wp2_with fail
        refine ((unhide HQ1) _ (Below.refl _ _)).mono ?_
        rintro r Wv ⟨rfl, rfl⟩
        rw [decide_eq_false hm1]
        go_wp2_with fail
        refine wp_region_held_drew (S := (fun W => W.cell? ⟨gv, 0, none⟩ = some (.slice t1.a t1.n t1.c) ∧ W.cell? ⟨gv, 1, none⟩ = some (.slice t2.a t2.n t2.c) ∧ W.cell? ⟨gv, 2, none⟩ = some (.bool q))) (by kernel_rfl) ((unhide HSS) _ ((Below.refl Wv.heap.size Wv).drew)) (fun hHeld => ?_)
        refine tkA 0 ?_
        try dsimp only
        refine tkA 2 ?_
        try dsimp only
        refine tkA 3 ?_
        try dsimp only
        refine tkA 5 ?_
        try dsimp only
        refine tkA 6 ?_
        try dsimp only
        refine tkA 8 ?_
        try dsimp only
        refine tkA 9 ?_
        try dsimp only
        refine wpAnyH_ready (rs := [1, 4]) (by kernel_rfl) (by simp) ?_
        refine AllReadyH.cons (o := _) rfl (fun K hK => ?_) ?_
        · skip
          go_simp
          refine hK.out _ _ (hHeld) (fun hHeld => ?_)
          clear hK K
          try dsimp only
          refine rdA 4 (fun K hK => ?_)
          go_simp
          go_at_call 59
          refine ((unhide HCA) _ (by first | exact (Below.refl Wv.heap.size Wv).drew | exact below_drewN (Below.refl Wv.heap.size Wv) _)).mono ?_
          rintro e W1 ⟨a1, c1, WW, rfl, m3, o1, HQA⟩
          (try dsimp only)
          refine hK.out _ _ ((unhide HSS) _ o1) (fun hHeld => ?_)
          clear hK K
          try dsimp only
          refine rdA 7 (fun K hK => ?_)
          go_simp
          go_at_call 59
          refine ((unhide HCB) _ o1).mono ?_
          rintro e W1' ⟨a2, c2, es, rfl, m3', o2, q3, zW, HQB⟩
          have m3a : ∀ o, (W1'.alloc o).cell? ⟨gs, 3, none⟩ = some (.slice s3.a s3.n s3.c) := fun o => ((below_alloc W1' o).cell (lt_of_cell m3')).trans m3'
          (try dsimp only)
          refine hK.out _ _ ((unhide HSS) _ o2) (fun hHeld => ?_)
          clear hK K
          try dsimp only
          refine tkA 10 ?_
          try dsimp only
          refine rdA 11 (fun K hK => ?_)
          go_simp
          refine hK.out _ _ ((unhide HSS) _ (o2.alloc o2.size _)) (fun hHeld => ?_)
          clear hK K
          try dsimp only
          refine rdA 12 (fun K hK => ?_)
          refine step_append_lies _ (by rfl) (.tmp 48) (.tmp 58) 35 (by rfl) W7.heap.size 97 i0 (.agg #[.slice none 0 0, .slice none 0 0, .bool false]) 3 56 Tryz.underlying35 hi hz0 hz1 hz2 rfl (by decide) _ _ _ (by rfl) (by exact q3.alloc _) ⟨W1'.heap.size, 0, none⟩ 1 1 [.slice a1 t1.n c1, .slice a2 t2.n c2, .bool q] (by rfl) rfl (by exact three_at _ _ _ _ _) (by simp [Value.oneCell']) (by omega) (by unfold maxLen; omega) (by omega) (by simp; omega) _ rfl ?_
          intro g2 cap2 W2 hown2 hgrow2 hat2 hlt2
          obtain ⟨⟨u10, hu10⟩, hf10, hS2, hS3, d2, I2⟩ := (unhide HST) WW W1 W1' _ W2 a1 a2 c1 c2 g2 cap2 es (unhide HQA).1 (unhide HQA).2.1 (unhide HQA).2.2 (unhide HQB).1 (unhide HQB).2.1 (below_alloc W1' _) (unhide HQB).2.2.1 (unhide HQB).2.2.2 hown2 hgrow2 hat2
          have HI2 := hide I2
          clear I2 hown2 hgrow2 hat2 hlt2
          refine hK.out _ _ (hS2) (fun hHeld => ?_)
          clear hK K
          try dsimp only
          refine tkA 13 ?_
          try dsimp only
          refine rdA 14 (fun K hK => ?_)
          go_simp
          refine hK.out _ _ (hS3) (fun hHeld => ?_)
          clear hK K
          try dsimp only
          refine wpAnyH_done (by kernel_rfl) ?_ _
          have h3 := unhide HI2
          rw [← filt_keep za zb (vs.take k) _ (unhide HKV), ← unhide HTS] at h3
          have HI3 := hide h3
          clear h3
          clear HQA HQB q3 m3 m3' m3a hu10 hf10 hHeld hS2 hS3 HCA HCB HST HI2
          go_wp2_with fail
          go_roundw
          case rel => exact ⟨k + 1, _, d2, (by show k + 1 ≤ svn; omega), by go_num, unhide HI3⟩
          case measure => simp [intOf]; omega
        refine AllReadyH.cons (o := _) rfl (fun K hK => ?_) AllReadyH.nil
        go_simp
        go_at_call 59
        refine ((unhide HCA) _ (by first | exact (Below.refl Wv.heap.size Wv).drew | exact below_drewN (Below.refl Wv.heap.size Wv) _)).mono ?_
        rintro e W1 ⟨a1, c1, WW, rfl, m3, o1, HQA⟩
        (try dsimp only)
        refine hK.out _ _ ((unhide HSS) _ o1) (fun hHeld => ?_)
        clear hK K
        try dsimp only
        refine wpAnyH_ready (rs := [1, 7]) (by kernel_rfl) (by simp) ?_
        refine AllReadyH.cons (o := _) rfl (fun K hK => ?_) ?_
        · skip
          go_simp
          refine hK.out _ _ (hHeld) (fun hHeld => ?_)
          clear hK K
          try dsimp only
          refine rdA 7 (fun K hK => ?_)
          go_simp
          go_at_call 59
          refine ((unhide HCB) _ o1).mono ?_
          rintro e W1' ⟨a2, c2, es, rfl, m3', o2, q3, zW, HQB⟩
          have m3a : ∀ o, (W1'.alloc o).cell? ⟨gs, 3, none⟩ = some (.slice s3.a s3.n s3.c) := fun o => ((below_alloc W1' o).cell (lt_of_cell m3')).trans m3'
          (try dsimp only)
          refine hK.out _ _ ((unhide HSS) _ o2) (fun hHeld => ?_)
          clear hK K
          try dsimp only
          refine tkA 10 ?_
          try dsimp only
          refine rdA 11 (fun K hK => ?_)
          go_simp
          refine hK.out _ _ ((unhide HSS) _ (o2.alloc o2.size _)) (fun hHeld => ?_)
          clear hK K
          try dsimp only
          refine rdA 12 (fun K hK => ?_)
          refine step_append_lies _ (by rfl) (.tmp 48) (.tmp 58) 35 (by rfl) W7.heap.size 97 i0 (.agg #[.slice none 0 0, .slice none 0 0, .bool false]) 3 56 Tryz.underlying35 hi hz0 hz1 hz2 rfl (by decide) _ _ _ (by rfl) (by exact q3.alloc _) ⟨W1'.heap.size, 0, none⟩ 1 1 [.slice a1 t1.n c1, .slice a2 t2.n c2, .bool q] (by rfl) rfl (by exact three_at _ _ _ _ _) (by simp [Value.oneCell']) (by omega) (by unfold maxLen; omega) (by omega) (by simp; omega) _ rfl ?_
          intro g2 cap2 W2 hown2 hgrow2 hat2 hlt2
          obtain ⟨⟨u10, hu10⟩, hf10, hS2, hS3, d2, I2⟩ := (unhide HST) WW W1 W1' _ W2 a1 a2 c1 c2 g2 cap2 es (unhide HQA).1 (unhide HQA).2.1 (unhide HQA).2.2 (unhide HQB).1 (unhide HQB).2.1 (below_alloc W1' _) (unhide HQB).2.2.1 (unhide HQB).2.2.2 hown2 hgrow2 hat2
          have HI2 := hide I2
          clear I2 hown2 hgrow2 hat2 hlt2
          refine hK.out _ _ (hS2) (fun hHeld => ?_)
          clear hK K
          try dsimp only
          refine tkA 13 ?_
          try dsimp only
          refine rdA 14 (fun K hK => ?_)
          go_simp
          refine hK.out _ _ (hS3) (fun hHeld => ?_)
          clear hK K
          try dsimp only
          refine wpAnyH_done (by kernel_rfl) ?_ _
          have h3 := unhide HI2
          rw [← filt_keep za zb (vs.take k) _ (unhide HKV), ← unhide HTS] at h3
          have HI3 := hide h3
          clear h3
          clear HQA HQB q3 m3 m3' m3a hu10 hf10 hHeld hS2 hS3 HCA HCB HST HI2
          go_wp2_with fail
          go_roundw
          case rel => exact ⟨k + 1, _, d2, (by show k + 1 ≤ svn; omega), by go_num, unhide HI3⟩
          case measure => simp [intOf]; omega
        refine AllReadyH.cons (o := _) rfl (fun K hK => ?_) AllReadyH.nil
        go_simp
        go_at_call 59
        refine ((unhide HCB) _ o1).mono ?_
        rintro e W1' ⟨a2, c2, es, rfl, m3', o2, q3, zW, HQB⟩
        have m3a : ∀ o, (W1'.alloc o).cell? ⟨gs, 3, none⟩ = some (.slice s3.a s3.n s3.c) := fun o => ((below_alloc W1' o).cell (lt_of_cell m3')).trans m3'
        (try dsimp only)
        refine hK.out _ _ ((unhide HSS) _ o2) (fun hHeld => ?_)
        clear hK K
        try dsimp only
        refine tkA 10 ?_
        try dsimp only
        refine wpAnyH_ready (rs := [1, 11]) (by kernel_rfl) (by simp) ?_
        refine AllReadyH.cons (o := _) rfl (fun K hK => ?_) ?_
        · skip
          go_simp
          refine hK.out _ _ (hHeld) (fun hHeld => ?_)
          clear hK K
          try dsimp only
          refine rdA 11 (fun K hK => ?_)
          go_simp
          refine hK.out _ _ ((unhide HSS) _ (o2.alloc o2.size _)) (fun hHeld => ?_)
          clear hK K
          try dsimp only
          refine rdA 12 (fun K hK => ?_)
          refine step_append_lies _ (by rfl) (.tmp 48) (.tmp 58) 35 (by rfl) W7.heap.size 97 i0 (.agg #[.slice none 0 0, .slice none 0 0, .bool false]) 3 56 Tryz.underlying35 hi hz0 hz1 hz2 rfl (by decide) _ _ _ (by rfl) (by exact q3.alloc _) ⟨W1'.heap.size, 0, none⟩ 1 1 [.slice a1 t1.n c1, .slice a2 t2.n c2, .bool q] (by rfl) rfl (by exact three_at _ _ _ _ _) (by simp [Value.oneCell']) (by omega) (by unfold maxLen; omega) (by omega) (by simp; omega) _ rfl ?_
          intro g2 cap2 W2 hown2 hgrow2 hat2 hlt2
          obtain ⟨⟨u10, hu10⟩, hf10, hS2, hS3, d2, I2⟩ := (unhide HST) WW W1 W1' _ W2 a1 a2 c1 c2 g2 cap2 es (unhide HQA).1 (unhide HQA).2.1 (unhide HQA).2.2 (unhide HQB).1 (unhide HQB).2.1 (below_alloc W1' _) (unhide HQB).2.2.1 (unhide HQB).2.2.2 hown2 hgrow2 hat2
          have HI2 := hide I2
          clear I2 hown2 hgrow2 hat2 hlt2
          refine hK.out _ _ (hS2) (fun hHeld => ?_)
          clear hK K
          try dsimp only
          refine tkA 13 ?_
          try dsimp only
          refine rdA 14 (fun K hK => ?_)
          go_simp
          refine hK.out _ _ (hS3) (fun hHeld => ?_)
          clear hK K
          try dsimp only
          refine wpAnyH_done (by kernel_rfl) ?_ _
          have h3 := unhide HI2
          rw [← filt_keep za zb (vs.take k) _ (unhide HKV), ← unhide HTS] at h3
          have HI3 := hide h3
          clear h3
          clear HQA HQB q3 m3 m3' m3a hu10 hf10 hHeld hS2 hS3 HCA HCB HST HI2
          go_wp2_with fail
          go_roundw
          case rel => exact ⟨k + 1, _, d2, (by show k + 1 ≤ svn; omega), by go_num, unhide HI3⟩
          case measure => simp [intOf]; omega
        refine AllReadyH.cons (o := _) rfl (fun K hK => ?_) AllReadyH.nil
        go_simp
        refine hK.out _ _ ((unhide HSS) _ (o2.alloc o2.size _)) (fun hHeld => ?_)
        clear hK K
        try dsimp only
        refine rdA 1 (fun K hK => ?_)
        go_simp
        refine hK.out _ _ (hHeld) (fun hHeld => ?_)
        clear hK K
        try dsimp only
        refine rdA 12 (fun K hK => ?_)
        refine step_append_lies _ (by rfl) (.tmp 48) (.tmp 58) 35 (by rfl) W7.heap.size 97 i0 (.agg #[.slice none 0 0, .slice none 0 0, .bool false]) 3 56 Tryz.underlying35 hi hz0 hz1 hz2 rfl (by decide) _ _ _ (by rfl) (by exact q3.alloc _) ⟨W1'.heap.size, 0, none⟩ 1 1 [.slice a1 t1.n c1, .slice a2 t2.n c2, .bool q] (by rfl) rfl (by exact three_at _ _ _ _ _) (by simp [Value.oneCell']) (by omega) (by unfold maxLen; omega) (by omega) (by simp; omega) _ rfl ?_
        intro g2 cap2 W2 hown2 hgrow2 hat2 hlt2
        obtain ⟨⟨u10, hu10⟩, hf10, hS2, hS3, d2, I2⟩ := (unhide HST) WW W1 W1' _ W2 a1 a2 c1 c2 g2 cap2 es (unhide HQA).1 (unhide HQA).2.1 (unhide HQA).2.2 (unhide HQB).1 (unhide HQB).2.1 (below_alloc W1' _) (unhide HQB).2.2.1 (unhide HQB).2.2.2 hown2 hgrow2 hat2
        have HI2 := hide I2
        clear I2 hown2 hgrow2 hat2 hlt2
        refine hK.out _ _ (hS2) (fun hHeld => ?_)
        clear hK K
        try dsimp only
        refine tkA 13 ?_
        try dsimp only
        refine rdA 14 (fun K hK => ?_)
        go_simp
        refine hK.out _ _ (hS3) (fun hHeld => ?_)
        clear hK K
        try dsimp only
        refine wpAnyH_done (by kernel_rfl) ?_ _
        have h3 := unhide HI2
        rw [← filt_keep za zb (vs.take k) _ (unhide HKV), ← unhide HTS] at h3
        have HI3 := hide h3
        clear h3
        clear HQA HQB q3 m3 m3' m3a hu10 hf10 hHeld hS2 hS3 HCA HCB HST HI2
        go_wp2_with fail
        go_roundw
        case rel => exact ⟨k + 1, _, d2, (by show k + 1 ≤ svn; omega), by go_num, unhide HI3⟩
        case measure => simp [intOf]; omega
    · have dA1 : decide ((0 : Int) < (sa.n : Int)) = false := decide_eq_false (by omega)
      have dA2 : decide (0 < sa.n) = false := decide_eq_false hA
      by_cases hB : 0 < sb.n
      · have dB1 : decide ((0 : Int) < (sb.n : Int)) = true := decide_eq_true (by omega)
        have dB2 : decide (0 < sb.n) = true := decide_eq_true hB
        by_cases hm2 : z2 = zb
        · have HKV : Hid (keepV za zb (z1, z2, q) = false) := by show _ = _; unfold keepV; simp only [unhide HNA, unhide HNB]; simp [hA, hm2, hB]
          go_wp2_with fail
          refine ((unhide HQ2) _ (Below.refl _ _)).mono ?_
          rintro r Wv ⟨rfl, rfl⟩
          rw [decide_eq_true hm2]
          have h3 := unhide HIN
          rw [← filt_drop za zb (vs.take k) _ (unhide HKV), ← unhide HTS] at h3
          have HI3 := hide h3
          clear h3
          clear HCA HCB HST
          go_wp2_with fail
          go_roundw
          case rel => exact ⟨k + 1, _, d3, (by show k + 1 ≤ svn; omega), by go_num, unhide HI3⟩
          case measure => simp [intOf]; omega
        · have HKV : Hid (keepV za zb (z1, z2, q) = true) := by show _ = _; unfold keepV; simp only [unhide HNA, unhide HNB]; simp [hA, hm2, hB]
          go_wp2_with fail
          refine ((unhide HQ2) _ (Below.refl _ _)).mono ?_
          rintro r Wv ⟨rfl, rfl⟩
          rw [decide_eq_false hm2]
          go_wp2_with fail
          refine wp_region_held_drew (S := (fun W => W.cell? ⟨gv, 0, none⟩ = some (.slice t1.a t1.n t1.c) ∧ W.cell? ⟨gv, 1, none⟩ = some (.slice t2.a t2.n t2.c) ∧ W.cell? ⟨gv, 2, none⟩ = some (.bool q))) (by kernel_rfl) ((unhide HSS) _ ((Below.refl Wv.heap.size Wv).drew)) (fun hHeld => ?_)
          refine tkA 0 ?_
          try dsimp only
          refine tkA 2 ?_
          try dsimp only
          refine tkA 3 ?_
          try dsimp only
          refine tkA 5 ?_
          try dsimp only
          refine tkA 6 ?_
          try dsimp only
          refine tkA 8 ?_
          try dsimp only
          refine tkA 9 ?_
          try dsimp only
          refine wpAnyH_ready (rs := [1, 4]) (by kernel_rfl) (by simp) ?_
          refine AllReadyH.cons (o := _) rfl (fun K hK => ?_) ?_
          · skip
            go_simp
            refine hK.out _ _ (hHeld) (fun hHeld => ?_)
            clear hK K
            try dsimp only
            refine rdA 4 (fun K hK => ?_)
            go_simp
            go_at_call 59
            refine ((unhide HCA) _ (by first | exact (Below.refl Wv.heap.size Wv).drew | exact below_drewN (Below.refl Wv.heap.size Wv) _)).mono ?_
            rintro e W1 ⟨a1, c1, WW, rfl, m3, o1, HQA⟩
            (try dsimp only)
            refine hK.out _ _ ((unhide HSS) _ o1) (fun hHeld => ?_)
            clear hK K
            try dsimp only
            refine rdA 7 (fun K hK => ?_)
            go_simp
            go_at_call 59
            refine ((unhide HCB) _ o1).mono ?_
            rintro e W1' ⟨a2, c2, es, rfl, m3', o2, q3, zW, HQB⟩
            have m3a : ∀ o, (W1'.alloc o).cell? ⟨gs, 3, none⟩ = some (.slice s3.a s3.n s3.c) := fun o => ((below_alloc W1' o).cell (lt_of_cell m3')).trans m3'
            (try dsimp only)
            refine hK.out _ _ ((unhide HSS) _ o2) (fun hHeld => ?_)
            clear hK K
            try dsimp only
            refine tkA 10 ?_
            try dsimp only
            refine rdA 11 (fun K hK => ?_)
            go_simp
            refine hK.out _ _ ((unhide HSS) _ (o2.alloc o2.size _)) (fun hHeld => ?_)
            clear hK K
            try dsimp only
            refine rdA 12 (fun K hK => ?_)
            refine step_append_lies _ (by rfl) (.tmp 48) (.tmp 58) 35 (by rfl) W7.heap.size 97 i0 (.agg #[.slice none 0 0, .slice none 0 0, .bool false]) 3 56 Tryz.underlying35 hi hz0 hz1 hz2 rfl (by decide) _ _ _ (by rfl) (by exact q3.alloc _) ⟨W1'.heap.size, 0, none⟩ 1 1 [.slice a1 t1.n c1, .slice a2 t2.n c2, .bool q] (by rfl) rfl (by exact three_at _ _ _ _ _) (by simp [Value.oneCell']) (by omega) (by unfold maxLen; omega) (by omega) (by simp; omega) _ rfl ?_
            intro g2 cap2 W2 hown2 hgrow2 hat2 hlt2
            obtain ⟨⟨u10, hu10⟩, hf10, hS2, hS3, d2, I2⟩ := (unhide HST) WW W1 W1' _ W2 a1 a2 c1 c2 g2 cap2 es (unhide HQA).1 (unhide HQA).2.1 (unhide HQA).2.2 (unhide HQB).1 (unhide HQB).2.1 (below_alloc W1' _) (unhide HQB).2.2.1 (unhide HQB).2.2.2 hown2 hgrow2 hat2
            have HI2 := hide I2
            clear I2 hown2 hgrow2 hat2 hlt2
            refine hK.out _ _ (hS2) (fun hHeld => ?_)
            clear hK K
            try dsimp only
            refine tkA 13 ?_
            try dsimp only
            refine rdA 14 (fun K hK => ?_)
            go_simp
            refine hK.out _ _ (hS3) (fun hHeld => ?_)
            clear hK K
            try dsimp only
            refine wpAnyH_done (by kernel_rfl) ?_ _
            have h3 := unhide HI2
            rw [← filt_keep za zb (vs.take k) _ (unhide HKV), ← unhide HTS] at h3
            have HI3 := hide h3
            clear h3
            clear HQA HQB q3 m3 m3' m3a hu10 hf10 hHeld hS2 hS3 HCA HCB HST HI2
            go_wp2_with fail
            go_roundw
            case rel => exact ⟨k + 1, _, d2, (by show k + 1 ≤ svn; omega), by go_num, unhide HI3⟩
            case measure => simp [intOf]; omega
          refine AllReadyH.cons (o := _) rfl (fun K hK => ?_) AllReadyH.nil
          go_simp
          go_at_call 59
          refine ((unhide HCA) _ (by first | exact (Below.refl Wv.heap.size Wv).drew | exact below_drewN (Below.refl Wv.heap.size Wv) _)).mono ?_
          rintro e W1 ⟨a1, c1, WW, rfl, m3, o1, HQA⟩
          (try dsimp only)
          refine hK.out _ _ ((unhide HSS) _ o1) (fun hHeld => ?_)
          clear hK K
          try dsimp only
          refine wpAnyH_ready (rs := [1, 7]) (by kernel_rfl) (by simp) ?_
          refine AllReadyH.cons (o := _) rfl (fun K hK => ?_) ?_
          · skip
            go_simp
            refine hK.out _ _ (hHeld) (fun hHeld => ?_)
            clear hK K
            try dsimp only
            refine rdA 7 (fun K hK => ?_)
            go_simp
            go_at_call 59
            refine ((unhide HCB) _ o1).mono ?_
            rintro e W1' ⟨a2, c2, es, rfl, m3', o2, q3, zW, HQB⟩
            have m3a : ∀ o, (W1'.alloc o).cell? ⟨gs, 3, none⟩ = some (.slice s3.a s3.n s3.c) := fun o => ((below_alloc W1' o).cell (lt_of_cell m3')).trans m3'
            (try dsimp only)
            refine hK.out _ _ ((unhide HSS) _ o2) (fun hHeld => ?_)
            clear hK K
            try dsimp only
            refine tkA 10 ?_
            try dsimp only
            refine rdA 11 (fun K hK => ?_)
            go_simp
            refine hK.out _ _ ((unhide HSS) _ (o2.alloc o2.size _)) (fun hHeld => ?_)
            clear hK K
            try dsimp only
            refine rdA 12 (fun K hK => ?_)
            refine step_append_lies _ (by rfl) (.tmp 48) (.tmp 58) 35 (by rfl) W7.heap.size 97 i0 (.agg #[.slice none 0 0, .slice none 0 0, .bool false]) 3 56 Tryz.underlying35 hi hz0 hz1 hz2 rfl (by decide) _ _ _ (by rfl) (by exact q3.alloc _) ⟨W1'.heap.size, 0, none⟩ 1 1 [.slice a1 t1.n c1, .slice a2 t2.n c2, .bool q] (by rfl) rfl (by exact three_at _ _ _ _ _) (by simp [Value.oneCell']) (by omega) (by unfold maxLen; omega) (by omega) (by simp; omega) _ rfl ?_
            intro g2 cap2 W2 hown2 hgrow2 hat2 hlt2
            obtain ⟨⟨u10, hu10⟩, hf10, hS2, hS3, d2, I2⟩ := (unhide HST) WW W1 W1' _ W2 a1 a2 c1 c2 g2 cap2 es (unhide HQA).1 (unhide HQA).2.1 (unhide HQA).2.2 (unhide HQB).1 (unhide HQB).2.1 (below_alloc W1' _) (unhide HQB).2.2.1 (unhide HQB).2.2.2 hown2 hgrow2 hat2
            have HI2 := hide I2
            clear I2 hown2 hgrow2 hat2 hlt2
            refine hK.out _ _ (hS2) (fun hHeld => ?_)
            clear hK K
            try dsimp only
            refine tkA 13 ?_
            try dsimp only
            refine rdA 14 (fun K hK => ?_)
            go_simp
            refine hK.out _ _ (hS3) (fun hHeld => ?_)
            clear hK K
            try dsimp only
            refine wpAnyH_done (by kernel_rfl) ?_ _
            have h3 := unhide HI2
            rw [← filt_keep za zb (vs.take k) _ (unhide HKV), ← unhide HTS] at h3
            have HI3 := hide h3
            clear h3
            clear HQA HQB q3 m3 m3' m3a hu10 hf10 hHeld hS2 hS3 HCA HCB HST HI2
            go_wp2_with fail
            go_roundw
            case rel => exact ⟨k + 1, _, d2, (by show k + 1 ≤ svn; omega), by go_num, unhide HI3⟩
            case measure => simp [intOf]; omega
          refine AllReadyH.cons (o := _) rfl (fun K hK => ?_) AllReadyH.nil
          go_simp
          go_at_call 59
          refine ((unhide HCB) _ o1).mono ?_
          rintro e W1' ⟨a2, c2, es, rfl, m3', o2, q3, zW, HQB⟩
          have m3a : ∀ o, (W1'.alloc o).cell? ⟨gs, 3, none⟩ = some (.slice s3.a s3.n s3.c) := fun o => ((below_alloc W1' o).cell (lt_of_cell m3')).trans m3'
          (try dsimp only)
          refine hK.out _ _ ((unhide HSS) _ o2) (fun hHeld => ?_)
          clear hK K
          try dsimp only
          refine tkA 10 ?_
          try dsimp only
          refine wpAnyH_ready (rs := [1, 11]) (by kernel_rfl) (by simp) ?_
          refine AllReadyH.cons (o := _) rfl (fun K hK => ?_) ?_
          · skip
            go_simp
            refine hK.out _ _ (hHeld) (fun hHeld => ?_)
            clear hK K
            try dsimp only
            refine rdA 11 (fun K hK => ?_)
            go_simp
            refine hK.out _ _ ((unhide HSS) _ (o2.alloc o2.size _)) (fun hHeld => ?_)
            clear hK K
            try dsimp only
            refine rdA 12 (fun K hK => ?_)
            refine step_append_lies _ (by rfl) (.tmp 48) (.tmp 58) 35 (by rfl) W7.heap.size 97 i0 (.agg #[.slice none 0 0, .slice none 0 0, .bool false]) 3 56 Tryz.underlying35 hi hz0 hz1 hz2 rfl (by decide) _ _ _ (by rfl) (by exact q3.alloc _) ⟨W1'.heap.size, 0, none⟩ 1 1 [.slice a1 t1.n c1, .slice a2 t2.n c2, .bool q] (by rfl) rfl (by exact three_at _ _ _ _ _) (by simp [Value.oneCell']) (by omega) (by unfold maxLen; omega) (by omega) (by simp; omega) _ rfl ?_
            intro g2 cap2 W2 hown2 hgrow2 hat2 hlt2
            obtain ⟨⟨u10, hu10⟩, hf10, hS2, hS3, d2, I2⟩ := (unhide HST) WW W1 W1' _ W2 a1 a2 c1 c2 g2 cap2 es (unhide HQA).1 (unhide HQA).2.1 (unhide HQA).2.2 (unhide HQB).1 (unhide HQB).2.1 (below_alloc W1' _) (unhide HQB).2.2.1 (unhide HQB).2.2.2 hown2 hgrow2 hat2
            have HI2 := hide I2
            clear I2 hown2 hgrow2 hat2 hlt2
            refine hK.out _ _ (hS2) (fun hHeld => ?_)
            clear hK K
            try dsimp only
            refine tkA 13 ?_
            try dsimp only
            refine rdA 14 (fun K hK => ?_)
            go_simp
            refine hK.out _ _ (hS3) (fun hHeld => ?_)
            clear hK K
            try dsimp only
            refine wpAnyH_done (by kernel_rfl) ?_ _
            have h3 := unhide HI2
            rw [← filt_keep za zb (vs.take k) _ (unhide HKV), ← unhide HTS] at h3
            have HI3 := hide h3
            clear h3
            clear HQA HQB q3 m3 m3' m3a hu10 hf10 hHeld hS2 hS3 HCA HCB HST HI2
            go_wp2_with fail
            go_roundw
            case rel => exact ⟨k + 1, _, d2, (by show k + 1 ≤ svn; omega), by go_num, unhide HI3⟩
            case measure => simp [intOf]; omega
          refine AllReadyH.cons (o := _) rfl (fun K hK => ?_) AllReadyH.nil
          go_simp
          refine hK.out _ _ ((unhide HSS) _ (o2.alloc o2.size _)) (fun hHeld => ?_)
          clear hK K
          try dsimp only
          refine rdA 1 (fun K hK => ?_)
          go_simp
          refine hK.out _ _ (hHeld) (fun hHeld => ?_)
          clear hK K
          try dsimp only
          refine rdA 12 (fun K hK => ?_)
          refine step_append_lies _ (by rfl) (.tmp 48) (.tmp 58) 35 (by rfl) W7.heap.size 97 i0 (.agg #[.slice none 0 0, .slice none 0 0, .bool false]) 3 56 Tryz.underlying35 hi hz0 hz1 hz2 rfl (by decide) _ _ _ (by rfl) (by exact q3.alloc _) ⟨W1'.heap.size, 0, none⟩ 1 1 [.slice a1 t1.n c1, .slice a2 t2.n c2, .bool q] (by rfl) rfl (by exact three_at _ _ _ _ _) (by simp [Value.oneCell']) (by omega) (by unfold maxLen; omega) (by omega) (by simp; omega) _ rfl ?_
          intro g2 cap2 W2 hown2 hgrow2 hat2 hlt2
          obtain ⟨⟨u10, hu10⟩, hf10, hS2, hS3, d2, I2⟩ := (unhide HST) WW W1 W1' _ W2 a1 a2 c1 c2 g2 cap2 es (unhide HQA).1 (unhide HQA).2.1 (unhide HQA).2.2 (unhide HQB).1 (unhide HQB).2.1 (below_alloc W1' _) (unhide HQB).2.2.1 (unhide HQB).2.2.2 hown2 hgrow2 hat2
          have HI2 := hide I2
          clear I2 hown2 hgrow2 hat2 hlt2
          refine hK.out _ _ (hS2) (fun hHeld => ?_)
          clear hK K
          try dsimp only
          refine tkA 13 ?_
          try dsimp only
          refine rdA 14 (fun K hK => ?_)
          go_simp
          refine hK.out _ _ (hS3) (fun hHeld => ?_)
          clear hK K
          try dsimp only
          refine wpAnyH_done (by kernel_rfl) ?_ _
          have h3 := unhide HI2
          rw [← filt_keep za zb (vs.take k) _ (unhide HKV), ← unhide HTS] at h3
          have HI3 := hide h3
          clear h3
          clear HQA HQB q3 m3 m3' m3a hu10 hf10 hHeld hS2 hS3 HCA HCB HST HI2
          go_wp2_with fail
          go_roundw
          case rel => exact ⟨k + 1, _, d2, (by show k + 1 ≤ svn; omega), by go_num, unhide HI3⟩
          case measure => simp [intOf]; omega
      · have dB1 : decide ((0 : Int) < (sb.n : Int)) = false := decide_eq_false (by omega)
        have dB2 : decide (0 < sb.n) = false := decide_eq_false hB
        have HKV : Hid (keepV za zb (z1, z2, q) = false) := by show _ = _; unfold keepV; simp only [unhide HNA, unhide HNB]; simp [hA, hB]
        have h3 := unhide HIN
        rw [← filt_drop za zb (vs.take k) _ (unhide HKV), ← unhide HTS] at h3
        have HI3 := hide h3
        clear h3
        clear HCA HCB HST
        go_wp2_with fail
        go_roundw
        case rel => exact ⟨k + 1, _, d3, (by show k + 1 ≤ svn; omega), by go_num, unhide HI3⟩
        case measure => simp [intOf]; omega
  · obtain rfl : k = sv.n := by omega
    have et : vs.take sv.n = vs := List.take_of_length_le (by rw [← unhide HSV]; exact Nat.le_refl _)
    have hrow := I.row
    rw [et] at hrow
    have B0r := (unhide HB0) _ I.old
    have kr := (unhide HKR) _ B0r
    have r0 := kr.cell 0
    have r1 := kr.cell 1
    have r2 := kr.cell 2
    have r3 := kr.cell 3
    have f0 := kr.free 0
    have f1 := kr.free 1
    have f2 := kr.free 2
    have f3 := kr.free 3
    have o0 := I.blk.cell 0
    have o1 := I.blk.cell 1
    have o2 := I.blk.cell 2
    have o3 := I.blk.cell 3
    simp only [List.getElem?_cons_zero, List.getElem?_cons_succ] at r0 r1 r2 r3 o0 o1 o2 o3
    have HROW := hide hrow
    have HKEEP := hide I.keep
    have HSIZ := hide I.size
    have HBF := hide ((unhide HBB).trans (B0r.mono (unhide HBB).size))
    have HZZ := hide (unhide HZ0)
    clear I et hrow B0r kr
    go_wp2_with fail
    refine bodyPost_ret (v := .agg #[.int .i64 n, .slice s5.a s5.n s5.c, .slice r5.a r5.n r5.c, .slice s3.a s3.n s3.c]) (by simp [results, Tryz.results90, go_sem, r0, r1, r2, r3]) rfl ?_
    have zz := unhide HZZ
    have hz7 := unhide HZ7
    have hw5 := unhide HW5
    have hsz := unhide HSIZ
    have hne : ∀ (W : World) (g i : Nat) (v : Value), g ≠ w.heap.size + 1 → (W.setCell ⟨w.heap.size + 1, i, none⟩ v).heap[g]? = W.heap[g]? := fun W g i v h => heap_setCell_other W ⟨w.heap.size + 1, i, none⟩ g v (fun e => h e)
    refine ⟨((), s5, r5, s3), d3, W7.heap.size, rfl, by omega, by simp [World.setCell]; exact hsz, ?_, fun W hW => ?_, ?_⟩
    · exact ((((unhide HROW).set (by omega)).set (by omega)).set (by omega)).set (by omega)
    · have ok := (unhide HK5) W (fun g h1 h2 => by
        rw [hW g (by omega) (by omega), hne _ g _ _ (by omega), hne _ g _ _ (by omega), hne _ g _ _ (by omega), hne _ g _ _ (by omega), (unhide HKEEP) g (by omega) (by omega), (unhide HB56).block g (by omega)])
      exact ⟨ok.2.1, ok.2.2.1⟩
    · repeat (refine Below.setCell ?_ (by show w.heap.size ≤ w.heap.size + 1; omega) _)
      exact unhide HBF

end Go.Proofs.YtdmcmlcmgbbclaaGreat
