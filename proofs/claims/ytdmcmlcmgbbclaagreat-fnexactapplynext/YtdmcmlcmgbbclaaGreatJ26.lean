/- What is proved here: what the program's CastVote answers where more than half want someone to come in and there is room. -/
import Derived.Test.YtdmcmlcmgbbclaaGreatJ24
namespace Go.Proofs.YtdmcmlcmgbbclaaGreat
set_option linter.unusedVariables false
set_option linter.unusedSimpArgs false
open Go.RowKit
set_option maxRecDepth 100000

set_option maxHeartbeats 8000000 in
theorem cast_in_any (p : Path) (e : SnS) (x : Sn) (sa sb : Sl) (za zb : List Int) (add : Bool) (w : World) (o : SNK.Ok w e x) (m : SnSm x) (oa : BOk w sa za) (ob : BOk w sb zb) (hc : cfCode x za zb = 0) (h0 : snFlt x = 0) (ha : za.length = 4) (hb4 : zb.length = 4) (hadd : add = !decide (zb ∈ x.2.1)) (hroom : ¬ 30 ≤ (pvLess (placed x.2.2.2) za zb).length) (hmaj : ¬ 2 * tlOf zb (pvKeys (pvLess (placed x.2.2.2) za zb ++ [(((x.2.2.2.length : Nat) : Int), za, zb, add)])) ≤ x.2.1.length) (hin : add = true) (h7 : ¬ 7 ≤ x.2.1.length) :
    Calls Tryz.prog 38 #[.agg (snvals e x), .slice sa.a sa.n sa.c, .slice sb.a sb.n sb.c, .bool add] w fun r w' => ∃ e' : SnS, r = .returned (.agg (srvals 0 e' (x.1, putL x.2.1 zb, x.2.2.1, ((pvLess (placed x.2.2.2) za zb ++ [(((x.2.2.2.length : Nat) : Int), za, zb, add)]).filter (fun q => !decide (q.2.2.1 = zb))).map Prod.snd))) ∧ (∃ d, SNK.Own w' w.heap.size d p e' (x.1, putL x.2.1 zb, x.2.2.1, ((pvLess (placed x.2.2.2) za zb ++ [(((x.2.2.2.length : Nat) : Int), za, zb, add)]).filter (fun q => !decide (q.2.2.1 = zb))).map Prod.snd)) ∧ Below w.heap.size w w' := by
 obtain ⟨q1, q2, q3, q4, q5, q6, q7, q8⟩ := sn_iff.1 h0
 obtain ⟨z0, z1, z2, z3, rfl⟩ : ∃ z0 z1 z2 z3, za = [z0, z1, z2, z3] := by
  match za, ha with
  | [a, b, c, d], _ => exact ⟨a, b, c, d, rfl⟩
 obtain ⟨t0, t1, t2, t3, rfl⟩ : ∃ t0 t1 t2 t3, zb = [t0, t1, t2, t3] := by
  match zb, hb4 with
  | [a, b, c, d], _ => exact ⟨a, b, c, d, rfl⟩
 have HIN := hide hin
 clear hin
 obtain ⟨X, hX⟩ : ∃ X : Sn, X = (x.1, putL x.2.1 [t0, t1, t2, t3], x.2.2.1, ((pvLess (placed x.2.2.2) [z0, z1, z2, z3] [t0, t1, t2, t3] ++ [(((x.2.2.2.length : Nat) : Int), [z0, z1, z2, z3], [t0, t1, t2, t3], add)]).filter (fun q => !decide (q.2.2.1 = [t0, t1, t2, t3]))).map Prod.snd) := ⟨_, rfl⟩
 rw [← hX]
 have HX := hide hX
 clear hX
 obtain ⟨bIn, hbIn⟩ : ∃ b, decide ([t0, t1, t2, t3] ∈ x.2.1) = b := ⟨_, rfl⟩
 have hd : (add == bIn) = false := by rw [← hbIn, hadd]; simp
 have HADD := hide hadd
 clear hadd
 obtain ⟨W0, e0, b0, hz, kx, kr⟩ := entry_sr e x w
 have HO := hide (fun (W : World) (hb : Below W0.heap.size W0 W) => SNK.below o (b0.trans (hb.mono b0.size)) (Nat.le_refl _))
 have HOA := hide (fun (W : World) (hb : Below W0.heap.size W0 W) => bytesK.below oa (b0.trans (hb.mono b0.size)) (Nat.le_refl _))
 have HOB := hide (fun (W : World) (hb : Below W0.heap.size W0 W) => bytesK.below ob (b0.trans (hb.mono b0.size)) (Nat.le_refl _))
 have HCF := hide (fun (W : World) (hb : Below W0.heap.size W0 W) => castFault_any e x sa sb _ _ W ((unhide HO) W hb) m ((unhide HOA) W hb) ((unhide HOB) W hb))
 rw [hc] at HCF
 have HPL := hide (fun (W : World) (hb : Below W0.heap.size W0 W) => pollV_any e.2.2.2 x.2.2.2 W ((unhide HO) W hb).2.2.2 q5 (fun v hv => ⟨(q7 v hv).1, (q7 v hv).2.1⟩) q8)
 have HQ5 := hide q5
 have HH0 := hide h0
 have HM := hide m
 have x0 := kx.cell 0
 have x1 := kx.cell 1
 have x2 := kx.cell 2
 have x3 := kx.cell 3
 simp only [snvals, List.getElem?_cons_zero, List.getElem?_cons_succ] at x0 x1 x2 x3
 unfold snvals at HCF
 have HB := hide b0
 have HKR := hide kr
 have HKX := hide kx
 clear o oa ob kx kr b0 hc q1 q2 q3 q4 q5 q6 q7 q8 h0 m
 go_enter Tryz.func38, Tryz.ntmps38
 go_wp2_with (rw [e0])
 refine ((unhide HCF) W0 (Below.refl _ _)).mono ?_
 rintro r1 w1 ⟨rfl, b1⟩
 have HB1 := hide b1
 have y3 := ((unhide HKX).below b1 (unhide HKX).lt).cell 3
 simp only [snvals, Array.toList, List.getElem?_cons_zero, List.getElem?_cons_succ] at y3
 clear b1 e0 x0 x1 x2 x3
 go_wp2_with fail
 refine ((unhide HPL) w1 (unhide HB1)).mono ?_
 rintro r2 w2 ⟨rfl, hp2, b2⟩
 obtain ⟨g, hg⟩ : ∃ g, w1.heap.size = g := ⟨_, rfl⟩
 have hgW0 : W0.heap.size ≤ g := by rw [← hg]; exact (unhide HB1).size
 rw [hg] at hp2 ⊢
 have B2 : Below W0.heap.size W0 w2 := (unhide HB1).trans (b2.mono (unhide HB1).size)
 have HBL := hide (ballotOf_any sa sb z0 z1 z2 z3 t0 t1 t2 t3 w2 ((unhide HOA) w2 B2) ((unhide HOB) w2 B2))
 have HB2 := hide B2
 have HP2 := hide hp2
 clear hp2 b2 B2 y3 hg
 go_wp2_with fail
 refine (unhide HBL).mono ?_
 rintro r3 w3 ⟨rfl, b3⟩
 obtain ⟨D, hown, hpd⟩ := (unhide HP2).below b3 (Nat.le_refl _)
 have ax := adr_of ((unhide HOA) w2 (unhide HB2)) rfl
 have ay := adr_of ((unhide HOB) w2 (unhide HB2)) rfl
 have hkey := keyOf_ballot (ax.2 z0 (by simp)) (ax.2 z1 (by simp)) (ax.2 z2 (by simp)) (ax.2 z3 (by simp)) (ay.2 t0 (by simp)) (ay.2 t1 (by simp)) (ay.2 t2 (by simp)) (ay.2 t3 (by simp))
 have hownA := hown.alloc (.cells #[.int .u8 z0, .int .u8 z1, .int .u8 z2, .int .u8 z3, .int .u8 t0, .int .u8 t1, .int .u8 t2, .int .u8 t3] 117)
 go_wp2_with (at_delete; refine wpList_delete_own _ rfl _ _ 106 117 rfl 121 ballotLaw Tryz.underlying106 standR g _ D rfl hownA _ _ rfl hkey ?_)
 intro w4 hown4 ht4
 have hglt : g < w3.heap.size := hown.lt
 have B3 : Below W0.heap.size W0 w3 := (unhide HB2).trans (b3.mono (unhide HB2).size)
 have B3s := B3.size
 have hz3 : (w3.alloc (.cells #[.int .u8 z0, .int .u8 z1, .int .u8 z2, .int .u8 z3, .int .u8 t0, .int .u8 t1, .int .u8 t2, .int .u8 t3] 117)).heap.size = w3.heap.size + 1 := by simp
 have hg4 := ht4.grown
 have s4 := hg4.size
 rw [hz3] at s4
 have hlt3 : w3.heap.size < (w3.alloc (.cells #[.int .u8 z0, .int .u8 z1, .int .u8 z2, .int .u8 z3, .int .u8 t0, .int .u8 t1, .int .u8 t2, .int .u8 t3] 117)).heap.size := by omega
 have B4 : Below W0.heap.size W0 w4 := (B3.trans ((below_alloc w3 (.cells #[.int .u8 z0, .int .u8 z1, .int .u8 z2, .int .u8 z3, .int .u8 t0, .int .u8 t1, .int .u8 t2, .int .u8 t3] 117)).mono B3s)).grown hg4 (by omega) (fun b e => by have := Option.some.inj e; omega)
 have kk4 : SBlk w4 w3.heap.size [.int .u8 z0, .int .u8 z1, .int .u8 z2, .int .u8 z3, .int .u8 t0, .int .u8 t1, .int .u8 t2, .int .u8 t3] 117 := (hg4.block w3.heap.size hlt3 (fun e => by have := Option.some.inj e; omega)).trans (SBlk.new w3 #[.int .u8 z0, .int .u8 z1, .int .u8 z2, .int .u8 z3, .int .u8 t0, .int .u8 t1, .int .u8 t2, .int .u8 t3] 117)
 have kx4 := (unhide HKX).below B4 (unhide HKX).lt
 have kr4 := (unhide HKR).below B4 (unhide HKR).lt
 have hpd4 := hpd.del (hown.tidy ballotLaw) ax ay
 obtain ⟨D4, hD4⟩ : ∃ D4, D.del (klOf [z0, z1, z2, z3] [t0, t1, t2, t3]) = D4 := ⟨_, rfl⟩
 rw [hD4] at hown4 hpd4
 obtain ⟨k4, hk4⟩ : ∃ k4, k4 = (placed x.2.2.2).length := ⟨_, rfl⟩
 have HL30 : Hid ((pvLess (placed x.2.2.2) [z0, z1, z2, z3] [t0, t1, t2, t3]).length ≤ 30) := by
  have h1 : (pvLess (placed x.2.2.2) [z0, z1, z2, z3] [t0, t1, t2, t3]).length ≤ (placed x.2.2.2).length := List.length_filter_le _ _
  have h2 : (placed x.2.2.2).length = x.2.2.2.length := by rw [← placed_snd x.2.2.2, List.length_map]; rw [placed_snd]
  have := unhide HQ5
  show _ ≤ 30
  omega
 have hm4 := (unhide HO) w4 B4
 have hISA := isAmong_any e.2.1 sb x.2.1 _ w4 hm4.2.1 ((unhide HOB) w4 B4) (snFlt_sg (unhide HH0)).1
 rw [hbIn] at hISA
 have HISA := hide hISA
 have y0 := kx4.cell 0
 have y1 := kx4.cell 1
 have y2 := kx4.cell 2
 have y3 := kx4.cell 3
 simp only [snvals, Array.toList, List.getElem?_cons_zero, List.getElem?_cons_succ] at y0 y1 y2 y3
 obtain ⟨c0, c1, c2, c3, c4, c5, c6, c7⟩ : w4.cell? ⟨w3.heap.size, 0, none⟩ = some (.int .u8 z0) ∧ w4.cell? ⟨w3.heap.size, 1, none⟩ = some (.int .u8 z1) ∧ w4.cell? ⟨w3.heap.size, 2, none⟩ = some (.int .u8 z2) ∧ w4.cell? ⟨w3.heap.size, 3, none⟩ = some (.int .u8 z3) ∧ w4.cell? ⟨w3.heap.size, 4, none⟩ = some (.int .u8 t0) ∧ w4.cell? ⟨w3.heap.size, 5, none⟩ = some (.int .u8 t1) ∧ w4.cell? ⟨w3.heap.size, 6, none⟩ = some (.int .u8 t2) ∧ w4.cell? ⟨w3.heap.size, 7, none⟩ = some (.int .u8 t3) := ⟨kk4.cell 0, kk4.cell 1, kk4.cell 2, kk4.cell 3, kk4.cell 4, kk4.cell 5, kk4.cell 6, kk4.cell 7⟩
 have HAX := hide (And.intro ax ay)
 have HKK := hide kk4
 have HK4 := hide (And.intro kx4 (And.intro kr4 (And.intro B4 hm4)))
 have HPD := hide hpd4
 have HOW := hide hown4
 have HKEY := hide hkey
 have hw3 : w3.heap.size < w4.heap.size := by omega
 have HBIN := hide hbIn
 clear hown hpd b3 ax ay hownA ht4 hg4 B3 hz3 hlt3 B4 kk4 kx4 kr4 hpd4 hD4 hm4 hISA hown4 hkey hbIn hk4
 go_wp2_with fail
 refine (unhide HISA).mono ?_
 rintro r5 w5 ⟨rfl, rfl⟩
 have hvn : e.2.2.2.n = x.2.2.2.length := (unhide HK4).2.2.2.2.2.2.len
 have hk30 : x.2.2.2.length < maxLen := by have := unhide HQ5; unfold maxLen; omega
 obtain ⟨w6, hrun, hown6, hgrow6⟩ := (unhide HOW).update ballotLaw Tryz.underlying106 hk30 (unhide HKEY) (standR_mk ((e.2.2.2.n : Nat) : Int) add)
 have HUP := hide (And.intro hown6 (And.intro hgrow6 hvn))
 clear hown6 hgrow6 hvn hk30
 have hsz := (unhide HPD).size
 have hn30 : (pvLess (placed x.2.2.2) [z0, z1, z2, z3] [t0, t1, t2, t3]).length < 30 := by omega
 have hcmp : decide ((30 : Int) ≤ (((Maps.size D4 : Nat)) : Int)) = false := by rw [hsz]; exact decide_eq_false (by omega)
 have hcmp2 : decide (30 ≤ Maps.size D4) = false := by rw [hsz]; exact decide_eq_false (by omega)
 have hown5 := unhide HOW
 obtain ⟨⟨r0, r1, r2, r3, r4⟩, f0, f1, f2, f3, f4⟩ := five_blk (unhide HK4).2.1
 clear hsz hn30
 go_wp2_with (first | (at_len; refine wpList_len_own _ rfl _ 106 rfl 117 121 Tryz.underlying106 standR g _ D4 rfl hown5 ?_) | fail)
 clear hrun hcmp hcmp2 hown5 r0 r1 r2 r3 r4 f0 f1 f2 f3 f4 y0 y1 y2 y3 c0 c1 c2 c3 c4 c5 c6 c7
 obtain ⟨hown6, hgrow6, hvn⟩ := unhide HUP
 have s6 := hgrow6.size
 have B6 : Below W0.heap.size W0 w6 := (unhide HK4).2.2.1.grown hgrow6 (unhide HK4).2.2.1.size (fun b e => by have := Option.some.inj e; omega)
 have hnk : ([z0, z1, z2, z3], [t0, t1, t2, t3]) ∉ pvKeys (pvLess (placed x.2.2.2) [z0, z1, z2, z3] [t0, t1, t2, t3]) := fun hm => by
  obtain ⟨q, hq, he⟩ := pv_keys.1 hm
  exact nd.1 (List.mem_filter.1 hq).2 he
 have hpd6 := (unhide HPD).put ((unhide HOW).tidy ballotLaw) (unhide HAX).1 (unhide HAX).2 (ballotLaw.key (unhide HKEY)) hnk ((e.2.2.2.n : Nat) : Int) add
 rw [hvn] at hown6 hpd6
 have hp6 : PollV w6 g (x.2.2.2.length + 1) ((pvLess (placed x.2.2.2) [z0, z1, z2, z3] [t0, t1, t2, t3]) ++ [(((x.2.2.2.length : Nat) : Int), [z0, z1, z2, z3], [t0, t1, t2, t3], add)]) := ⟨_, hown6, hpd6⟩
 have kk6 : SBlk w6 w3.heap.size [.int .u8 z0, .int .u8 z1, .int .u8 z2, .int .u8 z3, .int .u8 t0, .int .u8 t1, .int .u8 t2, .int .u8 t3] 117 := (hgrow6.block w3.heap.size hw3 (fun e => by have := Option.some.inj e; omega)).trans (unhide HKK)
 have kx6 := (unhide HKX).below B6 (unhide HKX).lt
 have hl31 : ((pvLess (placed x.2.2.2) [z0, z1, z2, z3] [t0, t1, t2, t3]) ++ [(((x.2.2.2.length : Nat) : Int), [z0, z1, z2, z3], [t0, t1, t2, t3], add)]).length ≤ 30 := by rw [List.length_append]; simp only [List.length_cons, List.length_nil]; omega
 have hTY := tally_any g (x.2.2.2.length + 1) t0 t1 t2 t3 (pvKeys ((pvLess (placed x.2.2.2) [z0, z1, z2, z3] [t0, t1, t2, t3]) ++ [(((x.2.2.2.length : Nat) : Int), [z0, z1, z2, z3], [t0, t1, t2, t3], add)])) w6 hp6.ok hpd6.nodup (fun q hq => by
  obtain ⟨v, hv, rfl⟩ := pv_keys.1 hq
  exact hpd6.adr v hv) (unhide HAX).2 (by unfold pvKeys vtKeys; rw [List.length_map, List.length_map]; exact hl31)
 have hTYW : ∀ n, Calls Tryz.prog 78 #[.map (some g), .agg #[.int .u8 t0, .int .u8 t1, .int .u8 t2, .int .u8 t3]] (w6.drewN n) fun e w' => e = .returned (.int .i64 (tlOf [t0, t1, t2, t3] (pvKeys ((pvLess (placed x.2.2.2) [z0, z1, z2, z3] [t0, t1, t2, t3]) ++ [(((x.2.2.2.length : Nat) : Int), [z0, z1, z2, z3], [t0, t1, t2, t3], add)])) : Nat)) ∧ Below (w6.drewN n).heap.size (w6.drewN n) w' := fun n => tally_any g (x.2.2.2.length + 1) t0 t1 t2 t3 (pvKeys ((pvLess (placed x.2.2.2) [z0, z1, z2, z3] [t0, t1, t2, t3]) ++ [(((x.2.2.2.length : Nat) : Int), [z0, z1, z2, z3], [t0, t1, t2, t3], add)])) _ (hp6.below (below_drewN (Below.refl w6.heap.size w6) n) (Nat.le_refl _)).ok hpd6.nodup (fun q hq => by
  obtain ⟨v, hv, rfl⟩ := pv_keys.1 hq
  exact hpd6.adr v hv) (unhide HAX).2 (by unfold pvKeys vtKeys; rw [List.length_map, List.length_map]; exact hl31)
 have hTLb : tlOf [t0, t1, t2, t3] (pvKeys ((pvLess (placed x.2.2.2) [z0, z1, z2, z3] [t0, t1, t2, t3]) ++ [(((x.2.2.2.length : Nat) : Int), [z0, z1, z2, z3], [t0, t1, t2, t3], add)])) ≤ 31 := by
  have h1 := tlOf_le [t0, t1, t2, t3] (((pvLess (placed x.2.2.2) [z0, z1, z2, z3] [t0, t1, t2, t3]) ++ [(((x.2.2.2.length : Nat) : Int), [z0, z1, z2, z3], [t0, t1, t2, t3], add)]).map Prod.snd)
  rw [List.length_map] at h1
  exact Nat.le_trans h1 (by omega)
 have hen : e.2.1.n = x.2.1.length := (unhide HK4).2.2.2.2.1.len
 rw [← hen] at hmaj
 have HEN := hide hen
 clear hen
 generalize hTL : tlOf [t0, t1, t2, t3] (pvKeys ((pvLess (placed x.2.2.2) [z0, z1, z2, z3] [t0, t1, t2, t3]) ++ [(((x.2.2.2.length : Nat) : Int), [z0, z1, z2, z3], [t0, t1, t2, t3], add)])) = TL at hTY hTYW hTLb hmaj
 have HTL := hide hTL
 have HTY := hide hTY
 have HTYW := hide hTYW
 have hwr : IntKind.i64.wrap (2 * (TL : Int)) = 2 * (TL : Int) := by rw [IntKind.wrap_i64]; omega
 have hle : decide (2 * (TL : Int) ≤ (e.2.1.n : Int)) = false := decide_eq_false (by omega)
 have hle2 : decide (2 * TL ≤ e.2.1.n) = false := decide_eq_false (by omega)
 have HS : Hid (∀ W, Below w6.heap.size w6 W → (W.cell? ⟨w3.heap.size, 4, none⟩ = some (.int .u8 t0) ∧ W.cell? ⟨w3.heap.size, 5, none⟩ = some (.int .u8 t1) ∧ W.cell? ⟨w3.heap.size, 6, none⟩ = some (.int .u8 t2) ∧ W.cell? ⟨w3.heap.size, 7, none⟩ = some (.int .u8 t3)) ∧ W.cell? ⟨w.heap.size, 1, none⟩ = some (.slice e.2.1.a e.2.1.n e.2.1.c)) := fun W hb => by
  have k := kk6.below hb kk6.lt
  exact ⟨⟨k.cell 4, k.cell 5, k.cell 6, k.cell 7⟩, (kx6.below hb kx6.lt).cell 1⟩
 have HH6 := hide (And.intro B6 (And.intro hp6 hl31))
 clear hown6 hgrow6 hvn B6 hnk hpd6 hp6 kk6 kx6 hl31 hTY hTYW hTL
 go_region_held3 (fun W => (W.cell? ⟨w3.heap.size, 4, none⟩ = some (.int .u8 t0) ∧ W.cell? ⟨w3.heap.size, 5, none⟩ = some (.int .u8 t1) ∧ W.cell? ⟨w3.heap.size, 6, none⟩ = some (.int .u8 t2) ∧ W.cell? ⟨w3.heap.size, 7, none⟩ = some (.int .u8 t3)) ∧ W.cell? ⟨w.heap.size, 1, none⟩ = some (.slice e.2.1.a e.2.1.n e.2.1.c))
  (first | exact S7 | exact (unhide HS) _ (by first | assumption | exact Below.refl _ _ | exact (Below.refl w6.heap.size w6).drew | exact below_drewN (Below.refl w6.heap.size w6) _))
  (first
  | (go_at_call 78; refine (by first | exact unhide HTY | exact (unhide HTYW) _ : Calls _ _ _ _ _).mono ?_; rintro r7 w7 ⟨rfl, b7⟩; have J7 : Below w6.heap.size w6 w7 := (by first | exact b7 | exact Below.trans (below_drewN (Below.refl w6.heap.size w6) _) b7 | exact Below.trans ((Below.refl w6.heap.size w6).drew) b7); have S7 := (unhide HS) w7 J7; clear b7))
 have B7 := (unhide HH6).1.trans (J7.mono (unhide HH6).1.size)
 have hm7 := (unhide HO) w7 B7
 have kx7 := (unhide HKX).below B7 (unhide HKX).lt
 have y0 := kx7.cell 0
 have y1 := kx7.cell 1
 have y2 := kx7.cell 2
 have y3 := kx7.cell 3
 simp only [snvals, Array.toList, List.getElem?_cons_zero, List.getElem?_cons_succ] at y0 y1 y2 y3
 have hp7 := (unhide HH6).2.1.below J7 (Nat.le_refl _)
 have HBW := hide B7
 have hin := unhide HIN
 subst hin
 have HC := hide (takeIn_any p e x g _ ((pvLess (placed x.2.2.2) [z0, z1, z2, z3] [t0, t1, t2, t3]) ++ [(((x.2.2.2.length : Nat) : Int), [z0, z1, z2, z3], [t0, t1, t2, t3], true)]) sb [t0, t1, t2, t3] w7 W0.heap.size hgW0 (fun W hb => (unhide HO) W (B7.trans hb)) (unhide HM) (snFlt_sg (unhide HH0)).1 (snFlt_sg (unhide HH0)).2.1 h7 hp7 (((placed_rise _).filter _).snoc (fun q hq => (placed_lt _ q (List.mem_filter.1 hq).1).2) _) (Nat.le_trans (unhide HH6).2.2 (by omega)) (fun W hb => (unhide HOB) W (B7.trans hb)) rfl)
 rw [← unhide HX] at HC
 unfold snvals at HC
 clear S7 J7 hm7 kx7 hp7 HTY HTYW hle hle2 hwr
 go_wp2_with fail
 refine (unhide HC).mono ?_
 rintro r8 w8 ⟨e8, rfl, ⟨d8, V8⟩, g8⟩
 have B8 : Below W0.heap.size W0 w8 := B7.grown g8 B7.size (fun b e => by have := Option.some.inj e; omega)
 obtain ⟨⟨r0, r1, r2, r3, r4⟩, f0, f1, f2, f3, f4⟩ := five_blk ((unhide HKR).below B8 (unhide HKR).lt)
 have HV := hide V8
 have HB8 := hide ((unhide HB).trans (B8.mono (unhide HB).size))
 have hww1 : w.heap.size + 1 < w7.heap.size := by have := (unhide HBW).size; omega
 have hww : w.heap.size ≤ w7.heap.size := by omega
 obtain ⟨⟨⟩, s1, s2, s3⟩ := e8
 clear V8 g8 B8 B7 y0 y1 y2 y3
 unfold srvals
 dsimp only
 go_wp2_with fail
 refine bodyPost_ret (v := .agg (srvals 0 ((), s1, s2, s3) X)) (by simp [results, Tryz.results38, go_sem, r0, r1, r2, r3, r4, srvals]) rfl ⟨((), s1, s2, s3), rfl, ⟨d8, ?_⟩, ?_⟩
 · refine SNK.base (sn_frame (unhide HV) (fun q hq hB hne => ?_)) hww
   have hne5 : ¬ q = w.heap.size + 1 := fun e => by rw [e] at hB; exact Nat.not_le_of_lt hww1 hB
   rw [other5 hne5]
 · exact set5 (unhide HB8) (Nat.le_succ _) _ _ _ _ _

set_option maxRecDepth 100000

set_option maxHeartbeats 8000000 in
theorem cast_out_one (p : Path) (e : SnS) (x : Sn) (sa sb : Sl) (za zb : List Int) (add : Bool) (w : World) (o : SNK.Ok w e x) (m : SnSm x) (oa : BOk w sa za) (ob : BOk w sb zb) (hc : cfCode x za zb = 0) (h0 : snFlt x = 0) (ha : za.length = 4) (hb4 : zb.length = 4) (hadd : add = !decide (zb ∈ x.2.1)) (hroom : ¬ 30 ≤ (pvLess (placed x.2.2.2) za zb).length) (hmaj : ¬ 2 * tlOf zb (pvKeys (pvLess (placed x.2.2.2) za zb ++ [(((x.2.2.2.length : Nat) : Int), za, zb, add)])) ≤ x.2.1.length) (hin : add = false) (h1 : x.2.1.length = 1) :
    Calls Tryz.prog 38 #[.agg (snvals e x), .slice sa.a sa.n sa.c, .slice sb.a sb.n sb.c, .bool add] w fun r w' => ∃ e' : SnS, r = .returned (.agg (srvals 0 e' (x.1, x.2.1, x.2.2.1, (pvLess (placed x.2.2.2) za zb ++ [(((x.2.2.2.length : Nat) : Int), za, zb, add)]).map Prod.snd))) ∧ (∃ d, SNK.Own w' w.heap.size d p e' (x.1, x.2.1, x.2.2.1, (pvLess (placed x.2.2.2) za zb ++ [(((x.2.2.2.length : Nat) : Int), za, zb, add)]).map Prod.snd)) ∧ Below w.heap.size w w' := by
 obtain ⟨q1, q2, q3, q4, q5, q6, q7, q8⟩ := sn_iff.1 h0
 obtain ⟨z0, z1, z2, z3, rfl⟩ : ∃ z0 z1 z2 z3, za = [z0, z1, z2, z3] := by
  match za, ha with
  | [a, b, c, d], _ => exact ⟨a, b, c, d, rfl⟩
 obtain ⟨t0, t1, t2, t3, rfl⟩ : ∃ t0 t1 t2 t3, zb = [t0, t1, t2, t3] := by
  match zb, hb4 with
  | [a, b, c, d], _ => exact ⟨a, b, c, d, rfl⟩
 have HIN := hide hin
 clear hin
 obtain ⟨X, hX⟩ : ∃ X : Sn, X = (x.1, x.2.1, x.2.2.1, (pvLess (placed x.2.2.2) [z0, z1, z2, z3] [t0, t1, t2, t3] ++ [(((x.2.2.2.length : Nat) : Int), [z0, z1, z2, z3], [t0, t1, t2, t3], add)]).map Prod.snd) := ⟨_, rfl⟩
 rw [← hX]
 have HX := hide hX
 clear hX
 obtain ⟨bIn, hbIn⟩ : ∃ b, decide ([t0, t1, t2, t3] ∈ x.2.1) = b := ⟨_, rfl⟩
 have hd : (add == bIn) = false := by rw [← hbIn, hadd]; simp
 have HADD := hide hadd
 clear hadd
 obtain ⟨W0, e0, b0, hz, kx, kr⟩ := entry_sr e x w
 have HO := hide (fun (W : World) (hb : Below W0.heap.size W0 W) => SNK.below o (b0.trans (hb.mono b0.size)) (Nat.le_refl _))
 have HOA := hide (fun (W : World) (hb : Below W0.heap.size W0 W) => bytesK.below oa (b0.trans (hb.mono b0.size)) (Nat.le_refl _))
 have HOB := hide (fun (W : World) (hb : Below W0.heap.size W0 W) => bytesK.below ob (b0.trans (hb.mono b0.size)) (Nat.le_refl _))
 have HCF := hide (fun (W : World) (hb : Below W0.heap.size W0 W) => castFault_any e x sa sb _ _ W ((unhide HO) W hb) m ((unhide HOA) W hb) ((unhide HOB) W hb))
 rw [hc] at HCF
 have HPL := hide (fun (W : World) (hb : Below W0.heap.size W0 W) => pollV_any e.2.2.2 x.2.2.2 W ((unhide HO) W hb).2.2.2 q5 (fun v hv => ⟨(q7 v hv).1, (q7 v hv).2.1⟩) q8)
 have HQ5 := hide q5
 have HH0 := hide h0
 have HM := hide m
 have x0 := kx.cell 0
 have x1 := kx.cell 1
 have x2 := kx.cell 2
 have x3 := kx.cell 3
 simp only [snvals, List.getElem?_cons_zero, List.getElem?_cons_succ] at x0 x1 x2 x3
 unfold snvals at HCF
 have HB := hide b0
 have HKR := hide kr
 have HKX := hide kx
 clear o oa ob kx kr b0 hc q1 q2 q3 q4 q5 q6 q7 q8 h0 m
 go_enter Tryz.func38, Tryz.ntmps38
 go_wp2_with (rw [e0])
 refine ((unhide HCF) W0 (Below.refl _ _)).mono ?_
 rintro r1 w1 ⟨rfl, b1⟩
 have HB1 := hide b1
 have y3 := ((unhide HKX).below b1 (unhide HKX).lt).cell 3
 simp only [snvals, Array.toList, List.getElem?_cons_zero, List.getElem?_cons_succ] at y3
 clear b1 e0 x0 x1 x2 x3
 go_wp2_with fail
 refine ((unhide HPL) w1 (unhide HB1)).mono ?_
 rintro r2 w2 ⟨rfl, hp2, b2⟩
 obtain ⟨g, hg⟩ : ∃ g, w1.heap.size = g := ⟨_, rfl⟩
 have hgW0 : W0.heap.size ≤ g := by rw [← hg]; exact (unhide HB1).size
 rw [hg] at hp2 ⊢
 have B2 : Below W0.heap.size W0 w2 := (unhide HB1).trans (b2.mono (unhide HB1).size)
 have HBL := hide (ballotOf_any sa sb z0 z1 z2 z3 t0 t1 t2 t3 w2 ((unhide HOA) w2 B2) ((unhide HOB) w2 B2))
 have HB2 := hide B2
 have HP2 := hide hp2
 clear hp2 b2 B2 y3 hg
 go_wp2_with fail
 refine (unhide HBL).mono ?_
 rintro r3 w3 ⟨rfl, b3⟩
 obtain ⟨D, hown, hpd⟩ := (unhide HP2).below b3 (Nat.le_refl _)
 have ax := adr_of ((unhide HOA) w2 (unhide HB2)) rfl
 have ay := adr_of ((unhide HOB) w2 (unhide HB2)) rfl
 have hkey := keyOf_ballot (ax.2 z0 (by simp)) (ax.2 z1 (by simp)) (ax.2 z2 (by simp)) (ax.2 z3 (by simp)) (ay.2 t0 (by simp)) (ay.2 t1 (by simp)) (ay.2 t2 (by simp)) (ay.2 t3 (by simp))
 have hownA := hown.alloc (.cells #[.int .u8 z0, .int .u8 z1, .int .u8 z2, .int .u8 z3, .int .u8 t0, .int .u8 t1, .int .u8 t2, .int .u8 t3] 117)
 go_wp2_with (at_delete; refine wpList_delete_own _ rfl _ _ 106 117 rfl 121 ballotLaw Tryz.underlying106 standR g _ D rfl hownA _ _ rfl hkey ?_)
 intro w4 hown4 ht4
 have hglt : g < w3.heap.size := hown.lt
 have B3 : Below W0.heap.size W0 w3 := (unhide HB2).trans (b3.mono (unhide HB2).size)
 have B3s := B3.size
 have hz3 : (w3.alloc (.cells #[.int .u8 z0, .int .u8 z1, .int .u8 z2, .int .u8 z3, .int .u8 t0, .int .u8 t1, .int .u8 t2, .int .u8 t3] 117)).heap.size = w3.heap.size + 1 := by simp
 have hg4 := ht4.grown
 have s4 := hg4.size
 rw [hz3] at s4
 have hlt3 : w3.heap.size < (w3.alloc (.cells #[.int .u8 z0, .int .u8 z1, .int .u8 z2, .int .u8 z3, .int .u8 t0, .int .u8 t1, .int .u8 t2, .int .u8 t3] 117)).heap.size := by omega
 have B4 : Below W0.heap.size W0 w4 := (B3.trans ((below_alloc w3 (.cells #[.int .u8 z0, .int .u8 z1, .int .u8 z2, .int .u8 z3, .int .u8 t0, .int .u8 t1, .int .u8 t2, .int .u8 t3] 117)).mono B3s)).grown hg4 (by omega) (fun b e => by have := Option.some.inj e; omega)
 have kk4 : SBlk w4 w3.heap.size [.int .u8 z0, .int .u8 z1, .int .u8 z2, .int .u8 z3, .int .u8 t0, .int .u8 t1, .int .u8 t2, .int .u8 t3] 117 := (hg4.block w3.heap.size hlt3 (fun e => by have := Option.some.inj e; omega)).trans (SBlk.new w3 #[.int .u8 z0, .int .u8 z1, .int .u8 z2, .int .u8 z3, .int .u8 t0, .int .u8 t1, .int .u8 t2, .int .u8 t3] 117)
 have kx4 := (unhide HKX).below B4 (unhide HKX).lt
 have kr4 := (unhide HKR).below B4 (unhide HKR).lt
 have hpd4 := hpd.del (hown.tidy ballotLaw) ax ay
 obtain ⟨D4, hD4⟩ : ∃ D4, D.del (klOf [z0, z1, z2, z3] [t0, t1, t2, t3]) = D4 := ⟨_, rfl⟩
 rw [hD4] at hown4 hpd4
 obtain ⟨k4, hk4⟩ : ∃ k4, k4 = (placed x.2.2.2).length := ⟨_, rfl⟩
 have HL30 : Hid ((pvLess (placed x.2.2.2) [z0, z1, z2, z3] [t0, t1, t2, t3]).length ≤ 30) := by
  have h1 : (pvLess (placed x.2.2.2) [z0, z1, z2, z3] [t0, t1, t2, t3]).length ≤ (placed x.2.2.2).length := List.length_filter_le _ _
  have h2 : (placed x.2.2.2).length = x.2.2.2.length := by rw [← placed_snd x.2.2.2, List.length_map]; rw [placed_snd]
  have := unhide HQ5
  show _ ≤ 30
  omega
 have hm4 := (unhide HO) w4 B4
 have hISA := isAmong_any e.2.1 sb x.2.1 _ w4 hm4.2.1 ((unhide HOB) w4 B4) (snFlt_sg (unhide HH0)).1
 rw [hbIn] at hISA
 have HISA := hide hISA
 have y0 := kx4.cell 0
 have y1 := kx4.cell 1
 have y2 := kx4.cell 2
 have y3 := kx4.cell 3
 simp only [snvals, Array.toList, List.getElem?_cons_zero, List.getElem?_cons_succ] at y0 y1 y2 y3
 obtain ⟨c0, c1, c2, c3, c4, c5, c6, c7⟩ : w4.cell? ⟨w3.heap.size, 0, none⟩ = some (.int .u8 z0) ∧ w4.cell? ⟨w3.heap.size, 1, none⟩ = some (.int .u8 z1) ∧ w4.cell? ⟨w3.heap.size, 2, none⟩ = some (.int .u8 z2) ∧ w4.cell? ⟨w3.heap.size, 3, none⟩ = some (.int .u8 z3) ∧ w4.cell? ⟨w3.heap.size, 4, none⟩ = some (.int .u8 t0) ∧ w4.cell? ⟨w3.heap.size, 5, none⟩ = some (.int .u8 t1) ∧ w4.cell? ⟨w3.heap.size, 6, none⟩ = some (.int .u8 t2) ∧ w4.cell? ⟨w3.heap.size, 7, none⟩ = some (.int .u8 t3) := ⟨kk4.cell 0, kk4.cell 1, kk4.cell 2, kk4.cell 3, kk4.cell 4, kk4.cell 5, kk4.cell 6, kk4.cell 7⟩
 have HAX := hide (And.intro ax ay)
 have HKK := hide kk4
 have HK4 := hide (And.intro kx4 (And.intro kr4 (And.intro B4 hm4)))
 have HPD := hide hpd4
 have HOW := hide hown4
 have HKEY := hide hkey
 have hw3 : w3.heap.size < w4.heap.size := by omega
 have HBIN := hide hbIn
 clear hown hpd b3 ax ay hownA ht4 hg4 B3 hz3 hlt3 B4 kk4 kx4 kr4 hpd4 hD4 hm4 hISA hown4 hkey hbIn hk4
 go_wp2_with fail
 refine (unhide HISA).mono ?_
 rintro r5 w5 ⟨rfl, rfl⟩
 have hvn : e.2.2.2.n = x.2.2.2.length := (unhide HK4).2.2.2.2.2.2.len
 have hk30 : x.2.2.2.length < maxLen := by have := unhide HQ5; unfold maxLen; omega
 obtain ⟨w6, hrun, hown6, hgrow6⟩ := (unhide HOW).update ballotLaw Tryz.underlying106 hk30 (unhide HKEY) (standR_mk ((e.2.2.2.n : Nat) : Int) add)
 have HUP := hide (And.intro hown6 (And.intro hgrow6 hvn))
 clear hown6 hgrow6 hvn hk30
 have hsz := (unhide HPD).size
 have hn30 : (pvLess (placed x.2.2.2) [z0, z1, z2, z3] [t0, t1, t2, t3]).length < 30 := by omega
 have hcmp : decide ((30 : Int) ≤ (((Maps.size D4 : Nat)) : Int)) = false := by rw [hsz]; exact decide_eq_false (by omega)
 have hcmp2 : decide (30 ≤ Maps.size D4) = false := by rw [hsz]; exact decide_eq_false (by omega)
 have hown5 := unhide HOW
 obtain ⟨⟨r0, r1, r2, r3, r4⟩, f0, f1, f2, f3, f4⟩ := five_blk (unhide HK4).2.1
 clear hsz hn30
 go_wp2_with (first | (at_len; refine wpList_len_own _ rfl _ 106 rfl 117 121 Tryz.underlying106 standR g _ D4 rfl hown5 ?_) | fail)
 clear hrun hcmp hcmp2 hown5 r0 r1 r2 r3 r4 f0 f1 f2 f3 f4 y0 y1 y2 y3 c0 c1 c2 c3 c4 c5 c6 c7
 obtain ⟨hown6, hgrow6, hvn⟩ := unhide HUP
 have s6 := hgrow6.size
 have B6 : Below W0.heap.size W0 w6 := (unhide HK4).2.2.1.grown hgrow6 (unhide HK4).2.2.1.size (fun b e => by have := Option.some.inj e; omega)
 have hnk : ([z0, z1, z2, z3], [t0, t1, t2, t3]) ∉ pvKeys (pvLess (placed x.2.2.2) [z0, z1, z2, z3] [t0, t1, t2, t3]) := fun hm => by
  obtain ⟨q, hq, he⟩ := pv_keys.1 hm
  exact nd.1 (List.mem_filter.1 hq).2 he
 have hpd6 := (unhide HPD).put ((unhide HOW).tidy ballotLaw) (unhide HAX).1 (unhide HAX).2 (ballotLaw.key (unhide HKEY)) hnk ((e.2.2.2.n : Nat) : Int) add
 rw [hvn] at hown6 hpd6
 have hp6 : PollV w6 g (x.2.2.2.length + 1) ((pvLess (placed x.2.2.2) [z0, z1, z2, z3] [t0, t1, t2, t3]) ++ [(((x.2.2.2.length : Nat) : Int), [z0, z1, z2, z3], [t0, t1, t2, t3], add)]) := ⟨_, hown6, hpd6⟩
 have kk6 : SBlk w6 w3.heap.size [.int .u8 z0, .int .u8 z1, .int .u8 z2, .int .u8 z3, .int .u8 t0, .int .u8 t1, .int .u8 t2, .int .u8 t3] 117 := (hgrow6.block w3.heap.size hw3 (fun e => by have := Option.some.inj e; omega)).trans (unhide HKK)
 have kx6 := (unhide HKX).below B6 (unhide HKX).lt
 have hl31 : ((pvLess (placed x.2.2.2) [z0, z1, z2, z3] [t0, t1, t2, t3]) ++ [(((x.2.2.2.length : Nat) : Int), [z0, z1, z2, z3], [t0, t1, t2, t3], add)]).length ≤ 30 := by rw [List.length_append]; simp only [List.length_cons, List.length_nil]; omega
 have hTY := tally_any g (x.2.2.2.length + 1) t0 t1 t2 t3 (pvKeys ((pvLess (placed x.2.2.2) [z0, z1, z2, z3] [t0, t1, t2, t3]) ++ [(((x.2.2.2.length : Nat) : Int), [z0, z1, z2, z3], [t0, t1, t2, t3], add)])) w6 hp6.ok hpd6.nodup (fun q hq => by
  obtain ⟨v, hv, rfl⟩ := pv_keys.1 hq
  exact hpd6.adr v hv) (unhide HAX).2 (by unfold pvKeys vtKeys; rw [List.length_map, List.length_map]; exact hl31)
 have hTYW : ∀ n, Calls Tryz.prog 78 #[.map (some g), .agg #[.int .u8 t0, .int .u8 t1, .int .u8 t2, .int .u8 t3]] (w6.drewN n) fun e w' => e = .returned (.int .i64 (tlOf [t0, t1, t2, t3] (pvKeys ((pvLess (placed x.2.2.2) [z0, z1, z2, z3] [t0, t1, t2, t3]) ++ [(((x.2.2.2.length : Nat) : Int), [z0, z1, z2, z3], [t0, t1, t2, t3], add)])) : Nat)) ∧ Below (w6.drewN n).heap.size (w6.drewN n) w' := fun n => tally_any g (x.2.2.2.length + 1) t0 t1 t2 t3 (pvKeys ((pvLess (placed x.2.2.2) [z0, z1, z2, z3] [t0, t1, t2, t3]) ++ [(((x.2.2.2.length : Nat) : Int), [z0, z1, z2, z3], [t0, t1, t2, t3], add)])) _ (hp6.below (below_drewN (Below.refl w6.heap.size w6) n) (Nat.le_refl _)).ok hpd6.nodup (fun q hq => by
  obtain ⟨v, hv, rfl⟩ := pv_keys.1 hq
  exact hpd6.adr v hv) (unhide HAX).2 (by unfold pvKeys vtKeys; rw [List.length_map, List.length_map]; exact hl31)
 have hTLb : tlOf [t0, t1, t2, t3] (pvKeys ((pvLess (placed x.2.2.2) [z0, z1, z2, z3] [t0, t1, t2, t3]) ++ [(((x.2.2.2.length : Nat) : Int), [z0, z1, z2, z3], [t0, t1, t2, t3], add)])) ≤ 31 := by
  have h1 := tlOf_le [t0, t1, t2, t3] (((pvLess (placed x.2.2.2) [z0, z1, z2, z3] [t0, t1, t2, t3]) ++ [(((x.2.2.2.length : Nat) : Int), [z0, z1, z2, z3], [t0, t1, t2, t3], add)]).map Prod.snd)
  rw [List.length_map] at h1
  exact Nat.le_trans h1 (by omega)
 have hen : e.2.1.n = x.2.1.length := (unhide HK4).2.2.2.2.1.len
 rw [← hen] at hmaj
 have HEN := hide hen
 clear hen
 generalize hTL : tlOf [t0, t1, t2, t3] (pvKeys ((pvLess (placed x.2.2.2) [z0, z1, z2, z3] [t0, t1, t2, t3]) ++ [(((x.2.2.2.length : Nat) : Int), [z0, z1, z2, z3], [t0, t1, t2, t3], add)])) = TL at hTY hTYW hTLb hmaj
 have HTL := hide hTL
 have HTY := hide hTY
 have HTYW := hide hTYW
 have hwr : IntKind.i64.wrap (2 * (TL : Int)) = 2 * (TL : Int) := by rw [IntKind.wrap_i64]; omega
 have hle : decide (2 * (TL : Int) ≤ (e.2.1.n : Int)) = false := decide_eq_false (by omega)
 have hle2 : decide (2 * TL ≤ e.2.1.n) = false := decide_eq_false (by omega)
 have HS : Hid (∀ W, Below w6.heap.size w6 W → (W.cell? ⟨w3.heap.size, 4, none⟩ = some (.int .u8 t0) ∧ W.cell? ⟨w3.heap.size, 5, none⟩ = some (.int .u8 t1) ∧ W.cell? ⟨w3.heap.size, 6, none⟩ = some (.int .u8 t2) ∧ W.cell? ⟨w3.heap.size, 7, none⟩ = some (.int .u8 t3)) ∧ W.cell? ⟨w.heap.size, 1, none⟩ = some (.slice e.2.1.a e.2.1.n e.2.1.c)) := fun W hb => by
  have k := kk6.below hb kk6.lt
  exact ⟨⟨k.cell 4, k.cell 5, k.cell 6, k.cell 7⟩, (kx6.below hb kx6.lt).cell 1⟩
 have HH6 := hide (And.intro B6 (And.intro hp6 hl31))
 clear hown6 hgrow6 hvn B6 hnk hpd6 hp6 kk6 kx6 hl31 hTY hTYW hTL
 go_region_held3 (fun W => (W.cell? ⟨w3.heap.size, 4, none⟩ = some (.int .u8 t0) ∧ W.cell? ⟨w3.heap.size, 5, none⟩ = some (.int .u8 t1) ∧ W.cell? ⟨w3.heap.size, 6, none⟩ = some (.int .u8 t2) ∧ W.cell? ⟨w3.heap.size, 7, none⟩ = some (.int .u8 t3)) ∧ W.cell? ⟨w.heap.size, 1, none⟩ = some (.slice e.2.1.a e.2.1.n e.2.1.c))
  (first | exact S7 | exact (unhide HS) _ (by first | assumption | exact Below.refl _ _ | exact (Below.refl w6.heap.size w6).drew | exact below_drewN (Below.refl w6.heap.size w6) _))
  (first
  | (go_at_call 78; refine (by first | exact unhide HTY | exact (unhide HTYW) _ : Calls _ _ _ _ _).mono ?_; rintro r7 w7 ⟨rfl, b7⟩; have J7 : Below w6.heap.size w6 w7 := (by first | exact b7 | exact Below.trans (below_drewN (Below.refl w6.heap.size w6) _) b7 | exact Below.trans ((Below.refl w6.heap.size w6).drew) b7); have S7 := (unhide HS) w7 J7; clear b7))
 have B7 := (unhide HH6).1.trans (J7.mono (unhide HH6).1.size)
 have hm7 := (unhide HO) w7 B7
 have kx7 := (unhide HKX).below B7 (unhide HKX).lt
 have y0 := kx7.cell 0
 have y1 := kx7.cell 1
 have y2 := kx7.cell 2
 have y3 := kx7.cell 3
 simp only [snvals, Array.toList, List.getElem?_cons_zero, List.getElem?_cons_succ] at y0 y1 y2 y3
 have hp7 := (unhide HH6).2.1.below J7 (Nat.le_refl _)
 have HBW := hide B7
 have hin := unhide HIN
 subst hin
 have HC := hide (takeOut_one p e x g _ ((pvLess (placed x.2.2.2) [z0, z1, z2, z3] [t0, t1, t2, t3]) ++ [(((x.2.2.2.length : Nat) : Int), [z0, z1, z2, z3], [t0, t1, t2, t3], false)]) sb w7 hm7 (unhide HM) h1 hp7 (((placed_rise _).filter _).snoc (fun q hq => (placed_lt _ q (List.mem_filter.1 hq).1).2) _) (Nat.le_trans (unhide HH6).2.2 (by omega)))
 rw [← unhide HX] at HC
 unfold snvals at HC
 clear S7 J7 hm7 kx7 hp7 HTY HTYW hle hle2 hwr
 go_wp2_with fail
 refine (unhide HC).mono ?_
 rintro r8 w8 ⟨e8, rfl, ⟨d8, V8⟩, g8⟩
 have B8 : Below W0.heap.size W0 w8 := B7.trans (g8.mono B7.size)
 obtain ⟨⟨r0, r1, r2, r3, r4⟩, f0, f1, f2, f3, f4⟩ := five_blk ((unhide HKR).below B8 (unhide HKR).lt)
 have HV := hide V8
 have HB8 := hide ((unhide HB).trans (B8.mono (unhide HB).size))
 have hww1 : w.heap.size + 1 < w7.heap.size := by have := (unhide HBW).size; omega
 have hww : w.heap.size ≤ w7.heap.size := by omega
 obtain ⟨⟨⟩, s1, s2, s3⟩ := e8
 clear V8 g8 B8 B7 y0 y1 y2 y3
 unfold srvals
 dsimp only
 go_wp2_with fail
 refine bodyPost_ret (v := .agg (srvals 0 ((), s1, s2, s3) X)) (by simp [results, Tryz.results38, go_sem, r0, r1, r2, r3, r4, srvals]) rfl ⟨((), s1, s2, s3), rfl, ⟨d8, ?_⟩, ?_⟩
 · refine SNK.base (sn_frame (unhide HV) (fun q hq hB hne => ?_)) hww
   have hne5 : ¬ q = w.heap.size + 1 := fun e => by rw [e] at hB; exact Nat.not_le_of_lt hww1 hB
   rw [other5 hne5]
 · exact set5 (unhide HB8) (Nat.le_succ _) _ _ _ _ _

set_option maxRecDepth 100000

set_option maxHeartbeats 8000000 in
theorem cast_out_any (p : Path) (e : SnS) (x : Sn) (sa sb : Sl) (za zb : List Int) (add : Bool) (w : World) (o : SNK.Ok w e x) (m : SnSm x) (oa : BOk w sa za) (ob : BOk w sb zb) (hc : cfCode x za zb = 0) (h0 : snFlt x = 0) (ha : za.length = 4) (hb4 : zb.length = 4) (hadd : add = !decide (zb ∈ x.2.1)) (hroom : ¬ 30 ≤ (pvLess (placed x.2.2.2) za zb).length) (hmaj : ¬ 2 * tlOf zb (pvKeys (pvLess (placed x.2.2.2) za zb ++ [(((x.2.2.2.length : Nat) : Int), za, zb, add)])) ≤ x.2.1.length) (hin : add = false) (h1 : ¬ x.2.1.length = 1) :
    Calls Tryz.prog 38 #[.agg (snvals e x), .slice sa.a sa.n sa.c, .slice sb.a sb.n sb.c, .bool add] w fun r w' => ∃ e' : SnS, r = .returned (.agg (srvals 0 e' (x.1, outL x.2.1 (plB x.2.1 zb), keepLast x.2.2.1 ((outL x.2.1 (plB x.2.1 zb)).length / 2), (((pvLess (placed x.2.2.2) za zb ++ [(((x.2.2.2.length : Nat) : Int), za, zb, add)]).filter (fun q => !decide (q.2.1 = zb))).filter (fun q => !decide (q.2.2.1 = zb))).map Prod.snd))) ∧ (∃ d, SNK.Own w' w.heap.size d p e' (x.1, outL x.2.1 (plB x.2.1 zb), keepLast x.2.2.1 ((outL x.2.1 (plB x.2.1 zb)).length / 2), (((pvLess (placed x.2.2.2) za zb ++ [(((x.2.2.2.length : Nat) : Int), za, zb, add)]).filter (fun q => !decide (q.2.1 = zb))).filter (fun q => !decide (q.2.2.1 = zb))).map Prod.snd)) ∧ Below w.heap.size w w' := by
 obtain ⟨q1, q2, q3, q4, q5, q6, q7, q8⟩ := sn_iff.1 h0
 obtain ⟨z0, z1, z2, z3, rfl⟩ : ∃ z0 z1 z2 z3, za = [z0, z1, z2, z3] := by
  match za, ha with
  | [a, b, c, d], _ => exact ⟨a, b, c, d, rfl⟩
 obtain ⟨t0, t1, t2, t3, rfl⟩ : ∃ t0 t1 t2 t3, zb = [t0, t1, t2, t3] := by
  match zb, hb4 with
  | [a, b, c, d], _ => exact ⟨a, b, c, d, rfl⟩
 have HIN := hide hin
 clear hin
 obtain ⟨X, hX⟩ : ∃ X : Sn, X = (x.1, outL x.2.1 (plB x.2.1 [t0, t1, t2, t3]), keepLast x.2.2.1 ((outL x.2.1 (plB x.2.1 [t0, t1, t2, t3])).length / 2), (((pvLess (placed x.2.2.2) [z0, z1, z2, z3] [t0, t1, t2, t3] ++ [(((x.2.2.2.length : Nat) : Int), [z0, z1, z2, z3], [t0, t1, t2, t3], add)]).filter (fun q => !decide (q.2.1 = [t0, t1, t2, t3]))).filter (fun q => !decide (q.2.2.1 = [t0, t1, t2, t3]))).map Prod.snd) := ⟨_, rfl⟩
 rw [← hX]
 have HX := hide hX
 clear hX
 obtain ⟨bIn, hbIn⟩ : ∃ b, decide ([t0, t1, t2, t3] ∈ x.2.1) = b := ⟨_, rfl⟩
 have hd : (add == bIn) = false := by rw [← hbIn, hadd]; simp
 have HADD := hide hadd
 clear hadd
 obtain ⟨W0, e0, b0, hz, kx, kr⟩ := entry_sr e x w
 have HO := hide (fun (W : World) (hb : Below W0.heap.size W0 W) => SNK.below o (b0.trans (hb.mono b0.size)) (Nat.le_refl _))
 have HOA := hide (fun (W : World) (hb : Below W0.heap.size W0 W) => bytesK.below oa (b0.trans (hb.mono b0.size)) (Nat.le_refl _))
 have HOB := hide (fun (W : World) (hb : Below W0.heap.size W0 W) => bytesK.below ob (b0.trans (hb.mono b0.size)) (Nat.le_refl _))
 have HCF := hide (fun (W : World) (hb : Below W0.heap.size W0 W) => castFault_any e x sa sb _ _ W ((unhide HO) W hb) m ((unhide HOA) W hb) ((unhide HOB) W hb))
 rw [hc] at HCF
 have HPL := hide (fun (W : World) (hb : Below W0.heap.size W0 W) => pollV_any e.2.2.2 x.2.2.2 W ((unhide HO) W hb).2.2.2 q5 (fun v hv => ⟨(q7 v hv).1, (q7 v hv).2.1⟩) q8)
 have HQ5 := hide q5
 have HH0 := hide h0
 have HM := hide m
 have x0 := kx.cell 0
 have x1 := kx.cell 1
 have x2 := kx.cell 2
 have x3 := kx.cell 3
 simp only [snvals, List.getElem?_cons_zero, List.getElem?_cons_succ] at x0 x1 x2 x3
 unfold snvals at HCF
 have HB := hide b0
 have HKR := hide kr
 have HKX := hide kx
 clear o oa ob kx kr b0 hc q1 q2 q3 q4 q5 q6 q7 q8 h0 m
 go_enter Tryz.func38, Tryz.ntmps38
 go_wp2_with (rw [e0])
 refine ((unhide HCF) W0 (Below.refl _ _)).mono ?_
 rintro r1 w1 ⟨rfl, b1⟩
 have HB1 := hide b1
 have y3 := ((unhide HKX).below b1 (unhide HKX).lt).cell 3
 simp only [snvals, Array.toList, List.getElem?_cons_zero, List.getElem?_cons_succ] at y3
 clear b1 e0 x0 x1 x2 x3
 go_wp2_with fail
 refine ((unhide HPL) w1 (unhide HB1)).mono ?_
 rintro r2 w2 ⟨rfl, hp2, b2⟩
 obtain ⟨g, hg⟩ : ∃ g, w1.heap.size = g := ⟨_, rfl⟩
 have hgW0 : W0.heap.size ≤ g := by rw [← hg]; exact (unhide HB1).size
 rw [hg] at hp2 ⊢
 have B2 : Below W0.heap.size W0 w2 := (unhide HB1).trans (b2.mono (unhide HB1).size)
 have HBL := hide (ballotOf_any sa sb z0 z1 z2 z3 t0 t1 t2 t3 w2 ((unhide HOA) w2 B2) ((unhide HOB) w2 B2))
 have HB2 := hide B2
 have HP2 := hide hp2
 clear hp2 b2 B2 y3 hg
 go_wp2_with fail
 refine (unhide HBL).mono ?_
 rintro r3 w3 ⟨rfl, b3⟩
 obtain ⟨D, hown, hpd⟩ := (unhide HP2).below b3 (Nat.le_refl _)
 have ax := adr_of ((unhide HOA) w2 (unhide HB2)) rfl
 have ay := adr_of ((unhide HOB) w2 (unhide HB2)) rfl
 have hkey := keyOf_ballot (ax.2 z0 (by simp)) (ax.2 z1 (by simp)) (ax.2 z2 (by simp)) (ax.2 z3 (by simp)) (ay.2 t0 (by simp)) (ay.2 t1 (by simp)) (ay.2 t2 (by simp)) (ay.2 t3 (by simp))
 have hownA := hown.alloc (.cells #[.int .u8 z0, .int .u8 z1, .int .u8 z2, .int .u8 z3, .int .u8 t0, .int .u8 t1, .int .u8 t2, .int .u8 t3] 117)
 go_wp2_with (at_delete; refine wpList_delete_own _ rfl _ _ 106 117 rfl 121 ballotLaw Tryz.underlying106 standR g _ D rfl hownA _ _ rfl hkey ?_)
 intro w4 hown4 ht4
 have hglt : g < w3.heap.size := hown.lt
 have B3 : Below W0.heap.size W0 w3 := (unhide HB2).trans (b3.mono (unhide HB2).size)
 have B3s := B3.size
 have hz3 : (w3.alloc (.cells #[.int .u8 z0, .int .u8 z1, .int .u8 z2, .int .u8 z3, .int .u8 t0, .int .u8 t1, .int .u8 t2, .int .u8 t3] 117)).heap.size = w3.heap.size + 1 := by simp
 have hg4 := ht4.grown
 have s4 := hg4.size
 rw [hz3] at s4
 have hlt3 : w3.heap.size < (w3.alloc (.cells #[.int .u8 z0, .int .u8 z1, .int .u8 z2, .int .u8 z3, .int .u8 t0, .int .u8 t1, .int .u8 t2, .int .u8 t3] 117)).heap.size := by omega
 have B4 : Below W0.heap.size W0 w4 := (B3.trans ((below_alloc w3 (.cells #[.int .u8 z0, .int .u8 z1, .int .u8 z2, .int .u8 z3, .int .u8 t0, .int .u8 t1, .int .u8 t2, .int .u8 t3] 117)).mono B3s)).grown hg4 (by omega) (fun b e => by have := Option.some.inj e; omega)
 have kk4 : SBlk w4 w3.heap.size [.int .u8 z0, .int .u8 z1, .int .u8 z2, .int .u8 z3, .int .u8 t0, .int .u8 t1, .int .u8 t2, .int .u8 t3] 117 := (hg4.block w3.heap.size hlt3 (fun e => by have := Option.some.inj e; omega)).trans (SBlk.new w3 #[.int .u8 z0, .int .u8 z1, .int .u8 z2, .int .u8 z3, .int .u8 t0, .int .u8 t1, .int .u8 t2, .int .u8 t3] 117)
 have kx4 := (unhide HKX).below B4 (unhide HKX).lt
 have kr4 := (unhide HKR).below B4 (unhide HKR).lt
 have hpd4 := hpd.del (hown.tidy ballotLaw) ax ay
 obtain ⟨D4, hD4⟩ : ∃ D4, D.del (klOf [z0, z1, z2, z3] [t0, t1, t2, t3]) = D4 := ⟨_, rfl⟩
 rw [hD4] at hown4 hpd4
 obtain ⟨k4, hk4⟩ : ∃ k4, k4 = (placed x.2.2.2).length := ⟨_, rfl⟩
 have HL30 : Hid ((pvLess (placed x.2.2.2) [z0, z1, z2, z3] [t0, t1, t2, t3]).length ≤ 30) := by
  have h1 : (pvLess (placed x.2.2.2) [z0, z1, z2, z3] [t0, t1, t2, t3]).length ≤ (placed x.2.2.2).length := List.length_filter_le _ _
  have h2 : (placed x.2.2.2).length = x.2.2.2.length := by rw [← placed_snd x.2.2.2, List.length_map]; rw [placed_snd]
  have := unhide HQ5
  show _ ≤ 30
  omega
 have hm4 := (unhide HO) w4 B4
 have hISA := isAmong_any e.2.1 sb x.2.1 _ w4 hm4.2.1 ((unhide HOB) w4 B4) (snFlt_sg (unhide HH0)).1
 rw [hbIn] at hISA
 have HISA := hide hISA
 have y0 := kx4.cell 0
 have y1 := kx4.cell 1
 have y2 := kx4.cell 2
 have y3 := kx4.cell 3
 simp only [snvals, Array.toList, List.getElem?_cons_zero, List.getElem?_cons_succ] at y0 y1 y2 y3
 obtain ⟨c0, c1, c2, c3, c4, c5, c6, c7⟩ : w4.cell? ⟨w3.heap.size, 0, none⟩ = some (.int .u8 z0) ∧ w4.cell? ⟨w3.heap.size, 1, none⟩ = some (.int .u8 z1) ∧ w4.cell? ⟨w3.heap.size, 2, none⟩ = some (.int .u8 z2) ∧ w4.cell? ⟨w3.heap.size, 3, none⟩ = some (.int .u8 z3) ∧ w4.cell? ⟨w3.heap.size, 4, none⟩ = some (.int .u8 t0) ∧ w4.cell? ⟨w3.heap.size, 5, none⟩ = some (.int .u8 t1) ∧ w4.cell? ⟨w3.heap.size, 6, none⟩ = some (.int .u8 t2) ∧ w4.cell? ⟨w3.heap.size, 7, none⟩ = some (.int .u8 t3) := ⟨kk4.cell 0, kk4.cell 1, kk4.cell 2, kk4.cell 3, kk4.cell 4, kk4.cell 5, kk4.cell 6, kk4.cell 7⟩
 have HAX := hide (And.intro ax ay)
 have HKK := hide kk4
 have HK4 := hide (And.intro kx4 (And.intro kr4 (And.intro B4 hm4)))
 have HPD := hide hpd4
 have HOW := hide hown4
 have HKEY := hide hkey
 have hw3 : w3.heap.size < w4.heap.size := by omega
 have HBIN := hide hbIn
 clear hown hpd b3 ax ay hownA ht4 hg4 B3 hz3 hlt3 B4 kk4 kx4 kr4 hpd4 hD4 hm4 hISA hown4 hkey hbIn hk4
 go_wp2_with fail
 refine (unhide HISA).mono ?_
 rintro r5 w5 ⟨rfl, rfl⟩
 have hvn : e.2.2.2.n = x.2.2.2.length := (unhide HK4).2.2.2.2.2.2.len
 have hk30 : x.2.2.2.length < maxLen := by have := unhide HQ5; unfold maxLen; omega
 obtain ⟨w6, hrun, hown6, hgrow6⟩ := (unhide HOW).update ballotLaw Tryz.underlying106 hk30 (unhide HKEY) (standR_mk ((e.2.2.2.n : Nat) : Int) add)
 have HUP := hide (And.intro hown6 (And.intro hgrow6 hvn))
 clear hown6 hgrow6 hvn hk30
 have hsz := (unhide HPD).size
 have hn30 : (pvLess (placed x.2.2.2) [z0, z1, z2, z3] [t0, t1, t2, t3]).length < 30 := by omega
 have hcmp : decide ((30 : Int) ≤ (((Maps.size D4 : Nat)) : Int)) = false := by rw [hsz]; exact decide_eq_false (by omega)
 have hcmp2 : decide (30 ≤ Maps.size D4) = false := by rw [hsz]; exact decide_eq_false (by omega)
 have hown5 := unhide HOW
 obtain ⟨⟨r0, r1, r2, r3, r4⟩, f0, f1, f2, f3, f4⟩ := five_blk (unhide HK4).2.1
 clear hsz hn30
 go_wp2_with (first | (at_len; refine wpList_len_own _ rfl _ 106 rfl 117 121 Tryz.underlying106 standR g _ D4 rfl hown5 ?_) | fail)
 clear hrun hcmp hcmp2 hown5 r0 r1 r2 r3 r4 f0 f1 f2 f3 f4 y0 y1 y2 y3 c0 c1 c2 c3 c4 c5 c6 c7
 obtain ⟨hown6, hgrow6, hvn⟩ := unhide HUP
 have s6 := hgrow6.size
 have B6 : Below W0.heap.size W0 w6 := (unhide HK4).2.2.1.grown hgrow6 (unhide HK4).2.2.1.size (fun b e => by have := Option.some.inj e; omega)
 have hnk : ([z0, z1, z2, z3], [t0, t1, t2, t3]) ∉ pvKeys (pvLess (placed x.2.2.2) [z0, z1, z2, z3] [t0, t1, t2, t3]) := fun hm => by
  obtain ⟨q, hq, he⟩ := pv_keys.1 hm
  exact nd.1 (List.mem_filter.1 hq).2 he
 have hpd6 := (unhide HPD).put ((unhide HOW).tidy ballotLaw) (unhide HAX).1 (unhide HAX).2 (ballotLaw.key (unhide HKEY)) hnk ((e.2.2.2.n : Nat) : Int) add
 rw [hvn] at hown6 hpd6
 have hp6 : PollV w6 g (x.2.2.2.length + 1) ((pvLess (placed x.2.2.2) [z0, z1, z2, z3] [t0, t1, t2, t3]) ++ [(((x.2.2.2.length : Nat) : Int), [z0, z1, z2, z3], [t0, t1, t2, t3], add)]) := ⟨_, hown6, hpd6⟩
 have kk6 : SBlk w6 w3.heap.size [.int .u8 z0, .int .u8 z1, .int .u8 z2, .int .u8 z3, .int .u8 t0, .int .u8 t1, .int .u8 t2, .int .u8 t3] 117 := (hgrow6.block w3.heap.size hw3 (fun e => by have := Option.some.inj e; omega)).trans (unhide HKK)
 have kx6 := (unhide HKX).below B6 (unhide HKX).lt
 have hl31 : ((pvLess (placed x.2.2.2) [z0, z1, z2, z3] [t0, t1, t2, t3]) ++ [(((x.2.2.2.length : Nat) : Int), [z0, z1, z2, z3], [t0, t1, t2, t3], add)]).length ≤ 30 := by rw [List.length_append]; simp only [List.length_cons, List.length_nil]; omega
 have hTY := tally_any g (x.2.2.2.length + 1) t0 t1 t2 t3 (pvKeys ((pvLess (placed x.2.2.2) [z0, z1, z2, z3] [t0, t1, t2, t3]) ++ [(((x.2.2.2.length : Nat) : Int), [z0, z1, z2, z3], [t0, t1, t2, t3], add)])) w6 hp6.ok hpd6.nodup (fun q hq => by
  obtain ⟨v, hv, rfl⟩ := pv_keys.1 hq
  exact hpd6.adr v hv) (unhide HAX).2 (by unfold pvKeys vtKeys; rw [List.length_map, List.length_map]; exact hl31)
 have hTYW : ∀ n, Calls Tryz.prog 78 #[.map (some g), .agg #[.int .u8 t0, .int .u8 t1, .int .u8 t2, .int .u8 t3]] (w6.drewN n) fun e w' => e = .returned (.int .i64 (tlOf [t0, t1, t2, t3] (pvKeys ((pvLess (placed x.2.2.2) [z0, z1, z2, z3] [t0, t1, t2, t3]) ++ [(((x.2.2.2.length : Nat) : Int), [z0, z1, z2, z3], [t0, t1, t2, t3], add)])) : Nat)) ∧ Below (w6.drewN n).heap.size (w6.drewN n) w' := fun n => tally_any g (x.2.2.2.length + 1) t0 t1 t2 t3 (pvKeys ((pvLess (placed x.2.2.2) [z0, z1, z2, z3] [t0, t1, t2, t3]) ++ [(((x.2.2.2.length : Nat) : Int), [z0, z1, z2, z3], [t0, t1, t2, t3], add)])) _ (hp6.below (below_drewN (Below.refl w6.heap.size w6) n) (Nat.le_refl _)).ok hpd6.nodup (fun q hq => by
  obtain ⟨v, hv, rfl⟩ := pv_keys.1 hq
  exact hpd6.adr v hv) (unhide HAX).2 (by unfold pvKeys vtKeys; rw [List.length_map, List.length_map]; exact hl31)
 have hTLb : tlOf [t0, t1, t2, t3] (pvKeys ((pvLess (placed x.2.2.2) [z0, z1, z2, z3] [t0, t1, t2, t3]) ++ [(((x.2.2.2.length : Nat) : Int), [z0, z1, z2, z3], [t0, t1, t2, t3], add)])) ≤ 31 := by
  have h1 := tlOf_le [t0, t1, t2, t3] (((pvLess (placed x.2.2.2) [z0, z1, z2, z3] [t0, t1, t2, t3]) ++ [(((x.2.2.2.length : Nat) : Int), [z0, z1, z2, z3], [t0, t1, t2, t3], add)]).map Prod.snd)
  rw [List.length_map] at h1
  exact Nat.le_trans h1 (by omega)
 have hen : e.2.1.n = x.2.1.length := (unhide HK4).2.2.2.2.1.len
 rw [← hen] at hmaj
 have HEN := hide hen
 clear hen
 generalize hTL : tlOf [t0, t1, t2, t3] (pvKeys ((pvLess (placed x.2.2.2) [z0, z1, z2, z3] [t0, t1, t2, t3]) ++ [(((x.2.2.2.length : Nat) : Int), [z0, z1, z2, z3], [t0, t1, t2, t3], add)])) = TL at hTY hTYW hTLb hmaj
 have HTL := hide hTL
 have HTY := hide hTY
 have HTYW := hide hTYW
 have hwr : IntKind.i64.wrap (2 * (TL : Int)) = 2 * (TL : Int) := by rw [IntKind.wrap_i64]; omega
 have hle : decide (2 * (TL : Int) ≤ (e.2.1.n : Int)) = false := decide_eq_false (by omega)
 have hle2 : decide (2 * TL ≤ e.2.1.n) = false := decide_eq_false (by omega)
 have HS : Hid (∀ W, Below w6.heap.size w6 W → (W.cell? ⟨w3.heap.size, 4, none⟩ = some (.int .u8 t0) ∧ W.cell? ⟨w3.heap.size, 5, none⟩ = some (.int .u8 t1) ∧ W.cell? ⟨w3.heap.size, 6, none⟩ = some (.int .u8 t2) ∧ W.cell? ⟨w3.heap.size, 7, none⟩ = some (.int .u8 t3)) ∧ W.cell? ⟨w.heap.size, 1, none⟩ = some (.slice e.2.1.a e.2.1.n e.2.1.c)) := fun W hb => by
  have k := kk6.below hb kk6.lt
  exact ⟨⟨k.cell 4, k.cell 5, k.cell 6, k.cell 7⟩, (kx6.below hb kx6.lt).cell 1⟩
 have HH6 := hide (And.intro B6 (And.intro hp6 hl31))
 clear hown6 hgrow6 hvn B6 hnk hpd6 hp6 kk6 kx6 hl31 hTY hTYW hTL
 go_region_held3 (fun W => (W.cell? ⟨w3.heap.size, 4, none⟩ = some (.int .u8 t0) ∧ W.cell? ⟨w3.heap.size, 5, none⟩ = some (.int .u8 t1) ∧ W.cell? ⟨w3.heap.size, 6, none⟩ = some (.int .u8 t2) ∧ W.cell? ⟨w3.heap.size, 7, none⟩ = some (.int .u8 t3)) ∧ W.cell? ⟨w.heap.size, 1, none⟩ = some (.slice e.2.1.a e.2.1.n e.2.1.c))
  (first | exact S7 | exact (unhide HS) _ (by first | assumption | exact Below.refl _ _ | exact (Below.refl w6.heap.size w6).drew | exact below_drewN (Below.refl w6.heap.size w6) _))
  (first
  | (go_at_call 78; refine (by first | exact unhide HTY | exact (unhide HTYW) _ : Calls _ _ _ _ _).mono ?_; rintro r7 w7 ⟨rfl, b7⟩; have J7 : Below w6.heap.size w6 w7 := (by first | exact b7 | exact Below.trans (below_drewN (Below.refl w6.heap.size w6) _) b7 | exact Below.trans ((Below.refl w6.heap.size w6).drew) b7); have S7 := (unhide HS) w7 J7; clear b7))
 have B7 := (unhide HH6).1.trans (J7.mono (unhide HH6).1.size)
 have hm7 := (unhide HO) w7 B7
 have kx7 := (unhide HKX).below B7 (unhide HKX).lt
 have y0 := kx7.cell 0
 have y1 := kx7.cell 1
 have y2 := kx7.cell 2
 have y3 := kx7.cell 3
 simp only [snvals, Array.toList, List.getElem?_cons_zero, List.getElem?_cons_succ] at y0 y1 y2 y3
 have hp7 := (unhide HH6).2.1.below J7 (Nat.le_refl _)
 have HBW := hide B7
 have hin := unhide HIN
 subst hin
 have hmem : [t0, t1, t2, t3] ∈ x.2.1 := by have h := unhide HADD; simpa using h
 have HC := hide (takeOut_any p e x g _ ((pvLess (placed x.2.2.2) [z0, z1, z2, z3] [t0, t1, t2, t3]) ++ [(((x.2.2.2.length : Nat) : Int), [z0, z1, z2, z3], [t0, t1, t2, t3], false)]) sb [t0, t1, t2, t3] w7 W0.heap.size hgW0 (fun W hb => (unhide HO) W (B7.trans hb)) (unhide HM) (snFlt_sg (unhide HH0)).1 (snFlt_sg (unhide HH0)).2.1 h1 (snFlt_sg (unhide HH0)).2.2 hmem hp7 (((placed_rise _).filter _).snoc (fun q hq => (placed_lt _ q (List.mem_filter.1 hq).1).2) _) (Nat.le_trans (unhide HH6).2.2 (by omega)) (fun W hb => (unhide HOB) W (B7.trans hb)) rfl)
 clear hmem
 rw [← unhide HX] at HC
 unfold snvals at HC
 clear S7 J7 hm7 kx7 hp7 HTY HTYW hle hle2 hwr
 go_wp2_with fail
 refine (unhide HC).mono ?_
 rintro r8 w8 ⟨e8, rfl, ⟨d8, V8⟩, g8⟩
 have B8 : Below W0.heap.size W0 w8 := B7.grown g8 B7.size (fun b e => by have := Option.some.inj e; omega)
 obtain ⟨⟨r0, r1, r2, r3, r4⟩, f0, f1, f2, f3, f4⟩ := five_blk ((unhide HKR).below B8 (unhide HKR).lt)
 have HV := hide V8
 have HB8 := hide ((unhide HB).trans (B8.mono (unhide HB).size))
 have hww1 : w.heap.size + 1 < w7.heap.size := by have := (unhide HBW).size; omega
 have hww : w.heap.size ≤ w7.heap.size := by omega
 obtain ⟨⟨⟩, s1, s2, s3⟩ := e8
 clear V8 g8 B8 B7 y0 y1 y2 y3
 unfold srvals
 dsimp only
 go_wp2_with fail
 refine bodyPost_ret (v := .agg (srvals 0 ((), s1, s2, s3) X)) (by simp [results, Tryz.results38, go_sem, r0, r1, r2, r3, r4, srvals]) rfl ⟨((), s1, s2, s3), rfl, ⟨d8, ?_⟩, ?_⟩
 · refine SNK.base (sn_frame (unhide HV) (fun q hq hB hne => ?_)) hww
   have hne5 : ¬ q = w.heap.size + 1 := fun e => by rw [e] at hB; exact Nat.not_le_of_lt hww1 hB
   rw [other5 hne5]
 · exact set5 (unhide HB8) (Nat.le_succ _) _ _ _ _ _

end Go.Proofs.YtdmcmlcmgbbclaaGreat
