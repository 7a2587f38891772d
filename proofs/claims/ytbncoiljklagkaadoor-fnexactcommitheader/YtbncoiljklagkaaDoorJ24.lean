/- What is proved here: what the program's CommitHeader answers: the fault of a header or of a list, or the header with the commits of the list, in memory of its own. -/
import Derived.Test.YtbncoiljklagkaaDoorJ23
import Derived.Test.YtbncoiljklagkaaDoorJ13
import Derived.Test.YtbncoiljklagkaaDoorJ21
import Derived.Test.YtbncoiljklagkaaDoorJ11
import Derived.Deep.RegionHeld3
import Derived.Deep.RegionLaw
import Derived.Deep.AppendLies
import Derived.Deep.RegionHeldLaw
import Derived.Test.YtbncoiljklagkaaDoorJ22
namespace Go.Proofs.YtbncoiljklagkaaDoor
open Go.RowKit
set_option linter.unusedVariables false
set_option maxRecDepth 100000

set_option maxHeartbeats 8000000 in
theorem implCommitH_any (x : HS) (h : Hd) (a : Option Addr) (len cap : Nat) (zss : List (List Int)) (w : World) (o : HOk w x h) (nn : HNil w x) (m : HSm h) (lr : BsRow w a len zss) (ln : BsNil w a len) (hl : len ≤ 1048576) (hv : Laid w) :
    Calls Tryd.prog 29 #[.agg (hvals x h), .slice a len cap] w fun e w' => ∃ (y : HS) (d : Nat → Nat), e = .returned (.agg (hrvals (chCode h zss) y (chH h zss))) ∧ CH w' w.heap.size d y (chH h zss) ∧ Below w.heap.size w w' := by
  have kb := SBlk.new w (hvals x h) 30
  have bb := below_alloc w (.cells (hvals x h) 30)
  have zb : (w.alloc (.cells (hvals x h) 30)).heap.size = w.heap.size + 1 := by simp
  obtain ⟨Wa, ea⟩ : ∃ W, w.alloc (.cells (hvals x h) 30) = W := ⟨_, rfl⟩
  rw [ea] at kb bb zb
  have kr := SBlk.new Wa #[.int .i64 0, .slice none 0 0, .int .i64 0, .int .i64 0, .int .i64 0, .slice none 0 0, .int .i64 0, .slice none 0 0, .slice none 0 0, .slice none 0 0, .slice none 0 0, .slice none 0 0] 43
  replace kb := kb.next (.cells #[.int .i64 0, .slice none 0 0, .int .i64 0, .int .i64 0, .int .i64 0, .slice none 0 0, .int .i64 0, .slice none 0 0, .slice none 0 0, .slice none 0 0, .slice none 0 0, .slice none 0 0] 43)
  replace bb := bb.trans ((below_alloc Wa (.cells #[.int .i64 0, .slice none 0 0, .int .i64 0, .int .i64 0, .int .i64 0, .slice none 0 0, .int .i64 0, .slice none 0 0, .slice none 0 0, .slice none 0 0, .slice none 0 0, .slice none 0 0] 43)).mono bb.size)
  have z1 : (Wa.alloc (.cells #[.int .i64 0, .slice none 0 0, .int .i64 0, .int .i64 0, .int .i64 0, .slice none 0 0, .int .i64 0, .slice none 0 0, .slice none 0 0, .slice none 0 0, .slice none 0 0, .slice none 0 0] 43)).heap.size = w.heap.size + 2 := by simp; omega
  rw [zb] at kr
  obtain ⟨W1, eb⟩ : ∃ W, Wa.alloc (.cells #[.int .i64 0, .slice none 0 0, .int .i64 0, .int .i64 0, .int .i64 0, .slice none 0 0, .int .i64 0, .slice none 0 0, .slice none 0 0, .slice none 0 0, .slice none 0 0, .slice none 0 0] 43) = W := ⟨_, rfl⟩
  rw [eb] at kr kb bb z1
  have D1 := hide (implHeaderFault_any x h W1 (o.below bb (Nat.le_refl _)) m)
  obtain ⟨x0, x1, x2, x3, x4, x5, x6, x7, x8, x9, x10⟩ := hcells kb
  have HRR := hide (fun (W : World) (hb : Below W1.heap.size W1 W) => hcells (kb.below hb kb.lt))
  have HKR := hide (fun (W : World) (hb : Below W1.heap.size W1 W) => kr.below hb kr.lt)
  have HSG : Hid (∀ W, Below w.heap.size w W → Calls Tryd.prog 52 #[.slice a len cap] W fun e w' => e = .returned (.int .i64 (sgFlt zss)) ∧ Below W.heap.size W w') := fun W hb => (implSigners_any a len cap zss W (lr.below hb (Nat.le_refl _)) hl).mono (by rintro e w' ⟨rfl, rfl⟩; exact ⟨rfl, Below.refl _ _⟩)
  have HHO : Hid (hdFlt h = 0 → ∀ W, Below w.heap.size w W → Calls Tryd.prog 11 #[.agg (hvals x h)] W fun e w' => ∃ a c, e = .returned (.agg #[.int .i64 0, .slice a 32 c]) ∧ w'.ownsRow W.heap.size 5 1 (.slice a 32 c) 32 ((hash0 h).map (Value.int .u8)) ∧ Below W.heap.size W w') := fun hf W hb => by
    have K := implHash_any x h W (o.below hb (Nat.le_refl _)) (nn.below hb (Nat.le_refl _)) m (hv.below hb (Nat.le_refl _))
    have e1 : hsBytes h = hash0 h := if_pos hf
    rw [hf, e1, hash0_len hf] at K
    exact K
  have HCP : Hid (∀ W, Below w.heap.size w W → Calls Tryd.prog 53 #[.agg (hvals x h)] W fun e w' => ∃ (y : HS) (d : Nat → Nat), e = .returned (.agg (hvals y h)) ∧ CH w' (W.heap.size + 2) d y h ∧ Below W.heap.size W w') := fun W hb => copyHeader_any x h W (o.below hb (Nat.le_refl _)) m
  have HLR := hide (fun (W : World) (hb : Below w.heap.size w W) => And.intro (lr.below hb (Nat.le_refl _)) (ln.below hb (Nat.le_refl _)))
  have HLV := hide (fun (W : World) (hb : Below w.heap.size w W) => hv.below hb (Nat.le_refl _))
  have HLB := hide lr.bytes
  have HLL := hide lr.1
  have HHR : Hid (hdFlt h = 0 → (hash0 h).length = 32 ∧ ∀ y ∈ hash0 h, 0 ≤ y ∧ y ≤ 255) := fun hf => ⟨hash0_len hf, hash0_rng hf o⟩
  have HB1 := hide bb
  have EA := hide ea
  have EB := hide eb
  clear ea eb o nn m hv lr ln bb zb kb kr
  have HVX : Hid (hvals x h = #[.slice x.p.a x.p.n x.p.c, .int .i64 h.n1, .int .i64 h.n2, .int .i64 h.n3, .slice x.t.a x.t.n x.t.c, .int .i64 h.n5, .slice x.s.a x.s.n x.s.c, .slice x.r.a x.r.n x.r.c, .slice x.g.a x.g.n x.g.c, .slice x.e.a x.e.n x.e.c, .slice x.k.a x.k.n x.k.c]) := rfl
  have HC0 : Hid (chCode h zss = if hdFlt h = 0 then sgFlt zss else hdFlt h) := rfl
  have HH0 : Hid (chH h zss = if hdFlt h = 0 ∧ sgFlt zss = 0 then comH h zss else hd0) := rfl
  have HFQ := hide (fun (q : hdFlt h = 0) => q)
  obtain ⟨q, eq⟩ : ∃ q, q = hdFlt h := ⟨_, rfl⟩
  obtain ⟨t, et⟩ : ∃ t, t = sgFlt zss := ⟨_, rfl⟩
  have EQ := hide eq
  have ET := hide et
  rw [← eq] at D1 HHO HC0 HH0 HHR
  rw [← et] at HSG HC0 HH0
  clear eq et HFQ
  generalize chCode h zss = CC at HC0 ⊢
  unfold hvals at EA D1 HHO HCP ⊢
  go_enter Tryd.func29, Tryd.ntmps29
  go_upto_region 1 with fail
  rw [unhide EA, unhide EB]
  clear EA EB
  go_wp2_with fail
  refine (unhide D1).mono ?_
  rintro e w2 ⟨rfl, b2⟩
  have K2 := hide ((unhide HB1).trans (b2.mono (unhide HB1).size))
  have L2 := hide b2
  clear b2 x0 x1 x2 x3 x4 x5 x6 x7 x8 x9 x10 D1
  by_cases hq : q = 0
  · subst hq
    have D2 := hide ((unhide HSG) w2 (unhide K2))
    go_wp2_with fail
    refine (unhide D2).mono ?_
    rintro e w3 ⟨rfl, b3⟩
    have K3 := hide ((unhide K2).trans (b3.mono (unhide K2).size))
    have L3 := hide ((unhide L2).trans (b3.mono (unhide L2).size))
    clear b3 D2
    by_cases ht : t = 0
    · subst ht
      have HCC : Hid (CC = 0) := unhide HC0
      have HHC : Hid (chH h zss = comH h zss) := by show _ = _; rw [unhide HH0, if_pos (by simp)]
      obtain ⟨hl32, hhr⟩ := (unhide HHR) (by first | exact rfl | trivial)
      have HL32 := hide hl32
      have HHRR := hide hhr
      clear hl32 hhr HHR
      obtain ⟨x0, x1, x2, x3, x4, x5, x6, x7, x8, x9, x10⟩ := (unhide HRR) w3 (unhide L3)
      have D4 := hide ((unhide HHO) (by first | exact rfl | trivial) w3 (unhide K3))
      clear HC0 HH0 HSG HHO
      have hfl := fldB1
      go_wp2_with fail
      refine (unhide D4).mono ?_
      rintro e w4 ⟨a4, c4, rfl, o4, b4⟩
      have K4 := hide ((unhide K3).trans (b4.mono (unhide K3).size))
      have L4 := hide ((unhide L3).trans (b4.mono (unhide L3).size))
      have HO4 := hide o4
      have z34 : w3.heap.size ≤ w4.heap.size := b4.size
      clear x0 x1 x2 x3 x4 x5 x6 x7 x8 x9 x10 D4 o4 b4
      obtain ⟨x0, x1, x2, x3, x4, x5, x6, x7, x8, x9, x10⟩ := (unhide HRR) w4 (unhide L4)
      have D5 := hide ((unhide HCP) w4 (unhide K4))
      clear HCP
      go_wp2_with fail
      refine (unhide D5).mono ?_
      rintro e w5 ⟨y, d, rfl, ch5, b5⟩
      have K5 := (unhide K4).trans (b5.mono (unhide K4).size)
      have L5 := (unhide L4).trans (b5.mono (unhide L4).size)
      have kr5 := (unhide HKR) w5 L5
      have z5 : w.heap.size + 2 ≤ w4.heap.size := by rw [← z1]; exact (unhide L4).size
      have z3 : w.heap.size + 2 ≤ w3.heap.size := by rw [← z1]; exact (unhide L3).size
      have z45 : w4.heap.size ≤ w5.heap.size := b5.size
      obtain ⟨d1, hd1⟩ : ∃ d1 : Nat → Nat, d1 = fun g => if w5.heap.size ≤ g then 9 else if w4.heap.size ≤ g then d g else 12 := ⟨_, rfl⟩
      have d9 : d1 w5.heap.size = 9 := by rw [hd1]; exact if_pos (Nat.le_refl _)
      replace ch5 := (ch5.recol2 (B := w4.heap.size + 2) (d' := d1) (fun g h1 h2 => by rw [hd1]; show (if w5.heap.size ≤ g then 9 else if w4.heap.size ≤ g then d g else 12) = d g; rw [if_neg (by omega), if_pos (by omega)])).base (B' := w.heap.size + 2) (by omega)
      have hh5 : CB w5 (w.heap.size + 2) d1 12 ⟨a4, 32, c4⟩ (hash0 h) := ⟨(unhide HL32).symm, unhide HHRR, own_below (ownsRow_base (unhide HO4) z3) b5 (Nat.le_refl _), fun g hg => by
        have hlt := (own_lt (unhide HO4) g hg).2
        rw [hd1]; show (if w5.heap.size ≤ g then 9 else if w4.heap.size ≤ g then d g else 12) = 12
        rw [if_neg (by omega), if_neg (by omega)]⟩
      have ba := below_alloc w5 (.cells (hvals y h) 30)
      have ks6 := SBlk.new w5 (hvals y h) 30
      have kr6 := kr5.below ba kr5.lt
      have ch6 := ch5.below ba (Nat.le_refl _)
      have hh6 := hh5.below ba (Nat.le_refl _)
      have K6 := K5.trans (ba.mono K5.size)
      obtain ⟨W6, e6⟩ : ∃ W, w5.alloc (.cells (hvals y h) 30) = W := ⟨_, rfl⟩
      rw [e6] at ks6 kr6 ch6 hh6 K6
      have E6 := hide e6
      obtain ⟨gs, egs⟩ : ∃ g, g = w5.heap.size := ⟨_, rfl⟩
      have EGS := hide egs
      rw [← egs] at ks6 d9
      have zg : w.heap.size + 2 ≤ gs := by omega
      clear egs e6 hd1 ba kr5 ch5 hh5 K5 L5 b5 x0 x1 x2 x3 x4 x5 x6 x7 x8 x9 x10 D5
      unfold hvals at E6 ks6
      have s10 := ks6.cell 10
      have f10 := ks6.free 10
      simp only [List.getElem?_cons_zero, List.getElem?_cons_succ] at s10
      have ks7 := ks6.set 10 (.slice none 0 0)
      simp only [List.set_cons_zero, List.set_cons_succ] at ks7
      have kr7 := kr6.other (g' := gs) (i := 10) (v := .slice none 0 0) (by omega)
      have K7 := K6.setCell (p := ⟨gs, 10, none⟩) (by show w.heap.size ≤ gs; omega) (.slice none 0 0)
      have ch7' := ch6.set9 (p := ⟨gs, 10, none⟩) (v := .slice none 0 0) d9
      have hh7 := hh6.set9 (p := ⟨gs, 10, none⟩) (v := .slice none 0 0) (by show d1 gs ≠ 12; omega)
      obtain ⟨W7, e7⟩ : ∃ W, W6.setCell ⟨gs, 10, none⟩ (.slice none 0 0) = W := ⟨_, rfl⟩
      rw [e7] at ks7 kr7 K7 ch7' hh7
      have ch7 : CH W7 (w.heap.size + 2) d1 ⟨y.p, y.t, y.s, y.r, y.g, y.e, ⟨none, 0, 0⟩⟩ { h with k := (comL h zss).take 0 } := ⟨ch7'.p, ch7'.t, ch7'.s, ch7'.r, ch7'.g, ch7'.e, CS.nil _ _ _ _ _⟩
      have E7 := hide e7
      go_upto_region 9 with fail
      rw [unhide E6]
      rw [← unhide EGS]
      go_upto_region 10 with fail
      try rw [unhide E7]
      have H0 : Hid (LoopInv w gs y h (comL h zss) (hash0 h) a4 c4 0 W7 ⟨none, 0, 0⟩ d1) := ⟨ks7, kr7, ch7, hh7, d9, K7⟩
      clear ks6 kr6 ch6 hh6 K6 ks7 kr7 K7 ch7' hh7 ch7 e7 E6 E7 EGS s10 f10 d9 HO4
      go_wp2_with fail
      obtain ⟨i0, hi, hz0, hz1, hz2⟩ := info_parts infoSB
      go_loopw [31] (fun i wr => ∃ (k : Nat) (s : Sl) (d : Nat → Nat), k ≤ len ∧ i = .int .i64 k ∧ LoopInv w gs y h (comL h zss) (hash0 h) a4 c4 k wr s d) (fun i _ => len - (intOf i).toNat)
      case atStart => exact ⟨0, _, _, Nat.zero_le _, rfl, unhide H0⟩
      case round =>
        obtain ⟨k, s, d, hk, rfl, I⟩ := hrel
        clear H0
        by_cases hlt : k < len
        · obtain ⟨z, hit⟩ : ∃ z, zss[k]? = some z := ⟨_, List.getElem?_eq_getElem (by rw [unhide HLL]; exact hlt)⟩
          obtain ⟨hrow, hnil⟩ := (unhide HLR) wr I.old
          obtain ⟨b, off, rfl, _, hat⟩ := hrow.at (by omega)
          obtain ⟨s1, n1, d1', c0, r1⟩ := hat k z hit
          obtain ⟨s1', n1', d1'', c0', hnn⟩ := hnil b off rfl k hlt
          rw [c0] at c0'
          simp only [Option.some.injEq, Value.slice.injEq] at c0'
          obtain ⟨rfl, rfl, rfl⟩ := c0'
          have hz4 : z.length = 4 := (sg_four (unhide ET).symm).2 z (List.mem_of_getElem? hit)
          have hn1 : n1 = 4 := by have := r1.1; omega
          subst hn1
          have zr : w.heap.size + 2 ≤ wr.heap.size := by have := I.blk.lt; omega
          have hcl : (comL h zss).length = len := by rw [comL_length]; exact unhide HLL
          have HCO : Hid (∀ W, Below wr.heap.size wr W → Calls Tryd.prog 25 #[.slice s1 4 d1', .slice a4 32 c4] W fun e w' => ∃ (a1 : Option Addr) (c1 : Nat) (dd : Nat → Nat) (es : List Sl), e = .returned (.agg #[.int .i64 0, .slice a1 8 c1]) ∧ w'.cell? ⟨gs, 10, none⟩ = some (.slice s.a s.n s.c) ∧ w'.ownsRow (w.heap.size + 2) 22 1 (.slice s.a s.n s.c) s.n (es.map Sl.v) ∧ Hid (LoopInv w gs y h (comL h zss) (hash0 h) a4 c4 k w' s dd ∧ CB w' (w.heap.size + 2) dd (8 + 3 * k) ⟨a1, 8, c1⟩ (z ++ markL z (hash0 h)) ∧ es.length = ((comL h zss).take k).length ∧ (∀ g, (Value.slice s.a s.n s.c).ownBlock = some g → dd g = 6) ∧ (∀ (i : Nat) (e : Sl) (z : List Int), es[i]? = some e → ((comL h zss).take k)[i]? = some z → CB w' (w.heap.size + 2) dd (8 + 3 * i) e z)) ∧ w.heap.size + 2 ≤ w'.heap.size) := fun W hb => by
            have IW := I.below hb
            have rz := r1.below hb (Nat.le_refl _)
            have K := implCommit_any s1 4 d1' a4 32 c4 z (hash0 h) W rz IW.hash.brow hnn (fun e => by subst e; exact (own_cap IW.hash.own) rfl) (by omega) (by omega) ((unhide HLV) W IW.old)
            have hf0 : hdFlt h = 0 := (unhide EQ).symm
            have e3 : slCode z (hash0 h) = 0 := if_pos ⟨hz4, hash0_len hf0⟩
            have e4 : cmBytes z (hash0 h) = z ++ markL z (hash0 h) := if_pos ⟨hz4, hash0_len hf0⟩
            have e5 := com_eight hf0 hz4
            rw [e3, e4, e5] at K
            refine K.mono ?_
            rintro e w' ⟨a1, c1, rfl, ho, hb'⟩
            have zW : w.heap.size + 2 ≤ W.heap.size := Nat.le_trans zr hb.size
            obtain ⟨I2, e2⟩ := IW.new hb' zW e5 (append_rng rz.2.1 (markL_rng rz.2.1 (unhide HHRR))) ho
            obtain ⟨q1, es, q2, q3, q4, q5⟩ := I2.hd.k
            exact ⟨a1, c1, _, es, rfl, I2.blk.cell 10, q3, ⟨I2, e2, q2, q4, q5⟩, Nat.le_trans zW hb'.size⟩
          have HST := hide (fun (W1 W2 WA : World) (dd : Nat → Nat) (es : List Sl) (a1 : Option Addr) (c1 g2 cap2 : Nat) (I1 : LoopInv w gs y h (comL h zss) (hash0 h) a4 c4 k W1 s dd) (e1 : CB W1 (w.heap.size + 2) dd (8 + 3 * k) ⟨a1, 8, c1⟩ (z ++ markL z (hash0 h))) (h2) (h3) (h4) (h5) (bA : Below W1.heap.size W1 WA) (o2) (hg) (hat) => LoopInv.step (W2 := W2) (es := es) (g2 := g2) (cap2 := cap2) I1 zg (by omega) (comL_snoc h zss k z hit) e1 h2 h3 h4 h5 bA o2 hg hat)
          have c10 := I.blk.cell 10
          simp only [List.getElem?_cons_zero, List.getElem?_cons_succ] at c10
          have hsn : s.n ≤ 1048576 := by have := I.hd.k.1; rw [this, List.length_take]; omega
          have k1 : (0 : Int) ≤ (k : Int) := by omega
          have k2 : (k : Int) < (len : Int) := by omega
          have hfl := fldB1
          clear I hrow hnil hat r1 hnn hz4 hcl hit
          go_upto_region 13 with fail
          go_region_law (first
            | (go_simp; go_at_call 25; refine ((unhide HCO) _ (by first | exact (Below.refl wr.heap.size wr).drew | exact below_drewN (Below.refl wr.heap.size wr) _)).mono ?_; rintro e W1 ⟨a1, c1, dd, es, rfl, m10, q3, HQ, zW1⟩; have m10a : ∀ o, (W1.alloc o).cell? ⟨gs, 10, none⟩ = some (.slice s.a s.n s.c) := (fun o => ((below_alloc W1 o).cell (lt_of_cell m10)).trans m10))
            | (refine step_append_lies _ (by rfl) (.tmp 36) (.tmp 41) 23 (by rfl) (w.heap.size + 2) 22 i0 (.slice none 0 0) 1 24 Tryd.underlying23 hi hz0 hz1 hz2 rfl (by decide) _ _ _ (by rfl) (by exact q3.alloc _) ⟨W1.heap.size, 0, none⟩ 1 1 [.slice a1 8 c1] (by rfl) rfl (by exact one_at _ _ _) (by simp [Value.oneCell']) (by omega) (by unfold maxLen; omega) (by omega) (by simp; omega) _ rfl ?_; intro g2 cap2 W2 hown2 hgrow2 hat2 hlt2; obtain ⟨⟨u10, hu10⟩, hf10, d2, I2⟩ := (unhide HST) W1 W2 _ dd es a1 c1 g2 cap2 (unhide HQ).1 (unhide HQ).2.1 (unhide HQ).2.2.1 q3 (unhide HQ).2.2.2.1 (unhide HQ).2.2.2.2 (below_alloc W1 _) hown2 hgrow2 hat2; have HI2 := hide I2; clear I2 hown2 hgrow2 hat2 hlt2))
          all_goals
            clear HQ q3 m10 m10a hu10 hf10 HCO HST
            go_wp2_with fail
            go_roundw
            case rel => exact ⟨k + 1, _, d2, by omega, by go_num, unhide HI2⟩
            case measure => simp [intOf]; omega
        · obtain rfl : k = len := by omega
          have hct : (comL h zss).take k = comL h zss := List.take_of_length_le (by rw [comL_length, unhide HLL]; exact Nat.le_refl _)
          have ch := I.hd
          rw [hct] at ch
          have HCH : Hid (CH wr (w.heap.size + 2) d ⟨y.p, y.t, y.s, y.r, y.g, y.e, s⟩ (comH h zss)) := ch
          have HOLD := hide I.old
          obtain ⟨t0, t1, t2, t3, t4, t5, t6, t7, t8, t9, t10⟩ : wr.cell? ⟨gs, 0, none⟩ = _ ∧ wr.cell? ⟨gs, 1, none⟩ = _ ∧ wr.cell? ⟨gs, 2, none⟩ = _ ∧ wr.cell? ⟨gs, 3, none⟩ = _ ∧ wr.cell? ⟨gs, 4, none⟩ = _ ∧ wr.cell? ⟨gs, 5, none⟩ = _ ∧ wr.cell? ⟨gs, 6, none⟩ = _ ∧ wr.cell? ⟨gs, 7, none⟩ = _ ∧ wr.cell? ⟨gs, 8, none⟩ = _ ∧ wr.cell? ⟨gs, 9, none⟩ = _ ∧ wr.cell? ⟨gs, 10, none⟩ = _ := ⟨I.blk.cell 0, I.blk.cell 1, I.blk.cell 2, I.blk.cell 3, I.blk.cell 4, I.blk.cell 5, I.blk.cell 6, I.blk.cell 7, I.blk.cell 8, I.blk.cell 9, I.blk.cell 10⟩
          obtain ⟨r0, r1, r2, r3, r4, r5, r6, r7, r8, r9, r10, r11⟩ : wr.cell? ⟨w.heap.size + 1, 0, none⟩ = _ ∧ wr.cell? ⟨w.heap.size + 1, 1, none⟩ = _ ∧ wr.cell? ⟨w.heap.size + 1, 2, none⟩ = _ ∧ wr.cell? ⟨w.heap.size + 1, 3, none⟩ = _ ∧ wr.cell? ⟨w.heap.size + 1, 4, none⟩ = _ ∧ wr.cell? ⟨w.heap.size + 1, 5, none⟩ = _ ∧ wr.cell? ⟨w.heap.size + 1, 6, none⟩ = _ ∧ wr.cell? ⟨w.heap.size + 1, 7, none⟩ = _ ∧ wr.cell? ⟨w.heap.size + 1, 8, none⟩ = _ ∧ wr.cell? ⟨w.heap.size + 1, 9, none⟩ = _ ∧ wr.cell? ⟨w.heap.size + 1, 10, none⟩ = _ ∧ wr.cell? ⟨w.heap.size + 1, 11, none⟩ = _ := ⟨I.res.cell 0, I.res.cell 1, I.res.cell 2, I.res.cell 3, I.res.cell 4, I.res.cell 5, I.res.cell 6, I.res.cell 7, I.res.cell 8, I.res.cell 9, I.res.cell 10, I.res.cell 11⟩
          obtain ⟨g0, g1, g2, g3, g4, g5, g6, g7, g8, g9, g10, g11⟩ : wr.frozen? ⟨w.heap.size + 1, 0, none⟩ = false ∧ wr.frozen? ⟨w.heap.size + 1, 1, none⟩ = false ∧ wr.frozen? ⟨w.heap.size + 1, 2, none⟩ = false ∧ wr.frozen? ⟨w.heap.size + 1, 3, none⟩ = false ∧ wr.frozen? ⟨w.heap.size + 1, 4, none⟩ = false ∧ wr.frozen? ⟨w.heap.size + 1, 5, none⟩ = false ∧ wr.frozen? ⟨w.heap.size + 1, 6, none⟩ = false ∧ wr.frozen? ⟨w.heap.size + 1, 7, none⟩ = false ∧ wr.frozen? ⟨w.heap.size + 1, 8, none⟩ = false ∧ wr.frozen? ⟨w.heap.size + 1, 9, none⟩ = false ∧ wr.frozen? ⟨w.heap.size + 1, 10, none⟩ = false ∧ wr.frozen? ⟨w.heap.size + 1, 11, none⟩ = false := ⟨I.res.free 0, I.res.free 1, I.res.free 2, I.res.free 3, I.res.free 4, I.res.free 5, I.res.free 6, I.res.free 7, I.res.free 8, I.res.free 9, I.res.free 10, I.res.free 11⟩
          simp only [List.getElem?_cons_zero, List.getElem?_cons_succ] at t0 t1 t2 t3 t4 t5 t6 t7 t8 t9 t10 r0 r1 r2 r3 r4 r5 r6 r7 r8 r9 r10 r11
          clear I ch hct
          go_wp2_with fail
          refine bodyPost_ret (v := .agg #[.int .i64 0, .slice y.p.a y.p.n y.p.c, .int .i64 h.n1, .int .i64 h.n2, .int .i64 h.n3, .slice y.t.a y.t.n y.t.c, .int .i64 h.n5, .slice y.s.a y.s.n y.s.c, .slice y.r.a y.r.n y.r.c, .slice y.g.a y.g.n y.g.c, .slice y.e.a y.e.n y.e.c, .slice s.a s.n s.c]) (by simp [results, Tryd.results29, go_sem, r0, r1, r2, r3, r4, r5, r6, r7, r8, r9, r10, r11]) rfl ⟨⟨y.p, y.t, y.s, y.r, y.g, y.e, s⟩, d, by rw [unhide HHC, unhide HCC]; rfl, ?_, ?_⟩
          · rw [unhide HHC]
            refine CH.base (B := w.heap.size + 2) ?_ (by omega)
            repeat (refine CH.set ?_ (by show w.heap.size + 1 < w.heap.size + 2; omega))
            exact unhide HCH
          · repeat (refine Below.setCell ?_ (by show w.heap.size ≤ w.heap.size + 1; omega) _)
            exact unhide HOLD
    · have hne : (t != 0) = true := by simp [ht]
      have HCC : Hid (CC = t) := unhide HC0
      have HHC : Hid (chH h zss = hd0) := by show _ = _; rw [unhide HH0, if_neg (fun q => ht q.2)]
      have kr := (unhide HKR) w3 (unhide L3)
      obtain ⟨r0, r1, r2, r3, r4, r5, r6, r7, r8, r9, r10, r11⟩ : w3.cell? ⟨w.heap.size + 1, 0, none⟩ = _ ∧ w3.cell? ⟨w.heap.size + 1, 1, none⟩ = _ ∧ w3.cell? ⟨w.heap.size + 1, 2, none⟩ = _ ∧ w3.cell? ⟨w.heap.size + 1, 3, none⟩ = _ ∧ w3.cell? ⟨w.heap.size + 1, 4, none⟩ = _ ∧ w3.cell? ⟨w.heap.size + 1, 5, none⟩ = _ ∧ w3.cell? ⟨w.heap.size + 1, 6, none⟩ = _ ∧ w3.cell? ⟨w.heap.size + 1, 7, none⟩ = _ ∧ w3.cell? ⟨w.heap.size + 1, 8, none⟩ = _ ∧ w3.cell? ⟨w.heap.size + 1, 9, none⟩ = _ ∧ w3.cell? ⟨w.heap.size + 1, 10, none⟩ = _ ∧ w3.cell? ⟨w.heap.size + 1, 11, none⟩ = _ := ⟨kr.cell 0, kr.cell 1, kr.cell 2, kr.cell 3, kr.cell 4, kr.cell 5, kr.cell 6, kr.cell 7, kr.cell 8, kr.cell 9, kr.cell 10, kr.cell 11⟩
      obtain ⟨g0, g1, g2, g3, g4, g5, g6, g7, g8, g9, g10, g11⟩ : w3.frozen? ⟨w.heap.size + 1, 0, none⟩ = false ∧ w3.frozen? ⟨w.heap.size + 1, 1, none⟩ = false ∧ w3.frozen? ⟨w.heap.size + 1, 2, none⟩ = false ∧ w3.frozen? ⟨w.heap.size + 1, 3, none⟩ = false ∧ w3.frozen? ⟨w.heap.size + 1, 4, none⟩ = false ∧ w3.frozen? ⟨w.heap.size + 1, 5, none⟩ = false ∧ w3.frozen? ⟨w.heap.size + 1, 6, none⟩ = false ∧ w3.frozen? ⟨w.heap.size + 1, 7, none⟩ = false ∧ w3.frozen? ⟨w.heap.size + 1, 8, none⟩ = false ∧ w3.frozen? ⟨w.heap.size + 1, 9, none⟩ = false ∧ w3.frozen? ⟨w.heap.size + 1, 10, none⟩ = false ∧ w3.frozen? ⟨w.heap.size + 1, 11, none⟩ = false := ⟨kr.free 0, kr.free 1, kr.free 2, kr.free 3, kr.free 4, kr.free 5, kr.free 6, kr.free 7, kr.free 8, kr.free 9, kr.free 10, kr.free 11⟩
      simp only [List.getElem?_cons_zero, List.getElem?_cons_succ] at r0 r1 r2 r3 r4 r5 r6 r7 r8 r9 r10 r11
      clear ht kr HC0 HH0 HSG HHO HCP
      go_wp2_with fail
      refine bodyPost_ret (v := .agg #[.int .i64 t, .slice none 0 0, .int .i64 0, .int .i64 0, .int .i64 0, .slice none 0 0, .int .i64 0, .slice none 0 0, .slice none 0 0, .slice none 0 0, .slice none 0 0, .slice none 0 0]) (by simp [results, Tryd.results29, go_sem, r0, r1, r2, r3, r4, r5, r6, r7, r8, r9, r10, r11]) rfl ⟨hs0, fun _ => 0, by rw [unhide HHC, unhide HCC]; rfl, by rw [unhide HHC]; exact ch0 _ _ _, ?_⟩
      repeat (refine Below.setCell ?_ (by show w.heap.size ≤ w.heap.size + 1; omega) _)
      exact unhide K3
  · have hne : (q != 0) = true := by simp [hq]
    have HCC : Hid (CC = q) := by show _ = _; rw [unhide HC0, if_neg hq]
    have HHC : Hid (chH h zss = hd0) := by show _ = _; rw [unhide HH0, if_neg (fun z => hq z.1)]
    have kr := (unhide HKR) w2 (unhide L2)
    obtain ⟨r0, r1, r2, r3, r4, r5, r6, r7, r8, r9, r10, r11⟩ : w2.cell? ⟨w.heap.size + 1, 0, none⟩ = _ ∧ w2.cell? ⟨w.heap.size + 1, 1, none⟩ = _ ∧ w2.cell? ⟨w.heap.size + 1, 2, none⟩ = _ ∧ w2.cell? ⟨w.heap.size + 1, 3, none⟩ = _ ∧ w2.cell? ⟨w.heap.size + 1, 4, none⟩ = _ ∧ w2.cell? ⟨w.heap.size + 1, 5, none⟩ = _ ∧ w2.cell? ⟨w.heap.size + 1, 6, none⟩ = _ ∧ w2.cell? ⟨w.heap.size + 1, 7, none⟩ = _ ∧ w2.cell? ⟨w.heap.size + 1, 8, none⟩ = _ ∧ w2.cell? ⟨w.heap.size + 1, 9, none⟩ = _ ∧ w2.cell? ⟨w.heap.size + 1, 10, none⟩ = _ ∧ w2.cell? ⟨w.heap.size + 1, 11, none⟩ = _ := ⟨kr.cell 0, kr.cell 1, kr.cell 2, kr.cell 3, kr.cell 4, kr.cell 5, kr.cell 6, kr.cell 7, kr.cell 8, kr.cell 9, kr.cell 10, kr.cell 11⟩
    obtain ⟨g0, g1, g2, g3, g4, g5, g6, g7, g8, g9, g10, g11⟩ : w2.frozen? ⟨w.heap.size + 1, 0, none⟩ = false ∧ w2.frozen? ⟨w.heap.size + 1, 1, none⟩ = false ∧ w2.frozen? ⟨w.heap.size + 1, 2, none⟩ = false ∧ w2.frozen? ⟨w.heap.size + 1, 3, none⟩ = false ∧ w2.frozen? ⟨w.heap.size + 1, 4, none⟩ = false ∧ w2.frozen? ⟨w.heap.size + 1, 5, none⟩ = false ∧ w2.frozen? ⟨w.heap.size + 1, 6, none⟩ = false ∧ w2.frozen? ⟨w.heap.size + 1, 7, none⟩ = false ∧ w2.frozen? ⟨w.heap.size + 1, 8, none⟩ = false ∧ w2.frozen? ⟨w.heap.size + 1, 9, none⟩ = false ∧ w2.frozen? ⟨w.heap.size + 1, 10, none⟩ = false ∧ w2.frozen? ⟨w.heap.size + 1, 11, none⟩ = false := ⟨kr.free 0, kr.free 1, kr.free 2, kr.free 3, kr.free 4, kr.free 5, kr.free 6, kr.free 7, kr.free 8, kr.free 9, kr.free 10, kr.free 11⟩
    simp only [List.getElem?_cons_zero, List.getElem?_cons_succ] at r0 r1 r2 r3 r4 r5 r6 r7 r8 r9 r10 r11
    clear hq kr HC0 HH0 HSG HHO HCP
    go_wp2_with fail
    refine bodyPost_ret (v := .agg #[.int .i64 q, .slice none 0 0, .int .i64 0, .int .i64 0, .int .i64 0, .slice none 0 0, .int .i64 0, .slice none 0 0, .slice none 0 0, .slice none 0 0, .slice none 0 0, .slice none 0 0]) (by simp [results, Tryd.results29, go_sem, r0, r1, r2, r3, r4, r5, r6, r7, r8, r9, r10, r11]) rfl ⟨hs0, fun _ => 0, by rw [unhide HHC, unhide HCC]; rfl, by rw [unhide HHC]; exact ch0 _ _ _, ?_⟩
    repeat (refine Below.setCell ?_ (by show w.heap.size ≤ w.heap.size + 1; omega) _)
    exact unhide K2

end Go.Proofs.YtbncoiljklagkaaDoor

/- What is proved here: what the model's l5Copy answers: the same header in memory of its own. -/
namespace Go.Proofs.YtbncoiljklagkaaDoor
open Go.RowKit
set_option linter.unusedVariables false
set_option maxRecDepth 100000

set_option maxHeartbeats 8000000 in
theorem l5Copy_any (x : HS) (h : Hd) (w : World) (o : HOk w x h) (nn : HNil w x) (m : HSm h) :
    Calls Tryd.prog 51 #[.agg (hvals x h)] w fun e w' => ∃ (y : HS) (d : Nat → Nat), e = .returned (.agg (hvals y h)) ∧ CH w' (w.heap.size + 2) d y h ∧ Below w.heap.size w w' := by
  have kb := SBlk.new w (hvals x h) 30
  have bb := below_alloc w (.cells (hvals x h) 30)
  have zb : (w.alloc (.cells (hvals x h) 30)).heap.size = w.heap.size + 1 := by simp
  obtain ⟨W, eb⟩ : ∃ W, w.alloc (.cells (hvals x h) 30) = W := ⟨_, rfl⟩
  rw [eb] at kb bb zb
  have kr := SBlk.new W #[.slice none 0 0, .int .i64 0, .int .i64 0, .int .i64 0, .slice none 0 0, .int .i64 0, .slice none 0 0, .slice none 0 0, .slice none 0 0, .slice none 0 0, .slice none 0 0] 30
  have kb := kb.next (.cells #[.slice none 0 0, .int .i64 0, .int .i64 0, .int .i64 0, .slice none 0 0, .int .i64 0, .slice none 0 0, .slice none 0 0, .slice none 0 0, .slice none 0 0, .slice none 0 0] 30)
  have K0 := bb.trans ((below_alloc W (.cells #[.slice none 0 0, .int .i64 0, .int .i64 0, .int .i64 0, .slice none 0 0, .int .i64 0, .slice none 0 0, .slice none 0 0, .slice none 0 0, .slice none 0 0, .slice none 0 0] 30)).mono bb.size)
  have z0 : (W.alloc (.cells #[.slice none 0 0, .int .i64 0, .int .i64 0, .int .i64 0, .slice none 0 0, .int .i64 0, .slice none 0 0, .slice none 0 0, .slice none 0 0, .slice none 0 0, .slice none 0 0] 30)).heap.size = w.heap.size + 2 := by simp; omega
  rw [zb] at kr
  obtain ⟨W0, e0⟩ : ∃ W0, W.alloc (.cells #[.slice none 0 0, .int .i64 0, .int .i64 0, .int .i64 0, .slice none 0 0, .int .i64 0, .slice none 0 0, .slice none 0 0, .slice none 0 0, .slice none 0 0, .slice none 0 0] 30) = W0 := ⟨_, rfl⟩
  rw [e0] at kr kb K0 z0
  have HO := hide (fun (W : World) (hb : Below w.heap.size w W) => o.below hb (Nat.le_refl _))
  have HN := hide (fun (W : World) (hb : Below w.heap.size w W) => nn.below hb (Nat.le_refl _))
  have HM := hide m
  have hB0 : w.heap.size + 2 ≤ W0.heap.size := by omega
  obtain ⟨d, hd⟩ : ∃ d : Nat → Nat, d = fun _ => 0 := ⟨_, rfl⟩
  clear hd bb zb z0 o m nn
  have EB := hide eb
  have E0 := hide e0
  clear eb e0
  unfold hvals at EB kb ⊢
  go_enter Tryd.func51, Tryd.ntmps51
  go_upto_region 1 with fail
  rw [unhide EB, unhide E0]
  clear EB E0
  have c1 := kb.cell 0
  have f1 := kb.free 0
  simp only [List.getElem?_cons_zero] at c1
  have l1 : h.p.length = x.p.n := (unhide HO _ K0).p.1
  have D1 := hide (copy_any x.p.a x.p.n x.p.c h.p W0 (unhide HO _ K0).p (unhide HN _ K0).p (by have := (unhide HM).p; omega))
  go_wp2_with fail
  refine (unhide D1).mono ?_
  rintro ev v1 ⟨a1, c'1, rfl, ow1, b1⟩
  obtain ⟨d', hd'⟩ : ∃ d' : Nat → Nat, d' = fun g => if W0.heap.size ≤ g then 0 else d g := ⟨_, rfl⟩
  obtain ⟨yp, hyp⟩ : ∃ y : Sl, y = ⟨a1, x.p.n, c'1⟩ := ⟨_, rfl⟩
  have n_p : CB v1 (w.heap.size + 2) d' 0 yp h.p := by rw [hyp, hd']; exact CB.new l1.symm (unhide HO _ K0).p.2.1 ow1 hB0
  have q1 : Value.slice a1 x.p.n c'1 = .slice yp.a yp.n yp.c := by rw [hyp]
  have hB1' : w.heap.size + 2 ≤ v1.heap.size := Nat.le_trans hB0 b1.size
  replace c1 := (b1.cell (p := ⟨w.heap.size, 0, none⟩) (by show w.heap.size < W0.heap.size; omega)).trans c1
  replace f1 : v1.frozen? ⟨w.heap.size, 0, none⟩ = false := by rw [World.frozen?_of_block (b1.block w.heap.size (by omega))]; exact f1
  replace kb := ((kb.below b1 (by omega)).set 0 (.slice yp.a yp.n yp.c))
  simp only [List.set_cons_zero] at kb
  replace kr := (kr.below b1 (by omega)).other (g' := w.heap.size) (i := 0) (v := .slice yp.a yp.n yp.c) (by omega)
  have K1 := (K0.trans (b1.mono (by omega))).setCell (p := ⟨w.heap.size, 0, none⟩) (Nat.le_refl _) (.slice yp.a yp.n yp.c)
  have m_p := n_p.set (p := ⟨w.heap.size, 0, none⟩) (v := .slice yp.a yp.n yp.c) (by show w.heap.size < w.heap.size + 2; omega)
  have hB1 : w.heap.size + 2 ≤ (v1.setCell ⟨w.heap.size, 0, none⟩ (.slice yp.a yp.n yp.c)).heap.size := by rw [size_set']; exact hB1'
  rw [q1]
  clear q1 hd' hyp n_p b1 D1 hB1' ow1 l1 d
  obtain ⟨d, hd⟩ : ∃ d : Nat → Nat, d = d' := ⟨_, rfl⟩
  rw [← hd] at m_p
  clear hd d'
  obtain ⟨W1, e1⟩ : ∃ W, v1.setCell ⟨w.heap.size, 0, none⟩ (.slice yp.a yp.n yp.c) = W := ⟨_, rfl⟩
  rw [e1] at kb kr K1 hB1 m_p
  have E1 := hide e1
  clear e1
  go_upto_region 2 with fail
  rw [unhide E1]
  clear E1 c1 f1 K0 hB0
  have c2 := kb.cell 4
  have f2 := kb.free 4
  simp only [List.getElem?_cons_zero, List.getElem?_cons_succ] at c2
  have l2 : h.t.length = x.t.n := (unhide HO _ K1).t.1
  have D2 := hide (copy_any x.t.a x.t.n x.t.c h.t W1 (unhide HO _ K1).t (unhide HN _ K1).t (by have := (unhide HM).t; omega))
  go_wp2_with fail
  refine (unhide D2).mono ?_
  rintro ev v2 ⟨a2, c'2, rfl, ow2, b2⟩
  obtain ⟨d', hd'⟩ : ∃ d' : Nat → Nat, d' = fun g => if W1.heap.size ≤ g then 1 else d g := ⟨_, rfl⟩
  obtain ⟨yt, hyt⟩ : ∃ y : Sl, y = ⟨a2, x.t.n, c'2⟩ := ⟨_, rfl⟩
  have n_t : CB v2 (w.heap.size + 2) d' 1 yt h.t := by rw [hyt, hd']; exact CB.new l2.symm (unhide HO _ K1).t.2.1 ow2 hB1
  have q2 : Value.slice a2 x.t.n c'2 = .slice yt.a yt.n yt.c := by rw [hyt]
  replace m_p := (m_p.recol (d' := d') (fun g hg => by rw [hd']; exact if_neg (by omega))).below b2 (Nat.le_refl _)
  have hB2' : w.heap.size + 2 ≤ v2.heap.size := Nat.le_trans hB1 b2.size
  replace c2 := (b2.cell (p := ⟨w.heap.size, 4, none⟩) (by show w.heap.size < W1.heap.size; omega)).trans c2
  replace f2 : v2.frozen? ⟨w.heap.size, 4, none⟩ = false := by rw [World.frozen?_of_block (b2.block w.heap.size (by omega))]; exact f2
  replace kb := ((kb.below b2 (by omega)).set 4 (.slice yt.a yt.n yt.c))
  simp only [List.set_cons_zero, List.set_cons_succ] at kb
  replace kr := (kr.below b2 (by omega)).other (g' := w.heap.size) (i := 4) (v := .slice yt.a yt.n yt.c) (by omega)
  have K2 := (K1.trans (b2.mono (by omega))).setCell (p := ⟨w.heap.size, 4, none⟩) (Nat.le_refl _) (.slice yt.a yt.n yt.c)
  have m_t := n_t.set (p := ⟨w.heap.size, 4, none⟩) (v := .slice yt.a yt.n yt.c) (by show w.heap.size < w.heap.size + 2; omega)
  replace m_p := m_p.set (p := ⟨w.heap.size, 4, none⟩) (v := .slice yt.a yt.n yt.c) (by show w.heap.size < w.heap.size + 2; omega)
  have hB2 : w.heap.size + 2 ≤ (v2.setCell ⟨w.heap.size, 4, none⟩ (.slice yt.a yt.n yt.c)).heap.size := by rw [size_set']; exact hB2'
  rw [q2]
  clear q2 hd' hyt n_t b2 D2 hB2' ow2 l2 d
  obtain ⟨d, hd⟩ : ∃ d : Nat → Nat, d = d' := ⟨_, rfl⟩
  rw [← hd] at m_t m_p
  clear hd d'
  obtain ⟨W2, e2⟩ : ∃ W, v2.setCell ⟨w.heap.size, 4, none⟩ (.slice yt.a yt.n yt.c) = W := ⟨_, rfl⟩
  rw [e2] at kb kr K2 hB2 m_p m_t
  have E2 := hide e2
  clear e2
  go_upto_region 3 with fail
  rw [unhide E2]
  clear E2 c2 f2 K1 hB1
  have c3 := kb.cell 6
  have f3 := kb.free 6
  simp only [List.getElem?_cons_zero, List.getElem?_cons_succ] at c3
  have D3 := hide (l5Lists_any 5 7 (by omega) x.s.a x.s.n x.s.c h.s W2 (unhide HO _ K2).s (unhide HN _ K2).s (by have := (unhide HO _ K2).s.1; have := (unhide HM).s; omega) (unhide HM).sz)
  go_wp2_with fail
  refine (unhide D3).mono ?_
  rintro ev v3 ⟨s3, d3, rfl, cs3, b3⟩
  obtain ⟨d', hd'⟩ : ∃ d' : Nat → Nat, d' = fun g => if W2.heap.size ≤ g then d3 g else d g := ⟨_, rfl⟩
  obtain ⟨ys, hys⟩ : ∃ y : Sl, y = s3 := ⟨_, rfl⟩
  have n_s : CS v3 (w.heap.size + 2) d' 5 7 ys h.s := by rw [hys, hd']; exact (cs3.recol2 (fun g hg => if_pos hg)).base hB2
  have q3 : Value.slice s3.a s3.n s3.c = .slice ys.a ys.n ys.c := by rw [hys]
  replace m_p := (m_p.recol (d' := d') (fun g hg => by rw [hd']; exact if_neg (by omega))).below b3 (Nat.le_refl _)
  replace m_t := (m_t.recol (d' := d') (fun g hg => by rw [hd']; exact if_neg (by omega))).below b3 (Nat.le_refl _)
  have hB3' : w.heap.size + 2 ≤ v3.heap.size := Nat.le_trans hB2 b3.size
  replace c3 := (b3.cell (p := ⟨w.heap.size, 6, none⟩) (by show w.heap.size < W2.heap.size; omega)).trans c3
  replace f3 : v3.frozen? ⟨w.heap.size, 6, none⟩ = false := by rw [World.frozen?_of_block (b3.block w.heap.size (by omega))]; exact f3
  replace kb := ((kb.below b3 (by omega)).set 6 (.slice ys.a ys.n ys.c))
  simp only [List.set_cons_zero, List.set_cons_succ] at kb
  replace kr := (kr.below b3 (by omega)).other (g' := w.heap.size) (i := 6) (v := .slice ys.a ys.n ys.c) (by omega)
  have K3 := (K2.trans (b3.mono (by omega))).setCell (p := ⟨w.heap.size, 6, none⟩) (Nat.le_refl _) (.slice ys.a ys.n ys.c)
  have m_s := n_s.set (p := ⟨w.heap.size, 6, none⟩) (v := .slice ys.a ys.n ys.c) (by show w.heap.size < w.heap.size + 2; omega)
  replace m_p := m_p.set (p := ⟨w.heap.size, 6, none⟩) (v := .slice ys.a ys.n ys.c) (by show w.heap.size < w.heap.size + 2; omega)
  replace m_t := m_t.set (p := ⟨w.heap.size, 6, none⟩) (v := .slice ys.a ys.n ys.c) (by show w.heap.size < w.heap.size + 2; omega)
  have hB3 : w.heap.size + 2 ≤ (v3.setCell ⟨w.heap.size, 6, none⟩ (.slice ys.a ys.n ys.c)).heap.size := by rw [size_set']; exact hB3'
  rw [q3]
  clear q3 hd' hys n_s b3 D3 hB3' cs3 d
  obtain ⟨d, hd⟩ : ∃ d : Nat → Nat, d = d' := ⟨_, rfl⟩
  rw [← hd] at m_s m_p m_t
  clear hd d'
  obtain ⟨W3, e3⟩ : ∃ W, v3.setCell ⟨w.heap.size, 6, none⟩ (.slice ys.a ys.n ys.c) = W := ⟨_, rfl⟩
  rw [e3] at kb kr K3 hB3 m_p m_t m_s
  have E3 := hide e3
  clear e3
  go_upto_region 4 with fail
  rw [unhide E3]
  clear E3 c3 f3 K2 hB2
  have c4 := kb.cell 7
  have f4 := kb.free 7
  simp only [List.getElem?_cons_zero, List.getElem?_cons_succ] at c4
  have l4 : h.r.length = x.r.n := (unhide HO _ K3).r.1
  have D4 := hide (copy_any x.r.a x.r.n x.r.c h.r W3 (unhide HO _ K3).r (unhide HN _ K3).r (by have := (unhide HM).r; omega))
  go_wp2_with fail
  refine (unhide D4).mono ?_
  rintro ev v4 ⟨a4, c'4, rfl, ow4, b4⟩
  obtain ⟨d', hd'⟩ : ∃ d' : Nat → Nat, d' = fun g => if W3.heap.size ≤ g then 2 else d g := ⟨_, rfl⟩
  obtain ⟨yr, hyr⟩ : ∃ y : Sl, y = ⟨a4, x.r.n, c'4⟩ := ⟨_, rfl⟩
  have n_r : CB v4 (w.heap.size + 2) d' 2 yr h.r := by rw [hyr, hd']; exact CB.new l4.symm (unhide HO _ K3).r.2.1 ow4 hB3
  have q4 : Value.slice a4 x.r.n c'4 = .slice yr.a yr.n yr.c := by rw [hyr]
  replace m_p := (m_p.recol (d' := d') (fun g hg => by rw [hd']; exact if_neg (by omega))).below b4 (Nat.le_refl _)
  replace m_t := (m_t.recol (d' := d') (fun g hg => by rw [hd']; exact if_neg (by omega))).below b4 (Nat.le_refl _)
  replace m_s := (m_s.recol (d' := d') (fun g hg => by rw [hd']; exact if_neg (by omega))).below b4 (Nat.le_refl _)
  have hB4' : w.heap.size + 2 ≤ v4.heap.size := Nat.le_trans hB3 b4.size
  replace c4 := (b4.cell (p := ⟨w.heap.size, 7, none⟩) (by show w.heap.size < W3.heap.size; omega)).trans c4
  replace f4 : v4.frozen? ⟨w.heap.size, 7, none⟩ = false := by rw [World.frozen?_of_block (b4.block w.heap.size (by omega))]; exact f4
  replace kb := ((kb.below b4 (by omega)).set 7 (.slice yr.a yr.n yr.c))
  simp only [List.set_cons_zero, List.set_cons_succ] at kb
  replace kr := (kr.below b4 (by omega)).other (g' := w.heap.size) (i := 7) (v := .slice yr.a yr.n yr.c) (by omega)
  have K4 := (K3.trans (b4.mono (by omega))).setCell (p := ⟨w.heap.size, 7, none⟩) (Nat.le_refl _) (.slice yr.a yr.n yr.c)
  have m_r := n_r.set (p := ⟨w.heap.size, 7, none⟩) (v := .slice yr.a yr.n yr.c) (by show w.heap.size < w.heap.size + 2; omega)
  replace m_p := m_p.set (p := ⟨w.heap.size, 7, none⟩) (v := .slice yr.a yr.n yr.c) (by show w.heap.size < w.heap.size + 2; omega)
  replace m_t := m_t.set (p := ⟨w.heap.size, 7, none⟩) (v := .slice yr.a yr.n yr.c) (by show w.heap.size < w.heap.size + 2; omega)
  replace m_s := m_s.set (p := ⟨w.heap.size, 7, none⟩) (v := .slice yr.a yr.n yr.c) (by show w.heap.size < w.heap.size + 2; omega)
  have hB4 : w.heap.size + 2 ≤ (v4.setCell ⟨w.heap.size, 7, none⟩ (.slice yr.a yr.n yr.c)).heap.size := by rw [size_set']; exact hB4'
  rw [q4]
  clear q4 hd' hyr n_r b4 D4 hB4' ow4 l4 d
  obtain ⟨d, hd⟩ : ∃ d : Nat → Nat, d = d' := ⟨_, rfl⟩
  rw [← hd] at m_r m_p m_t m_s
  clear hd d'
  obtain ⟨W4, e4⟩ : ∃ W, v4.setCell ⟨w.heap.size, 7, none⟩ (.slice yr.a yr.n yr.c) = W := ⟨_, rfl⟩
  rw [e4] at kb kr K4 hB4 m_p m_t m_s m_r
  have E4 := hide e4
  clear e4
  go_upto_region 5 with fail
  rw [unhide E4]
  clear E4 c4 f4 K3 hB3
  have c5 := kb.cell 8
  have f5 := kb.free 8
  simp only [List.getElem?_cons_zero, List.getElem?_cons_succ] at c5
  have l5 : h.g.length = x.g.n := (unhide HO _ K4).g.1
  have D5 := hide (copy_any x.g.a x.g.n x.g.c h.g W4 (unhide HO _ K4).g (unhide HN _ K4).g (by have := (unhide HM).g; omega))
  go_wp2_with fail
  refine (unhide D5).mono ?_
  rintro ev v5 ⟨a5, c'5, rfl, ow5, b5⟩
  obtain ⟨d', hd'⟩ : ∃ d' : Nat → Nat, d' = fun g => if W4.heap.size ≤ g then 3 else d g := ⟨_, rfl⟩
  obtain ⟨yg, hyg⟩ : ∃ y : Sl, y = ⟨a5, x.g.n, c'5⟩ := ⟨_, rfl⟩
  have n_g : CB v5 (w.heap.size + 2) d' 3 yg h.g := by rw [hyg, hd']; exact CB.new l5.symm (unhide HO _ K4).g.2.1 ow5 hB4
  have q5 : Value.slice a5 x.g.n c'5 = .slice yg.a yg.n yg.c := by rw [hyg]
  replace m_p := (m_p.recol (d' := d') (fun g hg => by rw [hd']; exact if_neg (by omega))).below b5 (Nat.le_refl _)
  replace m_t := (m_t.recol (d' := d') (fun g hg => by rw [hd']; exact if_neg (by omega))).below b5 (Nat.le_refl _)
  replace m_s := (m_s.recol (d' := d') (fun g hg => by rw [hd']; exact if_neg (by omega))).below b5 (Nat.le_refl _)
  replace m_r := (m_r.recol (d' := d') (fun g hg => by rw [hd']; exact if_neg (by omega))).below b5 (Nat.le_refl _)
  have hB5' : w.heap.size + 2 ≤ v5.heap.size := Nat.le_trans hB4 b5.size
  replace c5 := (b5.cell (p := ⟨w.heap.size, 8, none⟩) (by show w.heap.size < W4.heap.size; omega)).trans c5
  replace f5 : v5.frozen? ⟨w.heap.size, 8, none⟩ = false := by rw [World.frozen?_of_block (b5.block w.heap.size (by omega))]; exact f5
  replace kb := ((kb.below b5 (by omega)).set 8 (.slice yg.a yg.n yg.c))
  simp only [List.set_cons_zero, List.set_cons_succ] at kb
  replace kr := (kr.below b5 (by omega)).other (g' := w.heap.size) (i := 8) (v := .slice yg.a yg.n yg.c) (by omega)
  have K5 := (K4.trans (b5.mono (by omega))).setCell (p := ⟨w.heap.size, 8, none⟩) (Nat.le_refl _) (.slice yg.a yg.n yg.c)
  have m_g := n_g.set (p := ⟨w.heap.size, 8, none⟩) (v := .slice yg.a yg.n yg.c) (by show w.heap.size < w.heap.size + 2; omega)
  replace m_p := m_p.set (p := ⟨w.heap.size, 8, none⟩) (v := .slice yg.a yg.n yg.c) (by show w.heap.size < w.heap.size + 2; omega)
  replace m_t := m_t.set (p := ⟨w.heap.size, 8, none⟩) (v := .slice yg.a yg.n yg.c) (by show w.heap.size < w.heap.size + 2; omega)
  replace m_s := m_s.set (p := ⟨w.heap.size, 8, none⟩) (v := .slice yg.a yg.n yg.c) (by show w.heap.size < w.heap.size + 2; omega)
  replace m_r := m_r.set (p := ⟨w.heap.size, 8, none⟩) (v := .slice yg.a yg.n yg.c) (by show w.heap.size < w.heap.size + 2; omega)
  have hB5 : w.heap.size + 2 ≤ (v5.setCell ⟨w.heap.size, 8, none⟩ (.slice yg.a yg.n yg.c)).heap.size := by rw [size_set']; exact hB5'
  rw [q5]
  clear q5 hd' hyg n_g b5 D5 hB5' ow5 l5 d
  obtain ⟨d, hd⟩ : ∃ d : Nat → Nat, d = d' := ⟨_, rfl⟩
  rw [← hd] at m_g m_p m_t m_s m_r
  clear hd d'
  obtain ⟨W5, e5⟩ : ∃ W, v5.setCell ⟨w.heap.size, 8, none⟩ (.slice yg.a yg.n yg.c) = W := ⟨_, rfl⟩
  rw [e5] at kb kr K5 hB5 m_p m_t m_s m_r m_g
  have E5 := hide e5
  clear e5
  go_upto_region 6 with fail
  rw [unhide E5]
  clear E5 c5 f5 K4 hB4
  have c6 := kb.cell 9
  have f6 := kb.free 9
  simp only [List.getElem?_cons_zero, List.getElem?_cons_succ] at c6
  have l6 : h.e.length = x.e.n := (unhide HO _ K5).e.1
  have D6 := hide (copy_any x.e.a x.e.n x.e.c h.e W5 (unhide HO _ K5).e (unhide HN _ K5).e (by have := (unhide HM).e; omega))
  go_wp2_with fail
  refine (unhide D6).mono ?_
  rintro ev v6 ⟨a6, c'6, rfl, ow6, b6⟩
  obtain ⟨d', hd'⟩ : ∃ d' : Nat → Nat, d' = fun g => if W5.heap.size ≤ g then 4 else d g := ⟨_, rfl⟩
  obtain ⟨ye, hye⟩ : ∃ y : Sl, y = ⟨a6, x.e.n, c'6⟩ := ⟨_, rfl⟩
  have n_e : CB v6 (w.heap.size + 2) d' 4 ye h.e := by rw [hye, hd']; exact CB.new l6.symm (unhide HO _ K5).e.2.1 ow6 hB5
  have q6 : Value.slice a6 x.e.n c'6 = .slice ye.a ye.n ye.c := by rw [hye]
  replace m_p := (m_p.recol (d' := d') (fun g hg => by rw [hd']; exact if_neg (by omega))).below b6 (Nat.le_refl _)
  replace m_t := (m_t.recol (d' := d') (fun g hg => by rw [hd']; exact if_neg (by omega))).below b6 (Nat.le_refl _)
  replace m_s := (m_s.recol (d' := d') (fun g hg => by rw [hd']; exact if_neg (by omega))).below b6 (Nat.le_refl _)
  replace m_r := (m_r.recol (d' := d') (fun g hg => by rw [hd']; exact if_neg (by omega))).below b6 (Nat.le_refl _)
  replace m_g := (m_g.recol (d' := d') (fun g hg => by rw [hd']; exact if_neg (by omega))).below b6 (Nat.le_refl _)
  have hB6' : w.heap.size + 2 ≤ v6.heap.size := Nat.le_trans hB5 b6.size
  replace c6 := (b6.cell (p := ⟨w.heap.size, 9, none⟩) (by show w.heap.size < W5.heap.size; omega)).trans c6
  replace f6 : v6.frozen? ⟨w.heap.size, 9, none⟩ = false := by rw [World.frozen?_of_block (b6.block w.heap.size (by omega))]; exact f6
  replace kb := ((kb.below b6 (by omega)).set 9 (.slice ye.a ye.n ye.c))
  simp only [List.set_cons_zero, List.set_cons_succ] at kb
  replace kr := (kr.below b6 (by omega)).other (g' := w.heap.size) (i := 9) (v := .slice ye.a ye.n ye.c) (by omega)
  have K6 := (K5.trans (b6.mono (by omega))).setCell (p := ⟨w.heap.size, 9, none⟩) (Nat.le_refl _) (.slice ye.a ye.n ye.c)
  have m_e := n_e.set (p := ⟨w.heap.size, 9, none⟩) (v := .slice ye.a ye.n ye.c) (by show w.heap.size < w.heap.size + 2; omega)
  replace m_p := m_p.set (p := ⟨w.heap.size, 9, none⟩) (v := .slice ye.a ye.n ye.c) (by show w.heap.size < w.heap.size + 2; omega)
  replace m_t := m_t.set (p := ⟨w.heap.size, 9, none⟩) (v := .slice ye.a ye.n ye.c) (by show w.heap.size < w.heap.size + 2; omega)
  replace m_s := m_s.set (p := ⟨w.heap.size, 9, none⟩) (v := .slice ye.a ye.n ye.c) (by show w.heap.size < w.heap.size + 2; omega)
  replace m_r := m_r.set (p := ⟨w.heap.size, 9, none⟩) (v := .slice ye.a ye.n ye.c) (by show w.heap.size < w.heap.size + 2; omega)
  replace m_g := m_g.set (p := ⟨w.heap.size, 9, none⟩) (v := .slice ye.a ye.n ye.c) (by show w.heap.size < w.heap.size + 2; omega)
  have hB6 : w.heap.size + 2 ≤ (v6.setCell ⟨w.heap.size, 9, none⟩ (.slice ye.a ye.n ye.c)).heap.size := by rw [size_set']; exact hB6'
  rw [q6]
  clear q6 hd' hye n_e b6 D6 hB6' ow6 l6 d
  obtain ⟨d, hd⟩ : ∃ d : Nat → Nat, d = d' := ⟨_, rfl⟩
  rw [← hd] at m_e m_p m_t m_s m_r m_g
  clear hd d'
  obtain ⟨W6, e6⟩ : ∃ W, v6.setCell ⟨w.heap.size, 9, none⟩ (.slice ye.a ye.n ye.c) = W := ⟨_, rfl⟩
  rw [e6] at kb kr K6 hB6 m_p m_t m_s m_r m_g m_e
  have E6 := hide e6
  clear e6
  go_upto_region 7 with fail
  rw [unhide E6]
  clear E6 c6 f6 K5 hB5
  have c7 := kb.cell 10
  have f7 := kb.free 10
  simp only [List.getElem?_cons_zero, List.getElem?_cons_succ] at c7
  have D7 := hide (l5Lists_any 6 8 (by omega) x.k.a x.k.n x.k.c h.k W6 (unhide HO _ K6).k (unhide HN _ K6).k (by have := (unhide HO _ K6).k.1; have := (unhide HM).k; omega) (unhide HM).kz)
  go_wp2_with fail
  refine (unhide D7).mono ?_
  rintro ev v7 ⟨s7, d7, rfl, cs7, b7⟩
  obtain ⟨d', hd'⟩ : ∃ d' : Nat → Nat, d' = fun g => if W6.heap.size ≤ g then d7 g else d g := ⟨_, rfl⟩
  obtain ⟨yk, hyk⟩ : ∃ y : Sl, y = s7 := ⟨_, rfl⟩
  have n_k : CS v7 (w.heap.size + 2) d' 6 8 yk h.k := by rw [hyk, hd']; exact (cs7.recol2 (fun g hg => if_pos hg)).base hB6
  have q7 : Value.slice s7.a s7.n s7.c = .slice yk.a yk.n yk.c := by rw [hyk]
  replace m_p := (m_p.recol (d' := d') (fun g hg => by rw [hd']; exact if_neg (by omega))).below b7 (Nat.le_refl _)
  replace m_t := (m_t.recol (d' := d') (fun g hg => by rw [hd']; exact if_neg (by omega))).below b7 (Nat.le_refl _)
  replace m_s := (m_s.recol (d' := d') (fun g hg => by rw [hd']; exact if_neg (by omega))).below b7 (Nat.le_refl _)
  replace m_r := (m_r.recol (d' := d') (fun g hg => by rw [hd']; exact if_neg (by omega))).below b7 (Nat.le_refl _)
  replace m_g := (m_g.recol (d' := d') (fun g hg => by rw [hd']; exact if_neg (by omega))).below b7 (Nat.le_refl _)
  replace m_e := (m_e.recol (d' := d') (fun g hg => by rw [hd']; exact if_neg (by omega))).below b7 (Nat.le_refl _)
  have hB7' : w.heap.size + 2 ≤ v7.heap.size := Nat.le_trans hB6 b7.size
  replace c7 := (b7.cell (p := ⟨w.heap.size, 10, none⟩) (by show w.heap.size < W6.heap.size; omega)).trans c7
  replace f7 : v7.frozen? ⟨w.heap.size, 10, none⟩ = false := by rw [World.frozen?_of_block (b7.block w.heap.size (by omega))]; exact f7
  replace kb := ((kb.below b7 (by omega)).set 10 (.slice yk.a yk.n yk.c))
  simp only [List.set_cons_zero, List.set_cons_succ] at kb
  replace kr := (kr.below b7 (by omega)).other (g' := w.heap.size) (i := 10) (v := .slice yk.a yk.n yk.c) (by omega)
  have K7 := (K6.trans (b7.mono (by omega))).setCell (p := ⟨w.heap.size, 10, none⟩) (Nat.le_refl _) (.slice yk.a yk.n yk.c)
  have m_k := n_k.set (p := ⟨w.heap.size, 10, none⟩) (v := .slice yk.a yk.n yk.c) (by show w.heap.size < w.heap.size + 2; omega)
  replace m_p := m_p.set (p := ⟨w.heap.size, 10, none⟩) (v := .slice yk.a yk.n yk.c) (by show w.heap.size < w.heap.size + 2; omega)
  replace m_t := m_t.set (p := ⟨w.heap.size, 10, none⟩) (v := .slice yk.a yk.n yk.c) (by show w.heap.size < w.heap.size + 2; omega)
  replace m_s := m_s.set (p := ⟨w.heap.size, 10, none⟩) (v := .slice yk.a yk.n yk.c) (by show w.heap.size < w.heap.size + 2; omega)
  replace m_r := m_r.set (p := ⟨w.heap.size, 10, none⟩) (v := .slice yk.a yk.n yk.c) (by show w.heap.size < w.heap.size + 2; omega)
  replace m_g := m_g.set (p := ⟨w.heap.size, 10, none⟩) (v := .slice yk.a yk.n yk.c) (by show w.heap.size < w.heap.size + 2; omega)
  replace m_e := m_e.set (p := ⟨w.heap.size, 10, none⟩) (v := .slice yk.a yk.n yk.c) (by show w.heap.size < w.heap.size + 2; omega)
  have hB7 : w.heap.size + 2 ≤ (v7.setCell ⟨w.heap.size, 10, none⟩ (.slice yk.a yk.n yk.c)).heap.size := by rw [size_set']; exact hB7'
  rw [q7]
  clear q7 hd' hyk n_k b7 D7 hB7' cs7 d
  obtain ⟨d, hd⟩ : ∃ d : Nat → Nat, d = d' := ⟨_, rfl⟩
  rw [← hd] at m_k m_p m_t m_s m_r m_g m_e
  clear hd d'
  obtain ⟨W7, e7⟩ : ∃ W, v7.setCell ⟨w.heap.size, 10, none⟩ (.slice yk.a yk.n yk.c) = W := ⟨_, rfl⟩
  rw [e7] at kb kr K7 hB7 m_p m_t m_s m_r m_g m_e m_k
  have E7 := hide e7
  clear e7
  go_upto_region 8 with fail
  rw [unhide E7]
  clear E7 c7 f7 K6 hB6
  have HC : Hid (CH W7 (w.heap.size + 2) d ⟨yp, yt, ys, yr, yg, ye, yk⟩ h) := ⟨m_p, m_t, m_s, m_r, m_g, m_e, m_k⟩
  have HK := hide K7
  have u0 := kb.cell 0
  have r0 := kr.cell 0
  have q0 := kr.free 0
  have u1 := kb.cell 1
  have r1 := kr.cell 1
  have q1 := kr.free 1
  have u2 := kb.cell 2
  have r2 := kr.cell 2
  have q2 := kr.free 2
  have u3 := kb.cell 3
  have r3 := kr.cell 3
  have q3 := kr.free 3
  have u4 := kb.cell 4
  have r4 := kr.cell 4
  have q4 := kr.free 4
  have u5 := kb.cell 5
  have r5 := kr.cell 5
  have q5 := kr.free 5
  have u6 := kb.cell 6
  have r6 := kr.cell 6
  have q6 := kr.free 6
  have u7 := kb.cell 7
  have r7 := kr.cell 7
  have q7 := kr.free 7
  have u8 := kb.cell 8
  have r8 := kr.cell 8
  have q8 := kr.free 8
  have u9 := kb.cell 9
  have r9 := kr.cell 9
  have q9 := kr.free 9
  have u10 := kb.cell 10
  have r10 := kr.cell 10
  have q10 := kr.free 10
  simp only [List.getElem?_cons_zero, List.getElem?_cons_succ] at u0 r0 u1 r1 u2 r2 u3 r3 u4 r4 u5 r5 u6 r6 u7 r7 u8 r8 u9 r9 u10 r10
  clear kb kr K7 hB7 m_p m_t m_s m_r m_g m_e m_k
  go_wp2_with fail
  refine bodyPost_ret (v := .agg #[.slice yp.a yp.n yp.c, .int .i64 h.n1, .int .i64 h.n2, .int .i64 h.n3, .slice yt.a yt.n yt.c, .int .i64 h.n5, .slice ys.a ys.n ys.c, .slice yr.a yr.n yr.c, .slice yg.a yg.n yg.c, .slice ye.a ye.n ye.c, .slice yk.a yk.n yk.c]) (by simp [results, Tryd.results51, go_sem, r0, r1, r2, r3, r4, r5, r6, r7, r8, r9, r10]) rfl ⟨⟨yp, yt, ys, yr, yg, ye, yk⟩, d, rfl, ?_, ?_⟩
  · repeat (refine CH.set ?_ (by show w.heap.size + 1 < w.heap.size + 2; omega))
    exact unhide HC
  · repeat (refine Below.setCell ?_ (by show w.heap.size ≤ w.heap.size + 1; omega) _)
    exact unhide HK

end Go.Proofs.YtbncoiljklagkaaDoor
