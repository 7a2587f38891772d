/- What is proved here: what the model's CommitHeader answers: the fault of a header or of a list, or the header with the commits of the list. -/
import Derived.Test.YtbncoiljklagkaaDoorJ23
import Derived.Test.YtbncoiljklagkaaDoorJ24
import Derived.Test.YtbncoiljklagkaaDoorJ19
import Derived.Test.YtbncoiljklagkaaDoorJ20
import Derived.Deep.RegionHeld3
import Derived.Deep.RegionLaw
import Derived.Deep.AppendLies
import Derived.Deep.RegionHeldLaw
namespace Go.Proofs.YtbncoiljklagkaaDoor
open Go.RowKit
set_option linter.unusedVariables false
set_option maxRecDepth 100000

set_option maxHeartbeats 8000000 in
theorem specCommitH_any (x : HS) (h : Hd) (a : Option Addr) (len cap : Nat) (zss : List (List Int)) (w : World) (o : HOk w x h) (nn : HNil w x) (m : HSm h) (lr : BsRow w a len zss) (ln : BsNil w a len) (hl : len ≤ 1048576) :
    Calls Tryd.prog 27 #[.agg (hvals x h), .slice a len cap] w fun e w' => ∃ (y : HS), e = .returned (.agg (hrvals (chCode h zss) y (chH h zss))) ∧ HOk w' y (chH h zss) ∧ Below w.heap.size w w' := by
  have HSMM := hide (chH_sm m zss)
  have kb := SBlk.new w (hvals x h) 30
  have bb := below_alloc w (.cells (hvals x h) 30)
  have zb : (w.alloc (.cells (hvals x h) 30)).heap.size = w.heap.size + 1 := by simp
  obtain ⟨Wa, ea⟩ : ∃ W, w.alloc (.cells (hvals x h) 30) = W := ⟨_, rfl⟩
  rw [ea] at kb bb zb
  have kr := SBlk.new Wa #[.int .i64 0, .slice none 0 0, .int .i64 0, .int .i64 0, .int .i64 0, .slice none 0 0, .int .i64 0, .slice none 0 0, .slice none 0 0, .slice none 0 0, .slice none 0 0, .slice none 0 0] 43
  replace kb := kb.next (.cells #[.int .i64 0, .slice none 0 0, .int .i64 0, .int .i64 0, .int .i64 0, .slice none 0 0, .int .i64 0, .slice none 0 0, .slice none 0 0, .slice none 0 0, .slice none 0 0, .slice none 0 0] 43)
  replace bb := bb.trans ((below_alloc Wa (.cells #[.int .i64 0, .slice none 0 0, .int .i64 0, .int .i64 0, .int .i64 0, .slice none 0 0, .int .i64 0, .slice none 0 0, .slice none 0 0, .slice none 0 0, .slice none 0 0, .slice none 0 0] 43)).mono bb.size)
  have z1 : (Wa.alloc (.cells #[.int .i64 0, .slice none 0 0, .int .i64 0, .int .i64 0, .int .i64 0, .slice none 0 0, .int .i64 0, .slice none 0 0, .slice none 0 0, .slice none 0 0, .slice none 0 0, .slice none 0 0] 43)).heap.size = w.heap.size + 2 := by simp; omega
  rw [zb] at kr
  obtain ⟨W1, eb⟩ : ∃ W, Wa.alloc (.cells #[.int .i64 0, .slice none 0 0, .int .i64 0, .int .i64 0, .int .i64 0, .slice none 0 0, .int .i64 0, .slice none 0 0, .slice none 0 0, .slice none 0 0, .slice none 0 0, .slice none 0 0] 43) = W := ⟨_, rfl⟩
  rw [eb] at kr kb bb z1
  have D1 := hide (l5Fault_any w.heap.size x h _ W1 kb (o.below bb (Nat.le_refl _)) m)
  have HRR := hide (fun (W : World) (hb : Below (w.heap.size + 2) W1 W) => hcells (kb.below hb (by omega)))
  have HKR := hide (fun (W : World) (hb : Below (w.heap.size + 2) W1 W) => kr.below hb (by omega))
  have HSG : Hid (∀ W, Below w.heap.size w W → Calls Tryd.prog 50 #[.slice a len cap] W fun e w' => e = .returned (.int .i64 (sgFlt zss)) ∧ Below W.heap.size W w') := fun W hb => (l5Signers_any a len cap zss W (lr.below hb (Nat.le_refl _)) hl).mono (by rintro e w' ⟨rfl, n, rfl⟩; exact ⟨rfl, below_drewN (Below.refl _ _) n⟩)
  have HHO : Hid (hdFlt h = 0 → ∀ W, Below w.heap.size w W → Calls Tryd.prog 37 #[.agg (hvals x h)] W fun e w' => ∃ a c, e = .returned (.slice a 32 c) ∧ w'.ownsRow W.heap.size 5 1 (.slice a 32 c) 32 ((hash0 h).map (Value.int .u8)) ∧ Below W.heap.size W w') := fun hf W hb => by
    refine (l5Hash_any x h W (o.below hb (Nat.le_refl _)) (nn.below hb (Nat.le_refl _)) hf).mono ?_
    rintro e w' ⟨dd, c, rfl, ho, hb'⟩
    exact ⟨_, c, rfl, ho, hb'⟩
  have HCP : Hid (∀ W, Below w.heap.size w W → Calls Tryd.prog 51 #[.agg (hvals x h)] W fun e w' => ∃ (y : HS) (d : Nat → Nat), e = .returned (.agg (hvals y h)) ∧ CH w' (W.heap.size + 2) d y h ∧ Below W.heap.size W w') := fun W hb => l5Copy_any x h W (o.below hb (Nat.le_refl _)) (nn.below hb (Nat.le_refl _)) m
  have HLR := hide (fun (W : World) (hb : Below w.heap.size w W) => And.intro (lr.below hb (Nat.le_refl _)) (ln.below hb (Nat.le_refl _)))
  have HLL := hide lr.1
  have HHR : Hid (hdFlt h = 0 → (hash0 h).length = 32 ∧ ∀ y ∈ hash0 h, 0 ≤ y ∧ y ≤ 255) := fun hf => ⟨hash0_len hf, hash0_rng hf o⟩
  have HB1 := hide bb
  have EA := hide ea
  have EB := hide eb
  clear ea eb o nn m lr ln bb zb kb kr
  have HC0 : Hid (chCode h zss = if hdFlt h = 0 then sgFlt zss else hdFlt h) := rfl
  have HH0 : Hid (chH h zss = if hdFlt h = 0 ∧ sgFlt zss = 0 then comH h zss else hd0) := rfl
  obtain ⟨q, eq⟩ : ∃ q, q = hdFlt h := ⟨_, rfl⟩
  obtain ⟨t, et⟩ : ∃ t, t = sgFlt zss := ⟨_, rfl⟩
  have EQ := hide eq
  have ET := hide et
  rw [← eq] at D1 HHO HC0 HH0 HHR
  rw [← et] at HSG HC0 HH0
  clear eq et
  generalize chCode h zss = CC at HC0 ⊢
  unfold hvals at EA HHO HCP ⊢
  go_enter Tryd.func27, Tryd.ntmps27
  go_upto_region 1 with fail
  rw [unhide EA, unhide EB]
  clear EA EB
  go_wp2_with fail
  refine (unhide D1).mono ?_
  rintro e w2' ⟨rfl, n2, rfl⟩
  obtain ⟨w2, ew2⟩ : ∃ W, W1.drewN n2 = W := ⟨_, rfl⟩
  have b2 : Below W1.heap.size W1 w2 := by rw [← ew2]; exact below_drewN (Below.refl _ _) n2
  rw [ew2]
  have K2 := hide ((unhide HB1).trans (b2.mono (unhide HB1).size))
  have L2 : Hid (Below (w.heap.size + 2) W1 w2) := b2.mono (by omega)
  clear b2 D1 ew2
  by_cases hq : q = 0
  · subst hq
    have D2 := hide ((unhide HSG) w2 (unhide K2))
    go_wp2_with fail
    refine (unhide D2).mono ?_
    rintro e w3 ⟨rfl, b3⟩
    have z2' : w.heap.size + 2 ≤ w2.heap.size := by rw [← z1]; exact (unhide L2).size
    have K3 := hide ((unhide K2).trans (b3.mono (unhide K2).size))
    have L3 : Hid (Below (w.heap.size + 2) W1 w3) := (unhide L2).trans (b3.mono z2')
    clear b3 D2
    by_cases ht : t = 0
    · subst ht
      have HCC : Hid (CC = 0) := unhide HC0
      have HHC : Hid (chH h zss = comH h zss) := by show _ = _; rw [unhide HH0, if_pos (by simp)]
      obtain ⟨hl32, hhr⟩ := (unhide HHR) (by first | exact rfl | trivial)
      have HL32 := hide hl32
      have HHRR := hide hhr
      have HHO2 := hide ((unhide HHO) (by first | exact rfl | trivial))
      clear hl32 hhr HHR HHO
      have z3 : w.heap.size + 2 ≤ w3.heap.size := by rw [← z1]; exact (unhide L3).size
      obtain ⟨x0, x1, x2, x3, x4, x5, x6, x7, x8, x9, x10⟩ := (unhide HRR) w3 (unhide L3)
      have D5 := hide ((unhide HCP) w3 (unhide K3))
      clear HCP HC0 HH0 HSG
      go_wp2_with fail
      refine (unhide D5).mono ?_
      rintro e w5 ⟨y, d, rfl, ch5, b5⟩
      have K5 := (unhide K3).trans (b5.mono (unhide K3).size)
      have L5 : Below (w.heap.size + 2) W1 w5 := (unhide L3).trans (b5.mono z3)
      have kr5 := (unhide HKR) w5 L5
      have z45 : w3.heap.size ≤ w5.heap.size := b5.size
      obtain ⟨d1, hd1⟩ : ∃ d1 : Nat → Nat, d1 = fun g => if w5.heap.size ≤ g then 9 else d g := ⟨_, rfl⟩
      have d9 : d1 w5.heap.size = 9 := by rw [hd1]; exact if_pos (Nat.le_refl _)
      replace ch5 := (ch5.recol (d' := d1) (fun g hg => by rw [hd1]; exact if_neg (by omega))).base (B' := w.heap.size + 2) (by omega)
      have ba := below_alloc w5 (.cells (hvals y h) 30)
      have ks6 := SBlk.new w5 (hvals y h) 30
      have kr6 := kr5.below ba kr5.lt
      have ch6 := ch5.below ba (Nat.le_refl _)
      have K6 := K5.trans (ba.mono K5.size)
      have L6 : Below (w.heap.size + 2) W1 (w5.alloc (.cells (hvals y h) 30)) := L5.trans (ba.mono (by omega))
      obtain ⟨W6, e6⟩ : ∃ W, w5.alloc (.cells (hvals y h) 30) = W := ⟨_, rfl⟩
      rw [e6] at ks6 kr6 ch6 K6 L6
      have E6 := hide e6
      obtain ⟨gs, egs⟩ : ∃ g, g = w5.heap.size := ⟨_, rfl⟩
      have EGS := hide egs
      rw [← egs] at ks6 d9
      have zg : w.heap.size + 2 ≤ gs := by omega
      clear egs e6 hd1 ba kr5 ch5 K5 L5 b5 x0 x1 x2 x3 x4 x5 x6 x7 x8 x9 x10 D5
      unfold hvals at E6 ks6
      have s10 := ks6.cell 10
      have f10 := ks6.free 10
      simp only [List.getElem?_cons_zero, List.getElem?_cons_succ] at s10
      have ks7 := ks6.set 10 (.slice none 0 0)
      simp only [List.set_cons_zero, List.set_cons_succ] at ks7
      have kr7 := kr6.other (g' := gs) (i := 10) (v := .slice none 0 0) (by omega)
      have K7 := K6.setCell (p := ⟨gs, 10, none⟩) (by show w.heap.size ≤ gs; omega) (.slice none 0 0)
      have L7 := L6.setCell (p := ⟨gs, 10, none⟩) (by show w.heap.size + 2 ≤ gs; omega) (.slice none 0 0)
      have ch7' := ch6.set9 (p := ⟨gs, 10, none⟩) (v := .slice none 0 0) d9
      obtain ⟨W7, e7⟩ : ∃ W, W6.setCell ⟨gs, 10, none⟩ (.slice none 0 0) = W := ⟨_, rfl⟩
      rw [e7] at ks7 kr7 K7 L7 ch7'
      have E7 := hide e7
      go_upto_region 8 with fail
      rw [unhide E6]
      rw [← unhide EGS]
      go_upto_region 9 with fail
      try rw [unhide E7]
      have hg7 : gs < W7.heap.size := ks7.lt
      have HKS7 := hide ks7
      have HKR7 := hide kr7
      have HCH7 := hide ch7'
      have HK7 := hide K7
      obtain ⟨x0, x1, x2, x3, x4, x5, x6, x7, x8, x9, x10⟩ := (unhide HRR) W7 L7
      have D8 := hide ((unhide HHO2) W7 K7)
      clear ks6 kr6 ch6 K6 L6 ks7 kr7 K7 L7 ch7' e7 E6 E7 EGS s10 f10 HHO2
      go_wp2_with fail
      refine (unhide D8).mono ?_
      rintro e w8 ⟨a4, c4, rfl, o4, b8⟩
      obtain ⟨d2, hd2⟩ : ∃ d2 : Nat → Nat, d2 = fun g => if W7.heap.size ≤ g then 12 else d1 g := ⟨_, rfl⟩
      have hdg : ∀ g, g < W7.heap.size → d2 g = d1 g := fun g hg => by rw [hd2]; exact if_neg (by omega)
      have hh8 : CB w8 (w.heap.size + 2) d2 12 ⟨a4, 32, c4⟩ (hash0 h) := by rw [hd2]; exact CB.new (unhide HL32).symm (unhide HHRR) o4 (by omega)
      have ch8 := ((unhide HCH7).recol hdg).below b8 (Nat.le_refl _)
      have H0 : Hid (LoopInv w gs y h (comL h zss) (hash0 h) a4 c4 0 w8 ⟨none, 0, 0⟩ d2) := ⟨(unhide HKS7).below b8 (unhide HKS7).lt, (unhide HKR7).below b8 (unhide HKR7).lt, ⟨ch8.p, ch8.t, ch8.s, ch8.r, ch8.g, ch8.e, CS.nil _ _ _ _ _⟩, hh8, (hdg gs hg7).trans d9, (unhide HK7).trans (b8.mono (unhide HK7).size)⟩
      clear x0 x1 x2 x3 x4 x5 x6 x7 x8 x9 x10 D8 hd2 hdg hh8 ch8 HKS7 HKR7 HCH7 HK7 b8 o4 d9
      go_wp2_with fail
      obtain ⟨i0, hi, hz0, hz1, hz2⟩ := info_parts infoSB
      go_loopw [9] (fun i wr => ∃ (k : Nat) (s : Sl) (d : Nat → Nat), k ≤ len ∧ i = .int .i64 k ∧ LoopInv w gs y h (comL h zss) (hash0 h) a4 c4 k wr s d) (fun i _ => len - (intOf i).toNat)
      case atStart => exact ⟨0, _, _, Nat.zero_le _, rfl, unhide H0⟩
      case round =>
        obtain ⟨k, s, d, hk, rfl, I⟩ := hrel
        clear H0
        by_cases hlt : k < len
        · obtain ⟨z, hit⟩ : ∃ z, zss[k]? = some z := ⟨_, List.getElem?_eq_getElem (by rw [unhide HLL]; exact hlt)⟩
          obtain ⟨hrow, hnil⟩ := (unhide HLR) wr I.old
          obtain ⟨b, off, rfl, _, hat⟩ := hrow.at (by omega)
          obtain ⟨s1, n1, d1', c0, r1⟩ := hat k z hit
          obtain ⟨s1', n1', d1'', c0', hnn⟩ := hnil b off rfl k hlt
          rw [c0] at c0'
          simp only [Option.some.injEq, Value.slice.injEq] at c0'
          obtain ⟨rfl, rfl, rfl⟩ := c0'
          have hz4 : z.length = 4 := (sg_four (unhide ET).symm).2 z (List.mem_of_getElem? hit)
          have hn1 : n1 = 4 := by have := r1.1; omega
          subst hn1
          have zr : w.heap.size + 2 ≤ wr.heap.size := by have := I.blk.lt; omega
          have hcl : (comL h zss).length = len := by rw [comL_length]; exact unhide HLL
          have HCO : Hid (∀ W, Below wr.heap.size wr W → Calls Tryd.prog 48 #[.slice s1 4 d1', .slice a4 32 c4] W fun e w' => ∃ (a1 : Option Addr) (c1 : Nat) (dd : Nat → Nat) (es : List Sl), e = .returned (.slice a1 8 c1) ∧ w'.cell? ⟨gs, 10, none⟩ = some (.slice s.a s.n s.c) ∧ w'.ownsRow (w.heap.size + 2) 22 1 (.slice s.a s.n s.c) s.n (es.map Sl.v) ∧ Hid (LoopInv w gs y h (comL h zss) (hash0 h) a4 c4 k w' s dd ∧ CB w' (w.heap.size + 2) dd (8 + 3 * k) ⟨a1, 8, c1⟩ (z ++ markL z (hash0 h)) ∧ es.length = ((comL h zss).take k).length ∧ (∀ g, (Value.slice s.a s.n s.c).ownBlock = some g → dd g = 6) ∧ (∀ (i : Nat) (e : Sl) (z : List Int), es[i]? = some e → ((comL h zss).take k)[i]? = some z → CB w' (w.heap.size + 2) dd (8 + 3 * i) e z)) ∧ w.heap.size + 2 ≤ w'.heap.size) := fun W hb => by
            have IW := I.below hb
            have rz := r1.below hb (Nat.le_refl _)
            have hf0 : hdFlt h = 0 := (unhide EQ).symm
            have e5 := com_eight hf0 hz4
            refine (l6Commit_any s1 4 d1' a4 32 c4 z (hash0 h) W rz IW.hash.brow hnn (fun e => by subst e; exact (own_cap IW.hash.own) rfl) (by omega) (by omega)).mono ?_
            rintro e w' ⟨a1, c1, rfl, ho, hb'⟩
            have zW : w.heap.size + 2 ≤ W.heap.size := Nat.le_trans zr hb.size
            obtain ⟨I2, e2⟩ := IW.new hb' zW e5 (append_rng rz.2.1 (markL_rng rz.2.1 (unhide HHRR))) ho
            obtain ⟨q1, es, q2, q3, q4, q5⟩ := I2.hd.k
            exact ⟨a1, c1, _, es, rfl, I2.blk.cell 10, q3, ⟨I2, e2, q2, q4, q5⟩, Nat.le_trans zW hb'.size⟩
          have HST := hide (fun (W1 W2 WA : World) (dd : Nat → Nat) (es : List Sl) (a1 : Option Addr) (c1 g2 cap2 : Nat) (I1 : LoopInv w gs y h (comL h zss) (hash0 h) a4 c4 k W1 s dd) (e1 : CB W1 (w.heap.size + 2) dd (8 + 3 * k) ⟨a1, 8, c1⟩ (z ++ markL z (hash0 h))) (h2) (h3) (h4) (h5) (bA : Below W1.heap.size W1 WA) (o2) (hg) (hat) => LoopInv.step (W2 := W2) (es := es) (g2 := g2) (cap2 := cap2) I1 zg (by omega) (comL_snoc h zss k z hit) e1 h2 h3 h4 h5 bA o2 hg hat)
          have c10 := I.blk.cell 10
          simp only [List.getElem?_cons_zero, List.getElem?_cons_succ] at c10
          have hsn : s.n ≤ 1048576 := by have := I.hd.k.1; rw [this, List.length_take]; omega
          have k1 : (0 : Int) ≤ (k : Int) := by omega
          have k2 : (k : Int) < (len : Int) := by omega
          clear I hrow hnil hat r1 hnn hz4 hcl hit
          go_upto_region 13 with fail
          go_region_law (first
            | (go_simp; go_at_call 48; refine ((unhide HCO) _ (by first | exact (Below.refl wr.heap.size wr).drew | exact below_drewN (Below.refl wr.heap.size wr) _)).mono ?_; rintro e W1 ⟨a1, c1, dd, es, rfl, m10, q3, HQ, zW1⟩; have m10a : ∀ o, (W1.alloc o).cell? ⟨gs, 10, none⟩ = some (.slice s.a s.n s.c) := (fun o => ((below_alloc W1 o).cell (lt_of_cell m10)).trans m10))
            | (refine step_append_lies _ (by rfl) (.tmp 33) (.tmp 40) 23 (by rfl) (w.heap.size + 2) 22 i0 (.slice none 0 0) 1 24 Tryd.underlying23 hi hz0 hz1 hz2 rfl (by decide) _ _ _ (by rfl) (by exact q3.alloc _) ⟨W1.heap.size, 0, none⟩ 1 1 [.slice a1 8 c1] (by rfl) rfl (by exact one_at _ _ _) (by simp [Value.oneCell']) (by omega) (by unfold maxLen; omega) (by omega) (by simp; omega) _ rfl ?_; intro g2 cap2 W2 hown2 hgrow2 hat2 hlt2; obtain ⟨⟨u10, hu10⟩, hf10, d2, I2⟩ := (unhide HST) W1 W2 _ dd es a1 c1 g2 cap2 (unhide HQ).1 (unhide HQ).2.1 (unhide HQ).2.2.1 q3 (unhide HQ).2.2.2.1 (unhide HQ).2.2.2.2 (below_alloc W1 _) hown2 hgrow2 hat2; have HI2 := hide I2; clear I2 hown2 hgrow2 hat2 hlt2))
          all_goals
            clear HQ q3 m10 m10a hu10 hf10 HCO HST
            go_wp2_with fail
            go_roundw
            case rel => exact ⟨k + 1, _, d2, by omega, by go_num, unhide HI2⟩
            case measure => simp [intOf]; omega
        · obtain rfl : k = len := by omega
          have hct : (comL h zss).take k = comL h zss := List.take_of_length_le (by rw [comL_length, unhide HLL]; exact Nat.le_refl _)
          have ch := I.hd
          rw [hct] at ch
          have HCH : Hid (CH wr (w.heap.size + 2) d ⟨y.p, y.t, y.s, y.r, y.g, y.e, s⟩ (comH h zss)) := ch
          have HOLD := hide I.old
          obtain ⟨t0, t1, t2, t3, t4, t5, t6, t7, t8, t9, t10⟩ : wr.cell? ⟨gs, 0, none⟩ = _ ∧ wr.cell? ⟨gs, 1, none⟩ = _ ∧ wr.cell? ⟨gs, 2, none⟩ = _ ∧ wr.cell? ⟨gs, 3, none⟩ = _ ∧ wr.cell? ⟨gs, 4, none⟩ = _ ∧ wr.cell? ⟨gs, 5, none⟩ = _ ∧ wr.cell? ⟨gs, 6, none⟩ = _ ∧ wr.cell? ⟨gs, 7, none⟩ = _ ∧ wr.cell? ⟨gs, 8, none⟩ = _ ∧ wr.cell? ⟨gs, 9, none⟩ = _ ∧ wr.cell? ⟨gs, 10, none⟩ = _ := ⟨I.blk.cell 0, I.blk.cell 1, I.blk.cell 2, I.blk.cell 3, I.blk.cell 4, I.blk.cell 5, I.blk.cell 6, I.blk.cell 7, I.blk.cell 8, I.blk.cell 9, I.blk.cell 10⟩
          obtain ⟨r0, r1, r2, r3, r4, r5, r6, r7, r8, r9, r10, r11⟩ : wr.cell? ⟨w.heap.size + 1, 0, none⟩ = _ ∧ wr.cell? ⟨w.heap.size + 1, 1, none⟩ = _ ∧ wr.cell? ⟨w.heap.size + 1, 2, none⟩ = _ ∧ wr.cell? ⟨w.heap.size + 1, 3, none⟩ = _ ∧ wr.cell? ⟨w.heap.size + 1, 4, none⟩ = _ ∧ wr.cell? ⟨w.heap.size + 1, 5, none⟩ = _ ∧ wr.cell? ⟨w.heap.size + 1, 6, none⟩ = _ ∧ wr.cell? ⟨w.heap.size + 1, 7, none⟩ = _ ∧ wr.cell? ⟨w.heap.size + 1, 8, none⟩ = _ ∧ wr.cell? ⟨w.heap.size + 1, 9, none⟩ = _ ∧ wr.cell? ⟨w.heap.size + 1, 10, none⟩ = _ ∧ wr.cell? ⟨w.heap.size + 1, 11, none⟩ = _ := ⟨I.res.cell 0, I.res.cell 1, I.res.cell 2, I.res.cell 3, I.res.cell 4, I.res.cell 5, I.res.cell 6, I.res.cell 7, I.res.cell 8, I.res.cell 9, I.res.cell 10, I.res.cell 11⟩
          obtain ⟨g0, g1, g2, g3, g4, g5, g6, g7, g8, g9, g10, g11⟩ : wr.frozen? ⟨w.heap.size + 1, 0, none⟩ = false ∧ wr.frozen? ⟨w.heap.size + 1, 1, none⟩ = false ∧ wr.frozen? ⟨w.heap.size + 1, 2, none⟩ = false ∧ wr.frozen? ⟨w.heap.size + 1, 3, none⟩ = false ∧ wr.frozen? ⟨w.heap.size + 1, 4, none⟩ = false ∧ wr.frozen? ⟨w.heap.size + 1, 5, none⟩ = false ∧ wr.frozen? ⟨w.heap.size + 1, 6, none⟩ = false ∧ wr.frozen? ⟨w.heap.size + 1, 7, none⟩ = false ∧ wr.frozen? ⟨w.heap.size + 1, 8, none⟩ = false ∧ wr.frozen? ⟨w.heap.size + 1, 9, none⟩ = false ∧ wr.frozen? ⟨w.heap.size + 1, 10, none⟩ = false ∧ wr.frozen? ⟨w.heap.size + 1, 11, none⟩ = false := ⟨I.res.free 0, I.res.free 1, I.res.free 2, I.res.free 3, I.res.free 4, I.res.free 5, I.res.free 6, I.res.free 7, I.res.free 8, I.res.free 9, I.res.free 10, I.res.free 11⟩
          simp only [List.getElem?_cons_zero, List.getElem?_cons_succ] at t0 t1 t2 t3 t4 t5 t6 t7 t8 t9 t10 r0 r1 r2 r3 r4 r5 r6 r7 r8 r9 r10 r11
          clear I ch hct
          go_wp2_with fail
          refine bodyPost_ret (v := .agg #[.int .i64 0, .slice y.p.a y.p.n y.p.c, .int .i64 h.n1, .int .i64 h.n2, .int .i64 h.n3, .slice y.t.a y.t.n y.t.c, .int .i64 h.n5, .slice y.s.a y.s.n y.s.c, .slice y.r.a y.r.n y.r.c, .slice y.g.a y.g.n y.g.c, .slice y.e.a y.e.n y.e.c, .slice s.a s.n s.c]) (by simp [results, Tryd.results27, go_sem, r0, r1, r2, r3, r4, r5, r6, r7, r8, r9, r10, r11]) rfl ⟨⟨y.p, y.t, y.s, y.r, y.g, y.e, s⟩, by rw [unhide HHC, unhide HCC]; rfl, ?_, ?_⟩
          · have hsm := unhide HSMM
            rw [unhide HHC] at hsm ⊢
            refine CH.hok (B := w.heap.size + 2) (d := d) ?_ hsm
            repeat (refine CH.set ?_ (by show w.heap.size + 1 < w.heap.size + 2; omega))
            exact unhide HCH
          · repeat (refine Below.setCell ?_ (by show w.heap.size ≤ w.heap.size + 1; omega) _)
            exact unhide HOLD
    · have hne : (t != 0) = true := by simp [ht]
      have HCC : Hid (CC = t) := unhide HC0
      have HHC : Hid (chH h zss = hd0) := by show _ = _; rw [unhide HH0, if_neg (fun q => ht q.2)]
      have kr := (unhide HKR) w3 (unhide L3)
      obtain ⟨r0, r1, r2, r3, r4, r5, r6, r7, r8, r9, r10, r11⟩ : w3.cell? ⟨w.heap.size + 1, 0, none⟩ = _ ∧ w3.cell? ⟨w.heap.size + 1, 1, none⟩ = _ ∧ w3.cell? ⟨w.heap.size + 1, 2, none⟩ = _ ∧ w3.cell? ⟨w.heap.size + 1, 3, none⟩ = _ ∧ w3.cell? ⟨w.heap.size + 1, 4, none⟩ = _ ∧ w3.cell? ⟨w.heap.size + 1, 5, none⟩ = _ ∧ w3.cell? ⟨w.heap.size + 1, 6, none⟩ = _ ∧ w3.cell? ⟨w.heap.size + 1, 7, none⟩ = _ ∧ w3.cell? ⟨w.heap.size + 1, 8, none⟩ = _ ∧ w3.cell? ⟨w.heap.size + 1, 9, none⟩ = _ ∧ w3.cell? ⟨w.heap.size + 1, 10, none⟩ = _ ∧ w3.cell? ⟨w.heap.size + 1, 11, none⟩ = _ := ⟨kr.cell 0, kr.cell 1, kr.cell 2, kr.cell 3, kr.cell 4, kr.cell 5, kr.cell 6, kr.cell 7, kr.cell 8, kr.cell 9, kr.cell 10, kr.cell 11⟩
      obtain ⟨g0, g1, g2, g3, g4, g5, g6, g7, g8, g9, g10, g11⟩ : w3.frozen? ⟨w.heap.size + 1, 0, none⟩ = false ∧ w3.frozen? ⟨w.heap.size + 1, 1, none⟩ = false ∧ w3.frozen? ⟨w.heap.size + 1, 2, none⟩ = false ∧ w3.frozen? ⟨w.heap.size + 1, 3, none⟩ = false ∧ w3.frozen? ⟨w.heap.size + 1, 4, none⟩ = false ∧ w3.frozen? ⟨w.heap.size + 1, 5, none⟩ = false ∧ w3.frozen? ⟨w.heap.size + 1, 6, none⟩ = false ∧ w3.frozen? ⟨w.heap.size + 1, 7, none⟩ = false ∧ w3.frozen? ⟨w.heap.size + 1, 8, none⟩ = false ∧ w3.frozen? ⟨w.heap.size + 1, 9, none⟩ = false ∧ w3.frozen? ⟨w.heap.size + 1, 10, none⟩ = false ∧ w3.frozen? ⟨w.heap.size + 1, 11, none⟩ = false := ⟨kr.free 0, kr.free 1, kr.free 2, kr.free 3, kr.free 4, kr.free 5, kr.free 6, kr.free 7, kr.free 8, kr.free 9, kr.free 10, kr.free 11⟩
      simp only [List.getElem?_cons_zero, List.getElem?_cons_succ] at r0 r1 r2 r3 r4 r5 r6 r7 r8 r9 r10 r11
      clear ht kr HC0 HH0 HSG HHO HCP
      go_wp2_with fail
      refine bodyPost_ret (v := .agg #[.int .i64 t, .slice none 0 0, .int .i64 0, .int .i64 0, .int .i64 0, .slice none 0 0, .int .i64 0, .slice none 0 0, .slice none 0 0, .slice none 0 0, .slice none 0 0, .slice none 0 0]) (by simp [results, Tryd.results27, go_sem, r0, r1, r2, r3, r4, r5, r6, r7, r8, r9, r10, r11]) rfl ⟨hs0, by rw [unhide HHC, unhide HCC]; rfl, by rw [unhide HHC]; exact (ch0 _ 0 (fun _ => 0)).hok hsm0', ?_⟩
      repeat (refine Below.setCell ?_ (by show w.heap.size ≤ w.heap.size + 1; omega) _)
      exact unhide K3
  · have hne : (q != 0) = true := by simp [hq]
    have HCC : Hid (CC = q) := by show _ = _; rw [unhide HC0, if_neg hq]
    have HHC : Hid (chH h zss = hd0) := by show _ = _; rw [unhide HH0, if_neg (fun z => hq z.1)]
    have kr := (unhide HKR) w2 (unhide L2)
    obtain ⟨r0, r1, r2, r3, r4, r5, r6, r7, r8, r9, r10, r11⟩ : w2.cell? ⟨w.heap.size + 1, 0, none⟩ = _ ∧ w2.cell? ⟨w.heap.size + 1, 1, none⟩ = _ ∧ w2.cell? ⟨w.heap.size + 1, 2, none⟩ = _ ∧ w2.cell? ⟨w.heap.size + 1, 3, none⟩ = _ ∧ w2.cell? ⟨w.heap.size + 1, 4, none⟩ = _ ∧ w2.cell? ⟨w.heap.size + 1, 5, none⟩ = _ ∧ w2.cell? ⟨w.heap.size + 1, 6, none⟩ = _ ∧ w2.cell? ⟨w.heap.size + 1, 7, none⟩ = _ ∧ w2.cell? ⟨w.heap.size + 1, 8, none⟩ = _ ∧ w2.cell? ⟨w.heap.size + 1, 9, none⟩ = _ ∧ w2.cell? ⟨w.heap.size + 1, 10, none⟩ = _ ∧ w2.cell? ⟨w.heap.size + 1, 11, none⟩ = _ := ⟨kr.cell 0, kr.cell 1, kr.cell 2, kr.cell 3, kr.cell 4, kr.cell 5, kr.cell 6, kr.cell 7, kr.cell 8, kr.cell 9, kr.cell 10, kr.cell 11⟩
    obtain ⟨g0, g1, g2, g3, g4, g5, g6, g7, g8, g9, g10, g11⟩ : w2.frozen? ⟨w.heap.size + 1, 0, none⟩ = false ∧ w2.frozen? ⟨w.heap.size + 1, 1, none⟩ = false ∧ w2.frozen? ⟨w.heap.size + 1, 2, none⟩ = false ∧ w2.frozen? ⟨w.heap.size + 1, 3, none⟩ = false ∧ w2.frozen? ⟨w.heap.size + 1, 4, none⟩ = false ∧ w2.frozen? ⟨w.heap.size + 1, 5, none⟩ = false ∧ w2.frozen? ⟨w.heap.size + 1, 6, none⟩ = false ∧ w2.frozen? ⟨w.heap.size + 1, 7, none⟩ = false ∧ w2.frozen? ⟨w.heap.size + 1, 8, none⟩ = false ∧ w2.frozen? ⟨w.heap.size + 1, 9, none⟩ = false ∧ w2.frozen? ⟨w.heap.size + 1, 10, none⟩ = false ∧ w2.frozen? ⟨w.heap.size + 1, 11, none⟩ = false := ⟨kr.free 0, kr.free 1, kr.free 2, kr.free 3, kr.free 4, kr.free 5, kr.free 6, kr.free 7, kr.free 8, kr.free 9, kr.free 10, kr.free 11⟩
    simp only [List.getElem?_cons_zero, List.getElem?_cons_succ] at r0 r1 r2 r3 r4 r5 r6 r7 r8 r9 r10 r11
    clear hq kr HC0 HH0 HSG HHO HCP
    go_wp2_with fail
    refine bodyPost_ret (v := .agg #[.int .i64 q, .slice none 0 0, .int .i64 0, .int .i64 0, .int .i64 0, .slice none 0 0, .int .i64 0, .slice none 0 0, .slice none 0 0, .slice none 0 0, .slice none 0 0, .slice none 0 0]) (by simp [results, Tryd.results27, go_sem, r0, r1, r2, r3, r4, r5, r6, r7, r8, r9, r10, r11]) rfl ⟨hs0, by rw [unhide HHC, unhide HCC]; rfl, by rw [unhide HHC]; exact (ch0 _ 0 (fun _ => 0)).hok hsm0', ?_⟩
    repeat (refine Below.setCell ?_ (by show w.heap.size ≤ w.heap.size + 1; omega) _)
    exact unhide K2


end Go.Proofs.YtbncoiljklagkaaDoor
