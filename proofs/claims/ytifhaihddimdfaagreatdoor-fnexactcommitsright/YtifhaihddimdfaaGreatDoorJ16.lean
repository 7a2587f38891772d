/- What is proved here: what the program's CommitOf answers: the code, and a commit in new memory. -/
import Derived.Test.YtifhaihddimdfaaGreatDoorJ15
import Derived.Test.YtifhaihddimdfaaGreatDoorJ13
import Derived.Test.YtifhaihddimdfaaGreatDoorJ8
import Derived.Deep.RegionHeld3
import Derived.Test.YtifhaihddimdfaaGreatDoorJ4
import Derived.Test.YtifhaihddimdfaaGreatDoorJ11
import Derived.Maps.AppendAt
import Derived.Test.YtifhaihddimdfaaGreatDoorJ5
namespace Go.Proofs.YtifhaihddimdfaaGreatDoor
open Go.RowKit
set_option linter.unusedVariables false
set_option maxRecDepth 100000

set_option maxRecDepth 100000 in
set_option maxHeartbeats 2000000 in
theorem implCommit_any (a : Option Addr) (n c : Nat) (b : Option Addr) (m d : Nat) (xs ys : List Int) (w : World) (h : BRow w a n xs) (k : BRow w b m ys) (hc : a = none → c = 0) (hd : b = none → d = 0) (hn : n ≤ 1048576) (hm : m ≤ 1048576) (hv : Laid w) :
    Calls Tryz.prog 21 #[.slice a n c, .slice b m d] w fun e w' => ∃ a' c', e = .returned (.agg #[.int .i64 (slCode xs ys), .slice a' (cmBytes xs ys).length c']) ∧
      w'.ownsRow w.heap.size 5 1 (.slice a' (cmBytes xs ys).length c') (cmBytes xs ys).length ((cmBytes xs ys).map (Value.int .u8)) ∧ Below w.heap.size w w' := by
  have hxl := h.1
  have hyl := k.1
  have HA := hide (fun W => isAddr_any a n c W)
  have HH := hide (fun W => isHash_any b m d W)
  have kr := SBlk.new w #[.int .i64 0, .slice none 0 0] 33
  have b1 := below_alloc w (.cells #[.int .i64 0, .slice none 0 0] 33)
  have z1 : (w.alloc (.cells #[.int .i64 0, .slice none 0 0] 33)).heap.size = w.heap.size + 1 := by simp
  obtain ⟨W1, e1⟩ : ∃ W1, w.alloc (.cells #[.int .i64 0, .slice none 0 0] 33) = W1 := ⟨_, rfl⟩
  rw [e1] at kr b1 z1
  have r0 := kr.cell 0
  have r1 := kr.cell 1
  have f0 := kr.free 0
  have f1 := kr.free 1
  simp only [List.getElem?_cons_zero, List.getElem?_cons_succ] at r0 r1
  have HB1 := hide b1
  have E1 := hide e1
  clear e1
  by_cases h1 : n = 4
  · by_cases h2 : m = 32
    · subst h1 h2
      have e1 : slCode xs ys = 0 := if_pos ⟨hxl, hyl⟩
      have e2 : cmBytes xs ys = xs ++ markL xs ys := if_pos ⟨hxl, hyl⟩
      have e3 : (xs ++ markL xs ys).length = 8 := by rw [List.length_append, mark4 hxl hyl, hxl]
      have HMR := hide (markL_rng h.2.1 k.2.1)
      have bo := below_alloc W1 (.cells #[.int .u8 1] 5)
      have zo : (W1.alloc (.cells #[.int .u8 1] 5)).heap.size = w.heap.size + 2 := by simp; omega
      have ro : BRow (W1.alloc (.cells #[.int .u8 1] 5)) (some ⟨w.heap.size + 1, 0, none⟩) 1 [1] := ⟨rfl, fun x hx => by simp at hx; omega, fun e => (by cases e), fun y hy j hj => by
        cases hy
        obtain rfl : j = 0 := by omega
        rw [add_none, Nat.zero_add, ← z1, World.cell?_alloc_new]
        rfl⟩
      obtain ⟨W2, e4⟩ : ∃ W2, W1.alloc (.cells #[.int .u8 1] 5) = W2 := ⟨_, rfl⟩
      rw [e4] at bo zo ro
      have b2 := b1.trans (bo.mono b1.size)
      have z3 : (W2.alloc (.cells #[.slice a 4 c, .slice (some ⟨w.heap.size + 1, 0, none⟩) 1 1, .slice b 32 d] 22)).heap.size = w.heap.size + 3 := by simp; omega
      have D : Hid (Calls Tryz.prog 43 #[.slice (some ⟨w.heap.size + 2, 0, none⟩) 3 3] (W2.alloc (.cells #[.slice a 4 c, .slice (some ⟨w.heap.size + 1, 0, none⟩) 1 1, .slice b 32 d] 22)) fun e w' => ∃ g' c', e = .returned (.slice (some ⟨g', 0, none⟩) 4 c') ∧ BRow w' (some ⟨g', 0, none⟩) 4 (markL xs ys) ∧ Below (w.heap.size + 2) W2 w') := by
        have b3 := below_alloc W2 (.cells #[.slice a 4 c, .slice (some ⟨w.heap.size + 1, 0, none⟩) 1 1, .slice b 32 d] 22)
        obtain ⟨R, N⟩ := three_row W2 a 4 c xs (some ⟨w.heap.size + 1, 0, none⟩) 1 1 [1] b 32 d ys 22 (h.below b2 (Nat.le_refl _)) ro (k.below b2 (Nat.le_refl _)) hn (by omega) hm hc (fun e => by cases e) hd
        rw [zo] at R N
        have ef : [xs, [1], ys].flatten = xs ++ 1 :: ys := by simp
        have K := markOf_any _ 3 3 [xs, [1], ys] _ R N (by omega) (by rw [ef]; simp; omega) (by rw [ef]; simp; omega) ((hv.below b2 (Nat.le_refl _)).below b3 (Nat.le_refl _))
        rw [ef] at K
        rw [z3] at K
        refine K.mono ?_
        rintro e w' ⟨a', c', rfl, ho, hb⟩
        obtain ⟨g', c'', he⟩ := own_some ho (by omega)
        simp only [Value.slice.injEq] at he
        obtain ⟨rfl, -, rfl⟩ := he
        exact ⟨g', c', rfl, BRow.own ho (unhide HMR), by rw [zo] at b3; exact b3.trans (hb.mono (by omega))⟩
      have DC : Hid (∀ (W' : World) (g' c' : Nat), Below (w.heap.size + 2) W2 W' → BRow W' (some ⟨g', 0, none⟩) 4 (markL xs ys) → Calls Tryz.prog 62 #[.slice (some ⟨W'.heap.size, 0, none⟩) 2 2] (W'.alloc (.cells #[.slice a 4 c, .slice (some ⟨g', 0, none⟩) 4 c'] 22)) fun e w' => ∃ a' c'', e = .returned (.slice a' 8 c'') ∧ w'.ownsRow (w.heap.size + 2) 5 1 (.slice a' 8 c'') 8 ((xs ++ markL xs ys).map (Value.int .u8)) ∧ Below (w.heap.size + 2) W2 w') := fun W' g' c' hb hr => by
        have b4 := below_alloc W' (.cells #[.slice a 4 c, .slice (some ⟨g', 0, none⟩) 4 c'] 22)
        have bw : Below w.heap.size w W' := b2.trans (hb.mono (by omega))
        obtain ⟨R, N⟩ := two_row W' a 4 c xs (some ⟨g', 0, none⟩) 4 c' (markL xs ys) 22 (h.below bw (Nat.le_refl _)) hr hn (by omega) hc (fun e => by cases e)
        have ef : [xs, markL xs ys].flatten = xs ++ markL xs ys := by simp
        have K := concat_any _ 2 2 [xs, markL xs ys] _ R N (by omega) (by rw [ef, e3]; omega)
        rw [ef, e3] at K
        refine K.mono ?_
        rintro e w' ⟨a', c'', rfl, ho, hb'⟩
        have hz := hb.size
        exact ⟨a', c'', rfl, ownsRow_base ho (by have := b4.size; omega), hb.trans ((b4.trans (hb'.mono b4.size)).mono (by omega))⟩
      have HK := hide (fun (W' : World) (hb : Below (w.heap.size + 2) W2 W') => (kr.below bo kr.lt).below hb (by omega))
      have HB2 := hide b2
      have E4 := hide e4
      rw [e1, e2, e3]
      clear e1 e2 e3 h k hv hxl hyl hc hd kr r0 r1 f0 f1 b1 z3 bo ro b2 HMR e4
      generalize xs ++ markL xs ys = SL at DC ⊢
      generalize markL xs ys = ML at D DC
      go_enter Tryz.func21, Tryz.ntmps21
      go_upto_region 1 with fail
      rw [unhide E1]
      clear E1
      go_wp2_with fail
      refine ((unhide HA) _).mono ?_
      rintro e w' ⟨rfl, rfl⟩
      go_wp2_with fail
      refine ((unhide HH) _).mono ?_
      rintro e w' ⟨rfl, rfl⟩
      go_wp2_with fail
      rw [unhide E4]
      refine (unhide D).mono ?_
      rintro e w3 ⟨g3, c3, rfl, r3, b3⟩
      have D3 := hide ((unhide DC) w3 g3 c3 b3 r3)
      have HB3 := hide b3
      clear r3 b3 D DC
      go_wp2_with fail
      refine (unhide D3).mono ?_
      rintro e w4 ⟨a4, c4, rfl, o4, b4⟩
      have kr4 := (unhide HK) w4 b4
      have r0 := kr4.cell 0
      have r1 := kr4.cell 1
      have f0 := kr4.free 0
      have f1 := kr4.free 1
      simp only [List.getElem?_cons_zero, List.getElem?_cons_succ] at r0 r1
      have HB4 := hide ((unhide HB2).trans (b4.mono (by omega)))
      have HO4 := hide o4
      clear kr4 o4 b4 D3 HK HB3
      go_wp2_with fail
      refine bodyPost_ret (v := .agg #[.int .i64 0, .slice a4 8 c4]) (by simp [results, Tryz.results21, go_sem, r0, r1]) rfl ⟨a4, c4, rfl, ?_, ?_⟩
      · exact ownsRow_base (ownsRow_setCell_below (ownsRow_setCell_below (unhide HO4) (by show w.heap.size < w.heap.size + 2; omega) _) (by show w.heap.size < w.heap.size + 2; omega) _) (by omega)
      · exact ((unhide HB4).setCell (p := ⟨w.heap.size, _, none⟩) (by show w.heap.size ≤ w.heap.size; omega) _).setCell (p := ⟨w.heap.size, _, none⟩) (by show w.heap.size ≤ w.heap.size; omega) _
    · have e1 : slCode xs ys = 1 := if_neg (fun q => h2 (by omega))
      have e2 : cmBytes xs ys = [] := if_neg (fun q => h2 (by omega))
      have q1 : (((n : Nat) : Int) == 4) = true := by simp; omega
      have q2 : (((m : Nat) : Int) == 32) = false := by simp; omega
      simp only [q1] at HA
      simp only [q2] at HH
      rw [e1, e2]
      clear e1 e2 h k hv hxl hyl hc hd kr b1 q1 q2 h1 h2
      go_enter Tryz.func21, Tryz.ntmps21
      go_upto_region 1 with fail
      rw [unhide E1]
      clear E1
      go_wp2_with fail
      refine ((unhide HA) _).mono ?_
      rintro e w' ⟨rfl, rfl⟩
      go_wp2_with fail
      refine ((unhide HH) _).mono ?_
      rintro e w' ⟨rfl, rfl⟩
      go_wp2_with fail
      refine bodyPost_ret (v := .agg #[.int .i64 1, .slice none 0 0]) (by simp [results, Tryz.results21, go_sem, r0, r1]) rfl ⟨none, 0, rfl, World.ownsRow_nil _ _ _ _, ?_⟩
      exact ((unhide HB1).setCell (p := ⟨w.heap.size, _, none⟩) (by show w.heap.size ≤ w.heap.size; omega) _).setCell (p := ⟨w.heap.size, _, none⟩) (by show w.heap.size ≤ w.heap.size; omega) _
  · have e1 : slCode xs ys = 1 := if_neg (fun q => h1 (by omega))
    have e2 : cmBytes xs ys = [] := if_neg (fun q => h1 (by omega))
    have q1 : (((n : Nat) : Int) == 4) = false := by simp; omega
    simp only [q1] at HA
    rw [e1, e2]
    clear e1 e2 h k hv hxl hyl hc hd kr b1 q1 h1
    go_enter Tryz.func21, Tryz.ntmps21
    go_upto_region 1 with fail
    rw [unhide E1]
    clear E1
    go_wp2_with fail
    refine ((unhide HA) _).mono ?_
    rintro e w' ⟨rfl, rfl⟩
    go_wp2_with fail
    refine bodyPost_ret (v := .agg #[.int .i64 1, .slice none 0 0]) (by simp [results, Tryz.results21, go_sem, r0, r1]) rfl ⟨none, 0, rfl, World.ownsRow_nil _ _ _ _, ?_⟩
    exact ((unhide HB1).setCell (p := ⟨w.heap.size, _, none⟩) (by show w.heap.size ≤ w.heap.size; omega) _).setCell (p := ⟨w.heap.size, _, none⟩) (by show w.heap.size ≤ w.heap.size; omega) _

end Go.Proofs.YtifhaihddimdfaaGreatDoor

/- What is proved here: what the program's checkCommits answers: nil where every commit is that of its first bytes, else a notBorne. -/
namespace Go.Proofs.YtifhaihddimdfaaGreatDoor
open Go.RowKit
set_option linter.unusedVariables false
set_option maxRecDepth 100000

/-- An error of checkCommits. -/
def ckV (ok : Bool) (v : Value) : Prop := if ok then v = .nilIface else ∃ t : ByteArray, v = .iface 95 (.agg #[.string t])

/-- No commit's slice is shorter in room than it is long. -/
def BsCap (w : World) (a : Option Addr) (len : Nat) : Prop := ∀ b off, a = some ⟨b, off, none⟩ → ∀ i, i < len → ∃ sa sl sc, w.cell? ⟨b, off + i, none⟩ = some (.slice sa sl sc) ∧ sl ≤ sc

theorem BsCap.below {w w' : World} {a : Option Addr} {len : Nat} (h : BsCap w a len) {B : Nat} (hb : Below B w w') (hB : w.heap.size ≤ B) : BsCap w' a len := by
  intro b off e i hi
  obtain ⟨sa, sl, sc, hc, hn⟩ := h b off e i hi
  exact ⟨sa, sl, sc, (hb.cell (Nat.lt_of_lt_of_le (lt_of_cell hc) hB)).trans hc, hn⟩

set_option maxHeartbeats 8000000 in
theorem checkCommits_any (x : HS) (h : Hd) (w : World) (o : HOk w x h) (nn : HNil w x) (bc : BsCap w x.k.a x.k.n) (m : HSm h) (hv : Laid w) (hf : hdFlt h = 0) :
    Calls Tryz.prog 59 #[.agg (hvals x h)] w fun e w' => ∃ v, e = .returned v ∧ ckV (coAll h h.k) v ∧ Below w.heap.size w w' := by
  have hfl := fldB1
  have kb := SBlk.new w (hvals x h) 26
  have bb := below_alloc w (.cells (hvals x h) 26)
  obtain ⟨W0, eb⟩ : ∃ W0, w.alloc (.cells (hvals x h) 26) = W0 := ⟨_, rfl⟩
  rw [eb] at kb bb
  have HRR := hide (fun (W : World) (hb : Below W0.heap.size W0 W) => hcells (kb.below hb kb.lt))
  obtain ⟨x0, x1, x2, x3, x4, x5, x6, x7, x8, x9, x10⟩ := hcells kb
  have K := implHash_any x h W0 (o.below bb (Nat.le_refl _)) (nn.below bb (Nat.le_refl _)) m (hv.below bb (Nat.le_refl _))
  have e1 : hsBytes h = hash1 h := if_pos hf
  have e2 : (hash1 h).length = 32 := kcBytes_good (packL_le (hdFlt_noK hf))
  have hhr : ∀ y ∈ hash1 h, 0 ≤ y ∧ y ≤ 255 := kcBytes_range _ (packL_rng (hdFlt_noK hf) o.noK)
  rw [hf, e1, e2] at K
  have D1 := hide K
  have HHR := hide hhr
  have HH2 := hide e2
  have HK := hide (fun (W : World) (hb : Below W0.heap.size W0 W) => And.intro (o.k.below (bb.trans (hb.mono bb.size)) (Nat.le_refl _)) (And.intro (nn.k.below (bb.trans (hb.mono bb.size)) (Nat.le_refl _)) (bc.below (bb.trans (hb.mono bb.size)) (Nat.le_refl _))))
  have HKZ : Hid (∀ z ∈ h.k, z.length = 8) := fun z hz => by
    have hk : coFlt h.k = 0 := by
      unfold hdFlt at hf
      split at hf
      · omega
      · split at hf
        · omega
        · split at hf
          · exact hf
          · rename_i q; exact absurd hf q
    unfold coFlt at hk
    split at hk
    · omega
    · exact coFrom_zero h.k hk z hz
  have HKL := hide o.k.1
  have HK7 : Hid (x.k.n ≤ 7) := by show _ ≤ _; rw [← o.k.1]; exact (good_of hf).k
  have HLV := hide (fun (W : World) (hb : Below W0.heap.size W0 W) => hv.below (bb.trans (hb.mono bb.size)) (Nat.le_refl _))
  have HBB := hide bb
  have EB := hide eb
  clear eb o nn bc m hv hf kb bb K e1 e2 hhr
  unfold hvals at EB D1 ⊢
  go_enter Tryz.func59, Tryz.ntmps59
  go_upto_region 1 with fail
  rw [unhide EB]
  clear EB
  go_wp2_with fail
  refine (unhide D1).mono ?_
  rintro e w1 ⟨a1, c1, rfl, o1, b1⟩
  obtain ⟨y0, y1, y2, y3, y4, y5, y6, y7, y8, y9, y10⟩ := (unhide HRR) w1 b1
  clear x0 x1 x2 x3 x4 x5 x6 x7 x8 x9 x10 D1
  go_wp2_with fail
  have HO1 := hide (BRow.own2 o1 (unhide HHR))
  have HC1 := hide (own_cap o1)
  have HB1 := hide b1
  have HCA : Hid (coAll h (h.k.take 0) = true) := rfl
  clear y0 y1 y2 y3 y4 y5 y6 y7 y8 y9 y10 o1 b1
  go_loopw [14] (fun i wr => ∃ j : Nat, j ≤ x.k.n ∧ i = .int .i64 j ∧ coAll h (h.k.take j) = true ∧ Below w1.heap.size w1 wr) (fun i _ => x.k.n - (intOf i).toNat)
  case atStart => exact ⟨0, Nat.zero_le _, rfl, unhide HCA, Below.refl _ _⟩
  case round =>
    obtain ⟨j, hj, rfl, hca, hbr⟩ := hrel
    clear HCA
    have L := (unhide HB1).trans (hbr.mono (unhide HB1).size)
    obtain ⟨krow, knil, kcap⟩ := (unhide HK) wr L
    have hn7 := unhide HK7
    by_cases hlt : j < x.k.n
    · obtain ⟨z, hit⟩ : ∃ z, h.k[j]? = some z := ⟨_, List.getElem?_eq_getElem (by rw [unhide HKL]; exact hlt)⟩
      obtain ⟨b0, off, hxa, _, hat⟩ := krow.at (by omega)
      obtain ⟨s1, n1, d1, c0, r1⟩ := hat j z hit
      obtain ⟨s1', n1', d1', c0', hcp⟩ := kcap b0 off hxa j hlt
      rw [c0] at c0'
      simp only [Option.some.injEq, Value.slice.injEq] at c0'
      obtain ⟨rfl, rfl, rfl⟩ := c0'
      have hz8 := (unhide HKZ) z (List.mem_of_getElem? hit)
      have hn1 : n1 = 8 := by have := r1.1; omega
      subst hn1
      have hz4 : (z.take 4).length = 4 := by rw [List.length_take]; omega
      have DA := hide (committerIn_any s1 d1 z wr r1 hcp)
      have DB : Hid (∀ W a2 c2, Below wr.heap.size wr W → W.ownsRow wr.heap.size 5 1 (.slice a2 4 c2) 4 ((z.take 4).map (Value.int .u8)) → Calls Tryz.prog 21 #[.slice a2 4 c2, .slice a1 32 c1] W fun e w' => ∃ a3 c3, e = .returned (.agg #[.int .i64 0, .slice a3 8 c3]) ∧ BRow w' a3 8 (z.take 4 ++ markL (z.take 4) (hash1 h)) ∧ BRow w' a2 4 (z.take 4) ∧ Below wr.heap.size wr w') := fun W a2 c2 hb ho => by
        have rz4 : ∀ y ∈ z.take 4, 0 ≤ y ∧ y ≤ 255 := fun y hy => r1.2.1 y (List.mem_of_mem_take hy)
        have ra := BRow.own2 ho rz4
        have hb1 := hbr.trans (hb.mono hbr.size)
        have K := implCommit_any a2 4 c2 a1 32 c1 (z.take 4) (hash1 h) W ra ((unhide HO1).below hb1 (Nat.le_refl _)) (own_cap ho) (unhide HC1) (by omega) (by omega) ((unhide HLV) W ((unhide HB1).trans (hb1.mono (unhide HB1).size)))
        have e3 : slCode (z.take 4) (hash1 h) = 0 := if_pos ⟨hz4, unhide HH2⟩
        have e4 : cmBytes (z.take 4) (hash1 h) = z.take 4 ++ markL (z.take 4) (hash1 h) := if_pos ⟨hz4, unhide HH2⟩
        have e5 : (z.take 4 ++ markL (z.take 4) (hash1 h)).length = 8 := by rw [List.length_append, mark4 hz4 (unhide HH2), hz4]
        rw [e3, e4, e5] at K
        refine K.mono ?_
        rintro e w' ⟨a3, c3, rfl, ho3, hb'⟩
        exact ⟨a3, c3, rfl, BRow.own2 ho3 (append_rng rz4 (markL_rng rz4 (unhide HHR))), ra.below hb' (Nat.le_refl _), hb.trans (hb'.mono hb.size)⟩
      have DC := hide (fun (W : World) (a2 : Option Addr) (c2 : Nat) (a3 : Option Addr) (c3 : Nat) (hb : Below wr.heap.size wr W) (ra : BRow W a2 4 (z.take 4)) (rb : BRow W a3 8 (z.take 4 ++ markL (z.take 4) (hash1 h))) => bearing_any a2 4 c2 s1 8 d1 a3 8 c3 (z.take 4) z _ W ra (r1.below hb (Nat.le_refl _)) rb (by omega))
      have hs := coAll_succ h h.k j z hit
      rw [hca, Bool.true_and] at hs
      have hbd := coAll_bad h h.k j z hit
      have HS := hide hs
      have HBD := hide hbd
      have HBV : Hid (brV (z.take 4) z (z.take 4 ++ markL (z.take 4) (hash1 h)) = if coOk h z then .nilIface else .iface 95 (.agg #[.string (hoText (z.take 4))])) := rfl
      generalize brV (z.take 4) z (z.take 4 ++ markL (z.take 4) (hash1 h)) = V at DC HBV
      generalize hoText (z.take 4) = TX at HBV
      generalize z.take 4 ++ markL (z.take 4) (hash1 h) = CM at DB DC
      generalize z.take 4 = Z4 at DA DB DC
      generalize coOk h z = t at HS HBD HBV
      have k1 : (0 : Int) ≤ (j : Int) := by omega
      have k2 : (j : Int) < (x.k.n : Int) := by omega
      rw [hxa]
      have HW := hide hbr
      have HLL := hide L
      clear hs hbd hat r1 hit hca hbr L krow knil kcap hz8 hz4 hcp
      go_wp2_with fail
      refine (unhide DA).mono ?_
      rintro e w2 ⟨a2, c2, rfl, o2, b2⟩
      have D3 := hide ((unhide DB) w2 a2 c2 b2 o2)
      clear DA o2 b2
      go_wp2_with fail
      refine (unhide D3).mono ?_
      rintro e w3 ⟨a3, c3, rfl, r3, r2, b3⟩
      have D4 := hide ((unhide DC) w3 a2 c2 a3 c3 b3 r2 r3)
      have HB3 := hide b3
      clear D3 DB DC r3 r2 b3
      go_wp2_with fail
      refine (unhide D4).mono ?_
      rintro e w4 ⟨rfl, b4⟩
      have HB4 := hide ((unhide HB3).trans (b4.mono (unhide HB3).size))
      clear D4 b4
      cases t
      · have HV : Hid (V = .iface 95 (.agg #[.string TX])) := unhide HBV
        rw [unhide HV]
        have hcf := (unhide HBD) rfl
        have HFIN := hide ((unhide HBB).trans (((unhide HLL).trans ((unhide HB4).mono (unhide HLL).size)).mono (unhide HBB).size))
        clear HBV HV HBD HS
        go_wp2_with fail
        go_ret
        exact ⟨_, rfl, by rw [hcf]; exact ⟨TX, rfl⟩, unhide HFIN⟩
      · have HV : Hid (V = .nilIface) := unhide HBV
        rw [unhide HV]
        have HN := hide ((unhide HW).trans ((unhide HB4).mono (unhide HW).size))
        clear HBV HV HBD
        go_wp2_with fail
        go_roundw
        case rel => exact ⟨j + 1, by omega, by go_num, unhide HS, unhide HN⟩
        case measure => simp [intOf]; omega
    · obtain rfl : j = x.k.n := by omega
      have et : h.k.take x.k.n = h.k := List.take_of_length_le (by rw [unhide HKL]; exact Nat.le_refl _)
      rw [et] at hca
      have HCA := hide hca
      have HFIN := hide ((unhide HBB).trans (L.mono (unhide HBB).size))
      clear et hca hbr L krow knil kcap
      go_wp2_with fail
      go_ret
      exact ⟨_, rfl, by rw [unhide HCA]; exact rfl, unhide HFIN⟩

end Go.Proofs.YtifhaihddimdfaaGreatDoor

/- What is proved here: what the program's CommittersOf answers: the code, and who committed, in memory of its own. -/
namespace Go.Proofs.YtifhaihddimdfaaGreatDoor
open Go.RowKit
set_option linter.unusedVariables false
set_option maxRecDepth 100000

theorem one_at' (w : World) (x : Value) (t : TypeId) : ∀ (j : Nat) (u : Value), [x][j]? = some u → (w.alloc (.cells #[x] t)).cell? ((⟨w.heap.size, 0, none⟩ : Addr).add j) = some u := by
  intro j u hj
  rw [add_none, Nat.zero_add, World.cell?_alloc_new]
  match j, hj with
  | 0, hj => simpa using hj

theorem isUnborne_ck (ok : Bool) (v : Value) (hc : ckV ok v) (w : World) (hg : LaidE w) : Calls Tryz.prog 39 #[v] w fun e w' => e = .returned (.bool (!ok)) ∧ Below w.heap.size w w' := by
  cases ok
  · obtain ⟨t, rfl⟩ := hc
    exact isUnborne_hit t w hg
  · obtain rfl : v = .nilIface := hc
    exact isUnborne_nil w

set_option maxHeartbeats 8000000 in
theorem implCommitters_any (x : HS) (h : Hd) (w : World) (o : HOk w x h) (nn : HNil w x) (bc : BsCap w x.k.a x.k.n) (m : HSm h) (hv : Laid w) (hE : LaidE w) :
    Calls Tryz.prog 20 #[.agg (hvals x h)] w fun e w' => ∃ (s : Sl) (d : Nat → Nat), e = .returned (.agg #[.int .i64 (coCode h), .slice s.a s.n s.c]) ∧ CS w' w.heap.size d 6 8 s (coAns h) ∧ Below w.heap.size w w' := by
  have kb := SBlk.new w (hvals x h) 26
  have bb := below_alloc w (.cells (hvals x h) 26)
  have zb : (w.alloc (.cells (hvals x h) 26)).heap.size = w.heap.size + 1 := by simp
  obtain ⟨Wa, ea⟩ : ∃ W, w.alloc (.cells (hvals x h) 26) = W := ⟨_, rfl⟩
  rw [ea] at kb bb zb
  have kr := SBlk.new Wa #[.int .i64 0, .slice none 0 0] 42
  replace kb := kb.next (.cells #[.int .i64 0, .slice none 0 0] 42)
  replace bb := bb.trans ((below_alloc Wa (.cells #[.int .i64 0, .slice none 0 0] 42)).mono bb.size)
  have z1 : (Wa.alloc (.cells #[.int .i64 0, .slice none 0 0] 42)).heap.size = w.heap.size + 2 := by simp; omega
  rw [zb] at kr
  obtain ⟨W1, eb⟩ : ∃ W, Wa.alloc (.cells #[.int .i64 0, .slice none 0 0] 42) = W := ⟨_, rfl⟩
  rw [eb] at kr kb bb z1
  have D1 := hide (implHeaderFault_any x h W1 (o.below bb (Nat.le_refl _)) m)
  obtain ⟨x0, x1, x2, x3, x4, x5, x6, x7, x8, x9, x10⟩ := hcells kb
  have HRR := hide (fun (W : World) (hb : Below (w.heap.size + 2) W1 W) => hcells (kb.below hb (by omega)))
  have HKR := hide (fun (W : World) (hb : Below (w.heap.size + 2) W1 W) => kr.below hb (by omega))
  have HCK : Hid (hdFlt h = 0 → ∀ W, Below (w.heap.size + 2) W1 W → Calls Tryz.prog 59 #[.agg (hvals x h)] W fun e w' => ∃ v, e = .returned v ∧ ckV (coAll h h.k) v ∧ Below (w.heap.size + 2) W1 w') := fun hf W hb => by
    have b1 := bb.trans (hb.mono (by omega))
    have hz := hb.size
    refine (checkCommits_any x h W (o.below b1 (Nat.le_refl _)) (nn.below b1 (Nat.le_refl _)) (bc.below b1 (Nat.le_refl _)) m (hv.below b1 (Nat.le_refl _)) hf).mono ?_
    rintro e w' ⟨v, rfl, hc, hb'⟩
    exact ⟨v, rfl, hc, hb.trans (hb'.mono (by omega))⟩
  have HUN : Hid (∀ W v, Below (w.heap.size + 2) W1 W → ckV (coAll h h.k) v → Calls Tryz.prog 39 #[v] W fun e w' => e = .returned (.bool (!coAll h h.k)) ∧ Below (w.heap.size + 2) W1 w') := fun W v hb hc => by
    have b1 := bb.trans (hb.mono (by omega))
    have hz := hb.size
    refine (isUnborne_ck _ v hc W (hE.below b1 (Nat.le_refl _))).mono ?_
    rintro e w' ⟨rfl, hb'⟩
    exact ⟨rfl, hb.trans (hb'.mono (by omega))⟩
  have HK := hide (fun (W : World) (hb : Below (w.heap.size + 2) W1 W) => And.intro (o.k.below (bb.trans (hb.mono (by omega))) (Nat.le_refl _)) (bc.below (bb.trans (hb.mono (by omega))) (Nat.le_refl _)))
  have HKZ : Hid (hdFlt h = 0 → (∀ z ∈ h.k, z.length = 8) ∧ h.k.length ≤ 7) := fun hf => ⟨fun z hz => by
    have hk : coFlt h.k = 0 := by
      unfold hdFlt at hf
      split at hf
      · omega
      · split at hf
        · omega
        · split at hf
          · exact hf
          · rename_i q; exact absurd hf q
    unfold coFlt at hk
    split at hk
    · omega
    · exact coFrom_zero h.k hk z hz, (good_of hf).k⟩
  have HKL := hide o.k.1
  have HBB := hide bb
  have HCC : Hid (coCode h = if hdFlt h = 0 then (if coAll h h.k = true then (if twiceN (coAd h.k) h.k.length = true then 6 else 0) else 7) else hdFlt h) := rfl
  have HAA : Hid (coAns h = if hdFlt h = 0 ∧ coAll h h.k = true ∧ twiceN (coAd h.k) h.k.length = false then coAd h.k else []) := rfl
  have EA := hide ea
  have EB := hide eb
  clear ea eb o nn bc m hv hE kb kr bb zb
  generalize coCode h = CC at HCC ⊢
  generalize coAns h = AA at HAA ⊢
  generalize hdFlt h = q at D1 HCK HKZ HCC HAA
  generalize coAll h h.k = t at HCK HUN HCC HAA
  unfold hvals at EA D1 HCK ⊢
  go_enter Tryz.func20, Tryz.ntmps20
  go_upto_region 1 with fail
  rw [unhide EA, unhide EB]
  clear EA EB
  go_wp2_with fail
  refine (unhide D1).mono ?_
  rintro e w2 ⟨rfl, b2⟩
  have L2 : Hid (Below (w.heap.size + 2) W1 w2) := b2.mono (by omega)
  clear b2 D1 x0 x1 x2 x3 x4 x5 x6 x7 x8 x9 x10
  by_cases hq : q = 0
  · subst hq
    obtain ⟨hz8, hn7⟩ := (unhide HKZ) (by first | exact rfl | trivial)
    have HZ8 := hide hz8
    have D2 := hide ((unhide HCK) (by first | exact rfl | trivial) w2 (unhide L2))
    obtain ⟨x0, x1, x2, x3, x4, x5, x6, x7, x8, x9, x10⟩ := (unhide HRR) w2 (unhide L2)
    clear HKZ HCK hz8
    go_wp2_with fail
    refine (unhide D2).mono ?_
    rintro e w3 ⟨v3, rfl, hc3, b3⟩
    have D3 := hide ((unhide HUN) w3 v3 b3 hc3)
    clear x0 x1 x2 x3 x4 x5 x6 x7 x8 x9 x10 D2 hc3 b3 HUN
    go_wp2_with fail
    refine (unhide D3).mono ?_
    rintro e w4 ⟨rfl, b4⟩
    have L4 := hide b4
    clear D3 b4
    cases t
    · have kr := (unhide HKR) w4 (unhide L4)
      have r0 := kr.cell 0
      have r1 := kr.cell 1
      have f0 := kr.free 0
      have f1 := kr.free 1
      simp only [List.getElem?_cons_zero, List.getElem?_cons_succ] at r0 r1
      have HCV : Hid (CC = 7) := unhide HCC
      have HAV : Hid (AA = []) := by show _ = _; rw [unhide HAA, if_neg (by simp)]
      have HB4 := hide ((unhide HBB).trans ((unhide L4).mono (by omega)))
      clear kr HCC HAA
      go_wp2_with fail
      refine bodyPost_ret (v := .agg #[.int .i64 7, .slice none 0 0]) (by simp [results, Tryz.results20, go_sem, r0, r1]) rfl ⟨⟨none, 0, 0⟩, fun _ => 0, by rw [unhide HCV], by rw [unhide HAV]; exact CS.nil _ _ _ _ _, ?_⟩
      repeat (refine Below.setCell ?_ (by show w.heap.size ≤ w.heap.size + 1; omega) _)
      exact unhide HB4
    · obtain ⟨x0, x1, x2, x3, x4, x5, x6, x7, x8, x9, x10⟩ := (unhide HRR) w4 (unhide L4)
      go_wp2_with fail
      clear x0 x1 x2 x3 x4 x5 x6 x7 x8 x9 x10
      obtain ⟨i0, hi, hz0, hz1, hz2⟩ := info_parts infoSB
      have hB4 : w.heap.size + 2 ≤ w4.heap.size := by rw [← z1]; exact (unhide L4).size
      go_loopw [4, 20] (fun c i wr => ∃ (k : Nat) (u : Sl) (d : Nat → Nat), k ≤ x.k.n ∧ i = .int .i64 k ∧ c = .slice u.a u.n u.c ∧ CS wr (w.heap.size + 2) d 6 8 u ((coAd h.k).take k) ∧ Below (w.heap.size + 2) W1 wr) (fun _ i _ => x.k.n - (intOf i).toNat)
      case atStart => exact ⟨0, ⟨none, 0, 0⟩, fun _ => 6, Nat.zero_le _, rfl, rfl, CS.nil _ _ _ _ _, unhide L4⟩
      case round =>
        obtain ⟨k, u, d, hk, rfl, rfl, hcs, hbr⟩ := hrel
        have hn7' : x.k.n ≤ 7 := by have := unhide HKL; omega
        have hwr : w.heap.size + 2 ≤ wr.heap.size := by rw [← z1]; exact hbr.size
        by_cases hlt : k < x.k.n
        · obtain ⟨z, hit⟩ : ∃ z, h.k[k]? = some z := ⟨_, List.getElem?_eq_getElem (by rw [unhide HKL]; exact hlt)⟩
          obtain ⟨krow, kcap⟩ := (unhide HK) wr hbr
          obtain ⟨b0, off, hxa, _, hat⟩ := krow.at (by omega)
          obtain ⟨s1, n1, d1, c0, r1⟩ := hat k z hit
          obtain ⟨s1', n1', d1', c0', hcp⟩ := kcap b0 off hxa k hlt
          rw [c0] at c0'
          simp only [Option.some.injEq, Value.slice.injEq] at c0'
          obtain ⟨rfl, rfl, rfl⟩ := c0'
          have hz8 := (unhide HZ8) z (List.mem_of_getElem? hit)
          have hn1 : n1 = 8 := by have := r1.1; omega
          subst hn1
          have hz4 : (z.take 4).length = 4 := by rw [List.length_take]; omega
          have hzr : ∀ y ∈ z.take 4, 0 ≤ y ∧ y ≤ 255 := fun y hy => r1.2.1 y (List.mem_of_mem_take hy)
          have DA := hide (committerIn_any s1 d1 z wr r1 hcp)
          have hts := coAd_snoc h.k k z hit
          have htl : ((coAd h.k).take k).length = k := by rw [List.length_take, coAd_length]; have := unhide HKL; omega
          have htn : u.n = k := by rw [hcs.1]; exact htl
          have k1 : (0 : Int) ≤ (k : Int) := by omega
          have k2 : (k : Int) < (x.k.n : Int) := by omega
          rw [hxa]
          have HCS := hide hcs
          have HB := hide hbr
          have HTS := hide hts
          have HTL := hide htl
          have HTN := hide htn
          have HZR := hide hzr
          have HZ4 := hide hz4
          clear hcs hbr hit krow kcap hat r1 hcp hz8 hts htl htn hzr hz4
          go_wp2_with fail
          refine (unhide DA).mono ?_
          rintro e w5 ⟨a2, c2, rfl, o2, b2⟩
          have ba := below_alloc w5 (.cells #[.slice a2 4 c2] 22)
          have hs2 : wr.heap.size ≤ w5.heap.size := b2.size
          obtain ⟨d', hd'⟩ : ∃ d' : Nat → Nat, d' = fun g => if wr.heap.size ≤ g then 8 + 3 * k else d g := ⟨_, rfl⟩
          have cz : CB w5 (w.heap.size + 2) d' (8 + 3 * k) ⟨a2, 4, c2⟩ (z.take 4) := by rw [hd']; exact CB.new (unhide HZ4).symm (unhide HZR) o2 hwr
          have cs2 := ((unhide HCS).recol (d' := d') (fun g hg => by rw [hd']; exact if_neg (by omega))).below b2 (Nat.le_refl _)
          obtain ⟨h1, es, h2, h3, h4, h5⟩ := cs2.below ba (Nat.le_refl _)
          have HCZ := hide (cz.below ba (Nat.le_refl _))
          have H1 := hide h1
          have H2 := hide h2
          have H4 := hide h4
          have H5 := hide h5
          have B3 := (unhide HB).trans ((b2.trans (ba.mono b2.size)).mono hwr)
          have hsz3 : w.heap.size + 2 ≤ (w5.alloc (.cells #[.slice a2 4 c2] 22)).heap.size := Nat.le_trans hwr (Nat.le_trans hs2 ba.size)
          have hnk : u.n ≤ 1048576 := by have := unhide HTN; omega
          clear h1 h2 h4 h5 cz cs2
          go_wp2_with (at_builtin; refine wpList_append_own_at _ rfl _ _ 24 rfl (w.heap.size + 2) 22 i0 (.slice none 0 0) 1 24 Tryz.underlying24 hi hz0 hz1 hz2 rfl (by decide) _ _ _ rfl h3 ⟨w5.heap.size, 0, none⟩ 1 1 [.slice a2 4 c2] rfl rfl ?c1 ?c2 ?c3 ?c4 ?c5 ?_)
          case c1 => exact one_at' _ _ _
          case c2 => intro u hu; simp at hu; subst hu; rfl
          case c3 => unfold maxLen; omega
          case c4 => omega
          case c5 => exact hsz3
          intro v' w6 hown2 hgrow _ hblk
          obtain ⟨a6, c6, hv6⟩ := own_shape hown2
          subst hv6
          have SN := CS.mkSnoc (r := 6) (c := 8) (fun i => by omega) hsz3 (unhide H1) (unhide H2) h3 (unhide H4) (unhide H5) (by rw [unhide HTL]; exact unhide HCZ) hown2 hgrow (by rw [show (w5.alloc (.cells #[.slice a2 4 c2] 22)).heap.size = w5.heap.size + 1 by simp]; exact hblk)
          rw [← unhide HTS] at SN
          have B6 : Below (w.heap.size + 2) W1 w6 := B3.grown hgrow hsz3 (fun g e => (h3.lt g e).1)
          have HS6 := hide SN.1
          have HB6 := hide B6
          clear SN B6 hown2 hgrow hblk H1 H2 h3 H4 H5 HCZ B3 ba o2 b2 DA HCS HB hd'
          go_wp2_with fail
          go_roundw
          case rel => exact ⟨k + 1, ⟨a6, u.n + 1, c6⟩, _, by omega, by go_num, rfl, unhide HS6, unhide HB6⟩
          case measure => simp [intOf]; omega
        · obtain rfl : k = x.k.n := by omega
          have et : (coAd h.k).take x.k.n = coAd h.k := List.take_of_length_le (by rw [coAd_length, unhide HKL]; exact Nat.le_refl _)
          rw [et] at hcs
          have hun : u.n = h.k.length := by rw [hcs.1, coAd_length]
          have hub : BsRow wr u.a u.n (coAd h.k) := hcs.bsrow (fun z hz => by
            obtain ⟨y, hy, rfl⟩ := List.mem_map.1 hz
            have := (unhide HZ8) y hy
            unfold maxLen
            rw [List.length_take]; omega)
          have huc : u.n ≤ u.c := by
            obtain ⟨_, es, _, h3, _, _⟩ := hcs
            rcases h3.2 with ⟨h', _⟩ | ⟨g, cap', cur, h', _, _, hnc, _⟩
            · simp only [Value.slice.injEq] at h'; omega
            · simp only [Value.slice.injEq] at h'; rw [h'.2.2]; exact hnc
          have DT := hasTwice_any u.a u.n u.c (coAd h.k) wr hub (by omega) huc
          rw [hun] at DT
          have HDT := hide DT
          have HUN2 := hide hun
          have kr := (unhide HKR) wr hbr
          have r0 := kr.cell 0
          have r1 := kr.cell 1
          have f0 := kr.free 0
          have f1 := kr.free 1
          simp only [List.getElem?_cons_zero, List.getElem?_cons_succ] at r0 r1
          have HCS := hide hcs
          have HBF := hide ((unhide HBB).trans (hbr.mono (by omega)))
          generalize twiceN (coAd h.k) h.k.length = tt at HDT HCC HAA
          obtain ⟨ua, uan, uac⟩ := u
          simp only at HUN2
          have hun := unhide HUN2
          subst hun
          clear et hcs hub huc DT kr hbr HUN2
          go_wp2_with fail
          refine (unhide HDT).mono ?_
          rintro e w7 ⟨rfl, rfl⟩
          cases tt
          · have HCV : Hid (CC = 0) := unhide HCC
            have HAV : Hid (AA = coAd h.k) := by show _ = _; rw [unhide HAA, if_pos (by simp)]
            clear HCC HAA
            go_wp2_with fail
            refine bodyPost_ret (v := .agg #[.int .i64 0, .slice ua h.k.length uac]) (by simp [results, Tryz.results20, go_sem, r0, r1]) rfl ⟨⟨ua, h.k.length, uac⟩, d, by rw [unhide HCV], ?_, ?_⟩
            · rw [unhide HAV]
              refine CS.base (B := w.heap.size + 2) ?_ (by omega)
              repeat (refine CS.set ?_ (by show w.heap.size + 1 < w.heap.size + 2; omega))
              exact unhide HCS
            · repeat (refine Below.setCell ?_ (by show w.heap.size ≤ w.heap.size + 1; omega) _)
              exact unhide HBF
          · have HCV : Hid (CC = 6) := unhide HCC
            have HAV : Hid (AA = []) := by show _ = _; rw [unhide HAA, if_neg (by simp)]
            clear HCC HAA
            go_wp2_with fail
            refine bodyPost_ret (v := .agg #[.int .i64 6, .slice none 0 0]) (by simp [results, Tryz.results20, go_sem, r0, r1]) rfl ⟨⟨none, 0, 0⟩, fun _ => 0, by rw [unhide HCV], by rw [unhide HAV]; exact CS.nil _ _ _ _ _, ?_⟩
            repeat (refine Below.setCell ?_ (by show w.heap.size ≤ w.heap.size + 1; omega) _)
            exact unhide HBF
  · have hne : (q != 0) = true := by simp [hq]
    have kr := (unhide HKR) w2 (unhide L2)
    have r0 := kr.cell 0
    have r1 := kr.cell 1
    have f0 := kr.free 0
    have f1 := kr.free 1
    simp only [List.getElem?_cons_zero, List.getElem?_cons_succ] at r0 r1
    have HCV : Hid (CC = q) := by show _ = _; rw [unhide HCC, if_neg hq]
    have HAV : Hid (AA = []) := by show _ = _; rw [unhide HAA, if_neg (fun z => hq z.1)]
    have HB2 := hide ((unhide HBB).trans ((unhide L2).mono (by omega)))
    clear hq kr HCC HAA HCK HKZ HUN
    go_wp2_with fail
    refine bodyPost_ret (v := .agg #[.int .i64 q, .slice none 0 0]) (by simp [results, Tryz.results20, go_sem, r0, r1]) rfl ⟨⟨none, 0, 0⟩, fun _ => 0, by rw [unhide HCV], by rw [unhide HAV]; exact CS.nil _ _ _ _ _, ?_⟩
    repeat (refine Below.setCell ?_ (by show w.heap.size ≤ w.heap.size + 1; omega) _)
    exact unhide HB2

end Go.Proofs.YtifhaihddimdfaaGreatDoor

/- What is proved here: the contracts of the laws' helper functions that mark a list or a header that a call made, and look for the marks later (markByteSS, markHeader, heldByteSS, heldHeader). -/
namespace Go.Proofs.YtifhaihddimdfaaGreatDoor
open Go.RowKit
set_option linter.unusedVariables false
set_option maxRecDepth 100000

theorem take_drop_at (m l : List (List Int)) (k : Nat) (h : m.length = l.length) : (m.take k ++ l.drop k)[k]? = l[k]? := by
  by_cases hk : k ≤ m.length
  · rw [List.getElem?_append_right (by rw [List.length_take]; omega), List.length_take, Nat.min_eq_left hk, Nat.sub_self, List.getElem?_drop, Nat.add_zero]
  · rw [List.getElem?_eq_none (by rw [List.length_append, List.length_take, List.length_drop]; omega), List.getElem?_eq_none (by omega)]

theorem take_drop_set (m l : List (List Int)) (k : Nat) (x : List Int) (h : m.length = l.length) (hx : m[k]? = some x) : (m.take k ++ l.drop k).set k x = m.take (k + 1) ++ l.drop (k + 1) := by
  obtain ⟨hk, e⟩ := List.getElem?_eq_some_iff.1 hx
  have hl : (m.take k).length = k := by rw [List.length_take]; omega
  rw [List.set_append, if_neg (by omega), hl, Nat.sub_self, List.drop_eq_getElem_cons (by omega), List.set_cons_zero, List.take_succ_eq_append_getElem hk, e, List.append_assoc]
  rfl

end Go.Proofs.YtifhaihddimdfaaGreatDoor

/- What is proved here: the two cells of a SignersResult, and the contracts of the laws' helper functions over one (eqSignersResult, markSignersResult, heldSignersResult). -/
namespace Go.Proofs.YtifhaihddimdfaaGreatDoor
open Go.RowKit
set_option linter.unusedVariables false
set_option maxRecDepth 100000

/-- The two cells of a SignersResult. -/
def srvals (c : Int) (s : Sl) : Array Value := #[.int .i64 c, .slice s.a s.n s.c]

theorem srcells {W : World} {g : Nat} {c : Int} {s : Sl} {T : TypeId} (b : SBlk W g (srvals c s).toList T) : W.cell? ⟨g, 0, none⟩ = some (.int .i64 c) ∧ W.cell? ⟨g, 1, none⟩ = some (.slice s.a s.n s.c) := ⟨b.cell 0, b.cell 1⟩

end Go.Proofs.YtifhaihddimdfaaGreatDoor
