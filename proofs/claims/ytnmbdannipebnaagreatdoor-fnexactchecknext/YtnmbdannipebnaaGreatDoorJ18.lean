/- What is proved here: what the program's CommitOf answers: the code, and a commit in new memory. -/
import Derived.Test.YtnmbdannipebnaaGreatDoorJ17
import Derived.Test.YtnmbdannipebnaaGreatDoorJ15
import Derived.Test.YtnmbdannipebnaaGreatDoorJ11
import Derived.Deep.RegionHeld3
import Derived.Test.YtnmbdannipebnaaGreatDoorJ1
import Derived.Test.YtnmbdannipebnaaGreatDoorJ4
import Derived.Test.YtnmbdannipebnaaGreatDoorJ9
import Derived.Test.YtnmbdannipebnaaGreatDoorJ5
import Derived.Test.YtnmbdannipebnaaGreatDoorJ6
namespace Go.Proofs.YtnmbdannipebnaaGreatDoor
open Go.RowKit
set_option linter.unusedVariables false
set_option maxRecDepth 100000

set_option maxRecDepth 100000 in
set_option maxHeartbeats 2000000 in
theorem implCommit_any (a : Option Addr) (n c : Nat) (b : Option Addr) (m d : Nat) (xs ys : List Int) (w : World) (h : BRow w a n xs) (k : BRow w b m ys) (hc : a = none → c = 0) (hd : b = none → d = 0) (hn : n ≤ 1048576) (hm : m ≤ 1048576) (hv : Laid w) :
    Calls Tryz.prog 157 #[.slice a n c, .slice b m d] w fun e w' => ∃ a' c', e = .returned (.agg #[.int .i64 (slCode xs ys), .slice a' (cmBytes xs ys).length c']) ∧
      w'.ownsRow w.heap.size 5 1 (.slice a' (cmBytes xs ys).length c') (cmBytes xs ys).length ((cmBytes xs ys).map (Value.int .u8)) ∧ Below w.heap.size w w' := by
  have hxl := h.1
  have hyl := k.1
  have HA := hide (fun W => isAddr_any a n c W)
  have HH := hide (fun W => isHash_any b m d W)
  have kr := SBlk.new w #[.int .i64 0, .slice none 0 0] 90
  have b1 := below_alloc w (.cells #[.int .i64 0, .slice none 0 0] 90)
  have z1 : (w.alloc (.cells #[.int .i64 0, .slice none 0 0] 90)).heap.size = w.heap.size + 1 := by simp
  obtain ⟨W1, e1⟩ : ∃ W1, w.alloc (.cells #[.int .i64 0, .slice none 0 0] 90) = W1 := ⟨_, rfl⟩
  rw [e1] at kr b1 z1
  have r0 := kr.cell 0
  have r1 := kr.cell 1
  have f0 := kr.free 0
  have f1 := kr.free 1
  simp only [List.getElem?_cons_zero, List.getElem?_cons_succ] at r0 r1
  have HB1 := hide b1
  have E1 := hide e1
  clear e1
  by_cases h1 : n = 4
  · by_cases h2 : m = 32
    · subst h1 h2
      have e1 : slCode xs ys = 0 := if_pos ⟨hxl, hyl⟩
      have e2 : cmBytes xs ys = xs ++ markL xs ys := if_pos ⟨hxl, hyl⟩
      have e3 : (xs ++ markL xs ys).length = 8 := by rw [List.length_append, mark4 hxl hyl, hxl]
      have HMR := hide (markL_rng h.2.1 k.2.1)
      have bo := below_alloc W1 (.cells #[.int .u8 1] 5)
      have zo : (W1.alloc (.cells #[.int .u8 1] 5)).heap.size = w.heap.size + 2 := by simp; omega
      have ro : BRow (W1.alloc (.cells #[.int .u8 1] 5)) (some ⟨w.heap.size + 1, 0, none⟩) 1 [1] := ⟨rfl, fun x hx => by simp at hx; omega, fun e => (by cases e), fun y hy j hj => by
        cases hy
        obtain rfl : j = 0 := by omega
        rw [add_none, Nat.zero_add, ← z1, World.cell?_alloc_new]
        rfl⟩
      obtain ⟨W2, e4⟩ : ∃ W2, W1.alloc (.cells #[.int .u8 1] 5) = W2 := ⟨_, rfl⟩
      rw [e4] at bo zo ro
      have b2 := b1.trans (bo.mono b1.size)
      have z3 : (W2.alloc (.cells #[.slice a 4 c, .slice (some ⟨w.heap.size + 1, 0, none⟩) 1 1, .slice b 32 d] 29)).heap.size = w.heap.size + 3 := by simp; omega
      have D : Hid (Calls Tryz.prog 189 #[.slice (some ⟨w.heap.size + 2, 0, none⟩) 3 3] (W2.alloc (.cells #[.slice a 4 c, .slice (some ⟨w.heap.size + 1, 0, none⟩) 1 1, .slice b 32 d] 29)) fun e w' => ∃ g' c', e = .returned (.slice (some ⟨g', 0, none⟩) 4 c') ∧ BRow w' (some ⟨g', 0, none⟩) 4 (markL xs ys) ∧ Below (w.heap.size + 2) W2 w') := by
        have b3 := below_alloc W2 (.cells #[.slice a 4 c, .slice (some ⟨w.heap.size + 1, 0, none⟩) 1 1, .slice b 32 d] 29)
        obtain ⟨R, N⟩ := three_row W2 a 4 c xs (some ⟨w.heap.size + 1, 0, none⟩) 1 1 [1] b 32 d ys 29 (h.below b2 (Nat.le_refl _)) ro (k.below b2 (Nat.le_refl _)) hn (by omega) hm hc (fun e => by cases e) hd
        rw [zo] at R N
        have ef : [xs, [1], ys].flatten = xs ++ 1 :: ys := by simp
        have K := markOf_any _ 3 3 [xs, [1], ys] _ R N (by omega) (by rw [ef]; simp; omega) (by rw [ef]; simp; omega) ((hv.below b2 (Nat.le_refl _)).below b3 (Nat.le_refl _))
        rw [ef] at K
        rw [z3] at K
        refine K.mono ?_
        rintro e w' ⟨a', c', rfl, ho, hb⟩
        obtain ⟨g', c'', he⟩ := own_some ho (by omega)
        simp only [Value.slice.injEq] at he
        obtain ⟨rfl, -, rfl⟩ := he
        exact ⟨g', c', rfl, BRow.own ho (unhide HMR), by rw [zo] at b3; exact b3.trans (hb.mono (by omega))⟩
      have DC : Hid (∀ (W' : World) (g' c' : Nat), Below (w.heap.size + 2) W2 W' → BRow W' (some ⟨g', 0, none⟩) 4 (markL xs ys) → Calls Tryz.prog 190 #[.slice (some ⟨W'.heap.size, 0, none⟩) 2 2] (W'.alloc (.cells #[.slice a 4 c, .slice (some ⟨g', 0, none⟩) 4 c'] 29)) fun e w' => ∃ a' c'', e = .returned (.slice a' 8 c'') ∧ w'.ownsRow (w.heap.size + 2) 5 1 (.slice a' 8 c'') 8 ((xs ++ markL xs ys).map (Value.int .u8)) ∧ Below (w.heap.size + 2) W2 w') := fun W' g' c' hb hr => by
        have b4 := below_alloc W' (.cells #[.slice a 4 c, .slice (some ⟨g', 0, none⟩) 4 c'] 29)
        have bw : Below w.heap.size w W' := b2.trans (hb.mono (by omega))
        obtain ⟨R, N⟩ := two_row W' a 4 c xs (some ⟨g', 0, none⟩) 4 c' (markL xs ys) 29 (h.below bw (Nat.le_refl _)) hr hn (by omega) hc (fun e => by cases e)
        have ef : [xs, markL xs ys].flatten = xs ++ markL xs ys := by simp
        have K := concat_any _ 2 2 [xs, markL xs ys] _ R N (by omega) (by rw [ef, e3]; omega)
        rw [ef, e3] at K
        refine K.mono ?_
        rintro e w' ⟨a', c'', rfl, ho, hb'⟩
        have hz := hb.size
        exact ⟨a', c'', rfl, ownsRow_base ho (by have := b4.size; omega), hb.trans ((b4.trans (hb'.mono b4.size)).mono (by omega))⟩
      have HK := hide (fun (W' : World) (hb : Below (w.heap.size + 2) W2 W') => (kr.below bo kr.lt).below hb (by omega))
      have HB2 := hide b2
      have E4 := hide e4
      rw [e1, e2, e3]
      clear e1 e2 e3 h k hv hxl hyl hc hd kr r0 r1 f0 f1 b1 z3 bo ro b2 HMR e4
      generalize xs ++ markL xs ys = SL at DC ⊢
      generalize markL xs ys = ML at D DC
      go_enter Tryz.func157, Tryz.ntmps157
      go_upto_region 1 with fail
      rw [unhide E1]
      clear E1
      go_wp2_with fail
      refine ((unhide HA) _).mono ?_
      rintro e w' ⟨rfl, rfl⟩
      go_wp2_with fail
      refine ((unhide HH) _).mono ?_
      rintro e w' ⟨rfl, rfl⟩
      go_wp2_with fail
      rw [unhide E4]
      refine (unhide D).mono ?_
      rintro e w3 ⟨g3, c3, rfl, r3, b3⟩
      have D3 := hide ((unhide DC) w3 g3 c3 b3 r3)
      have HB3 := hide b3
      clear r3 b3 D DC
      go_wp2_with fail
      refine (unhide D3).mono ?_
      rintro e w4 ⟨a4, c4, rfl, o4, b4⟩
      have kr4 := (unhide HK) w4 b4
      have r0 := kr4.cell 0
      have r1 := kr4.cell 1
      have f0 := kr4.free 0
      have f1 := kr4.free 1
      simp only [List.getElem?_cons_zero, List.getElem?_cons_succ] at r0 r1
      have HB4 := hide ((unhide HB2).trans (b4.mono (by omega)))
      have HO4 := hide o4
      clear kr4 o4 b4 D3 HK HB3
      go_wp2_with fail
      refine bodyPost_ret (v := .agg #[.int .i64 0, .slice a4 8 c4]) (by simp [results, Tryz.results157, go_sem, r0, r1]) rfl ⟨a4, c4, rfl, ?_, ?_⟩
      · exact ownsRow_base (ownsRow_setCell_below (ownsRow_setCell_below (unhide HO4) (by show w.heap.size < w.heap.size + 2; omega) _) (by show w.heap.size < w.heap.size + 2; omega) _) (by omega)
      · exact ((unhide HB4).setCell (p := ⟨w.heap.size, _, none⟩) (by show w.heap.size ≤ w.heap.size; omega) _).setCell (p := ⟨w.heap.size, _, none⟩) (by show w.heap.size ≤ w.heap.size; omega) _
    · have e1 : slCode xs ys = 1 := if_neg (fun q => h2 (by omega))
      have e2 : cmBytes xs ys = [] := if_neg (fun q => h2 (by omega))
      have q1 : (((n : Nat) : Int) == 4) = true := by simp; omega
      have q2 : (((m : Nat) : Int) == 32) = false := by simp; omega
      simp only [q1] at HA
      simp only [q2] at HH
      rw [e1, e2]
      clear e1 e2 h k hv hxl hyl hc hd kr b1 q1 q2 h1 h2
      go_enter Tryz.func157, Tryz.ntmps157
      go_upto_region 1 with fail
      rw [unhide E1]
      clear E1
      go_wp2_with fail
      refine ((unhide HA) _).mono ?_
      rintro e w' ⟨rfl, rfl⟩
      go_wp2_with fail
      refine ((unhide HH) _).mono ?_
      rintro e w' ⟨rfl, rfl⟩
      go_wp2_with fail
      refine bodyPost_ret (v := .agg #[.int .i64 1, .slice none 0 0]) (by simp [results, Tryz.results157, go_sem, r0, r1]) rfl ⟨none, 0, rfl, World.ownsRow_nil _ _ _ _, ?_⟩
      exact ((unhide HB1).setCell (p := ⟨w.heap.size, _, none⟩) (by show w.heap.size ≤ w.heap.size; omega) _).setCell (p := ⟨w.heap.size, _, none⟩) (by show w.heap.size ≤ w.heap.size; omega) _
  · have e1 : slCode xs ys = 1 := if_neg (fun q => h1 (by omega))
    have e2 : cmBytes xs ys = [] := if_neg (fun q => h1 (by omega))
    have q1 : (((n : Nat) : Int) == 4) = false := by simp; omega
    simp only [q1] at HA
    rw [e1, e2]
    clear e1 e2 h k hv hxl hyl hc hd kr b1 q1 h1
    go_enter Tryz.func157, Tryz.ntmps157
    go_upto_region 1 with fail
    rw [unhide E1]
    clear E1
    go_wp2_with fail
    refine ((unhide HA) _).mono ?_
    rintro e w' ⟨rfl, rfl⟩
    go_wp2_with fail
    refine bodyPost_ret (v := .agg #[.int .i64 1, .slice none 0 0]) (by simp [results, Tryz.results157, go_sem, r0, r1]) rfl ⟨none, 0, rfl, World.ownsRow_nil _ _ _ _, ?_⟩
    exact ((unhide HB1).setCell (p := ⟨w.heap.size, _, none⟩) (by show w.heap.size ≤ w.heap.size; omega) _).setCell (p := ⟨w.heap.size, _, none⟩) (by show w.heap.size ≤ w.heap.size; omega) _

end Go.Proofs.YtnmbdannipebnaaGreatDoor

/- What is proved here: what the program's checkCommits answers: nil where every commit is that of its first bytes, else a notBorne. -/
namespace Go.Proofs.YtnmbdannipebnaaGreatDoor
open Go.RowKit
set_option linter.unusedVariables false
set_option maxRecDepth 100000

/-- An error of checkCommits. -/
def ckV (ok : Bool) (v : Value) : Prop := if ok then v = .nilIface else ∃ t : ByteArray, v = .iface 188 (.agg #[.string t])

/-- No commit's slice is shorter in room than it is long. -/
def BsCap (w : World) (a : Option Addr) (len : Nat) : Prop := ∀ b off, a = some ⟨b, off, none⟩ → ∀ i, i < len → ∃ sa sl sc, w.cell? ⟨b, off + i, none⟩ = some (.slice sa sl sc) ∧ sl ≤ sc

theorem BsCap.below {w w' : World} {a : Option Addr} {len : Nat} (h : BsCap w a len) {B : Nat} (hb : Below B w w') (hB : w.heap.size ≤ B) : BsCap w' a len := by
  intro b off e i hi
  obtain ⟨sa, sl, sc, hc, hn⟩ := h b off e i hi
  exact ⟨sa, sl, sc, (hb.cell (Nat.lt_of_lt_of_le (lt_of_cell hc) hB)).trans hc, hn⟩

set_option maxHeartbeats 8000000 in
theorem checkCommits_any (x : HS) (h : Hd) (w : World) (o : HOk w x h) (nn : HNil w x) (bc : BsCap w x.k.a x.k.n) (m : HSm h) (hv : Laid w) (hf : hdFlt h = 0) :
    Calls Tryz.prog 200 #[.agg (hvals x h)] w fun e w' => ∃ v, e = .returned v ∧ ckV (coAll h h.k) v ∧ Below w.heap.size w w' := by
  have hfl := fldB1
  have kb := SBlk.new w (hvals x h) 42
  have bb := below_alloc w (.cells (hvals x h) 42)
  obtain ⟨W0, eb⟩ : ∃ W0, w.alloc (.cells (hvals x h) 42) = W0 := ⟨_, rfl⟩
  rw [eb] at kb bb
  have HRR := hide (fun (W : World) (hb : Below W0.heap.size W0 W) => hcells (kb.below hb kb.lt))
  obtain ⟨x0, x1, x2, x3, x4, x5, x6, x7, x8, x9, x10⟩ := hcells kb
  have K := implHash_any x h W0 (o.below bb (Nat.le_refl _)) (nn.below bb (Nat.le_refl _)) m (hv.below bb (Nat.le_refl _))
  have e1 : hsBytes h = hash1 h := if_pos hf
  have e2 : (hash1 h).length = 32 := kcBytes_good (packL_le (hdFlt_noK hf))
  have hhr : ∀ y ∈ hash1 h, 0 ≤ y ∧ y ≤ 255 := kcBytes_range _ (packL_rng (hdFlt_noK hf) o.noK)
  rw [hf, e1, e2] at K
  have D1 := hide K
  have HHR := hide hhr
  have HH2 := hide e2
  have HK := hide (fun (W : World) (hb : Below W0.heap.size W0 W) => And.intro (o.k.below (bb.trans (hb.mono bb.size)) (Nat.le_refl _)) (And.intro (nn.k.below (bb.trans (hb.mono bb.size)) (Nat.le_refl _)) (bc.below (bb.trans (hb.mono bb.size)) (Nat.le_refl _))))
  have HKZ : Hid (∀ z ∈ h.k, z.length = 8) := fun z hz => by
    have hk : coFlt h.k = 0 := by
      unfold hdFlt at hf
      split at hf
      · omega
      · split at hf
        · omega
        · split at hf
          · exact hf
          · rename_i q; exact absurd hf q
    unfold coFlt at hk
    split at hk
    · omega
    · exact coFrom_zero h.k hk z hz
  have HKL := hide o.k.1
  have HK7 : Hid (x.k.n ≤ 7) := by show _ ≤ _; rw [← o.k.1]; exact (good_of hf).k
  have HLV := hide (fun (W : World) (hb : Below W0.heap.size W0 W) => hv.below (bb.trans (hb.mono bb.size)) (Nat.le_refl _))
  have HBB := hide bb
  have EB := hide eb
  clear eb o nn bc m hv hf kb bb K e1 e2 hhr
  unfold hvals at EB D1 ⊢
  go_enter Tryz.func200, Tryz.ntmps200
  go_upto_region 1 with fail
  rw [unhide EB]
  clear EB
  go_wp2_with fail
  refine (unhide D1).mono ?_
  rintro e w1 ⟨a1, c1, rfl, o1, b1⟩
  obtain ⟨y0, y1, y2, y3, y4, y5, y6, y7, y8, y9, y10⟩ := (unhide HRR) w1 b1
  clear x0 x1 x2 x3 x4 x5 x6 x7 x8 x9 x10 D1
  go_wp2_with fail
  have HO1 := hide (BRow.own2 o1 (unhide HHR))
  have HC1 := hide (own_cap o1)
  have HB1 := hide b1
  have HCA : Hid (coAll h (h.k.take 0) = true) := rfl
  clear y0 y1 y2 y3 y4 y5 y6 y7 y8 y9 y10 o1 b1
  go_loopw [14] (fun i wr => ∃ j : Nat, j ≤ x.k.n ∧ i = .int .i64 j ∧ coAll h (h.k.take j) = true ∧ Below w1.heap.size w1 wr) (fun i _ => x.k.n - (intOf i).toNat)
  case atStart => exact ⟨0, Nat.zero_le _, rfl, unhide HCA, Below.refl _ _⟩
  case round =>
    obtain ⟨j, hj, rfl, hca, hbr⟩ := hrel
    clear HCA
    have L := (unhide HB1).trans (hbr.mono (unhide HB1).size)
    obtain ⟨krow, knil, kcap⟩ := (unhide HK) wr L
    have hn7 := unhide HK7
    by_cases hlt : j < x.k.n
    · obtain ⟨z, hit⟩ : ∃ z, h.k[j]? = some z := ⟨_, List.getElem?_eq_getElem (by rw [unhide HKL]; exact hlt)⟩
      obtain ⟨b0, off, hxa, _, hat⟩ := krow.at (by omega)
      obtain ⟨s1, n1, d1, c0, r1⟩ := hat j z hit
      obtain ⟨s1', n1', d1', c0', hcp⟩ := kcap b0 off hxa j hlt
      rw [c0] at c0'
      simp only [Option.some.injEq, Value.slice.injEq] at c0'
      obtain ⟨rfl, rfl, rfl⟩ := c0'
      have hz8 := (unhide HKZ) z (List.mem_of_getElem? hit)
      have hn1 : n1 = 8 := by have := r1.1; omega
      subst hn1
      have hz4 : (z.take 4).length = 4 := by rw [List.length_take]; omega
      have DA := hide (committerIn_any s1 d1 z wr r1 hcp)
      have DB : Hid (∀ W a2 c2, Below wr.heap.size wr W → W.ownsRow wr.heap.size 5 1 (.slice a2 4 c2) 4 ((z.take 4).map (Value.int .u8)) → Calls Tryz.prog 157 #[.slice a2 4 c2, .slice a1 32 c1] W fun e w' => ∃ a3 c3, e = .returned (.agg #[.int .i64 0, .slice a3 8 c3]) ∧ BRow w' a3 8 (z.take 4 ++ markL (z.take 4) (hash1 h)) ∧ BRow w' a2 4 (z.take 4) ∧ Below wr.heap.size wr w') := fun W a2 c2 hb ho => by
        have rz4 : ∀ y ∈ z.take 4, 0 ≤ y ∧ y ≤ 255 := fun y hy => r1.2.1 y (List.mem_of_mem_take hy)
        have ra := BRow.own2 ho rz4
        have hb1 := hbr.trans (hb.mono hbr.size)
        have K := implCommit_any a2 4 c2 a1 32 c1 (z.take 4) (hash1 h) W ra ((unhide HO1).below hb1 (Nat.le_refl _)) (own_cap ho) (unhide HC1) (by omega) (by omega) ((unhide HLV) W ((unhide HB1).trans (hb1.mono (unhide HB1).size)))
        have e3 : slCode (z.take 4) (hash1 h) = 0 := if_pos ⟨hz4, unhide HH2⟩
        have e4 : cmBytes (z.take 4) (hash1 h) = z.take 4 ++ markL (z.take 4) (hash1 h) := if_pos ⟨hz4, unhide HH2⟩
        have e5 : (z.take 4 ++ markL (z.take 4) (hash1 h)).length = 8 := by rw [List.length_append, mark4 hz4 (unhide HH2), hz4]
        rw [e3, e4, e5] at K
        refine K.mono ?_
        rintro e w' ⟨a3, c3, rfl, ho3, hb'⟩
        exact ⟨a3, c3, rfl, BRow.own2 ho3 (append_rng rz4 (markL_rng rz4 (unhide HHR))), ra.below hb' (Nat.le_refl _), hb.trans (hb'.mono hb.size)⟩
      have DC := hide (fun (W : World) (a2 : Option Addr) (c2 : Nat) (a3 : Option Addr) (c3 : Nat) (hb : Below wr.heap.size wr W) (ra : BRow W a2 4 (z.take 4)) (rb : BRow W a3 8 (z.take 4 ++ markL (z.take 4) (hash1 h))) => bearing_any a2 4 c2 s1 8 d1 a3 8 c3 (z.take 4) z _ W ra (r1.below hb (Nat.le_refl _)) rb (by omega))
      have hs := coAll_succ h h.k j z hit
      rw [hca, Bool.true_and] at hs
      have hbd := coAll_bad h h.k j z hit
      have HS := hide hs
      have HBD := hide hbd
      have HBV : Hid (brV (z.take 4) z (z.take 4 ++ markL (z.take 4) (hash1 h)) = if coOk h z then .nilIface else .iface 188 (.agg #[.string (hoText (z.take 4))])) := rfl
      generalize brV (z.take 4) z (z.take 4 ++ markL (z.take 4) (hash1 h)) = V at DC HBV
      generalize hoText (z.take 4) = TX at HBV
      generalize z.take 4 ++ markL (z.take 4) (hash1 h) = CM at DB DC
      generalize z.take 4 = Z4 at DA DB DC
      generalize coOk h z = t at HS HBD HBV
      have k1 : (0 : Int) ≤ (j : Int) := by omega
      have k2 : (j : Int) < (x.k.n : Int) := by omega
      rw [hxa]
      have HW := hide hbr
      have HLL := hide L
      clear hs hbd hat r1 hit hca hbr L krow knil kcap hz8 hz4 hcp
      go_wp2_with fail
      refine (unhide DA).mono ?_
      rintro e w2 ⟨a2, c2, rfl, o2, b2⟩
      have D3 := hide ((unhide DB) w2 a2 c2 b2 o2)
      clear DA o2 b2
      go_wp2_with fail
      refine (unhide D3).mono ?_
      rintro e w3 ⟨a3, c3, rfl, r3, r2, b3⟩
      have D4 := hide ((unhide DC) w3 a2 c2 a3 c3 b3 r2 r3)
      have HB3 := hide b3
      clear D3 DB DC r3 r2 b3
      go_wp2_with fail
      refine (unhide D4).mono ?_
      rintro e w4 ⟨rfl, b4⟩
      have HB4 := hide ((unhide HB3).trans (b4.mono (unhide HB3).size))
      clear D4 b4
      cases t
      · have HV : Hid (V = .iface 188 (.agg #[.string TX])) := unhide HBV
        rw [unhide HV]
        have hcf := (unhide HBD) rfl
        have HFIN := hide ((unhide HBB).trans (((unhide HLL).trans ((unhide HB4).mono (unhide HLL).size)).mono (unhide HBB).size))
        clear HBV HV HBD HS
        go_wp2_with fail
        go_ret
        exact ⟨_, rfl, by rw [hcf]; exact ⟨TX, rfl⟩, unhide HFIN⟩
      · have HV : Hid (V = .nilIface) := unhide HBV
        rw [unhide HV]
        have HN := hide ((unhide HW).trans ((unhide HB4).mono (unhide HW).size))
        clear HBV HV HBD
        go_wp2_with fail
        go_roundw
        case rel => exact ⟨j + 1, by omega, by go_num, unhide HS, unhide HN⟩
        case measure => simp [intOf]; omega
    · obtain rfl : j = x.k.n := by omega
      have et : h.k.take x.k.n = h.k := List.take_of_length_le (by rw [unhide HKL]; exact Nat.le_refl _)
      rw [et] at hca
      have HCA := hide hca
      have HFIN := hide ((unhide HBB).trans (L.mono (unhide HBB).size))
      clear et hca hbr L krow knil kcap
      go_wp2_with fail
      go_ret
      exact ⟨_, rfl, by rw [unhide HCA]; exact rfl, unhide HFIN⟩

end Go.Proofs.YtnmbdannipebnaaGreatDoor

/- What is proved here: what the program's SealOf answers: the code, and a seal in new memory. -/
namespace Go.Proofs.YtnmbdannipebnaaGreatDoor
open Go.RowKit
set_option linter.unusedVariables false
set_option maxRecDepth 100000

set_option maxRecDepth 100000 in
set_option maxHeartbeats 2000000 in
theorem implSeal_any (a : Option Addr) (n c : Nat) (b : Option Addr) (m d : Nat) (xs ys : List Int) (w : World) (h : BRow w a n xs) (k : BRow w b m ys) (hc : a = none → c = 0) (hd : b = none → d = 0) (hn : n ≤ 1048576) (hm : m ≤ 1048576) (hv : Laid w) :
    Calls Tryz.prog 169 #[.slice a n c, .slice b m d] w fun e w' => ∃ a' c', e = .returned (.agg #[.int .i64 (slCode xs ys), .slice a' (slBytes xs ys).length c']) ∧
      w'.ownsRow w.heap.size 5 1 (.slice a' (slBytes xs ys).length c') (slBytes xs ys).length ((slBytes xs ys).map (Value.int .u8)) ∧ Below w.heap.size w w' := by
  have hxl := h.1
  have hyl := k.1
  have HA := hide (fun W => isAddr_any a n c W)
  have HH := hide (fun W => isHash_any b m d W)
  have kr := SBlk.new w #[.int .i64 0, .slice none 0 0] 90
  have b1 := below_alloc w (.cells #[.int .i64 0, .slice none 0 0] 90)
  have z1 : (w.alloc (.cells #[.int .i64 0, .slice none 0 0] 90)).heap.size = w.heap.size + 1 := by simp
  obtain ⟨W1, e1⟩ : ∃ W1, w.alloc (.cells #[.int .i64 0, .slice none 0 0] 90) = W1 := ⟨_, rfl⟩
  rw [e1] at kr b1 z1
  have r0 := kr.cell 0
  have r1 := kr.cell 1
  have f0 := kr.free 0
  have f1 := kr.free 1
  simp only [List.getElem?_cons_zero, List.getElem?_cons_succ] at r0 r1
  have HB1 := hide b1
  have E1 := hide e1
  clear e1
  by_cases h1 : n = 4
  · by_cases h2 : m = 32
    · subst h1 h2
      have e1 : slCode xs ys = 0 := if_pos ⟨hxl, hyl⟩
      have e2 : slBytes xs ys = sealL xs ys := if_pos ⟨hxl, hyl⟩
      have e3 := seal4 hxl hyl
      have hz2 : (W1.alloc (.cells #[.slice a 4 c, .slice b 32 d] 29)).heap.size = w.heap.size + 2 := by simp; omega
      have D : Hid (Calls Tryz.prog 189 #[.slice (some ⟨w.heap.size + 1, 0, none⟩) 2 2] (W1.alloc (.cells #[.slice a 4 c, .slice b 32 d] 29)) fun e w' => ∃ a' c', e = .returned (.slice a' 4 c') ∧ w'.ownsRow (w.heap.size + 2) 5 1 (.slice a' 4 c') 4 ((sealL xs ys).map (Value.int .u8)) ∧ Below (w.heap.size + 1) W1 w') := by
        have b2 := below_alloc W1 (.cells #[.slice a 4 c, .slice b 32 d] 29)
        obtain ⟨R, N⟩ := two_row W1 a 4 c xs b 32 d ys 29 (h.below b1 (Nat.le_refl _)) (k.below b1 (Nat.le_refl _)) hn hm hc hd
        rw [z1] at R N
        have ef : [xs, ys].flatten = xs ++ ys := by simp
        have K := markOf_any _ 2 2 [xs, ys] _ R N (by omega) (by rw [ef]; simp; omega) (by rw [ef]; simp; omega) ((hv.below b1 (Nat.le_refl _)).below b2 (Nat.le_refl _))
        rw [ef] at K
        rw [hz2] at K
        refine K.mono ?_
        rintro e w' ⟨a', c', rfl, ho, hb⟩
        exact ⟨a', c', rfl, ho, by rw [z1] at b2; exact b2.trans (hb.mono (by omega))⟩
      have HK := hide (fun (W' : World) (hb : Below (w.heap.size + 1) W1 W') => kr.below hb (by omega))
      rw [e1, e2, e3]
      clear e1 e2 e3 h k hv hxl hyl hc hd kr r0 r1 f0 f1 b1 hz2
      generalize sealL xs ys = SL at D ⊢
      go_enter Tryz.func169, Tryz.ntmps169
      go_upto_region 1 with fail
      rw [unhide E1]
      clear E1
      go_wp2_with fail
      refine ((unhide HA) _).mono ?_
      rintro e w' ⟨rfl, rfl⟩
      go_wp2_with fail
      refine ((unhide HH) _).mono ?_
      rintro e w' ⟨rfl, rfl⟩
      go_wp2_with fail
      refine (unhide D).mono ?_
      rintro e w3 ⟨a3, c3, rfl, o3, b3⟩
      have kr3 := (unhide HK) w3 b3
      have r0 := kr3.cell 0
      have r1 := kr3.cell 1
      have f0 := kr3.free 0
      have f1 := kr3.free 1
      simp only [List.getElem?_cons_zero, List.getElem?_cons_succ] at r0 r1
      have HB3 := hide ((unhide HB1).trans (b3.mono (by omega)))
      have HO3 := hide o3
      clear kr3 o3 b3 D HK
      go_wp2_with fail
      refine bodyPost_ret (v := .agg #[.int .i64 0, .slice a3 4 c3]) (by simp [results, Tryz.results169, go_sem, r0, r1]) rfl ⟨a3, c3, rfl, ?_, ?_⟩
      · exact ownsRow_base (ownsRow_setCell_below (ownsRow_setCell_below (unhide HO3) (by show w.heap.size < w.heap.size + 2; omega) _) (by show w.heap.size < w.heap.size + 2; omega) _) (by omega)
      · exact ((unhide HB3).setCell (p := ⟨w.heap.size, _, none⟩) (by show w.heap.size ≤ w.heap.size; omega) _).setCell (p := ⟨w.heap.size, _, none⟩) (by show w.heap.size ≤ w.heap.size; omega) _
    · have e1 : slCode xs ys = 1 := if_neg (fun q => h2 (by omega))
      have e2 : slBytes xs ys = [] := if_neg (fun q => h2 (by omega))
      have q1 : (((n : Nat) : Int) == 4) = true := by simp; omega
      have q2 : (((m : Nat) : Int) == 32) = false := by simp; omega
      simp only [q1] at HA
      simp only [q2] at HH
      rw [e1, e2]
      clear e1 e2 h k hv hxl hyl hc hd kr b1 q1 q2 h1 h2
      go_enter Tryz.func169, Tryz.ntmps169
      go_upto_region 1 with fail
      rw [unhide E1]
      clear E1
      go_wp2_with fail
      refine ((unhide HA) _).mono ?_
      rintro e w' ⟨rfl, rfl⟩
      go_wp2_with fail
      refine ((unhide HH) _).mono ?_
      rintro e w' ⟨rfl, rfl⟩
      go_wp2_with fail
      refine bodyPost_ret (v := .agg #[.int .i64 1, .slice none 0 0]) (by simp [results, Tryz.results169, go_sem, r0, r1]) rfl ⟨none, 0, rfl, World.ownsRow_nil _ _ _ _, ?_⟩
      exact ((unhide HB1).setCell (p := ⟨w.heap.size, _, none⟩) (by show w.heap.size ≤ w.heap.size; omega) _).setCell (p := ⟨w.heap.size, _, none⟩) (by show w.heap.size ≤ w.heap.size; omega) _
  · have e1 : slCode xs ys = 1 := if_neg (fun q => h1 (by omega))
    have e2 : slBytes xs ys = [] := if_neg (fun q => h1 (by omega))
    have q1 : (((n : Nat) : Int) == 4) = false := by simp; omega
    simp only [q1] at HA
    rw [e1, e2]
    clear e1 e2 h k hv hxl hyl hc hd kr b1 q1 h1
    go_enter Tryz.func169, Tryz.ntmps169
    go_upto_region 1 with fail
    rw [unhide E1]
    clear E1
    go_wp2_with fail
    refine ((unhide HA) _).mono ?_
    rintro e w' ⟨rfl, rfl⟩
    go_wp2_with fail
    refine bodyPost_ret (v := .agg #[.int .i64 1, .slice none 0 0]) (by simp [results, Tryz.results169, go_sem, r0, r1]) rfl ⟨none, 0, rfl, World.ownsRow_nil _ _ _ _, ?_⟩
    exact ((unhide HB1).setCell (p := ⟨w.heap.size, _, none⟩) (by show w.heap.size ≤ w.heap.size; omega) _).setCell (p := ⟨w.heap.size, _, none⟩) (by show w.heap.size ≤ w.heap.size; omega) _

end Go.Proofs.YtnmbdannipebnaaGreatDoor

/- What is proved here: what the program's sealFor answers: the seal of a header without a fault. -/
namespace Go.Proofs.YtnmbdannipebnaaGreatDoor
open Go.RowKit
set_option linter.unusedVariables false
set_option maxRecDepth 100000

/-- The seal of a header. -/
def sealH (h : Hd) : List Int := sealL h.g (kcBytes (packL (noK (noE h))))

set_option maxHeartbeats 8000000 in
theorem sealFor_any (x : HS) (h : Hd) (w : World) (o : HOk w x h) (nn : HNil w x) (m : HSm h) (hv : Laid w) (hf : hdFlt h = 0) :
    Calls Tryz.prog 142 #[.agg (hvals x h)] w fun e w' => ∃ a c, e = .returned (.slice a 4 c) ∧
      w'.ownsRow w.heap.size 5 1 (.slice a 4 c) 4 ((sealH h).map (Value.int .u8)) ∧ Below w.heap.size w w' := by
  have hfl := fldB1
  have kb := SBlk.new w (hvals x h) 42
  have bb := below_alloc w (.cells (hvals x h) 42)
  obtain ⟨W0, eb⟩ : ∃ W0, w.alloc (.cells (hvals x h) 42) = W0 := ⟨_, rfl⟩
  rw [eb] at kb bb
  have HRR : Hid (∀ W, Below W0.heap.size W0 W → (W.cell? ⟨w.heap.size, 0, none⟩ = some (.slice x.p.a x.p.n x.p.c) ∧ W.cell? ⟨w.heap.size, 1, none⟩ = some (.int .i64 h.n1) ∧ W.cell? ⟨w.heap.size, 2, none⟩ = some (.int .i64 h.n2) ∧ W.cell? ⟨w.heap.size, 3, none⟩ = some (.int .i64 h.n3) ∧ W.cell? ⟨w.heap.size, 4, none⟩ = some (.slice x.t.a x.t.n x.t.c) ∧ W.cell? ⟨w.heap.size, 5, none⟩ = some (.int .i64 h.n5) ∧ W.cell? ⟨w.heap.size, 6, none⟩ = some (.slice x.s.a x.s.n x.s.c) ∧ W.cell? ⟨w.heap.size, 7, none⟩ = some (.slice x.r.a x.r.n x.r.c) ∧ W.cell? ⟨w.heap.size, 8, none⟩ = some (.slice x.g.a x.g.n x.g.c) ∧ W.cell? ⟨w.heap.size, 9, none⟩ = some (.slice x.e.a x.e.n x.e.c) ∧ W.cell? ⟨w.heap.size, 10, none⟩ = some (.slice x.k.a x.k.n x.k.c))) := fun W hb => hcells (kb.below hb kb.lt)
  have HSH : Hid (∀ W, Below W0.heap.size W0 W → Calls Tryz.prog 170 #[.agg (hvals x h)] W fun e w' => ∃ a c, e = .returned (.agg #[.int .i64 0, .slice a 32 c]) ∧ (a = none → c = 0) ∧ BRow w' a 32 (kcBytes (packL (noK (noE h)))) ∧ Below W0.heap.size W0 w') := fun W hb => by
    have b1 := bb.trans (hb.mono bb.size)
    have K := implSealHash_any x h W (o.below b1 (Nat.le_refl _)) (nn.below b1 (Nat.le_refl _)) m (hv.below b1 (Nat.le_refl _))
    have e1 : shBytes h = kcBytes (packL (noK (noE h))) := if_pos hf
    have e2 : (kcBytes (packL (noK (noE h)))).length = 32 := kcBytes_good (packL_le (hdFlt_noK (hdFlt_noE hf)))
    rw [hf, e1, e2] at K
    refine K.mono ?_
    rintro e w' ⟨a, c, rfl, ho, hb'⟩
    exact ⟨a, c, rfl, own_cap ho, BRow.own2 ho (kcBytes_range _ (packL_rng (hdFlt_noK (hdFlt_noE hf)) o.noE.noK)), hb.trans (hb'.mono hb.size)⟩
  have HSO : Hid (∀ W a c, Below W0.heap.size W0 W → (a = none → c = 0) → BRow W a 32 (kcBytes (packL (noK (noE h)))) → Calls Tryz.prog 169 #[.slice x.g.a x.g.n x.g.c, .slice a 32 c] W fun e w' => ∃ a' c', e = .returned (.agg #[.int .i64 0, .slice a' 4 c']) ∧ w'.ownsRow w.heap.size 5 1 (.slice a' 4 c') 4 ((sealH h).map (Value.int .u8)) ∧ Below W0.heap.size W0 w') := fun W a c hb hc hr => by
    have b1 := bb.trans (hb.mono bb.size)
    have g4 : h.g.length = 4 := (good_of hf).g
    have e2 : (kcBytes (packL (noK (noE h)))).length = 32 := kcBytes_good (packL_le (hdFlt_noK (hdFlt_noE hf)))
    have g5 := o.g.1
    have K := implSeal_any x.g.a x.g.n x.g.c a 32 c h.g (kcBytes (packL (noK (noE h)))) W (o.g.below b1 (Nat.le_refl _)) hr nn.g hc (by omega) (by omega) (hv.below b1 (Nat.le_refl _))
    have e3 : slCode h.g (kcBytes (packL (noK (noE h)))) = 0 := if_pos ⟨g4, e2⟩
    have e4 : slBytes h.g (kcBytes (packL (noK (noE h)))) = sealH h := if_pos ⟨g4, e2⟩
    have e5 : (sealH h).length = 4 := seal4 g4 e2
    rw [e3, e4, e5] at K
    refine K.mono ?_
    rintro e w' ⟨a', c', rfl, ho, hb'⟩
    exact ⟨a', c', rfl, ownsRow_base ho b1.size, hb.trans (hb'.mono hb.size)⟩
  have HBB := hide bb
  have EB := hide eb
  clear eb o nn m hv hf kb bb
  generalize kcBytes (packL (noK (noE h))) = KB at HSH HSO
  generalize sealH h = SL at HSO ⊢
  unfold hvals at EB HSH ⊢
  go_enter Tryz.func142, Tryz.ntmps142
  go_upto_region 1 with fail
  rw [unhide EB]
  clear EB
  go_region_held3 (fun W => (W.cell? ⟨w.heap.size, 0, none⟩ = some (.slice x.p.a x.p.n x.p.c) ∧ W.cell? ⟨w.heap.size, 1, none⟩ = some (.int .i64 h.n1) ∧ W.cell? ⟨w.heap.size, 2, none⟩ = some (.int .i64 h.n2) ∧ W.cell? ⟨w.heap.size, 3, none⟩ = some (.int .i64 h.n3) ∧ W.cell? ⟨w.heap.size, 4, none⟩ = some (.slice x.t.a x.t.n x.t.c) ∧ W.cell? ⟨w.heap.size, 5, none⟩ = some (.int .i64 h.n5) ∧ W.cell? ⟨w.heap.size, 6, none⟩ = some (.slice x.s.a x.s.n x.s.c) ∧ W.cell? ⟨w.heap.size, 7, none⟩ = some (.slice x.r.a x.r.n x.r.c) ∧ W.cell? ⟨w.heap.size, 8, none⟩ = some (.slice x.g.a x.g.n x.g.c) ∧ W.cell? ⟨w.heap.size, 9, none⟩ = some (.slice x.e.a x.e.n x.e.c) ∧ W.cell? ⟨w.heap.size, 10, none⟩ = some (.slice x.k.a x.k.n x.k.c)))
    (exact (unhide HRR) _ (by first | assumption | exact (Below.refl W0.heap.size W0).drew | exact below_drewN (Below.refl W0.heap.size W0) _ | exact below_drewN (by assumption) _))
    (first
      | (go_at_call 170; refine ((unhide HSH) _ (by first | exact (Below.refl W0.heap.size W0).drew | exact below_drewN (Below.refl W0.heap.size W0) _)).mono ?_; rintro e w1 ⟨a1, c1, rfl, hc1, r1, K1⟩)
      | (go_at_call 169; refine ((unhide HSO) _ a1 c1 K1 hc1 r1).mono ?_; rintro e w2 ⟨a2, c2, rfl, o2, K2⟩))
  all_goals
    have HB2 := hide ((unhide HBB).trans (K2.mono (unhide HBB).size))
    have HO2 := hide o2
    clear HRR HSH HSO K1 K2 r1 hc1 o2
    go_wp2_with fail
    go_ret
    exact ⟨a2, c2, rfl, unhide HO2, unhide HB2⟩

end Go.Proofs.YtnmbdannipebnaaGreatDoor

/- What is proved here: what the program's SealRight answers: whether there is no fault, and the seal is that of the header. -/
namespace Go.Proofs.YtnmbdannipebnaaGreatDoor
open Go.RowKit
set_option linter.unusedVariables false
set_option maxRecDepth 100000

/-- What SealRight answers. -/
def srB (h : Hd) : Bool := if hdFlt h = 0 then strEq h.e (sealH h) else false

theorem isUnborne_br (xs ys zs : List Int) (w : World) (hg : LaidE w) : Calls Tryz.prog 140 #[brV xs ys zs] w fun e w' => e = .returned (.bool (!strEq ys zs)) ∧ Below w.heap.size w w' := by
  unfold brV
  cases strEq ys zs
  · exact isUnborne_hit _ w hg
  · exact isUnborne_nil w

set_option maxHeartbeats 8000000 in
theorem implRight_any (x : HS) (h : Hd) (w : World) (o : HOk w x h) (nn : HNil w x) (m : HSm h) (hv : Laid w) (hE : LaidE w) :
    Calls Tryz.prog 89 #[.agg (hvals x h)] w fun e w' => e = .returned (.bool (srB h)) ∧ Below w.heap.size w w' := by
  have kb := SBlk.new w (hvals x h) 42
  have bb := below_alloc w (.cells (hvals x h) 42)
  obtain ⟨W0, eb⟩ : ∃ W0, w.alloc (.cells (hvals x h) 42) = W0 := ⟨_, rfl⟩
  rw [eb] at kb bb
  have D1 := hide (implHeaderFault_any x h W0 (o.below bb (Nat.le_refl _)) m)
  have HRR : Hid (∀ W, Below W0.heap.size W0 W → (W.cell? ⟨w.heap.size, 0, none⟩ = some (.slice x.p.a x.p.n x.p.c) ∧ W.cell? ⟨w.heap.size, 1, none⟩ = some (.int .i64 h.n1) ∧ W.cell? ⟨w.heap.size, 2, none⟩ = some (.int .i64 h.n2) ∧ W.cell? ⟨w.heap.size, 3, none⟩ = some (.int .i64 h.n3) ∧ W.cell? ⟨w.heap.size, 4, none⟩ = some (.slice x.t.a x.t.n x.t.c) ∧ W.cell? ⟨w.heap.size, 5, none⟩ = some (.int .i64 h.n5) ∧ W.cell? ⟨w.heap.size, 6, none⟩ = some (.slice x.s.a x.s.n x.s.c) ∧ W.cell? ⟨w.heap.size, 7, none⟩ = some (.slice x.r.a x.r.n x.r.c) ∧ W.cell? ⟨w.heap.size, 8, none⟩ = some (.slice x.g.a x.g.n x.g.c) ∧ W.cell? ⟨w.heap.size, 9, none⟩ = some (.slice x.e.a x.e.n x.e.c) ∧ W.cell? ⟨w.heap.size, 10, none⟩ = some (.slice x.k.a x.k.n x.k.c))) := fun W hb => hcells (kb.below hb kb.lt)
  obtain ⟨x0, x1, x2, x3, x4, x5, x6, x7, x8, x9, x10⟩ := hcells kb
  have HSF : Hid (hdFlt h = 0 → ∀ W, Below W0.heap.size W0 W → Calls Tryz.prog 142 #[.agg (hvals x h)] W fun e w' => ∃ a c, e = .returned (.slice a 4 c) ∧ BRow w' a 4 (sealH h) ∧ Below W0.heap.size W0 w') := fun hf W hb => by
    have b1 := bb.trans (hb.mono bb.size)
    refine (sealFor_any x h W (o.below b1 (Nat.le_refl _)) (nn.below b1 (Nat.le_refl _)) m (hv.below b1 (Nat.le_refl _)) hf).mono ?_
    rintro e w' ⟨a, c, rfl, ho, hb'⟩
    exact ⟨a, c, rfl, BRow.own2 ho (sealL_rng o.g.2.1 (kcBytes_range _ (packL_rng (hdFlt_noK (hdFlt_noE hf)) o.noE.noK))), hb.trans (hb'.mono hb.size)⟩
  have HBR : Hid (∀ W a c, Below W0.heap.size W0 W → BRow W a 4 (sealH h) → Calls Tryz.prog 141 #[.slice x.g.a x.g.n x.g.c, .slice x.e.a x.e.n x.e.c, .slice a 4 c] W fun e w' => e = .returned (brV h.g h.e (sealH h)) ∧ Below W0.heap.size W0 w') := fun W a c hb hr => by
    have b1 := bb.trans (hb.mono bb.size)
    have g1 := o.g.1
    have g2 := m.g
    refine (bearing_any x.g.a x.g.n x.g.c x.e.a x.e.n x.e.c a 4 c h.g h.e (sealH h) W (o.g.below b1 (Nat.le_refl _)) (o.e.below b1 (Nat.le_refl _)) hr (by omega)).mono ?_
    rintro e w' ⟨rfl, hb'⟩
    exact ⟨rfl, hb.trans (hb'.mono hb.size)⟩
  have HUB : Hid (∀ W, Below W0.heap.size W0 W → Calls Tryz.prog 140 #[brV h.g h.e (sealH h)] W fun e w' => e = .returned (.bool (!strEq h.e (sealH h))) ∧ Below W0.heap.size W0 w') := fun W hb => by
    have b1 := bb.trans (hb.mono bb.size)
    refine (isUnborne_br h.g h.e (sealH h) W (hE.below b1 (Nat.le_refl _))).mono ?_
    rintro e w' ⟨rfl, hb'⟩
    exact ⟨rfl, hb.trans (hb'.mono hb.size)⟩
  have HPB : Hid (srB h = if hdFlt h = 0 then strEq h.e (sealH h) else false) := rfl
  have HBB := hide bb
  have EB := hide eb
  clear eb o nn m hv hE kb bb
  generalize hdFlt h = q at D1 HSF HPB
  generalize srB h = R at HPB ⊢
  generalize brV h.g h.e (sealH h) = V at HBR HUB
  generalize strEq h.e (sealH h) = t at HUB HPB
  generalize sealH h = SL at HSF HBR
  unfold hvals at EB D1 HSF ⊢
  go_enter Tryz.func89, Tryz.ntmps89
  go_upto_region 1 with fail
  rw [unhide EB]
  clear EB
  go_wp2_with fail
  refine (unhide D1).mono ?_
  rintro e w2 ⟨rfl, b2⟩
  clear D1 x0 x1 x2 x3 x4 x5 x6 x7 x8 x9 x10
  by_cases hq : q = 0
  · subst hq
    have HPB2 : Hid (R = t) := unhide HPB
    have HSF2 := hide ((unhide HSF) (by first | exact rfl | trivial))
    have HK2 := hide b2
    clear HPB HSF b2
    go_wp2_with fail
    go_region_held3 (fun W => (W.cell? ⟨w.heap.size, 0, none⟩ = some (.slice x.p.a x.p.n x.p.c) ∧ W.cell? ⟨w.heap.size, 1, none⟩ = some (.int .i64 h.n1) ∧ W.cell? ⟨w.heap.size, 2, none⟩ = some (.int .i64 h.n2) ∧ W.cell? ⟨w.heap.size, 3, none⟩ = some (.int .i64 h.n3) ∧ W.cell? ⟨w.heap.size, 4, none⟩ = some (.slice x.t.a x.t.n x.t.c) ∧ W.cell? ⟨w.heap.size, 5, none⟩ = some (.int .i64 h.n5) ∧ W.cell? ⟨w.heap.size, 6, none⟩ = some (.slice x.s.a x.s.n x.s.c) ∧ W.cell? ⟨w.heap.size, 7, none⟩ = some (.slice x.r.a x.r.n x.r.c) ∧ W.cell? ⟨w.heap.size, 8, none⟩ = some (.slice x.g.a x.g.n x.g.c) ∧ W.cell? ⟨w.heap.size, 9, none⟩ = some (.slice x.e.a x.e.n x.e.c) ∧ W.cell? ⟨w.heap.size, 10, none⟩ = some (.slice x.k.a x.k.n x.k.c)))
      (exact (unhide HRR) _ (by first | assumption | exact unhide HK2 | exact (unhide HK2).drew | exact below_drewN (unhide HK2) _ | exact below_drewN (by assumption) _))
      (first
        | (go_at_call 142; refine ((unhide HSF2) _ (by first | exact unhide HK2 | exact (unhide HK2).drew | exact below_drewN (unhide HK2) _)).mono ?_; rintro e w3 ⟨a3, c3, rfl, r3, K3⟩)
        | (go_at_call 141; refine ((unhide HBR) _ a3 c3 K3 r3).mono ?_; rintro e w4 ⟨rfl, K4⟩)
        | (go_at_call 140; refine ((unhide HUB) _ K4).mono ?_; rintro e w5 ⟨rfl, K5⟩))
    all_goals
      have HB5 := hide ((unhide HBB).trans (K5.mono (unhide HBB).size))
      clear HRR HSF2 HBR HUB K3 K4 K5 r3
      go_wp2_with fail
      go_ret
      exact ⟨by rw [unhide HPB2]; exact ret_bool (by simp), unhide HB5⟩
  · have hne : (q != 0) = true := by simp [hq]
    have HPB2 : Hid (R = false) := by show _ = _; rw [unhide HPB, if_neg hq]
    have HB2 := hide ((unhide HBB).trans (b2.mono (unhide HBB).size))
    clear hq HPB b2
    go_wp2_with fail
    go_ret
    exact ⟨by rw [unhide HPB2]; rfl, unhide HB2⟩

end Go.Proofs.YtnmbdannipebnaaGreatDoor

/- What is proved here: two lists of bytes are the same as strings just where they are the same. -/
namespace Go.Proofs.YtnmbdannipebnaaGreatDoor
open Go.RowKit
set_option linter.unusedVariables false
set_option maxRecDepth 100000

theorem byteList_loop (bs : ByteArray) (i : Nat) (r : List UInt8) : ByteArray.toList.loop bs i r = r.reverse ++ bs.data.toList.drop i := by
  have hsz : bs.size = bs.data.toList.length := by cases bs; rfl
  induction h : bs.size - i generalizing i r with
  | zero =>
    unfold ByteArray.toList.loop
    have : bs.size ≤ i := by omega
    rw [if_neg (by omega), List.drop_eq_nil_of_le (by omega)]
    simp
  | succ n ih =>
    unfold ByteArray.toList.loop
    have hi : i < bs.size := by omega
    rw [if_pos hi, ih (i+1) _ (by omega)]
    have hi' : i < bs.data.toList.length := by omega
    rw [List.drop_eq_getElem_cons hi', List.reverse_cons, List.append_assoc]
    congr 1
    show _ :: _ = _ :: _
    congr 1
    cases bs with
    | mk d =>
      show d[i]! = d.toList[i]
      have hd : i < d.size := by simpa using hi'
      rw [getElem!_pos d i hd, Array.getElem_toList]

theorem byteList_data (bs : ByteArray) : bs.toList = bs.data.toList := by
  unfold ByteArray.toList
  rw [byteList_loop]; rfl

theorem strEq_dec {xs ys : List Int} (hx : ∀ x ∈ xs, 0 ≤ x ∧ x ≤ 255) (hy : ∀ y ∈ ys, 0 ≤ y ∧ y ≤ 255) : strEq xs ys = decide (xs = ys) := by
  unfold strEq
  rw [byteList_data, byteList_data, strOfNums_data, strOfNums_data]
  by_cases e : xs = ys
  · subst e; simp
  · rw [decide_eq_false e, beq_eq_false_iff_ne]
    intro h
    apply e
    have inj : ∀ (a b : List Int), (∀ x ∈ a, 0 ≤ x ∧ x ≤ 255) → (∀ x ∈ b, 0 ≤ x ∧ x ≤ 255) → a.map (fun n => UInt8.ofNat n.toNat) = b.map (fun n => UInt8.ofNat n.toNat) → a = b := by
      intro a
      induction a with
      | nil => intro b _ _ h; cases b with
        | nil => rfl
        | cons y t => simp at h
      | cons x r ih =>
        intro b ha hb h
        cases b with
        | nil => simp at h
        | cons y t =>
          rw [List.map_cons, List.map_cons, List.cons.injEq] at h
          have h1 := ha x (by simp)
          have h2 := hb y (by simp)
          have e1 : x.toNat = y.toNat := by
            have q := congrArg UInt8.toNat h.1
            simp only [UInt8.toNat_ofNat'] at q
            omega
          rw [show x = y by omega, ih t (fun z hz => ha z (by simp [hz])) (fun z hz => hb z (by simp [hz])) h.2]
    exact inj xs ys hx hy h

end Go.Proofs.YtnmbdannipebnaaGreatDoor

/- What is proved here: plain facts on the order of lists of bytes, and on where one stands among others that rise; no program is named. -/
namespace Go.Proofs.YtnmbdannipebnaaGreatDoor
open Go.RowKit
set_option linter.unusedVariables false
set_option maxRecDepth 100000

/-- How two lists of bytes compare. -/
def cmpB (xs ys : List Int) : Int := Lib.compareBytes (Lib.bytesOf xs) (Lib.bytesOf ys)

theorem cmp_zero : ∀ (a b : List UInt8), Lib.compareBytes a b = 0 ↔ a = b
  | [], [] => by simp [Lib.compareBytes]
  | [], _ :: _ => by simp [Lib.compareBytes]
  | _ :: _, [] => by simp [Lib.compareBytes]
  | x :: a, y :: b => by
    unfold Lib.compareBytes
    by_cases h1 : x < y
    · have hne : x ≠ y := fun e => by subst e; exact UInt8.lt_irrefl _ h1
      simp [h1, hne]
    · by_cases h2 : y < x
      · have hne : x ≠ y := fun e => by subst e; exact h1 h2
        simp [h1, h2, hne]
      · have e : x = y := UInt8.le_antisymm (UInt8.not_lt.1 h2) (UInt8.not_lt.1 h1)
        subst e
        simp [h1, cmp_zero a b]

theorem less_trans : ∀ (a b c : List UInt8), Op.bytesLess a b = true → Op.bytesLess b c = true → Op.bytesLess a c = true
  | _, [], _, h, _ => by simp [Op.bytesLess] at h
  | _, _ :: _, [], _, h => by simp [Op.bytesLess] at h
  | [], _ :: _, _ :: _, _, _ => by simp [Op.bytesLess]
  | x :: a, y :: b, z :: c, h1, h2 => by
    simp only [Op.bytesLess, Bool.or_eq_true, decide_eq_true_eq, Bool.and_eq_true, beq_iff_eq] at h1 h2 ⊢
    rcases h1 with h1 | ⟨rfl, h1⟩
    · rcases h2 with h2 | ⟨rfl, h2⟩
      · exact .inl (UInt8.lt_trans h1 h2)
      · exact .inl h1
    · rcases h2 with h2 | ⟨rfl, h2⟩
      · exact .inl h2
      · exact .inr ⟨rfl, less_trans a b c h1 h2⟩

theorem less_irrefl : ∀ a : List UInt8, Op.bytesLess a a = false
  | [] => rfl
  | x :: a => by simp [Op.bytesLess, less_irrefl a, UInt8.lt_irrefl]

theorem aheadB_def (xs ys : List Int) : aheadB xs ys = Op.bytesLess (Lib.bytesOf xs) (Lib.bytesOf ys) := by
  unfold aheadB
  rw [Lib.strOfNums_toList, Lib.strOfNums_toList]

theorem cmpB_neg (xs ys : List Int) : decide (cmpB xs ys < 0) = aheadB xs ys := by
  rw [aheadB_def]
  exact less_of_compare _ _

theorem aheadB_trans {xs ys zs : List Int} (h1 : aheadB xs ys = true) (h2 : aheadB ys zs = true) : aheadB xs zs = true := by
  rw [aheadB_def] at *
  exact less_trans _ _ _ h1 h2

theorem aheadB_irrefl (xs : List Int) : aheadB xs xs = false := by
  rw [aheadB_def]
  exact less_irrefl _

theorem bytesOf_inj : ∀ (a b : List Int), (∀ x ∈ a, 0 ≤ x ∧ x ≤ 255) → (∀ x ∈ b, 0 ≤ x ∧ x ≤ 255) → Lib.bytesOf a = Lib.bytesOf b → a = b := by
  intro a b ha hb h
  have e := strEq_dec ha hb
  unfold strEq at e
  rw [Lib.strOfNums_toList, Lib.strOfNums_toList, h] at e
  simp at e
  exact e

theorem cmpB_zero {xs ys : List Int} (hx : ∀ x ∈ xs, 0 ≤ x ∧ x ≤ 255) (hy : ∀ x ∈ ys, 0 ≤ x ∧ x ≤ 255) : cmpB xs ys = 0 ↔ xs = ys := by
  unfold cmpB
  rw [cmp_zero]
  exact ⟨bytesOf_inj xs ys hx hy, fun e => by rw [e]⟩

/-- Signers without a fault: each is ahead of the next one. -/
theorem sgFrom_rise (zss : List (List Int)) : ∀ (n k : Nat), n = zss.length - k → sgFrom zss k (zss.drop k) = 0 → ∀ i z, k ≤ i → zss[i]? = some z → z.length = 4 ∧ (0 < i → aheadB (zss.getD (i - 1) []) z = true) := by
  intro n
  induction n with
  | zero =>
    intro k hk h i z hi hz
    have := (List.getElem?_eq_some_iff.1 hz).1
    omega
  | succ n ih =>
    intro k hk h i z hi hz
    obtain ⟨y, hy⟩ : ∃ y, zss[k]? = some y := ⟨_, List.getElem?_eq_getElem (by omega)⟩
    rw [sgFrom_step zss k y hy] at h
    split at h
    · omega
    · rename_i hb
      by_cases e : i = k
      · subst e
        obtain rfl : y = z := Option.some.inj (hy.symm.trans hz)
        unfold sgBad at hb
        simp only [Bool.or_eq_true, bne_iff_ne, ne_eq, Bool.and_eq_true, decide_eq_true_eq, Bool.not_eq_true', not_or, Decidable.not_not, not_and, Bool.not_eq_false] at hb
        exact ⟨hb.1, hb.2⟩
      · exact ih (k + 1) (by omega) h i z (by omega) hz

theorem sg_rise {zss : List (List Int)} (h : sgFlt zss = 0) : zss.length ≤ 7 ∧ (∀ z ∈ zss, z.length = 4) ∧ ∀ (i j : Nat) (x y : List Int), i < j → zss[i]? = some x → zss[j]? = some y → aheadB x y = true := by
  unfold sgFlt at h
  split at h
  · omega
  · rename_i h7
    have key := sgFrom_rise zss _ 0 rfl h
    refine ⟨by omega, fun z hz => ?_, ?_⟩
    · obtain ⟨i, hi⟩ := List.getElem?_of_mem hz
      exact (key i z (Nat.zero_le _) hi).1
    · intro i j
      induction j with
      | zero => intro x y hij; omega
      | succ j ih =>
        intro x y hij hx hy
        have h1 := (key (j + 1) y (Nat.zero_le _) hy).2 (by omega)
        have hjl : j < zss.length := by have := (List.getElem?_eq_some_iff.1 hy).1; omega
        have e1 : zss.getD (j + 1 - 1) [] = zss[j] := by rw [Nat.add_sub_cancel, List.getD_eq_getElem?_getD, List.getElem?_eq_getElem hjl]; rfl
        rw [e1] at h1
        by_cases e : i = j
        · subst e
          obtain rfl : zss[i] = x := Option.some.inj ((List.getElem?_eq_getElem hjl).symm.trans hx)
          exact h1
        · exact aheadB_trans (ih x zss[j] (by omega) hx (List.getElem?_eq_getElem hjl)) h1

/-- How many are ahead of one. -/
def plB (zss : List (List Int)) (t : List Int) : Nat := (zss.takeWhile (fun z => aheadB z t)).length

theorem plB_le (zss : List (List Int)) (t : List Int) : plB zss t ≤ zss.length := by
  unfold plB
  exact (List.takeWhile_prefix _).length_le

theorem plB_lt (zss : List (List Int)) (t : List Int) : ∀ (i : Nat) (z : List Int), zss[i]? = some z → i < plB zss t → aheadB z t = true := by
  unfold plB
  induction zss with
  | nil => intro i z hz; simp at hz
  | cons y r ih =>
    intro i z hz h
    rw [List.takeWhile_cons] at h
    split at h
    · rename_i hb
      cases i with
      | zero => simp at hz; subst hz; exact hb
      | succ i => exact ih i z (by simpa using hz) (by simpa using h)
    · simp at h

theorem plB_at (zss : List (List Int)) (t z : List Int) (h : zss[plB zss t]? = some z) : aheadB z t = false := by
  unfold plB at h
  induction zss with
  | nil => simp at h
  | cons y r ih =>
    rw [List.takeWhile_cons] at h
    split at h
    · rw [List.length_cons, List.getElem?_cons_succ] at h
      exact ih h
    · rename_i hb
      simp at h
      subst h
      simpa using hb

/-- Where all rise, just those below that place are ahead. -/
theorem plB_iff {zss : List (List Int)} (hr : ∀ (i j : Nat) (x y : List Int), i < j → zss[i]? = some x → zss[j]? = some y → aheadB x y = true) (t : List Int) (i : Nat) (z : List Int) (hz : zss[i]? = some z) : aheadB z t = decide (i < plB zss t) := by
  by_cases h : i < plB zss t
  · rw [decide_eq_true h]
    exact plB_lt zss t i z hz h
  · rw [decide_eq_false h]
    by_cases e : i = plB zss t
    · subst e
      exact plB_at zss t z hz
    · have hl : plB zss t < zss.length := by have := (List.getElem?_eq_some_iff.1 hz).1; omega
      have h1 := hr (plB zss t) i zss[plB zss t] z (by omega) (List.getElem?_eq_getElem hl) hz
      have h2 := plB_at zss t _ (List.getElem?_eq_getElem hl)
      cases h3 : aheadB z t with
      | false => rfl
      | true => rw [aheadB_trans h1 h3] at h2; cases h2

/-- One is there just where it stands at that place. -/
theorem plB_mem {zss : List (List Int)} (hr : ∀ (i j : Nat) (x y : List Int), i < j → zss[i]? = some x → zss[j]? = some y → aheadB x y = true) (t : List Int) : zss[plB zss t]? = some t ↔ t ∈ zss := by
  constructor
  · intro h; exact List.mem_of_getElem? h
  · intro h
    obtain ⟨i, hi⟩ := List.getElem?_of_mem h
    have h1 := plB_iff hr t i t hi
    rw [aheadB_irrefl] at h1
    have h2 : ¬ i < plB zss t := by simpa using h1.symm
    by_cases e : i = plB zss t
    · rw [← e]; exact hi
    · have hl : plB zss t < zss.length := by have := (List.getElem?_eq_some_iff.1 hi).1; omega
      have h3 := hr (plB zss t) i zss[plB zss t] t (by omega) (List.getElem?_eq_getElem hl) hi
      have h4 := plB_at zss t _ (List.getElem?_eq_getElem hl)
      rw [h3] at h4
      cases h4

end Go.Proofs.YtnmbdannipebnaaGreatDoor

/- What is proved here: plain facts on the fault of a snapshot; no program is named. -/
namespace Go.Proofs.YtnmbdannipebnaaGreatDoor
open Go.RowKit
set_option linter.unusedVariables false
set_option maxRecDepth 100000

/-- The fault of one vote, where some stand ahead of it. -/
def vtOne (sg : List (List Int)) (seen : List (List Int × List Int)) (v : Vt) : Int :=
  if (v.1.length == 4 && v.2.1.length == 4) = false then 1 else if decide (v.1 ∈ sg) = false then 4 else if (v.2.2 == decide (v.2.1 ∈ sg)) = true then 8 else if decide ((v.1, v.2.1) ∈ seen) = true then 6 else 0

/-- Who votes on whom. -/
def vtKeys (vs : List Vt) : List (List Int × List Int) := vs.map (fun v => (v.1, v.2.1))

/-- The first fault among the votes from a place on. -/
def vtFrom (sg : List (List Int)) (vs : List Vt) : Nat → List Vt → Int
  | _, [] => 0
  | k, v :: r => if vtOne sg (vtKeys (vs.take k)) v = 0 then vtFrom sg vs (k + 1) r else vtOne sg (vtKeys (vs.take k)) v

def rcOne (last least : Int) (r : Rc) : Int := if (r.2.length == 4) = false then 1 else if within r.1 least last = false then 3 else 0

/-- The first fault among recents, the first of which has to be at least so much. -/
def rcFrom (last : Int) : Int → List Rc → Int
  | _, [] => 0
  | least, r :: t => if rcOne last least r = 0 then rcFrom last (r.1 + 1) t else rcOne last least r

def sgSome (zss : List (List Int)) : Int := if zss.length = 0 then 4 else sgFlt zss

def snFlt (x : Sn) : Int :=
  if within x.1 0 1099511627776 = false then 3
  else if sgSome x.2.1 ≠ 0 then sgSome x.2.1
  else if 7 < x.2.2.1.length ∨ 30 < x.2.2.2.length then 2
  else if rcFrom x.1 0 x.2.2.1 ≠ 0 then rcFrom x.1 0 x.2.2.1
  else vtFrom x.2.1 x.2.2.2 0 x.2.2.2

theorem vtFrom_step (sg : List (List Int)) (vs : List Vt) (k : Nat) (v : Vt) (h : vs[k]? = some v) : vtFrom sg vs k (vs.drop k) = if vtOne sg (vtKeys (vs.take k)) v = 0 then vtFrom sg vs (k + 1) (vs.drop (k + 1)) else vtOne sg (vtKeys (vs.take k)) v := by
  obtain ⟨hk, e⟩ := List.getElem?_eq_some_iff.1 h
  rw [List.drop_eq_getElem_cons hk, e]
  rfl

theorem vtKeys_snoc (vs : List Vt) (k : Nat) (v : Vt) (h : vs[k]? = some v) : vtKeys (vs.take (k + 1)) = vtKeys (vs.take k) ++ [(v.1, v.2.1)] := by
  obtain ⟨hk, e⟩ := List.getElem?_eq_some_iff.1 h
  unfold vtKeys
  rw [List.take_succ_eq_append_getElem hk, List.map_append, e]
  rfl

theorem rcFrom_step (last least : Int) (rs : List Rc) (k : Nat) (r : Rc) (h : rs[k]? = some r) : rcFrom last least (rs.drop k) = if rcOne last least r = 0 then rcFrom last (r.1 + 1) (rs.drop (k + 1)) else rcOne last least r := by
  obtain ⟨hk, e⟩ := List.getElem?_eq_some_iff.1 h
  rw [List.drop_eq_getElem_cons hk, e]
  rfl

theorem vtOne_zero {sg : List (List Int)} {seen : List (List Int × List Int)} {v : Vt} (h : vtOne sg seen v = 0) : v.1.length = 4 ∧ v.2.1.length = 4 ∧ v.1 ∈ sg ∧ v.2.2 ≠ decide (v.2.1 ∈ sg) ∧ (v.1, v.2.1) ∉ seen := by
  unfold vtOne at h
  split at h
  · omega
  · rename_i h1
    split at h
    · omega
    · rename_i h2
      split at h
      · omega
      · rename_i h3
        split at h
        · omega
        · rename_i h4
          simp at h1 h2 h3 h4
          exact ⟨h1.1, h1.2, h2, by simpa using h3, h4⟩

end Go.Proofs.YtnmbdannipebnaaGreatDoor

/- What is proved here: what the model's SignersFault answers. -/
namespace Go.Proofs.YtnmbdannipebnaaGreatDoor
open Go.RowKit
set_option linter.unusedVariables false
set_option maxRecDepth 100000

end Go.Proofs.YtnmbdannipebnaaGreatDoor

/- What is proved here: what someSignersFault and l7List answer; rows told by colours, as rows of bytes. -/
namespace Go.Proofs.YtnmbdannipebnaaGreatDoor
open Go.RowKit
set_option linter.unusedVariables false
set_option maxRecDepth 100000

set_option maxHeartbeats 1000000 in
theorem someSigners_any (s : Sl) (zss : List (List Int)) (w : World) (h : RowOk bytesK w s zss) (hl : zss.length ≤ 1048576) :
    Calls Tryz.prog 132 #[.slice s.a s.n s.c] w fun e w' => e = .returned (.int .i64 (sgSome zss)) ∧ w' = w := by
  have hn : s.n = zss.length := h.len
  have HI := hide (implSigners_any s.a s.n s.c zss w (bs_of_row h) (by omega))
  by_cases h0 : zss.length = 0
  · have HE : Hid (sgSome zss = 4) := if_pos h0
    have hz : (((s.n : Nat) : Int) == 0) = true := by rw [hn, h0]; rfl
    clear hn h h0 HI
    go_enter Tryz.func132, Tryz.ntmps132
    go_wp2_with fail
    go_ret
    exact ⟨ret_int (unhide HE).symm, rfl⟩
  · have HE : Hid (sgSome zss = sgFlt zss) := if_neg h0
    have hz : (((s.n : Nat) : Int) == 0) = false := by rw [beq_eq_false_iff_ne]; omega
    clear hn h h0
    go_enter Tryz.func132, Tryz.ntmps132
    go_wp2_with fail
    refine (unhide HI).mono ?_
    rintro e w1 ⟨rfl, rfl⟩
    go_wp2_with fail
    go_ret
    exact ⟨ret_int (unhide HE).symm, rfl⟩

set_option maxHeartbeats 1000000 in
theorem l7List_any (s : Sl) (zss : List (List Int)) (w : World) (h : RowOk bytesK w s zss) (hl : zss.length ≤ 1048576) :
    Calls Tryz.prog 72 #[.slice s.a s.n s.c] w fun e w' => e = .returned (.int .i64 (sgSome zss)) ∧ ∃ n, w' = w.drewN n := by
  have hn : s.n = zss.length := h.len
  have HI := hide (l5Signers_any s.a s.n s.c zss w (bs_of_row h) (by omega))
  by_cases h0 : zss.length = 0
  · have HE : Hid (sgSome zss = 4) := if_pos h0
    have hz : (((s.n : Nat) : Int) == 0) = true := by rw [hn, h0]; rfl
    clear hn h h0 HI
    go_enter Tryz.func72, Tryz.ntmps72
    go_wp2_with fail
    go_ret
    exact ⟨ret_int (unhide HE).symm, 0, rfl⟩
  · have HE : Hid (sgSome zss = sgFlt zss) := if_neg h0
    have hz : (((s.n : Nat) : Int) == 0) = false := by rw [beq_eq_false_iff_ne]; omega
    clear hn h h0
    go_enter Tryz.func72, Tryz.ntmps72
    go_wp2_with fail
    refine (unhide HI).mono ?_
    rintro e w1 ⟨rfl, n, rfl⟩
    go_wp2_with fail
    go_ret
    exact ⟨ret_int (unhide HE).symm, n, rfl⟩

theorem CS.nrow {B r c : Nat} {d : Nat → Nat} {w : World} {s : Sl} {zss : List (List Int)} (h : CS w B d r c s zss) (hr : ∀ i, r ≠ c + 3 * i) : RowOk bytesK w s zss := by
  obtain ⟨d', h'⟩ := row_of_cs h hr []
  exact (rowK bytesK 29).ok h'

end Go.Proofs.YtnmbdannipebnaaGreatDoor
