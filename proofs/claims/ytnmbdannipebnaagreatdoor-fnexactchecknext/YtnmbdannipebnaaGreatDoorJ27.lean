/- What is proved here: what the model's l5Hash and l5SealHash answer for a header without a fault: the hash of its bytes in new memory. -/
import Derived.Test.YtnmbdannipebnaaGreatDoorJ14
import Derived.Test.YtnmbdannipebnaaGreatDoorJ22
import Derived.Test.YtnmbdannipebnaaGreatDoorJ26
import Derived.Test.YtnmbdannipebnaaGreatDoorJ5
import Derived.Test.YtnmbdannipebnaaGreatDoorJ11
import Derived.Test.YtnmbdannipebnaaGreatDoorJ4
import Derived.Deep.RegionHeld3
import Derived.Test.YtnmbdannipebnaaGreatDoorJ21
import Derived.Test.YtnmbdannipebnaaGreatDoorJ15
namespace Go.Proofs.YtnmbdannipebnaaGreatDoor
open Go.RowKit
set_option linter.unusedVariables false
set_option maxRecDepth 100000

set_option maxRecDepth 100000 in
set_option maxHeartbeats 8000000 in
theorem l5Hash_any (x : HS) (h : Hd) (w : World) (o : HOk w x h) (nn : HNil w x) (hf : hdFlt h = 0) :
    Calls Tryz.prog 32 #[.agg (hvals x h)] w fun e w' => ∃ d c, e = .returned (.slice (some ⟨d, 0, none⟩) 32 c) ∧
      w'.ownsRow w.heap.size 5 1 (.slice (some ⟨d, 0, none⟩) 32 c) 32 ((kcBytes (packL (noK h))).map (Value.int .u8)) ∧ Below w.heap.size w w' := by
  have hg := hdFlt_noK hf
  have kb := SBlk.new w (hvals x h) 42
  have bb := below_alloc w (.cells (hvals x h) 42)
  obtain ⟨W0, eb⟩ : ∃ W0, w.alloc (.cells (hvals x h) 42) = W0 := ⟨_, rfl⟩
  rw [eb] at kb bb
  have kb3 : SBlk (W0.setCell ⟨w.heap.size, 10, none⟩ (.slice none 0 0)) w.heap.size (hvals (xNoK x) (noK h)).toList 42 := kb.set 10 _
  have b3 := bb.setCell (p := ⟨w.heap.size, 10, none⟩) (Nat.le_refl _) (.slice none 0 0)
  have fz : W0.frozen? ⟨w.heap.size, 10, none⟩ = false := kb.free 10
  have cz := kb.cell 10
  simp only [hvals, List.getElem?_cons_zero, List.getElem?_cons_succ] at cz
  obtain ⟨W3, e3⟩ : ∃ W3, W0.setCell ⟨w.heap.size, 10, none⟩ (.slice none 0 0) = W3 := ⟨_, rfl⟩
  rw [e3] at kb3 b3
  have ok := (o.below b3 (Nat.le_refl _)).noK
  have D1 := hide (l5Pack_any w.heap.size (xNoK x) (noK h) _ W3 kb3 ok (nn.below b3 (Nat.le_refl _)).noK (good_of hg))
  have HRG := hide (packL_rng hg ok)
  have hl := packL_le hg
  have hpos := packL_pos (noK h)
  have HKC : Hid (∀ (W' : World) (g c : Nat), BRow W' (some ⟨g, 0, none⟩) (packL (noK h)).length (packL (noK h)) → Calls Tryz.prog 80 #[.slice (some ⟨g, 0, none⟩) (packL (noK h)).length c] W' fun e w' => ∃ d c', e = .returned (.slice (some ⟨d, 0, none⟩) 32 c') ∧ w'.ownsRow W'.heap.size 5 1 (.slice (some ⟨d, 0, none⟩) 32 c') 32 ((kcBytes (packL (noK h))).map (Value.int .u8)) ∧ Below W'.heap.size W' w') := fun W' g c hr => by
    have K := l2Keccak_any (some ⟨g, 0, none⟩) (packL (noK h)).length c (packL (noK h)) W' hr (fun e => by cases e) hl
    have e : kcBytes (packL (noK h)) = hashOf (spAt (padB (packL (noK h))) (padLen (packL (noK h)).length / 136)) := if_neg (by omega)
    rw [e]
    exact K
  clear o nn ok kb kb3 bb hf hg
  generalize kcBytes (packL (noK h)) = KB at HKC ⊢
  generalize packL (noK h) = PL at D1 HKC HRG hl hpos
  have HB3 := hide b3
  have E3 := hide e3
  have EB := hide eb
  clear b3 e3 eb
  unfold hvals at EB ⊢
  go_enter Tryz.func32, Tryz.ntmps32
  go_upto_region 1 with fail
  rw [unhide EB]
  clear EB
  go_upto_region 2 with fail
  rw [unhide E3]
  clear E3
  go_wp2_with fail
  refine (unhide D1).mono ?_
  rintro e w4 ⟨a4, c4, rfl, o4, b4⟩
  obtain ⟨g4, c', he⟩ := own_some o4 hpos
  simp only [Value.slice.injEq] at he
  obtain ⟨rfl, -, rfl⟩ := he
  have row4 := BRow.own o4 (unhide HRG)
  have HB4 := hide ((unhide HB3).trans (b4.mono (unhide HB3).size))
  clear b4 o4 fz cz
  go_wp2_with fail
  refine ((unhide HKC) _ g4 c4 row4).mono ?_
  rintro e w5 ⟨d5, c5, rfl, o5, b5⟩
  have hwz : w.heap.size ≤ w4.heap.size := (unhide HB4).size
  have HB5 := hide ((unhide HB4).trans (b5.mono hwz))
  go_wp2_with fail
  go_ret
  exact ⟨d5, c5, rfl, ownsRow_base o5 hwz, unhide HB5⟩

set_option maxRecDepth 100000 in
set_option maxHeartbeats 8000000 in
theorem l5SealHash_any (x : HS) (h : Hd) (w : World) (o : HOk w x h) (nn : HNil w x) (hf : hdFlt h = 0) :
    Calls Tryz.prog 118 #[.agg (hvals x h)] w fun e w' => ∃ d c, e = .returned (.slice (some ⟨d, 0, none⟩) 32 c) ∧
      w'.ownsRow w.heap.size 5 1 (.slice (some ⟨d, 0, none⟩) 32 c) 32 ((kcBytes (packL (noK (noE h)))).map (Value.int .u8)) ∧ Below w.heap.size w w' := by
  have kb := SBlk.new w (hvals x h) 42
  have bb := below_alloc w (.cells (hvals x h) 42)
  obtain ⟨W0, eb⟩ : ∃ W0, w.alloc (.cells (hvals x h) 42) = W0 := ⟨_, rfl⟩
  rw [eb] at kb bb
  have kb3 : SBlk (W0.setCell ⟨w.heap.size, 9, none⟩ (.slice none 0 0)) w.heap.size (hvals (xNoE x) (noE h)).toList 42 := kb.set 9 _
  have b3 := bb.setCell (p := ⟨w.heap.size, 9, none⟩) (Nat.le_refl _) (.slice none 0 0)
  have fz : W0.frozen? ⟨w.heap.size, 9, none⟩ = false := kb.free 9
  have cz := kb.cell 9
  simp only [hvals, List.getElem?_cons_zero, List.getElem?_cons_succ] at cz
  obtain ⟨W3, e3⟩ : ∃ W3, W0.setCell ⟨w.heap.size, 9, none⟩ (.slice none 0 0) = W3 := ⟨_, rfl⟩
  rw [e3] at kb3 b3
  have D1 := hide (l5Hash_any (xNoE x) (noE h) W3 (o.below b3 (Nat.le_refl _)).noE (nn.below b3 (Nat.le_refl _)).noE (hdFlt_noE hf))
  obtain ⟨y0, y1, y2, y3, y4, y5, y6, y7, y8, y9, y10⟩ := hcells kb3
  clear o nn kb kb3 bb hf
  generalize kcBytes (packL (noK (noE h))) = KB at D1 ⊢
  have HB3 := hide b3
  have E3 := hide e3
  have EB := hide eb
  clear b3 e3 eb
  unfold hvals at EB D1 ⊢
  go_enter Tryz.func118, Tryz.ntmps118
  go_upto_region 1 with fail
  rw [unhide EB]
  clear EB
  go_upto_region 2 with fail
  rw [unhide E3]
  clear E3
  go_wp2_with fail
  refine (unhide D1).mono ?_
  rintro e w5 ⟨d5, c5, rfl, o5, b5⟩
  have hwz : w.heap.size ≤ W3.heap.size := (unhide HB3).size
  have HB5 := hide ((unhide HB3).trans (b5.mono hwz))
  go_wp2_with fail
  go_ret
  exact ⟨d5, c5, rfl, ownsRow_base o5 hwz, unhide HB5⟩

end Go.Proofs.YtnmbdannipebnaaGreatDoor

/- What is proved here: what the model's l6Seal, l6Commit, SealOf and CommitOf answer: the code, and a seal or a commit in new memory. -/
namespace Go.Proofs.YtnmbdannipebnaaGreatDoor
open Go.RowKit
set_option linter.unusedVariables false
set_option maxRecDepth 100000

/-- l2Keccak over a row that is owned. -/
theorem l2Kc_own {B : Nat} (a : Option Addr) (n cap : Nat) (zs : List Int) (w : World) (h : w.ownsRow B 5 1 (.slice a n cap) n (zs.map (Value.int .u8))) (hr : ∀ x ∈ zs, 0 ≤ x ∧ x ≤ 255) (hn : n ≤ 1200) :
    Calls Tryz.prog 80 #[.slice a n cap] w fun e w' => ∃ d c', e = .returned (.slice (some ⟨d, 0, none⟩) 32 c') ∧ 32 ≤ c' ∧
      w'.ownsRow w.heap.size 5 1 (.slice (some ⟨d, 0, none⟩) 32 c') 32 ((kcBytes zs).map (Value.int .u8)) ∧ Below w.heap.size w w' := by
  have hl : zs.length = n := by have := h.1; simpa using this
  have e : kcBytes zs = hashOf (spAt (padB zs) (padLen n / 136)) := by unfold kcBytes; rw [if_neg (by omega), hl]
  rw [e]
  refine (l2Keccak_any a n cap zs w (BRow.own2 h hr) (own_cap h) hn).mono ?_
  rintro e w' ⟨d, c', rfl, ho, hb⟩
  refine ⟨d, c', rfl, ?_, ho, hb⟩
  rcases ho.2 with ⟨h', _⟩ | ⟨g, cap', cur, h', _, _, hnc, _⟩
  · simp at h'
  · simp only [Value.slice.injEq] at h'; rw [h'.2.2]; exact hnc

set_option maxHeartbeats 4000000 in
theorem l6Seal_any (a : Option Addr) (n c : Nat) (b : Option Addr) (m d : Nat) (xs ys : List Int) (w : World) (h : BRow w a n xs) (k : BRow w b m ys) (hc : a = none → c = 0) (hd : b = none → d = 0) (hn : n ≤ 600) (hm : m ≤ 600) :
    Calls Tryz.prog 117 #[.slice a n c, .slice b m d] w fun e w' => ∃ g c', e = .returned (.slice (some ⟨g, 0, none⟩) 4 c') ∧
      w'.ownsRow w.heap.size 5 1 (.slice (some ⟨g, 0, none⟩) 4 c') 4 ((sealL xs ys).map (Value.int .u8)) ∧ Below w.heap.size w w' := by
  obtain ⟨i0, hi, hz0, hz1, hz2⟩ := info_parts info5
  have D1 := hide (copy_any a n c xs w h hc (by omega))
  have HR := hide (fun (W : World) (hb : Below w.heap.size w W) => k.below hb (Nat.le_refl _))
  have HRG := hide (append_rng h.2.1 k.2.1)
  have HD := hide hd
  clear h k hc hd
  go_enter Tryz.func117, Tryz.ntmps117
  go_wp2_with fail
  refine (unhide D1).mono ?_
  rintro e w2 ⟨a2, c2, rfl, o2, b2⟩
  have r2 := (unhide HR) w2 b2
  go_wp2_with (at_builtin; refine wpList_append_brow _ rfl _ _ 29 rfl w.heap.size i0 Tryz.underlying29 hi hz0 hz1 hz2 _ n xs rfl o2 b m d ys rfl r2 (unhide HD) (by omega) b2.size ?_)
  intro a3 c3 w3 o3 g3
  have B3 : Below w.heap.size w w3 := b2.grown g3 b2.size (fun g e => (o2.lt g e).1)
  have D3 := hide (l2Kc_own a3 (n + m) c3 (xs ++ ys) w3 (by rw [List.map_append]; exact o3) (unhide HRG) (by omega))
  have HB3 := hide B3
  clear o3 B3 g3 r2 o2 b2 D1
  go_wp2_with fail
  refine (unhide D3).mono ?_
  rintro e w4 ⟨g4, c4, rfl, hc4, o4, b4⟩
  have HB4 := hide ((unhide HB3).trans (b4.mono (unhide HB3).size))
  have o5 := own_take (ownsRow_base o4 (unhide HB3).size) (m := 4) (by omega)
  rw [← List.map_take] at o5
  have HO5 := hide o5
  clear D3 o4 o5 b4
  go_wp2_with fail
  go_ret
  exact ⟨g4, c4, rfl, unhide HO5, unhide HB4⟩

set_option maxHeartbeats 4000000 in
theorem l6Commit_any (a : Option Addr) (n c : Nat) (b : Option Addr) (m d : Nat) (xs ys : List Int) (w : World) (h : BRow w a n xs) (k : BRow w b m ys) (hc : a = none → c = 0) (hd : b = none → d = 0) (hn : n ≤ 400) (hm : m ≤ 600) :
    Calls Tryz.prog 103 #[.slice a n c, .slice b m d] w fun e w' => ∃ a' c', e = .returned (.slice a' (n + 4) c') ∧
      w'.ownsRow w.heap.size 5 1 (.slice a' (n + 4) c') (n + 4) ((xs ++ markL xs ys).map (Value.int .u8)) ∧ Below w.heap.size w w' := by
  obtain ⟨i0, hi, hz0, hz1, hz2⟩ := info_parts info5
  have hxl := h.1
  have hyl := k.1
  have HC := hide (fun (W : World) (hb : Below w.heap.size w W) => copy_any a n c xs W (h.below hb (Nat.le_refl _)) hc (by omega))
  have HR := hide (fun (W : World) (hb : Below w.heap.size w W) => k.below hb (Nat.le_refl _))
  have HRG := hide (append_rng h.2.1 (one_rng k.2.1))
  have HMR := hide (markL_rng h.2.1 k.2.1)
  have HD := hide hd
  have HOne : Hid (∀ (W : World), BRow (W.alloc (.cells #[.int .u8 1] 5)) (some ⟨W.heap.size, 0, none⟩) 1 [1]) := fun W => ⟨rfl, fun x hx => by simp at hx; omega, fun e => (by cases e), fun y hy j hj => by
    cases hy
    obtain rfl : j = 0 := by omega
    rw [add_none, Nat.zero_add, World.cell?_alloc_new]
    rfl⟩
  have hke : xs ++ [1] ++ ys = xs ++ 1 :: ys := by simp
  have HKE := hide hke
  have hmk : markL xs ys = (kcBytes (xs ++ 1 :: ys)).take 4 := rfl
  have HMK := hide hmk
  clear h k hc hd hke hmk
  have D1 := hide ((unhide HC) w (Below.refl _ _))
  go_enter Tryz.func103, Tryz.ntmps103
  go_wp2_with fail
  refine (unhide D1).mono ?_
  rintro e w2 ⟨a2, c2, rfl, o2, b2⟩
  have bo := below_alloc w2 (.cells #[.int .u8 1] 5)
  have o2' := own_below o2 bo (Nat.le_refl _)
  have b2' := b2.trans (bo.mono b2.size)
  have r2 := (unhide HOne) w2
  have e2 : xs.map (Value.int .u8) = xs.map (Value.int .u8) := rfl
  go_wp2_with (at_builtin; refine wpList_append_brow _ rfl _ _ 29 rfl w.heap.size i0 Tryz.underlying29 hi hz0 hz1 hz2 _ n xs rfl o2' (some ⟨w2.heap.size, 0, none⟩) 1 1 [1] rfl r2 (fun e => by cases e) (by omega) b2'.size ?_)
  intro a3 c3 w3 o3 g3
  have B3 : Below w.heap.size w w3 := b2'.grown g3 b2'.size (fun g e => (o2'.lt g e).1)
  have o3 : w3.ownsRow w.heap.size 5 1 (.slice a3 (n + 1) c3) (n + 1) ((xs ++ [1]).map (Value.int .u8)) := by simpa using o3
  have r3 := (unhide HR) w3 B3
  clear e2 r2 o2' o2 b2 bo b2' D1
  go_wp2_with (at_builtin; refine wpList_append_brow _ rfl _ _ 29 rfl w.heap.size i0 Tryz.underlying29 hi hz0 hz1 hz2 _ (n + 1) (xs ++ [1]) rfl o3 b m d ys rfl r3 (unhide HD) (by omega) B3.size ?_)
  intro a4 c4 w4 o4 g4
  have B4 : Below w.heap.size w w4 := B3.grown g4 B3.size (fun g e => (o3.lt g e).1)
  have o4 : w4.ownsRow w.heap.size 5 1 (.slice a4 (n + 1 + m) c4) (n + 1 + m) ((xs ++ 1 :: ys).map (Value.int .u8)) := by simpa using o4
  have HO4 := hide o4
  have HB4 := hide B4
  have D4 := hide ((unhide HC) w4 B4)
  clear o4 g4 B4 r3 o3 B3 g3 HC HR
  go_wp2_with fail
  refine (unhide D4).mono ?_
  rintro e w5 ⟨a5, c5, rfl, o5, b5⟩
  have hz45 : w4.heap.size ≤ w5.heap.size := b5.size
  have o45 := own_below (unhide HO4) b5 (Nat.le_refl _)
  have D5 := hide (l2Kc_own a4 (n + 1 + m) c4 (xs ++ 1 :: ys) w5 o45 (unhide HRG) (by omega))
  have HB5 := hide ((unhide HB4).trans (b5.mono (unhide HB4).size))
  have HO5 := hide (ownsRow_base o5 (unhide HB4).size)
  clear D4 o5 b5 o45 HO4
  go_wp2_with fail
  refine (unhide D5).mono ?_
  rintro e w6 ⟨g6, c6, rfl, hc6, o6, b6⟩
  have B6 := (unhide HB5).trans (b6.mono (unhide HB5).size)
  have o7 := own_take o6 (m := 4) (by omega)
  rw [← List.map_take, ← unhide HMK] at o7
  have r7 := BRow.own o7 (unhide HMR)
  have O6 := own_below (unhide HO5) b6 (Nat.le_refl _)
  clear D5 o6 o7 b6 HO5
  go_wp2_with (at_builtin; refine wpList_append_brow _ rfl _ _ 29 rfl w.heap.size i0 Tryz.underlying29 hi hz0 hz1 hz2 _ n xs rfl O6 (some ⟨g6, 0, none⟩) 4 c6 (markL xs ys) rfl r7 (fun e => by cases e) (by omega) B6.size ?_)
  intro a8 c8 w8 o8 g8
  have B8 : Below w.heap.size w w8 := B6.grown g8 B6.size (fun g e => (O6.lt g e).1)
  have HO8 := hide o8
  have HB8 := hide B8
  clear o8 B8 g8 O6 r7 B6
  go_wp2_with fail
  go_ret
  exact ⟨a8, c8, rfl, by simpa using unhide HO8, unhide HB8⟩

end Go.Proofs.YtnmbdannipebnaaGreatDoor

/- What is proved here: what the model's l6Committers answers for a header without a fault: who committed, in memory of its own, and a code. -/
namespace Go.Proofs.YtnmbdannipebnaaGreatDoor
open Go.RowKit
set_option linter.unusedVariables false
set_option maxRecDepth 100000

theorem hasN_take (zss : List (List Int)) (z : List Int) (j : Nat) : hasN (zss.take j) z j = hasN zss z j := by
  unfold hasN
  rw [List.take_take, Nat.min_self]

set_option maxHeartbeats 8000000 in
theorem l6Committers_any (g : Nat) (x : HS) (h : Hd) (T : TypeId) (w : World) (sb : SBlk w g (hvals x h).toList T) (o : HOk w x h) (nn : HNil w x) (bc : BsCap w x.k.a x.k.n) (hf : hdFlt h = 0) :
    Calls Tryz.prog 158 #[.pointer (some ⟨g, 0, none⟩)] w fun e w' => ∃ (s : Sl) (d : Nat → Nat), e = .returned (.tuple #[.slice s.a s.n s.c, .int .i64 (coCode h)]) ∧ CS w' w.heap.size d 6 8 s (coAns h) ∧ Below w.heap.size w w' := by
  obtain ⟨i0, hi, hz0, hz1, hz2⟩ := info_parts infoSB
  have ba0 := below_alloc w (.cells #[] 29)
  have o0 : (w.alloc (.cells #[] 29)).ownsRow w.heap.size 29 1 (.slice (some ⟨w.heap.size, 0, none⟩) 0 0) 0 (([] : List Sl).map Sl.v) := World.ownsRow_lit w #[] 0 (Nat.le_refl _) (by unfold maxLen; omega) rfl
  have hc0 : CS (w.alloc (.cells #[] 29)) w.heap.size (fun _ => 6) 6 8 ⟨some ⟨w.heap.size, 0, none⟩, 0, 0⟩ [] := ⟨rfl, [], rfl, o0, (fun _ _ => rfl), fun i e z he => by simp at he⟩
  have HRR := hide (fun (W : World) (hb : Below w.heap.size w W) => hcells (sb.below hb sb.lt))
  obtain ⟨x0, x1, x2, x3, x4, x5, x6, x7, x8, x9, x10⟩ := (unhide HRR) _ ba0
  have D1 := hide (l5Hash_any x h _ (o.below ba0 (Nat.le_refl _)) (nn.below ba0 (Nat.le_refl _)) hf)
  have e2 : (hash1 h).length = 32 := kcBytes_good (packL_le (hdFlt_noK hf))
  have hhr : ∀ y ∈ hash1 h, 0 ≤ y ∧ y ≤ 255 := kcBytes_range _ (packL_rng (hdFlt_noK hf) o.noK)
  have HHR := hide hhr
  have HH2 := hide e2
  have HK := hide (fun (W : World) (hb : Below w.heap.size w W) => And.intro (o.k.below hb (Nat.le_refl _)) (bc.below hb (Nat.le_refl _)))
  have HKZ : Hid (∀ z ∈ h.k, z.length = 8) := fun z hz => by
    have hk : coFlt h.k = 0 := by
      unfold hdFlt at hf
      split at hf
      · omega
      · split at hf
        · omega
        · split at hf
          · exact hf
          · rename_i q; exact absurd hf q
    unfold coFlt at hk
    split at hk
    · omega
    · exact coFrom_zero h.k hk z hz
  have HKL := hide o.k.1
  have HK7 : Hid (x.k.n ≤ 7) := by show _ ≤ _; rw [← o.k.1]; exact (good_of hf).k
  have HCC : Hid (coCode h = if coAll h h.k = true then (if twiceN (coAd h.k) h.k.length = true then 6 else 0) else 7) := if_pos hf
  have HAA : Hid (coAns h = if coAll h h.k = true ∧ twiceN (coAd h.k) h.k.length = false then coAd h.k else []) := by show _ = _; unfold coAns; simp only [hf, true_and]
  have HC0 := hide hc0
  have HBA := hide ba0
  clear o nn bc hf sb ba0 o0 hc0 e2 hhr
  generalize coCode h = CC at HCC ⊢
  generalize coAns h = AA at HAA ⊢
  unfold hvals at D1
  go_enter Tryz.func158, Tryz.ntmps158
  go_wp2_with fail
  refine (unhide D1).mono ?_
  rintro e w1 ⟨dh, ch, rfl, oh, bh⟩
  obtain ⟨d2, hd2⟩ : ∃ d2 : Nat → Nat, d2 = fun q => if (w.alloc (.cells #[] 29)).heap.size ≤ q then 12 else 6 := ⟨_, rfl⟩
  have HOH : Hid (CB w1 w.heap.size d2 12 ⟨some ⟨dh, 0, none⟩, 32, ch⟩ (hash1 h)) := by show CB _ _ _ _ _ _; rw [hd2]; exact CB.new (d := fun _ => 6) (unhide HH2).symm (unhide HHR) oh (unhide HBA).size
  have HC1 := hide (((unhide HC0).recol (d' := d2) (fun q hq => by rw [hd2]; exact if_neg (by omega))).below bh (Nat.le_refl _))
  have HB1 := hide ((unhide HBA).trans (bh.mono (unhide HBA).size))
  have HCA : Hid (coAll h (h.k.take 0) = true) := rfl
  have hw1 : w.heap.size ≤ w1.heap.size := (unhide HB1).size
  clear x0 x1 x2 x3 x4 x5 x6 x7 x8 x9 x10 D1 oh bh HC0 HBA hd2
  go_wp2_with fail
  go_loopw [4, 6] (fun c i wr => ∃ (k : Nat) (u : Sl) (d : Nat → Nat), k ≤ x.k.n ∧ i = .int .i64 k ∧ c = .slice u.a u.n u.c ∧ coAll h (h.k.take k) = true ∧ CS wr w.heap.size d 6 8 u ((coAd h.k).take k) ∧ CB wr w.heap.size d 12 ⟨some ⟨dh, 0, none⟩, 32, ch⟩ (hash1 h) ∧ Below w.heap.size w wr) (fun _ i _ => x.k.n - (intOf i).toNat)
  case atStart => exact ⟨0, ⟨some ⟨w.heap.size, 0, none⟩, 0, 0⟩, _, Nat.zero_le _, rfl, rfl, unhide HCA, unhide HC1, unhide HOH, unhide HB1⟩
  case round =>
    obtain ⟨k, u, d, hk, rfl, rfl, hca, hcs, hch, hbr⟩ := hrel
    have hhs := hch.brow
    clear HCA HC1 HOH HB1
    have hn7 := unhide HK7
    have hwr : w.heap.size ≤ wr.heap.size := hbr.size
    obtain ⟨krow, kcap⟩ := (unhide HK) wr hbr
    obtain ⟨x0, x1, x2, x3, x4, x5, x6, x7, x8, x9, x10⟩ := (unhide HRR) wr hbr
    clear x0 x1 x2 x3 x4 x5 x6 x7 x8 x9
    by_cases hlt : k < x.k.n
    · obtain ⟨z, hit⟩ : ∃ z, h.k[k]? = some z := ⟨_, List.getElem?_eq_getElem (by rw [unhide HKL]; exact hlt)⟩
      obtain ⟨b0, off, hxa, _, hat⟩ := krow.at (by omega)
      obtain ⟨s1, n1, d1, c0, r1⟩ := hat k z hit
      obtain ⟨s1', n1', d1', c0', hcp⟩ := kcap b0 off hxa k hlt
      rw [c0] at c0'
      simp only [Option.some.injEq, Value.slice.injEq] at c0'
      obtain ⟨rfl, rfl, rfl⟩ := c0'
      have hz8 := (unhide HKZ) z (List.mem_of_getElem? hit)
      have hn1 : n1 = 8 := by have := r1.1; omega
      subst hn1
      obtain ⟨zb, zo, rfl, _, _⟩ := r1.at (by omega)
      have hz4 : (z.take 4).length = 4 := by rw [List.length_take]; omega
      have hzr : ∀ y ∈ z.take 4, 0 ≤ y ∧ y ≤ 255 := fun y hy => r1.2.1 y (List.mem_of_mem_take hy)
      rw [hxa] at x10
      have HHD : Hid (∀ W, Below wr.heap.size wr W → W.cell? ⟨g, 10, none⟩ = some (.slice (some ⟨b0, off, none⟩) x.k.n x.k.c) ∧ W.cell? ⟨b0, off + k, none⟩ = some (.slice (some ⟨zb, zo, none⟩) 8 d1)) := fun W hb => ⟨(hb.cell (lt_of_cell x10)).trans x10, (hb.cell (lt_of_cell c0)).trans c0⟩
      have HCO : Hid (∀ W, Below wr.heap.size wr W → Calls Tryz.prog 103 #[.slice (some ⟨zb, zo, none⟩) 4 d1, .slice (some ⟨dh, 0, none⟩) 32 ch] W fun e w' => ∃ a3 c3, e = .returned (.slice a3 8 c3) ∧ BRow w' a3 8 (z.take 4 ++ markL (z.take 4) (hash1 h)) ∧ Below wr.heap.size wr w') := fun W hb => by
        refine (l6Commit_any (some ⟨zb, zo, none⟩) 4 d1 (some ⟨dh, 0, none⟩) 32 ch (z.take 4) (hash1 h) W ((r1.below hb (Nat.le_refl _)).take (by omega)) (hhs.below hb (Nat.le_refl _)) (fun e => by cases e) (fun e => by cases e) (by omega) (by omega)).mono ?_
        rintro e w' ⟨a3, c3, rfl, ho3, hb'⟩
        exact ⟨a3, c3, rfl, BRow.own2 ho3 (append_rng hzr (markL_rng hzr (unhide HHR))), hb.trans (hb'.mono hb.size)⟩
      have HSM : Hid (∀ W a3 c3, Below wr.heap.size wr W → BRow W a3 8 (z.take 4 ++ markL (z.take 4) (hash1 h)) → Calls Tryz.prog 76 #[.slice (some ⟨zb, zo, none⟩) 8 d1, .slice a3 8 c3] W fun e w' => e = .returned (.bool (coOk h z)) ∧ Below wr.heap.size wr w') := fun W a3 c3 hb hr => by
        refine (l1Same_any (some ⟨zb, zo, none⟩) a3 8 d1 8 c3 z _ W (r1.below hb (Nat.le_refl _)) hr).mono ?_
        rintro e w' ⟨rfl, rfl⟩
        exact ⟨rfl, hb⟩
      have HCP : Hid (∀ W, Below wr.heap.size wr W → Calls Tryz.prog 148 #[.slice (some ⟨zb, zo, none⟩) 4 d1] W fun e w' => ∃ (a' : Option Addr) (cap' : Nat), e = .returned (.slice a' 4 cap') ∧ w'.ownsRow W.heap.size 5 1 (.slice a' 4 cap') 4 ((z.take 4).map (Value.int .u8)) ∧ Below W.heap.size W w') := fun W hb => copy_any (some ⟨zb, zo, none⟩) 4 d1 (z.take 4) W ((r1.below hb (Nat.le_refl _)).take (by omega)) (fun e => by cases e) (by omega)
      have hs := coAll_succ h h.k k z hit
      rw [hca, Bool.true_and] at hs
      have HS := hide hs
      have HBD := hide (coAll_bad h h.k k z hit)
      have HTS := hide (coAd_snoc h.k k z hit)
      have htl : ((coAd h.k).take k).length = k := by rw [List.length_take, coAd_length]; have := unhide HKL; omega
      have htn : u.n = k := by rw [hcs.1]; exact htl
      have HTL := hide htl
      have HTN := hide htn
      have HZR := hide hzr
      have HZ4 := hide hz4
      have HCS := hide hcs
      have HHS := hide hch
      have HB := hide hbr
      generalize z.take 4 ++ markL (z.take 4) (hash1 h) = CM at HCO HSM
      generalize coOk h z = t at HSM HS HBD
      have k1 : (0 : Int) ≤ (k : Int) := by omega
      have k2 : (k : Int) < (x.k.n : Int) := by omega
      have hd4 : 4 ≤ d1 := by omega
      clear hs hat r1 hit hca hbr krow kcap hz8 hz4 hzr hcs hhs hch htl htn hxa
      go_wp2_with fail
      go_region_held3 (fun W => W.cell? ⟨g, 10, none⟩ = some (.slice (some ⟨b0, off, none⟩) x.k.n x.k.c) ∧ W.cell? ⟨b0, off + k, none⟩ = some (.slice (some ⟨zb, zo, none⟩) 8 d1))
        (exact (unhide HHD) _ (by first | assumption | exact Below.refl wr.heap.size wr | exact (Below.refl wr.heap.size wr).drew | exact below_drewN (Below.refl wr.heap.size wr) _ | exact below_drewN (by assumption) _))
        (first
          | (go_at_call 103; refine ((unhide HCO) _ (by first | exact (Below.refl wr.heap.size wr).drew | exact below_drewN (Below.refl wr.heap.size wr) _)).mono ?_; rintro e w3 ⟨a3, c3, rfl, r3, K3⟩)
          | (go_at_call 76; refine ((unhide HSM) _ a3 c3 K3 r3).mono ?_; rintro e w5 ⟨rfl, K5⟩))
      all_goals
        have HCS5 := hide ((unhide HCS).below K5 (Nat.le_refl _))
        have HHS5 := hide ((unhide HHS).below K5 (Nat.le_refl _))
        have HB5 := hide ((unhide HB).trans (K5.mono hwr))
        have hw5 : w.heap.size ≤ w5.heap.size := (unhide HB5).size
        have DA := hide ((unhide HCP) w5 K5)
        clear HHD HCO HSM HCP K3 K5 r3 HCS HHS HB c0 x10
        cases t
        · have hcf := (unhide HBD) rfl
          have HCV : Hid (CC = 7) := by show _ = _; rw [unhide HCC, if_neg (by rw [hcf]; simp)]
          have HAV : Hid (AA = []) := by show _ = _; rw [unhide HAA, if_neg (fun q => by rw [hcf] at q; cases q.1)]
          clear HBD HS hcf HCC HAA
          go_wp2_with fail
          go_ret2
          exact ⟨⟨none, 0, 0⟩, fun _ => 0, by rw [unhide HCV]; rfl, by rw [unhide HAV]; exact CS.nil _ _ _ _ _, unhide HB5⟩
        · clear HBD
          go_wp2_with fail
          refine (unhide DA).mono ?_
          rintro e w6 ⟨a2, c2, rfl, o2, b2⟩
          have ba := below_alloc w6 (.cells #[.slice a2 4 c2] 29)
          have hs2 : w5.heap.size ≤ w6.heap.size := b2.size
          obtain ⟨d', hd'⟩ : ∃ d' : Nat → Nat, d' = fun g => if w5.heap.size ≤ g then 8 + 3 * k else d g := ⟨_, rfl⟩
          have cz : CB w6 w.heap.size d' (8 + 3 * k) ⟨a2, 4, c2⟩ (z.take 4) := by rw [hd']; exact CB.new (unhide HZ4).symm (unhide HZR) o2 hw5
          have cs2 := ((unhide HCS5).recol (d' := d') (fun g hg => by rw [hd']; exact if_neg (by omega))).below b2 (Nat.le_refl _)
          obtain ⟨h1, es, h2, h3, h4, h5⟩ := cs2.below ba (Nat.le_refl _)
          have HCZ := hide (cz.below ba (Nat.le_refl _))
          have H1 := hide h1
          have H2 := hide h2
          have H4 := hide h4
          have H5 := hide h5
          have bb3 := b2.trans (ba.mono b2.size)
          have B3 := (unhide HB5).trans (bb3.mono hw5)
          have HHS6 := hide (((unhide HHS5).recol (d' := d') (fun g hg => by rw [hd']; exact if_neg (by omega))).below bb3 (Nat.le_refl _))
          have hsz3 : w.heap.size ≤ (w6.alloc (.cells #[.slice a2 4 c2] 29)).heap.size := B3.size
          have hnk : u.n ≤ 1048576 := by have := unhide HTN; omega
          clear h1 h2 h4 h5 cz cs2
          go_wp2_with (at_builtin; refine wpList_append_own_at _ rfl _ _ 24 rfl w.heap.size 29 i0 (.slice none 0 0) 1 24 Tryz.underlying24 hi hz0 hz1 hz2 rfl (by decide) _ _ _ rfl h3 ⟨w6.heap.size, 0, none⟩ 1 1 [.slice a2 4 c2] rfl rfl ?c1 ?c2 ?c3 ?c4 ?c5 ?_)
          case c1 => exact one_at' _ _ _
          case c2 => intro u hu; simp at hu; subst hu; rfl
          case c3 => unfold maxLen; omega
          case c4 => omega
          case c5 => exact hsz3
          intro v' w7 hown2 hgrow _ hblk
          obtain ⟨a6, c6, hv6⟩ := own_shape hown2
          subst hv6
          have SN := CS.mkSnoc (r := 6) (c := 8) (fun i => by omega) hsz3 (unhide H1) (unhide H2) h3 (unhide H4) (unhide H5) (by rw [unhide HTL]; exact unhide HCZ) hown2 hgrow (by rw [show (w6.alloc (.cells #[.slice a2 4 c2] 29)).heap.size = w6.heap.size + 1 by simp]; exact hblk)
          rw [← unhide HTS] at SN
          have B6 : Below w.heap.size w w7 := B3.grown hgrow hsz3 (fun g e => (h3.lt g e).1)
          have HS6 := hide SN.1
          have HB6 := hide B6
          have HH6 := hide (((unhide HHS6).recol (fun g hg => if_neg (by omega))).only SN.2 (by omega))
          clear SN B6 hown2 hgrow hblk H1 H2 h3 H4 H5 HCZ B3 ba o2 b2 DA HCS5 HHS5 HB5 hd' bb3 HHS6
          go_wp2_with fail
          refine And.intro ?inv ?measure
          case measure => simp [intOf]; omega
          case inv =>
            have R : ∀ v, v = Value.int .i64 ((k + 1 : Nat) : Int) → ∃ (k' : Nat) (u' : Sl) (d : Nat → Nat), k' ≤ x.k.n ∧ v = .int .i64 k' ∧ Value.slice a6 (u.n + 1) c6 = .slice u'.a u'.n u'.c ∧ coAll h (h.k.take k') = true ∧ CS w7 w.heap.size d 6 8 u' ((coAd h.k).take k') ∧ CB w7 w.heap.size d 12 ⟨some ⟨dh, 0, none⟩, 32, ch⟩ (hash1 h) ∧ Below w.heap.size w w7 := fun v hv => ⟨k + 1, ⟨a6, u.n + 1, c6⟩, _, by omega, hv, rfl, unhide HS, unhide HS6, unhide HH6, unhide HB6⟩
            first
              | exact R _ (by go_num)
              | ((repeat apply Exists.intro); exact ⟨R _ (by go_num), rfl⟩)
    · obtain rfl : k = x.k.n := by omega
      have et : (coAd h.k).take x.k.n = coAd h.k := List.take_of_length_le (by rw [coAd_length, unhide HKL]; exact Nat.le_refl _)
      rw [et] at hcs
      have et2 : h.k.take x.k.n = h.k := List.take_of_length_le (by rw [unhide HKL]; exact Nat.le_refl _)
      rw [et2] at hca
      have hun : u.n = h.k.length := by rw [hcs.1, coAd_length]
      have hub : BsRow wr u.a u.n (coAd h.k) := hcs.bsrow (fun z hz => by
        obtain ⟨y, hy, rfl⟩ := List.mem_map.1 hz
        have := (unhide HKZ) y hy
        unfold maxLen
        rw [List.length_take]; omega)
      have huc : u.n ≤ u.c := by
        obtain ⟨_, es, _, h3, _, _⟩ := hcs
        rcases h3.2 with ⟨h', _⟩ | ⟨g, cap', cur, h', _, _, hnc, _⟩
        · simp only [Value.slice.injEq] at h'; omega
        · simp only [Value.slice.injEq] at h'; rw [h'.2.2]; exact hnc
      obtain ⟨ua, un, uc⟩ := u
      simp only at hun hub huc
      have hl7 : h.k.length ≤ 7 := by have := unhide HKL; omega
      subst hun
      have HUB := hide hub
      have HTM := hide (twiceN_mono (coAd h.k))
      have HCL := hide (coAd_length h.k)
      have HCS := hide hcs
      have HB := hide hbr
      have HC1 : Hid (CC = if twiceN (coAd h.k) h.k.length = true then 6 else 0) := by show _ = _; rw [unhide HCC, if_pos hca]
      have HA1 : Hid (AA = if twiceN (coAd h.k) h.k.length = false then coAd h.k else []) := by show _ = _; rw [unhide HAA]; simp only [hca, true_and]
      clear et et2 hcs hub hbr hca hhs hch krow kcap HCC HAA
      obtain ⟨w8, rfl⟩ : ∃ W, W = wr := ⟨wr, rfl⟩
      go_wp2_with fail
      go_loopw [8] (fun i wr' => ∃ j : Nat, j ≤ h.k.length ∧ i = .int .i64 j ∧ twiceN (coAd h.k) j = false ∧ Below w8.heap.size w8 wr') (fun i _ => h.k.length - (intOf i).toNat)
      case atStart => exact ⟨0, Nat.zero_le _, rfl, rfl, Below.refl _ _⟩
      case round =>
        obtain ⟨j, hj, rfl, hfz, hb8⟩ := hrel
        by_cases hlt2 : j < h.k.length
        · obtain ⟨z, hit⟩ : ∃ z, (coAd h.k)[j]? = some z := ⟨_, List.getElem?_eq_getElem (by rw [unhide HCL]; exact hlt2)⟩
          have hub8 := (unhide HUB).below hb8 (Nat.le_refl _)
          obtain ⟨b0, off, rfl, _, hat⟩ := hub8.at (by omega)
          obtain ⟨s1, n1, d1, c0, r1⟩ := hat j z hit
          have hgd : (coAd h.k).getD j [] = z := by rw [List.getD_eq_getElem?_getD, hit]; rfl
          have HT1 : Hid (twiceN (coAd h.k) (j + 1) = hasN (coAd h.k) z j) := by show _ = _; unfold twiceN; rw [hfz, hgd, Bool.false_or]
          have HHD : Hid (∀ W, Below wr.heap.size wr W → W.cell? ⟨b0, off + j, none⟩ = some (.slice s1 n1 d1)) := fun W hb => (hb.cell (lt_of_cell c0)).trans c0
          have HD : Hid (∀ W, Below wr.heap.size wr W → Calls Tryz.prog 191 #[.slice (some ⟨b0, off, none⟩) j uc, .slice s1 n1 d1] W fun e w' => e = .returned (.bool (twiceN (coAd h.k) (j + 1))) ∧ Below wr.heap.size wr w') := fun W hb => by
            have D := l6Has_any (some ⟨b0, off, none⟩) j uc ((coAd h.k).take j) s1 n1 d1 z W ((hub8.below hb (Nat.le_refl _)).take (by omega)) (r1.below hb (Nat.le_refl _)) (by omega)
            rw [hasN_take, ← unhide HT1] at D
            refine D.mono ?_
            rintro e w' ⟨rfl, rfl⟩
            exact ⟨rfl, hb⟩
          have HTW := hide (fun (q : twiceN (coAd h.k) (j + 1) = true) => (unhide HTM) (j + 1) h.k.length (by omega) q)
          obtain ⟨t, et⟩ : ∃ t, t = twiceN (coAd h.k) (j + 1) := ⟨_, rfl⟩
          have ET := hide et
          rw [← et] at HD
          have k1 : (0 : Int) ≤ (j : Int) := by omega
          have k2 : (j : Int) < (h.k.length : Int) := by omega
          have k3 : (j : Int) ≤ (uc : Int) := by omega
          have k4 : j ≤ uc := by omega
          have HB8 := hide hb8
          clear hat r1 hit hgd hfz et HT1 hub8 hb8
          go_wp2_with fail
          go_region_held3 (fun W => W.cell? ⟨b0, off + j, none⟩ = some (.slice s1 n1 d1))
            (exact (unhide HHD) _ (by first | assumption | exact Below.refl wr.heap.size wr | exact (Below.refl wr.heap.size wr).drew | exact below_drewN (Below.refl wr.heap.size wr) _ | exact below_drewN (by assumption) _))
            (first | (go_at_call 191; refine ((unhide HD) _ (by first | exact (Below.refl wr.heap.size wr).drew | exact below_drewN (Below.refl wr.heap.size wr) _)).mono ?_; rintro e w5 ⟨rfl, K5⟩))
          all_goals
            have HN := hide ((unhide HB8).trans (K5.mono (unhide HB8).size))
            clear HHD HD K5 c0
            cases t
            · go_wp2_with fail
              refine And.intro ?inv ?measure
              case measure => simp [intOf]; omega
              case inv =>
                have R : ∀ v, v = Value.int .i64 ((j + 1 : Nat) : Int) → ∃ j' : Nat, j' ≤ h.k.length ∧ v = .int .i64 j' ∧ twiceN (coAd h.k) j' = false ∧ Below w8.heap.size w8 w5 := fun v hv => ⟨j + 1, by omega, hv, (unhide ET).symm, unhide HN⟩
                first
                  | exact R _ (by go_num)
                  | ((repeat apply Exists.intro); exact ⟨R _ (by go_num), rfl⟩)
            · have hh := (unhide HTW) (unhide ET).symm
              have HCV : Hid (CC = 6) := by show _ = _; rw [unhide HC1, if_pos hh]
              have HAV : Hid (AA = []) := by show _ = _; rw [unhide HA1, if_neg (by rw [hh]; simp)]
              have HBF := hide ((unhide HB).trans ((unhide HN).mono (unhide HB).size))
              clear hh
              go_wp2_with fail
              go_ret2
              exact ⟨⟨none, 0, 0⟩, fun _ => 0, by rw [unhide HCV]; rfl, by rw [unhide HAV]; exact CS.nil _ _ _ _ _, unhide HBF⟩
        · obtain rfl : j = h.k.length := by omega
          have HCV : Hid (CC = 0) := by show _ = _; rw [unhide HC1, if_neg (by rw [hfz]; simp)]
          have HAV : Hid (AA = coAd h.k) := by show _ = _; rw [unhide HA1, if_pos hfz]
          have HCS8 := hide ((unhide HCS).below hb8 (Nat.le_refl _))
          have HBF := hide ((unhide HB).trans (hb8.mono (unhide HB).size))
          clear hfz hb8
          go_wp2_with fail
          go_ret2
          exact ⟨⟨ua, h.k.length, uc⟩, d, by rw [unhide HCV]; rfl, by rw [unhide HAV]; exact unhide HCS8, unhide HBF⟩

end Go.Proofs.YtnmbdannipebnaaGreatDoor

/- What is proved here: what the model's CommittersOf answers: the fault of a header, or who committed, in memory of its own, and a code. -/
namespace Go.Proofs.YtnmbdannipebnaaGreatDoor
open Go.RowKit
set_option linter.unusedVariables false
set_option maxRecDepth 100000

end Go.Proofs.YtnmbdannipebnaaGreatDoor

/- What is proved here: the contracts of the laws' helper functions that mark a header that a call made, and look for the marks later (markHeader, heldHeader). -/
namespace Go.Proofs.YtnmbdannipebnaaGreatDoor
open Go.RowKit
set_option linter.unusedVariables false
set_option maxRecDepth 100000

end Go.Proofs.YtnmbdannipebnaaGreatDoor

/- What is proved here: the twelve cells of a HeaderResult, and the contracts of the laws' helper functions over one (eqHeaderResult, markHeaderResult, heldHeaderResult). -/
namespace Go.Proofs.YtnmbdannipebnaaGreatDoor
open Go.RowKit
set_option linter.unusedVariables false
set_option maxRecDepth 100000

/-- The twelve cells of a HeaderResult. -/
def hrvals (c : Int) (x : HS) (h : Hd) : Array Value := #[.int .i64 c, .slice x.p.a x.p.n x.p.c, .int .i64 h.n1, .int .i64 h.n2, .int .i64 h.n3, .slice x.t.a x.t.n x.t.c, .int .i64 h.n5, .slice x.s.a x.s.n x.s.c, .slice x.r.a x.r.n x.r.c, .slice x.g.a x.g.n x.g.c, .slice x.e.a x.e.n x.e.c, .slice x.k.a x.k.n x.k.c]

/-- No header. -/
def hd0 : Hd := ⟨[], 0, 0, 0, [], 0, [], [], [], [], []⟩
def hs0 : HS := ⟨⟨none, 0, 0⟩, ⟨none, 0, 0⟩, ⟨none, 0, 0⟩, ⟨none, 0, 0⟩, ⟨none, 0, 0⟩, ⟨none, 0, 0⟩, ⟨none, 0, 0⟩⟩

end Go.Proofs.YtnmbdannipebnaaGreatDoor
