/- What is proved here: what the program's PadBytes answers for all bytes: the model's code and bytes, in new memory. -/
import Derived.Test.YtjjbkbinjmfnlaaGreatDoorChecked
import Derived.Test.YtjjbkbinjmfnlaaGreatDoorJ1
import Derived.Test.YtjjbkbinjmfnlaaGreatDoorJ12
import Derived.Test.YtjjbkbinjmfnlaaGreatDoorJ17
import Derived.WalkKit
import Derived.WalkLawsBesides
import Derived.WalkSmall
import Derived.Laws.CopyOwn
import Derived.WalkSpells
import Derived.Laws.BitsAllLaws
import Derived.KernelRfl
import Derived.Test.YtjjbkbinjmfnlaaGreatDoorJ5
import Derived.Test.YtjjbkbinjmfnlaaGreatDoorJ9
import Derived.Test.YtjjbkbinjmfnlaaGreatDoorJ16
namespace Go.Proofs.YtjjbkbinjmfnlaaGreatDoor
open Go.RowKit
set_option linter.unusedVariables false
set_option maxRecDepth 100000

theorem psize5 : (Tryz.prog.info? 5).map (·.size) = some 1 := by kernel_rfl

/-- Bytes copied to the beginning of a row that is longer. -/
theorem copy_begin (w : World) (B g d n sCap : Nat) (a : Addr) (xs cs : List Value) (h : w.ownsRow B 5 1 (.slice (some ⟨g, 0, none⟩) d d) d xs) (hl : cs.length = n) (hnd : n ≤ d)
    (hsrc : ∀ j v, cs[j]? = some v → w.cell? (a.add j) = some v) (h1 : ∀ v ∈ cs, v.oneCell' = true) :
    ∃ W, (Builtin.copy_ #[73, 73] 3 #[.slice (some ⟨g, 0, none⟩) d d, .slice (some a) n sCap]).run Tryz.prog w = .ok (goInt n) W ∧
      W.ownsRow B 5 1 (.slice (some ⟨g, 0, none⟩) d d) d (cs ++ xs.drop n) ∧ w.grownBy W (some g) := by
  have hxl := h.1
  rcases h.2 with ⟨h', _⟩ | ⟨g', cap', cur, h', hb, hg, hnc, hcm, hcs, htake⟩
  · simp at h'
  · simp only [Value.slice.injEq, Option.some.injEq, Addr.mk.injEq, and_true, true_and] at h'
    obtain ⟨rfl, rfl⟩ := h'
    have hr := run_copy_row (P := Tryz.prog) w 73 73 3 5 g 0 d d a n sCap cur 5 cs Tryz.underlying73 psize5 hg (by rw [hl]; exact (Nat.min_eq_left hnd).symm) hsrc (by omega) h1
    have hcur : cur.toList = xs := by
      have : cur.toList.length ≤ d := by simp; omega
      rw [← htake, Nat.mul_one, List.take_of_length_le this]
    have e1 : cur.toList.take 0 ++ cs ++ cur.toList.drop (0 + cs.length) = cs ++ xs.drop n := by
      rw [hcur, hl]; simp
    rw [e1, hl] at hr
    have hlen : (cs ++ xs.drop n).length = d := by simp; omega
    exact ⟨_, hr, ⟨by rw [hlen, Nat.mul_one], .inr ⟨g, d, (cs ++ xs.drop n).toArray, rfl, hb, setRow_heap w g cur _ 5 _ hg, Nat.le_refl _, hcm, by simpa using hlen, by
      have : (d * 1) = d := by omega
      simp only [this]
      rw [List.take_of_length_le (by simp; omega)]⟩⟩,
      ⟨rfl, rfl, rfl, by simp [World.setRow], fun k _ hk => setRow_other w g k _ (fun e => hk (by simp [e]))⟩⟩

/-- The like of any slice that came in. -/
theorem copy_any_begin (w : World) (B g d n sCap : Nat) (a : Option Addr) (hcap : a = none → sCap = 0) (zs : List Int) (xs : List Value) (h : w.ownsRow B 5 1 (.slice (some ⟨g, 0, none⟩) d d) d xs) (hr : BRow w a n zs) (hnd : n ≤ d) :
    ∃ W, (Builtin.copy_ #[73, 73] 3 #[.slice (some ⟨g, 0, none⟩) d d, .slice a n sCap]).run Tryz.prog w = .ok (goInt n) W ∧
      W.ownsRow B 5 1 (.slice (some ⟨g, 0, none⟩) d d) d (zs.map (Value.int .u8) ++ xs.drop n) ∧ w.grownBy W (some g) := by
  cases a with
  | none =>
    obtain rfl : n = 0 := hr.2.2.1 rfl
    obtain rfl : zs = [] := List.length_eq_zero_iff.1 hr.1
    obtain rfl : sCap = 0 := hcap rfl
    refine ⟨w, ?_, by simpa using h, grownBy_refl w _⟩
    have := run_copy_nil (P := Tryz.prog) w 73 73 3 5 ⟨g, 0, none⟩ d d Tryz.underlying73 (by kernel_rfl)
    simpa [goInt] using this
  | some x =>
    refine copy_begin w B g d n sCap x xs (zs.map (Value.int .u8)) h (by simpa using hr.1) hnd ?_ (fun v hv => by obtain ⟨z, _, rfl⟩ := List.mem_map.1 hv; rfl)
    intro j v hj
    have hjl : j < zs.length := by have := (List.getElem?_eq_some_iff.1 hj).1; simpa using this
    rw [hr.2.2.2 x rfl j (by rw [← hr.1]; exact hjl)]
    rw [List.getElem?_map, List.getElem?_eq_getElem hjl] at hj
    rw [getD_at _ _ hjl]
    exact hj

theorem raw_start (zs : List Int) (n D : Nat) (hzl : zs.length = n) (hD : n < D) :
    ((zs.map (Value.int .u8) ++ (madeCells #[Value.int .u8 0] D).toList.drop n).set n (.int .u8 1)) = (padRaw zs (D - n - 1)).map (Value.int .u8) := by
  rw [toList_madeCells_one, List.drop_replicate, List.set_append, if_neg (by simp; omega)]
  unfold padRaw
  rw [List.map_append, List.map_cons, List.map_replicate]
  congr 1
  obtain ⟨k, hk⟩ : ∃ k, D - n = k + 1 := ⟨D - n - 1, by omega⟩
  rw [List.length_map, hzl, Nat.sub_self, hk, List.replicate_succ, List.set_cons_zero]
  rfl

set_option maxRecDepth 100000 in
set_option maxHeartbeats 1000000 in
theorem implPad_in (a : Option Addr) (n cap : Nat) (zs : List Int) (w : World) (h : BRow w a n zs) (hcap : a = none → cap = 0) (hn : n ≤ 1200) :
    Calls Tryz.prog 149 #[.slice a n cap] w fun e w' => ∃ g cap', e = .returned (.agg #[.int .i64 0, .slice (some ⟨g, 0, none⟩) (padLen n) cap']) ∧
      w'.ownsRow w.heap.size 5 1 (.slice (some ⟨g, 0, none⟩) (padLen n) cap') (padLen n) ((padB zs).map (Value.int .u8)) ∧ Below w.heap.size w w' := by
  obtain ⟨i0, hi, hz0, hz1, hz2⟩ := info_parts info5
  have hzl := h.1
  have hp := padLen_lt n
  have hlast := padRaw_last zs
  have hB : padB zs = (padRaw zs (padLen n - n - 1)).set (padLen n - 1) (padLast n) := by unfold padB; rw [hzl]
  rw [hzl] at hlast
  have hpl : padLast n = if n + 1 = padLen n then 129 else 128 := rfl
  have hDe : (n : Int) / 136 * 136 + 136 = (padLen n : Int) := by unfold padLen; omega
  generalize padLast n = PL at hB hpl
  rw [hB]
  generalize padLen n = D at hp hlast hpl hDe
  have HLA := hide hlast
  have HPL := hide hpl
  have HH := hide h
  have HCP := hide hcap
  clear hcap hB hlast h hpl
  go_enter Tryz.func149, Tryz.ntmps149
  go_wp2_with (at_make; refine wpList_make_full _ rfl _ _ 73 rfl (w.heap.size + 1) 5 i0 (.int .u8 0) 1 Tryz.underlying73 hi hz0 hz1 _ _ _ _ D rfl rfl (by omega) (by omega) ?c1 ?c2 ?c3 ?_)
  case c1 => rw [hz2]; omega
  case c2 => unfold maxLen; omega
  case c3 => simp
  intro w1 hown hgrow
  have hb0 := below_alloc w (.cells #[.int .i64 0, .slice none 0 0] 124)
  have hres : (w.alloc (.cells #[.int .i64 0, .slice none 0 0] 124)).heap[w.heap.size]? = some (.cells #[.int .i64 0, .slice none 0 0] 124 (0, 0)) := by
    show (w.heap.push _)[w.heap.size]? = _
    simp
  have hsz : (w.alloc (.cells #[.int .i64 0, .slice none 0 0] 124)).heap.size = w.heap.size + 1 := by simp
  have hb1 : Below w.heap.size w w1 := hb0.grown hgrow (by rw [hsz]; omega) (fun k e => by cases e)
  have hres1 : w1.heap[w.heap.size]? = some (.cells #[.int .i64 0, .slice none 0 0] 124 (0, 0)) := (hgrow.block _ (by rw [hsz]; omega) (by simp)).trans hres
  have hsz1 : w.heap.size + 1 ≤ w1.heap.size := by rw [← hsz]; exact hgrow.size
  obtain ⟨w2, hcp, hown2, hgrow2⟩ := copy_any_begin w1 (w.heap.size + 1) (w.heap.size + 1) D n cap a (unhide HCP) zs _ hown ((unhide HH).below hb1 (Nat.le_refl _)) (by omega)
  have hb2 : Below w.heap.size w w2 := hb1.grown hgrow2 (by omega) (fun k e => by cases e; omega)
  have hres2 : w2.heap[w.heap.size]? = some (.cells #[.int .i64 0, .slice none 0 0] 124 (0, 0)) := (hgrow2.block _ (by omega) (by simp)).trans hres1
  have fr1 := hown2.frozenAt n
  obtain ⟨u, hu⟩ : ∃ u, w2.cell? ⟨w.heap.size + 1, n, none⟩ = some u := by
    rw [hown2.cellAt n (by omega)]
    exact ⟨_, List.getElem?_eq_getElem (by rw [hown2.1]; omega)⟩
  have R3 := hown2.stored n (.int .u8 1)
  rw [raw_start zs n D hzl hp.1] at R3
  have o3 := R3.1
  have hb3 : Below w.heap.size w (w2.setCell ⟨w.heap.size + 1, n, none⟩ (.int .u8 1)) := hb2.setCell (Nat.le_succ _) _
  have hres3 : (w2.setCell ⟨w.heap.size + 1, n, none⟩ (.int .u8 1)).heap[w.heap.size]? = some (.cells #[.int .i64 0, .slice none 0 0] 124 (0, 0)) := (heap_setCell_other w2 ⟨w.heap.size + 1, n, none⟩ w.heap.size _ (by simp)).trans hres2
  obtain ⟨w3, hw3⟩ : ∃ w3, w3 = w2.setCell ⟨w.heap.size + 1, n, none⟩ (.int .u8 1) := ⟨_, rfl⟩
  rw [← hw3] at o3 hb3 hres3
  have fr2 := o3.frozenAt (D - 1)
  have hpr := padRaw_length zs (D - n - 1)
  have hv : w3.cell? ⟨w.heap.size + 1, D - 1, none⟩ = some (.int .u8 (if n + 1 = D then 1 else 0)) := by
    rw [o3.cellAt (D - 1) (by omega), ← unhide HLA, getD_at _ _ (by omega), List.getElem?_map, List.getElem?_eq_getElem (by omega)]
    rfl
  have hx : bits .xor .u8 (if n + 1 = D then 1 else 0) 128 = PL := by
    rw [unhide HPL]
    split <;> decide
  generalize (if n + 1 = D then (1 : Int) else 0) = lv at hv hx
  have R4 := o3.stored (D - 1) (.int .u8 PL)
  rw [← List.map_set] at R4
  have hb4 : Below w.heap.size w (w3.setCell ⟨w.heap.size + 1, D - 1, none⟩ (.int .u8 PL)) := hb3.setCell (Nat.le_succ _) _
  have hres4 : (w3.setCell ⟨w.heap.size + 1, D - 1, none⟩ (.int .u8 PL)).heap[w.heap.size]? = some (.cells #[.int .i64 0, .slice none 0 0] 124 (0, 0)) := (heap_setCell_other w3 ⟨w.heap.size + 1, D - 1, none⟩ w.heap.size _ (by simp)).trans hres3
  obtain ⟨w4, hw4⟩ : ∃ w4, w4 = w3.setCell ⟨w.heap.size + 1, D - 1, none⟩ (.int .u8 PL) := ⟨_, rfl⟩
  rw [← hw4] at R4 hb4 hres4
  obtain ⟨q0, q1, f0, f1⟩ := res_facts hres4
  have HO := hide R4.1
  have HB := hide hb4
  have e3 := hw3.symm
  have e4 := hw4.symm
  have hD1 : (D : Int) - 1 = ((D - 1 : Nat) : Int) := by omega
  clear hown hgrow hown2 hgrow2 hb0 hb1 hb2 hb3 hb4 R3 R4 o3 hres hres1 hres2 hres3 hres4 hw3 hw4
  go_wp2_with fail
  refine bodyPost_ret (v := .agg #[.int .i64 0, .slice (some ⟨w.heap.size + 1, 0, none⟩) D D]) (by simp [results, Tryz.results149, go_sem, q0, q1]) rfl ⟨_, D, rfl, ?_, ?_⟩
  · exact ownsRow_base (ownsRow_setCell_below (ownsRow_setCell_below (unhide HO) (by simp) _) (by simp) _) (by omega)
  · exact ((unhide HB).setCell (by simp) _).setCell (by simp) _

set_option maxHeartbeats 1000000 in
theorem implPad_any (a : Option Addr) (n cap : Nat) (zs : List Int) (w : World) (h : BRow w a n zs) (hcap : a = none → cap = 0) (hn : n ≤ 1048576) :
    Calls Tryz.prog 149 #[.slice a n cap] w fun e w' => ∃ a' cap', e = .returned (.agg #[.int .i64 (pdCode zs), .slice a' (pdBytes zs).length cap']) ∧
      w'.ownsRow w.heap.size 5 1 (.slice a' (pdBytes zs).length cap') (pdBytes zs).length ((pdBytes zs).map (Value.int .u8)) ∧ Below w.heap.size w w' := by
  have hzl := h.1
  by_cases hm : 1200 < n
  · have e1 : pdCode zs = 2 := if_pos (by omega)
    have e2 : pdBytes zs = [] := if_pos (by omega)
    rw [e1, e2]
    clear h e1 e2 hcap
    go_enter Tryz.func149, Tryz.ntmps149
    go_wp2_with fail
    exact bodyPost_ret (v := .agg #[.int .i64 2, .slice none 0 0]) (by simp [results, Tryz.results149, go_sem]) rfl ⟨none, 0, rfl, World.ownsRow_nil _ _ _ _, (Below.refl _ _).alloc (Nat.le_refl _) _⟩
  · have e1 : pdCode zs = 0 := if_neg (by omega)
    have e2 : pdBytes zs = padB zs := if_neg (by omega)
    have e3 := padB_length zs
    rw [hzl] at e3
    rw [e1, e2, e3]
    refine (implPad_in a n cap zs w h hcap (by omega)).mono fun e w' hq => ?_
    obtain ⟨g, c, h1, h2, h3⟩ := hq
    exact ⟨_, c, h1, h2, h3⟩

end Go.Proofs.YtjjbkbinjmfnlaaGreatDoor

/- What is proved here: what the program's KeccakOf answers for every slice of bytes: the code and the hash, in new memory. -/
namespace Go.Proofs.YtjjbkbinjmfnlaaGreatDoor
open Go.RowKit
set_option linter.unusedVariables false
set_option maxRecDepth 100000
attribute [local go_sem ↓] Go.wp_at_zero Go.wp_at_succ

/-- A block of an answer that is laid: its code and its bytes. -/
def YBlk (w : World) (b : Nat) (c : Int) (v : Value) : Prop := w.heap[b]? = some (.cells #[.int .i64 c, v] 124 (0, 0))

theorem YBlk.below {w w' : World} {b C : Nat} {c : Int} {v : Value} (h : YBlk w b c v) (hb : Below C w w') (hC : b < C) : YBlk w' b c v := by
  unfold YBlk
  rw [hb.block b hC]; exact h

theorem YBlk.lt {w : World} {b : Nat} {c : Int} {v : Value} (h : YBlk w b c v) : b < w.heap.size := lt_of_block h

theorem YBlk.cells {w : World} {b : Nat} {c : Int} {v : Value} (h : YBlk w b c v) : w.cell? ⟨b, 0, none⟩ = some (.int .i64 c) ∧ w.cell? ⟨b, 1, none⟩ = some v ∧ w.frozen? ⟨b, 0, none⟩ = false ∧ w.frozen? ⟨b, 1, none⟩ = false := res_facts h

theorem hash_get (Z : List Nat) (k : Nat) (hk : k < 32) : (hashOf Z)[k]? = some ((Z.getD (k / 8) 0 / 2 ^ (8 * (k % 8)) % 256 : Nat) : Int) := by
  simp [hashOf, hk]

theorem fill_int (X Y : List Int) (n k : Nat) (hX : X.length = n) (hY : Y.length = n) (hk : k < n) : (X.take k ++ Y.drop k).set k (X.getD k 0) = X.take (k + 1) ++ Y.drop (k + 1) := by
  have hl : (X.take k).length = k := by simp; omega
  rw [List.set_append, if_neg (by omega), hl, Nat.sub_self, List.drop_eq_getElem_cons (by omega), List.set_cons_zero, List.take_succ_eq_append_getElem (by omega), getD_at X k (by omega), List.append_assoc]
  rfl

set_option maxRecDepth 100000 in
set_option maxHeartbeats 4000000 in
theorem implKc_any (a : Option Addr) (n cap : Nat) (zs : List Int) (w : World) (h : BRow w a n zs) (hcap : a = none → cap = 0) (hn : n ≤ 1048576) (hv : Laid w) :
    Calls Tryz.prog 124 #[.slice a n cap] w fun e w' => ∃ a' cap', e = .returned (.agg #[.int .i64 (kcCode zs), .slice a' (kcBytes zs).length cap']) ∧
      w'.ownsRow w.heap.size 5 1 (.slice a' (kcBytes zs).length cap') (kcBytes zs).length ((kcBytes zs).map (Value.int .u8)) ∧ Below w.heap.size w w' := by
  have hzl := h.1
  have K1 := below_alloc w (.cells #[.int .i64 0, .slice none 0 0] 124)
  have T1 : YBlk (w.alloc (.cells #[.int .i64 0, .slice none 0 0] 124)) w.heap.size 0 (.slice none 0 0) := heap_alloc_new w _
  by_cases hm : 1200 < n
  · have e1 : kcCode zs = 2 := if_pos (by omega)
    have e2 : kcBytes zs = [] := if_pos (by omega)
    have HPD := hide (implPad_any a n cap zs _ (h.below K1 (Nat.le_refl _)) hcap hn)
    have e3 : pdCode zs = 2 := if_pos (by omega)
    have e4 : pdBytes zs = [] := if_pos (by omega)
    rw [e3, e4] at HPD
    rw [e1, e2]
    clear e1 e2 e3 e4 h
    go_enter Tryz.func124, Tryz.ntmps124
    generalize hw1 : w.alloc (.cells #[.int .i64 0, .slice none 0 0] 124) = w1 at K1 T1 HPD
    go_upto_region 1 with fail
    have hsz : w.heap.size < w1.heap.size := T1.lt
    clear hw1
    have HK1 := hide K1
    have HT1 := hide T1
    clear K1 T1
    go_wp2_with fail
    refine (unhide HPD).mono ?_
    rintro e w2 ⟨a2, c2, rfl, o2, b2⟩
    have T2 := YBlk.below (unhide HT1) b2 hsz
    have B2 := (unhide HK1).trans (b2.mono (unhide HK1).size)
    have hs2 : w.heap.size < w2.heap.size := Nat.lt_of_lt_of_le hsz b2.size
    clear o2 b2
    have K3 := below_alloc w2 (.cells #[.int .i64 2, .slice a2 0 c2] 124)
    have Q3 : YBlk (w2.alloc (.cells #[.int .i64 2, .slice a2 0 c2] 124)) w2.heap.size 2 (.slice a2 0 c2) := heap_alloc_new w2 _
    go_upto_region 2 with fail
    generalize w2.alloc (.cells #[.int .i64 2, .slice a2 0 c2] 124) = w3 at K3 Q3 ⊢
    obtain ⟨q0, q1, _, _⟩ := Q3.cells
    obtain ⟨t0, t1, t2, t3⟩ := (T2.below K3 hs2).cells
    have HB := hide (B2.trans (K3.mono B2.size))
    clear T2 B2 K3 Q3 HPD HT1 HK1
    go_wp2_with fail
    refine bodyPost_ret (v := .agg #[.int .i64 2, .slice none 0 0]) (by simp [results, Tryz.results124, go_sem, t0, t1]) rfl ⟨none, 0, rfl, World.ownsRow_nil _ _ _ _, ?_⟩
    exact ((unhide HB).setCell (by simp) _).setCell (by simp) _
  · have hp := padLen_lt n
    have HRG := hide (padB_range zs h.2.1)
    have HPL := hide (padB_length zs)
    have HPD := hide (implPad_in a n cap zs _ (h.below K1 (Nat.le_refl _)) hcap (by omega))
    have e1 : kcCode zs = 0 := if_neg (by omega)
    have e2 : kcBytes zs = hashOf (spAt (padB zs) (padLen zs.length / 136)) := if_neg (by omega)
    have e3 := hashOf_length (spAt (padB zs) (padLen zs.length / 136))
    rw [e1, e2, e3]
    rw [hzl] at HPL ⊢
    have HSL := hide (spAt_lanes (unhide HRG))
    have HSS := hide (fun k => show spAt (padB zs) (k + 1) = mixAt (soakAt (spAt (padB zs) k) (padB zs) (136 * k) 17) 24 from rfl)
    have HS0 := hide (show spAt (padB zs) 0 = List.replicate 25 0 from rfl)
    generalize padB zs = PB at HRG HPL HPD HSL HSS HS0 ⊢
    generalize padLen n = L at hp HPL HPD ⊢
    obtain ⟨N, hN⟩ : ∃ N, L = 136 * N := ⟨L / 136, by omega⟩
    have hN2 : L / 136 = N := by omega
    rw [hN2]
    have hLs : L ≤ 1400 := by omega
    have HN := hide hN
    clear hN2 hN
    have HVV := hide hv
    clear e1 e2 e3 h hv hcap
    go_enter Tryz.func124, Tryz.ntmps124
    generalize hw1 : w.alloc (.cells #[.int .i64 0, .slice none 0 0] 124) = w1 at K1 T1 HPD
    go_upto_region 1 with fail
    have hsz : w.heap.size < w1.heap.size := T1.lt
    clear hw1
    have HK1 := hide K1
    have HT1 := hide T1
    clear K1 T1
    go_wp2_with fail
    refine (unhide HPD).mono ?_
    rintro e w2 ⟨g, c2, rfl, o2, b2⟩
    have hL2 : L ≤ c2 := by
      rcases o2.2 with ⟨e, _⟩ | ⟨_, _, _, e, _, _, h1, _⟩
      · cases e
      · cases e; exact h1
    have R2 := BRow.own o2 (unhide HRG)
    have hg2 : g < w2.heap.size := (o2.lt g rfl).2
    have T2 := YBlk.below (unhide HT1) b2 hsz
    have B2 := (unhide HK1).trans (b2.mono (unhide HK1).size)
    have hs2 : w.heap.size < w2.heap.size := Nat.lt_of_lt_of_le hsz b2.size
    clear o2 b2
    have K3 := below_alloc w2 (.cells #[.int .i64 0, .slice (some ⟨g, 0, none⟩) L c2] 124)
    have Q3 : YBlk (w2.alloc (.cells #[.int .i64 0, .slice (some ⟨g, 0, none⟩) L c2] 124)) w2.heap.size 0 (.slice (some ⟨g, 0, none⟩) L c2) := heap_alloc_new w2 _
    go_upto_region 2 with fail
    generalize w2.alloc (.cells #[.int .i64 0, .slice (some ⟨g, 0, none⟩) L c2] 124) = w3 at K3 Q3 ⊢
    obtain ⟨q0, q1, _, _⟩ := Q3.cells
    have R3 := hide (R2.below K3 (Nat.le_refl _))
    have T3 := hide (T2.below K3 hs2)
    have B3 := hide (B2.trans (K3.mono B2.size))
    have hq3 : w2.heap.size < w3.heap.size := Q3.lt
    have HQ3 := hide Q3
    clear R2 T2 B2 K3 Q3 HPD HT1 HK1
    go_upto_block 0 with fail
    have N4 : UBlk (w3.alloc (.cells #[.int .u64 0, .int .u64 0, .int .u64 0, .int .u64 0, .int .u64 0, .int .u64 0, .int .u64 0, .int .u64 0, .int .u64 0, .int .u64 0, .int .u64 0, .int .u64 0, .int .u64 0, .int .u64 0, .int .u64 0, .int .u64 0, .int .u64 0, .int .u64 0, .int .u64 0, .int .u64 0, .int .u64 0, .int .u64 0, .int .u64 0, .int .u64 0, .int .u64 0] 165)) w3.heap.size (List.replicate 25 0) 165 := UBlk.new w3 (List.replicate 25 0) 165
    have K4 := below_alloc w3 (.cells #[.int .u64 0, .int .u64 0, .int .u64 0, .int .u64 0, .int .u64 0, .int .u64 0, .int .u64 0, .int .u64 0, .int .u64 0, .int .u64 0, .int .u64 0, .int .u64 0, .int .u64 0, .int .u64 0, .int .u64 0, .int .u64 0, .int .u64 0, .int .u64 0, .int .u64 0, .int .u64 0, .int .u64 0, .int .u64 0, .int .u64 0, .int .u64 0, .int .u64 0] 165)
    generalize w3.alloc (.cells #[.int .u64 0, .int .u64 0, .int .u64 0, .int .u64 0, .int .u64 0, .int .u64 0, .int .u64 0, .int .u64 0, .int .u64 0, .int .u64 0, .int .u64 0, .int .u64 0, .int .u64 0, .int .u64 0, .int .u64 0, .int .u64 0, .int .u64 0, .int .u64 0, .int .u64 0, .int .u64 0, .int .u64 0, .int .u64 0, .int .u64 0, .int .u64 0, .int .u64 0] 165) = w4 at N4 K4 ⊢
    rw [← unhide HS0] at N4
    have HS4 := hide N4
    have HK4 := hide K4
    clear N4 K4
    go_cut [5] (fun i wr => i = .int .i64 L ∧ UBlk wr w3.heap.size (spAt PB N) 165 ∧ Below w3.heap.size w3 wr)
    case first =>
      go_wp2_with fail
      go_loopw [5] (fun i wr => ∃ k : Nat, k ≤ N ∧ i = .int .i64 ((136 * k : Nat) : Int) ∧ UBlk wr w3.heap.size (spAt PB k) 165 ∧ Below w3.heap.size w3 wr) (fun i _ => 136 * N - (intOf i).toNat)
      case atStart => exact ⟨0, by omega, rfl, unhide HS4, unhide HK4⟩
      case round =>
        obtain ⟨k, hk, rfl, hS, hB⟩ := hrel
        clear HS4 HK4
        obtain ⟨t, ht⟩ : ∃ t, t = 136 * k := ⟨_, rfl⟩
        rw [← ht]
        have d1 := (hB.cell (p := ⟨w2.heap.size, 1, none⟩) hq3).trans q1
        have hsl := (unhide HSL) k
        have hN := unhide HN
        by_cases hlt : k < N
        · have hdk : decide ((t : Int) < (L : Int)) = true := decide_eq_true (by omega)
          have htL : t + 136 ≤ L := by omega
          have hkN : 136 * N - 136 * (k + 1) < 136 * N - t := by omega
          have HKN := hide hkN
          have HTT := hide (show t + 136 = 136 * (k + 1) by omega)
          clear hN hkN
          have HLD := hide (fun (W : World) (hW : UBlk W w3.heap.size (spAt PB k) 165) => load25 hW hsl.1)
          have HSK : Hid (∀ (cp : Nat) (W : World), Below w3.heap.size w3 W → Calls Tryz.prog 150 #[.agg (vals (spAt PB k)).toArray, .slice (some ⟨g, t, none⟩) 136 cp] W fun e w' => e = .returned (.agg (vals (spAt PB (k + 1))).toArray) ∧ Below W.heap.size W w') := by
            intro cp W hW
            have r1 := ((unhide R3).below hW (Nat.le_refl _)).sub t 136 (by omega)
            rw [Nat.zero_add] at r1
            have := soak_any (spAt PB k) hsl g t 136 cp _ W r1 (by omega) (by omega) ((unhide HVV).below ((unhide B3).trans (hW.mono (unhide B3).size)) (Nat.le_refl _))
            rw [soakAt_block _ _ _ 17 (Nat.le_refl _)] at this
            have hs := (unhide HSS) k
            rw [← ht] at hs
            rw [← hs] at this
            exact this
          have hsl2 := (unhide HSL) (k + 1)
          obtain ⟨t2, ht2⟩ : ∃ t2, t2 = t + 136 := ⟨_, rfl⟩
          have m0 : (t : Int) + 136 = (t2 : Int) := by omega
          have y0 : IntKind.i64.wrap (t2 : Int) = (t2 : Int) := i64_fits _ (by omega) (by omega)
          have j0 : (0 : Int) ≤ (t : Int) := by omega
          have j1 : (t : Int) ≤ (t2 : Int) := by omega
          have j2 : (t2 : Int) ≤ (c2 : Int) := by omega
          have j3 : t ≤ t2 := by omega
          have j4 : t2 ≤ c2 := by omega
          have j5 : t2 - t = 136 := by omega
          have j6 : ¬ (c2 = t) := by omega
          have HS5 := hide hS
          have HB5 := hide hB
          have len1 := hsl.1
          have len2 := hsl2.1
          generalize hS2 : spAt PB (k + 1) = S2 at HSK hsl2 len2
          have HE2 := hide hS2
          clear hS2
          generalize spAt PB k = S1 at HLD HSK HS5 len1 hS hsl
          clear hS hB hsl hsl2 ht ht2
          go_upto_region 8 with fail
          refine wp_region_any (by kernel_rfl) ?_
          try (change wpAny _ _ _ _ _ _ _ (World.drew _))
          refine wpAny_take (i := 1) (v := ?v1) rfl (by kernel_rfl) (by kernel_rfl) (by kernel_rfl) (fun _ _ _ h => h) (Or.inl ⟨by rfl, ?h1⟩) ?r1
          case h1 => (intro w; go_simp; try with_reducible rfl)
          refine wpAny_take (i := 3) (v := ?v3) rfl (by kernel_rfl) (by kernel_rfl) (by kernel_rfl) (fun _ _ _ h => h) (Or.inl ⟨by rfl, ?h3⟩) ?r3
          case h3 => (intro w; go_simp; try with_reducible rfl)
          refine wpAny_take (i := 4) (v := ?v4) rfl (by kernel_rfl) (by kernel_rfl) (by kernel_rfl) (fun _ _ _ h => h) (Or.inl ⟨by rfl, ?h4⟩) ?r4
          case h4 => (intro w; go_simp; try with_reducible rfl)
          refine wpAny_take (i := 5) (v := ?v5) rfl (by kernel_rfl) (by kernel_rfl) (by kernel_rfl) (fun _ _ _ h => h) (Or.inl ⟨by rfl, ?h5⟩) ?r5
          case h5 => (intro w; go_simp; try with_reducible rfl)
          refine wpAny_ready (rs := [0, 2]) (by kernel_rfl) (by simp) ?_
          refine AllReady.cons rfl (fun K hK => ?_) ?_
          · refine step_load_eq rfl 165 (.tmp 4) rfl (.pointer (some ⟨w3.heap.size, 0, none⟩)) _ (by rfl) ((unhide HLD) (World.drew wr) (unhide HS5)) ?_
            refine hK _ _ ?_
            clear hK K
            refine wpAny_ready (rs := [2]) (by kernel_rfl) (by simp) ?_
            refine AllReady.cons rfl (fun K hK => ?_) AllReady.nil
            go_simp
            refine hK _ _ ?_
            clear hK K
            refine wpAny_ready (rs := [6]) (by kernel_rfl) (by simp) ?_
            refine AllReady.cons rfl (fun K hK => ?_) AllReady.nil
            go_simp
            refine hK _ _ ?_
            clear hK K
            refine wpAny_ready (rs := [7]) (by kernel_rfl) (by simp) ?_
            refine AllReady.cons rfl (fun K hK => ?_) AllReady.nil
            go_simp
            go_wp2_with (go_at_call 150; refine ((unhide HSK) _ (World.drew wr) (unhide HB5).drew).mono ?_; rintro e w6 ⟨rfl, b6⟩)
            obtain ⟨w7, hst, S7, K7, O7⟩ := store25 ((unhide HS5).below (Below.trans ((Below.refl wr.heap.size wr).drew) b6) (unhide HS5).lt) len1 len2
            have HB7 := hide (((unhide HB5).trans ((Below.trans ((Below.refl wr.heap.size wr).drew) b6).mono (unhide HB5).size)).trans (K7 w3.heap.size (Nat.le_refl _)))
            have HS7 := hide S7
            have HST := hide hst
            clear hst S7 K7 O7 b6
            try (refine hK _ _ ?_; clear hK K)
            refine wpAny_ready (rs := [8]) (by kernel_rfl) (by simp) ?_
            refine AllReady.cons rfl (fun K hK => ?_) AllReady.nil
            refine step_store_eq rfl 165 (.tmp 4) (.tmp 30) rfl (.pointer (some ⟨w3.heap.size, 0, none⟩)) (.agg (vals S2).toArray) (by rfl) (by rfl) w7 (unhide HST) ?_
            refine hK _ _ ?_
            clear hK K
            refine wpAny_done (by kernel_rfl) ?_ _
            go_wp2_with fail
            go_roundw
            case rel => exact ⟨k + 1, by omega, by rw [← unhide HTT]; go_num, by rw [unhide HE2]; exact unhide HS7, unhide HB7⟩
            case measure => simp [intOf]; have := unhide HKN; have := unhide HTT; omega
          · refine AllReady.cons rfl (fun K hK => ?_) AllReady.nil
            go_simp
            refine hK _ _ ?_
            clear hK K
            refine wpAny_ready (rs := [0, 6]) (by kernel_rfl) (by simp) ?_
            refine AllReady.cons rfl (fun K hK => ?_) ?_
            · refine step_load_eq rfl 165 (.tmp 4) rfl (.pointer (some ⟨w3.heap.size, 0, none⟩)) _ (by rfl) ((unhide HLD) (World.drew wr) (unhide HS5)) ?_
              refine hK _ _ ?_
              clear hK K
              refine wpAny_ready (rs := [6]) (by kernel_rfl) (by simp) ?_
              refine AllReady.cons rfl (fun K hK => ?_) AllReady.nil
              go_simp
              refine hK _ _ ?_
              clear hK K
              refine wpAny_ready (rs := [7]) (by kernel_rfl) (by simp) ?_
              refine AllReady.cons rfl (fun K hK => ?_) AllReady.nil
              go_simp
              go_wp2_with (go_at_call 150; refine ((unhide HSK) _ (World.drew wr) (unhide HB5).drew).mono ?_; rintro e w6 ⟨rfl, b6⟩)
              obtain ⟨w7, hst, S7, K7, O7⟩ := store25 ((unhide HS5).below (Below.trans ((Below.refl wr.heap.size wr).drew) b6) (unhide HS5).lt) len1 len2
              have HB7 := hide (((unhide HB5).trans ((Below.trans ((Below.refl wr.heap.size wr).drew) b6).mono (unhide HB5).size)).trans (K7 w3.heap.size (Nat.le_refl _)))
              have HS7 := hide S7
              have HST := hide hst
              clear hst S7 K7 O7 b6
              try (refine hK _ _ ?_; clear hK K)
              refine wpAny_ready (rs := [8]) (by kernel_rfl) (by simp) ?_
              refine AllReady.cons rfl (fun K hK => ?_) AllReady.nil
              refine step_store_eq rfl 165 (.tmp 4) (.tmp 30) rfl (.pointer (some ⟨w3.heap.size, 0, none⟩)) (.agg (vals S2).toArray) (by rfl) (by rfl) w7 (unhide HST) ?_
              refine hK _ _ ?_
              clear hK K
              refine wpAny_done (by kernel_rfl) ?_ _
              go_wp2_with fail
              go_roundw
              case rel => exact ⟨k + 1, by omega, by rw [← unhide HTT]; go_num, by rw [unhide HE2]; exact unhide HS7, unhide HB7⟩
              case measure => simp [intOf]; have := unhide HKN; have := unhide HTT; omega
            · refine AllReady.cons rfl (fun K hK => ?_) AllReady.nil
              go_simp
              refine hK _ _ ?_
              clear hK K
              refine wpAny_ready (rs := [0]) (by kernel_rfl) (by simp) ?_
              refine AllReady.cons rfl (fun K hK => ?_) AllReady.nil
              refine step_load_eq rfl 165 (.tmp 4) rfl (.pointer (some ⟨w3.heap.size, 0, none⟩)) _ (by rfl) ((unhide HLD) (World.drew wr) (unhide HS5)) ?_
              refine hK _ _ ?_
              clear hK K
              refine wpAny_ready (rs := [7]) (by kernel_rfl) (by simp) ?_
              refine AllReady.cons rfl (fun K hK => ?_) AllReady.nil
              go_simp
              go_wp2_with (go_at_call 150; refine ((unhide HSK) _ (World.drew wr) (unhide HB5).drew).mono ?_; rintro e w6 ⟨rfl, b6⟩)
              obtain ⟨w7, hst, S7, K7, O7⟩ := store25 ((unhide HS5).below (Below.trans ((Below.refl wr.heap.size wr).drew) b6) (unhide HS5).lt) len1 len2
              have HB7 := hide (((unhide HB5).trans ((Below.trans ((Below.refl wr.heap.size wr).drew) b6).mono (unhide HB5).size)).trans (K7 w3.heap.size (Nat.le_refl _)))
              have HS7 := hide S7
              have HST := hide hst
              clear hst S7 K7 O7 b6
              try (refine hK _ _ ?_; clear hK K)
              refine wpAny_ready (rs := [8]) (by kernel_rfl) (by simp) ?_
              refine AllReady.cons rfl (fun K hK => ?_) AllReady.nil
              refine step_store_eq rfl 165 (.tmp 4) (.tmp 30) rfl (.pointer (some ⟨w3.heap.size, 0, none⟩)) (.agg (vals S2).toArray) (by rfl) (by rfl) w7 (unhide HST) ?_
              refine hK _ _ ?_
              clear hK K
              refine wpAny_done (by kernel_rfl) ?_ _
              go_wp2_with fail
              go_roundw
              case rel => exact ⟨k + 1, by omega, by rw [← unhide HTT]; go_num, by rw [unhide HE2]; exact unhide HS7, unhide HB7⟩
              case measure => simp [intOf]; have := unhide HKN; have := unhide HTT; omega
        · obtain rfl : k = N := by omega
          have hdk : decide ((t : Int) < (L : Int)) = false := decide_eq_false (by omega)
          have htL : t = L := by omega
          clear hN
          have HS5 := hide hS
          clear hS
          go_wp2_with fail
          go_meet
          exact ⟨by rw [htL], unhide HS5, hB⟩
    case rest =>
      obtain ⟨rfl, hS, hB⟩ := hcut
      have hsl := (unhide HSL) N
      have hBw := (unhide B3).trans (hB.mono (unhide B3).size)
      have hT := (unhide T3).below hB (by omega)
      have hrs := hS.lt
      have hXL := hashOf_length (spAt PB N)
      have HHG := hide (hash_get (spAt PB N))
      generalize hX : hashOf (spAt PB N) = X at hXL HHG
      have HX := hide hX
      clear hX
      generalize spAt PB N = Z at hS hsl HHG
      have HSL2 := hide hsl
      have HS5 := hide hS
      have HB5 := hide hBw
      have HT5 := hide hT
      have zlen := hsl.1
      obtain ⟨i0, hi, hz0, hz1, hz2⟩ := info_parts info5
      have hws : w.heap.size < wc.heap.size := hT.lt
      clear hS hB hBw hT hsl HS4 HK4 HSL HSS HS0 R3 T3 B3 HQ3 q0 q1
      go_upto_region 10 with (at_make; refine wpList_make_full _ rfl _ _ 73 rfl wc.heap.size 5 i0 (.int .u8 0) 1 Tryz.underlying73 hi hz0 hz1 _ _ _ _ 32 rfl rfl (by omega) (by omega) ?c1 ?c2 ?c3 ?_)
      case c1 => rw [hz2]; omega
      case c2 => unfold maxLen; omega
      case c3 => exact Nat.le_refl _
      intro w5 hown hgrow
      rw [show (madeCells #[Value.int IntKind.u8 0] 32).toList = (List.replicate 32 (0 : Int)).map (Value.int .u8) from by kernel_rfl] at hown
      have S6 : UBlk w5 w3.heap.size Z 165 := by
        unfold UBlk
        rw [hgrow.block _ hrs (by simp)]
        exact unhide HS5
      have T6 : YBlk w5 w.heap.size 0 (.slice none 0 0) := by
        unfold YBlk
        rw [hgrow.block _ hws (by simp)]
        exact unhide HT5
      have HB6 := hide ((unhide HB5).grown hgrow (by omega) (fun k e => by cases e))
      have HS6 := hide S6
      have HT6 := hide T6
      have HO6 := hide hown
      have hd5 : w3.heap.size < wc.heap.size := hrs
      clear S6 T6 hown hgrow HS5 HT5 HB5
      generalize wc.heap.size = d at HO6 hws hd5 ⊢
      go_wp2_with fail
      go_loopw [34] (fun i wr => ∃ k : Nat, k ≤ 32 ∧ i = .int .i64 k ∧ wr.ownsRow d 5 1 (.slice (some ⟨d, 0, none⟩) 32 32) 32 ((X.take k ++ (List.replicate 32 (0 : Int)).drop k).map (Value.int .u8)) ∧
          UBlk wr w3.heap.size Z 165 ∧ YBlk wr w.heap.size 0 (.slice none 0 0) ∧ Below w.heap.size w wr) (fun i _ => 32 - (intOf i).toNat)
      case atStart => exact ⟨0, by omega, rfl, by simpa using unhide HO6, unhide HS6, unhide HT6, unhide HB6⟩
      case round =>
        obtain ⟨k, hk, rfl, hown, hS, hT, hB⟩ := hrel
        clear HO6 HS6 HT6 HB6
        by_cases hlt : k < 32
        · have hdk : decide ((k : Int) < 32) = true := decide_eq_true (by omega)
          obtain ⟨e, he⟩ : ∃ e, e = k / 8 := ⟨_, rfl⟩
          obtain ⟨f, hf⟩ : ∃ f, f = k % 8 := ⟨_, rfl⟩
          obtain ⟨s, hs⟩ : ∃ s, s = 8 * f := ⟨_, rfl⟩
          have hxk := (unhide HHG) k hlt
          rw [← he, ← hf, ← hs] at hxk
          have c0 := UBlk.cell hS e (by omega)
          have hz64 : Z.getD e 0 < 18446744073709551616 := getD_lt (unhide HSL2).2 (by decide) _
          have hfill := fill_int X (List.replicate 32 (0 : Int)) 32 k hXL (by simp) hlt
          have hgd : X.getD k 0 = ((Z.getD e 0 / 2 ^ s % 256 : Nat) : Int) := by rw [List.getD_eq_getElem?_getD, hxk]; rfl
          rw [hgd] at hfill
          generalize Z.getD e 0 = z at c0 hz64 hfill
          have R8 := hown.stored k (.int .u8 ((z / 2 ^ s % 256 : Nat) : Int))
          rw [← List.map_set, hfill] at R8
          have f1 := hown.frozenAt k
          obtain ⟨u, hu⟩ : ∃ u, wr.cell? ⟨d, k, none⟩ = some u := by
            rw [hown.cellAt k (by omega)]
            exact ⟨_, List.getElem?_eq_getElem (by rw [hown.1]; omega)⟩
          have HO8 := hide R8.1
          have HS8 := hide (hS.other (b' := d) k (.int .u8 ((z / 2 ^ s % 256 : Nat) : Int)) (by omega))
          have HT8 : Hid (YBlk (wr.setCell ⟨d, k, none⟩ (.int .u8 ((z / 2 ^ s % 256 : Nat) : Int))) w.heap.size 0 (.slice none 0 0)) := by
            show YBlk _ _ _ _
            unfold YBlk
            rw [heap_setCell_other _ ⟨d, k, none⟩ w.heap.size _ (by show w.heap.size ≠ d; omega)]
            exact hT
          have HB8 := hide (hB.setCell (p := ⟨d, k, none⟩) (by show w.heap.size ≤ d; omega) (.int .u8 ((z / 2 ^ s % 256 : Nat) : Int)))
          have m0 : (k : Int).tdiv 8 = (e : Int) := by rw [Int.tdiv_eq_ediv_of_nonneg (by omega)]; omega
          have m1 : (k : Int).tmod 8 = (f : Int) := by rw [Int.tmod_eq_emod_of_nonneg (by omega)]; omega
          have m2 : 8 * (f : Int) = (s : Int) := by omega
          have y0 : IntKind.i64.wrap (e : Int) = (e : Int) := i64_fits _ (by omega) (by omega)
          have y1 : IntKind.i64.wrap (f : Int) = (f : Int) := i64_fits _ (by omega) (by omega)
          have y2 : IntKind.i64.wrap (s : Int) = (s : Int) := i64_fits _ (by omega) (by omega)
          have j0 : (0 : Int) ≤ (e : Int) := by omega
          have j1 : (e : Int) < 25 := by omega
          have j2 : (0 : Int) ≤ (s : Int) := by omega
          have j3 : (0 : Int) ≤ (k : Int) := by omega
          have j4 : (k : Int) < 32 := by omega
          have hs64 : s < 64 := by omega
          clear hown hS hT hB hxk hgd hfill R8 he hf hs
          have HVC := hide (show ((z : Int) / 2 ^ s % 256) = ((z / 2 ^ s % 256 : Nat) : Int) by simp)
          go_wp2_with fail
          rw [unhide HVC]
          exact ⟨⟨k + 1, by omega, by go_num, unhide HO8, unhide HS8, unhide HT8, unhide HB8⟩, by simp [intOf]; omega⟩
        · obtain rfl : k = 32 := by omega
          have hdk : decide (((32 : Nat) : Int) < 32) = false := rfl
          rw [List.take_of_length_le (by omega), List.drop_of_length_le (by simp), List.append_nil] at hown
          obtain ⟨t0, t1, t2, t3⟩ := hT.cells
          have HOW := hide hown
          have HBF := hide hB
          clear hT hown hB
          go_wp2_with fail
          refine bodyPost_ret (v := .agg #[.int .i64 0, .slice (some ⟨d, 0, none⟩) 32 32]) (by simp [results, Tryz.results124, go_sem, t0, t1]) rfl ⟨_, _, rfl, ?_, ((unhide HBF).setCell (by simp) _).setCell (by simp) _⟩
          refine ownsRow_base (B := d) ?_ (by omega)
          rw [unhide HX]
          exact ownsRow_setCell_below (a := ⟨w.heap.size, 1, none⟩) (ownsRow_setCell_below (a := ⟨w.heap.size, 0, none⟩) (unhide HOW) hws _) hws _

end Go.Proofs.YtjjbkbinjmfnlaaGreatDoor

/- What is proved here: what the program's HashOf answers: the fault of a header, or the hash of its bytes in new memory. -/
namespace Go.Proofs.YtjjbkbinjmfnlaaGreatDoor
open Go.RowKit
set_option linter.unusedVariables false
set_option maxRecDepth 100000

set_option maxRecDepth 100000 in
set_option maxHeartbeats 8000000 in
theorem implHash_any (x : HS) (h : Hd) (w : World) (o : HOk w x h) (nn : HNil w x) (m : HSm h) (hv : Laid w) :
    Calls Tryz.prog 98 #[.agg (hvals x h)] w fun e w' => ∃ a c, e = .returned (.agg #[.int .i64 (hdFlt h), .slice a (hsBytes h).length c]) ∧
      w'.ownsRow w.heap.size 5 1 (.slice a (hsBytes h).length c) (hsBytes h).length ((hsBytes h).map (Value.int .u8)) ∧ Below w.heap.size w w' := by
  have hfl := fldB1
  have kb := SBlk.new w (hvals x h) 76
  have bb := below_alloc w (.cells (hvals x h) 76)
  have zb : (w.alloc (.cells (hvals x h) 76)).heap.size = w.heap.size + 1 := by simp
  obtain ⟨W0, eb⟩ : ∃ W0, w.alloc (.cells (hvals x h) 76) = W0 := ⟨_, rfl⟩
  rw [eb] at kb bb zb
  have k1 := (kb.next (.cells #[.int .i64 0, .slice none 0 0] 124))
  have kr := SBlk.new W0 #[.int .i64 0, .slice none 0 0] 124
  have b1 := bb.alloc bb.size (.cells #[.int .i64 0, .slice none 0 0] 124)
  have z1 : (W0.alloc (.cells #[.int .i64 0, .slice none 0 0] 124)).heap.size = w.heap.size + 2 := by simp; omega
  rw [zb] at kr
  obtain ⟨W1, e1⟩ : ∃ W1, W0.alloc (.cells #[.int .i64 0, .slice none 0 0] 124) = W1 := ⟨_, rfl⟩
  rw [e1] at k1 kr b1 z1
  have HKB := hide (fun (W' : World) (hb : Below W1.heap.size W1 W') => k1.below hb k1.lt)
  have HRB := hide (fun (W' : World) (hb : Below W1.heap.size W1 W') => kr.below hb kr.lt)
  have D1 := hide (implHeaderFault_any x h W1 (o.below b1 (Nat.le_refl _)) m)
  have HB1 := hide b1
  obtain ⟨x0, x1, x2, x3, x4, x5, x6, x7, x8, x9, x10⟩ := hcells k1
  have hz2 : w.heap.size + 1 < W1.heap.size := by omega
  have HPK : Hid (hdFlt h = 0 → ∀ (W' : World), Below w.heap.size w W' → Calls Tryz.prog 125 #[.agg (hvals (xNoK x) (noK h))] W' fun e w' => ∃ g c, e = .returned (.agg #[.int .i64 0, .slice (some ⟨g, 0, none⟩) (packL (noK h)).length c]) ∧ BRow w' (some ⟨g, 0, none⟩) (packL (noK h)).length (packL (noK h)) ∧ Below W'.heap.size W' w') := fun hf W' hb => by
    have hg := hdFlt_noK hf
    have ok := (o.below hb (Nat.le_refl _)).noK
    have P := implPack_any (xNoK x) (noK h) W' ok (nn.below hb (Nat.le_refl _)).noK m.noK
    rw [hg, pkBytes_good hg] at P
    refine P.mono ?_
    rintro e w' ⟨a, c, rfl, ho, hb'⟩
    obtain ⟨g, c', he⟩ := own_some ho (packL_pos _)
    simp only [Value.slice.injEq] at he
    obtain ⟨rfl, -, rfl⟩ := he
    exact ⟨g, c, rfl, BRow.own ho (packL_rng hg ok), hb'⟩
  have HKC : Hid (hdFlt h = 0 → ∀ (W' : World) (g c : Nat), Below w.heap.size w W' → BRow W' (some ⟨g, 0, none⟩) (packL (noK h)).length (packL (noK h)) → Calls Tryz.prog 124 #[.slice (some ⟨g, 0, none⟩) (packL (noK h)).length c] W' fun e w' => ∃ a' c', e = .returned (.agg #[.int .i64 0, .slice a' (hsBytes h).length c']) ∧ w'.ownsRow W'.heap.size 5 1 (.slice a' (hsBytes h).length c') (hsBytes h).length ((hsBytes h).map (Value.int .u8)) ∧ Below W'.heap.size W' w') := fun hf W' g c hb hr => by
    have hl := packL_le (hdFlt_noK hf)
    have K := implKc_any (some ⟨g, 0, none⟩) (packL (noK h)).length c (packL (noK h)) W' hr (fun e => by cases e) (by omega) (hv.below hb (Nat.le_refl _))
    rw [kcCode_good hl] at K
    have e : hsBytes h = kcBytes (packL (noK h)) := if_pos hf
    rw [e]
    exact K
  have HPB : Hid (hdFlt h ≠ 0 → hsBytes h = []) := fun hf => if_neg hf
  clear o nn m kb bb k1 kr b1 zb hv
  generalize hdFlt h = q at D1 HPK HKC HPB ⊢
  generalize packL (noK h) = PL at HPK HKC
  generalize PL.length = il at HPK HKC
  generalize hsBytes h = PB at HPB HKC ⊢
  have EV : hvals (xNoK x) (noK h) = (hvals x h).setIfInBounds 10 (.slice none 0 0) := rfl
  have hsl : ∀ (W' : World), SBlk W' w.heap.size (hvals x h).toList 76 → SBlk (W'.setCell ⟨w.heap.size, 10, none⟩ (.slice none 0 0)) w.heap.size (hvals (xNoK x) (noK h)).toList 76 := fun W' hk => hk.set 10 _
  have HSL := hide hsl
  clear hsl EV
  unfold hvals at eb D1 HPK ⊢
  have EB := hide eb
  have E1 := hide e1
  clear eb e1
  go_enter Tryz.func98, Tryz.ntmps98
  go_upto_region 1 with fail
  rw [unhide EB, unhide E1]
  clear EB E1
  go_wp2_with fail
  refine (unhide D1).mono ?_
  rintro e w2 ⟨rfl, b2⟩
  have kr2 := (unhide HRB) w2 b2
  have r0 := kr2.cell 0
  have r1 := kr2.cell 1
  have f0 := kr2.free 0
  have f1 := kr2.free 1
  simp only [List.getElem?_cons_zero, List.getElem?_cons_succ] at r0 r1
  have HB2 := hide ((unhide HB1).trans (b2.mono (unhide HB1).size))
  have K2 := hide b2
  clear b2 kr2 x0 x1 x2 x3 x4 x5 x6 x7 x8 x9 x10 D1
  by_cases hq : q = 0
  · subst hq
    have kb2 := (unhide HKB) w2 (unhide K2)
    have kb3 := (unhide HSL) w2 kb2
    have b3 := (unhide HB2).setCell (p := ⟨w.heap.size, 10, none⟩) (Nat.le_refl _) (.slice none 0 0)
    have kr3 := ((unhide HRB) w2 (unhide K2)).other (g' := w.heap.size) (i := 10) (v := .slice none 0 0) (by omega)
    have z3 : (w2.setCell ⟨w.heap.size, 10, none⟩ (.slice none 0 0)).heap.size = w2.heap.size := size_set' _ _ _
    have fz : w2.frozen? ⟨w.heap.size, 10, none⟩ = false := kb2.free 10
    have cz := kb2.cell 10
    simp only [hvals, List.getElem?_cons_zero, List.getElem?_cons_succ] at cz
    obtain ⟨W3, e3⟩ : ∃ W3, w2.setCell ⟨w.heap.size, 10, none⟩ (.slice none 0 0) = W3 := ⟨_, rfl⟩
    rw [e3] at kb3 b3 kr3 z3
    have hz3 : w.heap.size + 1 < W3.heap.size := by rw [z3]; exact Nat.lt_of_lt_of_le hz2 (unhide K2).size
    have HR3 := hide (fun (W' : World) (hb : Below W3.heap.size W3 W') => kr3.below hb kr3.lt)
    have HB3 := hide b3
    obtain ⟨y0, y1, y2, y3, y4, y5, y6, y7, y8, y9, y10⟩ := hcells kb3
    have E3 := hide e3
    clear kb2 kb3 b3 kr3 z3 e3 r0 r1 f0 f1
    go_upto_region 5 with fail

    rw [unhide E3]
    clear E3
    go_wp2_with fail
    refine ((unhide HPK) (by first | exact rfl | trivial) _ (unhide HB3)).mono ?_
    rintro e w4 ⟨g4, c4, rfl, row4, b4⟩
    have HB4 := hide ((unhide HB3).trans (b4.mono (unhide HB3).size))
    have K4 := hide b4
    clear b4 y0 y1 y2 y3 y4 y5 y6 y7 y8 y9 y10
    go_wp2_with fail
    refine ((unhide HKC) (by first | exact rfl | trivial) _ g4 c4 (unhide HB4) row4).mono ?_
    rintro e w5 ⟨a5, c5, rfl, o5, b5⟩
    have HB5 := hide ((unhide HB4).trans (b5.mono (unhide HB4).size))
    have K5 := (unhide K4).trans (b5.mono (unhide K4).size)
    have kr5 := (unhide HR3) w5 K5
    have s0 := kr5.cell 0
    have s1 := kr5.cell 1
    have g0 := kr5.free 0
    have g1 := kr5.free 1
    simp only [List.getElem?_cons_zero, List.getElem?_cons_succ] at s0 s1
    have hz4 : w.heap.size + 1 < w4.heap.size := Nat.lt_of_lt_of_le hz3 (unhide K4).size
    have HO5 := hide o5
    have hwz : w.heap.size ≤ w4.heap.size := (unhide HB4).size
    clear K5 kr5 o5 b5 row4
    go_wp2_with fail
    refine bodyPost_ret (v := .agg #[.int .i64 0, .slice a5 PB.length c5]) (by simp [results, Tryz.results98, go_sem, s0, s1]) rfl ⟨a5, c5, rfl, ?_, ?_⟩
    · exact ownsRow_base (ownsRow_setCell_below (ownsRow_setCell_below (unhide HO5) (by show w.heap.size + 1 < w4.heap.size; omega) _) (by show w.heap.size + 1 < w4.heap.size; omega) _) hwz
    · exact ((unhide HB5).setCell (p := ⟨w.heap.size + 1, _, none⟩) (by show w.heap.size ≤ w.heap.size + 1; omega) _).setCell (p := ⟨w.heap.size + 1, _, none⟩) (by show w.heap.size ≤ w.heap.size + 1; omega) _
  · have hne : (q != 0) = true := by simp [hq]
    have HPB2 : Hid (PB = []) := (unhide HPB) hq
    clear hq
    go_wp2_with fail
    refine bodyPost_ret (v := .agg #[.int .i64 q, .slice none 0 0]) (by simp [results, Tryz.results98, go_sem, r0, r1]) rfl ⟨none, 0, by rw [unhide HPB2]; rfl, ?_, ?_⟩
    · rw [unhide HPB2]; exact World.ownsRow_nil _ _ _ _
    · exact ((unhide HB2).setCell (p := ⟨w.heap.size + 1, _, none⟩) (by show w.heap.size ≤ w.heap.size + 1; omega) _).setCell (p := ⟨w.heap.size + 1, _, none⟩) (by show w.heap.size ≤ w.heap.size + 1; omega) _

end Go.Proofs.YtjjbkbinjmfnlaaGreatDoor

/- What is proved here: whether an entry has the total that it has to have (slices.Equal, hasTotal), and so the program's fault of an entry and of a store (entryFault, StoreFault). -/
namespace Go.Proofs.YtjjbkbinjmfnlaaGreatDoor
open Go.RowKit
set_option linter.unusedVariables false
set_option linter.unusedSimpArgs false
set_option maxRecDepth 100000

set_option maxHeartbeats 1000000 in
theorem equalI_any (a b : Option Addr) (la ca lb cb : Nat) (xs ys : List Int) (w : World) (ha : IRow w a la xs) (hb : IRow w b lb ys) (hl : la ≤ 1048576) :
    Calls Tryz.prog 129 #[.slice a la ca, .slice b lb cb] w fun e w' => e = .returned (.bool (sameB xs ys)) ∧ ∃ n, w' = w.drewN n := by
  have hxl := ha.1
  have hyl := hb.1
  by_cases hne : la = lb
  · subst hne
    have hlen : (((la : Nat) : Int) != ((la : Nat) : Int)) = false := by simp
    rcases Nat.eq_zero_or_pos la with h0 | hp
    · subst h0
      have hx : xs = [] := List.length_eq_zero_iff.1 hxl
      have hy : ys = [] := List.length_eq_zero_iff.1 hyl
      subst hx hy
      clear ha hb
      go_enter Tryz.func129, Tryz.ntmps129
      go_wp2
      refine wp_loop_rounds 1 ?_
      rw [rounds_succ]
      go_wp2
      go_ret
      exact ⟨rfl, 0, rfl⟩
    · obtain ⟨ba, oa, rfl, hba, hca⟩ := ha.at hp
      obtain ⟨bb, ob, rfl, hbb, hcb⟩ := hb.at hp
      have HCA := hide hca
      have HCB := hide hcb
      clear ha hb hca hcb
      go_enter Tryz.func129, Tryz.ntmps129
      go_wp2
      go_loopw [13] (fun i wr => ∃ k n : Nat, k ≤ la ∧ i = .int .i64 k ∧ xs.take k = ys.take k ∧ wr = w.drewN n)
        (fun i _ => la - (intOf i).toNat)
      case atStart => exact ⟨0, 0, Nat.zero_le _, rfl, rfl, rfl⟩
      case round =>
        obtain ⟨k, n, hk, rfl, hpre, rfl⟩ := hrel
        by_cases hlt : k < la
        · have h1 : w.cell? ⟨ba, oa + k, none⟩ = some (.int .i64 (xs.getD k 0)) := (unhide HCA) k hlt
          have h2 : w.cell? ⟨bb, ob + k, none⟩ = some (.int .i64 (ys.getD k 0)) := (unhide HCB) k hlt
          have Hs := take_same xs ys k (by omega) (by omega) hpre
          have Hd := take_other xs ys k (by omega) (by omega)
          generalize xs.getD k 0 = x at h1 Hs Hd
          generalize ys.getD k 0 = y at h2 Hs Hd
          have HS := hide Hs
          have HD := hide Hd
          have HP := hide hpre
          have i1 : (0 : Int) ≤ (k : Int) := by omega
          have i2 : (k : Int) < (la : Int) := by omega
          clear Hs Hd hpre hxl hyl
          by_cases hxy : x = y
          · subst hxy
            have HT := hide ((unhide HS) rfl)
            clear HS HD HP
            have ht : (x != x) = false := by simp
            go_wp2
            go_quiet (fail)
            go_wp2
            go_roundw
            case rel => exact ⟨k + 1, _, by omega, by go_num, unhide HT, rfl⟩
            case measure => simp [intOf]; omega
          · have ht : (x != y) = true := by simp [hxy]
            go_wp2
            go_quiet (fail)
            go_wp2
            go_ret
            exact ⟨ret_bool ((unhide HD) hxy).symm, _, World.drewN_drewN ..⟩
        · obtain rfl : k = la := by omega
          have e := take_whole xs ys k hxl hyl hpre
          have HE := hide e
          clear e hpre hxl hyl
          go_wp2
          go_ret
          exact ⟨ret_bool (unhide HE).symm, n, rfl⟩
  · have hlen : (((la : Nat) : Int) != ((lb : Nat) : Int)) = true := by simp; omega
    have e : sameB xs ys = false := by
      unfold sameB
      rw [beq_eq_false_iff_ne]
      intro e; rw [e] at hxl; omega
    have HE := hide e
    clear e
    go_enter Tryz.func129, Tryz.ntmps129
    go_wp2
    go_ret
    exact ⟨ret_bool (unhide HE).symm, 0, rfl⟩

theorem sameB_dec (xs ys : List Int) : sameB xs ys = decide (xs = ys) := by
  unfold sameB
  by_cases h : xs = ys
  · subst h; simp
  · rw [decide_eq_false h, beq_eq_false_iff_ne]; exact h

set_option maxHeartbeats 4000000 in
theorem hasTotal_any (q : Option Addr) (y : Option En) (b o : Nat) (e : EnS) (x : En) (w : World) (p : PAt w q y) (h : EAt w b o e x) (hf : hdFlt x.1 = 0) (m : EnSm x) (hl : ∀ y0, y = some y0 → y0.2.2.2.length ≤ 1048576) :
    Calls Tryz.prog 102 #[.pointer q, .pointer (some ⟨b, o, none⟩)] w fun r w' => r = .returned (.bool (ttOk y x)) ∧ Below w.heap.size w w' := by
  have D1 := hide (fun (W : World) (hb : Below w.heap.size w W) => totalBehind_any q y e.1 x.1 W (p.below hb (Nat.le_refl _)) (hd_num hf).2 hl)
  have HLD : Hid (∀ W, Below w.heap.size w W → (Instr.loadAt 76 (.pointer (some ⟨b, o, none⟩))).run Tryz.prog W = .ok (.agg (hvals e.1 x.1)) W) := fun W hb =>
    ld_run (hvals e.1 x.1).toList 76 _ (fun j v hv => (h.below hb (Nat.le_refl _)).1 j v (ev_hd e x j v hv)) Tryz.underlying76 rfl (by kernel_rfl)
  have HT := hide (fun (W : World) (hb : Below w.heap.size w W) => (h.below hb (Nat.le_refl _)).1 13 _ rfl)
  have HR := hide (fun (W : World) (hb : Below w.heap.size w W) => IOk.row (intsK.below h.2.2.2.2 hb (Nat.le_refl _)))
  have hm : e.2.2.2.n ≤ 1048576 := by have := (IOk.row h.2.2.2.2).1; have := m.t; omega
  have HE : Hid (ttOk y x = ((ttCode y x.1 == 0) && sameB x.2.2.2 (ttList y x.1))) := by
    show _ = _
    unfold ttOk
    rw [sameB_dec]
    congr 1
  generalize ttOk y x = R at HE ⊢
  generalize ttCode y x.1 = cc at D1 HE
  generalize ttList y x.1 = LL at D1 HE
  generalize hvals e.1 x.1 = V at HLD D1
  clear p h hf m hl
  go_enter Tryz.func102, Tryz.ntmps102
  go_wp2_with (refine wpList_load_eq rfl 76 _ rfl _ _ rfl ((unhide HLD) _ (Below.refl _ _)) ?_)
  refine ((unhide D1) _ (Below.refl _ _)).mono ?_
  rintro r w1 ⟨a1, c1, rfl, o1, b1⟩
  have kh := SBlk.new w1 #[.int .i64 cc, .slice a1 LL.length c1] 151
  have bh := below_alloc w1 (.cells #[.int .i64 cc, .slice a1 LL.length c1] 151)
  obtain ⟨W1, e1⟩ : ∃ W, w1.alloc (.cells #[.int .i64 cc, .slice a1 LL.length c1] 151) = W := ⟨_, rfl⟩
  rw [e1] at kh bh
  have K1 := b1.trans (bh.mono b1.size)
  have u0 := kh.cell 0
  have u1 := kh.cell 1
  simp only [List.getElem?_cons_zero, List.getElem?_cons_succ] at u0 u1
  have t3 := (unhide HT) W1 K1
  have D2 : Hid (∀ n, Calls Tryz.prog 129 #[.slice e.2.2.2.a e.2.2.2.n e.2.2.2.c, .slice a1 LL.length c1] (W1.drewN n) fun r w' => r = .returned (.bool (sameB x.2.2.2 LL)) ∧ ∃ m, w' = (W1.drewN n).drewN m) := fun n =>
    equalI_any _ _ _ _ _ _ _ _ (W1.drewN n) (((unhide HR) W1 K1).below (below_drewN (Below.refl _ _) n) (Nat.le_refl _)) (((IRow.own2 o1).below bh (Nat.le_refl _)).below (below_drewN (Below.refl _ _) n) (Nat.le_refl _)) hm
  have E1 := hide e1
  have HK1 := hide K1
  clear D1 HLD HT HR K1 kh bh b1 o1 e1 hm
  generalize sameB x.2.2.2 LL = sb at D2 HE
  by_cases hc : cc = 0
  · subst hc
    have hc' : ((0 : Int) == 0) = true := by simp
    rw [hc'] at HE
    cases sb
    · go_upto_region 2 with (rw [unhide E1])
      go_quiet ((go_at_call 129; exact Calls.quiet_of ((unhide D2) _)))
      go_wp2_with fail
      go_ret
      exact ⟨ret_bool (by rw [unhide HE]; rfl), below_drewN (unhide HK1) _⟩
    · go_upto_region 2 with (rw [unhide E1])
      go_quiet ((go_at_call 129; exact Calls.quiet_of ((unhide D2) _)))
      go_wp2_with fail
      go_ret
      exact ⟨ret_bool (by rw [unhide HE]; rfl), below_drewN (unhide HK1) _⟩
  · have hc' : (cc == 0) = false := by simp [hc]
    rw [hc'] at HE
    go_upto_region 2 with (rw [unhide E1])
    go_quiet ((go_at_call 129; exact Calls.quiet_of ((unhide D2) _)))
    go_wp2_with fail
    go_ret
    exact ⟨ret_bool (by rw [unhide HE]; rfl), below_drewN (unhide HK1) _⟩

end Go.Proofs.YtjjbkbinjmfnlaaGreatDoor
