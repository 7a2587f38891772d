/- What is proved here: what the program's PadBytes answers for all bytes: the model's code and bytes, in new memory. -/
import Derived.Test.YtjdeobifhgdffaaDoorChecked
import Derived.Test.YtjdeobifhgdffaaDoorBase
import Derived.Test.YtjdeobifhgdffaaDoorInfo
import Derived.Test.YtjdeobifhgdffaaDoorPadMath
import Derived.Test.YtjdeobifhgdffaaDoorL2Pad
import Derived.WalkKit
import Derived.WalkLawsBesides
import Derived.WalkSmall
import Derived.Laws.CopyOwn
import Derived.WalkSpells
import Derived.Laws.BitsAllLaws
import Derived.KernelRfl
namespace Go.Proofs.YtjdeobifhgdffaaDoor
open Go.RowKit
set_option linter.unusedVariables false

theorem psize5 : (Tryd.prog.info? 5).map (·.size) = some 1 := by kernel_rfl

/-- Bytes copied to the beginning of a row that is longer. -/
theorem copy_begin (w : World) (B g d n sCap : Nat) (a : Addr) (xs cs : List Value) (h : w.ownsRow B 5 1 (.slice (some ⟨g, 0, none⟩) d d) d xs) (hl : cs.length = n) (hnd : n ≤ d)
    (hsrc : ∀ j v, cs[j]? = some v → w.cell? (a.add j) = some v) (h1 : ∀ v ∈ cs, v.oneCell' = true) :
    ∃ W, (Builtin.copy_ #[22, 22] 3 #[.slice (some ⟨g, 0, none⟩) d d, .slice (some a) n sCap]).run Tryd.prog w = .ok (goInt n) W ∧
      W.ownsRow B 5 1 (.slice (some ⟨g, 0, none⟩) d d) d (cs ++ xs.drop n) ∧ w.grownBy W (some g) := by
  have hxl := h.1
  rcases h.2 with ⟨h', _⟩ | ⟨g', cap', cur, h', hb, hg, hnc, hcm, hcs, htake⟩
  · simp at h'
  · simp only [Value.slice.injEq, Option.some.injEq, Addr.mk.injEq, and_true, true_and] at h'
    obtain ⟨rfl, rfl⟩ := h'
    have hr := run_copy_row (P := Tryd.prog) w 22 22 3 5 g 0 d d a n sCap cur 5 cs Tryd.underlying22 psize5 hg (by rw [hl]; exact (Nat.min_eq_left hnd).symm) hsrc (by omega) h1
    have hcur : cur.toList = xs := by
      have : cur.toList.length ≤ d := by simp; omega
      rw [← htake, Nat.mul_one, List.take_of_length_le this]
    have e1 : cur.toList.take 0 ++ cs ++ cur.toList.drop (0 + cs.length) = cs ++ xs.drop n := by
      rw [hcur, hl]; simp
    rw [e1, hl] at hr
    have hlen : (cs ++ xs.drop n).length = d := by simp; omega
    exact ⟨_, hr, ⟨by rw [hlen, Nat.mul_one], .inr ⟨g, d, (cs ++ xs.drop n).toArray, rfl, hb, setRow_heap w g cur _ 5 _ hg, Nat.le_refl _, hcm, by simpa using hlen, by
      have : (d * 1) = d := by omega
      simp only [this]
      rw [List.take_of_length_le (by simp; omega)]⟩⟩,
      ⟨rfl, rfl, rfl, by simp [World.setRow], fun k _ hk => setRow_other w g k _ (fun e => hk (by simp [e]))⟩⟩

/-- The like of any slice that came in. -/
theorem copy_any_begin (w : World) (B g d n sCap : Nat) (a : Option Addr) (hcap : a = none → sCap = 0) (zs : List Int) (xs : List Value) (h : w.ownsRow B 5 1 (.slice (some ⟨g, 0, none⟩) d d) d xs) (hr : BRow w a n zs) (hnd : n ≤ d) :
    ∃ W, (Builtin.copy_ #[22, 22] 3 #[.slice (some ⟨g, 0, none⟩) d d, .slice a n sCap]).run Tryd.prog w = .ok (goInt n) W ∧
      W.ownsRow B 5 1 (.slice (some ⟨g, 0, none⟩) d d) d (zs.map (Value.int .u8) ++ xs.drop n) ∧ w.grownBy W (some g) := by
  cases a with
  | none =>
    obtain rfl : n = 0 := hr.2.2.1 rfl
    obtain rfl : zs = [] := List.length_eq_zero_iff.1 hr.1
    obtain rfl : sCap = 0 := hcap rfl
    refine ⟨w, ?_, by simpa using h, grownBy_refl w _⟩
    have := run_copy_nil (P := Tryd.prog) w 22 22 3 5 ⟨g, 0, none⟩ d d Tryd.underlying22 (by kernel_rfl)
    simpa [goInt] using this
  | some x =>
    refine copy_begin w B g d n sCap x xs (zs.map (Value.int .u8)) h (by simpa using hr.1) hnd ?_ (fun v hv => by obtain ⟨z, _, rfl⟩ := List.mem_map.1 hv; rfl)
    intro j v hj
    have hjl : j < zs.length := by have := (List.getElem?_eq_some_iff.1 hj).1; simpa using this
    rw [hr.2.2.2 x rfl j (by rw [← hr.1]; exact hjl)]
    rw [List.getElem?_map, List.getElem?_eq_getElem hjl] at hj
    rw [getD_at _ _ hjl]
    exact hj

theorem raw_start (zs : List Int) (n D : Nat) (hzl : zs.length = n) (hD : n < D) :
    ((zs.map (Value.int .u8) ++ (madeCells #[Value.int .u8 0] D).toList.drop n).set n (.int .u8 1)) = (padRaw zs (D - n - 1)).map (Value.int .u8) := by
  rw [toList_madeCells_one, List.drop_replicate, List.set_append, if_neg (by simp; omega)]
  unfold padRaw
  rw [List.map_append, List.map_cons, List.map_replicate]
  congr 1
  obtain ⟨k, hk⟩ : ∃ k, D - n = k + 1 := ⟨D - n - 1, by omega⟩
  rw [List.length_map, hzl, Nat.sub_self, hk, List.replicate_succ, List.set_cons_zero]
  rfl

set_option maxHeartbeats 1000000 in
theorem implPad_in (a : Option Addr) (n cap : Nat) (zs : List Int) (w : World) (h : BRow w a n zs) (hcap : a = none → cap = 0) (hn : n ≤ 1200) :
    Calls Tryd.prog 11 #[.slice a n cap] w fun e w' => ∃ g cap', e = .returned (.agg #[.int .i64 0, .slice (some ⟨g, 0, none⟩) (padLen n) cap']) ∧
      w'.ownsRow w.heap.size 5 1 (.slice (some ⟨g, 0, none⟩) (padLen n) cap') (padLen n) ((padB zs).map (Value.int .u8)) ∧ Below w.heap.size w w' := by
  obtain ⟨i0, hi, hz0, hz1, hz2⟩ := info_parts info5
  have hzl := h.1
  have hp := padLen_lt n
  have hlast := padRaw_last zs
  have hB : padB zs = (padRaw zs (padLen n - n - 1)).set (padLen n - 1) (padLast n) := by unfold padB; rw [hzl]
  rw [hzl] at hlast
  have hpl : padLast n = if n + 1 = padLen n then 129 else 128 := rfl
  have hDe : (n : Int) / 136 * 136 + 136 = (padLen n : Int) := by unfold padLen; omega
  generalize padLast n = PL at hB hpl
  rw [hB]
  generalize padLen n = D at hp hlast hpl hDe
  have HLA := hide hlast
  have HPL := hide hpl
  have HH := hide h
  have HCP := hide hcap
  clear hcap hB hlast h hpl
  go_enter Tryd.func11, Tryd.ntmps11
  go_wp2_with (at_make; refine wpList_make_full _ rfl _ _ 22 rfl (w.heap.size + 1) 5 i0 (.int .u8 0) 1 Tryd.underlying22 hi hz0 hz1 _ _ _ _ D rfl rfl (by omega) (by omega) ?c1 ?c2 ?c3 ?_)
  case c1 => rw [hz2]; omega
  case c2 => unfold maxLen; omega
  case c3 => simp
  intro w1 hown hgrow
  have hb0 := below_alloc w (.cells #[.int .i64 0, .slice none 0 0] 26)
  have hres : (w.alloc (.cells #[.int .i64 0, .slice none 0 0] 26)).heap[w.heap.size]? = some (.cells #[.int .i64 0, .slice none 0 0] 26 (0, 0)) := by
    show (w.heap.push _)[w.heap.size]? = _
    simp
  have hsz : (w.alloc (.cells #[.int .i64 0, .slice none 0 0] 26)).heap.size = w.heap.size + 1 := by simp
  have hb1 : Below w.heap.size w w1 := hb0.grown hgrow (by rw [hsz]; omega) (fun k e => by cases e)
  have hres1 : w1.heap[w.heap.size]? = some (.cells #[.int .i64 0, .slice none 0 0] 26 (0, 0)) := (hgrow.block _ (by rw [hsz]; omega) (by simp)).trans hres
  have hsz1 : w.heap.size + 1 ≤ w1.heap.size := by rw [← hsz]; exact hgrow.size
  obtain ⟨w2, hcp, hown2, hgrow2⟩ := copy_any_begin w1 (w.heap.size + 1) (w.heap.size + 1) D n cap a (unhide HCP) zs _ hown ((unhide HH).below hb1 (Nat.le_refl _)) (by omega)
  have hb2 : Below w.heap.size w w2 := hb1.grown hgrow2 (by omega) (fun k e => by cases e; omega)
  have hres2 : w2.heap[w.heap.size]? = some (.cells #[.int .i64 0, .slice none 0 0] 26 (0, 0)) := (hgrow2.block _ (by omega) (by simp)).trans hres1
  have fr1 := hown2.frozenAt n
  obtain ⟨u, hu⟩ : ∃ u, w2.cell? ⟨w.heap.size + 1, n, none⟩ = some u := by
    rw [hown2.cellAt n (by omega)]
    exact ⟨_, List.getElem?_eq_getElem (by rw [hown2.1]; omega)⟩
  have R3 := hown2.stored n (.int .u8 1)
  rw [raw_start zs n D hzl hp.1] at R3
  have o3 := R3.1
  have hb3 : Below w.heap.size w (w2.setCell ⟨w.heap.size + 1, n, none⟩ (.int .u8 1)) := hb2.setCell (Nat.le_succ _) _
  have hres3 : (w2.setCell ⟨w.heap.size + 1, n, none⟩ (.int .u8 1)).heap[w.heap.size]? = some (.cells #[.int .i64 0, .slice none 0 0] 26 (0, 0)) := (heap_setCell_other w2 ⟨w.heap.size + 1, n, none⟩ w.heap.size _ (by simp)).trans hres2
  obtain ⟨w3, hw3⟩ : ∃ w3, w3 = w2.setCell ⟨w.heap.size + 1, n, none⟩ (.int .u8 1) := ⟨_, rfl⟩
  rw [← hw3] at o3 hb3 hres3
  have fr2 := o3.frozenAt (D - 1)
  have hpr := padRaw_length zs (D - n - 1)
  have hv : w3.cell? ⟨w.heap.size + 1, D - 1, none⟩ = some (.int .u8 (if n + 1 = D then 1 else 0)) := by
    rw [o3.cellAt (D - 1) (by omega), ← unhide HLA, getD_at _ _ (by omega), List.getElem?_map, List.getElem?_eq_getElem (by omega)]
    rfl
  have hx : bits .xor .u8 (if n + 1 = D then 1 else 0) 128 = PL := by
    rw [unhide HPL]
    split <;> decide
  generalize (if n + 1 = D then (1 : Int) else 0) = lv at hv hx
  have R4 := o3.stored (D - 1) (.int .u8 PL)
  rw [← List.map_set] at R4
  have hb4 : Below w.heap.size w (w3.setCell ⟨w.heap.size + 1, D - 1, none⟩ (.int .u8 PL)) := hb3.setCell (Nat.le_succ _) _
  have hres4 : (w3.setCell ⟨w.heap.size + 1, D - 1, none⟩ (.int .u8 PL)).heap[w.heap.size]? = some (.cells #[.int .i64 0, .slice none 0 0] 26 (0, 0)) := (heap_setCell_other w3 ⟨w.heap.size + 1, D - 1, none⟩ w.heap.size _ (by simp)).trans hres3
  obtain ⟨w4, hw4⟩ : ∃ w4, w4 = w3.setCell ⟨w.heap.size + 1, D - 1, none⟩ (.int .u8 PL) := ⟨_, rfl⟩
  rw [← hw4] at R4 hb4 hres4
  obtain ⟨q0, q1, f0, f1⟩ := res_facts hres4
  have HO := hide R4.1
  have HB := hide hb4
  have e3 := hw3.symm
  have e4 := hw4.symm
  have hD1 : (D : Int) - 1 = ((D - 1 : Nat) : Int) := by omega
  clear hown hgrow hown2 hgrow2 hb0 hb1 hb2 hb3 hb4 R3 R4 o3 hres hres1 hres2 hres3 hres4 hw3 hw4
  go_wp2_with fail
  refine bodyPost_ret (v := .agg #[.int .i64 0, .slice (some ⟨w.heap.size + 1, 0, none⟩) D D]) (by simp [results, Tryd.results11, go_sem, q0, q1]) rfl ⟨_, D, rfl, ?_, ?_⟩
  · exact ownsRow_base (ownsRow_setCell_below (ownsRow_setCell_below (unhide HO) (by simp) _) (by simp) _) (by omega)
  · exact ((unhide HB).setCell (by simp) _).setCell (by simp) _

set_option maxHeartbeats 1000000 in
theorem implPad_any (a : Option Addr) (n cap : Nat) (zs : List Int) (w : World) (h : BRow w a n zs) (hcap : a = none → cap = 0) (hn : n ≤ 1048576) :
    Calls Tryd.prog 11 #[.slice a n cap] w fun e w' => ∃ a' cap', e = .returned (.agg #[.int .i64 (pdCode zs), .slice a' (pdBytes zs).length cap']) ∧
      w'.ownsRow w.heap.size 5 1 (.slice a' (pdBytes zs).length cap') (pdBytes zs).length ((pdBytes zs).map (Value.int .u8)) ∧ Below w.heap.size w w' := by
  have hzl := h.1
  by_cases hm : 1200 < n
  · have e1 : pdCode zs = 2 := if_pos (by omega)
    have e2 : pdBytes zs = [] := if_pos (by omega)
    rw [e1, e2]
    clear h e1 e2 hcap
    go_enter Tryd.func11, Tryd.ntmps11
    go_wp2_with fail
    exact bodyPost_ret (v := .agg #[.int .i64 2, .slice none 0 0]) (by simp [results, Tryd.results11, go_sem]) rfl ⟨none, 0, rfl, World.ownsRow_nil _ _ _ _, (Below.refl _ _).alloc (Nat.le_refl _) _⟩
  · have e1 : pdCode zs = 0 := if_neg (by omega)
    have e2 : pdBytes zs = padB zs := if_neg (by omega)
    have e3 := padB_length zs
    rw [hzl] at e3
    rw [e1, e2, e3]
    refine (implPad_in a n cap zs w h hcap (by omega)).mono fun e w' hq => ?_
    obtain ⟨g, c, h1, h2, h3⟩ := hq
    exact ⟨_, c, h1, h2, h3⟩

end Go.Proofs.YtjdeobifhgdffaaDoor
