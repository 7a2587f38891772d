/- What is proved here: the program's limbsOf, and the model's sum of two wide numbers. -/
import Derived.Test.YtakkhocaloigeaaWdP
namespace Go.Proofs.Ytakkhocaloigeaa
open Go.RowKit
set_option linter.unusedVariables false

/-- Numbers copied over a row of as many that the call owns. -/
theorem ncopy_own (w : World) (B g d sCap : Nat) (a : Addr) (xs cs : List Value) (h : w.ownsRow B 2 1 (.slice (some ⟨g, 0, none⟩) d d) d xs) (hl : cs.length = d)
    (hsrc : ∀ j v, cs[j]? = some v → w.cell? (a.add j) = some v) (h1 : ∀ v ∈ cs, v.oneCell' = true) :
    ∃ W, (Builtin.copy_ #[24, 24] 3 #[.slice (some ⟨g, 0, none⟩) d d, .slice (some a) d sCap]).run Try.prog w = .ok (goInt d) W ∧
      W.ownsRow B 2 1 (.slice (some ⟨g, 0, none⟩) d d) d cs ∧ w.grownBy W (some g) := by
  have hxl := h.1
  rcases h.2 with ⟨h', _⟩ | ⟨g', cap', cur, h', hb, hg, hnc, hcm, hcs, htake⟩
  · simp at h'
  · simp only [Value.slice.injEq, Option.some.injEq, Addr.mk.injEq, and_true, true_and] at h'
    obtain ⟨rfl, rfl⟩ := h'
    have hr := run_copy_row (P := Try.prog) w 24 24 3 2 g 0 d d a d sCap cur 2 cs Try.underlying24 nsize2 hg (by rw [hl]; exact (Nat.min_self d).symm) hsrc (by omega) h1
    have e1 : cur.toList.take 0 ++ cs ++ cur.toList.drop (0 + cs.length) = cs := by
      rw [hl, List.drop_eq_nil_of_le (by simp; omega)]; simp
    rw [e1, hl] at hr
    exact ⟨_, hr, ⟨by rw [hl, Nat.mul_one], .inr ⟨g, d, cs.toArray, rfl, hb, setRow_heap w g cur _ 2 _ hg, Nat.le_refl _, hcm, by simpa using hl, by
      rw [Nat.mul_one, List.take_of_length_le (by simp; omega)]⟩⟩,
      ⟨rfl, rfl, rfl, by simp [World.setRow], fun k _ hk => setRow_other w g k _ (fun e => hk (by simp [e]))⟩⟩

set_option maxHeartbeats 2000000 in
theorem limbsOf_any (zs : List Int) (hz : zs.length = 8) (w : World) :
    Calls Try.prog 36 #[.agg (nvals zs).toArray] w fun e w' => e = .returned (.slice (some ⟨w.heap.size + 1, 0, none⟩) 8 8) ∧
      w'.ownsRow w.heap.size 2 1 (.slice (some ⟨w.heap.size + 1, 0, none⟩) 8 8) 8 (zs.map (Value.int .i64)) ∧ Below w.heap.size w w' := by
  obtain ⟨i0, hi, hz0, hz1, hz2⟩ := info_parts info2
  obtain ⟨w1, hw1⟩ : ∃ w1, w1 = w.alloc (.cells (nvals zs).toArray 52) := ⟨_, rfl⟩
  have e1 := hw1.symm
  have G1 : Below w.heap.size w w1 := by rw [hw1]; exact below_alloc w _
  have X1 : NBlk w1 w.heap.size zs 52 := by
    rw [hw1]
    exact NBlk.new w zs _
  have s1 : w1.heap.size = w.heap.size + 1 := by rw [hw1]; simp
  have HV := hide (show nvals zs = zs.map (Value.int .i64) from rfl)
  clear hw1
  generalize hVV : nvals zs = V at e1 HV ⊢
  have HVV := hide hVV
  clear hVV
  go_enter Try.func36, Try.ntmps36
  go_wp2_with (first | rw [e1] | (at_make; refine wpList_make_full _ rfl _ _ 24 rfl (w.heap.size + 1) 2 i0 (.int .i64 0) 1 Try.underlying24 hi hz0 hz1 _ _ _ _ 8 rfl rfl (by omega) (by omega) ?c1 ?c2 ?c3 ?_))
  case c1 => rw [hz2]; omega
  case c2 => unfold maxLen; omega
  case c3 => rw [s1]; omega
  intro w2 hown hgrow
  have G2 : Below w.heap.size w w2 := G1.grown hgrow (by rw [s1]; omega) (fun k e => by cases e)
  have X2 : NBlk w2 w.heap.size zs 52 := by
    unfold NBlk
    rw [hgrow.block _ X1.lt (by simp)]
    exact X1
  obtain ⟨w3, hcp, o3, g3⟩ := ncopy_own w2 (w.heap.size + 1) (w.heap.size + 1) 8 8 ⟨w.heap.size, 0, none⟩ _ (zs.map (Value.int .i64)) hown (by simpa using hz)
    (by
      intro j v hj
      have hjl : j < zs.length := by have := (List.getElem?_eq_some_iff.1 hj).1; simpa using this
      rw [add_none, Nat.zero_add, X2.cell j hjl]
      rw [List.getElem?_map, List.getElem?_eq_getElem hjl] at hj
      rw [getD_at _ _ hjl]
      exact hj)
    (fun v hv => by obtain ⟨z, _, rfl⟩ := List.mem_map.1 hv; rfl)
  have s2 : w.heap.size + 1 ≤ w2.heap.size := by have := hgrow.size; omega
  have G3 : Below w.heap.size w w3 := G2.grown g3 G2.size (fun k e => by cases e; omega)
  have HO := hide o3
  have HG := hide G3
  clear o3 g3 G3 hown hgrow X1 X2 G1 G2
  go_wp2_with fail
  go_ret
  exact ⟨rfl, ownsRow_base (unhide HO) (by omega), unhide HG⟩

set_option maxHeartbeats 4000000 in
theorem l4Add_any (a b oa ob ca cb : Nat) (xs ys : List Int) (w : World) (hx : IRow w (some ⟨a, oa, none⟩) 8 xs) (hy : IRow w (some ⟨b, ob, none⟩) 8 ys)
    (hxr : ∀ i, 0 ≤ xs.getD i 0 ∧ xs.getD i 0 ≤ 4294967295) (hyr : ∀ i, 0 ≤ ys.getD i 0 ∧ ys.getD i 0 ≤ 4294967295) :
    Calls Try.prog 38 #[.slice (some ⟨a, oa, none⟩) 8 ca, .slice (some ⟨b, ob, none⟩) 8 cb] w fun e w' => ∃ a' cap', e = .returned (.tuple #[.slice a' 8 cap', .bool (caW xs ys 8 == 0)]) ∧
      w'.ownsRow w.heap.size 2 1 (.slice a' 8 cap') 8 ((sumL xs ys).map (Value.int .i64)) ∧ Below w.heap.size w w' := by
  obtain ⟨i0, hi, hz0, hz1, hz2⟩ := info_parts info2
  have CX : Hid (∀ W, Below w.heap.size w W → ∀ i, i < 8 → W.cell? ⟨a, oa + i, none⟩ = some (.int .i64 (xs.getD i 0))) := fun W hW i hi => by have := (hx.below hW (Nat.le_refl _)).2.2.2 _ rfl i hi; rwa [add_none] at this
  have CY : Hid (∀ W, Below w.heap.size w W → ∀ i, i < 8 → W.cell? ⟨b, ob + i, none⟩ = some (.int .i64 (ys.getD i 0))) := fun W hW i hi => by have := (hy.below hW (Nat.le_refl _)).2.2.2 _ rfl i hi; rwa [add_none] at this
  have CR := hide (caW_range xs ys hxr hyr)
  have HSL := hide (sumL_length xs ys)
  have HSA := hide (sumL_at xs ys)
  have HCA := hide (fun k => show caW xs ys (k + 1) = (xs.getD k 0 + ys.getD k 0 + caW xs ys k) / 4294967296 from rfl)
  have HSU := hide (fun k => show suW xs ys k = (xs.getD k 0 + ys.getD k 0 + caW xs ys k) % 4294967296 from rfl)
  have HXR := hide hxr
  have HYR := hide hyr
  have HC0 := hide (show caW xs ys 0 = 0 from rfl)
  have o0 : (w.alloc (.cells #[] 2)).ownsRow w.heap.size 2 1 (.slice (some ⟨w.heap.size, 0, none⟩) 0 0) 0 [] := World.ownsRow_lit w #[] 0 (Nat.le_refl _) (by unfold maxLen; omega) rfl
  have HO0 := hide o0
  clear o0 hxr hyr hx hy
  generalize sumL xs ys = SL at HSL HSA ⊢
  generalize hSU : suW xs ys = SU at HSA HSU
  generalize hCA : caW xs ys = CA at HCA HSU CR HC0 ⊢
  clear hSU hCA
  go_enter Try.func38, Try.ntmps38
  go_wp2_with fail
  go_loopw [6, 7, 8] (fun s c i wr => ∃ (k : Nat) (a' : Option Addr) (cap' : Nat), k ≤ 8 ∧ i = .int .i64 k ∧ c = .int .i64 (CA k) ∧ s = .slice a' k cap' ∧ wr.ownsRow w.heap.size 2 1 (.slice a' k cap') k ((SL.take k).map (Value.int .i64)) ∧ Below w.heap.size w wr) (fun _ _ i _ => 8 - (intOf i).toNat)
  case atStart => exact ⟨0, some ⟨w.heap.size, 0, none⟩, 0, Nat.zero_le _, rfl, by rw [unhide HC0], rfl, unhide HO0, below_alloc w _⟩
  case round =>
    obtain ⟨k, a', cap', hk, rfl, rfl, rfl, hown, hbr⟩ := hrel
    clear HO0
    by_cases hlt : k < 8
    · have hdk : decide ((k : Int) < 8) = true := decide_eq_true (by omega)
      have j0 : (0 : Int) ≤ (k : Int) := by omega
      have j1 : (k : Int) < 8 := by omega
      have c1 := (unhide CX) wr hbr k hlt
      have c2 := (unhide CY) wr hbr k hlt
      have rx := (unhide HXR) k
      have ry := (unhide HYR) k
      have rc := (unhide CR) k
      have hst : SL.take (k + 1) = SL.take k ++ [SL.getD k 0] := by
        rw [List.take_succ_eq_append_getElem (by rw [unhide HSL]; exact hlt), getD_at _ _ (by rw [unhide HSL]; exact hlt)]
      rw [(unhide HSA) k hlt, (unhide HSU) k] at hst
      have hca := (unhide HCA) k
      generalize xs.getD k 0 = x at c1 rx hst hca
      generalize ys.getD k 0 = y at c2 ry hst hca
      obtain ⟨c', hc'⟩ : ∃ c', c' = CA (k + 1) := ⟨_, rfl⟩
      rw [← hc'] at hca
      have HC' := hide hc'
      generalize CA k = c at rc hst hca
      obtain ⟨s, hs⟩ : ∃ s, s = x + y + c := ⟨_, rfl⟩
      rw [← hs] at hst hca
      have s0 : 0 ≤ s := by omega
      have s1 : s < 9223372036854775808 := by omega
      obtain ⟨xy, hxy⟩ : ∃ xy, xy = x + y := ⟨_, rfl⟩
      have t1 : x + y = xy := hxy.symm
      have t2 : xy + c = s := by omega
      have y1 : IntKind.i64.wrap xy = xy := wraps_i64 _ (by omega) (by omega)
      have y2 : IntKind.i64.wrap s = s := wraps_i64 _ (by omega) (by omega)
      have HST := hide hst
      have HW1 := hide hca
      have HS := hide hs
      clear hst hs hxy hc' rx ry rc hca
      generalize SL.take k = L at hown HST
      have o1 : (wr.drewN 0).ownsRow w.heap.size 2 1 (.slice a' k cap') k (L.map (Value.int .i64)) := hown
      have HOW := hide hown
      have HBR := hide hbr
      clear o1 hown hbr
      go_wp2_with fail
      go_quiet (fail)
      have hown := own_below (unhide HOW) (below_drewN (Below.refl wr.heap.size wr) nq) (Nat.le_refl _)
      have hbr := below_drewN (unhide HBR) nq
      generalize wr.drewN nq = w2 at hown hbr ⊢
      go_wp2_with (at_builtin; refine wpList_append_own _ rfl _ _ 24 rfl w.heap.size 2 i0 (.int .i64 0) 1 8 Try.underlying24 hi hz0 hz1 hz2 rfl (by decide) _ _ _ rfl (hown.alloc _) ⟨w2.heap.size, 0, none⟩ 1 1 [.int .i64 (s % 4294967296)] rfl rfl ?c1 ?c2 ?c3 ?c4 ?c5 ?_)
      case c1 => exact cell_one_new _ _ _
      case c2 => intro u hu; simp at hu; subst hu; rfl
      case c3 => unfold maxLen; omega
      case c4 => omega
      case c5 => have := hbr.size; simp; omega
      intro v' w3 hown2 hgrow _
      obtain ⟨a2, cap2, hv⟩ := own_shape hown2
      have hb2 : Below w.heap.size w w3 := (hbr.alloc hbr.size _).grown hgrow (by have := hbr.size; simp; omega) (fun g e => (hown.lt g e).1)
      rw [hv] at hown2
      rw [hv]
      have HO := hide hown2
      have HB := hide hb2
      clear hown2 hb2 hgrow hown hbr
      go_wp2_with fail
      refine ⟨⟨k + 1, a2, cap2, by omega, by go_num, by rw [← unhide HC', unhide HW1], rfl, ?_, unhide HB⟩, by simp [intOf]; omega⟩
      rw [unhide HST]
      simpa using unhide HO
    · obtain rfl : k = 8 := by omega
      have hdk : decide (((8 : Nat) : Int) < 8) = false := rfl
      rw [List.take_of_length_le (by rw [unhide HSL]; omega)] at hown
      have HO := hide hown
      have HB := hide hbr
      clear hown hbr
      go_wp2_with fail
      go_ret2
      exact ⟨a', cap', rfl, unhide HO, unhide HB⟩

end Go.Proofs.Ytakkhocaloigeaa
