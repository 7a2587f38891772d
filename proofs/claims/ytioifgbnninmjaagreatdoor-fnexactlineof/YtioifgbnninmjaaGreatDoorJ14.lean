/- What is proved here: the sum of two wide numbers, limb by limb, by the program and by the model. -/
import Derived.Test.YtioifgbnninmjaaGreatDoorJ13
import Derived.BigQuiet
import Derived.Deep.QuietTactic
import Derived.Test.YtioifgbnninmjaaGreatDoorJ2
import Derived.Test.YtioifgbnninmjaaGreatDoorJ6
import Derived.Test.YtioifgbnninmjaaGreatDoorJ7
namespace Go.Proofs.YtioifgbnninmjaaGreatDoor
open Go.RowKit
set_option linter.unusedVariables false
set_option maxRecDepth 100000

/-- The carry into a place, and the limb there. -/
def caW (xs ys : List Int) : Nat → Int
  | 0 => 0
  | k + 1 => (xs.getD k 0 + ys.getD k 0 + caW xs ys k) / 4294967296
def suW (xs ys : List Int) (k : Nat) : Int := (xs.getD k 0 + ys.getD k 0 + caW xs ys k) % 4294967296
def sumL (xs ys : List Int) : List Int := (List.range 8).map (suW xs ys)

theorem sumL_length (xs ys : List Int) : (sumL xs ys).length = 8 := by simp [sumL]
theorem sumL_at (xs ys : List Int) (k : Nat) (hk : k < 8) : (sumL xs ys).getD k 0 = suW xs ys k := by
  rw [getD_at _ _ (by rw [sumL_length]; exact hk)]
  simp [sumL]
theorem caW_range (xs ys : List Int) (hx : ∀ i, 0 ≤ xs.getD i 0 ∧ xs.getD i 0 ≤ 4294967295) (hy : ∀ i, 0 ≤ ys.getD i 0 ∧ ys.getD i 0 ≤ 4294967295) : ∀ k, 0 ≤ caW xs ys k ∧ caW xs ys k ≤ 1
  | 0 => by simp [caW]
  | k + 1 => by
    have := caW_range xs ys hx hy k
    have h1 := hx k
    have h2 := hy k
    simp only [caW]
    omega

/-- One number more of a list that is being filled. -/
theorem fill8 (zs : List Int) (len k : Nat) (hl : zs.length = len) (hk : k < len) :
    (zs.take k ++ List.replicate (len - k) 0).set k (zs.getD k 0) = zs.take (k + 1) ++ List.replicate (len - (k + 1)) 0 := by
  have e : len - k = (len - (k + 1)) + 1 := by omega
  have hk' : (zs.take k).length = k := by simp; omega
  rw [e, List.replicate_succ, List.set_append, if_neg (by omega), hk', Nat.sub_self, List.set_cons_zero]
  rw [List.take_succ_eq_append_getElem (by omega), List.getD_eq_getElem?_getD, List.getElem?_eq_getElem (by omega : k < zs.length), List.append_assoc]
  rfl

/-- The results of a function that answers a row in a cell, and a value. -/
theorem results_row_tmp {P : Program} {fn : Func} {p u : Tmp} {ty : TypeId} (h : fn.results = #[.cell p ty, .tmp u]) (tmps : Array Value) (w : World) (g : Nat) (t : TypeId) (cs : Array Value) (fr : Nat × Nat) (d : TypeDesc) (x : Value)
    (hp : tmps.getD p undef = .pointer (some ⟨g, 0, none⟩)) (hx : tmps.getD u undef = x) (hg : w.heap[g]? = some (.cells cs t fr))
    (hu : P.underlying ty = some d) (hd : (match d with | .struct _ | .array _ _ => true | _ => false) = true) (hi : (P.info? ty).map (·.size) = some cs.size) :
    (results fn tmps).run P w = .ok (.tuple #[.agg cs, x]) w := by
  have hp' : tmps[p]?.getD undef = .pointer (some ⟨g, 0, none⟩) := by simpa using hp
  have hx' : tmps[u]?.getD undef = x := by simpa using hx
  simp [results, h, hp', hx', asAddr, run_loadVar_row w g t ty cs fr d hg hu hd hi]

set_option maxHeartbeats 4000000 in
theorem plus_any (xs ys : List Int) (hx : xs.length = 8) (hy : ys.length = 8) (hxr : ∀ i, 0 ≤ xs.getD i 0 ∧ xs.getD i 0 ≤ 4294967295) (hyr : ∀ i, 0 ≤ ys.getD i 0 ∧ ys.getD i 0 ≤ 4294967295) (w : World) :
    Calls Tryz.prog 124 #[.agg (nvals xs).toArray, .agg (nvals ys).toArray] w fun e w' => e = .returned (.tuple #[.agg (nvals (sumL xs ys)).toArray, .int .i64 (caW xs ys 8)]) ∧ Below w.heap.size w w' := by
  obtain ⟨w1, hw1⟩ : ∃ w1, w1 = ((w.alloc (.cells (nvals xs).toArray 158)).alloc (.cells (nvals ys).toArray 158)).alloc (.cells #[.int .i64 0, .int .i64 0, .int .i64 0, .int .i64 0, .int .i64 0, .int .i64 0, .int .i64 0, .int .i64 0] 158) := ⟨_, rfl⟩
  have e1 := hw1.symm
  have G1 : Below w.heap.size w w1 := by rw [hw1]; exact ((below_alloc w _).alloc (by simp) _).alloc (by simp; omega) _
  have X1 : NBlk w1 w.heap.size xs 158 := by
    rw [hw1]
    exact ((NBlk.new w xs _).next _).next _
  have Y1 : NBlk w1 (w.heap.size + 1) ys 158 := by
    have := (NBlk.new (w.alloc (.cells (nvals xs).toArray 158)) ys 158).next (.cells #[.int .i64 0, .int .i64 0, .int .i64 0, .int .i64 0, .int .i64 0, .int .i64 0, .int .i64 0, .int .i64 0] 158)
    rw [show (w.alloc (.cells (nvals xs).toArray 158)).heap.size = w.heap.size + 1 by simp] at this
    rw [hw1]
    exact this
  have Z1 : NBlk w1 (w.heap.size + 2) ((sumL xs ys).take 0 ++ List.replicate (8 - 0) 0) 158 := by
    have := NBlk.new ((w.alloc (.cells (nvals xs).toArray 158)).alloc (.cells (nvals ys).toArray 158)) (List.replicate 8 0) 158
    rw [show ((w.alloc (.cells (nvals xs).toArray 158)).alloc (.cells (nvals ys).toArray 158)).heap.size = w.heap.size + 2 by simp] at this
    rw [hw1]
    exact this
  have HX := hide X1
  have HY := hide Y1
  have HZ := hide Z1
  have HG := hide G1
  have CR := hide (caW_range xs ys hxr hyr)
  have HSL := hide (sumL_length xs ys)
  have HSA := hide (sumL_at xs ys)
  have HCA := hide (fun k => show caW xs ys (k + 1) = (xs.getD k 0 + ys.getD k 0 + caW xs ys k) / 4294967296 from rfl)
  have HSU := hide (fun k => show suW xs ys k = (xs.getD k 0 + ys.getD k 0 + caW xs ys k) % 4294967296 from rfl)
  have HXR := hide hxr
  have HYR := hide hyr
  have HC0 := hide (show caW xs ys 0 = 0 from rfl)
  clear X1 Y1 Z1 G1 hw1 hxr hyr
  generalize nvals xs = V at e1 ⊢
  generalize nvals ys = U at e1 ⊢
  generalize sumL xs ys = SL at HZ HSL HSA ⊢
  generalize hSU : suW xs ys = SU at HSA HSU
  generalize hCA : caW xs ys = CA at HCA HSU CR HC0 ⊢
  clear hSU hCA
  go_enter Tryz.func124, Tryz.ntmps124
  go_wp2_with (rw [e1])
  go_loopw [5, 8] (fun c i wr => ∃ k : Nat, k ≤ 8 ∧ i = .int .i64 k ∧ c = .int .i64 (CA k) ∧ NBlk wr w.heap.size xs 158 ∧ NBlk wr (w.heap.size + 1) ys 158 ∧ NBlk wr (w.heap.size + 2) (SL.take k ++ List.replicate (8 - k) 0) 158 ∧ Below w.heap.size w wr) (fun _ i _ => 8 - (intOf i).toNat)
  case atStart => exact ⟨0, Nat.zero_le _, rfl, by rw [unhide HC0], unhide HX, unhide HY, unhide HZ, unhide HG⟩
  case round =>
    obtain ⟨k, hk, rfl, rfl, hX, hY, hZ, hG⟩ := hrel
    clear HX HY HZ HG
    by_cases hlt : k < 8
    · have hdk : decide ((k : Int) < 8) = true := decide_eq_true (by omega)
      have j0 : (0 : Int) ≤ (k : Int) := by omega
      have j1 : (k : Int) < 8 := by omega
      have c1 := hX.cell k (by omega)
      have c2 := hY.cell k (by omega)
      have rx := (unhide HXR) k
      have ry := (unhide HYR) k
      have rc := (unhide CR) k
      have hst := fill8 SL 8 k (unhide HSL) hlt
      rw [(unhide HSA) k hlt, (unhide HSU) k] at hst
      have hca := (unhide HCA) k
      generalize xs.getD k 0 = x at c1 rx hst hca
      generalize ys.getD k 0 = y at c2 ry hst hca
      obtain ⟨c', hc'⟩ : ∃ c', c' = CA (k + 1) := ⟨_, rfl⟩
      rw [← hc'] at hca
      have HC' := hide hc'
      generalize CA k = c at rc hst hca
      obtain ⟨s, hs⟩ : ∃ s, s = x + y + c := ⟨_, rfl⟩
      rw [← hs] at hst hca
      have s0 : 0 ≤ s := by omega
      have s1 : s < 9223372036854775808 := by omega
      have hand := and_word s s0 s1
      obtain ⟨z, hz⟩ : ∃ z, z = s % 4294967296 := ⟨_, rfl⟩
      rw [← hz] at hst hand
      have t0 : x + y + c = s := hs.symm
      obtain ⟨xy, hxy⟩ : ∃ xy, xy = x + y := ⟨_, rfl⟩
      have t1 : x + y = xy := hxy.symm
      have t2 : xy + c = s := by omega
      have y1 : IntKind.i64.wrap xy = xy := wraps_i64 _ (by omega) (by omega)
      have y2 : IntKind.i64.wrap s = s := wraps_i64 _ (by omega) (by omega)
      have f1 := hZ.free k
      obtain ⟨u, hu⟩ : ∃ u, wr.cell? ⟨w.heap.size + 2, k, none⟩ = some u := ⟨_, hZ.cell k (by simp [unhide HSL]; omega)⟩
      have Z2 := hZ.set k z
      rw [hst] at Z2
      have X2 := hX.other (b' := w.heap.size + 2) k (.int .i64 z) (by omega)
      have Y2 := hY.other (b' := w.heap.size + 2) k (.int .i64 z) (by omega)
      have G2 := hG.setCell (p := ⟨w.heap.size + 2, k, none⟩) (by simp) (.int .i64 z)
      have HX := hide X2
      have HY := hide Y2
      have HZ := hide Z2
      have HG := hide G2
      have HW1 := hide hca
      have HG0 := hide hG
      clear hX hY hZ hG X2 Y2 Z2 G2 hst hs hz hxy hc' t0 rx ry rc hca
      go_wp2_with fail
      go_quiet (fail)
      go_wp2_with fail
      refine ⟨⟨k + 1, by omega, by go_num, ?_, unhide HX, unhide HY, unhide HZ, (below_drewN (unhide HG0) _).setCell (by simp; omega) _⟩, by simp [intOf]; omega⟩
      rw [← unhide HC', unhide HW1]
    · obtain rfl : k = 8 := by omega
      have hdk : decide (((8 : Nat) : Int) < 8) = false := rfl
      have e8 : SL.take 8 ++ List.replicate (8 - 8) 0 = SL := by rw [List.take_of_length_le (by rw [unhide HSL]; omega)]; simp
      rw [e8] at hZ
      have HLD := hide (load8 hZ (unhide HSL))
      obtain ⟨w3, hst, S3, K3, O3⟩ := store8 hZ (unhide HSL) (unhide HSL)
      have HST := hide hst
      have HS3 := hide (show w3.heap[w.heap.size + 2]? = some (.cells (nvals SL).toArray 158 (0, 0)) from S3)
      have HL3 := hide (load8 S3 (unhide HSL))
      have HG := hide (hG.trans ((K3 w.heap.size (by omega))))
      clear hst S3 K3 O3 hZ hG hX hY e8
      have vlen : (nvals SL).length = 8 := by rw [nvals_length, unhide HSL]
      go_wp2_with (first | refine wpList_load_by rfl 158 _ rfl _ _ rfl (unhide HLD) ?_ | refine wpList_store_by rfl 158 _ _ rfl _ _ rfl rfl _ (unhide HST) ?_)
      exact bodyPost_ret (results_row_tmp rfl _ _ (w.heap.size + 2) 158 _ (0, 0) _ _ rfl rfl (unhide HS3) Tryz.underlying158 rfl (by rw [List.size_toArray, vlen]; kernel_rfl)) rfl ⟨rfl, unhide HG⟩

end Go.Proofs.YtioifgbnninmjaaGreatDoor

/- What is proved here: the program's limbsOf, and the model's sum of two wide numbers. -/
namespace Go.Proofs.YtioifgbnninmjaaGreatDoor
open Go.RowKit
set_option linter.unusedVariables false
set_option maxRecDepth 100000

/-- Numbers copied over a row of as many that the call owns. -/
theorem ncopy_own (w : World) (B g d sCap : Nat) (a : Addr) (xs cs : List Value) (h : w.ownsRow B 2 1 (.slice (some ⟨g, 0, none⟩) d d) d xs) (hl : cs.length = d)
    (hsrc : ∀ j v, cs[j]? = some v → w.cell? (a.add j) = some v) (h1 : ∀ v ∈ cs, v.oneCell' = true) :
    ∃ W, (Builtin.copy_ #[59, 59] 3 #[.slice (some ⟨g, 0, none⟩) d d, .slice (some a) d sCap]).run Tryz.prog w = .ok (goInt d) W ∧
      W.ownsRow B 2 1 (.slice (some ⟨g, 0, none⟩) d d) d cs ∧ w.grownBy W (some g) := by
  have hxl := h.1
  rcases h.2 with ⟨h', _⟩ | ⟨g', cap', cur, h', hb, hg, hnc, hcm, hcs, htake⟩
  · simp at h'
  · simp only [Value.slice.injEq, Option.some.injEq, Addr.mk.injEq, and_true, true_and] at h'
    obtain ⟨rfl, rfl⟩ := h'
    have hr := run_copy_row (P := Tryz.prog) w 59 59 3 2 g 0 d d a d sCap cur 2 cs Tryz.underlying59 nsize2 hg (by rw [hl]; exact (Nat.min_self d).symm) hsrc (by omega) h1
    have e1 : cur.toList.take 0 ++ cs ++ cur.toList.drop (0 + cs.length) = cs := by
      rw [hl, List.drop_eq_nil_of_le (by simp; omega)]; simp
    rw [e1, hl] at hr
    exact ⟨_, hr, ⟨by rw [hl, Nat.mul_one], .inr ⟨g, d, cs.toArray, rfl, hb, setRow_heap w g cur _ 2 _ hg, Nat.le_refl _, hcm, by simpa using hl, by
      rw [Nat.mul_one, List.take_of_length_le (by simp; omega)]⟩⟩,
      ⟨rfl, rfl, rfl, by simp [World.setRow], fun k _ hk => setRow_other w g k _ (fun e => hk (by simp [e]))⟩⟩

set_option maxHeartbeats 2000000 in
theorem limbsOf_any (zs : List Int) (hz : zs.length = 8) (w : World) :
    Calls Tryz.prog 125 #[.agg (nvals zs).toArray] w fun e w' => e = .returned (.slice (some ⟨w.heap.size + 1, 0, none⟩) 8 8) ∧
      w'.ownsRow w.heap.size 2 1 (.slice (some ⟨w.heap.size + 1, 0, none⟩) 8 8) 8 (zs.map (Value.int .i64)) ∧ Below w.heap.size w w' := by
  obtain ⟨i0, hi, hz0, hz1, hz2⟩ := info_parts info2
  obtain ⟨w1, hw1⟩ : ∃ w1, w1 = w.alloc (.cells (nvals zs).toArray 158) := ⟨_, rfl⟩
  have e1 := hw1.symm
  have G1 : Below w.heap.size w w1 := by rw [hw1]; exact below_alloc w _
  have X1 : NBlk w1 w.heap.size zs 158 := by
    rw [hw1]
    exact NBlk.new w zs _
  have s1 : w1.heap.size = w.heap.size + 1 := by rw [hw1]; simp
  have HV := hide (show nvals zs = zs.map (Value.int .i64) from rfl)
  clear hw1
  generalize hVV : nvals zs = V at e1 HV ⊢
  have HVV := hide hVV
  clear hVV
  go_enter Tryz.func125, Tryz.ntmps125
  go_wp2_with (first | rw [e1] | (at_make; refine wpList_make_full _ rfl _ _ 59 rfl (w.heap.size + 1) 2 i0 (.int .i64 0) 1 Tryz.underlying59 hi hz0 hz1 _ _ _ _ 8 rfl rfl (by omega) (by omega) ?c1 ?c2 ?c3 ?_))
  case c1 => rw [hz2]; omega
  case c2 => unfold maxLen; omega
  case c3 => rw [s1]; omega
  intro w2 hown hgrow
  have G2 : Below w.heap.size w w2 := G1.grown hgrow (by rw [s1]; omega) (fun k e => by cases e)
  have X2 : NBlk w2 w.heap.size zs 158 := by
    unfold NBlk
    rw [hgrow.block _ X1.lt (by simp)]
    exact X1
  obtain ⟨w3, hcp, o3, g3⟩ := ncopy_own w2 (w.heap.size + 1) (w.heap.size + 1) 8 8 ⟨w.heap.size, 0, none⟩ _ (zs.map (Value.int .i64)) hown (by simpa using hz)
    (by
      intro j v hj
      have hjl : j < zs.length := by have := (List.getElem?_eq_some_iff.1 hj).1; simpa using this
      rw [add_none, Nat.zero_add, X2.cell j hjl]
      rw [List.getElem?_map, List.getElem?_eq_getElem hjl] at hj
      rw [getD_at _ _ hjl]
      exact hj)
    (fun v hv => by obtain ⟨z, _, rfl⟩ := List.mem_map.1 hv; rfl)
  have s2 : w.heap.size + 1 ≤ w2.heap.size := by have := hgrow.size; omega
  have G3 : Below w.heap.size w w3 := G2.grown g3 G2.size (fun k e => by cases e; omega)
  have HO := hide o3
  have HG := hide G3
  clear o3 g3 G3 hown hgrow X1 X2 G1 G2
  go_wp2_with fail
  go_ret
  exact ⟨rfl, ownsRow_base (unhide HO) (by omega), unhide HG⟩

set_option maxHeartbeats 4000000 in
theorem l4Add_any (a b oa ob ca cb : Nat) (xs ys : List Int) (w : World) (hx : IRow w (some ⟨a, oa, none⟩) 8 xs) (hy : IRow w (some ⟨b, ob, none⟩) 8 ys)
    (hxr : ∀ i, 0 ≤ xs.getD i 0 ∧ xs.getD i 0 ≤ 4294967295) (hyr : ∀ i, 0 ≤ ys.getD i 0 ∧ ys.getD i 0 ≤ 4294967295) :
    Calls Tryz.prog 131 #[.slice (some ⟨a, oa, none⟩) 8 ca, .slice (some ⟨b, ob, none⟩) 8 cb] w fun e w' => ∃ a' cap', e = .returned (.tuple #[.slice a' 8 cap', .bool (caW xs ys 8 == 0)]) ∧
      w'.ownsRow w.heap.size 2 1 (.slice a' 8 cap') 8 ((sumL xs ys).map (Value.int .i64)) ∧ Below w.heap.size w w' := by
  obtain ⟨i0, hi, hz0, hz1, hz2⟩ := info_parts info2
  have CX : Hid (∀ W, Below w.heap.size w W → ∀ i, i < 8 → W.cell? ⟨a, oa + i, none⟩ = some (.int .i64 (xs.getD i 0))) := fun W hW i hi => by have := (hx.below hW (Nat.le_refl _)).2.2.2 _ rfl i hi; rwa [add_none] at this
  have CY : Hid (∀ W, Below w.heap.size w W → ∀ i, i < 8 → W.cell? ⟨b, ob + i, none⟩ = some (.int .i64 (ys.getD i 0))) := fun W hW i hi => by have := (hy.below hW (Nat.le_refl _)).2.2.2 _ rfl i hi; rwa [add_none] at this
  have CR := hide (caW_range xs ys hxr hyr)
  have HSL := hide (sumL_length xs ys)
  have HSA := hide (sumL_at xs ys)
  have HCA := hide (fun k => show caW xs ys (k + 1) = (xs.getD k 0 + ys.getD k 0 + caW xs ys k) / 4294967296 from rfl)
  have HSU := hide (fun k => show suW xs ys k = (xs.getD k 0 + ys.getD k 0 + caW xs ys k) % 4294967296 from rfl)
  have HXR := hide hxr
  have HYR := hide hyr
  have HC0 := hide (show caW xs ys 0 = 0 from rfl)
  have o0 : (w.alloc (.cells #[] 2)).ownsRow w.heap.size 2 1 (.slice (some ⟨w.heap.size, 0, none⟩) 0 0) 0 [] := World.ownsRow_lit w #[] 0 (Nat.le_refl _) (by unfold maxLen; omega) rfl
  have HO0 := hide o0
  clear o0 hxr hyr hx hy
  generalize sumL xs ys = SL at HSL HSA ⊢
  generalize hSU : suW xs ys = SU at HSA HSU
  generalize hCA : caW xs ys = CA at HCA HSU CR HC0 ⊢
  clear hSU hCA
  go_enter Tryz.func131, Tryz.ntmps131
  go_wp2_with fail
  go_loopw [6, 7, 8] (fun s c i wr => ∃ (k : Nat) (a' : Option Addr) (cap' : Nat), k ≤ 8 ∧ i = .int .i64 k ∧ c = .int .i64 (CA k) ∧ s = .slice a' k cap' ∧ wr.ownsRow w.heap.size 2 1 (.slice a' k cap') k ((SL.take k).map (Value.int .i64)) ∧ Below w.heap.size w wr) (fun _ _ i _ => 8 - (intOf i).toNat)
  case atStart => exact ⟨0, some ⟨w.heap.size, 0, none⟩, 0, Nat.zero_le _, rfl, by rw [unhide HC0], rfl, unhide HO0, below_alloc w _⟩
  case round =>
    obtain ⟨k, a', cap', hk, rfl, rfl, rfl, hown, hbr⟩ := hrel
    clear HO0
    by_cases hlt : k < 8
    · have hdk : decide ((k : Int) < 8) = true := decide_eq_true (by omega)
      have j0 : (0 : Int) ≤ (k : Int) := by omega
      have j1 : (k : Int) < 8 := by omega
      have c1 := (unhide CX) wr hbr k hlt
      have c2 := (unhide CY) wr hbr k hlt
      have rx := (unhide HXR) k
      have ry := (unhide HYR) k
      have rc := (unhide CR) k
      have hst : SL.take (k + 1) = SL.take k ++ [SL.getD k 0] := by
        rw [List.take_succ_eq_append_getElem (by rw [unhide HSL]; exact hlt), getD_at _ _ (by rw [unhide HSL]; exact hlt)]
      rw [(unhide HSA) k hlt, (unhide HSU) k] at hst
      have hca := (unhide HCA) k
      generalize xs.getD k 0 = x at c1 rx hst hca
      generalize ys.getD k 0 = y at c2 ry hst hca
      obtain ⟨c', hc'⟩ : ∃ c', c' = CA (k + 1) := ⟨_, rfl⟩
      rw [← hc'] at hca
      have HC' := hide hc'
      generalize CA k = c at rc hst hca
      obtain ⟨s, hs⟩ : ∃ s, s = x + y + c := ⟨_, rfl⟩
      rw [← hs] at hst hca
      have s0 : 0 ≤ s := by omega
      have s1 : s < 9223372036854775808 := by omega
      obtain ⟨xy, hxy⟩ : ∃ xy, xy = x + y := ⟨_, rfl⟩
      have t1 : x + y = xy := hxy.symm
      have t2 : xy + c = s := by omega
      have y1 : IntKind.i64.wrap xy = xy := wraps_i64 _ (by omega) (by omega)
      have y2 : IntKind.i64.wrap s = s := wraps_i64 _ (by omega) (by omega)
      have HST := hide hst
      have HW1 := hide hca
      have HS := hide hs
      clear hst hs hxy hc' rx ry rc hca
      generalize SL.take k = L at hown HST
      have o1 : (wr.drewN 0).ownsRow w.heap.size 2 1 (.slice a' k cap') k (L.map (Value.int .i64)) := hown
      have HOW := hide hown
      have HBR := hide hbr
      clear o1 hown hbr
      go_wp2_with fail
      go_quiet (fail)
      have hown := own_below (unhide HOW) (below_drewN (Below.refl wr.heap.size wr) nq) (Nat.le_refl _)
      have hbr := below_drewN (unhide HBR) nq
      generalize wr.drewN nq = w2 at hown hbr ⊢
      go_wp2_with (at_builtin; refine wpList_append_own _ rfl _ _ 59 rfl w.heap.size 2 i0 (.int .i64 0) 1 8 Tryz.underlying59 hi hz0 hz1 hz2 rfl (by decide) _ _ _ rfl (hown.alloc _) ⟨w2.heap.size, 0, none⟩ 1 1 [.int .i64 (s % 4294967296)] rfl rfl ?c1 ?c2 ?c3 ?c4 ?c5 ?_)
      case c1 => exact cell_one_new _ _ _
      case c2 => intro u hu; simp at hu; subst hu; rfl
      case c3 => unfold maxLen; omega
      case c4 => omega
      case c5 => have := hbr.size; simp; omega
      intro v' w3 hown2 hgrow _
      obtain ⟨a2, cap2, hv⟩ := own_shape hown2
      have hb2 : Below w.heap.size w w3 := (hbr.alloc hbr.size _).grown hgrow (by have := hbr.size; simp; omega) (fun g e => (hown.lt g e).1)
      rw [hv] at hown2
      rw [hv]
      have HO := hide hown2
      have HB := hide hb2
      clear hown2 hb2 hgrow hown hbr
      go_wp2_with fail
      refine ⟨⟨k + 1, a2, cap2, by omega, by go_num, by rw [← unhide HC', unhide HW1], rfl, ?_, unhide HB⟩, by simp [intOf]; omega⟩
      rw [unhide HST]
      simpa using unhide HO
    · obtain rfl : k = 8 := by omega
      have hdk : decide (((8 : Nat) : Int) < 8) = false := rfl
      rw [List.take_of_length_le (by rw [unhide HSL]; omega)] at hown
      have HO := hide hown
      have HB := hide hbr
      clear hown hbr
      go_wp2_with fail
      go_ret2
      exact ⟨a', cap', rfl, unhide HO, unhide HB⟩

end Go.Proofs.YtioifgbnninmjaaGreatDoor

/- What is proved here: AddWide of the program and of the model, for every two slices of numbers. -/
namespace Go.Proofs.YtioifgbnninmjaaGreatDoor
open Go.RowKit
set_option linter.unusedVariables false
set_option maxRecDepth 100000

/-- The code and the limbs of AddWide. -/
def awCode (xs ys : List Int) : Int := if wf2 xs ys = 0 then (if caW xs ys 8 = 0 then 0 else 10) else wf2 xs ys
def awList (xs ys : List Int) : List Int := if wf2 xs ys = 0 ∧ caW xs ys 8 = 0 then sumL xs ys else []

theorem awList_length (xs ys : List Int) : (awList xs ys).length ≤ 8 := by
  unfold awList
  split
  · rw [sumL_length]; omega
  · simp

theorem aw_fault (xs ys : List Int) (h : wf2 xs ys ≠ 0) : awCode xs ys = wf2 xs ys ∧ awList xs ys = [] := ⟨if_neg h, if_neg (fun e => h e.1)⟩
theorem aw_full (xs ys : List Int) (h : wf2 xs ys = 0) (hc : caW xs ys 8 ≠ 0) : awCode xs ys = 10 ∧ awList xs ys = [] := ⟨by unfold awCode; rw [if_pos h, if_neg hc], if_neg (fun e => hc e.2)⟩
theorem aw_ok (xs ys : List Int) (h : wf2 xs ys = 0) (hc : caW xs ys 8 = 0) : awCode xs ys = 0 ∧ awList xs ys = sumL xs ys := ⟨by unfold awCode; rw [if_pos h, if_pos hc], if_pos ⟨h, hc⟩⟩

theorem wf2_both (xs ys : List Int) (h : wf2 xs ys = 0) : wfCode xs = 0 ∧ wfCode ys = 0 := by
  unfold wf2 at h
  split at h
  · exact ⟨by assumption, h⟩
  · contradiction

set_option maxHeartbeats 4000000 in
theorem implAW_any (a b : Option Addr) (n m cap cap2 : Nat) (xs ys : List Int) (w : World) (h : IRow w a n xs) (h2 : IRow w b m ys) (hl : n ≤ 1048576) (hl2 : m ≤ 1048576) :
    Calls Tryz.prog 89 #[.slice a n cap, .slice b m cap2] w fun e w' => ∃ a' cap', e = .returned (.agg #[.int .i64 (awCode xs ys), .slice a' (awList xs ys).length cap']) ∧
      w'.ownsRow w.heap.size 2 1 (.slice a' (awList xs ys).length cap') (awList xs ys).length ((awList xs ys).map (Value.int .i64)) ∧ Below w.heap.size w w' := by
  obtain ⟨w0, hw0⟩ : ∃ w0, w0 = w.alloc (.cells #[.int .i64 0, .slice none 0 0] 100) := ⟨_, rfl⟩
  have e0 := hw0.symm
  have hb0 : Below w.heap.size w w0 := by rw [hw0]; exact below_alloc w _
  have hres : w0.heap[w.heap.size]? = some (.cells #[.int .i64 0, .slice none 0 0] 100 (0, 0)) := by
    rw [hw0]
    show (w.heap.push _)[w.heap.size]? = _
    simp
  have hx0 := h.below hb0 (Nat.le_refl _)
  have hy0 := h2.below hb0 (Nat.le_refl _)
  have HF := hide (bothFault_any a b n m cap cap2 xs ys w0 hx0 hy0 hl hl2)
  have hs0 : w.heap.size < w0.heap.size := lt_of_block hres
  clear hw0
  by_cases hc : wf2 xs ys = 0
  · obtain ⟨hcx, hcy⟩ := wf2_both xs ys hc
    obtain ⟨hxl, hxr⟩ := wf_zero xs hcx
    obtain ⟨hyl, hyr⟩ := wf_zero ys hcy
    have EOK := hide (aw_ok xs ys hc)
    have EFU := hide (aw_full xs ys hc)
    rw [hc] at HF
    obtain rfl : n = 8 := by rw [← h.1]; exact hxl
    obtain rfl : m = 8 := by rw [← h2.1]; exact hyl
    obtain ⟨ba, oa, rfl, hba, hca⟩ := h.at (by omega)
    obtain ⟨bb, ob, rfl, hbb, hcb⟩ := h2.at (by omega)
    have HX := hide hx0
    have HY := hide hy0
    have HPL := hide (plus_any xs ys hxl hyl hxr hyr)
    have HWX := hide (fun W (hW : IRow W (some ⟨ba, oa, none⟩) 8 xs) => wideIn_any ba oa cap xs W hW)
    have HWY := hide (fun W (hW : IRow W (some ⟨bb, ob, none⟩) 8 ys) => wideIn_any bb ob cap2 ys W hW)
    have HSL := hide (sumL_length xs ys)
    have HLO := hide (limbsOf_any (sumL xs ys) (sumL_length xs ys))
    generalize sumL xs ys = SL at HSL HLO HPL EOK
    generalize awCode xs ys = ac at EOK EFU ⊢
    generalize awList xs ys = al at EOK EFU ⊢
    generalize caW xs ys 8 = c at HPL EOK EFU
    have HB := hide hb0
    have HR := hide hres
    clear hc hcx hcy hca hcb h h2 hx0 hy0 hb0 hres hxl hyl hxr hyr
    generalize nvals xs = V at HPL HWX
    generalize nvals ys = U at HPL HWY
    by_cases hc0 : c = 0
    · obtain ⟨rfl, rfl⟩ := (unhide EOK) hc0
      have hd : (c != 0) = false := by simp [hc0]
      rw [unhide HSL]
      clear EOK EFU hc0
      go_enter Tryz.func89, Tryz.ntmps89
      go_wp2_with (rw [e0])
      refine (unhide HF).mono ?_
      rintro e w' ⟨rfl, rfl⟩
      go_wp2_with fail
      refine ((unhide HWX) _ (unhide HX)).mono ?_
      rintro e w2 ⟨rfl, b2⟩
      go_wp2_with fail
      refine ((unhide HWY) _ ((unhide HY).below b2 (Nat.le_refl _))).mono ?_
      rintro e w3 ⟨rfl, b3⟩
      go_wp2_with fail
      refine ((unhide HPL) _).mono ?_
      rintro e w4 ⟨rfl, b4⟩
      have k3 := b2.trans (b3.mono b2.size)
      have k4 := k3.trans (b4.mono k3.size)
      clear b2 b3 b4 k3
      obtain ⟨w5, hw5⟩ : ∃ w5, w5 = w4.alloc (.cells #[.int .i64 0, .int .i64 0, .int .i64 0, .int .i64 0, .int .i64 0, .int .i64 0, .int .i64 0, .int .i64 0] 158) := ⟨_, rfl⟩
      have e5 := hw5.symm
      have S5 : NBlk w5 w4.heap.size (List.replicate 8 0) 158 := by
        rw [hw5]
        exact NBlk.new w4 (List.replicate 8 0) _
      have G5 : Below w4.heap.size w4 w5 := by rw [hw5]; exact below_alloc w4 _
      obtain ⟨w6, hst, S6, K6, O6⟩ := store8 S5 (by simp) (unhide HSL)
      have HST := hide hst
      have HLD := hide (load8 S6 (unhide HSL))
      have k6 := k4.trans ((G5.trans (K6 _ (Nat.le_refl _))).mono k4.size)
      have HK := hide k6
      clear hst S6 K6 O6 S5 G5 hw5 k4 k6
      generalize nvals al = S8 at HST HLD HLO
      go_wp2_with (first | rw [e5] | refine wpList_store_by rfl 158 _ _ rfl _ _ rfl rfl _ (unhide HST) ?_ | refine wpList_load_by rfl 158 _ rfl _ _ rfl (unhide HLD) ?_)
      refine ((unhide HLO) _).mono ?_
      rintro e w7 ⟨rfl, o7, b7⟩
      have k7 := (unhide HK).trans (b7.mono (unhide HK).size)
      have G7 := (unhide HB).trans (k7.mono (unhide HB).size)
      have R7 := (k7.block _ hs0).trans (unhide HR)
      have hs6 : w.heap.size < w6.heap.size := Nat.lt_of_lt_of_le hs0 (unhide HK).size
      obtain ⟨q0, q1, f0, f1⟩ := res_facts R7
      have HO := hide o7
      have HG := hide G7
      clear b7 k7 R7 o7 G7
      go_wp2_with fail
      refine bodyPost_ret (v := .agg #[.int .i64 0, .slice (some ⟨w6.heap.size + 1, 0, none⟩) 8 8]) (by simp [results, Tryz.results89, go_sem, q0, q1]) rfl ⟨_, 8, rfl, ?_, ?_⟩
      · exact ownsRow_base (ownsRow_setCell_below (ownsRow_setCell_below (unhide HO) hs6 _) hs6 _) (Nat.le_of_lt hs6)
      · exact ((unhide HG).setCell (by simp) _).setCell (by simp) _
    · obtain ⟨rfl, rfl⟩ := (unhide EFU) hc0
      have hd : (c != 0) = true := by simp [hc0]
      clear EOK EFU hc0
      go_enter Tryz.func89, Tryz.ntmps89
      go_wp2_with (rw [e0])
      refine (unhide HF).mono ?_
      rintro e w' ⟨rfl, rfl⟩
      go_wp2_with fail
      refine ((unhide HWX) _ (unhide HX)).mono ?_
      rintro e w2 ⟨rfl, b2⟩
      go_wp2_with fail
      refine ((unhide HWY) _ ((unhide HY).below b2 (Nat.le_refl _))).mono ?_
      rintro e w3 ⟨rfl, b3⟩
      go_wp2_with fail
      refine ((unhide HPL) _).mono ?_
      rintro e w4 ⟨rfl, b4⟩
      have k3 := b2.trans (b3.mono b2.size)
      have k4 := k3.trans (b4.mono k3.size)
      clear b2 b3 b4 k3
      obtain ⟨w5, hw5⟩ : ∃ w5, w5 = w4.alloc (.cells #[.int .i64 0, .int .i64 0, .int .i64 0, .int .i64 0, .int .i64 0, .int .i64 0, .int .i64 0, .int .i64 0] 158) := ⟨_, rfl⟩
      have e5 := hw5.symm
      have S5 : NBlk w5 w4.heap.size (List.replicate 8 0) 158 := by
        rw [hw5]
        exact NBlk.new w4 (List.replicate 8 0) _
      have G5 : Below w4.heap.size w4 w5 := by rw [hw5]; exact below_alloc w4 _
      obtain ⟨w6, hst, S6, K6, O6⟩ := store8 S5 (by simp) (unhide HSL)
      have HST := hide hst
      have k6 := k4.trans ((G5.trans (K6 _ (Nat.le_refl _))).mono k4.size)
      have G6 := (unhide HB).trans (k6.mono (unhide HB).size)
      have R6 := (k6.block _ hs0).trans (unhide HR)
      obtain ⟨q0, q1, f0, f1⟩ := res_facts R6
      have HG := hide G6
      clear hst S6 K6 O6 S5 G5 hw5 k4 k6 R6 G6
      generalize nvals SL = S8 at HST HLO
      go_wp2_with (first | rw [e5] | refine wpList_store_by rfl 158 _ _ rfl _ _ rfl rfl _ (unhide HST) ?_)
      exact bodyPost_ret (v := .agg #[.int .i64 10, .slice none 0 0]) (by simp [results, Tryz.results89, go_sem, q0, q1]) rfl ⟨none, 0, rfl, World.ownsRow_nil _ _ _ _, ((unhide HG).setCell (by simp) _).setCell (by simp) _⟩
  · obtain ⟨ea, el⟩ := aw_fault xs ys hc
    rw [ea, el]
    have hd : (wf2 xs ys != 0) = true := by simp [hc]
    generalize wf2 xs ys = c at HF hd
    obtain ⟨q0, q1, f0, f1⟩ := res_facts hres
    clear ea el h h2 hx0 hy0 hc hres
    go_enter Tryz.func89, Tryz.ntmps89
    go_wp2_with (rw [e0])
    refine (unhide HF).mono ?_
    rintro e w' ⟨rfl, rfl⟩
    go_wp2_with fail
    exact bodyPost_ret (v := .agg #[.int .i64 c, .slice none 0 0]) (by simp [results, Tryz.results89, go_sem, q0, q1]) rfl ⟨none, 0, rfl, World.ownsRow_nil _ _ _ _, (hb0.setCell (by simp) _).setCell (by simp) _⟩

end Go.Proofs.YtioifgbnninmjaaGreatDoor

/- What is proved here: two wide numbers held against each other, by the program and by the model. -/
namespace Go.Proofs.YtioifgbnninmjaaGreatDoor
open Go.RowKit
set_option linter.unusedVariables false
set_option maxRecDepth 100000

/-- Which of two numbers is more. -/
def cmpI (x y : Int) : Int := if x < y then -1 else if y < x then 1 else 0

/-- Which of two lists is more, by its highest places first, below a place. -/
def cmpW (xs ys : List Int) : Nat → Int
  | 0 => 0
  | k + 1 => if cmpI (xs.getD k 0) (ys.getD k 0) = 0 then cmpW xs ys k else cmpI (xs.getD k 0) (ys.getD k 0)

theorem cmpI_same {x y : Int} (h : ¬ x < y) (h2 : ¬ y < x) : cmpI x y = 0 := by unfold cmpI; rw [if_neg h, if_neg h2]
theorem cmpI_less {x y : Int} (h : x < y) : cmpI x y = -1 := by unfold cmpI; rw [if_pos h]
theorem cmpI_more {x y : Int} (h : y < x) : cmpI x y = 1 := by unfold cmpI; rw [if_neg (by omega), if_pos h]
theorem cmpW_same (xs ys : List Int) (k : Nat) (h : cmpI (xs.getD k 0) (ys.getD k 0) = 0) : cmpW xs ys (k + 1) = cmpW xs ys k := by rw [cmpW, if_pos h]
theorem cmpW_other (xs ys : List Int) (k : Nat) (h : cmpI (xs.getD k 0) (ys.getD k 0) ≠ 0) : cmpW xs ys (k + 1) = cmpI (xs.getD k 0) (ys.getD k 0) := by rw [cmpW, if_neg h]

set_option maxHeartbeats 2000000 in
theorem l4Compare_any (a b : Nat) (oa ob ca cb : Nat) (xs ys : List Int) (w : World) (hx : IRow w (some ⟨a, oa, none⟩) 8 xs) (hy : IRow w (some ⟨b, ob, none⟩) 8 ys) :
    Calls Tryz.prog 130 #[.slice (some ⟨a, oa, none⟩) 8 ca, .slice (some ⟨b, ob, none⟩) 8 cb] w fun e w' => e = .returned (.int .i64 (cmpW xs ys 8)) ∧ Below w.heap.size w w' := by
  have CX : Hid (∀ i, i < 8 → w.cell? ⟨a, oa + i, none⟩ = some (.int .i64 (xs.getD i 0))) := fun i hi => by have := hx.2.2.2 _ rfl i hi; rwa [add_none] at this
  have CY : Hid (∀ i, i < 8 → w.cell? ⟨b, ob + i, none⟩ = some (.int .i64 (ys.getD i 0))) := fun i hi => by have := hy.2.2.2 _ rfl i hi; rwa [add_none] at this
  have CS := hide (cmpW_same xs ys)
  have CO := hide (cmpW_other xs ys)
  have CZ := hide (show cmpW xs ys 0 = 0 from rfl)
  clear hx hy
  generalize hR : cmpW xs ys = R at CS CO CZ ⊢
  clear hR
  go_enter Tryz.func130, Tryz.ntmps130
  go_wp2_with fail
  go_loopw [5] (fun i wr => ∃ k nn : Nat, k ≤ 8 ∧ i = .int .i64 ((k : Int) - 1) ∧ R 8 = R k ∧ wr = w.drewN nn) (fun i _ => (intOf i + 1).toNat)
  case atStart => exact ⟨8, 0, Nat.le_refl _, rfl, rfl, rfl⟩
  case round =>
    obtain ⟨k, nn, hk, rfl, hpre, rfl⟩ := hrel
    by_cases hlt : 0 < k
    · obtain ⟨m, rfl⟩ : ∃ m, k = m + 1 := ⟨k - 1, by omega⟩
      have m0 : ((m + 1 : Nat) : Int) - 1 = (m : Int) := by omega
      rw [m0]
      have hdk : decide ((m : Int) ≥ 0) = true := decide_eq_true (by omega)
      have hdk2 : decide ((0 : Int) ≤ (m : Int)) = true := decide_eq_true (by omega)
      have j0 : (0 : Int) ≤ (m : Int) := by omega
      have j1 : (m : Int) < 8 := by omega
      have c1 := (unhide CX) m (by omega)
      have c2 := (unhide CY) m (by omega)
      have hs := (unhide CS) m
      have ho := (unhide CO) m
      generalize xs.getD m 0 = x at c1 hs ho
      generalize ys.getD m 0 = y at c2 hs ho
      have HP := hide hpre
      have HS := hide hs
      have HO := hide ho
      clear hpre hs ho
      by_cases h1 : x < y
      · have d1 : decide (x < y) = true := decide_eq_true h1
        have HT := hide ((unhide HP).trans (((unhide HO) (by rw [cmpI_less h1]; decide)).trans (cmpI_less h1)))
        clear h1 HO HS HP
        go_wp2_with fail
        go_quiet (fail)
        go_wp2_with fail
        go_ret
        exact ⟨ret_int (unhide HT).symm, below_drewN (below_drewN (Below.refl _ _) _) _⟩
      · have d1 : decide (x < y) = false := decide_eq_false h1
        by_cases h2 : y < x
        · have d2 : decide (y < x) = true := decide_eq_true h2
          have HT := hide ((unhide HP).trans (((unhide HO) (by rw [cmpI_more h2]; decide)).trans (cmpI_more h2)))
          clear h1 h2 HO HS HP
          go_wp2_with fail
          go_quiet (fail)
          go_wp2_with fail
          go_quiet (fail)
          go_wp2_with fail
          go_ret
          exact ⟨ret_int (unhide HT).symm, below_drewN (below_drewN (below_drewN (Below.refl _ _) _) _) _⟩
        · have d2 : decide (y < x) = false := decide_eq_false h2
          have HT := hide ((unhide HP).trans ((unhide HS) (cmpI_same h1 h2)))
          clear h1 h2 HO HS HP
          go_wp2_with fail
          go_quiet (fail)
          go_wp2_with fail
          go_quiet (fail)
          go_wp2_with fail
          go_roundw
          case rel => exact ⟨m, _, by omega, by go_num, unhide HT, rfl⟩
          case measure => simp [intOf]
    · obtain rfl : k = 0 := by omega
      have HT := hide (hpre.trans (unhide CZ))
      clear hpre
      have hdk : decide (((0 : Nat) : Int) - 1 ≥ 0) = false := rfl
      go_wp2_with fail
      go_ret
      exact ⟨ret_int (unhide HT).symm, below_drewN (Below.refl _ _) _⟩

end Go.Proofs.YtioifgbnninmjaaGreatDoor

/- What is proved here: plain facts on wide numbers: what their limbs are worth, that sums add up, and that the order of limbs is the order of numbers. -/
namespace Go.Proofs.YtioifgbnninmjaaGreatDoor
open Go.RowKit
set_option linter.unusedVariables false
set_option maxRecDepth 100000

/-- What the k lowest limbs are worth. -/
def numW (L : List Int) : Nat → Int
  | 0 => 0
  | k + 1 => numW L k + L.getD k 0 * 4294967296 ^ k

/-- Limbs that are words. -/
def Wd (L : List Int) : Prop := ∀ i, 0 ≤ L.getD i 0 ∧ L.getD i 0 ≤ 4294967295

theorem pow_pos (k : Nat) : (0 : Int) < 4294967296 ^ k := Int.pow_pos (by decide)

theorem numW_range {L : List Int} (h : Wd L) : ∀ k, 0 ≤ numW L k ∧ numW L k < 4294967296 ^ k
  | 0 => by simp [numW]
  | k + 1 => by
    have ih := numW_range h k
    have hk := h k
    have hp := pow_pos k
    have m1 : L.getD k 0 * 4294967296 ^ k ≤ 4294967295 * 4294967296 ^ k := Int.mul_le_mul_of_nonneg_right hk.2 (Int.le_of_lt hp)
    have m0 : 0 ≤ L.getD k 0 * 4294967296 ^ k := Int.mul_nonneg hk.1 (Int.le_of_lt hp)
    have e : (4294967296 : Int) ^ (k + 1) = 4294967296 ^ k * 4294967296 := Int.pow_succ _ _
    rw [numW, e]
    generalize L.getD k 0 * 4294967296 ^ k = p at m0 m1
    generalize (4294967296 : Int) ^ k = q at ih m1 hp
    omega

/-- Which of two numbers is more. -/
theorem cmpW_num {A B : List Int} (hA : Wd A) (hB : Wd B) : ∀ k, cmpW A B k = cmpI (numW A k) (numW B k)
  | 0 => by simp [cmpW, numW, cmpI]
  | k + 1 => by
    have ih := cmpW_num hA hB k
    have ra := numW_range hA k
    have rb := numW_range hB k
    have hp := pow_pos k
    rw [numW, numW]
    rcases Int.lt_trichotomy (A.getD k 0) (B.getD k 0) with h | h | h
    · have m : (A.getD k 0 + 1) * 4294967296 ^ k ≤ B.getD k 0 * 4294967296 ^ k := Int.mul_le_mul_of_nonneg_right (by omega) (Int.le_of_lt hp)
      rw [Int.add_mul, Int.one_mul] at m
      rw [cmpW_other A B k (by rw [cmpI_less h]; decide), cmpI_less h, cmpI_less]
      omega
    · rw [cmpW_same A B k (by rw [h]; exact cmpI_same (Int.lt_irrefl _) (Int.lt_irrefl _)), ih, h]
      unfold cmpI
      generalize B.getD k 0 * 4294967296 ^ k = p
      have e1 : (numW A k + p < numW B k + p) ↔ (numW A k < numW B k) := by omega
      have e2 : (numW B k + p < numW A k + p) ↔ (numW B k < numW A k) := by omega
      simp only [e1, e2]
    · have m : (B.getD k 0 + 1) * 4294967296 ^ k ≤ A.getD k 0 * 4294967296 ^ k := Int.mul_le_mul_of_nonneg_right (by omega) (Int.le_of_lt hp)
      rw [Int.add_mul, Int.one_mul] at m
      rw [cmpW_other A B k (by rw [cmpI_more h]; decide), cmpI_more h, cmpI_more]
      omega


end Go.Proofs.YtioifgbnninmjaaGreatDoor

/- What is proved here: plain facts on sums of wide numbers. -/
namespace Go.Proofs.YtioifgbnninmjaaGreatDoor
open Go.RowKit
set_option linter.unusedVariables false
set_option maxRecDepth 100000

theorem sum_num {xs ys : List Int} : ∀ k, k ≤ 8 → numW xs k + numW ys k = numW (sumL xs ys) k + caW xs ys k * 4294967296 ^ k
  | 0, _ => by simp [numW, caW]
  | k + 1, h => by
    have ih := sum_num (xs := xs) (ys := ys) k (by omega)
    rw [numW, numW, numW, sumL_at xs ys k (by omega)]
    have e : (4294967296 : Int) ^ (k + 1) = 4294967296 ^ k * 4294967296 := Int.pow_succ _ _
    have hs : xs.getD k 0 + ys.getD k 0 + caW xs ys k = suW xs ys k + caW xs ys (k + 1) * 4294967296 := by
      unfold suW
      rw [caW]
      have := Int.emod_add_mul_ediv (xs.getD k 0 + ys.getD k 0 + caW xs ys k) 4294967296
      omega
    rw [e]
    have hm := congrArg (fun z => z * (4294967296 : Int) ^ k) hs
    simp only [Int.add_mul] at hm
    have e2 : caW xs ys (k + 1) * (4294967296 ^ k * 4294967296) = caW xs ys (k + 1) * 4294967296 * 4294967296 ^ k := by
      rw [Int.mul_comm (4294967296 ^ k) 4294967296, Int.mul_assoc]
    rw [e2]
    generalize xs.getD k 0 * 4294967296 ^ k = p1 at hm
    generalize ys.getD k 0 * 4294967296 ^ k = p2 at hm
    generalize suW xs ys k * 4294967296 ^ k = p3 at hm
    generalize caW xs ys (k + 1) * 4294967296 * 4294967296 ^ k = p4 at hm
    generalize caW xs ys k * 4294967296 ^ k = p5 at hm ih
    omega

theorem caW_comm (xs ys : List Int) : ∀ k, caW xs ys k = caW ys xs k
  | 0 => rfl
  | k + 1 => by rw [caW, caW, caW_comm xs ys k, Int.add_comm (xs.getD k 0)]

theorem sumL_comm (xs ys : List Int) : sumL xs ys = sumL ys xs := by
  unfold sumL
  refine List.map_congr_left fun k _ => ?_
  unfold suW
  rw [caW_comm xs ys k, Int.add_comm (xs.getD k 0)]

theorem Wd_sum (xs ys : List Int) : Wd (sumL xs ys) := by
  intro i
  by_cases hi : i < 8
  · rw [sumL_at xs ys i hi]
    unfold suW
    omega
  · rw [List.getD_eq_getElem?_getD, List.getElem?_eq_none (by rw [sumL_length]; omega)]
    simp

theorem wf_of (L : List Int) (h : L.length = 8) (hw : Wd L) : wfCode L = 0 := by
  refine wf_ok L h ?_
  rw [List.all_eq_true]
  intro x hx
  obtain ⟨i, hi, rfl⟩ := List.getElem_of_mem (List.mem_of_mem_take hx)
  have := hw i
  rw [getD_at _ _ hi] at this
  exact decide_eq_true this

/-- Eight zeros. -/
def z8 : List Int := [0, 0, 0, 0, 0, 0, 0, 0]
theorem z8_at (i : Nat) : z8.getD i 0 = 0 := by
  match i with
  | 0 | 1 | 2 | 3 | 4 | 5 | 6 | 7 => rfl
  | n + 8 => rfl
theorem Wd_z8 : Wd z8 := fun i => by rw [z8_at]; decide
theorem num_z8 : ∀ k, numW z8 k = 0
  | 0 => rfl
  | k + 1 => by rw [numW, num_z8 k, z8_at]; simp

theorem ca_z8 {xs : List Int} (hx : Wd xs) : ∀ k, caW xs z8 k = 0
  | 0 => rfl
  | k + 1 => by
    rw [caW, ca_z8 hx k, z8_at]
    have := hx k
    omega

theorem sum_z8 {xs : List Int} (hl : xs.length = 8) (hx : Wd xs) : sumL xs z8 = xs := by
  refine List.ext_getElem (by rw [sumL_length, hl]) fun i h1 h2 => ?_
  have e := sumL_at xs z8 i (by omega)
  rw [getD_at _ _ h1] at e
  rw [e]
  unfold suW
  rw [ca_z8 hx i, z8_at, getD_at _ _ h2]
  have := hx i
  rw [getD_at _ _ h2] at this
  omega

/-- A sum is more than one of its parts just as the other part is more than nothing. -/
theorem sum_more {xs ys : List Int} (hx : Wd xs) (hy : Wd ys) (hc : caW xs ys 8 = 0) : cmpW (sumL xs ys) xs 8 = cmpW ys z8 8 ∧ 0 ≤ cmpW ys z8 8 := by
  have e := sum_num (xs := xs) (ys := ys) 8 (Nat.le_refl _)
  have ry := numW_range hy 8
  rw [hc, Int.zero_mul, Int.add_zero] at e
  rw [cmpW_num (Wd_sum xs ys) hx, cmpW_num hy Wd_z8, num_z8, ← e]
  generalize numW xs 8 = p
  generalize numW ys 8 = q at ry
  unfold cmpI
  refine ⟨?_, ?_⟩
  · have e1 : (p + q < p) ↔ (q < 0) := by omega
    have e2 : (p < p + q) ↔ (0 < q) := by omega
    simp only [e1, e2]
  · split
    · omega
    · split <;> decide

end Go.Proofs.YtioifgbnninmjaaGreatDoor

/- What is proved here: CompareWide of the program and of the model, for every two slices of numbers. -/
namespace Go.Proofs.YtioifgbnninmjaaGreatDoor
open Go.RowKit
set_option linter.unusedVariables false
set_option maxRecDepth 100000

/-- What CompareWide answers beside the code. -/
def cwVal (xs ys : List Int) : Int := if wf2 xs ys = 0 then cmpW xs ys 8 else 0

theorem wf2_zero (xs ys : List Int) (h : wf2 xs ys = 0) : wfCode xs = 0 ∧ wfCode ys = 0 := by
  unfold wf2 at h
  split at h
  · exact ⟨by assumption, h⟩
  · contradiction

theorem cell2_facts {w : World} {b : Nat} {x y : Value} {t : TypeId} (h : w.heap[b]? = some (.cells #[x, y] t (0, 0))) : w.cell? ⟨b, 0, none⟩ = some x ∧ w.cell? ⟨b, 1, none⟩ = some y ∧ w.frozen? ⟨b, 0, none⟩ = false ∧ w.frozen? ⟨b, 1, none⟩ = false := res_facts h

end Go.Proofs.YtioifgbnninmjaaGreatDoor

/- What is proved here: plain facts on the order of wide numbers: two are the same where their comparison is 0; no program is named. -/
namespace Go.Proofs.YtioifgbnninmjaaGreatDoor
open Go.RowKit
set_option linter.unusedVariables false
set_option maxRecDepth 100000

theorem cmpI_neg (x y : Int) : cmpI y x = - cmpI x y := by
  rcases Int.lt_trichotomy x y with h | h | h
  · rw [cmpI_more h, cmpI_less h]; rfl
  · subst h; rw [cmpI_same (Int.lt_irrefl _) (Int.lt_irrefl _)]; rfl
  · rw [cmpI_less h, cmpI_more h]

theorem cmpI_range (x y : Int) : -1 ≤ cmpI x y ∧ cmpI x y ≤ 1 := by
  unfold cmpI
  split
  · omega
  · split <;> omega

theorem cmpW_zero (xs ys : List Int) : ∀ k, cmpW xs ys k = 0 ↔ ∀ i, i < k → xs.getD i 0 = ys.getD i 0
  | 0 => by simp [cmpW]
  | k + 1 => by
    have ih := cmpW_zero xs ys k
    rcases Int.lt_trichotomy (xs.getD k 0) (ys.getD k 0) with h | h | h
    · rw [cmpW_other xs ys k (by rw [cmpI_less h]; decide), cmpI_less h]
      exact ⟨fun a => absurd a (by decide), fun a => absurd (a k (Nat.lt_succ_self _)) (by omega)⟩
    · rw [cmpW_same xs ys k (by rw [h]; exact cmpI_same (Int.lt_irrefl _) (Int.lt_irrefl _)), ih]
      exact ⟨fun a i hi => if e : i = k then by rw [e]; exact h else a i (by omega), fun a i hi => a i (by omega)⟩
    · rw [cmpW_other xs ys k (by rw [cmpI_more h]; decide), cmpI_more h]
      exact ⟨fun a => absurd a (by decide), fun a => absurd (a k (Nat.lt_succ_self _)) (by omega)⟩

theorem same_cmp {xs ys : List Int} (hx : xs.length = 8) (hy : ys.length = 8) : sameB xs ys = (cmpW xs ys 8 == 0) := by
  have h := cmpW_zero xs ys 8
  by_cases e : cmpW xs ys 8 = 0
  · have : xs = ys := by
      refine List.ext_getElem (by omega) fun i h1 h2 => ?_
      have := h.1 e i (by omega)
      rwa [getD_at _ _ h1, getD_at _ _ h2] at this
    rw [e, this]
    simp [sameB]
  · have hne : xs ≠ ys := fun e2 => e (h.2 (fun i _ => by rw [e2]))
    have e1 : (cmpW xs ys 8 == 0) = false := by rw [beq_eq_false_iff_ne]; exact e
    rw [e1]
    unfold sameB
    rw [beq_eq_false_iff_ne]
    exact hne

end Go.Proofs.YtioifgbnninmjaaGreatDoor

/- What is proved here: plain facts on entries and stores: their kinds, where a hash stands, and their faults; no program is named but the types of its cells. -/
namespace Go.Proofs.YtioifgbnninmjaaGreatDoor
open Go.RowKit
set_option linter.unusedVariables false
set_option linter.unusedSimpArgs false
set_option maxRecDepth 100000

/-- A kind told by other names. -/
def Kd.via {α β α' β' : Type} (K : Kd α β) (f : α' → α) (g : β' → β) : Kd α' β' where
  m := K.m
  vals e x := K.vals (g e) (f x)
  len e x := K.len _ _
  Own w B d p e x := K.Own w B d p (g e) (f x)
  Ok w e x := K.Ok w (g e) (f x)
  frame h hk := K.frame h hk
  recol h hk := K.recol h hk
  base h hB := K.base h hB
  ok h := K.ok h
  below h hb hB := K.below h hb hB

/-- Numbers that read. -/
structure IOk (w : World) (s : Sl) (z : List Int) : Prop where
  row : IRow w s.a s.n z
  room : s.n ≤ s.c
  max : s.c ≤ maxLen
  nil : s.a = none → s.c = 0

structure IOwn (w : World) (B : Nat) (d : Nat → Path) (p : Path) (s : Sl) (z : List Int) : Prop where
  own : w.ownsRow B 2 1 (.slice s.a s.n s.c) s.n (z.map (Value.int .i64))
  col : ∀ x, s.a = some x → d x.block = p

theorem IOwn.blk {w : World} {B : Nat} {d : Nat → Path} {p : Path} {s : Sl} {z : List Int} (h : IOwn w B d p s z) {x : Addr} (hx : s.a = some x) : B ≤ x.block ∧ x.block < w.heap.size := (OwnS.of h.own).blk hx

def intsK : Kd (List Int) Sl where
  m := 1
  vals s _ := [.slice s.a s.n s.c]
  len _ _ := rfl
  Own := IOwn
  Ok := IOk
  frame h hk := ⟨own_frame h.own (fun x hx => hk _ (h.blk hx).2 (h.blk hx).1 (by rw [h.col x hx]; exact List.prefix_rfl)), h.col⟩
  recol h hk := ⟨h.own, fun x hx => by rw [hk _ (h.blk hx).2 (h.blk hx).1 (by rw [h.col x hx]; exact List.prefix_rfl)]; exact h.col x hx⟩
  base h hB := ⟨ownsRow_base h.own hB, h.col⟩
  ok h := ⟨IRow.own2 h.own, (OwnS.of h.own).room, (OwnS.of h.own).max, (OwnS.of h.own).nil⟩
  below h hb hB := ⟨h.row.below hb hB, h.room, h.max, h.nil⟩

abbrev bssK : Kd (List (List Int)) Sl := rowK bytesK 36

/-- The kind of a header. -/
def hdK : Kd Hd HS := (pairK bytesK (pairK intK (pairK intK (pairK intK (pairK bytesK (pairK intK (pairK bssK (pairK bytesK (pairK bytesK (pairK bytesK bssK)))))))))).via
  (fun h => (h.p, h.n1, h.n2, h.n3, h.t, h.n5, h.s, h.r, h.g, h.e, h.k)) (fun x => (x.p, (), (), (), x.t, (), x.s, x.r, x.g, x.e, x.k))

theorem hdK_vals (e : HS) (x : Hd) : hdK.vals e x = (hvals e x).toList := rfl

theorem hd_ok {w : World} {e : HS} {x : Hd} (h : hdK.Ok w e x) : HOk w e x := by
  obtain ⟨p, _, _, _, t, _, s, r, g, k, c⟩ := h
  exact ⟨BOk.row p, BOk.row t, bs_of_row s, BOk.row r, BOk.row g, BOk.row k, bs_of_row c⟩

theorem hd_nil {w : World} {e : HS} {x : Hd} (h : hdK.Ok w e x) : HNil w e := by
  obtain ⟨p, _, _, _, t, _, s, r, g, k, c⟩ := h
  exact ⟨BOk.nil p, BOk.nil t, bsnil_of_row s, BOk.nil r, BOk.nil g, BOk.nil k, bsnil_of_row c⟩

theorem hd_max {w : World} {e : HS} {x : Hd} (h : hdK.Ok w e x) : HMax e maxLen := by
  obtain ⟨p, _, _, _, t, _, s, r, g, k, c⟩ := h
  have b : ∀ {s : Sl} {z : List Int}, BOk w s z → s.n ≤ maxLen := fun o => Nat.le_trans o.room o.max
  have l : ∀ {s : Sl} {z : List (List Int)}, RowOk bytesK w s z → s.n ≤ maxLen := fun o => Nat.le_trans o.room o.max
  exact ⟨b p, b t, l s, b r, b g, b k, l c⟩

theorem hd_in {w : World} {e : HS} {x : Hd} (h : hdK.Ok w e x) : HIn x := by
  obtain ⟨p, n1, n2, n3, t, n5, s, r, g, k, c⟩ := h
  exact ⟨n1, n2, n3, n5⟩

/-- An entry: a header, its hash, the place of its parent, its total. -/
abbrev En := Hd × List Int × Int × List Int
abbrev EnS := HS × Sl × Unit × Sl
def enK : Kd En EnS := pairK hdK (pairK bytesK (pairK intK intsK))

/-- A store: a setting, entries. -/
abbrev St := Cf × List En
abbrev ensK : Kd (List En) Sl := rowK enK 76

/-- The four cells of a store. -/
def tvals (t : Sl) (x : St) : Array Value := #[.int .i64 x.1.1, .int .i64 x.1.2.1, .int .i64 x.1.2.2, .slice t.a t.n t.c]

/-- The fourteen cells of an entry. -/
def evals (e : EnS) (x : En) : Array Value := #[.slice e.1.p.a e.1.p.n e.1.p.c, .int .i64 x.1.n1, .int .i64 x.1.n2, .int .i64 x.1.n3, .slice e.1.t.a e.1.t.n e.1.t.c, .int .i64 x.1.n5, .slice e.1.s.a e.1.s.n e.1.s.c, .slice e.1.r.a e.1.r.n e.1.r.c, .slice e.1.g.a e.1.g.n e.1.g.c, .slice e.1.e.a e.1.e.n e.1.e.c, .slice e.1.k.a e.1.k.n e.1.k.c, .slice e.2.1.a e.2.1.n e.2.1.c, .int .i64 x.2.2.1, .slice e.2.2.2.a e.2.2.2.n e.2.2.2.c]

theorem enK_vals (e : EnS) (x : En) : enK.vals e x = (evals e x).toList := rfl

/-- A small entry. -/
structure EnSm (x : En) : Prop where
  h : HSm x.1
  z : x.2.1.length ≤ 1048576
  t : x.2.2.2.length ≤ 1048576

structure StSm (x : St) : Prop where
  n : x.2.length ≤ 1048576
  e : ∀ y ∈ x.2, EnSm y

/-- Where a hash stands: -1: it is not there. -/
def fnd : List En → List Int → Int
  | [], _ => -1
  | x :: r, z => if x.2.1 = z then 0 else if fnd r z = -1 then -1 else fnd r z + 1

theorem fnd_range : ∀ (xs : List En) (z : List Int), -1 ≤ fnd xs z ∧ fnd xs z < xs.length
  | [], z => by simp [fnd]
  | x :: r, z => by
    have := fnd_range r z
    unfold fnd
    simp only [List.length_cons]
    split
    · omega
    · split <;> omega

theorem fnd_none : ∀ (xs : List En) (z : List Int), (∀ (j : Nat) x, xs[j]? = some x → x.2.1 ≠ z) → fnd xs z = -1
  | [], z, _ => rfl
  | x :: r, z, h => by
    unfold fnd
    rw [if_neg (h 0 x rfl), if_pos (fnd_none r z (fun j y hy => h (j + 1) y hy))]

theorem fnd_some : ∀ (xs : List En) (z : List Int) (i : Nat) (x : En), xs[i]? = some x → x.2.1 = z → (∀ (j : Nat) y, j < i → xs[j]? = some y → y.2.1 ≠ z) → fnd xs z = i
  | [], z, i, x, h, _, _ => by simp at h
  | y :: r, z, 0, x, h, e, _ => by
    simp at h
    subst h
    unfold fnd
    rw [if_pos e]
    rfl
  | y :: r, z, i + 1, x, h, e, k => by
    have ih := fnd_some r z i x h e (fun j u hj hu => k (j + 1) u (by omega) hu)
    unfold fnd
    rw [if_neg (k 0 y (by omega) rfl), ih, if_neg (by omega)]
    omega

theorem fnd_none_iff {xs : List En} {z : List Int} (h : fnd xs z = -1) : ∀ (j : Nat) x, xs[j]? = some x → x.2.1 ≠ z := by
  induction xs with
  | nil => intro j x hx; simp at hx
  | cons y r ih =>
    intro j x hx
    unfold fnd at h
    split at h
    · omega
    · rename_i hn
      split at h
      · rename_i hr
        cases j with
        | zero => simp at hx; subst hx; exact hn
        | succ j => exact ih hr j x hx
      · have := fnd_range r z; omega

/-- Whether none of those ahead has the hash, told by all of them. -/
theorem fnd_ahead {xs : List En} {i : Nat} {x : En} (h : xs[i]? = some x) : (fnd xs x.2.1 = (i : Int)) ↔ fnd (xs.take i) x.2.1 = -1 := by
  constructor
  · intro e
    refine fnd_none _ _ (fun j y hy hz => ?_)
    rw [List.getElem?_take] at hy
    split at hy
    · rename_i hj
      have hex : ∃ k, ∃ u, xs[k]? = some u ∧ u.2.1 = x.2.1 ∧ k < i := ⟨j, y, hy, hz, hj⟩
      have hmin : ∃ k, (∃ u, xs[k]? = some u ∧ u.2.1 = x.2.1 ∧ k < i) ∧ ∀ k' u', k' < k → xs[k']? = some u' → u'.2.1 ≠ x.2.1 := by
        induction j using Nat.strongRecOn generalizing y with
        | ind j ih =>
          by_cases hq : ∃ k' u', k' < j ∧ xs[k']? = some u' ∧ u'.2.1 = x.2.1
          · obtain ⟨k', u', q1, q2, q3⟩ := hq
            exact ih k' q1 u' q3 (by omega) q2
          · exact ⟨j, ⟨y, hy, hz, hj⟩, fun k' u' q1 q2 q3 => hq ⟨k', u', q1, q2, q3⟩⟩
      obtain ⟨k, ⟨u, u1, u2, u3⟩, hk⟩ := hmin
      have := fnd_some xs x.2.1 k u u1 u2 hk
      omega
    · cases hy
  · intro e
    refine fnd_some xs _ i x h rfl (fun j y hj hy => ?_)
    exact fnd_none_iff e j y (by rw [List.getElem?_take, if_pos hj]; exact hy)

/-- Whether an entry has a right place of its parent. -/
def upOk (i : Nat) (up : Int) : Bool := if i = 0 then decide (up = -1) else within up 0 ((i : Int) - 1)

/-- The entry at a place. -/
def enAt (xs : List En) (up : Int) : Option En := if up = -1 then none else xs[up.toNat]?

/-- Whether a header is behind that parent. -/
def bhOk (q : Option En) (h : Hd) : Bool := match q with
  | none => true
  | some y => decide (h.p = y.2.1) && decide (h.n1 = y.1.n1 + 1)

/-- Code and limbs of the total up to a header. -/
def ttCode (q : Option En) (h : Hd) : Int := match q with
  | none => 0
  | some y => awCode y.2.2.2 (wofList h.n3)
def ttList (q : Option En) (h : Hd) : List Int := match q with
  | none => wofList h.n3
  | some y => awList y.2.2.2 (wofList h.n3)

def ttOk (q : Option En) (x : En) : Bool := decide (ttCode q x.1 = 0) && decide (x.2.2.2 = ttList q x.1)

/-- The fault of an entry behind those ahead of it, which have none. -/
def enFlt (ahead : List En) (x : En) : Int :=
  if hdFlt x.1 = 0 then
    if x.2.1 = hsBytes x.1 then
      if fnd ahead x.2.1 = -1 then
        if upOk ahead.length x.2.2.1 = true then
          if bhOk (enAt ahead x.2.2.1) x.1 = true then
            if ttOk (enAt ahead x.2.2.1) x = true then 0 else 9
          else 1
        else 3
      else 6
    else 7
  else hdFlt x.1

/-- The first fault of the entries from a place on. -/
def enFrom (xs : List En) : Nat → Nat → Int
  | 0, _ => 0
  | n + 1, i => match xs[i]? with
    | none => 0
    | some x => if enFlt (xs.take i) x = 0 then enFrom xs n (i + 1) else enFlt (xs.take i) x

/-- The fault of a store. -/
def stFlt (t : St) : Int :=
  if cfFlt t.1 = 0 then
    if 1 ≤ t.2.length ∧ t.2.length ≤ 24 then
      if enFrom t.2 t.2.length 0 = 0 then
        (match t.2 with | [] => 0 | y :: _ => if y.1.s.length = 0 then 4 else 0)
      else enFrom t.2 t.2.length 0
    else 2
  else cfFlt t.1

theorem enFrom_step (xs : List En) (i : Nat) (x : En) (h : xs[i]? = some x) : enFrom xs (xs.length - i) i = if enFlt (xs.take i) x = 0 then enFrom xs (xs.length - (i + 1)) (i + 1) else enFlt (xs.take i) x := by
  have hi := (List.getElem?_eq_some_iff.1 h).1
  rw [show xs.length - i = (xs.length - (i + 1)) + 1 by omega, enFrom, h]

theorem enFrom_end (xs : List En) (i : Nat) (h : xs.length ≤ i) : enFrom xs (xs.length - i) i = 0 := by
  rw [show xs.length - i = 0 by omega]; rfl

/-- An entry without a fault. -/
theorem enFlt_zero {ahead : List En} {x : En} (h : enFlt ahead x = 0) : hdFlt x.1 = 0 ∧ x.2.1 = hsBytes x.1 ∧ fnd ahead x.2.1 = -1 ∧ upOk ahead.length x.2.2.1 = true ∧ bhOk (enAt ahead x.2.2.1) x.1 = true ∧ ttOk (enAt ahead x.2.2.1) x = true := by
  unfold enFlt at h
  split at h
  · rename_i h1
    split at h
    · rename_i h2
      split at h
      · rename_i h3
        split at h
        · rename_i h4
          split at h
          · rename_i h5
            split at h
            · rename_i h6
              exact ⟨h1, h2, h3, h4, h5, h6⟩
            · omega
          · omega
        · omega
      · omega
    · omega
  · omega

theorem wof_Wd (n : Int) (h0 : 0 ≤ n) (h1 : n < 9223372036854775808) : Wd (wofList n) := by
  intro i
  unfold wofList
  match i with
  | 0 => simp; omega
  | 1 => simp; omega
  | 2 | 3 | 4 | 5 | 6 | 7 => simp
  | i + 8 => simp

theorem wof_wf (n : Int) (h0 : 0 ≤ n) (h1 : n < 9223372036854775808) : wfCode (wofList n) = 0 := wf_of _ rfl (wof_Wd n h0 h1)

theorem hd_num {h : Hd} (hf : hdFlt h = 0) : (0 ≤ h.n1 ∧ h.n1 ≤ 1099511627776) ∧ (0 ≤ h.n3 ∧ h.n3 ≤ 9) := by
  unfold hdFlt at hf
  split at hf
  · omega
  · split at hf
    · omega
    · rename_i hn
      simp only [Bool.not_eq_false, hdNum, within, Bool.and_eq_true, decide_eq_true_eq] at hn
      exact ⟨hn.1.1.1, hn.1.2⟩

/-- The total of an entry without a fault is a wide number. -/
theorem tt_wf {q : Option En} {x : En} (hf : hdFlt x.1 = 0) (h : ttOk q x = true) : wfCode x.2.2.2 = 0 := by
  have hn := (hd_num hf).2
  unfold ttOk at h
  simp only [Bool.and_eq_true, decide_eq_true_eq] at h
  rw [h.2]
  cases q with
  | none => exact wof_wf _ hn.1 (by omega)
  | some y =>
    have h1 : awCode y.2.2.2 (wofList x.1.n3) = 0 := h.1
    show wfCode (awList y.2.2.2 (wofList x.1.n3)) = 0
    unfold awCode at h1
    split at h1
    · rename_i h2
      split at h1
      · rename_i h3
        rw [(aw_ok _ _ h2 h3).2]
        exact wf_of _ (sumL_length _ _) (Wd_sum _ _)
      · omega
    · omega

/-- What holds of those ahead, none of which has a fault. -/
def AllOk (ahead : List En) : Prop := ∀ y ∈ ahead, hdFlt y.1 = 0 ∧ wfCode y.2.2.2 = 0

theorem AllOk.step {xs : List En} {i : Nat} {x : En} (h : AllOk (xs.take i)) (hx : xs[i]? = some x) (h0 : enFlt (xs.take i) x = 0) : AllOk (xs.take (i + 1)) := by
  obtain ⟨h1, _, _, _, _, h6⟩ := enFlt_zero h0
  obtain ⟨hi, e⟩ := List.getElem?_eq_some_iff.1 hx
  intro y hy
  rw [List.take_succ_eq_append_getElem hi, e] at hy
  rcases List.mem_append.1 hy with hy | hy
  · exact h y hy
  · obtain rfl := List.mem_singleton.1 hy
    exact ⟨h1, tt_wf h1 h6⟩

end Go.Proofs.YtioifgbnninmjaaGreatDoor
