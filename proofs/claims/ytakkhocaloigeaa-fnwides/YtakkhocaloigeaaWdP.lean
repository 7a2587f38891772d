/- What is proved here: the sum of two wide numbers, limb by limb, by the program and by the model. -/
import Derived.Test.YtakkhocaloigeaaWdD
import Derived.Test.YtakkhocaloigeaaWdE
import Derived.Test.YtakkhocaloigeaaWdC
import Derived.BigQuiet
import Derived.Deep.QuietTactic
namespace Go.Proofs.Ytakkhocaloigeaa
open Go.RowKit
set_option linter.unusedVariables false

/-- The carry into a place, and the limb there. -/
def caW (xs ys : List Int) : Nat → Int
  | 0 => 0
  | k + 1 => (xs.getD k 0 + ys.getD k 0 + caW xs ys k) / 4294967296
def suW (xs ys : List Int) (k : Nat) : Int := (xs.getD k 0 + ys.getD k 0 + caW xs ys k) % 4294967296
def sumL (xs ys : List Int) : List Int := (List.range 8).map (suW xs ys)

theorem sumL_length (xs ys : List Int) : (sumL xs ys).length = 8 := by simp [sumL]
theorem sumL_at (xs ys : List Int) (k : Nat) (hk : k < 8) : (sumL xs ys).getD k 0 = suW xs ys k := by
  rw [getD_at _ _ (by rw [sumL_length]; exact hk)]
  simp [sumL]
theorem caW_range (xs ys : List Int) (hx : ∀ i, 0 ≤ xs.getD i 0 ∧ xs.getD i 0 ≤ 4294967295) (hy : ∀ i, 0 ≤ ys.getD i 0 ∧ ys.getD i 0 ≤ 4294967295) : ∀ k, 0 ≤ caW xs ys k ∧ caW xs ys k ≤ 1
  | 0 => by simp [caW]
  | k + 1 => by
    have := caW_range xs ys hx hy k
    have h1 := hx k
    have h2 := hy k
    simp only [caW]
    omega

/-- One number more of a list that is being filled. -/
theorem fill8 (zs : List Int) (len k : Nat) (hl : zs.length = len) (hk : k < len) :
    (zs.take k ++ List.replicate (len - k) 0).set k (zs.getD k 0) = zs.take (k + 1) ++ List.replicate (len - (k + 1)) 0 := by
  have e : len - k = (len - (k + 1)) + 1 := by omega
  have hk' : (zs.take k).length = k := by simp; omega
  rw [e, List.replicate_succ, List.set_append, if_neg (by omega), hk', Nat.sub_self, List.set_cons_zero]
  rw [List.take_succ_eq_append_getElem (by omega), List.getD_eq_getElem?_getD, List.getElem?_eq_getElem (by omega : k < zs.length), List.append_assoc]
  rfl

/-- The results of a function that answers a row in a cell, and a value. -/
theorem results_row_tmp {P : Program} {fn : Func} {p u : Tmp} {ty : TypeId} (h : fn.results = #[.cell p ty, .tmp u]) (tmps : Array Value) (w : World) (g : Nat) (t : TypeId) (cs : Array Value) (fr : Nat × Nat) (d : TypeDesc) (x : Value)
    (hp : tmps.getD p undef = .pointer (some ⟨g, 0, none⟩)) (hx : tmps.getD u undef = x) (hg : w.heap[g]? = some (.cells cs t fr))
    (hu : P.underlying ty = some d) (hd : (match d with | .struct _ | .array _ _ => true | _ => false) = true) (hi : (P.info? ty).map (·.size) = some cs.size) :
    (results fn tmps).run P w = .ok (.tuple #[.agg cs, x]) w := by
  have hp' : tmps[p]?.getD undef = .pointer (some ⟨g, 0, none⟩) := by simpa using hp
  have hx' : tmps[u]?.getD undef = x := by simpa using hx
  simp [results, h, hp', hx', asAddr, run_loadVar_row w g t ty cs fr d hg hu hd hi]

set_option maxHeartbeats 4000000 in
theorem plus_any (xs ys : List Int) (hx : xs.length = 8) (hy : ys.length = 8) (hxr : ∀ i, 0 ≤ xs.getD i 0 ∧ xs.getD i 0 ≤ 4294967295) (hyr : ∀ i, 0 ≤ ys.getD i 0 ∧ ys.getD i 0 ≤ 4294967295) (w : World) :
    Calls Try.prog 35 #[.agg (nvals xs).toArray, .agg (nvals ys).toArray] w fun e w' => e = .returned (.tuple #[.agg (nvals (sumL xs ys)).toArray, .int .i64 (caW xs ys 8)]) ∧ Below w.heap.size w w' := by
  obtain ⟨w1, hw1⟩ : ∃ w1, w1 = ((w.alloc (.cells (nvals xs).toArray 52)).alloc (.cells (nvals ys).toArray 52)).alloc (.cells #[.int .i64 0, .int .i64 0, .int .i64 0, .int .i64 0, .int .i64 0, .int .i64 0, .int .i64 0, .int .i64 0] 52) := ⟨_, rfl⟩
  have e1 := hw1.symm
  have G1 : Below w.heap.size w w1 := by rw [hw1]; exact ((below_alloc w _).alloc (by simp) _).alloc (by simp; omega) _
  have X1 : NBlk w1 w.heap.size xs 52 := by
    rw [hw1]
    exact ((NBlk.new w xs _).next _).next _
  have Y1 : NBlk w1 (w.heap.size + 1) ys 52 := by
    have := (NBlk.new (w.alloc (.cells (nvals xs).toArray 52)) ys 52).next (.cells #[.int .i64 0, .int .i64 0, .int .i64 0, .int .i64 0, .int .i64 0, .int .i64 0, .int .i64 0, .int .i64 0] 52)
    rw [show (w.alloc (.cells (nvals xs).toArray 52)).heap.size = w.heap.size + 1 by simp] at this
    rw [hw1]
    exact this
  have Z1 : NBlk w1 (w.heap.size + 2) ((sumL xs ys).take 0 ++ List.replicate (8 - 0) 0) 52 := by
    have := NBlk.new ((w.alloc (.cells (nvals xs).toArray 52)).alloc (.cells (nvals ys).toArray 52)) (List.replicate 8 0) 52
    rw [show ((w.alloc (.cells (nvals xs).toArray 52)).alloc (.cells (nvals ys).toArray 52)).heap.size = w.heap.size + 2 by simp] at this
    rw [hw1]
    exact this
  have HX := hide X1
  have HY := hide Y1
  have HZ := hide Z1
  have HG := hide G1
  have CR := hide (caW_range xs ys hxr hyr)
  have HSL := hide (sumL_length xs ys)
  have HSA := hide (sumL_at xs ys)
  have HCA := hide (fun k => show caW xs ys (k + 1) = (xs.getD k 0 + ys.getD k 0 + caW xs ys k) / 4294967296 from rfl)
  have HSU := hide (fun k => show suW xs ys k = (xs.getD k 0 + ys.getD k 0 + caW xs ys k) % 4294967296 from rfl)
  have HXR := hide hxr
  have HYR := hide hyr
  have HC0 := hide (show caW xs ys 0 = 0 from rfl)
  clear X1 Y1 Z1 G1 hw1 hxr hyr
  generalize nvals xs = V at e1 ⊢
  generalize nvals ys = U at e1 ⊢
  generalize sumL xs ys = SL at HZ HSL HSA ⊢
  generalize hSU : suW xs ys = SU at HSA HSU
  generalize hCA : caW xs ys = CA at HCA HSU CR HC0 ⊢
  clear hSU hCA
  go_enter Try.func35, Try.ntmps35
  go_wp2_with (rw [e1])
  go_loopw [5, 8] (fun c i wr => ∃ k : Nat, k ≤ 8 ∧ i = .int .i64 k ∧ c = .int .i64 (CA k) ∧ NBlk wr w.heap.size xs 52 ∧ NBlk wr (w.heap.size + 1) ys 52 ∧ NBlk wr (w.heap.size + 2) (SL.take k ++ List.replicate (8 - k) 0) 52 ∧ Below w.heap.size w wr) (fun _ i _ => 8 - (intOf i).toNat)
  case atStart => exact ⟨0, Nat.zero_le _, rfl, by rw [unhide HC0], unhide HX, unhide HY, unhide HZ, unhide HG⟩
  case round =>
    obtain ⟨k, hk, rfl, rfl, hX, hY, hZ, hG⟩ := hrel
    clear HX HY HZ HG
    by_cases hlt : k < 8
    · have hdk : decide ((k : Int) < 8) = true := decide_eq_true (by omega)
      have j0 : (0 : Int) ≤ (k : Int) := by omega
      have j1 : (k : Int) < 8 := by omega
      have c1 := hX.cell k (by omega)
      have c2 := hY.cell k (by omega)
      have rx := (unhide HXR) k
      have ry := (unhide HYR) k
      have rc := (unhide CR) k
      have hst := fill8 SL 8 k (unhide HSL) hlt
      rw [(unhide HSA) k hlt, (unhide HSU) k] at hst
      have hca := (unhide HCA) k
      generalize xs.getD k 0 = x at c1 rx hst hca
      generalize ys.getD k 0 = y at c2 ry hst hca
      obtain ⟨c', hc'⟩ : ∃ c', c' = CA (k + 1) := ⟨_, rfl⟩
      rw [← hc'] at hca
      have HC' := hide hc'
      generalize CA k = c at rc hst hca
      obtain ⟨s, hs⟩ : ∃ s, s = x + y + c := ⟨_, rfl⟩
      rw [← hs] at hst hca
      have s0 : 0 ≤ s := by omega
      have s1 : s < 9223372036854775808 := by omega
      have hand := and_word s s0 s1
      obtain ⟨z, hz⟩ : ∃ z, z = s % 4294967296 := ⟨_, rfl⟩
      rw [← hz] at hst hand
      have t0 : x + y + c = s := hs.symm
      obtain ⟨xy, hxy⟩ : ∃ xy, xy = x + y := ⟨_, rfl⟩
      have t1 : x + y = xy := hxy.symm
      have t2 : xy + c = s := by omega
      have y1 : IntKind.i64.wrap xy = xy := wraps_i64 _ (by omega) (by omega)
      have y2 : IntKind.i64.wrap s = s := wraps_i64 _ (by omega) (by omega)
      have f1 := hZ.free k
      obtain ⟨u, hu⟩ : ∃ u, wr.cell? ⟨w.heap.size + 2, k, none⟩ = some u := ⟨_, hZ.cell k (by simp [unhide HSL]; omega)⟩
      have Z2 := hZ.set k z
      rw [hst] at Z2
      have X2 := hX.other (b' := w.heap.size + 2) k (.int .i64 z) (by omega)
      have Y2 := hY.other (b' := w.heap.size + 2) k (.int .i64 z) (by omega)
      have G2 := hG.setCell (p := ⟨w.heap.size + 2, k, none⟩) (by simp) (.int .i64 z)
      have HX := hide X2
      have HY := hide Y2
      have HZ := hide Z2
      have HG := hide G2
      have HW1 := hide hca
      have HG0 := hide hG
      clear hX hY hZ hG X2 Y2 Z2 G2 hst hs hz hxy hc' t0 rx ry rc hca
      go_wp2_with fail
      go_quiet (fail)
      go_wp2_with fail
      refine ⟨⟨k + 1, by omega, by go_num, ?_, unhide HX, unhide HY, unhide HZ, (below_drewN (unhide HG0) _).setCell (by simp; omega) _⟩, by simp [intOf]; omega⟩
      rw [← unhide HC', unhide HW1]
    · obtain rfl : k = 8 := by omega
      have hdk : decide (((8 : Nat) : Int) < 8) = false := rfl
      have e8 : SL.take 8 ++ List.replicate (8 - 8) 0 = SL := by rw [List.take_of_length_le (by rw [unhide HSL]; omega)]; simp
      rw [e8] at hZ
      have HLD := hide (load8 hZ (unhide HSL))
      obtain ⟨w3, hst, S3, K3, O3⟩ := store8 hZ (unhide HSL) (unhide HSL)
      have HST := hide hst
      have HS3 := hide (show w3.heap[w.heap.size + 2]? = some (.cells (nvals SL).toArray 52 (0, 0)) from S3)
      have HL3 := hide (load8 S3 (unhide HSL))
      have HG := hide (hG.trans ((K3 w.heap.size (by omega))))
      clear hst S3 K3 O3 hZ hG hX hY e8
      have vlen : (nvals SL).length = 8 := by rw [nvals_length, unhide HSL]
      go_wp2_with (first | refine wpList_load_by rfl 52 _ rfl _ _ rfl (unhide HLD) ?_ | refine wpList_store_by rfl 52 _ _ rfl _ _ rfl rfl _ (unhide HST) ?_)
      exact bodyPost_ret (results_row_tmp rfl _ _ (w.heap.size + 2) 52 _ (0, 0) _ _ rfl rfl (unhide HS3) Try.underlying52 rfl (by rw [List.size_toArray, vlen]; kernel_rfl)) rfl ⟨rfl, unhide HG⟩

end Go.Proofs.Ytakkhocaloigeaa
