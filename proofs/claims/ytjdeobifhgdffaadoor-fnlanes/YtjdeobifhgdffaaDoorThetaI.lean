/- What is proved here: the program's step with the columns' sums, told by lanes. -/
import Derived.Test.YtjdeobifhgdffaaDoorChecked
import Derived.Test.YtjdeobifhgdffaaDoorBase
import Derived.Test.YtjdeobifhgdffaaDoorKMath
import Derived.Test.YtjdeobifhgdffaaDoorURow2
import Derived.Test.YtjdeobifhgdffaaDoorLaneImpl
import Derived.WalkKit
import Derived.WalkLawsBesides
import Derived.WalkSmall
import Derived.WalkSpells
import Derived.RegionTactic
import Derived.BigRegion
import Derived.Deep.RegionWith
import Derived.Deep.CutBlock
import Derived.Deep.DeepCutAuto
import Derived.KernelRfl
namespace Go.Proofs.YtjdeobifhgdffaaDoor
open Go.RowKit
set_option linter.unusedVariables false
attribute [local go_sem ↓] Go.wp_at_zero Go.wp_at_succ

/-- The state of which the first m lanes, column by column, are done. -/
def thAt (Z : List Nat) (m : Nat) : List Nat := (List.range 25).map fun i => if i % 5 * 5 + i / 5 < m then (theta Z).getD i 0 else Z.getD i 0

theorem thAt_length (Z : List Nat) (m : Nat) : (thAt Z m).length = 25 := by simp [thAt]

theorem thAt_zero (Z : List Nat) (h : Z.length = 25) : thAt Z 0 = Z := by
  unfold thAt
  simp only [Nat.not_lt_zero, if_false]
  exact map_getD Z 25 h

theorem thAt_all (Z : List Nat) : thAt Z 25 = theta Z := by
  have : thAt Z 25 = (List.range 25).map (fun i => (theta Z).getD i 0) := by
    unfold thAt
    apply List.map_congr_left
    intro i hi
    have : i < 25 := by simpa using hi
    rw [if_pos (by omega)]
  rw [this]
  exact map_getD _ 25 (by simp [theta])

theorem thAt_at (Z : List Nat) (x r : Nat) (hx : x < 5) (hr : r < 5) : (thAt Z (x * 5 + r)).getD (5 * r + x) 0 = Z.getD (5 * r + x) 0 := by
  unfold thAt
  rw [getDn_map _ _ _ (by omega), if_neg (by omega)]

theorem thAt_step (Z : List Nat) (x r : Nat) (hx : x < 5) (hr : r < 5) : (thAt Z (x * 5 + r)).set (5 * r + x) (Z.getD (5 * r + x) 0 ^^^ dOf (colAt Z 25) x) = thAt Z (x * 5 + r + 1) := by
  apply List.ext_getElem (by simp [thAt])
  intro i h1 h2
  have hi : i < 25 := by simpa [thAt] using h2
  rw [List.getElem_set]
  have e2 : ∀ h, (thAt Z (x * 5 + r + 1))[i]'h = if i % 5 * 5 + i / 5 < x * 5 + r + 1 then (theta Z).getD i 0 else Z.getD i 0 := by intro h; simp [thAt]
  have e1 : ∀ h, (thAt Z (x * 5 + r))[i]'h = if i % 5 * 5 + i / 5 < x * 5 + r then (theta Z).getD i 0 else Z.getD i 0 := by intro h; simp [thAt]
  rw [e2]
  by_cases hij : 5 * r + x = i
  · subst hij
    rw [if_pos rfl, if_pos (by omega)]
    unfold theta
    rw [getDn_map _ _ _ hi, show (5 * r + x) % 5 = x by omega]
  · rw [if_neg hij, e1]
    by_cases hc : i % 5 * 5 + i / 5 < x * 5 + r
    · rw [if_pos hc, if_pos (by omega)]
    · rw [if_neg hc, if_neg (by omega)]

theorem index25 (Z : List Nat) (hz : Z.length = 25) (k : Nat) (hk : k < 25) (w : World) : (Instr.index 50 (.agg (vals Z).toArray) (.int .i64 (k : Int))).run Tryd.prog w = .ok (.int .u64 (Z.getD k 0 : Int)) w := by
  have hn : (0 : Int) ≤ (k : Int) ∧ (k : Int) < ((25 : Nat) : Int) := by omega
  have hs : (sizeOf 48).run Tryd.prog w = .ok 1 w := by kernel_rfl
  have hu : Tryd.prog.underlying 48 = some (.int .u64) := by kernel_rfl
  have hv : (vals Z)[k]? = some (.int .u64 (Z.getD k 0 : Int)) := by
    rw [getDn_at Z k (by omega)]
    simp [vals, hz, hk]
  simp [Instr.index, run_underlying Tryd.underlying50, asIntOf, hn, go_sem, hs, hv]
  intro h
  omega

set_option maxRecDepth 100000 in
set_option maxHeartbeats 1000000 in
theorem theta_any (Z : List Nat) (hZ : Lanes Z) (w : World) :
    Calls Tryd.prog 58 #[.agg (vals Z).toArray] w fun e w' => e = .returned (.agg (vals (theta Z)).toArray) ∧ Below w.heap.size w w' := by
  have HZL := hide hZ
  have zlen := hZ.1
  clear hZ
  generalize hM : theta Z = M
  have HM := hide hM
  clear hM
  generalize hV : vals Z = V
  have HV := hide hV
  clear hV
  go_enter Tryd.func58, Tryd.ntmps58
  go_upto_region 2 with fail
  obtain ⟨w1, hw1⟩ : ∃ w1, w1 = ((w.alloc (.cells V.toArray 50)).alloc (.cells (vals (List.replicate 25 0)).toArray 50)).alloc (.cells (vals (List.replicate 5 0)).toArray 81) := ⟨_, rfl⟩
  have e1 : ((w.alloc (.cells V.toArray 50)).alloc (.cells #[.int .u64 0, .int .u64 0, .int .u64 0, .int .u64 0, .int .u64 0, .int .u64 0, .int .u64 0, .int .u64 0, .int .u64 0, .int .u64 0, .int .u64 0, .int .u64 0, .int .u64 0, .int .u64 0, .int .u64 0, .int .u64 0, .int .u64 0, .int .u64 0, .int .u64 0, .int .u64 0, .int .u64 0, .int .u64 0, .int .u64 0, .int .u64 0, .int .u64 0] 50)).alloc (.cells #[.int .u64 0, .int .u64 0, .int .u64 0, .int .u64 0, .int .u64 0] 81) = w1 := by rw [hw1]; rfl
  rw [e1]
  have G1 : Below w.heap.size w w1 := by rw [hw1]; exact ((below_alloc w _).alloc (by simp) _).alloc (by simp; omega) _
  have S1 : UBlk w1 w.heap.size Z 50 := by
    rw [hw1, ← unhide HV]
    exact ((UBlk.new w Z _).next _).next _
  have R1 : UBlk w1 (w.heap.size + 1) (List.replicate 25 0) 50 := by
    have := (UBlk.new (w.alloc (.cells V.toArray 50)) (List.replicate 25 0) 50).next (.cells (vals (List.replicate 5 0)).toArray 81)
    rw [hw1]
    simpa using this
  have C1 : UBlk w1 (w.heap.size + 1 + 1) (colAt Z 0) 81 := by
    have := UBlk.new ((w.alloc (.cells V.toArray 50)).alloc (.cells (vals (List.replicate 25 0)).toArray 50)) (List.replicate 5 0) 81
    have hs : ((w.alloc (.cells V.toArray 50)).alloc (.cells (vals (List.replicate 25 0)).toArray 50)).heap.size = w.heap.size + 1 + 1 := by simp
    rw [hs, ← hw1] at this
    exact this
  obtain ⟨q, hq⟩ : ∃ q, q = w.heap.size + 1 + 1 := ⟨_, rfl⟩
  rw [← hq] at C1
  try rw [← hq]
  have D1 : w.heap.size + 1 < q := by omega
  have HQ := hide hq
  have HLD := hide (load25 S1 zlen)
  rw [unhide HV] at HLD
  have HS := hide S1
  have HR := hide R1
  have HC := hide C1
  have HG := hide G1
  clear hq e1 hw1 S1 R1 C1 G1
  go_upto_block 0 with (refine wpList_load_eq rfl 50 _ rfl _ _ rfl (unhide HLD) ?_)
  go_cut [10] (fun c wr => UBlk wr w.heap.size Z 50 ∧ UBlk wr (w.heap.size + 1) (List.replicate 25 0) 50 ∧ UBlk wr q (colAt Z 25) 81 ∧ Below w.heap.size w wr)
  case first =>
    go_wp2_with fail
    go_loopw [10] (fun c wr => ∃ k : Nat, k ≤ 25 ∧ c = .int .i64 k ∧ UBlk wr w.heap.size Z 50 ∧ UBlk wr (w.heap.size + 1) (List.replicate 25 0) 50 ∧ UBlk wr q (colAt Z k) 81 ∧ Below w.heap.size w wr)
      (fun c _ => 25 - (intOf c).toNat)
    case atStart => exact ⟨0, by omega, rfl, unhide HS, unhide HR, unhide HC, unhide HG⟩
    case round =>
      obtain ⟨k, hk, rfl, hS, hR, hC, hG⟩ := hrel
      clear HS HR HC HG
      by_cases hlt : k < 25
      · have hdk : decide ((k : Int) < 25) = true := decide_eq_true (by omega)
        obtain ⟨j, hj⟩ : ∃ j, j = k % 5 := ⟨_, rfl⟩
        have hcl := colAt_props Z (unhide HZL).2 k
        have c0 := hC.cell j (by omega)
        have f0 := hC.free j
        have hvk : V.toArray[k]? = some (.int .u64 (Z.getD k 0 : Int)) := by
          rw [← unhide HV, getDn_at Z k (by omega)]
          simp [vals, zlen, hlt]
        have hidx : ∀ W, (Instr.index 50 (.agg V.toArray) (.int .i64 (k : Int))).run Tryd.prog W = .ok (.int .u64 (Z.getD k 0 : Int)) W := by rw [← unhide HV]; exact index25 Z zlen k hlt
        have hvk2 : V[k]? = some (.int .u64 (Z.getD k 0 : Int)) := by simpa using hvk
        have hVl : V.length = 25 := by rw [← unhide HV, vals_length, zlen]
        have hcg : (colAt Z k).getD j 0 < 18446744073709551616 := getD_lt hcl.2 (by decide) _
        have hzg : Z.getD k 0 < 18446744073709551616 := getD_lt (unhide HZL).2 (by decide) _
        have hsucc := colAt_succ Z k j hj
        generalize (colAt Z k).getD j 0 = x at c0 hcg hsucc
        generalize Z.getD k 0 = y at hvk hvk2 hidx hzg hsucc
        have hx := u64_xor_nat x y hcg hzg
        have HC5 := hide (hC.set j (x ^^^ y))
        rw [← hsucc] at HC5
        have HS5 := hide (hS.other (b' := q) j (.int .u64 ((x ^^^ y : Nat) : Int)) (by omega))
        have HR5 := hide (hR.other (b' := q) j (.int .u64 ((x ^^^ y : Nat) : Int)) (by omega))
        have HG5 := hide (hG.setCell (p := ⟨q, j, none⟩) (by show w.heap.size ≤ q; omega) (.int .u64 ((x ^^^ y : Nat) : Int)))
        have e5 : (k : Int).tmod 5 = (j : Int) := by rw [Int.tmod_eq_emod_of_nonneg (by omega)]; omega
        have e5' : (k : Int) % 5 = (j : Int) := by omega
        have i0 : (j : Int) < 5 := by omega
        have i1 : (k : Int) < 25 := by omega
        clear hS hR hC hG hsucc hj hcl
        go_wp2_with fail
        go_roundw
        case rel => exact ⟨k + 1, by omega, by go_num, unhide HS5, unhide HR5, unhide HC5, unhide HG5⟩
        case measure => simp [intOf]; omega
      · obtain rfl : k = 25 := by omega
        have hdk : decide (((25 : Nat) : Int) < 25) = false := rfl
        go_wp2_with fail
        go_meet
        exact ⟨hS, hR, hC, hG⟩
  case rest =>
    clear HS HR HC HG HLD
    obtain ⟨hS, hR, hC, hG⟩ := hcut
    have hS0 : UBlk wc w.heap.size (thAt Z (0 * 5)) 50 := by rw [Nat.zero_mul, thAt_zero Z zlen]; exact hS
    have hcp := colAt_props Z (unhide HZL).2 25
    generalize hcc : colAt Z 25 = C at hC hcp
    have HCC := hide hcc
    have HCP := hide hcp
    have clen := hcp.1
    have HS := hide hS0
    have HR := hide hR
    have HC := hide hC
    have HG := hide hG
    clear hS hR hC hG hS0 hcc hcp
    go_wp2_with fail
    go_loopw [22] (fun c wr => ∃ X : Nat, X ≤ 5 ∧ c = .int .i64 X ∧ UBlk wr w.heap.size (thAt Z (X * 5)) 50 ∧ UBlk wr (w.heap.size + 1) (List.replicate 25 0) 50 ∧ UBlk wr q C 81 ∧ Below w.heap.size w wr)
      (fun c _ => 5 - (intOf c).toNat)
    case atStart => exact ⟨0, by omega, rfl, unhide HS, unhide HR, unhide HC, unhide HG⟩
    case round =>
      obtain ⟨X, hX, rfl, hS, hR, hC, hG⟩ := hrel
      clear HS HR HC HG
      by_cases hlt : X < 5
      · have hdk : decide ((X : Int) < 5) = true := decide_eq_true (by omega)
        obtain ⟨a4, h4⟩ : ∃ a4, a4 = (X + 4) % 5 := ⟨_, rfl⟩
        obtain ⟨a1, h1⟩ : ∃ a1, a1 = (X + 1) % 5 := ⟨_, rfl⟩
        have hd : dOf C X = C.getD a4 0 ^^^ rotL (C.getD a1 0) 1 := by rw [h4, h1]; rfl
        have c4 := hC.cell a4 (by omega)
        have c1 := hC.cell a1 (by omega)
        have l4 : C.getD a4 0 < 18446744073709551616 := getD_lt (unhide HCP).2 (by decide) _
        have l1 : C.getD a1 0 < 18446744073709551616 := getD_lt (unhide HCP).2 (by decide) _
        generalize C.getD a4 0 = v4 at c4 l4 hd
        generalize C.getD a1 0 = v1 at c1 l1 hd
        have HRT := hide (rotl_any v1 1 l1 (by omega))
        have hx := u64_xor_nat v4 (rotL v1 1) l4 (rot_lt _ 1 l1 (by omega))
        rw [← hd] at hx
        have hdl := dOf_lt (unhide HCP).2 X
        have e4 : ((X : Int) + 4).tmod 5 = (a4 : Int) := by rw [Int.tmod_eq_emod_of_nonneg (by omega)]; omega
        have e1 : ((X : Int) + 1).tmod 5 = (a1 : Int) := by rw [Int.tmod_eq_emod_of_nonneg (by omega)]; omega
        have e4' : ((X : Int) + 4) % 5 = (a4 : Int) := by omega
        have e1' : ((X : Int) + 1) % 5 = (a1 : Int) := by omega
        have q4 : IntKind.i64.wrap ((X : Int) + 4) = (X : Int) + 4 := by rw [IntKind.wrap_i64]; omega
        have q1 : IntKind.i64.wrap ((X : Int) + 1) = (X : Int) + 1 := by rw [IntKind.wrap_i64]; omega
        have i4 : (a4 : Int) < 5 := by omega
        have i1 : (a1 : Int) < 5 := by omega
        have HS := hide hS
        have HR := hide hR
        have HC := hide hC
        have HG := hide hG
        have HHX := hide hx
        clear hS hR hC hG h4 h1 hd hx
        go_wp2_with fail
        go_cut [7] (fun v wx => v = .int .u64 (dOf C X : Int) ∧ wx = wr.drew)
        case first =>
          go_region_with (go_at_call 38; refine ((unhide HRT) _).mono ?_; rintro e w' ⟨rfl, rfl⟩)
          all_goals
            (try rw [unhide HHX])
            go_wp2_with fail
            go_meet
            exact ⟨rfl, rfl⟩
        case rest =>
          obtain ⟨rfl, rfl⟩ := hcut
          generalize hD : dOf C X = D at hdl
          have HD := hide hD
          clear hD c4 c1 q4 q1 e4 e1 e4' e1' i4 i1 HRT HHX
          have HS' : Hid (UBlk wr.drew w.heap.size (thAt Z (X * 5 + 0)) 50) := unhide HS
          have HR' : Hid (UBlk wr.drew (w.heap.size + 1) (List.replicate 25 0) 50) := unhide HR
          have HC' : Hid (UBlk wr.drew q C 81) := unhide HC
          have HG' := hide (unhide HG).drew
          clear HS HR HC HG
          go_wp2_with fail
          go_loopw [8] (fun c wr => ∃ r : Nat, r ≤ 5 ∧ c = .int .i64 ((5 * r : Nat) : Int) ∧ UBlk wr w.heap.size (thAt Z (X * 5 + r)) 50 ∧ UBlk wr (w.heap.size + 1) (List.replicate 25 0) 50 ∧ UBlk wr q C 81 ∧ Below w.heap.size w wr)
            (fun c _ => 25 - (intOf c).toNat)
          case atStart => exact ⟨0, by omega, rfl, unhide HS', unhide HR', unhide HC', unhide HG'⟩
          case round =>
            obtain ⟨r, hr, rfl, hS, hR, hC, hG⟩ := hrel
            clear HS' HR' HC' HG'
            obtain ⟨row, hrow⟩ : ∃ row, row = 5 * r := ⟨_, rfl⟩
            rw [← hrow]
            by_cases hr5 : r < 5
            · have hdr : decide ((row : Int) < 25) = true := decide_eq_true (by omega)
              obtain ⟨k, hk⟩ : ∃ k, k = 5 * r + X := ⟨_, rfl⟩
              have c0 := hS.cell k (by rw [thAt_length]; omega)
              have f0 := hS.free k
              have hold := thAt_at Z X r hlt hr5
              have hstep := thAt_step Z X r hlt hr5
              rw [unhide HCC, unhide HD] at hstep
              rw [← hk] at hold hstep
              rw [hold] at c0
              have hzg : Z.getD k 0 < 18446744073709551616 := getD_lt (unhide HZL).2 (by decide) _
              generalize Z.getD k 0 = y at c0 hstep hzg
              have hx := u64_xor_nat y D hzg hdl
              have HS5 := hide (hS.set k (y ^^^ D))
              rw [hstep] at HS5
              have HR5 := hide (hR.other (b' := w.heap.size) k (.int .u64 ((y ^^^ D : Nat) : Int)) (by omega))
              have HC5 := hide (hC.other (b' := w.heap.size) k (.int .u64 ((y ^^^ D : Nat) : Int)) (by omega))
              have HG5 := hide (hG.setCell (p := ⟨w.heap.size, k, none⟩) (Nat.le_refl _) (.int .u64 ((y ^^^ D : Nat) : Int)))
              have ek : (row : Int) + (X : Int) = (k : Int) := by omega
              have i0 : (k : Int) < 25 := by omega
              have hr25 : (row : Int) < 25 := by omega
              have hnx : (row : Int) + 5 = ((5 * (r + 1) : Nat) : Int) := by omega
              have HNX := hide hnx
              have HRW := hide hrow
              clear hS hR hC hG hstep hold hk hnx hrow
              go_wp2_with fail
              go_roundw
              case rel => exact ⟨r + 1, by omega, by rw [← unhide HNX], unhide HS5, unhide HR5, unhide HC5, unhide HG5⟩
              case measure => simp [intOf]; omega
            · obtain rfl : r = 5 := by omega
              obtain rfl : row = 25 := hrow
              have hdr : decide (((25 : Nat) : Int) < 25) = false := rfl
              have hS' : UBlk wr w.heap.size (thAt Z ((X + 1) * 5)) 50 := by rw [Nat.add_mul, Nat.one_mul]; exact hS
              go_wp2_with fail
              go_roundw
              case rel => exact ⟨X + 1, by omega, by go_num, hS', hR, hC, hG⟩
              case measure => simp [intOf]; omega
      · obtain rfl : X = 5 := by omega
        have hdk : decide (((5 : Nat) : Int) < 5) = false := rfl
        have hS' : UBlk wr w.heap.size M 50 := by
          have := hS
          rw [show 5 * 5 = 25 from rfl, thAt_all, unhide HM] at this
          exact this
        have mlen : M.length = 25 := by rw [← unhide HM]; exact (theta_lanes (unhide HZL)).1
        have HLD := hide (load25 hS' mlen)
        obtain ⟨w3, hst, R3, K3, _⟩ := store25 hR (by simp) mlen
        have HST := hide hst
        have HR3 := hide R3
        have HG3 := hide (hG.trans (K3 w.heap.size (by omega)))
        clear hS hR hC hG hS' hst R3 K3
        go_wp2_with (first | refine wpList_load_eq rfl 50 _ rfl _ _ rfl (unhide HLD) ?_ | refine wpList_store_eq rfl 50 _ _ rfl _ _ rfl rfl w3 (unhide HST) ?_)
        exact bodyPost_ret (results_cell_row rfl _ _ (w.heap.size + 1) 50 _ (0, 0) _ rfl (unhide HR3) Tryd.underlying50 rfl (by rw [List.size_toArray, vals_length, mlen]; kernel_rfl)) rfl ⟨rfl, unhide HG3⟩

end Go.Proofs.YtjdeobifhgdffaaDoor
