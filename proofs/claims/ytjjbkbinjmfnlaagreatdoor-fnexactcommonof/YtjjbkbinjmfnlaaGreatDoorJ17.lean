/- What is proved here: the program's last step of a round, told by lanes. -/
import Derived.Test.YtjjbkbinjmfnlaaGreatDoorChecked
import Derived.Test.YtjjbkbinjmfnlaaGreatDoorJ1
import Derived.Test.YtjjbkbinjmfnlaaGreatDoorJ2
import Derived.WalkKit
import Derived.WalkLawsBesides
import Derived.WalkSmall
import Derived.WalkSpells
import Derived.RegionTactic
import Derived.BigRegion
import Derived.Deep.CutBlock
import Derived.Deep.DeepCutAuto
import Derived.KernelRfl
import Derived.Deep.RegionWith
import Derived.Test.YtjjbkbinjmfnlaaGreatDoorJ12
import Derived.Laws.Bits64b
import Derived.Test.YtjjbkbinjmfnlaaGreatDoorJ9
import Derived.Laws.BitsLemmas
namespace Go.Proofs.YtjjbkbinjmfnlaaGreatDoor
open Go.RowKit
set_option linter.unusedVariables false
set_option maxRecDepth 100000
attribute [local go_sem ↓] Go.wp_at_zero Go.wp_at_succ

theorem ones_xor (v : Nat) (h : v < 18446744073709551616) : 18446744073709551615 ^^^ v = 18446744073709551615 - v := by
  apply Nat.eq_of_testBit_eq
  intro i
  have e1 : Nat.testBit 18446744073709551615 i = decide (i < 64) := Nat.testBit_two_pow_sub_one 64 i
  have e2 : (18446744073709551615 - v).testBit i = (decide (i < 64) && !v.testBit i) := by
    rw [show 18446744073709551615 - v = 2 ^ 64 - (v + 1) by omega]
    exact Nat.testBit_two_pow_sub_succ (by omega) i
  rw [Nat.testBit_xor, e1, e2]
  by_cases hi : i < 64
  · simp [hi]
  · have : v.testBit i = false := Nat.testBit_lt_two_pow (Nat.lt_of_lt_of_le h (Nat.pow_le_pow_right (show 0 < 2 by decide) (by omega : 64 ≤ i)))
    simp [hi, this]

theorem chi_u64 (v0 v1 v2 : Nat) (h0 : v0 < 18446744073709551616) (h1 : v1 < 18446744073709551616) (h2 : v2 < 18446744073709551616) :
    bits .xor .u64 (v0 : Int) (bits .and .u64 (bits .xor .u64 (if IntKind.u64.signed = true then -1 else IntKind.u64.max) (v1 : Int)) (v2 : Int)) = ((v0 ^^^ ((18446744073709551615 - v1) &&& v2) : Nat) : Int) := by
  have e : (if IntKind.u64.signed = true then (-1 : Int) else IntKind.u64.max) = ((18446744073709551615 : Nat) : Int) := by decide
  rw [e, u64_xor_nat _ _ (by decide) h1, ones_xor v1 h1, u64_and_nat _ _ (by omega) h2, u64_xor_nat _ _ h0 (and_lt h2)]

set_option maxRecDepth 100000 in
set_option maxHeartbeats 1000000 in
theorem cross_any (B : List Nat) (hB : Lanes B) (w : World) :
    Calls Tryz.prog 173 #[.agg (vals B).toArray] w fun e w' => e = .returned (.agg (vals (chi B)).toArray) ∧ Below w.heap.size w w' := by
  have HBL := hide hB
  have blen := hB.1
  clear hB
  generalize hV : vals B = V
  have HV := hide hV
  clear hV
  go_enter Tryz.func173, Tryz.ntmps173
  go_upto_region 1 with fail
  obtain ⟨w1, hw1⟩ : ∃ w1, w1 = (w.alloc (.cells V.toArray 165)).alloc (.cells (vals (List.replicate 25 0)).toArray 165) := ⟨_, rfl⟩
  have e1 : (w.alloc (.cells V.toArray 165)).alloc (.cells #[.int .u64 0, .int .u64 0, .int .u64 0, .int .u64 0, .int .u64 0, .int .u64 0, .int .u64 0, .int .u64 0, .int .u64 0, .int .u64 0, .int .u64 0, .int .u64 0, .int .u64 0, .int .u64 0, .int .u64 0, .int .u64 0, .int .u64 0, .int .u64 0, .int .u64 0, .int .u64 0, .int .u64 0, .int .u64 0, .int .u64 0, .int .u64 0, .int .u64 0] 165) = w1 := by rw [hw1]; rfl
  rw [e1]
  have b1 : Below w.heap.size w w1 := by rw [hw1]; exact (below_alloc w _).alloc (by simp) _
  have S1 : UBlk w1 w.heap.size B 165 := by
    rw [hw1, ← unhide HV]
    exact (UBlk.new w B _).below (below_alloc _ _) (by simp)
  have s1 : w1.heap.size = w.heap.size + 2 := by rw [hw1]; simp
  have R1 : UBlk w1 (w.heap.size + 1) (List.replicate 25 0) 165 := by
    have := UBlk.new (w.alloc (.cells V.toArray 165)) (List.replicate 25 0) 165
    rw [hw1]
    simpa using this
  have HLD := hide (load25 S1 blen)
  have N1 := UBlk.new w1 (List.replicate 25 0) 165
  obtain ⟨w2, hst, O2, K2, _⟩ := store25 N1 (by simp) blen
  have HST : Hid ((Instr.storeAt 165 (.pointer (some ⟨w1.heap.size, 0, none⟩)) (.agg (vals B).toArray)).run Tryz.prog (w1.alloc (.cells #[.int .u64 0, .int .u64 0, .int .u64 0, .int .u64 0, .int .u64 0, .int .u64 0, .int .u64 0, .int .u64 0, .int .u64 0, .int .u64 0, .int .u64 0, .int .u64 0, .int .u64 0, .int .u64 0, .int .u64 0, .int .u64 0, .int .u64 0, .int .u64 0, .int .u64 0, .int .u64 0, .int .u64 0, .int .u64 0, .int .u64 0, .int .u64 0, .int .u64 0] 165)) = .ok () w2) := hst
  have B2 : Below w1.heap.size w1 w2 := (below_alloc w1 _).trans (K2 _ (Nat.le_refl _))
  have S2 := S1.below B2 S1.lt
  have R2 := R1.below B2 R1.lt
  have G2 := b1.trans (B2.mono b1.size)
  rw [unhide HV] at HLD HST
  have HS2 := hide S2
  have HR2 := hide R2
  have HO2 := hide O2
  have HG2 := hide G2
  rw [s1] at HST HO2
  clear e1 hw1 b1 S1 R1 N1 hst O2 K2 B2 S2 R2 G2
  go_upto_block 0 with (first | refine wpList_load_eq rfl 165 (.tmp 1) rfl _ _ rfl (unhide HLD) ?_ | refine wpList_store_eq rfl 165 (.tmp 3) (.tmp 6) rfl _ _ rfl rfl w2 (unhide HST) ?_)
  clear HST HLD
  go_wp2_with fail
  go_loopw [4] (fun r wr => ∃ row : Nat, row ≤ 25 ∧ row % 5 = 0 ∧ r = .int .i64 row ∧ UBlk wr w.heap.size B 165 ∧ UBlk wr (w.heap.size + 1) (List.replicate 25 0) 165 ∧ UBlk wr (w.heap.size + 2) ((chi B).take row ++ B.drop row) 165 ∧ Below w.heap.size w wr)
    (fun r _ => 25 - (intOf r).toNat)
  case atStart => exact ⟨0, by omega, by omega, rfl, unhide HS2, unhide HR2, by simpa using unhide HO2, unhide HG2⟩
  case round =>
    obtain ⟨row, hr, hr5, rfl, hS, hR, hO, hG⟩ := hrel
    clear HS2 HR2 HO2 HG2
    have HS := hide hS
    have HR := hide hR
    have HO := hide hO
    have HG := hide hG
    clear hS hR hO hG
    by_cases hlt : row < 25
    · have hdk : decide ((row : Int) < 25) = true := decide_eq_true (by omega)
      go_wp2_with fail
      go_loopw [11] (fun c wr => ∃ X : Nat, X ≤ 5 ∧ c = .int .i64 X ∧ UBlk wr w.heap.size B 165 ∧ UBlk wr (w.heap.size + 1) (List.replicate 25 0) 165 ∧ UBlk wr (w.heap.size + 2) ((chi B).take (row + X) ++ B.drop (row + X)) 165 ∧ Below w.heap.size w wr)
        (fun c _ => 5 - (intOf c).toNat)
      case atStart => exact ⟨0, by omega, rfl, unhide HS, unhide HR, unhide HO, unhide HG⟩
      case round =>
        obtain ⟨X, hX, rfl, hS, hR, hO, hG⟩ := hrel
        clear HS HR HO HG
        by_cases hx5 : X < 5
        · have hdx : decide ((X : Int) < 5) = true := decide_eq_true (by omega)
          obtain ⟨k, hk⟩ : ∃ k, k = row + X := ⟨_, rfl⟩
          obtain ⟨x1, hx1⟩ : ∃ x1, x1 = (X + 1) % 5 := ⟨_, rfl⟩
          obtain ⟨x2, hx2⟩ : ∃ x2, x2 = (X + 2) % 5 := ⟨_, rfl⟩
          obtain ⟨p1, hp1⟩ : ∃ p1, p1 = row + x1 := ⟨_, rfl⟩
          obtain ⟨p2, hp2⟩ : ∃ p2, p2 = row + x2 := ⟨_, rfl⟩
          rw [← hk] at hO
          have clen := (chi_lanes (unhide HBL)).1
          have hlen : ((chi B).take k ++ B.drop k).length = 25 := by simp; omega
          have c0 := hO.cell k (by omega)
          rw [fill_later (chi B) B 25 k clen blen (by omega)] at c0
          have f0 := hO.free k
          have c1 := hS.cell p1 (by omega)
          have c2 := hS.cell p2 (by omega)
          have hfill := fill_at (chi B) B 25 k clen blen (by omega)
          have hchi : (chi B).getD k 0 = chiOf B k := getDn_map _ _ _ (by omega)
          have hm : k % 5 = X := by omega
          have hkk : k - X = row := by omega
          have hchi2 : chiOf B k = B.getD k 0 ^^^ ((18446744073709551615 - B.getD p1 0) &&& B.getD p2 0) := by
            unfold chiOf
            rw [hm, hkk, ← hx1, ← hx2, ← hp1, ← hp2]
          rw [hchi, hchi2] at hfill
          have l0 : B.getD k 0 < 18446744073709551616 := getD_lt (unhide HBL).2 (by decide) _
          have l1 : B.getD p1 0 < 18446744073709551616 := getD_lt (unhide HBL).2 (by decide) _
          have l2 : B.getD p2 0 < 18446744073709551616 := getD_lt (unhide HBL).2 (by decide) _
          generalize B.getD k 0 = v0 at c0 hfill l0
          generalize B.getD p1 0 = v1 at c1 hfill l1
          generalize B.getD p2 0 = v2 at c2 hfill l2
          have HO5 := hide (hO.set k (v0 ^^^ ((18446744073709551615 - v1) &&& v2)))
          rw [hfill] at HO5
          have HS5 := hide (hS.other (b' := w.heap.size + 2) k (.int .u64 ((v0 ^^^ ((18446744073709551615 - v1) &&& v2) : Nat) : Int)) (by omega))
          have HR5 := hide (hR.other (b' := w.heap.size + 2) k (.int .u64 ((v0 ^^^ ((18446744073709551615 - v1) &&& v2) : Nat) : Int)) (by omega))
          have HG5 := hide (hG.setCell (p := ⟨w.heap.size + 2, k, none⟩) (by show w.heap.size ≤ w.heap.size + 2; omega) (.int .u64 ((v0 ^^^ ((18446744073709551615 - v1) &&& v2) : Nat) : Int)))
          have e1 : ((X : Int) + 1).tmod 5 = (x1 : Int) := by rw [Int.tmod_eq_emod_of_nonneg (by omega)]; omega
          have e2 : ((X : Int) + 2).tmod 5 = (x2 : Int) := by rw [Int.tmod_eq_emod_of_nonneg (by omega)]; omega
          have ek : (row : Int) + (X : Int) = (k : Int) := by omega
          have ep1 : (row : Int) + (x1 : Int) = (p1 : Int) := by omega
          have ep2 : (row : Int) + (x2 : Int) = (p2 : Int) := by omega
          have q1 : IntKind.i64.wrap ((X : Int) + 1) = (X : Int) + 1 := by rw [IntKind.wrap_i64]; omega
          have q2 : IntKind.i64.wrap ((X : Int) + 2) = (X : Int) + 2 := by rw [IntKind.wrap_i64]; omega
          have i0 : (k : Int) < 25 := by omega
          have i1 : (p1 : Int) < 25 := by omega
          have i2 : (p2 : Int) < 25 := by omega
          have hk' : row + (X + 1) = k + 1 := by omega
          have HK' := hide hk'
          clear hS hR hO hG hfill hchi hchi2 hm hkk hlen clen hk hx1 hx2 hp1 hp2 hk'
          go_wp2_with fail
          have HCV := hide (chi_u64 v0 v1 v2 l0 l1 l2)
          go_region
          rw [unhide HCV]
          go_wp2_with fail
          go_roundw
          case rel => exact ⟨X + 1, by omega, by go_num, unhide HS5, unhide HR5, by rw [unhide HK']; exact unhide HO5, (unhide HG5).drew⟩
          case measure => simp [intOf]; omega
        · obtain rfl : X = 5 := by omega
          have hdx : decide (((5 : Nat) : Int) < 5) = false := rfl
          go_wp2_with fail
          go_roundw
          case rel => exact ⟨row + 5, by omega, by omega, by go_num, hS, hR, hO, hG⟩
          case measure => simp [intOf]; omega
    · obtain rfl : row = 25 := by omega
      have hdk : decide (((25 : Nat) : Int) < 25) = false := rfl
      have clen := (chi_lanes (unhide HBL)).1
      have hO : UBlk wr (w.heap.size + 2) (chi B) 165 := by
        have := unhide HO
        rw [List.take_of_length_le (by omega), List.drop_eq_nil_of_le (by omega), List.append_nil] at this
        exact this
      have HLD := hide (load25 hO clen)
      obtain ⟨w3, hst, R3, K3, _⟩ := store25 (unhide HR) (by simp) clen
      have HST := hide hst
      have HR3 := hide R3
      have HG3 := hide ((unhide HG).trans (K3 w.heap.size (by omega)))
      clear hO hst R3 K3 HS HO HG HR
      go_wp2_with (first | refine wpList_load_eq rfl 165 (.tmp 3) rfl _ _ rfl (unhide HLD) ?_ | refine wpList_store_eq rfl 165 (.tmp 2) (.tmp 38) rfl _ _ rfl rfl w3 (unhide HST) ?_)
      exact bodyPost_ret (results_cell_row rfl _ _ (w.heap.size + 1) 165 _ (0, 0) _ rfl (unhide HR3) Tryz.underlying165 rfl (by rw [List.size_toArray, vals_length, clen]; kernel_rfl)) rfl ⟨rfl, unhide HG3⟩

end Go.Proofs.YtjjbkbinjmfnlaaGreatDoor

/- What is proved here: the program's step with the columns' sums, told by lanes. -/
namespace Go.Proofs.YtjjbkbinjmfnlaaGreatDoor
open Go.RowKit
set_option linter.unusedVariables false
set_option maxRecDepth 100000
attribute [local go_sem ↓] Go.wp_at_zero Go.wp_at_succ

/-- The state of which the first m lanes, column by column, are done. -/
def thAt (Z : List Nat) (m : Nat) : List Nat := (List.range 25).map fun i => if i % 5 * 5 + i / 5 < m then (theta Z).getD i 0 else Z.getD i 0

theorem thAt_length (Z : List Nat) (m : Nat) : (thAt Z m).length = 25 := by simp [thAt]

theorem thAt_zero (Z : List Nat) (h : Z.length = 25) : thAt Z 0 = Z := by
  unfold thAt
  simp only [Nat.not_lt_zero, if_false]
  exact map_getD Z 25 h

theorem thAt_all (Z : List Nat) : thAt Z 25 = theta Z := by
  have : thAt Z 25 = (List.range 25).map (fun i => (theta Z).getD i 0) := by
    unfold thAt
    apply List.map_congr_left
    intro i hi
    have : i < 25 := by simpa using hi
    rw [if_pos (by omega)]
  rw [this]
  exact map_getD _ 25 (by simp [theta])

theorem thAt_at (Z : List Nat) (x r : Nat) (hx : x < 5) (hr : r < 5) : (thAt Z (x * 5 + r)).getD (5 * r + x) 0 = Z.getD (5 * r + x) 0 := by
  unfold thAt
  rw [getDn_map _ _ _ (by omega), if_neg (by omega)]

theorem thAt_step (Z : List Nat) (x r : Nat) (hx : x < 5) (hr : r < 5) : (thAt Z (x * 5 + r)).set (5 * r + x) (Z.getD (5 * r + x) 0 ^^^ dOf (colAt Z 25) x) = thAt Z (x * 5 + r + 1) := by
  apply List.ext_getElem (by simp [thAt])
  intro i h1 h2
  have hi : i < 25 := by simpa [thAt] using h2
  rw [List.getElem_set]
  have e2 : ∀ h, (thAt Z (x * 5 + r + 1))[i]'h = if i % 5 * 5 + i / 5 < x * 5 + r + 1 then (theta Z).getD i 0 else Z.getD i 0 := by intro h; simp [thAt]
  have e1 : ∀ h, (thAt Z (x * 5 + r))[i]'h = if i % 5 * 5 + i / 5 < x * 5 + r then (theta Z).getD i 0 else Z.getD i 0 := by intro h; simp [thAt]
  rw [e2]
  by_cases hij : 5 * r + x = i
  · subst hij
    rw [if_pos rfl, if_pos (by omega)]
    unfold theta
    rw [getDn_map _ _ _ hi, show (5 * r + x) % 5 = x by omega]
  · rw [if_neg hij, e1]
    by_cases hc : i % 5 * 5 + i / 5 < x * 5 + r
    · rw [if_pos hc, if_pos (by omega)]
    · rw [if_neg hc, if_neg (by omega)]

theorem index25 (Z : List Nat) (hz : Z.length = 25) (k : Nat) (hk : k < 25) (w : World) : (Instr.index 165 (.agg (vals Z).toArray) (.int .i64 (k : Int))).run Tryz.prog w = .ok (.int .u64 (Z.getD k 0 : Int)) w := by
  have hn : (0 : Int) ≤ (k : Int) ∧ (k : Int) < ((25 : Nat) : Int) := by omega
  have hs : (sizeOf 163).run Tryz.prog w = .ok 1 w := by kernel_rfl
  have hu : Tryz.prog.underlying 163 = some (.int .u64) := by kernel_rfl
  have hv : (vals Z)[k]? = some (.int .u64 (Z.getD k 0 : Int)) := by
    rw [getDn_at Z k (by omega)]
    simp [vals, hz, hk]
  simp [Instr.index, run_underlying Tryz.underlying165, asIntOf, hn, go_sem, hs, hv]
  intro h
  omega

set_option maxRecDepth 100000 in
set_option maxHeartbeats 1000000 in
theorem theta_any (Z : List Nat) (hZ : Lanes Z) (w : World) :
    Calls Tryz.prog 175 #[.agg (vals Z).toArray] w fun e w' => e = .returned (.agg (vals (theta Z)).toArray) ∧ Below w.heap.size w w' := by
  have HZL := hide hZ
  have zlen := hZ.1
  clear hZ
  generalize hM : theta Z = M
  have HM := hide hM
  clear hM
  generalize hV : vals Z = V
  have HV := hide hV
  clear hV
  go_enter Tryz.func175, Tryz.ntmps175
  go_upto_region 2 with fail
  obtain ⟨w1, hw1⟩ : ∃ w1, w1 = ((w.alloc (.cells V.toArray 165)).alloc (.cells (vals (List.replicate 25 0)).toArray 165)).alloc (.cells (vals (List.replicate 5 0)).toArray 199) := ⟨_, rfl⟩
  have e1 : ((w.alloc (.cells V.toArray 165)).alloc (.cells #[.int .u64 0, .int .u64 0, .int .u64 0, .int .u64 0, .int .u64 0, .int .u64 0, .int .u64 0, .int .u64 0, .int .u64 0, .int .u64 0, .int .u64 0, .int .u64 0, .int .u64 0, .int .u64 0, .int .u64 0, .int .u64 0, .int .u64 0, .int .u64 0, .int .u64 0, .int .u64 0, .int .u64 0, .int .u64 0, .int .u64 0, .int .u64 0, .int .u64 0] 165)).alloc (.cells #[.int .u64 0, .int .u64 0, .int .u64 0, .int .u64 0, .int .u64 0] 199) = w1 := by rw [hw1]; rfl
  rw [e1]
  have G1 : Below w.heap.size w w1 := by rw [hw1]; exact ((below_alloc w _).alloc (by simp) _).alloc (by simp; omega) _
  have S1 : UBlk w1 w.heap.size Z 165 := by
    rw [hw1, ← unhide HV]
    exact ((UBlk.new w Z _).next _).next _
  have R1 : UBlk w1 (w.heap.size + 1) (List.replicate 25 0) 165 := by
    have := (UBlk.new (w.alloc (.cells V.toArray 165)) (List.replicate 25 0) 165).next (.cells (vals (List.replicate 5 0)).toArray 199)
    rw [hw1]
    simpa using this
  have C1 : UBlk w1 (w.heap.size + 1 + 1) (colAt Z 0) 199 := by
    have := UBlk.new ((w.alloc (.cells V.toArray 165)).alloc (.cells (vals (List.replicate 25 0)).toArray 165)) (List.replicate 5 0) 199
    have hs : ((w.alloc (.cells V.toArray 165)).alloc (.cells (vals (List.replicate 25 0)).toArray 165)).heap.size = w.heap.size + 1 + 1 := by simp
    rw [hs, ← hw1] at this
    exact this
  obtain ⟨q, hq⟩ : ∃ q, q = w.heap.size + 1 + 1 := ⟨_, rfl⟩
  rw [← hq] at C1
  try rw [← hq]
  have D1 : w.heap.size + 1 < q := by omega
  have HQ := hide hq
  have HLD := hide (load25 S1 zlen)
  rw [unhide HV] at HLD
  have HS := hide S1
  have HR := hide R1
  have HC := hide C1
  have HG := hide G1
  clear hq e1 hw1 S1 R1 C1 G1
  go_upto_block 0 with (refine wpList_load_eq rfl 165 _ rfl _ _ rfl (unhide HLD) ?_)
  go_cut [10] (fun c wr => UBlk wr w.heap.size Z 165 ∧ UBlk wr (w.heap.size + 1) (List.replicate 25 0) 165 ∧ UBlk wr q (colAt Z 25) 199 ∧ Below w.heap.size w wr)
  case first =>
    go_wp2_with fail
    go_loopw [10] (fun c wr => ∃ k : Nat, k ≤ 25 ∧ c = .int .i64 k ∧ UBlk wr w.heap.size Z 165 ∧ UBlk wr (w.heap.size + 1) (List.replicate 25 0) 165 ∧ UBlk wr q (colAt Z k) 199 ∧ Below w.heap.size w wr)
      (fun c _ => 25 - (intOf c).toNat)
    case atStart => exact ⟨0, by omega, rfl, unhide HS, unhide HR, unhide HC, unhide HG⟩
    case round =>
      obtain ⟨k, hk, rfl, hS, hR, hC, hG⟩ := hrel
      clear HS HR HC HG
      by_cases hlt : k < 25
      · have hdk : decide ((k : Int) < 25) = true := decide_eq_true (by omega)
        obtain ⟨j, hj⟩ : ∃ j, j = k % 5 := ⟨_, rfl⟩
        have hcl := colAt_props Z (unhide HZL).2 k
        have c0 := hC.cell j (by omega)
        have f0 := hC.free j
        have hvk : V.toArray[k]? = some (.int .u64 (Z.getD k 0 : Int)) := by
          rw [← unhide HV, getDn_at Z k (by omega)]
          simp [vals, zlen, hlt]
        have hidx : ∀ W, (Instr.index 165 (.agg V.toArray) (.int .i64 (k : Int))).run Tryz.prog W = .ok (.int .u64 (Z.getD k 0 : Int)) W := by rw [← unhide HV]; exact index25 Z zlen k hlt
        have hvk2 : V[k]? = some (.int .u64 (Z.getD k 0 : Int)) := by simpa using hvk
        have hVl : V.length = 25 := by rw [← unhide HV, vals_length, zlen]
        have hcg : (colAt Z k).getD j 0 < 18446744073709551616 := getD_lt hcl.2 (by decide) _
        have hzg : Z.getD k 0 < 18446744073709551616 := getD_lt (unhide HZL).2 (by decide) _
        have hsucc := colAt_succ Z k j hj
        generalize (colAt Z k).getD j 0 = x at c0 hcg hsucc
        generalize Z.getD k 0 = y at hvk hvk2 hidx hzg hsucc
        have hx := u64_xor_nat x y hcg hzg
        have HC5 := hide (hC.set j (x ^^^ y))
        rw [← hsucc] at HC5
        have HS5 := hide (hS.other (b' := q) j (.int .u64 ((x ^^^ y : Nat) : Int)) (by omega))
        have HR5 := hide (hR.other (b' := q) j (.int .u64 ((x ^^^ y : Nat) : Int)) (by omega))
        have HG5 := hide (hG.setCell (p := ⟨q, j, none⟩) (by show w.heap.size ≤ q; omega) (.int .u64 ((x ^^^ y : Nat) : Int)))
        have e5 : (k : Int).tmod 5 = (j : Int) := by rw [Int.tmod_eq_emod_of_nonneg (by omega)]; omega
        have e5' : (k : Int) % 5 = (j : Int) := by omega
        have i0 : (j : Int) < 5 := by omega
        have i1 : (k : Int) < 25 := by omega
        clear hS hR hC hG hsucc hj hcl
        go_wp2_with fail
        go_roundw
        case rel => exact ⟨k + 1, by omega, by go_num, unhide HS5, unhide HR5, unhide HC5, unhide HG5⟩
        case measure => simp [intOf]; omega
      · obtain rfl : k = 25 := by omega
        have hdk : decide (((25 : Nat) : Int) < 25) = false := rfl
        go_wp2_with fail
        go_meet
        exact ⟨hS, hR, hC, hG⟩
  case rest =>
    clear HS HR HC HG HLD
    obtain ⟨hS, hR, hC, hG⟩ := hcut
    have hS0 : UBlk wc w.heap.size (thAt Z (0 * 5)) 165 := by rw [Nat.zero_mul, thAt_zero Z zlen]; exact hS
    have hcp := colAt_props Z (unhide HZL).2 25
    generalize hcc : colAt Z 25 = C at hC hcp
    have HCC := hide hcc
    have HCP := hide hcp
    have clen := hcp.1
    have HS := hide hS0
    have HR := hide hR
    have HC := hide hC
    have HG := hide hG
    clear hS hR hC hG hS0 hcc hcp
    go_wp2_with fail
    go_loopw [22] (fun c wr => ∃ X : Nat, X ≤ 5 ∧ c = .int .i64 X ∧ UBlk wr w.heap.size (thAt Z (X * 5)) 165 ∧ UBlk wr (w.heap.size + 1) (List.replicate 25 0) 165 ∧ UBlk wr q C 199 ∧ Below w.heap.size w wr)
      (fun c _ => 5 - (intOf c).toNat)
    case atStart => exact ⟨0, by omega, rfl, unhide HS, unhide HR, unhide HC, unhide HG⟩
    case round =>
      obtain ⟨X, hX, rfl, hS, hR, hC, hG⟩ := hrel
      clear HS HR HC HG
      by_cases hlt : X < 5
      · have hdk : decide ((X : Int) < 5) = true := decide_eq_true (by omega)
        obtain ⟨a4, h4⟩ : ∃ a4, a4 = (X + 4) % 5 := ⟨_, rfl⟩
        obtain ⟨a1, h1⟩ : ∃ a1, a1 = (X + 1) % 5 := ⟨_, rfl⟩
        have hd : dOf C X = C.getD a4 0 ^^^ rotL (C.getD a1 0) 1 := by rw [h4, h1]; rfl
        have c4 := hC.cell a4 (by omega)
        have c1 := hC.cell a1 (by omega)
        have l4 : C.getD a4 0 < 18446744073709551616 := getD_lt (unhide HCP).2 (by decide) _
        have l1 : C.getD a1 0 < 18446744073709551616 := getD_lt (unhide HCP).2 (by decide) _
        generalize C.getD a4 0 = v4 at c4 l4 hd
        generalize C.getD a1 0 = v1 at c1 l1 hd
        have HRT := hide (rotl_any v1 1 l1 (by omega))
        have hx := u64_xor_nat v4 (rotL v1 1) l4 (rot_lt _ 1 l1 (by omega))
        rw [← hd] at hx
        have hdl := dOf_lt (unhide HCP).2 X
        have e4 : ((X : Int) + 4).tmod 5 = (a4 : Int) := by rw [Int.tmod_eq_emod_of_nonneg (by omega)]; omega
        have e1 : ((X : Int) + 1).tmod 5 = (a1 : Int) := by rw [Int.tmod_eq_emod_of_nonneg (by omega)]; omega
        have e4' : ((X : Int) + 4) % 5 = (a4 : Int) := by omega
        have e1' : ((X : Int) + 1) % 5 = (a1 : Int) := by omega
        have q4 : IntKind.i64.wrap ((X : Int) + 4) = (X : Int) + 4 := by rw [IntKind.wrap_i64]; omega
        have q1 : IntKind.i64.wrap ((X : Int) + 1) = (X : Int) + 1 := by rw [IntKind.wrap_i64]; omega
        have i4 : (a4 : Int) < 5 := by omega
        have i1 : (a1 : Int) < 5 := by omega
        have HS := hide hS
        have HR := hide hR
        have HC := hide hC
        have HG := hide hG
        have HHX := hide hx
        clear hS hR hC hG h4 h1 hd hx
        go_wp2_with fail
        go_cut [7] (fun v wx => v = .int .u64 (dOf C X : Int) ∧ wx = wr.drew)
        case first =>
          go_region_with (go_at_call 179; refine ((unhide HRT) _).mono ?_; rintro e w' ⟨rfl, rfl⟩)
          all_goals
            (try rw [unhide HHX])
            go_wp2_with fail
            go_meet
            exact ⟨rfl, rfl⟩
        case rest =>
          obtain ⟨rfl, rfl⟩ := hcut
          generalize hD : dOf C X = D at hdl
          have HD := hide hD
          clear hD c4 c1 q4 q1 e4 e1 e4' e1' i4 i1 HRT HHX
          have HS' : Hid (UBlk wr.drew w.heap.size (thAt Z (X * 5 + 0)) 165) := unhide HS
          have HR' : Hid (UBlk wr.drew (w.heap.size + 1) (List.replicate 25 0) 165) := unhide HR
          have HC' : Hid (UBlk wr.drew q C 199) := unhide HC
          have HG' := hide (unhide HG).drew
          clear HS HR HC HG
          go_wp2_with fail
          go_loopw [8] (fun c wr => ∃ r : Nat, r ≤ 5 ∧ c = .int .i64 ((5 * r : Nat) : Int) ∧ UBlk wr w.heap.size (thAt Z (X * 5 + r)) 165 ∧ UBlk wr (w.heap.size + 1) (List.replicate 25 0) 165 ∧ UBlk wr q C 199 ∧ Below w.heap.size w wr)
            (fun c _ => 25 - (intOf c).toNat)
          case atStart => exact ⟨0, by omega, rfl, unhide HS', unhide HR', unhide HC', unhide HG'⟩
          case round =>
            obtain ⟨r, hr, rfl, hS, hR, hC, hG⟩ := hrel
            clear HS' HR' HC' HG'
            obtain ⟨row, hrow⟩ : ∃ row, row = 5 * r := ⟨_, rfl⟩
            rw [← hrow]
            by_cases hr5 : r < 5
            · have hdr : decide ((row : Int) < 25) = true := decide_eq_true (by omega)
              obtain ⟨k, hk⟩ : ∃ k, k = 5 * r + X := ⟨_, rfl⟩
              have c0 := hS.cell k (by rw [thAt_length]; omega)
              have f0 := hS.free k
              have hold := thAt_at Z X r hlt hr5
              have hstep := thAt_step Z X r hlt hr5
              rw [unhide HCC, unhide HD] at hstep
              rw [← hk] at hold hstep
              rw [hold] at c0
              have hzg : Z.getD k 0 < 18446744073709551616 := getD_lt (unhide HZL).2 (by decide) _
              generalize Z.getD k 0 = y at c0 hstep hzg
              have hx := u64_xor_nat y D hzg hdl
              have HS5 := hide (hS.set k (y ^^^ D))
              rw [hstep] at HS5
              have HR5 := hide (hR.other (b' := w.heap.size) k (.int .u64 ((y ^^^ D : Nat) : Int)) (by omega))
              have HC5 := hide (hC.other (b' := w.heap.size) k (.int .u64 ((y ^^^ D : Nat) : Int)) (by omega))
              have HG5 := hide (hG.setCell (p := ⟨w.heap.size, k, none⟩) (Nat.le_refl _) (.int .u64 ((y ^^^ D : Nat) : Int)))
              have ek : (row : Int) + (X : Int) = (k : Int) := by omega
              have i0 : (k : Int) < 25 := by omega
              have hr25 : (row : Int) < 25 := by omega
              have hnx : (row : Int) + 5 = ((5 * (r + 1) : Nat) : Int) := by omega
              have HNX := hide hnx
              have HRW := hide hrow
              clear hS hR hC hG hstep hold hk hnx hrow
              go_wp2_with fail
              go_roundw
              case rel => exact ⟨r + 1, by omega, by rw [← unhide HNX], unhide HS5, unhide HR5, unhide HC5, unhide HG5⟩
              case measure => simp [intOf]; omega
            · obtain rfl : r = 5 := by omega
              obtain rfl : row = 25 := hrow
              have hdr : decide (((25 : Nat) : Int) < 25) = false := rfl
              have hS' : UBlk wr w.heap.size (thAt Z ((X + 1) * 5)) 165 := by rw [Nat.add_mul, Nat.one_mul]; exact hS
              go_wp2_with fail
              go_roundw
              case rel => exact ⟨X + 1, by omega, by go_num, hS', hR, hC, hG⟩
              case measure => simp [intOf]; omega
      · obtain rfl : X = 5 := by omega
        have hdk : decide (((5 : Nat) : Int) < 5) = false := rfl
        have hS' : UBlk wr w.heap.size M 165 := by
          have := hS
          rw [show 5 * 5 = 25 from rfl, thAt_all, unhide HM] at this
          exact this
        have mlen : M.length = 25 := by rw [← unhide HM]; exact (theta_lanes (unhide HZL)).1
        have HLD := hide (load25 hS' mlen)
        obtain ⟨w3, hst, R3, K3, _⟩ := store25 hR (by simp) mlen
        have HST := hide hst
        have HR3 := hide R3
        have HG3 := hide (hG.trans (K3 w.heap.size (by omega)))
        clear hS hR hC hG hS' hst R3 K3
        go_wp2_with (first | refine wpList_load_eq rfl 165 _ rfl _ _ rfl (unhide HLD) ?_ | refine wpList_store_eq rfl 165 _ _ rfl _ _ rfl rfl w3 (unhide HST) ?_)
        exact bodyPost_ret (results_cell_row rfl _ _ (w.heap.size + 1) 165 _ (0, 0) _ rfl (unhide HR3) Tryz.underlying165 rfl (by rw [List.size_toArray, vals_length, mlen]; kernel_rfl)) rfl ⟨rfl, unhide HG3⟩

end Go.Proofs.YtjjbkbinjmfnlaaGreatDoor

/- What is proved here: the program's mixing of a state, all its rounds, told by lanes; the two variables read as the program's text lays them. -/
namespace Go.Proofs.YtjjbkbinjmfnlaaGreatDoor
open Go.RowKit
set_option linter.unusedVariables false
set_option maxRecDepth 100000
attribute [local go_sem ↓] Go.wp_at_zero Go.wp_at_succ

theorem index24 (k : Nat) (hk : k < 24) (w : World) : (Instr.index 192 (.agg (vals rcs).toArray) (.int .i64 (k : Int))).run Tryz.prog w = .ok (.int .u64 (rcs.getD k 0 : Int)) w := by
  have hz : rcs.length = 24 := rfl
  have hn : (0 : Int) ≤ (k : Int) ∧ (k : Int) < ((24 : Nat) : Int) := by omega
  have hs : (sizeOf 163).run Tryz.prog w = .ok 1 w := by kernel_rfl
  have hv : (vals rcs)[k]? = some (.int .u64 (rcs.getD k 0 : Int)) := by
    rw [getDn_at rcs k (by omega)]
    simp [vals, hz, hk]
  generalize rcs.getD k 0 = c at hv ⊢
  generalize vals rcs = R at hv ⊢
  simp [Instr.index, run_underlying Tryz.underlying192, asIntOf, hn, go_sem, hs, hv]
  intro h
  omega

theorem load24 {w : World} (h : Laid w) : (Instr.loadAt 192 (.pointer (some ⟨1, 0, none⟩))).run Tryz.prog w = .ok (.agg (vals rcs).toArray) w := by
  refine run_loadAt_mid (P := Tryz.prog) w 1 0 192 (vals rcs) _ ?_ Tryz.underlying192 rfl (by rw [vals_length]; kernel_rfl)
  intro j v hj
  have hjl : j < 24 := by
    have := (List.getElem?_eq_some_iff.1 hj).1
    rw [vals_length] at this
    exact this
  rw [Nat.zero_add, h.2.1 j hjl, ← hj, getDn_at rcs j hjl]
  have hz : rcs.length = 24 := rfl
  simp only [vals, List.getElem?_map, List.getElem?_eq_getElem (show j < rcs.length from hjl), Option.map_some]
  rfl

set_option maxRecDepth 100000 in
set_option maxHeartbeats 1000000 in
theorem mix_any (Z : List Nat) (hZ : Lanes Z) (w : World) (hv : Laid w) :
    Calls Tryz.prog 162 #[.agg (vals Z).toArray] w fun e w' => e = .returned (.agg (vals (mixAt Z 24)).toArray) ∧ Below w.heap.size w w' := by
  have HZL := hide hZ
  have HVV := hide hv
  have zlen := hZ.1
  have w2s := hv.1
  clear hZ hv
  generalize hM : mixAt Z 24 = M
  have HM := hide hM
  clear hM
  generalize hV : vals Z = V
  have HV := hide hV
  clear hV
  go_enter Tryz.func162, Tryz.ntmps162
  go_upto_region 1 with fail
  obtain ⟨w1, hw1⟩ : ∃ w1, w1 = (w.alloc (.cells V.toArray 165)).alloc (.cells (vals (List.replicate 25 0)).toArray 165) := ⟨_, rfl⟩
  have e1 : (w.alloc (.cells V.toArray 165)).alloc (.cells #[.int .u64 0, .int .u64 0, .int .u64 0, .int .u64 0, .int .u64 0, .int .u64 0, .int .u64 0, .int .u64 0, .int .u64 0, .int .u64 0, .int .u64 0, .int .u64 0, .int .u64 0, .int .u64 0, .int .u64 0, .int .u64 0, .int .u64 0, .int .u64 0, .int .u64 0, .int .u64 0, .int .u64 0, .int .u64 0, .int .u64 0, .int .u64 0, .int .u64 0] 165) = w1 := by rw [hw1]; rfl
  rw [e1]
  have G1 : Below w.heap.size w w1 := by rw [hw1]; exact (below_alloc w _).alloc (by simp) _
  have S1 : UBlk w1 w.heap.size (mixAt Z 0) 165 := by
    show UBlk w1 w.heap.size Z 165
    rw [hw1, ← unhide HV]
    exact (UBlk.new w Z _).next _
  have R1 : UBlk w1 (w.heap.size + 1) (List.replicate 25 0) 165 := by
    have := UBlk.new (w.alloc (.cells V.toArray 165)) (List.replicate 25 0) 165
    rw [hw1]
    simpa using this
  have HLR := hide (load24 ((unhide HVV).below G1 (Nat.le_refl _)))
  have HIX := hide index24
  generalize vals rcs = RC at HLR HIX
  have HS := hide S1
  have HR := hide R1
  have HG := hide G1
  clear e1 hw1 S1 R1 G1
  go_wp2_with (refine wpList_load_eq rfl 192 _ rfl _ _ rfl (unhide HLR) ?_)
  clear HLR
  go_loopw [6] (fun c wr => ∃ k : Nat, k ≤ 24 ∧ c = .int .i64 k ∧ UBlk wr w.heap.size (mixAt Z k) 165 ∧ UBlk wr (w.heap.size + 1) (List.replicate 25 0) 165 ∧ Below w.heap.size w wr)
    (fun c _ => 24 - (intOf c).toNat)
  case atStart => exact ⟨0, by omega, rfl, unhide HS, unhide HR, unhide HG⟩
  case round =>
    obtain ⟨k, hk, rfl, hS, hR, hG⟩ := hrel
    clear HS HR HG
    have hsl := mixAt_lanes (unhide HZL) k
    by_cases hlt : k < 24
    · have hdk : decide ((k : Int) < 24) = true := decide_eq_true (by omega)
      have hidx := (unhide HIX) k hlt
      have hcl := rcs_lt k
      have hsucc := mixAt_succ Z k
      generalize mixAt Z k = S at hS hsl hsucc
      generalize rcs.getD k 0 = c at hidx hcl hsucc
      have HRF := hide (show roundF S = chi (bAt (theta S) 25) from rfl)
      have HTH := hide (theta_any S hsl)
      have htl := theta_lanes hsl
      have hrl := roundF_lanes hsl
      have hbl := bAt_lanes htl 25
      have HMV := hide (fun W hW => move_any (theta S) htl W hW)
      have HCR := hide (fun W => cross_any (bAt (theta S) 25) hbl W)
      have HLD := hide (load25 hS hsl.1)
      rw [unhide HRF] at hrl
      have hsucc2 : mixAt Z (k + 1) = (chi (bAt (theta S) 25)).set 0 ((chi (bAt (theta S) 25)).getD 0 0 ^^^ c) := by rw [hsucc]; rfl
      clear HRF hsucc
      generalize chi (bAt (theta S) 25) = CS at HCR hrl hsucc2
      generalize bAt (theta S) 25 = BS at HMV HCR hbl
      generalize theta S = TS at HTH HMV htl
      have S6len := hsl.1
      have HSS := hide hS
      have HRR := hide hR
      have HGG := hide hG
      have HS2 := hide hsucc2
      have HHL := hide hrl
      clear hS hR hG hsucc2 hrl htl hbl hsl
      go_wp2_with (refine wpList_load_eq rfl 165 _ rfl _ _ rfl (unhide HLD) ?_)
      refine ((unhide HTH) _).mono ?_
      rintro e w4 ⟨rfl, b4⟩
      have G4 := (unhide HGG).trans (b4.mono (unhide HGG).size)
      have HV4 := hide ((unhide HVV).below G4 (Nat.le_refl _))
      go_wp2_with fail
      refine ((unhide HMV) _ (unhide HV4)).mono ?_
      rintro e w5 ⟨rfl, b5⟩
      go_wp2_with fail
      refine ((unhide HCR) _).mono ?_
      rintro e w6 ⟨rfl, b6⟩
      have b456 := (b4.trans (b5.mono b4.size)).trans (b6.mono (b4.trans (b5.mono b4.size)).size)
      have S6 := (unhide HSS).below b456 (unhide HSS).lt
      have R6 := (unhide HRR).below b456 (unhide HRR).lt
      have G6 := (unhide HGG).trans (b456.mono (unhide HGG).size)
      obtain ⟨w7, hst, S7, K7, O7⟩ := store25 S6 S6len (unhide HHL).1
      have R7 : UBlk w7 (w.heap.size + 1) (List.replicate 25 0) 165 := by
        unfold UBlk
        rw [O7 _ (by omega)]
        exact R6
      have G7 := G6.trans (K7 w.heap.size (Nat.le_refl _))
      have c0 := S7.cell 0 (by rw [(unhide HHL).1]; omega)
      have f0 := S7.free 0
      have hx := u64_xor_nat (CS.getD 0 0) c (getD_lt (unhide HHL).2 (by decide) _) hcl
      have HS8 := hide (S7.set 0 (CS.getD 0 0 ^^^ c))
      rw [← unhide HS2] at HS8
      have HR8 := hide (R7.other (b' := w.heap.size) 0 (.int .u64 ((CS.getD 0 0 ^^^ c : Nat) : Int)) (by omega))
      have HG8 := hide (G7.setCell (p := ⟨w.heap.size, 0, none⟩) (Nat.le_refl _) (.int .u64 ((CS.getD 0 0 ^^^ c : Nat) : Int)))
      generalize CS.getD 0 0 = g at c0 hx HS8 HR8 HG8
      have HST := hide hst
      clear b4 b5 b6 b456 S6 R6 G6 S7 K7 O7 R7 G7 G4 hst HSS HRR HGG HS2 HTH HMV HCR HLD HV4
      go_wp2_with (refine wpList_store_eq rfl 165 _ _ rfl _ _ rfl rfl w7 (unhide HST) ?_)
      go_roundw
      case rel => exact ⟨k + 1, by omega, by go_num, unhide HS8, unhide HR8, unhide HG8⟩
      case measure => simp [intOf]; omega
    · obtain rfl : k = 24 := by omega
      have hdk : decide (((24 : Nat) : Int) < 24) = false := rfl
      have mlen := hsl.1
      rw [unhide HM] at hS mlen
      have HLD := hide (load25 hS mlen)
      obtain ⟨w3, hst, R3, K3, _⟩ := store25 hR (by simp) mlen
      have HST := hide hst
      have HR3 := hide R3
      have HG3 := hide (hG.trans (K3 w.heap.size (by omega)))
      clear hS hR hG hst R3 K3 hsl
      go_wp2_with (first | refine wpList_load_eq rfl 165 _ rfl _ _ rfl (unhide HLD) ?_ | refine wpList_store_eq rfl 165 _ _ rfl _ _ rfl rfl w3 (unhide HST) ?_)
      exact bodyPost_ret (results_cell_row rfl _ _ (w.heap.size + 1) 165 _ (0, 0) _ rfl (unhide HR3) Tryz.underlying165 rfl (by rw [List.size_toArray, vals_length, mlen]; kernel_rfl)) rfl ⟨rfl, unhide HG3⟩

end Go.Proofs.YtjjbkbinjmfnlaaGreatDoor

/- What is proved here: what the program's laneAt and soakBlock answer, told by lanes. -/
namespace Go.Proofs.YtjjbkbinjmfnlaaGreatDoor
open Go.RowKit
set_option linter.unusedVariables false
set_option maxRecDepth 100000
attribute [local go_sem ↓] Go.wp_at_zero Go.wp_at_succ

theorem or_low (b : Nat → Nat) (hb : ∀ i, b i < 256) (k : Nat) (hk : k < 8) : bits .or .u64 (lowB b k : Int) ((b k * 2 ^ (8 * k) : Nat) : Int) = (lowB b (k + 1) : Int) := by
  have h1 := lowB_lt b hb k
  have h2 := lowB_lt b hb (k + 1)
  have h3 : 2 ^ (8 * (k + 1)) ≤ 2 ^ 64 := Nat.pow_le_pow_right (by decide) (by omega)
  have h4 : lowB b (k + 1) = lowB b k + b k * 2 ^ (8 * k) := rfl
  have e := or_join (b k * 2 ^ (8 * k)) (lowB b k) (8 * k) (Nat.mul_mod_left _ _) h1 (by omega) (by omega)
  rw [bits_or_u64_nat _ _ (by omega) (by omega)] at e
  rw [bits_or_u64_nat _ _ (by omega) (by omega), Nat.or_comm, e, h4, Nat.add_comm]

set_option maxHeartbeats 1000000 in
theorem laneAt_any (b off n cap p : Nat) (bs : List Int) (w : World) (h : BRow w (some ⟨b, off, none⟩) n bs) (hn : n ≤ 1048576) (hp : p + 8 ≤ n) :
    Calls Tryz.prog 161 #[.slice (some ⟨b, off, none⟩) n cap, .int .i64 (p : Int)] w fun e w' => e = .returned (.int .u64 (laneB bs p : Int)) ∧ w' = w := by
  have HX := hide h
  have HB := hide (byteN_lt h.2.1 p)
  have HC := hide (byteN_cast h.2.1 p)
  have HLB := hide (show laneB bs p = lowB (byteN bs p) 8 from rfl)
  generalize laneB bs p = LB at HLB ⊢
  generalize hf : byteN bs p = f at HB HC HLB
  clear h hf
  go_enter Tryz.func161, Tryz.ntmps161
  go_wp2_with fail
  go_loop [5, 7] (fun l i => ∃ k : Nat, k ≤ 8 ∧ i = .int .i64 k ∧ l = .int .u64 (lowB f k : Int)) (fun _ i => 8 - (intOf i).toNat)
  case atStart => exact ⟨0, by omega, rfl, rfl⟩
  case round =>
    obtain ⟨k, hk, rfl, rfl⟩ := hrel
    by_cases hlt : k < 8
    · have hcx : w.cell? ⟨b, off + (p + k), none⟩ = some (.int .u8 (bs.getD (p + k) 0)) := by
        have := (unhide HX).2.2.2 _ rfl (p + k) (by omega)
        rwa [add_none] at this
      rw [← (unhide HC) k] at hcx
      have HO := hide (or_low f (unhide HB) k hlt)
      have hpw : f k * 2 ^ (8 * k) < 18446744073709551616 := by
        have h2 := lowB_lt f (unhide HB) (k + 1)
        have h3 : 2 ^ (8 * (k + 1)) ≤ 2 ^ 64 := Nat.pow_le_pow_right (by decide) (by omega)
        have h4 : lowB f (k + 1) = lowB f k + f k * 2 ^ (8 * k) := rfl
        omega
      have HPW := hide hpw
      clear hpw
      have hx := (unhide HB) k
      generalize f k = x at hcx HO hx HPW
      obtain ⟨q, hq⟩ : ∃ q, q = p + k := ⟨_, rfl⟩
      rw [← hq] at hcx
      obtain ⟨s, hs⟩ : ∃ s, s = 8 * k := ⟨_, rfl⟩
      rw [← hs] at HO HPW
      have m0 : (p : Int) + (k : Int) = (q : Int) := by omega
      have m1 : 8 * (k : Int) = (s : Int) := by omega
      have y0 : IntKind.i64.wrap (q : Int) = (q : Int) := i64_fits _ (by omega) (by omega)
      have y1 : IntKind.i64.wrap (s : Int) = (s : Int) := i64_fits _ (by omega) (by omega)
      have j0 : (0 : Int) ≤ (q : Int) := by omega
      have j1 : (q : Int) < (n : Int) := by omega
      have j2 : (0 : Int) ≤ (s : Int) := by omega
      have hdk : decide ((k : Int) < 8) = true := decide_eq_true (by omega)
      have hs64 : s < 64 := by omega
      clear hq hs
      go_wp2_with fail
      refine ⟨⟨k + 1, by omega, by go_num, ?_⟩, by simp [intOf]; omega⟩
      rw [wraps_u64 _ (Int.mul_nonneg (by omega) (by exact_mod_cast Nat.zero_le (2 ^ s))) (by exact_mod_cast (unhide HPW)), ← unhide HO]
      simp
    · obtain rfl : k = 8 := by omega
      have hdk : decide (((8 : Nat) : Int) < 8) = false := rfl
      go_wp2_with fail
      go_ret
      exact ⟨by rw [unhide HLB]; rfl, rfl⟩

set_option maxRecDepth 100000 in
set_option maxHeartbeats 2000000 in
theorem soak_any (Z : List Nat) (hZ : Lanes Z) (b off n cap : Nat) (bs : List Int) (w : World) (h : BRow w (some ⟨b, off, none⟩) n bs) (hn : n ≤ 1048576) (hn2 : 136 ≤ n) (hv : Laid w) :
    Calls Tryz.prog 150 #[.agg (vals Z).toArray, .slice (some ⟨b, off, none⟩) n cap] w fun e w' => e = .returned (.agg (vals (mixAt (soakAt Z bs 0 17) 24)).toArray) ∧ Below w.heap.size w w' := by
  have HLA := hide (fun (p : Nat) (hp : p + 8 ≤ n) (W : World) (hW : Below w.heap.size w W) => laneAt_any b off n cap p bs W (h.below hW (Nat.le_refl _)) hn hp)
  have HLB := hide (laneB_lt h.2.1)
  have HSL := hide (soakAt_lanes hZ h.2.1 0)
  have HSS := hide (fun i => show soakAt Z bs 0 (i + 1) = (soakAt Z bs 0 i).set i ((soakAt Z bs 0 i).getD i 0 ^^^ laneB bs (0 + i * 8)) from rfl)
  have HMX := hide (fun W hW => mix_any (soakAt Z bs 0 17) ((unhide HSL) 17) W hW)
  have HML := hide (mixAt_lanes ((unhide HSL) 17) 24)
  have HVV := hide hv
  have h0 : soakAt Z bs 0 0 = Z := rfl
  have H0 := hide h0
  clear h hv hZ h0
  generalize mixAt (soakAt Z bs 0 17) 24 = M at HMX HML
  generalize soakAt Z bs 0 = S at HSL HSS HMX H0
  generalize hV : vals Z = V
  have HV := hide hV
  clear hV
  go_enter Tryz.func150, Tryz.ntmps150
  go_upto_region 1 with fail
  obtain ⟨w1, hw1⟩ : ∃ w1, w1 = (w.alloc (.cells V.toArray 165)).alloc (.cells (vals (List.replicate 25 0)).toArray 165) := ⟨_, rfl⟩
  have e1 : (w.alloc (.cells V.toArray 165)).alloc (.cells #[.int .u64 0, .int .u64 0, .int .u64 0, .int .u64 0, .int .u64 0, .int .u64 0, .int .u64 0, .int .u64 0, .int .u64 0, .int .u64 0, .int .u64 0, .int .u64 0, .int .u64 0, .int .u64 0, .int .u64 0, .int .u64 0, .int .u64 0, .int .u64 0, .int .u64 0, .int .u64 0, .int .u64 0, .int .u64 0, .int .u64 0, .int .u64 0, .int .u64 0] 165) = w1 := by rw [hw1]; rfl
  rw [e1]
  have G1 : Below w.heap.size w w1 := by rw [hw1]; exact (below_alloc w _).alloc (by simp) _
  have S1 : UBlk w1 w.heap.size (S 0) 165 := by
    rw [unhide H0, hw1, ← unhide HV]
    exact (UBlk.new w Z _).next _
  have R1 : UBlk w1 (w.heap.size + 1) (List.replicate 25 0) 165 := by
    have := UBlk.new (w.alloc (.cells V.toArray 165)) (List.replicate 25 0) 165
    rw [hw1]
    simpa using this
  have HS := hide S1
  have HR := hide R1
  have HG := hide G1
  clear e1 hw1 S1 R1 G1
  go_wp2_with fail
  go_loopw [6] (fun c wr => ∃ k : Nat, k ≤ 17 ∧ c = .int .i64 k ∧ UBlk wr w.heap.size (S k) 165 ∧ UBlk wr (w.heap.size + 1) (List.replicate 25 0) 165 ∧ Below w.heap.size w wr)
    (fun c _ => 17 - (intOf c).toNat)
  case atStart => exact ⟨0, by omega, rfl, unhide HS, unhide HR, unhide HG⟩
  case round =>
    obtain ⟨k, hk, rfl, hS, hR, hG⟩ := hrel
    clear HS HR HG
    have hsl := (unhide HSL) k
    by_cases hlt : k < 17
    · have hdk : decide ((k : Int) < 17) = true := decide_eq_true (by omega)
      have hsucc := (unhide HSS) k
      rw [Nat.zero_add] at hsucc
      have hz64 : (S k).getD k 0 < 18446744073709551616 := getD_lt hsl.2 (by decide) _
      obtain ⟨q, hq⟩ : ∃ q, q = k * 8 := ⟨_, rfl⟩
      rw [← hq] at hsucc
      have HL8 := hide ((unhide HLA) q (by omega))
      have hl64 := (unhide HLB) q
      have n0 := UBlk.cell hS k (by rw [hsl.1]; omega)
      have f0 := UBlk.free hS k
      generalize laneB bs q = l at hsucc HL8 hl64
      have HS3 := hide (UBlk.set hS k ((S k).getD k 0 ^^^ l))
      rw [← hsucc] at HS3
      generalize (S k).getD k 0 = z at n0 hz64 HS3
      have hx := u64_xor_nat z l hz64 hl64
      have HR3 := hide (hR.other (b' := w.heap.size) k (.int .u64 ((z ^^^ l : Nat) : Int)) (by omega))
      have HG3 := hide (hG.setCell (p := ⟨w.heap.size, k, none⟩) (Nat.le_refl _) (.int .u64 ((z ^^^ l : Nat) : Int)))
      have HGG := hide hG
      have m0 : (k : Int) * 8 = (q : Int) := by omega
      have y0 : IntKind.i64.wrap (q : Int) = (q : Int) := i64_fits _ (by omega) (by omega)
      have ik1 : (0 : Int) ≤ (k : Int) := by omega
      have ik2 : (k : Int) < 25 := by omega
      clear hq hS hR hG hsl hsucc hz64 hl64
      go_upto_region 4 with fail
      go_region_with (first | (go_at_call 161; refine ((unhide HL8) _ (by first | exact unhide HGG | exact (unhide HGG).drew)).mono ?_; rintro e w6 ⟨rfl, rfl⟩))
      all_goals
        go_wp2_with fail
        go_roundw
        case rel => exact ⟨k + 1, by omega, by go_num, unhide HS3, unhide HR3, (unhide HG3).drew⟩
        case measure => simp [intOf]; omega
    · obtain rfl : k = 17 := by omega
      have hdk : decide (((17 : Nat) : Int) < 17) = false := rfl
      have HLD := hide (load25 hS hsl.1)
      have HMY := hide ((unhide HMX) wr ((unhide HVV).below hG (Nat.le_refl _)))
      have HRR := hide hR
      have HGG := hide hG
      have mlen := (unhide HML).1
      clear hS hR hG hsl
      go_wp2_with (refine wpList_load_eq rfl 165 _ rfl _ _ rfl (unhide HLD) ?_)
      refine (unhide HMY).mono ?_
      rintro e w4 ⟨rfl, b4⟩
      obtain ⟨w3, hst, R3, K3, _⟩ := store25 ((unhide HRR).below b4 (unhide HRR).lt) (by simp) mlen
      have HST := hide hst
      have HR3 := hide R3
      have G4 := (unhide HGG).trans (b4.mono (unhide HGG).size)
      have HG3 := hide (G4.trans (K3 w.heap.size (by omega)))
      clear hst R3 K3 b4 G4 HMY HLD
      go_wp2_with (refine wpList_store_eq rfl 165 _ _ rfl _ _ rfl rfl w3 (unhide HST) ?_)
      exact bodyPost_ret (results_cell_row rfl _ _ (w.heap.size + 1) 165 _ (0, 0) _ rfl (unhide HR3) Tryz.underlying165 rfl (by rw [List.size_toArray, vals_length, mlen]; kernel_rfl)) rfl ⟨rfl, unhide HG3⟩

end Go.Proofs.YtjjbkbinjmfnlaaGreatDoor

/- What is proved here: a load and a store by their runs' equations, as steps of a region that draws its order; and a part of a row of bytes. They hold for every program. -/
namespace Go.Proofs.YtjjbkbinjmfnlaaGreatDoor
open Go.RowKit
set_option linter.unusedVariables false
set_option maxRecDepth 100000

theorem step_load_eq {P : Program} {ops : Array Oper} {o : Oper} {a : Act} {w : World} {K : Act → World → Prop} {Q : Exit → Act → World → Prop} {E : Prop} (hgd : o.guard = none) (ty : TypeId) (x : Operand) (ho : o.op = .load ty x)
    (p v : Value) (hx : a.eval x = p) (hrun : (Instr.loadAt ty p).run P w = .ok v w) (h : K (a.put o.dst v) w) : if Region.wanted o (yielded ops a.tmps) = true then Oper.wp P o a w K Q else E := by
  have hw : Region.wanted o (yielded ops a.tmps) = true := by simp [Region.wanted, hgd]
  rw [if_pos hw]
  unfold Oper.wp execOp
  simp only [ho, hx, Sem.run_bind, hrun, Sem.run_pure, Result.andThen_ok]
  exact h

theorem step_store_eq {P : Program} {ops : Array Oper} {o : Oper} {a : Act} {w : World} {K : Act → World → Prop} {Q : Exit → Act → World → Prop} {E : Prop} (hgd : o.guard = none) (ty : TypeId) (x y : Operand) (ho : o.op = .store ty x y)
    (p v : Value) (hx : a.eval x = p) (hy : a.eval y = v) (w2 : World) (hrun : (Instr.storeAt ty p v).run P w = .ok () w2) (h : K (a.put o.dst undef) w2) : if Region.wanted o (yielded ops a.tmps) = true then Oper.wp P o a w K Q else E := by
  have hw : Region.wanted o (yielded ops a.tmps) = true := by simp [Region.wanted, hgd]
  rw [if_pos hw]
  unfold Oper.wp execOp
  simp only [ho, hx, hy, Sem.run_bind, hrun, Sem.run_pure, Result.andThen_ok]
  exact h

theorem BRow.sub {w : World} {b off n : Nat} {bs : List Int} (h : BRow w (some ⟨b, off, none⟩) n bs) (p m : Nat) (hp : p + m ≤ n) : BRow w (some ⟨b, off + p, none⟩) m ((bs.drop p).take m) := by
  have hl := h.1
  refine ⟨by simp; omega, fun x hx => h.2.1 x (List.mem_of_mem_drop (List.mem_of_mem_take hx)), fun e => (by cases e), fun x hx i hi => ?_⟩
  cases hx
  have := h.2.2.2 _ rfl (p + i) (by omega)
  rw [add_none] at this ⊢
  rw [Nat.add_assoc, this, List.getD_eq_getElem?_getD, List.getD_eq_getElem?_getD, List.getElem?_take_of_lt (by omega), List.getElem?_drop]

end Go.Proofs.YtjjbkbinjmfnlaaGreatDoor

/- What is proved here: what the model's l2Pad answers for slices of at most 1200 bytes, in new memory; and what PadBytes is to answer. -/
namespace Go.Proofs.YtjjbkbinjmfnlaaGreatDoor
open Go.RowKit
set_option linter.unusedVariables false
set_option maxRecDepth 100000

theorem xor_zero128 : bits .xor .u8 0 128 = 128 := by decide
theorem xor_one128 : bits .xor .u8 1 128 = 129 := by decide

set_option maxHeartbeats 1000000 in
theorem l2Pad_any (a : Option Addr) (n cap : Nat) (zs : List Int) (w : World) (h : BRow w a n zs) (hcap : a = none → cap = 0) (hn : n ≤ 1200) :
    Calls Tryz.prog 130 #[.slice a n cap] w fun e w' => ∃ (g cap' : Nat), e = .returned (.slice (some ⟨g, 0, none⟩) (padLen n) cap') ∧
      w'.ownsRow w.heap.size 5 1 (.slice (some ⟨g, 0, none⟩) (padLen n) cap') (padLen n) ((padB zs).map (Value.int .u8)) ∧ Below w.heap.size w w' := by
  obtain ⟨i0, hi, hz0, hz1, hz2⟩ := info_parts info5
  have hzl := h.1
  have hpl := padLen_lt n
  have HCP := hide (copy_any a n cap zs w h hcap (by omega))
  have HF := hide (padLen_first n)
  have HL := hide (padRaw_last zs)
  clear h
  go_enter Tryz.func130, Tryz.ntmps130
  go_wp2_with fail
  refine (unhide HCP).mono ?_
  rintro e w1 ⟨a1, c1, rfl, o1, b1⟩
  have hs1 := b1.size
  go_wp2_with (at_builtin; refine wpList_append_own _ rfl _ _ 73 rfl w.heap.size 5 i0 (.int .u8 0) 1 1 Tryz.underlying73 hi hz0 hz1 hz2 rfl (by decide) _ _ _ rfl (o1.alloc _) ⟨w1.heap.size, 0, none⟩ 1 1 [.int .u8 1] rfl rfl ?c1 ?c2 ?c3 ?c4 ?c5 ?_)
  case c1 => exact cell_one_new _ _ _
  case c2 => intro u hu; simp at hu; subst hu; rfl
  case c3 => unfold maxLen; omega
  case c4 => omega
  case c5 => simp; omega
  intro v2 w2 o2 hgrow _
  obtain ⟨g2, cap2, hv2⟩ := own_some o2 (by omega)
  have b2 : Below w.heap.size w w2 := (b1.alloc hs1 _).grown hgrow (by simp; omega) (fun q e => (o1.lt q e).1)
  rw [hv2] at o2
  rw [hv2]
  have O2 : Hid (w2.ownsRow w.heap.size 5 1 (.slice (some ⟨g2, 0, none⟩) (n + 1) cap2) (n + 1) ((padRaw zs (n + 1 - n - 1)).map (Value.int .u8))) := by
    show w2.ownsRow _ _ _ _ _ _
    have e : n + 1 - n - 1 = 0 := by omega
    rw [e]
    simpa [padRaw] using o2
  have HB2 := hide b2
  clear o2 b2 hgrow hv2 o1 b1 HCP
  go_wp2_with fail
  go_loopw [3] (fun v wr => ∃ (m g c : Nat), n + 1 ≤ m ∧ m ≤ padLen n ∧ v = .slice (some ⟨g, 0, none⟩) m c ∧ wr.ownsRow w.heap.size 5 1 (.slice (some ⟨g, 0, none⟩) m c) m ((padRaw zs (m - n - 1)).map (Value.int .u8)) ∧ Below w.heap.size w wr)
    (fun v _ => padLen n - lenOf v)
  case atStart => exact ⟨n + 1, g2, cap2, by omega, by omega, rfl, unhide O2, unhide HB2⟩
  case round =>
    obtain ⟨m, g, c, hm1, hm2, rfl, hown, hbel⟩ := hrel
    clear O2 HB2
    by_cases hm : m % 136 = 0
    · have hfin := (unhide HF) m (by omega) hm2 hm
      have hmod : ((m : Int) % 136 != 0) = false := by rw [bne_eq_false_iff_eq]; omega
      have hlast := unhide HL
      rw [hzl, ← hfin] at hlast
      have hcell : wr.cell? ⟨g, m - 1, none⟩ = some (.int .u8 (if n + 1 = m then 1 else 0)) := by
        rw [hown.cellAt (m - 1) (by omega), List.getElem?_map, List.getElem?_eq_getElem (by rw [padRaw_length]; omega)]
        rw [← hlast, getD_at _ _ (by rw [padRaw_length]; omega)]
        rfl
      have hfz := hown.frozenAt (m - 1)
      have hx : bits .xor .u8 (if n + 1 = m then 1 else 0) 128 = padLast n := by
        unfold padLast
        rw [← hfin]
        split
        · exact xor_one128
        · exact xor_zero128
      have R := hown.stored (m - 1) (.int .u8 (padLast n))
      have HR : Hid ((wr.setCell ⟨g, m - 1, none⟩ (.int .u8 (padLast n))).ownsRow w.heap.size 5 1 (.slice (some ⟨g, 0, none⟩) m c) m ((padB zs).map (Value.int .u8))) := by
        show World.ownsRow _ _ _ _ _ _ _
        unfold padB
        rw [hzl, ← hfin, List.map_set]
        exact R.1
      have HBB : Hid (Below w.heap.size w (wr.setCell ⟨g, m - 1, none⟩ (.int .u8 (padLast n)))) := hbel.setCell ((hown.lt g rfl).1) _
      have HFIN := hide hfin
      have i1 : (0 : Int) < (m : Int) := by omega
      generalize (if n + 1 = m then (1 : Int) else 0) = lb at hcell hx
      clear hlast R hown hbel hfin
      go_wp2_with fail
      go_ret
      rw [← unhide HFIN]
      exact ⟨g, c, rfl, unhide HR, unhide HBB⟩
    · have hmod : ((m : Int) % 136 != 0) = true := by rw [bne_iff_ne]; omega
      have hlt : m < padLen n := by
        have := hpl.2.2
        rcases Nat.lt_or_eq_of_le hm2 with h | h
        · exact h
        · rw [← h] at this; omega
      have hsz := hbel.size
      go_wp2_with (at_builtin; refine wpList_append_own _ rfl _ _ 73 rfl w.heap.size 5 i0 (.int .u8 0) 1 1 Tryz.underlying73 hi hz0 hz1 hz2 rfl (by decide) _ _ _ rfl (hown.alloc _) ⟨wr.heap.size, 0, none⟩ 1 1 [.int .u8 0] rfl rfl ?d1 ?d2 ?d3 ?d4 ?d5 ?_)
      case d1 => exact cell_one_new _ _ _
      case d2 => intro u hu; simp at hu; subst hu; rfl
      case d3 => unfold maxLen; omega
      case d4 => omega
      case d5 => simp; omega
      intro v3 w3 o3 hgrow _
      obtain ⟨g3, cap3, hv3⟩ := own_some o3 (by omega)
      have b3 : Below w.heap.size w w3 := (hbel.alloc hsz _).grown hgrow (by simp; omega) (fun q e => (hown.lt q e).1)
      rw [hv3] at o3
      rw [hv3]
      have O3 : Hid (w3.ownsRow w.heap.size 5 1 (.slice (some ⟨g3, 0, none⟩) (m + 1) cap3) (m + 1) ((padRaw zs (m + 1 - n - 1)).map (Value.int .u8))) := by
        show w3.ownsRow _ _ _ _ _ _
        have e : m + 1 - n - 1 = (m - n - 1) + 1 := by omega
        rw [e, padRaw_succ, List.map_append]
        exact o3
      have HB3 := hide b3
      clear o3 b3 hgrow hv3 hown hbel
      go_wp2_with fail
      go_roundw
      case rel => exact ⟨m + 1, g3, cap3, by omega, by omega, rfl, unhide O3, unhide HB3⟩
      case measure => simp [lenOf]; omega

/-- The code and the bytes of PadBytes. -/
def pdCode (zs : List Int) : Int := if 1200 < zs.length then 2 else 0
def pdBytes (zs : List Int) : List Int := if 1200 < zs.length then [] else padB zs

theorem pdBytes_range (zs : List Int) (h : ∀ x ∈ zs, 0 ≤ x ∧ x ≤ 255) : ∀ x ∈ pdBytes zs, 0 ≤ x ∧ x ≤ 255 := by
  unfold pdBytes
  split
  · intro x hx; simp at hx
  · exact padB_range zs h

theorem pdBytes_length (zs : List Int) : (pdBytes zs).length ≤ 1400 := by
  unfold pdBytes
  split
  · simp
  · rw [padB_length]; have := padLen_lt zs.length; omega

end Go.Proofs.YtjjbkbinjmfnlaaGreatDoor
