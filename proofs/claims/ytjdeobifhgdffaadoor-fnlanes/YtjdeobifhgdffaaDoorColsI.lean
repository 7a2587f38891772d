/- What is proved here: the program's last step of a round, told by lanes. -/
import Derived.Test.YtjdeobifhgdffaaDoorChecked
import Derived.Test.YtjdeobifhgdffaaDoorBase
import Derived.Test.YtjdeobifhgdffaaDoorKMath
import Derived.Test.YtjdeobifhgdffaaDoorURow2
import Derived.Test.YtjdeobifhgdffaaDoorLaneImpl
import Derived.WalkKit
import Derived.WalkLawsBesides
import Derived.WalkSmall
import Derived.WalkSpells
import Derived.RegionTactic
import Derived.BigRegion
import Derived.Deep.CutBlock
import Derived.Deep.DeepCutAuto
import Derived.KernelRfl
namespace Go.Proofs.YtjdeobifhgdffaaDoor
open Go.RowKit
set_option linter.unusedVariables false
attribute [local go_sem ↓] Go.wp_at_zero Go.wp_at_succ

theorem ones_xor (v : Nat) (h : v < 18446744073709551616) : 18446744073709551615 ^^^ v = 18446744073709551615 - v := by
  apply Nat.eq_of_testBit_eq
  intro i
  have e1 : Nat.testBit 18446744073709551615 i = decide (i < 64) := Nat.testBit_two_pow_sub_one 64 i
  have e2 : (18446744073709551615 - v).testBit i = (decide (i < 64) && !v.testBit i) := by
    rw [show 18446744073709551615 - v = 2 ^ 64 - (v + 1) by omega]
    exact Nat.testBit_two_pow_sub_succ (by omega) i
  rw [Nat.testBit_xor, e1, e2]
  by_cases hi : i < 64
  · simp [hi]
  · have : v.testBit i = false := Nat.testBit_lt_two_pow (Nat.lt_of_lt_of_le h (Nat.pow_le_pow_right (show 0 < 2 by decide) (by omega : 64 ≤ i)))
    simp [hi, this]

theorem chi_u64 (v0 v1 v2 : Nat) (h0 : v0 < 18446744073709551616) (h1 : v1 < 18446744073709551616) (h2 : v2 < 18446744073709551616) :
    bits .xor .u64 (v0 : Int) (bits .and .u64 (bits .xor .u64 (if IntKind.u64.signed = true then -1 else IntKind.u64.max) (v1 : Int)) (v2 : Int)) = ((v0 ^^^ ((18446744073709551615 - v1) &&& v2) : Nat) : Int) := by
  have e : (if IntKind.u64.signed = true then (-1 : Int) else IntKind.u64.max) = ((18446744073709551615 : Nat) : Int) := by decide
  rw [e, u64_xor_nat _ _ (by decide) h1, ones_xor v1 h1, u64_and_nat _ _ (by omega) h2, u64_xor_nat _ _ h0 (and_lt h2)]

set_option maxRecDepth 100000 in
set_option maxHeartbeats 1000000 in
theorem cross_any (B : List Nat) (hB : Lanes B) (w : World) :
    Calls Tryd.prog 56 #[.agg (vals B).toArray] w fun e w' => e = .returned (.agg (vals (chi B)).toArray) ∧ Below w.heap.size w w' := by
  have HBL := hide hB
  have blen := hB.1
  clear hB
  generalize hV : vals B = V
  have HV := hide hV
  clear hV
  go_enter Tryd.func56, Tryd.ntmps56
  go_upto_region 1 with fail
  obtain ⟨w1, hw1⟩ : ∃ w1, w1 = (w.alloc (.cells V.toArray 50)).alloc (.cells (vals (List.replicate 25 0)).toArray 50) := ⟨_, rfl⟩
  have e1 : (w.alloc (.cells V.toArray 50)).alloc (.cells #[.int .u64 0, .int .u64 0, .int .u64 0, .int .u64 0, .int .u64 0, .int .u64 0, .int .u64 0, .int .u64 0, .int .u64 0, .int .u64 0, .int .u64 0, .int .u64 0, .int .u64 0, .int .u64 0, .int .u64 0, .int .u64 0, .int .u64 0, .int .u64 0, .int .u64 0, .int .u64 0, .int .u64 0, .int .u64 0, .int .u64 0, .int .u64 0, .int .u64 0] 50) = w1 := by rw [hw1]; rfl
  rw [e1]
  have b1 : Below w.heap.size w w1 := by rw [hw1]; exact (below_alloc w _).alloc (by simp) _
  have S1 : UBlk w1 w.heap.size B 50 := by
    rw [hw1, ← unhide HV]
    exact (UBlk.new w B _).below (below_alloc _ _) (by simp)
  have s1 : w1.heap.size = w.heap.size + 2 := by rw [hw1]; simp
  have R1 : UBlk w1 (w.heap.size + 1) (List.replicate 25 0) 50 := by
    have := UBlk.new (w.alloc (.cells V.toArray 50)) (List.replicate 25 0) 50
    rw [hw1]
    simpa using this
  have HLD := hide (load25 S1 blen)
  have N1 := UBlk.new w1 (List.replicate 25 0) 50
  obtain ⟨w2, hst, O2, K2, _⟩ := store25 N1 (by simp) blen
  have HST : Hid ((Instr.storeAt 50 (.pointer (some ⟨w1.heap.size, 0, none⟩)) (.agg (vals B).toArray)).run Tryd.prog (w1.alloc (.cells #[.int .u64 0, .int .u64 0, .int .u64 0, .int .u64 0, .int .u64 0, .int .u64 0, .int .u64 0, .int .u64 0, .int .u64 0, .int .u64 0, .int .u64 0, .int .u64 0, .int .u64 0, .int .u64 0, .int .u64 0, .int .u64 0, .int .u64 0, .int .u64 0, .int .u64 0, .int .u64 0, .int .u64 0, .int .u64 0, .int .u64 0, .int .u64 0, .int .u64 0] 50)) = .ok () w2) := hst
  have B2 : Below w1.heap.size w1 w2 := (below_alloc w1 _).trans (K2 _ (Nat.le_refl _))
  have S2 := S1.below B2 S1.lt
  have R2 := R1.below B2 R1.lt
  have G2 := b1.trans (B2.mono b1.size)
  rw [unhide HV] at HLD HST
  have HS2 := hide S2
  have HR2 := hide R2
  have HO2 := hide O2
  have HG2 := hide G2
  rw [s1] at HST HO2
  clear e1 hw1 b1 S1 R1 N1 hst O2 K2 B2 S2 R2 G2
  go_upto_block 0 with (first | refine wpList_load_eq rfl 50 (.tmp 1) rfl _ _ rfl (unhide HLD) ?_ | refine wpList_store_eq rfl 50 (.tmp 3) (.tmp 6) rfl _ _ rfl rfl w2 (unhide HST) ?_)
  clear HST HLD
  go_wp2_with fail
  go_loopw [4] (fun r wr => ∃ row : Nat, row ≤ 25 ∧ row % 5 = 0 ∧ r = .int .i64 row ∧ UBlk wr w.heap.size B 50 ∧ UBlk wr (w.heap.size + 1) (List.replicate 25 0) 50 ∧ UBlk wr (w.heap.size + 2) ((chi B).take row ++ B.drop row) 50 ∧ Below w.heap.size w wr)
    (fun r _ => 25 - (intOf r).toNat)
  case atStart => exact ⟨0, by omega, by omega, rfl, unhide HS2, unhide HR2, by simpa using unhide HO2, unhide HG2⟩
  case round =>
    obtain ⟨row, hr, hr5, rfl, hS, hR, hO, hG⟩ := hrel
    clear HS2 HR2 HO2 HG2
    have HS := hide hS
    have HR := hide hR
    have HO := hide hO
    have HG := hide hG
    clear hS hR hO hG
    by_cases hlt : row < 25
    · have hdk : decide ((row : Int) < 25) = true := decide_eq_true (by omega)
      go_wp2_with fail
      go_loopw [11] (fun c wr => ∃ X : Nat, X ≤ 5 ∧ c = .int .i64 X ∧ UBlk wr w.heap.size B 50 ∧ UBlk wr (w.heap.size + 1) (List.replicate 25 0) 50 ∧ UBlk wr (w.heap.size + 2) ((chi B).take (row + X) ++ B.drop (row + X)) 50 ∧ Below w.heap.size w wr)
        (fun c _ => 5 - (intOf c).toNat)
      case atStart => exact ⟨0, by omega, rfl, unhide HS, unhide HR, unhide HO, unhide HG⟩
      case round =>
        obtain ⟨X, hX, rfl, hS, hR, hO, hG⟩ := hrel
        clear HS HR HO HG
        by_cases hx5 : X < 5
        · have hdx : decide ((X : Int) < 5) = true := decide_eq_true (by omega)
          obtain ⟨k, hk⟩ : ∃ k, k = row + X := ⟨_, rfl⟩
          obtain ⟨x1, hx1⟩ : ∃ x1, x1 = (X + 1) % 5 := ⟨_, rfl⟩
          obtain ⟨x2, hx2⟩ : ∃ x2, x2 = (X + 2) % 5 := ⟨_, rfl⟩
          obtain ⟨p1, hp1⟩ : ∃ p1, p1 = row + x1 := ⟨_, rfl⟩
          obtain ⟨p2, hp2⟩ : ∃ p2, p2 = row + x2 := ⟨_, rfl⟩
          rw [← hk] at hO
          have clen := (chi_lanes (unhide HBL)).1
          have hlen : ((chi B).take k ++ B.drop k).length = 25 := by simp; omega
          have c0 := hO.cell k (by omega)
          rw [fill_later (chi B) B 25 k clen blen (by omega)] at c0
          have f0 := hO.free k
          have c1 := hS.cell p1 (by omega)
          have c2 := hS.cell p2 (by omega)
          have hfill := fill_at (chi B) B 25 k clen blen (by omega)
          have hchi : (chi B).getD k 0 = chiOf B k := getDn_map _ _ _ (by omega)
          have hm : k % 5 = X := by omega
          have hkk : k - X = row := by omega
          have hchi2 : chiOf B k = B.getD k 0 ^^^ ((18446744073709551615 - B.getD p1 0) &&& B.getD p2 0) := by
            unfold chiOf
            rw [hm, hkk, ← hx1, ← hx2, ← hp1, ← hp2]
          rw [hchi, hchi2] at hfill
          have l0 : B.getD k 0 < 18446744073709551616 := getD_lt (unhide HBL).2 (by decide) _
          have l1 : B.getD p1 0 < 18446744073709551616 := getD_lt (unhide HBL).2 (by decide) _
          have l2 : B.getD p2 0 < 18446744073709551616 := getD_lt (unhide HBL).2 (by decide) _
          generalize B.getD k 0 = v0 at c0 hfill l0
          generalize B.getD p1 0 = v1 at c1 hfill l1
          generalize B.getD p2 0 = v2 at c2 hfill l2
          have HO5 := hide (hO.set k (v0 ^^^ ((18446744073709551615 - v1) &&& v2)))
          rw [hfill] at HO5
          have HS5 := hide (hS.other (b' := w.heap.size + 2) k (.int .u64 ((v0 ^^^ ((18446744073709551615 - v1) &&& v2) : Nat) : Int)) (by omega))
          have HR5 := hide (hR.other (b' := w.heap.size + 2) k (.int .u64 ((v0 ^^^ ((18446744073709551615 - v1) &&& v2) : Nat) : Int)) (by omega))
          have HG5 := hide (hG.setCell (p := ⟨w.heap.size + 2, k, none⟩) (by show w.heap.size ≤ w.heap.size + 2; omega) (.int .u64 ((v0 ^^^ ((18446744073709551615 - v1) &&& v2) : Nat) : Int)))
          have e1 : ((X : Int) + 1).tmod 5 = (x1 : Int) := by rw [Int.tmod_eq_emod_of_nonneg (by omega)]; omega
          have e2 : ((X : Int) + 2).tmod 5 = (x2 : Int) := by rw [Int.tmod_eq_emod_of_nonneg (by omega)]; omega
          have ek : (row : Int) + (X : Int) = (k : Int) := by omega
          have ep1 : (row : Int) + (x1 : Int) = (p1 : Int) := by omega
          have ep2 : (row : Int) + (x2 : Int) = (p2 : Int) := by omega
          have q1 : IntKind.i64.wrap ((X : Int) + 1) = (X : Int) + 1 := by rw [IntKind.wrap_i64]; omega
          have q2 : IntKind.i64.wrap ((X : Int) + 2) = (X : Int) + 2 := by rw [IntKind.wrap_i64]; omega
          have i0 : (k : Int) < 25 := by omega
          have i1 : (p1 : Int) < 25 := by omega
          have i2 : (p2 : Int) < 25 := by omega
          have hk' : row + (X + 1) = k + 1 := by omega
          have HK' := hide hk'
          clear hS hR hO hG hfill hchi hchi2 hm hkk hlen clen hk hx1 hx2 hp1 hp2 hk'
          go_wp2_with fail
          have HCV := hide (chi_u64 v0 v1 v2 l0 l1 l2)
          go_region
          rw [unhide HCV]
          go_wp2_with fail
          go_roundw
          case rel => exact ⟨X + 1, by omega, by go_num, unhide HS5, unhide HR5, by rw [unhide HK']; exact unhide HO5, (unhide HG5).drew⟩
          case measure => simp [intOf]; omega
        · obtain rfl : X = 5 := by omega
          have hdx : decide (((5 : Nat) : Int) < 5) = false := rfl
          go_wp2_with fail
          go_roundw
          case rel => exact ⟨row + 5, by omega, by omega, by go_num, hS, hR, hO, hG⟩
          case measure => simp [intOf]; omega
    · obtain rfl : row = 25 := by omega
      have hdk : decide (((25 : Nat) : Int) < 25) = false := rfl
      have clen := (chi_lanes (unhide HBL)).1
      have hO : UBlk wr (w.heap.size + 2) (chi B) 50 := by
        have := unhide HO
        rw [List.take_of_length_le (by omega), List.drop_eq_nil_of_le (by omega), List.append_nil] at this
        exact this
      have HLD := hide (load25 hO clen)
      obtain ⟨w3, hst, R3, K3, _⟩ := store25 (unhide HR) (by simp) clen
      have HST := hide hst
      have HR3 := hide R3
      have HG3 := hide ((unhide HG).trans (K3 w.heap.size (by omega)))
      clear hO hst R3 K3 HS HO HG HR
      go_wp2_with (first | refine wpList_load_eq rfl 50 (.tmp 3) rfl _ _ rfl (unhide HLD) ?_ | refine wpList_store_eq rfl 50 (.tmp 2) (.tmp 38) rfl _ _ rfl rfl w3 (unhide HST) ?_)
      exact bodyPost_ret (results_cell_row rfl _ _ (w.heap.size + 1) 50 _ (0, 0) _ rfl (unhide HR3) Tryd.underlying50 rfl (by rw [List.size_toArray, vals_length, clen]; kernel_rfl)) rfl ⟨rfl, unhide HG3⟩

end Go.Proofs.YtjdeobifhgdffaaDoor
