/- What is proved here: the program's mixing of a state, all its rounds, told by lanes; the two variables read as the program's text lays them. -/
import Derived.Test.YtjdeobifhgdffaaDoorChecked
import Derived.Test.YtjdeobifhgdffaaDoorBase
import Derived.Test.YtjdeobifhgdffaaDoorKMath
import Derived.Test.YtjdeobifhgdffaaDoorURow2
import Derived.Test.YtjdeobifhgdffaaDoorColsI
import Derived.Test.YtjdeobifhgdffaaDoorMoveI
import Derived.Test.YtjdeobifhgdffaaDoorThetaI
import Derived.WalkKit
import Derived.WalkLawsBesides
import Derived.WalkSmall
import Derived.WalkSpells
import Derived.RegionTactic
import Derived.BigRegion
import Derived.Deep.CutBlock
import Derived.Deep.DeepCutAuto
import Derived.KernelRfl
namespace Go.Proofs.YtjdeobifhgdffaaDoor
open Go.RowKit
set_option linter.unusedVariables false
attribute [local go_sem ↓] Go.wp_at_zero Go.wp_at_succ

theorem index24 (k : Nat) (hk : k < 24) (w : World) : (Instr.index 76 (.agg (vals rcs).toArray) (.int .i64 (k : Int))).run Tryd.prog w = .ok (.int .u64 (rcs.getD k 0 : Int)) w := by
  have hz : rcs.length = 24 := rfl
  have hn : (0 : Int) ≤ (k : Int) ∧ (k : Int) < ((24 : Nat) : Int) := by omega
  have hs : (sizeOf 48).run Tryd.prog w = .ok 1 w := by kernel_rfl
  have hv : (vals rcs)[k]? = some (.int .u64 (rcs.getD k 0 : Int)) := by
    rw [getDn_at rcs k (by omega)]
    simp [vals, hz, hk]
  generalize rcs.getD k 0 = c at hv ⊢
  generalize vals rcs = R at hv ⊢
  simp [Instr.index, run_underlying Tryd.underlying76, asIntOf, hn, go_sem, hs, hv]
  intro h
  omega

theorem load24 {w : World} (h : Laid w) : (Instr.loadAt 76 (.pointer (some ⟨0, 0, none⟩))).run Tryd.prog w = .ok (.agg (vals rcs).toArray) w := by
  refine run_loadAt_mid (P := Tryd.prog) w 0 0 76 (vals rcs) _ ?_ Tryd.underlying76 rfl (by rw [vals_length]; kernel_rfl)
  intro j v hj
  have hjl : j < 24 := by
    have := (List.getElem?_eq_some_iff.1 hj).1
    rw [vals_length] at this
    exact this
  rw [Nat.zero_add, h.2.1 j hjl, ← hj, getDn_at rcs j hjl]
  have hz : rcs.length = 24 := rfl
  simp only [vals, List.getElem?_map, List.getElem?_eq_getElem (show j < rcs.length from hjl), Option.map_some]
  rfl

set_option maxRecDepth 100000 in
set_option maxHeartbeats 1000000 in
theorem mix_any (Z : List Nat) (hZ : Lanes Z) (w : World) (hv : Laid w) :
    Calls Tryd.prog 46 #[.agg (vals Z).toArray] w fun e w' => e = .returned (.agg (vals (mixAt Z 24)).toArray) ∧ Below w.heap.size w w' := by
  have HZL := hide hZ
  have HVV := hide hv
  have zlen := hZ.1
  have w2s := hv.1
  clear hZ hv
  generalize hM : mixAt Z 24 = M
  have HM := hide hM
  clear hM
  generalize hV : vals Z = V
  have HV := hide hV
  clear hV
  go_enter Tryd.func46, Tryd.ntmps46
  go_upto_region 1 with fail
  obtain ⟨w1, hw1⟩ : ∃ w1, w1 = (w.alloc (.cells V.toArray 50)).alloc (.cells (vals (List.replicate 25 0)).toArray 50) := ⟨_, rfl⟩
  have e1 : (w.alloc (.cells V.toArray 50)).alloc (.cells #[.int .u64 0, .int .u64 0, .int .u64 0, .int .u64 0, .int .u64 0, .int .u64 0, .int .u64 0, .int .u64 0, .int .u64 0, .int .u64 0, .int .u64 0, .int .u64 0, .int .u64 0, .int .u64 0, .int .u64 0, .int .u64 0, .int .u64 0, .int .u64 0, .int .u64 0, .int .u64 0, .int .u64 0, .int .u64 0, .int .u64 0, .int .u64 0, .int .u64 0] 50) = w1 := by rw [hw1]; rfl
  rw [e1]
  have G1 : Below w.heap.size w w1 := by rw [hw1]; exact (below_alloc w _).alloc (by simp) _
  have S1 : UBlk w1 w.heap.size (mixAt Z 0) 50 := by
    show UBlk w1 w.heap.size Z 50
    rw [hw1, ← unhide HV]
    exact (UBlk.new w Z _).next _
  have R1 : UBlk w1 (w.heap.size + 1) (List.replicate 25 0) 50 := by
    have := UBlk.new (w.alloc (.cells V.toArray 50)) (List.replicate 25 0) 50
    rw [hw1]
    simpa using this
  have HLR := hide (load24 ((unhide HVV).below G1 (Nat.le_refl _)))
  have HIX := hide index24
  generalize vals rcs = RC at HLR HIX
  have HS := hide S1
  have HR := hide R1
  have HG := hide G1
  clear e1 hw1 S1 R1 G1
  go_wp2_with (refine wpList_load_eq rfl 76 _ rfl _ _ rfl (unhide HLR) ?_)
  clear HLR
  go_loopw [6] (fun c wr => ∃ k : Nat, k ≤ 24 ∧ c = .int .i64 k ∧ UBlk wr w.heap.size (mixAt Z k) 50 ∧ UBlk wr (w.heap.size + 1) (List.replicate 25 0) 50 ∧ Below w.heap.size w wr)
    (fun c _ => 24 - (intOf c).toNat)
  case atStart => exact ⟨0, by omega, rfl, unhide HS, unhide HR, unhide HG⟩
  case round =>
    obtain ⟨k, hk, rfl, hS, hR, hG⟩ := hrel
    clear HS HR HG
    have hsl := mixAt_lanes (unhide HZL) k
    by_cases hlt : k < 24
    · have hdk : decide ((k : Int) < 24) = true := decide_eq_true (by omega)
      have hidx := (unhide HIX) k hlt
      have hcl := rcs_lt k
      have hsucc := mixAt_succ Z k
      generalize mixAt Z k = S at hS hsl hsucc
      generalize rcs.getD k 0 = c at hidx hcl hsucc
      have HRF := hide (show roundF S = chi (bAt (theta S) 25) from rfl)
      have HTH := hide (theta_any S hsl)
      have htl := theta_lanes hsl
      have hrl := roundF_lanes hsl
      have hbl := bAt_lanes htl 25
      have HMV := hide (fun W hW => move_any (theta S) htl W hW)
      have HCR := hide (fun W => cross_any (bAt (theta S) 25) hbl W)
      have HLD := hide (load25 hS hsl.1)
      rw [unhide HRF] at hrl
      have hsucc2 : mixAt Z (k + 1) = (chi (bAt (theta S) 25)).set 0 ((chi (bAt (theta S) 25)).getD 0 0 ^^^ c) := by rw [hsucc]; rfl
      clear HRF hsucc
      generalize chi (bAt (theta S) 25) = CS at HCR hrl hsucc2
      generalize bAt (theta S) 25 = BS at HMV HCR hbl
      generalize theta S = TS at HTH HMV htl
      have S6len := hsl.1
      have HSS := hide hS
      have HRR := hide hR
      have HGG := hide hG
      have HS2 := hide hsucc2
      have HHL := hide hrl
      clear hS hR hG hsucc2 hrl htl hbl hsl
      go_wp2_with (refine wpList_load_eq rfl 50 _ rfl _ _ rfl (unhide HLD) ?_)
      refine ((unhide HTH) _).mono ?_
      rintro e w4 ⟨rfl, b4⟩
      have G4 := (unhide HGG).trans (b4.mono (unhide HGG).size)
      have HV4 := hide ((unhide HVV).below G4 (Nat.le_refl _))
      go_wp2_with fail
      refine ((unhide HMV) _ (unhide HV4)).mono ?_
      rintro e w5 ⟨rfl, b5⟩
      go_wp2_with fail
      refine ((unhide HCR) _).mono ?_
      rintro e w6 ⟨rfl, b6⟩
      have b456 := (b4.trans (b5.mono b4.size)).trans (b6.mono (b4.trans (b5.mono b4.size)).size)
      have S6 := (unhide HSS).below b456 (unhide HSS).lt
      have R6 := (unhide HRR).below b456 (unhide HRR).lt
      have G6 := (unhide HGG).trans (b456.mono (unhide HGG).size)
      obtain ⟨w7, hst, S7, K7, O7⟩ := store25 S6 S6len (unhide HHL).1
      have R7 : UBlk w7 (w.heap.size + 1) (List.replicate 25 0) 50 := by
        unfold UBlk
        rw [O7 _ (by omega)]
        exact R6
      have G7 := G6.trans (K7 w.heap.size (Nat.le_refl _))
      have c0 := S7.cell 0 (by rw [(unhide HHL).1]; omega)
      have f0 := S7.free 0
      have hx := u64_xor_nat (CS.getD 0 0) c (getD_lt (unhide HHL).2 (by decide) _) hcl
      have HS8 := hide (S7.set 0 (CS.getD 0 0 ^^^ c))
      rw [← unhide HS2] at HS8
      have HR8 := hide (R7.other (b' := w.heap.size) 0 (.int .u64 ((CS.getD 0 0 ^^^ c : Nat) : Int)) (by omega))
      have HG8 := hide (G7.setCell (p := ⟨w.heap.size, 0, none⟩) (Nat.le_refl _) (.int .u64 ((CS.getD 0 0 ^^^ c : Nat) : Int)))
      generalize CS.getD 0 0 = g at c0 hx HS8 HR8 HG8
      have HST := hide hst
      clear b4 b5 b6 b456 S6 R6 G6 S7 K7 O7 R7 G7 G4 hst HSS HRR HGG HS2 HTH HMV HCR HLD HV4
      go_wp2_with (refine wpList_store_eq rfl 50 _ _ rfl _ _ rfl rfl w7 (unhide HST) ?_)
      go_roundw
      case rel => exact ⟨k + 1, by omega, by go_num, unhide HS8, unhide HR8, unhide HG8⟩
      case measure => simp [intOf]; omega
    · obtain rfl : k = 24 := by omega
      have hdk : decide (((24 : Nat) : Int) < 24) = false := rfl
      have mlen := hsl.1
      rw [unhide HM] at hS mlen
      have HLD := hide (load25 hS mlen)
      obtain ⟨w3, hst, R3, K3, _⟩ := store25 hR (by simp) mlen
      have HST := hide hst
      have HR3 := hide R3
      have HG3 := hide (hG.trans (K3 w.heap.size (by omega)))
      clear hS hR hG hst R3 K3 hsl
      go_wp2_with (first | refine wpList_load_eq rfl 50 _ rfl _ _ rfl (unhide HLD) ?_ | refine wpList_store_eq rfl 50 _ _ rfl _ _ rfl rfl w3 (unhide HST) ?_)
      exact bodyPost_ret (results_cell_row rfl _ _ (w.heap.size + 1) 50 _ (0, 0) _ rfl (unhide HR3) Tryd.underlying50 rfl (by rw [List.size_toArray, vals_length, mlen]; kernel_rfl)) rfl ⟨rfl, unhide HG3⟩

end Go.Proofs.YtjdeobifhgdffaaDoor
