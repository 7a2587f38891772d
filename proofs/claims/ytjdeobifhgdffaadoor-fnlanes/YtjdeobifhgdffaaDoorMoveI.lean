/- What is proved here: the program's step that moves and turns the lanes, told by lanes; the variable of the offsets reads as the program's text lays it. -/
import Derived.Test.YtjdeobifhgdffaaDoorChecked
import Derived.Test.YtjdeobifhgdffaaDoorBase
import Derived.Test.YtjdeobifhgdffaaDoorKMath
import Derived.Test.YtjdeobifhgdffaaDoorURow2
import Derived.Test.YtjdeobifhgdffaaDoorLaneImpl
import Derived.WalkKit
import Derived.WalkLawsBesides
import Derived.WalkSmall
import Derived.WalkSpells
import Derived.RegionTactic
import Derived.BigRegion
import Derived.Deep.RegionWith
import Derived.Deep.CutBlock
import Derived.Deep.DeepCutAuto
import Derived.KernelRfl
namespace Go.Proofs.YtjdeobifhgdffaaDoor
open Go.RowKit
set_option linter.unusedVariables false
attribute [local go_sem ↓] Go.wp_at_zero Go.wp_at_succ

/-- The two variables read as the program's text lays them (the blocks 0 and 1 are theirs). -/
def Laid (w : World) : Prop := (2 ≤ w.heap.size) ∧ (∀ i, i < 24 → w.cell? ⟨0, i, none⟩ = some (.int .u64 (rcs.getD i 0 : Int))) ∧ ∀ i, i < 25 → w.cell? ⟨1, i, none⟩ = some (.int .i64 (offN.getD i 0 : Int))

theorem Laid.below {w w' : World} (h : Laid w) {B : Nat} (hb : Below B w w') (hB : w.heap.size ≤ B) : Laid w' := by
  have hsz := hb.size
  have h2 := h.1
  refine ⟨by omega, fun i hi => ?_, fun i hi => ?_⟩
  · rw [hb.cell (p := ⟨0, i, none⟩) (by show 0 < B; omega)]; exact h.2.1 i hi
  · rw [hb.cell (p := ⟨1, i, none⟩) (by show 1 < B; omega)]; exact h.2.2 i hi

set_option maxRecDepth 100000 in
set_option maxHeartbeats 1000000 in
theorem move_any (T : List Nat) (hT : Lanes T) (w : World) (hv : Laid w) :
    Calls Tryd.prog 57 #[.agg (vals T).toArray] w fun e w' => e = .returned (.agg (vals (bAt T 25)).toArray) ∧ Below w.heap.size w w' := by
  have HTL := hide hT
  have HVV := hide hv
  have tlen := hT.1
  have w2s := hv.1
  clear hT hv
  generalize hM : bAt T 25 = M
  have HM := hide hM
  clear hM
  generalize hV : vals T = V
  have HV := hide hV
  clear hV
  go_enter Tryd.func57, Tryd.ntmps57
  go_upto_block 0 with fail
  obtain ⟨w1, hw1⟩ : ∃ w1, w1 = ((w.alloc (.cells V.toArray 50)).alloc (.cells (vals (List.replicate 25 0)).toArray 50)).alloc (.cells (vals (List.replicate 25 0)).toArray 50) := ⟨_, rfl⟩
  have e1 : ((w.alloc (.cells V.toArray 50)).alloc (.cells #[.int .u64 0, .int .u64 0, .int .u64 0, .int .u64 0, .int .u64 0, .int .u64 0, .int .u64 0, .int .u64 0, .int .u64 0, .int .u64 0, .int .u64 0, .int .u64 0, .int .u64 0, .int .u64 0, .int .u64 0, .int .u64 0, .int .u64 0, .int .u64 0, .int .u64 0, .int .u64 0, .int .u64 0, .int .u64 0, .int .u64 0, .int .u64 0, .int .u64 0] 50)).alloc (.cells #[.int .u64 0, .int .u64 0, .int .u64 0, .int .u64 0, .int .u64 0, .int .u64 0, .int .u64 0, .int .u64 0, .int .u64 0, .int .u64 0, .int .u64 0, .int .u64 0, .int .u64 0, .int .u64 0, .int .u64 0, .int .u64 0, .int .u64 0, .int .u64 0, .int .u64 0, .int .u64 0, .int .u64 0, .int .u64 0, .int .u64 0, .int .u64 0, .int .u64 0] 50) = w1 := by rw [hw1]; rfl
  rw [e1]
  have G1 : Below w.heap.size w w1 := by rw [hw1]; exact ((below_alloc w _).alloc (by simp) _).alloc (by simp; omega) _
  have S1 : UBlk w1 w.heap.size T 50 := by
    rw [hw1, ← unhide HV]
    exact ((UBlk.new w T _).next _).next _
  have R1 : UBlk w1 (w.heap.size + 1) (List.replicate 25 0) 50 := by
    have := (UBlk.new (w.alloc (.cells V.toArray 50)) (List.replicate 25 0) 50).next (.cells (vals (List.replicate 25 0)).toArray 50)
    rw [hw1]
    simpa using this
  have O1 : UBlk w1 (w.heap.size + 1 + 1) (bAt T 0) 50 := by
    have := UBlk.new ((w.alloc (.cells V.toArray 50)).alloc (.cells (vals (List.replicate 25 0)).toArray 50)) (List.replicate 25 0) 50
    have hs : ((w.alloc (.cells V.toArray 50)).alloc (.cells (vals (List.replicate 25 0)).toArray 50)).heap.size = w.heap.size + 1 + 1 := by simp
    rw [hs, ← hw1] at this
    exact this
  obtain ⟨q, hq⟩ : ∃ q, q = w.heap.size + 1 + 1 := ⟨_, rfl⟩
  rw [← hq] at O1 ⊢
  have D1 : w.heap.size + 1 < q := by omega
  clear hq
  have HS := hide S1
  have HR := hide R1
  have HO := hide O1
  have HG := hide G1
  clear e1 hw1 S1 R1 O1 G1
  go_wp2_with fail
  go_loopw [8] (fun c wr => ∃ Y : Nat, Y ≤ 5 ∧ c = .int .i64 Y ∧ UBlk wr w.heap.size T 50 ∧ UBlk wr (w.heap.size + 1) (List.replicate 25 0) 50 ∧ UBlk wr (q) (bAt T (5 * Y)) 50 ∧ Below w.heap.size w wr)
    (fun c _ => 5 - (intOf c).toNat)
  case atStart => exact ⟨0, by omega, rfl, unhide HS, unhide HR, unhide HO, unhide HG⟩
  case round =>
    obtain ⟨Y, hY, rfl, hS, hR, hO, hG⟩ := hrel
    clear HS HR HO HG
    have HS := hide hS
    have HR := hide hR
    have HO := hide hO
    have HG := hide hG
    clear hS hR hO hG
    by_cases hlt : Y < 5
    · have hdk : decide ((Y : Int) < 5) = true := decide_eq_true (by omega)
      go_wp2_with fail
      go_loopw [11] (fun c wr => ∃ X : Nat, X ≤ 5 ∧ c = .int .i64 X ∧ UBlk wr w.heap.size T 50 ∧ UBlk wr (w.heap.size + 1) (List.replicate 25 0) 50 ∧ UBlk wr (q) (bAt T (5 * Y + X)) 50 ∧ Below w.heap.size w wr)
        (fun c _ => 5 - (intOf c).toNat)
      case atStart => exact ⟨0, by omega, rfl, unhide HS, unhide HR, unhide HO, unhide HG⟩
      case round =>
        obtain ⟨X, hX, rfl, hS, hR, hO, hG⟩ := hrel
        clear HS HR HO HG
        by_cases hx5 : X < 5
        · have hdx : decide ((X : Int) < 5) = true := decide_eq_true (by omega)
          obtain ⟨k, hk⟩ : ∃ k, k = 5 * Y + X := ⟨_, rfl⟩
          rw [← hk] at hO
          obtain ⟨r, hr⟩ : ∃ r, r = (2 * X + 3 * Y) % 5 := ⟨_, rfl⟩
          obtain ⟨p, hp⟩ : ∃ p, p = Y + 5 * r := ⟨_, rfl⟩
          have hpos : posOf k = p := by
            unfold posOf
            rw [show k % 5 = X by omega, show k / 5 = Y by omega, ← hr, ← hp]
          have hbl := bAt_lanes (unhide HTL) k
          have c0 := hS.cell k (by omega)
          have n0 := hO.cell p (by rw [hbl.1]; omega)
          have f0 := hO.free p
          have hl0 := (((unhide HVV).below hG (Nat.le_refl _)).2.2) k (by omega)
          have hoff := offN_le k
          have lt0 : T.getD k 0 < 18446744073709551616 := getD_lt (unhide HTL).2 (by decide) _
          have hsucc := bAt_succ T k
          rw [hpos] at hsucc
          generalize T.getD k 0 = v at c0 hsucc lt0
          generalize offN.getD k 0 = n at hl0 hsucc hoff
          generalize (bAt T k).getD p 0 = u at n0
          have HO5 := hide (hO.set p (rotL v n))
          rw [← hsucc] at HO5
          have HS5 := hide (hS.other (b' := q) p (.int .u64 (rotL v n : Int)) (by omega))
          have HR5 := hide (hR.other (b' := q) p (.int .u64 (rotL v n : Int)) (by omega))
          have HG5 := hide (hG.setCell (p := ⟨q, p, none⟩) (by show w.heap.size ≤ q; omega) (.int .u64 (rotL v n : Int)))
          have HRT := hide (rotl_any v n lt0 hoff)
          have ek : (X : Int) + 5 * (Y : Int) = (k : Int) := by omega
          have er : (2 * (X : Int) + 3 * (Y : Int)).tmod 5 = (r : Int) := by rw [Int.tmod_eq_emod_of_nonneg (by omega)]; omega
          have er' : (2 * (X : Int) + 3 * (Y : Int)) % 5 = (r : Int) := by omega
          have ep : (Y : Int) + 5 * (r : Int) = (p : Int) := by omega
          have i0 : (k : Int) < 25 := by omega
          have i1 : (p : Int) < 25 := by omega
          have hk' : 5 * Y + (X + 1) = k + 1 := by omega
          have HK' := hide hk'
          clear hS hR hO hG hsucc hk hr hp hk' hpos hbl hoff lt0
          go_wp2_with fail
          go_region_with (go_at_call 38; refine ((unhide HRT) _).mono ?_; rintro e w' ⟨rfl, rfl⟩)
          all_goals
            go_wp2_with fail
            go_roundw
            case rel => exact ⟨X + 1, by omega, by go_num, unhide HS5, unhide HR5, by rw [unhide HK']; exact unhide HO5, (unhide HG5).drew⟩
            case measure => simp [intOf]; omega
        · obtain rfl : X = 5 := by omega
          have hdx : decide (((5 : Nat) : Int) < 5) = false := rfl
          have hO' : UBlk wr (q) (bAt T (5 * (Y + 1))) 50 := hO
          go_wp2_with fail
          go_roundw
          case rel => exact ⟨Y + 1, by omega, by go_num, hS, hR, hO', hG⟩
          case measure => simp [intOf]; omega
    · obtain rfl : Y = 5 := by omega
      have hdk : decide (((5 : Nat) : Int) < 5) = false := rfl
      have clen := (bAt_lanes (unhide HTL) 25).1
      have hO : UBlk wr q (bAt T 25) 50 := unhide HO
      rw [unhide HM] at clen hO
      have HLD := hide (load25 hO clen)
      obtain ⟨w3, hst, R3, K3, _⟩ := store25 (unhide HR) (by simp) clen
      have HST := hide hst
      have HR3 := hide R3
      have HG3 := hide ((unhide HG).trans (K3 w.heap.size (by omega)))
      clear hO hst R3 K3 HS HO HG HR
      go_wp2_with (first | refine wpList_load_eq rfl 50 _ rfl _ _ rfl (unhide HLD) ?_ | refine wpList_store_eq rfl 50 _ _ rfl _ _ rfl rfl w3 (unhide HST) ?_)
      exact bodyPost_ret (results_cell_row rfl _ _ (w.heap.size + 1) 50 _ (0, 0) _ rfl (unhide HR3) Tryd.underlying50 rfl (by rw [List.size_toArray, vals_length, clen]; kernel_rfl)) rfl ⟨rfl, unhide HG3⟩

end Go.Proofs.YtjdeobifhgdffaaDoor
