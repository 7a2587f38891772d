/- What is proved here: what the program's laneAt and soakBlock answer, told by lanes. -/
import Derived.Test.YtjdeobifhgdffaaDoorMixI
import Derived.Test.YtjdeobifhgdffaaDoorKcF
import Derived.Test.YtjdeobifhgdffaaDoorLaneImpl
import Derived.Deep.DeepCutAuto
import Derived.Deep.RegionWith
import Derived.BigRegion
import Derived.Laws.Bits64b
namespace Go.Proofs.YtjdeobifhgdffaaDoor
open Go.RowKit
set_option linter.unusedVariables false
attribute [local go_sem ↓] Go.wp_at_zero Go.wp_at_succ

theorem or_low (b : Nat → Nat) (hb : ∀ i, b i < 256) (k : Nat) (hk : k < 8) : bits .or .u64 (lowB b k : Int) ((b k * 2 ^ (8 * k) : Nat) : Int) = (lowB b (k + 1) : Int) := by
  have h1 := lowB_lt b hb k
  have h2 := lowB_lt b hb (k + 1)
  have h3 : 2 ^ (8 * (k + 1)) ≤ 2 ^ 64 := Nat.pow_le_pow_right (by decide) (by omega)
  have h4 : lowB b (k + 1) = lowB b k + b k * 2 ^ (8 * k) := rfl
  have e := or_join (b k * 2 ^ (8 * k)) (lowB b k) (8 * k) (Nat.mul_mod_left _ _) h1 (by omega) (by omega)
  rw [bits_or_u64_nat _ _ (by omega) (by omega)] at e
  rw [bits_or_u64_nat _ _ (by omega) (by omega), Nat.or_comm, e, h4, Nat.add_comm]

set_option maxHeartbeats 1000000 in
theorem laneAt_any (b off n cap p : Nat) (bs : List Int) (w : World) (h : BRow w (some ⟨b, off, none⟩) n bs) (hn : n ≤ 1048576) (hp : p + 8 ≤ n) :
    Calls Tryd.prog 51 #[.slice (some ⟨b, off, none⟩) n cap, .int .i64 (p : Int)] w fun e w' => e = .returned (.int .u64 (laneB bs p : Int)) ∧ w' = w := by
  have HX := hide h
  have HB := hide (byteN_lt h.2.1 p)
  have HC := hide (byteN_cast h.2.1 p)
  have HLB := hide (show laneB bs p = lowB (byteN bs p) 8 from rfl)
  generalize laneB bs p = LB at HLB ⊢
  generalize hf : byteN bs p = f at HB HC HLB
  clear h hf
  go_enter Tryd.func51, Tryd.ntmps51
  go_wp2_with fail
  go_loop [5, 7] (fun l i => ∃ k : Nat, k ≤ 8 ∧ i = .int .i64 k ∧ l = .int .u64 (lowB f k : Int)) (fun _ i => 8 - (intOf i).toNat)
  case atStart => exact ⟨0, by omega, rfl, rfl⟩
  case round =>
    obtain ⟨k, hk, rfl, rfl⟩ := hrel
    by_cases hlt : k < 8
    · have hcx : w.cell? ⟨b, off + (p + k), none⟩ = some (.int .u8 (bs.getD (p + k) 0)) := by
        have := (unhide HX).2.2.2 _ rfl (p + k) (by omega)
        rwa [add_none] at this
      rw [← (unhide HC) k] at hcx
      have HO := hide (or_low f (unhide HB) k hlt)
      have hpw : f k * 2 ^ (8 * k) < 18446744073709551616 := by
        have h2 := lowB_lt f (unhide HB) (k + 1)
        have h3 : 2 ^ (8 * (k + 1)) ≤ 2 ^ 64 := Nat.pow_le_pow_right (by decide) (by omega)
        have h4 : lowB f (k + 1) = lowB f k + f k * 2 ^ (8 * k) := rfl
        omega
      have HPW := hide hpw
      clear hpw
      have hx := (unhide HB) k
      generalize f k = x at hcx HO hx HPW
      obtain ⟨q, hq⟩ : ∃ q, q = p + k := ⟨_, rfl⟩
      rw [← hq] at hcx
      obtain ⟨s, hs⟩ : ∃ s, s = 8 * k := ⟨_, rfl⟩
      rw [← hs] at HO HPW
      have m0 : (p : Int) + (k : Int) = (q : Int) := by omega
      have m1 : 8 * (k : Int) = (s : Int) := by omega
      have y0 : IntKind.i64.wrap (q : Int) = (q : Int) := i64_fits _ (by omega) (by omega)
      have y1 : IntKind.i64.wrap (s : Int) = (s : Int) := i64_fits _ (by omega) (by omega)
      have j0 : (0 : Int) ≤ (q : Int) := by omega
      have j1 : (q : Int) < (n : Int) := by omega
      have j2 : (0 : Int) ≤ (s : Int) := by omega
      have hdk : decide ((k : Int) < 8) = true := decide_eq_true (by omega)
      have hs64 : s < 64 := by omega
      clear hq hs
      go_wp2_with fail
      refine ⟨⟨k + 1, by omega, by go_num, ?_⟩, by simp [intOf]; omega⟩
      rw [wraps_u64 _ (Int.mul_nonneg (by omega) (by exact_mod_cast Nat.zero_le (2 ^ s))) (by exact_mod_cast (unhide HPW)), ← unhide HO]
      simp
    · obtain rfl : k = 8 := by omega
      have hdk : decide (((8 : Nat) : Int) < 8) = false := rfl
      go_wp2_with fail
      go_ret
      exact ⟨by rw [unhide HLB]; rfl, rfl⟩

set_option maxRecDepth 100000 in
set_option maxHeartbeats 2000000 in
theorem soak_any (Z : List Nat) (hZ : Lanes Z) (b off n cap : Nat) (bs : List Int) (w : World) (h : BRow w (some ⟨b, off, none⟩) n bs) (hn : n ≤ 1048576) (hn2 : 136 ≤ n) (hv : Laid w) :
    Calls Tryd.prog 32 #[.agg (vals Z).toArray, .slice (some ⟨b, off, none⟩) n cap] w fun e w' => e = .returned (.agg (vals (mixAt (soakAt Z bs 0 17) 24)).toArray) ∧ Below w.heap.size w w' := by
  have HLA := hide (fun (p : Nat) (hp : p + 8 ≤ n) (W : World) (hW : Below w.heap.size w W) => laneAt_any b off n cap p bs W (h.below hW (Nat.le_refl _)) hn hp)
  have HLB := hide (laneB_lt h.2.1)
  have HSL := hide (soakAt_lanes hZ h.2.1 0)
  have HSS := hide (fun i => show soakAt Z bs 0 (i + 1) = (soakAt Z bs 0 i).set i ((soakAt Z bs 0 i).getD i 0 ^^^ laneB bs (0 + i * 8)) from rfl)
  have HMX := hide (fun W hW => mix_any (soakAt Z bs 0 17) ((unhide HSL) 17) W hW)
  have HML := hide (mixAt_lanes ((unhide HSL) 17) 24)
  have HVV := hide hv
  have h0 : soakAt Z bs 0 0 = Z := rfl
  have H0 := hide h0
  clear h hv hZ h0
  generalize mixAt (soakAt Z bs 0 17) 24 = M at HMX HML
  generalize soakAt Z bs 0 = S at HSL HSS HMX H0
  generalize hV : vals Z = V
  have HV := hide hV
  clear hV
  go_enter Tryd.func32, Tryd.ntmps32
  go_upto_region 1 with fail
  obtain ⟨w1, hw1⟩ : ∃ w1, w1 = (w.alloc (.cells V.toArray 50)).alloc (.cells (vals (List.replicate 25 0)).toArray 50) := ⟨_, rfl⟩
  have e1 : (w.alloc (.cells V.toArray 50)).alloc (.cells #[.int .u64 0, .int .u64 0, .int .u64 0, .int .u64 0, .int .u64 0, .int .u64 0, .int .u64 0, .int .u64 0, .int .u64 0, .int .u64 0, .int .u64 0, .int .u64 0, .int .u64 0, .int .u64 0, .int .u64 0, .int .u64 0, .int .u64 0, .int .u64 0, .int .u64 0, .int .u64 0, .int .u64 0, .int .u64 0, .int .u64 0, .int .u64 0, .int .u64 0] 50) = w1 := by rw [hw1]; rfl
  rw [e1]
  have G1 : Below w.heap.size w w1 := by rw [hw1]; exact (below_alloc w _).alloc (by simp) _
  have S1 : UBlk w1 w.heap.size (S 0) 50 := by
    rw [unhide H0, hw1, ← unhide HV]
    exact (UBlk.new w Z _).next _
  have R1 : UBlk w1 (w.heap.size + 1) (List.replicate 25 0) 50 := by
    have := UBlk.new (w.alloc (.cells V.toArray 50)) (List.replicate 25 0) 50
    rw [hw1]
    simpa using this
  have HS := hide S1
  have HR := hide R1
  have HG := hide G1
  clear e1 hw1 S1 R1 G1
  go_wp2_with fail
  go_loopw [6] (fun c wr => ∃ k : Nat, k ≤ 17 ∧ c = .int .i64 k ∧ UBlk wr w.heap.size (S k) 50 ∧ UBlk wr (w.heap.size + 1) (List.replicate 25 0) 50 ∧ Below w.heap.size w wr)
    (fun c _ => 17 - (intOf c).toNat)
  case atStart => exact ⟨0, by omega, rfl, unhide HS, unhide HR, unhide HG⟩
  case round =>
    obtain ⟨k, hk, rfl, hS, hR, hG⟩ := hrel
    clear HS HR HG
    have hsl := (unhide HSL) k
    by_cases hlt : k < 17
    · have hdk : decide ((k : Int) < 17) = true := decide_eq_true (by omega)
      have hsucc := (unhide HSS) k
      rw [Nat.zero_add] at hsucc
      have hz64 : (S k).getD k 0 < 18446744073709551616 := getD_lt hsl.2 (by decide) _
      obtain ⟨q, hq⟩ : ∃ q, q = k * 8 := ⟨_, rfl⟩
      rw [← hq] at hsucc
      have HL8 := hide ((unhide HLA) q (by omega))
      have hl64 := (unhide HLB) q
      have n0 := UBlk.cell hS k (by rw [hsl.1]; omega)
      have f0 := UBlk.free hS k
      generalize laneB bs q = l at hsucc HL8 hl64
      have HS3 := hide (UBlk.set hS k ((S k).getD k 0 ^^^ l))
      rw [← hsucc] at HS3
      generalize (S k).getD k 0 = z at n0 hz64 HS3
      have hx := u64_xor_nat z l hz64 hl64
      have HR3 := hide (hR.other (b' := w.heap.size) k (.int .u64 ((z ^^^ l : Nat) : Int)) (by omega))
      have HG3 := hide (hG.setCell (p := ⟨w.heap.size, k, none⟩) (Nat.le_refl _) (.int .u64 ((z ^^^ l : Nat) : Int)))
      have HGG := hide hG
      have m0 : (k : Int) * 8 = (q : Int) := by omega
      have y0 : IntKind.i64.wrap (q : Int) = (q : Int) := i64_fits _ (by omega) (by omega)
      have ik1 : (0 : Int) ≤ (k : Int) := by omega
      have ik2 : (k : Int) < 25 := by omega
      clear hq hS hR hG hsl hsucc hz64 hl64
      go_upto_region 4 with fail
      go_region_with (first | (go_at_call 51; refine ((unhide HL8) _ (by first | exact unhide HGG | exact (unhide HGG).drew)).mono ?_; rintro e w6 ⟨rfl, rfl⟩))
      all_goals
        go_wp2_with fail
        go_roundw
        case rel => exact ⟨k + 1, by omega, by go_num, unhide HS3, unhide HR3, (unhide HG3).drew⟩
        case measure => simp [intOf]; omega
    · obtain rfl : k = 17 := by omega
      have hdk : decide (((17 : Nat) : Int) < 17) = false := rfl
      have HLD := hide (load25 hS hsl.1)
      have HMY := hide ((unhide HMX) wr ((unhide HVV).below hG (Nat.le_refl _)))
      have HRR := hide hR
      have HGG := hide hG
      have mlen := (unhide HML).1
      clear hS hR hG hsl
      go_wp2_with (refine wpList_load_eq rfl 50 _ rfl _ _ rfl (unhide HLD) ?_)
      refine (unhide HMY).mono ?_
      rintro e w4 ⟨rfl, b4⟩
      obtain ⟨w3, hst, R3, K3, _⟩ := store25 ((unhide HRR).below b4 (unhide HRR).lt) (by simp) mlen
      have HST := hide hst
      have HR3 := hide R3
      have G4 := (unhide HGG).trans (b4.mono (unhide HGG).size)
      have HG3 := hide (G4.trans (K3 w.heap.size (by omega)))
      clear hst R3 K3 b4 G4 HMY HLD
      go_wp2_with (refine wpList_store_eq rfl 50 _ _ rfl _ _ rfl rfl w3 (unhide HST) ?_)
      exact bodyPost_ret (results_cell_row rfl _ _ (w.heap.size + 1) 50 _ (0, 0) _ rfl (unhide HR3) Tryd.underlying50 rfl (by rw [List.size_toArray, vals_length, mlen]; kernel_rfl)) rfl ⟨rfl, unhide HG3⟩

end Go.Proofs.YtjdeobifhgdffaaDoor
