/- What is proved here: the program's mixing of a state, all its rounds, told by lanes; the two variables read as the program's text lays them. -/
import Derived.Test.YtldiilmpmcbjkaaGreatDoorChecked
import Derived.Test.YtldiilmpmcbjkaaGreatDoorJ1
import Derived.Test.YtldiilmpmcbjkaaGreatDoorJ16
import Derived.Test.YtldiilmpmcbjkaaGreatDoorJ2
import Derived.WalkKit
import Derived.WalkLawsBesides
import Derived.WalkSmall
import Derived.WalkSpells
import Derived.RegionTactic
import Derived.BigRegion
import Derived.Deep.CutBlock
import Derived.Deep.DeepCutAuto
import Derived.KernelRfl
import Derived.Test.YtldiilmpmcbjkaaGreatDoorJ12
import Derived.Deep.RegionWith
import Derived.Laws.Bits64b
import Derived.Test.YtldiilmpmcbjkaaGreatDoorJ9
import Derived.Laws.BitsLemmas
import Derived.Laws.CopyOwn
import Derived.Laws.BitsAllLaws
namespace Go.Proofs.YtldiilmpmcbjkaaGreatDoor
open Go.RowKit
set_option linter.unusedVariables false
set_option maxRecDepth 100000
attribute [local go_sem ↓] Go.wp_at_zero Go.wp_at_succ

theorem index24 (k : Nat) (hk : k < 24) (w : World) : (Instr.index 176 (.agg (vals rcs).toArray) (.int .i64 (k : Int))).run Tryz.prog w = .ok (.int .u64 (rcs.getD k 0 : Int)) w := by
  have hz : rcs.length = 24 := rfl
  have hn : (0 : Int) ≤ (k : Int) ∧ (k : Int) < ((24 : Nat) : Int) := by omega
  have hs : (sizeOf 143).run Tryz.prog w = .ok 1 w := by kernel_rfl
  have hv : (vals rcs)[k]? = some (.int .u64 (rcs.getD k 0 : Int)) := by
    rw [getDn_at rcs k (by omega)]
    simp [vals, hz, hk]
  generalize rcs.getD k 0 = c at hv ⊢
  generalize vals rcs = R at hv ⊢
  simp [Instr.index, run_underlying Tryz.underlying176, asIntOf, hn, go_sem, hs, hv]
  intro h
  omega

theorem load24 {w : World} (h : Laid w) : (Instr.loadAt 176 (.pointer (some ⟨0, 0, none⟩))).run Tryz.prog w = .ok (.agg (vals rcs).toArray) w := by
  refine run_loadAt_mid (P := Tryz.prog) w 0 0 176 (vals rcs) _ ?_ Tryz.underlying176 rfl (by rw [vals_length]; kernel_rfl)
  intro j v hj
  have hjl : j < 24 := by
    have := (List.getElem?_eq_some_iff.1 hj).1
    rw [vals_length] at this
    exact this
  rw [Nat.zero_add, h.2.1 j hjl, ← hj, getDn_at rcs j hjl]
  have hz : rcs.length = 24 := rfl
  simp only [vals, List.getElem?_map, List.getElem?_eq_getElem (show j < rcs.length from hjl), Option.map_some]
  rfl

set_option maxRecDepth 100000 in
set_option maxHeartbeats 1000000 in
theorem mix_any (Z : List Nat) (hZ : Lanes Z) (w : World) (hv : Laid w) :
    Calls Tryz.prog 128 #[.agg (vals Z).toArray] w fun e w' => e = .returned (.agg (vals (mixAt Z 24)).toArray) ∧ Below w.heap.size w w' := by
  have HZL := hide hZ
  have HVV := hide hv
  have zlen := hZ.1
  have w2s := hv.1
  clear hZ hv
  generalize hM : mixAt Z 24 = M
  have HM := hide hM
  clear hM
  generalize hV : vals Z = V
  have HV := hide hV
  clear hV
  go_enter Tryz.func128, Tryz.ntmps128
  go_upto_region 1 with fail
  obtain ⟨w1, hw1⟩ : ∃ w1, w1 = (w.alloc (.cells V.toArray 145)).alloc (.cells (vals (List.replicate 25 0)).toArray 145) := ⟨_, rfl⟩
  have e1 : (w.alloc (.cells V.toArray 145)).alloc (.cells #[.int .u64 0, .int .u64 0, .int .u64 0, .int .u64 0, .int .u64 0, .int .u64 0, .int .u64 0, .int .u64 0, .int .u64 0, .int .u64 0, .int .u64 0, .int .u64 0, .int .u64 0, .int .u64 0, .int .u64 0, .int .u64 0, .int .u64 0, .int .u64 0, .int .u64 0, .int .u64 0, .int .u64 0, .int .u64 0, .int .u64 0, .int .u64 0, .int .u64 0] 145) = w1 := by rw [hw1]; rfl
  rw [e1]
  have G1 : Below w.heap.size w w1 := by rw [hw1]; exact (below_alloc w _).alloc (by simp) _
  have S1 : UBlk w1 w.heap.size (mixAt Z 0) 145 := by
    show UBlk w1 w.heap.size Z 145
    rw [hw1, ← unhide HV]
    exact (UBlk.new w Z _).next _
  have R1 : UBlk w1 (w.heap.size + 1) (List.replicate 25 0) 145 := by
    have := UBlk.new (w.alloc (.cells V.toArray 145)) (List.replicate 25 0) 145
    rw [hw1]
    simpa using this
  have HLR := hide (load24 ((unhide HVV).below G1 (Nat.le_refl _)))
  have HIX := hide index24
  generalize vals rcs = RC at HLR HIX
  have HS := hide S1
  have HR := hide R1
  have HG := hide G1
  clear e1 hw1 S1 R1 G1
  go_wp2_with (refine wpList_load_eq rfl 176 _ rfl _ _ rfl (unhide HLR) ?_)
  clear HLR
  go_loopw [6] (fun c wr => ∃ k : Nat, k ≤ 24 ∧ c = .int .i64 k ∧ UBlk wr w.heap.size (mixAt Z k) 145 ∧ UBlk wr (w.heap.size + 1) (List.replicate 25 0) 145 ∧ Below w.heap.size w wr)
    (fun c _ => 24 - (intOf c).toNat)
  case atStart => exact ⟨0, by omega, rfl, unhide HS, unhide HR, unhide HG⟩
  case round =>
    obtain ⟨k, hk, rfl, hS, hR, hG⟩ := hrel
    clear HS HR HG
    have hsl := mixAt_lanes (unhide HZL) k
    by_cases hlt : k < 24
    · have hdk : decide ((k : Int) < 24) = true := decide_eq_true (by omega)
      have hidx := (unhide HIX) k hlt
      have hcl := rcs_lt k
      have hsucc := mixAt_succ Z k
      generalize mixAt Z k = S at hS hsl hsucc
      generalize rcs.getD k 0 = c at hidx hcl hsucc
      have HRF := hide (show roundF S = chi (bAt (theta S) 25) from rfl)
      have HTH := hide (theta_any S hsl)
      have htl := theta_lanes hsl
      have hrl := roundF_lanes hsl
      have hbl := bAt_lanes htl 25
      have HMV := hide (fun W hW => move_any (theta S) htl W hW)
      have HCR := hide (fun W => cross_any (bAt (theta S) 25) hbl W)
      have HLD := hide (load25 hS hsl.1)
      rw [unhide HRF] at hrl
      have hsucc2 : mixAt Z (k + 1) = (chi (bAt (theta S) 25)).set 0 ((chi (bAt (theta S) 25)).getD 0 0 ^^^ c) := by rw [hsucc]; rfl
      clear HRF hsucc
      generalize chi (bAt (theta S) 25) = CS at HCR hrl hsucc2
      generalize bAt (theta S) 25 = BS at HMV HCR hbl
      generalize theta S = TS at HTH HMV htl
      have S6len := hsl.1
      have HSS := hide hS
      have HRR := hide hR
      have HGG := hide hG
      have HS2 := hide hsucc2
      have HHL := hide hrl
      clear hS hR hG hsucc2 hrl htl hbl hsl
      go_wp2_with (refine wpList_load_eq rfl 145 _ rfl _ _ rfl (unhide HLD) ?_)
      refine ((unhide HTH) _).mono ?_
      rintro e w4 ⟨rfl, b4⟩
      have G4 := (unhide HGG).trans (b4.mono (unhide HGG).size)
      have HV4 := hide ((unhide HVV).below G4 (Nat.le_refl _))
      go_wp2_with fail
      refine ((unhide HMV) _ (unhide HV4)).mono ?_
      rintro e w5 ⟨rfl, b5⟩
      go_wp2_with fail
      refine ((unhide HCR) _).mono ?_
      rintro e w6 ⟨rfl, b6⟩
      have b456 := (b4.trans (b5.mono b4.size)).trans (b6.mono (b4.trans (b5.mono b4.size)).size)
      have S6 := (unhide HSS).below b456 (unhide HSS).lt
      have R6 := (unhide HRR).below b456 (unhide HRR).lt
      have G6 := (unhide HGG).trans (b456.mono (unhide HGG).size)
      obtain ⟨w7, hst, S7, K7, O7⟩ := store25 S6 S6len (unhide HHL).1
      have R7 : UBlk w7 (w.heap.size + 1) (List.replicate 25 0) 145 := by
        unfold UBlk
        rw [O7 _ (by omega)]
        exact R6
      have G7 := G6.trans (K7 w.heap.size (Nat.le_refl _))
      have c0 := S7.cell 0 (by rw [(unhide HHL).1]; omega)
      have f0 := S7.free 0
      have hx := u64_xor_nat (CS.getD 0 0) c (getD_lt (unhide HHL).2 (by decide) _) hcl
      have HS8 := hide (S7.set 0 (CS.getD 0 0 ^^^ c))
      rw [← unhide HS2] at HS8
      have HR8 := hide (R7.other (b' := w.heap.size) 0 (.int .u64 ((CS.getD 0 0 ^^^ c : Nat) : Int)) (by omega))
      have HG8 := hide (G7.setCell (p := ⟨w.heap.size, 0, none⟩) (Nat.le_refl _) (.int .u64 ((CS.getD 0 0 ^^^ c : Nat) : Int)))
      generalize CS.getD 0 0 = g at c0 hx HS8 HR8 HG8
      have HST := hide hst
      clear b4 b5 b6 b456 S6 R6 G6 S7 K7 O7 R7 G7 G4 hst HSS HRR HGG HS2 HTH HMV HCR HLD HV4
      go_wp2_with (refine wpList_store_eq rfl 145 _ _ rfl _ _ rfl rfl w7 (unhide HST) ?_)
      go_roundw
      case rel => exact ⟨k + 1, by omega, by go_num, unhide HS8, unhide HR8, unhide HG8⟩
      case measure => simp [intOf]; omega
    · obtain rfl : k = 24 := by omega
      have hdk : decide (((24 : Nat) : Int) < 24) = false := rfl
      have mlen := hsl.1
      rw [unhide HM] at hS mlen
      have HLD := hide (load25 hS mlen)
      obtain ⟨w3, hst, R3, K3, _⟩ := store25 hR (by simp) mlen
      have HST := hide hst
      have HR3 := hide R3
      have HG3 := hide (hG.trans (K3 w.heap.size (by omega)))
      clear hS hR hG hst R3 K3 hsl
      go_wp2_with (first | refine wpList_load_eq rfl 145 _ rfl _ _ rfl (unhide HLD) ?_ | refine wpList_store_eq rfl 145 _ _ rfl _ _ rfl rfl w3 (unhide HST) ?_)
      exact bodyPost_ret (results_cell_row rfl _ _ (w.heap.size + 1) 145 _ (0, 0) _ rfl (unhide HR3) Tryz.underlying145 rfl (by rw [List.size_toArray, vals_length, mlen]; kernel_rfl)) rfl ⟨rfl, unhide HG3⟩

end Go.Proofs.YtldiilmpmcbjkaaGreatDoor

/- What is proved here: what the program's laneAt and soakBlock answer, told by lanes. -/
namespace Go.Proofs.YtldiilmpmcbjkaaGreatDoor
open Go.RowKit
set_option linter.unusedVariables false
set_option maxRecDepth 100000
attribute [local go_sem ↓] Go.wp_at_zero Go.wp_at_succ

theorem or_low (b : Nat → Nat) (hb : ∀ i, b i < 256) (k : Nat) (hk : k < 8) : bits .or .u64 (lowB b k : Int) ((b k * 2 ^ (8 * k) : Nat) : Int) = (lowB b (k + 1) : Int) := by
  have h1 := lowB_lt b hb k
  have h2 := lowB_lt b hb (k + 1)
  have h3 : 2 ^ (8 * (k + 1)) ≤ 2 ^ 64 := Nat.pow_le_pow_right (by decide) (by omega)
  have h4 : lowB b (k + 1) = lowB b k + b k * 2 ^ (8 * k) := rfl
  have e := or_join (b k * 2 ^ (8 * k)) (lowB b k) (8 * k) (Nat.mul_mod_left _ _) h1 (by omega) (by omega)
  rw [bits_or_u64_nat _ _ (by omega) (by omega)] at e
  rw [bits_or_u64_nat _ _ (by omega) (by omega), Nat.or_comm, e, h4, Nat.add_comm]

set_option maxHeartbeats 1000000 in
theorem laneAt_any (b off n cap p : Nat) (bs : List Int) (w : World) (h : BRow w (some ⟨b, off, none⟩) n bs) (hn : n ≤ 1048576) (hp : p + 8 ≤ n) :
    Calls Tryz.prog 127 #[.slice (some ⟨b, off, none⟩) n cap, .int .i64 (p : Int)] w fun e w' => e = .returned (.int .u64 (laneB bs p : Int)) ∧ w' = w := by
  have HX := hide h
  have HB := hide (byteN_lt h.2.1 p)
  have HC := hide (byteN_cast h.2.1 p)
  have HLB := hide (show laneB bs p = lowB (byteN bs p) 8 from rfl)
  generalize laneB bs p = LB at HLB ⊢
  generalize hf : byteN bs p = f at HB HC HLB
  clear h hf
  go_enter Tryz.func127, Tryz.ntmps127
  go_wp2_with fail
  go_loop [5, 7] (fun l i => ∃ k : Nat, k ≤ 8 ∧ i = .int .i64 k ∧ l = .int .u64 (lowB f k : Int)) (fun _ i => 8 - (intOf i).toNat)
  case atStart => exact ⟨0, by omega, rfl, rfl⟩
  case round =>
    obtain ⟨k, hk, rfl, rfl⟩ := hrel
    by_cases hlt : k < 8
    · have hcx : w.cell? ⟨b, off + (p + k), none⟩ = some (.int .u8 (bs.getD (p + k) 0)) := by
        have := (unhide HX).2.2.2 _ rfl (p + k) (by omega)
        rwa [add_none] at this
      rw [← (unhide HC) k] at hcx
      have HO := hide (or_low f (unhide HB) k hlt)
      have hpw : f k * 2 ^ (8 * k) < 18446744073709551616 := by
        have h2 := lowB_lt f (unhide HB) (k + 1)
        have h3 : 2 ^ (8 * (k + 1)) ≤ 2 ^ 64 := Nat.pow_le_pow_right (by decide) (by omega)
        have h4 : lowB f (k + 1) = lowB f k + f k * 2 ^ (8 * k) := rfl
        omega
      have HPW := hide hpw
      clear hpw
      have hx := (unhide HB) k
      generalize f k = x at hcx HO hx HPW
      obtain ⟨q, hq⟩ : ∃ q, q = p + k := ⟨_, rfl⟩
      rw [← hq] at hcx
      obtain ⟨s, hs⟩ : ∃ s, s = 8 * k := ⟨_, rfl⟩
      rw [← hs] at HO HPW
      have m0 : (p : Int) + (k : Int) = (q : Int) := by omega
      have m1 : 8 * (k : Int) = (s : Int) := by omega
      have y0 : IntKind.i64.wrap (q : Int) = (q : Int) := i64_fits _ (by omega) (by omega)
      have y1 : IntKind.i64.wrap (s : Int) = (s : Int) := i64_fits _ (by omega) (by omega)
      have j0 : (0 : Int) ≤ (q : Int) := by omega
      have j1 : (q : Int) < (n : Int) := by omega
      have j2 : (0 : Int) ≤ (s : Int) := by omega
      have hdk : decide ((k : Int) < 8) = true := decide_eq_true (by omega)
      have hs64 : s < 64 := by omega
      clear hq hs
      go_wp2_with fail
      refine ⟨⟨k + 1, by omega, by go_num, ?_⟩, by simp [intOf]; omega⟩
      rw [wraps_u64 _ (Int.mul_nonneg (by omega) (by exact_mod_cast Nat.zero_le (2 ^ s))) (by exact_mod_cast (unhide HPW)), ← unhide HO]
      simp
    · obtain rfl : k = 8 := by omega
      have hdk : decide (((8 : Nat) : Int) < 8) = false := rfl
      go_wp2_with fail
      go_ret
      exact ⟨by rw [unhide HLB]; rfl, rfl⟩

set_option maxRecDepth 100000 in
set_option maxHeartbeats 2000000 in
theorem soak_any (Z : List Nat) (hZ : Lanes Z) (b off n cap : Nat) (bs : List Int) (w : World) (h : BRow w (some ⟨b, off, none⟩) n bs) (hn : n ≤ 1048576) (hn2 : 136 ≤ n) (hv : Laid w) :
    Calls Tryz.prog 117 #[.agg (vals Z).toArray, .slice (some ⟨b, off, none⟩) n cap] w fun e w' => e = .returned (.agg (vals (mixAt (soakAt Z bs 0 17) 24)).toArray) ∧ Below w.heap.size w w' := by
  have HLA := hide (fun (p : Nat) (hp : p + 8 ≤ n) (W : World) (hW : Below w.heap.size w W) => laneAt_any b off n cap p bs W (h.below hW (Nat.le_refl _)) hn hp)
  have HLB := hide (laneB_lt h.2.1)
  have HSL := hide (soakAt_lanes hZ h.2.1 0)
  have HSS := hide (fun i => show soakAt Z bs 0 (i + 1) = (soakAt Z bs 0 i).set i ((soakAt Z bs 0 i).getD i 0 ^^^ laneB bs (0 + i * 8)) from rfl)
  have HMX := hide (fun W hW => mix_any (soakAt Z bs 0 17) ((unhide HSL) 17) W hW)
  have HML := hide (mixAt_lanes ((unhide HSL) 17) 24)
  have HVV := hide hv
  have h0 : soakAt Z bs 0 0 = Z := rfl
  have H0 := hide h0
  clear h hv hZ h0
  generalize mixAt (soakAt Z bs 0 17) 24 = M at HMX HML
  generalize soakAt Z bs 0 = S at HSL HSS HMX H0
  generalize hV : vals Z = V
  have HV := hide hV
  clear hV
  go_enter Tryz.func117, Tryz.ntmps117
  go_upto_region 1 with fail
  obtain ⟨w1, hw1⟩ : ∃ w1, w1 = (w.alloc (.cells V.toArray 145)).alloc (.cells (vals (List.replicate 25 0)).toArray 145) := ⟨_, rfl⟩
  have e1 : (w.alloc (.cells V.toArray 145)).alloc (.cells #[.int .u64 0, .int .u64 0, .int .u64 0, .int .u64 0, .int .u64 0, .int .u64 0, .int .u64 0, .int .u64 0, .int .u64 0, .int .u64 0, .int .u64 0, .int .u64 0, .int .u64 0, .int .u64 0, .int .u64 0, .int .u64 0, .int .u64 0, .int .u64 0, .int .u64 0, .int .u64 0, .int .u64 0, .int .u64 0, .int .u64 0, .int .u64 0, .int .u64 0] 145) = w1 := by rw [hw1]; rfl
  rw [e1]
  have G1 : Below w.heap.size w w1 := by rw [hw1]; exact (below_alloc w _).alloc (by simp) _
  have S1 : UBlk w1 w.heap.size (S 0) 145 := by
    rw [unhide H0, hw1, ← unhide HV]
    exact (UBlk.new w Z _).next _
  have R1 : UBlk w1 (w.heap.size + 1) (List.replicate 25 0) 145 := by
    have := UBlk.new (w.alloc (.cells V.toArray 145)) (List.replicate 25 0) 145
    rw [hw1]
    simpa using this
  have HS := hide S1
  have HR := hide R1
  have HG := hide G1
  clear e1 hw1 S1 R1 G1
  go_wp2_with fail
  go_loopw [6] (fun c wr => ∃ k : Nat, k ≤ 17 ∧ c = .int .i64 k ∧ UBlk wr w.heap.size (S k) 145 ∧ UBlk wr (w.heap.size + 1) (List.replicate 25 0) 145 ∧ Below w.heap.size w wr)
    (fun c _ => 17 - (intOf c).toNat)
  case atStart => exact ⟨0, by omega, rfl, unhide HS, unhide HR, unhide HG⟩
  case round =>
    obtain ⟨k, hk, rfl, hS, hR, hG⟩ := hrel
    clear HS HR HG
    have hsl := (unhide HSL) k
    by_cases hlt : k < 17
    · have hdk : decide ((k : Int) < 17) = true := decide_eq_true (by omega)
      have hsucc := (unhide HSS) k
      rw [Nat.zero_add] at hsucc
      have hz64 : (S k).getD k 0 < 18446744073709551616 := getD_lt hsl.2 (by decide) _
      obtain ⟨q, hq⟩ : ∃ q, q = k * 8 := ⟨_, rfl⟩
      rw [← hq] at hsucc
      have HL8 := hide ((unhide HLA) q (by omega))
      have hl64 := (unhide HLB) q
      have n0 := UBlk.cell hS k (by rw [hsl.1]; omega)
      have f0 := UBlk.free hS k
      generalize laneB bs q = l at hsucc HL8 hl64
      have HS3 := hide (UBlk.set hS k ((S k).getD k 0 ^^^ l))
      rw [← hsucc] at HS3
      generalize (S k).getD k 0 = z at n0 hz64 HS3
      have hx := u64_xor_nat z l hz64 hl64
      have HR3 := hide (hR.other (b' := w.heap.size) k (.int .u64 ((z ^^^ l : Nat) : Int)) (by omega))
      have HG3 := hide (hG.setCell (p := ⟨w.heap.size, k, none⟩) (Nat.le_refl _) (.int .u64 ((z ^^^ l : Nat) : Int)))
      have HGG := hide hG
      have m0 : (k : Int) * 8 = (q : Int) := by omega
      have y0 : IntKind.i64.wrap (q : Int) = (q : Int) := i64_fits _ (by omega) (by omega)
      have ik1 : (0 : Int) ≤ (k : Int) := by omega
      have ik2 : (k : Int) < 25 := by omega
      clear hq hS hR hG hsl hsucc hz64 hl64
      go_upto_region 4 with fail
      go_region_with (first | (go_at_call 127; refine ((unhide HL8) _ (by first | exact unhide HGG | exact (unhide HGG).drew)).mono ?_; rintro e w6 ⟨rfl, rfl⟩))
      all_goals
        go_wp2_with fail
        go_roundw
        case rel => exact ⟨k + 1, by omega, by go_num, unhide HS3, unhide HR3, (unhide HG3).drew⟩
        case measure => simp [intOf]; omega
    · obtain rfl : k = 17 := by omega
      have hdk : decide (((17 : Nat) : Int) < 17) = false := rfl
      have HLD := hide (load25 hS hsl.1)
      have HMY := hide ((unhide HMX) wr ((unhide HVV).below hG (Nat.le_refl _)))
      have HRR := hide hR
      have HGG := hide hG
      have mlen := (unhide HML).1
      clear hS hR hG hsl
      go_wp2_with (refine wpList_load_eq rfl 145 _ rfl _ _ rfl (unhide HLD) ?_)
      refine (unhide HMY).mono ?_
      rintro e w4 ⟨rfl, b4⟩
      obtain ⟨w3, hst, R3, K3, _⟩ := store25 ((unhide HRR).below b4 (unhide HRR).lt) (by simp) mlen
      have HST := hide hst
      have HR3 := hide R3
      have G4 := (unhide HGG).trans (b4.mono (unhide HGG).size)
      have HG3 := hide (G4.trans (K3 w.heap.size (by omega)))
      clear hst R3 K3 b4 G4 HMY HLD
      go_wp2_with (refine wpList_store_eq rfl 145 _ _ rfl _ _ rfl rfl w3 (unhide HST) ?_)
      exact bodyPost_ret (results_cell_row rfl _ _ (w.heap.size + 1) 145 _ (0, 0) _ rfl (unhide HR3) Tryz.underlying145 rfl (by rw [List.size_toArray, vals_length, mlen]; kernel_rfl)) rfl ⟨rfl, unhide HG3⟩

end Go.Proofs.YtldiilmpmcbjkaaGreatDoor

/- What is proved here: a load and a store by their runs' equations, as steps of a region that draws its order; and a part of a row of bytes. They hold for every program. -/
namespace Go.Proofs.YtldiilmpmcbjkaaGreatDoor
open Go.RowKit
set_option linter.unusedVariables false
set_option maxRecDepth 100000

theorem step_load_eq {P : Program} {ops : Array Oper} {o : Oper} {a : Act} {w : World} {K : Act → World → Prop} {Q : Exit → Act → World → Prop} {E : Prop} (hgd : o.guard = none) (ty : TypeId) (x : Operand) (ho : o.op = .load ty x)
    (p v : Value) (hx : a.eval x = p) (hrun : (Instr.loadAt ty p).run P w = .ok v w) (h : K (a.put o.dst v) w) : if Region.wanted o (yielded ops a.tmps) = true then Oper.wp P o a w K Q else E := by
  have hw : Region.wanted o (yielded ops a.tmps) = true := by simp [Region.wanted, hgd]
  rw [if_pos hw]
  unfold Oper.wp execOp
  simp only [ho, hx, Sem.run_bind, hrun, Sem.run_pure, Result.andThen_ok]
  exact h

theorem step_store_eq {P : Program} {ops : Array Oper} {o : Oper} {a : Act} {w : World} {K : Act → World → Prop} {Q : Exit → Act → World → Prop} {E : Prop} (hgd : o.guard = none) (ty : TypeId) (x y : Operand) (ho : o.op = .store ty x y)
    (p v : Value) (hx : a.eval x = p) (hy : a.eval y = v) (w2 : World) (hrun : (Instr.storeAt ty p v).run P w = .ok () w2) (h : K (a.put o.dst undef) w2) : if Region.wanted o (yielded ops a.tmps) = true then Oper.wp P o a w K Q else E := by
  have hw : Region.wanted o (yielded ops a.tmps) = true := by simp [Region.wanted, hgd]
  rw [if_pos hw]
  unfold Oper.wp execOp
  simp only [ho, hx, hy, Sem.run_bind, hrun, Sem.run_pure, Result.andThen_ok]
  exact h

theorem BRow.sub {w : World} {b off n : Nat} {bs : List Int} (h : BRow w (some ⟨b, off, none⟩) n bs) (p m : Nat) (hp : p + m ≤ n) : BRow w (some ⟨b, off + p, none⟩) m ((bs.drop p).take m) := by
  have hl := h.1
  refine ⟨by simp; omega, fun x hx => h.2.1 x (List.mem_of_mem_drop (List.mem_of_mem_take hx)), fun e => (by cases e), fun x hx i hi => ?_⟩
  cases hx
  have := h.2.2.2 _ rfl (p + i) (by omega)
  rw [add_none] at this ⊢
  rw [Nat.add_assoc, this, List.getD_eq_getElem?_getD, List.getD_eq_getElem?_getD, List.getElem?_take_of_lt (by omega), List.getElem?_drop]

end Go.Proofs.YtldiilmpmcbjkaaGreatDoor

/- What is proved here: what the model's l2Pad answers for slices of at most 1200 bytes, in new memory; and what PadBytes is to answer. -/
namespace Go.Proofs.YtldiilmpmcbjkaaGreatDoor
open Go.RowKit
set_option linter.unusedVariables false
set_option maxRecDepth 100000

theorem xor_zero128 : bits .xor .u8 0 128 = 128 := by decide
theorem xor_one128 : bits .xor .u8 1 128 = 129 := by decide

set_option maxHeartbeats 1000000 in
theorem l2Pad_any (a : Option Addr) (n cap : Nat) (zs : List Int) (w : World) (h : BRow w a n zs) (hcap : a = none → cap = 0) (hn : n ≤ 1200) :
    Calls Tryz.prog 100 #[.slice a n cap] w fun e w' => ∃ (g cap' : Nat), e = .returned (.slice (some ⟨g, 0, none⟩) (padLen n) cap') ∧
      w'.ownsRow w.heap.size 5 1 (.slice (some ⟨g, 0, none⟩) (padLen n) cap') (padLen n) ((padB zs).map (Value.int .u8)) ∧ Below w.heap.size w w' := by
  obtain ⟨i0, hi, hz0, hz1, hz2⟩ := info_parts info5
  have hzl := h.1
  have hpl := padLen_lt n
  have HCP := hide (copy_any a n cap zs w h hcap (by omega))
  have HF := hide (padLen_first n)
  have HL := hide (padRaw_last zs)
  clear h
  go_enter Tryz.func100, Tryz.ntmps100
  go_wp2_with fail
  refine (unhide HCP).mono ?_
  rintro e w1 ⟨a1, c1, rfl, o1, b1⟩
  have hs1 := b1.size
  go_wp2_with (at_builtin; refine wpList_append_own _ rfl _ _ 60 rfl w.heap.size 5 i0 (.int .u8 0) 1 1 Tryz.underlying60 hi hz0 hz1 hz2 rfl (by decide) _ _ _ rfl (o1.alloc _) ⟨w1.heap.size, 0, none⟩ 1 1 [.int .u8 1] rfl rfl ?c1 ?c2 ?c3 ?c4 ?c5 ?_)
  case c1 => exact cell_one_new _ _ _
  case c2 => intro u hu; simp at hu; subst hu; rfl
  case c3 => unfold maxLen; omega
  case c4 => omega
  case c5 => simp; omega
  intro v2 w2 o2 hgrow _
  obtain ⟨g2, cap2, hv2⟩ := own_some o2 (by omega)
  have b2 : Below w.heap.size w w2 := (b1.alloc hs1 _).grown hgrow (by simp; omega) (fun q e => (o1.lt q e).1)
  rw [hv2] at o2
  rw [hv2]
  have O2 : Hid (w2.ownsRow w.heap.size 5 1 (.slice (some ⟨g2, 0, none⟩) (n + 1) cap2) (n + 1) ((padRaw zs (n + 1 - n - 1)).map (Value.int .u8))) := by
    show w2.ownsRow _ _ _ _ _ _
    have e : n + 1 - n - 1 = 0 := by omega
    rw [e]
    simpa [padRaw] using o2
  have HB2 := hide b2
  clear o2 b2 hgrow hv2 o1 b1 HCP
  go_wp2_with fail
  go_loopw [3] (fun v wr => ∃ (m g c : Nat), n + 1 ≤ m ∧ m ≤ padLen n ∧ v = .slice (some ⟨g, 0, none⟩) m c ∧ wr.ownsRow w.heap.size 5 1 (.slice (some ⟨g, 0, none⟩) m c) m ((padRaw zs (m - n - 1)).map (Value.int .u8)) ∧ Below w.heap.size w wr)
    (fun v _ => padLen n - lenOf v)
  case atStart => exact ⟨n + 1, g2, cap2, by omega, by omega, rfl, unhide O2, unhide HB2⟩
  case round =>
    obtain ⟨m, g, c, hm1, hm2, rfl, hown, hbel⟩ := hrel
    clear O2 HB2
    by_cases hm : m % 136 = 0
    · have hfin := (unhide HF) m (by omega) hm2 hm
      have hmod : ((m : Int) % 136 != 0) = false := by rw [bne_eq_false_iff_eq]; omega
      have hlast := unhide HL
      rw [hzl, ← hfin] at hlast
      have hcell : wr.cell? ⟨g, m - 1, none⟩ = some (.int .u8 (if n + 1 = m then 1 else 0)) := by
        rw [hown.cellAt (m - 1) (by omega), List.getElem?_map, List.getElem?_eq_getElem (by rw [padRaw_length]; omega)]
        rw [← hlast, getD_at _ _ (by rw [padRaw_length]; omega)]
        rfl
      have hfz := hown.frozenAt (m - 1)
      have hx : bits .xor .u8 (if n + 1 = m then 1 else 0) 128 = padLast n := by
        unfold padLast
        rw [← hfin]
        split
        · exact xor_one128
        · exact xor_zero128
      have R := hown.stored (m - 1) (.int .u8 (padLast n))
      have HR : Hid ((wr.setCell ⟨g, m - 1, none⟩ (.int .u8 (padLast n))).ownsRow w.heap.size 5 1 (.slice (some ⟨g, 0, none⟩) m c) m ((padB zs).map (Value.int .u8))) := by
        show World.ownsRow _ _ _ _ _ _ _
        unfold padB
        rw [hzl, ← hfin, List.map_set]
        exact R.1
      have HBB : Hid (Below w.heap.size w (wr.setCell ⟨g, m - 1, none⟩ (.int .u8 (padLast n)))) := hbel.setCell ((hown.lt g rfl).1) _
      have HFIN := hide hfin
      have i1 : (0 : Int) < (m : Int) := by omega
      generalize (if n + 1 = m then (1 : Int) else 0) = lb at hcell hx
      clear hlast R hown hbel hfin
      go_wp2_with fail
      go_ret
      rw [← unhide HFIN]
      exact ⟨g, c, rfl, unhide HR, unhide HBB⟩
    · have hmod : ((m : Int) % 136 != 0) = true := by rw [bne_iff_ne]; omega
      have hlt : m < padLen n := by
        have := hpl.2.2
        rcases Nat.lt_or_eq_of_le hm2 with h | h
        · exact h
        · rw [← h] at this; omega
      have hsz := hbel.size
      go_wp2_with (at_builtin; refine wpList_append_own _ rfl _ _ 60 rfl w.heap.size 5 i0 (.int .u8 0) 1 1 Tryz.underlying60 hi hz0 hz1 hz2 rfl (by decide) _ _ _ rfl (hown.alloc _) ⟨wr.heap.size, 0, none⟩ 1 1 [.int .u8 0] rfl rfl ?d1 ?d2 ?d3 ?d4 ?d5 ?_)
      case d1 => exact cell_one_new _ _ _
      case d2 => intro u hu; simp at hu; subst hu; rfl
      case d3 => unfold maxLen; omega
      case d4 => omega
      case d5 => simp; omega
      intro v3 w3 o3 hgrow _
      obtain ⟨g3, cap3, hv3⟩ := own_some o3 (by omega)
      have b3 : Below w.heap.size w w3 := (hbel.alloc hsz _).grown hgrow (by simp; omega) (fun q e => (hown.lt q e).1)
      rw [hv3] at o3
      rw [hv3]
      have O3 : Hid (w3.ownsRow w.heap.size 5 1 (.slice (some ⟨g3, 0, none⟩) (m + 1) cap3) (m + 1) ((padRaw zs (m + 1 - n - 1)).map (Value.int .u8))) := by
        show w3.ownsRow _ _ _ _ _ _
        have e : m + 1 - n - 1 = (m - n - 1) + 1 := by omega
        rw [e, padRaw_succ, List.map_append]
        exact o3
      have HB3 := hide b3
      clear o3 b3 hgrow hv3 hown hbel
      go_wp2_with fail
      go_roundw
      case rel => exact ⟨m + 1, g3, cap3, by omega, by omega, rfl, unhide O3, unhide HB3⟩
      case measure => simp [lenOf]; omega

/-- The code and the bytes of PadBytes. -/
def pdCode (zs : List Int) : Int := if 1200 < zs.length then 2 else 0
def pdBytes (zs : List Int) : List Int := if 1200 < zs.length then [] else padB zs

theorem pdBytes_range (zs : List Int) (h : ∀ x ∈ zs, 0 ≤ x ∧ x ≤ 255) : ∀ x ∈ pdBytes zs, 0 ≤ x ∧ x ≤ 255 := by
  unfold pdBytes
  split
  · intro x hx; simp at hx
  · exact padB_range zs h

theorem pdBytes_length (zs : List Int) : (pdBytes zs).length ≤ 1400 := by
  unfold pdBytes
  split
  · simp
  · rw [padB_length]; have := padLen_lt zs.length; omega

end Go.Proofs.YtldiilmpmcbjkaaGreatDoor

/- What is proved here: what the program's PadBytes answers for all bytes: the model's code and bytes, in new memory. -/
namespace Go.Proofs.YtldiilmpmcbjkaaGreatDoor
open Go.RowKit
set_option linter.unusedVariables false
set_option maxRecDepth 100000

theorem psize5 : (Tryz.prog.info? 5).map (·.size) = some 1 := by kernel_rfl

/-- Bytes copied to the beginning of a row that is longer. -/
theorem copy_begin (w : World) (B g d n sCap : Nat) (a : Addr) (xs cs : List Value) (h : w.ownsRow B 5 1 (.slice (some ⟨g, 0, none⟩) d d) d xs) (hl : cs.length = n) (hnd : n ≤ d)
    (hsrc : ∀ j v, cs[j]? = some v → w.cell? (a.add j) = some v) (h1 : ∀ v ∈ cs, v.oneCell' = true) :
    ∃ W, (Builtin.copy_ #[60, 60] 3 #[.slice (some ⟨g, 0, none⟩) d d, .slice (some a) n sCap]).run Tryz.prog w = .ok (goInt n) W ∧
      W.ownsRow B 5 1 (.slice (some ⟨g, 0, none⟩) d d) d (cs ++ xs.drop n) ∧ w.grownBy W (some g) := by
  have hxl := h.1
  rcases h.2 with ⟨h', _⟩ | ⟨g', cap', cur, h', hb, hg, hnc, hcm, hcs, htake⟩
  · simp at h'
  · simp only [Value.slice.injEq, Option.some.injEq, Addr.mk.injEq, and_true, true_and] at h'
    obtain ⟨rfl, rfl⟩ := h'
    have hr := run_copy_row (P := Tryz.prog) w 60 60 3 5 g 0 d d a n sCap cur 5 cs Tryz.underlying60 psize5 hg (by rw [hl]; exact (Nat.min_eq_left hnd).symm) hsrc (by omega) h1
    have hcur : cur.toList = xs := by
      have : cur.toList.length ≤ d := by simp; omega
      rw [← htake, Nat.mul_one, List.take_of_length_le this]
    have e1 : cur.toList.take 0 ++ cs ++ cur.toList.drop (0 + cs.length) = cs ++ xs.drop n := by
      rw [hcur, hl]; simp
    rw [e1, hl] at hr
    have hlen : (cs ++ xs.drop n).length = d := by simp; omega
    exact ⟨_, hr, ⟨by rw [hlen, Nat.mul_one], .inr ⟨g, d, (cs ++ xs.drop n).toArray, rfl, hb, setRow_heap w g cur _ 5 _ hg, Nat.le_refl _, hcm, by simpa using hlen, by
      have : (d * 1) = d := by omega
      simp only [this]
      rw [List.take_of_length_le (by simp; omega)]⟩⟩,
      ⟨rfl, rfl, rfl, by simp [World.setRow], fun k _ hk => setRow_other w g k _ (fun e => hk (by simp [e]))⟩⟩

/-- The like of any slice that came in. -/
theorem copy_any_begin (w : World) (B g d n sCap : Nat) (a : Option Addr) (hcap : a = none → sCap = 0) (zs : List Int) (xs : List Value) (h : w.ownsRow B 5 1 (.slice (some ⟨g, 0, none⟩) d d) d xs) (hr : BRow w a n zs) (hnd : n ≤ d) :
    ∃ W, (Builtin.copy_ #[60, 60] 3 #[.slice (some ⟨g, 0, none⟩) d d, .slice a n sCap]).run Tryz.prog w = .ok (goInt n) W ∧
      W.ownsRow B 5 1 (.slice (some ⟨g, 0, none⟩) d d) d (zs.map (Value.int .u8) ++ xs.drop n) ∧ w.grownBy W (some g) := by
  cases a with
  | none =>
    obtain rfl : n = 0 := hr.2.2.1 rfl
    obtain rfl : zs = [] := List.length_eq_zero_iff.1 hr.1
    obtain rfl : sCap = 0 := hcap rfl
    refine ⟨w, ?_, by simpa using h, grownBy_refl w _⟩
    have := run_copy_nil (P := Tryz.prog) w 60 60 3 5 ⟨g, 0, none⟩ d d Tryz.underlying60 (by kernel_rfl)
    simpa [goInt] using this
  | some x =>
    refine copy_begin w B g d n sCap x xs (zs.map (Value.int .u8)) h (by simpa using hr.1) hnd ?_ (fun v hv => by obtain ⟨z, _, rfl⟩ := List.mem_map.1 hv; rfl)
    intro j v hj
    have hjl : j < zs.length := by have := (List.getElem?_eq_some_iff.1 hj).1; simpa using this
    rw [hr.2.2.2 x rfl j (by rw [← hr.1]; exact hjl)]
    rw [List.getElem?_map, List.getElem?_eq_getElem hjl] at hj
    rw [getD_at _ _ hjl]
    exact hj

theorem raw_start (zs : List Int) (n D : Nat) (hzl : zs.length = n) (hD : n < D) :
    ((zs.map (Value.int .u8) ++ (madeCells #[Value.int .u8 0] D).toList.drop n).set n (.int .u8 1)) = (padRaw zs (D - n - 1)).map (Value.int .u8) := by
  rw [toList_madeCells_one, List.drop_replicate, List.set_append, if_neg (by simp; omega)]
  unfold padRaw
  rw [List.map_append, List.map_cons, List.map_replicate]
  congr 1
  obtain ⟨k, hk⟩ : ∃ k, D - n = k + 1 := ⟨D - n - 1, by omega⟩
  rw [List.length_map, hzl, Nat.sub_self, hk, List.replicate_succ, List.set_cons_zero]
  rfl

set_option maxRecDepth 100000 in
set_option maxHeartbeats 1000000 in
theorem implPad_in (a : Option Addr) (n cap : Nat) (zs : List Int) (w : World) (h : BRow w a n zs) (hcap : a = none → cap = 0) (hn : n ≤ 1200) :
    Calls Tryz.prog 116 #[.slice a n cap] w fun e w' => ∃ g cap', e = .returned (.agg #[.int .i64 0, .slice (some ⟨g, 0, none⟩) (padLen n) cap']) ∧
      w'.ownsRow w.heap.size 5 1 (.slice (some ⟨g, 0, none⟩) (padLen n) cap') (padLen n) ((padB zs).map (Value.int .u8)) ∧ Below w.heap.size w w' := by
  obtain ⟨i0, hi, hz0, hz1, hz2⟩ := info_parts info5
  have hzl := h.1
  have hp := padLen_lt n
  have hlast := padRaw_last zs
  have hB : padB zs = (padRaw zs (padLen n - n - 1)).set (padLen n - 1) (padLast n) := by unfold padB; rw [hzl]
  rw [hzl] at hlast
  have hpl : padLast n = if n + 1 = padLen n then 129 else 128 := rfl
  have hDe : (n : Int) / 136 * 136 + 136 = (padLen n : Int) := by unfold padLen; omega
  generalize padLast n = PL at hB hpl
  rw [hB]
  generalize padLen n = D at hp hlast hpl hDe
  have HLA := hide hlast
  have HPL := hide hpl
  have HH := hide h
  have HCP := hide hcap
  clear hcap hB hlast h hpl
  go_enter Tryz.func116, Tryz.ntmps116
  go_wp2_with (at_make; refine wpList_make_full _ rfl _ _ 60 rfl (w.heap.size + 1) 5 i0 (.int .u8 0) 1 Tryz.underlying60 hi hz0 hz1 _ _ _ _ D rfl rfl (by omega) (by omega) ?c1 ?c2 ?c3 ?_)
  case c1 => rw [hz2]; omega
  case c2 => unfold maxLen; omega
  case c3 => simp
  intro w1 hown hgrow
  have hb0 := below_alloc w (.cells #[.int .i64 0, .slice none 0 0] 111)
  have hres : (w.alloc (.cells #[.int .i64 0, .slice none 0 0] 111)).heap[w.heap.size]? = some (.cells #[.int .i64 0, .slice none 0 0] 111 (0, 0)) := by
    show (w.heap.push _)[w.heap.size]? = _
    simp
  have hsz : (w.alloc (.cells #[.int .i64 0, .slice none 0 0] 111)).heap.size = w.heap.size + 1 := by simp
  have hb1 : Below w.heap.size w w1 := hb0.grown hgrow (by rw [hsz]; omega) (fun k e => by cases e)
  have hres1 : w1.heap[w.heap.size]? = some (.cells #[.int .i64 0, .slice none 0 0] 111 (0, 0)) := (hgrow.block _ (by rw [hsz]; omega) (by simp)).trans hres
  have hsz1 : w.heap.size + 1 ≤ w1.heap.size := by rw [← hsz]; exact hgrow.size
  obtain ⟨w2, hcp, hown2, hgrow2⟩ := copy_any_begin w1 (w.heap.size + 1) (w.heap.size + 1) D n cap a (unhide HCP) zs _ hown ((unhide HH).below hb1 (Nat.le_refl _)) (by omega)
  have hb2 : Below w.heap.size w w2 := hb1.grown hgrow2 (by omega) (fun k e => by cases e; omega)
  have hres2 : w2.heap[w.heap.size]? = some (.cells #[.int .i64 0, .slice none 0 0] 111 (0, 0)) := (hgrow2.block _ (by omega) (by simp)).trans hres1
  have fr1 := hown2.frozenAt n
  obtain ⟨u, hu⟩ : ∃ u, w2.cell? ⟨w.heap.size + 1, n, none⟩ = some u := by
    rw [hown2.cellAt n (by omega)]
    exact ⟨_, List.getElem?_eq_getElem (by rw [hown2.1]; omega)⟩
  have R3 := hown2.stored n (.int .u8 1)
  rw [raw_start zs n D hzl hp.1] at R3
  have o3 := R3.1
  have hb3 : Below w.heap.size w (w2.setCell ⟨w.heap.size + 1, n, none⟩ (.int .u8 1)) := hb2.setCell (Nat.le_succ _) _
  have hres3 : (w2.setCell ⟨w.heap.size + 1, n, none⟩ (.int .u8 1)).heap[w.heap.size]? = some (.cells #[.int .i64 0, .slice none 0 0] 111 (0, 0)) := (heap_setCell_other w2 ⟨w.heap.size + 1, n, none⟩ w.heap.size _ (by simp)).trans hres2
  obtain ⟨w3, hw3⟩ : ∃ w3, w3 = w2.setCell ⟨w.heap.size + 1, n, none⟩ (.int .u8 1) := ⟨_, rfl⟩
  rw [← hw3] at o3 hb3 hres3
  have fr2 := o3.frozenAt (D - 1)
  have hpr := padRaw_length zs (D - n - 1)
  have hv : w3.cell? ⟨w.heap.size + 1, D - 1, none⟩ = some (.int .u8 (if n + 1 = D then 1 else 0)) := by
    rw [o3.cellAt (D - 1) (by omega), ← unhide HLA, getD_at _ _ (by omega), List.getElem?_map, List.getElem?_eq_getElem (by omega)]
    rfl
  have hx : bits .xor .u8 (if n + 1 = D then 1 else 0) 128 = PL := by
    rw [unhide HPL]
    split <;> decide
  generalize (if n + 1 = D then (1 : Int) else 0) = lv at hv hx
  have R4 := o3.stored (D - 1) (.int .u8 PL)
  rw [← List.map_set] at R4
  have hb4 : Below w.heap.size w (w3.setCell ⟨w.heap.size + 1, D - 1, none⟩ (.int .u8 PL)) := hb3.setCell (Nat.le_succ _) _
  have hres4 : (w3.setCell ⟨w.heap.size + 1, D - 1, none⟩ (.int .u8 PL)).heap[w.heap.size]? = some (.cells #[.int .i64 0, .slice none 0 0] 111 (0, 0)) := (heap_setCell_other w3 ⟨w.heap.size + 1, D - 1, none⟩ w.heap.size _ (by simp)).trans hres3
  obtain ⟨w4, hw4⟩ : ∃ w4, w4 = w3.setCell ⟨w.heap.size + 1, D - 1, none⟩ (.int .u8 PL) := ⟨_, rfl⟩
  rw [← hw4] at R4 hb4 hres4
  obtain ⟨q0, q1, f0, f1⟩ := res_facts hres4
  have HO := hide R4.1
  have HB := hide hb4
  have e3 := hw3.symm
  have e4 := hw4.symm
  have hD1 : (D : Int) - 1 = ((D - 1 : Nat) : Int) := by omega
  clear hown hgrow hown2 hgrow2 hb0 hb1 hb2 hb3 hb4 R3 R4 o3 hres hres1 hres2 hres3 hres4 hw3 hw4
  go_wp2_with fail
  refine bodyPost_ret (v := .agg #[.int .i64 0, .slice (some ⟨w.heap.size + 1, 0, none⟩) D D]) (by simp [results, Tryz.results116, go_sem, q0, q1]) rfl ⟨_, D, rfl, ?_, ?_⟩
  · exact ownsRow_base (ownsRow_setCell_below (ownsRow_setCell_below (unhide HO) (by simp) _) (by simp) _) (by omega)
  · exact ((unhide HB).setCell (by simp) _).setCell (by simp) _

set_option maxHeartbeats 1000000 in
theorem implPad_any (a : Option Addr) (n cap : Nat) (zs : List Int) (w : World) (h : BRow w a n zs) (hcap : a = none → cap = 0) (hn : n ≤ 1048576) :
    Calls Tryz.prog 116 #[.slice a n cap] w fun e w' => ∃ a' cap', e = .returned (.agg #[.int .i64 (pdCode zs), .slice a' (pdBytes zs).length cap']) ∧
      w'.ownsRow w.heap.size 5 1 (.slice a' (pdBytes zs).length cap') (pdBytes zs).length ((pdBytes zs).map (Value.int .u8)) ∧ Below w.heap.size w w' := by
  have hzl := h.1
  by_cases hm : 1200 < n
  · have e1 : pdCode zs = 2 := if_pos (by omega)
    have e2 : pdBytes zs = [] := if_pos (by omega)
    rw [e1, e2]
    clear h e1 e2 hcap
    go_enter Tryz.func116, Tryz.ntmps116
    go_wp2_with fail
    exact bodyPost_ret (v := .agg #[.int .i64 2, .slice none 0 0]) (by simp [results, Tryz.results116, go_sem]) rfl ⟨none, 0, rfl, World.ownsRow_nil _ _ _ _, (Below.refl _ _).alloc (Nat.le_refl _) _⟩
  · have e1 : pdCode zs = 0 := if_neg (by omega)
    have e2 : pdBytes zs = padB zs := if_neg (by omega)
    have e3 := padB_length zs
    rw [hzl] at e3
    rw [e1, e2, e3]
    refine (implPad_in a n cap zs w h hcap (by omega)).mono fun e w' hq => ?_
    obtain ⟨g, c, h1, h2, h3⟩ := hq
    exact ⟨_, c, h1, h2, h3⟩

end Go.Proofs.YtldiilmpmcbjkaaGreatDoor
