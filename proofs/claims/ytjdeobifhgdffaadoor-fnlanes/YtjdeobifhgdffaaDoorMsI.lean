/- What is proved here: what the program's MixState answers for every slice of numbers: the code and the words, in new memory. -/
import Derived.Test.YtjdeobifhgdffaaDoorMixI
import Derived.Test.YtjdeobifhgdffaaDoorMsF
import Derived.Test.YtjdeobifhgdffaaDoorMsB
import Derived.Test.YtjdeobifhgdffaaDoorLaneImpl
import Derived.Test.YtjdeobifhgdffaaDoorInfo2
import Derived.BigQuiet
import Derived.Deep.QuietTactic
import Derived.Test.YtjdeobifhgdffaaDoorOwnG
import Derived.Deep.DeepCutAuto
import Derived.Deep.AppendLies
import Derived.Deep.RegionWith
import Derived.BigRegion
namespace Go.Proofs.YtjdeobifhgdffaaDoor
open Go.RowKit
set_option linter.unusedVariables false
attribute [local go_sem ↓] Go.wp_at_zero Go.wp_at_succ

theorem join_back (z : Nat) : hiW z * 4294967296 + loW z = z := by unfold hiW loW; omega

theorem lane_back (z : Nat) (hz : z < 18446744073709551616) (w : World) :
    Calls Tryd.prog 39 #[.int .i64 (hiW z : Int), .int .i64 (loW z : Int)] w fun e w' => e = .returned (.int .u64 (z : Int)) ∧ w' = w := by
  have := laneOf_any (hiW z) (loW z) (by unfold hiW; omega) (by unfold loW; omega) w
  rwa [join_back] at this

set_option maxRecDepth 100000 in
set_option maxHeartbeats 8000000 in
theorem implMix_any (a : Option Addr) (n cap : Nat) (xs : List Int) (w : World) (h : IRow w a n xs) (hc : a = none → cap = 0) (hn : n ≤ 1048576) (hv : Laid w) :
    Calls Tryd.prog 19 #[.slice a n cap] w fun e w' => ∃ a' cap', e = .returned (.agg #[.int .i64 (msCode xs), .slice a' (msList xs).length cap']) ∧
      w'.ownsRow w.heap.size 2 1 (.slice a' (msList xs).length cap') (msList xs).length ((msList xs).map (Value.int .i64)) ∧ Below w.heap.size w w' := by
  have hxl := h.1
  by_cases h50 : n = 50
  · subst h50
    obtain ⟨i0, hi, hz0, hz1, hz2⟩ := info_parts info2
    obtain ⟨b, off, rfl, hb, hat⟩ := h.at (by omega)
    have HAT := hide hat
    have HXL := hide hxl
    have HVV := hide hv
    clear h hat hxl hc hv
    go_enter Tryd.func19, Tryd.ntmps19
    go_upto_block 0 with fail
    have K1 := below_alloc w (.cells #[.int .i64 0, .slice none 0 0] 36)
    have T1 : RBlk (w.alloc (.cells #[.int .i64 0, .slice none 0 0] 36)) w.heap.size 0 (.slice none 0 0) := heap_alloc_new w _
    generalize hw1 : w.alloc (.cells #[.int .i64 0, .slice none 0 0] 36) = w1 at K1 T1 ⊢
    have hs1 : w.heap.size < w1.heap.size := T1.lt
    have HT1 := hide T1
    have HB1 := hide K1
    have HC1 := hide (fun i hi => (K1.cell (p := ⟨b, off + i, none⟩) hb).trans ((unhide HAT) i hi))
    clear hw1 K1 T1
    go_cut [16] (fun i wr => (i = .int .i64 50 ∧ msOk xs = true ∧ wr = w1))
    case first =>
      go_wp2_with fail
      go_loop [16] (fun i => ∃ k : Nat, k ≤ 50 ∧ i = .int .i64 k ∧ (xs.take k).all wordB = true) (fun i => 50 - (intOf i).toNat)
      case atStart => exact ⟨0, by omega, rfl, rfl⟩
      case round =>
        obtain ⟨k, hk, rfl, hall⟩ := hrel
        by_cases hlt : k < 50
        · have hck := (unhide HC1) k hlt
          have hxk : xs[k]? = some (xs.getD k 0) := by rw [getD_at xs k (by rw [unhide HXL]; exact hlt)]; exact List.getElem?_eq_getElem _
          have hta := take_all xs k _ hxk
          have hno := not_all xs k _ hxk
          have HW := hide (isWord_any (xs.getD k 0) w1)
          have hww : isWord (xs.getD k 0) = wordB (xs.getD k 0) := rfl
          rw [hww] at HW
          generalize xs.getD k 0 = x at hck hta hno HW
          have i1 : (0 : Int) ≤ (k : Int) := by omega
          have i2 : (k : Int) < 50 := by omega
          have hdk : decide ((k : Int) < 50) = true := decide_eq_true i2
          cases hw : wordB x
          · rw [hw] at HW hno
            have hok := hno rfl
            have HCD : Hid (msCode xs = 3) := by show _ = _; unfold msCode; rw [if_pos (unhide HXL), hok]; rfl
            have HLS : Hid (msList xs = []) := by show _ = _; unfold msList; rw [if_neg (fun hh => by rw [hok] at hh; exact absurd hh.2 (by decide))]
            obtain ⟨r0, r1, g0, g1⟩ := (unhide HT1).cells
            clear hta hno hok hw hww hxk hall
            go_wp2_with fail
            refine (unhide HW).mono ?_
            rintro e w' ⟨rfl, rfl⟩
            go_wp2_with fail
            refine bodyPost_ret (v := .agg #[.int .i64 3, .slice none 0 0]) (by simp [results, Tryd.results19, go_sem, r0, r1]) rfl ⟨none, 0, ?_, ?_, ((unhide HB1).setCell (by simp) _).setCell (by simp) _⟩
            · rw [unhide HCD, unhide HLS]; rfl
            · rw [unhide HLS]; exact World.ownsRow_nil _ _ _ _
          · rw [hw] at HW hta
            rw [hall] at hta
            have HTA := hide hta
            clear hta hno hw hww hxk hall
            go_wp2_with fail
            refine (unhide HW).mono ?_
            rintro e w' ⟨rfl, rfl⟩
            go_wp2_with fail
            go_round
            case rel => exact ⟨k + 1, by omega, by go_num, by rw [unhide HTA]; rfl⟩
            case measure => simp [intOf]; omega
        · obtain rfl : k = 50 := by omega
          have hdk : decide (((50 : Nat) : Int) < 50) = false := rfl
          have HOK : Hid (msOk xs = true) := by
            show _ = _
            unfold msOk
            rw [List.take_of_length_le (by rw [unhide HXL]; exact Nat.le_refl _)] at hall
            exact hall
          clear hall
          go_wp2_with fail
          go_meet
          exact ⟨rfl, unhide HOK, rfl⟩
    case rest =>
      obtain ⟨rfl, hok, rfl⟩ := hcut
      obtain ⟨hLn, hWd⟩ := lanes_of (unhide HXL) hok
      have hcd : msCode xs = 0 := by unfold msCode; rw [if_pos (unhide HXL), if_pos hok]
      have hls : msList xs = wordsL (mixAt (lanesOf xs) 24) := by unfold msList; rw [if_pos ⟨unhide HXL, hok⟩]
      have HCD := hide hcd
      have HLS := hide hls
      generalize lanesOf xs = Z at hLn hWd HLS
      have HLN := hide hLn
      have HWD := hide hWd
      have zlen := hLn.1
      clear hcd hls hLn hWd hok
      go_upto_block 2 with fail
      have N2 : UBlk (wc.alloc (.cells #[.int .u64 0, .int .u64 0, .int .u64 0, .int .u64 0, .int .u64 0, .int .u64 0, .int .u64 0, .int .u64 0, .int .u64 0, .int .u64 0, .int .u64 0, .int .u64 0, .int .u64 0, .int .u64 0, .int .u64 0, .int .u64 0, .int .u64 0, .int .u64 0, .int .u64 0, .int .u64 0, .int .u64 0, .int .u64 0, .int .u64 0, .int .u64 0, .int .u64 0] 50)) wc.heap.size (List.replicate 25 0) 50 := UBlk.new wc (List.replicate 25 0) 50
      have K2 := below_alloc wc (.cells #[.int .u64 0, .int .u64 0, .int .u64 0, .int .u64 0, .int .u64 0, .int .u64 0, .int .u64 0, .int .u64 0, .int .u64 0, .int .u64 0, .int .u64 0, .int .u64 0, .int .u64 0, .int .u64 0, .int .u64 0, .int .u64 0, .int .u64 0, .int .u64 0, .int .u64 0, .int .u64 0, .int .u64 0, .int .u64 0, .int .u64 0, .int .u64 0, .int .u64 0] 50)
      generalize wc.alloc (.cells #[.int .u64 0, .int .u64 0, .int .u64 0, .int .u64 0, .int .u64 0, .int .u64 0, .int .u64 0, .int .u64 0, .int .u64 0, .int .u64 0, .int .u64 0, .int .u64 0, .int .u64 0, .int .u64 0, .int .u64 0, .int .u64 0, .int .u64 0, .int .u64 0, .int .u64 0, .int .u64 0, .int .u64 0, .int .u64 0, .int .u64 0, .int .u64 0, .int .u64 0] 50) = w2 at N2 K2 ⊢
      have HS2 : Hid (UBlk w2 wc.heap.size (List.replicate 25 0) 50) := N2
      have HT2 := hide ((unhide HT1).below K2 (unhide HT1).lt)
      have HB2 := hide ((unhide HB1).trans (K2.mono (unhide HB1).size))
      clear N2 K2 HT1 HB1 HC1
      generalize hg : wc.heap.size = g at HS2 hs1 ⊢
      clear hg
      go_cut [25] (fun i wr => i = .int .i64 25 ∧ UBlk wr g Z 50 ∧ RBlk wr w.heap.size 0 (.slice none 0 0) ∧ Below w.heap.size w wr)
      case first =>
        go_wp2_with fail
        go_loopw [25] (fun i wr => ∃ k : Nat, k ≤ 25 ∧ i = .int .i64 k ∧ UBlk wr g (Z.take k ++ (List.replicate 25 0).drop k) 50 ∧ RBlk wr w.heap.size 0 (.slice none 0 0) ∧ Below w.heap.size w wr) (fun i _ => 25 - (intOf i).toNat)
        case atStart => exact ⟨0, by omega, rfl, unhide HS2, unhide HT2, unhide HB2⟩
        case round =>
          obtain ⟨k, hk, rfl, hS, hT, hB⟩ := hrel
          clear HS2 HT2 HB2
          by_cases hlt : k < 25
          · have hw := words_at (unhide HWD) k (by omega)
            have c0 := (hB.cell (p := ⟨b, off + k * 2, none⟩) hb).trans ((unhide HAT) (k * 2) (by omega))
            have c1 := (hB.cell (p := ⟨b, off + (k * 2 + 1), none⟩) hb).trans ((unhide HAT) (k * 2 + 1) (by omega))
            rw [hw.1] at c0
            rw [hw.2] at c1
            have hfill := fill_at Z (List.replicate 25 0) 25 k zlen (by simp) hlt
            have hz64 : Z.getD k 0 < 18446744073709551616 := getD_lt (unhide HLN).2 (by decide) _
            generalize Z.getD k 0 = z at c0 c1 hfill hz64
            have HF := hide hfill
            have HLO := hide (lane_back z hz64)
            have hlen3 : (Z.take k ++ (List.replicate 25 0).drop k).length = 25 := by rw [List.length_append, List.length_take, zlen, List.length_drop, List.length_replicate]; omega
            have n0 := UBlk.cell hS k (by omega)
            have f0 := UBlk.free hS k
            generalize (Z.take k ++ (List.replicate 25 0).drop k).getD k 0 = ov at n0
            have HS3 : Hid (UBlk (wr.setCell ⟨g, k, none⟩ (.int .u64 (z : Int))) g (Z.take (k + 1) ++ (List.replicate 25 0).drop (k + 1)) 50) := by
              show UBlk _ _ _ _
              rw [← unhide HF]; exact UBlk.set hS k z
            have HT3 := hide (hT.other (b' := g) k (.int .u64 (z : Int)) (by omega))
            have HB3 := hide (hB.setCell (p := ⟨g, k, none⟩) (by show w.heap.size ≤ g; omega) (.int .u64 (z : Int)))
            have hdk : decide ((k : Int) < 25) = true := decide_eq_true (by omega)
            obtain ⟨q, hq⟩ : ∃ q, q = k * 2 := ⟨_, rfl⟩
            rw [← hq] at c0 c1
            have m0 : 2 * (k : Int) = (q : Int) := by omega
            have y0 : IntKind.i64.wrap (q : Int) = (q : Int) := i64_fits _ (by omega) (by omega)
            have y1 : IntKind.i64.wrap ((q : Int) + 1) = (q : Int) + 1 := i64_fits _ (by omega) (by omega)
            have t1 : ((q : Int) + 1).toNat = q + 1 := by omega
            have j0 : (0 : Int) ≤ (q : Int) := by omega
            have j1 : (q : Int) < 50 := by omega
            have j2 : (0 : Int) ≤ (q : Int) + 1 := by omega
            have j3 : (q : Int) + 1 < 50 := by omega
            clear hq
            have ik1 : (0 : Int) ≤ (k : Int) := by omega
            have ik2 : (k : Int) < 25 := by omega
            clear hS hT hB hw hfill hlen3
            go_upto_region 13 with fail
            go_region_with (first | (go_at_call 39; refine ((unhide HLO) _).mono ?_; rintro e w6 ⟨rfl, rfl⟩))
            all_goals
              go_wp2_with fail
              go_roundw
              case rel => exact ⟨k + 1, by omega, by go_num, unhide HS3, unhide HT3, (unhide HB3).drew⟩
              case measure => simp [intOf]; omega
          · obtain rfl : k = 25 := by omega
            have hdk : decide (((25 : Nat) : Int) < 25) = false := rfl
            have ht : Z.take 25 ++ (List.replicate 25 0).drop 25 = Z := by
              rw [List.take_of_length_le (by omega)]
              simp
            rw [ht] at hS
            have HSS : Hid (UBlk wr g Z 50) := hS
            clear ht hS
            go_wp2_with fail
            go_meet
            exact ⟨rfl, unhide HSS, hT, hB⟩
      case rest =>
        obtain ⟨rfl, hS, hT, hB⟩ := hcut
        have HML := hide (mixAt_lanes (unhide HLN) 24)
        have mlen : (mixAt Z 24).length = 25 := (unhide HML).1
        have HMX := hide (fun W hW => mix_any Z (unhide HLN) W hW)
        generalize mixAt Z 24 = M at HLS HMX HML mlen
        have HIX := hide (fun k hk W => index25 M mlen k hk W)
        have hsg : g < wc.heap.size := hS.lt
        have hsB := hB.size
        have HS4 : Hid (UBlk wc g Z 50) := hS
        have HT4 := hide hT
        have HB4 := hide hB
        clear hS hT hB HS2 HT2 HB2
        go_upto_region 16 with (at_make; refine wpList_make_own _ rfl _ _ 34 rfl (w.heap.size + 1) 2 i0 (.int .i64 0) 1 Tryd.underlying34 hi hz0 hz1 _ _ _ 50 rfl rfl (by omega) ?c1 ?c2 ?c3 ?_)
        case c1 => rw [hz2]; omega
        case c2 => unfold maxLen; omega
        case c3 => omega
        intro w3 hown hgrow
        have hsz3 := hgrow.size
        have S5 : UBlk w3 g Z 50 := by
          unfold UBlk
          rw [hgrow.block _ (by omega) (by simp)]
          exact unhide HS4
        have T5 : RBlk w3 w.heap.size 0 (.slice none 0 0) := by
          unfold RBlk
          rw [hgrow.block _ (by omega) (by simp)]
          exact unhide HT4
        have B5 : Below w.heap.size w w3 := (unhide HB4).grown hgrow (by omega) (fun k e => by cases e)
        have HLD := hide (load25 S5 zlen)
        have HMY := hide ((unhide HMX) w3 ((unhide HVV).below B5 (Nat.le_refl _)))
        have HT5 := hide T5
        have HB5 := hide B5
        have HO5 := hide hown
        clear HMX S5 T5 B5 hown hgrow HS4 HT4 HB4
        generalize vals M = VM at HMY HIX
        generalize vals Z = VZ at HMY HLD
        go_wp2_with (refine wpList_load_eq rfl 50 _ rfl _ _ rfl (unhide HLD) ?_)
        refine (unhide HMY).mono ?_
        rintro e w4 ⟨rfl, b4⟩
        have HT6 := hide ((unhide HT5).below b4 (unhide HT5).lt)
        have HB6 := hide ((unhide HB5).trans (b4.mono (unhide HB5).size))
        have HO6 := hide (own_below (unhide HO5) b4 (Nat.le_refl _))
        clear HT5 HB5 HO5 b4 HMY HLD
        go_wp2_with fail
        go_loopw [7, 46] (fun v i wr => ∃ (k : Nat) (a : Option Addr) (cp : Nat), k ≤ 25 ∧ i = .int .i64 k ∧ v = .slice a (2 * k) cp ∧ wr.ownsRow (w.heap.size + 1) 2 1 (.slice a (2 * k) cp) (2 * k) ((wordsL (M.take k)).map (Value.int .i64)) ∧
            RBlk wr w.heap.size 0 (.slice none 0 0) ∧ Below w.heap.size w wr) (fun _ i _ => 25 - (intOf i).toNat)
        case atStart => exact ⟨0, _, _, by omega, rfl, rfl, by simpa [wordsL] using unhide HO6, unhide HT6, unhide HB6⟩
        case round =>
          obtain ⟨k, a, cp, hk, rfl, rfl, hown, hT, hB⟩ := hrel
          clear HT6 HB6 HO6
          by_cases hlt : k < 25
          · have hidx := (unhide HIX) k hlt
            have HWT := hide (wordsL_take M k (by omega))
            have hz64 : M.getD k 0 < 18446744073709551616 := getD_lt (unhide HML).2 (by decide) _
            generalize M.getD k 0 = z at hidx HWT hz64
            have HHW := hide (highWord_any z hz64)
            have HLW := hide (lowWord_any z hz64)
            have hsz : w.heap.size < wr.heap.size := hT.lt
            have hrow : ∀ q, (Value.slice a (2 * k) cp).ownBlock = some q → w.heap.size < q := fun q e => by have := (hown.lt q e).1; omega
            have HT8 := hide hT
            have HB8 := hide hB
            have hdk : decide ((k : Int) < 25) = true := decide_eq_true (by omega)
            clear hT hB
            go_wp2_with fail
            refine ((unhide HHW) _).mono ?_
            rintro e w6 ⟨rfl, rfl⟩
            go_wp2_with fail
            refine ((unhide HLW) _).mono ?_
            rintro e w7 ⟨rfl, rfl⟩
            go_wp2_with (at_builtin; refine wpList_append_lies _ rfl _ _ 34 rfl (w.heap.size + 1) 2 i0 (.int .i64 0) 1 8 Tryd.underlying34 hi hz0 hz1 hz2 rfl (by decide) _ _ _ rfl (hown.alloc _) ⟨w7.heap.size, 0, none⟩ 2 2 [.int .i64 (hiW z : Int), .int .i64 (loW z : Int)] rfl rfl (news2 _ _ _ _) (by simp [Value.oneCell']) (by omega) (by unfold maxLen; omega) (by omega) (by first | (simp; done) | (simp; omega)) _ rfl ?_)
            intro g2 cap2 w2' hown2 hgrow2 hat2 hlt2
            have HT9 : Hid (RBlk w2' w.heap.size 0 (.slice none 0 0)) := by
              show RBlk _ _ _ _
              unfold RBlk
              rw [hgrow2.block _ (by first | (simp; done) | (simp; omega)) (fun e => by have := hrow _ e.symm; omega)]
              exact (Below.heap_alloc w7 _ _ hsz).trans (unhide HT8)
            have HW9 : Hid (w2'.ownsRow (w.heap.size + 1) 2 1 (.slice (some ⟨g2, 0, none⟩) (2 * k + 2) cap2) (2 * k + 2) ((wordsL (M.take (k + 1))).map (Value.int .i64))) := by
              show World.ownsRow _ _ _ _ _ _ _
              rw [unhide HWT, List.map_append]
              exact hown2
            have HB9 := hide (((unhide HB8).alloc (by omega) (.cells #[.int .i64 (hiW z : Int), .int .i64 (loW z : Int)] 2)).grown hgrow2 (by first | (simp; done) | (simp; omega)) (fun q e => by have := hrow q e; omega))
            clear hown2 hgrow2 hown hrow
            go_wp2_with fail
            go_roundw
            case rel => exact ⟨k + 1, some ⟨g2, 0, none⟩, cap2, by omega, by go_num, rfl, unhide HW9, unhide HT9, unhide HB9⟩
            case measure => simp [intOf]; omega
          · obtain rfl : k = 25 := by omega
            have hdk : decide (((25 : Nat) : Int) < 25) = false := rfl
            rw [List.take_of_length_le (by omega)] at hown
            have hwl2 : (wordsL M).length = 2 * 25 := by rw [wordsL_length, mlen]
            obtain ⟨t0, t1, t2, t3⟩ := hT.cells
            have HOW := hide hown
            have HBF := hide hB
            clear hT hown hB
            go_wp2_with fail
            refine bodyPost_ret (v := .agg #[.int .i64 0, .slice a (2 * 25) cp]) (by simp [results, Tryd.results19, go_sem, t0, t1]) rfl ⟨a, cp, ?_, ?_, ((unhide HBF).setCell (by simp) _).setCell (by simp) _⟩
            · rw [unhide HCD, unhide HLS, hwl2]
            · rw [unhide HLS, hwl2]
              exact ownsRow_base (ownsRow_setCell_below (ownsRow_setCell_below (unhide HOW) (by show w.heap.size < w.heap.size + 1; omega) _) (by show w.heap.size < w.heap.size + 1; omega) _) (by omega)
  · have HCD : Hid (msCode xs = 1) := by show _ = _; unfold msCode; rw [if_neg (by rw [hxl]; exact h50)]
    have HLS : Hid (msList xs = []) := by show _ = _; unfold msList; rw [if_neg (fun hh => h50 (by rw [← hxl]; exact hh.1))]
    have hne : (((n : Nat) : Int) != 50) = true := by simp; omega
    clear h hxl hc hv
    go_enter Tryd.func19, Tryd.ntmps19
    go_wp2_with fail
    refine bodyPost_ret (v := .agg #[.int .i64 1, .slice none 0 0]) (by simp [results, Tryd.results19, go_sem]) rfl ⟨none, 0, ?_, ?_, below_alloc w _⟩
    · rw [unhide HCD, unhide HLS]; rfl
    · rw [unhide HLS]; exact World.ownsRow_nil _ _ _ _

end Go.Proofs.YtjdeobifhgdffaaDoor
