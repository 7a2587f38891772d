/- What is proved here: what the model's MixState answers for every slice of numbers: the code and the words, in new memory. -/
import Derived.Test.YtjdeobifhgdffaaDoorMixS
import Derived.Test.YtjdeobifhgdffaaDoorMsF
import Derived.Test.YtjdeobifhgdffaaDoorMsB
import Derived.Test.YtjdeobifhgdffaaDoorTurnSpec
import Derived.Test.YtjdeobifhgdffaaDoorInfo2
import Derived.BigQuiet
import Derived.Deep.QuietTactic
import Derived.Test.YtjdeobifhgdffaaDoorOwnG
import Derived.Deep.DeepCutAuto
import Derived.Deep.AppendLies
import Derived.Deep.RegionLaw
import Derived.BigRegion
namespace Go.Proofs.YtjdeobifhgdffaaDoor
open Go.RowKit
set_option linter.unusedVariables false
attribute [local go_sem ↓] Go.wp_at_zero Go.wp_at_succ

set_option maxRecDepth 100000 in
set_option maxHeartbeats 8000000 in
theorem specMix_any (a : Option Addr) (n cap : Nat) (xs : List Int) (w : World) (h : IRow w a n xs) (hc : a = none → cap = 0) (hn : n ≤ 1048576) :
    Calls Tryd.prog 20 #[.slice a n cap] w fun e w' => ∃ a' cap', e = .returned (.agg #[.int .i64 (msCode xs), .slice a' (msList xs).length cap']) ∧
      w'.ownsRow w.heap.size 2 1 (.slice a' (msList xs).length cap') (msList xs).length ((msList xs).map (Value.int .i64)) ∧ Below w.heap.size w w' := by
  have hxl := h.1
  by_cases h50 : n = 50
  · subst h50
    obtain ⟨i0, hi, hz0, hz1, hz2⟩ := info_parts info2
    obtain ⟨b, off, rfl, hb, hat⟩ := h.at (by omega)
    have HAT := hide hat
    have HXL := hide hxl
    clear h hat hxl hc
    go_enter Tryd.func20, Tryd.ntmps20
    go_upto_region 3 with fail
    have K1 := below_alloc w (.cells #[.int .i64 0, .slice none 0 0] 36)
    have T1 : RBlk (w.alloc (.cells #[.int .i64 0, .slice none 0 0] 36)) w.heap.size 0 (.slice none 0 0) := heap_alloc_new w _
    generalize hw1 : w.alloc (.cells #[.int .i64 0, .slice none 0 0] 36) = w1 at K1 T1 ⊢
    have hs1 : w.heap.size < w1.heap.size := T1.lt
    have N9 : Blk (w1.alloc (.cells #[.int .i64 0, .int .i64 0, .int .i64 0, .int .i64 0, .int .i64 0, .int .i64 0, .int .i64 0, .int .i64 0, .int .i64 0, .int .i64 0, .int .i64 0, .int .i64 0, .int .i64 0, .int .i64 0, .int .i64 0, .int .i64 0, .int .i64 0, .int .i64 0, .int .i64 0, .int .i64 0, .int .i64 0, .int .i64 0, .int .i64 0, .int .i64 0, .int .i64 0, .int .i64 0, .int .i64 0, .int .i64 0, .int .i64 0, .int .i64 0, .int .i64 0, .int .i64 0, .int .i64 0, .int .i64 0, .int .i64 0, .int .i64 0, .int .i64 0, .int .i64 0, .int .i64 0, .int .i64 0, .int .i64 0, .int .i64 0, .int .i64 0, .int .i64 0, .int .i64 0, .int .i64 0, .int .i64 0, .int .i64 0, .int .i64 0, .int .i64 0] 66)) w1.heap.size (List.replicate 50 (0 : Int)) 66 := Blk.new w1 (List.replicate 50 (0 : Int)) 66
    obtain ⟨w2, hw2⟩ : ∃ w2, w2 = (w1.alloc (.cells #[.int .i64 0, .int .i64 0, .int .i64 0, .int .i64 0, .int .i64 0, .int .i64 0, .int .i64 0, .int .i64 0, .int .i64 0, .int .i64 0, .int .i64 0, .int .i64 0, .int .i64 0, .int .i64 0, .int .i64 0, .int .i64 0, .int .i64 0, .int .i64 0, .int .i64 0, .int .i64 0, .int .i64 0, .int .i64 0, .int .i64 0, .int .i64 0, .int .i64 0, .int .i64 0, .int .i64 0, .int .i64 0, .int .i64 0, .int .i64 0, .int .i64 0, .int .i64 0, .int .i64 0, .int .i64 0, .int .i64 0, .int .i64 0, .int .i64 0, .int .i64 0, .int .i64 0, .int .i64 0, .int .i64 0, .int .i64 0, .int .i64 0, .int .i64 0, .int .i64 0, .int .i64 0, .int .i64 0, .int .i64 0, .int .i64 0, .int .i64 0] 66)).setCells w1.heap.size 0 ((List.replicate 50 (0 : Int)).map (Value.int .i64)) := ⟨_, rfl⟩
    have HST : Hid ((Instr.storeAt 66 (.pointer (some ⟨w1.heap.size, 0, none⟩)) (.agg #[.int .i64 0, .int .i64 0, .int .i64 0, .int .i64 0, .int .i64 0, .int .i64 0, .int .i64 0, .int .i64 0, .int .i64 0, .int .i64 0, .int .i64 0, .int .i64 0, .int .i64 0, .int .i64 0, .int .i64 0, .int .i64 0, .int .i64 0, .int .i64 0, .int .i64 0, .int .i64 0, .int .i64 0, .int .i64 0, .int .i64 0, .int .i64 0, .int .i64 0, .int .i64 0, .int .i64 0, .int .i64 0, .int .i64 0, .int .i64 0, .int .i64 0, .int .i64 0, .int .i64 0, .int .i64 0, .int .i64 0, .int .i64 0, .int .i64 0, .int .i64 0, .int .i64 0, .int .i64 0, .int .i64 0, .int .i64 0, .int .i64 0, .int .i64 0, .int .i64 0, .int .i64 0, .int .i64 0, .int .i64 0, .int .i64 0, .int .i64 0])).run Tryd.prog (w1.alloc (.cells #[.int .i64 0, .int .i64 0, .int .i64 0, .int .i64 0, .int .i64 0, .int .i64 0, .int .i64 0, .int .i64 0, .int .i64 0, .int .i64 0, .int .i64 0, .int .i64 0, .int .i64 0, .int .i64 0, .int .i64 0, .int .i64 0, .int .i64 0, .int .i64 0, .int .i64 0, .int .i64 0, .int .i64 0, .int .i64 0, .int .i64 0, .int .i64 0, .int .i64 0, .int .i64 0, .int .i64 0, .int .i64 0, .int .i64 0, .int .i64 0, .int .i64 0, .int .i64 0, .int .i64 0, .int .i64 0, .int .i64 0, .int .i64 0, .int .i64 0, .int .i64 0, .int .i64 0, .int .i64 0, .int .i64 0, .int .i64 0, .int .i64 0, .int .i64 0, .int .i64 0, .int .i64 0, .int .i64 0, .int .i64 0, .int .i64 0, .int .i64 0] 66)) = .ok () w2) := by
      have := run_storeAt_mid (P := Tryd.prog) (w1.alloc (.cells #[.int .i64 0, .int .i64 0, .int .i64 0, .int .i64 0, .int .i64 0, .int .i64 0, .int .i64 0, .int .i64 0, .int .i64 0, .int .i64 0, .int .i64 0, .int .i64 0, .int .i64 0, .int .i64 0, .int .i64 0, .int .i64 0, .int .i64 0, .int .i64 0, .int .i64 0, .int .i64 0, .int .i64 0, .int .i64 0, .int .i64 0, .int .i64 0, .int .i64 0, .int .i64 0, .int .i64 0, .int .i64 0, .int .i64 0, .int .i64 0, .int .i64 0, .int .i64 0, .int .i64 0, .int .i64 0, .int .i64 0, .int .i64 0, .int .i64 0, .int .i64 0, .int .i64 0, .int .i64 0, .int .i64 0, .int .i64 0, .int .i64 0, .int .i64 0, .int .i64 0, .int .i64 0, .int .i64 0, .int .i64 0, .int .i64 0, .int .i64 0] 66)) w1.heap.size 0 66 ((List.replicate 50 (0 : Int)).map (Value.int .i64)).toArray (there_blk N9 _ rfl) (by kernel_rfl) (all_int _)
      rw [hw2]
      exact this
    have K2 : Below w1.heap.size w1 w2 := by rw [hw2]; exact below_setCells _ (Nat.le_refl _) _ _ _ (below_alloc w1 _)
    have S2 : LBlk w2 w1.heap.size (List.replicate 25 0) 66 := by
      unfold LBlk
      rw [wordsL_zero, hw2]; exact N9.store rfl
    have T2 := T1.below K2 T1.lt
    have B2 := K1.trans (K2.mono K1.size)
    have lS := Blk.lt S2
    have HS2 : Hid (LBlk w2 w1.heap.size (List.replicate 25 0) 66) := S2
    have HT2 := hide T2
    have HB2 := hide B2
    have HC2 := hide (fun i hi => (B2.cell (p := ⟨b, off + i, none⟩) hb).trans ((unhide HAT) i hi))
    clear N9 hw2 K2 S2 T2 B2 K1 T1 hw1
    go_upto_block 0 with (refine wpList_store_eq rfl 66 (.tmp 3) (.tmp 12) rfl _ _ rfl rfl w2 (unhide HST) ?_)
    clear HST
    generalize Value.agg #[.int .i64 0, .int .i64 0, .int .i64 0, .int .i64 0, .int .i64 0, .int .i64 0, .int .i64 0, .int .i64 0, .int .i64 0, .int .i64 0, .int .i64 0, .int .i64 0, .int .i64 0, .int .i64 0, .int .i64 0, .int .i64 0, .int .i64 0, .int .i64 0, .int .i64 0, .int .i64 0, .int .i64 0, .int .i64 0, .int .i64 0, .int .i64 0, .int .i64 0, .int .i64 0, .int .i64 0, .int .i64 0, .int .i64 0, .int .i64 0, .int .i64 0, .int .i64 0, .int .i64 0, .int .i64 0, .int .i64 0, .int .i64 0, .int .i64 0, .int .i64 0, .int .i64 0, .int .i64 0, .int .i64 0, .int .i64 0, .int .i64 0, .int .i64 0, .int .i64 0, .int .i64 0, .int .i64 0, .int .i64 0, .int .i64 0, .int .i64 0] = z50
    generalize hg : w1.heap.size = g at HS2 hs1 lS ⊢
    clear hg
    go_cut [4] (fun i wr => (i = .int .i64 50 ∧ msOk xs = true ∧ wr = w2))
    case first =>
      go_wp2_with fail
      go_loop [4] (fun i => ∃ k : Nat, k ≤ 50 ∧ i = .int .i64 k ∧ (xs.take k).all wordB = true) (fun i => 50 - (intOf i).toNat)
      case atStart => exact ⟨0, by omega, rfl, rfl⟩
      case round =>
        obtain ⟨k, hk, rfl, hall⟩ := hrel
        by_cases hlt : k < 50
        · have hck := (unhide HC2) k hlt
          have hxk : xs[k]? = some (xs.getD k 0) := by rw [getD_at xs k (by rw [unhide HXL]; exact hlt)]; exact List.getElem?_eq_getElem _
          have hta := take_all xs k _ hxk
          have hno := not_all xs k _ hxk
          have HW := hide (word_any (xs.getD k 0) w2)
          have hww : isWord (xs.getD k 0) = wordB (xs.getD k 0) := rfl
          rw [hww] at HW
          generalize xs.getD k 0 = x at hck hta hno HW
          have i1 : (0 : Int) ≤ (k : Int) := by omega
          have i2 : (k : Int) < 50 := by omega
          have hdk : decide ((k : Int) < 50) = true := decide_eq_true i2
          cases hw : wordB x
          · rw [hw] at HW hno
            have hok := hno rfl
            have HCD : Hid (msCode xs = 3) := by show _ = _; unfold msCode; rw [if_pos (unhide HXL), hok]; rfl
            have HLS : Hid (msList xs = []) := by show _ = _; unfold msList; rw [if_neg (fun hh => by rw [hok] at hh; exact absurd hh.2 (by decide))]
            obtain ⟨r0, r1, g0, g1⟩ := (unhide HT2).cells
            clear hta hno hok hw hww hxk hall
            go_wp2_with fail
            refine (unhide HW).mono ?_
            rintro e w' ⟨rfl, rfl⟩
            go_wp2_with fail
            refine bodyPost_ret (v := .agg #[.int .i64 3, .slice none 0 0]) (by simp [results, Tryd.results20, go_sem, r0, r1]) rfl ⟨none, 0, ?_, ?_, ((unhide HB2).setCell (by simp) _).setCell (by simp) _⟩
            · rw [unhide HCD, unhide HLS]; rfl
            · rw [unhide HLS]; exact World.ownsRow_nil _ _ _ _
          · rw [hw] at HW hta
            rw [hall] at hta
            have HTA := hide hta
            clear hta hno hw hww hxk hall
            go_wp2_with fail
            refine (unhide HW).mono ?_
            rintro e w' ⟨rfl, rfl⟩
            go_wp2_with fail
            go_round
            case rel => exact ⟨k + 1, by omega, by go_num, by rw [unhide HTA]; rfl⟩
            case measure => simp [intOf]; omega
        · obtain rfl : k = 50 := by omega
          have hdk : decide (((50 : Nat) : Int) < 50) = false := rfl
          have HOK : Hid (msOk xs = true) := by
            show _ = _
            unfold msOk
            rw [List.take_of_length_le (by rw [unhide HXL]; exact Nat.le_refl _)] at hall
            exact hall
          clear hall
          go_wp2_with fail
          go_meet
          exact ⟨rfl, unhide HOK, rfl⟩
    case rest =>
      obtain ⟨rfl, hok, rfl⟩ := hcut
      obtain ⟨hLn, hWd⟩ := lanes_of (unhide HXL) hok
      have hcd : msCode xs = 0 := by unfold msCode; rw [if_pos (unhide HXL), if_pos hok]
      have hls : msList xs = wordsL (mixAt (lanesOf xs) 24) := by unfold msList; rw [if_pos ⟨unhide HXL, hok⟩]
      have HCD := hide hcd
      have HLS := hide hls
      generalize lanesOf xs = Z at hLn hWd HLS
      have HLN := hide hLn
      have HWD := hide hWd
      have zlen := hLn.1
      clear hcd hls hLn hWd hok
      go_upto_block 2 with fail
      go_cut [5] (fun i wr => i = .int .i64 25 ∧ LBlk wr g Z 66 ∧ RBlk wr w.heap.size 0 (.slice none 0 0) ∧ Below w.heap.size w wr)
      case first =>
        go_wp2_with fail
        go_loopw [5] (fun i wr => ∃ k : Nat, k ≤ 25 ∧ i = .int .i64 k ∧ LBlk wr g (Z.take k ++ (List.replicate 25 0).drop k) 66 ∧ RBlk wr w.heap.size 0 (.slice none 0 0) ∧ Below w.heap.size w wr) (fun i _ => 25 - (intOf i).toNat)
        case atStart => exact ⟨0, by omega, rfl, unhide HS2, unhide HT2, unhide HB2⟩
        case round =>
          obtain ⟨k, hk, rfl, hS, hT, hB⟩ := hrel
          by_cases hlt : k < 25
          · have hw := words_at (unhide HWD) k (by omega)
            have c0 := (hB.cell (p := ⟨b, off + k * 2, none⟩) hb).trans ((unhide HAT) (k * 2) (by omega))
            have c1 := (hB.cell (p := ⟨b, off + (k * 2 + 1), none⟩) hb).trans ((unhide HAT) (k * 2 + 1) (by omega))
            rw [hw.1] at c0
            rw [hw.2] at c1
            have hfill := fill_at Z (List.replicate 25 0) 25 k zlen (by simp) hlt
            generalize Z.getD k 0 = z at c0 c1 hfill
            have HF := hide hfill
            have hlen3 : (Z.take k ++ (List.replicate 25 0).drop k).length = 25 := by rw [List.length_append, List.length_take, zlen, List.length_drop, List.length_replicate]; omega
            have n0 := LBlk.hi hS k (by omega)
            have n1 := LBlk.lo hS k (by omega)
            have f0 := Blk.free hS (k * 2)
            have f1 := Blk.free hS (k * 2 + 1)
            generalize (Z.take k ++ (List.replicate 25 0).drop k).getD k 0 = ov at n0 n1
            have HS3 : Hid (LBlk ((wr.setCell ⟨g, k * 2, none⟩ (.int .i64 (hiW z : Int))).setCell ⟨g, k * 2 + 1, none⟩ (.int .i64 (loW z : Int))) g (Z.take (k + 1) ++ (List.replicate 25 0).drop (k + 1)) 66) := by
              show LBlk _ _ _ _
              rw [← unhide HF]; exact LBlk.set hS k z
            have HT3 : Hid (RBlk ((wr.setCell ⟨g, k * 2, none⟩ (.int .i64 (hiW z : Int))).setCell ⟨g, k * 2 + 1, none⟩ (.int .i64 (loW z : Int))) w.heap.size 0 (.slice none 0 0)) := by
              show RBlk _ _ _ _
              unfold RBlk
              rw [heap_setCell_other _ ⟨g, k * 2 + 1, none⟩ w.heap.size _ (by show w.heap.size ≠ g; omega), heap_setCell_other _ ⟨g, k * 2, none⟩ w.heap.size _ (by show w.heap.size ≠ g; omega)]
              exact hT
            have HB3 := hide ((hB.setCell (p := ⟨g, k * 2, none⟩) (by show w.heap.size ≤ g; omega) (.int .i64 (hiW z : Int))).setCell (p := ⟨g, k * 2 + 1, none⟩) (by show w.heap.size ≤ g; omega) (.int .i64 (loW z : Int)))
            have hdk : decide ((k : Int) < 25) = true := decide_eq_true (by omega)
            have m0 : 2 * (k : Int) = ((k * 2 : Nat) : Int) := by omega
            have m1 : ((k * 2 : Nat) : Int) + 1 = ((k * 2 + 1 : Nat) : Int) := by omega
            have y0 : IntKind.i64.wrap ((k * 2 : Nat) : Int) = ((k * 2 : Nat) : Int) := i64_fits _ (by omega) (by omega)
            have y1 : IntKind.i64.wrap ((k * 2 + 1 : Nat) : Int) = ((k * 2 + 1 : Nat) : Int) := i64_fits _ (by omega) (by omega)
            have j0 : (0 : Int) ≤ ((k * 2 : Nat) : Int) := by omega
            have j1 : ((k * 2 : Nat) : Int) < 50 := by omega
            have j2 : (0 : Int) ≤ ((k * 2 + 1 : Nat) : Int) := by omega
            have j3 : ((k * 2 + 1 : Nat) : Int) < 50 := by omega
            have ik1 : (0 : Int) ≤ (k : Int) := by omega
            have ik2 : (k : Int) < 25 := by omega
            clear hS hT hB hw hfill hlen3
            go_upto_region 12 with fail
            go_region
            all_goals
              go_wp2_with fail
              go_roundw
              case rel => exact ⟨k + 1, by omega, by go_num, unhide HS3, unhide HT3, (unhide HB3).drew⟩
              case measure => simp [intOf]; omega
          · obtain rfl : k = 25 := by omega
            have hdk : decide (((25 : Nat) : Int) < 25) = false := rfl
            have ht : Z.take 25 ++ (List.replicate 25 0).drop 25 = Z := by
              rw [List.take_of_length_le (by omega)]
              simp
            rw [ht] at hS
            have HSS : Hid (LBlk wr g Z 66) := hS
            clear ht hS
            go_wp2_with fail
            go_meet
            exact ⟨rfl, unhide HSS, hT, hB⟩
      case rest =>
        obtain ⟨rfl, hS, hT, hB⟩ := hcut
        have HLD := hide (lblk_load hS zlen)
        have HMX := hide (l2Mix_any Z (unhide HLN) wc)
        have HML := hide (mixAt_lanes (unhide HLN) 24)
        have mlen : (mixAt Z 24).length = 25 := (unhide HML).1
        have hwl : (wordsL Z).length = 50 := by rw [wordsL_length, zlen]
        generalize mixAt Z 24 = M at HLS HMX HML mlen
        have HS4 : Hid (LBlk wc g Z 66) := hS
        have HT4 := hide hT
        have HB4 := hide hB
        clear hS hT hB HS2 HT2 HB2 HC2
        go_upto_region 13 with fail
        go_wp2_with (refine wpList_load_eq rfl 66 (.tmp 3) rfl _ _ rfl (unhide HLD) ?_)
        refine (unhide HMX).mono ?_
        rintro e w4 ⟨rfl, b4⟩
        have S5 : LBlk w4 g Z 66 := Blk.below (unhide HS4) b4 (Blk.lt (unhide HS4))
        have B5 := (unhide HB4).trans (b4.mono (unhide HB4).size)
        have T5 := (unhide HT4).below b4 (unhide HT4).lt
        obtain ⟨w5, st5, S6, hbel5, hoth5⟩ := lblk_store (Z := M) S5 hwl mlen
        have T6 : RBlk w5 w.heap.size 0 (.slice none 0 0) := by
          unfold RBlk
          rw [(hbel5 (w.heap.size + 1) w4 (by omega) (Below.refl _ _)).block w.heap.size (by omega)]
          exact T5
        have B6 := hbel5 _ _ (by omega) B5
        have HST5 := hide st5
        have HS6 : Hid (LBlk w5 g M 66) := S6
        have HT6 := hide T6
        have HB6 := hide B6
        have L6 : g < w5.heap.size := Blk.lt S6
        generalize Value.agg ((wordsL M).map (Value.int .i64)).toArray = vagg at HST5 ⊢
        clear S5 B5 T5 st5 S6 T6 B6 hbel5 hoth5 b4 HLD HMX HS4 HT4 HB4
        go_upto_region 15 with (refine wpList_store_eq rfl 66 (.tmp 3) (.tmp 43) rfl _ _ rfl rfl w5 (unhide HST5) ?_)
        clear HST5
        have KO := below_alloc w5 (.cells #[.int .i64 0, .slice none 0 0] 36)
        have O7 : RBlk (w5.alloc (.cells #[.int .i64 0, .slice none 0 0] 36)) w5.heap.size 0 (.slice none 0 0) := heap_alloc_new w5 _
        generalize w5.alloc (.cells #[.int .i64 0, .slice none 0 0] 36) = w7 at KO O7 ⊢
        have HS7 : Hid (LBlk w7 g M 66) := Blk.below (unhide HS6) KO L6
        have HT7 := hide ((unhide HT6).below KO (unhide HT6).lt)
        have HB7 := hide ((unhide HB6).trans (KO.mono (unhide HB6).size))
        have HO7 := hide O7
        generalize w5.heap.size = o at L6 HO7 ⊢
        clear KO O7 HS6 HT6 HB6
        go_wp2_with fail
        go_loopw [7] (fun i wr => ∃ (k : Nat) (a : Option Addr) (cp : Nat), k ≤ 25 ∧ i = .int .i64 k ∧ LBlk wr g M 66 ∧ RBlk wr w.heap.size 0 (.slice none 0 0) ∧ RBlk wr o 0 (.slice a (2 * k) cp) ∧
            wr.ownsRow (o + 1) 2 1 (.slice a (2 * k) cp) (2 * k) ((wordsL (M.take k)).map (Value.int .i64)) ∧ Below w.heap.size w wr) (fun i _ => 25 - (intOf i).toNat)
        case atStart => exact ⟨0, none, 0, by omega, rfl, unhide HS7, unhide HT7, unhide HO7, by simpa [wordsL] using World.ownsRow_nil _ _ _ _, unhide HB7⟩
        case round =>
          obtain ⟨k, a, cp, hk, rfl, hS, hT, hO, hown, hB⟩ := hrel
          clear HS7 HT7 HO7 HB7
          by_cases hlt : k < 25
          · have n0 := LBlk.hi hS k (by omega)
            have n1 := LBlk.lo hS k (by omega)
            have HWT := hide (wordsL_take M k (by omega))
            obtain ⟨r0, r1, g0, g1⟩ := hO.cells
            generalize M.getD k 0 = z at n0 n1 HWT
            have hsz : o < wr.heap.size := hO.lt
            have hrow : ∀ q, (Value.slice a (2 * k) cp).ownBlock = some q → o < q := fun q e => by have := (hown.lt q e).1; omega
            have HS8 : Hid (LBlk wr g M 66) := hS
            have HT8 := hide hT
            have HO8 := hide hO
            have HB8 := hide hB
            have ik1 : (0 : Int) ≤ (k : Int) := by omega
            have ik2 : (k : Int) < 25 := by omega
            have hdk : decide ((k : Int) < 25) = true := decide_eq_true ik2
            have q1 : ¬ (g = wr.heap.size) := by omega
            have q2 : ¬ (o = wr.heap.size) := by omega
            have q3 : ¬ (g = o) := by omega
            have q4 : g < wr.heap.size := by omega
            clear hS hT hO hB
            go_upto_region 18 with fail
            go_region_law ((refine step_append_lies _ (by rfl) (.tmp 50) (.tmp 59) 34 (by rfl) (o + 1) 2 i0 (.int .i64 0) 1 8 Tryd.underlying34 hi hz0 hz1 hz2 rfl (by decide) _ _ _ (by rfl) (by first | exact hown.alloc _ | exact (hown.alloc _).drew) ⟨wr.heap.size, 0, none⟩ 2 2 [.int .i64 (hiW z : Int), .int .i64 (loW z : Int)] (by rfl) rfl (by exact news2 _ _ _ _) (by simp [Value.oneCell']) (by omega) (by unfold maxLen; omega) (by omega) (by simp; omega) _ rfl ?_; intro g2 cap2 w2' hown2 hgrow2 hat2 hlt2; have HO9 : RBlk w2' o 0 (.slice a (2 * k) cp) := (by unfold RBlk; rw [hgrow2.block _ (by first | (simp; done) | (simp; omega)) (fun e => by have := hrow _ e.symm; omega)]; exact (Below.heap_alloc wr _ _ hsz).trans (unhide HO8)); obtain ⟨d0, d1, d2, d3⟩ := HO9.cells))
            all_goals
              have HS9 : Hid (LBlk (w2'.setCell ⟨o, 1, none⟩ (.slice (some ⟨g2, 0, none⟩) (2 * k + 2) cap2)) g M 66) := by
                show LBlk _ _ _ _
                refine Blk.other (b' := o) ?_ 1 _ (by omega)
                unfold Blk
                rw [hgrow2.block _ (by first | (simp; done) | (simp; omega)) (fun e => by have := hrow _ e.symm; omega)]
                exact (Below.heap_alloc wr _ _ q4).trans (unhide HS8)
              have HT9 : Hid (RBlk (w2'.setCell ⟨o, 1, none⟩ (.slice (some ⟨g2, 0, none⟩) (2 * k + 2) cap2)) w.heap.size 0 (.slice none 0 0)) := by
                show RBlk _ _ _ _
                refine RBlk.other (b' := o) ?_ 1 _ (by omega)
                unfold RBlk
                rw [hgrow2.block _ (by first | (simp; done) | (simp; omega)) (fun e => by have := hrow _ e.symm; omega)]
                exact (Below.heap_alloc wr _ _ (by omega)).trans (unhide HT8)
              have HO10 := hide (HO9.set (.slice (some ⟨g2, 0, none⟩) (2 * k + 2) cap2))
              have HW9 : Hid ((w2'.setCell ⟨o, 1, none⟩ (.slice (some ⟨g2, 0, none⟩) (2 * k + 2) cap2)).ownsRow (o + 1) 2 1 (.slice (some ⟨g2, 0, none⟩) (2 * k + 2) cap2) (2 * k + 2) ((wordsL (M.take (k + 1))).map (Value.int .i64))) := by
                show World.ownsRow _ _ _ _ _ _ _
                rw [unhide HWT, List.map_append]
                exact ownsRow_setCell_below hown2 (by show o < o + 1; omega) _
              have HB9 := hide (((((unhide HB8).alloc (by omega) (.cells #[.int .i64 (hiW z : Int), .int .i64 (loW z : Int)] 2)).drew).grown hgrow2 (by simp; omega) (fun q e => by have := hrow q e; omega)).setCell (p := ⟨o, 1, none⟩) (by show w.heap.size ≤ o; omega) (.slice (some ⟨g2, 0, none⟩) (2 * k + 2) cap2))
              clear hown2 hgrow2 HO9 d0 d1 d2 d3 hown hrow n0 n1 r0 r1 g0 g1
              go_wp2_with fail
              go_roundw
              case rel => exact ⟨k + 1, some ⟨g2, 0, none⟩, cap2, by omega, by go_num, unhide HS9, unhide HT9, unhide HO10, unhide HW9, unhide HB9⟩
              case measure => simp [intOf]; omega
          · obtain rfl : k = 25 := by omega
            have hdk : decide (((25 : Nat) : Int) < 25) = false := rfl
            rw [List.take_of_length_le (by omega)] at hown
            have hwl2 : (wordsL M).length = 2 * 25 := by rw [wordsL_length, mlen]
            obtain ⟨r0, r1, g0, g1⟩ := hO.cells
            obtain ⟨t0, t1, t2, t3⟩ := hT.cells
            have HOW := hide hown
            have HBF := hide hB
            have hd : ¬ (w.heap.size = o) := by omega
            have HO9 := hide hO
            clear hS hT hO hown hB
            go_wp2_with fail
            refine bodyPost_ret (v := .agg #[.int .i64 0, .slice a (2 * 25) cp]) (by simp [results, Tryd.results20, go_sem, t0, t1]) rfl ⟨a, cp, ?_, ?_, ((unhide HBF).setCell (by simp) _).setCell (by simp) _⟩
            · rw [unhide HCD, unhide HLS, hwl2]
            · rw [unhide HLS, hwl2]
              exact ownsRow_base (ownsRow_setCell_below (ownsRow_setCell_below (unhide HOW) (by show w.heap.size < o + 1; omega) _) (by show w.heap.size < o + 1; omega) _) (by omega)
  · have HCD : Hid (msCode xs = 1) := by show _ = _; unfold msCode; rw [if_neg (by rw [hxl]; exact h50)]
    have HLS : Hid (msList xs = []) := by show _ = _; unfold msList; rw [if_neg (fun hh => h50 (by rw [← hxl]; exact hh.1))]
    have hne : (((n : Nat) : Int) != 50) = true := by simp; omega
    clear h hxl hc
    go_enter Tryd.func20, Tryd.ntmps20
    go_wp2_with fail
    refine bodyPost_ret (v := .agg #[.int .i64 1, .slice none 0 0]) (by simp [results, Tryd.results20, go_sem]) rfl ⟨none, 0, ?_, ?_, below_alloc w _⟩
    · rw [unhide HCD, unhide HLS]; rfl
    · rw [unhide HLS]; exact World.ownsRow_nil _ _ _ _

end Go.Proofs.YtjdeobifhgdffaaDoor
