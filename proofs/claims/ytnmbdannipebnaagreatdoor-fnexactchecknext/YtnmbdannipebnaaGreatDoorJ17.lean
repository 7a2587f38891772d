/- What is proved here: what the program's KeccakOf answers for every slice of bytes: the code and the hash, in new memory. -/
import Derived.Test.YtnmbdannipebnaaGreatDoorJ16
import Derived.Test.YtnmbdannipebnaaGreatDoorJ6
import Derived.WalkSmall
import Derived.WalkSpells
import Derived.Test.YtnmbdannipebnaaGreatDoorJ14
import Derived.Test.YtnmbdannipebnaaGreatDoorJ11
import Derived.Test.YtnmbdannipebnaaGreatDoorJ15
import Derived.Lib.AppendZeros
import Derived.Test.YtnmbdannipebnaaGreatDoorJ5
import Derived.Test.YtnmbdannipebnaaGreatDoorJ4
namespace Go.Proofs.YtnmbdannipebnaaGreatDoor
open Go.RowKit
set_option linter.unusedVariables false
set_option maxRecDepth 100000
attribute [local go_sem ↓] Go.wp_at_zero Go.wp_at_succ

/-- A block of an answer that is laid: its code and its bytes. -/
def YBlk (w : World) (b : Nat) (c : Int) (v : Value) : Prop := w.heap[b]? = some (.cells #[.int .i64 c, v] 90 (0, 0))

theorem YBlk.below {w w' : World} {b C : Nat} {c : Int} {v : Value} (h : YBlk w b c v) (hb : Below C w w') (hC : b < C) : YBlk w' b c v := by
  unfold YBlk
  rw [hb.block b hC]; exact h

theorem YBlk.lt {w : World} {b : Nat} {c : Int} {v : Value} (h : YBlk w b c v) : b < w.heap.size := lt_of_block h

theorem YBlk.cells {w : World} {b : Nat} {c : Int} {v : Value} (h : YBlk w b c v) : w.cell? ⟨b, 0, none⟩ = some (.int .i64 c) ∧ w.cell? ⟨b, 1, none⟩ = some v ∧ w.frozen? ⟨b, 0, none⟩ = false ∧ w.frozen? ⟨b, 1, none⟩ = false := res_facts h

theorem hash_get (Z : List Nat) (k : Nat) (hk : k < 32) : (hashOf Z)[k]? = some ((Z.getD (k / 8) 0 / 2 ^ (8 * (k % 8)) % 256 : Nat) : Int) := by
  simp [hashOf, hk]

theorem fill_int (X Y : List Int) (n k : Nat) (hX : X.length = n) (hY : Y.length = n) (hk : k < n) : (X.take k ++ Y.drop k).set k (X.getD k 0) = X.take (k + 1) ++ Y.drop (k + 1) := by
  have hl : (X.take k).length = k := by simp; omega
  rw [List.set_append, if_neg (by omega), hl, Nat.sub_self, List.drop_eq_getElem_cons (by omega), List.set_cons_zero, List.take_succ_eq_append_getElem (by omega), getD_at X k (by omega), List.append_assoc]
  rfl

set_option maxRecDepth 100000 in
set_option maxHeartbeats 4000000 in
theorem implKc_any (a : Option Addr) (n cap : Nat) (zs : List Int) (w : World) (h : BRow w a n zs) (hcap : a = none → cap = 0) (hn : n ≤ 1048576) (hv : Laid w) :
    Calls Tryz.prog 108 #[.slice a n cap] w fun e w' => ∃ a' cap', e = .returned (.agg #[.int .i64 (kcCode zs), .slice a' (kcBytes zs).length cap']) ∧
      w'.ownsRow w.heap.size 5 1 (.slice a' (kcBytes zs).length cap') (kcBytes zs).length ((kcBytes zs).map (Value.int .u8)) ∧ Below w.heap.size w w' := by
  have hzl := h.1
  have K1 := below_alloc w (.cells #[.int .i64 0, .slice none 0 0] 90)
  have T1 : YBlk (w.alloc (.cells #[.int .i64 0, .slice none 0 0] 90)) w.heap.size 0 (.slice none 0 0) := heap_alloc_new w _
  by_cases hm : 1200 < n
  · have e1 : kcCode zs = 2 := if_pos (by omega)
    have e2 : kcBytes zs = [] := if_pos (by omega)
    have HPD := hide (implPad_any a n cap zs _ (h.below K1 (Nat.le_refl _)) hcap hn)
    have e3 : pdCode zs = 2 := if_pos (by omega)
    have e4 : pdBytes zs = [] := if_pos (by omega)
    rw [e3, e4] at HPD
    rw [e1, e2]
    clear e1 e2 e3 e4 h
    go_enter Tryz.func108, Tryz.ntmps108
    generalize hw1 : w.alloc (.cells #[.int .i64 0, .slice none 0 0] 90) = w1 at K1 T1 HPD
    go_upto_region 1 with fail
    have hsz : w.heap.size < w1.heap.size := T1.lt
    clear hw1
    have HK1 := hide K1
    have HT1 := hide T1
    clear K1 T1
    go_wp2_with fail
    refine (unhide HPD).mono ?_
    rintro e w2 ⟨a2, c2, rfl, o2, b2⟩
    have T2 := YBlk.below (unhide HT1) b2 hsz
    have B2 := (unhide HK1).trans (b2.mono (unhide HK1).size)
    have hs2 : w.heap.size < w2.heap.size := Nat.lt_of_lt_of_le hsz b2.size
    clear o2 b2
    have K3 := below_alloc w2 (.cells #[.int .i64 2, .slice a2 0 c2] 90)
    have Q3 : YBlk (w2.alloc (.cells #[.int .i64 2, .slice a2 0 c2] 90)) w2.heap.size 2 (.slice a2 0 c2) := heap_alloc_new w2 _
    go_upto_region 2 with fail
    generalize w2.alloc (.cells #[.int .i64 2, .slice a2 0 c2] 90) = w3 at K3 Q3 ⊢
    obtain ⟨q0, q1, _, _⟩ := Q3.cells
    obtain ⟨t0, t1, t2, t3⟩ := (T2.below K3 hs2).cells
    have HB := hide (B2.trans (K3.mono B2.size))
    clear T2 B2 K3 Q3 HPD HT1 HK1
    go_wp2_with fail
    refine bodyPost_ret (v := .agg #[.int .i64 2, .slice none 0 0]) (by simp [results, Tryz.results108, go_sem, t0, t1]) rfl ⟨none, 0, rfl, World.ownsRow_nil _ _ _ _, ?_⟩
    exact ((unhide HB).setCell (by simp) _).setCell (by simp) _
  · have hp := padLen_lt n
    have HRG := hide (padB_range zs h.2.1)
    have HPL := hide (padB_length zs)
    have HPD := hide (implPad_in a n cap zs _ (h.below K1 (Nat.le_refl _)) hcap (by omega))
    have e1 : kcCode zs = 0 := if_neg (by omega)
    have e2 : kcBytes zs = hashOf (spAt (padB zs) (padLen zs.length / 136)) := if_neg (by omega)
    have e3 := hashOf_length (spAt (padB zs) (padLen zs.length / 136))
    rw [e1, e2, e3]
    rw [hzl] at HPL ⊢
    have HSL := hide (spAt_lanes (unhide HRG))
    have HSS := hide (fun k => show spAt (padB zs) (k + 1) = mixAt (soakAt (spAt (padB zs) k) (padB zs) (136 * k) 17) 24 from rfl)
    have HS0 := hide (show spAt (padB zs) 0 = List.replicate 25 0 from rfl)
    generalize padB zs = PB at HRG HPL HPD HSL HSS HS0 ⊢
    generalize padLen n = L at hp HPL HPD ⊢
    obtain ⟨N, hN⟩ : ∃ N, L = 136 * N := ⟨L / 136, by omega⟩
    have hN2 : L / 136 = N := by omega
    rw [hN2]
    have hLs : L ≤ 1400 := by omega
    have HN := hide hN
    clear hN2 hN
    have HVV := hide hv
    clear e1 e2 e3 h hv hcap
    go_enter Tryz.func108, Tryz.ntmps108
    generalize hw1 : w.alloc (.cells #[.int .i64 0, .slice none 0 0] 90) = w1 at K1 T1 HPD
    go_upto_region 1 with fail
    have hsz : w.heap.size < w1.heap.size := T1.lt
    clear hw1
    have HK1 := hide K1
    have HT1 := hide T1
    clear K1 T1
    go_wp2_with fail
    refine (unhide HPD).mono ?_
    rintro e w2 ⟨g, c2, rfl, o2, b2⟩
    have hL2 : L ≤ c2 := by
      rcases o2.2 with ⟨e, _⟩ | ⟨_, _, _, e, _, _, h1, _⟩
      · cases e
      · cases e; exact h1
    have R2 := BRow.own o2 (unhide HRG)
    have hg2 : g < w2.heap.size := (o2.lt g rfl).2
    have T2 := YBlk.below (unhide HT1) b2 hsz
    have B2 := (unhide HK1).trans (b2.mono (unhide HK1).size)
    have hs2 : w.heap.size < w2.heap.size := Nat.lt_of_lt_of_le hsz b2.size
    clear o2 b2
    have K3 := below_alloc w2 (.cells #[.int .i64 0, .slice (some ⟨g, 0, none⟩) L c2] 90)
    have Q3 : YBlk (w2.alloc (.cells #[.int .i64 0, .slice (some ⟨g, 0, none⟩) L c2] 90)) w2.heap.size 0 (.slice (some ⟨g, 0, none⟩) L c2) := heap_alloc_new w2 _
    go_upto_region 2 with fail
    generalize w2.alloc (.cells #[.int .i64 0, .slice (some ⟨g, 0, none⟩) L c2] 90) = w3 at K3 Q3 ⊢
    obtain ⟨q0, q1, _, _⟩ := Q3.cells
    have R3 := hide (R2.below K3 (Nat.le_refl _))
    have T3 := hide (T2.below K3 hs2)
    have B3 := hide (B2.trans (K3.mono B2.size))
    have hq3 : w2.heap.size < w3.heap.size := Q3.lt
    have HQ3 := hide Q3
    clear R2 T2 B2 K3 Q3 HPD HT1 HK1
    go_upto_block 0 with fail
    have N4 : UBlk (w3.alloc (.cells #[.int .u64 0, .int .u64 0, .int .u64 0, .int .u64 0, .int .u64 0, .int .u64 0, .int .u64 0, .int .u64 0, .int .u64 0, .int .u64 0, .int .u64 0, .int .u64 0, .int .u64 0, .int .u64 0, .int .u64 0, .int .u64 0, .int .u64 0, .int .u64 0, .int .u64 0, .int .u64 0, .int .u64 0, .int .u64 0, .int .u64 0, .int .u64 0, .int .u64 0] 169)) w3.heap.size (List.replicate 25 0) 169 := UBlk.new w3 (List.replicate 25 0) 169
    have K4 := below_alloc w3 (.cells #[.int .u64 0, .int .u64 0, .int .u64 0, .int .u64 0, .int .u64 0, .int .u64 0, .int .u64 0, .int .u64 0, .int .u64 0, .int .u64 0, .int .u64 0, .int .u64 0, .int .u64 0, .int .u64 0, .int .u64 0, .int .u64 0, .int .u64 0, .int .u64 0, .int .u64 0, .int .u64 0, .int .u64 0, .int .u64 0, .int .u64 0, .int .u64 0, .int .u64 0] 169)
    generalize w3.alloc (.cells #[.int .u64 0, .int .u64 0, .int .u64 0, .int .u64 0, .int .u64 0, .int .u64 0, .int .u64 0, .int .u64 0, .int .u64 0, .int .u64 0, .int .u64 0, .int .u64 0, .int .u64 0, .int .u64 0, .int .u64 0, .int .u64 0, .int .u64 0, .int .u64 0, .int .u64 0, .int .u64 0, .int .u64 0, .int .u64 0, .int .u64 0, .int .u64 0, .int .u64 0] 169) = w4 at N4 K4 ⊢
    rw [← unhide HS0] at N4
    have HS4 := hide N4
    have HK4 := hide K4
    clear N4 K4
    go_cut [5] (fun i wr => i = .int .i64 L ∧ UBlk wr w3.heap.size (spAt PB N) 169 ∧ Below w3.heap.size w3 wr)
    case first =>
      go_wp2_with fail
      go_loopw [5] (fun i wr => ∃ k : Nat, k ≤ N ∧ i = .int .i64 ((136 * k : Nat) : Int) ∧ UBlk wr w3.heap.size (spAt PB k) 169 ∧ Below w3.heap.size w3 wr) (fun i _ => 136 * N - (intOf i).toNat)
      case atStart => exact ⟨0, by omega, rfl, unhide HS4, unhide HK4⟩
      case round =>
        obtain ⟨k, hk, rfl, hS, hB⟩ := hrel
        clear HS4 HK4
        obtain ⟨t, ht⟩ : ∃ t, t = 136 * k := ⟨_, rfl⟩
        rw [← ht]
        have d1 := (hB.cell (p := ⟨w2.heap.size, 1, none⟩) hq3).trans q1
        have hsl := (unhide HSL) k
        have hN := unhide HN
        by_cases hlt : k < N
        · have hdk : decide ((t : Int) < (L : Int)) = true := decide_eq_true (by omega)
          have htL : t + 136 ≤ L := by omega
          have hkN : 136 * N - 136 * (k + 1) < 136 * N - t := by omega
          have HKN := hide hkN
          have HTT := hide (show t + 136 = 136 * (k + 1) by omega)
          clear hN hkN
          have HLD := hide (fun (W : World) (hW : UBlk W w3.heap.size (spAt PB k) 169) => load25 hW hsl.1)
          have HSK : Hid (∀ (cp : Nat) (W : World), Below w3.heap.size w3 W → Calls Tryz.prog 151 #[.agg (vals (spAt PB k)).toArray, .slice (some ⟨g, t, none⟩) 136 cp] W fun e w' => e = .returned (.agg (vals (spAt PB (k + 1))).toArray) ∧ Below W.heap.size W w') := by
            intro cp W hW
            have r1 := ((unhide R3).below hW (Nat.le_refl _)).sub t 136 (by omega)
            rw [Nat.zero_add] at r1
            have := soak_any (spAt PB k) hsl g t 136 cp _ W r1 (by omega) (by omega) ((unhide HVV).below ((unhide B3).trans (hW.mono (unhide B3).size)) (Nat.le_refl _))
            rw [soakAt_block _ _ _ 17 (Nat.le_refl _)] at this
            have hs := (unhide HSS) k
            rw [← ht] at hs
            rw [← hs] at this
            exact this
          have hsl2 := (unhide HSL) (k + 1)
          obtain ⟨t2, ht2⟩ : ∃ t2, t2 = t + 136 := ⟨_, rfl⟩
          have m0 : (t : Int) + 136 = (t2 : Int) := by omega
          have y0 : IntKind.i64.wrap (t2 : Int) = (t2 : Int) := i64_fits _ (by omega) (by omega)
          have j0 : (0 : Int) ≤ (t : Int) := by omega
          have j1 : (t : Int) ≤ (t2 : Int) := by omega
          have j2 : (t2 : Int) ≤ (c2 : Int) := by omega
          have j3 : t ≤ t2 := by omega
          have j4 : t2 ≤ c2 := by omega
          have j5 : t2 - t = 136 := by omega
          have j6 : ¬ (c2 = t) := by omega
          have HS5 := hide hS
          have HB5 := hide hB
          have len1 := hsl.1
          have len2 := hsl2.1
          generalize hS2 : spAt PB (k + 1) = S2 at HSK hsl2 len2
          have HE2 := hide hS2
          clear hS2
          generalize spAt PB k = S1 at HLD HSK HS5 len1 hS hsl
          clear hS hB hsl hsl2 ht ht2
          go_upto_region 8 with fail
          refine wp_region_any (by kernel_rfl) ?_
          try (change wpAny _ _ _ _ _ _ _ (World.drew _))
          refine wpAny_take (i := 1) (v := ?v1) rfl (by kernel_rfl) (by kernel_rfl) (by kernel_rfl) (fun _ _ _ h => h) (Or.inl ⟨by rfl, ?h1⟩) ?r1
          case h1 => (intro w; go_simp; try with_reducible rfl)
          refine wpAny_take (i := 3) (v := ?v3) rfl (by kernel_rfl) (by kernel_rfl) (by kernel_rfl) (fun _ _ _ h => h) (Or.inl ⟨by rfl, ?h3⟩) ?r3
          case h3 => (intro w; go_simp; try with_reducible rfl)
          refine wpAny_take (i := 4) (v := ?v4) rfl (by kernel_rfl) (by kernel_rfl) (by kernel_rfl) (fun _ _ _ h => h) (Or.inl ⟨by rfl, ?h4⟩) ?r4
          case h4 => (intro w; go_simp; try with_reducible rfl)
          refine wpAny_take (i := 5) (v := ?v5) rfl (by kernel_rfl) (by kernel_rfl) (by kernel_rfl) (fun _ _ _ h => h) (Or.inl ⟨by rfl, ?h5⟩) ?r5
          case h5 => (intro w; go_simp; try with_reducible rfl)
          refine wpAny_ready (rs := [0, 2]) (by kernel_rfl) (by simp) ?_
          refine AllReady.cons rfl (fun K hK => ?_) ?_
          · refine step_load_eq rfl 169 (.tmp 4) rfl (.pointer (some ⟨w3.heap.size, 0, none⟩)) _ (by rfl) ((unhide HLD) (World.drew wr) (unhide HS5)) ?_
            refine hK _ _ ?_
            clear hK K
            refine wpAny_ready (rs := [2]) (by kernel_rfl) (by simp) ?_
            refine AllReady.cons rfl (fun K hK => ?_) AllReady.nil
            go_simp
            refine hK _ _ ?_
            clear hK K
            refine wpAny_ready (rs := [6]) (by kernel_rfl) (by simp) ?_
            refine AllReady.cons rfl (fun K hK => ?_) AllReady.nil
            go_simp
            refine hK _ _ ?_
            clear hK K
            refine wpAny_ready (rs := [7]) (by kernel_rfl) (by simp) ?_
            refine AllReady.cons rfl (fun K hK => ?_) AllReady.nil
            go_simp
            go_wp2_with (go_at_call 151; refine ((unhide HSK) _ (World.drew wr) (unhide HB5).drew).mono ?_; rintro e w6 ⟨rfl, b6⟩)
            obtain ⟨w7, hst, S7, K7, O7⟩ := store25 ((unhide HS5).below (Below.trans ((Below.refl wr.heap.size wr).drew) b6) (unhide HS5).lt) len1 len2
            have HB7 := hide (((unhide HB5).trans ((Below.trans ((Below.refl wr.heap.size wr).drew) b6).mono (unhide HB5).size)).trans (K7 w3.heap.size (Nat.le_refl _)))
            have HS7 := hide S7
            have HST := hide hst
            clear hst S7 K7 O7 b6
            try (refine hK _ _ ?_; clear hK K)
            refine wpAny_ready (rs := [8]) (by kernel_rfl) (by simp) ?_
            refine AllReady.cons rfl (fun K hK => ?_) AllReady.nil
            refine step_store_eq rfl 169 (.tmp 4) (.tmp 30) rfl (.pointer (some ⟨w3.heap.size, 0, none⟩)) (.agg (vals S2).toArray) (by rfl) (by rfl) w7 (unhide HST) ?_
            refine hK _ _ ?_
            clear hK K
            refine wpAny_done (by kernel_rfl) ?_ _
            go_wp2_with fail
            go_roundw
            case rel => exact ⟨k + 1, by omega, by rw [← unhide HTT]; go_num, by rw [unhide HE2]; exact unhide HS7, unhide HB7⟩
            case measure => simp [intOf]; have := unhide HKN; have := unhide HTT; omega
          · refine AllReady.cons rfl (fun K hK => ?_) AllReady.nil
            go_simp
            refine hK _ _ ?_
            clear hK K
            refine wpAny_ready (rs := [0, 6]) (by kernel_rfl) (by simp) ?_
            refine AllReady.cons rfl (fun K hK => ?_) ?_
            · refine step_load_eq rfl 169 (.tmp 4) rfl (.pointer (some ⟨w3.heap.size, 0, none⟩)) _ (by rfl) ((unhide HLD) (World.drew wr) (unhide HS5)) ?_
              refine hK _ _ ?_
              clear hK K
              refine wpAny_ready (rs := [6]) (by kernel_rfl) (by simp) ?_
              refine AllReady.cons rfl (fun K hK => ?_) AllReady.nil
              go_simp
              refine hK _ _ ?_
              clear hK K
              refine wpAny_ready (rs := [7]) (by kernel_rfl) (by simp) ?_
              refine AllReady.cons rfl (fun K hK => ?_) AllReady.nil
              go_simp
              go_wp2_with (go_at_call 151; refine ((unhide HSK) _ (World.drew wr) (unhide HB5).drew).mono ?_; rintro e w6 ⟨rfl, b6⟩)
              obtain ⟨w7, hst, S7, K7, O7⟩ := store25 ((unhide HS5).below (Below.trans ((Below.refl wr.heap.size wr).drew) b6) (unhide HS5).lt) len1 len2
              have HB7 := hide (((unhide HB5).trans ((Below.trans ((Below.refl wr.heap.size wr).drew) b6).mono (unhide HB5).size)).trans (K7 w3.heap.size (Nat.le_refl _)))
              have HS7 := hide S7
              have HST := hide hst
              clear hst S7 K7 O7 b6
              try (refine hK _ _ ?_; clear hK K)
              refine wpAny_ready (rs := [8]) (by kernel_rfl) (by simp) ?_
              refine AllReady.cons rfl (fun K hK => ?_) AllReady.nil
              refine step_store_eq rfl 169 (.tmp 4) (.tmp 30) rfl (.pointer (some ⟨w3.heap.size, 0, none⟩)) (.agg (vals S2).toArray) (by rfl) (by rfl) w7 (unhide HST) ?_
              refine hK _ _ ?_
              clear hK K
              refine wpAny_done (by kernel_rfl) ?_ _
              go_wp2_with fail
              go_roundw
              case rel => exact ⟨k + 1, by omega, by rw [← unhide HTT]; go_num, by rw [unhide HE2]; exact unhide HS7, unhide HB7⟩
              case measure => simp [intOf]; have := unhide HKN; have := unhide HTT; omega
            · refine AllReady.cons rfl (fun K hK => ?_) AllReady.nil
              go_simp
              refine hK _ _ ?_
              clear hK K
              refine wpAny_ready (rs := [0]) (by kernel_rfl) (by simp) ?_
              refine AllReady.cons rfl (fun K hK => ?_) AllReady.nil
              refine step_load_eq rfl 169 (.tmp 4) rfl (.pointer (some ⟨w3.heap.size, 0, none⟩)) _ (by rfl) ((unhide HLD) (World.drew wr) (unhide HS5)) ?_
              refine hK _ _ ?_
              clear hK K
              refine wpAny_ready (rs := [7]) (by kernel_rfl) (by simp) ?_
              refine AllReady.cons rfl (fun K hK => ?_) AllReady.nil
              go_simp
              go_wp2_with (go_at_call 151; refine ((unhide HSK) _ (World.drew wr) (unhide HB5).drew).mono ?_; rintro e w6 ⟨rfl, b6⟩)
              obtain ⟨w7, hst, S7, K7, O7⟩ := store25 ((unhide HS5).below (Below.trans ((Below.refl wr.heap.size wr).drew) b6) (unhide HS5).lt) len1 len2
              have HB7 := hide (((unhide HB5).trans ((Below.trans ((Below.refl wr.heap.size wr).drew) b6).mono (unhide HB5).size)).trans (K7 w3.heap.size (Nat.le_refl _)))
              have HS7 := hide S7
              have HST := hide hst
              clear hst S7 K7 O7 b6
              try (refine hK _ _ ?_; clear hK K)
              refine wpAny_ready (rs := [8]) (by kernel_rfl) (by simp) ?_
              refine AllReady.cons rfl (fun K hK => ?_) AllReady.nil
              refine step_store_eq rfl 169 (.tmp 4) (.tmp 30) rfl (.pointer (some ⟨w3.heap.size, 0, none⟩)) (.agg (vals S2).toArray) (by rfl) (by rfl) w7 (unhide HST) ?_
              refine hK _ _ ?_
              clear hK K
              refine wpAny_done (by kernel_rfl) ?_ _
              go_wp2_with fail
              go_roundw
              case rel => exact ⟨k + 1, by omega, by rw [← unhide HTT]; go_num, by rw [unhide HE2]; exact unhide HS7, unhide HB7⟩
              case measure => simp [intOf]; have := unhide HKN; have := unhide HTT; omega
        · obtain rfl : k = N := by omega
          have hdk : decide ((t : Int) < (L : Int)) = false := decide_eq_false (by omega)
          have htL : t = L := by omega
          clear hN
          have HS5 := hide hS
          clear hS
          go_wp2_with fail
          go_meet
          exact ⟨by rw [htL], unhide HS5, hB⟩
    case rest =>
      obtain ⟨rfl, hS, hB⟩ := hcut
      have hsl := (unhide HSL) N
      have hBw := (unhide B3).trans (hB.mono (unhide B3).size)
      have hT := (unhide T3).below hB (by omega)
      have hrs := hS.lt
      have hXL := hashOf_length (spAt PB N)
      have HHG := hide (hash_get (spAt PB N))
      generalize hX : hashOf (spAt PB N) = X at hXL HHG
      have HX := hide hX
      clear hX
      generalize spAt PB N = Z at hS hsl HHG
      have HSL2 := hide hsl
      have HS5 := hide hS
      have HB5 := hide hBw
      have HT5 := hide hT
      have zlen := hsl.1
      obtain ⟨i0, hi, hz0, hz1, hz2⟩ := info_parts info5
      have hws : w.heap.size < wc.heap.size := hT.lt
      clear hS hB hBw hT hsl HS4 HK4 HSL HSS HS0 R3 T3 B3 HQ3 q0 q1
      go_upto_region 10 with (at_make; refine wpList_make_full _ rfl _ _ 29 rfl wc.heap.size 5 i0 (.int .u8 0) 1 Tryz.underlying29 hi hz0 hz1 _ _ _ _ 32 rfl rfl (by omega) (by omega) ?c1 ?c2 ?c3 ?_)
      case c1 => rw [hz2]; omega
      case c2 => unfold maxLen; omega
      case c3 => exact Nat.le_refl _
      intro w5 hown hgrow
      rw [show (madeCells #[Value.int IntKind.u8 0] 32).toList = (List.replicate 32 (0 : Int)).map (Value.int .u8) from by kernel_rfl] at hown
      have S6 : UBlk w5 w3.heap.size Z 169 := by
        unfold UBlk
        rw [hgrow.block _ hrs (by simp)]
        exact unhide HS5
      have T6 : YBlk w5 w.heap.size 0 (.slice none 0 0) := by
        unfold YBlk
        rw [hgrow.block _ hws (by simp)]
        exact unhide HT5
      have HB6 := hide ((unhide HB5).grown hgrow (by omega) (fun k e => by cases e))
      have HS6 := hide S6
      have HT6 := hide T6
      have HO6 := hide hown
      have hd5 : w3.heap.size < wc.heap.size := hrs
      clear S6 T6 hown hgrow HS5 HT5 HB5
      generalize wc.heap.size = d at HO6 hws hd5 ⊢
      go_wp2_with fail
      go_loopw [34] (fun i wr => ∃ k : Nat, k ≤ 32 ∧ i = .int .i64 k ∧ wr.ownsRow d 5 1 (.slice (some ⟨d, 0, none⟩) 32 32) 32 ((X.take k ++ (List.replicate 32 (0 : Int)).drop k).map (Value.int .u8)) ∧
          UBlk wr w3.heap.size Z 169 ∧ YBlk wr w.heap.size 0 (.slice none 0 0) ∧ Below w.heap.size w wr) (fun i _ => 32 - (intOf i).toNat)
      case atStart => exact ⟨0, by omega, rfl, by simpa using unhide HO6, unhide HS6, unhide HT6, unhide HB6⟩
      case round =>
        obtain ⟨k, hk, rfl, hown, hS, hT, hB⟩ := hrel
        clear HO6 HS6 HT6 HB6
        by_cases hlt : k < 32
        · have hdk : decide ((k : Int) < 32) = true := decide_eq_true (by omega)
          obtain ⟨e, he⟩ : ∃ e, e = k / 8 := ⟨_, rfl⟩
          obtain ⟨f, hf⟩ : ∃ f, f = k % 8 := ⟨_, rfl⟩
          obtain ⟨s, hs⟩ : ∃ s, s = 8 * f := ⟨_, rfl⟩
          have hxk := (unhide HHG) k hlt
          rw [← he, ← hf, ← hs] at hxk
          have c0 := UBlk.cell hS e (by omega)
          have hz64 : Z.getD e 0 < 18446744073709551616 := getD_lt (unhide HSL2).2 (by decide) _
          have hfill := fill_int X (List.replicate 32 (0 : Int)) 32 k hXL (by simp) hlt
          have hgd : X.getD k 0 = ((Z.getD e 0 / 2 ^ s % 256 : Nat) : Int) := by rw [List.getD_eq_getElem?_getD, hxk]; rfl
          rw [hgd] at hfill
          generalize Z.getD e 0 = z at c0 hz64 hfill
          have R8 := hown.stored k (.int .u8 ((z / 2 ^ s % 256 : Nat) : Int))
          rw [← List.map_set, hfill] at R8
          have f1 := hown.frozenAt k
          obtain ⟨u, hu⟩ : ∃ u, wr.cell? ⟨d, k, none⟩ = some u := by
            rw [hown.cellAt k (by omega)]
            exact ⟨_, List.getElem?_eq_getElem (by rw [hown.1]; omega)⟩
          have HO8 := hide R8.1
          have HS8 := hide (hS.other (b' := d) k (.int .u8 ((z / 2 ^ s % 256 : Nat) : Int)) (by omega))
          have HT8 : Hid (YBlk (wr.setCell ⟨d, k, none⟩ (.int .u8 ((z / 2 ^ s % 256 : Nat) : Int))) w.heap.size 0 (.slice none 0 0)) := by
            show YBlk _ _ _ _
            unfold YBlk
            rw [heap_setCell_other _ ⟨d, k, none⟩ w.heap.size _ (by show w.heap.size ≠ d; omega)]
            exact hT
          have HB8 := hide (hB.setCell (p := ⟨d, k, none⟩) (by show w.heap.size ≤ d; omega) (.int .u8 ((z / 2 ^ s % 256 : Nat) : Int)))
          have m0 : (k : Int).tdiv 8 = (e : Int) := by rw [Int.tdiv_eq_ediv_of_nonneg (by omega)]; omega
          have m1 : (k : Int).tmod 8 = (f : Int) := by rw [Int.tmod_eq_emod_of_nonneg (by omega)]; omega
          have m2 : 8 * (f : Int) = (s : Int) := by omega
          have y0 : IntKind.i64.wrap (e : Int) = (e : Int) := i64_fits _ (by omega) (by omega)
          have y1 : IntKind.i64.wrap (f : Int) = (f : Int) := i64_fits _ (by omega) (by omega)
          have y2 : IntKind.i64.wrap (s : Int) = (s : Int) := i64_fits _ (by omega) (by omega)
          have j0 : (0 : Int) ≤ (e : Int) := by omega
          have j1 : (e : Int) < 25 := by omega
          have j2 : (0 : Int) ≤ (s : Int) := by omega
          have j3 : (0 : Int) ≤ (k : Int) := by omega
          have j4 : (k : Int) < 32 := by omega
          have hs64 : s < 64 := by omega
          clear hown hS hT hB hxk hgd hfill R8 he hf hs
          have HVC := hide (show ((z : Int) / 2 ^ s % 256) = ((z / 2 ^ s % 256 : Nat) : Int) by simp)
          go_wp2_with fail
          rw [unhide HVC]
          exact ⟨⟨k + 1, by omega, by go_num, unhide HO8, unhide HS8, unhide HT8, unhide HB8⟩, by simp [intOf]; omega⟩
        · obtain rfl : k = 32 := by omega
          have hdk : decide (((32 : Nat) : Int) < 32) = false := rfl
          rw [List.take_of_length_le (by omega), List.drop_of_length_le (by simp), List.append_nil] at hown
          obtain ⟨t0, t1, t2, t3⟩ := hT.cells
          have HOW := hide hown
          have HBF := hide hB
          clear hT hown hB
          go_wp2_with fail
          refine bodyPost_ret (v := .agg #[.int .i64 0, .slice (some ⟨d, 0, none⟩) 32 32]) (by simp [results, Tryz.results108, go_sem, t0, t1]) rfl ⟨_, _, rfl, ?_, ((unhide HBF).setCell (by simp) _).setCell (by simp) _⟩
          refine ownsRow_base (B := d) ?_ (by omega)
          rw [unhide HX]
          exact ownsRow_setCell_below (a := ⟨w.heap.size, 1, none⟩) (ownsRow_setCell_below (a := ⟨w.heap.size, 0, none⟩) (unhide HOW) hws _) hws _

end Go.Proofs.YtnmbdannipebnaaGreatDoor

/- What is proved here: what the program's HashOf answers: the fault of a header, or the hash of its bytes in new memory. -/
namespace Go.Proofs.YtnmbdannipebnaaGreatDoor
open Go.RowKit
set_option linter.unusedVariables false
set_option maxRecDepth 100000

set_option maxRecDepth 100000 in
set_option maxHeartbeats 8000000 in
theorem implHash_any (x : HS) (h : Hd) (w : World) (o : HOk w x h) (nn : HNil w x) (m : HSm h) (hv : Laid w) :
    Calls Tryz.prog 61 #[.agg (hvals x h)] w fun e w' => ∃ a c, e = .returned (.agg #[.int .i64 (hdFlt h), .slice a (hsBytes h).length c]) ∧
      w'.ownsRow w.heap.size 5 1 (.slice a (hsBytes h).length c) (hsBytes h).length ((hsBytes h).map (Value.int .u8)) ∧ Below w.heap.size w w' := by
  have hfl := fldB1
  have kb := SBlk.new w (hvals x h) 42
  have bb := below_alloc w (.cells (hvals x h) 42)
  have zb : (w.alloc (.cells (hvals x h) 42)).heap.size = w.heap.size + 1 := by simp
  obtain ⟨W0, eb⟩ : ∃ W0, w.alloc (.cells (hvals x h) 42) = W0 := ⟨_, rfl⟩
  rw [eb] at kb bb zb
  have k1 := (kb.next (.cells #[.int .i64 0, .slice none 0 0] 90))
  have kr := SBlk.new W0 #[.int .i64 0, .slice none 0 0] 90
  have b1 := bb.alloc bb.size (.cells #[.int .i64 0, .slice none 0 0] 90)
  have z1 : (W0.alloc (.cells #[.int .i64 0, .slice none 0 0] 90)).heap.size = w.heap.size + 2 := by simp; omega
  rw [zb] at kr
  obtain ⟨W1, e1⟩ : ∃ W1, W0.alloc (.cells #[.int .i64 0, .slice none 0 0] 90) = W1 := ⟨_, rfl⟩
  rw [e1] at k1 kr b1 z1
  have HKB := hide (fun (W' : World) (hb : Below W1.heap.size W1 W') => k1.below hb k1.lt)
  have HRB := hide (fun (W' : World) (hb : Below W1.heap.size W1 W') => kr.below hb kr.lt)
  have D1 := hide (implHeaderFault_any x h W1 (o.below b1 (Nat.le_refl _)) m)
  have HB1 := hide b1
  obtain ⟨x0, x1, x2, x3, x4, x5, x6, x7, x8, x9, x10⟩ := hcells k1
  have hz2 : w.heap.size + 1 < W1.heap.size := by omega
  have HPK : Hid (hdFlt h = 0 → ∀ (W' : World), Below w.heap.size w W' → Calls Tryz.prog 109 #[.agg (hvals (xNoK x) (noK h))] W' fun e w' => ∃ g c, e = .returned (.agg #[.int .i64 0, .slice (some ⟨g, 0, none⟩) (packL (noK h)).length c]) ∧ BRow w' (some ⟨g, 0, none⟩) (packL (noK h)).length (packL (noK h)) ∧ Below W'.heap.size W' w') := fun hf W' hb => by
    have hg := hdFlt_noK hf
    have ok := (o.below hb (Nat.le_refl _)).noK
    have P := implPack_any (xNoK x) (noK h) W' ok (nn.below hb (Nat.le_refl _)).noK m.noK
    rw [hg, pkBytes_good hg] at P
    refine P.mono ?_
    rintro e w' ⟨a, c, rfl, ho, hb'⟩
    obtain ⟨g, c', he⟩ := own_some ho (packL_pos _)
    simp only [Value.slice.injEq] at he
    obtain ⟨rfl, -, rfl⟩ := he
    exact ⟨g, c, rfl, BRow.own ho (packL_rng hg ok), hb'⟩
  have HKC : Hid (hdFlt h = 0 → ∀ (W' : World) (g c : Nat), Below w.heap.size w W' → BRow W' (some ⟨g, 0, none⟩) (packL (noK h)).length (packL (noK h)) → Calls Tryz.prog 108 #[.slice (some ⟨g, 0, none⟩) (packL (noK h)).length c] W' fun e w' => ∃ a' c', e = .returned (.agg #[.int .i64 0, .slice a' (hsBytes h).length c']) ∧ w'.ownsRow W'.heap.size 5 1 (.slice a' (hsBytes h).length c') (hsBytes h).length ((hsBytes h).map (Value.int .u8)) ∧ Below W'.heap.size W' w') := fun hf W' g c hb hr => by
    have hl := packL_le (hdFlt_noK hf)
    have K := implKc_any (some ⟨g, 0, none⟩) (packL (noK h)).length c (packL (noK h)) W' hr (fun e => by cases e) (by omega) (hv.below hb (Nat.le_refl _))
    rw [kcCode_good hl] at K
    have e : hsBytes h = kcBytes (packL (noK h)) := if_pos hf
    rw [e]
    exact K
  have HPB : Hid (hdFlt h ≠ 0 → hsBytes h = []) := fun hf => if_neg hf
  clear o nn m kb bb k1 kr b1 zb hv
  generalize hdFlt h = q at D1 HPK HKC HPB ⊢
  generalize packL (noK h) = PL at HPK HKC
  generalize PL.length = il at HPK HKC
  generalize hsBytes h = PB at HPB HKC ⊢
  have EV : hvals (xNoK x) (noK h) = (hvals x h).setIfInBounds 10 (.slice none 0 0) := rfl
  have hsl : ∀ (W' : World), SBlk W' w.heap.size (hvals x h).toList 42 → SBlk (W'.setCell ⟨w.heap.size, 10, none⟩ (.slice none 0 0)) w.heap.size (hvals (xNoK x) (noK h)).toList 42 := fun W' hk => hk.set 10 _
  have HSL := hide hsl
  clear hsl EV
  unfold hvals at eb D1 HPK ⊢
  have EB := hide eb
  have E1 := hide e1
  clear eb e1
  go_enter Tryz.func61, Tryz.ntmps61
  go_upto_region 1 with fail
  rw [unhide EB, unhide E1]
  clear EB E1
  go_wp2_with fail
  refine (unhide D1).mono ?_
  rintro e w2 ⟨rfl, b2⟩
  have kr2 := (unhide HRB) w2 b2
  have r0 := kr2.cell 0
  have r1 := kr2.cell 1
  have f0 := kr2.free 0
  have f1 := kr2.free 1
  simp only [List.getElem?_cons_zero, List.getElem?_cons_succ] at r0 r1
  have HB2 := hide ((unhide HB1).trans (b2.mono (unhide HB1).size))
  have K2 := hide b2
  clear b2 kr2 x0 x1 x2 x3 x4 x5 x6 x7 x8 x9 x10 D1
  by_cases hq : q = 0
  · subst hq
    have kb2 := (unhide HKB) w2 (unhide K2)
    have kb3 := (unhide HSL) w2 kb2
    have b3 := (unhide HB2).setCell (p := ⟨w.heap.size, 10, none⟩) (Nat.le_refl _) (.slice none 0 0)
    have kr3 := ((unhide HRB) w2 (unhide K2)).other (g' := w.heap.size) (i := 10) (v := .slice none 0 0) (by omega)
    have z3 : (w2.setCell ⟨w.heap.size, 10, none⟩ (.slice none 0 0)).heap.size = w2.heap.size := size_set' _ _ _
    have fz : w2.frozen? ⟨w.heap.size, 10, none⟩ = false := kb2.free 10
    have cz := kb2.cell 10
    simp only [hvals, List.getElem?_cons_zero, List.getElem?_cons_succ] at cz
    obtain ⟨W3, e3⟩ : ∃ W3, w2.setCell ⟨w.heap.size, 10, none⟩ (.slice none 0 0) = W3 := ⟨_, rfl⟩
    rw [e3] at kb3 b3 kr3 z3
    have hz3 : w.heap.size + 1 < W3.heap.size := by rw [z3]; exact Nat.lt_of_lt_of_le hz2 (unhide K2).size
    have HR3 := hide (fun (W' : World) (hb : Below W3.heap.size W3 W') => kr3.below hb kr3.lt)
    have HB3 := hide b3
    obtain ⟨y0, y1, y2, y3, y4, y5, y6, y7, y8, y9, y10⟩ := hcells kb3
    have E3 := hide e3
    clear kb2 kb3 b3 kr3 z3 e3 r0 r1 f0 f1
    go_upto_region 5 with fail

    rw [unhide E3]
    clear E3
    go_wp2_with fail
    refine ((unhide HPK) (by first | exact rfl | trivial) _ (unhide HB3)).mono ?_
    rintro e w4 ⟨g4, c4, rfl, row4, b4⟩
    have HB4 := hide ((unhide HB3).trans (b4.mono (unhide HB3).size))
    have K4 := hide b4
    clear b4 y0 y1 y2 y3 y4 y5 y6 y7 y8 y9 y10
    go_wp2_with fail
    refine ((unhide HKC) (by first | exact rfl | trivial) _ g4 c4 (unhide HB4) row4).mono ?_
    rintro e w5 ⟨a5, c5, rfl, o5, b5⟩
    have HB5 := hide ((unhide HB4).trans (b5.mono (unhide HB4).size))
    have K5 := (unhide K4).trans (b5.mono (unhide K4).size)
    have kr5 := (unhide HR3) w5 K5
    have s0 := kr5.cell 0
    have s1 := kr5.cell 1
    have g0 := kr5.free 0
    have g1 := kr5.free 1
    simp only [List.getElem?_cons_zero, List.getElem?_cons_succ] at s0 s1
    have hz4 : w.heap.size + 1 < w4.heap.size := Nat.lt_of_lt_of_le hz3 (unhide K4).size
    have HO5 := hide o5
    have hwz : w.heap.size ≤ w4.heap.size := (unhide HB4).size
    clear K5 kr5 o5 b5 row4
    go_wp2_with fail
    refine bodyPost_ret (v := .agg #[.int .i64 0, .slice a5 PB.length c5]) (by simp [results, Tryz.results61, go_sem, s0, s1]) rfl ⟨a5, c5, rfl, ?_, ?_⟩
    · exact ownsRow_base (ownsRow_setCell_below (ownsRow_setCell_below (unhide HO5) (by show w.heap.size + 1 < w4.heap.size; omega) _) (by show w.heap.size + 1 < w4.heap.size; omega) _) hwz
    · exact ((unhide HB5).setCell (p := ⟨w.heap.size + 1, _, none⟩) (by show w.heap.size ≤ w.heap.size + 1; omega) _).setCell (p := ⟨w.heap.size + 1, _, none⟩) (by show w.heap.size ≤ w.heap.size + 1; omega) _
  · have hne : (q != 0) = true := by simp [hq]
    have HPB2 : Hid (PB = []) := (unhide HPB) hq
    clear hq
    go_wp2_with fail
    refine bodyPost_ret (v := .agg #[.int .i64 q, .slice none 0 0]) (by simp [results, Tryz.results61, go_sem, r0, r1]) rfl ⟨none, 0, by rw [unhide HPB2]; rfl, ?_, ?_⟩
    · rw [unhide HPB2]; exact World.ownsRow_nil _ _ _ _
    · exact ((unhide HB2).setCell (p := ⟨w.heap.size + 1, _, none⟩) (by show w.heap.size ≤ w.heap.size + 1; omega) _).setCell (p := ⟨w.heap.size + 1, _, none⟩) (by show w.heap.size ≤ w.heap.size + 1; omega) _

end Go.Proofs.YtnmbdannipebnaaGreatDoor

/- What is proved here: what the program's SealHash answers: the fault of a header, or the hash of its bytes in new memory. -/
namespace Go.Proofs.YtnmbdannipebnaaGreatDoor
open Go.RowKit
set_option linter.unusedVariables false
set_option maxRecDepth 100000

set_option maxRecDepth 100000 in
set_option maxHeartbeats 8000000 in
theorem implSealHash_any (x : HS) (h : Hd) (w : World) (o : HOk w x h) (nn : HNil w x) (m : HSm h) (hv : Laid w) :
    Calls Tryz.prog 170 #[.agg (hvals x h)] w fun e w' => ∃ a c, e = .returned (.agg #[.int .i64 (hdFlt h), .slice a (shBytes h).length c]) ∧
      w'.ownsRow w.heap.size 5 1 (.slice a (shBytes h).length c) (shBytes h).length ((shBytes h).map (Value.int .u8)) ∧ Below w.heap.size w w' := by
  have hfl := fldB1
  have kb := SBlk.new w (hvals x h) 42
  have bb := below_alloc w (.cells (hvals x h) 42)
  have zb : (w.alloc (.cells (hvals x h) 42)).heap.size = w.heap.size + 1 := by simp
  obtain ⟨W0, eb⟩ : ∃ W0, w.alloc (.cells (hvals x h) 42) = W0 := ⟨_, rfl⟩
  rw [eb] at kb bb zb
  have k1 := (kb.next (.cells #[.int .i64 0, .slice none 0 0] 90))
  have kr := SBlk.new W0 #[.int .i64 0, .slice none 0 0] 90
  have b1 := bb.alloc bb.size (.cells #[.int .i64 0, .slice none 0 0] 90)
  have z1 : (W0.alloc (.cells #[.int .i64 0, .slice none 0 0] 90)).heap.size = w.heap.size + 2 := by simp; omega
  rw [zb] at kr
  obtain ⟨W1, e1⟩ : ∃ W1, W0.alloc (.cells #[.int .i64 0, .slice none 0 0] 90) = W1 := ⟨_, rfl⟩
  rw [e1] at k1 kr b1 z1
  have HKB := hide (fun (W' : World) (hb : Below W1.heap.size W1 W') => k1.below hb k1.lt)
  have HRB := hide (fun (W' : World) (hb : Below W1.heap.size W1 W') => kr.below hb kr.lt)
  have D1 := hide (implHeaderFault_any x h W1 (o.below b1 (Nat.le_refl _)) m)
  have HB1 := hide b1
  obtain ⟨x0, x1, x2, x3, x4, x5, x6, x7, x8, x9, x10⟩ := hcells k1
  have hz2 : w.heap.size + 1 < W1.heap.size := by omega
  have HPK : Hid (hdFlt h = 0 → ∀ (W' : World), Below w.heap.size w W' → Calls Tryz.prog 61 #[.agg (hvals (xNoE x) (noE h))] W' fun e w' => ∃ a c, e = .returned (.agg #[.int .i64 0, .slice a (shBytes h).length c]) ∧ w'.ownsRow W'.heap.size 5 1 (.slice a (shBytes h).length c) (shBytes h).length ((shBytes h).map (Value.int .u8)) ∧ Below W'.heap.size W' w') := fun hf W' hb => by
    have P := implHash_any (xNoE x) (noE h) W' (o.below hb (Nat.le_refl _)).noE (nn.below hb (Nat.le_refl _)).noE m.noE (hv.below hb (Nat.le_refl _))
    rw [hdFlt_noE hf, ← shBytes_eq hf] at P
    exact P
  have HPB : Hid (hdFlt h ≠ 0 → shBytes h = []) := fun hf => if_neg hf
  clear o nn m kb bb k1 kr b1 zb hv
  generalize hdFlt h = q at D1 HPK HPB ⊢
  generalize shBytes h = PB at HPB HPK ⊢
  have EV : hvals (xNoE x) (noE h) = (hvals x h).setIfInBounds 9 (.slice none 0 0) := rfl
  have hsl : ∀ (W' : World), SBlk W' w.heap.size (hvals x h).toList 42 → SBlk (W'.setCell ⟨w.heap.size, 9, none⟩ (.slice none 0 0)) w.heap.size (hvals (xNoE x) (noE h)).toList 42 := fun W' hk => hk.set 9 _
  have HSL := hide hsl
  clear hsl EV
  unfold hvals at eb D1 HPK ⊢
  have EB := hide eb
  have E1 := hide e1
  clear eb e1
  go_enter Tryz.func170, Tryz.ntmps170
  go_upto_region 1 with fail
  rw [unhide EB, unhide E1]
  clear EB E1
  go_wp2_with fail
  refine (unhide D1).mono ?_
  rintro e w2 ⟨rfl, b2⟩
  have kr2 := (unhide HRB) w2 b2
  have r0 := kr2.cell 0
  have r1 := kr2.cell 1
  have f0 := kr2.free 0
  have f1 := kr2.free 1
  simp only [List.getElem?_cons_zero, List.getElem?_cons_succ] at r0 r1
  have HB2 := hide ((unhide HB1).trans (b2.mono (unhide HB1).size))
  have K2 := hide b2
  clear b2 kr2 x0 x1 x2 x3 x4 x5 x6 x7 x8 x9 x10 D1
  by_cases hq : q = 0
  · subst hq
    have kb2 := (unhide HKB) w2 (unhide K2)
    have kb3 := (unhide HSL) w2 kb2
    have b3 := (unhide HB2).setCell (p := ⟨w.heap.size, 9, none⟩) (Nat.le_refl _) (.slice none 0 0)
    have kr3 := ((unhide HRB) w2 (unhide K2)).other (g' := w.heap.size) (i := 9) (v := .slice none 0 0) (by omega)
    have z3 : (w2.setCell ⟨w.heap.size, 9, none⟩ (.slice none 0 0)).heap.size = w2.heap.size := size_set' _ _ _
    have fz : w2.frozen? ⟨w.heap.size, 9, none⟩ = false := kb2.free 9
    have cz := kb2.cell 9
    simp only [hvals, List.getElem?_cons_zero, List.getElem?_cons_succ] at cz
    obtain ⟨W3, e3⟩ : ∃ W3, w2.setCell ⟨w.heap.size, 9, none⟩ (.slice none 0 0) = W3 := ⟨_, rfl⟩
    rw [e3] at kb3 b3 kr3 z3
    have hz3 : w.heap.size + 1 < W3.heap.size := by rw [z3]; exact Nat.lt_of_lt_of_le hz2 (unhide K2).size
    have HR3 := hide (fun (W' : World) (hb : Below W3.heap.size W3 W') => kr3.below hb kr3.lt)
    have HB3 := hide b3
    obtain ⟨y0, y1, y2, y3, y4, y5, y6, y7, y8, y9, y10⟩ := hcells kb3
    have E3 := hide e3
    clear kb2 kb3 b3 kr3 z3 e3 r0 r1 f0 f1
    go_upto_region 5 with fail

    rw [unhide E3]
    clear E3
    go_wp2_with fail
    refine ((unhide HPK) (by first | exact rfl | trivial) _ (unhide HB3)).mono ?_
    rintro e w5 ⟨a5, c5, rfl, o5, b5⟩
    have HB5 := hide ((unhide HB3).trans (b5.mono (unhide HB3).size))
    have K5 := b5
    clear y0 y1 y2 y3 y4 y5 y6 y7 y8 y9 y10
    have kr5 := (unhide HR3) w5 K5
    have s0 := kr5.cell 0
    have s1 := kr5.cell 1
    have g0 := kr5.free 0
    have g1 := kr5.free 1
    simp only [List.getElem?_cons_zero, List.getElem?_cons_succ] at s0 s1
    have HO5 := hide o5
    have hwz : w.heap.size ≤ W3.heap.size := (unhide HB3).size
    clear K5 kr5 o5 b5
    go_wp2_with fail
    refine bodyPost_ret (v := .agg #[.int .i64 0, .slice a5 PB.length c5]) (by simp [results, Tryz.results170, go_sem, s0, s1]) rfl ⟨a5, c5, rfl, ?_, ?_⟩
    · exact ownsRow_base (ownsRow_setCell_below (ownsRow_setCell_below (unhide HO5) (by show w.heap.size + 1 < W3.heap.size; omega) _) (by show w.heap.size + 1 < W3.heap.size; omega) _) hwz
    · exact ((unhide HB5).setCell (p := ⟨w.heap.size + 1, _, none⟩) (by show w.heap.size ≤ w.heap.size + 1; omega) _).setCell (p := ⟨w.heap.size + 1, _, none⟩) (by show w.heap.size ≤ w.heap.size + 1; omega) _
  · have hne : (q != 0) = true := by simp [hq]
    have HPB2 : Hid (PB = []) := (unhide HPB) hq
    clear hq
    go_wp2_with fail
    refine bodyPost_ret (v := .agg #[.int .i64 q, .slice none 0 0]) (by simp [results, Tryz.results170, go_sem, r0, r1]) rfl ⟨none, 0, by rw [unhide HPB2]; rfl, ?_, ?_⟩
    · rw [unhide HPB2]; exact World.ownsRow_nil _ _ _ _
    · exact ((unhide HB2).setCell (p := ⟨w.heap.size + 1, _, none⟩) (by show w.heap.size ≤ w.heap.size + 1; omega) _).setCell (p := ⟨w.heap.size + 1, _, none⟩) (by show w.heap.size ≤ w.heap.size + 1; omega) _

end Go.Proofs.YtnmbdannipebnaaGreatDoor

/- What is proved here: what slices.Grow and slices.Concat answer at bytes: room, and all bytes one behind the other. -/
namespace Go.Proofs.YtnmbdannipebnaaGreatDoor
open Go.RowKit
set_option linter.unusedVariables false
set_option maxRecDepth 100000

set_option maxRecDepth 100000 in
set_option maxHeartbeats 1000000 in
theorem grow_any (n : Nat) (w : World) (hn : n ≤ 1048576) :
    Calls Tryz.prog 212 #[.slice none 0 0, .int .i64 n] w fun e w' => ∃ (a' : Option Addr) (cap' : Nat), e = .returned (.slice a' 0 cap') ∧ w'.ownsRow w.heap.size 5 1 (.slice a' 0 cap') 0 [] ∧ Below w.heap.size w w' := by
  obtain ⟨i0, hi, hz0, hz1, hz2⟩ := info_parts info5
  have q1 : decide ((n : Int) < 0) = false := decide_eq_false (by omega)
  by_cases h0 : n = 0
  · subst h0
    go_enter Tryz.func212, Tryz.ntmps212
    go_wp2_with fail
    go_ret
    exact ⟨none, 0, rfl, World.ownsRow_nil _ _ _ _, Below.refl _ _⟩
  · have q2 : decide ((n : Int) > 0) = true := decide_eq_true (by omega)
    have q3 : decide (0 < (n : Int)) = true := decide_eq_true (by omega)
    have q4 : decide (0 < n) = true := decide_eq_true (by omega)
    obtain ⟨C, W', hrun, hown, hbel⟩ : ∃ C W', (Builtin.append_ #[29, 3] 29 #[.slice none 0 0, .int .i64 n]).run Tryz.prog w = .ok (.slice (some ⟨w.heap.size, 0, none⟩) n C) W' ∧ W'.ownsRow w.heap.size 5 1 (.slice (some ⟨w.heap.size, 0, none⟩) 0 C) 0 [] ∧ Below w.heap.size w W' := by
      have hr := Lib.run_append_nil_zeros (P := Tryz.prog) w 29 3 29 5 i0 (.int .u8 0) .i64 .i64 Tryz.underlying29 Tryz.underlying3 hi hz0 n (by omega) (by omega) (by omega) (by rw [hz2]; omega)
      have hge := grownCap_ge w n 0 5
      have hle := grownCap_le_maxLen w n 0 5 (by unfold maxLen; omega)
      refine ⟨_, _, hr, ⟨rfl, .inr ⟨w.heap.size, _, _, rfl, Nat.le_refl _, heap_alloc_new w.drew _, Nat.zero_le _, hle, ?_, by simp⟩⟩, ?_⟩
      · rw [Array.size_append, size_zeroCells, size_zeroCells]
        simp [Value.cells]
        omega
      · exact (Below.refl _ _).drew.alloc (Nat.le_refl _) _
    have HR := hide hrun
    have HO := hide hown
    have HB := hide hbel
    clear hrun hown hbel
    go_enter Tryz.func212, Tryz.ntmps212
    go_wp2_with (at_builtin; refine Lib.wpList_append_run _ rfl _ _ 29 3 rfl _ _ rfl rfl _ _ (unhide HR) ?_)
    go_wp2_with fail
    go_ret
    exact ⟨_, C, by simp, unhide HO, unhide HB⟩

theorem flat_snoc2 (zss : List (List Int)) (k : Nat) (z : List Int) (h : zss[k]? = some z) : (zss.take (k + 1)).flatten = (zss.take k).flatten ++ z := by
  obtain ⟨hk, e⟩ := List.getElem?_eq_some_iff.1 h
  rw [List.take_succ_eq_append_getElem hk, List.flatten_append, e]
  simp

theorem flat_take (zss : List (List Int)) (k : Nat) : (zss.take k).flatten.length ≤ zss.flatten.length := by
  have : zss.flatten = (zss.take k).flatten ++ (zss.drop k).flatten := by rw [← List.flatten_append, List.take_append_drop]
  rw [this, List.length_append]
  omega

set_option maxRecDepth 100000 in
set_option maxHeartbeats 4000000 in
theorem concat_any (a : Option Addr) (len cap : Nat) (zss : List (List Int)) (w : World) (h : BsRow w a len zss) (hn : BsNil w a len) (hl : len ≤ 1048576) (hz : zss.flatten.length ≤ 1048576) :
    Calls Tryz.prog 190 #[.slice a len cap] w fun e w' => ∃ a' c', e = .returned (.slice a' zss.flatten.length c') ∧
      w'.ownsRow w.heap.size 5 1 (.slice a' zss.flatten.length c') zss.flatten.length (zss.flatten.map (Value.int .u8)) ∧ Below w.heap.size w w' := by
  obtain ⟨i0, hi, hz0, hz1, hz2⟩ := info_parts info5
  have hil := h.1
  have HROW := hide (fun (W : World) (hb : Below w.heap.size w W) => And.intro (h.below hb (Nat.le_refl _)) (hn.below hb (Nat.le_refl _)))
  have HTK := hide (flat_take zss)
  have HFL := hide (flat_snoc2 zss)
  have HL := hide hil
  clear h hn hil
  go_enter Tryz.func190, Tryz.ntmps190
  go_wp2_with fail
  go_loopw [3, 11] (fun q i wr => ∃ (k : Nat), k ≤ len ∧ i = .int .i64 k ∧ q = .int .i64 ((zss.take k).flatten.length : Nat) ∧ Below w.heap.size w wr) (fun _ i _ => len - (intOf i).toNat)
  case atStart => exact ⟨0, Nat.zero_le _, rfl, rfl, Below.refl _ _⟩
  case round =>
    obtain ⟨k, hk, rfl, rfl, hbr⟩ := hrel
    by_cases hlt : k < len
    · obtain ⟨z, hit⟩ : ∃ z, zss[k]? = some z := ⟨_, List.getElem?_eq_getElem (by rw [unhide HL]; exact hlt)⟩
      obtain ⟨hrow, hnil⟩ := (unhide HROW) wr hbr
      obtain ⟨b, off, rfl, _, hat⟩ := hrow.at (by omega)
      obtain ⟨s1, n1, d1, c0, r1⟩ := hat k z hit
      have hs := (unhide HFL) k z hit
      have hzl : z.length = n1 := r1.1
      have h1 := (unhide HTK) (k + 1)
      have hle : (zss.take (k + 1)).flatten.length = (zss.take k).flatten.length + n1 := by rw [hs, List.length_append, hzl]
      obtain ⟨m, hm⟩ : ∃ m, m = (zss.take k).flatten.length := ⟨_, rfl⟩
      rw [← hm] at hle ⊢
      have hmn : m + n1 ≤ 1048576 := by omega
      have HLE := hide hle
      have HB := hide hbr
      have k1 : (0 : Int) ≤ (k : Int) := by omega
      have k2 : (k : Int) < (len : Int) := by omega
      have k3 : decide ((m : Int) + (n1 : Int) < 0) = false := decide_eq_false (by omega)
      clear hs hzl h1 hle hm hbr hrow hnil hat r1 hit
      go_wp2_with fail
      go_roundw
      case rel => exact ⟨k + 1, by omega, by go_num, by rw [unhide HLE]; go_num, unhide HB⟩
      case measure => simp [intOf]; omega
    · obtain rfl : k = len := by omega
      have et : zss.take k = zss := List.take_of_length_le (by rw [unhide HL]; exact Nat.le_refl _)
      rw [et]
      obtain ⟨T, hT⟩ : ∃ T, T = zss.flatten.length := ⟨_, rfl⟩
      rw [← hT] at hz ⊢
      have HC := hide (grow_any T wr hz)
      have HB := hide hbr
      have HT := hide hT
      clear et hbr hT
      go_wp2_with fail
      refine (unhide HC).mono ?_
      rintro e w2 ⟨a2, c2, rfl, o2, b2⟩
      have B2 := (unhide HB).trans (b2.mono (unhide HB).size)
      have O2 : w2.ownsRow w.heap.size 5 1 (.slice a2 0 c2) 0 (([] : List Int).map (Value.int .u8)) := ownsRow_base o2 (unhide HB).size
      have HB2 := hide B2
      have HO2 := hide O2
      clear HC o2 b2 B2 O2 HB
      go_wp2_with fail
      go_loopw [6, 27] (fun s i wr => ∃ (j m : Nat) (ab : Option Addr) (cb : Nat), j ≤ k ∧ i = .int .i64 j ∧ m = (zss.take j).flatten.length ∧ s = .slice ab m cb ∧ wr.ownsRow w.heap.size 5 1 (.slice ab m cb) m ((zss.take j).flatten.map (Value.int .u8)) ∧ Below w.heap.size w wr) (fun _ i _ => k - (intOf i).toNat)
      case atStart => exact ⟨0, 0, _, _, Nat.zero_le _, rfl, rfl, rfl, unhide HO2, unhide HB2⟩
      case round =>
        obtain ⟨j, m, ab, cb, hj, rfl, hm, rfl, ob, hbr⟩ := hrel
        clear HO2 HB2
        by_cases hlt : j < k
        · obtain ⟨z, hit⟩ : ∃ z, zss[j]? = some z := ⟨_, List.getElem?_eq_getElem (by rw [unhide HL]; exact hlt)⟩
          obtain ⟨hrow, hnil⟩ := (unhide HROW) wr hbr
          obtain ⟨b, off, rfl, _, hat⟩ := hrow.at (by omega)
          obtain ⟨s1, n1, d1, c0, r1⟩ := hat j z hit
          obtain ⟨s1', n1', d1', c0', hnn⟩ := hnil b off rfl j hlt
          rw [c0] at c0'
          simp only [Option.some.injEq, Value.slice.injEq] at c0'
          obtain ⟨rfl, rfl, rfl⟩ := c0'
          have hs := (unhide HFL) j z hit
          have hzl : z.length = n1 := r1.1
          have h1 := (unhide HTK) (j + 1)
          have hle : (zss.take (j + 1)).flatten.length = m + n1 := by rw [hs, List.length_append, hzl, hm]
          have hmn : m + n1 ≤ 1048576 := by have := unhide HT; omega
          have HLE := hide hle
          have HS := hide hs
          have HM := hide hm
          have HR := hide r1
          have HNN := hide hnn
          generalize (zss.take j).flatten = L at ob HS HM
          have HOB := hide ob
          have HB := hide hbr
          have k1 : (0 : Int) ≤ (j : Int) := by omega
          have k2 : (j : Int) < (k : Int) := by omega
          clear hs hzl h1 hle hm hbr hrow hnil hat r1 hit hnn ob
          go_wp2_with (at_builtin; refine wpList_append_brow _ rfl _ _ 29 rfl w.heap.size i0 Tryz.underlying29 hi hz0 hz1 hz2 _ m L rfl (unhide HOB) s1 n1 d1 z rfl (unhide HR) (unhide HNN) (by omega) (unhide HB).size ?_)
          intro a3 c3 w3 o3 g3
          have B3 : Below w.heap.size w w3 := (unhide HB).grown g3 (unhide HB).size (fun g e => ((unhide HOB).lt g e).1)
          have HO3 := hide o3
          have HB3 := hide B3
          clear o3 B3 g3 HB HOB
          go_wp2_with fail
          go_roundw
          case rel => exact ⟨j + 1, m + n1, a3, c3, by omega, by go_num, (unhide HLE).symm, rfl, by rw [unhide HS, List.map_append]; exact unhide HO3, unhide HB3⟩
          case measure => simp [intOf]; omega
        · obtain rfl : j = k := by omega
          have et : zss.take j = zss := List.take_of_length_le (by rw [unhide HL]; exact Nat.le_refl _)
          rw [et] at hm ob
          have hTm : T = m := by rw [hm]; exact unhide HT
          subst hTm
          have HB := hide hbr
          have HOB := hide ob
          clear et hm ob hbr
          go_wp2_with fail
          go_ret
          rw [← unhide HT]
          exact ⟨ab, cb, rfl, unhide HOB, unhide HB⟩

end Go.Proofs.YtnmbdannipebnaaGreatDoor

/- What is proved here: what the program's markOf, SealOf and CommitOf answer: the code, and a seal or a commit in new memory. -/
namespace Go.Proofs.YtnmbdannipebnaaGreatDoor
open Go.RowKit
set_option linter.unusedVariables false
set_option maxRecDepth 100000

set_option maxRecDepth 100000 in
set_option maxHeartbeats 2000000 in
theorem markOf_any (a : Option Addr) (len cap : Nat) (zss : List (List Int)) (w : World) (h : BsRow w a len zss) (hn : BsNil w a len) (hl : len ≤ 8) (hz : zss.flatten.length ≤ 1200) (hp : 0 < zss.flatten.length) (hv : Laid w) :
    Calls Tryz.prog 189 #[.slice a len cap] w fun e w' => ∃ a' c', e = .returned (.slice a' 4 c') ∧
      w'.ownsRow w.heap.size 5 1 (.slice a' 4 c') 4 (((kcBytes zss.flatten).take 4).map (Value.int .u8)) ∧ Below w.heap.size w w' := by
  have hfl := fldB1
  have hby : ∀ x ∈ zss.flatten, 0 ≤ x ∧ x ≤ 255 := fun x hx => by obtain ⟨z, hz, hxz⟩ := List.mem_flatten.1 hx; exact h.bytes z hz x hxz
  have D1 := hide (concat_any a len cap zss w h hn (by omega) (by omega))
  have HKC : Hid (∀ (W' : World) (g c : Nat), Below w.heap.size w W' → BRow W' (some ⟨g, 0, none⟩) zss.flatten.length zss.flatten → Calls Tryz.prog 108 #[.slice (some ⟨g, 0, none⟩) zss.flatten.length c] W' fun e w' => ∃ g' c', e = .returned (.agg #[.int .i64 0, .slice (some ⟨g', 0, none⟩) 32 c']) ∧ w'.ownsRow W'.heap.size 5 1 (.slice (some ⟨g', 0, none⟩) 32 c') 32 ((kcBytes zss.flatten).map (Value.int .u8)) ∧ Below W'.heap.size W' w') := fun W' g c hb hr => by
    have K := implKc_any (some ⟨g, 0, none⟩) zss.flatten.length c zss.flatten W' hr (fun e => by cases e) (by omega) (hv.below hb (Nat.le_refl _))
    have e1 : kcCode zss.flatten = 0 := if_neg (by omega)
    have e2 : (kcBytes zss.flatten).length = 32 := by unfold kcBytes; rw [if_neg (by omega), hashOf_length]
    rw [e1, e2] at K
    refine K.mono ?_
    rintro e w' ⟨a', c', rfl, ho, hb'⟩
    obtain ⟨g', c'', he⟩ := own_some ho (by omega)
    simp only [Value.slice.injEq] at he
    obtain ⟨rfl, -, rfl⟩ := he
    exact ⟨g', c', rfl, ho, hb'⟩
  have HRK := hide (fun x hx => kcBytes_range _ hby x (List.mem_of_mem_take (i := 4) hx))
  have HRG := hide hby
  clear h hn hby hv
  generalize kcBytes zss.flatten = KB at HKC HRK ⊢
  generalize zss.flatten = FL at D1 HKC HRG hz hp
  go_enter Tryz.func189, Tryz.ntmps189
  go_wp2_with fail
  refine (unhide D1).mono ?_
  rintro e w2 ⟨a2, c2, rfl, o2, b2⟩
  obtain ⟨g2, c', he⟩ := own_some o2 hp
  simp only [Value.slice.injEq] at he
  obtain ⟨rfl, -, rfl⟩ := he
  have D2 := hide ((unhide HKC) w2 g2 c2 b2 (BRow.own o2 (unhide HRG)))
  have HB2 := hide b2
  clear D1 o2 b2 HKC
  go_wp2_with fail
  refine (unhide D2).mono ?_
  rintro e w3 ⟨g3, c3, rfl, o3, b3⟩
  have HB3 := hide ((unhide HB2).trans (b3.mono (unhide HB2).size))
  have o4 := own_take o3 (m := 4) (by omega)
  rw [← List.map_take] at o4
  have D3 := hide (clone_any (some ⟨g3, 0, none⟩) 4 c3 (KB.take 4) w3 (BRow.own o4 (unhide HRK)) (by omega))
  have hc3 : 32 ≤ c3 := by
    rcases o3.2 with ⟨h', _⟩ | ⟨g, cap', cur, h', _, _, hnc, _⟩
    · simp at h'
    · simp only [Value.slice.injEq] at h'; rw [h'.2.2]; exact hnc
  clear D2 o3 o4 b3
  go_wp2_with fail
  refine (unhide D3).mono ?_
  rintro e w5 ⟨a5, c5, rfl, o5, b5⟩
  have HB5 := hide ((unhide HB3).trans (b5.mono (unhide HB3).size))
  have HO5 := hide (ownsRow_base o5 (unhide HB3).size)
  clear D3 o5 b5
  go_wp2_with fail
  go_ret
  exact ⟨a5, c5, rfl, unhide HO5, unhide HB5⟩

/-- Two slices of bytes in a block of their own. -/
theorem two_row (w : World) (a : Option Addr) (n c : Nat) (xs : List Int) (b : Option Addr) (m d : Nat) (ys : List Int) (T : TypeId) (h : BRow w a n xs) (k : BRow w b m ys) (hn : n ≤ 1048576) (hm : m ≤ 1048576) (hc : a = none → c = 0) (hd : b = none → d = 0) :
    BsRow (w.alloc (.cells #[.slice a n c, .slice b m d] T)) (some ⟨w.heap.size, 0, none⟩) 2 [xs, ys] ∧ BsNil (w.alloc (.cells #[.slice a n c, .slice b m d] T)) (some ⟨w.heap.size, 0, none⟩) 2 := by
  have ba := below_alloc w (.cells #[.slice a n c, .slice b m d] T)
  have h' := h.below ba (Nat.le_refl _)
  have k' := k.below ba (Nat.le_refl _)
  have c0 : ∀ i v, [Value.slice a n c, .slice b m d][i]? = some v → (w.alloc (.cells #[.slice a n c, .slice b m d] T)).cell? ⟨w.heap.size, i, none⟩ = some v := fun i v hv => by rw [(SBlk.new w #[.slice a n c, .slice b m d] T).cell]; exact hv
  refine ⟨⟨rfl, fun z hz => ?_, fun _ => ⟨_, _, rfl, fun i z hi => ?_⟩⟩, fun b' off' e i hi => ?_⟩
  · have := h.1; have := k.1; unfold maxLen
    simp at hz; rcases hz with rfl | rfl <;> omega
  · match i, hi with
    | 0, hi => simp at hi; subst hi; exact ⟨_, _, _, c0 0 _ rfl, h'⟩
    | 1, hi => simp at hi; subst hi; exact ⟨_, _, _, c0 1 _ rfl, k'⟩
  · simp only [Option.some.injEq, Addr.mk.injEq, and_true] at e
    obtain ⟨rfl, rfl⟩ := e
    match i, hi with
    | 0, _ => exact ⟨_, _, _, c0 0 _ rfl, hc⟩
    | 1, _ => exact ⟨_, _, _, c0 1 _ rfl, hd⟩

theorem three_row (w : World) (a : Option Addr) (n c : Nat) (xs : List Int) (b : Option Addr) (m d : Nat) (ys : List Int) (b3 : Option Addr) (m3 d3 : Nat) (us : List Int) (T : TypeId) (h : BRow w a n xs) (k : BRow w b m ys) (k3 : BRow w b3 m3 us) (hn : n ≤ 1048576) (hm : m ≤ 1048576) (hm3 : m3 ≤ 1048576) (hc : a = none → c = 0) (hd : b = none → d = 0) (hd3 : b3 = none → d3 = 0) :
    BsRow (w.alloc (.cells #[.slice a n c, .slice b m d, .slice b3 m3 d3] T)) (some ⟨w.heap.size, 0, none⟩) 3 [xs, ys, us] ∧ BsNil (w.alloc (.cells #[.slice a n c, .slice b m d, .slice b3 m3 d3] T)) (some ⟨w.heap.size, 0, none⟩) 3 := by
  have ba := below_alloc w (.cells #[.slice a n c, .slice b m d, .slice b3 m3 d3] T)
  have h' := h.below ba (Nat.le_refl _)
  have k' := k.below ba (Nat.le_refl _)
  have k3' := k3.below ba (Nat.le_refl _)
  have c0 : ∀ i v, [Value.slice a n c, .slice b m d, .slice b3 m3 d3][i]? = some v → (w.alloc (.cells #[.slice a n c, .slice b m d, .slice b3 m3 d3] T)).cell? ⟨w.heap.size, i, none⟩ = some v := fun i v hv => by rw [(SBlk.new w #[.slice a n c, .slice b m d, .slice b3 m3 d3] T).cell]; exact hv
  refine ⟨⟨rfl, fun z hz => ?_, fun _ => ⟨_, _, rfl, fun i z hi => ?_⟩⟩, fun b' off' e i hi => ?_⟩
  · have := h.1; have := k.1; have := k3.1; unfold maxLen
    simp at hz; rcases hz with rfl | rfl | rfl <;> omega
  · match i, hi with
    | 0, hi => simp at hi; subst hi; exact ⟨_, _, _, c0 0 _ rfl, h'⟩
    | 1, hi => simp at hi; subst hi; exact ⟨_, _, _, c0 1 _ rfl, k'⟩
    | 2, hi => simp at hi; subst hi; exact ⟨_, _, _, c0 2 _ rfl, k3'⟩
  · simp only [Option.some.injEq, Addr.mk.injEq, and_true] at e
    obtain ⟨rfl, rfl⟩ := e
    match i, hi with
    | 0, _ => exact ⟨_, _, _, c0 0 _ rfl, hc⟩
    | 1, _ => exact ⟨_, _, _, c0 1 _ rfl, hd⟩
    | 2, _ => exact ⟨_, _, _, c0 2 _ rfl, hd3⟩

end Go.Proofs.YtnmbdannipebnaaGreatDoor
