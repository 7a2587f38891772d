/- What is proved here: what the program's KeccakOf answers for every slice of bytes: the code and the hash, in new memory. -/
import Derived.Test.YtldiilmpmcbjkaaGreatDoorJ17
import Derived.Test.YtldiilmpmcbjkaaGreatDoorJ5
import Derived.WalkSmall
import Derived.WalkSpells
import Derived.Test.YtldiilmpmcbjkaaGreatDoorJ12
import Derived.Test.YtldiilmpmcbjkaaGreatDoorJ9
import Derived.Test.YtldiilmpmcbjkaaGreatDoorJ16
namespace Go.Proofs.YtldiilmpmcbjkaaGreatDoor
open Go.RowKit
set_option linter.unusedVariables false
set_option maxRecDepth 100000
attribute [local go_sem ↓] Go.wp_at_zero Go.wp_at_succ

/-- A block of an answer that is laid: its code and its bytes. -/
def YBlk (w : World) (b : Nat) (c : Int) (v : Value) : Prop := w.heap[b]? = some (.cells #[.int .i64 c, v] 111 (0, 0))

theorem YBlk.below {w w' : World} {b C : Nat} {c : Int} {v : Value} (h : YBlk w b c v) (hb : Below C w w') (hC : b < C) : YBlk w' b c v := by
  unfold YBlk
  rw [hb.block b hC]; exact h

theorem YBlk.lt {w : World} {b : Nat} {c : Int} {v : Value} (h : YBlk w b c v) : b < w.heap.size := lt_of_block h

theorem YBlk.cells {w : World} {b : Nat} {c : Int} {v : Value} (h : YBlk w b c v) : w.cell? ⟨b, 0, none⟩ = some (.int .i64 c) ∧ w.cell? ⟨b, 1, none⟩ = some v ∧ w.frozen? ⟨b, 0, none⟩ = false ∧ w.frozen? ⟨b, 1, none⟩ = false := res_facts h

theorem hash_get (Z : List Nat) (k : Nat) (hk : k < 32) : (hashOf Z)[k]? = some ((Z.getD (k / 8) 0 / 2 ^ (8 * (k % 8)) % 256 : Nat) : Int) := by
  simp [hashOf, hk]

theorem fill_int (X Y : List Int) (n k : Nat) (hX : X.length = n) (hY : Y.length = n) (hk : k < n) : (X.take k ++ Y.drop k).set k (X.getD k 0) = X.take (k + 1) ++ Y.drop (k + 1) := by
  have hl : (X.take k).length = k := by simp; omega
  rw [List.set_append, if_neg (by omega), hl, Nat.sub_self, List.drop_eq_getElem_cons (by omega), List.set_cons_zero, List.take_succ_eq_append_getElem (by omega), getD_at X k (by omega), List.append_assoc]
  rfl

set_option maxRecDepth 100000 in
set_option maxHeartbeats 4000000 in
theorem implKc_any (a : Option Addr) (n cap : Nat) (zs : List Int) (w : World) (h : BRow w a n zs) (hcap : a = none → cap = 0) (hn : n ≤ 1048576) (hv : Laid w) :
    Calls Tryz.prog 93 #[.slice a n cap] w fun e w' => ∃ a' cap', e = .returned (.agg #[.int .i64 (kcCode zs), .slice a' (kcBytes zs).length cap']) ∧
      w'.ownsRow w.heap.size 5 1 (.slice a' (kcBytes zs).length cap') (kcBytes zs).length ((kcBytes zs).map (Value.int .u8)) ∧ Below w.heap.size w w' := by
  have hzl := h.1
  have K1 := below_alloc w (.cells #[.int .i64 0, .slice none 0 0] 111)
  have T1 : YBlk (w.alloc (.cells #[.int .i64 0, .slice none 0 0] 111)) w.heap.size 0 (.slice none 0 0) := heap_alloc_new w _
  by_cases hm : 1200 < n
  · have e1 : kcCode zs = 2 := if_pos (by omega)
    have e2 : kcBytes zs = [] := if_pos (by omega)
    have HPD := hide (implPad_any a n cap zs _ (h.below K1 (Nat.le_refl _)) hcap hn)
    have e3 : pdCode zs = 2 := if_pos (by omega)
    have e4 : pdBytes zs = [] := if_pos (by omega)
    rw [e3, e4] at HPD
    rw [e1, e2]
    clear e1 e2 e3 e4 h
    go_enter Tryz.func93, Tryz.ntmps93
    generalize hw1 : w.alloc (.cells #[.int .i64 0, .slice none 0 0] 111) = w1 at K1 T1 HPD
    go_upto_region 1 with fail
    have hsz : w.heap.size < w1.heap.size := T1.lt
    clear hw1
    have HK1 := hide K1
    have HT1 := hide T1
    clear K1 T1
    go_wp2_with fail
    refine (unhide HPD).mono ?_
    rintro e w2 ⟨a2, c2, rfl, o2, b2⟩
    have T2 := YBlk.below (unhide HT1) b2 hsz
    have B2 := (unhide HK1).trans (b2.mono (unhide HK1).size)
    have hs2 : w.heap.size < w2.heap.size := Nat.lt_of_lt_of_le hsz b2.size
    clear o2 b2
    have K3 := below_alloc w2 (.cells #[.int .i64 2, .slice a2 0 c2] 111)
    have Q3 : YBlk (w2.alloc (.cells #[.int .i64 2, .slice a2 0 c2] 111)) w2.heap.size 2 (.slice a2 0 c2) := heap_alloc_new w2 _
    go_upto_region 2 with fail
    generalize w2.alloc (.cells #[.int .i64 2, .slice a2 0 c2] 111) = w3 at K3 Q3 ⊢
    obtain ⟨q0, q1, _, _⟩ := Q3.cells
    obtain ⟨t0, t1, t2, t3⟩ := (T2.below K3 hs2).cells
    have HB := hide (B2.trans (K3.mono B2.size))
    clear T2 B2 K3 Q3 HPD HT1 HK1
    go_wp2_with fail
    refine bodyPost_ret (v := .agg #[.int .i64 2, .slice none 0 0]) (by simp [results, Tryz.results93, go_sem, t0, t1]) rfl ⟨none, 0, rfl, World.ownsRow_nil _ _ _ _, ?_⟩
    exact ((unhide HB).setCell (by simp) _).setCell (by simp) _
  · have hp := padLen_lt n
    have HRG := hide (padB_range zs h.2.1)
    have HPL := hide (padB_length zs)
    have HPD := hide (implPad_in a n cap zs _ (h.below K1 (Nat.le_refl _)) hcap (by omega))
    have e1 : kcCode zs = 0 := if_neg (by omega)
    have e2 : kcBytes zs = hashOf (spAt (padB zs) (padLen zs.length / 136)) := if_neg (by omega)
    have e3 := hashOf_length (spAt (padB zs) (padLen zs.length / 136))
    rw [e1, e2, e3]
    rw [hzl] at HPL ⊢
    have HSL := hide (spAt_lanes (unhide HRG))
    have HSS := hide (fun k => show spAt (padB zs) (k + 1) = mixAt (soakAt (spAt (padB zs) k) (padB zs) (136 * k) 17) 24 from rfl)
    have HS0 := hide (show spAt (padB zs) 0 = List.replicate 25 0 from rfl)
    generalize padB zs = PB at HRG HPL HPD HSL HSS HS0 ⊢
    generalize padLen n = L at hp HPL HPD ⊢
    obtain ⟨N, hN⟩ : ∃ N, L = 136 * N := ⟨L / 136, by omega⟩
    have hN2 : L / 136 = N := by omega
    rw [hN2]
    have hLs : L ≤ 1400 := by omega
    have HN := hide hN
    clear hN2 hN
    have HVV := hide hv
    clear e1 e2 e3 h hv hcap
    go_enter Tryz.func93, Tryz.ntmps93
    generalize hw1 : w.alloc (.cells #[.int .i64 0, .slice none 0 0] 111) = w1 at K1 T1 HPD
    go_upto_region 1 with fail
    have hsz : w.heap.size < w1.heap.size := T1.lt
    clear hw1
    have HK1 := hide K1
    have HT1 := hide T1
    clear K1 T1
    go_wp2_with fail
    refine (unhide HPD).mono ?_
    rintro e w2 ⟨g, c2, rfl, o2, b2⟩
    have hL2 : L ≤ c2 := by
      rcases o2.2 with ⟨e, _⟩ | ⟨_, _, _, e, _, _, h1, _⟩
      · cases e
      · cases e; exact h1
    have R2 := BRow.own o2 (unhide HRG)
    have hg2 : g < w2.heap.size := (o2.lt g rfl).2
    have T2 := YBlk.below (unhide HT1) b2 hsz
    have B2 := (unhide HK1).trans (b2.mono (unhide HK1).size)
    have hs2 : w.heap.size < w2.heap.size := Nat.lt_of_lt_of_le hsz b2.size
    clear o2 b2
    have K3 := below_alloc w2 (.cells #[.int .i64 0, .slice (some ⟨g, 0, none⟩) L c2] 111)
    have Q3 : YBlk (w2.alloc (.cells #[.int .i64 0, .slice (some ⟨g, 0, none⟩) L c2] 111)) w2.heap.size 0 (.slice (some ⟨g, 0, none⟩) L c2) := heap_alloc_new w2 _
    go_upto_region 2 with fail
    generalize w2.alloc (.cells #[.int .i64 0, .slice (some ⟨g, 0, none⟩) L c2] 111) = w3 at K3 Q3 ⊢
    obtain ⟨q0, q1, _, _⟩ := Q3.cells
    have R3 := hide (R2.below K3 (Nat.le_refl _))
    have T3 := hide (T2.below K3 hs2)
    have B3 := hide (B2.trans (K3.mono B2.size))
    have hq3 : w2.heap.size < w3.heap.size := Q3.lt
    have HQ3 := hide Q3
    clear R2 T2 B2 K3 Q3 HPD HT1 HK1
    go_upto_block 0 with fail
    have N4 : UBlk (w3.alloc (.cells #[.int .u64 0, .int .u64 0, .int .u64 0, .int .u64 0, .int .u64 0, .int .u64 0, .int .u64 0, .int .u64 0, .int .u64 0, .int .u64 0, .int .u64 0, .int .u64 0, .int .u64 0, .int .u64 0, .int .u64 0, .int .u64 0, .int .u64 0, .int .u64 0, .int .u64 0, .int .u64 0, .int .u64 0, .int .u64 0, .int .u64 0, .int .u64 0, .int .u64 0] 145)) w3.heap.size (List.replicate 25 0) 145 := UBlk.new w3 (List.replicate 25 0) 145
    have K4 := below_alloc w3 (.cells #[.int .u64 0, .int .u64 0, .int .u64 0, .int .u64 0, .int .u64 0, .int .u64 0, .int .u64 0, .int .u64 0, .int .u64 0, .int .u64 0, .int .u64 0, .int .u64 0, .int .u64 0, .int .u64 0, .int .u64 0, .int .u64 0, .int .u64 0, .int .u64 0, .int .u64 0, .int .u64 0, .int .u64 0, .int .u64 0, .int .u64 0, .int .u64 0, .int .u64 0] 145)
    generalize w3.alloc (.cells #[.int .u64 0, .int .u64 0, .int .u64 0, .int .u64 0, .int .u64 0, .int .u64 0, .int .u64 0, .int .u64 0, .int .u64 0, .int .u64 0, .int .u64 0, .int .u64 0, .int .u64 0, .int .u64 0, .int .u64 0, .int .u64 0, .int .u64 0, .int .u64 0, .int .u64 0, .int .u64 0, .int .u64 0, .int .u64 0, .int .u64 0, .int .u64 0, .int .u64 0] 145) = w4 at N4 K4 ⊢
    rw [← unhide HS0] at N4
    have HS4 := hide N4
    have HK4 := hide K4
    clear N4 K4
    go_cut [5] (fun i wr => i = .int .i64 L ∧ UBlk wr w3.heap.size (spAt PB N) 145 ∧ Below w3.heap.size w3 wr)
    case first =>
      go_wp2_with fail
      go_loopw [5] (fun i wr => ∃ k : Nat, k ≤ N ∧ i = .int .i64 ((136 * k : Nat) : Int) ∧ UBlk wr w3.heap.size (spAt PB k) 145 ∧ Below w3.heap.size w3 wr) (fun i _ => 136 * N - (intOf i).toNat)
      case atStart => exact ⟨0, by omega, rfl, unhide HS4, unhide HK4⟩
      case round =>
        obtain ⟨k, hk, rfl, hS, hB⟩ := hrel
        clear HS4 HK4
        obtain ⟨t, ht⟩ : ∃ t, t = 136 * k := ⟨_, rfl⟩
        rw [← ht]
        have d1 := (hB.cell (p := ⟨w2.heap.size, 1, none⟩) hq3).trans q1
        have hsl := (unhide HSL) k
        have hN := unhide HN
        by_cases hlt : k < N
        · have hdk : decide ((t : Int) < (L : Int)) = true := decide_eq_true (by omega)
          have htL : t + 136 ≤ L := by omega
          have hkN : 136 * N - 136 * (k + 1) < 136 * N - t := by omega
          have HKN := hide hkN
          have HTT := hide (show t + 136 = 136 * (k + 1) by omega)
          clear hN hkN
          have HLD := hide (fun (W : World) (hW : UBlk W w3.heap.size (spAt PB k) 145) => load25 hW hsl.1)
          have HSK : Hid (∀ (cp : Nat) (W : World), Below w3.heap.size w3 W → Calls Tryz.prog 117 #[.agg (vals (spAt PB k)).toArray, .slice (some ⟨g, t, none⟩) 136 cp] W fun e w' => e = .returned (.agg (vals (spAt PB (k + 1))).toArray) ∧ Below W.heap.size W w') := by
            intro cp W hW
            have r1 := ((unhide R3).below hW (Nat.le_refl _)).sub t 136 (by omega)
            rw [Nat.zero_add] at r1
            have := soak_any (spAt PB k) hsl g t 136 cp _ W r1 (by omega) (by omega) ((unhide HVV).below ((unhide B3).trans (hW.mono (unhide B3).size)) (Nat.le_refl _))
            rw [soakAt_block _ _ _ 17 (Nat.le_refl _)] at this
            have hs := (unhide HSS) k
            rw [← ht] at hs
            rw [← hs] at this
            exact this
          have hsl2 := (unhide HSL) (k + 1)
          obtain ⟨t2, ht2⟩ : ∃ t2, t2 = t + 136 := ⟨_, rfl⟩
          have m0 : (t : Int) + 136 = (t2 : Int) := by omega
          have y0 : IntKind.i64.wrap (t2 : Int) = (t2 : Int) := i64_fits _ (by omega) (by omega)
          have j0 : (0 : Int) ≤ (t : Int) := by omega
          have j1 : (t : Int) ≤ (t2 : Int) := by omega
          have j2 : (t2 : Int) ≤ (c2 : Int) := by omega
          have j3 : t ≤ t2 := by omega
          have j4 : t2 ≤ c2 := by omega
          have j5 : t2 - t = 136 := by omega
          have j6 : ¬ (c2 = t) := by omega
          have HS5 := hide hS
          have HB5 := hide hB
          have len1 := hsl.1
          have len2 := hsl2.1
          generalize hS2 : spAt PB (k + 1) = S2 at HSK hsl2 len2
          have HE2 := hide hS2
          clear hS2
          generalize spAt PB k = S1 at HLD HSK HS5 len1 hS hsl
          clear hS hB hsl hsl2 ht ht2
          go_upto_region 8 with fail
          refine wp_region_any (by kernel_rfl) ?_
          try (change wpAny _ _ _ _ _ _ _ (World.drew _))
          refine wpAny_take (i := 1) (v := ?v1) rfl (by kernel_rfl) (by kernel_rfl) (by kernel_rfl) (fun _ _ _ h => h) (Or.inl ⟨by rfl, ?h1⟩) ?r1
          case h1 => (intro w; go_simp; try with_reducible rfl)
          refine wpAny_take (i := 3) (v := ?v3) rfl (by kernel_rfl) (by kernel_rfl) (by kernel_rfl) (fun _ _ _ h => h) (Or.inl ⟨by rfl, ?h3⟩) ?r3
          case h3 => (intro w; go_simp; try with_reducible rfl)
          refine wpAny_take (i := 4) (v := ?v4) rfl (by kernel_rfl) (by kernel_rfl) (by kernel_rfl) (fun _ _ _ h => h) (Or.inl ⟨by rfl, ?h4⟩) ?r4
          case h4 => (intro w; go_simp; try with_reducible rfl)
          refine wpAny_take (i := 5) (v := ?v5) rfl (by kernel_rfl) (by kernel_rfl) (by kernel_rfl) (fun _ _ _ h => h) (Or.inl ⟨by rfl, ?h5⟩) ?r5
          case h5 => (intro w; go_simp; try with_reducible rfl)
          refine wpAny_ready (rs := [0, 2]) (by kernel_rfl) (by simp) ?_
          refine AllReady.cons rfl (fun K hK => ?_) ?_
          · refine step_load_eq rfl 145 (.tmp 4) rfl (.pointer (some ⟨w3.heap.size, 0, none⟩)) _ (by rfl) ((unhide HLD) (World.drew wr) (unhide HS5)) ?_
            refine hK _ _ ?_
            clear hK K
            refine wpAny_ready (rs := [2]) (by kernel_rfl) (by simp) ?_
            refine AllReady.cons rfl (fun K hK => ?_) AllReady.nil
            go_simp
            refine hK _ _ ?_
            clear hK K
            refine wpAny_ready (rs := [6]) (by kernel_rfl) (by simp) ?_
            refine AllReady.cons rfl (fun K hK => ?_) AllReady.nil
            go_simp
            refine hK _ _ ?_
            clear hK K
            refine wpAny_ready (rs := [7]) (by kernel_rfl) (by simp) ?_
            refine AllReady.cons rfl (fun K hK => ?_) AllReady.nil
            go_simp
            go_wp2_with (go_at_call 117; refine ((unhide HSK) _ (World.drew wr) (unhide HB5).drew).mono ?_; rintro e w6 ⟨rfl, b6⟩)
            obtain ⟨w7, hst, S7, K7, O7⟩ := store25 ((unhide HS5).below (Below.trans ((Below.refl wr.heap.size wr).drew) b6) (unhide HS5).lt) len1 len2
            have HB7 := hide (((unhide HB5).trans ((Below.trans ((Below.refl wr.heap.size wr).drew) b6).mono (unhide HB5).size)).trans (K7 w3.heap.size (Nat.le_refl _)))
            have HS7 := hide S7
            have HST := hide hst
            clear hst S7 K7 O7 b6
            try (refine hK _ _ ?_; clear hK K)
            refine wpAny_ready (rs := [8]) (by kernel_rfl) (by simp) ?_
            refine AllReady.cons rfl (fun K hK => ?_) AllReady.nil
            refine step_store_eq rfl 145 (.tmp 4) (.tmp 30) rfl (.pointer (some ⟨w3.heap.size, 0, none⟩)) (.agg (vals S2).toArray) (by rfl) (by rfl) w7 (unhide HST) ?_
            refine hK _ _ ?_
            clear hK K
            refine wpAny_done (by kernel_rfl) ?_ _
            go_wp2_with fail
            go_roundw
            case rel => exact ⟨k + 1, by omega, by rw [← unhide HTT]; go_num, by rw [unhide HE2]; exact unhide HS7, unhide HB7⟩
            case measure => simp [intOf]; have := unhide HKN; have := unhide HTT; omega
          · refine AllReady.cons rfl (fun K hK => ?_) AllReady.nil
            go_simp
            refine hK _ _ ?_
            clear hK K
            refine wpAny_ready (rs := [0, 6]) (by kernel_rfl) (by simp) ?_
            refine AllReady.cons rfl (fun K hK => ?_) ?_
            · refine step_load_eq rfl 145 (.tmp 4) rfl (.pointer (some ⟨w3.heap.size, 0, none⟩)) _ (by rfl) ((unhide HLD) (World.drew wr) (unhide HS5)) ?_
              refine hK _ _ ?_
              clear hK K
              refine wpAny_ready (rs := [6]) (by kernel_rfl) (by simp) ?_
              refine AllReady.cons rfl (fun K hK => ?_) AllReady.nil
              go_simp
              refine hK _ _ ?_
              clear hK K
              refine wpAny_ready (rs := [7]) (by kernel_rfl) (by simp) ?_
              refine AllReady.cons rfl (fun K hK => ?_) AllReady.nil
              go_simp
              go_wp2_with (go_at_call 117; refine ((unhide HSK) _ (World.drew wr) (unhide HB5).drew).mono ?_; rintro e w6 ⟨rfl, b6⟩)
              obtain ⟨w7, hst, S7, K7, O7⟩ := store25 ((unhide HS5).below (Below.trans ((Below.refl wr.heap.size wr).drew) b6) (unhide HS5).lt) len1 len2
              have HB7 := hide (((unhide HB5).trans ((Below.trans ((Below.refl wr.heap.size wr).drew) b6).mono (unhide HB5).size)).trans (K7 w3.heap.size (Nat.le_refl _)))
              have HS7 := hide S7
              have HST := hide hst
              clear hst S7 K7 O7 b6
              try (refine hK _ _ ?_; clear hK K)
              refine wpAny_ready (rs := [8]) (by kernel_rfl) (by simp) ?_
              refine AllReady.cons rfl (fun K hK => ?_) AllReady.nil
              refine step_store_eq rfl 145 (.tmp 4) (.tmp 30) rfl (.pointer (some ⟨w3.heap.size, 0, none⟩)) (.agg (vals S2).toArray) (by rfl) (by rfl) w7 (unhide HST) ?_
              refine hK _ _ ?_
              clear hK K
              refine wpAny_done (by kernel_rfl) ?_ _
              go_wp2_with fail
              go_roundw
              case rel => exact ⟨k + 1, by omega, by rw [← unhide HTT]; go_num, by rw [unhide HE2]; exact unhide HS7, unhide HB7⟩
              case measure => simp [intOf]; have := unhide HKN; have := unhide HTT; omega
            · refine AllReady.cons rfl (fun K hK => ?_) AllReady.nil
              go_simp
              refine hK _ _ ?_
              clear hK K
              refine wpAny_ready (rs := [0]) (by kernel_rfl) (by simp) ?_
              refine AllReady.cons rfl (fun K hK => ?_) AllReady.nil
              refine step_load_eq rfl 145 (.tmp 4) rfl (.pointer (some ⟨w3.heap.size, 0, none⟩)) _ (by rfl) ((unhide HLD) (World.drew wr) (unhide HS5)) ?_
              refine hK _ _ ?_
              clear hK K
              refine wpAny_ready (rs := [7]) (by kernel_rfl) (by simp) ?_
              refine AllReady.cons rfl (fun K hK => ?_) AllReady.nil
              go_simp
              go_wp2_with (go_at_call 117; refine ((unhide HSK) _ (World.drew wr) (unhide HB5).drew).mono ?_; rintro e w6 ⟨rfl, b6⟩)
              obtain ⟨w7, hst, S7, K7, O7⟩ := store25 ((unhide HS5).below (Below.trans ((Below.refl wr.heap.size wr).drew) b6) (unhide HS5).lt) len1 len2
              have HB7 := hide (((unhide HB5).trans ((Below.trans ((Below.refl wr.heap.size wr).drew) b6).mono (unhide HB5).size)).trans (K7 w3.heap.size (Nat.le_refl _)))
              have HS7 := hide S7
              have HST := hide hst
              clear hst S7 K7 O7 b6
              try (refine hK _ _ ?_; clear hK K)
              refine wpAny_ready (rs := [8]) (by kernel_rfl) (by simp) ?_
              refine AllReady.cons rfl (fun K hK => ?_) AllReady.nil
              refine step_store_eq rfl 145 (.tmp 4) (.tmp 30) rfl (.pointer (some ⟨w3.heap.size, 0, none⟩)) (.agg (vals S2).toArray) (by rfl) (by rfl) w7 (unhide HST) ?_
              refine hK _ _ ?_
              clear hK K
              refine wpAny_done (by kernel_rfl) ?_ _
              go_wp2_with fail
              go_roundw
              case rel => exact ⟨k + 1, by omega, by rw [← unhide HTT]; go_num, by rw [unhide HE2]; exact unhide HS7, unhide HB7⟩
              case measure => simp [intOf]; have := unhide HKN; have := unhide HTT; omega
        · obtain rfl : k = N := by omega
          have hdk : decide ((t : Int) < (L : Int)) = false := decide_eq_false (by omega)
          have htL : t = L := by omega
          clear hN
          have HS5 := hide hS
          clear hS
          go_wp2_with fail
          go_meet
          exact ⟨by rw [htL], unhide HS5, hB⟩
    case rest =>
      obtain ⟨rfl, hS, hB⟩ := hcut
      have hsl := (unhide HSL) N
      have hBw := (unhide B3).trans (hB.mono (unhide B3).size)
      have hT := (unhide T3).below hB (by omega)
      have hrs := hS.lt
      have hXL := hashOf_length (spAt PB N)
      have HHG := hide (hash_get (spAt PB N))
      generalize hX : hashOf (spAt PB N) = X at hXL HHG
      have HX := hide hX
      clear hX
      generalize spAt PB N = Z at hS hsl HHG
      have HSL2 := hide hsl
      have HS5 := hide hS
      have HB5 := hide hBw
      have HT5 := hide hT
      have zlen := hsl.1
      obtain ⟨i0, hi, hz0, hz1, hz2⟩ := info_parts info5
      have hws : w.heap.size < wc.heap.size := hT.lt
      clear hS hB hBw hT hsl HS4 HK4 HSL HSS HS0 R3 T3 B3 HQ3 q0 q1
      go_upto_region 10 with (at_make; refine wpList_make_full _ rfl _ _ 60 rfl wc.heap.size 5 i0 (.int .u8 0) 1 Tryz.underlying60 hi hz0 hz1 _ _ _ _ 32 rfl rfl (by omega) (by omega) ?c1 ?c2 ?c3 ?_)
      case c1 => rw [hz2]; omega
      case c2 => unfold maxLen; omega
      case c3 => exact Nat.le_refl _
      intro w5 hown hgrow
      rw [show (madeCells #[Value.int IntKind.u8 0] 32).toList = (List.replicate 32 (0 : Int)).map (Value.int .u8) from by kernel_rfl] at hown
      have S6 : UBlk w5 w3.heap.size Z 145 := by
        unfold UBlk
        rw [hgrow.block _ hrs (by simp)]
        exact unhide HS5
      have T6 : YBlk w5 w.heap.size 0 (.slice none 0 0) := by
        unfold YBlk
        rw [hgrow.block _ hws (by simp)]
        exact unhide HT5
      have HB6 := hide ((unhide HB5).grown hgrow (by omega) (fun k e => by cases e))
      have HS6 := hide S6
      have HT6 := hide T6
      have HO6 := hide hown
      have hd5 : w3.heap.size < wc.heap.size := hrs
      clear S6 T6 hown hgrow HS5 HT5 HB5
      generalize wc.heap.size = d at HO6 hws hd5 ⊢
      go_wp2_with fail
      go_loopw [34] (fun i wr => ∃ k : Nat, k ≤ 32 ∧ i = .int .i64 k ∧ wr.ownsRow d 5 1 (.slice (some ⟨d, 0, none⟩) 32 32) 32 ((X.take k ++ (List.replicate 32 (0 : Int)).drop k).map (Value.int .u8)) ∧
          UBlk wr w3.heap.size Z 145 ∧ YBlk wr w.heap.size 0 (.slice none 0 0) ∧ Below w.heap.size w wr) (fun i _ => 32 - (intOf i).toNat)
      case atStart => exact ⟨0, by omega, rfl, by simpa using unhide HO6, unhide HS6, unhide HT6, unhide HB6⟩
      case round =>
        obtain ⟨k, hk, rfl, hown, hS, hT, hB⟩ := hrel
        clear HO6 HS6 HT6 HB6
        by_cases hlt : k < 32
        · have hdk : decide ((k : Int) < 32) = true := decide_eq_true (by omega)
          obtain ⟨e, he⟩ : ∃ e, e = k / 8 := ⟨_, rfl⟩
          obtain ⟨f, hf⟩ : ∃ f, f = k % 8 := ⟨_, rfl⟩
          obtain ⟨s, hs⟩ : ∃ s, s = 8 * f := ⟨_, rfl⟩
          have hxk := (unhide HHG) k hlt
          rw [← he, ← hf, ← hs] at hxk
          have c0 := UBlk.cell hS e (by omega)
          have hz64 : Z.getD e 0 < 18446744073709551616 := getD_lt (unhide HSL2).2 (by decide) _
          have hfill := fill_int X (List.replicate 32 (0 : Int)) 32 k hXL (by simp) hlt
          have hgd : X.getD k 0 = ((Z.getD e 0 / 2 ^ s % 256 : Nat) : Int) := by rw [List.getD_eq_getElem?_getD, hxk]; rfl
          rw [hgd] at hfill
          generalize Z.getD e 0 = z at c0 hz64 hfill
          have R8 := hown.stored k (.int .u8 ((z / 2 ^ s % 256 : Nat) : Int))
          rw [← List.map_set, hfill] at R8
          have f1 := hown.frozenAt k
          obtain ⟨u, hu⟩ : ∃ u, wr.cell? ⟨d, k, none⟩ = some u := by
            rw [hown.cellAt k (by omega)]
            exact ⟨_, List.getElem?_eq_getElem (by rw [hown.1]; omega)⟩
          have HO8 := hide R8.1
          have HS8 := hide (hS.other (b' := d) k (.int .u8 ((z / 2 ^ s % 256 : Nat) : Int)) (by omega))
          have HT8 : Hid (YBlk (wr.setCell ⟨d, k, none⟩ (.int .u8 ((z / 2 ^ s % 256 : Nat) : Int))) w.heap.size 0 (.slice none 0 0)) := by
            show YBlk _ _ _ _
            unfold YBlk
            rw [heap_setCell_other _ ⟨d, k, none⟩ w.heap.size _ (by show w.heap.size ≠ d; omega)]
            exact hT
          have HB8 := hide (hB.setCell (p := ⟨d, k, none⟩) (by show w.heap.size ≤ d; omega) (.int .u8 ((z / 2 ^ s % 256 : Nat) : Int)))
          have m0 : (k : Int).tdiv 8 = (e : Int) := by rw [Int.tdiv_eq_ediv_of_nonneg (by omega)]; omega
          have m1 : (k : Int).tmod 8 = (f : Int) := by rw [Int.tmod_eq_emod_of_nonneg (by omega)]; omega
          have m2 : 8 * (f : Int) = (s : Int) := by omega
          have y0 : IntKind.i64.wrap (e : Int) = (e : Int) := i64_fits _ (by omega) (by omega)
          have y1 : IntKind.i64.wrap (f : Int) = (f : Int) := i64_fits _ (by omega) (by omega)
          have y2 : IntKind.i64.wrap (s : Int) = (s : Int) := i64_fits _ (by omega) (by omega)
          have j0 : (0 : Int) ≤ (e : Int) := by omega
          have j1 : (e : Int) < 25 := by omega
          have j2 : (0 : Int) ≤ (s : Int) := by omega
          have j3 : (0 : Int) ≤ (k : Int) := by omega
          have j4 : (k : Int) < 32 := by omega
          have hs64 : s < 64 := by omega
          clear hown hS hT hB hxk hgd hfill R8 he hf hs
          have HVC := hide (show ((z : Int) / 2 ^ s % 256) = ((z / 2 ^ s % 256 : Nat) : Int) by simp)
          go_wp2_with fail
          rw [unhide HVC]
          exact ⟨⟨k + 1, by omega, by go_num, unhide HO8, unhide HS8, unhide HT8, unhide HB8⟩, by simp [intOf]; omega⟩
        · obtain rfl : k = 32 := by omega
          have hdk : decide (((32 : Nat) : Int) < 32) = false := rfl
          rw [List.take_of_length_le (by omega), List.drop_of_length_le (by simp), List.append_nil] at hown
          obtain ⟨t0, t1, t2, t3⟩ := hT.cells
          have HOW := hide hown
          have HBF := hide hB
          clear hT hown hB
          go_wp2_with fail
          refine bodyPost_ret (v := .agg #[.int .i64 0, .slice (some ⟨d, 0, none⟩) 32 32]) (by simp [results, Tryz.results93, go_sem, t0, t1]) rfl ⟨_, _, rfl, ?_, ((unhide HBF).setCell (by simp) _).setCell (by simp) _⟩
          refine ownsRow_base (B := d) ?_ (by omega)
          rw [unhide HX]
          exact ownsRow_setCell_below (a := ⟨w.heap.size, 1, none⟩) (ownsRow_setCell_below (a := ⟨w.heap.size, 0, none⟩) (unhide HOW) hws _) hws _

end Go.Proofs.YtldiilmpmcbjkaaGreatDoor

/- What is proved here: what the program's HashOf answers: the fault of a header, or the hash of its bytes in new memory. -/
namespace Go.Proofs.YtldiilmpmcbjkaaGreatDoor
open Go.RowKit
set_option linter.unusedVariables false
set_option maxRecDepth 100000

set_option maxRecDepth 100000 in
set_option maxHeartbeats 8000000 in
theorem implHash_any (x : HS) (h : Hd) (w : World) (o : HOk w x h) (nn : HNil w x) (m : HSm h) (hv : Laid w) :
    Calls Tryz.prog 73 #[.agg (hvals x h)] w fun e w' => ∃ a c, e = .returned (.agg #[.int .i64 (hdFlt h), .slice a (hsBytes h).length c]) ∧
      w'.ownsRow w.heap.size 5 1 (.slice a (hsBytes h).length c) (hsBytes h).length ((hsBytes h).map (Value.int .u8)) ∧ Below w.heap.size w w' := by
  have hfl := fldB1
  have kb := SBlk.new w (hvals x h) 68
  have bb := below_alloc w (.cells (hvals x h) 68)
  have zb : (w.alloc (.cells (hvals x h) 68)).heap.size = w.heap.size + 1 := by simp
  obtain ⟨W0, eb⟩ : ∃ W0, w.alloc (.cells (hvals x h) 68) = W0 := ⟨_, rfl⟩
  rw [eb] at kb bb zb
  have k1 := (kb.next (.cells #[.int .i64 0, .slice none 0 0] 111))
  have kr := SBlk.new W0 #[.int .i64 0, .slice none 0 0] 111
  have b1 := bb.alloc bb.size (.cells #[.int .i64 0, .slice none 0 0] 111)
  have z1 : (W0.alloc (.cells #[.int .i64 0, .slice none 0 0] 111)).heap.size = w.heap.size + 2 := by simp; omega
  rw [zb] at kr
  obtain ⟨W1, e1⟩ : ∃ W1, W0.alloc (.cells #[.int .i64 0, .slice none 0 0] 111) = W1 := ⟨_, rfl⟩
  rw [e1] at k1 kr b1 z1
  have HKB := hide (fun (W' : World) (hb : Below W1.heap.size W1 W') => k1.below hb k1.lt)
  have HRB := hide (fun (W' : World) (hb : Below W1.heap.size W1 W') => kr.below hb kr.lt)
  have D1 := hide (implHeaderFault_any x h W1 (o.below b1 (Nat.le_refl _)) m)
  have HB1 := hide b1
  obtain ⟨x0, x1, x2, x3, x4, x5, x6, x7, x8, x9, x10⟩ := hcells k1
  have hz2 : w.heap.size + 1 < W1.heap.size := by omega
  have HPK : Hid (hdFlt h = 0 → ∀ (W' : World), Below w.heap.size w W' → Calls Tryz.prog 94 #[.agg (hvals (xNoK x) (noK h))] W' fun e w' => ∃ g c, e = .returned (.agg #[.int .i64 0, .slice (some ⟨g, 0, none⟩) (packL (noK h)).length c]) ∧ BRow w' (some ⟨g, 0, none⟩) (packL (noK h)).length (packL (noK h)) ∧ Below W'.heap.size W' w') := fun hf W' hb => by
    have hg := hdFlt_noK hf
    have ok := (o.below hb (Nat.le_refl _)).noK
    have P := implPack_any (xNoK x) (noK h) W' ok (nn.below hb (Nat.le_refl _)).noK m.noK
    rw [hg, pkBytes_good hg] at P
    refine P.mono ?_
    rintro e w' ⟨a, c, rfl, ho, hb'⟩
    obtain ⟨g, c', he⟩ := own_some ho (packL_pos _)
    simp only [Value.slice.injEq] at he
    obtain ⟨rfl, -, rfl⟩ := he
    exact ⟨g, c, rfl, BRow.own ho (packL_rng hg ok), hb'⟩
  have HKC : Hid (hdFlt h = 0 → ∀ (W' : World) (g c : Nat), Below w.heap.size w W' → BRow W' (some ⟨g, 0, none⟩) (packL (noK h)).length (packL (noK h)) → Calls Tryz.prog 93 #[.slice (some ⟨g, 0, none⟩) (packL (noK h)).length c] W' fun e w' => ∃ a' c', e = .returned (.agg #[.int .i64 0, .slice a' (hsBytes h).length c']) ∧ w'.ownsRow W'.heap.size 5 1 (.slice a' (hsBytes h).length c') (hsBytes h).length ((hsBytes h).map (Value.int .u8)) ∧ Below W'.heap.size W' w') := fun hf W' g c hb hr => by
    have hl := packL_le (hdFlt_noK hf)
    have K := implKc_any (some ⟨g, 0, none⟩) (packL (noK h)).length c (packL (noK h)) W' hr (fun e => by cases e) (by omega) (hv.below hb (Nat.le_refl _))
    rw [kcCode_good hl] at K
    have e : hsBytes h = kcBytes (packL (noK h)) := if_pos hf
    rw [e]
    exact K
  have HPB : Hid (hdFlt h ≠ 0 → hsBytes h = []) := fun hf => if_neg hf
  clear o nn m kb bb k1 kr b1 zb hv
  generalize hdFlt h = q at D1 HPK HKC HPB ⊢
  generalize packL (noK h) = PL at HPK HKC
  generalize PL.length = il at HPK HKC
  generalize hsBytes h = PB at HPB HKC ⊢
  have EV : hvals (xNoK x) (noK h) = (hvals x h).setIfInBounds 10 (.slice none 0 0) := rfl
  have hsl : ∀ (W' : World), SBlk W' w.heap.size (hvals x h).toList 68 → SBlk (W'.setCell ⟨w.heap.size, 10, none⟩ (.slice none 0 0)) w.heap.size (hvals (xNoK x) (noK h)).toList 68 := fun W' hk => hk.set 10 _
  have HSL := hide hsl
  clear hsl EV
  unfold hvals at eb D1 HPK ⊢
  have EB := hide eb
  have E1 := hide e1
  clear eb e1
  go_enter Tryz.func73, Tryz.ntmps73
  go_upto_region 1 with fail
  rw [unhide EB, unhide E1]
  clear EB E1
  go_wp2_with fail
  refine (unhide D1).mono ?_
  rintro e w2 ⟨rfl, b2⟩
  have kr2 := (unhide HRB) w2 b2
  have r0 := kr2.cell 0
  have r1 := kr2.cell 1
  have f0 := kr2.free 0
  have f1 := kr2.free 1
  simp only [List.getElem?_cons_zero, List.getElem?_cons_succ] at r0 r1
  have HB2 := hide ((unhide HB1).trans (b2.mono (unhide HB1).size))
  have K2 := hide b2
  clear b2 kr2 x0 x1 x2 x3 x4 x5 x6 x7 x8 x9 x10 D1
  by_cases hq : q = 0
  · subst hq
    have kb2 := (unhide HKB) w2 (unhide K2)
    have kb3 := (unhide HSL) w2 kb2
    have b3 := (unhide HB2).setCell (p := ⟨w.heap.size, 10, none⟩) (Nat.le_refl _) (.slice none 0 0)
    have kr3 := ((unhide HRB) w2 (unhide K2)).other (g' := w.heap.size) (i := 10) (v := .slice none 0 0) (by omega)
    have z3 : (w2.setCell ⟨w.heap.size, 10, none⟩ (.slice none 0 0)).heap.size = w2.heap.size := size_set' _ _ _
    have fz : w2.frozen? ⟨w.heap.size, 10, none⟩ = false := kb2.free 10
    have cz := kb2.cell 10
    simp only [hvals, List.getElem?_cons_zero, List.getElem?_cons_succ] at cz
    obtain ⟨W3, e3⟩ : ∃ W3, w2.setCell ⟨w.heap.size, 10, none⟩ (.slice none 0 0) = W3 := ⟨_, rfl⟩
    rw [e3] at kb3 b3 kr3 z3
    have hz3 : w.heap.size + 1 < W3.heap.size := by rw [z3]; exact Nat.lt_of_lt_of_le hz2 (unhide K2).size
    have HR3 := hide (fun (W' : World) (hb : Below W3.heap.size W3 W') => kr3.below hb kr3.lt)
    have HB3 := hide b3
    obtain ⟨y0, y1, y2, y3, y4, y5, y6, y7, y8, y9, y10⟩ := hcells kb3
    have E3 := hide e3
    clear kb2 kb3 b3 kr3 z3 e3 r0 r1 f0 f1
    go_upto_region 5 with fail

    rw [unhide E3]
    clear E3
    go_wp2_with fail
    refine ((unhide HPK) (by first | exact rfl | trivial) _ (unhide HB3)).mono ?_
    rintro e w4 ⟨g4, c4, rfl, row4, b4⟩
    have HB4 := hide ((unhide HB3).trans (b4.mono (unhide HB3).size))
    have K4 := hide b4
    clear b4 y0 y1 y2 y3 y4 y5 y6 y7 y8 y9 y10
    go_wp2_with fail
    refine ((unhide HKC) (by first | exact rfl | trivial) _ g4 c4 (unhide HB4) row4).mono ?_
    rintro e w5 ⟨a5, c5, rfl, o5, b5⟩
    have HB5 := hide ((unhide HB4).trans (b5.mono (unhide HB4).size))
    have K5 := (unhide K4).trans (b5.mono (unhide K4).size)
    have kr5 := (unhide HR3) w5 K5
    have s0 := kr5.cell 0
    have s1 := kr5.cell 1
    have g0 := kr5.free 0
    have g1 := kr5.free 1
    simp only [List.getElem?_cons_zero, List.getElem?_cons_succ] at s0 s1
    have hz4 : w.heap.size + 1 < w4.heap.size := Nat.lt_of_lt_of_le hz3 (unhide K4).size
    have HO5 := hide o5
    have hwz : w.heap.size ≤ w4.heap.size := (unhide HB4).size
    clear K5 kr5 o5 b5 row4
    go_wp2_with fail
    refine bodyPost_ret (v := .agg #[.int .i64 0, .slice a5 PB.length c5]) (by simp [results, Tryz.results73, go_sem, s0, s1]) rfl ⟨a5, c5, rfl, ?_, ?_⟩
    · exact ownsRow_base (ownsRow_setCell_below (ownsRow_setCell_below (unhide HO5) (by show w.heap.size + 1 < w4.heap.size; omega) _) (by show w.heap.size + 1 < w4.heap.size; omega) _) hwz
    · exact ((unhide HB5).setCell (p := ⟨w.heap.size + 1, _, none⟩) (by show w.heap.size ≤ w.heap.size + 1; omega) _).setCell (p := ⟨w.heap.size + 1, _, none⟩) (by show w.heap.size ≤ w.heap.size + 1; omega) _
  · have hne : (q != 0) = true := by simp [hq]
    have HPB2 : Hid (PB = []) := (unhide HPB) hq
    clear hq
    go_wp2_with fail
    refine bodyPost_ret (v := .agg #[.int .i64 q, .slice none 0 0]) (by simp [results, Tryz.results73, go_sem, r0, r1]) rfl ⟨none, 0, by rw [unhide HPB2]; rfl, ?_, ?_⟩
    · rw [unhide HPB2]; exact World.ownsRow_nil _ _ _ _
    · exact ((unhide HB2).setCell (p := ⟨w.heap.size + 1, _, none⟩) (by show w.heap.size ≤ w.heap.size + 1; omega) _).setCell (p := ⟨w.heap.size + 1, _, none⟩) (by show w.heap.size ≤ w.heap.size + 1; omega) _

end Go.Proofs.YtldiilmpmcbjkaaGreatDoor

/- What is proved here: whether an entry has the total that it has to have (slices.Equal, hasTotal), and so the program's fault of an entry and of a store (entryFault, StoreFault). -/
namespace Go.Proofs.YtldiilmpmcbjkaaGreatDoor
open Go.RowKit
set_option linter.unusedVariables false
set_option linter.unusedSimpArgs false
set_option maxRecDepth 100000

set_option maxHeartbeats 1000000 in
theorem equalI_any (a b : Option Addr) (la ca lb cb : Nat) (xs ys : List Int) (w : World) (ha : IRow w a la xs) (hb : IRow w b lb ys) (hl : la ≤ 1048576) :
    Calls Tryz.prog 98 #[.slice a la ca, .slice b lb cb] w fun e w' => e = .returned (.bool (sameB xs ys)) ∧ ∃ n, w' = w.drewN n := by
  have hxl := ha.1
  have hyl := hb.1
  by_cases hne : la = lb
  · subst hne
    have hlen : (((la : Nat) : Int) != ((la : Nat) : Int)) = false := by simp
    rcases Nat.eq_zero_or_pos la with h0 | hp
    · subst h0
      have hx : xs = [] := List.length_eq_zero_iff.1 hxl
      have hy : ys = [] := List.length_eq_zero_iff.1 hyl
      subst hx hy
      clear ha hb
      go_enter Tryz.func98, Tryz.ntmps98
      go_wp2
      refine wp_loop_rounds 1 ?_
      rw [rounds_succ]
      go_wp2
      go_ret
      exact ⟨rfl, 0, rfl⟩
    · obtain ⟨ba, oa, rfl, hba, hca⟩ := ha.at hp
      obtain ⟨bb, ob, rfl, hbb, hcb⟩ := hb.at hp
      have HCA := hide hca
      have HCB := hide hcb
      clear ha hb hca hcb
      go_enter Tryz.func98, Tryz.ntmps98
      go_wp2
      go_loopw [13] (fun i wr => ∃ k n : Nat, k ≤ la ∧ i = .int .i64 k ∧ xs.take k = ys.take k ∧ wr = w.drewN n)
        (fun i _ => la - (intOf i).toNat)
      case atStart => exact ⟨0, 0, Nat.zero_le _, rfl, rfl, rfl⟩
      case round =>
        obtain ⟨k, n, hk, rfl, hpre, rfl⟩ := hrel
        by_cases hlt : k < la
        · have h1 : w.cell? ⟨ba, oa + k, none⟩ = some (.int .i64 (xs.getD k 0)) := (unhide HCA) k hlt
          have h2 : w.cell? ⟨bb, ob + k, none⟩ = some (.int .i64 (ys.getD k 0)) := (unhide HCB) k hlt
          have Hs := take_same xs ys k (by omega) (by omega) hpre
          have Hd := take_other xs ys k (by omega) (by omega)
          generalize xs.getD k 0 = x at h1 Hs Hd
          generalize ys.getD k 0 = y at h2 Hs Hd
          have HS := hide Hs
          have HD := hide Hd
          have HP := hide hpre
          have i1 : (0 : Int) ≤ (k : Int) := by omega
          have i2 : (k : Int) < (la : Int) := by omega
          clear Hs Hd hpre hxl hyl
          by_cases hxy : x = y
          · subst hxy
            have HT := hide ((unhide HS) rfl)
            clear HS HD HP
            have ht : (x != x) = false := by simp
            go_wp2
            go_quiet (fail)
            go_wp2
            go_roundw
            case rel => exact ⟨k + 1, _, by omega, by go_num, unhide HT, rfl⟩
            case measure => simp [intOf]; omega
          · have ht : (x != y) = true := by simp [hxy]
            go_wp2
            go_quiet (fail)
            go_wp2
            go_ret
            exact ⟨ret_bool ((unhide HD) hxy).symm, _, World.drewN_drewN ..⟩
        · obtain rfl : k = la := by omega
          have e := take_whole xs ys k hxl hyl hpre
          have HE := hide e
          clear e hpre hxl hyl
          go_wp2
          go_ret
          exact ⟨ret_bool (unhide HE).symm, n, rfl⟩
  · have hlen : (((la : Nat) : Int) != ((lb : Nat) : Int)) = true := by simp; omega
    have e : sameB xs ys = false := by
      unfold sameB
      rw [beq_eq_false_iff_ne]
      intro e; rw [e] at hxl; omega
    have HE := hide e
    clear e
    go_enter Tryz.func98, Tryz.ntmps98
    go_wp2
    go_ret
    exact ⟨ret_bool (unhide HE).symm, 0, rfl⟩

theorem sameB_dec (xs ys : List Int) : sameB xs ys = decide (xs = ys) := by
  unfold sameB
  by_cases h : xs = ys
  · subst h; simp
  · rw [decide_eq_false h, beq_eq_false_iff_ne]; exact h

set_option maxHeartbeats 4000000 in
theorem hasTotal_any (q : Option Addr) (y : Option En) (b o : Nat) (e : EnS) (x : En) (w : World) (p : PAt w q y) (h : EAt w b o e x) (hf : hdFlt x.1 = 0) (m : EnSm x) (hl : ∀ y0, y = some y0 → y0.2.2.2.length ≤ 1048576) :
    Calls Tryz.prog 77 #[.pointer q, .pointer (some ⟨b, o, none⟩)] w fun r w' => r = .returned (.bool (ttOk y x)) ∧ Below w.heap.size w w' := by
  have D1 := hide (fun (W : World) (hb : Below w.heap.size w W) => totalBehind_any q y e.1 x.1 W (p.below hb (Nat.le_refl _)) (hd_num hf).2 hl)
  have HLD : Hid (∀ W, Below w.heap.size w W → (Instr.loadAt 68 (.pointer (some ⟨b, o, none⟩))).run Tryz.prog W = .ok (.agg (hvals e.1 x.1)) W) := fun W hb =>
    ld_run (hvals e.1 x.1).toList 68 _ (fun j v hv => (h.below hb (Nat.le_refl _)).1 j v (ev_hd e x j v hv)) Tryz.underlying68 rfl (by kernel_rfl)
  have HT := hide (fun (W : World) (hb : Below w.heap.size w W) => (h.below hb (Nat.le_refl _)).1 13 _ rfl)
  have HR := hide (fun (W : World) (hb : Below w.heap.size w W) => IOk.row (intsK.below h.2.2.2.2 hb (Nat.le_refl _)))
  have hm : e.2.2.2.n ≤ 1048576 := by have := (IOk.row h.2.2.2.2).1; have := m.t; omega
  have HE : Hid (ttOk y x = ((ttCode y x.1 == 0) && sameB x.2.2.2 (ttList y x.1))) := by
    show _ = _
    unfold ttOk
    rw [sameB_dec]
    congr 1
  generalize ttOk y x = R at HE ⊢
  generalize ttCode y x.1 = cc at D1 HE
  generalize ttList y x.1 = LL at D1 HE
  generalize hvals e.1 x.1 = V at HLD D1
  clear p h hf m hl
  go_enter Tryz.func77, Tryz.ntmps77
  go_wp2_with (refine wpList_load_eq rfl 68 _ rfl _ _ rfl ((unhide HLD) _ (Below.refl _ _)) ?_)
  refine ((unhide D1) _ (Below.refl _ _)).mono ?_
  rintro r w1 ⟨a1, c1, rfl, o1, b1⟩
  have kh := SBlk.new w1 #[.int .i64 cc, .slice a1 LL.length c1] 132
  have bh := below_alloc w1 (.cells #[.int .i64 cc, .slice a1 LL.length c1] 132)
  obtain ⟨W1, e1⟩ : ∃ W, w1.alloc (.cells #[.int .i64 cc, .slice a1 LL.length c1] 132) = W := ⟨_, rfl⟩
  rw [e1] at kh bh
  have K1 := b1.trans (bh.mono b1.size)
  have u0 := kh.cell 0
  have u1 := kh.cell 1
  simp only [List.getElem?_cons_zero, List.getElem?_cons_succ] at u0 u1
  have t3 := (unhide HT) W1 K1
  have D2 : Hid (∀ n, Calls Tryz.prog 98 #[.slice e.2.2.2.a e.2.2.2.n e.2.2.2.c, .slice a1 LL.length c1] (W1.drewN n) fun r w' => r = .returned (.bool (sameB x.2.2.2 LL)) ∧ ∃ m, w' = (W1.drewN n).drewN m) := fun n =>
    equalI_any _ _ _ _ _ _ _ _ (W1.drewN n) (((unhide HR) W1 K1).below (below_drewN (Below.refl _ _) n) (Nat.le_refl _)) (((IRow.own2 o1).below bh (Nat.le_refl _)).below (below_drewN (Below.refl _ _) n) (Nat.le_refl _)) hm
  have E1 := hide e1
  have HK1 := hide K1
  clear D1 HLD HT HR K1 kh bh b1 o1 e1 hm
  generalize sameB x.2.2.2 LL = sb at D2 HE
  by_cases hc : cc = 0
  · subst hc
    have hc' : ((0 : Int) == 0) = true := by simp
    rw [hc'] at HE
    cases sb
    · go_upto_region 2 with (rw [unhide E1])
      go_quiet ((go_at_call 98; exact Calls.quiet_of ((unhide D2) _)))
      go_wp2_with fail
      go_ret
      exact ⟨ret_bool (by rw [unhide HE]; rfl), below_drewN (unhide HK1) _⟩
    · go_upto_region 2 with (rw [unhide E1])
      go_quiet ((go_at_call 98; exact Calls.quiet_of ((unhide D2) _)))
      go_wp2_with fail
      go_ret
      exact ⟨ret_bool (by rw [unhide HE]; rfl), below_drewN (unhide HK1) _⟩
  · have hc' : (cc == 0) = false := by simp [hc]
    rw [hc'] at HE
    go_upto_region 2 with (rw [unhide E1])
    go_quiet ((go_at_call 98; exact Calls.quiet_of ((unhide D2) _)))
    go_wp2_with fail
    go_ret
    exact ⟨ret_bool (by rw [unhide HE]; rfl), below_drewN (unhide HK1) _⟩

end Go.Proofs.YtldiilmpmcbjkaaGreatDoor

/- What is proved here: the program's fault of an entry and of a store (entryFault, StoreFault). -/
namespace Go.Proofs.YtldiilmpmcbjkaaGreatDoor
open Go.RowKit
set_option linter.unusedVariables false
set_option linter.unusedSimpArgs false
set_option maxRecDepth 100000

theorem enAt_mem {xs : List En} {up : Int} {y : En} (h : enAt xs up = some y) : y ∈ xs := by
  unfold enAt at h
  split at h
  · cases h
  · exact List.mem_of_getElem? h

theorem upOk_place {n : Nat} {up : Int} (h : upOk n up = true) : up = -1 ∨ (0 ≤ up ∧ up < n) := by
  unfold upOk at h
  split at h
  · exact .inl (of_decide_eq_true h)
  · simp only [within, decide_eq_true_eq] at h
    right; omega

set_option maxHeartbeats 8000000 in
theorem entryFault_any (s : Sl) (ahead : List En) (b o : Nat) (e : EnS) (x : En) (w : World) (os : RowOk enK w s ahead) (h : EAt w b o e x) (al : AllOk ahead) (m : EnSm x) (ma : ∀ y ∈ ahead, EnSm y) (V : Laid w) :
    Calls Tryz.prog 56 #[.slice s.a s.n s.c, .pointer (some ⟨b, o, none⟩)] w fun r w' => r = .returned (.int .i64 (enFlt ahead x)) ∧ Below w.heap.size w w' := by
  have hd : hdK.Ok w e.1 x.1 := h.2.1
  have hz : BOk w e.2.1 x.2.1 := h.2.2.1
  have HLD : Hid (∀ W, Below w.heap.size w W → (Instr.loadAt 68 (.pointer (some ⟨b, o, none⟩))).run Tryz.prog W = .ok (.agg (hvals e.1 x.1)) W) := fun W hb =>
    ld_run (hvals e.1 x.1).toList 68 _ (fun j v hv => (h.below hb (Nat.le_refl _)).1 j v (ev_hd e x j v hv)) Tryz.underlying68 rfl (by kernel_rfl)
  have HC := hide (fun (W : World) (hb : Below w.heap.size w W) => And.intro ((h.below hb (Nat.le_refl _)).1 11 _ rfl) ((h.below hb (Nat.le_refl _)).1 12 _ rfl))
  have C1 := hide (implHeaderFault_any e.1 x.1 w (hd_ok hd) m.h)
  have C2 := hide (fun (W : World) (hb : Below w.heap.size w W) => implHash_any e.1 x.1 W ((hd_ok hd).below hb (Nat.le_refl _)) ((hd_nil hd).below hb (Nat.le_refl _)) m.h (V.below hb (Nat.le_refl _)))
  have C3 : Hid (∀ (W : World), Below w.heap.size w W → ∀ (a : Option Addr) (n c : Nat), BRow W a n (hsBytes x.1) → Calls Tryz.prog 72 #[.slice e.2.1.a e.2.1.n e.2.1.c, .slice a n c] W fun r w' => r = .returned (.bool (decide (x.2.1 = hsBytes x.1))) ∧ w' = W) := fun W hb a n c hr => by
    have := implSame_any e.2.1.a a e.2.1.n e.2.1.c n c x.2.1 (hsBytes x.1) W (hz.row.below hb (Nat.le_refl _)) hr
    rwa [strEq_dec hz.row.2.1 hr.2.1] at this
  have HRG := hide (hs_range (hd_ok hd))
  have C4 := hide (fun (W : World) (hb : Below w.heap.size w W) => placeWith_any s e.2.1 ahead x.2.1 W (RowOk.below os hb (Nat.le_refl _)) (bytesK.below hz hb (Nat.le_refl _)))
  have C5 := hide (fun (W : World) (hb : Below w.heap.size w W) => hasUp_any s ahead x.2.2.1 W (RowOk.below os hb (Nat.le_refl _)))
  have C6 := hide (fun (hu : upOk ahead.length x.2.2.1 = true) (W : World) (hb : Below w.heap.size w W) => entryAt_any s ahead x.2.2.1 W (RowOk.below os hb (Nat.le_refl _)) (upOk_place hu))
  have C7 := hide (fun (W : World) (hb : Below w.heap.size w W) (q : Option Addr) (p : PAt W q (enAt ahead x.2.2.1)) => isBehind_any q _ e.1 x.1 W p ((hd_ok hd).below hb (Nat.le_refl _)) (fun y0 hy => (hd_num (al y0 (enAt_mem hy)).1).1))
  have C8 := hide (fun (hf : hdFlt x.1 = 0) (W : World) (hb : Below w.heap.size w W) (q : Option Addr) (p : PAt W q (enAt ahead x.2.2.1)) => hasTotal_any q _ b o e x W p (h.below hb (Nat.le_refl _)) hf m (fun y0 hy => (ma y0 (enAt_mem hy)).t))
  have HE : Hid (enFlt ahead x = _) := show enFlt ahead x = _ by unfold enFlt; exact rfl
  have hfl := fldB1
  generalize enFlt ahead x = R at HE ⊢
  generalize hvals e.1 x.1 = Vh at HLD C1 C2 C7
  generalize hdFlt x.1 = q0 at C1 C2 C8 HE
  clear os h al m ma V hd hz
  go_enter Tryz.func56, Tryz.ntmps56
  go_wp2_with (refine wpList_load_eq rfl 68 _ rfl _ _ rfl ((unhide HLD) _ (Below.refl _ _)) ?_)
  refine (unhide C1).mono ?_
  rintro r w1 ⟨rfl, b1⟩
  by_cases hq : q0 = 0
  · subst hq
    have HE1 := hide ((unhide HE).trans (if_pos rfl))
    obtain ⟨t11, t12⟩ := (unhide HC) w1 b1
    by_cases hs : x.2.1 = hsBytes x.1
    · have HE2 := hide ((unhide HE1).trans (if_pos hs))
      have C3' := C3
      rw [decide_eq_true hs] at C3'
      clear C3 HE HE1 hs C1
      go_upto_region 4 with fail
      refine wp_region_held_drew (S := (fun W => Below w.heap.size w W ∧ W.cell? ⟨b, o + 11, none⟩ = some (.slice e.2.1.a e.2.1.n e.2.1.c))) (by kernel_rfl) (⟨b1.drew, ((unhide HC) _ b1.drew).1⟩) (fun hHeld => ?_)
      refine wpAnyH_take (i := 0) (oi := _) (v := ?_) rfl (by kernel_rfl) (by kernel_rfl) (by kernel_rfl) (fun _ _ _ h => h) (Or.inl ⟨by rfl, ?_⟩) (by assumption) ?_
      rotate_left
      · ((intro wq hSw; (try dsimp only at hSw); go_simp) <;> with_reducible rfl)
      try dsimp only
      refine wpAnyH_take (i := 1) (oi := _) (v := ?_) rfl (by kernel_rfl) (by kernel_rfl) (by kernel_rfl) (fun _ _ _ h => h) (Or.inl ⟨by rfl, ?_⟩) (by assumption) ?_
      rotate_left
      · ((intro wq hSw; (try dsimp only at hSw); go_simp) <;> with_reducible rfl)
      try dsimp only
      refine wpAnyH_take (i := 2) (oi := _) (v := ?_) rfl (by kernel_rfl) (by kernel_rfl) (by kernel_rfl) (fun _ _ _ h => h) (Or.inl ⟨by rfl, ?_⟩) (by assumption) ?_
      rotate_left
      · ((intro wq hSw; (try dsimp only at hSw); go_simp) <;> with_reducible rfl)
      try dsimp only
      refine wpAnyH_take (i := 3) (oi := _) (v := ?_) rfl (by kernel_rfl) (by kernel_rfl) (by kernel_rfl) (fun _ _ _ h => h) (Or.inl ⟨by rfl, ?_⟩) (by assumption) ?_
      rotate_left
      · ((intro wq hSw; (try dsimp only at hSw); go_simp) <;> with_reducible rfl)
      try dsimp only
      refine wpAnyH_take (i := 4) (oi := _) (v := ?_) rfl (by kernel_rfl) (by kernel_rfl) (by kernel_rfl) (fun _ _ _ h => h) (Or.inl ⟨by rfl, ?_⟩) (by assumption) ?_
      rotate_left
      · ((intro wq hSw; (try dsimp only at hSw); go_simp) <;> with_reducible rfl)
      try dsimp only
      refine wpAnyH_take (i := 5) (oi := _) (v := ?_) rfl (by kernel_rfl) (by kernel_rfl) (by kernel_rfl) (fun _ _ _ h => h) (Or.inl ⟨by rfl, ?_⟩) (by assumption) ?_
      rotate_left
      · ((intro wq hSw; (try dsimp only at hSw); go_simp) <;> with_reducible rfl)
      try dsimp only
      refine wpAnyH_take (i := 6) (oi := _) (v := ?_) rfl (by kernel_rfl) (by kernel_rfl) (by kernel_rfl) (fun _ _ _ h => h) (Or.inl ⟨by rfl, ?_⟩) (by assumption) ?_
      rotate_left
      · ((intro wq hSw; (try dsimp only at hSw); go_simp) <;> with_reducible rfl)
      try dsimp only
      refine wpAnyH_take (i := 7) (oi := _) (v := .agg Vh) rfl (by kernel_rfl) (by kernel_rfl) (by kernel_rfl) (fun _ _ _ h => h) (Or.inl ⟨by rfl, ?_⟩) (by assumption) ?_
      · (intro wq hSw; (try dsimp only at hSw); refine exec_load rfl ?_ ((unhide HLD) wq hSw.1); go_simp)
      try dsimp only
      refine wpAnyH_ready (rs := [8]) (by kernel_rfl) (by simp) ?_
      refine AllReadyH.cons (o := _) rfl (fun K hK => ?_) AllReadyH.nil
      go_simp
      go_at_call 73
      refine ((unhide C2) _ hHeld.1).mono ?_
      rintro r w2 ⟨a2, c2, rfl, o2, b2⟩
      refine hK.out _ _ (⟨hHeld.1.trans (b2.mono hHeld.1.size), ((unhide HC) _ (hHeld.1.trans (b2.mono hHeld.1.size))).1⟩) (fun hHeld => ?_)
      clear hK K
      try dsimp only
      refine wpAnyH_take (i := 9) (oi := _) (v := ?_) rfl (by kernel_rfl) (by kernel_rfl) (by kernel_rfl) (fun _ _ _ h => h) (Or.inl ⟨by rfl, ?_⟩) (by assumption) ?_
      rotate_left
      · ((intro wq hSw; (try dsimp only at hSw); go_simp) <;> with_reducible rfl)
      try dsimp only
      refine wpAnyH_ready (rs := [10]) (by kernel_rfl) (by simp) ?_
      refine AllReadyH.cons (o := _) rfl (fun K hK => ?_) AllReadyH.nil
      go_simp
      go_at_call 72
      refine ((unhide C3') _ hHeld.1 _ _ _ (BRow.own2 o2 (unhide HRG))).mono ?_
      rintro r w3 ⟨rfl, rfl⟩
      refine hK.out _ _ (hHeld) (fun hHeld => ?_)
      clear hK K
      try dsimp only
      refine wpAnyH_take (i := 11) (oi := _) (v := ?_) rfl (by kernel_rfl) (by kernel_rfl) (by kernel_rfl) (fun _ _ _ h => h) (Or.inl ⟨by rfl, ?_⟩) (by assumption) ?_
      rotate_left
      · ((intro wq hSw; (try dsimp only at hSw); go_simp) <;> with_reducible rfl)
      try dsimp only
      refine wpAnyH_take (i := 12) (oi := _) (v := ?_) rfl (by kernel_rfl) (by kernel_rfl) (by kernel_rfl) (fun _ _ _ h => h) (Or.inl ⟨by rfl, ?_⟩) (by assumption) ?_
      rotate_left
      · ((intro wq hSw; (try dsimp only at hSw); go_simp) <;> with_reducible rfl)
      try dsimp only
      refine wpAnyH_done (by kernel_rfl) ?_ _
      have b3 := hHeld.1
      clear b1 b2 hHeld o2 t11 t12
      obtain ⟨t11, t12⟩ := (unhide HC) _ b3
      have B3 := hide b3
      have D4 := hide ((unhide C4) _ b3)
      clear C4 C2 C3' b3
      go_wp2_with fail
      refine (unhide D4).mono ?_
      rintro r w4 ⟨rfl, b4⟩
      have b4' := (unhide B3).trans (b4.mono (unhide B3).size)
      have B4 := hide b4'
      clear b4 t11 t12 D4 B3
      obtain ⟨t11, t12⟩ := (unhide HC) _ b4'
      have D5 := hide ((unhide C5) _ b4')
      clear C5 b4'
      generalize fnd ahead x.2.1 = fp at HE2 ⊢
      by_cases hfp : fp = -1
      case neg =>
        have HE3 := hide ((unhide HE2).trans (if_neg hfp))
        have hne : (fp != -1) = true := by simp [hfp]
        clear HE2 hfp D5 C6 C7 C8
        go_wp2_with fail
        go_ret
        exact ⟨ret_int (unhide HE3).symm, unhide B4⟩
      subst hfp
      have HE3 := hide ((unhide HE2).trans (if_pos rfl))
      clear HE2
      go_wp2_with fail
      refine (unhide D5).mono ?_
      rintro r w5 ⟨rfl, rfl⟩
      clear D5
      by_cases hup : upOk ahead.length x.2.2.1 = true
      case neg =>
        have HE4 := hide ((unhide HE3).trans (if_neg hup))
        rw [Bool.not_eq_true] at hup
        rw [hup]
        clear HE3 hup C6 C7 C8
        go_wp2_with fail
        go_ret
        exact ⟨ret_int (unhide HE4).symm, unhide B4⟩
      have HE4 := hide ((unhide HE3).trans (if_pos hup))
      have D6 := hide ((unhide C6) hup _ (unhide B4))
      rw [hup]
      clear HE3 hup C6
      go_wp2_with fail
      refine (unhide D6).mono ?_
      rintro r w6 ⟨q, rfl, hp, rfl⟩
      have D7 := hide ((unhide C7) _ (unhide B4) q hp)
      have HP := hide hp
      clear D6 C7 hp
      by_cases hbh : bhOk (enAt ahead x.2.2.1) x.1 = true
      case neg =>
        have HE5 := hide ((unhide HE4).trans (if_neg hbh))
        rw [Bool.not_eq_true] at hbh
        rw [hbh] at D7
        clear HE4 hbh C8
        go_wp2_with (refine wpList_load_eq rfl 68 _ rfl _ _ rfl ((unhide HLD) _ (unhide B4)) ?_)
        refine (unhide D7).mono ?_
        rintro r w7 ⟨rfl, b7⟩
        have B7 := hide ((unhide B4).trans (b7.mono (unhide B4).size))
        clear b7
        go_wp2_with fail
        go_ret
        exact ⟨ret_int (unhide HE5).symm, unhide B7⟩
      have HE5 := hide ((unhide HE4).trans (if_pos hbh))
      rw [hbh] at D7
      clear HE4 hbh
      go_wp2_with (refine wpList_load_eq rfl 68 _ rfl _ _ rfl ((unhide HLD) _ (unhide B4)) ?_)
      refine (unhide D7).mono ?_
      rintro r w7 ⟨rfl, b7⟩
      have b7' := (unhide B4).trans (b7.mono (unhide B4).size)
      have D8 := hide ((unhide C8) (by first | rfl | trivial) _ b7' q ((unhide HP).below b7 (Nat.le_refl _)))
      have B7 := hide b7'
      clear b7 b7' C8 D7 HP
      by_cases htt : ttOk (enAt ahead x.2.2.1) x = true
      case neg =>
        have HE6 := hide ((unhide HE5).trans (if_neg htt))
        rw [Bool.not_eq_true] at htt
        rw [htt] at D8
        clear HE5 htt
        go_wp2_with fail
        refine (unhide D8).mono ?_
        rintro r w8 ⟨rfl, b8⟩
        have B8 := hide ((unhide B7).trans (b8.mono (unhide B7).size))
        clear b8
        go_wp2_with fail
        go_ret
        exact ⟨ret_int (unhide HE6).symm, unhide B8⟩
      have HE6 := hide ((unhide HE5).trans (if_pos htt))
      rw [htt] at D8
      clear HE5 htt
      go_wp2_with fail
      refine (unhide D8).mono ?_
      rintro r w8 ⟨rfl, b8⟩
      have B8 := hide ((unhide B7).trans (b8.mono (unhide B7).size))
      clear b8
      go_wp2_with fail
      go_ret
      exact ⟨ret_int (unhide HE6).symm, unhide B8⟩
    · have HE2 := hide ((unhide HE1).trans (if_neg hs))
      have C3' := C3
      rw [decide_eq_false hs] at C3'
      clear C3 HE HE1 hs C1
      go_upto_region 4 with fail
      refine wp_region_held_drew (S := (fun W => Below w.heap.size w W ∧ W.cell? ⟨b, o + 11, none⟩ = some (.slice e.2.1.a e.2.1.n e.2.1.c))) (by kernel_rfl) (⟨b1.drew, ((unhide HC) _ b1.drew).1⟩) (fun hHeld => ?_)
      refine wpAnyH_take (i := 0) (oi := _) (v := ?_) rfl (by kernel_rfl) (by kernel_rfl) (by kernel_rfl) (fun _ _ _ h => h) (Or.inl ⟨by rfl, ?_⟩) (by assumption) ?_
      rotate_left
      · ((intro wq hSw; (try dsimp only at hSw); go_simp) <;> with_reducible rfl)
      try dsimp only
      refine wpAnyH_take (i := 1) (oi := _) (v := ?_) rfl (by kernel_rfl) (by kernel_rfl) (by kernel_rfl) (fun _ _ _ h => h) (Or.inl ⟨by rfl, ?_⟩) (by assumption) ?_
      rotate_left
      · ((intro wq hSw; (try dsimp only at hSw); go_simp) <;> with_reducible rfl)
      try dsimp only
      refine wpAnyH_take (i := 2) (oi := _) (v := ?_) rfl (by kernel_rfl) (by kernel_rfl) (by kernel_rfl) (fun _ _ _ h => h) (Or.inl ⟨by rfl, ?_⟩) (by assumption) ?_
      rotate_left
      · ((intro wq hSw; (try dsimp only at hSw); go_simp) <;> with_reducible rfl)
      try dsimp only
      refine wpAnyH_take (i := 3) (oi := _) (v := ?_) rfl (by kernel_rfl) (by kernel_rfl) (by kernel_rfl) (fun _ _ _ h => h) (Or.inl ⟨by rfl, ?_⟩) (by assumption) ?_
      rotate_left
      · ((intro wq hSw; (try dsimp only at hSw); go_simp) <;> with_reducible rfl)
      try dsimp only
      refine wpAnyH_take (i := 4) (oi := _) (v := ?_) rfl (by kernel_rfl) (by kernel_rfl) (by kernel_rfl) (fun _ _ _ h => h) (Or.inl ⟨by rfl, ?_⟩) (by assumption) ?_
      rotate_left
      · ((intro wq hSw; (try dsimp only at hSw); go_simp) <;> with_reducible rfl)
      try dsimp only
      refine wpAnyH_take (i := 5) (oi := _) (v := ?_) rfl (by kernel_rfl) (by kernel_rfl) (by kernel_rfl) (fun _ _ _ h => h) (Or.inl ⟨by rfl, ?_⟩) (by assumption) ?_
      rotate_left
      · ((intro wq hSw; (try dsimp only at hSw); go_simp) <;> with_reducible rfl)
      try dsimp only
      refine wpAnyH_take (i := 6) (oi := _) (v := ?_) rfl (by kernel_rfl) (by kernel_rfl) (by kernel_rfl) (fun _ _ _ h => h) (Or.inl ⟨by rfl, ?_⟩) (by assumption) ?_
      rotate_left
      · ((intro wq hSw; (try dsimp only at hSw); go_simp) <;> with_reducible rfl)
      try dsimp only
      refine wpAnyH_take (i := 7) (oi := _) (v := .agg Vh) rfl (by kernel_rfl) (by kernel_rfl) (by kernel_rfl) (fun _ _ _ h => h) (Or.inl ⟨by rfl, ?_⟩) (by assumption) ?_
      · (intro wq hSw; (try dsimp only at hSw); refine exec_load rfl ?_ ((unhide HLD) wq hSw.1); go_simp)
      try dsimp only
      refine wpAnyH_ready (rs := [8]) (by kernel_rfl) (by simp) ?_
      refine AllReadyH.cons (o := _) rfl (fun K hK => ?_) AllReadyH.nil
      go_simp
      go_at_call 73
      refine ((unhide C2) _ hHeld.1).mono ?_
      rintro r w2 ⟨a2, c2, rfl, o2, b2⟩
      refine hK.out _ _ (⟨hHeld.1.trans (b2.mono hHeld.1.size), ((unhide HC) _ (hHeld.1.trans (b2.mono hHeld.1.size))).1⟩) (fun hHeld => ?_)
      clear hK K
      try dsimp only
      refine wpAnyH_take (i := 9) (oi := _) (v := ?_) rfl (by kernel_rfl) (by kernel_rfl) (by kernel_rfl) (fun _ _ _ h => h) (Or.inl ⟨by rfl, ?_⟩) (by assumption) ?_
      rotate_left
      · ((intro wq hSw; (try dsimp only at hSw); go_simp) <;> with_reducible rfl)
      try dsimp only
      refine wpAnyH_ready (rs := [10]) (by kernel_rfl) (by simp) ?_
      refine AllReadyH.cons (o := _) rfl (fun K hK => ?_) AllReadyH.nil
      go_simp
      go_at_call 72
      refine ((unhide C3') _ hHeld.1 _ _ _ (BRow.own2 o2 (unhide HRG))).mono ?_
      rintro r w3 ⟨rfl, rfl⟩
      refine hK.out _ _ (hHeld) (fun hHeld => ?_)
      clear hK K
      try dsimp only
      refine wpAnyH_take (i := 11) (oi := _) (v := ?_) rfl (by kernel_rfl) (by kernel_rfl) (by kernel_rfl) (fun _ _ _ h => h) (Or.inl ⟨by rfl, ?_⟩) (by assumption) ?_
      rotate_left
      · ((intro wq hSw; (try dsimp only at hSw); go_simp) <;> with_reducible rfl)
      try dsimp only
      refine wpAnyH_take (i := 12) (oi := _) (v := ?_) rfl (by kernel_rfl) (by kernel_rfl) (by kernel_rfl) (fun _ _ _ h => h) (Or.inl ⟨by rfl, ?_⟩) (by assumption) ?_
      rotate_left
      · ((intro wq hSw; (try dsimp only at hSw); go_simp) <;> with_reducible rfl)
      try dsimp only
      refine wpAnyH_done (by kernel_rfl) ?_ _
      have B2 := hide hHeld.1
      clear b1 hHeld b2 o2
      go_wp2_with fail
      go_ret
      exact ⟨ret_int (unhide HE2).symm, unhide B2⟩
  · have hne : (q0 != 0) = true := by simp [hq]
    have HE1 := hide ((unhide HE).trans (if_neg hq))
    have B1 := hide b1
    clear b1
    go_wp2_with fail
    go_ret
    exact ⟨ret_int (unhide HE1).symm, unhide B1⟩

end Go.Proofs.YtldiilmpmcbjkaaGreatDoor
