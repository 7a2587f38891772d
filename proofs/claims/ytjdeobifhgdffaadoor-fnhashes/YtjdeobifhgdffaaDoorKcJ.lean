/- What is proved here: what the program's KeccakOf answers for every slice of bytes: the code and the hash, in new memory. -/
import Derived.Test.YtjdeobifhgdffaaDoorKcI
import Derived.Test.YtjdeobifhgdffaaDoorStepEq
import Derived.Test.YtjdeobifhgdffaaDoorPadImpl
import Derived.Test.YtjdeobifhgdffaaDoorOwnG
import Derived.WalkSmall
import Derived.WalkSpells
namespace Go.Proofs.YtjdeobifhgdffaaDoor
open Go.RowKit
set_option linter.unusedVariables false
attribute [local go_sem ↓] Go.wp_at_zero Go.wp_at_succ

/-- A block of an answer that is laid: its code and its bytes. -/
def YBlk (w : World) (b : Nat) (c : Int) (v : Value) : Prop := w.heap[b]? = some (.cells #[.int .i64 c, v] 26 (0, 0))

theorem YBlk.below {w w' : World} {b C : Nat} {c : Int} {v : Value} (h : YBlk w b c v) (hb : Below C w w') (hC : b < C) : YBlk w' b c v := by
  unfold YBlk
  rw [hb.block b hC]; exact h

theorem YBlk.lt {w : World} {b : Nat} {c : Int} {v : Value} (h : YBlk w b c v) : b < w.heap.size := lt_of_block h

theorem YBlk.cells {w : World} {b : Nat} {c : Int} {v : Value} (h : YBlk w b c v) : w.cell? ⟨b, 0, none⟩ = some (.int .i64 c) ∧ w.cell? ⟨b, 1, none⟩ = some v ∧ w.frozen? ⟨b, 0, none⟩ = false ∧ w.frozen? ⟨b, 1, none⟩ = false := res_facts h

theorem hash_get (Z : List Nat) (k : Nat) (hk : k < 32) : (hashOf Z)[k]? = some ((Z.getD (k / 8) 0 / 2 ^ (8 * (k % 8)) % 256 : Nat) : Int) := by
  simp [hashOf, hk]

theorem fill_int (X Y : List Int) (n k : Nat) (hX : X.length = n) (hY : Y.length = n) (hk : k < n) : (X.take k ++ Y.drop k).set k (X.getD k 0) = X.take (k + 1) ++ Y.drop (k + 1) := by
  have hl : (X.take k).length = k := by simp; omega
  rw [List.set_append, if_neg (by omega), hl, Nat.sub_self, List.drop_eq_getElem_cons (by omega), List.set_cons_zero, List.take_succ_eq_append_getElem (by omega), getD_at X k (by omega), List.append_assoc]
  rfl

set_option maxRecDepth 100000 in
set_option maxHeartbeats 4000000 in
theorem implKc_any (a : Option Addr) (n cap : Nat) (zs : List Int) (w : World) (h : BRow w a n zs) (hcap : a = none → cap = 0) (hn : n ≤ 1048576) (hv : Laid w) :
    Calls Tryd.prog 9 #[.slice a n cap] w fun e w' => ∃ a' cap', e = .returned (.agg #[.int .i64 (kcCode zs), .slice a' (kcBytes zs).length cap']) ∧
      w'.ownsRow w.heap.size 5 1 (.slice a' (kcBytes zs).length cap') (kcBytes zs).length ((kcBytes zs).map (Value.int .u8)) ∧ Below w.heap.size w w' := by
  have hzl := h.1
  have K1 := below_alloc w (.cells #[.int .i64 0, .slice none 0 0] 26)
  have T1 : YBlk (w.alloc (.cells #[.int .i64 0, .slice none 0 0] 26)) w.heap.size 0 (.slice none 0 0) := heap_alloc_new w _
  by_cases hm : 1200 < n
  · have e1 : kcCode zs = 2 := if_pos (by omega)
    have e2 : kcBytes zs = [] := if_pos (by omega)
    have HPD := hide (implPad_any a n cap zs _ (h.below K1 (Nat.le_refl _)) hcap hn)
    have e3 : pdCode zs = 2 := if_pos (by omega)
    have e4 : pdBytes zs = [] := if_pos (by omega)
    rw [e3, e4] at HPD
    rw [e1, e2]
    clear e1 e2 e3 e4 h
    go_enter Tryd.func9, Tryd.ntmps9
    generalize hw1 : w.alloc (.cells #[.int .i64 0, .slice none 0 0] 26) = w1 at K1 T1 HPD
    go_upto_region 1 with fail
    have hsz : w.heap.size < w1.heap.size := T1.lt
    clear hw1
    have HK1 := hide K1
    have HT1 := hide T1
    clear K1 T1
    go_wp2_with fail
    refine (unhide HPD).mono ?_
    rintro e w2 ⟨a2, c2, rfl, o2, b2⟩
    have T2 := YBlk.below (unhide HT1) b2 hsz
    have B2 := (unhide HK1).trans (b2.mono (unhide HK1).size)
    have hs2 : w.heap.size < w2.heap.size := Nat.lt_of_lt_of_le hsz b2.size
    clear o2 b2
    have K3 := below_alloc w2 (.cells #[.int .i64 2, .slice a2 0 c2] 26)
    have Q3 : YBlk (w2.alloc (.cells #[.int .i64 2, .slice a2 0 c2] 26)) w2.heap.size 2 (.slice a2 0 c2) := heap_alloc_new w2 _
    go_upto_region 2 with fail
    generalize w2.alloc (.cells #[.int .i64 2, .slice a2 0 c2] 26) = w3 at K3 Q3 ⊢
    obtain ⟨q0, q1, _, _⟩ := Q3.cells
    obtain ⟨t0, t1, t2, t3⟩ := (T2.below K3 hs2).cells
    have HB := hide (B2.trans (K3.mono B2.size))
    clear T2 B2 K3 Q3 HPD HT1 HK1
    go_wp2_with fail
    refine bodyPost_ret (v := .agg #[.int .i64 2, .slice none 0 0]) (by simp [results, Tryd.results9, go_sem, t0, t1]) rfl ⟨none, 0, rfl, World.ownsRow_nil _ _ _ _, ?_⟩
    exact ((unhide HB).setCell (by simp) _).setCell (by simp) _
  · have hp := padLen_lt n
    have HRG := hide (padB_range zs h.2.1)
    have HPL := hide (padB_length zs)
    have HPD := hide (implPad_in a n cap zs _ (h.below K1 (Nat.le_refl _)) hcap (by omega))
    have e1 : kcCode zs = 0 := if_neg (by omega)
    have e2 : kcBytes zs = hashOf (spAt (padB zs) (padLen zs.length / 136)) := if_neg (by omega)
    have e3 := hashOf_length (spAt (padB zs) (padLen zs.length / 136))
    rw [e1, e2, e3]
    rw [hzl] at HPL ⊢
    have HSL := hide (spAt_lanes (unhide HRG))
    have HSS := hide (fun k => show spAt (padB zs) (k + 1) = mixAt (soakAt (spAt (padB zs) k) (padB zs) (136 * k) 17) 24 from rfl)
    have HS0 := hide (show spAt (padB zs) 0 = List.replicate 25 0 from rfl)
    generalize padB zs = PB at HRG HPL HPD HSL HSS HS0 ⊢
    generalize padLen n = L at hp HPL HPD ⊢
    obtain ⟨N, hN⟩ : ∃ N, L = 136 * N := ⟨L / 136, by omega⟩
    have hN2 : L / 136 = N := by omega
    rw [hN2]
    have hLs : L ≤ 1400 := by omega
    have HN := hide hN
    clear hN2 hN
    have HVV := hide hv
    clear e1 e2 e3 h hv hcap
    go_enter Tryd.func9, Tryd.ntmps9
    generalize hw1 : w.alloc (.cells #[.int .i64 0, .slice none 0 0] 26) = w1 at K1 T1 HPD
    go_upto_region 1 with fail
    have hsz : w.heap.size < w1.heap.size := T1.lt
    clear hw1
    have HK1 := hide K1
    have HT1 := hide T1
    clear K1 T1
    go_wp2_with fail
    refine (unhide HPD).mono ?_
    rintro e w2 ⟨g, c2, rfl, o2, b2⟩
    have hL2 : L ≤ c2 := by
      rcases o2.2 with ⟨e, _⟩ | ⟨_, _, _, e, _, _, h1, _⟩
      · cases e
      · cases e; exact h1
    have R2 := BRow.own o2 (unhide HRG)
    have hg2 : g < w2.heap.size := (o2.lt g rfl).2
    have T2 := YBlk.below (unhide HT1) b2 hsz
    have B2 := (unhide HK1).trans (b2.mono (unhide HK1).size)
    have hs2 : w.heap.size < w2.heap.size := Nat.lt_of_lt_of_le hsz b2.size
    clear o2 b2
    have K3 := below_alloc w2 (.cells #[.int .i64 0, .slice (some ⟨g, 0, none⟩) L c2] 26)
    have Q3 : YBlk (w2.alloc (.cells #[.int .i64 0, .slice (some ⟨g, 0, none⟩) L c2] 26)) w2.heap.size 0 (.slice (some ⟨g, 0, none⟩) L c2) := heap_alloc_new w2 _
    go_upto_region 2 with fail
    generalize w2.alloc (.cells #[.int .i64 0, .slice (some ⟨g, 0, none⟩) L c2] 26) = w3 at K3 Q3 ⊢
    obtain ⟨q0, q1, _, _⟩ := Q3.cells
    have R3 := hide (R2.below K3 (Nat.le_refl _))
    have T3 := hide (T2.below K3 hs2)
    have B3 := hide (B2.trans (K3.mono B2.size))
    have hq3 : w2.heap.size < w3.heap.size := Q3.lt
    have HQ3 := hide Q3
    clear R2 T2 B2 K3 Q3 HPD HT1 HK1
    go_upto_block 0 with fail
    have N4 : UBlk (w3.alloc (.cells #[.int .u64 0, .int .u64 0, .int .u64 0, .int .u64 0, .int .u64 0, .int .u64 0, .int .u64 0, .int .u64 0, .int .u64 0, .int .u64 0, .int .u64 0, .int .u64 0, .int .u64 0, .int .u64 0, .int .u64 0, .int .u64 0, .int .u64 0, .int .u64 0, .int .u64 0, .int .u64 0, .int .u64 0, .int .u64 0, .int .u64 0, .int .u64 0, .int .u64 0] 50)) w3.heap.size (List.replicate 25 0) 50 := UBlk.new w3 (List.replicate 25 0) 50
    have K4 := below_alloc w3 (.cells #[.int .u64 0, .int .u64 0, .int .u64 0, .int .u64 0, .int .u64 0, .int .u64 0, .int .u64 0, .int .u64 0, .int .u64 0, .int .u64 0, .int .u64 0, .int .u64 0, .int .u64 0, .int .u64 0, .int .u64 0, .int .u64 0, .int .u64 0, .int .u64 0, .int .u64 0, .int .u64 0, .int .u64 0, .int .u64 0, .int .u64 0, .int .u64 0, .int .u64 0] 50)
    generalize w3.alloc (.cells #[.int .u64 0, .int .u64 0, .int .u64 0, .int .u64 0, .int .u64 0, .int .u64 0, .int .u64 0, .int .u64 0, .int .u64 0, .int .u64 0, .int .u64 0, .int .u64 0, .int .u64 0, .int .u64 0, .int .u64 0, .int .u64 0, .int .u64 0, .int .u64 0, .int .u64 0, .int .u64 0, .int .u64 0, .int .u64 0, .int .u64 0, .int .u64 0, .int .u64 0] 50) = w4 at N4 K4 ⊢
    rw [← unhide HS0] at N4
    have HS4 := hide N4
    have HK4 := hide K4
    clear N4 K4
    go_cut [5] (fun i wr => i = .int .i64 L ∧ UBlk wr w3.heap.size (spAt PB N) 50 ∧ Below w3.heap.size w3 wr)
    case first =>
      go_wp2_with fail
      go_loopw [5] (fun i wr => ∃ k : Nat, k ≤ N ∧ i = .int .i64 ((136 * k : Nat) : Int) ∧ UBlk wr w3.heap.size (spAt PB k) 50 ∧ Below w3.heap.size w3 wr) (fun i _ => 136 * N - (intOf i).toNat)
      case atStart => exact ⟨0, by omega, rfl, unhide HS4, unhide HK4⟩
      case round =>
        obtain ⟨k, hk, rfl, hS, hB⟩ := hrel
        clear HS4 HK4
        obtain ⟨t, ht⟩ : ∃ t, t = 136 * k := ⟨_, rfl⟩
        rw [← ht]
        have d1 := (hB.cell (p := ⟨w2.heap.size, 1, none⟩) hq3).trans q1
        have hsl := (unhide HSL) k
        have hN := unhide HN
        by_cases hlt : k < N
        · have hdk : decide ((t : Int) < (L : Int)) = true := decide_eq_true (by omega)
          have htL : t + 136 ≤ L := by omega
          have hkN : 136 * N - 136 * (k + 1) < 136 * N - t := by omega
          have HKN := hide hkN
          have HTT := hide (show t + 136 = 136 * (k + 1) by omega)
          clear hN hkN
          have HLD := hide (fun (W : World) (hW : UBlk W w3.heap.size (spAt PB k) 50) => load25 hW hsl.1)
          have HSK : Hid (∀ (cp : Nat) (W : World), Below w3.heap.size w3 W → Calls Tryd.prog 32 #[.agg (vals (spAt PB k)).toArray, .slice (some ⟨g, t, none⟩) 136 cp] W fun e w' => e = .returned (.agg (vals (spAt PB (k + 1))).toArray) ∧ Below W.heap.size W w') := by
            intro cp W hW
            have r1 := ((unhide R3).below hW (Nat.le_refl _)).sub t 136 (by omega)
            rw [Nat.zero_add] at r1
            have := soak_any (spAt PB k) hsl g t 136 cp _ W r1 (by omega) (by omega) ((unhide HVV).below ((unhide B3).trans (hW.mono (unhide B3).size)) (Nat.le_refl _))
            rw [soakAt_block _ _ _ 17 (Nat.le_refl _)] at this
            have hs := (unhide HSS) k
            rw [← ht] at hs
            rw [← hs] at this
            exact this
          have hsl2 := (unhide HSL) (k + 1)
          obtain ⟨t2, ht2⟩ : ∃ t2, t2 = t + 136 := ⟨_, rfl⟩
          have m0 : (t : Int) + 136 = (t2 : Int) := by omega
          have y0 : IntKind.i64.wrap (t2 : Int) = (t2 : Int) := i64_fits _ (by omega) (by omega)
          have j0 : (0 : Int) ≤ (t : Int) := by omega
          have j1 : (t : Int) ≤ (t2 : Int) := by omega
          have j2 : (t2 : Int) ≤ (c2 : Int) := by omega
          have j3 : t ≤ t2 := by omega
          have j4 : t2 ≤ c2 := by omega
          have j5 : t2 - t = 136 := by omega
          have j6 : ¬ (c2 = t) := by omega
          have HS5 := hide hS
          have HB5 := hide hB
          have len1 := hsl.1
          have len2 := hsl2.1
          generalize hS2 : spAt PB (k + 1) = S2 at HSK hsl2 len2
          have HE2 := hide hS2
          clear hS2
          generalize spAt PB k = S1 at HLD HSK HS5 len1 hS hsl
          clear hS hB hsl hsl2 ht ht2
          go_upto_region 8 with fail
          refine wp_region_any (by kernel_rfl) ?_
          try (change wpAny _ _ _ _ _ _ _ (World.drew _))
          refine wpAny_take (i := 1) (v := ?v1) rfl (by kernel_rfl) (by kernel_rfl) (by kernel_rfl) (fun _ _ _ h => h) (Or.inl ⟨by rfl, ?h1⟩) ?r1
          case h1 => (intro w; go_simp; try with_reducible rfl)
          refine wpAny_take (i := 3) (v := ?v3) rfl (by kernel_rfl) (by kernel_rfl) (by kernel_rfl) (fun _ _ _ h => h) (Or.inl ⟨by rfl, ?h3⟩) ?r3
          case h3 => (intro w; go_simp; try with_reducible rfl)
          refine wpAny_take (i := 4) (v := ?v4) rfl (by kernel_rfl) (by kernel_rfl) (by kernel_rfl) (fun _ _ _ h => h) (Or.inl ⟨by rfl, ?h4⟩) ?r4
          case h4 => (intro w; go_simp; try with_reducible rfl)
          refine wpAny_take (i := 5) (v := ?v5) rfl (by kernel_rfl) (by kernel_rfl) (by kernel_rfl) (fun _ _ _ h => h) (Or.inl ⟨by rfl, ?h5⟩) ?r5
          case h5 => (intro w; go_simp; try with_reducible rfl)
          refine wpAny_ready (rs := [0, 2]) (by kernel_rfl) (by simp) ?_
          refine AllReady.cons rfl (fun K hK => ?_) ?_
          · refine step_load_eq rfl 50 (.tmp 4) rfl (.pointer (some ⟨w3.heap.size, 0, none⟩)) _ (by rfl) ((unhide HLD) (World.drew wr) (unhide HS5)) ?_
            refine hK _ _ ?_
            clear hK K
            refine wpAny_ready (rs := [2]) (by kernel_rfl) (by simp) ?_
            refine AllReady.cons rfl (fun K hK => ?_) AllReady.nil
            go_simp
            refine hK _ _ ?_
            clear hK K
            refine wpAny_ready (rs := [6]) (by kernel_rfl) (by simp) ?_
            refine AllReady.cons rfl (fun K hK => ?_) AllReady.nil
            go_simp
            refine hK _ _ ?_
            clear hK K
            refine wpAny_ready (rs := [7]) (by kernel_rfl) (by simp) ?_
            refine AllReady.cons rfl (fun K hK => ?_) AllReady.nil
            go_simp
            go_wp2_with (go_at_call 32; refine ((unhide HSK) _ (World.drew wr) (unhide HB5).drew).mono ?_; rintro e w6 ⟨rfl, b6⟩)
            obtain ⟨w7, hst, S7, K7, O7⟩ := store25 ((unhide HS5).below (Below.trans ((Below.refl wr.heap.size wr).drew) b6) (unhide HS5).lt) len1 len2
            have HB7 := hide (((unhide HB5).trans ((Below.trans ((Below.refl wr.heap.size wr).drew) b6).mono (unhide HB5).size)).trans (K7 w3.heap.size (Nat.le_refl _)))
            have HS7 := hide S7
            have HST := hide hst
            clear hst S7 K7 O7 b6
            try (refine hK _ _ ?_; clear hK K)
            refine wpAny_ready (rs := [8]) (by kernel_rfl) (by simp) ?_
            refine AllReady.cons rfl (fun K hK => ?_) AllReady.nil
            refine step_store_eq rfl 50 (.tmp 4) (.tmp 30) rfl (.pointer (some ⟨w3.heap.size, 0, none⟩)) (.agg (vals S2).toArray) (by rfl) (by rfl) w7 (unhide HST) ?_
            refine hK _ _ ?_
            clear hK K
            refine wpAny_done (by kernel_rfl) ?_ _
            go_wp2_with fail
            go_roundw
            case rel => exact ⟨k + 1, by omega, by rw [← unhide HTT]; go_num, by rw [unhide HE2]; exact unhide HS7, unhide HB7⟩
            case measure => simp [intOf]; have := unhide HKN; have := unhide HTT; omega
          · refine AllReady.cons rfl (fun K hK => ?_) AllReady.nil
            go_simp
            refine hK _ _ ?_
            clear hK K
            refine wpAny_ready (rs := [0, 6]) (by kernel_rfl) (by simp) ?_
            refine AllReady.cons rfl (fun K hK => ?_) ?_
            · refine step_load_eq rfl 50 (.tmp 4) rfl (.pointer (some ⟨w3.heap.size, 0, none⟩)) _ (by rfl) ((unhide HLD) (World.drew wr) (unhide HS5)) ?_
              refine hK _ _ ?_
              clear hK K
              refine wpAny_ready (rs := [6]) (by kernel_rfl) (by simp) ?_
              refine AllReady.cons rfl (fun K hK => ?_) AllReady.nil
              go_simp
              refine hK _ _ ?_
              clear hK K
              refine wpAny_ready (rs := [7]) (by kernel_rfl) (by simp) ?_
              refine AllReady.cons rfl (fun K hK => ?_) AllReady.nil
              go_simp
              go_wp2_with (go_at_call 32; refine ((unhide HSK) _ (World.drew wr) (unhide HB5).drew).mono ?_; rintro e w6 ⟨rfl, b6⟩)
              obtain ⟨w7, hst, S7, K7, O7⟩ := store25 ((unhide HS5).below (Below.trans ((Below.refl wr.heap.size wr).drew) b6) (unhide HS5).lt) len1 len2
              have HB7 := hide (((unhide HB5).trans ((Below.trans ((Below.refl wr.heap.size wr).drew) b6).mono (unhide HB5).size)).trans (K7 w3.heap.size (Nat.le_refl _)))
              have HS7 := hide S7
              have HST := hide hst
              clear hst S7 K7 O7 b6
              try (refine hK _ _ ?_; clear hK K)
              refine wpAny_ready (rs := [8]) (by kernel_rfl) (by simp) ?_
              refine AllReady.cons rfl (fun K hK => ?_) AllReady.nil
              refine step_store_eq rfl 50 (.tmp 4) (.tmp 30) rfl (.pointer (some ⟨w3.heap.size, 0, none⟩)) (.agg (vals S2).toArray) (by rfl) (by rfl) w7 (unhide HST) ?_
              refine hK _ _ ?_
              clear hK K
              refine wpAny_done (by kernel_rfl) ?_ _
              go_wp2_with fail
              go_roundw
              case rel => exact ⟨k + 1, by omega, by rw [← unhide HTT]; go_num, by rw [unhide HE2]; exact unhide HS7, unhide HB7⟩
              case measure => simp [intOf]; have := unhide HKN; have := unhide HTT; omega
            · refine AllReady.cons rfl (fun K hK => ?_) AllReady.nil
              go_simp
              refine hK _ _ ?_
              clear hK K
              refine wpAny_ready (rs := [0]) (by kernel_rfl) (by simp) ?_
              refine AllReady.cons rfl (fun K hK => ?_) AllReady.nil
              refine step_load_eq rfl 50 (.tmp 4) rfl (.pointer (some ⟨w3.heap.size, 0, none⟩)) _ (by rfl) ((unhide HLD) (World.drew wr) (unhide HS5)) ?_
              refine hK _ _ ?_
              clear hK K
              refine wpAny_ready (rs := [7]) (by kernel_rfl) (by simp) ?_
              refine AllReady.cons rfl (fun K hK => ?_) AllReady.nil
              go_simp
              go_wp2_with (go_at_call 32; refine ((unhide HSK) _ (World.drew wr) (unhide HB5).drew).mono ?_; rintro e w6 ⟨rfl, b6⟩)
              obtain ⟨w7, hst, S7, K7, O7⟩ := store25 ((unhide HS5).below (Below.trans ((Below.refl wr.heap.size wr).drew) b6) (unhide HS5).lt) len1 len2
              have HB7 := hide (((unhide HB5).trans ((Below.trans ((Below.refl wr.heap.size wr).drew) b6).mono (unhide HB5).size)).trans (K7 w3.heap.size (Nat.le_refl _)))
              have HS7 := hide S7
              have HST := hide hst
              clear hst S7 K7 O7 b6
              try (refine hK _ _ ?_; clear hK K)
              refine wpAny_ready (rs := [8]) (by kernel_rfl) (by simp) ?_
              refine AllReady.cons rfl (fun K hK => ?_) AllReady.nil
              refine step_store_eq rfl 50 (.tmp 4) (.tmp 30) rfl (.pointer (some ⟨w3.heap.size, 0, none⟩)) (.agg (vals S2).toArray) (by rfl) (by rfl) w7 (unhide HST) ?_
              refine hK _ _ ?_
              clear hK K
              refine wpAny_done (by kernel_rfl) ?_ _
              go_wp2_with fail
              go_roundw
              case rel => exact ⟨k + 1, by omega, by rw [← unhide HTT]; go_num, by rw [unhide HE2]; exact unhide HS7, unhide HB7⟩
              case measure => simp [intOf]; have := unhide HKN; have := unhide HTT; omega
        · obtain rfl : k = N := by omega
          have hdk : decide ((t : Int) < (L : Int)) = false := decide_eq_false (by omega)
          have htL : t = L := by omega
          clear hN
          have HS5 := hide hS
          clear hS
          go_wp2_with fail
          go_meet
          exact ⟨by rw [htL], unhide HS5, hB⟩
    case rest =>
      obtain ⟨rfl, hS, hB⟩ := hcut
      have hsl := (unhide HSL) N
      have hBw := (unhide B3).trans (hB.mono (unhide B3).size)
      have hT := (unhide T3).below hB (by omega)
      have hrs := hS.lt
      have hXL := hashOf_length (spAt PB N)
      have HHG := hide (hash_get (spAt PB N))
      generalize hX : hashOf (spAt PB N) = X at hXL HHG
      have HX := hide hX
      clear hX
      generalize spAt PB N = Z at hS hsl HHG
      have HSL2 := hide hsl
      have HS5 := hide hS
      have HB5 := hide hBw
      have HT5 := hide hT
      have zlen := hsl.1
      obtain ⟨i0, hi, hz0, hz1, hz2⟩ := info_parts info5
      have hws : w.heap.size < wc.heap.size := hT.lt
      clear hS hB hBw hT hsl HS4 HK4 HSL HSS HS0 R3 T3 B3 HQ3 q0 q1
      go_upto_region 10 with (at_make; refine wpList_make_full _ rfl _ _ 22 rfl wc.heap.size 5 i0 (.int .u8 0) 1 Tryd.underlying22 hi hz0 hz1 _ _ _ _ 32 rfl rfl (by omega) (by omega) ?c1 ?c2 ?c3 ?_)
      case c1 => rw [hz2]; omega
      case c2 => unfold maxLen; omega
      case c3 => exact Nat.le_refl _
      intro w5 hown hgrow
      rw [show (madeCells #[Value.int IntKind.u8 0] 32).toList = (List.replicate 32 (0 : Int)).map (Value.int .u8) from by kernel_rfl] at hown
      have S6 : UBlk w5 w3.heap.size Z 50 := by
        unfold UBlk
        rw [hgrow.block _ hrs (by simp)]
        exact unhide HS5
      have T6 : YBlk w5 w.heap.size 0 (.slice none 0 0) := by
        unfold YBlk
        rw [hgrow.block _ hws (by simp)]
        exact unhide HT5
      have HB6 := hide ((unhide HB5).grown hgrow (by omega) (fun k e => by cases e))
      have HS6 := hide S6
      have HT6 := hide T6
      have HO6 := hide hown
      have hd5 : w3.heap.size < wc.heap.size := hrs
      clear S6 T6 hown hgrow HS5 HT5 HB5
      generalize wc.heap.size = d at HO6 hws hd5 ⊢
      go_wp2_with fail
      go_loopw [34] (fun i wr => ∃ k : Nat, k ≤ 32 ∧ i = .int .i64 k ∧ wr.ownsRow d 5 1 (.slice (some ⟨d, 0, none⟩) 32 32) 32 ((X.take k ++ (List.replicate 32 (0 : Int)).drop k).map (Value.int .u8)) ∧
          UBlk wr w3.heap.size Z 50 ∧ YBlk wr w.heap.size 0 (.slice none 0 0) ∧ Below w.heap.size w wr) (fun i _ => 32 - (intOf i).toNat)
      case atStart => exact ⟨0, by omega, rfl, by simpa using unhide HO6, unhide HS6, unhide HT6, unhide HB6⟩
      case round =>
        obtain ⟨k, hk, rfl, hown, hS, hT, hB⟩ := hrel
        clear HO6 HS6 HT6 HB6
        by_cases hlt : k < 32
        · have hdk : decide ((k : Int) < 32) = true := decide_eq_true (by omega)
          obtain ⟨e, he⟩ : ∃ e, e = k / 8 := ⟨_, rfl⟩
          obtain ⟨f, hf⟩ : ∃ f, f = k % 8 := ⟨_, rfl⟩
          obtain ⟨s, hs⟩ : ∃ s, s = 8 * f := ⟨_, rfl⟩
          have hxk := (unhide HHG) k hlt
          rw [← he, ← hf, ← hs] at hxk
          have c0 := UBlk.cell hS e (by omega)
          have hz64 : Z.getD e 0 < 18446744073709551616 := getD_lt (unhide HSL2).2 (by decide) _
          have hfill := fill_int X (List.replicate 32 (0 : Int)) 32 k hXL (by simp) hlt
          have hgd : X.getD k 0 = ((Z.getD e 0 / 2 ^ s % 256 : Nat) : Int) := by rw [List.getD_eq_getElem?_getD, hxk]; rfl
          rw [hgd] at hfill
          generalize Z.getD e 0 = z at c0 hz64 hfill
          have R8 := hown.stored k (.int .u8 ((z / 2 ^ s % 256 : Nat) : Int))
          rw [← List.map_set, hfill] at R8
          have f1 := hown.frozenAt k
          obtain ⟨u, hu⟩ : ∃ u, wr.cell? ⟨d, k, none⟩ = some u := by
            rw [hown.cellAt k (by omega)]
            exact ⟨_, List.getElem?_eq_getElem (by rw [hown.1]; omega)⟩
          have HO8 := hide R8.1
          have HS8 := hide (hS.other (b' := d) k (.int .u8 ((z / 2 ^ s % 256 : Nat) : Int)) (by omega))
          have HT8 : Hid (YBlk (wr.setCell ⟨d, k, none⟩ (.int .u8 ((z / 2 ^ s % 256 : Nat) : Int))) w.heap.size 0 (.slice none 0 0)) := by
            show YBlk _ _ _ _
            unfold YBlk
            rw [heap_setCell_other _ ⟨d, k, none⟩ w.heap.size _ (by show w.heap.size ≠ d; omega)]
            exact hT
          have HB8 := hide (hB.setCell (p := ⟨d, k, none⟩) (by show w.heap.size ≤ d; omega) (.int .u8 ((z / 2 ^ s % 256 : Nat) : Int)))
          have m0 : (k : Int).tdiv 8 = (e : Int) := by rw [Int.tdiv_eq_ediv_of_nonneg (by omega)]; omega
          have m1 : (k : Int).tmod 8 = (f : Int) := by rw [Int.tmod_eq_emod_of_nonneg (by omega)]; omega
          have m2 : 8 * (f : Int) = (s : Int) := by omega
          have y0 : IntKind.i64.wrap (e : Int) = (e : Int) := i64_fits _ (by omega) (by omega)
          have y1 : IntKind.i64.wrap (f : Int) = (f : Int) := i64_fits _ (by omega) (by omega)
          have y2 : IntKind.i64.wrap (s : Int) = (s : Int) := i64_fits _ (by omega) (by omega)
          have j0 : (0 : Int) ≤ (e : Int) := by omega
          have j1 : (e : Int) < 25 := by omega
          have j2 : (0 : Int) ≤ (s : Int) := by omega
          have j3 : (0 : Int) ≤ (k : Int) := by omega
          have j4 : (k : Int) < 32 := by omega
          have hs64 : s < 64 := by omega
          clear hown hS hT hB hxk hgd hfill R8 he hf hs
          have HVC := hide (show ((z : Int) / 2 ^ s % 256) = ((z / 2 ^ s % 256 : Nat) : Int) by simp)
          go_wp2_with fail
          rw [unhide HVC]
          exact ⟨⟨k + 1, by omega, by go_num, unhide HO8, unhide HS8, unhide HT8, unhide HB8⟩, by simp [intOf]; omega⟩
        · obtain rfl : k = 32 := by omega
          have hdk : decide (((32 : Nat) : Int) < 32) = false := rfl
          rw [List.take_of_length_le (by omega), List.drop_of_length_le (by simp), List.append_nil] at hown
          obtain ⟨t0, t1, t2, t3⟩ := hT.cells
          have HOW := hide hown
          have HBF := hide hB
          clear hT hown hB
          go_wp2_with fail
          refine bodyPost_ret (v := .agg #[.int .i64 0, .slice (some ⟨d, 0, none⟩) 32 32]) (by simp [results, Tryd.results9, go_sem, t0, t1]) rfl ⟨_, _, rfl, ?_, ((unhide HBF).setCell (by simp) _).setCell (by simp) _⟩
          refine ownsRow_base (B := d) ?_ (by omega)
          rw [unhide HX]
          exact ownsRow_setCell_below (a := ⟨w.heap.size, 1, none⟩) (ownsRow_setCell_below (a := ⟨w.heap.size, 0, none⟩) (unhide HOW) hws _) hws _

end Go.Proofs.YtjdeobifhgdffaaDoor
