/- What is proved here: what the model's l2Keccak answers for at most 1200 bytes. -/
import Derived.Test.YtldiilmpmcbjkaaGreatDoorJ23
import Derived.Test.YtldiilmpmcbjkaaGreatDoorJ17
import Derived.Test.YtldiilmpmcbjkaaGreatDoorJ5
import Derived.Deep.DeepCutAuto
import Derived.Deep.AppendLies
import Derived.Deep.RegionLaw
import Derived.Deep.RegionWith
import Derived.BigRegion
namespace Go.Proofs.YtldiilmpmcbjkaaGreatDoor
open Go.RowKit
set_option linter.unusedVariables false
set_option maxRecDepth 100000
attribute [local go_sem ↓] Go.wp_at_zero Go.wp_at_succ

theorem low_hi {bs : List Int} {W : World} {g L : Nat} (h : BRow W (some ⟨g, 0, none⟩) L bs) (p cap : Nat) (hp : p + 8 ≤ L) :
    Calls Tryz.prog 102 #[.slice (some ⟨g, p + 4, none⟩) 4 cap] W fun e w' => e = .returned (.int .i64 (hiW (laneB bs p) : Int)) ∧ ∃ n, w' = W.drewN n := by
  have hc : ∀ i, i < 8 → W.cell? ⟨g, p + i, none⟩ = some (.int .u8 (byteN bs p i : Int)) := fun i hi => by
    have := h.2.2.2 _ rfl (p + i) (by omega)
    rw [add_none, Nat.zero_add] at this
    rw [this, byteN_cast h.2.1]
  have e := (laneB_words h.2.1 p).1
  rw [← byteN_cast h.2.1, ← byteN_cast h.2.1, ← byteN_cast h.2.1, ← byteN_cast h.2.1] at e
  have := l2Low_any g (p + 4) cap (byteN bs p 4) (byteN bs p 5) (byteN bs p 6) (byteN bs p 7) W (byteN_lt h.2.1 _ _) (byteN_lt h.2.1 _ _) (byteN_lt h.2.1 _ _) (byteN_lt h.2.1 _ _) (hc 4 (by omega)) (hc 5 (by omega)) (hc 6 (by omega)) (hc 7 (by omega))
  have e2 : ((byteN bs p 4 + byteN bs p 5 * 256 + byteN bs p 6 * 65536 + byteN bs p 7 * 16777216 : Nat) : Int) = (hiW (laneB bs p) : Int) := by rw [e]; simp
  rwa [e2] at this

theorem low_lo {bs : List Int} {W : World} {g L : Nat} (h : BRow W (some ⟨g, 0, none⟩) L bs) (p cap : Nat) (hp : p + 8 ≤ L) :
    Calls Tryz.prog 102 #[.slice (some ⟨g, p, none⟩) 4 cap] W fun e w' => e = .returned (.int .i64 (loW (laneB bs p) : Int)) ∧ ∃ n, w' = W.drewN n := by
  have hc : ∀ i, i < 8 → W.cell? ⟨g, p + i, none⟩ = some (.int .u8 (byteN bs p i : Int)) := fun i hi => by
    have := h.2.2.2 _ rfl (p + i) (by omega)
    rw [add_none, Nat.zero_add] at this
    rw [this, byteN_cast h.2.1]
  have e := (laneB_words h.2.1 p).2
  rw [← byteN_cast h.2.1, ← byteN_cast h.2.1, ← byteN_cast h.2.1, ← byteN_cast h.2.1] at e
  have := l2Low_any g p cap (byteN bs p 0) (byteN bs p 1) (byteN bs p 2) (byteN bs p 3) W (byteN_lt h.2.1 _ _) (byteN_lt h.2.1 _ _) (byteN_lt h.2.1 _ _) (byteN_lt h.2.1 _ _) (hc 0 (by omega)) (hc 1 (by omega)) (hc 2 (by omega)) (hc 3 (by omega))
  have e2 : ((byteN bs p 0 + byteN bs p 1 * 256 + byteN bs p 2 * 65536 + byteN bs p 3 * 16777216 : Nat) : Int) = (loW (laneB bs p) : Int) := by rw [e]; simp
  rwa [e2] at this

/-- A world that differs by draws alone. -/
def SameH (w W : World) : Prop := W.heap = w.heap ∧ Below w.heap.size w W

theorem SameH.drewN {w W : World} (h : SameH w W) (n : Nat) : SameH w (W.drewN n) := ⟨by rw [← h.1]; induction n with
  | zero => rfl
  | succ n ih => exact ih, below_drewN h.2 n⟩

theorem SameH.cell {w W : World} (h : SameH w W) (p : Addr) : W.cell? p = w.cell? p := by
  unfold World.cell?
  rw [h.1]

theorem SameH.frozen {w W : World} (h : SameH w W) (p : Addr) : W.frozen? p = w.frozen? p := by
  unfold World.frozen?
  rw [h.1]

theorem BRow.heap {w w' : World} {m L : Nat} {bs : List Int} (h : BRow w (some ⟨m, 0, none⟩) L bs) (e : w'.heap[m]? = w.heap[m]?) : BRow w' (some ⟨m, 0, none⟩) L bs := by
  refine ⟨h.1, h.2.1, h.2.2.1, fun x hx i hi => ?_⟩
  cases hx
  have := h.2.2.2 _ rfl i hi
  rw [add_none] at this ⊢
  rw [← this]
  unfold World.cell?
  simp only [e]

theorem lblk_store2 {w : World} {b : Nat} {L : List Int} {Z : List Nat} (h : Blk w b L 136) (hl : L.length = 50) (hz : Z.length = 25) :
    ∃ w', (Instr.storeAt 136 (.pointer (some ⟨b, 0, none⟩)) (.agg ((wordsL Z).map (Value.int .i64)).toArray)).run Tryz.prog w = .ok () w' ∧ LBlk w' b Z 136 ∧ (∀ B w0, B ≤ b → Below B w0 w → Below B w0 w') ∧ (∀ c, c ≠ b → w'.heap[c]? = w.heap[c]?) ∧ w'.heap.size = w.heap.size := by
  have hl2 : (wordsL Z).length = 50 := by rw [wordsL_length, hz]
  refine ⟨w.setCells b 0 ((wordsL Z).map (Value.int .i64)), ?_, ?_, fun B w0 hB hb => below_setCells _ hB _ _ _ hb, fun c hc => ?_, ?_⟩
  · exact run_storeAt_mid (P := Tryz.prog) w b 0 136 ((wordsL Z).map (Value.int .i64)).toArray (there_blk h _ (by simp [hl, hl2])) (by rw [List.size_toArray, List.length_map, hl2]; kernel_rfl) (all_int _)
  · exact h.store (by rw [hl, hl2])
  · have : ∀ (vs : List Value) (o : Nat) (W : World), (W.setCells b o vs).heap[c]? = W.heap[c]? := by
      intro vs
      induction vs with
      | nil => intro o W; rfl
      | cons v r ih => intro o W; exact (ih (o + 1) _).trans (heap_setCell_other W ⟨b, o, none⟩ c v hc)
    exact this _ _ _
  · have : ∀ (vs : List Value) (o : Nat) (W : World), (W.setCells b o vs).heap.size = W.heap.size := by
      intro vs
      induction vs with
      | nil => intro o W; rfl
      | cons v r ih => intro o W; exact (ih (o + 1) _).trans (by simp)
    exact this _ _ _

set_option maxRecDepth 100000 in
set_option maxHeartbeats 2400000 in
theorem l2Keccak_any (a : Option Addr) (n cap : Nat) (zs : List Int) (w : World) (h : BRow w a n zs) (hcap : a = none → cap = 0) (hn : n ≤ 1200) :
    Calls Tryz.prog 81 #[.slice a n cap] w fun e w' => ∃ d c', e = .returned (.slice (some ⟨d, 0, none⟩) 32 c') ∧
      w'.ownsRow w.heap.size 5 1 (.slice (some ⟨d, 0, none⟩) 32 c') 32 ((hashOf (spAt (padB zs) (padLen n / 136))).map (Value.int .u8)) ∧ Below w.heap.size w w' := by
  have hzl := h.1
  have hp := padLen_lt n
  have HRG := hide (padB_range zs h.2.1)
  have HPD := hide (fun (W : World) (hW : Below w.heap.size w W) => l2Pad_any a n cap zs W (h.below hW (Nat.le_refl _)) hcap hn)
  have HSL := hide (spAt_lanes (unhide HRG))
  have HSS := hide (fun k => show spAt (padB zs) (k + 1) = mixAt (soakAt (spAt (padB zs) k) (padB zs) (136 * k) 17) 24 from rfl)
  have HS0 := hide (show spAt (padB zs) 0 = List.replicate 25 0 from rfl)
  generalize padB zs = PB at HRG HPD HSL HSS HS0 ⊢
  generalize padLen n = L at hp HPD ⊢
  obtain ⟨N, hN⟩ : ∃ N, L = 136 * N := ⟨L / 136, by omega⟩
  have hN2 : L / 136 = N := by omega
  rw [hN2]
  have hLs : L ≤ 1400 := by omega
  have HN := hide hN
  clear hN2 hN h hcap
  go_enter Tryz.func81, Tryz.ntmps81
  go_upto_region 1 with fail
  have N9 : Blk (w.alloc (.cells #[.int .i64 0, .int .i64 0, .int .i64 0, .int .i64 0, .int .i64 0, .int .i64 0, .int .i64 0, .int .i64 0, .int .i64 0, .int .i64 0, .int .i64 0, .int .i64 0, .int .i64 0, .int .i64 0, .int .i64 0, .int .i64 0, .int .i64 0, .int .i64 0, .int .i64 0, .int .i64 0, .int .i64 0, .int .i64 0, .int .i64 0, .int .i64 0, .int .i64 0, .int .i64 0, .int .i64 0, .int .i64 0, .int .i64 0, .int .i64 0, .int .i64 0, .int .i64 0, .int .i64 0, .int .i64 0, .int .i64 0, .int .i64 0, .int .i64 0, .int .i64 0, .int .i64 0, .int .i64 0, .int .i64 0, .int .i64 0, .int .i64 0, .int .i64 0, .int .i64 0, .int .i64 0, .int .i64 0, .int .i64 0, .int .i64 0, .int .i64 0] 136)) w.heap.size (List.replicate 50 (0 : Int)) 136 := Blk.new w (List.replicate 50 (0 : Int)) 136
  obtain ⟨w2, hw2⟩ : ∃ w2, w2 = (w.alloc (.cells #[.int .i64 0, .int .i64 0, .int .i64 0, .int .i64 0, .int .i64 0, .int .i64 0, .int .i64 0, .int .i64 0, .int .i64 0, .int .i64 0, .int .i64 0, .int .i64 0, .int .i64 0, .int .i64 0, .int .i64 0, .int .i64 0, .int .i64 0, .int .i64 0, .int .i64 0, .int .i64 0, .int .i64 0, .int .i64 0, .int .i64 0, .int .i64 0, .int .i64 0, .int .i64 0, .int .i64 0, .int .i64 0, .int .i64 0, .int .i64 0, .int .i64 0, .int .i64 0, .int .i64 0, .int .i64 0, .int .i64 0, .int .i64 0, .int .i64 0, .int .i64 0, .int .i64 0, .int .i64 0, .int .i64 0, .int .i64 0, .int .i64 0, .int .i64 0, .int .i64 0, .int .i64 0, .int .i64 0, .int .i64 0, .int .i64 0, .int .i64 0] 136)).setCells w.heap.size 0 ((List.replicate 50 (0 : Int)).map (Value.int .i64)) := ⟨_, rfl⟩
  have HST : Hid ((Instr.storeAt 136 (.pointer (some ⟨w.heap.size, 0, none⟩)) (.agg #[.int .i64 0, .int .i64 0, .int .i64 0, .int .i64 0, .int .i64 0, .int .i64 0, .int .i64 0, .int .i64 0, .int .i64 0, .int .i64 0, .int .i64 0, .int .i64 0, .int .i64 0, .int .i64 0, .int .i64 0, .int .i64 0, .int .i64 0, .int .i64 0, .int .i64 0, .int .i64 0, .int .i64 0, .int .i64 0, .int .i64 0, .int .i64 0, .int .i64 0, .int .i64 0, .int .i64 0, .int .i64 0, .int .i64 0, .int .i64 0, .int .i64 0, .int .i64 0, .int .i64 0, .int .i64 0, .int .i64 0, .int .i64 0, .int .i64 0, .int .i64 0, .int .i64 0, .int .i64 0, .int .i64 0, .int .i64 0, .int .i64 0, .int .i64 0, .int .i64 0, .int .i64 0, .int .i64 0, .int .i64 0, .int .i64 0, .int .i64 0])).run Tryz.prog (w.alloc (.cells #[.int .i64 0, .int .i64 0, .int .i64 0, .int .i64 0, .int .i64 0, .int .i64 0, .int .i64 0, .int .i64 0, .int .i64 0, .int .i64 0, .int .i64 0, .int .i64 0, .int .i64 0, .int .i64 0, .int .i64 0, .int .i64 0, .int .i64 0, .int .i64 0, .int .i64 0, .int .i64 0, .int .i64 0, .int .i64 0, .int .i64 0, .int .i64 0, .int .i64 0, .int .i64 0, .int .i64 0, .int .i64 0, .int .i64 0, .int .i64 0, .int .i64 0, .int .i64 0, .int .i64 0, .int .i64 0, .int .i64 0, .int .i64 0, .int .i64 0, .int .i64 0, .int .i64 0, .int .i64 0, .int .i64 0, .int .i64 0, .int .i64 0, .int .i64 0, .int .i64 0, .int .i64 0, .int .i64 0, .int .i64 0, .int .i64 0, .int .i64 0] 136)) = .ok () w2) := by
    have := run_storeAt_mid (P := Tryz.prog) (w.alloc (.cells #[.int .i64 0, .int .i64 0, .int .i64 0, .int .i64 0, .int .i64 0, .int .i64 0, .int .i64 0, .int .i64 0, .int .i64 0, .int .i64 0, .int .i64 0, .int .i64 0, .int .i64 0, .int .i64 0, .int .i64 0, .int .i64 0, .int .i64 0, .int .i64 0, .int .i64 0, .int .i64 0, .int .i64 0, .int .i64 0, .int .i64 0, .int .i64 0, .int .i64 0, .int .i64 0, .int .i64 0, .int .i64 0, .int .i64 0, .int .i64 0, .int .i64 0, .int .i64 0, .int .i64 0, .int .i64 0, .int .i64 0, .int .i64 0, .int .i64 0, .int .i64 0, .int .i64 0, .int .i64 0, .int .i64 0, .int .i64 0, .int .i64 0, .int .i64 0, .int .i64 0, .int .i64 0, .int .i64 0, .int .i64 0, .int .i64 0, .int .i64 0] 136)) w.heap.size 0 136 ((List.replicate 50 (0 : Int)).map (Value.int .i64)).toArray (there_blk N9 _ rfl) (by kernel_rfl) (all_int _)
    rw [hw2]
    exact this
  have K2 : Below w.heap.size w w2 := by rw [hw2]; exact below_setCells _ (Nat.le_refl _) _ _ _ (below_alloc w _)
  have S2 : LBlk w2 w.heap.size (List.replicate 25 0) 136 := by
    unfold LBlk
    rw [wordsL_zero, hw2]; exact N9.store rfl
  rw [← unhide HS0] at S2
  have lS := Blk.lt S2
  have HS2 : Hid (LBlk w2 w.heap.size (spAt PB 0) 136) := S2
  have HK2 := hide K2
  clear N9 hw2 K2 S2
  go_upto_region 2 with (refine wpList_store_eq rfl 136 (.tmp 3) (.tmp 10) rfl _ _ rfl rfl w2 (unhide HST) ?_)
  clear HST
  generalize Value.agg #[.int .i64 0, .int .i64 0, .int .i64 0, .int .i64 0, .int .i64 0, .int .i64 0, .int .i64 0, .int .i64 0, .int .i64 0, .int .i64 0, .int .i64 0, .int .i64 0, .int .i64 0, .int .i64 0, .int .i64 0, .int .i64 0, .int .i64 0, .int .i64 0, .int .i64 0, .int .i64 0, .int .i64 0, .int .i64 0, .int .i64 0, .int .i64 0, .int .i64 0, .int .i64 0, .int .i64 0, .int .i64 0, .int .i64 0, .int .i64 0, .int .i64 0, .int .i64 0, .int .i64 0, .int .i64 0, .int .i64 0, .int .i64 0, .int .i64 0, .int .i64 0, .int .i64 0, .int .i64 0, .int .i64 0, .int .i64 0, .int .i64 0, .int .i64 0, .int .i64 0, .int .i64 0, .int .i64 0, .int .i64 0, .int .i64 0, .int .i64 0] = z50
  go_wp2_with fail
  refine ((unhide HPD) w2 (unhide HK2)).mono ?_
  rintro e w3 ⟨m, c, rfl, o3, b3⟩
  have hLc : L ≤ c := by
    rcases o3.2 with ⟨e, _⟩ | ⟨_, _, _, e, _, _, h1, _⟩
    · cases e
    · cases e; exact h1
  have HR3 := hide (BRow.own o3 (unhide HRG))
  have HS3 : Hid (LBlk w3 w.heap.size (spAt PB 0) 136) := Blk.below (unhide HS2) b3 lS
  have HK3 := hide ((unhide HK2).trans (b3.mono (unhide HK2).size))
  have hmg : w.heap.size < m := Nat.lt_of_lt_of_le lS (o3.lt m rfl).1
  have hm3 : m < w3.heap.size := (o3.lt m rfl).2
  have HP : Hid (∀ i, i < L → w3.cell? ⟨m, i, none⟩ = some (.int .u8 (PB.getD i 0))) := fun i hi => by
    have := (unhide HR3).2.2.2 _ rfl i hi
    rwa [add_none, Nat.zero_add] at this
  clear o3 b3 HS2 HK2 HPD
  go_upto_block 0 with fail
  generalize hg : w.heap.size = g at HS3 lS hmg ⊢
  have HG := hide hg
  clear hg HP
  go_cut [5] (fun i wr => i = .int .i64 L ∧ LBlk wr g (spAt PB N) 136 ∧ Below g w wr)
  case first =>
    go_wp2_with fail
    go_loopw [5] (fun i wr => ∃ k : Nat, k ≤ N ∧ i = .int .i64 ((136 * k : Nat) : Int) ∧ LBlk wr g (spAt PB k) 136 ∧ BRow wr (some ⟨m, 0, none⟩) L PB ∧ m < wr.heap.size ∧ Below g w wr) (fun i _ => 136 * N - (intOf i).toNat)
    case atStart => exact ⟨0, by omega, rfl, unhide HS3, unhide HR3, hm3, by rw [← unhide HG]; exact unhide HK3⟩
    case round =>
      obtain ⟨k, hk, rfl, hS, hR, hm, hB⟩ := hrel
      clear HS3 HR3 HK3 hm3
      obtain ⟨t, ht⟩ : ∃ t, t = 136 * k := ⟨_, rfl⟩
      rw [← ht]
      have hN := unhide HN
      by_cases hlt : k < N
      · have hdk : decide ((t : Int) < (L : Int)) = true := decide_eq_true (by omega)
        have hdk2 : decide (t < L) = true := decide_eq_true (by omega)
        have htL : t + 136 ≤ L := by omega
        have HKN := hide (show 136 * N - 136 * (k + 1) < 136 * N - t by omega)
        have HTT := hide (show t + 136 = 136 * (k + 1) by omega)
        have hs2 := (unhide HSS) k
        rw [← ht] at hs2
        have HS2 := hide hs2
        have HSL1 := hide ((unhide HSL) k)
        clear hN hs2 ht
        generalize spAt PB k = S at hS HS2 HSL1
        have HSA := hide (soakAt_lanes (unhide HSL1) (unhide HRG) t)
        have HSI := hide (fun i => show soakAt S PB t (i + 1) = (soakAt S PB t i).set i ((soakAt S PB t i).getD i 0 ^^^ laneB PB (t + i * 8)) from rfl)
        have HSZ := hide (show soakAt S PB t 0 = S from rfl)
        generalize soakAt S PB t = SA at HS2 HSA HSI HSZ
        rw [← unhide HSZ] at hS
        have HS4 : Hid (LBlk wr g (SA 0) 136) := hS
        have HR4 := hide hR
        have HB4 := hide hB
        clear hS hR hB HSL1
        go_upto_block 2 with fail
        go_cut [6] (fun i wi => i = .int .i64 17 ∧ LBlk wi g (SA 17) 136 ∧ BRow wi (some ⟨m, 0, none⟩) L PB ∧ m < wi.heap.size ∧ Below g w wi)
        case first =>
          go_wp2_with fail
          go_loopw [6] (fun i wi => ∃ q : Nat, q ≤ 17 ∧ i = .int .i64 q ∧ LBlk wi g (SA q) 136 ∧ BRow wi (some ⟨m, 0, none⟩) L PB ∧ m < wi.heap.size ∧ Below g w wi) (fun i _ => 17 - (intOf i).toNat)
          case atStart => exact ⟨0, by omega, rfl, unhide HS4, unhide HR4, hm, unhide HB4⟩
          case round =>
            clear HS4 HR4 HB4
            obtain ⟨q, hq, rfl, hS, hR, hm, hB⟩ := hrel
            by_cases hlq : q < 17
            · have hdq : decide ((q : Int) < 17) = true := decide_eq_true (by omega)
              obtain ⟨s, hs⟩ : ∃ s, s = q * 8 := ⟨_, rfl⟩
              obtain ⟨p, hp⟩ : ∃ p, p = t + s := ⟨_, rfl⟩
              obtain ⟨p4, hp4⟩ : ∃ p4, p4 = p + 4 := ⟨_, rfl⟩
              obtain ⟨p8, hp8⟩ : ∃ p8, p8 = p + 8 := ⟨_, rfl⟩
              have hsl := (unhide HSA) q
              have hsi := (unhide HSI) q
              rw [← hs, ← hp] at hsi
              have hl64 := laneB_lt (unhide HRG) p
              have HHI : Hid (∀ (cp : Nat) (W : World), SameH wr W → Calls Tryz.prog 102 #[.slice (some ⟨m, p4, none⟩) 4 cp] W fun e w' => e = .returned (.int .i64 (hiW (laneB PB p) : Int)) ∧ SameH wr w') := fun cp W hW => by
                rw [hp4]
                refine (low_hi (hR.heap (by rw [hW.1])) p cp (by omega)).mono ?_
                rintro e w' ⟨rfl, n, rfl⟩
                exact ⟨rfl, hW.drewN n⟩
              have HLO : Hid (∀ (cp : Nat) (W : World), SameH wr W → Calls Tryz.prog 102 #[.slice (some ⟨m, p, none⟩) 4 cp] W fun e w' => e = .returned (.int .i64 (loW (laneB PB p) : Int)) ∧ SameH wr w') := fun cp W hW => by
                refine (low_lo (hR.heap (by rw [hW.1])) p cp (by omega)).mono ?_
                rintro e w' ⟨rfl, n, rfl⟩
                exact ⟨rfl, hW.drewN n⟩
              have n0 := LBlk.hi hS q (by rw [hsl.1]; omega)
              have n1 := LBlk.lo hS q (by rw [hsl.1]; omega)
              have f0 := Blk.free hS (q * 2)
              have f1 := Blk.free hS (q * 2 + 1)
              have hz64 : (SA q).getD q 0 < 18446744073709551616 := getD_lt hsl.2 (by decide) _
              have HS5 : Hid (LBlk wr g (SA q) 136) := hS
              have HR5 := hide hR
              have HB5 := hide hB
              have hgs : g < wr.heap.size := by omega
              generalize laneB PB p = l at hsi hl64 HHI HLO
              generalize (SA q).getD q 0 = z at hsi n0 n1 hz64
              have HX := hide (l2Xor_lane z l hz64 hl64)
              have HSI2 := hide hsi
              have m0 : 8 * (q : Int) = (s : Int) := by omega
              have m1 : (t : Int) + (s : Int) = (p : Int) := by omega
              have m2 : (p : Int) + 4 = (p4 : Int) := by omega
              have m3 : (p : Int) + 8 = (p8 : Int) := by omega
              have y0 : IntKind.i64.wrap (s : Int) = (s : Int) := i64_fits _ (by omega) (by omega)
              have y1 : IntKind.i64.wrap (p : Int) = (p : Int) := i64_fits _ (by omega) (by omega)
              have y2 : IntKind.i64.wrap (p4 : Int) = (p4 : Int) := i64_fits _ (by omega) (by omega)
              have y3 : IntKind.i64.wrap (p8 : Int) = (p8 : Int) := i64_fits _ (by omega) (by omega)
              have j0 : (0 : Int) ≤ (p : Int) := by omega
              have j1 : (0 : Int) ≤ (p4 : Int) := by omega
              have j2 : (p : Int) ≤ (p4 : Int) := by omega
              have j3 : (p4 : Int) ≤ (p8 : Int) := by omega
              have j4 : (p4 : Int) ≤ (c : Int) := by omega
              have j5 : (p8 : Int) ≤ (c : Int) := by omega
              have j6 : p ≤ p4 := by omega
              have j7 : p4 ≤ p8 := by omega
              have j8 : p4 ≤ c := by omega
              have j9 : p8 ≤ c := by omega
              have k0 : p4 - p = 4 := by omega
              have k1 : p8 - p4 = 4 := by omega
              have k2 : ¬ (c = p) := by omega
              have k3 : ¬ (c = p4) := by omega
              have ik1 : (0 : Int) ≤ (q : Int) := by omega
              have ik2 : (q : Int) < 25 := by omega
              have D : g ≠ m := by omega
              clear hS hR hB hsl hsi hs hp hp4 hp8
              go_upto_region 10 with fail
              go_region_with (first
                | (go_at_call_of 102 p4; refine ((unhide HHI) _ _ (by first | assumption | exact ⟨rfl, (Below.refl _ _).drew⟩)).mono ?_; rintro e w6 ⟨rfl, hw6⟩; have a0 := (hw6.cell ⟨g, q * 2, none⟩).trans n0; have a1 := (hw6.cell ⟨g, q * 2 + 1, none⟩).trans n1; have a2 := (hw6.frozen ⟨g, q * 2, none⟩).trans f0; have a3 := (hw6.frozen ⟨g, q * 2 + 1, none⟩).trans f1)
                | (go_at_call 102; refine ((unhide HLO) _ _ (by first | assumption | exact ⟨rfl, (Below.refl _ _).drew⟩)).mono ?_; rintro e w6 ⟨rfl, hw6⟩; have a0 := (hw6.cell ⟨g, q * 2, none⟩).trans n0; have a1 := (hw6.cell ⟨g, q * 2 + 1, none⟩).trans n1; have a2 := (hw6.frozen ⟨g, q * 2, none⟩).trans f0; have a3 := (hw6.frozen ⟨g, q * 2 + 1, none⟩).trans f1)
                | (go_at_call 101; refine ((unhide HX) _).mono ?_; rintro e w8 ⟨rfl, b8⟩; have K8 : Below wr.heap.size wr w8 := hw6.2.trans (b8.mono hw6.2.size); have u0 := (K8.cell (p := ⟨g, q * 2, none⟩) (by exact hgs)).trans n0; have u1 := (K8.cell (p := ⟨g, q * 2 + 1, none⟩) (by exact hgs)).trans n1; have v0 := (K8.frozen (p := ⟨g, q * 2, none⟩) (by exact hgs)).trans f0; have v1 := (K8.frozen (p := ⟨g, q * 2 + 1, none⟩) (by exact hgs)).trans f1))
              all_goals
                have HS7 : Hid (LBlk ((w8.setCell ⟨g, q * 2, none⟩ (.int .i64 (hiW (z ^^^ l) : Int))).setCell ⟨g, q * 2 + 1, none⟩ (.int .i64 (loW (z ^^^ l) : Int))) g (SA (q + 1)) 136) := by
                  show LBlk _ _ _ _
                  rw [unhide HSI2]
                  exact LBlk.set (Blk.below (unhide HS5) K8 hgs) q (z ^^^ l)
                have HR7 : Hid (BRow ((w8.setCell ⟨g, q * 2, none⟩ (.int .i64 (hiW (z ^^^ l) : Int))).setCell ⟨g, q * 2 + 1, none⟩ (.int .i64 (loW (z ^^^ l) : Int))) (some ⟨m, 0, none⟩) L PB) := by
                  refine (unhide HR5).heap ?_
                  rw [heap_setCell_other _ ⟨g, q * 2 + 1, none⟩ m _ (fun e => D e.symm), heap_setCell_other _ ⟨g, q * 2, none⟩ m _ (fun e => D e.symm), K8.block m hm]
                have HB7 := hide ((((unhide HB5).trans (K8.mono (by omega))).setCell (p := ⟨g, q * 2, none⟩) (Nat.le_refl _) (.int .i64 (hiW (z ^^^ l) : Int))).setCell (p := ⟨g, q * 2 + 1, none⟩) (Nat.le_refl _) (.int .i64 (loW (z ^^^ l) : Int)))
                have hm8 : m < w8.heap.size := Nat.lt_of_lt_of_le hm K8.size
                clear u0 u1 v0 v1 n0 n1 f0 f1
                go_wp2_with fail
                go_roundw
                case rel => exact ⟨q + 1, by omega, by go_num, unhide HS7, unhide HR7, by simpa using hm8, unhide HB7⟩
                case measure => simp [intOf]; omega
            · obtain rfl : q = 17 := by omega
              have hdq : decide (((17 : Nat) : Int) < 17) = false := rfl
              have HS5 : Hid (LBlk wr g (SA 17) 136) := hS
              have HR5 := hide hR
              clear hS hR
              go_wp2_with fail
              go_meet
              exact ⟨rfl, unhide HS5, unhide HR5, hm, hB⟩
        case rest =>
          clear HS4 HR4 HB4
          obtain ⟨rfl, hS, hR, hm5, hB⟩ := hcut
          have hsl := (unhide HSA) 17
          have HLD := hide (lblk_load hS hsl.1)
          have HMX := hide (l2Mix_any (SA 17) hsl wc)
          have hml := mixAt_lanes hsl 24
          rw [← unhide HS2] at hml HMX
          have hwl : (wordsL (SA 17)).length = 50 := by rw [wordsL_length, hsl.1]
          generalize hM : spAt PB (k + 1) = M at hml HMX
          have HM := hide hM
          have HS5 : Hid (LBlk wc g (SA 17) 136) := hS
          have HR5 := hide hR
          have HB5 := hide hB
          have mlen := hml.1
          clear hM hS hR hB hsl hml
          go_wp2_with (refine wpList_load_eq rfl 136 (.tmp 3) rfl _ _ rfl (unhide HLD) ?_)
          refine (unhide HMX).mono ?_
          rintro e w4 ⟨rfl, b4⟩
          obtain ⟨w5, st5, S6, hbel5, hoth5, hsz5⟩ := lblk_store2 (Z := M) (Blk.below (unhide HS5) b4 (by omega)) hwl mlen
          have HST5 := hide st5
          have HS6 : Hid (LBlk w5 g M 136) := S6
          have HR6 := hide ((unhide HR5).heap ((hoth5 m (by omega)).trans (b4.block m hm5)))
          have HB6 := hide (hbel5 g w (Nat.le_refl _) ((unhide HB5).trans (b4.mono (by omega))))
          have hm6 : m < w5.heap.size := by rw [hsz5]; exact Nat.lt_of_lt_of_le hm5 b4.size
          obtain ⟨t2, ht2⟩ : ∃ t2, t2 = t + 136 := ⟨_, rfl⟩
          have m0 : (t : Int) + 136 = (t2 : Int) := by omega
          have y0 : IntKind.i64.wrap (t2 : Int) = (t2 : Int) := i64_fits _ (by omega) (by omega)
          have HT2 := hide ht2
          generalize Value.agg ((wordsL M).map (Value.int .i64)).toArray = vagg at HST5 ⊢
          clear st5 S6 hbel5 hoth5 hsz5 b4 HLD HMX ht2
          go_wp2_with (refine wpList_store_eq rfl 136 (.tmp 3) (.tmp 48) rfl _ _ rfl rfl w5 (unhide HST5) ?_)
          go_roundw
          case rel => exact ⟨k + 1, by omega, by rw [← unhide HTT, unhide HT2], by rw [unhide HM]; exact unhide HS6, unhide HR6, hm6, unhide HB6⟩
          case measure => simp [intOf]; have := unhide HKN; have := unhide HTT; have := unhide HT2; omega
      · obtain rfl : k = N := by omega
        have hdk : decide ((t : Int) < (L : Int)) = false := decide_eq_false (by omega)
        have htL : t = L := by omega
        have HS5 : Hid (LBlk wr g (spAt PB k) 136) := hS
        clear hS hN
        go_wp2_with fail
        go_meet
        exact ⟨by rw [htL], unhide HS5, hB⟩
  case rest =>
    obtain ⟨rfl, hS, hB⟩ := hcut
    clear HS3 HR3 HK3
    have hZL := (unhide HSL) N
    have HHH := hide (hash_hsh (spAt PB N) hZL)
    obtain ⟨Z, hZ⟩ : ∃ Z, Z = spAt PB N := ⟨_, rfl⟩
    rw [← hZ] at hS hZL
    have HHZ : Hid (hashOf (spAt PB N) = hsh Z 4) := by rw [hZ]; exact unhide HHH
    clear hZ HHH
    obtain ⟨i0, hi, hz0, hz1, hz2⟩ := info_parts info5
    have hgB : g < wc.heap.size := Blk.lt hS
    have HS6 : Hid (LBlk wc g Z 136) := hS
    have HB6 := hide hB
    have HL6 := hide hZL
    clear hS hB hZL HN HSS HSL
    obtain ⟨B, hBs⟩ : ∃ B, wc.heap.size = B := ⟨_, rfl⟩
    have o0 : (wc.alloc (.cells #[] 5)).ownsRow wc.heap.size 5 1 (.slice (some ⟨wc.heap.size, 0, none⟩) 0 0) 0 [] := World.ownsRow_lit wc #[] 0 (Nat.le_refl _) (by unfold maxLen; omega) rfl
    have HI6 : Hid (LBlk (wc.alloc (.cells #[] 5)) g Z 136 ∧ Below g w (wc.alloc (.cells #[] 5)) ∧ B ≤ (wc.alloc (.cells #[] 5)).heap.size ∧ (wc.alloc (.cells #[] 5)).ownsRow B 5 1 (.slice (some ⟨wc.heap.size, 0, none⟩) 0 0) 0 []) := ⟨Blk.below (unhide HS6) (below_alloc wc _) hgB, (unhide HB6).alloc (by omega) _, by simp; omega, by rw [← hBs]; exact o0⟩
    rw [hBs] at hgB
    have HBS := hide hBs
    clear o0 hBs HS6 HB6
    go_wp2_with fail
    go_loopw [8, 9] (fun s i wr => ∃ (k : Nat) (a' : Option Addr) (cp : Nat), k ≤ 4 ∧ i = .int .i64 k ∧ s = .slice a' (8 * k) cp ∧ LBlk wr g Z 136 ∧ Below g w wr ∧ B ≤ wr.heap.size ∧ wr.ownsRow B 5 1 (.slice a' (8 * k) cp) (8 * k) ((hsh Z k).map (Value.int .u8))) (fun _ i _ => 4 - (intOf i).toNat)
    case atStart => exact ⟨0, _, 0, by omega, rfl, rfl, unhide HI6⟩
    case round =>
      obtain ⟨k, a', cp, hk, rfl, rfl, hS, hB, hBr, hown⟩ := hrel
      clear HI6
      by_cases hlt : k < 4
      · have hdk : decide ((k : Int) < 4) = true := decide_eq_true (by omega)
        have zl := (unhide HL6).1
        have n0 := LBlk.hi hS k (by omega)
        have n1 := LBlk.lo hS k (by omega)
        have hhi := hi_lt (Z.getD k 0) (getD_lt (unhide HL6).2 (by decide) k)
        have hlo := lo_lt (Z.getD k 0)
        have HHS := hide (show hsh Z (k + 1) = hsh Z k ++ wordBytes (loW (Z.getD k 0)) ++ wordBytes (hiW (Z.getD k 0)) from rfl)
        have I : Inv w wr g B 136 Z (.slice a' (8 * k) cp) (8 * k) (hsh Z k) (loW (Z.getD k 0)) (hiW (Z.getD k 0)) none none := ⟨hS, hB, hBr, hgB, hown, fun b e => (by cases e), fun b e => (by cases e)⟩
        have I := I.drew
        generalize hsh Z k = H at I HHS
        have NI : Hid (∀ (W : World) (v : Value) (n : Nat) (L : List Int) (lo hi : Nat) (oA oB : Option Nat), Inv w W g B 136 Z v n L lo hi oA oB → W.cell? ⟨g, k * 2, none⟩ = some (.int .i64 (hiW (Z.getD k 0) : Int)) ∧ W.cell? ⟨g, k * 2 + 1, none⟩ = some (.int .i64 (loW (Z.getD k 0) : Int))) := fun W v n L lo hi oA oB h => ⟨LBlk.hi h.1 k (by omega), LBlk.lo h.1 k (by omega)⟩
        generalize loW (Z.getD k 0) = lo at n1 hlo HHS I NI
        generalize hiW (Z.getD k 0) = hiw at n0 hhi HHS I NI
        have ik1 : (0 : Int) ≤ (k : Int) := by omega
        have ik2 : (k : Int) < 25 := by omega
        have N8 := hide (show (8 * k + 4) + 4 = 8 * (k + 1) by omega)
        clear hS hB hown
        go_upto_region 16 with fail
        go_region_law (first
          | (go_simp; go_at_call_of 104 lo; refine (byt_any lo hlo _).mono ?_; rintro e W1 ⟨bA, rfl, eA, cA, kA, sA⟩; have I := Inv.callA I eA cA kA sA; clear eA cA kA sA; obtain ⟨m0, m1⟩ := (unhide NI) _ _ _ _ _ _ _ _ I)
          | (go_simp; go_at_call_of 104 hiw; refine (byt_any hiw hhi _).mono ?_; rintro e W1 ⟨bB, rfl, eB, cB, kB, sB⟩; have I := Inv.callB I eB cB kB sB; clear eB cB kB sB; obtain ⟨m0, m1⟩ := (unhide NI) _ _ _ _ _ _ _ _ I)
          | (refine step_append_lies _ (by rfl) (.tmp 54) (.tmp 59) 60 (by rfl) B 5 i0 (.int .u8 0) 1 1 Tryz.underlying60 hi hz0 hz1 hz2 rfl (by decide) _ _ _ (by rfl) (by exact I.2.2.2.2.1) ⟨bA, 0, none⟩ 4 4 ((wordBytes lo).map (Value.int .u8)) (by rfl) rfl (by exact Inv.newsA I) (by simp [Value.oneCell', wordBytes]) (by omega) (by unfold maxLen; omega) (by omega) (by exact I.2.2.1) _ rfl ?_; intro g2 cap2 W2 hown2 hgrow2 hat2 hlt2; have I := Inv.app (N := wordBytes lo) I hown2 hgrow2 hat2; clear hown2 hgrow2 hat2 hlt2; obtain ⟨m0, m1⟩ := (unhide NI) _ _ _ _ _ _ _ _ I)
          | (refine step_append_lies _ (by rfl) (.tmp 60) (.tmp 65) 60 (by rfl) B 5 i0 (.int .u8 0) 1 1 Tryz.underlying60 hi hz0 hz1 hz2 rfl (by decide) _ _ _ (by rfl) (by exact I.2.2.2.2.1) ⟨bB, 0, none⟩ 4 4 ((wordBytes hiw).map (Value.int .u8)) (by rfl) rfl (by exact Inv.newsB I) (by simp [Value.oneCell', wordBytes]) (by omega) (by unfold maxLen; omega) (by omega) (by exact I.2.2.1) _ rfl ?_; intro g3 cap3 W3 hown3 hgrow3 hat3 hlt3; have I := Inv.app (N := wordBytes hiw) I hown3 hgrow3 hat3; clear hown3 hgrow3 hat3 hlt3))
        all_goals
          have HI9 := hide I
          clear I m0 m1 n0 n1
          go_wp2_with fail
          go_roundw
          case rel => exact ⟨k + 1, some ⟨g3, 0, none⟩, cap3, by omega, by go_num, by rw [← unhide N8], (unhide HI9).1, (unhide HI9).2.1, (unhide HI9).2.2.1, by rw [unhide HHS, ← unhide N8]; exact (unhide HI9).2.2.2.2.1⟩
          case measure => simp [intOf]; omega
      · obtain rfl : k = 4 := by omega
        have hdk : decide (((4 : Nat) : Int) < 4) = false := rfl
        obtain ⟨d, c', he⟩ := own_some hown (by omega)
        cases he
        have HO := hide hown
        have HB := hide hB
        clear hS hB hown
        go_wp2_with fail
        go_ret
        refine ⟨d, cp, rfl, ?_, ?_⟩
        · rw [unhide HHZ]
          exact ownsRow_base (unhide HO) (by have := unhide HG; omega)
        · rw [unhide HG]
          exact unhide HB

end Go.Proofs.YtldiilmpmcbjkaaGreatDoor
