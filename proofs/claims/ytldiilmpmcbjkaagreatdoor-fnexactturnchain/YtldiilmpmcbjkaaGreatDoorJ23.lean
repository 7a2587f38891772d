/- What is proved here: the model's constants, and its mixing of a state by 24 rounds, told by its lanes. -/
import Derived.Test.YtldiilmpmcbjkaaGreatDoorJ22
import Derived.Test.YtldiilmpmcbjkaaGreatDoorJ12
import Derived.Test.YtldiilmpmcbjkaaGreatDoorJ21
import Derived.BigQuiet
import Derived.Deep.QuietTactic
import Derived.WalkSmall
import Derived.WalkSpells
import Derived.BigRegion
import Derived.Test.YtldiilmpmcbjkaaGreatDoorJ5
import Derived.Test.YtldiilmpmcbjkaaGreatDoorJ9
import Derived.Deep.AppendLies
namespace Go.Proofs.YtldiilmpmcbjkaaGreatDoor
open Go.RowKit
set_option linter.unusedVariables false
set_option maxRecDepth 100000
attribute [local go_sem ↓] Go.wp_at_zero Go.wp_at_succ

/-- The constants as words. -/
def consts : List Int := [0, 1, 0, 32898, 2147483648, 32906, 2147483648, 2147516416, 0, 32907, 0, 2147483649, 2147483648, 2147516545, 2147483648, 32777, 0, 138, 0, 136, 0, 2147516425, 0, 2147483658, 0, 2147516555, 2147483648, 139, 2147483648, 32905, 2147483648, 32771, 2147483648, 32770, 2147483648, 128, 0, 32778, 2147483648, 2147483658, 2147483648, 2147516545, 2147483648, 32896, 0, 2147483649, 2147483648, 2147516424]

theorem consts_eq : consts = wordsL rcs := by kernel_rfl

set_option maxRecDepth 100000 in
set_option maxHeartbeats 4000000 in
theorem consts_any (w : World) : Calls Tryz.prog 123 #[] w fun e w' => e = .returned (.agg (consts.map (Value.int .i64)).toArray) ∧ Below w.heap.size w w' := by
  obtain ⟨w1, hw1⟩ : ∃ w1, w1 = w.alloc (.cells ((List.replicate 48 (0 : Int)).map (Value.int .i64)).toArray 152) := ⟨_, rfl⟩
  have hb0 : Blk w1 w.heap.size (List.replicate 48 (0 : Int)) 152 := by
    rw [hw1]
    show (w.heap.push _)[w.heap.size]? = _
    simp
  have hbel : Below w.heap.size w w1 := by rw [hw1]; exact below_alloc w _
  obtain ⟨w2, hw2⟩ : ∃ w2, w2 = w1.setCells w.heap.size 0 (consts.map (Value.int .i64)) := ⟨_, rfl⟩
  have hb2 : Blk w2 w.heap.size consts 152 := by rw [hw2]; exact hb0.store rfl
  have hbel2 : Below w.heap.size w w2 := by rw [hw2]; exact below_setCells _ (Nat.le_refl _) _ _ _ hbel
  have hst : (Instr.storeAt 152 (.pointer (some ⟨w.heap.size, 0, none⟩)) (.agg (consts.map (Value.int .i64)).toArray)).run Tryz.prog w1 = .ok () w2 := by
    rw [run_storeAt_mid w1 w.heap.size 0 152 (consts.map (Value.int .i64)).toArray (there_blk hb0 _ rfl) (by kernel_rfl) (all_int consts), hw2]
  have hfold : w.alloc (.cells #[.int .i64 0, .int .i64 0, .int .i64 0, .int .i64 0, .int .i64 0, .int .i64 0, .int .i64 0, .int .i64 0, .int .i64 0, .int .i64 0, .int .i64 0, .int .i64 0, .int .i64 0, .int .i64 0, .int .i64 0, .int .i64 0, .int .i64 0, .int .i64 0, .int .i64 0, .int .i64 0, .int .i64 0, .int .i64 0, .int .i64 0, .int .i64 0, .int .i64 0, .int .i64 0, .int .i64 0, .int .i64 0, .int .i64 0, .int .i64 0, .int .i64 0, .int .i64 0, .int .i64 0, .int .i64 0, .int .i64 0, .int .i64 0, .int .i64 0, .int .i64 0, .int .i64 0, .int .i64 0, .int .i64 0, .int .i64 0, .int .i64 0, .int .i64 0, .int .i64 0, .int .i64 0, .int .i64 0, .int .i64 0] 152) = w1 := by rw [hw1]; rfl
  have HST := hide hst
  have HFO := hide hfold
  have HB2 := hide hb2
  have HBE := hide hbel2
  clear hst hfold hb2 hbel2 hb0 hbel hw2 hw1
  go_enter Tryz.func123, Tryz.ntmps123
  go_upto_region 1 with fail
  rw [unhide HFO]
  go_wp2_with (refine wpList_store_eq rfl 152 (.tmp 0) (.tmp 39) rfl _ _ rfl rfl w2 (unhide HST) ?_)
  exact bodyPost_ret (results_cell_row rfl _ _ w.heap.size 152 _ (0, 0) _ rfl (unhide HB2) Tryz.underlying152 rfl (by kernel_rfl)) rfl ⟨rfl, unhide HBE⟩

/-- A state loaded whole, and stored whole. -/
theorem lblk_load {w : World} {b : Nat} {Z : List Nat} (h : LBlk w b Z 136) (hz : Z.length = 25) : (Instr.loadAt 136 (.pointer (some ⟨b, 0, none⟩))).run Tryz.prog w = .ok (.agg ((wordsL Z).map (Value.int .i64)).toArray) w := by
  refine run_loadAt_mid (P := Tryz.prog) w b 0 136 ((wordsL Z).map (Value.int .i64)) _ (fun j v hj => ?_) Tryz.underlying136 rfl (by rw [List.length_map, wordsL_length, hz]; kernel_rfl)
  rw [Nat.zero_add, cell_of_row w b j _ _ _ h]
  simpa using hj

theorem lblk_store {w : World} {b : Nat} {L : List Int} {Z : List Nat} (h : Blk w b L 136) (hl : L.length = 50) (hz : Z.length = 25) :
    ∃ w', (Instr.storeAt 136 (.pointer (some ⟨b, 0, none⟩)) (.agg ((wordsL Z).map (Value.int .i64)).toArray)).run Tryz.prog w = .ok () w' ∧ LBlk w' b Z 136 ∧ (∀ B w0, B ≤ b → Below B w0 w → Below B w0 w') ∧ ∀ b' L' t', b' ≠ b → Blk w b' L' t' → Blk w' b' L' t' := by
  have hl2 : (wordsL Z).length = 50 := by rw [wordsL_length, hz]
  refine ⟨w.setCells b 0 ((wordsL Z).map (Value.int .i64)), ?_, ?_, fun B w0 hB hb => below_setCells _ hB _ _ _ hb, fun b' L' t' hne h' => ?_⟩
  · exact run_storeAt_mid (P := Tryz.prog) w b 0 136 ((wordsL Z).map (Value.int .i64)).toArray (there_blk h _ (by simp [hl, hl2])) (by rw [List.size_toArray, List.length_map, hl2]; kernel_rfl) (all_int _)
  · exact h.store (by rw [hl, hl2])
  · have : ∀ (vs : List Value) (o : Nat) (W : World), Blk W b' L' t' → Blk (W.setCells b o vs) b' L' t' := by
      intro vs
      induction vs with
      | nil => intro o W hW; exact hW
      | cons v r ih => intro o W hW; exact ih (o + 1) _ (hW.other o v hne)
    exact this _ 0 w h'

set_option maxRecDepth 100000 in
set_option maxHeartbeats 8000000 in
theorem l2Mix_any (Z : List Nat) (hZ : Lanes Z) (w : World) :
    Calls Tryz.prog 103 #[.agg ((wordsL Z).map (Value.int .i64)).toArray] w fun e w' => e = .returned (.agg ((wordsL (mixAt Z 24)).map (Value.int .i64)).toArray) ∧ Below w.heap.size w w' := by
  have HZ := hide hZ
  have hwl : (wordsL Z).length = 50 := by rw [wordsL_length, hZ.1]
  generalize hL : wordsL Z = L at hwl
  have HL := hide hL
  clear hL hZ
  go_enter Tryz.func103, Tryz.ntmps103
  go_upto_region 1 with fail
  obtain ⟨w1, hw1⟩ : ∃ w1, w1 = (w.alloc (.cells (L.map (Value.int .i64)).toArray 136)).alloc (.cells ((List.replicate 50 (0 : Int)).map (Value.int .i64)).toArray 136) := ⟨_, rfl⟩
  have e1 : (w.alloc (.cells (L.map (Value.int .i64)).toArray 136)).alloc (.cells #[.int .i64 0, .int .i64 0, .int .i64 0, .int .i64 0, .int .i64 0, .int .i64 0, .int .i64 0, .int .i64 0, .int .i64 0, .int .i64 0, .int .i64 0, .int .i64 0, .int .i64 0, .int .i64 0, .int .i64 0, .int .i64 0, .int .i64 0, .int .i64 0, .int .i64 0, .int .i64 0, .int .i64 0, .int .i64 0, .int .i64 0, .int .i64 0, .int .i64 0, .int .i64 0, .int .i64 0, .int .i64 0, .int .i64 0, .int .i64 0, .int .i64 0, .int .i64 0, .int .i64 0, .int .i64 0, .int .i64 0, .int .i64 0, .int .i64 0, .int .i64 0, .int .i64 0, .int .i64 0, .int .i64 0, .int .i64 0, .int .i64 0, .int .i64 0, .int .i64 0, .int .i64 0, .int .i64 0, .int .i64 0, .int .i64 0, .int .i64 0] 136) = w1 := by rw [hw1]; rfl
  rw [e1]
  have b1 : Below w.heap.size w w1 := by rw [hw1]; exact (below_alloc w _).alloc (by simp) _
  have S1 : LBlk w1 w.heap.size Z 136 := by
    rw [hw1]
    unfold LBlk
    rw [unhide HL]
    exact (Blk.new w L _).below (below_alloc _ _) (by simp)
  have R1 : Blk w1 (w.heap.size + 1) (List.replicate 50 (0 : Int)) 136 := by
    have := Blk.new (w.alloc (.cells (L.map (Value.int .i64)).toArray 136)) (List.replicate 50 (0 : Int)) 136
    rw [hw1]
    simpa using this
  clear e1 hw1 HL
  have HB1 := hide b1
  have HS1 : Hid (LBlk w1 w.heap.size Z 136) := S1
  have HR1 := hide R1
  clear b1 S1 R1
  go_wp2_with fail
  refine (consts_any w1).mono ?_
  rintro e w2 ⟨rfl, b2⟩
  have S2 : LBlk w2 w.heap.size Z 136 := (unhide HS1).below b2 (unhide HS1).lt
  have R2 := (unhide HR1).below b2 (unhide HR1).lt
  have B2 := (unhide HB1).trans (b2.mono (unhide HB1).size)
  have N2 : Blk (w2.alloc (.cells #[.int .i64 0, .int .i64 0, .int .i64 0, .int .i64 0, .int .i64 0, .int .i64 0, .int .i64 0, .int .i64 0, .int .i64 0, .int .i64 0, .int .i64 0, .int .i64 0, .int .i64 0, .int .i64 0, .int .i64 0, .int .i64 0, .int .i64 0, .int .i64 0, .int .i64 0, .int .i64 0, .int .i64 0, .int .i64 0, .int .i64 0, .int .i64 0, .int .i64 0, .int .i64 0, .int .i64 0, .int .i64 0, .int .i64 0, .int .i64 0, .int .i64 0, .int .i64 0, .int .i64 0, .int .i64 0, .int .i64 0, .int .i64 0, .int .i64 0, .int .i64 0, .int .i64 0, .int .i64 0, .int .i64 0, .int .i64 0, .int .i64 0, .int .i64 0, .int .i64 0, .int .i64 0, .int .i64 0, .int .i64 0] 152)) w2.heap.size (List.replicate 48 (0 : Int)) 152 := Blk.new w2 (List.replicate 48 (0 : Int)) 152
  have k3 := below_alloc w2 (.cells #[.int .i64 0, .int .i64 0, .int .i64 0, .int .i64 0, .int .i64 0, .int .i64 0, .int .i64 0, .int .i64 0, .int .i64 0, .int .i64 0, .int .i64 0, .int .i64 0, .int .i64 0, .int .i64 0, .int .i64 0, .int .i64 0, .int .i64 0, .int .i64 0, .int .i64 0, .int .i64 0, .int .i64 0, .int .i64 0, .int .i64 0, .int .i64 0, .int .i64 0, .int .i64 0, .int .i64 0, .int .i64 0, .int .i64 0, .int .i64 0, .int .i64 0, .int .i64 0, .int .i64 0, .int .i64 0, .int .i64 0, .int .i64 0, .int .i64 0, .int .i64 0, .int .i64 0, .int .i64 0, .int .i64 0, .int .i64 0, .int .i64 0, .int .i64 0, .int .i64 0, .int .i64 0, .int .i64 0, .int .i64 0] 152)
  obtain ⟨w3, hw3⟩ : ∃ w3, w3 = (w2.alloc (.cells #[.int .i64 0, .int .i64 0, .int .i64 0, .int .i64 0, .int .i64 0, .int .i64 0, .int .i64 0, .int .i64 0, .int .i64 0, .int .i64 0, .int .i64 0, .int .i64 0, .int .i64 0, .int .i64 0, .int .i64 0, .int .i64 0, .int .i64 0, .int .i64 0, .int .i64 0, .int .i64 0, .int .i64 0, .int .i64 0, .int .i64 0, .int .i64 0, .int .i64 0, .int .i64 0, .int .i64 0, .int .i64 0, .int .i64 0, .int .i64 0, .int .i64 0, .int .i64 0, .int .i64 0, .int .i64 0, .int .i64 0, .int .i64 0, .int .i64 0, .int .i64 0, .int .i64 0, .int .i64 0, .int .i64 0, .int .i64 0, .int .i64 0, .int .i64 0, .int .i64 0, .int .i64 0, .int .i64 0, .int .i64 0] 152)).setCells w2.heap.size 0 (consts.map (Value.int .i64)) := ⟨_, rfl⟩
  have HST : Hid ((Instr.storeAt 152 (.pointer (some ⟨w2.heap.size, 0, none⟩)) (.agg (consts.map (Value.int .i64)).toArray)).run Tryz.prog (w2.alloc (.cells #[.int .i64 0, .int .i64 0, .int .i64 0, .int .i64 0, .int .i64 0, .int .i64 0, .int .i64 0, .int .i64 0, .int .i64 0, .int .i64 0, .int .i64 0, .int .i64 0, .int .i64 0, .int .i64 0, .int .i64 0, .int .i64 0, .int .i64 0, .int .i64 0, .int .i64 0, .int .i64 0, .int .i64 0, .int .i64 0, .int .i64 0, .int .i64 0, .int .i64 0, .int .i64 0, .int .i64 0, .int .i64 0, .int .i64 0, .int .i64 0, .int .i64 0, .int .i64 0, .int .i64 0, .int .i64 0, .int .i64 0, .int .i64 0, .int .i64 0, .int .i64 0, .int .i64 0, .int .i64 0, .int .i64 0, .int .i64 0, .int .i64 0, .int .i64 0, .int .i64 0, .int .i64 0, .int .i64 0, .int .i64 0] 152)) = .ok () w3) := by
    show _ = _
    rw [run_storeAt_mid _ w2.heap.size 0 152 (consts.map (Value.int .i64)).toArray (there_blk N2 _ rfl) (by kernel_rfl) (all_int consts), hw3]
  have K3 : Below w2.heap.size w2 w3 := by rw [hw3]; exact below_setCells _ (Nat.le_refl _) _ _ _ k3
  have O3 : LBlk w3 w2.heap.size rcs 152 := by
    unfold LBlk
    rw [← consts_eq, hw3]; exact N2.store rfl
  have S3 : LBlk w3 w.heap.size Z 136 := Blk.below S2 K3 (Blk.lt S2)
  have R3 := R2.below K3 R2.lt
  have B3 := B2.trans (K3.mono B2.size)
  have D : w.heap.size + 1 < w2.heap.size := R2.lt
  have HS3 : Hid (LBlk w3 w.heap.size Z 136) := S3
  have HR3 := hide R3
  have HO3 : Hid (LBlk w3 w2.heap.size rcs 152) := O3
  have HB3 := hide B3
  have D3 : w2.heap.size < w3.heap.size := Blk.lt O3
  clear S2 R2 B2 N2 k3 K3 O3 S3 R3 B3 HS1 HR1 HB1 hw3 b2
  go_upto_block 0 with (refine wpList_store_eq rfl 152 (.tmp 3) (.tmp 5) rfl _ _ rfl rfl w3 (unhide HST) ?_)
  clear HST
  go_wp2_with fail
  go_loopw [4] (fun i wr => ∃ k : Nat, k ≤ 24 ∧ i = .int .i64 k ∧ LBlk wr w.heap.size (mixAt Z k) 136 ∧ Blk wr (w.heap.size + 1) (List.replicate 50 (0 : Int)) 136 ∧ LBlk wr w2.heap.size rcs 152 ∧ Below w.heap.size w wr)
    (fun i _ => 24 - (intOf i).toNat)
  case atStart => exact ⟨0, by omega, rfl, unhide HS3, unhide HR3, unhide HO3, unhide HB3⟩
  case round =>
    obtain ⟨k, hk, rfl, hS, hR, hO, hB⟩ := hrel
    clear HS3 HR3 HO3 HB3
    have hml := mixAt_lanes (unhide HZ) k
    by_cases hlt : k < 24
    · have HLD := hide (lblk_load hS hml.1)
      have HRD := hide (l2Round_any (mixAt Z k) hml wr)
      have hrl := roundF_lanes hml
      have hsuc := mixAt_succ Z k
      have HSUC := hide hsuc
      generalize mixAt Z k = M at HLD HRD hrl HSUC hS hml
      have HM := hide hrl
      have HMM := hide hml
      have HSS := hide hS
      have HRR := hide hR
      have HOO := hide hO
      have HBB := hide hB
      have hdk : decide ((k : Int) < 24) = true := decide_eq_true (by omega)
      clear hS hR hO hB hrl hml hsuc
      have hrf : (roundF M).length = 25 := (unhide HM).1
      go_wp2_with (refine wpList_load_eq rfl 136 (.tmp 1) rfl _ _ rfl (unhide HLD) ?_)
      refine (unhide HRD).mono ?_
      rintro e w4 ⟨rfl, b4⟩
      have S4 : LBlk w4 w.heap.size M 136 := Blk.below (unhide HSS) b4 (Blk.lt (unhide HSS))
      have R4 := (unhide HRR).below b4 (unhide HRR).lt
      have O4 : LBlk w4 w2.heap.size rcs 152 := Blk.below (unhide HOO) b4 (Blk.lt (unhide HOO))
      have B4 := (unhide HBB).trans (b4.mono (unhide HBB).size)
      obtain ⟨w5, st5, S5, hbel5, hoth5⟩ := lblk_store (Z := roundF M) S4 (by rw [wordsL_length, (unhide HMM).1]) hrf
      have R5 := hoth5 _ _ _ (by omega) R4
      have O5 : LBlk w5 w2.heap.size rcs 152 := hoth5 _ _ _ (by omega) O4
      have B5 := hbel5 _ _ (Nat.le_refl _) B4
      have HST5 := hide st5
      have x0 := LBlk.hi S5 0 (by omega)
      have x1 := LBlk.lo S5 0 (by omega)
      rw [Nat.zero_mul] at x0 x1
      rw [Nat.zero_add] at x1
      have f0 := Blk.free S5 0
      have f1 := Blk.free S5 1
      have c0 := LBlk.hi O5 k (by show k < 24; exact hlt)
      have c1 := LBlk.lo O5 k (by show k < 24; exact hlt)
      have hx64 : (roundF M).getD 0 0 < 18446744073709551616 := getD_lt (unhide HM).2 (by decide) _
      have hc64 := rcs_lt k
      have HS5 : Hid (LBlk w5 w.heap.size (roundF M) 136) := S5
      have HR5 := hide R5
      have HO5 : Hid (LBlk w5 w2.heap.size rcs 152) := O5
      have HB5 := hide B5
      have HRC : Hid (mixAt Z (k + 1) = (roundF M).set 0 ((roundF M).getD 0 0 ^^^ rcs.getD k 0)) := by show _ = _; rw [unhide HSUC]; rfl
      have L5 : w.heap.size < w5.heap.size := Blk.lt S5
      have L6 : w2.heap.size < w5.heap.size := Blk.lt O5
      generalize (roundF M).getD 0 0 = xv at x0 x1 hx64 HRC
      generalize rcs.getD k 0 = cv at c0 c1 hc64 HRC
      have HX := hide (l2Xor_lane xv cv hx64 hc64)
      have ik1 : (0 : Int) ≤ (k : Int) := by omega
      have ik2 : (k : Int) < 24 := by omega
      generalize Value.agg ((wordsL (roundF M)).map (Value.int .i64)).toArray = vagg at HST5 ⊢
      clear S4 R4 O4 B4 st5 S5 R5 O5 B5 hbel5 hoth5 b4 HSUC HSS HRR HOO HBB hx64 hc64
      go_upto_region 6 with (refine wpList_store_eq rfl 136 (.tmp 1) (.tmp 11) rfl _ _ rfl rfl w5 (unhide HST5) ?_)
      clear HST5
      go_region_with (first | (go_at_call 101; refine ((unhide HX) _).mono ?_; rintro e w6 ⟨rfl, b6⟩; have u0 := (b6.cell (p := ⟨w.heap.size, 0, none⟩) (by exact L5)).trans x0; have u1 := (b6.cell (p := ⟨w.heap.size, 1, none⟩) (by exact L5)).trans x1; have v0 := (b6.frozen (p := ⟨w.heap.size, 0, none⟩) (by exact L5)).trans f0; have v1 := (b6.frozen (p := ⟨w.heap.size, 1, none⟩) (by exact L5)).trans f1))
      all_goals
        have K6 : Below w5.heap.size w5 w6 := ((Below.refl _ _).drew).trans b6
        have HS7 : Hid (LBlk ((w6.setCell ⟨w.heap.size, 0, none⟩ (.int .i64 (hiW (xv ^^^ cv) : Int))).setCell ⟨w.heap.size, 1, none⟩ (.int .i64 (loW (xv ^^^ cv) : Int))) w.heap.size ((roundF M).set 0 (xv ^^^ cv)) 136) := by
          show LBlk _ _ _ _
          have := LBlk.set (Blk.below (unhide HS5) K6 L5) 0 (xv ^^^ cv)
          simpa using this
        have HR7 := hide ((((unhide HR5).below K6 (unhide HR5).lt).other (b' := w.heap.size) 0 (.int .i64 (hiW (xv ^^^ cv) : Int)) (by omega)).other (b' := w.heap.size) 1 (.int .i64 (loW (xv ^^^ cv) : Int)) (by omega))
        have HO7 : Hid (LBlk _ _ _ _) := LBlk.other (Blk.below (unhide HO5) K6 L6) (b' := w.heap.size) 0 1 (.int .i64 (hiW (xv ^^^ cv) : Int)) (.int .i64 (loW (xv ^^^ cv) : Int)) (by omega)
        have HB7 := hide ((((unhide HB5).trans (K6.mono (unhide HB5).size)).setCell (p := ⟨w.heap.size, 0, none⟩) (Nat.le_refl _) (.int .i64 (hiW (xv ^^^ cv) : Int))).setCell (p := ⟨w.heap.size, 1, none⟩) (Nat.le_refl _) (.int .i64 (loW (xv ^^^ cv) : Int)))
        clear K6 b6 x0 x1 f0 f1 c0 c1
        go_wp2_with fail
        go_roundw
        case rel => exact ⟨k + 1, by omega, by go_num, by rw [unhide HRC]; exact unhide HS7, unhide HR7, unhide HO7, unhide HB7⟩
        case measure => simp [intOf]; omega
    · obtain rfl : k = 24 := by omega
      have hdk : decide (((24 : Nat) : Int) < 24) = false := rfl
      have HLD := hide (lblk_load hS hml.1)
      obtain ⟨wf, stf, Sf, hbelf, _⟩ := lblk_store (Z := mixAt Z 24) hR (by simp) hml.1
      have HSTF := hide stf
      have HSF : Hid (LBlk wf (w.heap.size + 1) (mixAt Z 24) 136) := Sf
      have HBF := hide (hbelf w.heap.size w (by omega) hB)
      have HL50 : Hid ((wordsL (mixAt Z 24)).length = 50) := by show _ = _; rw [wordsL_length, hml.1]
      unfold LBlk at HSF
      generalize hRR : wordsL (mixAt Z 24) = RR at HLD HSTF HSF HL50
      have HRQ := hide hRR
      clear hS hR hO hB stf Sf hbelf hml hRR
      go_wp2_with (first
        | (refine wpList_load_eq rfl 136 (.tmp 1) rfl _ _ rfl (unhide HLD) ?_)
        | (refine wpList_store_eq rfl 136 (.tmp 2) (.tmp 19) rfl _ _ rfl rfl wf (unhide HSTF) ?_))
      exact bodyPost_ret (results_cell_row rfl _ _ (w.heap.size + 1) 136 _ (0, 0) _ rfl (unhide HSF) Tryz.underlying136 rfl (by rw [List.size_toArray, List.length_map, unhide HL50]; kernel_rfl)) rfl ⟨by rw [unhide HRQ], unhide HBF⟩

end Go.Proofs.YtldiilmpmcbjkaaGreatDoor

/- What is proved here: what the model's l2Low and l2Bytes answer. -/
namespace Go.Proofs.YtldiilmpmcbjkaaGreatDoor
open Go.RowKit
set_option linter.unusedVariables false
set_option maxRecDepth 100000
attribute [local go_sem ↓] Go.wp_at_zero Go.wp_at_succ

set_option maxHeartbeats 2000000 in
theorem l2Low_any (b off cap x0 x1 x2 x3 : Nat) (w : World) (h0 : x0 < 256) (h1 : x1 < 256) (h2 : x2 < 256) (h3 : x3 < 256)
    (c0 : w.cell? ⟨b, off, none⟩ = some (.int .u8 (x0 : Int))) (c1 : w.cell? ⟨b, off + 1, none⟩ = some (.int .u8 (x1 : Int))) (c2 : w.cell? ⟨b, off + 2, none⟩ = some (.int .u8 (x2 : Int))) (c3 : w.cell? ⟨b, off + 3, none⟩ = some (.int .u8 (x3 : Int))) :
    Calls Tryz.prog 102 #[.slice (some ⟨b, off, none⟩) 4 cap] w fun e w' => e = .returned (.int .i64 ((x0 + x1 * 256 + x2 * 65536 + x3 * 16777216 : Nat) : Int)) ∧ ∃ n, w' = w.drewN n := by
  obtain ⟨a1, e1⟩ : ∃ a1, a1 = x1 * 256 := ⟨_, rfl⟩
  obtain ⟨a2, e2⟩ : ∃ a2, a2 = x2 * 65536 := ⟨_, rfl⟩
  obtain ⟨a3, e3⟩ : ∃ a3, a3 = x3 * 16777216 := ⟨_, rfl⟩
  rw [← e1, ← e2, ← e3]
  obtain ⟨s1, f1⟩ : ∃ s1, s1 = x0 + a1 := ⟨_, rfl⟩
  obtain ⟨s2, f2⟩ : ∃ s2, s2 = s1 + a2 := ⟨_, rfl⟩
  obtain ⟨s3, f3⟩ : ∃ s3, s3 = s2 + a3 := ⟨_, rfl⟩
  rw [← f1, ← f2, ← f3]
  have y0 : IntKind.i64.wrap (x0 : Int) = (x0 : Int) := i64_fits _ (by omega) (by omega)
  have y1 : IntKind.i64.wrap (x1 : Int) = (x1 : Int) := i64_fits _ (by omega) (by omega)
  have y2 : IntKind.i64.wrap (x2 : Int) = (x2 : Int) := i64_fits _ (by omega) (by omega)
  have y3 : IntKind.i64.wrap (x3 : Int) = (x3 : Int) := i64_fits _ (by omega) (by omega)
  have m1 : (x1 : Int) * 256 = (a1 : Int) := by omega
  have m2 : (x2 : Int) * 65536 = (a2 : Int) := by omega
  have m3 : (x3 : Int) * 16777216 = (a3 : Int) := by omega
  have u1 : IntKind.i64.wrap (a1 : Int) = (a1 : Int) := i64_fits _ (by omega) (by omega)
  have u2 : IntKind.i64.wrap (a2 : Int) = (a2 : Int) := i64_fits _ (by omega) (by omega)
  have u3 : IntKind.i64.wrap (a3 : Int) = (a3 : Int) := i64_fits _ (by omega) (by omega)
  have n1 : (x0 : Int) + (a1 : Int) = (s1 : Int) := by omega
  have n2 : (s1 : Int) + (a2 : Int) = (s2 : Int) := by omega
  have n3 : (s2 : Int) + (a3 : Int) = (s3 : Int) := by omega
  have v1 : IntKind.i64.wrap (s1 : Int) = (s1 : Int) := i64_fits _ (by omega) (by omega)
  have v2 : IntKind.i64.wrap (s2 : Int) = (s2 : Int) := i64_fits _ (by omega) (by omega)
  have v3 : IntKind.i64.wrap (s3 : Int) = (s3 : Int) := i64_fits _ (by omega) (by omega)
  clear h0 h1 h2 h3 e1 e2 e3 f1 f2 f3
  go_enter Tryz.func102, Tryz.ntmps102
  go_wp2_with fail
  go_quiet (fail)
  go_wp2_with fail
  go_ret
  exact ⟨rfl, _, rfl⟩

/-- The four bytes of a word, the lowest one first. -/
def wordBytes (v : Nat) : List Int := [((v % 256 : Nat) : Int), ((v / 256 % 256 : Nat) : Int), ((v / 65536 % 256 : Nat) : Int), ((v / 16777216 : Nat) : Int)]

set_option maxHeartbeats 2000000 in
theorem l2Bytes_any (v : Nat) (hv : v < 4294967296) (w : World) :
    Calls Tryz.prog 104 #[.int .i64 (v : Int)] w fun e w' => e = .returned (.slice (some ⟨w.heap.size, 0, none⟩) 4 4) ∧ w' = w.alloc (.cells ((wordBytes v).map (Value.int .u8)).toArray 5) := by
  obtain ⟨a0, e0⟩ : ∃ a, a = v % 256 := ⟨_, rfl⟩
  obtain ⟨b1, f1⟩ : ∃ a, a = v / 256 := ⟨_, rfl⟩
  obtain ⟨b2, f2⟩ : ∃ a, a = v / 65536 := ⟨_, rfl⟩
  obtain ⟨b3, f3⟩ : ∃ a, a = v / 16777216 := ⟨_, rfl⟩
  obtain ⟨a1, e1⟩ : ∃ a, a = b1 % 256 := ⟨_, rfl⟩
  obtain ⟨a2, e2⟩ : ∃ a, a = b2 % 256 := ⟨_, rfl⟩
  have HWB : Hid (wordBytes v = [(a0 : Int), (a1 : Int), (a2 : Int), (b3 : Int)]) := by
    show _ = _
    unfold wordBytes
    rw [e1, e2, f1, f2, f3, e0]
  have m0 : (v : Int).tmod 256 = (a0 : Int) := by rw [Int.tmod_eq_emod_of_nonneg (by omega)]; omega
  have m1 : (v : Int).tdiv 256 = (b1 : Int) := by rw [Int.tdiv_eq_ediv_of_nonneg (by omega)]; omega
  have m2 : (v : Int).tdiv 65536 = (b2 : Int) := by rw [Int.tdiv_eq_ediv_of_nonneg (by omega)]; omega
  have m3 : (v : Int).tdiv 16777216 = (b3 : Int) := by rw [Int.tdiv_eq_ediv_of_nonneg (by omega)]; omega
  have m4 : (b1 : Int).tmod 256 = (a1 : Int) := by rw [Int.tmod_eq_emod_of_nonneg (by omega)]; omega
  have m5 : (b2 : Int).tmod 256 = (a2 : Int) := by rw [Int.tmod_eq_emod_of_nonneg (by omega)]; omega
  have y0 : IntKind.i64.wrap (a0 : Int) = (a0 : Int) := i64_fits _ (by omega) (by omega)
  have y1 : IntKind.i64.wrap (a1 : Int) = (a1 : Int) := i64_fits _ (by omega) (by omega)
  have y2 : IntKind.i64.wrap (a2 : Int) = (a2 : Int) := i64_fits _ (by omega) (by omega)
  have y3 : IntKind.i64.wrap (b1 : Int) = (b1 : Int) := i64_fits _ (by omega) (by omega)
  have y4 : IntKind.i64.wrap (b2 : Int) = (b2 : Int) := i64_fits _ (by omega) (by omega)
  have y5 : IntKind.i64.wrap (b3 : Int) = (b3 : Int) := i64_fits _ (by omega) (by omega)
  have z0 : IntKind.u8.wrap (a0 : Int) = (a0 : Int) := by rw [IntKind.wrap_u8]; omega
  have z1 : IntKind.u8.wrap (a1 : Int) = (a1 : Int) := by rw [IntKind.wrap_u8]; omega
  have z2 : IntKind.u8.wrap (a2 : Int) = (a2 : Int) := by rw [IntKind.wrap_u8]; omega
  have z3 : IntKind.u8.wrap (b3 : Int) = (b3 : Int) := by rw [IntKind.wrap_u8]; omega
  clear e0 e1 e2 f1 f2 f3 hv
  go_enter Tryz.func104, Tryz.ntmps104
  go_wp2_with fail
  go_ret
  exact ⟨rfl, by rw [unhide HWB]; rfl⟩

end Go.Proofs.YtldiilmpmcbjkaaGreatDoor

/- What is proved here: the four lanes of a hash, given out byte by byte: what a row, two words' bytes and a state are to one another while the model appends them. -/
namespace Go.Proofs.YtldiilmpmcbjkaaGreatDoor
open Go.RowKit
set_option linter.unusedVariables false
set_option maxRecDepth 100000

/-- The bytes of the first lanes. -/
def hsh (Z : List Nat) : Nat → List Int
  | 0 => []
  | k + 1 => hsh Z k ++ wordBytes (loW (Z.getD k 0)) ++ wordBytes (hiW (Z.getD k 0))

theorem hsh_length (Z : List Nat) : ∀ k, (hsh Z k).length = 8 * k
  | 0 => rfl
  | k + 1 => by
    have := hsh_length Z k
    simp [hsh, wordBytes]
    omega

theorem eight (z : Nat) (hz : z < 18446744073709551616) : wordBytes (loW z) ++ wordBytes (hiW z) = (List.range 8).map fun i => ((z / 2 ^ (8 * i) % 256 : Nat) : Int) := by
  have e : (List.range 8).map (fun i => ((z / 2 ^ (8 * i) % 256 : Nat) : Int)) = [((z / 2 ^ (8 * 0) % 256 : Nat) : Int), ((z / 2 ^ (8 * 1) % 256 : Nat) : Int), ((z / 2 ^ (8 * 2) % 256 : Nat) : Int), ((z / 2 ^ (8 * 3) % 256 : Nat) : Int), ((z / 2 ^ (8 * 4) % 256 : Nat) : Int), ((z / 2 ^ (8 * 5) % 256 : Nat) : Int), ((z / 2 ^ (8 * 6) % 256 : Nat) : Int), ((z / 2 ^ (8 * 7) % 256 : Nat) : Int)] := rfl
  rw [e]
  unfold wordBytes loW hiW
  simp only [List.cons_append, List.nil_append, List.cons.injEq, and_true]
  rw [show 2 ^ (8 * 0) = 1 from rfl, show 2 ^ (8 * 1) = 256 from rfl, show 2 ^ (8 * 2) = 65536 from rfl, show 2 ^ (8 * 3) = 16777216 from rfl, show 2 ^ (8 * 5) = 1099511627776 from rfl, show 2 ^ (8 * 6) = 281474976710656 from rfl, show 2 ^ (8 * 7) = 72057594037927936 from rfl]
  refine ⟨?_, ?_, ?_, ?_, ?_, ?_, ?_, ?_⟩ <;> first | trivial | (refine congrArg (fun n : Nat => (n : Int)) ?_; omega)

theorem hash_hsh (Z : List Nat) (hZ : Lanes Z) : hashOf Z = hsh Z 4 := by
  have h0 := eight (Z.getD 0 0) (getD_lt hZ.2 (by decide) 0)
  have h1 := eight (Z.getD 1 0) (getD_lt hZ.2 (by decide) 1)
  have h2 := eight (Z.getD 2 0) (getD_lt hZ.2 (by decide) 2)
  have h3 := eight (Z.getD 3 0) (getD_lt hZ.2 (by decide) 3)
  have e : hsh Z 4 = (wordBytes (loW (Z.getD 0 0)) ++ wordBytes (hiW (Z.getD 0 0))) ++ ((wordBytes (loW (Z.getD 1 0)) ++ wordBytes (hiW (Z.getD 1 0))) ++ ((wordBytes (loW (Z.getD 2 0)) ++ wordBytes (hiW (Z.getD 2 0))) ++ (wordBytes (loW (Z.getD 3 0)) ++ wordBytes (hiW (Z.getD 3 0))))) := by
    simp [hsh, List.append_assoc]
  rw [e, h0, h1, h2, h3]
  rfl

/-- Four bytes in a block of their own. -/
def W4 (W : World) (B : Nat) (v : Value) (x : Nat) (o : Option Nat) : Prop := ∀ b, o = some b → b < W.heap.size ∧ B ≤ b ∧ v.ownBlock ≠ some b ∧ W.heap[b]? = some (.cells ((wordBytes x).map (Value.int .u8)).toArray 5 (0, 0))

/-- What holds while two words' bytes are appended. -/
def Inv (w W : World) (g B : Nat) (t : TypeId) (Z : List Nat) (v : Value) (n : Nat) (L : List Int) (lo hi : Nat) (oA oB : Option Nat) : Prop :=
  LBlk W g Z t ∧ Below g w W ∧ B ≤ W.heap.size ∧ g < B ∧ W.ownsRow B 5 1 v n (L.map (Value.int .u8)) ∧ W4 W B v lo oA ∧ W4 W B v hi oB

theorem byt_any (x : Nat) (hx : x < 4294967296) (W : World) :
    Calls Tryz.prog 104 #[.int .i64 (x : Int)] W fun e W1 => ∃ b, e = .returned (.slice (some ⟨b, 0, none⟩) 4 4) ∧ b = W.heap.size ∧ W1.heap[b]? = some (.cells ((wordBytes x).map (Value.int .u8)).toArray 5 (0, 0)) ∧ Below W.heap.size W W1 ∧ W1.heap.size = W.heap.size + 1 := by
  refine (l2Bytes_any x hx W).mono ?_
  rintro e w' ⟨rfl, rfl⟩
  refine ⟨_, rfl, rfl, ?_, below_alloc W _, by simp⟩
  show (W.heap.push _)[W.heap.size]? = _
  simp

theorem W4.below {W W1 : World} {B : Nat} {v : Value} {x : Nat} {o : Option Nat} (h : W4 W B v x o) (hb : Below W.heap.size W W1) : W4 W1 B v x o := fun b e => by
  obtain ⟨h1, h2, h3, h4⟩ := h b e
  exact ⟨Nat.lt_of_lt_of_le h1 hb.size, h2, h3, (hb.block b h1).trans h4⟩

theorem Inv.step {w W W1 : World} {g B : Nat} {t : TypeId} {Z : List Nat} {v : Value} {n : Nat} {L : List Int} {lo hi : Nat} {oA oB : Option Nat} (h : Inv w W g B t Z v n L lo hi oA oB) (hb : Below W.heap.size W W1) : Inv w W1 g B t Z v n L lo hi oA oB := by
  obtain ⟨h1, h2, h3, h4, h5, h6, h7⟩ := h
  exact ⟨Blk.below h1 hb (by omega), h2.trans (hb.mono (by omega)), Nat.le_trans h3 hb.size, h4, own_below h5 hb (Nat.le_refl _), h6.below hb, h7.below hb⟩

theorem W4.new {W W1 : World} {B b n : Nat} {v : Value} {x : Nat} {L : List Value} (hown : W.ownsRow B 5 1 v n L) (hB : B ≤ W.heap.size) (e : b = W.heap.size) (hc : W1.heap[b]? = some (.cells ((wordBytes x).map (Value.int .u8)).toArray 5 (0, 0))) (hs : W1.heap.size = W.heap.size + 1) : W4 W1 B v x (some b) := fun c hcb => by
  obtain rfl := Option.some.inj hcb
  refine ⟨by omega, by omega, fun hv => ?_, hc⟩
  have := (hown.lt _ hv).2
  omega

theorem Inv.callA {w W W1 : World} {g B b : Nat} {t : TypeId} {Z : List Nat} {v : Value} {n : Nat} {L : List Int} {lo hi : Nat} {oA oB : Option Nat} (h : Inv w W g B t Z v n L lo hi oA oB) (e : b = W.heap.size) (hc : W1.heap[b]? = some (.cells ((wordBytes lo).map (Value.int .u8)).toArray 5 (0, 0))) (hb : Below W.heap.size W W1) (hs : W1.heap.size = W.heap.size + 1) :
    Inv w W1 g B t Z v n L lo hi (some b) oB := by
  have n4 := W4.new h.2.2.2.2.1 h.2.2.1 e hc hs
  obtain ⟨h1, h2, h3, h4, h5, h6, h7⟩ := h.step hb
  exact ⟨h1, h2, h3, h4, h5, n4, h7⟩

theorem Inv.callB {w W W1 : World} {g B b : Nat} {t : TypeId} {Z : List Nat} {v : Value} {n : Nat} {L : List Int} {lo hi : Nat} {oA oB : Option Nat} (h : Inv w W g B t Z v n L lo hi oA oB) (e : b = W.heap.size) (hc : W1.heap[b]? = some (.cells ((wordBytes hi).map (Value.int .u8)).toArray 5 (0, 0))) (hb : Below W.heap.size W W1) (hs : W1.heap.size = W.heap.size + 1) :
    Inv w W1 g B t Z v n L lo hi oA (some b) := by
  have n4 := W4.new h.2.2.2.2.1 h.2.2.1 e hc hs
  obtain ⟨h1, h2, h3, h4, h5, h6, h7⟩ := h.step hb
  exact ⟨h1, h2, h3, h4, h5, h6, n4⟩

/-- What an append leaves. -/
theorem Inv.app {w W W2 : World} {g B g2 cap2 : Nat} {t : TypeId} {Z : List Nat} {v : Value} {n : Nat} {L N : List Int} {lo hi : Nat} {oA oB : Option Nat} (h : Inv w W g B t Z v n L lo hi oA oB)
    (hown : W2.ownsRow B 5 1 (.slice (some ⟨g2, 0, none⟩) (n + 4) cap2) (n + 4) (L.map (Value.int .u8) ++ N.map (Value.int .u8))) (hg : W.grownBy W2 v.ownBlock) (hat : v.ownBlock = some g2 ∨ g2 = W.heap.size) :
    Inv w W2 g B t Z (.slice (some ⟨g2, 0, none⟩) (n + 4) cap2) (n + 4) (L ++ N) lo hi oA oB := by
  obtain ⟨h1, h2, h3, h4, h5, h6, h7⟩ := h
  have key : ∀ b, v.ownBlock = some b → B ≤ b := fun b e => (h5.lt b e).1
  have w4 : ∀ x o, W4 W B v x o → W4 W2 B (.slice (some ⟨g2, 0, none⟩) (n + 4) cap2) x o := by
    intro x o hw b e
    obtain ⟨k1, k2, k3, k4⟩ := hw b e
    refine ⟨Nat.lt_of_lt_of_le k1 hg.size, k2, fun e2 => ?_, (hg.block b k1 (fun e3 => k3 e3.symm)).trans k4⟩
    have e2' : g2 = b := Option.some.inj e2
    subst e2'
    rcases hat with e3 | e3
    · exact k3 e3
    · omega
  refine ⟨?_, h2.grown hg (by omega) (fun b e => by have := key b e; omega), Nat.le_trans h3 hg.size, h4, by rw [List.map_append]; exact hown, w4 lo oA h6, w4 hi oB h7⟩
  unfold LBlk Blk
  rw [hg.block g (by omega) (fun e => by have := key g e.symm; omega)]
  exact h1

theorem Inv.newsA {w W : World} {g B b : Nat} {t : TypeId} {Z : List Nat} {v : Value} {n : Nat} {L : List Int} {lo hi : Nat} {oB : Option Nat} (h : Inv w W g B t Z v n L lo hi (some b) oB) : ∀ j u, ((wordBytes lo).map (Value.int .u8))[j]? = some u → W.cell? ((⟨b, 0, none⟩ : Addr).add j) = some u := by
  have := World.news_of_block (h.2.2.2.2.2.1 b rfl).2.2.2
  simpa using this

theorem Inv.newsB {w W : World} {g B b : Nat} {t : TypeId} {Z : List Nat} {v : Value} {n : Nat} {L : List Int} {lo hi : Nat} {oA : Option Nat} (h : Inv w W g B t Z v n L lo hi oA (some b)) : ∀ j u, ((wordBytes hi).map (Value.int .u8))[j]? = some u → W.cell? ((⟨b, 0, none⟩ : Addr).add j) = some u := by
  have := World.news_of_block (h.2.2.2.2.2.2 b rfl).2.2.2
  simpa using this

theorem Inv.drew {w W : World} {g B : Nat} {t : TypeId} {Z : List Nat} {v : Value} {n : Nat} {L : List Int} {lo hi : Nat} {oA oB : Option Nat} (h : Inv w W g B t Z v n L lo hi oA oB) : Inv w W.drew g B t Z v n L lo hi oA oB :=
  h.step (Below.refl _ _).drew

end Go.Proofs.YtldiilmpmcbjkaaGreatDoor
