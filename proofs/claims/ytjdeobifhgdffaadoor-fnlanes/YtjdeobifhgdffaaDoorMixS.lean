/- What is proved here: the model's constants, and its mixing of a state by 24 rounds, told by its lanes. -/
import Derived.Test.YtjdeobifhgdffaaDoorRoundS
namespace Go.Proofs.YtjdeobifhgdffaaDoor
open Go.RowKit
set_option linter.unusedVariables false
attribute [local go_sem ↓] Go.wp_at_zero Go.wp_at_succ

/-- The constants as words. -/
def consts : List Int := [0, 1, 0, 32898, 2147483648, 32906, 2147483648, 2147516416, 0, 32907, 0, 2147483649, 2147483648, 2147516545, 2147483648, 32777, 0, 138, 0, 136, 0, 2147516425, 0, 2147483658, 0, 2147516555, 2147483648, 139, 2147483648, 32905, 2147483648, 32771, 2147483648, 32770, 2147483648, 128, 0, 32778, 2147483648, 2147483658, 2147483648, 2147516545, 2147483648, 32896, 0, 2147483649, 2147483648, 2147516424]

theorem consts_eq : consts = wordsL rcs := by kernel_rfl

set_option maxRecDepth 100000 in
set_option maxHeartbeats 4000000 in
theorem consts_any (w : World) : Calls Tryd.prog 59 #[] w fun e w' => e = .returned (.agg (consts.map (Value.int .i64)).toArray) ∧ Below w.heap.size w w' := by
  obtain ⟨w1, hw1⟩ : ∃ w1, w1 = w.alloc (.cells ((List.replicate 48 (0 : Int)).map (Value.int .i64)).toArray 77) := ⟨_, rfl⟩
  have hb0 : Blk w1 w.heap.size (List.replicate 48 (0 : Int)) 77 := by
    rw [hw1]
    show (w.heap.push _)[w.heap.size]? = _
    simp
  have hbel : Below w.heap.size w w1 := by rw [hw1]; exact below_alloc w _
  obtain ⟨w2, hw2⟩ : ∃ w2, w2 = w1.setCells w.heap.size 0 (consts.map (Value.int .i64)) := ⟨_, rfl⟩
  have hb2 : Blk w2 w.heap.size consts 77 := by rw [hw2]; exact hb0.store rfl
  have hbel2 : Below w.heap.size w w2 := by rw [hw2]; exact below_setCells _ (Nat.le_refl _) _ _ _ hbel
  have hst : (Instr.storeAt 77 (.pointer (some ⟨w.heap.size, 0, none⟩)) (.agg (consts.map (Value.int .i64)).toArray)).run Tryd.prog w1 = .ok () w2 := by
    rw [run_storeAt_mid w1 w.heap.size 0 77 (consts.map (Value.int .i64)).toArray (there_blk hb0 _ rfl) (by kernel_rfl) (all_int consts), hw2]
  have hfold : w.alloc (.cells #[.int .i64 0, .int .i64 0, .int .i64 0, .int .i64 0, .int .i64 0, .int .i64 0, .int .i64 0, .int .i64 0, .int .i64 0, .int .i64 0, .int .i64 0, .int .i64 0, .int .i64 0, .int .i64 0, .int .i64 0, .int .i64 0, .int .i64 0, .int .i64 0, .int .i64 0, .int .i64 0, .int .i64 0, .int .i64 0, .int .i64 0, .int .i64 0, .int .i64 0, .int .i64 0, .int .i64 0, .int .i64 0, .int .i64 0, .int .i64 0, .int .i64 0, .int .i64 0, .int .i64 0, .int .i64 0, .int .i64 0, .int .i64 0, .int .i64 0, .int .i64 0, .int .i64 0, .int .i64 0, .int .i64 0, .int .i64 0, .int .i64 0, .int .i64 0, .int .i64 0, .int .i64 0, .int .i64 0, .int .i64 0] 77) = w1 := by rw [hw1]; rfl
  have HST := hide hst
  have HFO := hide hfold
  have HB2 := hide hb2
  have HBE := hide hbel2
  clear hst hfold hb2 hbel2 hb0 hbel hw2 hw1
  go_enter Tryd.func59, Tryd.ntmps59
  go_upto_region 1 with fail
  rw [unhide HFO]
  go_wp2_with (refine wpList_store_eq rfl 77 (.tmp 0) (.tmp 39) rfl _ _ rfl rfl w2 (unhide HST) ?_)
  exact bodyPost_ret (results_cell_row rfl _ _ w.heap.size 77 _ (0, 0) _ rfl (unhide HB2) Tryd.underlying77 rfl (by kernel_rfl)) rfl ⟨rfl, unhide HBE⟩

/-- A state loaded whole, and stored whole. -/
theorem lblk_load {w : World} {b : Nat} {Z : List Nat} (h : LBlk w b Z 66) (hz : Z.length = 25) : (Instr.loadAt 66 (.pointer (some ⟨b, 0, none⟩))).run Tryd.prog w = .ok (.agg ((wordsL Z).map (Value.int .i64)).toArray) w := by
  refine run_loadAt_mid (P := Tryd.prog) w b 0 66 ((wordsL Z).map (Value.int .i64)) _ (fun j v hj => ?_) Tryd.underlying66 rfl (by rw [List.length_map, wordsL_length, hz]; kernel_rfl)
  rw [Nat.zero_add, cell_of_row w b j _ _ _ h]
  simpa using hj

theorem lblk_store {w : World} {b : Nat} {L : List Int} {Z : List Nat} (h : Blk w b L 66) (hl : L.length = 50) (hz : Z.length = 25) :
    ∃ w', (Instr.storeAt 66 (.pointer (some ⟨b, 0, none⟩)) (.agg ((wordsL Z).map (Value.int .i64)).toArray)).run Tryd.prog w = .ok () w' ∧ LBlk w' b Z 66 ∧ (∀ B w0, B ≤ b → Below B w0 w → Below B w0 w') ∧ ∀ b' L' t', b' ≠ b → Blk w b' L' t' → Blk w' b' L' t' := by
  have hl2 : (wordsL Z).length = 50 := by rw [wordsL_length, hz]
  refine ⟨w.setCells b 0 ((wordsL Z).map (Value.int .i64)), ?_, ?_, fun B w0 hB hb => below_setCells _ hB _ _ _ hb, fun b' L' t' hne h' => ?_⟩
  · exact run_storeAt_mid (P := Tryd.prog) w b 0 66 ((wordsL Z).map (Value.int .i64)).toArray (there_blk h _ (by simp [hl, hl2])) (by rw [List.size_toArray, List.length_map, hl2]; kernel_rfl) (all_int _)
  · exact h.store (by rw [hl, hl2])
  · have : ∀ (vs : List Value) (o : Nat) (W : World), Blk W b' L' t' → Blk (W.setCells b o vs) b' L' t' := by
      intro vs
      induction vs with
      | nil => intro o W hW; exact hW
      | cons v r ih => intro o W hW; exact ih (o + 1) _ (hW.other o v hne)
    exact this _ 0 w h'

set_option maxRecDepth 100000 in
set_option maxHeartbeats 8000000 in
theorem l2Mix_any (Z : List Nat) (hZ : Lanes Z) (w : World) :
    Calls Tryd.prog 47 #[.agg ((wordsL Z).map (Value.int .i64)).toArray] w fun e w' => e = .returned (.agg ((wordsL (mixAt Z 24)).map (Value.int .i64)).toArray) ∧ Below w.heap.size w w' := by
  have HZ := hide hZ
  have hwl : (wordsL Z).length = 50 := by rw [wordsL_length, hZ.1]
  generalize hL : wordsL Z = L at hwl
  have HL := hide hL
  clear hL hZ
  go_enter Tryd.func47, Tryd.ntmps47
  go_upto_region 1 with fail
  obtain ⟨w1, hw1⟩ : ∃ w1, w1 = (w.alloc (.cells (L.map (Value.int .i64)).toArray 66)).alloc (.cells ((List.replicate 50 (0 : Int)).map (Value.int .i64)).toArray 66) := ⟨_, rfl⟩
  have e1 : (w.alloc (.cells (L.map (Value.int .i64)).toArray 66)).alloc (.cells #[.int .i64 0, .int .i64 0, .int .i64 0, .int .i64 0, .int .i64 0, .int .i64 0, .int .i64 0, .int .i64 0, .int .i64 0, .int .i64 0, .int .i64 0, .int .i64 0, .int .i64 0, .int .i64 0, .int .i64 0, .int .i64 0, .int .i64 0, .int .i64 0, .int .i64 0, .int .i64 0, .int .i64 0, .int .i64 0, .int .i64 0, .int .i64 0, .int .i64 0, .int .i64 0, .int .i64 0, .int .i64 0, .int .i64 0, .int .i64 0, .int .i64 0, .int .i64 0, .int .i64 0, .int .i64 0, .int .i64 0, .int .i64 0, .int .i64 0, .int .i64 0, .int .i64 0, .int .i64 0, .int .i64 0, .int .i64 0, .int .i64 0, .int .i64 0, .int .i64 0, .int .i64 0, .int .i64 0, .int .i64 0, .int .i64 0, .int .i64 0] 66) = w1 := by rw [hw1]; rfl
  rw [e1]
  have b1 : Below w.heap.size w w1 := by rw [hw1]; exact (below_alloc w _).alloc (by simp) _
  have S1 : LBlk w1 w.heap.size Z 66 := by
    rw [hw1]
    unfold LBlk
    rw [unhide HL]
    exact (Blk.new w L _).below (below_alloc _ _) (by simp)
  have R1 : Blk w1 (w.heap.size + 1) (List.replicate 50 (0 : Int)) 66 := by
    have := Blk.new (w.alloc (.cells (L.map (Value.int .i64)).toArray 66)) (List.replicate 50 (0 : Int)) 66
    rw [hw1]
    simpa using this
  clear e1 hw1 HL
  have HB1 := hide b1
  have HS1 : Hid (LBlk w1 w.heap.size Z 66) := S1
  have HR1 := hide R1
  clear b1 S1 R1
  go_wp2_with fail
  refine (consts_any w1).mono ?_
  rintro e w2 ⟨rfl, b2⟩
  have S2 : LBlk w2 w.heap.size Z 66 := (unhide HS1).below b2 (unhide HS1).lt
  have R2 := (unhide HR1).below b2 (unhide HR1).lt
  have B2 := (unhide HB1).trans (b2.mono (unhide HB1).size)
  have N2 : Blk (w2.alloc (.cells #[.int .i64 0, .int .i64 0, .int .i64 0, .int .i64 0, .int .i64 0, .int .i64 0, .int .i64 0, .int .i64 0, .int .i64 0, .int .i64 0, .int .i64 0, .int .i64 0, .int .i64 0, .int .i64 0, .int .i64 0, .int .i64 0, .int .i64 0, .int .i64 0, .int .i64 0, .int .i64 0, .int .i64 0, .int .i64 0, .int .i64 0, .int .i64 0, .int .i64 0, .int .i64 0, .int .i64 0, .int .i64 0, .int .i64 0, .int .i64 0, .int .i64 0, .int .i64 0, .int .i64 0, .int .i64 0, .int .i64 0, .int .i64 0, .int .i64 0, .int .i64 0, .int .i64 0, .int .i64 0, .int .i64 0, .int .i64 0, .int .i64 0, .int .i64 0, .int .i64 0, .int .i64 0, .int .i64 0, .int .i64 0] 77)) w2.heap.size (List.replicate 48 (0 : Int)) 77 := Blk.new w2 (List.replicate 48 (0 : Int)) 77
  have k3 := below_alloc w2 (.cells #[.int .i64 0, .int .i64 0, .int .i64 0, .int .i64 0, .int .i64 0, .int .i64 0, .int .i64 0, .int .i64 0, .int .i64 0, .int .i64 0, .int .i64 0, .int .i64 0, .int .i64 0, .int .i64 0, .int .i64 0, .int .i64 0, .int .i64 0, .int .i64 0, .int .i64 0, .int .i64 0, .int .i64 0, .int .i64 0, .int .i64 0, .int .i64 0, .int .i64 0, .int .i64 0, .int .i64 0, .int .i64 0, .int .i64 0, .int .i64 0, .int .i64 0, .int .i64 0, .int .i64 0, .int .i64 0, .int .i64 0, .int .i64 0, .int .i64 0, .int .i64 0, .int .i64 0, .int .i64 0, .int .i64 0, .int .i64 0, .int .i64 0, .int .i64 0, .int .i64 0, .int .i64 0, .int .i64 0, .int .i64 0] 77)
  obtain ⟨w3, hw3⟩ : ∃ w3, w3 = (w2.alloc (.cells #[.int .i64 0, .int .i64 0, .int .i64 0, .int .i64 0, .int .i64 0, .int .i64 0, .int .i64 0, .int .i64 0, .int .i64 0, .int .i64 0, .int .i64 0, .int .i64 0, .int .i64 0, .int .i64 0, .int .i64 0, .int .i64 0, .int .i64 0, .int .i64 0, .int .i64 0, .int .i64 0, .int .i64 0, .int .i64 0, .int .i64 0, .int .i64 0, .int .i64 0, .int .i64 0, .int .i64 0, .int .i64 0, .int .i64 0, .int .i64 0, .int .i64 0, .int .i64 0, .int .i64 0, .int .i64 0, .int .i64 0, .int .i64 0, .int .i64 0, .int .i64 0, .int .i64 0, .int .i64 0, .int .i64 0, .int .i64 0, .int .i64 0, .int .i64 0, .int .i64 0, .int .i64 0, .int .i64 0, .int .i64 0] 77)).setCells w2.heap.size 0 (consts.map (Value.int .i64)) := ⟨_, rfl⟩
  have HST : Hid ((Instr.storeAt 77 (.pointer (some ⟨w2.heap.size, 0, none⟩)) (.agg (consts.map (Value.int .i64)).toArray)).run Tryd.prog (w2.alloc (.cells #[.int .i64 0, .int .i64 0, .int .i64 0, .int .i64 0, .int .i64 0, .int .i64 0, .int .i64 0, .int .i64 0, .int .i64 0, .int .i64 0, .int .i64 0, .int .i64 0, .int .i64 0, .int .i64 0, .int .i64 0, .int .i64 0, .int .i64 0, .int .i64 0, .int .i64 0, .int .i64 0, .int .i64 0, .int .i64 0, .int .i64 0, .int .i64 0, .int .i64 0, .int .i64 0, .int .i64 0, .int .i64 0, .int .i64 0, .int .i64 0, .int .i64 0, .int .i64 0, .int .i64 0, .int .i64 0, .int .i64 0, .int .i64 0, .int .i64 0, .int .i64 0, .int .i64 0, .int .i64 0, .int .i64 0, .int .i64 0, .int .i64 0, .int .i64 0, .int .i64 0, .int .i64 0, .int .i64 0, .int .i64 0] 77)) = .ok () w3) := by
    show _ = _
    rw [run_storeAt_mid _ w2.heap.size 0 77 (consts.map (Value.int .i64)).toArray (there_blk N2 _ rfl) (by kernel_rfl) (all_int consts), hw3]
  have K3 : Below w2.heap.size w2 w3 := by rw [hw3]; exact below_setCells _ (Nat.le_refl _) _ _ _ k3
  have O3 : LBlk w3 w2.heap.size rcs 77 := by
    unfold LBlk
    rw [← consts_eq, hw3]; exact N2.store rfl
  have S3 : LBlk w3 w.heap.size Z 66 := Blk.below S2 K3 (Blk.lt S2)
  have R3 := R2.below K3 R2.lt
  have B3 := B2.trans (K3.mono B2.size)
  have D : w.heap.size + 1 < w2.heap.size := R2.lt
  have HS3 : Hid (LBlk w3 w.heap.size Z 66) := S3
  have HR3 := hide R3
  have HO3 : Hid (LBlk w3 w2.heap.size rcs 77) := O3
  have HB3 := hide B3
  have D3 : w2.heap.size < w3.heap.size := Blk.lt O3
  clear S2 R2 B2 N2 k3 K3 O3 S3 R3 B3 HS1 HR1 HB1 hw3 b2
  go_upto_block 0 with (refine wpList_store_eq rfl 77 (.tmp 3) (.tmp 5) rfl _ _ rfl rfl w3 (unhide HST) ?_)
  clear HST
  go_wp2_with fail
  go_loopw [4] (fun i wr => ∃ k : Nat, k ≤ 24 ∧ i = .int .i64 k ∧ LBlk wr w.heap.size (mixAt Z k) 66 ∧ Blk wr (w.heap.size + 1) (List.replicate 50 (0 : Int)) 66 ∧ LBlk wr w2.heap.size rcs 77 ∧ Below w.heap.size w wr)
    (fun i _ => 24 - (intOf i).toNat)
  case atStart => exact ⟨0, by omega, rfl, unhide HS3, unhide HR3, unhide HO3, unhide HB3⟩
  case round =>
    obtain ⟨k, hk, rfl, hS, hR, hO, hB⟩ := hrel
    clear HS3 HR3 HO3 HB3
    have hml := mixAt_lanes (unhide HZ) k
    by_cases hlt : k < 24
    · have HLD := hide (lblk_load hS hml.1)
      have HRD := hide (l2Round_any (mixAt Z k) hml wr)
      have hrl := roundF_lanes hml
      have hsuc := mixAt_succ Z k
      have HSUC := hide hsuc
      generalize mixAt Z k = M at HLD HRD hrl HSUC hS hml
      have HM := hide hrl
      have HMM := hide hml
      have HSS := hide hS
      have HRR := hide hR
      have HOO := hide hO
      have HBB := hide hB
      have hdk : decide ((k : Int) < 24) = true := decide_eq_true (by omega)
      clear hS hR hO hB hrl hml hsuc
      have hrf : (roundF M).length = 25 := (unhide HM).1
      go_wp2_with (refine wpList_load_eq rfl 66 (.tmp 1) rfl _ _ rfl (unhide HLD) ?_)
      refine (unhide HRD).mono ?_
      rintro e w4 ⟨rfl, b4⟩
      have S4 : LBlk w4 w.heap.size M 66 := Blk.below (unhide HSS) b4 (Blk.lt (unhide HSS))
      have R4 := (unhide HRR).below b4 (unhide HRR).lt
      have O4 : LBlk w4 w2.heap.size rcs 77 := Blk.below (unhide HOO) b4 (Blk.lt (unhide HOO))
      have B4 := (unhide HBB).trans (b4.mono (unhide HBB).size)
      obtain ⟨w5, st5, S5, hbel5, hoth5⟩ := lblk_store (Z := roundF M) S4 (by rw [wordsL_length, (unhide HMM).1]) hrf
      have R5 := hoth5 _ _ _ (by omega) R4
      have O5 : LBlk w5 w2.heap.size rcs 77 := hoth5 _ _ _ (by omega) O4
      have B5 := hbel5 _ _ (Nat.le_refl _) B4
      have HST5 := hide st5
      have x0 := LBlk.hi S5 0 (by omega)
      have x1 := LBlk.lo S5 0 (by omega)
      rw [Nat.zero_mul] at x0 x1
      rw [Nat.zero_add] at x1
      have f0 := Blk.free S5 0
      have f1 := Blk.free S5 1
      have c0 := LBlk.hi O5 k (by show k < 24; exact hlt)
      have c1 := LBlk.lo O5 k (by show k < 24; exact hlt)
      have hx64 : (roundF M).getD 0 0 < 18446744073709551616 := getD_lt (unhide HM).2 (by decide) _
      have hc64 := rcs_lt k
      have HS5 : Hid (LBlk w5 w.heap.size (roundF M) 66) := S5
      have HR5 := hide R5
      have HO5 : Hid (LBlk w5 w2.heap.size rcs 77) := O5
      have HB5 := hide B5
      have HRC : Hid (mixAt Z (k + 1) = (roundF M).set 0 ((roundF M).getD 0 0 ^^^ rcs.getD k 0)) := by show _ = _; rw [unhide HSUC]; rfl
      have L5 : w.heap.size < w5.heap.size := Blk.lt S5
      have L6 : w2.heap.size < w5.heap.size := Blk.lt O5
      generalize (roundF M).getD 0 0 = xv at x0 x1 hx64 HRC
      generalize rcs.getD k 0 = cv at c0 c1 hc64 HRC
      have HX := hide (l2Xor_lane xv cv hx64 hc64)
      have ik1 : (0 : Int) ≤ (k : Int) := by omega
      have ik2 : (k : Int) < 24 := by omega
      generalize Value.agg ((wordsL (roundF M)).map (Value.int .i64)).toArray = vagg at HST5 ⊢
      clear S4 R4 O4 B4 st5 S5 R5 O5 B5 hbel5 hoth5 b4 HSUC HSS HRR HOO HBB hx64 hc64
      go_upto_region 6 with (refine wpList_store_eq rfl 66 (.tmp 1) (.tmp 11) rfl _ _ rfl rfl w5 (unhide HST5) ?_)
      clear HST5
      go_region_with (first | (go_at_call 53; refine ((unhide HX) _).mono ?_; rintro e w6 ⟨rfl, b6⟩; have u0 := (b6.cell (p := ⟨w.heap.size, 0, none⟩) (by exact L5)).trans x0; have u1 := (b6.cell (p := ⟨w.heap.size, 1, none⟩) (by exact L5)).trans x1; have v0 := (b6.frozen (p := ⟨w.heap.size, 0, none⟩) (by exact L5)).trans f0; have v1 := (b6.frozen (p := ⟨w.heap.size, 1, none⟩) (by exact L5)).trans f1))
      all_goals
        have K6 : Below w5.heap.size w5 w6 := ((Below.refl _ _).drew).trans b6
        have HS7 : Hid (LBlk ((w6.setCell ⟨w.heap.size, 0, none⟩ (.int .i64 (hiW (xv ^^^ cv) : Int))).setCell ⟨w.heap.size, 1, none⟩ (.int .i64 (loW (xv ^^^ cv) : Int))) w.heap.size ((roundF M).set 0 (xv ^^^ cv)) 66) := by
          show LBlk _ _ _ _
          have := LBlk.set (Blk.below (unhide HS5) K6 L5) 0 (xv ^^^ cv)
          simpa using this
        have HR7 := hide ((((unhide HR5).below K6 (unhide HR5).lt).other (b' := w.heap.size) 0 (.int .i64 (hiW (xv ^^^ cv) : Int)) (by omega)).other (b' := w.heap.size) 1 (.int .i64 (loW (xv ^^^ cv) : Int)) (by omega))
        have HO7 : Hid (LBlk _ _ _ _) := LBlk.other (Blk.below (unhide HO5) K6 L6) (b' := w.heap.size) 0 1 (.int .i64 (hiW (xv ^^^ cv) : Int)) (.int .i64 (loW (xv ^^^ cv) : Int)) (by omega)
        have HB7 := hide ((((unhide HB5).trans (K6.mono (unhide HB5).size)).setCell (p := ⟨w.heap.size, 0, none⟩) (Nat.le_refl _) (.int .i64 (hiW (xv ^^^ cv) : Int))).setCell (p := ⟨w.heap.size, 1, none⟩) (Nat.le_refl _) (.int .i64 (loW (xv ^^^ cv) : Int)))
        clear K6 b6 x0 x1 f0 f1 c0 c1
        go_wp2_with fail
        go_roundw
        case rel => exact ⟨k + 1, by omega, by go_num, by rw [unhide HRC]; exact unhide HS7, unhide HR7, unhide HO7, unhide HB7⟩
        case measure => simp [intOf]; omega
    · obtain rfl : k = 24 := by omega
      have hdk : decide (((24 : Nat) : Int) < 24) = false := rfl
      have HLD := hide (lblk_load hS hml.1)
      obtain ⟨wf, stf, Sf, hbelf, _⟩ := lblk_store (Z := mixAt Z 24) hR (by simp) hml.1
      have HSTF := hide stf
      have HSF : Hid (LBlk wf (w.heap.size + 1) (mixAt Z 24) 66) := Sf
      have HBF := hide (hbelf w.heap.size w (by omega) hB)
      have HL50 : Hid ((wordsL (mixAt Z 24)).length = 50) := by show _ = _; rw [wordsL_length, hml.1]
      unfold LBlk at HSF
      generalize hRR : wordsL (mixAt Z 24) = RR at HLD HSTF HSF HL50
      have HRQ := hide hRR
      clear hS hR hO hB stf Sf hbelf hml hRR
      go_wp2_with (first
        | (refine wpList_load_eq rfl 66 (.tmp 1) rfl _ _ rfl (unhide HLD) ?_)
        | (refine wpList_store_eq rfl 66 (.tmp 2) (.tmp 19) rfl _ _ rfl rfl wf (unhide HSTF) ?_))
      exact bodyPost_ret (results_cell_row rfl _ _ (w.heap.size + 1) 66 _ (0, 0) _ rfl (unhide HSF) Tryd.underlying66 rfl (by rw [List.size_toArray, List.length_map, unhide HL50]; kernel_rfl)) rfl ⟨by rw [unhide HRQ], unhide HBF⟩

end Go.Proofs.YtjdeobifhgdffaaDoor
