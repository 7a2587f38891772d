/- What is proved here: one round of the model's mixing of a state, told by its lanes. -/
import Derived.Test.YtldiilmpmcbjkaaGreatDoorChecked
import Derived.Test.YtldiilmpmcbjkaaGreatDoorJ1
import Derived.Test.YtldiilmpmcbjkaaGreatDoorJ21
import Derived.Deep.CutBlock
import Derived.Deep.Light
import Derived.Deep.RegionHeld3
namespace Go.Proofs.YtldiilmpmcbjkaaGreatDoor
open Go.RowKit
set_option linter.unusedVariables false
set_option maxRecDepth 100000
attribute [local go_sem ↓] Go.wp_at_zero Go.wp_at_succ

theorem store2 {w : World} {b : Nat} {L : List Int} {t : TypeId} (h : Blk w b L t) (i : Nat) (x y : Int) : Blk ((w.setCell ⟨b, i, none⟩ (.int .i64 x)).setCell ⟨b, i + 1, none⟩ (.int .i64 y)) b ((L.set i x).set (i + 1) y) t := (h.set i x).set (i + 1) y

/-- A block of lanes, by words. -/
def LBlk (w : World) (b : Nat) (Z : List Nat) (t : TypeId) : Prop := Blk w b (wordsL Z) t

theorem LBlk.hi {w : World} {b : Nat} {Z : List Nat} {t : TypeId} (h : LBlk w b Z t) (i : Nat) (hi : i < Z.length) : w.cell? ⟨b, i * 2, none⟩ = some (.int .i64 (hiW (Z.getD i 0) : Int)) := by
  rw [Blk.cell h (i * 2) (by rw [wordsL_length]; omega), wordsL_hi Z i hi]

theorem LBlk.lo {w : World} {b : Nat} {Z : List Nat} {t : TypeId} (h : LBlk w b Z t) (i : Nat) (hi : i < Z.length) : w.cell? ⟨b, i * 2 + 1, none⟩ = some (.int .i64 (loW (Z.getD i 0) : Int)) := by
  rw [Blk.cell h (i * 2 + 1) (by rw [wordsL_length]; omega), wordsL_lo Z i hi]

theorem LBlk.set {w : World} {b : Nat} {Z : List Nat} {t : TypeId} (h : LBlk w b Z t) (i v : Nat) : LBlk ((w.setCell ⟨b, i * 2, none⟩ (.int .i64 (hiW v : Int))).setCell ⟨b, i * 2 + 1, none⟩ (.int .i64 (loW v : Int))) b (Z.set i v) t := by
  have := store2 h (i * 2) (hiW v : Int) (loW v : Int)
  rw [wordsL_set] at this
  exact this

theorem LBlk.other {w : World} {b b' : Nat} {Z : List Nat} {t : TypeId} (h : LBlk w b Z t) (i j : Nat) (x y : Value) (hb : b ≠ b') : LBlk ((w.setCell ⟨b', i, none⟩ x).setCell ⟨b', j, none⟩ y) b Z t := (Blk.other h i x hb).other j y hb

theorem bal {wr W : World} (h : Below wr.heap.size wr W) (o : Obj) : Below wr.heap.size wr (W.alloc o) := h.alloc h.size o
theorem bset {wr W : World} (h : Below wr.heap.size wr W) {b : Nat} (hb : wr.heap.size ≤ b) (i j : Nat) (x y : Value) : Below wr.heap.size wr ((W.setCell ⟨b, i, none⟩ x).setCell ⟨b, j, none⟩ y) := (h.setCell hb x).setCell hb y
theorem bcall {wr W W' : World} (h : Below wr.heap.size wr W) (k : Below W.heap.size W W') : Below wr.heap.size wr W' := h.trans (k.mono h.size)

/-- A post that is met by going on alone. -/
def OnlyOn (K : Act → World → Prop) : Exit → Act → World → Prop
  | .normal, a, w => K a w
  | _, _, _ => False

theorem OnlyOn.imp {K : Act → World → Prop} {Q : Exit → Act → World → Prop} (h : ∀ a w, K a w → Q .normal a w) : ∀ (e : Exit) (a : Act) (w : World), OnlyOn K e a w → Q e a w := fun e a w k => by
  cases e <;> first | exact h _ _ k | exact (k : False).elim

/-- The post under a letter, so that the walk does not look into it: what is walked goes on, and does not panic. -/
theorem wp_hide {P : Program} {c : Code} {Q : Exit → Act → World → Prop} {a : Act} {w : World} (h : ∀ K : Act → World → Prop, Hid (∀ a w, Q .normal a w → K a w) → Hid (∀ a w, K a w → Q .normal a w) → Code.wp P c (OnlyOn K) a w) : Code.wp P c Q a w :=
  Code.wp_mono (OnlyOn.imp (K := fun a w => Q .normal a w) (fun _ _ k => k)) (h _ (fun _ _ k => k) (fun _ _ k => k))

theorem cell_other2 {w : World} {b b' : Nat} (i j o : Nat) (x y : Value) (h : b ≠ b') : ((w.setCell ⟨b', i, none⟩ x).setCell ⟨b', j, none⟩ y).cell? ⟨b, o, none⟩ = w.cell? ⟨b, o, none⟩ :=
  World.cell?_of_block ((heap_setCell_other _ ⟨b', j, none⟩ b y h).trans (heap_setCell_other w ⟨b', i, none⟩ b x h))

theorem offs_nat (k : Nat) (h : k < 25) : offs.getD k 0 = ((offN.getD k 0 : Nat) : Int) := by
  have : ∀ k, k < 25 → offs.getD k 0 = ((offN.getD k 0 : Nat) : Int) := by decide
  exact this k h

set_option maxRecDepth 100000 in
set_option maxHeartbeats 20000000 in
theorem l2Round_any (Z : List Nat) (hZ : Lanes Z) (w : World) :
    Calls Tryz.prog 124 #[.agg ((wordsL Z).map (Value.int .i64)).toArray] w fun e w' => e = .returned (.agg ((wordsL (roundF Z)).map (Value.int .i64)).toArray) ∧ Below w.heap.size w w' := by
  have HZ := hide hZ
  have zlen := hZ.1
  clear hZ
  have HZ0 := hide (wordsL_zero 5)
  generalize hL : wordsL Z = L
  have HL := hide hL
  clear hL
  go_enter Tryz.func124, Tryz.ntmps124
  go_upto_region 1 with fail
  obtain ⟨w1, hw1⟩ : ∃ w1, w1 = (w.alloc (.cells (L.map (Value.int .i64)).toArray 136)).alloc (.cells ((List.replicate 50 (0 : Int)).map (Value.int .i64)).toArray 136) := ⟨_, rfl⟩
  have e1 : (w.alloc (.cells (L.map (Value.int .i64)).toArray 136)).alloc (.cells #[.int .i64 0, .int .i64 0, .int .i64 0, .int .i64 0, .int .i64 0, .int .i64 0, .int .i64 0, .int .i64 0, .int .i64 0, .int .i64 0, .int .i64 0, .int .i64 0, .int .i64 0, .int .i64 0, .int .i64 0, .int .i64 0, .int .i64 0, .int .i64 0, .int .i64 0, .int .i64 0, .int .i64 0, .int .i64 0, .int .i64 0, .int .i64 0, .int .i64 0, .int .i64 0, .int .i64 0, .int .i64 0, .int .i64 0, .int .i64 0, .int .i64 0, .int .i64 0, .int .i64 0, .int .i64 0, .int .i64 0, .int .i64 0, .int .i64 0, .int .i64 0, .int .i64 0, .int .i64 0, .int .i64 0, .int .i64 0, .int .i64 0, .int .i64 0, .int .i64 0, .int .i64 0, .int .i64 0, .int .i64 0, .int .i64 0, .int .i64 0] 136) = w1 := by rw [hw1]; rfl
  rw [e1]
  have b1 : Below w.heap.size w w1 := by rw [hw1]; exact (below_alloc w _).alloc (by simp) _
  have S1 : LBlk w1 w.heap.size Z 136 := by
    rw [hw1]
    unfold LBlk
    rw [unhide HL]
    exact (Blk.new w L _).below (below_alloc _ _) (by simp)
  have R1 : Blk w1 (w.heap.size + 1) (List.replicate 50 (0 : Int)) 136 := by
    have := Blk.new (w.alloc (.cells (L.map (Value.int .i64)).toArray 136)) (List.replicate 50 (0 : Int)) 136
    rw [hw1]
    simpa using this
  clear e1 hw1 HL
  have HB1 := hide b1
  have HS1 := hide S1
  have HR1 := hide R1
  clear b1 S1 R1
  go_wp2_with fail
  refine (offs_any w1).mono ?_
  rintro e w2 ⟨rfl, b2⟩
  have S2 := (unhide HS1).below b2 (unhide HS1).lt
  have R2 := (unhide HR1).below b2 (unhide HR1).lt
  have B2 := (unhide HB1).trans (b2.mono (unhide HB1).size)
  have N2 : Blk (w2.alloc (.cells #[.int .i64 0, .int .i64 0, .int .i64 0, .int .i64 0, .int .i64 0, .int .i64 0, .int .i64 0, .int .i64 0, .int .i64 0, .int .i64 0, .int .i64 0, .int .i64 0, .int .i64 0, .int .i64 0, .int .i64 0, .int .i64 0, .int .i64 0, .int .i64 0, .int .i64 0, .int .i64 0, .int .i64 0, .int .i64 0, .int .i64 0, .int .i64 0, .int .i64 0] 171)) w2.heap.size (List.replicate 25 (0 : Int)) 171 := Blk.new w2 (List.replicate 25 (0 : Int)) 171
  have k3 := below_alloc w2 (.cells #[.int .i64 0, .int .i64 0, .int .i64 0, .int .i64 0, .int .i64 0, .int .i64 0, .int .i64 0, .int .i64 0, .int .i64 0, .int .i64 0, .int .i64 0, .int .i64 0, .int .i64 0, .int .i64 0, .int .i64 0, .int .i64 0, .int .i64 0, .int .i64 0, .int .i64 0, .int .i64 0, .int .i64 0, .int .i64 0, .int .i64 0, .int .i64 0, .int .i64 0] 171)
  obtain ⟨w3, hw3⟩ : ∃ w3, w3 = (w2.alloc (.cells #[.int .i64 0, .int .i64 0, .int .i64 0, .int .i64 0, .int .i64 0, .int .i64 0, .int .i64 0, .int .i64 0, .int .i64 0, .int .i64 0, .int .i64 0, .int .i64 0, .int .i64 0, .int .i64 0, .int .i64 0, .int .i64 0, .int .i64 0, .int .i64 0, .int .i64 0, .int .i64 0, .int .i64 0, .int .i64 0, .int .i64 0, .int .i64 0, .int .i64 0] 171)).setCells w2.heap.size 0 (offs.map (Value.int .i64)) := ⟨_, rfl⟩
  have HST : Hid ((Instr.storeAt 171 (.pointer (some ⟨w2.heap.size, 0, none⟩)) (.agg (offs.map (Value.int .i64)).toArray)).run Tryz.prog (w2.alloc (.cells #[.int .i64 0, .int .i64 0, .int .i64 0, .int .i64 0, .int .i64 0, .int .i64 0, .int .i64 0, .int .i64 0, .int .i64 0, .int .i64 0, .int .i64 0, .int .i64 0, .int .i64 0, .int .i64 0, .int .i64 0, .int .i64 0, .int .i64 0, .int .i64 0, .int .i64 0, .int .i64 0, .int .i64 0, .int .i64 0, .int .i64 0, .int .i64 0, .int .i64 0] 171)) = .ok () w3) := by
    show _ = _
    rw [run_storeAt_mid _ w2.heap.size 0 171 (offs.map (Value.int .i64)).toArray (there_blk N2 _ rfl) (by kernel_rfl) (all_int offs), hw3]
  have K3 : Below w2.heap.size w2 w3 := by rw [hw3]; exact below_setCells _ (Nat.le_refl _) _ _ _ k3
  have O3 : Blk w3 w2.heap.size offs 171 := by rw [hw3]; exact N2.store rfl
  have S3 := S2.below K3 S2.lt
  have R3 := R2.below K3 R2.lt
  have B3 := B2.trans (K3.mono B2.size)
  have D : w.heap.size + 1 < w2.heap.size := R2.lt
  have HS3 : Hid (LBlk w3 w.heap.size Z 136) := S3
  have HR3 := hide R3
  have HO3 := hide O3
  have HB3 := hide B3
  clear S2 R2 B2 N2 k3 K3 O3 S3 R3 B3 HS1 HR1 HB1 hw3 b2
  go_upto_block 0 with (refine wpList_store_eq rfl 171 (.tmp 3) (.tmp 17) rfl _ _ rfl rfl w3 (unhide HST) ?_)
  obtain ⟨w4, hw4⟩ : ∃ w4, w4 = w3.alloc (.cells #[.int .i64 0, .int .i64 0, .int .i64 0, .int .i64 0, .int .i64 0, .int .i64 0, .int .i64 0, .int .i64 0, .int .i64 0, .int .i64 0] 173) := ⟨_, rfl⟩
  rw [← hw4]
  have k4 : Below w3.heap.size w3 w4 := by rw [hw4]; exact below_alloc w3 _
  have C4 : LBlk w4 w3.heap.size (colAt Z 0) 173 := by
    show Blk w4 w3.heap.size (wordsL (List.replicate 5 0)) _
    rw [unhide HZ0, hw4]; exact Blk.new w3 (List.replicate 10 (0 : Int)) _
  have HS4 : Hid (LBlk w4 w.heap.size Z 136) := (unhide HS3).below k4 (unhide HS3).lt
  have HR4 := hide ((unhide HR3).below k4 (unhide HR3).lt)
  have HO4 := hide ((unhide HO3).below k4 (unhide HO3).lt)
  have HB4 := hide ((unhide HB3).trans (k4.mono (unhide HB3).size))
  have HC4 := hide C4
  have D3 : w2.heap.size < w3.heap.size := (unhide HO3).lt
  clear C4 k4 hw4 HS3 HR3 HO3 HB3 HST HZ0
  go_cut [5] (fun i wr => i = .int .i64 25 ∧ LBlk wr w.heap.size Z 136 ∧ Blk wr (w.heap.size + 1) (List.replicate 50 (0 : Int)) 136 ∧ Blk wr w2.heap.size offs 171 ∧ LBlk wr w3.heap.size (colAt Z 25) 173 ∧ Below w.heap.size w wr)
  case first =>
    go_wp2_with fail
    go_loopw [5] (fun i wr => ∃ k : Nat, k ≤ 25 ∧ i = .int .i64 k ∧ LBlk wr w.heap.size Z 136 ∧ Blk wr (w.heap.size + 1) (List.replicate 50 (0 : Int)) 136 ∧ Blk wr w2.heap.size offs 171 ∧ LBlk wr w3.heap.size (colAt Z k) 173 ∧ Below w.heap.size w wr)
      (fun i _ => 25 - (intOf i).toNat)
    case atStart => exact ⟨0, by omega, rfl, unhide HS4, unhide HR4, unhide HO4, unhide HC4, unhide HB4⟩
    case round =>
      obtain ⟨k, hk, rfl, hS, hR, hO, hC, hB⟩ := hrel
      clear HS4 HR4 HO4 HC4 HB4
      by_cases hlt : k < 25
      · obtain ⟨j, hj⟩ : ∃ j, j = k % 5 := ⟨_, rfl⟩
        have hj5 : j < 5 := by omega
        have hcl := colAt_props Z (unhide HZ).2 k
        have hcg : (colAt Z k).getD j 0 < 18446744073709551616 := getD_lt hcl.2 (by decide) _
        have hzg : Z.getD k 0 < 18446744073709551616 := getD_lt (unhide HZ).2 (by decide) _
        have c0 := hC.hi j (by omega)
        have c1 := hC.lo j (by omega)
        have l0 := hS.hi k (by omega)
        have l1 := hS.lo k (by omega)
        have f0 := Blk.free hC (j * 2)
        have f1 := Blk.free hC (j * 2 + 1)
        have HST := hide (colAt_succ Z k j hj)
        generalize (colAt Z k).getD j 0 = x at c0 c1 hcg HST
        generalize Z.getD k 0 = y at l0 l1 hzg HST
        have e5 : (k : Int).tmod 5 = (j : Int) := by rw [Int.tmod_eq_emod_of_nonneg (by omega)]; omega
        have i1 : (0 : Int) ≤ (j : Int) := by omega
        have i2 : (j : Int) < 5 := by omega
        have HX := hide (l2Xor_lane x y hcg hzg)
        have HCC := hide hC
        have HSS := hide hS
        have HRR := hide hR
        have HOO := hide hO
        have HBB := hide hB
        have hblk := Blk.lt hC
        clear hS hR hO hC hB hj hcl hcg hzg
        go_wp2_with fail
        first | (go_region_with (first | (go_at_call 101; refine ((unhide HX) _).mono ?_; rintro e w5 ⟨rfl, b5⟩; have u0 := (b5.cell (p := ⟨w3.heap.size, j * 2, none⟩) (by exact hblk)).trans c0; have u1 := (b5.cell (p := ⟨w3.heap.size, j * 2 + 1, none⟩) (by exact hblk)).trans c1; have v0 := (b5.frozen (p := ⟨w3.heap.size, j * 2, none⟩) (by exact hblk)).trans f0; have v1 := (b5.frozen (p := ⟨w3.heap.size, j * 2 + 1, none⟩) (by exact hblk)).trans f1))) | fail
        all_goals
          have K5 : Below wr.heap.size wr w5 := ((Below.refl _ _).drew).trans b5
          have HC5 : Hid (LBlk _ _ _ _) := LBlk.set ((unhide HCC).below K5 hblk) j (x ^^^ y)
          have HS5 : Hid (LBlk _ _ _ _) := LBlk.other ((unhide HSS).below K5 (unhide HSS).lt) (b' := w3.heap.size) (j * 2) (j * 2 + 1) (.int .i64 (hiW (x ^^^ y) : Int)) (.int .i64 (loW (x ^^^ y) : Int)) (by omega)
          have HR5 := hide ((((unhide HRR).below K5 (unhide HRR).lt).other (b' := w3.heap.size) (j * 2) (.int .i64 (hiW (x ^^^ y) : Int)) (by omega)).other (b' := w3.heap.size) (j * 2 + 1) (.int .i64 (loW (x ^^^ y) : Int)) (by omega))
          have HO5 := hide ((((unhide HOO).below K5 (unhide HOO).lt).other (b' := w3.heap.size) (j * 2) (.int .i64 (hiW (x ^^^ y) : Int)) (by omega)).other (b' := w3.heap.size) (j * 2 + 1) (.int .i64 (loW (x ^^^ y) : Int)) (by omega))
          have HB5 := hide ((((unhide HBB).trans (K5.mono (unhide HBB).size)).setCell (p := ⟨w3.heap.size, j * 2, none⟩) (by show w.heap.size ≤ w3.heap.size; omega) (.int .i64 (hiW (x ^^^ y) : Int))).setCell (p := ⟨w3.heap.size, j * 2 + 1, none⟩) (by show w.heap.size ≤ w3.heap.size; omega) (.int .i64 (loW (x ^^^ y) : Int)))
          clear K5 b5 HCC HSS HRR HOO HBB c0 c1 l0 l1 f0 f1
          go_wp2_with fail
          go_roundw
          case rel => exact ⟨k + 1, by omega, by go_num, unhide HS5, unhide HR5, unhide HO5, by rw [unhide HST]; exact unhide HC5, unhide HB5⟩
          case measure => simp [intOf]; omega
      · obtain rfl : k = 25 := by omega
        go_wp2_with fail
        go_meet
        exact ⟨rfl, hS, hR, hO, hC, hB⟩
  case rest =>
    obtain ⟨rfl, hS, hR, hO, hC, hB⟩ := hcut
    have HC5 := hide hC
    have HS5 := hide hS
    have HR5 := hide hR
    have HO5 := hide hO
    have HB5 := hide hB
    clear hC hS hR hO hB HS4 HR4 HO4 HC4 HB4
    have hcp := colAt_props Z (unhide HZ).2 25
    generalize hcg : colAt Z 25 = C at HC5 hcp
    have HCG := hide hcg
    have HCP := hide hcp
    have clen := hcp.1
    clear hcg hcp
    go_upto_region 7 with fail
    have N6 : Blk (wc.alloc (.cells #[.int .i64 0, .int .i64 0, .int .i64 0, .int .i64 0, .int .i64 0, .int .i64 0, .int .i64 0, .int .i64 0, .int .i64 0, .int .i64 0, .int .i64 0, .int .i64 0, .int .i64 0, .int .i64 0, .int .i64 0, .int .i64 0, .int .i64 0, .int .i64 0, .int .i64 0, .int .i64 0, .int .i64 0, .int .i64 0, .int .i64 0, .int .i64 0, .int .i64 0, .int .i64 0, .int .i64 0, .int .i64 0, .int .i64 0, .int .i64 0, .int .i64 0, .int .i64 0, .int .i64 0, .int .i64 0, .int .i64 0, .int .i64 0, .int .i64 0, .int .i64 0, .int .i64 0, .int .i64 0, .int .i64 0, .int .i64 0, .int .i64 0, .int .i64 0, .int .i64 0, .int .i64 0, .int .i64 0, .int .i64 0, .int .i64 0, .int .i64 0] 136)) wc.heap.size (List.replicate 50 (0 : Int)) 136 := Blk.new wc (List.replicate 50 (0 : Int)) 136
    have k6 := below_alloc wc (.cells #[.int .i64 0, .int .i64 0, .int .i64 0, .int .i64 0, .int .i64 0, .int .i64 0, .int .i64 0, .int .i64 0, .int .i64 0, .int .i64 0, .int .i64 0, .int .i64 0, .int .i64 0, .int .i64 0, .int .i64 0, .int .i64 0, .int .i64 0, .int .i64 0, .int .i64 0, .int .i64 0, .int .i64 0, .int .i64 0, .int .i64 0, .int .i64 0, .int .i64 0, .int .i64 0, .int .i64 0, .int .i64 0, .int .i64 0, .int .i64 0, .int .i64 0, .int .i64 0, .int .i64 0, .int .i64 0, .int .i64 0, .int .i64 0, .int .i64 0, .int .i64 0, .int .i64 0, .int .i64 0, .int .i64 0, .int .i64 0, .int .i64 0, .int .i64 0, .int .i64 0, .int .i64 0, .int .i64 0, .int .i64 0, .int .i64 0, .int .i64 0] 136)
    obtain ⟨w6, hw6⟩ : ∃ w6, w6 = (wc.alloc (.cells #[.int .i64 0, .int .i64 0, .int .i64 0, .int .i64 0, .int .i64 0, .int .i64 0, .int .i64 0, .int .i64 0, .int .i64 0, .int .i64 0, .int .i64 0, .int .i64 0, .int .i64 0, .int .i64 0, .int .i64 0, .int .i64 0, .int .i64 0, .int .i64 0, .int .i64 0, .int .i64 0, .int .i64 0, .int .i64 0, .int .i64 0, .int .i64 0, .int .i64 0, .int .i64 0, .int .i64 0, .int .i64 0, .int .i64 0, .int .i64 0, .int .i64 0, .int .i64 0, .int .i64 0, .int .i64 0, .int .i64 0, .int .i64 0, .int .i64 0, .int .i64 0, .int .i64 0, .int .i64 0, .int .i64 0, .int .i64 0, .int .i64 0, .int .i64 0, .int .i64 0, .int .i64 0, .int .i64 0, .int .i64 0, .int .i64 0, .int .i64 0] 136)).setCells wc.heap.size 0 ((List.replicate 50 (0 : Int)).map (Value.int .i64)) := ⟨_, rfl⟩
    have HST : Hid ((Instr.storeAt 136 (.pointer (some ⟨wc.heap.size, 0, none⟩)) (.agg #[.int .i64 0, .int .i64 0, .int .i64 0, .int .i64 0, .int .i64 0, .int .i64 0, .int .i64 0, .int .i64 0, .int .i64 0, .int .i64 0, .int .i64 0, .int .i64 0, .int .i64 0, .int .i64 0, .int .i64 0, .int .i64 0, .int .i64 0, .int .i64 0, .int .i64 0, .int .i64 0, .int .i64 0, .int .i64 0, .int .i64 0, .int .i64 0, .int .i64 0, .int .i64 0, .int .i64 0, .int .i64 0, .int .i64 0, .int .i64 0, .int .i64 0, .int .i64 0, .int .i64 0, .int .i64 0, .int .i64 0, .int .i64 0, .int .i64 0, .int .i64 0, .int .i64 0, .int .i64 0, .int .i64 0, .int .i64 0, .int .i64 0, .int .i64 0, .int .i64 0, .int .i64 0, .int .i64 0, .int .i64 0, .int .i64 0, .int .i64 0])).run Tryz.prog (wc.alloc (.cells #[.int .i64 0, .int .i64 0, .int .i64 0, .int .i64 0, .int .i64 0, .int .i64 0, .int .i64 0, .int .i64 0, .int .i64 0, .int .i64 0, .int .i64 0, .int .i64 0, .int .i64 0, .int .i64 0, .int .i64 0, .int .i64 0, .int .i64 0, .int .i64 0, .int .i64 0, .int .i64 0, .int .i64 0, .int .i64 0, .int .i64 0, .int .i64 0, .int .i64 0, .int .i64 0, .int .i64 0, .int .i64 0, .int .i64 0, .int .i64 0, .int .i64 0, .int .i64 0, .int .i64 0, .int .i64 0, .int .i64 0, .int .i64 0, .int .i64 0, .int .i64 0, .int .i64 0, .int .i64 0, .int .i64 0, .int .i64 0, .int .i64 0, .int .i64 0, .int .i64 0, .int .i64 0, .int .i64 0, .int .i64 0, .int .i64 0, .int .i64 0] 136)) = .ok () w6) := by
      have := run_storeAt_mid (P := Tryz.prog) (wc.alloc (.cells #[.int .i64 0, .int .i64 0, .int .i64 0, .int .i64 0, .int .i64 0, .int .i64 0, .int .i64 0, .int .i64 0, .int .i64 0, .int .i64 0, .int .i64 0, .int .i64 0, .int .i64 0, .int .i64 0, .int .i64 0, .int .i64 0, .int .i64 0, .int .i64 0, .int .i64 0, .int .i64 0, .int .i64 0, .int .i64 0, .int .i64 0, .int .i64 0, .int .i64 0, .int .i64 0, .int .i64 0, .int .i64 0, .int .i64 0, .int .i64 0, .int .i64 0, .int .i64 0, .int .i64 0, .int .i64 0, .int .i64 0, .int .i64 0, .int .i64 0, .int .i64 0, .int .i64 0, .int .i64 0, .int .i64 0, .int .i64 0, .int .i64 0, .int .i64 0, .int .i64 0, .int .i64 0, .int .i64 0, .int .i64 0, .int .i64 0, .int .i64 0] 136)) wc.heap.size 0 136 ((List.replicate 50 (0 : Int)).map (Value.int .i64)).toArray (there_blk N6 _ rfl) (by kernel_rfl) (all_int _)
      rw [hw6]
      exact this
    have K6 : Below wc.heap.size wc w6 := by rw [hw6]; exact below_setCells _ (Nat.le_refl _) _ _ _ k6
    have O6 : LBlk w6 wc.heap.size (bAt (theta Z) 0) 136 := by
      show Blk w6 wc.heap.size (wordsL (List.replicate 25 0)) _
      rw [wordsL_zero, hw6]; exact N6.store rfl
    have HS6 : Hid (LBlk w6 w.heap.size Z 136) := (unhide HS5).below K6 (unhide HS5).lt
    have HR6 := hide ((unhide HR5).below K6 (unhide HR5).lt)
    have HO6 := hide ((unhide HO5).below K6 (unhide HO5).lt)
    have HC6 : Hid (LBlk w6 w3.heap.size C 173) := (unhide HC5).below K6 (unhide HC5).lt
    have HB6 := hide ((unhide HB5).trans (K6.mono (unhide HB5).size))
    have HN6 := hide O6
    have D6 : w3.heap.size < wc.heap.size := Blk.lt (unhide HC5)
    clear N6 k6 hw6 K6 O6 HS5 HR5 HO5 HC5 HB5
    go_upto_block 2 with (refine wpList_store_eq rfl 136 (.tmp 6) (.tmp 34) rfl _ _ rfl rfl w6 (unhide HST) ?_)
    clear HST
    generalize Value.agg #[.int .i64 0, .int .i64 0, .int .i64 0, .int .i64 0, .int .i64 0, .int .i64 0, .int .i64 0, .int .i64 0, .int .i64 0, .int .i64 0, .int .i64 0, .int .i64 0, .int .i64 0, .int .i64 0, .int .i64 0, .int .i64 0, .int .i64 0, .int .i64 0, .int .i64 0, .int .i64 0, .int .i64 0, .int .i64 0, .int .i64 0, .int .i64 0, .int .i64 0, .int .i64 0, .int .i64 0, .int .i64 0, .int .i64 0, .int .i64 0, .int .i64 0, .int .i64 0, .int .i64 0, .int .i64 0, .int .i64 0, .int .i64 0, .int .i64 0, .int .i64 0, .int .i64 0, .int .i64 0, .int .i64 0, .int .i64 0, .int .i64 0, .int .i64 0, .int .i64 0, .int .i64 0, .int .i64 0, .int .i64 0, .int .i64 0, .int .i64 0] = z50
    generalize Value.agg #[.int .i64 0, .int .i64 0, .int .i64 0, .int .i64 0, .int .i64 0, .int .i64 0, .int .i64 0, .int .i64 0, .int .i64 0, .int .i64 0] = z10
    generalize hq : wc.heap.size = q at HN6 D6 ⊢
    clear hq
    go_cut [7] (fun i wr => i = .int .i64 25 ∧ LBlk wr w.heap.size Z 136 ∧ Blk wr (w.heap.size + 1) (List.replicate 50 (0 : Int)) 136 ∧ Blk wr w2.heap.size offs 171 ∧ LBlk wr w3.heap.size C 173 ∧ LBlk wr q (bAt (theta Z) 25) 136 ∧ Below w.heap.size w wr)
    case first =>
      go_wp2_with fail
      go_loopw [7, 8, 9, 10] (fun i x y p wr => ∃ k : Nat, k ≤ 25 ∧ i = .int .i64 k ∧ LBlk wr w.heap.size Z 136 ∧ Blk wr (w.heap.size + 1) (List.replicate 50 (0 : Int)) 136 ∧ Blk wr w2.heap.size offs 171 ∧ LBlk wr w3.heap.size C 173 ∧ LBlk wr q (bAt (theta Z) k) 136 ∧ Below w.heap.size w wr)
        (fun i _ _ _ _ => 25 - (intOf i).toNat)
      case atStart => exact ⟨0, by omega, rfl, unhide HS6, unhide HR6, unhide HO6, unhide HC6, unhide HN6, unhide HB6⟩
      case round =>
        obtain ⟨k, hk, rfl, hS, hR, hO, hC, hN, hB⟩ := hrel
        clear HS6 HR6 HO6 HC6 HN6 HB6
        by_cases hlt : k < 25
        · obtain ⟨X, hX⟩ : ∃ X, X = k % 5 := ⟨_, rfl⟩
          obtain ⟨Y, hY⟩ : ∃ Y, Y = k / 5 := ⟨_, rfl⟩
          have hX5 : X < 5 := by omega
          have hY5 : Y < 5 := by omega
          have eX : (k : Int).tmod 5 = (X : Int) := by rw [Int.tmod_eq_emod_of_nonneg (by omega)]; omega
          have eY : (k : Int).tdiv 5 = (Y : Int) := by rw [Int.tdiv_eq_ediv_of_nonneg (by omega)]; omega
          obtain ⟨a4, h4⟩ : ∃ a4, a4 = (X + 4) % 5 := ⟨_, rfl⟩
          obtain ⟨a1, h1⟩ : ∃ a1, a1 = (X + 1) % 5 := ⟨_, rfl⟩
          have h45 : a4 < 5 := by omega
          have h15 : a1 < 5 := by omega
          have e4 : ((X : Int) + 4).tmod 5 = (a4 : Int) := by rw [Int.tmod_eq_emod_of_nonneg (by omega)]; omega
          have e1 : ((X : Int) + 1).tmod 5 = (a1 : Int) := by rw [Int.tmod_eq_emod_of_nonneg (by omega)]; omega
          have eX' : (k : Int) % 5 = (X : Int) := by omega
          have eY' : (k : Int) / 5 = (Y : Int) := by omega
          have e4' : ((X : Int) + 4) % 5 = (a4 : Int) := by omega
          have e1' : ((X : Int) + 1) % 5 = (a1 : Int) := by omega
          have j4 : (0 : Int) ≤ (a4 : Int) := by omega
          have j1 : (0 : Int) ≤ (a1 : Int) := by omega
          have c40 := hC.hi a4 (by omega)
          have c41 := hC.lo a4 (by omega)
          have c10 := hC.hi a1 (by omega)
          have c11 := hC.lo a1 (by omega)
          have hdv : dOf C X = C.getD a4 0 ^^^ rotL (C.getD a1 0) 1 := by rw [h4, h1]; rfl
          have HDV := hide hdv
          have hc4 : C.getD a4 0 < 18446744073709551616 := getD_lt (unhide HCP).2 (by decide) _
          have hc1 : C.getD a1 0 < 18446744073709551616 := getD_lt (unhide HCP).2 (by decide) _
          generalize C.getD a4 0 = v4 at c40 c41 HDV hc4
          generalize C.getD a1 0 = v1 at c10 c11 HDV hc1
          have HT := hide (l2Turn_laneE v1 1 hc1 (by omega))
          have HX := hide (l2Xor_laneE v4 (rotL v1 1) hc4 (rot_lt _ 1 hc1 (by omega)))
          have hcb : w3.heap.size < wr.heap.size := Blk.lt hC
          have i1 : (0 : Int) ≤ (X : Int) := by omega
          have i4 : (a4 : Int) < 5 := by omega
          have i5 : (a1 : Int) < 5 := by omega
          have HK : Hid (∀ W, Below wr.heap.size wr W → (W.cell? ⟨w3.heap.size, a4 * 2, none⟩ = some (.int .i64 (hiW v4 : Int)) ∧ W.cell? ⟨w3.heap.size, a4 * 2 + 1, none⟩ = some (.int .i64 (loW v4 : Int)) ∧ W.cell? ⟨w3.heap.size, a1 * 2, none⟩ = some (.int .i64 (hiW v1 : Int)) ∧ W.cell? ⟨w3.heap.size, a1 * 2 + 1, none⟩ = some (.int .i64 (loW v1 : Int)) ∧ Below wr.heap.size wr W)) :=
            fun W h => ⟨(h.cell hcb).trans c40, (h.cell hcb).trans c41, (h.cell hcb).trans c10, (h.cell hcb).trans c11, h⟩
          have hb0 : Below wr.heap.size wr wr.drew := (Below.refl _ _).drew
          have HSS := hide hS
          have HRR := hide hR
          have HOO := hide hO
          have HCC := hide hC
          have HNN := hide hN
          have HBB := hide hB
          have HXX := hide hX
          have HYY := hide hY
          clear hS hR hO hC hN hB hX hY c40 c41 c10 c11 hdv h4 h1 hc4 hc1
          have hdk : decide ((k : Int) < 25) = true := decide_eq_true (by omega)
          have k5 : (X : Int) < 5 := by omega
          have k6 : (Y : Int) < 5 := by omega
          have q4 : IntKind.i64.wrap ((X : Int) + 4) = (X : Int) + 4 := i64_fits _ (by omega) (by omega)
          have q1 : IntKind.i64.wrap ((X : Int) + 1) = (X : Int) + 1 := i64_fits _ (by omega) (by omega)
          refine wp_hide (fun Kx hQx hQy => ?_)
          go_upto_region 13 with fail
          go_cut [10] (fun dp wx => ∃ bd, dp = .pointer (some ⟨bd, 0, none⟩) ∧ wr.heap.size ≤ bd ∧ wx.cell? ⟨bd, 0, none⟩ = some (.int .i64 (hiW (v4 ^^^ rotL v1 1) : Int)) ∧ wx.cell? ⟨bd, 1, none⟩ = some (.int .i64 (loW (v4 ^^^ rotL v1 1) : Int)) ∧ Below wr.heap.size wr wx)
          case first =>
            obtain ⟨q40, q41, q10, q11, _⟩ := (unhide HK) wr (Below.refl _ _)
            have n1 : w3.heap.size < wr.heap.size + 1 := by omega
            have n2 : w3.heap.size < wr.heap.size + 1 + 1 := by omega
            have n3 : w3.heap.size < wr.heap.size + 1 + 1 + 1 := by omega
            have n4 : w3.heap.size < wr.heap.size + 1 + 1 + 1 + 1 := by omega
            have n5 : w3.heap.size < wr.heap.size + 1 + 1 + 1 + 1 + 1 := by omega
            have n6 : w3.heap.size < wr.heap.size + 1 + 1 + 1 + 1 + 1 + 1 := by omega
            clear HK HSS HRR HOO HCC HNN HBB HXX HYY HZ HCG HCP HDV
            go_region_with (first
                | (go_at_call 140; refine ((unhide HT) _).mono ?_; rintro e w7 ⟨rfl, o1, o2, m1, rfl⟩)
                | (go_at_call 101; refine ((unhide HX) _).mono ?_; rintro e w8 ⟨rfl, o3, o4, o5, rfl⟩))
            all_goals
              go_wp2_with fail
              go_meet
              refine ⟨_, rfl, ?_, ?_, ?_, ?_⟩
              · omega
              · first | (simp [go_sem]; done) | (simp [go_sem]; exact World.cell?_setCell_same' _ _ _ (by simp [go_sem]))
              · first | (simp [go_sem]; done) | (simp [go_sem]; exact World.cell?_setCell_same' _ _ _ (by simp [go_sem]))
              · repeat (first | exact Below.refl _ _ | (refine Below.alloc ?_ (by first | (simp; done) | (simp; omega)) _) | (refine below_drewN ?_ _) | (refine Below.setCell ?_ (by first | (simp; done) | (simp; omega)) _) | (refine Below.drew ?_))
          case rest =>
            obtain ⟨bd, rfl, hbd, d0, d1, hb⟩ := hcut
            have hqb : q < bd := Nat.lt_of_lt_of_le (Blk.lt (unhide HNN)) hbd
            have hS := (unhide HSS).below hb (unhide HSS).lt
            have hR := (unhide HRR).below hb (unhide HRR).lt
            have hO := (unhide HOO).below hb (unhide HOO).lt
            have hC := (unhide HCC).below hb (unhide HCC).lt
            have hN : LBlk wc q (bAt (theta Z) k) 136 := (unhide HNN).below hb (unhide HNN).lt
            have hB := (unhide HBB).trans (hb.mono (unhide HBB).size)
            obtain ⟨r, hr⟩ : ∃ r, r = (2 * X + 3 * Y) % 5 := ⟨_, rfl⟩
            have er : (2 * (X : Int) + 3 * (Y : Int)).tmod 5 = (r : Int) := by rw [Int.tmod_eq_emod_of_nonneg (by omega)]; omega
            have er' : (2 * (X : Int) + 3 * (Y : Int)) % 5 = (r : Int) := by omega
            obtain ⟨p, hp⟩ : ∃ p, p = Y + 5 * r := ⟨_, rfl⟩
            have ep : (Y : Int) + 5 * (r : Int) = (p : Int) := by omega
            have hpos : posOf k = p := by unfold posOf; rw [← unhide HXX, ← unhide HYY, ← hr, ← hp]
            have hp25 : p < 25 := by omega
            have ip1 : (0 : Int) ≤ (p : Int) := by omega
            have ip2 : (p : Int) < 25 := by omega
            have ik1 : (0 : Int) ≤ (k : Int) := by omega
            have ik2 : (k : Int) < 25 := by omega
            have hlanes := bAt_lanes (theta_lanes (unhide HZ)) k
            have l0 := LBlk.hi hS k (by omega)
            have l1 := LBlk.lo hS k (by omega)
            have o0 := Blk.cell hO k (by simp [offs]; omega)
            rw [offs_nat k hlt] at o0
            have n0 := LBlk.hi hN p (by rw [hlanes.1]; omega)
            have n1 := LBlk.lo hN p (by rw [hlanes.1]; omega)
            have nf0 := Blk.free hN (p * 2)
            have nf1 := Blk.free hN (p * 2 + 1)
            have hzg : Z.getD k 0 < 18446744073709551616 := getD_lt (unhide HZ).2 (by decide) _
            have hdl : v4 ^^^ rotL v1 1 < 18446744073709551616 := by
              have := dOf_lt (unhide HCP).2 X
              rwa [unhide HDV] at this
            have hth : (theta Z).getD k 0 = Z.getD k 0 ^^^ (v4 ^^^ rotL v1 1) := by
              unfold theta
              rw [getDn_map _ _ _ hlt, unhide HCG, ← unhide HXX, unhide HDV]
            have hsucc := bAt_succ (theta Z) k
            rw [hpos, hth] at hsucc
            have HSUC := hide hsucc
            have hoff := offN_le k
            generalize (bAt (theta Z) k).getD p 0 = bv at n0 n1
            generalize Z.getD k 0 = zk at l0 l1 hzg HSUC
            generalize offN.getD k 0 = nk at o0 HSUC hoff
            generalize v4 ^^^ rotL v1 1 = dv at d0 d1 hdl HSUC
            have HX2 := hide (l2Xor_lane zk dv hzg hdl)
            have HT2 := hide (l2Turn_lane (zk ^^^ dv) nk (xor_lt hzg hdl) hoff)
            have LQ : q < wc.heap.size := Blk.lt hN
            have LO : w2.heap.size < wc.heap.size := Blk.lt hO
            have LS : w.heap.size < wc.heap.size := Blk.lt hS
            have LD : bd < wc.heap.size := lt_of_cell d0
            have HK4 : Hid (∀ W, Below wc.heap.size wc W → (W.cell? ⟨w.heap.size, k * 2, none⟩ = some (.int .i64 (hiW zk : Int)) ∧ W.cell? ⟨w.heap.size, k * 2 + 1, none⟩ = some (.int .i64 (loW zk : Int)) ∧ W.cell? ⟨w2.heap.size, k, none⟩ = some (.int .i64 (nk : Int)) ∧ W.cell? ⟨bd, 0, none⟩ = some (.int .i64 (hiW dv : Int)) ∧ W.cell? ⟨bd, 1, none⟩ = some (.int .i64 (loW dv : Int)))) :=
              fun W h => ⟨(h.cell (p := ⟨w.heap.size, k * 2, none⟩) LS).trans l0, (h.cell (p := ⟨w.heap.size, k * 2 + 1, none⟩) LS).trans l1, (h.cell (p := ⟨w2.heap.size, k, none⟩) LO).trans o0, (h.cell (p := ⟨bd, 0, none⟩) LD).trans d0, (h.cell (p := ⟨bd, 1, none⟩) LD).trans d1⟩
            have HK5 : Hid (∀ W x y, Below wc.heap.size wc W → (((W.setCell ⟨q, p * 2, none⟩ x).setCell ⟨q, p * 2 + 1, none⟩ y).cell? ⟨w.heap.size, k * 2, none⟩ = some (.int .i64 (hiW zk : Int)) ∧ ((W.setCell ⟨q, p * 2, none⟩ x).setCell ⟨q, p * 2 + 1, none⟩ y).cell? ⟨w.heap.size, k * 2 + 1, none⟩ = some (.int .i64 (loW zk : Int)) ∧ ((W.setCell ⟨q, p * 2, none⟩ x).setCell ⟨q, p * 2 + 1, none⟩ y).cell? ⟨w2.heap.size, k, none⟩ = some (.int .i64 (nk : Int)) ∧ ((W.setCell ⟨q, p * 2, none⟩ x).setCell ⟨q, p * 2 + 1, none⟩ y).cell? ⟨bd, 0, none⟩ = some (.int .i64 (hiW dv : Int)) ∧ ((W.setCell ⟨q, p * 2, none⟩ x).setCell ⟨q, p * 2 + 1, none⟩ y).cell? ⟨bd, 1, none⟩ = some (.int .i64 (loW dv : Int)))) :=
              fun W x y h => ⟨(cell_other2 _ _ _ _ _ (by omega)).trans ((unhide HK4) W h).1, (cell_other2 _ _ _ _ _ (by omega)).trans ((unhide HK4) W h).2.1, (cell_other2 _ _ _ _ _ (by omega)).trans ((unhide HK4) W h).2.2.1, (cell_other2 _ _ _ _ _ (by omega)).trans ((unhide HK4) W h).2.2.2.1, (cell_other2 _ _ _ _ _ (by omega)).trans ((unhide HK4) W h).2.2.2.2⟩
            have hb4 : Below wc.heap.size wc wc.drew := (Below.refl _ _).drew
            have HS7 : Hid (LBlk wc w.heap.size Z 136) := hS
            have HR7 := hide hR
            have HO7 := hide hO
            have HC7 : Hid (LBlk wc w3.heap.size C 173) := hC
            have HN7 := hide hN
            have HB7 := hide hB
            clear l0 l1 o0 d0 d1 hS hR hO hC hN hB hr hp hpos hlanes hth hsucc hb hzg hdl hoff HT HX HK HDV HSS HRR HOO HCC HNN HBB
            have y1 : IntKind.i64.wrap (2 * (X : Int)) = 2 * (X : Int) := i64_fits _ (by omega) (by omega)
            have y2 : IntKind.i64.wrap (3 * (Y : Int)) = 3 * (Y : Int) := i64_fits _ (by omega) (by omega)
            have y3 : IntKind.i64.wrap (2 * (X : Int) + 3 * (Y : Int)) = 2 * (X : Int) + 3 * (Y : Int) := i64_fits _ (by omega) (by omega)
            have y4 : IntKind.i64.wrap (5 * (r : Int)) = 5 * (r : Int) := i64_fits _ (by omega) (by omega)
            have y6 : IntKind.i64.wrap (p : Int) = (p : Int) := i64_fits _ (by omega) (by omega)
            have y5 : IntKind.i64.wrap ((Y : Int) + 5 * (r : Int)) = (Y : Int) + 5 * (r : Int) := i64_fits _ (by omega) (by omega)
            go_wp2_with fail
            go_region_held3 (fun W => W.cell? ⟨w.heap.size, k * 2, none⟩ = some (.int .i64 (hiW zk : Int)) ∧ W.cell? ⟨w.heap.size, k * 2 + 1, none⟩ = some (.int .i64 (loW zk : Int)) ∧ W.cell? ⟨w2.heap.size, k, none⟩ = some (.int .i64 (nk : Int)) ∧ W.cell? ⟨bd, 0, none⟩ = some (.int .i64 (hiW dv : Int)) ∧ W.cell? ⟨bd, 1, none⟩ = some (.int .i64 (loW dv : Int)))
              (first | (exact (unhide HK4) _ (by assumption)) | (exact (unhide HK5) _ _ _ (by assumption)))
              (first
                | (go_at_call 101; refine ((unhide HX2) _).mono ?_; rintro e w8 ⟨rfl, b8⟩; have g8 : Below wc.heap.size wc w8 := bcall (by assumption) b8; have x0 := (b8.cell (p := ⟨q, p * 2, none⟩) (by exact LQ)).trans n0; have x1 := (b8.cell (p := ⟨q, p * 2 + 1, none⟩) (by exact LQ)).trans n1; have y0 := (b8.frozen (p := ⟨q, p * 2, none⟩) (by exact LQ)).trans nf0; have y1 := (b8.frozen (p := ⟨q, p * 2 + 1, none⟩) (by exact LQ)).trans nf1)
                | (go_at_call 140; refine ((unhide HT2) _).mono ?_; rintro e w9 ⟨rfl, b9⟩; have g9 : Below wc.heap.size wc w9 := bcall g8 b9; have x2 := (b9.cell (p := ⟨q, p * 2, none⟩) (lt_of_cell x0)).trans x0; have x3 := (b9.cell (p := ⟨q, p * 2 + 1, none⟩) (lt_of_cell x1)).trans x1; have y2 := (b9.frozen (p := ⟨q, p * 2, none⟩) (lt_of_cell x0)).trans y0; have y3 := (b9.frozen (p := ⟨q, p * 2 + 1, none⟩) (lt_of_cell x1)).trans y1))
            all_goals
              have K9 : Below wc.heap.size wc w9 := bcall (((Below.refl _ _).drew).trans b8) b9
              have HN9 : Hid (LBlk _ _ _ _) := LBlk.set ((unhide HN7).below K9 LQ) p (rotL (zk ^^^ dv) nk)
              have HS9 : Hid (LBlk _ _ _ _) := LBlk.other ((unhide HS7).below K9 (unhide HS7).lt) (b' := q) (p * 2) (p * 2 + 1) (.int .i64 (hiW (rotL (zk ^^^ dv) nk) : Int)) (.int .i64 (loW (rotL (zk ^^^ dv) nk) : Int)) (by omega)
              have HC9 : Hid (LBlk _ _ _ _) := LBlk.other ((unhide HC7).below K9 (unhide HC7).lt) (b' := q) (p * 2) (p * 2 + 1) (.int .i64 (hiW (rotL (zk ^^^ dv) nk) : Int)) (.int .i64 (loW (rotL (zk ^^^ dv) nk) : Int)) (by omega)
              have HR9 := hide ((((unhide HR7).below K9 (unhide HR7).lt).other (b' := q) (p * 2) (.int .i64 (hiW (rotL (zk ^^^ dv) nk) : Int)) (by omega)).other (b' := q) (p * 2 + 1) (.int .i64 (loW (rotL (zk ^^^ dv) nk) : Int)) (by omega))
              have HO9 := hide ((((unhide HO7).below K9 (unhide HO7).lt).other (b' := q) (p * 2) (.int .i64 (hiW (rotL (zk ^^^ dv) nk) : Int)) (by omega)).other (b' := q) (p * 2 + 1) (.int .i64 (loW (rotL (zk ^^^ dv) nk) : Int)) (by omega))
              have HB9 := hide ((((unhide HB7).trans (K9.mono (unhide HB7).size)).setCell (p := ⟨q, p * 2, none⟩) (by show w.heap.size ≤ q; omega) (.int .i64 (hiW (rotL (zk ^^^ dv) nk) : Int))).setCell (p := ⟨q, p * 2 + 1, none⟩) (by show w.heap.size ≤ q; omega) (.int .i64 (loW (rotL (zk ^^^ dv) nk) : Int)))
              clear K9 b8 b9
              go_wp2_with fail
              refine (unhide hQx) _ _ ?_
              go_roundw
              case rel =>
                repeat apply Exists.intro
                exact ⟨⟨k + 1, by omega, by go_num, unhide HS9, unhide HR9, unhide HO9, unhide HC9, by rw [unhide HSUC]; exact unhide HN9, unhide HB9⟩, rfl⟩
              case measure => simp [intOf]; omega
        · obtain rfl : k = 25 := by omega
          have hdk : decide (((25 : Nat) : Int) < 25) = false := rfl
          go_wp2_with fail
          go_meet
          exact ⟨rfl, hS, hR, hO, hC, hN, hB⟩
    case rest =>
      clear HS6 HR6 HO6 HC6 HN6 HB6
      obtain ⟨rfl, hS, hR, hO, hC, hN, hB⟩ := hcut
      have hBL := bAt_lanes (theta_lanes (unhide HZ)) 25
      obtain ⟨B, hBg⟩ : ∃ B, B = bAt (theta Z) 25 := ⟨_, rfl⟩
      rw [← hBg] at hN hBL
      have HRF : Hid (roundF Z = chi B) := by show _ = _; unfold roundF; rw [hBg]
      have HBL := hide hBL
      have blen := hBL.1
      have HR8 := hide hR
      have HN8 := hide hN
      have HB8 := hide hB
      have hqw : q < wc.heap.size := Blk.lt hN
      have hrw : w.heap.size + 1 < wc.heap.size := Blk.lt hR
      clear hS hR hO hC hN hB hBg hBL
      go_upto_region 15 with fail
      have N9 : Blk (wc.alloc (.cells #[.int .i64 0, .int .i64 0, .int .i64 0, .int .i64 0, .int .i64 0, .int .i64 0, .int .i64 0, .int .i64 0, .int .i64 0, .int .i64 0, .int .i64 0, .int .i64 0, .int .i64 0, .int .i64 0, .int .i64 0, .int .i64 0, .int .i64 0, .int .i64 0, .int .i64 0, .int .i64 0, .int .i64 0, .int .i64 0, .int .i64 0, .int .i64 0, .int .i64 0, .int .i64 0, .int .i64 0, .int .i64 0, .int .i64 0, .int .i64 0, .int .i64 0, .int .i64 0, .int .i64 0, .int .i64 0, .int .i64 0, .int .i64 0, .int .i64 0, .int .i64 0, .int .i64 0, .int .i64 0, .int .i64 0, .int .i64 0, .int .i64 0, .int .i64 0, .int .i64 0, .int .i64 0, .int .i64 0, .int .i64 0, .int .i64 0, .int .i64 0] 136)) wc.heap.size (List.replicate 50 (0 : Int)) 136 := Blk.new wc (List.replicate 50 (0 : Int)) 136
      have k9 := below_alloc wc (.cells #[.int .i64 0, .int .i64 0, .int .i64 0, .int .i64 0, .int .i64 0, .int .i64 0, .int .i64 0, .int .i64 0, .int .i64 0, .int .i64 0, .int .i64 0, .int .i64 0, .int .i64 0, .int .i64 0, .int .i64 0, .int .i64 0, .int .i64 0, .int .i64 0, .int .i64 0, .int .i64 0, .int .i64 0, .int .i64 0, .int .i64 0, .int .i64 0, .int .i64 0, .int .i64 0, .int .i64 0, .int .i64 0, .int .i64 0, .int .i64 0, .int .i64 0, .int .i64 0, .int .i64 0, .int .i64 0, .int .i64 0, .int .i64 0, .int .i64 0, .int .i64 0, .int .i64 0, .int .i64 0, .int .i64 0, .int .i64 0, .int .i64 0, .int .i64 0, .int .i64 0, .int .i64 0, .int .i64 0, .int .i64 0, .int .i64 0, .int .i64 0] 136)
      obtain ⟨w9, hw9⟩ : ∃ w9, w9 = (wc.alloc (.cells #[.int .i64 0, .int .i64 0, .int .i64 0, .int .i64 0, .int .i64 0, .int .i64 0, .int .i64 0, .int .i64 0, .int .i64 0, .int .i64 0, .int .i64 0, .int .i64 0, .int .i64 0, .int .i64 0, .int .i64 0, .int .i64 0, .int .i64 0, .int .i64 0, .int .i64 0, .int .i64 0, .int .i64 0, .int .i64 0, .int .i64 0, .int .i64 0, .int .i64 0, .int .i64 0, .int .i64 0, .int .i64 0, .int .i64 0, .int .i64 0, .int .i64 0, .int .i64 0, .int .i64 0, .int .i64 0, .int .i64 0, .int .i64 0, .int .i64 0, .int .i64 0, .int .i64 0, .int .i64 0, .int .i64 0, .int .i64 0, .int .i64 0, .int .i64 0, .int .i64 0, .int .i64 0, .int .i64 0, .int .i64 0, .int .i64 0, .int .i64 0] 136)).setCells wc.heap.size 0 ((List.replicate 50 (0 : Int)).map (Value.int .i64)) := ⟨_, rfl⟩
      have HST9 : Hid ((Instr.storeAt 136 (.pointer (some ⟨wc.heap.size, 0, none⟩)) (.agg #[.int .i64 0, .int .i64 0, .int .i64 0, .int .i64 0, .int .i64 0, .int .i64 0, .int .i64 0, .int .i64 0, .int .i64 0, .int .i64 0, .int .i64 0, .int .i64 0, .int .i64 0, .int .i64 0, .int .i64 0, .int .i64 0, .int .i64 0, .int .i64 0, .int .i64 0, .int .i64 0, .int .i64 0, .int .i64 0, .int .i64 0, .int .i64 0, .int .i64 0, .int .i64 0, .int .i64 0, .int .i64 0, .int .i64 0, .int .i64 0, .int .i64 0, .int .i64 0, .int .i64 0, .int .i64 0, .int .i64 0, .int .i64 0, .int .i64 0, .int .i64 0, .int .i64 0, .int .i64 0, .int .i64 0, .int .i64 0, .int .i64 0, .int .i64 0, .int .i64 0, .int .i64 0, .int .i64 0, .int .i64 0, .int .i64 0, .int .i64 0])).run Tryz.prog (wc.alloc (.cells #[.int .i64 0, .int .i64 0, .int .i64 0, .int .i64 0, .int .i64 0, .int .i64 0, .int .i64 0, .int .i64 0, .int .i64 0, .int .i64 0, .int .i64 0, .int .i64 0, .int .i64 0, .int .i64 0, .int .i64 0, .int .i64 0, .int .i64 0, .int .i64 0, .int .i64 0, .int .i64 0, .int .i64 0, .int .i64 0, .int .i64 0, .int .i64 0, .int .i64 0, .int .i64 0, .int .i64 0, .int .i64 0, .int .i64 0, .int .i64 0, .int .i64 0, .int .i64 0, .int .i64 0, .int .i64 0, .int .i64 0, .int .i64 0, .int .i64 0, .int .i64 0, .int .i64 0, .int .i64 0, .int .i64 0, .int .i64 0, .int .i64 0, .int .i64 0, .int .i64 0, .int .i64 0, .int .i64 0, .int .i64 0, .int .i64 0, .int .i64 0] 136)) = .ok () w9) := by
        have := run_storeAt_mid (P := Tryz.prog) (wc.alloc (.cells #[.int .i64 0, .int .i64 0, .int .i64 0, .int .i64 0, .int .i64 0, .int .i64 0, .int .i64 0, .int .i64 0, .int .i64 0, .int .i64 0, .int .i64 0, .int .i64 0, .int .i64 0, .int .i64 0, .int .i64 0, .int .i64 0, .int .i64 0, .int .i64 0, .int .i64 0, .int .i64 0, .int .i64 0, .int .i64 0, .int .i64 0, .int .i64 0, .int .i64 0, .int .i64 0, .int .i64 0, .int .i64 0, .int .i64 0, .int .i64 0, .int .i64 0, .int .i64 0, .int .i64 0, .int .i64 0, .int .i64 0, .int .i64 0, .int .i64 0, .int .i64 0, .int .i64 0, .int .i64 0, .int .i64 0, .int .i64 0, .int .i64 0, .int .i64 0, .int .i64 0, .int .i64 0, .int .i64 0, .int .i64 0, .int .i64 0, .int .i64 0] 136)) wc.heap.size 0 136 ((List.replicate 50 (0 : Int)).map (Value.int .i64)).toArray (there_blk N9 _ rfl) (by kernel_rfl) (all_int _)
        rw [hw9]
        exact this
      have K9 : Below wc.heap.size wc w9 := by rw [hw9]; exact below_setCells _ (Nat.le_refl _) _ _ _ k9
      have O9 : LBlk w9 wc.heap.size ((chi B).take 0 ++ (List.replicate 25 0).drop 0) 136 := by
        show Blk w9 wc.heap.size (wordsL (List.replicate 25 0)) _
        rw [wordsL_zero, hw9]; exact N9.store rfl
      have HR9 := hide ((unhide HR8).below K9 (unhide HR8).lt)
      have HN9 : Hid (LBlk w9 q B 136) := (unhide HN8).below K9 (unhide HN8).lt
      have HB9 := hide ((unhide HB8).trans (K9.mono (unhide HB8).size))
      have HO9 := hide O9
      have hclen : (chi B).length = 25 := by simp [chi]
      have HCLEN := hide hclen
      clear N9 k9 hw9 K9 O9 HR8 HN8 HB8 hclen
      go_upto_block 4 with (refine wpList_store_eq rfl 136 (.tmp 11) (.tmp 74) rfl _ _ rfl rfl w9 (unhide HST9) ?_)
      clear HST9
      generalize Value.agg #[.int .i64 0, .int .i64 0, .int .i64 0, .int .i64 0, .int .i64 0, .int .i64 0, .int .i64 0, .int .i64 0, .int .i64 0, .int .i64 0, .int .i64 0, .int .i64 0, .int .i64 0, .int .i64 0, .int .i64 0, .int .i64 0, .int .i64 0, .int .i64 0, .int .i64 0, .int .i64 0, .int .i64 0, .int .i64 0, .int .i64 0, .int .i64 0, .int .i64 0, .int .i64 0, .int .i64 0, .int .i64 0, .int .i64 0, .int .i64 0, .int .i64 0, .int .i64 0, .int .i64 0, .int .i64 0, .int .i64 0, .int .i64 0, .int .i64 0, .int .i64 0, .int .i64 0, .int .i64 0, .int .i64 0, .int .i64 0, .int .i64 0, .int .i64 0, .int .i64 0, .int .i64 0, .int .i64 0, .int .i64 0, .int .i64 0, .int .i64 0] = z51
      generalize hg : wc.heap.size = g at HO9 hqw hrw ⊢
      clear hg
      go_cut [12] (fun i wr => i = .int .i64 25 ∧ Blk wr (w.heap.size + 1) (List.replicate 50 (0 : Int)) 136 ∧ LBlk wr g (chi B) 136 ∧ Below w.heap.size w wr)
      case first =>
        go_wp2_with fail
        go_loopw [12, 13, 14, 15, 16] (fun i x y p r wr => ∃ k : Nat, k ≤ 25 ∧ i = .int .i64 k ∧ Blk wr (w.heap.size + 1) (List.replicate 50 (0 : Int)) 136 ∧ LBlk wr q B 136 ∧ LBlk wr g ((chi B).take k ++ (List.replicate 25 0).drop k) 136 ∧ Below w.heap.size w wr)
          (fun i _ _ _ _ _ => 25 - (intOf i).toNat)
        case atStart => exact ⟨0, by omega, rfl, unhide HR9, unhide HN9, unhide HO9, unhide HB9⟩
        case round =>
          obtain ⟨k, hk, rfl, hR, hN, hO, hB⟩ := hrel
          clear HR9 HN9 HO9 HB9
          by_cases hlt : k < 25
          · obtain ⟨X, hX⟩ : ∃ X, X = k % 5 := ⟨_, rfl⟩
            have hX5 : X < 5 := by omega
            obtain ⟨row, hrow⟩ : ∃ row, row = k - X := ⟨_, rfl⟩
            have eX : (k : Int).tmod 5 = (X : Int) := by rw [Int.tmod_eq_emod_of_nonneg (by omega)]; omega
            have eX' : (k : Int) % 5 = (X : Int) := by omega
            have er : (k : Int) - (X : Int) = (row : Int) := by omega
            obtain ⟨a1, h1⟩ : ∃ a1, a1 = (X + 1) % 5 := ⟨_, rfl⟩
            obtain ⟨a2, h2⟩ : ∃ a2, a2 = (X + 2) % 5 := ⟨_, rfl⟩
            have e1 : ((X : Int) + 1).tmod 5 = (a1 : Int) := by rw [Int.tmod_eq_emod_of_nonneg (by omega)]; omega
            have e2 : ((X : Int) + 2).tmod 5 = (a2 : Int) := by rw [Int.tmod_eq_emod_of_nonneg (by omega)]; omega
            have e1' : ((X : Int) + 1) % 5 = (a1 : Int) := by omega
            have e2' : ((X : Int) + 2) % 5 = (a2 : Int) := by omega
            obtain ⟨P1, hP1⟩ : ∃ P1, P1 = row + a1 := ⟨_, rfl⟩
            obtain ⟨P2, hP2⟩ : ∃ P2, P2 = row + a2 := ⟨_, rfl⟩
            have s1 : (row : Int) + (a1 : Int) = (P1 : Int) := by omega
            have s2 : (row : Int) + (a2 : Int) = (P2 : Int) := by omega
            have hP1l : P1 < 25 := by omega
            have hP2l : P2 < 25 := by omega
            have b10 := LBlk.hi hN P1 (by omega)
            have b11 := LBlk.lo hN P1 (by omega)
            have b20 := LBlk.hi hN P2 (by omega)
            have b21 := LBlk.lo hN P2 (by omega)
            have bk0 := LBlk.hi hN k (by omega)
            have bk1 := LBlk.lo hN k (by omega)
            have hchi : (chi B).getD k 0 = B.getD k 0 ^^^ ((18446744073709551615 - B.getD P1 0) &&& B.getD P2 0) := by
              unfold chi
              rw [getDn_map _ _ _ hlt]
              unfold chiOf
              rw [← hX, ← hrow, ← h1, ← h2, ← hP1, ← hP2]
            have hv1 : B.getD P1 0 < 18446744073709551616 := getD_lt (unhide HBL).2 (by decide) _
            have hv2 : B.getD P2 0 < 18446744073709551616 := getD_lt (unhide HBL).2 (by decide) _
            have hvk : B.getD k 0 < 18446744073709551616 := getD_lt (unhide HBL).2 (by decide) _
            have hfill := fill_at (chi B) (List.replicate 25 0) 25 k (unhide HCLEN) (by simp) hlt
            rw [hchi] at hfill
            have HFILL := hide hfill
            generalize B.getD P1 0 = v1 at b10 b11 hv1 HFILL
            generalize B.getD P2 0 = v2 at b20 b21 hv2 HFILL
            generalize B.getD k 0 = vk at bk0 bk1 hvk HFILL
            have HNN := hide hN
            have HRR := hide hR
            have HOO := hide hO
            have HBB := hide hB
            have lq : q < wr.heap.size := Blk.lt hN
            have hdk : decide ((k : Int) < 25) = true := decide_eq_true (by omega)
            have i1 : (0 : Int) ≤ (X : Int) := by omega
            have k5 : (X : Int) < 5 := by omega
            have ip1 : (0 : Int) ≤ (P1 : Int) := by omega
            have ip2 : (P1 : Int) < 25 := by omega
            have iq1 : (0 : Int) ≤ (P2 : Int) := by omega
            have iq2 : (P2 : Int) < 25 := by omega
            have ik1 : (0 : Int) ≤ (k : Int) := by omega
            have ik2 : (k : Int) < 25 := by omega
            have y1 : IntKind.i64.wrap ((X : Int) + 1) = (X : Int) + 1 := i64_fits _ (by omega) (by omega)
            have y2 : IntKind.i64.wrap ((X : Int) + 2) = (X : Int) + 2 := i64_fits _ (by omega) (by omega)
            have y3 : IntKind.i64.wrap (row : Int) = (row : Int) := i64_fits _ (by omega) (by omega)
            have y4 : IntKind.i64.wrap (P1 : Int) = (P1 : Int) := i64_fits _ (by omega) (by omega)
            have y5 : IntKind.i64.wrap (P2 : Int) = (P2 : Int) := i64_fits _ (by omega) (by omega)
            clear hfill hchi hX hrow h1 h2 hP1 hP2 hN hR hO hB
            refine wp_hide (fun Kx hQx hQy => ?_)
            go_upto_region 23 with fail
            obtain ⟨wp, hwp⟩ : ∃ wp, wp = (wr.alloc (.cells #[.int .i64 (hiW v1 : Int), .int .i64 (loW v1 : Int)] 135)).alloc (.cells #[.int .i64 (hiW v2 : Int), .int .i64 (loW v2 : Int)] 135) := ⟨_, rfl⟩
            rw [← hwp]
            have bp : Below wr.heap.size wr wp := by rw [hwp]; exact (below_alloc wr _).alloc (by simp) _
            have pc0 : wp.cell? ⟨wr.heap.size, 0, none⟩ = some (.int .i64 (hiW v1 : Int)) := by rw [hwp]; simp [go_sem]
            have pc1 : wp.cell? ⟨wr.heap.size, 1, none⟩ = some (.int .i64 (loW v1 : Int)) := by rw [hwp]; simp [go_sem]
            have qc0 : wp.cell? ⟨wr.heap.size + 1, 0, none⟩ = some (.int .i64 (hiW v2 : Int)) := by rw [hwp]; simp [go_sem]
            have qc1 : wp.cell? ⟨wr.heap.size + 1, 1, none⟩ = some (.int .i64 (loW v2 : Int)) := by rw [hwp]; simp [go_sem]
            have szp : wp.heap.size = wr.heap.size + 2 := by rw [hwp]; simp
            clear hwp b10 b11 b20 b21
            have hlen3 : ((chi B).take k ++ (List.replicate 25 0).drop k).length = 25 := by rw [List.length_append, List.length_take, unhide HCLEN, List.length_drop, List.length_replicate]; omega
            have lg : g < wr.heap.size := Blk.lt (unhide HOO)
            have O2 : LBlk wp g ((chi B).take k ++ (List.replicate 25 0).drop k) 136 := (unhide HOO).below bp lg
            have N2 : LBlk wp q B 136 := (unhide HNN).below bp lq
            have R2 := (unhide HRR).below bp (unhide HRR).lt
            have B2 := (unhide HBB).trans (bp.mono (unhide HBB).size)
            have kb0 := (bp.cell (p := ⟨q, k * 2, none⟩) lq).trans bk0
            have kb1 := (bp.cell (p := ⟨q, k * 2 + 1, none⟩) lq).trans bk1
            have n0 := LBlk.hi O2 k (by omega)
            have n1 := LBlk.lo O2 k (by omega)
            have nf0 := Blk.free O2 (k * 2)
            have nf1 := Blk.free O2 (k * 2 + 1)
            generalize (((chi B).take k ++ (List.replicate 25 0).drop k)).getD k 0 = ov at n0 n1
            have zh := chi_word_hi v1 v2 hv1 hv2
            have zl := chi_word_lo v1 v2 hv1
            have hx64 : (18446744073709551615 - v1) &&& v2 < 18446744073709551616 := and_lt hv2
            have hh1 := hi_lt v1 hv1
            have hl1 := lo_lt v1
            have y6 : IntKind.i64.wrap (4294967295 - (hiW v1 : Int)) = 4294967295 - (hiW v1 : Int) := i64_fits _ (by omega) (by omega)
            have y7 : IntKind.i64.wrap (4294967295 - (loW v1 : Int)) = 4294967295 - (loW v1 : Int) := i64_fits _ (by omega) (by omega)
            generalize (18446744073709551615 - v1) &&& v2 = xv at zh zl hx64 HFILL
            generalize hiW v1 = A1 at pc0 zh y6 hh1
            generalize loW v1 = A2 at pc1 zl y7 hl1
            generalize hiW v2 = A3 at qc0 zh
            generalize loW v2 = A4 at qc1 zl
            have HX := hide (l2Xor_lane vk xv hvk hx64)
            have LG : g < wp.heap.size := by omega
            have LQ : q < wp.heap.size := by omega
            have L1 : wr.heap.size < wp.heap.size := by omega
            have L2 : wr.heap.size + 1 < wp.heap.size := by omega
            obtain ⟨gp, hgp⟩ : ∃ gp, gp = wr.heap.size := ⟨_, rfl⟩
            have hgq : g ≠ q := by omega
            have hgg : g ≠ wr.heap.size := by omega
            have hgg1 : g ≠ wr.heap.size + 1 := by omega
            have HK6 : Hid (∀ W, Below wp.heap.size wp W → (W.cell? ⟨q, k * 2, none⟩ = some (.int .i64 (hiW vk : Int)) ∧ W.cell? ⟨q, k * 2 + 1, none⟩ = some (.int .i64 (loW vk : Int)) ∧ W.cell? ⟨wr.heap.size, 0, none⟩ = some (.int .i64 (A1 : Int)) ∧ W.cell? ⟨wr.heap.size, 1, none⟩ = some (.int .i64 (A2 : Int)) ∧ W.cell? ⟨wr.heap.size + 1, 0, none⟩ = some (.int .i64 (A3 : Int)) ∧ W.cell? ⟨wr.heap.size + 1, 1, none⟩ = some (.int .i64 (A4 : Int)))) :=
              fun W h => ⟨(h.cell (p := ⟨q, k * 2, none⟩) LQ).trans kb0, (h.cell (p := ⟨q, k * 2 + 1, none⟩) LQ).trans kb1, (h.cell (p := ⟨wr.heap.size, 0, none⟩) L1).trans pc0, (h.cell (p := ⟨wr.heap.size, 1, none⟩) L1).trans pc1, (h.cell (p := ⟨wr.heap.size + 1, 0, none⟩) L2).trans qc0, (h.cell (p := ⟨wr.heap.size + 1, 1, none⟩) L2).trans qc1⟩
            have HK7 : Hid (∀ W x y, Below wp.heap.size wp W → (((W.setCell ⟨g, k * 2, none⟩ x).setCell ⟨g, k * 2 + 1, none⟩ y).cell? ⟨q, k * 2, none⟩ = some (.int .i64 (hiW vk : Int)) ∧ ((W.setCell ⟨g, k * 2, none⟩ x).setCell ⟨g, k * 2 + 1, none⟩ y).cell? ⟨q, k * 2 + 1, none⟩ = some (.int .i64 (loW vk : Int)) ∧ ((W.setCell ⟨g, k * 2, none⟩ x).setCell ⟨g, k * 2 + 1, none⟩ y).cell? ⟨wr.heap.size, 0, none⟩ = some (.int .i64 (A1 : Int)) ∧ ((W.setCell ⟨g, k * 2, none⟩ x).setCell ⟨g, k * 2 + 1, none⟩ y).cell? ⟨wr.heap.size, 1, none⟩ = some (.int .i64 (A2 : Int)) ∧ ((W.setCell ⟨g, k * 2, none⟩ x).setCell ⟨g, k * 2 + 1, none⟩ y).cell? ⟨wr.heap.size + 1, 0, none⟩ = some (.int .i64 (A3 : Int)) ∧ ((W.setCell ⟨g, k * 2, none⟩ x).setCell ⟨g, k * 2 + 1, none⟩ y).cell? ⟨wr.heap.size + 1, 1, none⟩ = some (.int .i64 (A4 : Int)))) :=
              fun W x y h => ⟨(cell_other2 _ _ _ _ _ (by omega)).trans ((unhide HK6) W h).1, (cell_other2 _ _ _ _ _ (by omega)).trans ((unhide HK6) W h).2.1, (cell_other2 _ _ _ _ _ (by omega)).trans ((unhide HK6) W h).2.2.1, (cell_other2 _ _ _ _ _ (by omega)).trans ((unhide HK6) W h).2.2.2.1, (cell_other2 _ _ _ _ _ (by omega)).trans ((unhide HK6) W h).2.2.2.2.1, (cell_other2 _ _ _ _ _ (by omega)).trans ((unhide HK6) W h).2.2.2.2.2⟩
            have hb6 : Below wp.heap.size wp wp.drew := (Below.refl _ _).drew
            have HO7 : Hid (LBlk wp g ((chi B).take k ++ (List.replicate 25 0).drop k) 136) := O2
            have HN7 : Hid (LBlk wp q B 136) := N2
            have HR7 := hide R2
            have HB7 := hide B2
            clear O2 N2 R2 B2 bk0 bk1 kb0 kb1 pc0 pc1 qc0 qc1 bp hgp HNN HRR HOO HBB hlen3 szp hvk hx64 hv1 hv2
            go_region_held3 (fun W => W.cell? ⟨q, k * 2, none⟩ = some (.int .i64 (hiW vk : Int)) ∧ W.cell? ⟨q, k * 2 + 1, none⟩ = some (.int .i64 (loW vk : Int)) ∧ W.cell? ⟨wr.heap.size, 0, none⟩ = some (.int .i64 (A1 : Int)) ∧ W.cell? ⟨wr.heap.size, 1, none⟩ = some (.int .i64 (A2 : Int)) ∧ W.cell? ⟨wr.heap.size + 1, 0, none⟩ = some (.int .i64 (A3 : Int)) ∧ W.cell? ⟨wr.heap.size + 1, 1, none⟩ = some (.int .i64 (A4 : Int)))
              (first | (exact (unhide HK6) _ (by assumption)) | (exact (unhide HK7) _ _ _ (by assumption)))
              (first
                | (go_at_call 101; refine ((unhide HX) _).mono ?_; rintro e w8 ⟨rfl, b8⟩; have g8 : Below wp.heap.size wp w8 := bcall (by assumption) b8; have x0 := (b8.cell (p := ⟨g, k * 2, none⟩) (by exact LG)).trans n0; have x1 := (b8.cell (p := ⟨g, k * 2 + 1, none⟩) (by exact LG)).trans n1; have y0 := (b8.frozen (p := ⟨g, k * 2, none⟩) (by exact LG)).trans nf0; have y1 := (b8.frozen (p := ⟨g, k * 2 + 1, none⟩) (by exact LG)).trans nf1))
            all_goals
              have K9 : Below wp.heap.size wp w8 := ((Below.refl _ _).drew).trans b8
              have HO9 : Hid (LBlk _ _ _ _) := LBlk.set ((unhide HO7).below K9 LG) k (vk ^^^ xv)
              have HN9 : Hid (LBlk _ _ _ _) := LBlk.other ((unhide HN7).below K9 LQ) (b' := g) (k * 2) (k * 2 + 1) (.int .i64 (hiW (vk ^^^ xv) : Int)) (.int .i64 (loW (vk ^^^ xv) : Int)) (by omega)
              have HR9 := hide ((((unhide HR7).below K9 (unhide HR7).lt).other (b' := g) (k * 2) (.int .i64 (hiW (vk ^^^ xv) : Int)) (by omega)).other (b' := g) (k * 2 + 1) (.int .i64 (loW (vk ^^^ xv) : Int)) (by omega))
              have HB9 := hide ((((unhide HB7).trans (K9.mono (unhide HB7).size)).setCell (p := ⟨g, k * 2, none⟩) (by show w.heap.size ≤ g; omega) (.int .i64 (hiW (vk ^^^ xv) : Int))).setCell (p := ⟨g, k * 2 + 1, none⟩) (by show w.heap.size ≤ g; omega) (.int .i64 (loW (vk ^^^ xv) : Int)))
              clear K9 b8
              go_wp2_with fail
              refine (unhide hQx) _ _ ?_
              go_roundw
              case rel =>
                repeat apply Exists.intro
                exact ⟨⟨k + 1, by omega, by go_num, unhide HR9, unhide HN9, by rw [← unhide HFILL]; exact unhide HO9, unhide HB9⟩, rfl⟩
              case measure => simp [intOf]; omega
          · obtain rfl : k = 25 := by omega
            have hdk : decide (((25 : Nat) : Int) < 25) = false := rfl
            have ht : (chi B).take 25 ++ (List.replicate 25 0).drop 25 = chi B := by
              rw [List.take_of_length_le (by rw [unhide HCLEN]; exact Nat.le_refl _)]
              simp
            rw [ht] at hO
            have HOO : Hid (LBlk wr g (chi B) 136) := hO
            clear ht hO hN
            go_wp2_with fail
            go_meet
            exact ⟨rfl, hR, unhide HOO, hB⟩
      case rest =>
        clear HR9 HN9 HO9 HB9
        obtain ⟨rfl, hR, hO, hB⟩ := hcut
        rw [← unhide HRF] at hO
        have hl50 : (wordsL (roundF Z)).length = 50 := by rw [wordsL_length, (roundF_lanes (unhide HZ)).1]
        have HLD : Hid ((Instr.loadAt 136 (.pointer (some ⟨g, 0, none⟩))).run Tryz.prog wc = .ok (.agg ((wordsL (roundF Z)).map (Value.int .i64)).toArray) wc) := by
          refine run_loadAt_mid (P := Tryz.prog) wc g 0 136 ((wordsL (roundF Z)).map (Value.int .i64)) _ (fun j v hj => ?_) Tryz.underlying136 rfl (by rw [List.length_map, hl50]; kernel_rfl)
          rw [Nat.zero_add, cell_of_row wc g j _ _ _ hO]
          simpa using hj
        obtain ⟨wf, hwf⟩ : ∃ wf, wf = wc.setCells (w.heap.size + 1) 0 ((wordsL (roundF Z)).map (Value.int .i64)) := ⟨_, rfl⟩
        have HSR : Hid ((Instr.storeAt 136 (.pointer (some ⟨w.heap.size + 1, 0, none⟩)) (.agg ((wordsL (roundF Z)).map (Value.int .i64)).toArray)).run Tryz.prog wc = .ok () wf) := by
          show _ = _
          rw [hwf]
          exact run_storeAt_mid (P := Tryz.prog) wc (w.heap.size + 1) 0 136 ((wordsL (roundF Z)).map (Value.int .i64)).toArray (there_blk hR _ (by simp [hl50])) (by rw [List.size_toArray, List.length_map, hl50]; kernel_rfl) (all_int _)
        have HRF2 : Hid (Blk wf (w.heap.size + 1) (wordsL (roundF Z)) 136) := by
          show Blk _ _ _ _
          rw [hwf]; exact hR.store (by rw [hl50]; rfl)
        have HBF : Hid (Below w.heap.size w wf) := by
          show Below _ _ _
          rw [hwf]; exact below_setCells _ (by omega) _ _ _ hB
        have HL50 := hide hl50
        generalize hRR : wordsL (roundF Z) = RR at HLD HSR HRF2 HL50
        have HRQ := hide hRR
        clear hR hO hB hwf hl50 hRR
        go_wp2_with (first
          | (refine wpList_load_eq rfl 136 (.tmp 11) rfl _ _ rfl (unhide HLD) ?_)
          | (refine wpList_store_eq rfl 136 (.tmp 2) (.tmp 117) rfl _ _ rfl rfl wf (unhide HSR) ?_))
        exact bodyPost_ret (results_cell_row rfl _ _ (w.heap.size + 1) 136 _ (0, 0) _ rfl (unhide HRF2) Tryz.underlying136 rfl (by rw [List.size_toArray, List.length_map, unhide HL50]; kernel_rfl)) rfl ⟨by rw [unhide HRQ], unhide HBF⟩

end Go.Proofs.YtldiilmpmcbjkaaGreatDoor
