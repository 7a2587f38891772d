/- What is proved here: what the model's l1In answers: whether a number lies within two bounds. -/
import Derived.Test.YtldiilmpmcbjkaaGreatDoorChecked
import Derived.Test.YtldiilmpmcbjkaaGreatDoorJ1
import Derived.WalkKit
import Derived.KernelRfl
import Derived.WalkLawsBesides
import Derived.WalkSmall
import Derived.WalkSpells
import Derived.RegionTactic
import Derived.BigRegion
import Derived.Laws.BitsAllLaws
import Derived.Deep.RegionWith
import Derived.Deep.CutBlock
import Derived.Deep.DeepCutAuto
import Derived.Test.YtldiilmpmcbjkaaGreatDoorRows
import Derived.ProofKit
import Derived.LaidMore
import Derived.OpenShut
import Derived.FnData
import Derived.BigQuiet
import Derived.Deep.QuietTactic
namespace Go.Proofs.YtldiilmpmcbjkaaGreatDoor
open Go.RowKit
set_option linter.unusedVariables false
set_option maxRecDepth 100000

theorem in_yes (v lo hi : Int) (w : World) (h0 : lo ≤ v) (h1 : v ≤ hi) : Calls Tryz.prog 50 #[.int .i64 v, .int .i64 lo, .int .i64 hi] w fun e w' => e = .returned (.bool true) ∧ w' = w := by
  have e0 : decide (lo ≤ v) = true := decide_eq_true h0
  have e1 : decide (v ≤ hi) = true := decide_eq_true h1
  go_enter Tryz.func50, Tryz.ntmps50
  go_wp2
  go_ret
  exact ⟨ret_bool (by simp), rfl⟩

set_option maxHeartbeats 1000000 in
theorem in_no (v lo hi : Int) (w : World) (h : v < lo ∨ hi < v) : Calls Tryz.prog 50 #[.int .i64 v, .int .i64 lo, .int .i64 hi] w fun e w' => e = .returned (.bool false) ∧ w' = w := by
  by_cases h0 : lo ≤ v
  · have e0 : decide (lo ≤ v) = true := decide_eq_true h0
    have e1 : decide (v ≤ hi) = false := decide_eq_false (by omega)
    go_enter Tryz.func50, Tryz.ntmps50
    go_wp2
    go_ret
    exact ⟨ret_bool (by simp), rfl⟩
  · have e0 : decide (lo ≤ v) = false := decide_eq_false h0
    go_enter Tryz.func50, Tryz.ntmps50
    go_wp2
    go_ret
    exact ⟨ret_bool (by simp), rfl⟩

/-- Whether a number is a word. -/
def isWord (v : Int) : Bool := decide (0 ≤ v ∧ v ≤ 4294967295)

theorem in_any (v lo hi : Int) (w : World) : Calls Tryz.prog 50 #[.int .i64 v, .int .i64 lo, .int .i64 hi] w fun e w' => e = .returned (.bool (decide (lo ≤ v ∧ v ≤ hi))) ∧ w' = w := by
  by_cases h : lo ≤ v ∧ v ≤ hi
  · rw [decide_eq_true h]; exact in_yes v lo hi w h.1 h.2
  · rw [decide_eq_false h]; exact in_no v lo hi w (by omega)

end Go.Proofs.YtldiilmpmcbjkaaGreatDoor

/- What is proved here: what the model's TurnLane answers for every three numbers: the code and the two words, in new memory. -/
namespace Go.Proofs.YtldiilmpmcbjkaaGreatDoor
open Go.RowKit
set_option linter.unusedVariables false
set_option maxRecDepth 100000

set_option maxHeartbeats 1000000 in
theorem word_any (v : Int) (w : World) : Calls Tryz.prog 109 #[.int .i64 v] w fun e w' => e = .returned (.bool (isWord v)) ∧ w' = w := by
  have HI := hide (show ∀ W, Calls Tryz.prog 50 #[.int .i64 v, .int .i64 0, .int .i64 4294967295] W fun e w' => e = .returned (.bool (isWord v)) ∧ w' = W from in_any v 0 4294967295)
  go_enter Tryz.func109, Tryz.ntmps109
  go_wp2_with fail
  refine ((unhide HI) _).mono ?_
  rintro e w' ⟨rfl, rfl⟩
  go_wp2_with fail
  go_ret
  exact ⟨rfl, rfl⟩

/-- The code and the words of TurnLane. -/
def tlOk (h l n : Int) : Bool := isWord h && isWord l && decide (0 ≤ n ∧ n ≤ 63)
def tlCode (h l n : Int) : Int := if tlOk h l n then 0 else 3
def tlList (h l n : Int) : List Int := if tlOk h l n then [(laneTurn h l n).1, (laneTurn h l n).2] else []

theorem tlList_length (h l n : Int) : (tlList h l n).length ≤ 2 := by unfold tlList; split <;> simp

end Go.Proofs.YtldiilmpmcbjkaaGreatDoor

/- What is proved here: the program's small functions on lanes: whether a number is a word, a lane of two words, its two words, a lane turned. -/
namespace Go.Proofs.YtldiilmpmcbjkaaGreatDoor
open Go.RowKit
set_option linter.unusedVariables false
set_option maxRecDepth 100000

set_option maxHeartbeats 1000000 in
theorem isWord_any (n : Int) (w : World) : Calls Tryz.prog 154 #[.int .i64 n] w fun e w' => e = .returned (.bool (isWord n)) ∧ w' = w := by
  by_cases h0 : 0 ≤ n
  · by_cases h1 : n ≤ 4294967295
    · have e0 : decide (0 ≤ n) = true := decide_eq_true h0
      have e1 : decide (n ≤ 4294967295) = true := decide_eq_true h1
      go_enter Tryz.func154, Tryz.ntmps154
      go_wp2
      go_ret
      exact ⟨ret_bool (by simp [isWord, h0, h1]), rfl⟩
    · have e0 : decide (0 ≤ n) = true := decide_eq_true h0
      have e1 : decide (n ≤ 4294967295) = false := decide_eq_false h1
      go_enter Tryz.func154, Tryz.ntmps154
      go_wp2
      go_ret
      exact ⟨ret_bool (by simp [isWord, h0, h1]), rfl⟩
  · have e0 : decide (0 ≤ n) = false := decide_eq_false h0
    go_enter Tryz.func154, Tryz.ntmps154
    go_wp2
    go_ret
    exact ⟨ret_bool (by rw [isWord, decide_eq_false (by omega)]), rfl⟩

theorem wraps_u64 (n : Int) (h₀ : 0 ≤ n) (h₁ : n < 2 ^ 64) : IntKind.u64.wrap n = n := by rw [IntKind.wrap_u64]; omega

theorem or_join (x y : Nat) (i : Nat) (hx : x % 2 ^ i = 0) (hy : y < 2 ^ i) (hs : x < 18446744073709551616) (hy2 : y < 18446744073709551616) : bits .or .u64 (x : Int) (y : Int) = ((x + y : Nat) : Int) := by
  have := bits_join .u64 64 (by decide) wraps_u64 i (x : Int) (y : Int) (by omega) (by exact_mod_cast hx) (by omega) (by omega) (by exact_mod_cast hy) (by omega)
  rw [this]; simp

set_option maxHeartbeats 1000000 in
theorem rotl_any (a n : Nat) (ha : a < 18446744073709551616) (hn : n ≤ 63) (w : World) :
    Calls Tryz.prog 150 #[.int .u64 (a : Int), .int .i64 (n : Int)] w fun e w' => e = .returned (.int .u64 (rotL a n : Int)) ∧ w' = w := by
  have hm : bits .and .u64 (n : Int) 63 = (n : Int) := by
    have := bits_mask .u64 64 (by decide) wraps_u64 6 (by decide) (n : Int) (by omega) (by omega)
    rw [show (2 : Int) ^ 6 - 1 = 63 by decide] at this
    rw [this, show (2 : Int) ^ 6 = 64 by decide]
    omega
  go_enter Tryz.func150, Tryz.ntmps150
  go_wp2_with fail
  go_ret
  refine ⟨ret_int ?_, rfl⟩
  have hP : 2 ^ (64 - n) * 2 ^ n = 18446744073709551616 := by rw [← pow_split, show (64 - n) + n = 64 by omega]
  have q : a / 2 ^ (64 - n) < 2 ^ n := by rw [Nat.div_lt_iff_lt_mul (Nat.two_pow_pos _), Nat.mul_comm, hP]; exact ha
  have r1 : a * 2 ^ n % 18446744073709551616 % 2 ^ n = 0 := by
    rw [← hP, Nat.mod_mul_left_mod]; exact Nat.mul_mod_left _ _
  have := or_join (a * 2 ^ n % 18446744073709551616) (a / 2 ^ (64 - n)) n r1 q (by omega) (Nat.lt_of_le_of_lt (Nat.div_le_self _ _) ha)
  rw [IntKind.wrap_u64]
  unfold rotL
  rw [← this]
  simp

end Go.Proofs.YtldiilmpmcbjkaaGreatDoor

/- What is proved here: the program's step that moves and turns the lanes, told by lanes; the variable of the offsets reads as the program's text lays it. -/
namespace Go.Proofs.YtldiilmpmcbjkaaGreatDoor
open Go.RowKit
set_option linter.unusedVariables false
set_option maxRecDepth 100000
attribute [local go_sem ↓] Go.wp_at_zero Go.wp_at_succ

/-- The two variables read as the program's text lays them (the blocks 0 and 1 are theirs). -/
def Laid (w : World) : Prop := (2 ≤ w.heap.size) ∧ (∀ i, i < 24 → w.cell? ⟨0, i, none⟩ = some (.int .u64 (rcs.getD i 0 : Int))) ∧ ∀ i, i < 25 → w.cell? ⟨1, i, none⟩ = some (.int .i64 (offN.getD i 0 : Int))

theorem Laid.below {w w' : World} (h : Laid w) {B : Nat} (hb : Below B w w') (hB : w.heap.size ≤ B) : Laid w' := by
  have hsz := hb.size
  have h2 := h.1
  refine ⟨by omega, fun i hi => ?_, fun i hi => ?_⟩
  · rw [hb.cell (p := ⟨0, i, none⟩) (by show 0 < B; omega)]; exact h.2.1 i hi
  · rw [hb.cell (p := ⟨1, i, none⟩) (by show 1 < B; omega)]; exact h.2.2 i hi

set_option maxRecDepth 100000 in
set_option maxHeartbeats 1000000 in
theorem move_any (T : List Nat) (hT : Lanes T) (w : World) (hv : Laid w) :
    Calls Tryz.prog 143 #[.agg (vals T).toArray] w fun e w' => e = .returned (.agg (vals (bAt T 25)).toArray) ∧ Below w.heap.size w w' := by
  have HTL := hide hT
  have HVV := hide hv
  have tlen := hT.1
  have w2s := hv.1
  clear hT hv
  generalize hM : bAt T 25 = M
  have HM := hide hM
  clear hM
  generalize hV : vals T = V
  have HV := hide hV
  clear hV
  go_enter Tryz.func143, Tryz.ntmps143
  go_upto_block 0 with fail
  obtain ⟨w1, hw1⟩ : ∃ w1, w1 = ((w.alloc (.cells V.toArray 145)).alloc (.cells (vals (List.replicate 25 0)).toArray 145)).alloc (.cells (vals (List.replicate 25 0)).toArray 145) := ⟨_, rfl⟩
  have e1 : ((w.alloc (.cells V.toArray 145)).alloc (.cells #[.int .u64 0, .int .u64 0, .int .u64 0, .int .u64 0, .int .u64 0, .int .u64 0, .int .u64 0, .int .u64 0, .int .u64 0, .int .u64 0, .int .u64 0, .int .u64 0, .int .u64 0, .int .u64 0, .int .u64 0, .int .u64 0, .int .u64 0, .int .u64 0, .int .u64 0, .int .u64 0, .int .u64 0, .int .u64 0, .int .u64 0, .int .u64 0, .int .u64 0] 145)).alloc (.cells #[.int .u64 0, .int .u64 0, .int .u64 0, .int .u64 0, .int .u64 0, .int .u64 0, .int .u64 0, .int .u64 0, .int .u64 0, .int .u64 0, .int .u64 0, .int .u64 0, .int .u64 0, .int .u64 0, .int .u64 0, .int .u64 0, .int .u64 0, .int .u64 0, .int .u64 0, .int .u64 0, .int .u64 0, .int .u64 0, .int .u64 0, .int .u64 0, .int .u64 0] 145) = w1 := by rw [hw1]; rfl
  rw [e1]
  have G1 : Below w.heap.size w w1 := by rw [hw1]; exact ((below_alloc w _).alloc (by simp) _).alloc (by simp; omega) _
  have S1 : UBlk w1 w.heap.size T 145 := by
    rw [hw1, ← unhide HV]
    exact ((UBlk.new w T _).next _).next _
  have R1 : UBlk w1 (w.heap.size + 1) (List.replicate 25 0) 145 := by
    have := (UBlk.new (w.alloc (.cells V.toArray 145)) (List.replicate 25 0) 145).next (.cells (vals (List.replicate 25 0)).toArray 145)
    rw [hw1]
    simpa using this
  have O1 : UBlk w1 (w.heap.size + 1 + 1) (bAt T 0) 145 := by
    have := UBlk.new ((w.alloc (.cells V.toArray 145)).alloc (.cells (vals (List.replicate 25 0)).toArray 145)) (List.replicate 25 0) 145
    have hs : ((w.alloc (.cells V.toArray 145)).alloc (.cells (vals (List.replicate 25 0)).toArray 145)).heap.size = w.heap.size + 1 + 1 := by simp
    rw [hs, ← hw1] at this
    exact this
  obtain ⟨q, hq⟩ : ∃ q, q = w.heap.size + 1 + 1 := ⟨_, rfl⟩
  rw [← hq] at O1 ⊢
  have D1 : w.heap.size + 1 < q := by omega
  clear hq
  have HS := hide S1
  have HR := hide R1
  have HO := hide O1
  have HG := hide G1
  clear e1 hw1 S1 R1 O1 G1
  go_wp2_with fail
  go_loopw [8] (fun c wr => ∃ Y : Nat, Y ≤ 5 ∧ c = .int .i64 Y ∧ UBlk wr w.heap.size T 145 ∧ UBlk wr (w.heap.size + 1) (List.replicate 25 0) 145 ∧ UBlk wr (q) (bAt T (5 * Y)) 145 ∧ Below w.heap.size w wr)
    (fun c _ => 5 - (intOf c).toNat)
  case atStart => exact ⟨0, by omega, rfl, unhide HS, unhide HR, unhide HO, unhide HG⟩
  case round =>
    obtain ⟨Y, hY, rfl, hS, hR, hO, hG⟩ := hrel
    clear HS HR HO HG
    have HS := hide hS
    have HR := hide hR
    have HO := hide hO
    have HG := hide hG
    clear hS hR hO hG
    by_cases hlt : Y < 5
    · have hdk : decide ((Y : Int) < 5) = true := decide_eq_true (by omega)
      go_wp2_with fail
      go_loopw [11] (fun c wr => ∃ X : Nat, X ≤ 5 ∧ c = .int .i64 X ∧ UBlk wr w.heap.size T 145 ∧ UBlk wr (w.heap.size + 1) (List.replicate 25 0) 145 ∧ UBlk wr (q) (bAt T (5 * Y + X)) 145 ∧ Below w.heap.size w wr)
        (fun c _ => 5 - (intOf c).toNat)
      case atStart => exact ⟨0, by omega, rfl, unhide HS, unhide HR, unhide HO, unhide HG⟩
      case round =>
        obtain ⟨X, hX, rfl, hS, hR, hO, hG⟩ := hrel
        clear HS HR HO HG
        by_cases hx5 : X < 5
        · have hdx : decide ((X : Int) < 5) = true := decide_eq_true (by omega)
          obtain ⟨k, hk⟩ : ∃ k, k = 5 * Y + X := ⟨_, rfl⟩
          rw [← hk] at hO
          obtain ⟨r, hr⟩ : ∃ r, r = (2 * X + 3 * Y) % 5 := ⟨_, rfl⟩
          obtain ⟨p, hp⟩ : ∃ p, p = Y + 5 * r := ⟨_, rfl⟩
          have hpos : posOf k = p := by
            unfold posOf
            rw [show k % 5 = X by omega, show k / 5 = Y by omega, ← hr, ← hp]
          have hbl := bAt_lanes (unhide HTL) k
          have c0 := hS.cell k (by omega)
          have n0 := hO.cell p (by rw [hbl.1]; omega)
          have f0 := hO.free p
          have hl0 := (((unhide HVV).below hG (Nat.le_refl _)).2.2) k (by omega)
          have hoff := offN_le k
          have lt0 : T.getD k 0 < 18446744073709551616 := getD_lt (unhide HTL).2 (by decide) _
          have hsucc := bAt_succ T k
          rw [hpos] at hsucc
          generalize T.getD k 0 = v at c0 hsucc lt0
          generalize offN.getD k 0 = n at hl0 hsucc hoff
          generalize (bAt T k).getD p 0 = u at n0
          have HO5 := hide (hO.set p (rotL v n))
          rw [← hsucc] at HO5
          have HS5 := hide (hS.other (b' := q) p (.int .u64 (rotL v n : Int)) (by omega))
          have HR5 := hide (hR.other (b' := q) p (.int .u64 (rotL v n : Int)) (by omega))
          have HG5 := hide (hG.setCell (p := ⟨q, p, none⟩) (by show w.heap.size ≤ q; omega) (.int .u64 (rotL v n : Int)))
          have HRT := hide (rotl_any v n lt0 hoff)
          have ek : (X : Int) + 5 * (Y : Int) = (k : Int) := by omega
          have er : (2 * (X : Int) + 3 * (Y : Int)).tmod 5 = (r : Int) := by rw [Int.tmod_eq_emod_of_nonneg (by omega)]; omega
          have er' : (2 * (X : Int) + 3 * (Y : Int)) % 5 = (r : Int) := by omega
          have ep : (Y : Int) + 5 * (r : Int) = (p : Int) := by omega
          have i0 : (k : Int) < 25 := by omega
          have i1 : (p : Int) < 25 := by omega
          have hk' : 5 * Y + (X + 1) = k + 1 := by omega
          have HK' := hide hk'
          clear hS hR hO hG hsucc hk hr hp hk' hpos hbl hoff lt0
          go_wp2_with fail
          go_region_with (go_at_call 150; refine ((unhide HRT) _).mono ?_; rintro e w' ⟨rfl, rfl⟩)
          all_goals
            go_wp2_with fail
            go_roundw
            case rel => exact ⟨X + 1, by omega, by go_num, unhide HS5, unhide HR5, by rw [unhide HK']; exact unhide HO5, (unhide HG5).drew⟩
            case measure => simp [intOf]; omega
        · obtain rfl : X = 5 := by omega
          have hdx : decide (((5 : Nat) : Int) < 5) = false := rfl
          have hO' : UBlk wr (q) (bAt T (5 * (Y + 1))) 145 := hO
          go_wp2_with fail
          go_roundw
          case rel => exact ⟨Y + 1, by omega, by go_num, hS, hR, hO', hG⟩
          case measure => simp [intOf]; omega
    · obtain rfl : Y = 5 := by omega
      have hdk : decide (((5 : Nat) : Int) < 5) = false := rfl
      have clen := (bAt_lanes (unhide HTL) 25).1
      have hO : UBlk wr q (bAt T 25) 145 := unhide HO
      rw [unhide HM] at clen hO
      have HLD := hide (load25 hO clen)
      obtain ⟨w3, hst, R3, K3, _⟩ := store25 (unhide HR) (by simp) clen
      have HST := hide hst
      have HR3 := hide R3
      have HG3 := hide ((unhide HG).trans (K3 w.heap.size (by omega)))
      clear hO hst R3 K3 HS HO HG HR
      go_wp2_with (first | refine wpList_load_eq rfl 145 _ rfl _ _ rfl (unhide HLD) ?_ | refine wpList_store_eq rfl 145 _ _ rfl _ _ rfl rfl w3 (unhide HST) ?_)
      exact bodyPost_ret (results_cell_row rfl _ _ (w.heap.size + 1) 145 _ (0, 0) _ rfl (unhide HR3) Tryz.underlying145 rfl (by rw [List.size_toArray, vals_length, clen]; kernel_rfl)) rfl ⟨rfl, unhide HG3⟩

end Go.Proofs.YtldiilmpmcbjkaaGreatDoor

/- What is proved here: what the row's condition on its two listed variables gives the walks: their cells. -/
namespace Go.Proofs.YtldiilmpmcbjkaaGreatDoor
open Go.ChangeShapes Go.WideShapes Go.ChangeAt Go.WideElems Go.RowKit
set_option linter.unusedVariables false
set_option maxRecDepth 100000

/-- The two listed variables, as the rows list them. -/
def laid2 : List (String × DataW Unit) := [("loop.example/g00383/impl.laneOffsets", Rows.laid_loop_example_g00383_impl_laneOffsets), ("loop.example/g00383/impl.roundConstants", Rows.laid_loop_example_g00383_impl_roundConstants)]

theorem gOff : Tryz.prog.globalNamed "loop.example/g00383/impl.laneOffsets" = some 1 := by kernel_rfl
theorem gRc : Tryz.prog.globalNamed "loop.example/g00383/impl.roundConstants" = some 0 := by kernel_rfl
theorem tOff : (Tryz.prog.globals[1]?).map (·.type) = some 182 := by kernel_rfl
theorem tRc : (Tryz.prog.globals[0]?).map (·.type) = some 176 := by kernel_rfl

/-- A table of integers that reads as a list: its cells. -/
theorem tab_cells {H : Type} {enc : TypeId × Value → H} {P : Program} {w : World} {base : Nat} {sp : Nat → Bool} {held : Bool} {fuel n : Nat} {t e : TypeId} {k : IntKind} {cs : List Value} {L : List Int} {p : List MemPlace}
    (ht : P.underlying t = some (.array n e)) (he : P.underlying e = some (.int k)) (c1 : P.cellsOf e = 1)
    (h : DataW.trod enc P w base sp held fuel t cs = some (.agg (L.map fun x => .lit (.int k x)), p)) (i : Nat) (hi : i < n) : cs[i]? = some (.int k (L.getD i 0)) := by
  obtain ⟨xs, m, rfl, hx, hlen, hn, hel⟩ := DataW.trod_array ht h
  simp only [Prod.mk.injEq, DataW.agg.injEq] at hx
  have h1 := hel i hi
  rw [c1, Nat.mul_one] at h1
  rw [List.getElem?_eq_getElem (by omega : i < xs.length)] at h1
  obtain ⟨z, e1, e2, _⟩ := DataW.trod_int he h1
  have h2 : (L.map fun x => (DataW.lit (.int k x) : DataW H))[i]? = (xs.map (·.1))[i]? := by rw [hx.1]
  rw [List.getElem?_map, List.getElem?_map, List.getElem?_eq_getElem (by omega : i < xs.length), e2] at h2
  have h3 : L.getD i 0 = z := by
    rw [List.getD_eq_getElem?_getD]
    cases hL : L[i]? with
    | none => rw [hL] at h2; simp at h2
    | some y => rw [hL] at h2; simp at h2; simpa using h2
  have h4 : cs[i]? = ((cs.drop i).take 1)[0]? := by
    rw [List.getElem?_take_of_lt (by omega), List.getElem?_drop]
    simp
  rw [h4, e1, h3]
  rfl

theorem of_laid {W : World} (h : laidMetH Tryz.prog laid2 W) : Laid W := by
  rw [MakeChecks.laidMetH_plain _ _ _ (by kernel_rfl)] at h
  obtain ⟨ps, ⟨g0, t0, cs0, f0, p0, q0, hg0, ht0, hv0, hd0, ⟨g1, t1, cs1, f1, p1, q1, hg1, ht1, hv1, hd1, _, _⟩, _⟩, _, _⟩ := h
  obtain rfl := Option.some.inj (gOff.symm.trans hg0)
  obtain rfl := Option.some.inj (gRc.symm.trans hg1)
  obtain rfl := Option.some.inj (tOff.symm.trans ht0)
  obtain rfl := Option.some.inj (tRc.symm.trans ht1)
  have r0 := tab_cells (L := offN.map fun (x : Nat) => (x : Int)) Tryz.underlying182 Tryz.underlying3 (by kernel_rfl) hd0
  have r1 := tab_cells (L := rcs.map fun (x : Nat) => (x : Int)) Tryz.underlying176 Tryz.underlying143 (by kernel_rfl) hd1
  have c0 : ∀ i, i < 25 → W.cell? ⟨1, i, none⟩ = some (.int .i64 (offN.getD i 0 : Int)) := by
    intro i hi
    rw [World.var?_cell hg0 hv0 i]
    have := r0 i hi
    rw [Array.getElem?_toList] at this
    rw [this]
    have hl : offN.length = 25 := rfl
    rw [getD_at _ i (by simp [hl]; exact hi), getDn_at _ i (by omega)]
    simp
  have c1 : ∀ i, i < 24 → W.cell? ⟨0, i, none⟩ = some (.int .u64 (rcs.getD i 0 : Int)) := by
    intro i hi
    rw [World.var?_cell hg1 hv1 i]
    have := r1 i hi
    rw [Array.getElem?_toList] at this
    rw [this]
    have hl : rcs.length = 24 := rfl
    rw [getD_at _ i (by simp [hl]; exact hi), getDn_at _ i (by omega)]
    simp
  have hlt : 1 < W.heap.size := lt_of_cell (c0 0 (by omega))
  exact ⟨hlt, c1, c0⟩

/-- The heap that the door's own run leaves meets the condition. -/
theorem door_met (os : Os) (args : Array Value) : laidMetH Tryz.prog laid2 ((World.doorLaid Tryz.prog 400 os).forCall (fun _ _ => 0) ⟨#[], args, []⟩).memory :=
  laidMetH_of_parts3 (fuel := 8) (laidMet_of_run' 8 (by kernel_rfl) (by kernel_rfl)) (by kernel_rfl) (by kernel_rfl)

end Go.Proofs.YtldiilmpmcbjkaaGreatDoor

/- What is proved here: the contracts of the laws' helper functions on byte slices (toByteS, eqByteS), for slices of at most 2^20 bytes. -/
namespace Go.Proofs.YtldiilmpmcbjkaaGreatDoor
open Go.RowKit
set_option linter.unusedVariables false
set_option maxRecDepth 100000

set_option maxHeartbeats 400000 in
theorem toByteS_any (a : Option Addr) (len cap : Nat) (zs : List Int) (w : World) (h : BRow w a len zs) (hl : len ≤ 1048576) :
    Calls Tryz.prog 52 #[.slice a len cap] w fun e w' => e = .returned (.slice (some ⟨w.heap.size, 0, none⟩) len len) ∧
      w'.ownsRow w.heap.size 5 1 (.slice (some ⟨w.heap.size, 0, none⟩) len len) len (zs.map (Value.int .u8)) ∧ Below w.heap.size w w' := by
  obtain ⟨i0, hi, hz0, hz1, hz2⟩ := info_parts info5
  rcases Nat.eq_zero_or_pos len with h0 | hp
  · subst h0
    have hzs : zs = [] := List.length_eq_zero_iff.1 h.1
    subst hzs
    clear h hl
    go_enter Tryz.func52, Tryz.ntmps52
    go_wp2_with (at_make; refine wpList_make_full _ rfl _ _ 60 rfl w.heap.size 5 i0 (.int .u8 0) 1 Tryz.underlying60 hi hz0 hz1 _ _ _ _ 0 rfl rfl rfl rfl ?c1 ?c2 ?c3 ?_)
    case c1 => omega
    case c2 => unfold maxLen; omega
    case c3 => omega
    intro w1 hown hgrow
    go_wp2
    refine wp_loop_rounds 1 ?_
    rw [rounds_succ]
    go_wp2
    go_ret
    exact ⟨rfl, by simpa [toList_madeCells_one] using hown, (Below.refl _ _).grown hgrow (Nat.le_refl _) (fun k e => by cases e)⟩
  · obtain ⟨b, off, rfl, hb, hc⟩ := h.at hp
    have hzl := h.1
    clear h
    go_enter Tryz.func52, Tryz.ntmps52
    go_wp2_with (at_make; refine wpList_make_full _ rfl _ _ 60 rfl w.heap.size 5 i0 (.int .u8 0) 1 Tryz.underlying60 hi hz0 hz1 _ _ _ _ len rfl rfl rfl rfl ?c1 ?c2 ?c3 ?_)
    case c1 => rw [hz2]; omega
    case c2 => unfold maxLen; omega
    case c3 => omega
    intro w1 hown hgrow
    have hown0 : w1.ownsRow w.heap.size 5 1 (.slice (some ⟨w.heap.size, 0, none⟩) len len) len ((zs.take 0 ++ List.replicate (len - 0) 0).map (Value.int .u8)) := by
      have e : (madeCells #[Value.int .u8 0] len).toList = (zs.take 0 ++ List.replicate (len - 0) 0).map (Value.int .u8) := by
        rw [toList_madeCells_one]; simp
      rw [← e]; exact hown
    have hbel : Below w.heap.size w w1 := (Below.refl _ _).grown hgrow (Nat.le_refl _) (fun k e => by cases e)
    clear hown hgrow
    go_wp2
    go_loopw [4] (fun i wr => ∃ k : Nat, k ≤ len ∧ i = .int .i64 k ∧ wr.ownsRow w.heap.size 5 1 (.slice (some ⟨w.heap.size, 0, none⟩) len len) len ((zs.take k ++ List.replicate (len - k) 0).map (Value.int .u8)) ∧ Below w.heap.size w wr)
      (fun i _ => len - (intOf i).toNat)
    case atStart => exact ⟨0, Nat.zero_le _, rfl, hown0, hbel⟩
    case round =>
      obtain ⟨k, hk, rfl, hown, hbr⟩ := hrel
      clear hown0 hbel
      by_cases hlt : k < len
      · have hst := fill_step zs len k hzl hlt
        have hcx : wr.cell? ⟨b, off + k, none⟩ = some (.int .u8 (zs.getD k 0)) := (hbr.cell (by exact hb)).trans (hc k hlt)
        generalize zs.getD k 0 = z at hcx hst
        have hfz := hown.frozenAt k
        obtain ⟨u, hu⟩ : ∃ u, wr.cell? ⟨w.heap.size, k, none⟩ = some u := by
          rw [hown.cellAt k (by omega)]
          exact ⟨_, List.getElem?_eq_getElem (by rw [hown.1]; omega)⟩
        have R := hown.stored k (.int .u8 z)
        rw [hst] at R
        have HR := R.1
        have HB : Below w.heap.size w (wr.setCell ⟨w.heap.size, k, none⟩ (.int .u8 z)) := hbr.setCell (Nat.le_refl _) _
        clear R hown hst
        go_wp2
        go_roundw
        case rel => exact ⟨k + 1, by omega, by go_num, HR, HB⟩
        case measure => simp [intOf]; omega
      · obtain rfl : k = len := by omega
        go_wp2
        go_ret
        refine ⟨rfl, ?_, hbr⟩
        simpa [← hzl] using hown


set_option maxHeartbeats 400000 in
theorem eqByteS_any (a b : Option Addr) (la ca lb cb : Nat) (xs ys : List Int) (w : World) (ha : BRow w a la xs) (hb : BRow w b lb ys) (hl : la ≤ 1048576) (hl2 : lb ≤ 1048576) :
    Calls Tryz.prog 62 #[.slice a la ca, .slice b lb cb] w fun e w' => e = .returned (.bool (sameB xs ys)) ∧ ∃ n, w' = w.drewN n := by
  have hxl := ha.1
  have hyl := hb.1
  by_cases hne : la = lb
  · subst hne
    have hlen : (((la : Nat) : Int) != ((la : Nat) : Int)) = false := by simp
    rcases Nat.eq_zero_or_pos la with h0 | hp
    · subst h0
      have hx : xs = [] := List.length_eq_zero_iff.1 hxl
      have hy : ys = [] := List.length_eq_zero_iff.1 hyl
      subst hx hy
      clear ha hb
      go_enter Tryz.func62, Tryz.ntmps62
      go_wp2
      refine wp_loop_rounds 1 ?_
      rw [rounds_succ]
      go_wp2
      go_ret
      exact ⟨rfl, 0, rfl⟩
    · obtain ⟨ba, oa, rfl, hba, hca⟩ := ha.at hp
      obtain ⟨bb, ob, rfl, hbb, hcb⟩ := hb.at hp
      have HCA := hide hca
      have HCB := hide hcb
      clear ha hb hca hcb
      go_enter Tryz.func62, Tryz.ntmps62
      go_wp2
      go_loopw [5] (fun i wr => ∃ k n : Nat, k ≤ la ∧ i = .int .i64 k ∧ xs.take k = ys.take k ∧ wr = w.drewN n)
        (fun i _ => la - (intOf i).toNat)
      case atStart => exact ⟨0, 0, Nat.zero_le _, rfl, rfl, rfl⟩
      case round =>
        obtain ⟨k, n, hk, rfl, hpre, rfl⟩ := hrel
        by_cases hlt : k < la
        · have h1 : w.cell? ⟨ba, oa + k, none⟩ = some (.int .u8 (xs.getD k 0)) := (unhide HCA) k hlt
          have h2 : w.cell? ⟨bb, ob + k, none⟩ = some (.int .u8 (ys.getD k 0)) := (unhide HCB) k hlt
          have Hs := take_same xs ys k (by omega) (by omega) hpre
          have Hd := take_other xs ys k (by omega) (by omega)
          generalize xs.getD k 0 = x at h1 Hs Hd
          generalize ys.getD k 0 = y at h2 Hs Hd
          have HS := hide Hs
          have HD := hide Hd
          have HP := hide hpre
          have i1 : (0 : Int) ≤ (k : Int) := by omega
          have i2 : (k : Int) < (la : Int) := by omega
          clear Hs Hd hpre hxl hyl
          by_cases hxy : x = y
          · subst hxy
            have HT := hide ((unhide HS) rfl)
            clear HS HD HP
            have ht : (x != x) = false := by simp
            go_wp2
            go_quiet (fail)
            go_wp2
            go_roundw
            case rel => exact ⟨k + 1, _, by omega, by go_num, unhide HT, rfl⟩
            case measure => simp [intOf]; omega
          · have ht : (x != y) = true := by simp [hxy]
            go_wp2
            go_quiet (fail)
            go_wp2
            go_ret
            exact ⟨ret_bool ((unhide HD) hxy).symm, _, World.drewN_drewN ..⟩
        · obtain rfl : k = la := by omega
          have e := take_whole xs ys k hxl hyl hpre
          have HE := hide e
          clear e hpre hxl hyl
          go_wp2
          go_ret
          exact ⟨ret_bool (unhide HE).symm, n, rfl⟩
  · have hlen : (((la : Nat) : Int) != ((lb : Nat) : Int)) = true := by simp; omega
    have e : sameB xs ys = false := by
      unfold sameB
      rw [beq_eq_false_iff_ne]
      intro e; rw [e] at hxl; omega
    have HE := hide e
    clear e
    go_enter Tryz.func62, Tryz.ntmps62
    go_wp2
    go_ret
    exact ⟨ret_bool (unhide HE).symm, 0, rfl⟩

end Go.Proofs.YtldiilmpmcbjkaaGreatDoor
