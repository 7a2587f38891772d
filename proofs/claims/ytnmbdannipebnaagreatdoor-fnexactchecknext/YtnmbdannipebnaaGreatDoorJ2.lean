/- What is proved here: what the model's l1In answers: whether a number lies within two bounds. -/
import Derived.Test.YtnmbdannipebnaaGreatDoorChecked
import Derived.Test.YtnmbdannipebnaaGreatDoorJ1
import Derived.WalkKit
import Derived.KernelRfl
import Derived.WalkLawsBesides
import Derived.WalkSmall
import Derived.WalkSpells
import Derived.RegionTactic
import Derived.BigRegion
import Derived.Laws.BitsAllLaws
import Derived.Deep.RegionWith
import Derived.Deep.CutBlock
import Derived.Deep.DeepCutAuto
import Derived.LaidEql
import Derived.Stop.Asserts
import Derived.RowKitTokens
import Derived.Test.YtnmbdannipebnaaGreatDoorRows
import Derived.ProofKit
import Derived.LaidMore
import Derived.LaidHandle
import Derived.LaidLaws
import Derived.OpenShut
import Derived.FnData
namespace Go.Proofs.YtnmbdannipebnaaGreatDoor
open Go.RowKit
set_option linter.unusedVariables false
set_option maxRecDepth 100000

theorem in_yes (v lo hi : Int) (w : World) (h0 : lo ≤ v) (h1 : v ≤ hi) : Calls Tryz.prog 71 #[.int .i64 v, .int .i64 lo, .int .i64 hi] w fun e w' => e = .returned (.bool true) ∧ w' = w := by
  have e0 : decide (lo ≤ v) = true := decide_eq_true h0
  have e1 : decide (v ≤ hi) = true := decide_eq_true h1
  go_enter Tryz.func71, Tryz.ntmps71
  go_wp2
  go_ret
  exact ⟨ret_bool (by simp), rfl⟩

set_option maxHeartbeats 1000000 in
theorem in_no (v lo hi : Int) (w : World) (h : v < lo ∨ hi < v) : Calls Tryz.prog 71 #[.int .i64 v, .int .i64 lo, .int .i64 hi] w fun e w' => e = .returned (.bool false) ∧ w' = w := by
  by_cases h0 : lo ≤ v
  · have e0 : decide (lo ≤ v) = true := decide_eq_true h0
    have e1 : decide (v ≤ hi) = false := decide_eq_false (by omega)
    go_enter Tryz.func71, Tryz.ntmps71
    go_wp2
    go_ret
    exact ⟨ret_bool (by simp), rfl⟩
  · have e0 : decide (lo ≤ v) = false := decide_eq_false h0
    go_enter Tryz.func71, Tryz.ntmps71
    go_wp2
    go_ret
    exact ⟨ret_bool (by simp), rfl⟩

/-- Whether a number is a word. -/
def isWord (v : Int) : Bool := decide (0 ≤ v ∧ v ≤ 4294967295)

theorem in_any (v lo hi : Int) (w : World) : Calls Tryz.prog 71 #[.int .i64 v, .int .i64 lo, .int .i64 hi] w fun e w' => e = .returned (.bool (decide (lo ≤ v ∧ v ≤ hi))) ∧ w' = w := by
  by_cases h : lo ≤ v ∧ v ≤ hi
  · rw [decide_eq_true h]; exact in_yes v lo hi w h.1 h.2
  · rw [decide_eq_false h]; exact in_no v lo hi w (by omega)

end Go.Proofs.YtnmbdannipebnaaGreatDoor

/- What is proved here: what the model's TurnLane answers for every three numbers: the code and the two words, in new memory. -/
namespace Go.Proofs.YtnmbdannipebnaaGreatDoor
open Go.RowKit
set_option linter.unusedVariables false
set_option maxRecDepth 100000

/-- The code and the words of TurnLane. -/
def tlOk (h l n : Int) : Bool := isWord h && isWord l && decide (0 ≤ n ∧ n ≤ 63)
def tlCode (h l n : Int) : Int := if tlOk h l n then 0 else 3
def tlList (h l n : Int) : List Int := if tlOk h l n then [(laneTurn h l n).1, (laneTurn h l n).2] else []

end Go.Proofs.YtnmbdannipebnaaGreatDoor

/- What is proved here: the program's small functions on lanes: whether a number is a word, a lane of two words, its two words, a lane turned. -/
namespace Go.Proofs.YtnmbdannipebnaaGreatDoor
open Go.RowKit
set_option linter.unusedVariables false
set_option maxRecDepth 100000

theorem wraps_u64 (n : Int) (h₀ : 0 ≤ n) (h₁ : n < 2 ^ 64) : IntKind.u64.wrap n = n := by rw [IntKind.wrap_u64]; omega

theorem or_join (x y : Nat) (i : Nat) (hx : x % 2 ^ i = 0) (hy : y < 2 ^ i) (hs : x < 18446744073709551616) (hy2 : y < 18446744073709551616) : bits .or .u64 (x : Int) (y : Int) = ((x + y : Nat) : Int) := by
  have := bits_join .u64 64 (by decide) wraps_u64 i (x : Int) (y : Int) (by omega) (by exact_mod_cast hx) (by omega) (by omega) (by exact_mod_cast hy) (by omega)
  rw [this]; simp

set_option maxHeartbeats 1000000 in
theorem rotl_any (a n : Nat) (ha : a < 18446744073709551616) (hn : n ≤ 63) (w : World) :
    Calls Tryz.prog 217 #[.int .u64 (a : Int), .int .i64 (n : Int)] w fun e w' => e = .returned (.int .u64 (rotL a n : Int)) ∧ w' = w := by
  have hm : bits .and .u64 (n : Int) 63 = (n : Int) := by
    have := bits_mask .u64 64 (by decide) wraps_u64 6 (by decide) (n : Int) (by omega) (by omega)
    rw [show (2 : Int) ^ 6 - 1 = 63 by decide] at this
    rw [this, show (2 : Int) ^ 6 = 64 by decide]
    omega
  go_enter Tryz.func217, Tryz.ntmps217
  go_wp2_with fail
  go_ret
  refine ⟨ret_int ?_, rfl⟩
  have hP : 2 ^ (64 - n) * 2 ^ n = 18446744073709551616 := by rw [← pow_split, show (64 - n) + n = 64 by omega]
  have q : a / 2 ^ (64 - n) < 2 ^ n := by rw [Nat.div_lt_iff_lt_mul (Nat.two_pow_pos _), Nat.mul_comm, hP]; exact ha
  have r1 : a * 2 ^ n % 18446744073709551616 % 2 ^ n = 0 := by
    rw [← hP, Nat.mod_mul_left_mod]; exact Nat.mul_mod_left _ _
  have := or_join (a * 2 ^ n % 18446744073709551616) (a / 2 ^ (64 - n)) n r1 q (by omega) (Nat.lt_of_le_of_lt (Nat.div_le_self _ _) ha)
  rw [IntKind.wrap_u64]
  unfold rotL
  rw [← this]
  simp

end Go.Proofs.YtnmbdannipebnaaGreatDoor

/- What is proved here: the program's step that moves and turns the lanes, told by lanes; the variable of the offsets reads as the program's text lays it. -/
namespace Go.Proofs.YtnmbdannipebnaaGreatDoor
open Go.RowKit
set_option linter.unusedVariables false
set_option maxRecDepth 100000
attribute [local go_sem ↓] Go.wp_at_zero Go.wp_at_succ

/-- The two variables read as the program's text lays them (the blocks 0 and 1 are theirs). -/
def Laid (w : World) : Prop := (3 ≤ w.heap.size) ∧ (∀ i, i < 24 → w.cell? ⟨1, i, none⟩ = some (.int .u64 (rcs.getD i 0 : Int))) ∧ ∀ i, i < 25 → w.cell? ⟨2, i, none⟩ = some (.int .i64 (offN.getD i 0 : Int))

theorem Laid.below {w w' : World} (h : Laid w) {B : Nat} (hb : Below B w w') (hB : w.heap.size ≤ B) : Laid w' := by
  have hsz := hb.size
  have h2 := h.1
  refine ⟨by omega, fun i hi => ?_, fun i hi => ?_⟩
  · rw [hb.cell (p := ⟨1, i, none⟩) (by show 1 < B; omega)]; exact h.2.1 i hi
  · rw [hb.cell (p := ⟨2, i, none⟩) (by show 2 < B; omega)]; exact h.2.2 i hi

set_option maxRecDepth 100000 in
set_option maxHeartbeats 1000000 in
theorem move_any (T : List Nat) (hT : Lanes T) (w : World) (hv : Laid w) :
    Calls Tryz.prog 205 #[.agg (vals T).toArray] w fun e w' => e = .returned (.agg (vals (bAt T 25)).toArray) ∧ Below w.heap.size w w' := by
  have HTL := hide hT
  have HVV := hide hv
  have tlen := hT.1
  have w2s := hv.1
  clear hT hv
  generalize hM : bAt T 25 = M
  have HM := hide hM
  clear hM
  generalize hV : vals T = V
  have HV := hide hV
  clear hV
  go_enter Tryz.func205, Tryz.ntmps205
  go_upto_block 0 with fail
  obtain ⟨w1, hw1⟩ : ∃ w1, w1 = ((w.alloc (.cells V.toArray 169)).alloc (.cells (vals (List.replicate 25 0)).toArray 169)).alloc (.cells (vals (List.replicate 25 0)).toArray 169) := ⟨_, rfl⟩
  have e1 : ((w.alloc (.cells V.toArray 169)).alloc (.cells #[.int .u64 0, .int .u64 0, .int .u64 0, .int .u64 0, .int .u64 0, .int .u64 0, .int .u64 0, .int .u64 0, .int .u64 0, .int .u64 0, .int .u64 0, .int .u64 0, .int .u64 0, .int .u64 0, .int .u64 0, .int .u64 0, .int .u64 0, .int .u64 0, .int .u64 0, .int .u64 0, .int .u64 0, .int .u64 0, .int .u64 0, .int .u64 0, .int .u64 0] 169)).alloc (.cells #[.int .u64 0, .int .u64 0, .int .u64 0, .int .u64 0, .int .u64 0, .int .u64 0, .int .u64 0, .int .u64 0, .int .u64 0, .int .u64 0, .int .u64 0, .int .u64 0, .int .u64 0, .int .u64 0, .int .u64 0, .int .u64 0, .int .u64 0, .int .u64 0, .int .u64 0, .int .u64 0, .int .u64 0, .int .u64 0, .int .u64 0, .int .u64 0, .int .u64 0] 169) = w1 := by rw [hw1]; rfl
  rw [e1]
  have G1 : Below w.heap.size w w1 := by rw [hw1]; exact ((below_alloc w _).alloc (by simp) _).alloc (by simp; omega) _
  have S1 : UBlk w1 w.heap.size T 169 := by
    rw [hw1, ← unhide HV]
    exact ((UBlk.new w T _).next _).next _
  have R1 : UBlk w1 (w.heap.size + 1) (List.replicate 25 0) 169 := by
    have := (UBlk.new (w.alloc (.cells V.toArray 169)) (List.replicate 25 0) 169).next (.cells (vals (List.replicate 25 0)).toArray 169)
    rw [hw1]
    simpa using this
  have O1 : UBlk w1 (w.heap.size + 1 + 1) (bAt T 0) 169 := by
    have := UBlk.new ((w.alloc (.cells V.toArray 169)).alloc (.cells (vals (List.replicate 25 0)).toArray 169)) (List.replicate 25 0) 169
    have hs : ((w.alloc (.cells V.toArray 169)).alloc (.cells (vals (List.replicate 25 0)).toArray 169)).heap.size = w.heap.size + 1 + 1 := by simp
    rw [hs, ← hw1] at this
    exact this
  obtain ⟨q, hq⟩ : ∃ q, q = w.heap.size + 1 + 1 := ⟨_, rfl⟩
  rw [← hq] at O1 ⊢
  have D1 : w.heap.size + 1 < q := by omega
  clear hq
  have HS := hide S1
  have HR := hide R1
  have HO := hide O1
  have HG := hide G1
  clear e1 hw1 S1 R1 O1 G1
  go_wp2_with fail
  go_loopw [8] (fun c wr => ∃ Y : Nat, Y ≤ 5 ∧ c = .int .i64 Y ∧ UBlk wr w.heap.size T 169 ∧ UBlk wr (w.heap.size + 1) (List.replicate 25 0) 169 ∧ UBlk wr (q) (bAt T (5 * Y)) 169 ∧ Below w.heap.size w wr)
    (fun c _ => 5 - (intOf c).toNat)
  case atStart => exact ⟨0, by omega, rfl, unhide HS, unhide HR, unhide HO, unhide HG⟩
  case round =>
    obtain ⟨Y, hY, rfl, hS, hR, hO, hG⟩ := hrel
    clear HS HR HO HG
    have HS := hide hS
    have HR := hide hR
    have HO := hide hO
    have HG := hide hG
    clear hS hR hO hG
    by_cases hlt : Y < 5
    · have hdk : decide ((Y : Int) < 5) = true := decide_eq_true (by omega)
      go_wp2_with fail
      go_loopw [11] (fun c wr => ∃ X : Nat, X ≤ 5 ∧ c = .int .i64 X ∧ UBlk wr w.heap.size T 169 ∧ UBlk wr (w.heap.size + 1) (List.replicate 25 0) 169 ∧ UBlk wr (q) (bAt T (5 * Y + X)) 169 ∧ Below w.heap.size w wr)
        (fun c _ => 5 - (intOf c).toNat)
      case atStart => exact ⟨0, by omega, rfl, unhide HS, unhide HR, unhide HO, unhide HG⟩
      case round =>
        obtain ⟨X, hX, rfl, hS, hR, hO, hG⟩ := hrel
        clear HS HR HO HG
        by_cases hx5 : X < 5
        · have hdx : decide ((X : Int) < 5) = true := decide_eq_true (by omega)
          obtain ⟨k, hk⟩ : ∃ k, k = 5 * Y + X := ⟨_, rfl⟩
          rw [← hk] at hO
          obtain ⟨r, hr⟩ : ∃ r, r = (2 * X + 3 * Y) % 5 := ⟨_, rfl⟩
          obtain ⟨p, hp⟩ : ∃ p, p = Y + 5 * r := ⟨_, rfl⟩
          have hpos : posOf k = p := by
            unfold posOf
            rw [show k % 5 = X by omega, show k / 5 = Y by omega, ← hr, ← hp]
          have hbl := bAt_lanes (unhide HTL) k
          have c0 := hS.cell k (by omega)
          have n0 := hO.cell p (by rw [hbl.1]; omega)
          have f0 := hO.free p
          have hl0 := (((unhide HVV).below hG (Nat.le_refl _)).2.2) k (by omega)
          have hoff := offN_le k
          have lt0 : T.getD k 0 < 18446744073709551616 := getD_lt (unhide HTL).2 (by decide) _
          have hsucc := bAt_succ T k
          rw [hpos] at hsucc
          generalize T.getD k 0 = v at c0 hsucc lt0
          generalize offN.getD k 0 = n at hl0 hsucc hoff
          generalize (bAt T k).getD p 0 = u at n0
          have HO5 := hide (hO.set p (rotL v n))
          rw [← hsucc] at HO5
          have HS5 := hide (hS.other (b' := q) p (.int .u64 (rotL v n : Int)) (by omega))
          have HR5 := hide (hR.other (b' := q) p (.int .u64 (rotL v n : Int)) (by omega))
          have HG5 := hide (hG.setCell (p := ⟨q, p, none⟩) (by show w.heap.size ≤ q; omega) (.int .u64 (rotL v n : Int)))
          have HRT := hide (rotl_any v n lt0 hoff)
          have ek : (X : Int) + 5 * (Y : Int) = (k : Int) := by omega
          have er : (2 * (X : Int) + 3 * (Y : Int)).tmod 5 = (r : Int) := by rw [Int.tmod_eq_emod_of_nonneg (by omega)]; omega
          have er' : (2 * (X : Int) + 3 * (Y : Int)) % 5 = (r : Int) := by omega
          have ep : (Y : Int) + 5 * (r : Int) = (p : Int) := by omega
          have i0 : (k : Int) < 25 := by omega
          have i1 : (p : Int) < 25 := by omega
          have hk' : 5 * Y + (X + 1) = k + 1 := by omega
          have HK' := hide hk'
          clear hS hR hO hG hsucc hk hr hp hk' hpos hbl hoff lt0
          go_wp2_with fail
          go_region_with (go_at_call 217; refine ((unhide HRT) _).mono ?_; rintro e w' ⟨rfl, rfl⟩)
          all_goals
            go_wp2_with fail
            go_roundw
            case rel => exact ⟨X + 1, by omega, by go_num, unhide HS5, unhide HR5, by rw [unhide HK']; exact unhide HO5, (unhide HG5).drew⟩
            case measure => simp [intOf]; omega
        · obtain rfl : X = 5 := by omega
          have hdx : decide (((5 : Nat) : Int) < 5) = false := rfl
          have hO' : UBlk wr (q) (bAt T (5 * (Y + 1))) 169 := hO
          go_wp2_with fail
          go_roundw
          case rel => exact ⟨Y + 1, by omega, by go_num, hS, hR, hO', hG⟩
          case measure => simp [intOf]; omega
    · obtain rfl : Y = 5 := by omega
      have hdk : decide (((5 : Nat) : Int) < 5) = false := rfl
      have clen := (bAt_lanes (unhide HTL) 25).1
      have hO : UBlk wr q (bAt T 25) 169 := unhide HO
      rw [unhide HM] at clen hO
      have HLD := hide (load25 hO clen)
      obtain ⟨w3, hst, R3, K3, _⟩ := store25 (unhide HR) (by simp) clen
      have HST := hide hst
      have HR3 := hide R3
      have HG3 := hide ((unhide HG).trans (K3 w.heap.size (by omega)))
      clear hO hst R3 K3 HS HO HG HR
      go_wp2_with (first | refine wpList_load_eq rfl 169 _ rfl _ _ rfl (unhide HLD) ?_ | refine wpList_store_eq rfl 169 _ _ rfl _ _ rfl rfl w3 (unhide HST) ?_)
      exact bodyPost_ret (results_cell_row rfl _ _ (w.heap.size + 1) 169 _ (0, 0) _ rfl (unhide HR3) Tryz.underlying169 rfl (by rw [List.size_toArray, vals_length, clen]; kernel_rfl)) rfl ⟨rfl, unhide HG3⟩

end Go.Proofs.YtnmbdannipebnaaGreatDoor

/- What is proved here: what errors.As answers at a target of the program's own error type notBorne: false at nil; true where the error is one of these. -/
namespace Go.Proofs.YtnmbdannipebnaaGreatDoor
open Go.RowKit Go.Extern.Stop Go.Stop Go.Extern
set_option linter.unusedVariables false
set_option maxRecDepth 100000

theorem as_nil (t : Value) (w : World) :
    Calls Tryz.prog 167 #[.nilIface, t] w fun e w' => e = .returned (.bool false) ∧ w' = w := by
  go_enter Tryz.func167, Tryz.ntmps167
  go_wp2
  go_ret
  exact ⟨rfl, rfl⟩

theorem asValueP (t : Addr) (w : World) : (ReflectliteValue.unpack (.iface 190 (.pointer (some t)))).run Tryz.prog w
    = .ok (.agg #[.pointer (some ⟨4, 190, none⟩), .pointer (some ⟨w.heap.size, 0, none⟩), .int .u64 150]) (w.alloc (.cells #[.pointer (some t)] 190)) := by kernel_rfl
theorem asTypeP (a : Addr) (w : World) : (ReflectliteValue.methodAny (ReflectliteValue.valueError "reflectlite.Value.Type" 0) (fun t _ _ _ => ReflectliteType.toType t) #[.agg #[.pointer (some ⟨4, 190, none⟩), .pointer (some a), .int .u64 150]]).run Tryz.prog w
    = .ok (.iface 248 (.agg #[.pointer (some ⟨4, 190, none⟩)])) w := by kernel_rfl
theorem asMKind (h : Value) (w : World) : (Go.method 402 248 (.agg #[h]) "Kind").run Tryz.prog w = .ok (238, h) w := by kernel_rfl
theorem asKindP (w : World) : ((ReflectliteType.abiMethod fun t => (fun a : Nat => Value.int IntKind.u8 (a : Int)) <$> Rtype.kind t) #[.pointer (some ⟨4, 190, none⟩)]).run Tryz.prog w = .ok (.int .u8 22) w := by kernel_rfl
theorem asKindT (w : World) : ((ReflectliteType.abiMethod fun t => (fun a : Nat => Value.int IntKind.u8 (a : Int)) <$> Rtype.kind t) #[.pointer (some ⟨4, 188, none⟩)]).run Tryz.prog w = .ok (.int .u8 25) w := by kernel_rfl

theorem asPartsP (a : Addr) (w : World) : (ReflectliteValue.parts (.agg #[.pointer (some ⟨4, 190, none⟩), .pointer (some a), .int .u64 150])).run Tryz.prog w = .ok (some (190, a, 150)) w := by kernel_rfl
theorem asIsNil (a p : Addr) (W : World) (ha : W.cell? a = some (.pointer (some p))) :
    (ReflectliteValue.method (ReflectliteValue.valueError "reflectlite.Value.IsNil" 0) ReflectliteValue.isNil #[.agg #[.pointer (some ⟨4, 190, none⟩), .pointer (some a), .int .u64 150]]).run Tryz.prog W = .ok (.bool false) W := by
  delta ReflectliteValue.method ReflectliteValue.method.match_2
  simp only [List.size_toArray, List.length_cons, List.length_nil, Nat.zero_add, Array.getLit, List.getElem_toArray, List.getElem_cons_zero, ↓reduceDIte]
  simp only [Sem.run_bind, asPartsP, Result.andThen]
  simp [ReflectliteValue.isNil, loadVar, isAgg, underlying, Tryz.underlying190, ha, Result.andThen]

theorem asMElem (h : Value) (w : World) : (Go.method 402 248 (.agg #[h]) "Elem").run Tryz.prog w = .ok (249, .agg #[h]) w := by kernel_rfl
theorem asMImpl (h : Value) (w : World) : (Go.method 402 248 (.agg #[h]) "Implements").run Tryz.prog w = .ok (250, .agg #[h]) w := by kernel_rfl
theorem asMAsg (h : Value) (w : World) : (Go.method 402 248 (.agg #[h]) "AssignableTo").run Tryz.prog w = .ok (247, .agg #[h]) w := by kernel_rfl
theorem asElemP (w : World) : (ReflectliteType.method ReflectliteType.elem #[.agg #[.pointer (some ⟨4, 190, none⟩)]]).run Tryz.prog w = .ok (.iface 248 (.agg #[.pointer (some ⟨4, 188, none⟩)])) w := by kernel_rfl
theorem asImplT (w : World) : (ReflectliteType.relation "Implements" ReflectliteType.implements_ #[.agg #[.pointer (some ⟨4, 188, none⟩)], .iface 248 (.agg #[.pointer (some ⟨4, 161, none⟩)])]).run Tryz.prog w = .ok (.bool true) w := by kernel_rfl
theorem asTypeOfT (v : Value) (w : World) : (ReflectliteType.typeOf #[.iface 188 v]).run Tryz.prog w = .ok (.iface 248 (.agg #[.pointer (some ⟨4, 188, none⟩)])) w := by kernel_rfl
theorem asAsgT (w : World) : (ReflectliteType.relation "AssignableTo" ReflectliteType.assignableTo #[.agg #[.pointer (some ⟨4, 188, none⟩)], .iface 248 (.agg #[.pointer (some ⟨4, 188, none⟩)])]).run Tryz.prog w = .ok (.bool true) w := by kernel_rfl
theorem asValueT (s : ByteArray) (w : World) : (ReflectliteValue.unpack (.iface 188 (.agg #[.string s]))).run Tryz.prog w
    = .ok (.agg #[.pointer (some ⟨4, 188, none⟩), .pointer (some ⟨w.heap.size, 0, none⟩), .int .u64 153]) (w.alloc (.cells #[.string s] 188)) := by kernel_rfl

theorem asElemOf (w : World) : (Rtype.elem? 190).run Tryz.prog w = .ok (some 188) w := by kernel_rfl
theorem asMk (p : Addr) (w : World) : (ReflectliteValue.mk 188 p ReflectliteValue.flagAddr).run Tryz.prog w = .ok (.agg #[.pointer (some ⟨4, 188, none⟩), .pointer (some p), .int .u64 409]) w := by kernel_rfl
theorem asElemV (a p : Addr) (W : World) (ha : W.cell? a = some (.pointer (some p))) :
    (ReflectliteValue.method (ReflectliteValue.valueError "reflectlite.Value.Elem" 0) ReflectliteValue.elem #[.agg #[.pointer (some ⟨4, 190, none⟩), .pointer (some a), .int .u64 150]]).run Tryz.prog W
      = .ok (.agg #[.pointer (some ⟨4, 188, none⟩), .pointer (some p), .int .u64 409]) W := by
  delta ReflectliteValue.method ReflectliteValue.method.match_2
  simp only [List.size_toArray, List.length_cons, List.length_nil, Nat.zero_add, Array.getLit, List.getElem_toArray, List.getElem_cons_zero, ↓reduceDIte]
  simp only [Sem.run_bind, asPartsP, Result.andThen]
  simp [ReflectliteValue.elem, loadVar, isAgg, underlying, Tryz.underlying190, ha, Result.andThen, asElemOf, asMk]
theorem asPartsA (a : Addr) (w : World) : (ReflectliteValue.parts (.agg #[.pointer (some ⟨4, 188, none⟩), .pointer (some a), .int .u64 409])).run Tryz.prog w = .ok (some (188, a, 409)) w := by kernel_rfl
theorem asPartsT (a : Addr) (w : World) : (ReflectliteValue.parts (.agg #[.pointer (some ⟨4, 188, none⟩), .pointer (some a), .int .u64 153])).run Tryz.prog w = .ok (some (188, a, 153)) w := by kernel_rfl
theorem asDirect (w : World) : (Rtype.directlyAssignable 188 188).run Tryz.prog w = .ok true w := by kernel_rfl
theorem asSize (w : World) : (sizeOf 188).run Tryz.prog w = .ok 1 w := by kernel_rfl
theorem asLoadT (b : Addr) (s : ByteArray) (W : World) (hb : W.cell? b = some (.string s)) : (loadVar 188 b).run Tryz.prog W = .ok (.agg #[.string s]) W := by
  simp [loadVar, isAgg, underlying, Tryz.underlying188, Result.andThen, loadCells, loadCellsFrom, Addr.add, hb]
theorem asStoreT (ta : Addr) (s : ByteArray) (old : Value) (W : World) (ht : W.cell? ta = some old) (hf : W.frozen? ta = false) : (storeVar 188 ta (.agg #[.string s])).run Tryz.prog W = .ok () (W.setCell ta (.string s)) := by
  simp [storeVar, Value.cells, storeCells, Addr.add, Result.andThen]
  rw [run_store Tryz.prog W ta _ _ (by rfl)]
  simp [ht, hf]
theorem asSet (ta b : Addr) (s : ByteArray) (old : Value) (W : World) (hb : W.cell? b = some (.string s)) (ht : W.cell? ta = some old) (hf : W.frozen? ta = false) :
    (ReflectliteValue.set #[.agg #[.pointer (some ⟨4, 188, none⟩), .pointer (some ta), .int .u64 409], .agg #[.pointer (some ⟨4, 188, none⟩), .pointer (some b), .int .u64 153]]).run Tryz.prog W
      = .ok (.tuple #[]) (W.setCell ta (.string s)) := by
  delta ReflectliteValue.set ReflectliteValue.set.match_3
  simp only [List.size_toArray, List.length_cons, List.length_nil, Nat.zero_add, Nat.reduceAdd, Array.getLit, List.getElem_toArray, List.getElem_cons_zero, List.getElem_cons_succ, ↓reduceDIte]
  simp only [Sem.run_bind, asPartsA, asPartsT, Result.andThen]
  simp [ReflectliteValue.flagAddr, Result.andThen, asLoadT b s W hb, asDirect, asStoreT ta s old W ht hf]

end Go.Proofs.YtnmbdannipebnaaGreatDoor

/- What is proved here: what errors.As answers where the error is a notBorne, and what the program's isUnborne and bearing answer. -/
namespace Go.Proofs.YtnmbdannipebnaaGreatDoor
open Go.RowKit Go.Extern.Stop Go.Stop Go.Extern
set_option linter.unusedVariables false
set_option maxRecDepth 100000

/-- The variable that errors.As asks, as the program's text lays it. -/
def LaidE (w : World) : Prop := w.cell? ⟨0, 0, none⟩ = some (.iface 248 (.agg #[.pointer (some ⟨4, 161, none⟩)]))

theorem LaidE.below {w w' : World} (h : LaidE w) {B : Nat} (hb : Below B w w') (hB : w.heap.size ≤ B) : LaidE w' := (hb.cell (Nat.lt_of_lt_of_le (lt_of_cell h) hB)).trans h

/-- What errors.As leaves. -/
def asW (w : World) (t : Addr) (s : ByteArray) : World := ((((w.alloc (.cells #[.pointer (some t)] 190)).alloc (.cells #[.pointer (some ⟨4, 190, none⟩), .pointer (some ⟨w.heap.size, 0, none⟩), .int .u64 150] 226)).alloc (.cells #[.pointer (some ⟨4, 190, none⟩), .pointer (some ⟨w.heap.size, 0, none⟩), .int .u64 150] 226)).alloc (.cells #[.string s] 188)).setCell t (.string s)

set_option maxHeartbeats 4000000 in
theorem as_hit (s : ByteArray) (t : Addr) (old : Value) (w : World) (hg : LaidE w) (ht0 : w.cell? t = some old) (hf0 : w.frozen? t = false) :
    Calls Tryz.prog 167 #[.iface 188 (.agg #[.string s]), .iface 190 (.pointer (some t))] w fun ev w' => ev = .returned (.bool true) ∧ w' = asW w t s := by
  have hg : w.cell? ⟨0, 0, none⟩ = some (.iface 248 (.agg #[.pointer (some ⟨4, 161, none⟩)])) := hg
  have h6 := @run_callFunc_extern Tryz.prog 196 _ (fun args => ReflectliteValue.unpack (args.getD 0 (.tuple #[]))) Tryz.func196 (by kernel_rfl) (by kernel_rfl) (by kernel_rfl) (by kernel_rfl)
  have h7 := @run_callFunc_extern Tryz.prog 197 _ (ReflectliteValue.methodAny (ReflectliteValue.valueError "reflectlite.Value.Type" 0) (fun t _ _ _ => ReflectliteType.toType t)) Tryz.func197 (by kernel_rfl) (by kernel_rfl) (by kernel_rfl) (by kernel_rfl)
  have h8 := @run_callFunc_extern Tryz.prog 198 _ (ReflectliteValue.method (ReflectliteValue.valueError "reflectlite.Value.IsNil" 0) ReflectliteValue.isNil) Tryz.func198 (by kernel_rfl) (by kernel_rfl) (by kernel_rfl) (by kernel_rfl)
  have h27 := @run_callFunc_extern Tryz.prog 238 _ (ReflectliteType.abiMethod fun t => do pure (.int .u8 (← Rtype.kind t))) Tryz.func238 (by kernel_rfl) (by kernel_rfl) (by kernel_rfl) (by kernel_rfl)
  have h37 := @run_callFunc_extern Tryz.prog 249 _ (ReflectliteType.method ReflectliteType.elem) Tryz.func249 (by kernel_rfl) (by kernel_rfl) (by kernel_rfl) (by kernel_rfl)
  have h38 := @run_callFunc_extern Tryz.prog 250 _ (ReflectliteType.relation "Implements" ReflectliteType.implements_) Tryz.func250 (by kernel_rfl) (by kernel_rfl) (by kernel_rfl) (by kernel_rfl)
  have h10 := @run_callFunc_extern Tryz.prog 214 _ ReflectliteType.typeOf Tryz.func214 (by kernel_rfl) (by kernel_rfl) (by kernel_rfl) (by kernel_rfl)
  have h35 := @run_callFunc_extern Tryz.prog 247 _ (ReflectliteType.relation "AssignableTo" ReflectliteType.assignableTo) Tryz.func247 (by kernel_rfl) (by kernel_rfl) (by kernel_rfl) (by kernel_rfl)
  have h11 := @run_callFunc_extern Tryz.prog 215 _ (ReflectliteValue.method (ReflectliteValue.valueError "reflectlite.Value.Elem" 0) ReflectliteValue.elem) Tryz.func215 (by kernel_rfl) (by kernel_rfl) (by kernel_rfl) (by kernel_rfl)
  have h12 := @run_callFunc_extern Tryz.prog 216 _ ReflectliteValue.set Tryz.func216 (by kernel_rfl) (by kernel_rfl) (by kernel_rfl) (by kernel_rfl)
  have tO := asTypeOfT
  have mA := asMAsg
  have a25 := asAsgT
  have v25 := asValueT
  have f6 := asValueP
  have f7 := asTypeP
  have mK := asMKind
  have mE := asMElem
  have mI := asMImpl
  have k27 := asKindP
  have k25 := asKindT
  have e27 := asElemP
  have i25 := asImplT
  have n8 := asIsNil ⟨w.heap.size, 0, none⟩ t ((w.alloc (.cells #[.pointer (some t)] 190)).alloc (.cells #[.pointer (some ⟨4, 190, none⟩), .pointer (some ⟨w.heap.size, 0, none⟩), .int .u64 150] 226)) (by simp)
  have hlt : 0 < w.heap.size := lt_of_cell hg
  have hg2 : ((w.alloc (.cells #[.pointer (some t)] 190)).alloc (.cells #[.pointer (some ⟨4, 190, none⟩), .pointer (some ⟨w.heap.size, 0, none⟩), .int .u64 150] 226)).cell? ⟨0, 0, none⟩ = some (.iface 248 (.agg #[.pointer (some ⟨4, 161, none⟩)])) := by
    rw [World.cell?_alloc_lt _ _ ⟨0, 0, none⟩ (by simp <;> omega), World.cell?_alloc_lt _ _ ⟨0, 0, none⟩ hlt]; exact hg
  have htl : t.block < w.heap.size := lt_of_cell ht0
  have el := asElemV ⟨w.heap.size, 0, none⟩ t (((w.alloc (.cells #[.pointer (some t)] 190)).alloc (.cells #[.pointer (some ⟨4, 190, none⟩), .pointer (some ⟨w.heap.size, 0, none⟩), .int .u64 150] 226)).alloc (.cells #[.pointer (some ⟨4, 190, none⟩), .pointer (some ⟨w.heap.size, 0, none⟩), .int .u64 150] 226)) (by rw [World.cell?_alloc_lt _ _ ⟨w.heap.size, 0, none⟩ (by simp; omega)]; simp)
  have st := asSet t ⟨w.heap.size + 1 + 1 + 1, 0, none⟩ s old ((((w.alloc (.cells #[.pointer (some t)] 190)).alloc (.cells #[.pointer (some ⟨4, 190, none⟩), .pointer (some ⟨w.heap.size, 0, none⟩), .int .u64 150] 226)).alloc (.cells #[.pointer (some ⟨4, 190, none⟩), .pointer (some ⟨w.heap.size, 0, none⟩), .int .u64 150] 226)).alloc (.cells #[.string s] 188))
    (by rw [World.cell?_alloc_at _ _ _ _ (by simp)]; rfl)
    (by rw [World.cell?_alloc_lt _ _ t (by simp; omega), World.cell?_alloc_lt _ _ t (by simp; omega), World.cell?_alloc_lt _ _ t (by simp; omega), World.cell?_alloc_lt _ _ t htl]; exact ht0)
    (by rw [World.frozen?_alloc_old _ _ t (by simp; omega), World.frozen?_alloc_old _ _ t (by simp; omega), World.frozen?_alloc_old _ _ t (by simp; omega), World.frozen?_alloc_old _ _ t (Nat.ne_of_lt htl)]; exact hf0)
  unfold asW
  go_enter Tryz.func167, Tryz.ntmps167
  go_wp2
  refine wp_loop_rounds 1 ?_
  rw [rounds_succ]
  go_wp2
  go_ret
  exact ⟨rfl, rfl⟩

theorem asW_below (w : World) (t : Addr) (s : ByteArray) (B : Nat) (hB : B ≤ w.heap.size) (ht : B ≤ t.block) : Below B w (asW w t s) := by
  unfold asW
  refine ((((Below.refl B w).alloc hB _).alloc ?_ _).alloc ?_ _).alloc ?_ _ |>.setCell ht _
  all_goals simp; omega

set_option maxHeartbeats 2000000 in
theorem isUnborne_nil (w : World) : Calls Tryz.prog 140 #[.nilIface] w fun e w' => e = .returned (.bool false) ∧ Below w.heap.size w w' := by
  have HN := hide (fun t W => as_nil t W)
  have hb := hide (fun o => below_alloc w o)
  go_enter Tryz.func140, Tryz.ntmps140
  go_wp2_with fail
  refine ((unhide HN) _ _).mono ?_
  rintro e w' ⟨rfl, rfl⟩
  go_wp2_with fail
  go_ret
  exact ⟨rfl, (unhide hb) _⟩

set_option maxHeartbeats 2000000 in
theorem isUnborne_hit (s : ByteArray) (w : World) (hg : LaidE w) : Calls Tryz.prog 140 #[.iface 188 (.agg #[.string s])] w fun e w' => e = .returned (.bool true) ∧ Below w.heap.size w w' := by
  have HN : Hid (∀ s0 : Value, Calls Tryz.prog 167 #[.iface 188 (.agg #[.string s]), .iface 190 (.pointer (some ⟨w.heap.size, 0, none⟩))] (w.alloc (.cells #[s0] 188)) fun ev w' => ev = .returned (.bool true) ∧ Below w.heap.size w w') := fun s0 => by
    have hb := below_alloc w (.cells #[s0] 188)
    refine (as_hit s ⟨w.heap.size, 0, none⟩ s0 _ (hg.below hb (Nat.le_refl _)) (by simp) (by simp)).mono ?_
    rintro e w' ⟨rfl, rfl⟩
    exact ⟨rfl, hb.trans (asW_below _ _ _ _ hb.size (Nat.le_refl _))⟩
  clear hg
  go_enter Tryz.func140, Tryz.ntmps140
  go_wp2_with fail
  refine ((unhide HN) _).mono ?_
  rintro e w' ⟨rfl, hb⟩
  go_wp2_with fail
  go_ret
  exact ⟨rfl, hb⟩

end Go.Proofs.YtnmbdannipebnaaGreatDoor

/- What is proved here: what the row's condition on its three listed variables gives the walks: their cells. -/
namespace Go.Proofs.YtnmbdannipebnaaGreatDoor
open Go.ChangeShapes Go.WideShapes Go.ChangeAt Go.WideElems Go.RowKit
set_option linter.unusedVariables false
set_option maxRecDepth 100000

/-- The two listed variables, as the rows list them. -/
def laid2 : List (String × DataW Unit) := [("loop.example/g00383/impl.laneOffsets", Rows.laid_loop_example_g00383_impl_laneOffsets), ("loop.example/g00383/impl.roundConstants", Rows.laid_loop_example_g00383_impl_roundConstants)]

theorem gOff : Tryz.prog.globalNamed "loop.example/g00383/impl.laneOffsets" = some 2 := by kernel_rfl
theorem gRc : Tryz.prog.globalNamed "loop.example/g00383/impl.roundConstants" = some 1 := by kernel_rfl
theorem tOff : (Tryz.prog.globals[2]?).map (·.type) = some 262 := by kernel_rfl
theorem tRc : (Tryz.prog.globals[1]?).map (·.type) = some 239 := by kernel_rfl

/-- A table of integers that reads as a list: its cells. -/
theorem tab_cells {H : Type} {enc : TypeId × Value → H} {P : Program} {w : World} {base : Nat} {sp : Nat → Bool} {held : Bool} {fuel n : Nat} {t e : TypeId} {k : IntKind} {cs : List Value} {L : List Int} {p : List MemPlace}
    (ht : P.underlying t = some (.array n e)) (he : P.underlying e = some (.int k)) (c1 : P.cellsOf e = 1)
    (h : DataW.trod enc P w base sp held fuel t cs = some (.agg (L.map fun x => .lit (.int k x)), p)) (i : Nat) (hi : i < n) : cs[i]? = some (.int k (L.getD i 0)) := by
  obtain ⟨xs, m, rfl, hx, hlen, hn, hel⟩ := DataW.trod_array ht h
  simp only [Prod.mk.injEq, DataW.agg.injEq] at hx
  have h1 := hel i hi
  rw [c1, Nat.mul_one] at h1
  rw [List.getElem?_eq_getElem (by omega : i < xs.length)] at h1
  obtain ⟨z, e1, e2, _⟩ := DataW.trod_int he h1
  have h2 : (L.map fun x => (DataW.lit (.int k x) : DataW H))[i]? = (xs.map (·.1))[i]? := by rw [hx.1]
  rw [List.getElem?_map, List.getElem?_map, List.getElem?_eq_getElem (by omega : i < xs.length), e2] at h2
  have h3 : L.getD i 0 = z := by
    rw [List.getD_eq_getElem?_getD]
    cases hL : L[i]? with
    | none => rw [hL] at h2; simp at h2
    | some y => rw [hL] at h2; simp at h2; simpa using h2
  have h4 : cs[i]? = ((cs.drop i).take 1)[0]? := by
    rw [List.getElem?_take_of_lt (by omega), List.getElem?_drop]
    simp
  rw [h4, e1, h3]
  rfl

/-- The three listed variables, as the rows list them. -/
def laid3 : List (String × DataW Unit) := ("errors.errorType", Rows.laid_errors_errorType) :: laid2

theorem gEt : Tryz.prog.globalNamed "errors.errorType" = some 0 := by kernel_rfl
theorem tRt : (Tryz.prog.cutTypes.find? (·.1 == "internal/reflectlite.rtype")).map (·.2) = some 248 := by kernel_rfl
theorem oneRow : ((List.range 302).filter fun t => Tryz.prog.rowNamed t [101, 114, 114, 111, 114]) = [161] := by kernel_rfl
theorem nTypes : Tryz.prog.types.size = 302 := by kernel_rfl

theorem handle_of {W : World} (h : handlesMet Tryz.prog [("errors.errorType", Rows.laid_errors_errorType)] W) : LaidE W := by
  obtain ⟨name, u, ty, e1, e2, e3, e4, e5⟩ := h _ (List.mem_singleton.2 rfl)
  have en : name = [101, 114, 114, 111, 114] := (Option.some.inj e1).symm
  subst en
  obtain rfl := Option.some.inj (tRt.symm.trans e2)
  have hm : ty ∈ (List.range 302).filter fun t => Tryz.prog.rowNamed t [101, 114, 114, 111, 114] := List.mem_filter.2 ⟨List.mem_range.2 (by rw [← nTypes]; exact e3), e4⟩
  rw [oneRow] at hm
  obtain rfl := List.mem_singleton.1 hm
  have hh : typeHandle Tryz.prog 161 = .pointer (some ⟨4, 161, none⟩) := by kernel_rfl
  rw [hh] at e5
  unfold LaidE
  simpa using World.var?_cell gEt e5 0

theorem of_met {W : World} (h : laidMet Tryz.prog laid2 W) : Laid W := by
  obtain ⟨ps, ⟨g0, t0, cs0, f0, p0, q0, hg0, ht0, hv0, hd0, ⟨g1, t1, cs1, f1, p1, q1, hg1, ht1, hv1, hd1, _, _⟩, _⟩, _, _⟩ := h
  obtain rfl := Option.some.inj (gOff.symm.trans hg0)
  obtain rfl := Option.some.inj (gRc.symm.trans hg1)
  obtain rfl := Option.some.inj (tOff.symm.trans ht0)
  obtain rfl := Option.some.inj (tRc.symm.trans ht1)
  have r0 := tab_cells (L := offN.map fun (x : Nat) => (x : Int)) Tryz.underlying262 Tryz.underlying3 (by kernel_rfl) hd0
  have r1 := tab_cells (L := rcs.map fun (x : Nat) => (x : Int)) Tryz.underlying239 Tryz.underlying167 (by kernel_rfl) hd1
  have c0 : ∀ i, i < 25 → W.cell? ⟨2, i, none⟩ = some (.int .i64 (offN.getD i 0 : Int)) := by
    intro i hi
    rw [World.var?_cell hg0 hv0 i]
    have := r0 i hi
    rw [Array.getElem?_toList] at this
    rw [this]
    have hl : offN.length = 25 := rfl
    rw [getD_at _ i (by simp [hl]; exact hi), getDn_at _ i (by omega)]
    simp
  have c1 : ∀ i, i < 24 → W.cell? ⟨1, i, none⟩ = some (.int .u64 (rcs.getD i 0 : Int)) := by
    intro i hi
    rw [World.var?_cell hg1 hv1 i]
    have := r1 i hi
    rw [Array.getElem?_toList] at this
    rw [this]
    have hl : rcs.length = 24 := rfl
    rw [getD_at _ i (by simp [hl]; exact hi), getDn_at _ i (by omega)]
    simp
  have hlt : 2 < W.heap.size := lt_of_cell (c0 0 (by omega))
  exact ⟨hlt, c1, c0⟩

theorem of_laid3 {W : World} (h : laidMetH Tryz.prog laid3 W) : Laid W ∧ LaidE W := by
  have h' : laidMet Tryz.prog laid2 W ∧ handlesMet Tryz.prog [("errors.errorType", Rows.laid_errors_errorType)] W := h
  exact ⟨of_met h'.1, handle_of h'.2⟩

/-- The heap that the door's own run leaves meets the condition. -/
theorem door_met3 (os : Os) (args : Array Value) : laidMetH Tryz.prog laid3 ((World.doorLaid Tryz.prog 400 os).forCall (fun _ _ => 0) ⟨#[], args, []⟩).memory :=
  laidMetH_of_parts3 (fuel := 8) (laidMet_of_run' 8 (by kernel_rfl) (by kernel_rfl)) (by kernel_rfl) (by kernel_rfl)

end Go.Proofs.YtnmbdannipebnaaGreatDoor
