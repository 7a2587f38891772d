/- What is proved here: what the program's TurnLane answers for every three numbers: the model's code and words, in new memory. -/
import Derived.Test.YtjdeobifhgdffaaDoorChecked
import Derived.Test.YtjdeobifhgdffaaDoorBase
import Derived.Test.YtjdeobifhgdffaaDoorIBase
import Derived.Test.YtjdeobifhgdffaaDoorTurnSpec
import Derived.Test.YtjdeobifhgdffaaDoorLaneImpl
import Derived.Test.YtjdeobifhgdffaaDoorLaneTie
import Derived.WalkKit
import Derived.WalkLawsBesides
import Derived.WalkSmall
import Derived.WalkSpells
import Derived.RegionTactic
import Derived.BigRegion
import Derived.KernelRfl
namespace Go.Proofs.YtjdeobifhgdffaaDoor
open Go.RowKit
set_option linter.unusedVariables false

set_option maxHeartbeats 1000000 in
theorem implTurn_in (h l n : Nat) (hh : h < 4294967296) (hl : l < 4294967296) (hn : n ≤ 63) (w : World) :
    Calls Tryd.prog 16 #[.int .i64 (h : Int), .int .i64 (l : Int), .int .i64 (n : Int)] w fun e w' => ∃ a cap, e = .returned (.agg #[.int .i64 0, .slice a 2 cap]) ∧
      w'.ownsRow w.heap.size 2 1 (.slice a 2 cap) 2 ([(hiW (rotL (h * 4294967296 + l) n) : Int), (loW (rotL (h * 4294967296 + l) n) : Int)].map (Value.int .i64)) ∧ Below w.heap.size w w' := by
  have e1 : isWord (h : Int) = true := decide_eq_true (by omega)
  have e2 : isWord (l : Int) = true := decide_eq_true (by omega)
  have HW := hide isWord_any
  have HL := hide (laneOf_any h l hh hl)
  have HR := hide (fun W => rotl_any (h * 4294967296 + l) n (by omega) hn W)
  have HH := hide (fun W => highWord_any (rotL (h * 4294967296 + l) n) (rot_lt _ n (by omega) hn) W)
  have HO := hide (fun W => lowWord_any (rotL (h * 4294967296 + l) n) (rot_lt _ n (by omega) hn) W)
  generalize rotL (h * 4294967296 + l) n = R at HR HH HO
  have d1 : decide ((n : Int) < 0) = false := decide_eq_false (by omega)
  have d2 : decide (64 ≤ (n : Int)) = false := decide_eq_false (by omega)
  go_enter Tryd.func16, Tryd.ntmps16
  go_wp2_with fail
  refine ((unhide HW) _ _).mono ?_
  rintro e w' ⟨rfl, rfl⟩
  rw [e1]
  go_wp2_with fail
  refine ((unhide HW) _ _).mono ?_
  rintro e w' ⟨rfl, rfl⟩
  rw [e2]
  go_wp2_with fail
  refine ((unhide HL) _).mono ?_
  rintro e w' ⟨rfl, rfl⟩
  go_wp2_with fail
  refine ((unhide HR) _).mono ?_
  rintro e w' ⟨rfl, rfl⟩
  go_wp2_with fail
  refine ((unhide HH) _).mono ?_
  rintro e w' ⟨rfl, rfl⟩
  go_wp2_with fail
  refine ((unhide HO) _).mono ?_
  rintro e w' ⟨rfl, rfl⟩
  have ho : ∀ o, ((w.alloc o).alloc (Obj.cells #[.int .i64 (hiW R : Int), .int .i64 (loW R : Int)] 2)).ownsRow (w.heap.size + 1) 2 1 (.slice (some ⟨w.heap.size + 1, 0, none⟩) 2 2) 2 ([(hiW R : Int), (loW R : Int)].map (Value.int .i64)) := by
    intro o
    have := World.ownsRow_lit (base := w.heap.size + 1) (e := 2) (size := 1) (w.alloc o) #[.int .i64 (hiW R : Int), .int .i64 (loW R : Int)] 2 (by simp) (by unfold maxLen; omega) rfl
    simpa using this
  have HOW := hide ho
  have HBB : Hid (∀ o p, Below w.heap.size w ((w.alloc o).alloc p)) := fun o p => ((Below.refl _ _).alloc (Nat.le_refl _) o).alloc (by simp) p
  clear ho
  go_wp2_with fail
  refine bodyPost_ret (v := .agg #[.int .i64 0, .slice (some ⟨w.heap.size + 1, 0, none⟩) 2 2]) (by simp [results, Tryd.results16, go_sem]) rfl ⟨_, 2, rfl, ?_, ?_⟩
  · exact ownsRow_base ((unhide HOW) _) (Nat.le_succ _)
  · exact (unhide HBB) _ _

set_option maxHeartbeats 1000000 in
theorem implTurn_out (h l n : Int) (hx : tlOk h l n = false) (w : World) :
    Calls Tryd.prog 16 #[.int .i64 h, .int .i64 l, .int .i64 n] w fun e w' => e = .returned (.agg #[.int .i64 3, .slice none 0 0]) ∧ Below w.heap.size w w' := by
  have HW := hide isWord_any
  have HOUT : Hid (∀ o, Below w.heap.size w (w.alloc o)) := fun o => below_alloc w o
  cases h1 : isWord h with
  | false =>
    clear hx
    go_enter Tryd.func16, Tryd.ntmps16
    go_wp2_with fail
    refine ((unhide HW) _ _).mono ?_
    rintro e w' ⟨rfl, rfl⟩
    rw [h1]
    go_wp2_with fail
    exact bodyPost_ret (v := .agg #[.int .i64 3, .slice none 0 0]) (by simp [results, Tryd.results16, go_sem]) rfl ⟨rfl, (unhide HOUT) _⟩
  | true =>
    cases h2 : isWord l with
    | false =>
      clear hx
      go_enter Tryd.func16, Tryd.ntmps16
      go_wp2_with fail
      refine ((unhide HW) _ _).mono ?_
      rintro e w' ⟨rfl, rfl⟩
      rw [h1]
      go_wp2_with fail
      refine ((unhide HW) _ _).mono ?_
      rintro e w' ⟨rfl, rfl⟩
      rw [h2]
      go_wp2_with fail
      exact bodyPost_ret (v := .agg #[.int .i64 3, .slice none 0 0]) (by simp [results, Tryd.results16, go_sem]) rfl ⟨rfl, (unhide HOUT) _⟩
    | true =>
      have h3 : ¬ (0 ≤ n ∧ n ≤ 63) := by
        intro h3
        simp [tlOk, h1, h2, h3] at hx
      clear hx
      by_cases h4 : n < 0
      · have d1 : decide (n < 0) = true := decide_eq_true h4
        clear h3
        go_enter Tryd.func16, Tryd.ntmps16
        go_wp2_with fail
        refine ((unhide HW) _ _).mono ?_
        rintro e w' ⟨rfl, rfl⟩
        rw [h1]
        go_wp2_with fail
        refine ((unhide HW) _ _).mono ?_
        rintro e w' ⟨rfl, rfl⟩
        rw [h2]
        go_wp2_with fail
        exact bodyPost_ret (v := .agg #[.int .i64 3, .slice none 0 0]) (by simp [results, Tryd.results16, go_sem]) rfl ⟨rfl, (unhide HOUT) _⟩
      · have d1 : decide (n < 0) = false := decide_eq_false h4
        have d2 : decide (64 ≤ n) = true := decide_eq_true (by omega)
        clear h3
        go_enter Tryd.func16, Tryd.ntmps16
        go_wp2_with fail
        refine ((unhide HW) _ _).mono ?_
        rintro e w' ⟨rfl, rfl⟩
        rw [h1]
        go_wp2_with fail
        refine ((unhide HW) _ _).mono ?_
        rintro e w' ⟨rfl, rfl⟩
        rw [h2]
        go_wp2_with fail
        exact bodyPost_ret (v := .agg #[.int .i64 3, .slice none 0 0]) (by simp [results, Tryd.results16, go_sem]) rfl ⟨rfl, (unhide HOUT) _⟩

theorem implTurn_any (h l n : Int) (w : World) :
    Calls Tryd.prog 16 #[.int .i64 h, .int .i64 l, .int .i64 n] w fun e w' => ∃ a cap, e = .returned (.agg #[.int .i64 (tlCode h l n), .slice a (tlList h l n).length cap]) ∧
      w'.ownsRow w.heap.size 2 1 (.slice a (tlList h l n).length cap) (tlList h l n).length ((tlList h l n).map (Value.int .i64)) ∧ Below w.heap.size w w' := by
  cases hx : tlOk h l n with
  | false =>
    have e1 : tlCode h l n = 3 := by simp [tlCode, hx]
    have e2 : tlList h l n = [] := by simp [tlList, hx]
    rw [e1, e2]
    refine (implTurn_out h l n hx w).mono fun e w' hq => ?_
    exact ⟨none, 0, hq.1, World.ownsRow_nil _ _ _ _, hq.2⟩
  | true =>
    have hp : (0 ≤ h ∧ h ≤ 4294967295) ∧ (0 ≤ l ∧ l ≤ 4294967295) ∧ 0 ≤ n ∧ n ≤ 63 := by
      simp [tlOk, isWord] at hx
      omega
    have e1 : tlCode h l n = 0 := by simp [tlCode, hx]
    have e2 : tlList h l n = [(laneTurn h l n).1, (laneTurn h l n).2] := by simp [tlList, hx]
    obtain ⟨H, rfl⟩ := Int.eq_ofNat_of_zero_le hp.1.1
    obtain ⟨L, rfl⟩ := Int.eq_ofNat_of_zero_le hp.2.1.1
    obtain ⟨K, rfl⟩ := Int.eq_ofNat_of_zero_le hp.2.2.1
    have ht := turn_tie (H * 4294967296 + L) K (by omega) (by omega)
    rw [hi_join H L (by omega), lo_join H L (by omega)] at ht
    rw [e1, e2, ht]
    exact implTurn_in H L K (by omega) (by omega) (by omega) w

end Go.Proofs.YtjdeobifhgdffaaDoor
