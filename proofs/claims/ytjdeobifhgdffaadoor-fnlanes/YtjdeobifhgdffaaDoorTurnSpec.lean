/- What is proved here: what the model's TurnLane answers for every three numbers: the code and the two words, in new memory. -/
import Derived.Test.YtjdeobifhgdffaaDoorChecked
import Derived.Test.YtjdeobifhgdffaaDoorBase
import Derived.Test.YtjdeobifhgdffaaDoorIBase
import Derived.Test.YtjdeobifhgdffaaDoorTurn
import Derived.WalkKit
import Derived.WalkLawsBesides
import Derived.WalkSmall
import Derived.WalkSpells
import Derived.KernelRfl
namespace Go.Proofs.YtjdeobifhgdffaaDoor
open Go.RowKit
set_option linter.unusedVariables false

set_option maxHeartbeats 1000000 in
theorem in_yes (v lo hi : Int) (w : World) (h0 : lo ≤ v) (h1 : v ≤ hi) : Calls Tryd.prog 43 #[.int .i64 v, .int .i64 lo, .int .i64 hi] w fun e w' => e = .returned (.bool true) ∧ w' = w := by
  have e0 : decide (lo ≤ v) = true := decide_eq_true h0
  have e1 : decide (v ≤ hi) = true := decide_eq_true h1
  go_enter Tryd.func43, Tryd.ntmps43
  go_wp2
  go_ret
  exact ⟨ret_bool (by simp), rfl⟩

set_option maxHeartbeats 1000000 in
theorem in_no (v lo hi : Int) (w : World) (h : v < lo ∨ hi < v) : Calls Tryd.prog 43 #[.int .i64 v, .int .i64 lo, .int .i64 hi] w fun e w' => e = .returned (.bool false) ∧ w' = w := by
  by_cases h0 : lo ≤ v
  · have e0 : decide (lo ≤ v) = true := decide_eq_true h0
    have e1 : decide (v ≤ hi) = false := decide_eq_false (by omega)
    go_enter Tryd.func43, Tryd.ntmps43
    go_wp2
    go_ret
    exact ⟨ret_bool (by simp), rfl⟩
  · have e0 : decide (lo ≤ v) = false := decide_eq_false h0
    go_enter Tryd.func43, Tryd.ntmps43
    go_wp2
    go_ret
    exact ⟨ret_bool (by simp), rfl⟩

/-- Whether a number is a word. -/
def isWord (v : Int) : Bool := decide (0 ≤ v ∧ v ≤ 4294967295)

theorem in_any (v lo hi : Int) (w : World) : Calls Tryd.prog 43 #[.int .i64 v, .int .i64 lo, .int .i64 hi] w fun e w' => e = .returned (.bool (decide (lo ≤ v ∧ v ≤ hi))) ∧ w' = w := by
  by_cases h : lo ≤ v ∧ v ≤ hi
  · rw [decide_eq_true h]; exact in_yes v lo hi w h.1 h.2
  · rw [decide_eq_false h]; exact in_no v lo hi w (by omega)

set_option maxHeartbeats 1000000 in
theorem word_any (v : Int) (w : World) : Calls Tryd.prog 42 #[.int .i64 v] w fun e w' => e = .returned (.bool (isWord v)) ∧ w' = w := by
  have HI := hide (show ∀ W, Calls Tryd.prog 43 #[.int .i64 v, .int .i64 0, .int .i64 4294967295] W fun e w' => e = .returned (.bool (isWord v)) ∧ w' = W from in_any v 0 4294967295)
  go_enter Tryd.func42, Tryd.ntmps42
  go_wp2_with fail
  refine ((unhide HI) _).mono ?_
  rintro e w' ⟨rfl, rfl⟩
  go_wp2_with fail
  go_ret
  exact ⟨rfl, rfl⟩

/-- The code and the words of TurnLane. -/
def tlOk (h l n : Int) : Bool := isWord h && isWord l && decide (0 ≤ n ∧ n ≤ 63)
def tlCode (h l n : Int) : Int := if tlOk h l n then 0 else 3
def tlList (h l n : Int) : List Int := if tlOk h l n then [(laneTurn h l n).1, (laneTurn h l n).2] else []

theorem tlList_length (h l n : Int) : (tlList h l n).length ≤ 2 := by unfold tlList; split <;> simp

set_option maxHeartbeats 1000000 in
theorem specTurn_any (h l n : Int) (w : World) :
    Calls Tryd.prog 17 #[.int .i64 h, .int .i64 l, .int .i64 n] w fun e w' => ∃ a cap, e = .returned (.agg #[.int .i64 (tlCode h l n), .slice a (tlList h l n).length cap]) ∧
      w'.ownsRow w.heap.size 2 1 (.slice a (tlList h l n).length cap) (tlList h l n).length ((tlList h l n).map (Value.int .i64)) ∧ Below w.heap.size w w' := by
  have H1 := hide (word_any h)
  have H2 := hide (word_any l)
  have H3 := hide (in_any n 0 63)
  have hout : ∀ o, Below w.heap.size w (w.alloc o) := fun o => below_alloc w o
  have HOUT := hide hout
  clear hout
  cases h1 : isWord h with
  | false =>
    have e : tlOk h l n = false := by simp [tlOk, h1]
    have e1 : tlCode h l n = 3 := by simp [tlCode, e]
    have e2 : tlList h l n = [] := by simp [tlList, e]
    rw [e1, e2]
    go_enter Tryd.func17, Tryd.ntmps17
    go_wp2_with fail
    refine ((unhide H1) _).mono ?_
    rintro e w' ⟨rfl, rfl⟩
    rw [h1]
    go_wp2_with fail
    exact bodyPost_ret (v := .agg #[.int .i64 3, .slice none 0 0]) (by simp [results, Tryd.results17, go_sem]) rfl ⟨none, 0, rfl, World.ownsRow_nil _ _ _ _, (unhide HOUT) _⟩
  | true =>
    cases h2 : isWord l with
    | false =>
      have e : tlOk h l n = false := by simp [tlOk, h2]
      have e1 : tlCode h l n = 3 := by simp [tlCode, e]
      have e2 : tlList h l n = [] := by simp [tlList, e]
      rw [e1, e2]
      go_enter Tryd.func17, Tryd.ntmps17
      go_wp2_with fail
      refine ((unhide H1) _).mono ?_
      rintro e w' ⟨rfl, rfl⟩
      rw [h1]
      go_wp2_with fail
      refine ((unhide H2) _).mono ?_
      rintro e w' ⟨rfl, rfl⟩
      rw [h2]
      go_wp2_with fail
      exact bodyPost_ret (v := .agg #[.int .i64 3, .slice none 0 0]) (by simp [results, Tryd.results17, go_sem]) rfl ⟨none, 0, rfl, World.ownsRow_nil _ _ _ _, (unhide HOUT) _⟩
    | true =>
      by_cases h3 : 0 ≤ n ∧ n ≤ 63
      · have e : tlOk h l n = true := by simp [tlOk, h1, h2, h3]
        have e1 : tlCode h l n = 0 := by simp [tlCode, e]
        have e2 : tlList h l n = [(laneTurn h l n).1, (laneTurn h l n).2] := by simp [tlList, e]
        rw [e1, e2]
        have hd3 : decide (0 ≤ n ∧ n ≤ 63) = true := decide_eq_true h3
        have HT := hide (fun W => l2Turn_any h l n W (by simpa [isWord] using h1) (by simpa [isWord] using h2) h3.1 h3.2)
        clear e e1 e2
        generalize (laneTurn h l n).1 = p at HT
        generalize (laneTurn h l n).2 = q at HT
        go_enter Tryd.func17, Tryd.ntmps17
        go_wp2_with fail
        refine ((unhide H1) _).mono ?_
        rintro e w' ⟨rfl, rfl⟩
        rw [h1]
        go_wp2_with fail
        refine ((unhide H2) _).mono ?_
        rintro e w' ⟨rfl, rfl⟩
        rw [h2]
        go_wp2_with fail
        refine ((unhide H3) _).mono ?_
        rintro e w' ⟨rfl, rfl⟩
        rw [hd3]
        go_wp2_with fail
        refine ((unhide HT) _).mono ?_
        rintro e w2 ⟨rfl, b2⟩
        have hsz : (w.alloc (.cells #[.int .i64 0, .slice none 0 0] 36)).heap.size = w.heap.size + 1 := by simp
        rw [hsz] at b2
        have hs2 := b2.size
        rw [hsz] at hs2
        have hB : ∀ o p, Below (w.heap.size + 1) (w.alloc (.cells #[.int .i64 0, .slice none 0 0] 36)) ((w2.alloc o).alloc p) := fun o p => (b2.alloc (by omega) o).alloc (by simp; omega) p
        have q0 : ∀ o p, ((w2.alloc o).alloc p).cell? ⟨w.heap.size, 0, none⟩ = some (.int .i64 0) := fun o p => ((hB o p).cell (by simp)).trans (by simp)
        have q1 : ∀ o p, ((w2.alloc o).alloc p).cell? ⟨w.heap.size, 1, none⟩ = some (.slice none 0 0) := fun o p => ((hB o p).cell (by simp)).trans (by simp)
        have f0 : ∀ o p, ((w2.alloc o).alloc p).frozen? ⟨w.heap.size, 0, none⟩ = false := fun o p => ((hB o p).frozen (by simp)).trans (by simp)
        have f1 : ∀ o p, ((w2.alloc o).alloc p).frozen? ⟨w.heap.size, 1, none⟩ = false := fun o p => ((hB o p).frozen (by simp)).trans (by simp)
        have ho : ((w2.alloc (Obj.cells #[.int .i64 p, .int .i64 q] 62)).alloc (Obj.cells #[.int .i64 p, .int .i64 q] 2)).ownsRow (w.heap.size + 1) 2 1 (.slice (some ⟨w2.heap.size + 1, 0, none⟩) 2 2) 2 ([p, q].map (Value.int .i64)) := by
          have := World.ownsRow_lit (base := w.heap.size + 1) (e := 2) (size := 1) (w2.alloc (Obj.cells #[.int .i64 p, .int .i64 q] 62)) #[.int .i64 p, .int .i64 q] 2 (by simp; omega) (by unfold maxLen; omega) rfl
          simpa using this
        have HO := hide ho
        have HBB := hide (fun o p => ((below_alloc w (.cells #[.int .i64 0, .slice none 0 0] 36))).trans ((hB o p).mono (by omega)))
        clear ho hB b2 hsz
        go_wp2_with fail
        refine bodyPost_ret (v := .agg #[.int .i64 0, .slice (some ⟨w2.heap.size + 1, 0, none⟩) 2 2]) (by simp [results, Tryd.results17, go_sem, q0, q1]) rfl ⟨_, 2, rfl, ?_, ?_⟩
        · exact ownsRow_base (ownsRow_setCell_below (ownsRow_setCell_below (unhide HO) (by simp) _) (by simp) _) (by omega)
        · exact (((unhide HBB) _ _).setCell (by simp) _).setCell (by simp) _
      · have e : tlOk h l n = false := by simp [tlOk, h3]
        have e1 : tlCode h l n = 3 := by simp [tlCode, e]
        have e2 : tlList h l n = [] := by simp [tlList, e]
        rw [e1, e2]
        have hd3 : decide (0 ≤ n ∧ n ≤ 63) = false := decide_eq_false h3
        go_enter Tryd.func17, Tryd.ntmps17
        go_wp2_with fail
        refine ((unhide H1) _).mono ?_
        rintro e w' ⟨rfl, rfl⟩
        rw [h1]
        go_wp2_with fail
        refine ((unhide H2) _).mono ?_
        rintro e w' ⟨rfl, rfl⟩
        rw [h2]
        go_wp2_with fail
        refine ((unhide H3) _).mono ?_
        rintro e w' ⟨rfl, rfl⟩
        rw [hd3]
        go_wp2_with fail
        exact bodyPost_ret (v := .agg #[.int .i64 3, .slice none 0 0]) (by simp [results, Tryd.results17, go_sem]) rfl ⟨none, 0, rfl, World.ownsRow_nil _ _ _ _, (unhide HOUT) _⟩

end Go.Proofs.YtjdeobifhgdffaaDoor
