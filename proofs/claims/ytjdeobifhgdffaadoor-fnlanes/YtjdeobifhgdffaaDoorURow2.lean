/- What is proved here: a row of lanes loaded and stored whole, by its run's equation. -/
import Derived.Test.YtjdeobifhgdffaaDoorChecked
import Derived.Test.YtjdeobifhgdffaaDoorRound
import Derived.Test.YtjdeobifhgdffaaDoorURow
import Derived.Deep.MidRow
namespace Go.Proofs.YtjdeobifhgdffaaDoor
open Go.RowKit
set_option linter.unusedVariables false

/-- A load by its run's equation. -/
theorem wpList_load_eq {P : Program} {ops : Array Oper} {rest : List Oper} {op : Oper} {a : Act} {w : World} {Q : Exit → Act → World → Prop} (hgd : op.guard = none) (ty : TypeId) (x : Operand) (ho : op.op = .load ty x)
    (p v : Value) (hx : a.eval x = p) (hrun : (Instr.loadAt ty p).run P w = .ok v w) (h : wpList P ops Q rest (a.put op.dst v) w) : wpList P ops Q (op :: rest) a w :=
  wpList_plain hgd fun _ hK => by
    unfold Oper.wp execOp
    simp only [ho, hx, Sem.run_bind, hrun, Sem.run_pure, Result.andThen_ok]
    exact hK _ _ h

theorem vals_length (Z : List Nat) : (vals Z).length = Z.length := by simp [vals]

theorem UBlk.range {w : World} {b : Nat} {Z : List Nat} {t : TypeId} (h : UBlk w b Z t) : w.rangeAt b 0 (vals Z) := by
  intro j v hj
  rw [Nat.zero_add, cell_of_row w b j _ t _ h]
  simpa using hj

/-- A whole state loaded. -/
theorem load25 {w : World} {b : Nat} {Z : List Nat} (h : UBlk w b Z 50) (hz : Z.length = 25) : (Instr.loadAt 50 (.pointer (some ⟨b, 0, none⟩))).run Tryd.prog w = .ok (.agg (vals Z).toArray) w :=
  run_loadAt_mid (P := Tryd.prog) w b 0 50 (vals Z) _ h.range Tryd.underlying50 rfl (by rw [vals_length, hz]; kernel_rfl)

/-- A whole state stored over another one. -/
theorem store25 {w : World} {b : Nat} {Y Z : List Nat} (h : UBlk w b Y 50) (hy : Y.length = 25) (hz : Z.length = 25) :
    ∃ W, (Instr.storeAt 50 (.pointer (some ⟨b, 0, none⟩)) (.agg (vals Z).toArray)).run Tryd.prog w = .ok () W ∧ UBlk W b Z 50 ∧ (∀ C, C ≤ b → Below C w W) ∧ (∀ c, c ≠ b → W.heap[c]? = w.heap[c]?) := by
  have hsz : (vals Z).toArray.size = 25 := by simp [vals, hz]
  refine ⟨w.setCells b 0 (vals Z), run_storeAt_mid (P := Tryd.prog) w b 0 50 (vals Z).toArray (there_blk h _ (by simp [vals, hz, hy])) (by rw [hsz]; kernel_rfl) (all_u Z), ?_, ?_, ?_⟩
  · have := setCells_all (vals Z) [] (vals Y) w h (by rw [vals_length, vals_length, hy, hz])
    unfold UBlk
    simpa using this
  · intro C hC
    exact below_setCells b hC _ _ _ (Below.refl _ _)
  · intro c hc
    have : ∀ (vs : List Value) (o : Nat) (W : World), (W.setCells b o vs).heap[c]? = W.heap[c]? := by
      intro vs
      induction vs with
      | nil => intro o W; rfl
      | cons v r ih => intro o W; exact (ih (o + 1) _).trans (heap_setCell_other W ⟨b, o, none⟩ c v hc)
    exact this _ _ _

end Go.Proofs.YtjdeobifhgdffaaDoor
