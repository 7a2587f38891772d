/- What is proved here: what the row's condition on its two listed variables gives the walks: their cells. -/
import Derived.Test.YtjdeobifhgdffaaDoorRows
import Derived.Test.YtjdeobifhgdffaaDoorMoveI
import Derived.ProofKit
import Derived.LaidMore
import Derived.OpenShut
import Derived.FnData
namespace Go.Proofs.YtjdeobifhgdffaaDoor
open Go.ChangeShapes Go.WideShapes Go.ChangeAt Go.WideElems Go.RowKit
set_option linter.unusedVariables false

/-- The two listed variables, as the rows list them. -/
def laid2 : List (String × DataW Unit) := [("loop.example/g00383/impl.laneOffsets", Rows.laid_loop_example_g00383_impl_laneOffsets), ("loop.example/g00383/impl.roundConstants", Rows.laid_loop_example_g00383_impl_roundConstants)]

theorem gOff : Tryd.prog.globalNamed "loop.example/g00383/impl.laneOffsets" = some 1 := by kernel_rfl
theorem gRc : Tryd.prog.globalNamed "loop.example/g00383/impl.roundConstants" = some 0 := by kernel_rfl
theorem tOff : (Tryd.prog.globals[1]?).map (·.type) = some 80 := by kernel_rfl
theorem tRc : (Tryd.prog.globals[0]?).map (·.type) = some 76 := by kernel_rfl

/-- A table of integers that reads as a list: its cells. -/
theorem tab_cells {H : Type} {enc : TypeId × Value → H} {P : Program} {w : World} {base : Nat} {sp : Nat → Bool} {held : Bool} {fuel n : Nat} {t e : TypeId} {k : IntKind} {cs : List Value} {L : List Int} {p : List MemPlace}
    (ht : P.underlying t = some (.array n e)) (he : P.underlying e = some (.int k)) (c1 : P.cellsOf e = 1)
    (h : DataW.trod enc P w base sp held fuel t cs = some (.agg (L.map fun x => .lit (.int k x)), p)) (i : Nat) (hi : i < n) : cs[i]? = some (.int k (L.getD i 0)) := by
  obtain ⟨xs, m, rfl, hx, hlen, hn, hel⟩ := DataW.trod_array ht h
  simp only [Prod.mk.injEq, DataW.agg.injEq] at hx
  have h1 := hel i hi
  rw [c1, Nat.mul_one] at h1
  rw [List.getElem?_eq_getElem (by omega : i < xs.length)] at h1
  obtain ⟨z, e1, e2, _⟩ := DataW.trod_int he h1
  have h2 : (L.map fun x => (DataW.lit (.int k x) : DataW H))[i]? = (xs.map (·.1))[i]? := by rw [hx.1]
  rw [List.getElem?_map, List.getElem?_map, List.getElem?_eq_getElem (by omega : i < xs.length), e2] at h2
  have h3 : L.getD i 0 = z := by
    rw [List.getD_eq_getElem?_getD]
    cases hL : L[i]? with
    | none => rw [hL] at h2; simp at h2
    | some y => rw [hL] at h2; simp at h2; simpa using h2
  have h4 : cs[i]? = ((cs.drop i).take 1)[0]? := by
    rw [List.getElem?_take_of_lt (by omega), List.getElem?_drop]
    simp
  rw [h4, e1, h3]
  rfl

theorem of_laid {W : World} (h : laidMetH Tryd.prog laid2 W) : Laid W := by
  rw [MakeChecks.laidMetH_plain _ _ _ (by kernel_rfl)] at h
  obtain ⟨ps, ⟨g0, t0, cs0, f0, p0, q0, hg0, ht0, hv0, hd0, ⟨g1, t1, cs1, f1, p1, q1, hg1, ht1, hv1, hd1, _, _⟩, _⟩, _, _⟩ := h
  obtain rfl := Option.some.inj (gOff.symm.trans hg0)
  obtain rfl := Option.some.inj (gRc.symm.trans hg1)
  obtain rfl := Option.some.inj (tOff.symm.trans ht0)
  obtain rfl := Option.some.inj (tRc.symm.trans ht1)
  have r0 := tab_cells (L := offN.map fun (x : Nat) => (x : Int)) Tryd.underlying80 Tryd.underlying3 (by kernel_rfl) hd0
  have r1 := tab_cells (L := rcs.map fun (x : Nat) => (x : Int)) Tryd.underlying76 Tryd.underlying48 (by kernel_rfl) hd1
  have c0 : ∀ i, i < 25 → W.cell? ⟨1, i, none⟩ = some (.int .i64 (offN.getD i 0 : Int)) := by
    intro i hi
    rw [World.var?_cell hg0 hv0 i]
    have := r0 i hi
    rw [Array.getElem?_toList] at this
    rw [this]
    have hl : offN.length = 25 := rfl
    rw [getD_at _ i (by simp [hl]; exact hi), getDn_at _ i (by omega)]
    simp
  have c1 : ∀ i, i < 24 → W.cell? ⟨0, i, none⟩ = some (.int .u64 (rcs.getD i 0 : Int)) := by
    intro i hi
    rw [World.var?_cell hg1 hv1 i]
    have := r1 i hi
    rw [Array.getElem?_toList] at this
    rw [this]
    have hl : rcs.length = 24 := rfl
    rw [getD_at _ i (by simp [hl]; exact hi), getDn_at _ i (by omega)]
    simp
  have hlt : 1 < W.heap.size := lt_of_cell (c0 0 (by omega))
  exact ⟨hlt, c1, c0⟩

/-- The heap that the door's own run leaves meets the condition. -/
theorem door_met (os : Os) (args : Array Value) : laidMetH Tryd.prog laid2 ((World.doorLaid Tryd.prog 400 os).forCall (fun _ _ => 0) ⟨#[], args, []⟩).memory :=
  laidMetH_of_parts3 (fuel := 8) (laidMet_of_run' 8 (by kernel_rfl) (by kernel_rfl)) (by kernel_rfl) (by kernel_rfl)

end Go.Proofs.YtjdeobifhgdffaaDoor
