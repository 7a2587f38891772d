/- What is proved here: one round of the model's mixing of a state. -/
import Derived.Test.YtjdeobifhgdffaaDoorChecked
import Derived.Test.YtjdeobifhgdffaaDoorBase
import Derived.Test.YtjdeobifhgdffaaDoorTurn
import Derived.Test.YtjdeobifhgdffaaDoorLane
import Derived.WalkKit
import Derived.WalkLawsBesides
import Derived.WalkSmall
import Derived.WalkSpells
import Derived.RegionTactic
import Derived.BigRegion
import Derived.Deep.RegionWith
import Derived.Deep.RegionHeld3
import Derived.Deep.DrawnRows
import Derived.Deep.MidRow
import Derived.Deep.DeepCutAuto
import Derived.KernelRfl
namespace Go.Proofs.YtjdeobifhgdffaaDoor
open Go.RowKit
set_option linter.unusedVariables false
attribute [local go_sem ↓] Go.wp_at_zero Go.wp_at_succ

/-- A block of numbers. -/
def Blk (w : World) (b : Nat) (L : List Int) (t : TypeId) : Prop := w.heap[b]? = some (.cells (L.map (Value.int .i64)).toArray t (0, 0))

theorem Blk.cell {w : World} {b : Nat} {L : List Int} {t : TypeId} (h : Blk w b L t) (i : Nat) (hi : i < L.length) : w.cell? ⟨b, i, none⟩ = some (.int .i64 (L.getD i 0)) := by
  simp [World.cell?, show w.heap[b]? = _ from h, hi]

theorem Blk.free {w : World} {b : Nat} {L : List Int} {t : TypeId} (h : Blk w b L t) (i : Nat) : w.frozen? ⟨b, i, none⟩ = false := frozen_of_row w b i _ t h

theorem Blk.set {w : World} {b : Nat} {L : List Int} {t : TypeId} (h : Blk w b L t) (i : Nat) (x : Int) : Blk (w.setCell ⟨b, i, none⟩ (.int .i64 x)) b (L.set i x) t := by
  have := heap_setCell_same w b i _ t (.int .i64 x) h
  unfold Blk
  rw [this]
  simp [List.map_set]

theorem Blk.other {w : World} {b b' : Nat} {L : List Int} {t : TypeId} (h : Blk w b L t) (i : Nat) (v : Value) (hb : b ≠ b') : Blk (w.setCell ⟨b', i, none⟩ v) b L t := by
  unfold Blk
  rw [heap_setCell_other w ⟨b', i, none⟩ b v hb]
  exact h

theorem Blk.lt {w : World} {b : Nat} {L : List Int} {t : TypeId} (h : Blk w b L t) : b < w.heap.size := lt_of_block h

theorem Blk.below {w w' : World} {b C : Nat} {L : List Int} {t : TypeId} (h : Blk w b L t) (hb : Below C w w') (hC : b < C) : Blk w' b L t := by
  unfold Blk
  rw [hb.block b hC]
  exact h

/-- The offsets of the lanes. -/
def offs : List Int := [0, 1, 62, 28, 27, 36, 44, 6, 55, 20, 3, 10, 43, 25, 39, 41, 45, 15, 21, 8, 18, 2, 61, 56, 14]

theorem there_blk {w : World} {b : Nat} {C : Array Value} {t : TypeId} (h : w.heap[b]? = some (.cells C t (0, 0))) (n : Nat) (hn : n = C.size) : w.there b 0 n := by
  intro j hj
  refine ⟨?_, frozen_of_row w b _ C t h⟩
  rw [Nat.zero_add, cell_of_row w b j C t _ h, Array.getElem?_eq_getElem (by omega)]
  rfl

/-- A whole row stored over a block is that row. -/
theorem setCells_all {b : Nat} {t : TypeId} : ∀ (vs pre post : List Value) (w : World), w.heap[b]? = some (.cells (pre ++ post).toArray t (0, 0)) → post.length = vs.length →
    (w.setCells b pre.length vs).heap[b]? = some (.cells (pre ++ vs).toArray t (0, 0))
  | [], pre, post, w, h, hl => by
    obtain rfl : post = [] := List.eq_nil_of_length_eq_zero (by simpa using hl)
    exact h
  | v :: r, pre, [], w, h, hl => by simp at hl
  | v :: r, pre, p :: post, w, h, hl => by
    have h1 := heap_setCell_same w b pre.length _ t v h
    have e : ((pre ++ p :: post).toArray.setIfInBounds pre.length v) = ((pre ++ [v]) ++ post).toArray := by
      rw [List.setIfInBounds_toArray]
      simp
    rw [e] at h1
    have ih := setCells_all r (pre ++ [v]) post (w.setCell ⟨b, pre.length, none⟩ v) h1 (by simpa using hl)
    have e2 : (pre ++ [v]).length = pre.length + 1 := by simp
    rw [e2] at ih
    show ((w.setCell ⟨b, pre.length, none⟩ v).setCells b (pre.length + 1) r).heap[b]? = _
    rw [ih]
    simp

theorem below_setCells {B : Nat} {w0 : World} (b : Nat) (hb : B ≤ b) : ∀ (vs : List Value) (o : Nat) (w : World), Below B w0 w → Below B w0 (w.setCells b o vs)
  | [], _, _, h => h
  | v :: r, o, w, h => below_setCells b hb r (o + 1) _ (h.setCell hb v)

theorem all_int (L : List Int) : (L.map (Value.int .i64)).toArray.all (·.oneCell') = true :=
  all_oneCell_toArray (fun v hv => by obtain ⟨x, _, rfl⟩ := List.mem_map.1 hv; rfl)

/-- A row of numbers stored whole over a block. -/
theorem Blk.store {w : World} {b : Nat} {L M : List Int} {t : TypeId} (h : Blk w b L t) (hl : L.length = M.length) : Blk (w.setCells b 0 (M.map (Value.int .i64))) b M t := by
  have := setCells_all (M.map (Value.int .i64)) [] (L.map (Value.int .i64)) w h (by simpa using hl)
  unfold Blk
  simpa using this

/-- A store by its run's equation. -/
theorem wpList_store_eq {P : Program} {ops : Array Oper} {rest : List Oper} {op : Oper} {a : Act} {w : World} {Q : Exit → Act → World → Prop} (hgd : op.guard = none) (ty : TypeId) (x y : Operand) (ho : op.op = .store ty x y)
    (p v : Value) (hx : a.eval x = p) (hy : a.eval y = v) (w2 : World) (hrun : (Instr.storeAt ty p v).run P w = .ok () w2) (h : wpList P ops Q rest (a.put op.dst undef) w2) : wpList P ops Q (op :: rest) a w :=
  wpList_plain hgd fun _ hK => by
    unfold Oper.wp execOp
    simp only [ho, hx, hy, Sem.run_bind, hrun, Sem.run_pure, Result.andThen_ok]
    exact hK _ _ h

set_option maxRecDepth 100000 in
set_option maxHeartbeats 2000000 in
theorem offs_any (w : World) : Calls Tryd.prog 63 #[] w fun e w' => e = .returned (.agg (offs.map (Value.int .i64)).toArray) ∧ Below w.heap.size w w' := by
  obtain ⟨w1, hw1⟩ : ∃ w1, w1 = w.alloc (.cells ((List.replicate 25 (0 : Int)).map (Value.int .i64)).toArray 82) := ⟨_, rfl⟩
  have hb0 : Blk w1 w.heap.size (List.replicate 25 (0 : Int)) 82 := by
    rw [hw1]
    show (w.heap.push _)[w.heap.size]? = _
    simp
  have hbel : Below w.heap.size w w1 := by rw [hw1]; exact below_alloc w _
  obtain ⟨w2, hw2⟩ : ∃ w2, w2 = w1.setCells w.heap.size 0 (offs.map (Value.int .i64)) := ⟨_, rfl⟩
  have hb2 : Blk w2 w.heap.size offs 82 := by rw [hw2]; exact hb0.store rfl
  have hbel2 : Below w.heap.size w w2 := by rw [hw2]; exact below_setCells _ (Nat.le_refl _) _ _ _ hbel
  have hst : (Instr.storeAt 82 (.pointer (some ⟨w.heap.size, 0, none⟩)) (.agg (offs.map (Value.int .i64)).toArray)).run Tryd.prog w1 = .ok () w2 := by
    rw [run_storeAt_mid w1 w.heap.size 0 82 (offs.map (Value.int .i64)).toArray (there_blk hb0 _ rfl) (by kernel_rfl) (all_int offs), hw2]
  have hst2 : (Instr.storeAt 82 (.pointer (some ⟨w.heap.size, 0, none⟩)) (.agg #[.int .i64 0, .int .i64 1, .int .i64 62, .int .i64 28, .int .i64 27, .int .i64 36, .int .i64 44, .int .i64 6, .int .i64 55, .int .i64 20, .int .i64 3, .int .i64 10, .int .i64 43, .int .i64 25, .int .i64 39, .int .i64 41, .int .i64 45, .int .i64 15, .int .i64 21, .int .i64 8, .int .i64 18, .int .i64 2, .int .i64 61, .int .i64 56, .int .i64 14])).run Tryd.prog w1 = .ok () w2 := hst
  have hfold : w.alloc (.cells #[.int .i64 0, .int .i64 0, .int .i64 0, .int .i64 0, .int .i64 0, .int .i64 0, .int .i64 0, .int .i64 0, .int .i64 0, .int .i64 0, .int .i64 0, .int .i64 0, .int .i64 0, .int .i64 0, .int .i64 0, .int .i64 0, .int .i64 0, .int .i64 0, .int .i64 0, .int .i64 0, .int .i64 0, .int .i64 0, .int .i64 0, .int .i64 0, .int .i64 0] 82) = w1 := by rw [hw1]; rfl
  have HST := hide hst2
  have HFO := hide hfold
  have HB2 := hide hb2
  have HBE := hide hbel2
  have HW1 := hide hw1
  clear hst hst2 hfold hb2 hbel2 hb0 hbel hw2 hw1
  go_enter Tryd.func63, Tryd.ntmps63
  go_upto_region 1 with fail
  rw [unhide HFO]
  go_wp2_with (refine wpList_store_eq rfl 82 (.tmp 0) (.tmp 1) rfl _ _ rfl rfl w2 (unhide HST) ?_)
  exact bodyPost_ret (results_cell_row rfl _ _ w.heap.size 82 _ (0, 0) _ rfl (unhide HB2) Tryd.underlying82 rfl (by kernel_rfl)) rfl ⟨rfl, unhide HBE⟩

theorem Blk.new (w : World) (L : List Int) (t : TypeId) : Blk (w.alloc (.cells (L.map (Value.int .i64)).toArray t)) w.heap.size L t := by
  show (w.heap.push _)[w.heap.size]? = _
  simp

end Go.Proofs.YtjdeobifhgdffaaDoor
