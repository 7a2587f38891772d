/- What is proved here: what the model's l5Pack answers for a header without a fault: its bytes. -/
import Derived.Test.YtlenpjbkbjdbeaaPkL
import Derived.Test.YtlenpjbkbjdbeaaL1Short
import Derived.Deep.AppendLies
import Derived.Deep.RegionHeld3
import Derived.Deep.DeepCutAuto
import Derived.Deep.CutBlock
namespace Go.Proofs.Ytlenpjbkbjdbeaa
open Go.RowKit
set_option linter.unusedVariables false

/-- The slices of a header are no bare nils with some room. -/
structure HNil (w : World) (x : HS) : Prop where
  p : x.p.a = none → x.p.c = 0
  t : x.t.a = none → x.t.c = 0
  s : BsNil w x.s.a x.s.n
  r : x.r.a = none → x.r.c = 0
  g : x.g.a = none → x.g.c = 0
  e : x.e.a = none → x.e.c = 0
  k : BsNil w x.k.a x.k.n

theorem HNil.below {w w' : World} {x : HS} (h : HNil w x) {B : Nat} (hb : Below B w w') (hB : w.heap.size ≤ B) : HNil w' x :=
  ⟨h.p, h.t, h.s.below hb hB, h.r, h.g, h.e, h.k.below hb hB⟩

theorem headL_pos (l : Bool) (n : Int) : 0 < (headL l n).length := by
  unfold headL
  split <;> simp

theorem pcL_pos (z : List Int) : 0 < (pcL z).length := by
  unfold pcL pcHd
  rw [List.length_append]
  split
  · rename_i h; omega
  · have := headL_pos false z.length; omega

theorem wrapL_pos (z : List Int) : 0 < (wrapL z).length := by
  unfold wrapL
  rw [List.length_append]
  have := headL_pos true z.length
  omega

/-- Bytes that the call owns, appended to bytes that it owns, in a region that draws its order. -/
theorem step_app {P : Program} {w : World} {ops : Array Oper} {o : Oper} {a : Act} {K : Act → World → Prop} {Q : Exit → Act → World → Prop} {E : Prop} (hgd : o.guard = none) (s x : Operand) (t : TypeId)
    (ho : o.op = .call { callee := .builtin .append, args := #[s, x], argTypes := #[t, t] }) (base : Nat) (i : TypeInfo) (ht : P.underlying t = some (.slice 5)) (hi : P.info? 5 = some i) (hz : i.zero = some (.int .u8 0)) (hsize : i.size = 1) (hby : i.bytes = 1)
    (v : Value) (n : Nat) (L : List Int) (hs : a.eval s = v) (hown : w.ownsRow base 5 1 v n (L.map (Value.int .u8))) (b2 : Nat) (u : Value) (m : Nat) (R : List Int) (hx : a.eval x = u) (hu : w.ownsRow b2 5 1 u m (R.map (Value.int .u8))) (hm : 0 < m) (h63 : n + m ≤ 100000) (hbase : base ≤ w.heap.size)
    (h : ∀ g c w', w'.ownsRow base 5 1 (.slice (some ⟨g, 0, none⟩) (n + m) c) (n + m) ((L ++ R).map (Value.int .u8)) → w.grownBy w' v.ownBlock → K (a.put o.dst (.slice (some ⟨g, 0, none⟩) (n + m) c)) w') :
    if Region.wanted o (yielded ops a.tmps) = true then Oper.wp P o a w K Q else E := by
  obtain ⟨g, c, rfl⟩ := own_some hu hm
  refine step_append_lies (w := w) hgd s x t ho base 5 i (.int .u8 0) 1 1 ht hi hz hsize hby rfl (by decide) v n _ hs hown ⟨g, 0, none⟩ m c (R.map (Value.int .u8)) hx (by have := hu.1; simpa using this) ?_ ?_ hm (by unfold maxLen; omega) (by omega) hbase _ rfl ?_
  · intro j q hj
    rw [add_none, Nat.zero_add, hu.cellAt j (by have := (List.getElem?_eq_some_iff.1 hj).1; have := hu.1; omega)]
    exact hj
  · intro q hq
    obtain ⟨z, _, rfl⟩ := List.mem_map.1 hq
    rfl
  · intro g' c' w' h1 h2 _ _
    exact h g' c' w' (by rw [List.map_append]; exact h1) h2

end Go.Proofs.Ytlenpjbkbjdbeaa
