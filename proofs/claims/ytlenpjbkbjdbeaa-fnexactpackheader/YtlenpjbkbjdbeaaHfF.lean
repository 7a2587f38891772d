/- What is proved here: plain facts on the fault of a header, and the eleven cells of one; no program is named. -/
import Derived.Test.YtlenpjbkbjdbeaaHdB
import Derived.Test.YtlenpjbkbjdbeaaSgF
import Derived.Deep.MidRow
namespace Go.Proofs.Ytlenpjbkbjdbeaa
open Go.RowKit
set_option linter.unusedVariables false

theorem hcells {W : World} {g : Nat} {x : HS} {h : Hd} {T : TypeId} (b : SBlk W g (hvals x h).toList T) : W.cell? ⟨g, 0, none⟩ = some (.slice x.p.a x.p.n x.p.c) ∧ W.cell? ⟨g, 1, none⟩ = some (.int .i64 h.n1) ∧ W.cell? ⟨g, 2, none⟩ = some (.int .i64 h.n2) ∧ W.cell? ⟨g, 3, none⟩ = some (.int .i64 h.n3) ∧ W.cell? ⟨g, 4, none⟩ = some (.slice x.t.a x.t.n x.t.c) ∧ W.cell? ⟨g, 5, none⟩ = some (.int .i64 h.n5) ∧ W.cell? ⟨g, 6, none⟩ = some (.slice x.s.a x.s.n x.s.c) ∧ W.cell? ⟨g, 7, none⟩ = some (.slice x.r.a x.r.n x.r.c) ∧ W.cell? ⟨g, 8, none⟩ = some (.slice x.g.a x.g.n x.g.c) ∧ W.cell? ⟨g, 9, none⟩ = some (.slice x.e.a x.e.n x.e.c) ∧ W.cell? ⟨g, 10, none⟩ = some (.slice x.k.a x.k.n x.k.c) :=
  ⟨b.cell 0, b.cell 1, b.cell 2, b.cell 3, b.cell 4, b.cell 5, b.cell 6, b.cell 7, b.cell 8, b.cell 9, b.cell 10⟩

theorem srange {W : World} {g : Nat} {vs : List Value} {T : TypeId} (b : SBlk W g vs T) : W.rangeAt g 0 vs := fun j v hj => by
  rw [Nat.zero_add, b.cell j]; exact hj

/-- Whether a field has a wrong number of bytes. -/
def hdLen (h : Hd) : Bool := ((h.p.length : Int) != 32) || (((h.t.length : Int) != 0) && ((h.t.length : Int) != 4)) || ((h.r.length : Int) != 32) || ((h.g.length : Int) != 4) || (((h.e.length : Int) != 0) && ((h.e.length : Int) != 4))

def within (n lo hi : Int) : Bool := decide (lo ≤ n ∧ n ≤ hi)

/-- Whether all numbers lie within their bounds. -/
def hdNum (h : Hd) : Bool := within h.n1 0 1099511627776 && within h.n2 0 1099511627776 && within h.n3 0 9 && within h.n5 0 2

/-- The fault of the commits from a place on. -/
def coFrom : List (List Int) → Int
  | [] => 0
  | z :: r => if z.length = 8 then coFrom r else 1

def coFlt (zss : List (List Int)) : Int := if 7 < zss.length then 2 else coFrom zss

/-- The fault of a header. -/
def hdFlt (h : Hd) : Int := if hdLen h = true then 1 else if hdNum h = false then 3 else if sgFlt h.s = 0 then coFlt h.k else sgFlt h.s

theorem coFrom_step (zss : List (List Int)) (k : Nat) (z : List Int) (h : zss[k]? = some z) : coFrom (zss.drop k) = if z.length = 8 then coFrom (zss.drop (k + 1)) else 1 := by
  obtain ⟨hk, e⟩ := List.getElem?_eq_some_iff.1 h
  rw [List.drop_eq_getElem_cons hk, e]
  rfl

theorem coFrom_end (zss : List (List Int)) (k : Nat) (h : zss.length ≤ k) : coFrom (zss.drop k) = 0 := by
  rw [List.drop_eq_nil_of_le h]; rfl

end Go.Proofs.Ytlenpjbkbjdbeaa
