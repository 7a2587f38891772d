/- What is proved here: plain facts on rows that a call owns; no program is named. -/
import Derived.Test.YtndkdngojjhinaaBase
namespace Go.Proofs.Ytndkdngojjhinaa
open Go.RowKit
set_option linter.unusedVariables false
set_option maxRecDepth 100000

/-- What lies in a row that is owned is there behind a new block too. -/
theorem own_src {w : World} {B g n cap : Nat} {e : TypeId} {xs : List Value} (h : w.ownsRow B e 1 (.slice (some ⟨g, 0, none⟩) n cap) n xs) (o : Obj) (j : Nat) (u : Value) (hj : xs[j]? = some u) :
    (w.alloc o).cell? ((⟨g, 0, none⟩ : Addr).add j) = some u := by
  have hl := (List.getElem?_eq_some_iff.1 hj).1
  rw [h.1] at hl
  rw [add_none, Nat.zero_add, (own_below h (below_alloc w o) (Nat.le_refl _)).cellAt j hl, hj]

end Go.Proofs.Ytndkdngojjhinaa
