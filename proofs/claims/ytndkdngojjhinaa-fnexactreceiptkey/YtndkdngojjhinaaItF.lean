/- What is proved here: plain facts on lists of items: how great they are, and whether two are the same; no program is named. -/
import Derived.Test.YtndkdngojjhinaaItB
namespace Go.Proofs.Ytndkdngojjhinaa
open Go.RowKit
set_option linter.unusedVariables false
set_option maxRecDepth 100000

/-- What is left of a number behind the bytes of items: below 0 at the first time: -1. -/
def szIts : Int → List It → Int
  | left, [] => left
  | left, it :: r => if left - it.z.length < 0 then -1 else szIts (left - it.z.length) r

def szAll (left : Int) (its : List It) : Int := if left - its.length < 0 then -1 else szIts (left - its.length) its

/-- All bytes of items. -/
def bytesOf (its : List It) : Nat := (its.map fun it => it.z.length).sum

theorem szIts_bd (its : List It) : ∀ left, 0 ≤ left → szIts left its ≤ left := by
  induction its with
  | nil => intro left _; exact Int.le_refl _
  | cons it r ih =>
    intro left h
    unfold szIts
    split
    · omega
    · exact Int.le_trans (ih _ (by omega)) (by omega)

theorem szIts_ge (its : List It) : ∀ left, 0 ≤ left → -1 ≤ szIts left its := by
  induction its with
  | nil => intro left h; unfold szIts; omega
  | cons it r ih =>
    intro left h
    unfold szIts
    split
    · omega
    · exact ih _ (by omega)

theorem szIts_sum (its : List It) : ∀ left, 0 ≤ szIts left its → (bytesOf its : Int) ≤ left := by
  induction its with
  | nil => intro left h; simpa [szIts, bytesOf] using h
  | cons it r ih =>
    intro left h
    unfold szIts at h
    split at h
    · omega
    · have := ih _ h
      simp [bytesOf] at this ⊢
      omega

theorem bytesOf_mem {its : List It} {it : It} (h : it ∈ its) : it.z.length ≤ bytesOf its := by
  induction its with
  | nil => simp at h
  | cons a r ih =>
    rcases List.mem_cons.1 h with e | e
    · subst e; simp [bytesOf]
    · have := ih e; simp [bytesOf] at this ⊢; omega

theorem szAll_ok {left : Int} {its : List It} (h : 0 ≤ szAll left its) : (its.length : Int) + bytesOf its ≤ left := by
  unfold szAll at h
  split at h
  · omega
  · have := szIts_sum its _ h
    omega

theorem szAll_le (left : Int) (its : List It) (h : 0 ≤ left) : szAll left its ≤ left := by
  unfold szAll
  split
  · omega
  · exact Int.le_trans (szIts_bd its _ (by omega)) (by omega)

/-- One item more. -/
theorem szIts_step (its : List It) (k : Nat) (it : It) (left : Int) (h : its[k]? = some it) : szIts left (its.drop k) = if left - it.z.length < 0 then -1 else szIts (left - it.z.length) (its.drop (k + 1)) := by
  obtain ⟨hk, e⟩ := List.getElem?_eq_some_iff.1 h
  rw [List.drop_eq_getElem_cons hk, e]
  rfl

/-- Whether two items, two lists of them, are the same. -/
def sameIt (a b : It) : Bool := a.l == b.l && a.p == b.p && sameB a.z b.z
def sameIts : List It → List It → Bool
  | [], [] => true
  | a :: ar, b :: bs => sameIt a b && sameIts ar bs
  | _, _ => false

theorem sameIt_self (a : It) : sameIt a a = true := by simp [sameIt, sameB]

theorem sameIts_self (a : List It) : sameIts a a = true := by
  induction a with
  | nil => rfl
  | cons a r ih => simp [sameIts, sameIt_self, ih]

theorem sameIts_length : ∀ (a b : List It), sameIts a b = true → a.length = b.length
  | [], [], _ => rfl
  | [], _ :: _, h => by simp [sameIts] at h
  | _ :: _, [], h => by simp [sameIts] at h
  | a :: ar, b :: bs, h => by
    simp [sameIts] at h
    simp [sameIts_length ar bs h.2]

theorem sameIts_step (a b : List It) (k : Nat) (x y : It) (hx : a[k]? = some x) (hy : b[k]? = some y) : sameIts (a.drop k) (b.drop k) = (sameIt x y && sameIts (a.drop (k + 1)) (b.drop (k + 1))) := by
  obtain ⟨h1, e1⟩ := List.getElem?_eq_some_iff.1 hx
  obtain ⟨h2, e2⟩ := List.getElem?_eq_some_iff.1 hy
  rw [List.drop_eq_getElem_cons h1, List.drop_eq_getElem_cons h2, e1, e2]
  rfl

theorem sameIts_end (a b : List It) (k : Nat) (h1 : a.length = k) (h2 : b.length = k) : sameIts (a.drop k) (b.drop k) = true := by
  rw [List.drop_eq_nil_of_le (by omega), List.drop_eq_nil_of_le (by omega)]
  rfl

theorem sameIts_len (a b : List It) (h : a.length ≠ b.length) : sameIts a b = false := by
  rw [Bool.eq_false_iff]
  intro e
  exact h (sameIts_length a b e)

end Go.Proofs.Ytndkdngojjhinaa
