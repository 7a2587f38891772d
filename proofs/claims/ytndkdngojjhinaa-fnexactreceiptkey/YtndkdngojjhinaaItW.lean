/- What is proved here: plain facts on the way up from an item to the first one, and on the fault of items; no program is named. -/
import Derived.Test.YtndkdngojjhinaaItF
namespace Go.Proofs.Ytndkdngojjhinaa
open Go.RowKit
set_option linter.unusedVariables false
set_option maxRecDepth 100000

/-- The places from one up to the first one: each one's parent is ahead of it; the first one's is -1. -/
def IsWay (its : List It) : Int → List Nat → Prop
  | a, [] => a = -1
  | a, k :: r => a = (k : Int) ∧ ∃ it, its[k]? = some it ∧ -1 ≤ it.p ∧ it.p < k ∧ IsWay its it.p r

/-- The same, reckoned. -/
def wayF (its : List It) : Nat → Int → List Nat
  | 0, _ => []
  | n + 1, a => if a < 0 then [] else match its[a.toNat]? with
    | none => []
    | some it => a.toNat :: wayF its n it.p

theorem IsWay.fuel {its : List It} : ∀ {xs : List Nat} {a : Int} {n : Nat}, IsWay its a xs → a < n → wayF its n a = xs
  | [], a, n, h, _ => by
    obtain rfl : a = -1 := h
    cases n <;> rfl
  | k :: r, a, 0, h, hn => by
    obtain ⟨rfl, _⟩ := h
    omega
  | k :: r, a, n + 1, h, hn => by
    obtain ⟨rfl, it, hit, _, hlt, hr⟩ := h
    unfold wayF
    rw [if_neg (by omega), Int.toNat_natCast, hit]
    show k :: wayF its n it.p = k :: r
    rw [hr.fuel (by omega)]

theorem wayF_len (its : List It) : ∀ (n : Nat) (a : Int), (wayF its n a).length ≤ n
  | 0, _ => Nat.le_refl _
  | n + 1, a => by
    unfold wayF
    split
    · simp
    · split
      · simp
      · have := wayF_len its n (by assumption : It).p
        simp; omega

theorem IsWay.ge {its : List It} {xs : List Nat} {a : Int} (h : IsWay its a xs) : -1 ≤ a := by
  cases xs with
  | nil => have : a = -1 := h; omega
  | cons k r => obtain ⟨rfl, _⟩ := h; omega

/-- The first K items have parents ahead of them. -/
def UpOk (its : List It) (K : Nat) : Prop := ∀ j it, j < K → its[j]? = some it → (j = 0 → it.p = -1) ∧ (0 < j → 0 ≤ it.p ∧ it.p < j)

theorem UpOk.way {its : List It} {K : Nat} (h : UpOk its K) (hK : K ≤ its.length) : ∀ (j : Nat), j < K → ∃ xs, IsWay its (j : Int) xs := by
  intro j
  induction j using Nat.strongRecOn with
  | ind j ih =>
    intro hj
    have hl : j < its.length := by omega
    obtain ⟨it, hit⟩ : ∃ it, its[j]? = some it := ⟨_, List.getElem?_eq_getElem hl⟩
    obtain ⟨h0, h1⟩ := h j it hj hit
    by_cases e : j = 0
    · subst e
      have hp := h0 rfl
      exact ⟨[0], rfl, it, hit, by omega, by omega, hp⟩
    · obtain ⟨p0, p1⟩ := h1 (by omega)
      obtain ⟨q, hq⟩ : ∃ q : Nat, it.p = (q : Int) := ⟨it.p.toNat, by omega⟩
      obtain ⟨xs, hx⟩ := ih q (by omega) (by omega)
      exact ⟨j :: xs, rfl, it, hit, by omega, p1, by rw [hq]; exact hx⟩

/-- The way up from a place. -/
def upL (its : List It) (a : Int) : List Nat := wayF its (its.length + 1) a

theorem IsWay.up {its : List It} {xs : List Nat} {a : Int} (h : IsWay its a xs) (ha : a ≤ its.length) : upL its a = xs := h.fuel (by omega)

def lAt (its : List It) (q : Nat) : Bool := match its[q]? with
  | none => false
  | some it => it.l

/-- The fault of the item at a place, those ahead of it having none. -/
def fltAt (its : List It) (i : Nat) (it : It) : Int :=
  if it.l = true ∧ 0 < it.z.length then 1
  else if 300 < it.z.length then 2
  else if i = 0 then (if it.p = -1 then 0 else 3)
  else if it.p < 0 ∨ (i : Int) ≤ it.p then 3
  else if lAt its it.p.toNat = true ∧ it.p.toNat ∈ upL its ((i : Int) - 1) then (if 5 < (upL its i).length then 2 else 0)
  else 1

/-- The first fault among the items from a place on. -/
def fltFrom (its : List It) : Nat → List It → Int
  | _, [] => 0
  | i, it :: r => if fltAt its i it = 0 then fltFrom its (i + 1) r else fltAt its i it

def itemsFlt (its : List It) : Int := if its.length < 1 ∨ 200 < its.length then 2 else fltFrom its 0 its

theorem fltFrom_step (its : List It) (k : Nat) (it : It) (h : its[k]? = some it) : fltFrom its k (its.drop k) = if fltAt its k it = 0 then fltFrom its (k + 1) (its.drop (k + 1)) else fltAt its k it := by
  obtain ⟨hk, e⟩ := List.getElem?_eq_some_iff.1 h
  rw [List.drop_eq_getElem_cons hk, e]
  rfl

theorem fltFrom_end (its : List It) (k : Nat) (h : its.length ≤ k) : fltFrom its k (its.drop k) = 0 := by
  rw [List.drop_eq_nil_of_le h]; rfl

/-- Items without a fault have their parents ahead. -/
theorem upOk_step {its : List It} {k : Nat} {it : It} (h : UpOk its k) (hit : its[k]? = some it) (h0 : k = 0 → it.p = -1) (h1 : 0 < k → 0 ≤ it.p ∧ it.p < k) : UpOk its (k + 1) := by
  intro j jt hj hjt
  by_cases e : j = k
  · subst e
    obtain rfl : jt = it := by rw [hit] at hjt; exact (Option.some.inj hjt).symm
    exact ⟨h0, h1⟩
  · exact h j jt (by omega) hjt

theorem fltAt_up {its : List It} {k : Nat} {it : It} (h : fltAt its k it = 0) : (k = 0 → it.p = -1) ∧ (0 < k → 0 ≤ it.p ∧ it.p < k) := by
  unfold fltAt at h
  split at h
  · omega
  · split at h
    · omega
    · split at h
      · split at h
        · exact ⟨fun _ => by assumption, fun _ => by omega⟩
        · omega
      · split at h
        · omega
        · exact ⟨fun _ => by omega, fun _ => by omega⟩

theorem fltAt_cases (its : List It) (k : Nat) (it : It) : fltAt its k it = 0 ∨ fltAt its k it = 1 ∨ fltAt its k it = 2 ∨ fltAt its k it = 3 := by
  unfold fltAt
  repeat' split
  all_goals omega

theorem fltFrom_cases (its : List It) : ∀ (r : List It) (k : Nat), fltFrom its k r = 0 ∨ fltFrom its k r = 1 ∨ fltFrom its k r = 2 ∨ fltFrom its k r = 3
  | [], k => .inl rfl
  | it :: r, k => by
    unfold fltFrom
    split
    · exact fltFrom_cases its r (k + 1)
    · exact fltAt_cases its k it

theorem itemsFlt_cases (its : List It) : itemsFlt its = 0 ∨ itemsFlt its = 1 ∨ itemsFlt its = 2 ∨ itemsFlt its = 3 := by
  unfold itemsFlt
  split
  · omega
  · exact fltFrom_cases its its 0

end Go.Proofs.Ytndkdngojjhinaa
