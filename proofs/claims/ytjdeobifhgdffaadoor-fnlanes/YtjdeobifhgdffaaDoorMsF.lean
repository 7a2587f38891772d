/- What is proved here: plain facts on fifty words as a state of lanes, and what MixState answers; no program is named. -/
import Derived.Test.YtjdeobifhgdffaaDoorKMath
import Derived.Test.YtjdeobifhgdffaaDoorIBase
namespace Go.Proofs.YtjdeobifhgdffaaDoor
open Go.RowKit
set_option linter.unusedVariables false

/-- Words, two by two, as lanes. -/
def lanesOf : List Int → List Nat
  | a :: b :: r => (a.toNat * 4294967296 + b.toNat) :: lanesOf r
  | _ => []

/-- A word. -/
def wordB (x : Int) : Bool := decide (0 ≤ x ∧ x ≤ 4294967295)

theorem hi_pack (a b : Nat) (hb : b < 4294967296) : hiW (a * 4294967296 + b) = a := by
  unfold hiW; omega
theorem lo_pack (a b : Nat) (hb : b < 4294967296) : loW (a * 4294967296 + b) = b := by
  unfold loW; omega

theorem lanesOf_back : ∀ (n : Nat) (xs : List Int), xs.length = n * 2 → (∀ x ∈ xs, wordB x = true) → wordsL (lanesOf xs) = xs ∧ (lanesOf xs).length = n ∧ ∀ z ∈ lanesOf xs, z < 18446744073709551616
  | 0, [], _, _ => ⟨rfl, rfl, fun z hz => by simp [lanesOf] at hz⟩
  | 0, _ :: _, h, _ => by simp at h
  | n + 1, [], h, _ => by simp at h
  | n + 1, [_], h, _ => by simp at h; omega
  | n + 1, a :: b :: r, h, hw => by
    obtain ⟨i1, i2, i3⟩ := lanesOf_back n r (by simp at h; omega) (fun x hx => hw x (by simp [hx]))
    have ha := of_decide_eq_true (hw a (by simp))
    have hb := of_decide_eq_true (hw b (by simp))
    refine ⟨?_, by simp [lanesOf, i2], fun z hz => ?_⟩
    · unfold lanesOf
      rw [wordsL_cons, hi_pack _ _ (by omega), lo_pack _ _ (by omega), i1]
      congr 1
      · omega
      · congr 1; omega
    · unfold lanesOf at hz
      rcases List.mem_cons.1 hz with e | e
      · omega
      · exact i3 z e

/-- What MixState answers: its code and its words. -/
def msOk (xs : List Int) : Bool := xs.all wordB
def msCode (xs : List Int) : Int := if xs.length = 50 then (if msOk xs then 0 else 3) else 1
def msList (xs : List Int) : List Int := if xs.length = 50 ∧ msOk xs = true then wordsL (mixAt (lanesOf xs) 24) else []

theorem msOk_all {xs : List Int} (h : msOk xs = true) : ∀ x ∈ xs, wordB x = true := List.all_eq_true.1 h

theorem lanes_of {xs : List Int} (hl : xs.length = 50) (h : msOk xs = true) : Lanes (lanesOf xs) ∧ wordsL (lanesOf xs) = xs := by
  obtain ⟨h1, h2, h3⟩ := lanesOf_back 25 xs (by omega) (msOk_all h)
  exact ⟨⟨h2, h3⟩, h1⟩

theorem msList_length (xs : List Int) : (msList xs).length ≤ 50 := by
  unfold msList
  split
  · rename_i h
    have := (lanes_of h.1 h.2).1
    rw [wordsL_length, (mixAt_lanes this 24).1]; omega
  · simp

theorem take_all (xs : List Int) (k : Nat) (x : Int) (h : xs[k]? = some x) : (xs.take (k + 1)).all wordB = ((xs.take k).all wordB && wordB x) := by
  obtain ⟨hk, e⟩ := List.getElem?_eq_some_iff.1 h
  rw [List.take_succ_eq_append_getElem hk, e]
  simp

theorem not_all (xs : List Int) (k : Nat) (x : Int) (h : xs[k]? = some x) (hx : wordB x = false) : msOk xs = false := by
  unfold msOk
  rw [Bool.eq_false_iff]
  intro e
  have := List.all_eq_true.1 e x (List.mem_of_getElem? h)
  rw [hx] at this
  cases this

/-- The words of a lane of a state. -/
theorem words_at {Z : List Nat} {xs : List Int} (h : wordsL Z = xs) (i : Nat) (hi : i < Z.length) : xs.getD (i * 2) 0 = (hiW (Z.getD i 0) : Int) ∧ xs.getD (i * 2 + 1) 0 = (loW (Z.getD i 0) : Int) := by
  rw [← h]; exact ⟨wordsL_hi Z i hi, wordsL_lo Z i hi⟩

theorem wordsL_take (Z : List Nat) : ∀ (k : Nat), k < Z.length → wordsL (Z.take (k + 1)) = wordsL (Z.take k) ++ [(hiW (Z.getD k 0) : Int), (loW (Z.getD k 0) : Int)] := by
  intro k hk
  rw [List.take_succ_eq_append_getElem hk, wordsL_append, getDn_at Z k hk]
  rfl

end Go.Proofs.YtjdeobifhgdffaaDoor
