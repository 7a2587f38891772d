/- What is proved here: plain arithmetic on lists of bytes read as numbers, the highest byte first; no program is named. -/
import Derived.Test.YtcgiibifcnefhaaBase
namespace Go.Proofs.Ytcgiibifcnefhaa
set_option linter.unusedVariables false

/-- The number that the bytes are, the highest first. -/
def numB (xs : List Int) : Int := xs.foldl (fun n x => 256 * n + x) 0

theorem numB_snoc (xs : List Int) (k : Nat) (h : k < xs.length) : numB (xs.take (k + 1)) = 256 * numB (xs.take k) + xs.getD k 0 := by
  unfold numB
  rw [List.take_succ_eq_append_getElem h, List.foldl_append, getD_at xs k h]
  rfl

theorem fold_bd (xs : List Int) (h : ∀ x ∈ xs, 0 ≤ x ∧ x ≤ 255) : ∀ (n : Int) (j : Nat), 0 ≤ n → n < 256 ^ j →
    0 ≤ xs.foldl (fun n x => 256 * n + x) n ∧ xs.foldl (fun n x => 256 * n + x) n < 256 ^ (j + xs.length) := by
  induction xs with
  | nil => intro n j h0 h1; exact ⟨h0, h1⟩
  | cons x xs ih =>
    intro n j h0 h1
    have hx := h x (List.mem_cons_self ..)
    have := ih (fun y hy => h y (List.mem_cons_of_mem _ hy)) (256 * n + x) (j + 1) (by omega) (by rw [Int.pow_succ]; omega)
    rw [List.foldl_cons, List.length_cons]
    rw [show j + (xs.length + 1) = j + 1 + xs.length from by omega]
    exact this

theorem pow_mono {a b : Nat} (h : a ≤ b) : (256 : Int) ^ a ≤ 256 ^ b := by
  obtain ⟨d, rfl⟩ := Nat.exists_eq_add_of_le h
  clear h
  induction d with
  | zero => exact Int.le_refl _
  | succ d ih =>
    have hp : (0 : Int) < 256 ^ a := Int.pow_pos (by decide)
    rw [show a + (d + 1) = (a + d) + 1 from rfl, Int.pow_succ]
    omega

theorem numB_bd (xs : List Int) (h : ∀ x ∈ xs, 0 ≤ x ∧ x ≤ 255) (k : Nat) (hk : xs.length ≤ k) : 0 ≤ numB xs ∧ numB xs < 256 ^ k := by
  have := fold_bd xs h 0 0 (Int.le_refl _) (by decide)
  refine ⟨this.1, Int.lt_of_lt_of_le this.2 ?_⟩
  rw [Nat.zero_add]
  exact pow_mono hk

theorem numB_bd6 (xs : List Int) (h : ∀ x ∈ xs, 0 ≤ x ∧ x ≤ 255) (k : Nat) (hk : k ≤ 6) : 0 ≤ numB (xs.take k) ∧ numB (xs.take k) < 281474976710656 := by
  have := numB_bd (xs.take k) (fun x hx => h x (List.mem_of_mem_take hx)) 6 (by simp; omega)
  have e : (256 : Int) ^ 6 = 281474976710656 := by decide
  rw [e] at this
  exact this

theorem numB_bd7 (xs : List Int) (h : ∀ x ∈ xs, 0 ≤ x ∧ x ≤ 255) (hk : xs.length ≤ 7) : 0 ≤ numB xs ∧ numB xs < 72057594037927936 := by
  have := numB_bd xs h 7 hk
  have e : (256 : Int) ^ 7 = 72057594037927936 := by decide
  rw [e] at this
  exact this

/-- Whether the bytes are the short bytes of no number. -/
def badB (xs : List Int) : Bool := decide (7 < xs.length) || (decide (0 < xs.length) && xs.getD 0 0 == 0) || decide (1125899906842624 < numB xs)
/-- The code that reading them gives. -/
def codeB (xs : List Int) : Int := if badB xs then 5 else 0
/-- The number that reading them gives. -/
def valB (xs : List Int) : Int := if badB xs then 0 else numB xs

theorem bad_res {xs : List Int} (h : badB xs = true) : codeB xs = 5 ∧ valB xs = 0 := by simp [codeB, valB, h]
theorem good_res {xs : List Int} (h : badB xs = false) : codeB xs = 0 ∧ valB xs = numB xs := by simp [codeB, valB, h]
theorem bad_long {xs : List Int} (h : 7 < xs.length) : badB xs = true := by simp [badB, h]
theorem bad_zero {xs : List Int} (h : 0 < xs.length) (h0 : xs.getD 0 0 = 0) : badB xs = true := by simp only [badB, h0]; simp [h]
theorem bad_big {xs : List Int} (h : 1125899906842624 < numB xs) : badB xs = true := by simp [badB, h]
theorem bad_none {xs : List Int} (h : xs.length ≤ 7) (h0 : 0 < xs.length → xs.getD 0 0 ≠ 0) (hn : numB xs ≤ 1125899906842624) : badB xs = false := by
  unfold badB
  have e1 : decide (7 < xs.length) = false := decide_eq_false (by omega)
  have e2 : decide (1125899906842624 < numB xs) = false := decide_eq_false (by omega)
  rw [e1, e2]
  by_cases hp : 0 < xs.length
  · have e3 : (xs.getD 0 0 == 0) = false := by rw [beq_eq_false_iff_ne]; exact h0 hp
    rw [e3]; simp
  · have e3 : decide (0 < xs.length) = false := decide_eq_false hp
    rw [e3]; simp

theorem range_at (xs : List Int) (h : ∀ x ∈ xs, 0 ≤ x ∧ x ≤ 255) (k : Nat) (hk : k < xs.length) : 0 ≤ xs.getD k 0 ∧ xs.getD k 0 ≤ 255 := by
  rw [getD_at xs k hk]
  exact h _ (List.getElem_mem hk)

end Go.Proofs.Ytcgiibifcnefhaa
