/- What is proved here: plain facts on a state of 25 lanes and on one round of its mixing; no program is named. -/
import Derived.Test.YtjdeobifhgdffaaDoorLaneMath
namespace Go.Proofs.YtjdeobifhgdffaaDoor
open Go.RowKit
set_option linter.unusedVariables false

/-- 25 lanes of 64 bits. -/
def Lanes (Z : List Nat) : Prop := Z.length = 25 ∧ ∀ x ∈ Z, x < 18446744073709551616

theorem getD_lt {Z : List Nat} {M : Nat} (h : ∀ x ∈ Z, x < M) (hM : 0 < M) (i : Nat) : Z.getD i 0 < M := by
  rw [List.getD_eq_getElem?_getD]
  rcases Nat.lt_or_ge i Z.length with hi | hi
  · rw [List.getElem?_eq_getElem hi]
    exact h _ (List.getElem_mem hi)
  · rw [List.getElem?_eq_none hi]
    exact hM

theorem set_all {Z : List Nat} {M : Nat} (h : ∀ x ∈ Z, x < M) (i : Nat) (v : Nat) (hv : v < M) : ∀ x ∈ Z.set i v, x < M := by
  intro x hx
  rcases List.mem_or_eq_of_mem_set hx with h' | h'
  · exact h x h'
  · rw [h']; exact hv

theorem xor_lt {a b : Nat} (ha : a < 18446744073709551616) (hb : b < 18446744073709551616) : a ^^^ b < 18446744073709551616 := Nat.xor_lt_two_pow (n := 64) ha hb
theorem and_lt {a b : Nat} (hb : b < 18446744073709551616) : a &&& b < 18446744073709551616 := Nat.and_lt_two_pow (n := 64) a hb

theorem getDn_at (xs : List Nat) (k : Nat) (h : k < xs.length) : xs.getD k 0 = xs[k] := by
  rw [List.getD_eq_getElem?_getD, List.getElem?_eq_getElem h]; rfl

theorem getDn_set (xs : List Nat) (k i v : Nat) (h : k < xs.length) : (xs.set k v).getD i 0 = if i = k then v else xs.getD i 0 := by
  simp only [List.getD_eq_getElem?_getD, List.getElem?_set]
  by_cases e : k = i
  · subst e; simp [h]
  · rw [if_neg e, if_neg (fun h => e h.symm)]

theorem getDn_map (f : Nat → Nat) (n i : Nat) (h : i < n) : ((List.range n).map f).getD i 0 = f i := by
  rw [getDn_at _ _ (by simpa using h)]
  simp

theorem map_getD (Z : List Nat) (n : Nat) (h : Z.length = n) : (List.range n).map (fun i => Z.getD i 0) = Z := by
  apply List.ext_getElem (by simp [h])
  intro i h1 h2
  simp [h2]

/-- The columns' sums behind k lanes. -/
def colAt (Z : List Nat) (k : Nat) : List Nat := (List.range k).foldl (fun C j => C.set (j % 5) (C.getD (j % 5) 0 ^^^ Z.getD j 0)) (List.replicate 5 0)

theorem colAt_succ (Z : List Nat) (k j : Nat) (hj : j = k % 5) : colAt Z (k + 1) = (colAt Z k).set j ((colAt Z k).getD j 0 ^^^ Z.getD k 0) := by
  unfold colAt
  rw [List.range_succ, List.foldl_append]
  subst hj
  rfl

theorem colAt_props (Z : List Nat) (h : ∀ x ∈ Z, x < 18446744073709551616) (k : Nat) : (colAt Z k).length = 5 ∧ ∀ x ∈ colAt Z k, x < 18446744073709551616 := by
  induction k with
  | zero => exact ⟨rfl, fun x hx => by rw [List.eq_of_mem_replicate hx]; decide⟩
  | succ k ih =>
    rw [colAt_succ Z k _ rfl]
    exact ⟨by rw [List.length_set]; exact ih.1, set_all ih.2 _ _ (xor_lt (getD_lt ih.2 (by decide) _) (getD_lt h (by decide) _))⟩

/-- What a column's lanes are xored with. -/
def dOf (C : List Nat) (x : Nat) : Nat := C.getD ((x + 4) % 5) 0 ^^^ rotL (C.getD ((x + 1) % 5) 0) 1

theorem dOf_lt {C : List Nat} (h : ∀ x ∈ C, x < 18446744073709551616) (x : Nat) : dOf C x < 18446744073709551616 :=
  xor_lt (getD_lt h (by decide) _) (rot_lt _ 1 (getD_lt h (by decide) _) (by decide))

/-- The step with C and D. -/
def theta (Z : List Nat) : List Nat := (List.range 25).map fun i => Z.getD i 0 ^^^ dOf (colAt Z 25) (i % 5)

theorem theta_lanes {Z : List Nat} (h : Lanes Z) : Lanes (theta Z) := by
  refine ⟨by simp [theta], fun x hx => ?_⟩
  obtain ⟨i, _, rfl⟩ := List.mem_map.1 hx
  exact xor_lt (getD_lt h.2 (by decide) _) (dOf_lt (colAt_props Z h.2 25).2 _)

/-- The offsets of the lanes. -/
def offN : List Nat := [0, 1, 62, 28, 27, 36, 44, 6, 55, 20, 3, 10, 43, 25, 39, 41, 45, 15, 21, 8, 18, 2, 61, 56, 14]

theorem offN_le (i : Nat) : offN.getD i 0 ≤ 63 := by
  have : offN.getD i 0 < 64 := getD_lt (Z := offN) (by decide) (by decide) i
  omega

/-- Where a lane goes. -/
def posOf (k : Nat) : Nat := k / 5 + 5 * ((2 * (k % 5) + 3 * (k / 5)) % 5)

/-- The lanes that were moved, behind k of them. -/
def bAt (T : List Nat) (k : Nat) : List Nat := (List.range k).foldl (fun B j => B.set (posOf j) (rotL (T.getD j 0) (offN.getD j 0))) (List.replicate 25 0)

theorem bAt_succ (T : List Nat) (k : Nat) : bAt T (k + 1) = (bAt T k).set (posOf k) (rotL (T.getD k 0) (offN.getD k 0)) := by
  unfold bAt
  rw [List.range_succ, List.foldl_append]
  rfl

theorem bAt_lanes {T : List Nat} (h : Lanes T) (k : Nat) : Lanes (bAt T k) := by
  induction k with
  | zero => exact ⟨rfl, fun x hx => by rw [List.eq_of_mem_replicate hx]; decide⟩
  | succ k ih =>
    rw [bAt_succ]
    exact ⟨by rw [List.length_set]; exact ih.1, set_all ih.2 _ _ (rot_lt _ _ (getD_lt h.2 (by decide) _) (offN_le _))⟩

/-- One lane of the last step. -/
def chiOf (B : List Nat) (i : Nat) : Nat := B.getD i 0 ^^^ ((18446744073709551615 - B.getD (i - i % 5 + (i % 5 + 1) % 5) 0) &&& B.getD (i - i % 5 + (i % 5 + 2) % 5) 0)

def chi (B : List Nat) : List Nat := (List.range 25).map (chiOf B)

theorem chiOf_lt {B : List Nat} (h : ∀ x ∈ B, x < 18446744073709551616) (i : Nat) : chiOf B i < 18446744073709551616 :=
  xor_lt (getD_lt h (by decide) _) (and_lt (getD_lt h (by decide) _))

theorem chi_lanes {B : List Nat} (h : Lanes B) : Lanes (chi B) := by
  refine ⟨by simp [chi], fun x hx => ?_⟩
  obtain ⟨i, _, rfl⟩ := List.mem_map.1 hx
  exact chiOf_lt h.2 i

/-- One round but for its constant. -/
def roundF (Z : List Nat) : List Nat := chi (bAt (theta Z) 25)

theorem roundF_lanes {Z : List Nat} (h : Lanes Z) : Lanes (roundF Z) := chi_lanes (bAt_lanes (theta_lanes h) 25)

/-- The constants of the rounds. -/
def rcs : List Nat := [1, 32898, 9223372036854808714, 9223372039002292224, 32907, 2147483649, 9223372039002292353, 9223372036854808585, 138, 136, 2147516425, 2147483658, 2147516555, 9223372036854775947, 9223372036854808713, 9223372036854808579, 9223372036854808578, 9223372036854775936, 32778, 9223372039002259466, 9223372039002292353, 9223372036854808704, 2147483649, 9223372039002292232]

theorem rcs_lt (i : Nat) : rcs.getD i 0 < 18446744073709551616 := getD_lt (Z := rcs) (by decide) (by decide) i

def roundC (Z : List Nat) (c : Nat) : List Nat := (roundF Z).set 0 ((roundF Z).getD 0 0 ^^^ c)

theorem roundC_lanes {Z : List Nat} (h : Lanes Z) {c : Nat} (hc : c < 18446744073709551616) : Lanes (roundC Z c) := by
  have hr := roundF_lanes h
  exact ⟨by unfold roundC; rw [List.length_set]; exact hr.1, set_all hr.2 _ _ (xor_lt (getD_lt hr.2 (by decide) _) hc)⟩

/-- The state behind k rounds. -/
def mixAt (Z : List Nat) (k : Nat) : List Nat := (List.range k).foldl (fun S j => roundC S (rcs.getD j 0)) Z

theorem mixAt_succ (Z : List Nat) (k : Nat) : mixAt Z (k + 1) = roundC (mixAt Z k) (rcs.getD k 0) := by
  unfold mixAt
  rw [List.range_succ, List.foldl_append]
  rfl

theorem mixAt_lanes {Z : List Nat} (h : Lanes Z) (k : Nat) : Lanes (mixAt Z k) := by
  induction k with
  | zero => exact h
  | succ k ih => rw [mixAt_succ]; exact roundC_lanes ih (rcs_lt k)

/-- A state as words. -/
def wordsL (Z : List Nat) : List Int := Z.flatMap fun a => [(hiW a : Int), (loW a : Int)]

theorem wordsL_nil : wordsL [] = [] := rfl
theorem wordsL_cons (a : Nat) (Z : List Nat) : wordsL (a :: Z) = (hiW a : Int) :: (loW a : Int) :: wordsL Z := rfl

theorem wordsL_append (Y Z : List Nat) : wordsL (Y ++ Z) = wordsL Y ++ wordsL Z := by simp [wordsL]

theorem wordsL_length (Z : List Nat) : (wordsL Z).length = Z.length * 2 := by
  induction Z with
  | nil => rfl
  | cons a Z ih => rw [wordsL_cons]; simp [ih]; omega

theorem wordsL_hi (Z : List Nat) : ∀ i, i < Z.length → (wordsL Z).getD (i * 2) 0 = (hiW (Z.getD i 0) : Int) := by
  induction Z with
  | nil => intro i h; simp at h
  | cons a Z ih =>
    intro i h
    rw [wordsL_cons]
    cases i with
    | zero => rfl
    | succ i =>
      rw [show (i + 1) * 2 = i * 2 + 1 + 1 by omega, List.getD_cons_succ, List.getD_cons_succ, List.getD_cons_succ]
      exact ih i (by simpa using h)

theorem wordsL_lo (Z : List Nat) : ∀ i, i < Z.length → (wordsL Z).getD (i * 2 + 1) 0 = (loW (Z.getD i 0) : Int) := by
  induction Z with
  | nil => intro i h; simp at h
  | cons a Z ih =>
    intro i h
    rw [wordsL_cons]
    cases i with
    | zero => rfl
    | succ i =>
      rw [show (i + 1) * 2 + 1 = i * 2 + 1 + 1 + 1 by omega, List.getD_cons_succ, List.getD_cons_succ, List.getD_cons_succ]
      exact ih i (by simpa using h)

theorem wordsL_set (Z : List Nat) : ∀ (i v : Nat), ((wordsL Z).set (i * 2) (hiW v : Int)).set (i * 2 + 1) (loW v : Int) = wordsL (Z.set i v) := by
  induction Z with
  | nil => intro i v; simp [wordsL]
  | cons a Z ih =>
    intro i v
    cases i with
    | zero => simp [wordsL_cons]
    | succ i =>
      rw [wordsL_cons, List.set_cons_succ, wordsL_cons, ← ih i v, show (i + 1) * 2 = i * 2 + 1 + 1 by omega]
      rfl

theorem wordsL_zero (n : Nat) : wordsL (List.replicate n 0) = List.replicate (n * 2) 0 := by
  induction n with
  | zero => rfl
  | succ n ih =>
    rw [List.replicate_succ, wordsL_cons, ih, show (n + 1) * 2 = n * 2 + 1 + 1 by omega, List.replicate_succ, List.replicate_succ]
    rfl

/-- One lane more of those that are filled in order. -/
theorem fill_at (X Y : List Nat) (n k : Nat) (hX : X.length = n) (hY : Y.length = n) (hk : k < n) : (X.take k ++ Y.drop k).set k (X.getD k 0) = X.take (k + 1) ++ Y.drop (k + 1) := by
  have hl : (X.take k).length = k := by simp; omega
  rw [List.set_append, if_neg (by omega), hl, Nat.sub_self, List.drop_eq_getElem_cons (by omega), List.set_cons_zero, List.take_succ_eq_append_getElem (by omega), getDn_at X k (by omega), List.append_assoc]
  rfl

theorem fill_later (X Y : List Nat) (n k : Nat) (hX : X.length = n) (hY : Y.length = n) (hk : k < n) : (X.take k ++ Y.drop k).getD k 0 = Y.getD k 0 := by
  have hl : (X.take k).length = k := by simp; omega
  rw [getDn_at _ _ (by simp; omega), getDn_at _ _ (by omega), List.getElem_append_right (by omega)]
  simp [hl]

end Go.Proofs.YtjdeobifhgdffaaDoor
