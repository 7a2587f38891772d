/- What is proved here: plain facts on a state of 25 lanes and on one round of its mixing; no program is named. -/
import Derived.Test.YtfhhnnlafdgloaaGreatJ18
import Derived.Test.YtfhhnnlafdgloaaGreatJ1
import Derived.Test.YtfhhnnlafdgloaaGreatJ8
import Derived.Test.YtfhhnnlafdgloaaGreatJ7
import Derived.Test.YtfhhnnlafdgloaaGreatChecked
import Derived.WalkKit
import Derived.WalkLawsBesides
import Derived.WalkSmall
import Derived.WalkSpells
import Derived.KernelRfl
import Derived.OpenShut
namespace Go.Proofs.YtfhhnnlafdgloaaGreat
open Go.RowKit
set_option linter.unusedVariables false
set_option maxRecDepth 100000

/-- 25 lanes of 64 bits. -/
def Lanes (Z : List Nat) : Prop := Z.length = 25 ∧ ∀ x ∈ Z, x < 18446744073709551616

theorem getD_lt {Z : List Nat} {M : Nat} (h : ∀ x ∈ Z, x < M) (hM : 0 < M) (i : Nat) : Z.getD i 0 < M := by
  rw [List.getD_eq_getElem?_getD]
  rcases Nat.lt_or_ge i Z.length with hi | hi
  · rw [List.getElem?_eq_getElem hi]
    exact h _ (List.getElem_mem hi)
  · rw [List.getElem?_eq_none hi]
    exact hM

theorem set_all {Z : List Nat} {M : Nat} (h : ∀ x ∈ Z, x < M) (i : Nat) (v : Nat) (hv : v < M) : ∀ x ∈ Z.set i v, x < M := by
  intro x hx
  rcases List.mem_or_eq_of_mem_set hx with h' | h'
  · exact h x h'
  · rw [h']; exact hv

theorem xor_lt {a b : Nat} (ha : a < 18446744073709551616) (hb : b < 18446744073709551616) : a ^^^ b < 18446744073709551616 := Nat.xor_lt_two_pow (n := 64) ha hb
theorem and_lt {a b : Nat} (hb : b < 18446744073709551616) : a &&& b < 18446744073709551616 := Nat.and_lt_two_pow (n := 64) a hb

theorem getDn_at (xs : List Nat) (k : Nat) (h : k < xs.length) : xs.getD k 0 = xs[k] := by
  rw [List.getD_eq_getElem?_getD, List.getElem?_eq_getElem h]; rfl

theorem getDn_set (xs : List Nat) (k i v : Nat) (h : k < xs.length) : (xs.set k v).getD i 0 = if i = k then v else xs.getD i 0 := by
  simp only [List.getD_eq_getElem?_getD, List.getElem?_set]
  by_cases e : k = i
  · subst e; simp [h]
  · rw [if_neg e, if_neg (fun h => e h.symm)]

theorem getDn_map (f : Nat → Nat) (n i : Nat) (h : i < n) : ((List.range n).map f).getD i 0 = f i := by
  rw [getDn_at _ _ (by simpa using h)]
  simp

theorem map_getD (Z : List Nat) (n : Nat) (h : Z.length = n) : (List.range n).map (fun i => Z.getD i 0) = Z := by
  apply List.ext_getElem (by simp [h])
  intro i h1 h2
  simp [h2]

/-- The columns' sums behind k lanes. -/
def colAt (Z : List Nat) (k : Nat) : List Nat := (List.range k).foldl (fun C j => C.set (j % 5) (C.getD (j % 5) 0 ^^^ Z.getD j 0)) (List.replicate 5 0)

theorem colAt_succ (Z : List Nat) (k j : Nat) (hj : j = k % 5) : colAt Z (k + 1) = (colAt Z k).set j ((colAt Z k).getD j 0 ^^^ Z.getD k 0) := by
  unfold colAt
  rw [List.range_succ, List.foldl_append]
  subst hj
  rfl

theorem colAt_props (Z : List Nat) (h : ∀ x ∈ Z, x < 18446744073709551616) (k : Nat) : (colAt Z k).length = 5 ∧ ∀ x ∈ colAt Z k, x < 18446744073709551616 := by
  induction k with
  | zero => exact ⟨rfl, fun x hx => by rw [List.eq_of_mem_replicate hx]; decide⟩
  | succ k ih =>
    rw [colAt_succ Z k _ rfl]
    exact ⟨by rw [List.length_set]; exact ih.1, set_all ih.2 _ _ (xor_lt (getD_lt ih.2 (by decide) _) (getD_lt h (by decide) _))⟩

/-- What a column's lanes are xored with. -/
def dOf (C : List Nat) (x : Nat) : Nat := C.getD ((x + 4) % 5) 0 ^^^ rotL (C.getD ((x + 1) % 5) 0) 1

theorem dOf_lt {C : List Nat} (h : ∀ x ∈ C, x < 18446744073709551616) (x : Nat) : dOf C x < 18446744073709551616 :=
  xor_lt (getD_lt h (by decide) _) (rot_lt _ 1 (getD_lt h (by decide) _) (by decide))

/-- The step with C and D. -/
def theta (Z : List Nat) : List Nat := (List.range 25).map fun i => Z.getD i 0 ^^^ dOf (colAt Z 25) (i % 5)

theorem theta_lanes {Z : List Nat} (h : Lanes Z) : Lanes (theta Z) := by
  refine ⟨by simp [theta], fun x hx => ?_⟩
  obtain ⟨i, _, rfl⟩ := List.mem_map.1 hx
  exact xor_lt (getD_lt h.2 (by decide) _) (dOf_lt (colAt_props Z h.2 25).2 _)

/-- The offsets of the lanes. -/
def offN : List Nat := [0, 1, 62, 28, 27, 36, 44, 6, 55, 20, 3, 10, 43, 25, 39, 41, 45, 15, 21, 8, 18, 2, 61, 56, 14]

theorem offN_le (i : Nat) : offN.getD i 0 ≤ 63 := by
  have : offN.getD i 0 < 64 := getD_lt (Z := offN) (by decide) (by decide) i
  omega

/-- Where a lane goes. -/
def posOf (k : Nat) : Nat := k / 5 + 5 * ((2 * (k % 5) + 3 * (k / 5)) % 5)

/-- The lanes that were moved, behind k of them. -/
def bAt (T : List Nat) (k : Nat) : List Nat := (List.range k).foldl (fun B j => B.set (posOf j) (rotL (T.getD j 0) (offN.getD j 0))) (List.replicate 25 0)

theorem bAt_succ (T : List Nat) (k : Nat) : bAt T (k + 1) = (bAt T k).set (posOf k) (rotL (T.getD k 0) (offN.getD k 0)) := by
  unfold bAt
  rw [List.range_succ, List.foldl_append]
  rfl

theorem bAt_lanes {T : List Nat} (h : Lanes T) (k : Nat) : Lanes (bAt T k) := by
  induction k with
  | zero => exact ⟨rfl, fun x hx => by rw [List.eq_of_mem_replicate hx]; decide⟩
  | succ k ih =>
    rw [bAt_succ]
    exact ⟨by rw [List.length_set]; exact ih.1, set_all ih.2 _ _ (rot_lt _ _ (getD_lt h.2 (by decide) _) (offN_le _))⟩

/-- One lane of the last step. -/
def chiOf (B : List Nat) (i : Nat) : Nat := B.getD i 0 ^^^ ((18446744073709551615 - B.getD (i - i % 5 + (i % 5 + 1) % 5) 0) &&& B.getD (i - i % 5 + (i % 5 + 2) % 5) 0)

def chi (B : List Nat) : List Nat := (List.range 25).map (chiOf B)

theorem chiOf_lt {B : List Nat} (h : ∀ x ∈ B, x < 18446744073709551616) (i : Nat) : chiOf B i < 18446744073709551616 :=
  xor_lt (getD_lt h (by decide) _) (and_lt (getD_lt h (by decide) _))

theorem chi_lanes {B : List Nat} (h : Lanes B) : Lanes (chi B) := by
  refine ⟨by simp [chi], fun x hx => ?_⟩
  obtain ⟨i, _, rfl⟩ := List.mem_map.1 hx
  exact chiOf_lt h.2 i

/-- One round but for its constant. -/
def roundF (Z : List Nat) : List Nat := chi (bAt (theta Z) 25)

theorem roundF_lanes {Z : List Nat} (h : Lanes Z) : Lanes (roundF Z) := chi_lanes (bAt_lanes (theta_lanes h) 25)

/-- The constants of the rounds. -/
def rcs : List Nat := [1, 32898, 9223372036854808714, 9223372039002292224, 32907, 2147483649, 9223372039002292353, 9223372036854808585, 138, 136, 2147516425, 2147483658, 2147516555, 9223372036854775947, 9223372036854808713, 9223372036854808579, 9223372036854808578, 9223372036854775936, 32778, 9223372039002259466, 9223372039002292353, 9223372036854808704, 2147483649, 9223372039002292232]

theorem rcs_lt (i : Nat) : rcs.getD i 0 < 18446744073709551616 := getD_lt (Z := rcs) (by decide) (by decide) i

def roundC (Z : List Nat) (c : Nat) : List Nat := (roundF Z).set 0 ((roundF Z).getD 0 0 ^^^ c)

theorem roundC_lanes {Z : List Nat} (h : Lanes Z) {c : Nat} (hc : c < 18446744073709551616) : Lanes (roundC Z c) := by
  have hr := roundF_lanes h
  exact ⟨by unfold roundC; rw [List.length_set]; exact hr.1, set_all hr.2 _ _ (xor_lt (getD_lt hr.2 (by decide) _) hc)⟩

/-- The state behind k rounds. -/
def mixAt (Z : List Nat) (k : Nat) : List Nat := (List.range k).foldl (fun S j => roundC S (rcs.getD j 0)) Z

theorem mixAt_succ (Z : List Nat) (k : Nat) : mixAt Z (k + 1) = roundC (mixAt Z k) (rcs.getD k 0) := by
  unfold mixAt
  rw [List.range_succ, List.foldl_append]
  rfl

theorem mixAt_lanes {Z : List Nat} (h : Lanes Z) (k : Nat) : Lanes (mixAt Z k) := by
  induction k with
  | zero => exact h
  | succ k ih => rw [mixAt_succ]; exact roundC_lanes ih (rcs_lt k)

/-- A state as words. -/
def wordsL (Z : List Nat) : List Int := Z.flatMap fun a => [(hiW a : Int), (loW a : Int)]

theorem wordsL_nil : wordsL [] = [] := rfl
theorem wordsL_cons (a : Nat) (Z : List Nat) : wordsL (a :: Z) = (hiW a : Int) :: (loW a : Int) :: wordsL Z := rfl

theorem wordsL_append (Y Z : List Nat) : wordsL (Y ++ Z) = wordsL Y ++ wordsL Z := by simp [wordsL]

theorem wordsL_length (Z : List Nat) : (wordsL Z).length = Z.length * 2 := by
  induction Z with
  | nil => rfl
  | cons a Z ih => rw [wordsL_cons]; simp [ih]; omega

theorem wordsL_hi (Z : List Nat) : ∀ i, i < Z.length → (wordsL Z).getD (i * 2) 0 = (hiW (Z.getD i 0) : Int) := by
  induction Z with
  | nil => intro i h; simp at h
  | cons a Z ih =>
    intro i h
    rw [wordsL_cons]
    cases i with
    | zero => rfl
    | succ i =>
      rw [show (i + 1) * 2 = i * 2 + 1 + 1 by omega, List.getD_cons_succ, List.getD_cons_succ, List.getD_cons_succ]
      exact ih i (by simpa using h)

theorem wordsL_lo (Z : List Nat) : ∀ i, i < Z.length → (wordsL Z).getD (i * 2 + 1) 0 = (loW (Z.getD i 0) : Int) := by
  induction Z with
  | nil => intro i h; simp at h
  | cons a Z ih =>
    intro i h
    rw [wordsL_cons]
    cases i with
    | zero => rfl
    | succ i =>
      rw [show (i + 1) * 2 + 1 = i * 2 + 1 + 1 + 1 by omega, List.getD_cons_succ, List.getD_cons_succ, List.getD_cons_succ]
      exact ih i (by simpa using h)

theorem wordsL_set (Z : List Nat) : ∀ (i v : Nat), ((wordsL Z).set (i * 2) (hiW v : Int)).set (i * 2 + 1) (loW v : Int) = wordsL (Z.set i v) := by
  induction Z with
  | nil => intro i v; simp [wordsL]
  | cons a Z ih =>
    intro i v
    cases i with
    | zero => simp [wordsL_cons]
    | succ i =>
      rw [wordsL_cons, List.set_cons_succ, wordsL_cons, ← ih i v, show (i + 1) * 2 = i * 2 + 1 + 1 by omega]
      rfl

theorem wordsL_zero (n : Nat) : wordsL (List.replicate n 0) = List.replicate (n * 2) 0 := by
  induction n with
  | zero => rfl
  | succ n ih =>
    rw [List.replicate_succ, wordsL_cons, ih, show (n + 1) * 2 = n * 2 + 1 + 1 by omega, List.replicate_succ, List.replicate_succ]
    rfl

/-- One lane more of those that are filled in order. -/
theorem fill_at (X Y : List Nat) (n k : Nat) (hX : X.length = n) (hY : Y.length = n) (hk : k < n) : (X.take k ++ Y.drop k).set k (X.getD k 0) = X.take (k + 1) ++ Y.drop (k + 1) := by
  have hl : (X.take k).length = k := by simp; omega
  rw [List.set_append, if_neg (by omega), hl, Nat.sub_self, List.drop_eq_getElem_cons (by omega), List.set_cons_zero, List.take_succ_eq_append_getElem (by omega), getDn_at X k (by omega), List.append_assoc]
  rfl

theorem fill_later (X Y : List Nat) (n k : Nat) (hX : X.length = n) (hY : Y.length = n) (hk : k < n) : (X.take k ++ Y.drop k).getD k 0 = Y.getD k 0 := by
  have hl : (X.take k).length = k := by simp; omega
  rw [getDn_at _ _ (by simp; omega), getDn_at _ _ (by omega), List.getElem_append_right (by omega)]
  simp [hl]

end Go.Proofs.YtfhhnnlafdgloaaGreat

/- What is proved here: plain facts on bytes that are padded to a multiple of 136; no program is named. -/
namespace Go.Proofs.YtfhhnnlafdgloaaGreat
set_option linter.unusedVariables false
set_option maxRecDepth 100000

/-- How many bytes there are behind the padding. -/
def padLen (n : Nat) : Nat := 136 * (n / 136 + 1)

theorem padLen_lt (n : Nat) : n < padLen n ∧ padLen n ≤ n + 136 ∧ padLen n % 136 = 0 := by unfold padLen; omega

theorem padLen_first (n m : Nat) (h1 : n < m) (h2 : m ≤ padLen n) (h3 : m % 136 = 0) : m = padLen n := by unfold padLen at h2 ⊢; omega

/-- The last byte of the padding. -/
def padLast (n : Nat) : Int := if n + 1 = padLen n then 129 else 128

/-- The bytes, a byte 1, and k zeros. -/
def padRaw (zs : List Int) (k : Nat) : List Int := zs ++ 1 :: List.replicate k 0

/-- Padded bytes. -/
def padB (zs : List Int) : List Int := (padRaw zs (padLen zs.length - zs.length - 1)).set (padLen zs.length - 1) (padLast zs.length)

theorem padRaw_length (zs : List Int) (k : Nat) : (padRaw zs k).length = zs.length + 1 + k := by simp [padRaw]; omega

theorem padRaw_succ (zs : List Int) (k : Nat) : padRaw zs (k + 1) = padRaw zs k ++ [0] := by
  unfold padRaw
  rw [List.replicate_succ', List.append_assoc]
  rfl

theorem padB_length (zs : List Int) : (padB zs).length = padLen zs.length := by
  have := padLen_lt zs.length
  unfold padB
  rw [List.length_set, padRaw_length]
  omega

theorem padRaw_range (zs : List Int) (k : Nat) (h : ∀ x ∈ zs, 0 ≤ x ∧ x ≤ 255) : ∀ x ∈ padRaw zs k, 0 ≤ x ∧ x ≤ 255 := by
  intro x hx
  unfold padRaw at hx
  rcases List.mem_append.1 hx with hx | hx
  · exact h x hx
  · rcases List.mem_cons.1 hx with rfl | hx
    · omega
    · rw [List.eq_of_mem_replicate hx]; omega

theorem padB_range (zs : List Int) (h : ∀ x ∈ zs, 0 ≤ x ∧ x ≤ 255) : ∀ x ∈ padB zs, 0 ≤ x ∧ x ≤ 255 := by
  intro x hx
  rcases List.mem_or_eq_of_mem_set hx with h' | h'
  · exact padRaw_range zs _ h x h'
  · subst h'; unfold padLast; split <;> omega

/-- What stands last ahead of the xor. -/
theorem padRaw_last (zs : List Int) : (padRaw zs (padLen zs.length - zs.length - 1)).getD (padLen zs.length - 1) 0 = if zs.length + 1 = padLen zs.length then 1 else 0 := by
  have hp := padLen_lt zs.length
  have hl := padRaw_length zs (padLen zs.length - zs.length - 1)
  rw [getD_at _ _ (by omega)]
  unfold padRaw
  rw [List.getElem_append_right (by omega)]
  split
  · rename_i he
    have e : padLen zs.length - 1 - zs.length = 0 := by omega
    simp [e]
  · rename_i he
    obtain ⟨q, hq⟩ : ∃ q, padLen zs.length - 1 - zs.length = q + 1 := ⟨padLen zs.length - 2 - zs.length, by omega⟩
    simp [hq]

end Go.Proofs.YtfhhnnlafdgloaaGreat

/- What is proved here: plain facts on bytes soaked into a state of lanes, and what KeccakOf answers; no program is named. -/
namespace Go.Proofs.YtfhhnnlafdgloaaGreat
open Go.RowKit
set_option linter.unusedVariables false
set_option maxRecDepth 100000

/-- The k lowest bytes of a lane. -/
def lowB (b : Nat → Nat) : Nat → Nat
  | 0 => 0
  | k + 1 => lowB b k + b k * 2 ^ (8 * k)

theorem lowB_lt (b : Nat → Nat) (hb : ∀ i, b i < 256) : ∀ k, lowB b k < 2 ^ (8 * k)
  | 0 => by simp [lowB]
  | k + 1 => by
    have i := lowB_lt b hb k
    have h := hb k
    unfold lowB
    have e : 2 ^ (8 * (k + 1)) = 256 * 2 ^ (8 * k) := by rw [show 8 * (k + 1) = 8 * k + 8 by omega, Nat.pow_add, Nat.mul_comm]
    rw [e]
    have m : (b k + 1) * 2 ^ (8 * k) ≤ 256 * 2 ^ (8 * k) := Nat.mul_le_mul_right _ (by omega)
    rw [Nat.add_mul] at m
    omega

/-- Byte i behind a place. -/
def byteN (bs : List Int) (p i : Nat) : Nat := (bs.getD (p + i) 0).toNat

/-- The lane that begins at a place of bytes. -/
def laneB (bs : List Int) (p : Nat) : Nat := lowB (byteN bs p) 8

theorem byteN_lt {bs : List Int} (h : ∀ x ∈ bs, 0 ≤ x ∧ x ≤ 255) (p i : Nat) : byteN bs p i < 256 := by
  unfold byteN
  rw [List.getD_eq_getElem?_getD]
  cases e : bs[p + i]? with
  | none => simp
  | some x => have := h x (List.mem_of_getElem? e); simp; omega

theorem byteN_cast {bs : List Int} (h : ∀ x ∈ bs, 0 ≤ x ∧ x ≤ 255) (p i : Nat) : ((byteN bs p i : Nat) : Int) = bs.getD (p + i) 0 := by
  unfold byteN
  rw [List.getD_eq_getElem?_getD]
  cases e : bs[p + i]? with
  | none => simp
  | some x => have := h x (List.mem_of_getElem? e); simp; omega

theorem laneB_lt {bs : List Int} (h : ∀ x ∈ bs, 0 ≤ x ∧ x ≤ 255) (p : Nat) : laneB bs p < 18446744073709551616 := lowB_lt _ (byteN_lt h p) 8

theorem laneB_words {bs : List Int} (h : ∀ x ∈ bs, 0 ≤ x ∧ x ≤ 255) (p : Nat) :
    (hiW (laneB bs p) : Int) = bs.getD (p + 4) 0 + bs.getD (p + 5) 0 * 256 + bs.getD (p + 6) 0 * 65536 + bs.getD (p + 7) 0 * 16777216 ∧
    (loW (laneB bs p) : Int) = bs.getD (p + 0) 0 + bs.getD (p + 1) 0 * 256 + bs.getD (p + 2) 0 * 65536 + bs.getD (p + 3) 0 * 16777216 := by
  have c0 := byteN_cast h p 0
  have c1 := byteN_cast h p 1
  have c2 := byteN_cast h p 2
  have c3 := byteN_cast h p 3
  have c4 := byteN_cast h p 4
  have c5 := byteN_cast h p 5
  have c6 := byteN_cast h p 6
  have c7 := byteN_cast h p 7
  have l0 := byteN_lt h p 0
  have l1 := byteN_lt h p 1
  have l2 := byteN_lt h p 2
  have l3 := byteN_lt h p 3
  have l4 := byteN_lt h p 4
  have l5 := byteN_lt h p 5
  have l6 := byteN_lt h p 6
  have l7 := byteN_lt h p 7
  rw [← c0, ← c1, ← c2, ← c3, ← c4, ← c5, ← c6, ← c7]
  unfold hiW loW laneB
  simp only [lowB]
  generalize byteN bs p 0 = x0 at *
  generalize byteN bs p 1 = x1 at *
  generalize byteN bs p 2 = x2 at *
  generalize byteN bs p 3 = x3 at *
  generalize byteN bs p 4 = x4 at *
  generalize byteN bs p 5 = x5 at *
  generalize byteN bs p 6 = x6 at *
  generalize byteN bs p 7 = x7 at *
  clear c0 c1 c2 c3 c4 c5 c6 c7
  omega

/-- A block soaked into a state, lane by lane. -/
def soakAt (Z : List Nat) (bs : List Int) (p : Nat) : Nat → List Nat
  | 0 => Z
  | i + 1 => (soakAt Z bs p i).set i ((soakAt Z bs p i).getD i 0 ^^^ laneB bs (p + i * 8))

theorem soakAt_length (Z : List Nat) (bs : List Int) (p : Nat) : ∀ i, (soakAt Z bs p i).length = Z.length
  | 0 => rfl
  | i + 1 => by unfold soakAt; rw [List.length_set, soakAt_length Z bs p i]

theorem soakAt_lanes {Z : List Nat} {bs : List Int} (hZ : Lanes Z) (h : ∀ x ∈ bs, 0 ≤ x ∧ x ≤ 255) (p : Nat) : ∀ i, Lanes (soakAt Z bs p i)
  | 0 => hZ
  | i + 1 => by
    have ih := soakAt_lanes hZ h p i
    refine ⟨by rw [soakAt_length]; exact hZ.1, fun z hz => ?_⟩
    unfold soakAt at hz
    rcases List.mem_or_eq_of_mem_set hz with e | e
    · exact ih.2 z e
    · rw [e]
      have := getD_lt ih.2 (by decide) i
      exact Nat.xor_lt_two_pow (n := 64) this (laneB_lt h _)

/-- The state behind n blocks. -/
def spAt (bs : List Int) : Nat → List Nat
  | 0 => List.replicate 25 0
  | n + 1 => mixAt (soakAt (spAt bs n) bs (136 * n) 17) 24

theorem spAt_lanes {bs : List Int} (h : ∀ x ∈ bs, 0 ≤ x ∧ x ≤ 255) : ∀ n, Lanes (spAt bs n)
  | 0 => ⟨by simp [spAt], fun z hz => by rw [spAt] at hz; rw [List.eq_of_mem_replicate hz]; decide⟩
  | n + 1 => mixAt_lanes (soakAt_lanes (spAt_lanes h n) h _ 17) 24

/-- A block taken out of the bytes. -/
theorem laneB_block (bs : List Int) (p q : Nat) (hq : q + 8 ≤ 136) : laneB ((bs.drop p).take 136) q = laneB bs (p + q) := by
  have e : ∀ k, k ≤ 8 → lowB (byteN ((bs.drop p).take 136) q) k = lowB (byteN bs (p + q)) k := by
    intro k
    induction k with
    | zero => intro _; rfl
    | succ k ih =>
      intro hk
      unfold lowB
      rw [ih (by omega)]
      have : byteN ((bs.drop p).take 136) q k = byteN bs (p + q) k := by
        unfold byteN
        rw [List.getD_eq_getElem?_getD, List.getD_eq_getElem?_getD, List.getElem?_take_of_lt (by omega), List.getElem?_drop, Nat.add_assoc]
      rw [this]
  exact e 8 (Nat.le_refl _)

theorem soakAt_block (Z : List Nat) (bs : List Int) (p : Nat) : ∀ i, i ≤ 17 → soakAt Z ((bs.drop p).take 136) 0 i = soakAt Z bs p i
  | 0, _ => rfl
  | i + 1, h => by
    unfold soakAt
    rw [soakAt_block Z bs p i (by omega), Nat.zero_add, laneB_block bs p (i * 8) (by omega)]

/-- The 32 bytes of a state. -/
def hashOf (Z : List Nat) : List Int := (List.range 32).map fun i => ((Z.getD (i / 8) 0 / 2 ^ (8 * (i % 8)) % 256 : Nat) : Int)

theorem hashOf_length (Z : List Nat) : (hashOf Z).length = 32 := by simp [hashOf]

/-- What KeccakOf answers. -/
def kcCode (zs : List Int) : Int := if 1200 < zs.length then 2 else 0
def kcBytes (zs : List Int) : List Int := if 1200 < zs.length then [] else hashOf (spAt (padB zs) (padLen zs.length / 136))

theorem kcBytes_length (zs : List Int) : (kcBytes zs).length ≤ 32 := by
  unfold kcBytes; split
  · simp
  · rw [hashOf_length]; omega

theorem kcBytes_range (zs : List Int) (h : ∀ x ∈ zs, 0 ≤ x ∧ x ≤ 255) : ∀ x ∈ kcBytes zs, 0 ≤ x ∧ x ≤ 255 := by
  unfold kcBytes; split
  · intro x hx; simp at hx
  · intro x hx
    obtain ⟨i, _, rfl⟩ := List.mem_map.1 hx
    omega

end Go.Proofs.YtfhhnnlafdgloaaGreat

/- What is proved here: plain facts on seals and commits, as functions of bytes; no program is named. -/
namespace Go.Proofs.YtfhhnnlafdgloaaGreat
open Go.RowKit
set_option linter.unusedVariables false
set_option maxRecDepth 100000

/-- The first four bytes of a hash. -/
def sealL (a h : List Int) : List Int := (kcBytes (a ++ h)).take 4
def markL (a h : List Int) : List Int := (kcBytes (a ++ 1 :: h)).take 4

/-- The code of SealOf and CommitOf, and what they answer. -/
def slCode (a h : List Int) : Int := if a.length = 4 ∧ h.length = 32 then 0 else 1
def slBytes (a h : List Int) : List Int := if a.length = 4 ∧ h.length = 32 then sealL a h else []
def cmBytes (a h : List Int) : List Int := if a.length = 4 ∧ h.length = 32 then a ++ markL a h else []

theorem kc4 {z : List Int} (h : z.length ≤ 1200) : ((kcBytes z).take 4).length = 4 := by
  have e : (kcBytes z).length = 32 := by unfold kcBytes; rw [if_neg (by omega), hashOf_length]
  rw [List.length_take, e]; rfl

theorem seal4 {a h : List Int} (ha : a.length = 4) (hh : h.length = 32) : (sealL a h).length = 4 := kc4 (by simp; omega)
theorem mark4 {a h : List Int} (ha : a.length = 4) (hh : h.length = 32) : (markL a h).length = 4 := kc4 (by simp; omega)

theorem append_rng {a h : List Int} (ha : ∀ x ∈ a, 0 ≤ x ∧ x ≤ 255) (hh : ∀ x ∈ h, 0 ≤ x ∧ x ≤ 255) : ∀ x ∈ a ++ h, 0 ≤ x ∧ x ≤ 255 := by
  intro x hx
  rcases List.mem_append.1 hx with e | e
  · exact ha x e
  · exact hh x e

theorem sealL_rng {a h : List Int} (ha : ∀ x ∈ a, 0 ≤ x ∧ x ≤ 255) (hh : ∀ x ∈ h, 0 ≤ x ∧ x ≤ 255) : ∀ x ∈ sealL a h, 0 ≤ x ∧ x ≤ 255 :=
  fun x hx => kcBytes_range _ (append_rng ha hh) x (List.mem_of_mem_take hx)

theorem one_rng {h : List Int} (hh : ∀ x ∈ h, 0 ≤ x ∧ x ≤ 255) : ∀ x ∈ (1 : Int) :: h, 0 ≤ x ∧ x ≤ 255 := by
  intro x hx
  rcases List.mem_cons.1 hx with e | e
  · omega
  · exact hh x e

theorem markL_rng {a h : List Int} (ha : ∀ x ∈ a, 0 ≤ x ∧ x ≤ 255) (hh : ∀ x ∈ h, 0 ≤ x ∧ x ≤ 255) : ∀ x ∈ markL a h, 0 ≤ x ∧ x ≤ 255 :=
  fun x hx => kcBytes_range _ (append_rng ha (one_rng hh)) x (List.mem_of_mem_take hx)

theorem sl_range {a h : List Int} (ha : ∀ x ∈ a, 0 ≤ x ∧ x ≤ 255) (hh : ∀ x ∈ h, 0 ≤ x ∧ x ≤ 255) : ∀ x ∈ slBytes a h, 0 ≤ x ∧ x ≤ 255 := by
  unfold slBytes; split
  · exact sealL_rng ha hh
  · intro x hx; simp at hx

theorem cm_range {a h : List Int} (ha : ∀ x ∈ a, 0 ≤ x ∧ x ≤ 255) (hh : ∀ x ∈ h, 0 ≤ x ∧ x ≤ 255) : ∀ x ∈ cmBytes a h, 0 ≤ x ∧ x ≤ 255 := by
  unfold cmBytes; split
  · exact append_rng ha (markL_rng ha hh)
  · intro x hx; simp at hx

theorem sl_length (a h : List Int) : (slBytes a h).length ≤ 4 := by
  unfold slBytes; split
  · rename_i q; rw [seal4 q.1 q.2]; omega
  · simp

theorem cm_length (a h : List Int) : (cmBytes a h).length ≤ 8 := by
  unfold cmBytes; split
  · rename_i q; rw [List.length_append, mark4 q.1 q.2]; omega
  · simp

/-- The first elements of a row that is owned are owned. -/
theorem own_take {w : World} {B n m cap : Nat} {a : Option Addr} {e : TypeId} {xs : List Value} (h : w.ownsRow B e 1 (.slice a n cap) n xs) (hm : m ≤ n) : w.ownsRow B e 1 (.slice a m cap) m (xs.take m) := by
  have hl := h.1
  refine ⟨by rw [List.length_take]; omega, ?_⟩
  rcases h.2 with ⟨h', h''⟩ | ⟨g, cap', cur, h', hb, hg, hnc, hcm, hcs, htake⟩
  · simp only [Value.slice.injEq] at h'
    obtain ⟨rfl, rfl, rfl⟩ := h'
    obtain rfl : m = 0 := by omega
    exact .inl ⟨rfl, rfl⟩
  · simp only [Value.slice.injEq] at h'
    obtain ⟨rfl, -, rfl⟩ := h'
    refine .inr ⟨g, cap, cur, rfl, hb, hg, Nat.le_trans hm hnc, hcm, hcs, ?_⟩
    rw [← htake, List.take_take]
    congr 1
    omega

end Go.Proofs.YtfhhnnlafdgloaaGreat

/- What is proved here: plain facts on the short bytes of a number, the highest first; no program is named. -/
namespace Go.Proofs.YtfhhnnlafdgloaaGreat
set_option linter.unusedVariables false
set_option maxRecDepth 100000

/-- The bytes of a number, the highest first, no zero ahead; the first argument bounds how many. -/
def shortF : Nat → Int → List Int
  | 0, _ => []
  | k + 1, n => if n = 0 then [] else shortF k (n / 256) ++ [n % 256]

theorem shortF_zero (k : Nat) : shortF k 0 = [] := by cases k <;> simp [shortF]

theorem shortF_succ (k : Nat) (n : Int) (h : 0 < n) : shortF (k + 1) n = shortF k (n / 256) ++ [n % 256] := by
  rw [shortF, if_neg (by omega)]

theorem shortF_range : ∀ (k : Nat) (n : Int), ∀ x ∈ shortF k n, 0 ≤ x ∧ x ≤ 255
  | 0, _, x, hx => by simp [shortF] at hx
  | k + 1, n, x, hx => by
    unfold shortF at hx
    split at hx
    · simp at hx
    · rcases List.mem_append.1 hx with h | h
      · exact shortF_range k (n / 256) x h
      · simp at h; omega

theorem shortF_length : ∀ (k : Nat) (n : Int), (shortF k n).length ≤ k
  | 0, _ => by simp [shortF]
  | k + 1, n => by
    have := shortF_length k (n / 256)
    unfold shortF
    split <;> simp <;> omega

theorem shortF_pos (n : Int) (h : 0 < n) : 0 < (shortF 7 n).length := by
  rw [shortF_succ 6 n h]
  simp

theorem pow_step (rest : Int) (m : Nat) (h0 : 0 < rest) (h : rest < 256 ^ m) : ∃ k, m = k + 1 ∧ rest / 256 < 256 ^ k := by
  cases m with
  | zero => simp at h; omega
  | succ k =>
    refine ⟨k, rfl, ?_⟩
    rw [Int.pow_succ] at h
    generalize (256 : Int) ^ k = p at h
    omega

theorem room_step (room : List Int) (k : Nat) (z : Int) (h : k < room.length) : (room.set k z).drop k = z :: room.drop (k + 1) := by
  rw [List.drop_eq_getElem_cons (by simpa using h)]
  simp [List.drop_set_of_lt]

theorem room_range (room : List Int) (k : Nat) (z : Int) (hz : 0 ≤ z ∧ z ≤ 255) (h : ∀ x ∈ room, 0 ≤ x ∧ x ≤ 255) : ∀ x ∈ room.set k z, 0 ≤ x ∧ x ≤ 255 := by
  intro x hx
  rcases List.mem_or_eq_of_mem_set hx with h' | h'
  · exact h x h'
  · subst h'; exact hz

/-- What holds of the room while the bytes of n are written into it from its end. -/
def Room (n : Int) (m : Nat) (rest : Int) (room : List Int) : Prop :=
  m ≤ 7 ∧ 0 ≤ rest ∧ rest < 256 ^ m ∧ room.length = 7 ∧ (∀ x ∈ room, 0 ≤ x ∧ x ≤ 255) ∧ shortF 7 n = shortF m rest ++ room.drop m

theorem Room.start (n : Int) (h0 : 0 ≤ n) (h1 : n ≤ 1125899906842624) : Room n 7 n [0, 0, 0, 0, 0, 0, 0] := by
  refine ⟨Nat.le_refl _, h0, ?_, rfl, by intro x hx; simp at hx; omega, by simp⟩
  have e : (256 : Int) ^ 7 = 72057594037927936 := by decide
  rw [e]; omega

theorem Room.step {n rest : Int} {m : Nat} {room : List Int} (h : Room n m rest room) (hr : 0 < rest) :
    ∃ k, m = k + 1 ∧ Room n k (rest / 256) (room.set k (rest % 256)) := by
  obtain ⟨h1, h2, h3, h4, h5, h6⟩ := h
  obtain ⟨k, rfl, hk⟩ := pow_step rest m hr h3
  refine ⟨k, rfl, by omega, by omega, hk, by simpa using h4, room_range room k _ (by omega) h5, ?_⟩
  rw [room_step room k _ (by omega), h6, shortF_succ k rest hr]
  simp

theorem Room.done {n rest : Int} {m : Nat} {room : List Int} (h : Room n m rest room) (hr : rest = 0) : shortF 7 n = room.drop m := by
  subst hr
  rw [h.2.2.2.2.2, shortF_zero, List.nil_append]

theorem Room.bd {n rest : Int} {m : Nat} {room : List Int} (h : Room n m rest room) : rest < 72057594037927936 := by
  have e : (256 : Int) ^ 7 = 72057594037927936 := by decide
  have hm : (256 : Int) ^ m ≤ 256 ^ 7 := by
    have := h.1
    rcases (by omega : m = 0 ∨ m = 1 ∨ m = 2 ∨ m = 3 ∨ m = 4 ∨ m = 5 ∨ m = 6 ∨ m = 7) with r | r | r | r | r | r | r | r <;> subst r <;> decide
  rw [e] at hm
  exact Int.lt_of_lt_of_le h.2.2.1 hm

end Go.Proofs.YtfhhnnlafdgloaaGreat

/- What is proved here: plain facts on the bytes that stand ahead of an item; no program is named. -/
namespace Go.Proofs.YtfhhnnlafdgloaaGreat
set_option linter.unusedVariables false
set_option maxRecDepth 100000

/-- The first number of a head. -/
def headB (l : Bool) : Int := if l then 192 else 128

theorem headB_in (l : Bool) : 128 ≤ headB l ∧ headB l ≤ 192 := by cases l <;> decide

/-- The bytes ahead of n bytes. -/
def headL (l : Bool) (n : Int) : List Int := if n ≤ 55 then [headB l + n] else (headB l + 55 + (shortF 7 n).length) :: shortF 7 n

theorem shortF_small (n : Int) (h0 : 0 ≤ n) (h : n < 16777216) : (shortF 7 n).length ≤ 3 := by
  by_cases a : n = 0
  · subst a; rw [shortF_zero]; simp
  by_cases b : n / 256 = 0
  · rw [shortF_succ 6 n (by omega), b, shortF_zero]; simp
  by_cases c : n / 256 / 256 = 0
  · rw [shortF_succ 6 n (by omega), shortF_succ 5 (n / 256) (by omega), c, shortF_zero]; simp
  have d : n / 256 / 256 / 256 = 0 := by omega
  rw [shortF_succ 6 n (by omega), shortF_succ 5 (n / 256) (by omega), shortF_succ 4 (n / 256 / 256) (by omega), d, shortF_zero]; simp

theorem headL_range (l : Bool) (n : Int) (h0 : 0 ≤ n) (h : n < 16777216) : ∀ x ∈ headL l n, 0 ≤ x ∧ x ≤ 255 := by
  have hb := headB_in l
  have hs := shortF_small n h0 h
  unfold headL
  split
  · intro x hx; simp at hx; omega
  · intro x hx
    rcases List.mem_cons.1 hx with e | e
    · omega
    · exact shortF_range 7 n x e

theorem headL_length (l : Bool) (n : Int) : (headL l n).length ≤ 8 := by
  have := shortF_length 7 n
  unfold headL
  split
  · simp
  · simp; omega

/-- What HeadBytes answers: its code and its bytes. -/
def hdCode (n : Int) : Int := if 0 ≤ n ∧ n ≤ 1200 then 0 else 3
def hdBytes (l : Bool) (n : Int) : List Int := if 0 ≤ n ∧ n ≤ 1200 then headL l n else []

theorem hdBytes_range (l : Bool) (n : Int) : ∀ x ∈ hdBytes l n, 0 ≤ x ∧ x ≤ 255 := by
  unfold hdBytes
  split
  · exact headL_range l n (by omega) (by omega)
  · intro x hx; simp at hx

theorem hdBytes_length (l : Bool) (n : Int) : (hdBytes l n).length ≤ 8 := by
  unfold hdBytes
  split
  · exact headL_length l n
  · simp

theorem shortF_some (n : Int) (h : 0 < n) : 0 < (shortF 7 n).length := shortF_pos n h

end Go.Proofs.YtfhhnnlafdgloaaGreat

/- What is proved here: plain facts on the bytes of a header: what it is packed to, and that a header without a fault is small; no program is named. -/
namespace Go.Proofs.YtfhhnnlafdgloaaGreat
open Go.RowKit
set_option linter.unusedVariables false
set_option maxRecDepth 100000

/-- The head of bytes as an item: none for one small byte. -/
def pcHd (z : List Int) : List Int := if z.length = 1 ∧ z.getD 0 0 < 128 then [] else headL false z.length

/-- Bytes as an item. -/
def pcL (z : List Int) : List Int := pcHd z ++ z

/-- Slices of bytes, as items one behind the other. -/
def pcsL (zss : List (List Int)) : List Int := zss.flatMap pcL

/-- Items as a list. -/
def wrapL (z : List Int) : List Int := headL true z.length ++ z

def listL (zss : List (List Int)) : List Int := wrapL (pcsL zss)

/-- What is in the list of a header, up to each of its parts. -/
def bd1 (h : Hd) : List Int := pcL h.p ++ pcL (shortF 7 h.n1)
def bd2 (h : Hd) : List Int := bd1 h ++ pcL (shortF 7 h.n2) ++ pcL (shortF 7 h.n3)
def bd3 (h : Hd) : List Int := bd2 h ++ pcL h.t ++ pcL (shortF 7 h.n5)
def bd4 (h : Hd) : List Int := bd3 h ++ listL h.s ++ pcL h.r
def bd5 (h : Hd) : List Int := bd4 h ++ pcL h.g ++ pcL h.e
def bd6 (h : Hd) : List Int := bd5 h ++ listL h.k

def packL (h : Hd) : List Int := wrapL (bd6 h)

/-- What a header without a fault keeps to. -/
structure HGood (h : Hd) : Prop where
  p : h.p.length = 32
  n1 : 0 ≤ h.n1 ∧ h.n1 ≤ 1099511627776
  n2 : 0 ≤ h.n2 ∧ h.n2 ≤ 1099511627776
  n3 : 0 ≤ h.n3 ∧ h.n3 ≤ 9
  t : h.t.length ≤ 4
  n5 : 0 ≤ h.n5 ∧ h.n5 ≤ 2
  s : h.s.length ≤ 7
  sz : ∀ z ∈ h.s, z.length ≤ 8
  r : h.r.length = 32
  g : h.g.length = 4
  e : h.e.length ≤ 4
  k : h.k.length ≤ 7
  kz : ∀ z ∈ h.k, z.length ≤ 8

theorem sgFrom_zero (zss : List (List Int)) : ∀ (r : List (List Int)) (k : Nat), sgFrom zss k r = 0 → ∀ z ∈ r, z.length = 4
  | [], k, _, z, hz => by simp at hz
  | a :: r, k, h, z, hz => by
    unfold sgFrom at h
    split at h
    · omega
    · rename_i hb
      rcases List.mem_cons.1 hz with e | e
      · subst e
        have : sgBad zss k z = false := by simpa using hb
        unfold sgBad at this
        simp at this
        exact this.1
      · exact sgFrom_zero zss r (k + 1) h z e

theorem coFrom_zero : ∀ (r : List (List Int)), coFrom r = 0 → ∀ z ∈ r, z.length = 8
  | [], _, z, hz => by simp at hz
  | a :: r, h, z, hz => by
    unfold coFrom at h
    split at h
    · rename_i ha
      rcases List.mem_cons.1 hz with e | e
      · subst e; exact ha
      · exact coFrom_zero r h z e
    · omega

theorem good_of {h : Hd} (hf : hdFlt h = 0) : HGood h := by
  unfold hdFlt at hf
  split at hf
  · omega
  · rename_i h1
    split at hf
    · omega
    · rename_i h2
      split at hf
      · rename_i h3
        have l1 : hdLen h = false := by simpa using h1
        have n1 : hdNum h = true := by simpa using h2
        unfold hdLen at l1
        simp only [Bool.or_eq_false_iff, Bool.and_eq_false_iff, bne_eq_false_iff_eq] at l1
        obtain ⟨⟨⟨⟨a1, a2⟩, a3⟩, a4⟩, a5⟩ := l1
        unfold hdNum within at n1
        simp only [Bool.and_eq_true, decide_eq_true_eq] at n1
        obtain ⟨⟨⟨c1, c2⟩, c3⟩, c5⟩ := n1
        unfold sgFlt at h3
        split at h3
        · omega
        · rename_i s7
          have hs := sgFrom_zero h.s h.s 0 h3
          unfold coFlt at hf
          split at hf
          · omega
          · rename_i k7
            have hk := coFrom_zero h.k hf
            exact ⟨by omega, c1, c2, c3, by omega, c5, by omega, fun z hz => by have := hs z hz; omega, by omega, by omega, by omega, by omega, fun z hz => by have := hk z hz; omega⟩
      · omega

theorem pcL_length (z : List Int) : (pcL z).length ≤ 8 + z.length := by
  unfold pcL
  rw [List.length_append]
  have : (pcHd z).length ≤ 8 := by
    unfold pcHd
    split
    · simp
    · exact headL_length _ _
  omega

theorem pcsL_length : ∀ (zss : List (List Int)), (∀ z ∈ zss, z.length ≤ 8) → (pcsL zss).length ≤ 16 * zss.length
  | [], _ => by simp [pcsL]
  | z :: r, h => by
    have h1 := pcsL_length r (fun y hy => h y (List.mem_cons_of_mem _ hy))
    have h2 := pcL_length z
    have h3 := h z List.mem_cons_self
    unfold pcsL at h1 ⊢
    rw [List.flatMap_cons, List.length_append, List.length_cons]
    omega

theorem wrapL_length (z : List Int) : (wrapL z).length ≤ 8 + z.length := by
  unfold wrapL
  rw [List.length_append]
  have := headL_length true z.length
  omega

theorem listL_length (zss : List (List Int)) (h : ∀ z ∈ zss, z.length ≤ 8) (hl : zss.length ≤ 7) : (listL zss).length ≤ 120 := by
  have h1 := wrapL_length (pcsL zss)
  have h2 := pcsL_length zss h
  unfold listL
  omega

theorem sh_length (n : Int) : (shortF 7 n).length ≤ 7 := shortF_length 7 n

theorem bd_length {h : Hd} (g : HGood h) : (bd1 h).length ≤ 60 ∧ (bd2 h).length ≤ 100 ∧ (bd3 h).length ≤ 140 ∧ (bd4 h).length ≤ 300 ∧ (bd5 h).length ≤ 340 ∧ (bd6 h).length ≤ 460 := by
  have a1 := pcL_length h.p
  have a2 := pcL_length (shortF 7 h.n1)
  have a3 := pcL_length (shortF 7 h.n2)
  have a4 := pcL_length (shortF 7 h.n3)
  have a5 := pcL_length h.t
  have a6 := pcL_length (shortF 7 h.n5)
  have a7 := listL_length h.s g.sz g.s
  have a8 := pcL_length h.r
  have a9 := pcL_length h.g
  have a10 := pcL_length h.e
  have a11 := listL_length h.k g.kz g.k
  have s1 := sh_length h.n1
  have s2 := sh_length h.n2
  have s3 := sh_length h.n3
  have s5 := sh_length h.n5
  have := g.p
  have := g.t
  have := g.r
  have := g.g
  have := g.e
  unfold bd6 bd5 bd4 bd3 bd2 bd1
  simp only [List.length_append]
  omega

end Go.Proofs.YtfhhnnlafdgloaaGreat

/- What is proved here: plain facts on rows that a call owns; no program is named. -/
namespace Go.Proofs.YtfhhnnlafdgloaaGreat
open Go.RowKit
set_option linter.unusedVariables false
set_option maxRecDepth 100000

/-- What lies in a row that is owned is there behind a new block too. -/
theorem own_src {w : World} {B g n cap : Nat} {e : TypeId} {xs : List Value} (h : w.ownsRow B e 1 (.slice (some ⟨g, 0, none⟩) n cap) n xs) (o : Obj) (j : Nat) (u : Value) (hj : xs[j]? = some u) :
    (w.alloc o).cell? ((⟨g, 0, none⟩ : Addr).add j) = some u := by
  have hl := (List.getElem?_eq_some_iff.1 hj).1
  rw [h.1] at hl
  rw [add_none, Nat.zero_add, (own_below h (below_alloc w o) (Nat.le_refl _)).cellAt j hl, hj]

end Go.Proofs.YtfhhnnlafdgloaaGreat

/- What is proved here: what the model's l1Short answers: the bytes of a number, in new memory. -/
namespace Go.Proofs.YtfhhnnlafdgloaaGreat
open Go.RowKit
set_option linter.unusedVariables false
set_option maxRecDepth 100000

end Go.Proofs.YtfhhnnlafdgloaaGreat

/- What is proved here: what the model's l3Head answers: the head of an item, in new memory. -/
namespace Go.Proofs.YtfhhnnlafdgloaaGreat
open Go.RowKit
set_option linter.unusedVariables false
set_option maxRecDepth 100000

end Go.Proofs.YtfhhnnlafdgloaaGreat

/- What is proved here: plain facts on slices of items in a world, and how an argument that is such a slice reads; they hold for every program. -/
namespace Go.Proofs.YtfhhnnlafdgloaaGreat
open Go.RowKit
set_option linter.unusedVariables false
set_option maxRecDepth 100000

/-- An item: whether it is a list, its parent, its bytes. -/
structure It where
  l : Bool
  p : Int
  z : List Int

/-- The item 'it' lies at three cells. -/
def ItAt (w : World) (b o : Nat) (it : It) : Prop :=
  ∃ sa sl sc, w.cell? ⟨b, o, none⟩ = some (.bool it.l) ∧ w.cell? ⟨b, o + 1, none⟩ = some (.int .i64 it.p) ∧ w.cell? ⟨b, o + 2, none⟩ = some (.slice sa sl sc) ∧ BRow w sa sl it.z

/-- What the numbers of an item keep to. -/
def ItOk (it : It) : Prop := -9223372036854775808 ≤ it.p ∧ it.p ≤ 9223372036854775807 ∧ it.z.length ≤ maxLen

/-- The slice 'a', of 'len' items, reads as 'its'. -/
def ItRow (w : World) (a : Option Addr) (len : Nat) (its : List It) : Prop :=
  its.length = len ∧ (∀ it ∈ its, ItOk it) ∧ (0 < len → ∃ b off, a = some ⟨b, off, none⟩ ∧ ∀ i it, its[i]? = some it → ItAt w b (off + i * 3) it)

theorem ItAt.lt {w : World} {b o : Nat} {it : It} (h : ItAt w b o it) : b < w.heap.size := by
  obtain ⟨_, _, _, h, _⟩ := h
  exact lt_of_cell h

theorem ItAt.below {w w' : World} {b o : Nat} {it : It} (h : ItAt w b o it) {B : Nat} (hb : Below B w w') (hB : w.heap.size ≤ B) : ItAt w' b o it := by
  have hl := Nat.lt_of_lt_of_le h.lt hB
  obtain ⟨sa, sl, sc, h1, h2, h3, h4⟩ := h
  exact ⟨sa, sl, sc, (hb.cell hl).trans h1, (hb.cell hl).trans h2, (hb.cell hl).trans h3, h4.below hb hB⟩

theorem ItRow.below {w w' : World} {a : Option Addr} {len : Nat} {its : List It} (h : ItRow w a len its) {B : Nat} (hb : Below B w w') (hB : w.heap.size ≤ B) : ItRow w' a len its := by
  refine ⟨h.1, h.2.1, fun hp => ?_⟩
  obtain ⟨b, off, e, k⟩ := h.2.2 hp
  exact ⟨b, off, e, fun i it hi => (k i it hi).below hb hB⟩

theorem ItRow.at {w : World} {a : Option Addr} {len : Nat} {its : List It} (h : ItRow w a len its) (hp : 0 < len) :
    ∃ b off, a = some ⟨b, off, none⟩ ∧ b < w.heap.size ∧ ∀ i it, its[i]? = some it → ItAt w b (off + i * 3) it := by
  obtain ⟨b, off, e, k⟩ := h.2.2 hp
  refine ⟨b, off, e, ?_, k⟩
  have hl : 0 < its.length := by rw [h.1]; exact hp
  exact (k 0 its[0] (List.getElem?_eq_getElem hl)).lt

theorem ItRow.bytes {w : World} {a : Option Addr} {len : Nat} {its : List It} (h : ItRow w a len its) : ∀ it ∈ its, ∀ x ∈ it.z, 0 ≤ x ∧ x ≤ 255 := by
  intro it hit
  obtain ⟨i, hi⟩ := List.getElem?_of_mem hit
  have hl := (List.getElem?_eq_some_iff.1 hi).1
  obtain ⟨b, off, _, k⟩ := h.2.2 (by rw [← h.1]; omega)
  obtain ⟨_, _, _, _, _, _, hb⟩ := k i it hi
  exact hb.2.1

theorem add_add (x : Addr) (hx : x.spot = none) (i j : Nat) : (x.add i).add j = ⟨x.block, x.off + i + j, none⟩ := by
  obtain ⟨b, o, s⟩ := x
  simp only at hx
  subst hx
  rw [add_none, add_none]

/-- How an argument that is a slice of items reads. -/
theorem open_items {H : Type} {enc : TypeId × Value → H} {P : Program} {w : World} {sp : Nat → Bool} {held : Bool} {t e tb ti ts tu : TypeId} {fs : Array Field} {f0 f1 f2 : Field} {v : Value} {d : DataW H} {ps : List MemPlace}
    (ht : P.underlying t = some (.slice e)) (he : P.underlying e = some (.struct fs)) (hc : P.cellsOf e = 3)
    (h0 : fs[0]? = some f0) (h1 : fs[1]? = some f1) (h2 : fs[2]? = some f2)
    (o0 : f0.offset = 0) (o1 : f1.offset = 1) (o2 : f2.offset = 2) (t0 : f0.type = tb) (t1 : f1.type = ti) (t2 : f2.type = ts)
    (c0 : P.cellsOf tb = 1) (c1 : P.cellsOf ti = 1) (c2 : P.cellsOf ts = 1) (cu : P.cellsOf tu = 1)
    (ub : P.underlying tb = some .bool) (ui : P.underlying ti = some (.int .i64)) (us : P.underlying ts = some (.slice tu)) (uu : P.underlying tu = some (.int .u8))
    (hv : ∃ a len cap, v = .slice a len cap) (h : DataW.Trod enc P w 0 sp held t v d ps) : ∃ a len cap its, v = .slice a len cap ∧ len ≤ maxLen ∧ ItRow w a len its := by
  obtain ⟨a, len, cap, rfl⟩ := hv
  obtain ⟨fuel, h⟩ := h
  rcases DataW.trod_slice ht h with ⟨hn, _⟩ | ⟨x, len', cap', elems, rest, n, _, hcs, _, _, hl, hm, hlen, hel, _⟩
  · have hn' : [Value.slice a len cap] = [Value.slice none 0 0] := hn
    simp only [List.cons.injEq, Value.slice.injEq, and_true] at hn'
    obtain ⟨rfl, rfl, rfl⟩ := hn'
    exact ⟨none, 0, 0, [], rfl, Nat.zero_le _, rfl, fun it hi => by simp at hi, fun hp => absurd hp (Nat.lt_irrefl _)⟩
  · have hcs' : [Value.slice a len cap] = [Value.slice (some x) len' cap'] := hcs
    simp only [List.cons.injEq, Value.slice.injEq, and_true] at hcs'
    obtain ⟨rfl, rfl, rfl⟩ := hcs'
    have each : ∀ i, i < len → ∃ it : It, ItOk it ∧ x.spot = none ∧ ItAt w x.block (x.off + i * 3) it := by
      intro i hi
      have hE := hel i hi
      have hi' : i < elems.length := by omega
      rw [List.getElem?_eq_getElem hi', Option.bind_eq_some_iff, hc] at hE
      obtain ⟨cs, hcells, htr⟩ := hE
      obtain ⟨_, hcl, hcell⟩ := World.cells?_some hcells
      obtain ⟨xs, m, _, _, _, hxl, hf⟩ := DataW.trod_struct he htr
      have hs3 : 3 ≤ xs.length := by
        rw [hxl]
        have := (Array.getElem?_eq_some_iff.1 h2).1
        omega
      have g0 := hf 0 f0 h0
      have g1 := hf 1 f1 h1
      have g2 := hf 2 f2 h2
      rw [List.getElem?_eq_getElem (by omega)] at g0 g1 g2
      rw [t0, o0, c0] at g0
      rw [t1, o1, c1] at g1
      rw [t2, o2, c2] at g2
      obtain ⟨bl, e0, _⟩ := DataW.trod_bool ub g0
      obtain ⟨pn, e1, _, hwf⟩ := DataW.trod_int ui g1
      match cs, hcl with
      | [x0, x1, x2], _ =>
        simp only [List.drop_zero, List.drop_succ_cons, List.take_succ_cons, List.take_zero, List.cons.injEq, and_true] at e0 e1 g2
        subst e0 e1
        have k0 : w.cell? ((x.add (i * 3)).add 0) = some (.bool bl) := hcell 0 (by omega)
        have k1 : w.cell? ((x.add (i * 3)).add 1) = some (.int .i64 pn) := hcell 1 (by omega)
        have k2 : w.cell? ((x.add (i * 3)).add 2) = some x2 := hcell 2 (by omega)
        have hsp : x.spot = none := by
          have hk := World.cell?_spot k0
          by_cases hi0 : i * 3 = 0
          · simpa [Addr.add, hi0] using hk
          · cases i with
            | zero => simp at hi0
            | succ j =>
              have hE0 := hel 0 (by omega)
              rw [List.getElem?_eq_getElem (by omega), Option.bind_eq_some_iff, hc] at hE0
              obtain ⟨cs0, hcells0, _⟩ := hE0
              obtain ⟨_, hcl0, hcell0⟩ := World.cells?_some hcells0
              have q := hcell0 0 (by omega)
              rw [List.getElem?_eq_getElem (by omega)] at q
              simpa [Addr.add] using World.cell?_spot q
        rw [add_add x hsp] at k0 k1 k2
        have hb := bounds_i64 hwf
        rcases ChangeShapes.open_ints us uu cu g2 with ⟨e2, _⟩ | ⟨sa, sl, sc, zs, e2, _, hsl, hsm, hzl, _, hzc, hzw⟩
        · simp only [List.cons.injEq, and_true] at e2
          subst e2
          exact ⟨⟨bl, pn, []⟩, ⟨hb.1, hb.2, Nat.zero_le _⟩, hsp, none, 0, 0, k0, k1, k2, rfl, fun n hn => by simp at hn, fun _ => rfl, fun y hy => by cases hy⟩
        · simp only [List.cons.injEq, and_true] at e2
          subst e2
          have hzl' : sl ≤ zs.length := by rw [hzl]; split <;> omega
          refine ⟨⟨bl, pn, zs.take sl⟩, ⟨hb.1, hb.2, by simp; omega⟩, hsp, some sa, sl, sc, k0, k1, k2, by simp; omega, fun n hn => ?_, (fun e => (by cases e)), fun y hy j hj => ?_⟩
          · exact bounds_u8 (hzw n (List.mem_of_mem_take hn))
          · cases hy
            rw [hzc j (by omega), getD_at _ j (by omega), getD_at _ j (by simp; omega), List.getElem_take]
    have build : ∀ m, m ≤ len → ∃ its : List It, its.length = m ∧ (∀ it ∈ its, ItOk it) ∧ ∀ i it, its[i]? = some it → ItAt w x.block (x.off + i * 3) it := by
      intro m
      induction m with
      | zero => intro _; exact ⟨[], rfl, fun it hi => by simp at hi, fun i it hi => by simp at hi⟩
      | succ m ih =>
        intro hm'
        obtain ⟨its, q1, q2, q3⟩ := ih (by omega)
        obtain ⟨it, r1, _, r2⟩ := each m (by omega)
        refine ⟨its ++ [it], by simp [q1], fun y hy => ?_, fun i y hy => ?_⟩
        · rcases List.mem_append.1 hy with h' | h'
          · exact q2 y h'
          · simp at h'; subst h'; exact r1
        · rcases Nat.lt_or_ge i m with h' | h'
          · rw [List.getElem?_append_left (by omega)] at hy
            exact q3 i y hy
          · have hi : i < (its ++ [it]).length := (List.getElem?_eq_some_iff.1 hy).1
            simp at hi
            obtain rfl : i = m := by omega
            rw [List.getElem?_append_right (by omega), q1, Nat.sub_self] at hy
            simp at hy
            subst hy
            exact r2
    obtain ⟨its, q1, q2, q3⟩ := build len (Nat.le_refl _)
    refine ⟨some x, len, cap, its, rfl, Nat.le_trans hl hm, q1, q2, fun hp => ⟨x.block, x.off, ?_, q3⟩⟩
    obtain ⟨_, _, hsp, _⟩ := each 0 hp
    obtain ⟨b, o, s⟩ := x
    simp only at hsp
    subst hsp
    rfl

end Go.Proofs.YtfhhnnlafdgloaaGreat

/- What is proved here: plain facts on lists of items: how great they are, and whether two are the same; no program is named. -/
namespace Go.Proofs.YtfhhnnlafdgloaaGreat
open Go.RowKit
set_option linter.unusedVariables false
set_option maxRecDepth 100000

/-- What is left of a number behind the bytes of items: below 0 at the first time: -1. -/
def szIts : Int → List It → Int
  | left, [] => left
  | left, it :: r => if left - it.z.length < 0 then -1 else szIts (left - it.z.length) r

def szAll (left : Int) (its : List It) : Int := if left - its.length < 0 then -1 else szIts (left - its.length) its

/-- All bytes of items. -/
def bytesOf (its : List It) : Nat := (its.map fun it => it.z.length).sum

theorem szIts_bd (its : List It) : ∀ left, 0 ≤ left → szIts left its ≤ left := by
  induction its with
  | nil => intro left _; exact Int.le_refl _
  | cons it r ih =>
    intro left h
    unfold szIts
    split
    · omega
    · exact Int.le_trans (ih _ (by omega)) (by omega)

theorem szIts_ge (its : List It) : ∀ left, 0 ≤ left → -1 ≤ szIts left its := by
  induction its with
  | nil => intro left h; unfold szIts; omega
  | cons it r ih =>
    intro left h
    unfold szIts
    split
    · omega
    · exact ih _ (by omega)

theorem szIts_sum (its : List It) : ∀ left, 0 ≤ szIts left its → (bytesOf its : Int) ≤ left := by
  induction its with
  | nil => intro left h; simpa [szIts, bytesOf] using h
  | cons it r ih =>
    intro left h
    unfold szIts at h
    split at h
    · omega
    · have := ih _ h
      simp [bytesOf] at this ⊢
      omega

theorem bytesOf_mem {its : List It} {it : It} (h : it ∈ its) : it.z.length ≤ bytesOf its := by
  induction its with
  | nil => simp at h
  | cons a r ih =>
    rcases List.mem_cons.1 h with e | e
    · subst e; simp [bytesOf]
    · have := ih e; simp [bytesOf] at this ⊢; omega

theorem szAll_ok {left : Int} {its : List It} (h : 0 ≤ szAll left its) : (its.length : Int) + bytesOf its ≤ left := by
  unfold szAll at h
  split at h
  · omega
  · have := szIts_sum its _ h
    omega

theorem szAll_le (left : Int) (its : List It) (h : 0 ≤ left) : szAll left its ≤ left := by
  unfold szAll
  split
  · omega
  · exact Int.le_trans (szIts_bd its _ (by omega)) (by omega)

/-- One item more. -/
theorem szIts_step (its : List It) (k : Nat) (it : It) (left : Int) (h : its[k]? = some it) : szIts left (its.drop k) = if left - it.z.length < 0 then -1 else szIts (left - it.z.length) (its.drop (k + 1)) := by
  obtain ⟨hk, e⟩ := List.getElem?_eq_some_iff.1 h
  rw [List.drop_eq_getElem_cons hk, e]
  rfl

/-- Whether two items, two lists of them, are the same. -/
def sameIt (a b : It) : Bool := a.l == b.l && a.p == b.p && sameB a.z b.z
def sameIts : List It → List It → Bool
  | [], [] => true
  | a :: ar, b :: bs => sameIt a b && sameIts ar bs
  | _, _ => false

theorem sameIt_self (a : It) : sameIt a a = true := by simp [sameIt, sameB]

theorem sameIts_self (a : List It) : sameIts a a = true := by
  induction a with
  | nil => rfl
  | cons a r ih => simp [sameIts, sameIt_self, ih]

theorem sameIts_length : ∀ (a b : List It), sameIts a b = true → a.length = b.length
  | [], [], _ => rfl
  | [], _ :: _, h => by simp [sameIts] at h
  | _ :: _, [], h => by simp [sameIts] at h
  | a :: ar, b :: bs, h => by
    simp [sameIts] at h
    simp [sameIts_length ar bs h.2]

theorem sameIts_step (a b : List It) (k : Nat) (x y : It) (hx : a[k]? = some x) (hy : b[k]? = some y) : sameIts (a.drop k) (b.drop k) = (sameIt x y && sameIts (a.drop (k + 1)) (b.drop (k + 1))) := by
  obtain ⟨h1, e1⟩ := List.getElem?_eq_some_iff.1 hx
  obtain ⟨h2, e2⟩ := List.getElem?_eq_some_iff.1 hy
  rw [List.drop_eq_getElem_cons h1, List.drop_eq_getElem_cons h2, e1, e2]
  rfl

theorem sameIts_end (a b : List It) (k : Nat) (h1 : a.length = k) (h2 : b.length = k) : sameIts (a.drop k) (b.drop k) = true := by
  rw [List.drop_eq_nil_of_le (by omega), List.drop_eq_nil_of_le (by omega)]
  rfl

theorem sameIts_len (a b : List It) (h : a.length ≠ b.length) : sameIts a b = false := by
  rw [Bool.eq_false_iff]
  intro e
  exact h (sameIts_length a b e)

end Go.Proofs.YtfhhnnlafdgloaaGreat

/- What is proved here: plain facts on the way up from an item to the first one, and on the fault of items; no program is named. -/
namespace Go.Proofs.YtfhhnnlafdgloaaGreat
open Go.RowKit
set_option linter.unusedVariables false
set_option maxRecDepth 100000

/-- The places from one up to the first one: each one's parent is ahead of it; the first one's is -1. -/
def IsWay (its : List It) : Int → List Nat → Prop
  | a, [] => a = -1
  | a, k :: r => a = (k : Int) ∧ ∃ it, its[k]? = some it ∧ -1 ≤ it.p ∧ it.p < k ∧ IsWay its it.p r

/-- The same, reckoned. -/
def wayF (its : List It) : Nat → Int → List Nat
  | 0, _ => []
  | n + 1, a => if a < 0 then [] else match its[a.toNat]? with
    | none => []
    | some it => a.toNat :: wayF its n it.p

theorem IsWay.fuel {its : List It} : ∀ {xs : List Nat} {a : Int} {n : Nat}, IsWay its a xs → a < n → wayF its n a = xs
  | [], a, n, h, _ => by
    obtain rfl : a = -1 := h
    cases n <;> rfl
  | k :: r, a, 0, h, hn => by
    obtain ⟨rfl, _⟩ := h
    omega
  | k :: r, a, n + 1, h, hn => by
    obtain ⟨rfl, it, hit, _, hlt, hr⟩ := h
    unfold wayF
    rw [if_neg (by omega), Int.toNat_natCast, hit]
    show k :: wayF its n it.p = k :: r
    rw [hr.fuel (by omega)]

theorem wayF_len (its : List It) : ∀ (n : Nat) (a : Int), (wayF its n a).length ≤ n
  | 0, _ => Nat.le_refl _
  | n + 1, a => by
    unfold wayF
    split
    · simp
    · split
      · simp
      · have := wayF_len its n (by assumption : It).p
        simp; omega

theorem IsWay.ge {its : List It} {xs : List Nat} {a : Int} (h : IsWay its a xs) : -1 ≤ a := by
  cases xs with
  | nil => have : a = -1 := h; omega
  | cons k r => obtain ⟨rfl, _⟩ := h; omega

/-- The first K items have parents ahead of them. -/
def UpOk (its : List It) (K : Nat) : Prop := ∀ j it, j < K → its[j]? = some it → (j = 0 → it.p = -1) ∧ (0 < j → 0 ≤ it.p ∧ it.p < j)

theorem UpOk.way {its : List It} {K : Nat} (h : UpOk its K) (hK : K ≤ its.length) : ∀ (j : Nat), j < K → ∃ xs, IsWay its (j : Int) xs := by
  intro j
  induction j using Nat.strongRecOn with
  | ind j ih =>
    intro hj
    have hl : j < its.length := by omega
    obtain ⟨it, hit⟩ : ∃ it, its[j]? = some it := ⟨_, List.getElem?_eq_getElem hl⟩
    obtain ⟨h0, h1⟩ := h j it hj hit
    by_cases e : j = 0
    · subst e
      have hp := h0 rfl
      exact ⟨[0], rfl, it, hit, by omega, by omega, hp⟩
    · obtain ⟨p0, p1⟩ := h1 (by omega)
      obtain ⟨q, hq⟩ : ∃ q : Nat, it.p = (q : Int) := ⟨it.p.toNat, by omega⟩
      obtain ⟨xs, hx⟩ := ih q (by omega) (by omega)
      exact ⟨j :: xs, rfl, it, hit, by omega, p1, by rw [hq]; exact hx⟩

/-- The way up from a place. -/
def upL (its : List It) (a : Int) : List Nat := wayF its (its.length + 1) a

theorem IsWay.up {its : List It} {xs : List Nat} {a : Int} (h : IsWay its a xs) (ha : a ≤ its.length) : upL its a = xs := h.fuel (by omega)

def lAt (its : List It) (q : Nat) : Bool := match its[q]? with
  | none => false
  | some it => it.l

/-- The fault of the item at a place, those ahead of it having none. -/
def fltAt (its : List It) (i : Nat) (it : It) : Int :=
  if it.l = true ∧ 0 < it.z.length then 1
  else if 300 < it.z.length then 2
  else if i = 0 then (if it.p = -1 then 0 else 3)
  else if it.p < 0 ∨ (i : Int) ≤ it.p then 3
  else if lAt its it.p.toNat = true ∧ it.p.toNat ∈ upL its ((i : Int) - 1) then (if 5 < (upL its i).length then 2 else 0)
  else 1

/-- The first fault among the items from a place on. -/
def fltFrom (its : List It) : Nat → List It → Int
  | _, [] => 0
  | i, it :: r => if fltAt its i it = 0 then fltFrom its (i + 1) r else fltAt its i it

def itemsFlt (its : List It) : Int := if its.length < 1 ∨ 200 < its.length then 2 else fltFrom its 0 its

theorem fltFrom_step (its : List It) (k : Nat) (it : It) (h : its[k]? = some it) : fltFrom its k (its.drop k) = if fltAt its k it = 0 then fltFrom its (k + 1) (its.drop (k + 1)) else fltAt its k it := by
  obtain ⟨hk, e⟩ := List.getElem?_eq_some_iff.1 h
  rw [List.drop_eq_getElem_cons hk, e]
  rfl

theorem fltFrom_end (its : List It) (k : Nat) (h : its.length ≤ k) : fltFrom its k (its.drop k) = 0 := by
  rw [List.drop_eq_nil_of_le h]; rfl

/-- Items without a fault have their parents ahead. -/
theorem upOk_step {its : List It} {k : Nat} {it : It} (h : UpOk its k) (hit : its[k]? = some it) (h0 : k = 0 → it.p = -1) (h1 : 0 < k → 0 ≤ it.p ∧ it.p < k) : UpOk its (k + 1) := by
  intro j jt hj hjt
  by_cases e : j = k
  · subst e
    obtain rfl : jt = it := by rw [hit] at hjt; exact (Option.some.inj hjt).symm
    exact ⟨h0, h1⟩
  · exact h j jt (by omega) hjt

theorem fltAt_up {its : List It} {k : Nat} {it : It} (h : fltAt its k it = 0) : (k = 0 → it.p = -1) ∧ (0 < k → 0 ≤ it.p ∧ it.p < k) := by
  unfold fltAt at h
  split at h
  · omega
  · split at h
    · omega
    · split at h
      · split at h
        · exact ⟨fun _ => by assumption, fun _ => by omega⟩
        · omega
      · split at h
        · omega
        · exact ⟨fun _ => by omega, fun _ => by omega⟩

theorem fltAt_cases (its : List It) (k : Nat) (it : It) : fltAt its k it = 0 ∨ fltAt its k it = 1 ∨ fltAt its k it = 2 ∨ fltAt its k it = 3 := by
  unfold fltAt
  repeat' split
  all_goals omega

theorem fltFrom_cases (its : List It) : ∀ (r : List It) (k : Nat), fltFrom its k r = 0 ∨ fltFrom its k r = 1 ∨ fltFrom its k r = 2 ∨ fltFrom its k r = 3
  | [], k => .inl rfl
  | it :: r, k => by
    unfold fltFrom
    split
    · exact fltFrom_cases its r (k + 1)
    · exact fltAt_cases its k it

theorem itemsFlt_cases (its : List It) : itemsFlt its = 0 ∨ itemsFlt its = 1 ∨ itemsFlt its = 2 ∨ itemsFlt its = 3 := by
  unfold itemsFlt
  split
  · omega
  · exact fltFrom_cases its its 0

end Go.Proofs.YtfhhnnlafdgloaaGreat

/- What is proved here: plain facts on the parts of an item; no program is named. -/
namespace Go.Proofs.YtfhhnnlafdgloaaGreat
open Go.RowKit
set_option linter.unusedVariables false
set_option maxRecDepth 100000

/-- The places below k whose parent is a given one. -/
def partsUp (its : List It) (at_ : Int) : Nat → List Int
  | 0 => []
  | k + 1 => partsUp its at_ k ++ (match its[k]? with
    | some it => if it.p = at_ then [(k : Int)] else []
    | none => [])

theorem partsUp_yes {its : List It} {at_ : Int} {k : Nat} {it : It} (h : its[k]? = some it) (hp : it.p = at_) : partsUp its at_ (k + 1) = partsUp its at_ k ++ [(k : Int)] := by
  show partsUp its at_ k ++ _ = _
  rw [h]; simp [hp]

theorem partsUp_no {its : List It} {at_ : Int} {k : Nat} {it : It} (h : its[k]? = some it) (hp : it.p ≠ at_) : partsUp its at_ (k + 1) = partsUp its at_ k := by
  show partsUp its at_ k ++ _ = _
  rw [h]; simp [hp]

theorem partsUp_length (its : List It) (at_ : Int) : ∀ k, (partsUp its at_ k).length ≤ k
  | 0 => Nat.le_refl _
  | k + 1 => by
    have := partsUp_length its at_ k
    unfold partsUp
    split
    · split <;> simp <;> omega
    · simp; omega

/-- What PartsOf answers: its code and its list. -/
def poCode (its : List It) (at_ : Int) : Int := if itemsFlt its = 0 then (if 0 ≤ at_ ∧ at_ ≤ (its.length : Int) - 1 then 0 else 3) else itemsFlt its
def poList (its : List It) (at_ : Int) : List Int := if itemsFlt its = 0 ∧ 0 ≤ at_ ∧ at_ ≤ (its.length : Int) - 1 then partsUp its at_ its.length else []

theorem poList_length (its : List It) (at_ : Int) : (poList its at_).length ≤ its.length := by
  unfold poList
  split
  · exact partsUp_length _ _ _
  · simp

end Go.Proofs.YtfhhnnlafdgloaaGreat
