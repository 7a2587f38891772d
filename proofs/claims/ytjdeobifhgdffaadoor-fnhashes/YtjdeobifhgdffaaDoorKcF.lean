/- What is proved here: plain facts on bytes soaked into a state of lanes, and what KeccakOf answers; no program is named. -/
import Derived.Test.YtjdeobifhgdffaaDoorKMath
import Derived.Test.YtjdeobifhgdffaaDoorPadMath
namespace Go.Proofs.YtjdeobifhgdffaaDoor
open Go.RowKit
set_option linter.unusedVariables false

/-- The k lowest bytes of a lane. -/
def lowB (b : Nat → Nat) : Nat → Nat
  | 0 => 0
  | k + 1 => lowB b k + b k * 2 ^ (8 * k)

theorem lowB_lt (b : Nat → Nat) (hb : ∀ i, b i < 256) : ∀ k, lowB b k < 2 ^ (8 * k)
  | 0 => by simp [lowB]
  | k + 1 => by
    have i := lowB_lt b hb k
    have h := hb k
    unfold lowB
    have e : 2 ^ (8 * (k + 1)) = 256 * 2 ^ (8 * k) := by rw [show 8 * (k + 1) = 8 * k + 8 by omega, Nat.pow_add, Nat.mul_comm]
    rw [e]
    have m : (b k + 1) * 2 ^ (8 * k) ≤ 256 * 2 ^ (8 * k) := Nat.mul_le_mul_right _ (by omega)
    rw [Nat.add_mul] at m
    omega

/-- Byte i behind a place. -/
def byteN (bs : List Int) (p i : Nat) : Nat := (bs.getD (p + i) 0).toNat

/-- The lane that begins at a place of bytes. -/
def laneB (bs : List Int) (p : Nat) : Nat := lowB (byteN bs p) 8

theorem byteN_lt {bs : List Int} (h : ∀ x ∈ bs, 0 ≤ x ∧ x ≤ 255) (p i : Nat) : byteN bs p i < 256 := by
  unfold byteN
  rw [List.getD_eq_getElem?_getD]
  cases e : bs[p + i]? with
  | none => simp
  | some x => have := h x (List.mem_of_getElem? e); simp; omega

theorem byteN_cast {bs : List Int} (h : ∀ x ∈ bs, 0 ≤ x ∧ x ≤ 255) (p i : Nat) : ((byteN bs p i : Nat) : Int) = bs.getD (p + i) 0 := by
  unfold byteN
  rw [List.getD_eq_getElem?_getD]
  cases e : bs[p + i]? with
  | none => simp
  | some x => have := h x (List.mem_of_getElem? e); simp; omega

theorem laneB_lt {bs : List Int} (h : ∀ x ∈ bs, 0 ≤ x ∧ x ≤ 255) (p : Nat) : laneB bs p < 18446744073709551616 := lowB_lt _ (byteN_lt h p) 8

theorem laneB_words {bs : List Int} (h : ∀ x ∈ bs, 0 ≤ x ∧ x ≤ 255) (p : Nat) :
    (hiW (laneB bs p) : Int) = bs.getD (p + 4) 0 + bs.getD (p + 5) 0 * 256 + bs.getD (p + 6) 0 * 65536 + bs.getD (p + 7) 0 * 16777216 ∧
    (loW (laneB bs p) : Int) = bs.getD (p + 0) 0 + bs.getD (p + 1) 0 * 256 + bs.getD (p + 2) 0 * 65536 + bs.getD (p + 3) 0 * 16777216 := by
  have c0 := byteN_cast h p 0
  have c1 := byteN_cast h p 1
  have c2 := byteN_cast h p 2
  have c3 := byteN_cast h p 3
  have c4 := byteN_cast h p 4
  have c5 := byteN_cast h p 5
  have c6 := byteN_cast h p 6
  have c7 := byteN_cast h p 7
  have l0 := byteN_lt h p 0
  have l1 := byteN_lt h p 1
  have l2 := byteN_lt h p 2
  have l3 := byteN_lt h p 3
  have l4 := byteN_lt h p 4
  have l5 := byteN_lt h p 5
  have l6 := byteN_lt h p 6
  have l7 := byteN_lt h p 7
  rw [← c0, ← c1, ← c2, ← c3, ← c4, ← c5, ← c6, ← c7]
  unfold hiW loW laneB
  simp only [lowB]
  generalize byteN bs p 0 = x0 at *
  generalize byteN bs p 1 = x1 at *
  generalize byteN bs p 2 = x2 at *
  generalize byteN bs p 3 = x3 at *
  generalize byteN bs p 4 = x4 at *
  generalize byteN bs p 5 = x5 at *
  generalize byteN bs p 6 = x6 at *
  generalize byteN bs p 7 = x7 at *
  clear c0 c1 c2 c3 c4 c5 c6 c7
  omega

/-- A block soaked into a state, lane by lane. -/
def soakAt (Z : List Nat) (bs : List Int) (p : Nat) : Nat → List Nat
  | 0 => Z
  | i + 1 => (soakAt Z bs p i).set i ((soakAt Z bs p i).getD i 0 ^^^ laneB bs (p + i * 8))

theorem soakAt_length (Z : List Nat) (bs : List Int) (p : Nat) : ∀ i, (soakAt Z bs p i).length = Z.length
  | 0 => rfl
  | i + 1 => by unfold soakAt; rw [List.length_set, soakAt_length Z bs p i]

theorem soakAt_lanes {Z : List Nat} {bs : List Int} (hZ : Lanes Z) (h : ∀ x ∈ bs, 0 ≤ x ∧ x ≤ 255) (p : Nat) : ∀ i, Lanes (soakAt Z bs p i)
  | 0 => hZ
  | i + 1 => by
    have ih := soakAt_lanes hZ h p i
    refine ⟨by rw [soakAt_length]; exact hZ.1, fun z hz => ?_⟩
    unfold soakAt at hz
    rcases List.mem_or_eq_of_mem_set hz with e | e
    · exact ih.2 z e
    · rw [e]
      have := getD_lt ih.2 (by decide) i
      exact Nat.xor_lt_two_pow (n := 64) this (laneB_lt h _)

/-- The state behind n blocks. -/
def spAt (bs : List Int) : Nat → List Nat
  | 0 => List.replicate 25 0
  | n + 1 => mixAt (soakAt (spAt bs n) bs (136 * n) 17) 24

theorem spAt_lanes {bs : List Int} (h : ∀ x ∈ bs, 0 ≤ x ∧ x ≤ 255) : ∀ n, Lanes (spAt bs n)
  | 0 => ⟨by simp [spAt], fun z hz => by rw [spAt] at hz; rw [List.eq_of_mem_replicate hz]; decide⟩
  | n + 1 => mixAt_lanes (soakAt_lanes (spAt_lanes h n) h _ 17) 24

/-- A block taken out of the bytes. -/
theorem laneB_block (bs : List Int) (p q : Nat) (hq : q + 8 ≤ 136) : laneB ((bs.drop p).take 136) q = laneB bs (p + q) := by
  have e : ∀ k, k ≤ 8 → lowB (byteN ((bs.drop p).take 136) q) k = lowB (byteN bs (p + q)) k := by
    intro k
    induction k with
    | zero => intro _; rfl
    | succ k ih =>
      intro hk
      unfold lowB
      rw [ih (by omega)]
      have : byteN ((bs.drop p).take 136) q k = byteN bs (p + q) k := by
        unfold byteN
        rw [List.getD_eq_getElem?_getD, List.getD_eq_getElem?_getD, List.getElem?_take_of_lt (by omega), List.getElem?_drop, Nat.add_assoc]
      rw [this]
  exact e 8 (Nat.le_refl _)

theorem soakAt_block (Z : List Nat) (bs : List Int) (p : Nat) : ∀ i, i ≤ 17 → soakAt Z ((bs.drop p).take 136) 0 i = soakAt Z bs p i
  | 0, _ => rfl
  | i + 1, h => by
    unfold soakAt
    rw [soakAt_block Z bs p i (by omega), Nat.zero_add, laneB_block bs p (i * 8) (by omega)]

/-- The 32 bytes of a state. -/
def hashOf (Z : List Nat) : List Int := (List.range 32).map fun i => ((Z.getD (i / 8) 0 / 2 ^ (8 * (i % 8)) % 256 : Nat) : Int)

theorem hashOf_length (Z : List Nat) : (hashOf Z).length = 32 := by simp [hashOf]

/-- What KeccakOf answers. -/
def kcCode (zs : List Int) : Int := if 1200 < zs.length then 2 else 0
def kcBytes (zs : List Int) : List Int := if 1200 < zs.length then [] else hashOf (spAt (padB zs) (padLen zs.length / 136))

theorem kcBytes_length (zs : List Int) : (kcBytes zs).length ≤ 32 := by
  unfold kcBytes; split
  · simp
  · rw [hashOf_length]; omega

theorem kcBytes_range (zs : List Int) (h : ∀ x ∈ zs, 0 ≤ x ∧ x ≤ 255) : ∀ x ∈ kcBytes zs, 0 ≤ x ∧ x ≤ 255 := by
  unfold kcBytes; split
  · intro x hx; simp at hx
  · intro x hx
    obtain ⟨i, _, rfl⟩ := List.mem_map.1 hx
    omega

end Go.Proofs.YtjdeobifhgdffaaDoor
