/- What is proved here: plain facts on reading hexadecimal texts; no program is named. -/
import Derived.Test.YtcgiibifcnefhaaBase
namespace Go.Proofs.Ytcgiibifcnefhaa
set_option linter.unusedVariables false

/-- The value of a digit, -1 where it is none. -/
def dv (c : Int) : Int := if 48 ≤ c ∧ c ≤ 57 then c - 48 else if 97 ≤ c ∧ c ≤ 102 then c - 97 + 10 else -1

theorem dv_range (c : Int) : -1 ≤ dv c ∧ dv c ≤ 15 := by
  unfold dv
  split
  · omega
  · split <;> omega

/-- The bytes whose text this is. -/
def hexDec : List Int → Option (List Int)
  | [] => some []
  | [_] => none
  | a :: b :: r => if dv a < 0 ∨ dv b < 0 then none else (hexDec r).map fun zs => (16 * dv a + dv b) :: zs

/-- The signs of a text. -/
def txt (s : ByteArray) : List Int := s.data.toList.map fun b => (b.toNat : Int)

theorem txt_length (s : ByteArray) : (txt s).length = s.size := by
  unfold txt
  rw [List.length_map, Array.length_toList]
  rfl

theorem txt_at (s : ByteArray) (k : Nat) (h : k < s.size) : (txt s).getD k 0 = (s[k].toNat : Int) := by
  rw [getD_at _ _ (by rw [txt_length]; exact h)]
  simp [txt]
  rfl

theorem txt_range (s : ByteArray) (k : Nat) (h : k < s.size) : 0 ≤ (s[k].toNat : Int) ∧ (s[k].toNat : Int) ≤ 255 := by
  have := s[k].toNat_lt
  omega

/-- What holds while a text is read: the first 2 * j signs have given zs. -/
def HexAt (L : List Int) (j : Nat) (zs : List Int) : Prop :=
  2 * j ≤ L.length ∧ zs.length = j ∧ (∀ x ∈ zs, 0 ≤ x ∧ x ≤ 255) ∧ hexDec L = (hexDec (L.drop (2 * j))).map fun r => zs ++ r

theorem HexAt.start (L : List Int) : HexAt L 0 [] := by
  refine ⟨by omega, rfl, fun x hx => by simp at hx, ?_⟩
  simp

theorem drop_two (L : List Int) (j : Nat) (h : 2 * j + 1 < L.length) : L.drop (2 * j) = L.getD (2 * j) 0 :: L.getD (2 * j + 1) 0 :: L.drop (2 * (j + 1)) := by
  rw [List.drop_eq_getElem_cons (by omega), List.drop_eq_getElem_cons h, getD_at _ _ (by omega), getD_at _ _ h]
  rfl

theorem HexAt.step {L : List Int} {j : Nat} {zs : List Int} (h : HexAt L j zs) (h1 : 2 * j + 1 < L.length) (ha : 0 ≤ dv (L.getD (2 * j) 0)) (hb : 0 ≤ dv (L.getD (2 * j + 1) 0)) :
    HexAt L (j + 1) (zs ++ [16 * dv (L.getD (2 * j) 0) + dv (L.getD (2 * j + 1) 0)]) := by
  obtain ⟨g1, g2, g3, g4⟩ := h
  have ra := dv_range (L.getD (2 * j) 0)
  have rb := dv_range (L.getD (2 * j + 1) 0)
  refine ⟨by omega, by simp [g2], ?_, ?_⟩
  · intro x hx
    rcases List.mem_append.1 hx with hx | hx
    · exact g3 x hx
    · simp only [List.mem_singleton] at hx
      rw [hx]; omega
  · rw [g4, drop_two L j h1, hexDec, if_neg (by omega)]
    cases hexDec (L.drop (2 * (j + 1))) <;> simp

theorem HexAt.done {L : List Int} {j : Nat} {zs : List Int} (h : HexAt L j zs) (h1 : 2 * j = L.length) : hexDec L = some zs := by
  rw [h.2.2.2, List.drop_eq_nil_of_le (by omega)]
  simp [hexDec]

theorem HexAt.odd {L : List Int} {j : Nat} {zs : List Int} (h : HexAt L j zs) (h1 : 2 * j + 1 = L.length) : hexDec L = none := by
  rw [h.2.2.2, List.drop_eq_getElem_cons (by omega), List.drop_eq_nil_of_le (by omega)]
  simp [hexDec]

theorem HexAt.bad {L : List Int} {j : Nat} {zs : List Int} (h : HexAt L j zs) (h1 : 2 * j + 1 < L.length) (hb : dv (L.getD (2 * j) 0) < 0 ∨ dv (L.getD (2 * j + 1) 0) < 0) : hexDec L = none := by
  rw [h.2.2.2, drop_two L j h1, hexDec, if_pos hb]
  simp

theorem hexDec_odd : ∀ (j : Nat) (L : List Int), L.length = 2 * j + 1 → hexDec L = none
  | 0, L, h => by
    match L, h with
    | [x], _ => rfl
  | j + 1, L, h => by
    match L, h with
    | a :: b :: r, h =>
      have hr : r.length = 2 * j + 1 := by simp at h; omega
      rw [hexDec]
      split
      · rfl
      · rw [hexDec_odd j r hr]; rfl

theorem HexAt.bad1 {L : List Int} {j : Nat} {zs : List Int} (h : HexAt L j zs) (h1 : 2 * j < L.length) (hb : dv (L.getD (2 * j) 0) < 0) : hexDec L = none := by
  by_cases h2 : 2 * j + 1 < L.length
  · exact h.bad h2 (.inl hb)
  · exact h.odd (by omega)

/-- The code and the bytes that reading a text gives. -/
def hxCode (L : List Int) : Int := if 2400 < L.length then 2 else match hexDec L with | some _ => 0 | none => 5
def hxBytes (L : List Int) : List Int := if 2400 < L.length then [] else match hexDec L with | some zs => zs | none => []

theorem hx_many {L : List Int} (h : 2400 < L.length) : hxCode L = 2 ∧ hxBytes L = [] := by simp [hxCode, hxBytes, h]
theorem hx_none {L : List Int} (h : ¬ 2400 < L.length) (hn : hexDec L = none) : hxCode L = 5 ∧ hxBytes L = [] := by simp [hxCode, hxBytes, h, hn]
theorem hx_some {L : List Int} {zs : List Int} (h : ¬ 2400 < L.length) (hn : hexDec L = some zs) : hxCode L = 0 ∧ hxBytes L = zs := by simp [hxCode, hxBytes, h, hn]

theorem hexDec_props : ∀ (n : Nat) (L : List Int) (zs : List Int), L.length ≤ n → hexDec L = some zs → zs.length ≤ L.length ∧ ∀ x ∈ zs, 0 ≤ x ∧ x ≤ 255
  | _, [], zs, _, h => by simp [hexDec] at h; subst h; exact ⟨by simp, fun x hx => by simp at hx⟩
  | _, [_], zs, _, h => by simp [hexDec] at h
  | 0, a :: b :: r, zs, hl, h => by simp at hl
  | n + 1, a :: b :: r, zs, hl, h => by
    rw [hexDec] at h
    split at h
    · cases h
    · obtain ⟨ys, hy, rfl⟩ := Option.map_eq_some_iff.1 h
      have ih := hexDec_props n r ys (by simp at hl; omega) hy
      have ra := dv_range a
      have rb := dv_range b
      refine ⟨by simp; omega, fun x hx => ?_⟩
      rcases List.mem_cons.1 hx with rfl | hx
      · omega
      · exact ih.2 x hx

theorem hxBytes_props (L : List Int) : (hxBytes L).length ≤ 2400 ∧ ∀ x ∈ hxBytes L, 0 ≤ x ∧ x ≤ 255 := by
  by_cases h : 2400 < L.length
  · rw [(hx_many h).2]; exact ⟨by simp, fun x hx => by simp at hx⟩
  · cases hd : hexDec L with
    | none => rw [(hx_none h hd).2]; exact ⟨by simp, fun x hx => by simp at hx⟩
    | some zs =>
      rw [(hx_some h hd).2]
      have := hexDec_props L.length L zs (Nat.le_refl _) hd
      exact ⟨by omega, this.2⟩

end Go.Proofs.Ytcgiibifcnefhaa
