/- What is proved here: plain facts: bytes are read back from their text, numbers from their bytes, and of two lists of bytes not both are less; no program is named. -/
import Derived.Test.YtcgiibifcnefhaaBase
import Derived.Test.YtcgiibifcnefhaaHexDec
import Derived.Test.YtcgiibifcnefhaaHexEnc
import Derived.Test.YtcgiibifcnefhaaShortNum
import Derived.Test.YtcgiibifcnefhaaShortF
namespace Go.Proofs.Ytcgiibifcnefhaa
set_option linter.unusedVariables false

theorem hd_dv (a : Int) (h : 0 ≤ dv a) : hd (dv a) = a := by
  by_cases h1 : 48 ≤ a ∧ a ≤ 57
  · have e : dv a = a - 48 := by unfold dv; rw [if_pos h1]
    rw [e]; unfold hd; rw [if_pos (by omega)]; omega
  · by_cases h2 : 97 ≤ a ∧ a ≤ 102
    · have e : dv a = a - 97 + 10 := by unfold dv; rw [if_neg h1, if_pos h2]
      rw [e]; unfold hd; rw [if_neg (by omega)]; omega
    · have e : dv a = -1 := by unfold dv; rw [if_neg h1, if_neg h2]
      rw [e] at h; omega

theorem hexEnc_hexDec : ∀ (n : Nat) (L : List Int) (zs : List Int), L.length ≤ n → hexDec L = some zs → hexEnc zs = L
  | _, [], zs, _, h => by simp [hexDec] at h; subst h; rfl
  | _, [_], zs, _, h => by simp [hexDec] at h
  | 0, a :: b :: r, zs, hl, h => by simp at hl
  | n + 1, a :: b :: r, zs, hl, h => by
    rw [hexDec] at h
    split at h
    · cases h
    · rename_i hab
      obtain ⟨ys, hy, rfl⟩ := Option.map_eq_some_iff.1 h
      have ih := hexEnc_hexDec n r ys (by simp at hl; omega) hy
      have ra := dv_range a
      have rb := dv_range b
      have ha : 0 ≤ dv a := by omega
      have hb : 0 ≤ dv b := by omega
      have e1 : (16 * dv a + dv b) / 16 = dv a := by omega
      have e2 : (16 * dv a + dv b) % 16 = dv b := by omega
      show hd ((16 * dv a + dv b) / 16) :: hd ((16 * dv a + dv b) % 16) :: hexEnc ys = _
      rw [e1, e2, hd_dv a ha, hd_dv b hb, ih]

theorem hexDec_len : ∀ (n : Nat) (L : List Int) (zs : List Int), L.length ≤ n → hexDec L = some zs → L.length = 2 * zs.length := by
  intro n L zs hl h
  rw [← hexEnc_hexDec n L zs hl h, hexEnc_length]

theorem strOfNums_txt (s : ByteArray) : strOfNums (txt s) = s := by
  apply ByteArray.ext
  apply Array.ext'
  show (txt s).map (fun n => UInt8.ofNat n.toNat) = s.data.toList
  unfold txt
  rw [List.map_map]
  conv => rhs; rw [← List.map_id s.data.toList]
  apply List.map_congr_left
  intro b _
  simp

/-- A text that is read gives bytes whose text it is. -/
theorem text_back (s : ByteArray) (h : hxCode (txt s) = 0) : (hxBytes (txt s)).length ≤ 1200 ∧ strOfNums (hexEnc (hxBytes (txt s))) = s := by
  by_cases hm : 2400 < (txt s).length
  · rw [(hx_many hm).1] at h; omega
  · cases hd : hexDec (txt s) with
    | none => rw [(hx_none hm hd).1] at h; omega
    | some zs =>
      rw [(hx_some hm hd).2]
      have hl := hexDec_len _ (txt s) zs (Nat.le_refl _) hd
      exact ⟨by omega, by rw [hexEnc_hexDec _ (txt s) zs (Nat.le_refl _) hd, strOfNums_txt]⟩

theorem numB_append (ys : List Int) (x : Int) : numB (ys ++ [x]) = 256 * numB ys + x := by
  unfold numB; rw [List.foldl_append]; rfl

theorem short_num : ∀ (k : Nat) (xs : List Int), xs.length ≤ k → (∀ x ∈ xs, 0 ≤ x ∧ x ≤ 255) → (0 < xs.length → xs.getD 0 0 ≠ 0) → shortF k (numB xs) = xs ∧ (0 < xs.length → 0 < numB xs)
  | 0, xs, hl, _, _ => by
    obtain rfl : xs = [] := List.eq_nil_of_length_eq_zero (by omega)
    exact ⟨rfl, fun h => by simp at h⟩
  | k + 1, xs, hl, hr, h0 => by
    rcases List.eq_nil_or_concat xs with rfl | ⟨ys, x, rfl⟩
    · exact ⟨shortF_zero _, fun h => by simp at h⟩
    · rw [List.concat_eq_append] at hl hr h0 ⊢
      have hx := hr x (by simp)
      have hy : ∀ y ∈ ys, 0 ≤ y ∧ y ≤ 255 := fun y hy => hr y (by simp [hy])
      have hyl : ys.length ≤ k := by simp at hl; omega
      have hy0 : 0 < ys.length → ys.getD 0 0 ≠ 0 := by
        intro hp
        have := h0 (by simp)
        rw [getD_at _ _ (by simp)] at this
        rw [List.getElem_append_left hp] at this
        rw [getD_at _ _ hp]
        exact this
      have ih := short_num k ys hyl hy hy0
      have hn0 : 0 ≤ numB ys := (numB_bd ys hy k hyl).1
      have hpos : 0 < 256 * numB ys + x := by
        by_cases hp : 0 < ys.length
        · have := ih.2 hp; omega
        · obtain rfl : ys = [] := List.eq_nil_of_length_eq_zero (by omega)
          have := h0 (by simp)
          simp at this
          omega
      rw [numB_append]
      refine ⟨?_, fun _ => hpos⟩
      rw [shortF_succ k _ hpos, show (256 * numB ys + x) / 256 = numB ys from by omega, show (256 * numB ys + x) % 256 = x from by omega, ih.1]

theorem num_short : ∀ (k : Nat) (n : Int), 0 ≤ n → n < 256 ^ k → numB (shortF k n) = n ∧ (0 < n → 0 < (shortF k n).length ∧ (shortF k n).getD 0 0 ≠ 0)
  | 0, n, h0, h1 => by
    obtain rfl : n = 0 := by simp at h1; omega
    exact ⟨rfl, fun h => by omega⟩
  | k + 1, n, h0, h1 => by
    by_cases hn : n = 0
    · subst hn; rw [shortF_zero]; exact ⟨rfl, fun h => by omega⟩
    · obtain ⟨k', hk', hd⟩ := pow_step n (k + 1) (by omega) h1
      obtain rfl : k = k' := by omega
      have ih := num_short k (n / 256) (by omega) hd
      rw [shortF_succ k n (by omega), numB_append, ih.1]
      refine ⟨by omega, fun _ => ⟨by simp, ?_⟩⟩
      by_cases hq : n / 256 = 0
      · rw [hq, shortF_zero]; simp; omega
      · have h2 := ih.2 (by omega)
        rw [getD_at _ _ (by simp), List.getElem_append_left h2.1, ← getD_at _ _ h2.1]
        exact h2.2

theorem num_bad (n : Int) (h0 : 0 ≤ n) (h1 : n ≤ 1125899906842624) : badB (shortF 7 n) = false ∧ numB (shortF 7 n) = n ∧ ((n = 0) ↔ (shortF 7 n).length = 0) := by
  have e : (256 : Int) ^ 7 = 72057594037927936 := by decide
  have h := num_short 7 n h0 (by rw [e]; omega)
  refine ⟨bad_none (shortF_length 7 n) (fun hp => ?_) (by rw [h.1]; exact h1), h.1, ?_⟩
  · by_cases hn : n = 0
    · subst hn; rw [shortF_zero] at hp; simp at hp
    · exact (h.2 (by omega)).2
  · constructor
    · intro hn; subst hn; rw [shortF_zero]; rfl
    · intro hl
      by_cases hn : n = 0
      · exact hn
      · have := (h.2 (by omega)).1; omega

/-- Bytes that are read give a number whose short bytes they are. -/
theorem bytes_back (xs : List Int) (hr : ∀ x ∈ xs, 0 ≤ x ∧ x ≤ 255) (h : badB xs = false) : 0 ≤ numB xs ∧ numB xs ≤ 1125899906842624 ∧ shortF 7 (numB xs) = xs := by
  unfold badB at h
  simp only [Bool.or_eq_false_iff, Bool.and_eq_false_iff, decide_eq_false_iff_not, beq_eq_false_iff_ne] at h
  obtain ⟨⟨h1, h2⟩, h3⟩ := h
  refine ⟨(numB_bd xs hr xs.length (Nat.le_refl _)).1, by omega, (short_num 7 xs (by omega) hr (fun hp => ?_)).1⟩
  rcases h2 with h2 | h2
  · omega
  · exact h2

theorem less_asym : ∀ (l m : List UInt8), Op.bytesLess l m = true → Op.bytesLess m l = false
  | _, [], h => by simp [Op.bytesLess] at h
  | [], _ :: _, _ => by simp [Op.bytesLess]
  | x :: a, y :: b, h => by
    unfold Op.bytesLess at h ⊢
    by_cases hxy : x = y
    · subst hxy
      have hlt : ¬ x < x := UInt8.lt_irrefl x
      simp only [hlt, decide_false, Bool.false_or, beq_self_eq_true, Bool.true_and] at h ⊢
      exact less_asym a b h
    · have hne : (x == y) = false := by rw [beq_eq_false_iff_ne]; exact hxy
      have hne' : (y == x) = false := by rw [beq_eq_false_iff_ne]; exact fun e => hxy e.symm
      simp only [hne, hne', Bool.false_and, Bool.or_false, decide_eq_true_eq, decide_eq_false_iff_not] at h ⊢
      exact UInt8.lt_asymm h

theorem zero_eq {n : Int} {L : Nat} (h : n = 0 ↔ L = 0) : ((n == 0) == ((L : Int) == 0)) = true := by
  by_cases h0 : n = 0
  · have e1 : (n == 0) = true := by rw [beq_iff_eq]; exact h0
    have e2 : ((L : Int) == 0) = true := by rw [beq_iff_eq]; have := h.1 h0; omega
    rw [e1, e2]; rfl
  · have e1 : (n == 0) = false := by rw [beq_eq_false_iff_ne]; exact h0
    have e2 : ((L : Int) == 0) = false := by
      rw [beq_eq_false_iff_ne]
      intro e
      exact h0 (h.2 (by omega))
    rw [e1, e2]; rfl

end Go.Proofs.Ytcgiibifcnefhaa
