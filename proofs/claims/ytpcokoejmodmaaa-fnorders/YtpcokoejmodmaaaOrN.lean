/- What is proved here: what the law on orders asks of two wide numbers and of their texts, in the words of the walk. -/
import Derived.Test.YtpcokoejmodmaaaOrM
import Derived.Test.YtpcokoejmodmaaaWtS
import Derived.Test.YtpcokoejmodmaaaWtI
import Derived.Test.YtpcokoejmodmaaaWdH
namespace Go.Proofs.Ytpcokoejmodmaaa
open Go.RowKit
set_option linter.unusedVariables false

theorem cmpI_neg (x y : Int) : cmpI y x = - cmpI x y := by
  rcases Int.lt_trichotomy x y with h | h | h
  · rw [cmpI_more h, cmpI_less h]; rfl
  · subst h; rw [cmpI_same (Int.lt_irrefl _) (Int.lt_irrefl _)]; rfl
  · rw [cmpI_less h, cmpI_more h]

theorem cmpI_range (x y : Int) : -1 ≤ cmpI x y ∧ cmpI x y ≤ 1 := by
  unfold cmpI
  split
  · omega
  · split <;> omega

theorem cmpW_zero (xs ys : List Int) : ∀ k, cmpW xs ys k = 0 ↔ ∀ i, i < k → xs.getD i 0 = ys.getD i 0
  | 0 => by simp [cmpW]
  | k + 1 => by
    have ih := cmpW_zero xs ys k
    rcases Int.lt_trichotomy (xs.getD k 0) (ys.getD k 0) with h | h | h
    · rw [cmpW_other xs ys k (by rw [cmpI_less h]; decide), cmpI_less h]
      exact ⟨fun a => absurd a (by decide), fun a => absurd (a k (Nat.lt_succ_self _)) (by omega)⟩
    · rw [cmpW_same xs ys k (by rw [h]; exact cmpI_same (Int.lt_irrefl _) (Int.lt_irrefl _)), ih]
      exact ⟨fun a i hi => if e : i = k then by rw [e]; exact h else a i (by omega), fun a i hi => a i (by omega)⟩
    · rw [cmpW_other xs ys k (by rw [cmpI_more h]; decide), cmpI_more h]
      exact ⟨fun a => absurd a (by decide), fun a => absurd (a k (Nat.lt_succ_self _)) (by omega)⟩

theorem same_cmp {xs ys : List Int} (hx : xs.length = 8) (hy : ys.length = 8) : sameB xs ys = (cmpW xs ys 8 == 0) := by
  have h := cmpW_zero xs ys 8
  by_cases e : cmpW xs ys 8 = 0
  · have : xs = ys := by
      refine List.ext_getElem (by omega) fun i h1 h2 => ?_
      have := h.1 e i (by omega)
      rwa [getD_at _ _ h1, getD_at _ _ h2] at this
    rw [e, this]
    simp [sameB]
  · have hne : xs ≠ ys := fun e2 => e (h.2 (fun i _ => by rw [e2]))
    have e1 : (cmpW xs ys 8 == 0) = false := by rw [beq_eq_false_iff_ne]; exact e
    rw [e1]
    unfold sameB
    rw [beq_eq_false_iff_ne]
    exact hne

theorem u8_lt {x y : Int} (hx : 0 ≤ x ∧ x ≤ 255) (hy : 0 ≤ y ∧ y ≤ 255) : (UInt8.ofNat x.toNat < UInt8.ofNat y.toNat ↔ x < y) ∧ (UInt8.ofNat x.toNat = UInt8.ofNat y.toNat ↔ x = y) := by
  have hx' : (UInt8.ofNat x.toNat).toNat = x.toNat := by rw [UInt8.toNat_ofNat']; omega
  have hy' : (UInt8.ofNat y.toNat).toNat = y.toNat := by rw [UInt8.toNat_ofNat']; omega
  refine ⟨?_, ?_⟩
  · rw [UInt8.lt_iff_toNat_lt, hx', hy']; omega
  · rw [← UInt8.toNat_inj, hx', hy']; omega

theorem less_lex : ∀ (X Y : List Int), (∀ x ∈ X, 0 ≤ x ∧ x ≤ 255) → (∀ y ∈ Y, 0 ≤ y ∧ y ≤ 255) → Op.bytesLess (X.map fun n => UInt8.ofNat n.toNat) (Y.map fun n => UInt8.ofNat n.toNat) = lexL X Y
  | [], [], _, _ => rfl
  | [], _ :: _, _, _ => rfl
  | _ :: _, [], _, _ => rfl
  | x :: X, y :: Y, hX, hY => by
    have ih := less_lex X Y (fun z hz => hX z (List.mem_cons_of_mem _ hz)) (fun z hz => hY z (List.mem_cons_of_mem _ hz))
    have hx := hX x (List.mem_cons_self ..)
    have hy := hY y (List.mem_cons_self ..)
    have m := u8_lt hx hy
    rw [List.map_cons, List.map_cons, Op.bytesLess, ih, lexL]
    rcases Int.lt_trichotomy x y with h | h | h
    · simp [m.1.2 h, h]
    · subst h
      simp [m.1]
    · have h1 : ¬ UInt8.ofNat x.toNat < UInt8.ofNat y.toNat := fun a => absurd (m.1.1 a) (by omega)
      have h2 : ¬ UInt8.ofNat x.toNat = UInt8.ofNat y.toNat := fun a => absurd (m.2.1 a) (by omega)
      simp [h1, h2, h, show ¬ x < y by omega]

theorem map_inj8 : ∀ (X Y : List Int), (∀ x ∈ X, 0 ≤ x ∧ x ≤ 255) → (∀ y ∈ Y, 0 ≤ y ∧ y ≤ 255) → (X.map fun n => UInt8.ofNat n.toNat) = (Y.map fun n => UInt8.ofNat n.toNat) → X = Y
  | [], [], _, _, _ => rfl
  | [], _ :: _, _, _, h => by simp at h
  | _ :: _, [], _, _, h => by simp at h
  | x :: X, y :: Y, hX, hY, h => by
    rw [List.map_cons, List.map_cons, List.cons.injEq] at h
    have m := u8_lt (hX x (List.mem_cons_self ..)) (hY y (List.mem_cons_self ..))
    rw [m.2.1 h.1, map_inj8 X Y (fun z hz => hX z (List.mem_cons_of_mem _ hz)) (fun z hz => hY z (List.mem_cons_of_mem _ hz)) h.2]

/-- What is asked of two wide numbers. -/
theorem order_facts {xs ys : List Int} (hx : wfCode xs = 0) (hy : wfCode ys = 0) :
    ((wtText xs).toList == (wtText ys).toList) = (cmpW xs ys 8 == 0) ∧
    (wtText xs).size = cnt (dig xs) 64 ∧ (wtText ys).size = cnt (dig ys) 64 ∧
    ((wtText xs).size < (wtText ys).size → decide (cmpW xs ys 8 < 0) = true) ∧
    ((wtText xs).size = (wtText ys).size → Op.bytesLess (wtText xs).toList (wtText ys).toList = decide (cmpW xs ys 8 < 0)) ∧
    ((wtText ys).size < (wtText xs).size → decide (cmpW xs ys 8 < 0) = false) := by
  have wx : Wd xs := (wf_zero xs hx).2
  have wy : Wd ys := (wf_zero ys hy).2
  have dx : Dg (dig xs) := dig_range xs
  have dy : Dg (dig ys) := dig_range ys
  have ex : wtText xs = strOfNums (dn (dig xs) (cnt (dig xs) 64)) := if_pos hx
  have ey : wtText ys = strOfNums (dn (dig ys) (cnt (dig ys) 64)) := if_pos hy
  have rx := dn_range (dig xs) dx (cnt (dig xs) 64)
  have ry := dn_range (dig ys) dy (cnt (dig ys) 64)
  have sx : (wtText xs).size = cnt (dig xs) 64 := by rw [ex, strOfNums_size, dn_length]
  have sy : (wtText ys).size = cnt (dig ys) 64 := by rw [ey, strOfNums_size, dn_length]
  have lx : (wtText xs).toList = (dn (dig xs) (cnt (dig xs) 64)).map fun n => UInt8.ofNat n.toNat := by rw [ex, str_list]
  have ly : (wtText ys).toList = (dn (dig ys) (cnt (dig ys) 64)).map fun n => UInt8.ofNat n.toNat := by rw [ey, str_list]
  rw [cmpW_dig wx wy]
  have same : (wtText xs).toList = (wtText ys).toList ↔ cmpD (dig xs) (dig ys) 64 = 0 := by
    rw [lx, ly]
    constructor
    · intro h
      have hl := map_inj8 _ _ rx ry h
      have hc : cnt (dig xs) 64 = cnt (dig ys) 64 := by have := congrArg List.length hl; rwa [dn_length, dn_length] at this
      rw [cnt_same hc]
      rw [← hc] at hl
      exact (dn_same dx dy _).1 hl
    · intro h
      have hc : cnt (dig xs) 64 = cnt (dig ys) 64 := by
        rcases Nat.lt_trichotomy (cnt (dig xs) 64) (cnt (dig ys) 64) with c | c | c
        · rw [cnt_less dx dy c] at h; cases h
        · exact c
        · rw [cmpD_swap, cnt_less dy dx c] at h; cases h
      rw [← hc, (dn_same dx dy _).2 (by rw [← cnt_same hc]; exact h)]
  refine ⟨?_, sx, sy, fun h => ?_, fun h => ?_, fun h => ?_⟩
  · by_cases e : cmpD (dig xs) (dig ys) 64 = 0
    · rw [same.2 e, e]; simp
    · have e1 : (cmpD (dig xs) (dig ys) 64 == 0) = false := by rw [beq_eq_false_iff_ne]; exact e
      rw [e1, beq_eq_false_iff_ne]
      exact fun a => e (same.1 a)
  · rw [cnt_less dx dy (by omega)]; rfl
  · have hc : cnt (dig xs) 64 = cnt (dig ys) 64 := by omega
    rw [lx, ly, less_lex _ _ rx ry, cnt_same hc, ← hc, lex_dn dx dy]
  · rw [cmpD_swap, cnt_less dy dx (by omega)]; rfl

end Go.Proofs.Ytpcokoejmodmaaa
