/- What is proved here: plain facts on slices of int64 in a world, used by the walks of this seat; they hold for every program. -/
import Derived.Test.YtpcokoejmodmaaaBase
namespace Go.Proofs.Ytpcokoejmodmaaa
open Go.RowKit
set_option linter.unusedVariables false

/-- The slice 'a', of 'len' elements, reads as the numbers 'zs' in the world 'w'. -/
def IRow (w : World) (a : Option Addr) (len : Nat) (zs : List Int) : Prop :=
  zs.length = len ∧ True ∧ (a = none → len = 0) ∧ ∀ x, a = some x → ∀ i, i < len → w.cell? (x.add i) = some (.int .i64 (zs.getD i 0))

theorem IRow.at {w : World} {a : Option Addr} {len : Nat} {zs : List Int} (h : IRow w a len zs) (hp : 0 < len) :
    ∃ b off, a = some ⟨b, off, none⟩ ∧ b < w.heap.size ∧ ∀ i, i < len → w.cell? ⟨b, off + i, none⟩ = some (.int .i64 (zs.getD i 0)) := by
  obtain ⟨h1, h2, h3, h4⟩ := h
  match a, h3, h4 with
  | none, h3, _ => have := h3 rfl; omega
  | some x, _, h4 =>
    obtain ⟨b, off, spot⟩ := x
    have hc := h4 _ rfl 0 hp
    have hspot : spot = none := by simpa [Addr.add] using World.cell?_spot hc
    subst hspot
    refine ⟨b, off, rfl, lt_of_cell (p := _) hc, fun i hi => ?_⟩
    have := h4 _ rfl i hi
    rwa [add_none] at this

theorem IRow.below {w w' : World} {a : Option Addr} {len : Nat} {zs : List Int} (h : IRow w a len zs) {B : Nat} (hb : Below B w w') (hB : w.heap.size ≤ B) : IRow w' a len zs := by
  refine ⟨h.1, h.2.1, h.2.2.1, fun x hx i hi => ?_⟩
  have hc := h.2.2.2 x hx i hi
  rw [hb.cell (Nat.lt_of_lt_of_le (lt_of_cell hc) hB)]
  exact hc

/-- What the call owns reads as numbers. -/
theorem IRow.own {w : World} {B g cap n : Nat} {e : TypeId} {zs : List Int} (h : w.ownsRow B e 1 (.slice (some ⟨g, 0, none⟩) n cap) n (zs.map (Value.int .i64))) :
    IRow w (some ⟨g, 0, none⟩) n zs := by
  have hl : zs.length = n := by simpa using h.1
  refine ⟨hl, trivial, fun e => (by cases e), fun x hx i hi => ?_⟩
  cases hx
  have := h.cellAt i (by omega)
  rw [add_none, Nat.zero_add, this]
  simp [List.getElem?_map, List.getD_eq_getElem?_getD, List.getElem?_eq_getElem (by omega : i < zs.length)]

/-- One number more of a row that is being filled. -/
theorem ifill_step (zs : List Int) (len k : Nat) (hl : zs.length = len) (hk : k < len) :
    ((zs.take k ++ List.replicate (len - k) 0).map (Value.int .i64)).set k (.int .i64 (zs.getD k 0)) = (zs.take (k + 1) ++ List.replicate (len - (k + 1)) 0).map (Value.int .i64) := by
  rw [← List.map_set]
  congr 1
  have e : len - k = (len - (k + 1)) + 1 := by omega
  have hk' : (zs.take k).length = k := by simp; omega
  rw [e, List.replicate_succ, List.set_append, if_neg (by omega), hk', Nat.sub_self, List.set_cons_zero]
  rw [List.take_succ_eq_append_getElem (by omega), List.getD_eq_getElem?_getD, List.getElem?_eq_getElem (by omega : k < zs.length), List.append_assoc]
  rfl

theorem IRow.own2 {w : World} {B n cap : Nat} {a : Option Addr} {e : TypeId} {zs : List Int} (h : w.ownsRow B e 1 (.slice a n cap) n (zs.map (Value.int .i64))) : IRow w a n zs := by
  rcases h.2 with ⟨h1, h2⟩ | ⟨g, cap', cur, h1, _⟩
  · simp only [Value.slice.injEq] at h1
    obtain ⟨rfl, rfl, rfl⟩ := h1
    have hl : zs.length = 0 := by simpa using h.1
    exact ⟨hl, trivial, fun _ => rfl, fun x hx => by cases hx⟩
  · simp only [Value.slice.injEq] at h1
    obtain ⟨rfl, _, rfl⟩ := h1
    exact IRow.own h

/-- The imarks k0, k0 + 1, .. that are written into n numbers. -/
def imarks (k0 : Int) (n : Nat) : List Int := (List.range n).map fun (i : Nat) => k0 + (i : Int)

theorem imarks_length (k0 : Int) (n : Nat) : (imarks k0 n).length = n := by simp [imarks]

theorem imarks_succ (k0 : Int) (n : Nat) : imarks k0 (n + 1) = imarks k0 n ++ [k0 + (n : Int)] := by simp [imarks, List.range_succ]

theorem imark_step (k0 : Int) (zs : List Int) (n k : Nat) (hl : zs.length = n) (hk : k < n) :
    ((imarks k0 k ++ zs.drop k).map (Value.int .i64)).set k (.int .i64 (k0 + (k : Int))) = (imarks k0 (k + 1) ++ zs.drop (k + 1)).map (Value.int .i64) := by
  rw [← List.map_set]
  congr 1
  rw [List.drop_eq_getElem_cons (by omega), List.set_append, if_neg (by rw [imarks_length]; omega), imarks_length, Nat.sub_self, List.set_cons_zero, imarks_succ, List.append_assoc]
  rfl

theorem imarks_at (k0 : Int) (n k : Nat) (h : k < n) : (imarks k0 n).getD k 0 = k0 + (k : Int) := by
  rw [getD_at _ _ (by rw [imarks_length]; exact h)]
  simp [imarks]

/-- What the shell's reading of an argument gives. -/
theorem irow_of {w : World} {a : Option Addr} {len cap : Nat} {zs : List Int}
    (h : (a = none ∧ len = 0 ∧ cap = 0 ∧ zs = []) ∨ ∃ x, a = some x ∧ len ≤ cap ∧ cap ≤ maxLen ∧ zs.length = cap ∧ (∀ i, i < zs.length → w.cell? (x.add i) = some (.int .i64 (zs.getD i 0))) ∧ ∀ n ∈ zs, (Lit.int .i64 n).wf = true) :
    IRow w a len (zs.take len) := by
  rcases h with ⟨rfl, rfl, rfl, rfl⟩ | ⟨x, rfl, hl, _, hz, hc, hw⟩
  · exact ⟨rfl, trivial, fun _ => rfl, fun x hx => by cases hx⟩
  · refine ⟨by simp; omega, trivial, fun e => (by cases e), fun y hy i hi => ?_⟩
    cases hy
    rw [hc i (by omega)]
    rw [getD_at _ i (by omega), getD_at _ i (by simp; omega), List.getElem_take]

end Go.Proofs.Ytpcokoejmodmaaa
