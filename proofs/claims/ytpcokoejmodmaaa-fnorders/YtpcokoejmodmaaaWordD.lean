/- What is proved here: the model's draw of a word, and rows of numbers while something else is written. -/
import Derived.Test.YtpcokoejmodmaaaChance
import Derived.Test.YtpcokoejmodmaaaIBase
namespace Go.Proofs.Ytpcokoejmodmaaa
open Go.RowKit
set_option linter.unusedVariables false

theorem IRow.grown {w w' : World} {g off n : Nat} {zs : List Int} {row : Option Nat} (h : IRow w (some ⟨g, off, none⟩) n zs) (hg : w.grownBy w' row) (hr : row ≠ some g) : IRow w' (some ⟨g, off, none⟩) n zs := by
  refine ⟨h.1, h.2.1, h.2.2.1, fun x hx i hi => ?_⟩
  have hc := h.2.2.2 x hx i hi
  cases hx
  rw [add_none] at hc ⊢
  exact hg.cell hc (fun e => hr e.symm)

theorem IRow.sub {w : World} {b off n : Nat} {bs : List Int} (h : IRow w (some ⟨b, off, none⟩) n bs) (p m : Nat) (hp : p + m ≤ n) : IRow w (some ⟨b, off + p, none⟩) m ((bs.drop p).take m) := by
  have hl := h.1
  refine ⟨by simp; omega, trivial, fun e => (by cases e), fun x hx i hi => ?_⟩
  cases hx
  have := h.2.2.2 _ rfl (p + i) (by omega)
  rw [add_none] at this ⊢
  rw [Nat.add_assoc, this, List.getD_eq_getElem?_getD, List.getD_eq_getElem?_getD, List.getElem?_take_of_lt (by omega), List.getElem?_drop]

theorem cells_list {w : World} (L : List Int) (t : TypeId) : ∀ i, i < L.length → (w.alloc (Obj.cells (L.map (Value.int .i64)).toArray t)).cell? ⟨w.heap.size, i, none⟩ = some (.int .i64 (L.getD i 0)) := by
  intro i hi
  rw [World.cell?_alloc_new]
  simp [hi]

set_option maxHeartbeats 2000000 in
theorem word_draw (b : Nat) (t : Int) (w : World) (h : SrcOk w b t) (ht : 0 ≤ t) (ht2 : t ≤ 10000) :
    Calls Try.prog 38 #[.pointer (some ⟨b, 0, none⟩)] w fun e w' => (∃ v, e = .returned (.int .i64 v) ∧ 0 ≤ v ∧ v ≤ 4294967295) ∧ SrcOk w' b (t + 1 + 1 + 1) ∧ w.grownBy w' (some b) := by
  have hbl := h.lt
  go_enter Try.func38, Try.ntmps38
  go_wp2_with fail
  refine (next_any b t 90000 w h ht (by omega) (by omega) (by omega)).mono ?_
  rintro e w1 ⟨⟨p, rfl, hp0, hp1⟩, s1, g1⟩
  obtain ⟨p2, hp2⟩ : ∃ p2, p2 = p * 47721 := ⟨_, rfl⟩
  have m0 : p * 47721 = p2 := hp2.symm
  have y0 : IntKind.i64.wrap p2 = p2 := i64_in _ (by omega) (by omega)
  have q0 : 0 ≤ p2 := by omega
  have q1 : p2 < 9223372036854775808 := by omega
  clear hp2
  go_wp2_with fail
  refine (next_any b _ 300 w1 s1 (by omega) (by omega) (by omega) (by omega)).mono ?_
  rintro e w2 ⟨⟨q, rfl, hq0, hq1⟩, s2, g2⟩
  obtain ⟨r, hr⟩ : ∃ r, r = p2 % 4294967296 := ⟨_, rfl⟩
  have hr2 : 0 ≤ r ∧ r ≤ 4294967295 := by omega
  have G2 := grownBy_trans g1 g2
  have HR := hide hr
  clear hr g1 g2 s1
  go_wp2_with fail
  rw [← unhide HR]
  have hlt := s2.lt
  refine (pick_any b w2.heap.size 5 [r, q, 0, 4294967295, 2147483648] _ _ (s2.below (below_alloc w2 _) (Nat.le_refl _)) (by omega) (by omega) (by omega) (by omega) (by omega) rfl (cells_list [r, q, 0, 4294967295, 2147483648] 2)).mono ?_
  rintro e w4 ⟨⟨v, rfl, hv⟩, s4, g4⟩
  have hv2 : 0 ≤ v ∧ v ≤ 4294967295 := by
    simp only [List.mem_cons, List.not_mem_nil, or_false] at hv
    omega
  have G4 := grownBy_trans (grownBy_trans G2 (World.grownBy_alloc w2 _ _)) g4
  clear hv
  go_wp2_with fail
  go_ret
  exact ⟨⟨v, rfl, hv2⟩, s4, G4⟩

end Go.Proofs.Ytpcokoejmodmaaa
