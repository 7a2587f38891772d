/- What is proved here: the model's other draws for the law on texts and bytes return, write into no memory that was there, and give numbers and bytes of bounded length. -/
import Derived.Test.YtcgiibifcnefhaaChecked
import Derived.Test.YtcgiibifcnefhaaDraws
import Derived.WalkKit
import Derived.WalkLawsBesides
import Derived.WalkSmall
import Derived.WalkSpells
import Derived.KernelRfl
namespace Go.Proofs.Ytcgiibifcnefhaa
open Go.RowKit
set_option linter.unusedVariables false

set_option maxHeartbeats 1000000 in
theorem pick_any (b g m : Nat) (L : List Int) (t : Int) (w : World) (h : SrcOk w b t) (ht : 0 ≤ t) (ht2 : t ≤ 1000000) (hgb : g ≠ b) (hm : 1 ≤ m) (hm2 : m ≤ 100) (hL : L.length = m)
    (hc : ∀ i, i < m → w.cell? ⟨g, i, none⟩ = some (.int .i64 (L.getD i 0))) :
    Calls Try.prog 26 #[.pointer (some ⟨b, 0, none⟩), .slice (some ⟨g, 0, none⟩) m m] w fun e w' => (∃ v, e = .returned (.int .i64 v) ∧ v ∈ L) ∧ SrcOk w' b (t + 1) ∧ w.grownBy w' (some b) := by
  have HN := hide (next_any b t m w h ht ht2 (by omega) (by omega))
  have HC := hide hc
  clear hc h
  go_enter Try.func26, Try.ntmps26
  go_wp2_with fail
  refine (unhide HN).mono ?_
  rintro e w1 ⟨⟨v, rfl, hv0, hv1⟩, s1, g1⟩
  obtain ⟨i, rfl⟩ := Int.eq_ofNat_of_zero_le hv0
  have hci := g1.cell ((unhide HC) i (by omega)) (by simpa using hgb)
  have hin : L.getD i 0 ∈ L := by rw [getD_at _ _ (by omega)]; exact List.getElem_mem _
  generalize L.getD i 0 = x at hci hin
  have i1 : (0 : Int) ≤ (i : Int) := by omega
  go_wp2_with fail
  go_ret
  exact ⟨⟨x, rfl, hin⟩, s1, g1⟩

set_option maxHeartbeats 1000000 in
theorem drawN_any (a : Option Addr) (len cap : Nat) (xs : List Int) (w : World) (h : BRow w a len xs) (hl : len ≤ 1048576) :
    Calls Try.prog 14 #[.slice a len cap] w fun e w' => (∃ n : Int, e = .returned (.int .i64 n)) ∧ Below w.heap.size w w' := by
  go_enter Try.func14, Try.ntmps14
  go_wp2_with fail
  refine (source_any a len cap xs w h hl).mono ?_
  rintro e w1 ⟨rfl, s1, b1⟩
  go_wp2_with fail
  refine (next_any w.heap.size 0 300 w1 s1 (by omega) (by omega) (by omega) (by omega)).mono ?_
  rintro e w2 ⟨⟨p, rfl, hp0, hp1⟩, s2, g2⟩
  have b2 := grown_below b1 g2 b1.size (Nat.le_refl _)
  go_wp2_with fail
  refine (next_any w.heap.size _ 70000 w2 s2 (by omega) (by omega) (by omega) (by omega)).mono ?_
  rintro e w3 ⟨⟨q, rfl, hq0, hq1⟩, s3, g3⟩
  have b3 := grown_below b2 g3 b2.size (Nat.le_refl _)
  go_wp2_with fail
  have hc : ∀ i, i < 8 → (w3.alloc (Obj.cells #[.int .i64 p, .int .i64 q, .int .i64 0, .int .i64 255, .int .i64 256, .int .i64 1125899906842624, .int .i64 1125899906842625, .int .i64 (-1)] 2)).cell? ⟨w3.heap.size, i, none⟩ = some (.int .i64 (([p, q, 0, 255, 256, 1125899906842624, 1125899906842625, -1] : List Int).getD i 0)) := by
    intro i hi
    rw [World.cell?_alloc_new]
    rcases (by omega : i = 0 ∨ i = 1 ∨ i = 2 ∨ i = 3 ∨ i = 4 ∨ i = 5 ∨ i = 6 ∨ i = 7) with r | r | r | r | r | r | r | r <;> subst r <;> rfl
  have hlt := s3.lt
  refine (pick_any w.heap.size w3.heap.size 8 [p, q, 0, 255, 256, 1125899906842624, 1125899906842625, -1] _ _ (s3.below (below_alloc w3 _) (Nat.le_refl _)) (by omega) (by omega) (by omega) (by omega) (by omega) rfl hc).mono ?_
  rintro e w4 ⟨⟨v, rfl, _⟩, s4, g4⟩
  have b4 := grown_below (b3.alloc b3.size _) g4 (by have := b3.size; simp; omega) (Nat.le_refl _)
  go_wp2_with fail
  go_ret
  exact ⟨⟨v, rfl⟩, b4⟩

end Go.Proofs.Ytcgiibifcnefhaa
