/- What is proved here: the model's source of draws and its picks out of a list return, write into no memory that was there but the source, and give what the list holds. -/
import Derived.Test.YtpcokoejmodmaaaChecked
import Derived.Test.YtpcokoejmodmaaaBase
import Derived.Test.YtpcokoejmodmaaaInfo
import Derived.Test.YtpcokoejmodmaaaNext
import Derived.Test.YtpcokoejmodmaaaSrcN
import Derived.WalkKit
import Derived.WalkLawsBesides
import Derived.WalkSmall
import Derived.WalkSpells
import Derived.KernelRfl
namespace Go.Proofs.Ytpcokoejmodmaaa
open Go.RowKit
set_option linter.unusedVariables false

set_option maxHeartbeats 1000000 in
theorem source_any (a : Option Addr) (len cap : Nat) (xs : List Int) (w : World) (h : BRow w a len xs) (hl : len ≤ 1048576) :
    Calls Try.prog 15 #[.slice a len cap] w fun e w' => e = .returned (.pointer (some ⟨w.heap.size, 0, none⟩)) ∧ SrcOk w' w.heap.size 0 ∧ Below w.heap.size w w' := by
  have hb := below_alloc w (.cells #[.slice a len cap, .int .i64 0] 61)
  have hs : SrcOk (w.alloc (.cells #[.slice a len cap, .int .i64 0] 61)) w.heap.size 0 := by
    refine ⟨a, len, cap, xs, ?_, h.below hb (Nat.le_refl _), hl, fun hp x hx => ?_⟩
    · show (w.heap.push _)[w.heap.size]? = _
      simp
    · have hc := h.2.2.2 x hx 0 hp
      have := lt_of_cell hc
      have hbl : (x.add 0).block = x.block := by unfold Addr.add; split <;> rfl
      omega
  have HS := hide hs
  have HB := hide hb
  clear hs hb h
  go_enter Try.func15, Try.ntmps15
  go_wp2
  go_ret
  exact ⟨rfl, unhide HS, unhide HB⟩

theorem grown_below {w0 w w' : World} {B b : Nat} (h : Below B w0 w) (hg : w.grownBy w' (some b)) (hB : B ≤ w.heap.size) (hb : B ≤ b) : Below B w0 w' :=
  h.grown hg hB (fun k e => by cases e; exact hb)

set_option maxHeartbeats 1000000 in
theorem pick_any (b g m : Nat) (L : List Int) (t : Int) (w : World) (h : SrcOk w b t) (ht : 0 ≤ t) (ht2 : t ≤ 1000000) (hgb : g ≠ b) (hm : 1 ≤ m) (hm2 : m ≤ 100) (hL : L.length = m)
    (hc : ∀ i, i < m → w.cell? ⟨g, i, none⟩ = some (.int .i64 (L.getD i 0))) :
    Calls Try.prog 34 #[.pointer (some ⟨b, 0, none⟩), .slice (some ⟨g, 0, none⟩) m m] w fun e w' => (∃ v, e = .returned (.int .i64 v) ∧ v ∈ L) ∧ SrcOk w' b (t + 1) ∧ w.grownBy w' (some b) := by
  have HN := hide (next_any b t m w h ht ht2 (by omega) (by omega))
  have HC := hide hc
  clear hc h
  go_enter Try.func34, Try.ntmps34
  go_wp2_with fail
  refine (unhide HN).mono ?_
  rintro e w1 ⟨⟨v, rfl, hv0, hv1⟩, s1, g1⟩
  obtain ⟨i, rfl⟩ := Int.eq_ofNat_of_zero_le hv0
  have hci := g1.cell ((unhide HC) i (by omega)) (by simpa using hgb)
  have hin : L.getD i 0 ∈ L := by rw [getD_at _ _ (by omega)]; exact List.getElem_mem _
  generalize L.getD i 0 = x at hci hin
  have i1 : (0 : Int) ≤ (i : Int) := by omega
  go_wp2_with fail
  go_ret
  exact ⟨⟨x, rfl, hin⟩, s1, g1⟩

end Go.Proofs.Ytpcokoejmodmaaa
