/- What is proved here: the model's draws of numbers return, and write into no memory that was there but the source. -/
import Derived.Test.YtpcokoejmodmaaaChecked
import Derived.Test.YtpcokoejmodmaaaBase
import Derived.Test.YtpcokoejmodmaaaInfo
import Derived.Test.YtpcokoejmodmaaaNext
import Derived.WalkKit
import Derived.WalkLawsBesides
import Derived.WalkSmall
import Derived.WalkSpells
import Derived.KernelRfl
namespace Go.Proofs.Ytpcokoejmodmaaa
open Go.RowKit
set_option linter.unusedVariables false

/-- The source in block b reads bytes that lie ahead of it, from t on. -/
def SrcOk (w : World) (b : Nat) (t : Int) : Prop :=
  ∃ (a : Option Addr) (len cap : Nat) (xs : List Int), Src w b a len cap t ∧ BRow w a len xs ∧ len ≤ 1048576 ∧ (0 < len → ∀ x, a = some x → x.block < b)

theorem SrcOk.grown {w w' : World} {b : Nat} {t : Int} {row : Option Nat} (h : SrcOk w b t) (hg : w.grownBy w' row) (hr : ∀ k, row = some k → b < k) : SrcOk w' b t := by
  obtain ⟨a, len, cap, xs, h1, h2, h3, h4⟩ := h
  have hb := lt_of_block h1
  refine ⟨a, len, cap, xs, ?_, ⟨h2.1, h2.2.1, h2.2.2.1, fun x hx i hi => ?_⟩, h3, h4⟩
  · show w'.heap[b]? = _
    rw [hg.block b hb (fun e => by have := hr b e.symm; omega)]
    exact h1
  · have hc := h2.2.2.2 x hx i hi
    have hxb := h4 (by omega) x hx
    have hbl : (x.add i).block = x.block := by unfold Addr.add; split <;> rfl
    exact hg.cell hc (fun e => by have := hr _ e.symm; omega)

theorem SrcOk.below {w w' : World} {b : Nat} {t : Int} {C : Nat} (h : SrcOk w b t) (hb : Below C w w') (hC : w.heap.size ≤ C) : SrcOk w' b t :=
  h.grown (row := none) ⟨hb.os, hb.tape, hb.output, hb.size, fun k hk _ => hb.block k (by omega)⟩ (fun k e => by cases e)

theorem SrcOk.lt {w : World} {b : Nat} {t : Int} (h : SrcOk w b t) : b < w.heap.size := by
  obtain ⟨a, len, cap, xs, h1, _⟩ := h
  exact lt_of_block h1

theorem next_any (b : Nat) (t n : Int) (w : World) (h : SrcOk w b t) (ht : 0 ≤ t) (ht2 : t ≤ 1000000) (hn : 1 ≤ n) (hn2 : n ≤ 1048576) :
    Calls Try.prog 17 #[.pointer (some ⟨b, 0, none⟩), .int .i64 n] w fun e w' => (∃ v, e = .returned (.int .i64 v) ∧ 0 ≤ v ∧ v < n) ∧ SrcOk w' b (t + 1) ∧ w.grownBy w' (some b) := by
  obtain ⟨a, len, cap, xs, h1, h2, h3, h4⟩ := h
  rcases Nat.eq_zero_or_pos len with h0 | hp
  · subst h0
    refine (l1Next_zero b a cap t n w h1 ht ht2 hn hn2).mono fun e w' hq => ?_
    obtain ⟨hv, hs, hg⟩ := hq
    exact ⟨hv, ⟨a, 0, cap, xs, hs, ⟨h2.1, h2.2.1, fun _ => rfl, fun x hx i hi => by omega⟩, h3, fun h => by omega⟩, hg⟩
  · obtain ⟨bo, off, rfl, _, _⟩ := h2.at hp
    have hbo : bo < b := h4 hp _ rfl
    refine (l1Next_pos b bo off len cap xs t n w h1 h2 (by omega) hp h3 ht ht2 hn hn2).mono fun e w' hq => ?_
    obtain ⟨hv, hs, hg⟩ := hq
    refine ⟨hv, ⟨_, len, cap, xs, hs, ⟨h2.1, h2.2.1, fun e => (by cases e), fun x hx i hi => ?_⟩, h3, h4⟩, hg⟩
    have hc := h2.2.2.2 x hx i hi
    cases hx
    rw [add_none] at hc ⊢
    exact hg.cell hc (by simp; omega)

end Go.Proofs.Ytpcokoejmodmaaa
