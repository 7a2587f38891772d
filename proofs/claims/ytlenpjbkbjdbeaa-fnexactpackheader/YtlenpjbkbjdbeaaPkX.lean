/- What is proved here: plain facts on a header's copy and on its bytes, for the law on PackHeader. -/
import Derived.Test.YtlenpjbkbjdbeaaPkW
import Derived.Test.YtlenpjbkbjdbeaaPkN
namespace Go.Proofs.Ytlenpjbkbjdbeaa
open Go.RowKit
set_option linter.unusedVariables false

theorem OBss.nilOk {w : World} {g : Nat} {zss : List (List Int)} {T : TypeId} {C : Nat} (h : OBss w g zss T C) : BsNil w (some ⟨g, 0, none⟩) zss.length := by
  obtain ⟨vs, f, h1, h2, h3, h4, h5⟩ := h
  intro b off e i hi
  simp only [Option.some.injEq, Addr.mk.injEq, and_true] at e
  obtain ⟨rfl, rfl⟩ := e
  obtain ⟨z, hz⟩ : ∃ z, zss[i]? = some z := ⟨_, List.getElem?_eq_getElem hi⟩
  obtain ⟨q1, _⟩ := h5 i z hi hz
  exact ⟨_, _, _, by rw [Nat.zero_add, h1.cell]; exact q1, fun e => by cases e⟩

theorem HOwn.nilOk {w : World} {B : Nat} {x : HS} {h : Hd} (o : HOwn w B x h) : HNil w x := by
  obtain ⟨g1, g2, g3, g4, g5, g6, g7, rfl, _, o1, o2, o3, o4, o5, o6, o7⟩ := o
  exact ⟨fun e => (by cases e), fun e => (by cases e), OBss.nilOk o3, fun e => (by cases e), fun e => (by cases e), fun e => (by cases e), OBss.nilOk o7⟩

theorem pk_range {w : World} {x : HS} {h : Hd} (o : HOk w x h) : ∀ y ∈ pkBytes h, 0 ≤ y ∧ y ≤ 255 := by
  unfold pkBytes
  split
  · rename_i hf
    have gd := good_of hf
    refine wrapL_range (bd6 h) (by have := (bd_length gd).2.2.2.2.2; omega) ?_
    intro y hy
    unfold bd6 bd5 bd4 bd3 bd2 bd1 at hy
    simp only [List.mem_append] at hy
    have hp := pcL_range h.p (by have := gd.p; omega) o.p.2.1 y
    have h1 := pcL_range (shortF 7 h.n1) (by have := sh_length h.n1; omega) (shortF_range 7 _) y
    have h2 := pcL_range (shortF 7 h.n2) (by have := sh_length h.n2; omega) (shortF_range 7 _) y
    have h3 := pcL_range (shortF 7 h.n3) (by have := sh_length h.n3; omega) (shortF_range 7 _) y
    have ht := pcL_range h.t (by have := gd.t; omega) o.t.2.1 y
    have h5 := pcL_range (shortF 7 h.n5) (by have := sh_length h.n5; omega) (shortF_range 7 _) y
    have hs := wrapL_range (pcsL h.s) (by have := pcsL_length h.s gd.sz; have := gd.s; omega) (pcsL_range h.s gd.sz o.s.bytes) y
    have hr := pcL_range h.r (by have := gd.r; omega) o.r.2.1 y
    have hg := pcL_range h.g (by have := gd.g; omega) o.g.2.1 y
    have he := pcL_range h.e (by have := gd.e; omega) o.e.2.1 y
    have hk := wrapL_range (pcsL h.k) (by have := pcsL_length h.k gd.kz; have := gd.k; omega) (pcsL_range h.k gd.kz o.k.bytes) y
    rcases hy with ((((((((((hy | hy) | hy) | hy) | hy) | hy) | hy) | hy) | hy) | hy) | hy)
    · exact hp hy
    · exact h1 hy
    · exact h2 hy
    · exact h3 hy
    · exact ht hy
    · exact h5 hy
    · exact hs hy
    · exact hr hy
    · exact hg hy
    · exact he hy
    · exact hk hy
  · intro y hy; simp at hy

theorem pk_length (h : Hd) : (pkBytes h).length ≤ 1200 := by
  unfold pkBytes
  split
  · rename_i hf
    have h1 := wrapL_length (bd6 h)
    have h2 := (bd_length (good_of hf)).2.2.2.2.2
    unfold packL
    omega
  · simp

end Go.Proofs.Ytlenpjbkbjdbeaa
