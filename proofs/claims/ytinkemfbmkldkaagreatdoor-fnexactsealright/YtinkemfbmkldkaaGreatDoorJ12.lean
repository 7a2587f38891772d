/- What is proved here: plain facts on what a header is hashed to: without its commits, and without its seal; no program is named. -/
import Derived.Test.YtinkemfbmkldkaaGreatDoorJ11
namespace Go.Proofs.YtinkemfbmkldkaaGreatDoor
open Go.RowKit
set_option linter.unusedVariables false
set_option maxRecDepth 100000

/-- A header without commits, and its slices. -/
def noK (h : Hd) : Hd := { h with k := [] }
def xNoK (x : HS) : HS := { x with k := ⟨none, 0, 0⟩ }
/-- A header without its seal, and its slices. -/
def noE (h : Hd) : Hd := { h with e := [] }
def xNoE (x : HS) : HS := { x with e := ⟨none, 0, 0⟩ }

theorem hdFlt_noK {h : Hd} (hf : hdFlt h = 0) : hdFlt (noK h) = 0 := by
  unfold hdFlt at hf ⊢
  have e1 : hdLen (noK h) = hdLen h := rfl
  have e2 : hdNum (noK h) = hdNum h := rfl
  have e3 : (noK h).s = h.s := rfl
  have e4 : coFlt (noK h).k = 0 := by simp [noK, coFlt, coFrom]
  rw [e1, e2, e3, e4]
  split at hf
  · omega
  · rename_i h1
    rw [if_neg h1]
    split at hf
    · omega
    · rename_i h2
      rw [if_neg h2]
      split at hf
      · rename_i h3; rw [if_pos h3]
      · rename_i h3; exact absurd hf h3

theorem hdFlt_noE {h : Hd} (hf : hdFlt h = 0) : hdFlt (noE h) = 0 := by
  have hl : hdLen h = false := by
    cases hh : hdLen h with
    | false => rfl
    | true => unfold hdFlt at hf; rw [if_pos hh] at hf; omega
  have e1 : hdLen (noE h) = false := by
    unfold hdLen at hl ⊢
    simp only [Bool.or_eq_false_iff] at hl ⊢
    exact ⟨hl.1, by simp [noE]⟩
  have e2 : hdNum (noE h) = hdNum h := rfl
  have e3 : (noE h).s = h.s := rfl
  have e4 : (noE h).k = h.k := rfl
  unfold hdFlt at hf ⊢
  rw [e1, e2, e3, e4]
  rw [hl] at hf
  exact hf

theorem BRow.nil0 (w : World) : BRow w none 0 [] := ⟨rfl, fun n hn => by simp at hn, fun _ => rfl, fun y hy => by cases hy⟩
theorem BsRow.nil0 (w : World) : BsRow w none 0 [] := ⟨rfl, fun z hz => by simp at hz, fun hp => absurd hp (Nat.lt_irrefl _)⟩

theorem HOk.noK {w : World} {x : HS} {h : Hd} (o : HOk w x h) : HOk w (xNoK x) (noK h) := ⟨o.p, o.t, o.s, o.r, o.g, o.e, BsRow.nil0 w⟩
theorem HOk.noE {w : World} {x : HS} {h : Hd} (o : HOk w x h) : HOk w (xNoE x) (noE h) := ⟨o.p, o.t, o.s, o.r, o.g, BRow.nil0 w, o.k⟩
theorem HNil.noK {w : World} {x : HS} (o : HNil w x) : HNil w (xNoK x) := ⟨o.p, o.t, o.s, o.r, o.g, o.e, fun b off e => by cases e⟩
theorem HNil.noE {w : World} {x : HS} (o : HNil w x) : HNil w (xNoE x) := ⟨o.p, o.t, o.s, o.r, o.g, fun _ => rfl, o.k⟩
theorem HSm.noK {h : Hd} (o : HSm h) : HSm (noK h) := ⟨o.p, o.t, o.s, o.sz, o.r, o.g, o.e, Nat.zero_le _, fun z hz => by simp [Go.Proofs.YtinkemfbmkldkaaGreatDoor.noK] at hz⟩
theorem HSm.noE {h : Hd} (o : HSm h) : HSm (noE h) := ⟨o.p, o.t, o.s, o.sz, o.r, o.g, Nat.zero_le _, o.k, o.kz⟩

/-- What HashOf and SealHash answer. -/
def hsBytes (h : Hd) : List Int := if hdFlt h = 0 then kcBytes (packL (noK h)) else []
def shBytes (h : Hd) : List Int := if hdFlt h = 0 then kcBytes (packL (noK (noE h))) else []

theorem pkBytes_good {h : Hd} (hf : hdFlt h = 0) : pkBytes h = packL h := if_pos hf

theorem packL_le {h : Hd} (hf : hdFlt h = 0) : (packL h).length ≤ 1200 := by
  have := pk_length h
  rw [pkBytes_good hf] at this
  exact this

theorem packL_pos (h : Hd) : 0 < (packL h).length := wrapL_pos _

theorem packL_rng {w : World} {x : HS} {h : Hd} (hf : hdFlt h = 0) (o : HOk w x h) : ∀ y ∈ packL h, 0 ≤ y ∧ y ≤ 255 := by
  have := pk_range o
  rw [pkBytes_good hf] at this
  exact this

theorem kcCode_good {z : List Int} (h : z.length ≤ 1200) : kcCode z = 0 := if_neg (by omega)

theorem kcBytes_good {z : List Int} (h : z.length ≤ 1200) : (kcBytes z).length = 32 := by
  unfold kcBytes
  rw [if_neg (by omega), hashOf_length]

theorem hs_length (h : Hd) : (hsBytes h).length ≤ 32 := by
  unfold hsBytes; split
  · exact kcBytes_length _
  · simp

theorem shh_length (h : Hd) : (shBytes h).length ≤ 32 := by
  unfold shBytes; split
  · exact kcBytes_length _
  · simp

theorem hs_range {w : World} {x : HS} {h : Hd} (o : HOk w x h) : ∀ y ∈ hsBytes h, 0 ≤ y ∧ y ≤ 255 := by
  unfold hsBytes; split
  · rename_i hf; exact kcBytes_range _ (packL_rng (hdFlt_noK hf) o.noK)
  · intro y hy; simp at hy

theorem shh_range {w : World} {x : HS} {h : Hd} (o : HOk w x h) : ∀ y ∈ shBytes h, 0 ≤ y ∧ y ≤ 255 := by
  unfold shBytes; split
  · rename_i hf; exact kcBytes_range _ (packL_rng (hdFlt_noK (hdFlt_noE hf)) o.noE.noK)
  · intro y hy; simp at hy

theorem shBytes_eq {h : Hd} (hf : hdFlt h = 0) : shBytes h = hsBytes (noE h) := by
  unfold shBytes hsBytes
  rw [if_pos hf, if_pos (hdFlt_noE hf)]

end Go.Proofs.YtinkemfbmkldkaaGreatDoor
