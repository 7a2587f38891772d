/- What is proved here: the bytes of a receipt's key as a function; no program is named. -/
import Derived.Test.YtndkdngojjhinaaEncG
import Derived.Test.YtndkdngojjhinaaShortF
namespace Go.Proofs.Ytndkdngojjhinaa
open Go.RowKit
set_option linter.unusedVariables false
set_option maxRecDepth 100000

/-- Bytes as an item. -/
def rkPc (z : List Int) : List Int := (if z.length = 1 ∧ z.getD 0 0 < 128 then [] else headL false z.length) ++ z
def rkZ (n : Int) : List Int := rkPc (shortF 7 n)
def rkCode (n : Int) : Int := if 0 ≤ n ∧ n ≤ 9999 then 0 else 3
def rkBytes (n : Int) : List Int := if 0 ≤ n ∧ n ≤ 9999 then rkZ n else []

theorem rkPc_one (z : List Int) : enc hdS [⟨false, -1, z⟩] 0 = rkPc z := by
  have hk : kidsFrom [⟨false, -1, z⟩] ((0 : Nat) : Int) 0 = [] := by
    apply kidsFrom_nil
    intro j _ hj
    have : j = 0 := by simpa using hj
    subst this
    show (-1 : Int) ≠ _
    omega
  have hU : UpOk [⟨false, -1, z⟩] [(⟨false, -1, z⟩ : It)].length := by
    intro j it h1 h2
    have : j = 0 := by simpa using h1
    subst this
    simp at h2
    subst h2
    exact ⟨fun _ => rfl, fun h => absurd h (Nat.lt_irrefl _)⟩
  rw [enc_eq hdS hU (it := ⟨false, -1, z⟩) rfl]
  unfold cont
  rw [hk]
  unfold rkPc hdS
  simp

theorem rk_flt (z : List Int) (h : z.length ≤ 300) : itemsFlt [⟨false, -1, z⟩] = 0 := by
  have h1 : ¬ 300 < z.length := by omega
  simp [itemsFlt, fltFrom, fltAt, h1]

theorem headL_len (l : Bool) (n : Nat) (h : n ≤ 55) : (headL l n).length = 1 := by
  unfold headL
  rw [if_pos (by omega)]
  rfl

theorem rkPc_length (z : List Int) (h : z.length ≤ 55) : (rkPc z).length ≤ 56 := by
  unfold rkPc
  rw [List.length_append]
  split
  · simp; omega
  · rw [headL_len _ _ h]; omega

theorem rk_enc (n : Int) : enCode [⟨false, -1, shortF 7 n⟩] = 0 ∧ enBytes [⟨false, -1, shortF 7 n⟩] = rkZ n := by
  have hl := shortF_length 7 n
  have hf := rk_flt (shortF 7 n) (by omega)
  have hz := rkPc_length (shortF 7 n) (by omega)
  unfold enCode enBytes
  rw [rkPc_one, if_pos hf, if_neg (by omega), if_pos ⟨hf, by omega⟩]
  exact ⟨rfl, rfl⟩

theorem rkZ_range (n : Int) : ∀ x ∈ rkZ n, 0 ≤ x ∧ x ≤ 255 := by
  intro x hx
  rw [← (rk_enc n).2] at hx
  exact enBytes_range _ (fun it hit => by simp at hit; subst hit; exact shortF_range 7 n) x hx

theorem rkBytes_range (n : Int) : ∀ x ∈ rkBytes n, 0 ≤ x ∧ x ≤ 255 := by
  unfold rkBytes
  split
  · exact rkZ_range n
  · intro x hx; simp at hx

theorem rkBytes_length (n : Int) : (rkBytes n).length ≤ 56 := by
  unfold rkBytes
  split
  · exact rkPc_length _ (by have := shortF_length 7 n; omega)
  · simp

end Go.Proofs.Ytndkdngojjhinaa
