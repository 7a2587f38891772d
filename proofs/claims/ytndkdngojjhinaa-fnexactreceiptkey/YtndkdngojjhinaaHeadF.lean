/- What is proved here: plain facts on the bytes that stand ahead of an item; no program is named. -/
import Derived.Test.YtndkdngojjhinaaShortF
namespace Go.Proofs.Ytndkdngojjhinaa
set_option linter.unusedVariables false
set_option maxRecDepth 100000

/-- The first number of a head. -/
def headB (l : Bool) : Int := if l then 192 else 128

theorem headB_in (l : Bool) : 128 ≤ headB l ∧ headB l ≤ 192 := by cases l <;> decide

/-- The bytes ahead of n bytes. -/
def headL (l : Bool) (n : Int) : List Int := if n ≤ 55 then [headB l + n] else (headB l + 55 + (shortF 7 n).length) :: shortF 7 n

theorem shortF_small (n : Int) (h0 : 0 ≤ n) (h : n < 16777216) : (shortF 7 n).length ≤ 3 := by
  by_cases a : n = 0
  · subst a; rw [shortF_zero]; simp
  by_cases b : n / 256 = 0
  · rw [shortF_succ 6 n (by omega), b, shortF_zero]; simp
  by_cases c : n / 256 / 256 = 0
  · rw [shortF_succ 6 n (by omega), shortF_succ 5 (n / 256) (by omega), c, shortF_zero]; simp
  have d : n / 256 / 256 / 256 = 0 := by omega
  rw [shortF_succ 6 n (by omega), shortF_succ 5 (n / 256) (by omega), shortF_succ 4 (n / 256 / 256) (by omega), d, shortF_zero]; simp

theorem headL_range (l : Bool) (n : Int) (h0 : 0 ≤ n) (h : n < 16777216) : ∀ x ∈ headL l n, 0 ≤ x ∧ x ≤ 255 := by
  have hb := headB_in l
  have hs := shortF_small n h0 h
  unfold headL
  split
  · intro x hx; simp at hx; omega
  · intro x hx
    rcases List.mem_cons.1 hx with e | e
    · omega
    · exact shortF_range 7 n x e

theorem headL_length (l : Bool) (n : Int) : (headL l n).length ≤ 8 := by
  have := shortF_length 7 n
  unfold headL
  split
  · simp
  · simp; omega

/-- What HeadBytes answers: its code and its bytes. -/
def hdCode (n : Int) : Int := if 0 ≤ n ∧ n ≤ 1200 then 0 else 3
def hdBytes (l : Bool) (n : Int) : List Int := if 0 ≤ n ∧ n ≤ 1200 then headL l n else []

theorem hdBytes_range (l : Bool) (n : Int) : ∀ x ∈ hdBytes l n, 0 ≤ x ∧ x ≤ 255 := by
  unfold hdBytes
  split
  · exact headL_range l n (by omega) (by omega)
  · intro x hx; simp at hx

theorem hdBytes_length (l : Bool) (n : Int) : (hdBytes l n).length ≤ 8 := by
  unfold hdBytes
  split
  · exact headL_length l n
  · simp

theorem shortF_some (n : Int) (h : 0 < n) : 0 < (shortF 7 n).length := shortF_pos n h

end Go.Proofs.Ytndkdngojjhinaa
