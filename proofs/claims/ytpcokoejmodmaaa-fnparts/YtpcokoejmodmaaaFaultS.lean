/- What is proved here: what the model's l3Line and l3Deep answer: whether an item's parent is on the way up from the item ahead, and is a list; how many items there are from one up. -/
import Derived.Test.YtpcokoejmodmaaaChecked
import Derived.Test.YtpcokoejmodmaaaItW
import Derived.Test.YtpcokoejmodmaaaIn
import Derived.WalkKit
import Derived.WalkLawsBesides
import Derived.WalkSmall
import Derived.KernelRfl
import Derived.WalkSpells
namespace Go.Proofs.Ytpcokoejmodmaaa
open Go.RowKit
set_option linter.unusedVariables false

set_option maxHeartbeats 2000000 in
theorem l3Line_any (a : Option Addr) (len cap : Nat) (its : List It) (k q : Nat) (it jt : It) (xs : List Nat) (w : World) (h : ItRow w a len its) (hl : len ≤ 1048576) (hk : 0 < k) (hit : its[k]? = some it) (hp : it.p = (q : Int)) (hjt : its[q]? = some jt) (hw : IsWay its ((k : Int) - 1) xs) :
    Calls Try.prog 36 #[.slice a len cap, .int .i64 (k : Int)] w fun e w' => e = .returned (.bool (jt.l && decide (q ∈ xs))) ∧ w' = w := by
  have hkl : k < its.length := (List.getElem?_eq_some_iff.1 hit).1
  have hkn : k < len := by rw [← h.1]; exact hkl
  have hlen := h.1
  obtain ⟨b, off, rfl, hb, hat⟩ := h.at (by omega)
  obtain ⟨sa, sl, sc, c0, c1, c2, hbr⟩ := hat k it hit
  obtain ⟨ja, jl, jc, g0, g1, g2, _⟩ := hat q jt hjt
  rw [hp] at c1
  have HAT := hide hat
  have HW := hide hw
  have i1 : (0 : Int) ≤ (k : Int) := by omega
  have i2 : (k : Int) < (len : Int) := by omega
  have hql : q < its.length := (List.getElem?_eq_some_iff.1 hjt).1
  have j1 : (0 : Int) ≤ (q : Int) := by omega
  have j2 : (q : Int) < (len : Int) := by omega
  generalize jt.l = jb at g0
  clear hat hbr h hw hit hp hjt c0 c2 g1 g2 hb
  go_enter Try.func36, Try.ntmps36
  go_wp2_with fail
  go_loop [5] (fun p => ∃ (r : Int) (rest : List Nat), p = .int .i64 r ∧ IsWay its r rest ∧ (q ∈ xs ↔ q ∈ rest)) (fun p => (intOf p + 1).toNat)
  case atStart => exact ⟨_, xs, rfl, unhide HW, Iff.rfl⟩
  case round =>
    obtain ⟨r, rest, rfl, hw, hiff⟩ := hrel
    clear HW
    cases rest with
    | nil =>
      obtain rfl : r = -1 := hw
      have hm : q ∉ xs := fun e => by have := hiff.1 e; simp at this
      have HE : Hid ((jb && decide (q ∈ xs)) = false) := by show _ = _; simp [hm]
      clear hm hiff
      go_wp2_with fail
      go_ret
      exact ⟨ret_bool (unhide HE).symm, rfl⟩
    | cons m rest =>
      obtain ⟨rfl, mt, hmt, hge, hlt, hr⟩ := hw
      obtain ⟨ma, ml, mc, m0, m1, m2, _⟩ := (unhide HAT) m mt hmt
      have hml : m < its.length := (List.getElem?_eq_some_iff.1 hmt).1
      have k1 : (0 : Int) ≤ (m : Int) := by omega
      have k2 : (m : Int) < (len : Int) := by omega
      have dm : decide ((0 : Int) ≤ (m : Int)) = true := decide_eq_true k1
      by_cases e : m = q
      · subst e
        have hm : m ∈ xs := hiff.2 (by simp)
        have HE : Hid ((jb && decide (m ∈ xs)) = jb) := by show _ = _; cases jb <;> simp [hm]
        have hd : (((m : Nat) : Int) == ((m : Nat) : Int)) = true := by simp
        clear hm hiff hr hmt m0 m1 m2
        go_wp2_with fail
        go_ret
        exact ⟨ret_bool (unhide HE).symm, rfl⟩
      · have hd : (((m : Nat) : Int) == ((q : Nat) : Int)) = false := by simp; omega
        have HI : Hid (q ∈ xs ↔ q ∈ rest) := by
          show _ ↔ _
          rw [hiff]
          simp [show ¬ q = m from fun e' => e e'.symm]
        have HR := hide hr
        generalize mt.p = mp at m1 hge hlt HR
        clear hr hmt m0 m2 hiff
        go_wp2_with fail
        go_round
        case rel => exact ⟨mp, rest, rfl, unhide HR, unhide HI⟩
        case measure => simp [intOf]; omega

set_option maxHeartbeats 2000000 in
theorem l3Deep_any (a : Option Addr) (len cap : Nat) (its : List It) (k : Nat) (xs : List Nat) (w : World) (h : ItRow w a len its) (hl : len ≤ 1048576) (hkn : k < len) (hw : IsWay its (k : Int) xs) :
    Calls Try.prog 37 #[.slice a len cap, .int .i64 (k : Int)] w fun e w' => (∃ d : Int, e = .returned (.int .i64 d) ∧ (5 < d ↔ 5 < xs.length)) ∧ w' = w := by
  have hlen := h.1
  obtain ⟨b, off, rfl, hb, hat⟩ := h.at (by omega)
  have HAT := hide hat
  have HW := hide hw
  clear hat h hw
  go_enter Try.func37, Try.ntmps37
  go_wp2_with fail
  go_loop [1, 5] (fun p c => ∃ (r : Int) (rest : List Nat) (n : Nat), p = .int .i64 r ∧ c = .int .i64 (n : Int) ∧ IsWay its r rest ∧ n ≤ 100 ∧ n + rest.length = xs.length) (fun p _ => (intOf p + 1).toNat)
  case atStart => exact ⟨_, xs, 0, rfl, rfl, unhide HW, by omega, by simp⟩
  case round =>
    obtain ⟨r, rest, n, rfl, rfl, hw, hn, hsum⟩ := hrel
    clear HW
    cases rest with
    | nil =>
      obtain rfl : r = -1 := hw
      have hs : n = xs.length := by simpa using hsum
      have HS := hide hs
      clear hsum hs
      go_wp2_with fail
      go_ret
      exact ⟨⟨(n : Int), rfl, by have := unhide HS; omega⟩, rfl⟩
    | cons m rest =>
      obtain ⟨rfl, mt, hmt, hge, hlt, hr⟩ := hw
      obtain ⟨ma, ml, mc, m0, m1, m2, _⟩ := (unhide HAT) m mt hmt
      have hml : m < its.length := (List.getElem?_eq_some_iff.1 hmt).1
      have k1 : (0 : Int) ≤ (m : Int) := by omega
      have k2 : (m : Int) < (len : Int) := by omega
      have dm : decide ((0 : Int) ≤ (m : Int)) = true := decide_eq_true k1
      have hs : n + (rest.length + 1) = xs.length := by simpa using hsum
      by_cases e : n = 100
      · subst e
        have hd : decide (((100 : Nat) : Int) < 100) = false := rfl
        clear hsum hr hmt m0 m1 m2
        go_wp2_with fail
        go_ret
        exact ⟨⟨((100 : Nat) : Int), rfl, by omega⟩, rfl⟩
      · have hd : decide (((n : Nat) : Int) < 100) = true := decide_eq_true (by omega)
        have HR := hide hr
        generalize mt.p = mp at m1 hge hlt HR
        clear hr hmt m0 m2 hsum
        go_wp2_with fail
        go_round
        case rel => exact ⟨mp, rest, n + 1, rfl, by go_num, unhide HR, by omega, by omega⟩
        case measure => simp [intOf]; omega

end Go.Proofs.Ytpcokoejmodmaaa
