/- What is proved here: the contract of the laws' helper function szHeader: what it leaves is below 0, or the header is small. -/
import Derived.Test.YtlenpjbkbjdbeaaChecked
import Derived.Test.YtlenpjbkbjdbeaaBsS
import Derived.Test.YtlenpjbkbjdbeaaHdB
import Derived.WalkKit
import Derived.WalkLawsBesides
import Derived.WalkSmall
import Derived.Deep.DeepCutAuto
import Derived.KernelRfl
import Derived.WalkSpells
namespace Go.Proofs.Ytlenpjbkbjdbeaa
open Go.RowKit
set_option linter.unusedVariables false

theorem szB1_to (a : Option Addr) (n cap : Nat) (left L : Int) (w : World) (h0 : 0 ≤ left) (h1 : left ≤ 1099511627776) (hn : n ≤ maxLen) (e : L = if left - n < 0 then -1 else left - n) :
    Calls Try.prog 16 #[.slice a n cap, .int .i64 left] w fun e w' => e = .returned (.int .i64 L) ∧ w' = w := by
  subst e; exact szB1_any a n cap left w h0 h1 hn

theorem szBss_to (a : Option Addr) (len cap : Nat) (zss : List (List Int)) (left L : Int) (w : World) (h : BsRow w a len zss) (hl : len ≤ maxLen) (h0 : 0 ≤ left) (h1 : left ≤ 1099511627776) (e : L = szBss left zss) :
    Calls Try.prog 17 #[.slice a len cap, .int .i64 left] w fun e w' => e = .returned (.int .i64 L) ∧ w' = w := by
  subst e; exact szByteSS_any a len cap zss left w h hl h0 h1

/-- All bytes of some slices, and of a header. -/
def bsum (zss : List (List Int)) : Nat := (zss.map List.length).sum

theorem szBs_eq (zss : List (List Int)) : ∀ left, 0 ≤ szBs left zss → szBs left zss = left - bsum zss := by
  induction zss with
  | nil => intro left _; simp [szBs, bsum]
  | cons z r ih =>
    intro left h
    unfold szBs at h ⊢
    split at h
    · omega
    · rename_i hn
      rw [if_neg hn, ih _ h]
      simp [bsum]
      omega

theorem szBss_eq {left : Int} {zss : List (List Int)} (h : 0 ≤ szBss left zss) : szBss left zss = left - zss.length - bsum zss := by
  unfold szBss at h ⊢
  split at h
  · omega
  · rename_i hn
    rw [if_neg hn]
    exact szBs_eq zss _ h

def hTot (h : Hd) : Nat := h.p.length + h.t.length + bsum h.s + h.r.length + h.g.length + h.e.length + bsum h.k

set_option maxHeartbeats 4000000 in
theorem szHeader_tot (x : HS) (h : Hd) (L0 : Int) (w : World) (o : HOk w x h) (m : HMax x maxLen) (h0 : 0 ≤ L0) (h1 : L0 ≤ 1048576) :
    Calls Try.prog 5 #[.agg (hvals x h), .int .i64 L0] w fun e w' => (∃ r : Int, e = .returned (.int .i64 r) ∧ -1 ≤ r ∧ r ≤ L0 ∧ (0 ≤ r → HSm h ∧ (hTot h : Int) ≤ L0)) ∧ Below w.heap.size w w' := by
  have HB := hide (below_alloc w (.cells (hvals x h) 25))
  have HO := hide (fun (W : World) (hb : Below w.heap.size w W) => o.below hb (Nat.le_refl _))
  have HN := hide o
  unfold hvals at HB ⊢
  clear o
  go_enter Try.func5, Try.ntmps5
  obtain ⟨L1, e1⟩ : ∃ L : Int, L = if L0 - x.p.n < 0 then -1 else L0 - x.p.n := ⟨_, rfl⟩
  have C1 := hide (fun (W : World) (hb : Below w.heap.size w W) => szB1_to x.p.a x.p.n x.p.c L0 L1 W (by omega) (by omega) m.p e1)
  have E1 := hide e1
  clear e1
  go_wp2_with fail
  refine ((unhide C1) _ (unhide HB)).mono ?_
  rintro e w' ⟨rfl, rfl⟩
  clear C1
  by_cases t1 : L1 < 0
  · have d : decide (L1 < 0) = true := decide_eq_true t1
    go_wp2_with fail
    go_ret
    exact ⟨⟨-1, rfl, by omega, by omega, fun hh => by omega⟩, unhide HB⟩
  have d1 : decide (L1 < 0) = false := decide_eq_false t1
  have G1 : Hid (L1 = L0 - x.p.n) := by
    show _ = _
    have := unhide E1
    split at this <;> omega
  have f1 : (x.p.n : Int) ≤ 1048576 ∧ L1 ≤ L0 := by
    have := unhide E1
    split at this <;> omega
  clear E1
  obtain ⟨L2, e2⟩ : ∃ L : Int, L = if L1 - x.t.n < 0 then -1 else L1 - x.t.n := ⟨_, rfl⟩
  have C2 := hide (fun (W : World) (hb : Below w.heap.size w W) => szB1_to x.t.a x.t.n x.t.c L1 L2 W (by omega) (by omega) m.t e2)
  have E2 := hide e2
  clear e2
  go_wp2_with fail
  refine ((unhide C2) _ (unhide HB)).mono ?_
  rintro e w' ⟨rfl, rfl⟩
  clear C2
  by_cases t2 : L2 < 0
  · have d : decide (L2 < 0) = true := decide_eq_true t2
    go_wp2_with fail
    go_ret
    exact ⟨⟨-1, rfl, by omega, by omega, fun hh => by omega⟩, unhide HB⟩
  have d2 : decide (L2 < 0) = false := decide_eq_false t2
  have G2 : Hid (L2 = L1 - x.t.n) := by
    show _ = _
    have := unhide E2
    split at this <;> omega
  have f2 : (x.t.n : Int) ≤ 1048576 ∧ L2 ≤ L1 := by
    have := unhide E2
    split at this <;> omega
  clear E2
  obtain ⟨L3, e3⟩ : ∃ L : Int, L = szBss L2 h.s := ⟨_, rfl⟩
  have C3 := hide (fun (W : World) (hb : Below w.heap.size w W) => szBss_to x.s.a x.s.n x.s.c h.s L2 L3 W ((unhide HO) W hb).s m.s (by omega) (by omega) e3)
  have E3 := hide e3
  clear e3
  go_wp2_with fail
  refine ((unhide C3) _ (unhide HB)).mono ?_
  rintro e w' ⟨rfl, rfl⟩
  clear C3
  by_cases t3 : L3 < 0
  · have d : decide (L3 < 0) = true := decide_eq_true t3
    go_wp2_with fail
    go_ret
    exact ⟨⟨-1, rfl, by omega, by omega, fun hh => by omega⟩, unhide HB⟩
  have d3 : decide (L3 < 0) = false := decide_eq_false t3
  have f3 : L3 ≤ L2 := by rw [unhide E3]; exact szBss_le _ (by omega)
  have F3 := hide (szBss_ok (left := L2) (zss := h.s) (by rw [← unhide E3]; omega))
  have G3 : Hid (L3 = L2 - h.s.length - bsum h.s) := by show _ = _; rw [unhide E3]; exact szBss_eq (by rw [← unhide E3]; omega)
  clear E3
  obtain ⟨L4, e4⟩ : ∃ L : Int, L = if L3 - x.r.n < 0 then -1 else L3 - x.r.n := ⟨_, rfl⟩
  have C4 := hide (fun (W : World) (hb : Below w.heap.size w W) => szB1_to x.r.a x.r.n x.r.c L3 L4 W (by omega) (by omega) m.r e4)
  have E4 := hide e4
  clear e4
  go_wp2_with fail
  refine ((unhide C4) _ (unhide HB)).mono ?_
  rintro e w' ⟨rfl, rfl⟩
  clear C4
  by_cases t4 : L4 < 0
  · have d : decide (L4 < 0) = true := decide_eq_true t4
    go_wp2_with fail
    go_ret
    exact ⟨⟨-1, rfl, by omega, by omega, fun hh => by omega⟩, unhide HB⟩
  have d4 : decide (L4 < 0) = false := decide_eq_false t4
  have G4 : Hid (L4 = L3 - x.r.n) := by
    show _ = _
    have := unhide E4
    split at this <;> omega
  have f4 : (x.r.n : Int) ≤ 1048576 ∧ L4 ≤ L3 := by
    have := unhide E4
    split at this <;> omega
  clear E4
  obtain ⟨L5, e5⟩ : ∃ L : Int, L = if L4 - x.g.n < 0 then -1 else L4 - x.g.n := ⟨_, rfl⟩
  have C5 := hide (fun (W : World) (hb : Below w.heap.size w W) => szB1_to x.g.a x.g.n x.g.c L4 L5 W (by omega) (by omega) m.g e5)
  have E5 := hide e5
  clear e5
  go_wp2_with fail
  refine ((unhide C5) _ (unhide HB)).mono ?_
  rintro e w' ⟨rfl, rfl⟩
  clear C5
  by_cases t5 : L5 < 0
  · have d : decide (L5 < 0) = true := decide_eq_true t5
    go_wp2_with fail
    go_ret
    exact ⟨⟨-1, rfl, by omega, by omega, fun hh => by omega⟩, unhide HB⟩
  have d5 : decide (L5 < 0) = false := decide_eq_false t5
  have G5 : Hid (L5 = L4 - x.g.n) := by
    show _ = _
    have := unhide E5
    split at this <;> omega
  have f5 : (x.g.n : Int) ≤ 1048576 ∧ L5 ≤ L4 := by
    have := unhide E5
    split at this <;> omega
  clear E5
  obtain ⟨L6, e6⟩ : ∃ L : Int, L = if L5 - x.e.n < 0 then -1 else L5 - x.e.n := ⟨_, rfl⟩
  have C6 := hide (fun (W : World) (hb : Below w.heap.size w W) => szB1_to x.e.a x.e.n x.e.c L5 L6 W (by omega) (by omega) m.e e6)
  have E6 := hide e6
  clear e6
  go_wp2_with fail
  refine ((unhide C6) _ (unhide HB)).mono ?_
  rintro e w' ⟨rfl, rfl⟩
  clear C6
  by_cases t6 : L6 < 0
  · have d : decide (L6 < 0) = true := decide_eq_true t6
    go_wp2_with fail
    go_ret
    exact ⟨⟨-1, rfl, by omega, by omega, fun hh => by omega⟩, unhide HB⟩
  have d6 : decide (L6 < 0) = false := decide_eq_false t6
  have G6 : Hid (L6 = L5 - x.e.n) := by
    show _ = _
    have := unhide E6
    split at this <;> omega
  have f6 : (x.e.n : Int) ≤ 1048576 ∧ L6 ≤ L5 := by
    have := unhide E6
    split at this <;> omega
  clear E6
  obtain ⟨L7, e7⟩ : ∃ L : Int, L = szBss L6 h.k := ⟨_, rfl⟩
  have C7 := hide (fun (W : World) (hb : Below w.heap.size w W) => szBss_to x.k.a x.k.n x.k.c h.k L6 L7 W ((unhide HO) W hb).k m.k (by omega) (by omega) e7)
  have E7 := hide e7
  clear e7
  go_wp2_with fail
  refine ((unhide C7) _ (unhide HB)).mono ?_
  rintro e w' ⟨rfl, rfl⟩
  clear C7
  by_cases t7 : L7 < 0
  · have d : decide (L7 < 0) = true := decide_eq_true t7
    go_wp2_with fail
    go_ret
    exact ⟨⟨-1, rfl, by omega, by omega, fun hh => by omega⟩, unhide HB⟩
  have d7 : decide (L7 < 0) = false := decide_eq_false t7
  have f7 : L7 ≤ L6 := by rw [unhide E7]; exact szBss_le _ (by omega)
  have F7 := hide (szBss_ok (left := L6) (zss := h.k) (by rw [← unhide E7]; omega))
  have G7 : Hid (L7 = L6 - h.k.length - bsum h.k) := by show _ = _; rw [unhide E7]; exact szBss_eq (by rw [← unhide E7]; omega)
  clear E7
  go_wp2_with fail
  go_ret
  refine ⟨⟨L7, rfl, by omega, by omega, fun _ => ?_⟩, unhide HB⟩
  have o := unhide HN
  obtain ⟨u3, v3⟩ := unhide F3
  obtain ⟨u7, v7⟩ := unhide F7
  refine ⟨?_, by have q1 := o.p.1; have e1 := unhide G1; have e2 := unhide G2; have e3 := unhide G3; have e4 := unhide G4; have e5 := unhide G5; have e6 := unhide G6; have e7 := unhide G7; have q2 := o.t.1; have q3 := o.r.1; have q4 := o.g.1; have q5 := o.e.1; unfold hTot; omega⟩
  exact ⟨by rw [o.p.1]; omega, by rw [o.t.1]; omega, by omega, fun z hz => by have := v3 z hz; omega, by rw [o.r.1]; omega, by rw [o.g.1]; omega, by rw [o.e.1]; omega, by omega, fun z hz => by have := v7 z hz; omega⟩

theorem szHeader_any (x : HS) (h : Hd) (L0 : Int) (w : World) (o : HOk w x h) (m : HMax x maxLen) (h0 : 0 ≤ L0) (h1 : L0 ≤ 1048576) :
    Calls Try.prog 5 #[.agg (hvals x h), .int .i64 L0] w fun e w' => (∃ r : Int, e = .returned (.int .i64 r) ∧ -1 ≤ r ∧ r ≤ L0 ∧ (0 ≤ r → HSm h)) ∧ Below w.heap.size w w' :=
  (szHeader_tot x h L0 w o m h0 h1).mono fun e w' ⟨⟨r, a, b, c, d⟩, k⟩ => ⟨⟨r, a, b, c, fun z => (d z).1⟩, k⟩

end Go.Proofs.Ytlenpjbkbjdbeaa
