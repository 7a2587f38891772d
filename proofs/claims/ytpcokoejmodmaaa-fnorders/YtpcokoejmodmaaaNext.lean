/- What is proved here: the model's source of small numbers gives a number below its bound, and moves on by one. -/
import Derived.Test.YtpcokoejmodmaaaChecked
import Derived.Test.YtpcokoejmodmaaaBase
import Derived.Test.YtpcokoejmodmaaaInfo
import Derived.WalkKit
import Derived.WalkLawsBesides
import Derived.WalkSmall
import Derived.WalkSpells
import Derived.BigQuiet
import Derived.Deep.QuietTactic
import Derived.KernelRfl
namespace Go.Proofs.Ytpcokoejmodmaaa
open Go.RowKit
set_option linter.unusedVariables false

/-- The source lies in block b: its bytes, and where it reads next. -/
def Src (w : World) (b : Nat) (a : Option Addr) (len cap : Nat) (t : Int) : Prop := w.heap[b]? = some (.cells #[.slice a len cap, .int .i64 t] 61 (0, 0))

theorem Src.step {w : World} {b : Nat} {a : Option Addr} {len cap : Nat} {t : Int} (h : Src w b a len cap t) (u : Int) : Src (w.setCell ⟨b, 1, none⟩ (.int .i64 u)) b a len cap u :=
  heap_setCell_same w b 1 _ _ _ h

theorem grown_store (w : World) (b : Nat) (u : Value) : w.grownBy (w.setCell ⟨b, 1, none⟩ u) (some b) :=
  ⟨rfl, rfl, rfl, by simp [World.setCell], fun k _ hk => heap_setCell_other w ⟨b, 1, none⟩ k u (fun e => hk (by simp [e]))⟩

set_option maxHeartbeats 1000000 in
theorem l1Next_zero (b : Nat) (a : Option Addr) (cap : Nat) (t n : Int) (w : World) (h : Src w b a 0 cap t) (ht : 0 ≤ t) (ht2 : t ≤ 1000000) (hn : 1 ≤ n) (hn2 : n ≤ 1048576) :
    Calls Try.prog 17 #[.pointer (some ⟨b, 0, none⟩), .int .i64 n] w fun e w' => (∃ v, e = .returned (.int .i64 v) ∧ 0 ≤ v ∧ v < n) ∧ Src w' b a 0 cap (t + 1) ∧ w.grownBy w' (some b) := by
  obtain ⟨q0, q1, f0, f1⟩ := res_facts h
  have hs := h.step (t + 1)
  obtain ⟨r0, r1, _, _⟩ := res_facts hs
  have HS := hide hs
  have HG := hide (grown_store w b (.int .i64 (t + 1)))
  clear h hs
  have hne : ¬ n < 1 := by omega
  go_enter Try.func17, Try.ntmps17
  go_wp2_with fail
  go_ret
  refine ⟨⟨t * 7 % n, rfl, ?_, ?_⟩, unhide HS, unhide HG⟩
  · exact Int.emod_nonneg _ (by omega)
  · exact Int.emod_lt_of_pos _ (by omega)

theorem i64_in (n : Int) (h0 : 0 ≤ n) (h1 : n ≤ 4611686018427387904) : IntKind.i64.wrap n = n := by
  rw [IntKind.wrap_i64]; omega

set_option maxHeartbeats 1000000 in
theorem l1Next_pos (b bo off : Nat) (len cap : Nat) (xs : List Int) (t n : Int) (w : World) (h : Src w b (some ⟨bo, off, none⟩) len cap t) (hrow : BRow w (some ⟨bo, off, none⟩) len xs) (hbo : bo ≠ b) (hp : 0 < len) (hl : len ≤ 1048576) (ht : 0 ≤ t) (ht2 : t ≤ 1000000) (hn : 1 ≤ n) (hn2 : n ≤ 1048576) :
    Calls Try.prog 17 #[.pointer (some ⟨b, 0, none⟩), .int .i64 n] w fun e w' => (∃ v, e = .returned (.int .i64 v) ∧ 0 ≤ v ∧ v < n) ∧ Src w' b (some ⟨bo, off, none⟩) len cap (t + 1) ∧ w.grownBy w' (some b) := by
  obtain ⟨q0, q1, f0, f1⟩ := res_facts h
  have hs := h.step (t + 1)
  obtain ⟨r0, r1, _, _⟩ := res_facts hs
  have HS := hide hs
  have HG := hide (grown_store w b (.int .i64 (t + 1)))
  have hrow2 : BRow (w.setCell ⟨b, 1, none⟩ (.int .i64 (t + 1))) (some ⟨bo, off, none⟩) len xs := by
    refine ⟨hrow.1, hrow.2.1, fun e => (by cases e), fun x hx i hi => ?_⟩
    have hc := hrow.2.2.2 x hx i hi
    cases hx
    rw [add_none] at hc ⊢
    exact (grown_store w b (.int .i64 (t + 1))).cell hc (by simpa using hbo)
  have hlen0 : ((len : Int) == 0) = false := by rw [beq_eq_false_iff_ne]; omega
  clear h hs
  generalize hw2 : w.setCell ⟨b, 1, none⟩ (.int .i64 (t + 1)) = w2 at HS HG hrow2 r0 r1
  go_enter Try.func17, Try.ntmps17
  go_wp2_with fail
  have ht0 : 0 ≤ t % (len : Int) := Int.emod_nonneg _ (by omega)
  have ht1 : t % (len : Int) < (len : Int) := Int.emod_lt_of_pos _ (by omega)
  have hq0 : 0 ≤ t / (len : Int) := Int.ediv_nonneg ht (by omega)
  have hq1 : t / (len : Int) ≤ t := Int.ediv_le_self _ ht
  have e1 : t.tmod (len : Int) = t % (len : Int) := Int.tmod_eq_emod_of_nonneg ht
  have e2 : IntKind.i64.wrap (t.tdiv (len : Int)) = t / (len : Int) := by rw [Int.tdiv_eq_ediv_of_nonneg ht]; exact i64_in _ hq0 (by omega)
  obtain ⟨i, hi⟩ := Int.eq_ofNat_of_zero_le ht0
  rw [hi] at e1 ht1
  generalize t / (len : Int) = q at hq0 hq1 e2
  have hci := hrow2.2.2.2 _ rfl i (by omega)
  rw [add_none] at hci
  have hx := hrow2.2.1 (xs.getD i 0) (by rw [getD_at _ _ (by have := hrow2.1; omega)]; exact List.getElem_mem _)
  generalize xs.getD i 0 = x at hci hx
  have e3 := i64_in (q * 37) (by omega) (by omega)
  have e4 := i64_in (x + q * 37) (by omega) (by omega)
  have e5 := i64_in x (by omega) (by omega)
  have i1 : (0 : Int) ≤ (i : Int) := by omega
  have HI := hide hi
  have HW := hide hw2
  clear hi hw2 ht0 hrow
  by_cases hbig : n ≤ 200
  · go_quiet (fail)
    go_wp2_with fail
    go_ret
    refine ⟨⟨(x + q * 37) % n, rfl, Int.emod_nonneg _ (by omega), Int.emod_lt_of_pos _ (by omega)⟩, unhide HS, ?_⟩
    exact ⟨(unhide HG).os, (unhide HG).tape, (unhide HG).output, (unhide HG).size, (unhide HG).block⟩
  · have hu0 : 0 ≤ (t + 1) % (len : Int) := Int.emod_nonneg _ (by omega)
    have hu1 : (t + 1) % (len : Int) < (len : Int) := Int.emod_lt_of_pos _ (by omega)
    have g1 : (t + 1).tmod (len : Int) = (t + 1) % (len : Int) := Int.tmod_eq_emod_of_nonneg (by omega)
    obtain ⟨m, hm⟩ := Int.eq_ofNat_of_zero_le hu0
    rw [hm] at g1 hu1
    have hcm := hrow2.2.2.2 _ rfl m (by omega)
    rw [add_none] at hcm
    have hy := hrow2.2.1 (xs.getD m 0) (by rw [getD_at _ _ (by have := hrow2.1; omega)]; exact List.getElem_mem _)
    generalize xs.getD m 0 = y at hcm hy
    have g2 := i64_in (t + 1) (by omega) (by omega)
    have g3 := i64_in ((x + q * 37) * 251) (by omega) (by omega)
    have g4 := i64_in (y * 13) (by omega) (by omega)
    have g5 := i64_in ((x + q * 37) * 251 + y * 13) (by omega) (by omega)
    have g6 := i64_in ((x + q * 37) * 251 + y * 13 + t) (by omega) (by omega)
    have g7 := i64_in y (by omega) (by omega)
    have m1 : (0 : Int) ≤ (m : Int) := by omega
    have HM := hide hm
    clear hm hu0
    go_quiet (fail)
    go_wp2_with fail
    go_quiet (fail)
    go_wp2_with fail
    go_ret
    refine ⟨⟨_, rfl, Int.emod_nonneg _ (by omega), Int.emod_lt_of_pos _ (by omega)⟩, unhide HS, ?_⟩
    exact ⟨(unhide HG).os, (unhide HG).tape, (unhide HG).output, (unhide HG).size, (unhide HG).block⟩

end Go.Proofs.Ytpcokoejmodmaaa
