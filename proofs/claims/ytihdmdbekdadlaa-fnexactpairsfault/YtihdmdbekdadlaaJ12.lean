/- What is proved here: what the model's PairsFault answers. -/
import Derived.Test.YtihdmdbekdadlaaChecked
import Derived.Test.YtihdmdbekdadlaaJ11
import Derived.Test.YtihdmdbekdadlaaJ6
import Derived.WalkKit
import Derived.WalkLawsBesides
import Derived.WalkSmall
import Derived.BigQuiet
import Derived.Deep.QuietTactic
import Derived.KernelRfl
import Derived.WalkSpells
import Derived.Test.YtihdmdbekdadlaaJ2
namespace Go.Proofs.Ytihdmdbekdadlaa
open Go.RowKit
set_option linter.unusedVariables false
set_option maxRecDepth 100000

/-- The cells of one pair of a row. -/
theorem pr_at {w : World} {s : Sl} {xs : List Pr} (o : RowOk prK w s xs) (hp : 0 < s.n) : ∃ b off, s.a = some ⟨b, off, none⟩ ∧ b < w.heap.size ∧ ∀ (i : Nat) (x : Pr), xs[i]? = some x → ∃ (s0 s1 : Sl), w.cell? ⟨b, off + i * 2, none⟩ = some (.slice s0.a s0.n s0.c) ∧ w.cell? ⟨b, off + i * 2 + 1, none⟩ = some (.slice s1.a s1.n s1.c) ∧ BOk w s0 x.1 ∧ BOk w s1 x.2 := by
  obtain ⟨b, off, ha, hb, hx⟩ := o.pos hp
  refine ⟨b, off, ha, hb, fun i x hi => ?_⟩
  obtain ⟨⟨s0, s1⟩, hc, h0, h1⟩ := hx i x hi
  have c0 := hc 0 _ rfl
  have c1 := hc 1 _ rfl
  simp only [Nat.add_zero, show prK.m = 2 from rfl] at c0 c1
  exact ⟨s0, s1, c0, c1, h0, h1⟩

set_option maxHeartbeats 4000000 in
theorem l13Fault_any (s : Sl) (xs : List Pr) (w : World) (o : RowOk prK w s xs) (hl : s.n ≤ 1048576) :
    Calls Try.prog 48 #[.slice s.a s.n s.c] w fun e w' => e = .returned (.int .i64 (prFlt xs)) ∧ Below w.heap.size w w' := by
  have hlen := o.len
  by_cases hm : 12 < s.n
  · have e1 : prFlt xs = 2 := if_pos (by omega)
    rw [e1]
    clear o e1
    go_enter Try.func48, Try.ntmps48
    go_wp2_with fail
    go_ret
    exact ⟨rfl, Below.refl _ _⟩
  · have e1 : prFlt xs = prFrom xs (xs.drop 0) 0 := by unfold prFlt; rw [if_neg (by omega)]; rfl
    rcases Nat.eq_zero_or_pos s.n with h0 | hp
    · have e2 : prFlt xs = 0 := by rw [e1]; exact prFrom_end xs 0 (by omega)
      rw [e2, h0]
      clear e1 e2 o
      go_enter Try.func48, Try.ntmps48
      go_wp2_with fail
      refine wp_loop_rounds 1 ?_
      rw [rounds_succ]
      go_wp2_with fail
      go_ret
      exact ⟨rfl, Below.refl _ _⟩
    · obtain ⟨b, off, ha, hb, hat⟩ := pr_at o hp
      obtain ⟨F, hF⟩ : ∃ F, F = prFlt xs := ⟨_, rfl⟩
      rw [← hF] at e1
      rw [← hF, ha]
      have HF := hide e1
      have HAT := hide hat
      have HL := hide hlen
      generalize s.n = n at *
      generalize s.c = c at *
      clear e1 o hlen hF hat ha
      go_enter Try.func48, Try.ntmps48
      go_wp2_with fail
      go_loopw [3] (fun iv wr => ∃ (i m : Nat), i ≤ n ∧ iv = .int .i64 i ∧ F = prFrom xs (xs.drop i) i ∧ Below w.heap.size w wr) (fun iv _ => n - (intOf iv).toNat)
      case atStart => exact ⟨0, 0, Nat.zero_le _, rfl, unhide HF, Below.refl _ _⟩
      case round =>
        obtain ⟨i, m, hi, rfl, hFi, hbel⟩ := hrel
        clear HF
        by_cases hlt : i < n
        · obtain ⟨x, hx⟩ : ∃ x, xs[i]? = some x := ⟨_, List.getElem?_eq_getElem (by have := unhide HL; omega)⟩
          rw [prFrom_step xs i x hx] at hFi
          obtain ⟨s0, s1, c0', c1', k0, k1⟩ := (unhide HAT) i x hx
          have c0 := (hbel.cell (by exact hb)).trans c0'
          have c1 := (hbel.cell (by exact hb)).trans c1'
          have hl0 := k0.row.1
          have hl1 := k1.row.1
          have i1 : (0 : Int) ≤ (i : Int) := by omega
          have i2 : (i : Int) < (n : Int) := by omega
          have HR0 := hide k0.row
          have c0w := c0'
          have HX := hide hx
          by_cases b1 : 6 < s0.n
          · have q1 : decide ((s0.n : Int) > 6) = true := decide_eq_true (by omega)
            have q2 : decide ((6 : Int) < (s0.n : Int)) = true := decide_eq_true (by omega)
            rw [if_pos (by unfold prBad; rw [decide_eq_true (by omega : 6 < x.1.length)]; simp)] at hFi
            subst hFi
            clear HAT k0 k1 hl0 hl1 hx
            go_wp2_with fail
            go_ret
            exact ⟨rfl, hbel⟩
          · have q2 : decide ((6 : Int) < (s0.n : Int)) = false := decide_eq_false (by omega)
            by_cases b2 : s1.n < 1
            · have q3 : decide ((s1.n : Int) < 1) = true := decide_eq_true (by omega)
              have q4 : s1.n = 0 := by omega
              rw [if_pos (by unfold prBad; rw [decide_eq_true (by omega : x.2.length < 1)]; simp)] at hFi
              subst hFi
              clear HAT k0 k1 hl0 hl1 hx
              go_wp2_with fail
              go_ret
              exact ⟨rfl, hbel⟩
            · have q3 : decide ((s1.n : Int) < 1) = false := decide_eq_false (by omega)
              have q4 : ¬ (s1.n : Int) < 1 := by omega
              have q5 : ¬ s1.n = 0 := by omega
              by_cases b3 : 60 < s1.n
              · have q6 : decide ((60 : Int) < (s1.n : Int)) = true := decide_eq_true (by omega)
                rw [if_pos (by unfold prBad; rw [decide_eq_true (by omega : 60 < x.2.length)]; simp)] at hFi
                subst hFi
                clear HAT k0 k1 hl0 hl1 hx
                go_wp2_with fail
                go_ret
                exact ⟨rfl, hbel⟩
              · have q6 : decide ((60 : Int) < (s1.n : Int)) = false := decide_eq_false (by omega)
                rw [if_neg (by unfold prBad; rw [decide_eq_false (by omega : ¬ 6 < x.1.length), decide_eq_false (by omega : ¬ x.2.length < 1), decide_eq_false (by omega : ¬ 60 < x.2.length)]; decide)] at hFi
                have HFI := hide hFi
                clear hFi k1 hl0 hl1 hx k0
                go_wp2_with fail
                go_loopw [4] (fun kv wr => ∃ (k m : Nat), k ≤ i ∧ kv = .int .i64 k ∧ (∀ j y, j < k → xs[j]? = some y → y.1 ≠ x.1) ∧ Below w.heap.size w wr) (fun kv _ => i - (intOf kv).toNat)
                case atStart => exact ⟨0, 0, Nat.zero_le _, rfl, fun j y hj => absurd hj (Nat.not_lt_zero _), hbel⟩
                case round =>
                  obtain ⟨k, m2, hk, rfl, hno, hbr⟩ := hrel
                  by_cases hki : k < i
                  · obtain ⟨y, hy⟩ : ∃ y, xs[k]? = some y := ⟨_, List.getElem?_eq_getElem (by have := unhide HL; omega)⟩
                    obtain ⟨t0, t1, d0, d1, j0, j1⟩ := (unhide HAT) k y hy
                    have d0 := (hbr.cell (by exact hb)).trans d0
                    have c0 := (hbr.cell (by exact hb)).trans c0w
                    have hsm := strEq_dec j0.row.2.1 (unhide HR0).2.1
                    have HSM := hide (fun (m : Nat) => l1SameP_any t0.a s0.a t0.n t0.c s0.n s0.c y.1 x.1 (wr.drewN m) (j0.row.below (below_drewN hbr m) (Nat.le_refl _)) ((unhide HR0).below (below_drewN hbr m) (Nat.le_refl _)))
                    rw [hsm] at HSM
                    have HY := hide hy
                    have HNO := hide hno
                    have z1 : (0 : Int) ≤ (k : Int) := by omega
                    have z2 : (k : Int) < (i : Int) := by omega
                    have z3 : (k : Int) < (n : Int) := by omega
                    clear hsm hy hno j0 j1
                    by_cases hsame : y.1 = x.1
                    · have hF6 : F = 6 := by rw [unhide HFI, if_pos (any_yes hki (unhide HY) hsame)]
                      subst hF6
                      rw [decide_eq_true hsame] at HSM
                      clear hsame
                      go_wp2_with fail
                      go_quiet ((go_at_call 61; exact Calls.quiet_of_same ((unhide HSM) _)))
                      go_wp2_with fail
                      go_ret
                      exact ⟨rfl, below_drewN hbr _⟩
                    · rw [decide_eq_false hsame] at HSM
                      have HS := hide hsame
                      clear hsame
                      go_wp2_with fail
                      go_quiet ((go_at_call 61; exact Calls.quiet_of_same ((unhide HSM) _)))
                      go_wp2_with fail
                      go_roundw
                      case rel =>
                        refine ⟨k + 1, 0, by omega, by go_num, fun j z hj hz => ?_, below_drewN hbr _⟩
                        by_cases e : j = k
                        · subst e
                          obtain rfl : y = z := Option.some.inj ((unhide HY).symm.trans hz)
                          exact unhide HS
                        · exact (unhide HNO) j z (by omega) hz
                      case measure => simp [intOf]; omega
                  · obtain rfl : k = i := by omega
                    have hF0 : F = prFrom xs (xs.drop (k + 1)) (k + 1) := by rw [unhide HFI, if_neg (by rw [any_no hno]; decide)]
                    have HF0 := hide hF0
                    clear hno hF0
                    go_wp2_with fail
                    go_roundw
                    case rel => exact ⟨k + 1, 0, by omega, by go_num, unhide HF0, hbr⟩
                    case measure => simp [intOf]; omega
        · obtain rfl : i = n := by omega
          rw [prFrom_end xs i (by have := unhide HL; omega)] at hFi
          subst hFi
          go_wp2_with fail
          go_ret
          exact ⟨rfl, hbel⟩

theorem specPairs_any (s : Sl) (xs : List Pr) (w : World) (h : Calls Try.prog 48 #[.slice s.a s.n s.c] w fun e w' => e = .returned (.int .i64 (prFlt xs)) ∧ Below w.heap.size w w') :
    Calls Try.prog 17 #[.slice s.a s.n s.c] w fun e w' => e = .returned (.int .i64 (prFlt xs)) ∧ Below w.heap.size w w' := by
  have H := hide h
  clear h
  go_enter Try.func17, Try.ntmps17
  go_wp2_with fail
  refine (unhide H).mono ?_
  rintro e w1 ⟨rfl, b1⟩
  go_wp2_with fail
  go_ret
  exact ⟨rfl, b1⟩

end Go.Proofs.Ytihdmdbekdadlaa

/- What is proved here: what the program's PairsFault answers, and what it calls. -/
namespace Go.Proofs.Ytihdmdbekdadlaa
open Go.RowKit
set_option linter.unusedVariables false
set_option maxRecDepth 100000
set_option linter.unusedSimpArgs false

theorem isKey_any (a : Option Addr) (n c : Nat) (w : World) : Calls Try.prog 50 #[.slice a n c] w fun e w' => e = .returned (.bool (decide (n ≤ 6))) ∧ w' = w := by
  by_cases h : n ≤ 6
  · have h1 : decide ((n : Int) ≤ 6) = true := decide_eq_true (by omega)
    rw [decide_eq_true h]
    go_enter Try.func50, Try.ntmps50
    go_wp2_with fail
    go_ret
    exact ⟨ret_bool (by simp), rfl⟩
  · have h1 : decide ((n : Int) ≤ 6) = false := decide_eq_false (by omega)
    rw [decide_eq_false h]
    go_enter Try.func50, Try.ntmps50
    go_wp2_with fail
    go_ret
    exact ⟨ret_bool (by simp), rfl⟩

theorem isValue_any (a : Option Addr) (n c : Nat) (w : World) (hn : n ≤ 1048576) : Calls Try.prog 51 #[.slice a n c] w fun e w' => e = .returned (.bool (decide (1 ≤ n ∧ n ≤ 60))) ∧ w' = w := by
  have h1 : decide (1 ≤ (n : Int) ∧ (n : Int) ≤ 60) = decide (1 ≤ n ∧ n ≤ 60) := by by_cases h : 1 ≤ n ∧ n ≤ 60 <;> simp [h] <;> omega
  have HW := hide (withinH_any (n : Int) 1 60 w)
  rw [h1] at HW
  go_enter Try.func51, Try.ntmps51
  go_wp2_with fail
  refine (unhide HW).mono ?_
  rintro e w1 ⟨rfl, rfl⟩
  go_wp2_with fail
  go_ret
  exact ⟨ret_bool (by simp), rfl⟩

set_option maxHeartbeats 1000000 in
theorem hk1_any (s0 s1 : Sl) (y : Pr) (B : Nat) (ka : Option Addr) (kn kc : Nat) (z : List Int) (w : World) (o : BOk w s0 y.1) (hk : BRow w ka kn z) (hB : w.cell? ⟨B, 0, none⟩ = some (.slice ka kn kc)) :
    Calls Try.prog 63 #[.agg #[.slice s0.a s0.n s0.c, .slice s1.a s1.n s1.c], .pointer (some ⟨B, 0, none⟩)] w fun e w' => e = .returned (.bool (decide (y.1 = z))) ∧ Below w.heap.size w w' := by
  have hsm := strEq_dec o.row.2.1 hk.2.1
  have HSM := hide (fun (W : World) (hb : Below w.heap.size w W) => implSame_any s0.a ka s0.n s0.c kn kc y.1 z W (o.row.below hb (Nat.le_refl _)) (hk.below hb (Nat.le_refl _)))
  rw [hsm] at HSM
  have hBl := lt_of_cell hB
  have HB := hide (below_alloc w (.cells #[.slice s0.a s0.n s0.c, .slice s1.a s1.n s1.c] 69))
  have hB2 := ((unhide HB).cell hBl).trans hB
  obtain ⟨W, e0⟩ : ∃ W, w.alloc (.cells #[.slice s0.a s0.n s0.c, .slice s1.a s1.n s1.c] 69) = W := ⟨_, rfl⟩
  have p0 : W.cell? ⟨w.heap.size, 0, none⟩ = some (.slice s0.a s0.n s0.c) := by rw [← e0]; simp
  rw [e0] at HB hB2
  have E0 := hide e0
  clear hsm o hk hB e0
  go_enter Try.func63, Try.ntmps63
  go_wp2_with (rw [unhide E0])
  refine ((unhide HSM) W (unhide HB)).mono ?_
  rintro e w1 ⟨rfl, rfl⟩
  go_wp2_with fail
  go_ret
  exact ⟨rfl, unhide HB⟩

theorem RowOk.takeP {α β : Type} {K : Kd α β} {w : World} {s : Sl} {xs : List α} (h : RowOk K w s xs) {k : Nat} (hk : k ≤ s.n) : RowOk K w ⟨s.a, k, s.c⟩ (xs.take k) := by
  refine ⟨by have := h.len; simp; omega, Nat.le_trans hk h.room, h.max, h.nil, fun hp => ?_⟩
  obtain ⟨b, off, ha, hb, hx⟩ := h.pos (by simp only at hp; omega)
  refine ⟨b, off, ha, hb, fun i x hi => hx i x ?_⟩
  rw [List.getElem?_take] at hi
  split at hi
  · exact hi
  · cases hi

/-- Whether one of some pairs has a key. -/
def anyK (xs : List Pr) (z : List Int) : Bool := xs.any (fun y => decide (y.1 = z))

theorem anyK_no {xs : List Pr} {z : List Int} (h : ∀ (j : Nat) (y : Pr), xs[j]? = some y → y.1 ≠ z) : anyK xs z = false := by
  have := any_no (xs := xs) (i := xs.length) (z := z) (fun j y _ hy => h j y hy)
  rwa [List.take_length] at this

theorem anyK_yes {xs : List Pr} {z : List Int} {j : Nat} {y : Pr} (hy : xs[j]? = some y) (e : y.1 = z) : anyK xs z = true := by
  have := any_yes (xs := xs) (i := xs.length) (z := z) (List.getElem?_eq_some_iff.1 hy).1 hy e
  rwa [List.take_length] at this

set_option maxHeartbeats 2000000 in
theorem indexK_any (s : Sl) (xs : List Pr) (B : Nat) (ka : Option Addr) (kn kc : Nat) (z : List Int) (w : World) (o : RowOk prK w s xs) (hn : s.n ≤ 100) (hk : BRow w ka kn z) (hB : w.cell? ⟨B, 0, none⟩ = some (.slice ka kn kc)) :
    Calls Try.prog 64 #[.slice s.a s.n s.c, .func (.func 63) #[] #[.pointer (some ⟨B, 0, none⟩)]] w fun r w' => (∃ i : Int, r = .returned (.int .i64 i) ∧ decide (0 ≤ i) = anyK xs z) ∧ Below w.heap.size w w' := by
  have hl := o.len
  rcases Nat.eq_zero_or_pos s.n with h0 | hpos
  · obtain rfl : xs = [] := List.length_eq_zero_iff.1 (by omega)
    rw [h0]
    clear o hB hk hl
    go_enter Try.func64, Try.ntmps64
    go_wp2_with fail
    refine wp_loop_rounds 1 ?_
    rw [rounds_succ]
    go_wp2_with fail
    go_ret
    exact ⟨⟨-1, rfl, rfl⟩, Below.refl _ _⟩
  · obtain ⟨b, off, ha, hb, hat⟩ := pr_at o hpos
    rw [ha]
    have HAT := hide hat
    have HD := hide (fun (W : World) (hbl : Below w.heap.size w W) (s0 s1 : Sl) (y : Pr) (o : BOk w s0 y.1) => hk1_any s0 s1 y B ka kn kc z W (bytesK.below o hbl (Nat.le_refl _)) (hk.below hbl (Nat.le_refl _)) ((hbl.cell (p := ⟨B, 0, none⟩) (lt_of_cell hB)).trans hB))
    have HL := hide hl
    generalize s.n = n at *
    generalize s.c = c at *
    clear o hB hk hl hat ha
    go_enter Try.func64, Try.ntmps64
    go_wp2_with fail
    go_loopw [8] (fun i wr => ∃ k : Nat, k ≤ n ∧ i = .int .i64 k ∧ (∀ j y, j < k → xs[j]? = some y → y.1 ≠ z) ∧ Below w.heap.size w wr) (fun i _ => n - (intOf i).toNat)
    case atStart => exact ⟨0, Nat.zero_le _, rfl, fun j y hj => absurd hj (Nat.not_lt_zero _), Below.refl _ _⟩
    case round =>
      obtain ⟨k, hkn, rfl, hall, hbr⟩ := hrel
      have HA := hide hall
      clear hall
      by_cases hlt : k < n
      · obtain ⟨y, hy⟩ : ∃ y, xs[k]? = some y := ⟨_, List.getElem?_eq_getElem (by have := unhide HL; omega)⟩
        obtain ⟨s0, s1, c0', c1', k0, k1⟩ := (unhide HAT) k y hy
        have c0 := (hbr.cell (by exact hb)).trans c0'
        have c1 := (hbr.cell (by exact hb)).trans c1'
        have HD1 := hide ((unhide HD) wr hbr s0 s1 y k0)
        have HY := hide hy
        have HBR := hide hbr
        have i1 : (0 : Int) ≤ (k : Int) := by omega
        have i2 : (k : Int) < (n : Int) := by omega
        clear hbr hy c0' c1' k0 k1
        by_cases hz : y.1 = z
        · rw [decide_eq_true hz] at HD1
          have HF : Hid (anyK xs z = true) := anyK_yes (unhide HY) hz
          clear hz
          go_wp2_with fail
          refine (unhide HD1).mono ?_
          rintro r w2 ⟨rfl, b2⟩
          have HB2 := hide ((unhide HBR).trans (b2.mono (unhide HBR).size))
          clear b2
          go_wp2_with fail
          go_ret
          exact ⟨⟨_, rfl, by rw [unhide HF]; simp⟩, unhide HB2⟩
        · rw [decide_eq_false hz] at HD1
          have HZ := hide hz
          clear hz
          go_wp2_with fail
          refine (unhide HD1).mono ?_
          rintro r w2 ⟨rfl, b2⟩
          have HB2 := hide ((unhide HBR).trans (b2.mono (unhide HBR).size))
          clear b2
          go_wp2_with fail
          go_roundw
          case rel =>
            refine ⟨k + 1, by omega, by go_num, fun j u hj hu => ?_, unhide HB2⟩
            by_cases e : j = k
            · subst e
              obtain rfl : y = u := Option.some.inj ((unhide HY).symm.trans hu)
              exact unhide HZ
            · exact (unhide HA) j u (by omega) hu
          case measure => simp [intOf]; omega
      · obtain rfl : k = n := by omega
        have HF : Hid (anyK xs z = false) := anyK_no (fun j y hy => (unhide HA) j y (by have := (List.getElem?_eq_some_iff.1 hy).1; have := unhide HL; omega) hy)
        have HBR := hide hbr
        clear hbr
        go_wp2_with fail
        go_ret
        exact ⟨⟨_, rfl, by rw [unhide HF]; decide⟩, unhide HBR⟩

set_option maxHeartbeats 1000000 in
theorem containsK_any (s : Sl) (xs : List Pr) (B : Nat) (ka : Option Addr) (kn kc : Nat) (z : List Int) (w : World) (o : RowOk prK w s xs) (hn : s.n ≤ 100) (hk : BRow w ka kn z) (hB : w.cell? ⟨B, 0, none⟩ = some (.slice ka kn kc)) :
    Calls Try.prog 62 #[.slice s.a s.n s.c, .func (.func 63) #[] #[.pointer (some ⟨B, 0, none⟩)]] w fun r w' => r = .returned (.bool (anyK xs z)) ∧ Below w.heap.size w w' := by
  have HI := hide (indexK_any s xs B ka kn kc z w o hn hk hB)
  generalize s.a = sa at *
  generalize s.n = sn at *
  generalize s.c = sc at *
  clear o hk hB
  go_enter Try.func62, Try.ntmps62
  go_wp2_with fail
  refine (unhide HI).mono ?_
  rintro r w1 ⟨⟨i, rfl, hi⟩, b1⟩
  have HH := hide hi
  clear hi
  go_wp2_with fail
  go_ret
  exact ⟨ret_bool (unhide HH), b1⟩

set_option maxHeartbeats 1000000 in
theorem hasKey_any (s : Sl) (xs : List Pr) (ka : Option Addr) (kn kc : Nat) (z : List Int) (w : World) (o : RowOk prK w s xs) (hn : s.n ≤ 100) (hk : BRow w ka kn z) :
    Calls Try.prog 52 #[.slice s.a s.n s.c, .slice ka kn kc] w fun r w' => r = .returned (.bool (anyK xs z)) ∧ Below w.heap.size w w' := by
  have HB := hide (below_alloc w (.cells #[.slice ka kn kc] 22))
  have HI := hide (containsK_any s xs w.heap.size ka kn kc z (w.alloc (.cells #[.slice ka kn kc] 22)) (o.below (unhide HB) (Nat.le_refl _)) hn (hk.below (unhide HB) (Nat.le_refl _)) (by simp))
  generalize s.a = sa at *
  generalize s.n = sn at *
  generalize s.c = sc at *
  clear o hk
  go_enter Try.func52, Try.ntmps52
  go_wp2_with fail
  refine (unhide HI).mono ?_
  rintro r w1 ⟨rfl, b1⟩
  have HB1 := hide ((unhide HB).trans (b1.mono (unhide HB).size))
  clear b1
  go_wp2_with fail
  go_ret
  exact ⟨rfl, unhide HB1⟩

set_option maxHeartbeats 4000000 in
theorem implPairs_any (s : Sl) (xs : List Pr) (w : World) (o : RowOk prK w s xs) (hl : s.n ≤ 1048576) (hx : ∀ x ∈ xs, prSz x ≤ 1048576) :
    Calls Try.prog 19 #[.slice s.a s.n s.c] w fun e w' => e = .returned (.int .i64 (prFlt xs)) ∧ Below w.heap.size w w' := by
  have hlen := o.len
  by_cases hm : 12 < s.n
  · have e1 : prFlt xs = 2 := if_pos (by omega)
    rw [e1]
    clear o e1
    go_enter Try.func19, Try.ntmps19
    go_wp2_with fail
    go_ret
    exact ⟨rfl, Below.refl _ _⟩
  · have e1 : prFlt xs = prFrom xs (xs.drop 0) 0 := by unfold prFlt; rw [if_neg (by omega)]; rfl
    rcases Nat.eq_zero_or_pos s.n with h0 | hp
    · have e2 : prFlt xs = 0 := by rw [e1]; exact prFrom_end xs 0 (by omega)
      rw [e2, h0]
      clear e1 e2 o
      go_enter Try.func19, Try.ntmps19
      go_wp2_with fail
      refine wp_loop_rounds 1 ?_
      rw [rounds_succ]
      go_wp2_with fail
      go_ret
      exact ⟨rfl, Below.refl _ _⟩
    · obtain ⟨b, off, ha, hb, hat⟩ := pr_at o hp
      obtain ⟨F, hF⟩ : ∃ F, F = prFlt xs := ⟨_, rfl⟩
      rw [← hF] at e1
      have HHK := hide (fun (W : World) (hbl : Below w.heap.size w W) (k : Nat) (hk : k ≤ s.n) (ka : Option Addr) (kn kc : Nat) (z : List Int) (hr : BRow w ka kn z) => hasKey_any ⟨s.a, k, s.c⟩ (xs.take k) ka kn kc z W (RowOk.below (o.takeP hk) hbl (Nat.le_refl _)) (by simp only; omega) (hr.below hbl (Nat.le_refl _)))
      rw [← hF, ha]
      rw [ha] at HHK
      have HF := hide e1
      have HAT := hide hat
      have HL := hide hlen
      have HX := hide hx
      have hroom := o.room
      generalize s.n = n at *
      generalize s.c = c at *
      clear e1 o hlen hF hat ha hx
      go_enter Try.func19, Try.ntmps19
      go_wp2_with fail
      go_loopw [10] (fun iv wr => ∃ (i : Nat), i ≤ n ∧ iv = .int .i64 i ∧ F = prFrom xs (xs.drop i) i ∧ Below w.heap.size w wr) (fun iv _ => n - (intOf iv).toNat)
      case atStart => exact ⟨0, Nat.zero_le _, rfl, unhide HF, Below.refl _ _⟩
      case round =>
        obtain ⟨i, hi, rfl, hFi, hbel⟩ := hrel
        clear HF
        by_cases hlt : i < n
        · obtain ⟨x, hx⟩ : ∃ x, xs[i]? = some x := ⟨_, List.getElem?_eq_getElem (by have := unhide HL; omega)⟩
          rw [prFrom_step xs i x hx] at hFi
          obtain ⟨s0, s1, c0', c1', k0, k1⟩ := (unhide HAT) i x hx
          have c0 := (hbel.cell (by exact hb)).trans c0'
          have c1 := (hbel.cell (by exact hb)).trans c1'
          have hl0 := k0.row.1
          have hl1 := k1.row.1
          have hsz := (unhide HX) x (List.mem_of_getElem? hx)
          have hv1 : s1.n ≤ 1048576 := by unfold prSz at hsz; omega
          have i1 : (0 : Int) ≤ (i : Int) := by omega
          have i2 : (i : Int) < (n : Int) := by omega
          have HR0 := hide k0.row
          have hs := hbel.size
          have HK := hide (isKey_any s0.a s0.n s0.c)
          have HV := hide (fun W => isValue_any s1.a s1.n s1.c W hv1)
          have HB1 := hide (hbel.alloc hs (.cells #[.slice s0.a s0.n s0.c, .slice s1.a s1.n s1.c] 69))
          by_cases b1 : s0.n ≤ 6
          · rw [decide_eq_true b1] at HK
            by_cases b2 : 1 ≤ s1.n ∧ s1.n ≤ 60
            · rw [decide_eq_true b2] at HV
              rw [if_neg (by unfold prBad; rw [decide_eq_false (by omega : ¬ 6 < x.1.length), decide_eq_false (by omega : ¬ x.2.length < 1), decide_eq_false (by omega : ¬ 60 < x.2.length)]; decide)] at hFi
              have HFI := hide hFi
              have HK2 := hide (fun (W : World) (hbl : Below w.heap.size w W) => (unhide HHK) W hbl i (by omega) s0.a s0.n s0.c x.1 (unhide HR0))
              have HAK : Hid (anyK (xs.take i) x.1 = (xs.take i).any (fun y => decide (y.1 = x.1))) := rfl
              clear hFi k0 k1 hl0 hl1 hsz hv1 hx c0' c1'
              go_wp2_with fail
              refine ((unhide HK) _).mono ?_
              rintro r w2 ⟨rfl, rfl⟩
              go_wp2_with fail
              refine ((unhide HV) _).mono ?_
              rintro r w2 ⟨rfl, rfl⟩
              go_wp2_with fail
              have p0 : (wr.alloc (.cells #[.slice s0.a s0.n s0.c, .slice s1.a s1.n s1.c] 69)).cell? ⟨wr.heap.size, 0, none⟩ = some (.slice s0.a s0.n s0.c) := by simp
              have l1 : wr.heap.size < (wr.alloc (.cells #[.slice s0.a s0.n s0.c, .slice s1.a s1.n s1.c] 69)).heap.size := by simp
              generalize wr.alloc (.cells #[.slice s0.a s0.n s0.c, .slice s1.a s1.n s1.c] 69) = W1 at p0 l1 HB1 ⊢
              have i3 : (i : Int) ≤ (c : Int) := by omega
              have i4 : i ≤ c := by omega
              have HP0 := hide p0
              generalize hAK : anyK (xs.take i) x.1 = ak at HK2 HAK
              have HHA := hide hAK
              clear c0 c1 HHK HAT hAK
              go_region_held3 (fun W => W.cell? ⟨wr.heap.size, 0, none⟩ = some (.slice s0.a s0.n s0.c)) (first | assumption | go_keep)
                ((go_at_call 52; refine ((unhide HK2) _ (by first | exact (unhide HB1).drew | exact below_drewN (unhide HB1) _ | exact unhide HB1)).mono ?_; rintro r w3 ⟨rfl, b3⟩; have b13 : Below W1.heap.size W1 w3 := Below.trans (by first | exact (Below.refl _ _).drew | exact below_drewN (Below.refl _ _) _ | exact Below.refl _ _) (b3.mono (by first | exact Nat.le_refl _ | exact (below_drewN (Below.refl W1.heap.size W1) _).size)); have e3 := (b13.cell l1).trans (unhide HP0); clear b3))
              have HB3 := hide ((unhide HB1).trans (b13.mono (unhide HB1).size))
              have hak := unhide HAK
              have hfi := unhide HFI
              rw [← hak] at hfi
              have HFJ := hide hfi
              clear b13 hak hfi HAK HFI HHA HK2 HK HV
              cases ak
              · go_wp2_with fail
                go_roundw
                case rel => exact ⟨i + 1, by omega, by go_num, (unhide HFJ).trans (if_neg (by decide)), unhide HB3⟩
                case measure => simp [intOf]; omega
              · obtain rfl : F = 6 := (unhide HFJ).trans (if_pos rfl)
                go_wp2_with fail
                go_ret
                exact ⟨rfl, unhide HB3⟩
            · rw [decide_eq_false b2] at HV
              rw [if_pos (by unfold prBad; by_cases q : s1.n < 1; · rw [decide_eq_true (by omega : x.2.length < 1)]; simp
                             · rw [decide_eq_true (by omega : 60 < x.2.length)]; simp)] at hFi
              subst hFi
              clear k0 k1 hl0 hl1 hsz hv1 hx c0' c1' HHK HAT
              go_wp2_with fail
              refine ((unhide HK) _).mono ?_
              rintro r w2 ⟨rfl, rfl⟩
              go_wp2_with fail
              refine ((unhide HV) _).mono ?_
              rintro r w2 ⟨rfl, rfl⟩
              go_wp2_with fail
              go_ret
              exact ⟨rfl, unhide HB1⟩
          · rw [decide_eq_false b1] at HK
            rw [if_pos (by unfold prBad; rw [decide_eq_true (by omega : 6 < x.1.length)]; simp)] at hFi
            subst hFi
            clear k0 k1 hl0 hl1 hsz hv1 hx c0' c1' HHK HAT HV
            go_wp2_with fail
            refine ((unhide HK) _).mono ?_
            rintro r w2 ⟨rfl, rfl⟩
            go_wp2_with fail
            go_ret
            exact ⟨rfl, unhide HB1⟩
        · obtain rfl : i = n := by omega
          rw [prFrom_end xs i (by have := unhide HL; omega)] at hFi
          subst hFi
          go_wp2_with fail
          go_ret
          exact ⟨rfl, hbel⟩

end Go.Proofs.Ytihdmdbekdadlaa
