/- What is proved here: the contracts of the laws' helper functions that write marks into an answer's bytes and look for them later (markByteS, heldByteS and those over BytesResult), for slices that the call itself made. -/
import Derived.Test.YtndkdngojjhinaaChecked
import Derived.Test.YtndkdngojjhinaaBase
import Derived.Test.YtndkdngojjhinaaByteS
import Derived.WalkKit
import Derived.WalkLawsBesides
import Derived.WalkSmall
import Derived.KernelRfl
namespace Go.Proofs.Ytndkdngojjhinaa
open Go.RowKit
set_option linter.unusedVariables false
set_option maxRecDepth 100000

set_option maxHeartbeats 1000000 in
theorem markByteS_any (B g n cap : Nat) (zs : List Int) (k0 : Int) (w : World) (h : w.ownsRow B 5 1 (.slice (some ⟨g, 0, none⟩) n cap) n (zs.map (Value.int .u8))) (hn : n ≤ 2097152) (hk0 : 0 ≤ k0) (hk1 : k0 ≤ 1099511627776) :
    Calls Try.prog 26 #[.slice (some ⟨g, 0, none⟩) n cap, .int .i64 k0] w fun e w' => e = .returned (.int .i64 (k0 + n)) ∧
      w'.ownsRow B 5 1 (.slice (some ⟨g, 0, none⟩) n cap) n ((marks k0 n).map (Value.int .u8)) ∧ w.grownBy w' (some g) := by
  have hzl : zs.length = n := by simpa using h.1
  go_enter Try.func26, Try.ntmps26
  go_wp2
  go_loopw [1, 5] (fun q i wr => ∃ k : Nat, k ≤ n ∧ i = .int .i64 k ∧ q = .int .i64 (k0 + k) ∧ wr.ownsRow B 5 1 (.slice (some ⟨g, 0, none⟩) n cap) n ((marks k0 k ++ zs.drop k).map (Value.int .u8)) ∧ w.grownBy wr (some g))
    (fun _ i _ => n - (intOf i).toNat)
  case atStart => exact ⟨0, Nat.zero_le _, rfl, by simp, by simpa [marks] using h, grownBy_refl w _⟩
  case round =>
    obtain ⟨k, hk, rfl, rfl, hown, hgr⟩ := hrel
    by_cases hlt : k < n
    · have hfz := hown.frozenAt k
      obtain ⟨u, hu⟩ : ∃ u, wr.cell? ⟨g, k, none⟩ = some u := by
        rw [hown.cellAt k (by omega)]
        exact ⟨_, List.getElem?_eq_getElem (by rw [hown.1]; omega)⟩
      have R := hown.stored k (.int .u8 ((k0 + k) % 256))
      rw [mark_step k0 zs n k hzl hlt] at R
      have HR := R.1
      have HG := grownBy_trans hgr R.2
      clear R hown
      go_wp2
      go_roundw
      case rel => exact ⟨k + 1, by omega, by go_num, by go_num, HR, HG⟩
      case measure => simp [intOf]; omega
    · obtain rfl : k = n := by omega
      rw [List.drop_eq_nil_of_le (by omega), List.append_nil] at hown
      go_wp2
      go_ret
      exact ⟨rfl, hown, hgr⟩

set_option maxHeartbeats 1000000 in
theorem markByteS_nil (k0 : Int) (w : World) :
    Calls Try.prog 26 #[.slice none 0 0, .int .i64 k0] w fun e w' => e = .returned (.int .i64 k0) ∧ w' = w := by
  go_enter Try.func26, Try.ntmps26
  go_wp2
  refine wp_loop_rounds 1 ?_
  rw [rounds_succ]
  go_wp2
  go_ret
  exact ⟨rfl, rfl⟩

theorem markByteS_own (B n cap : Nat) (a : Option Addr) (zs : List Int) (k0 : Int) (w : World) (h : w.ownsRow B 5 1 (.slice a n cap) n (zs.map (Value.int .u8))) (hn : n ≤ 2097152) (hk0 : 0 ≤ k0) (hk1 : k0 ≤ 1099511627776) :
    Calls Try.prog 26 #[.slice a n cap, .int .i64 k0] w fun e w' => e = .returned (.int .i64 (k0 + n)) ∧
      w'.ownsRow B 5 1 (.slice a n cap) n ((marks k0 n).map (Value.int .u8)) ∧ w.grownBy w' (Value.slice a n cap).ownBlock := by
  rcases h.2 with ⟨h', h0⟩ | ⟨g, cap', cur, h', _⟩
  · simp only [Value.slice.injEq] at h'
    obtain ⟨rfl, rfl, rfl⟩ := h'
    refine (markByteS_nil k0 w).mono fun e w' hq => ?_
    obtain ⟨rfl, rfl⟩ := hq
    exact ⟨by simp, World.ownsRow_nil _ _ _ _, grownBy_refl _ _⟩
  · simp only [Value.slice.injEq] at h'
    obtain ⟨rfl, _, rfl⟩ := h'
    exact markByteS_any B g n cap zs k0 w h hn hk0 hk1

set_option maxHeartbeats 1000000 in
theorem heldByteS_any (n cap : Nat) (a : Option Addr) (k0 : Int) (w : World) (h : BRow w a n (marks k0 n)) (hn : n ≤ 2097152) (hk0 : 0 ≤ k0) (hk1 : k0 ≤ 1099511627776) :
    Calls Try.prog 27 #[.slice a n cap, .int .i64 k0] w fun e w' => e = .returned (.int .i64 (k0 + n)) ∧ w' = w := by
  rcases Nat.eq_zero_or_pos n with h0 | hp
  · subst h0
    clear h
    go_enter Try.func27, Try.ntmps27
    go_wp2
    refine wp_loop_rounds 1 ?_
    rw [rounds_succ]
    go_wp2
    go_ret
    exact ⟨ret_int (by simp), rfl⟩
  · obtain ⟨b, off, rfl, hb, hc⟩ := h.at hp
    have HC := hide hc
    clear h hc
    go_enter Try.func27, Try.ntmps27
    go_wp2
    go_loop [1, 5] (fun q i => ∃ k : Nat, k ≤ n ∧ i = .int .i64 k ∧ q = .int .i64 (k0 + k)) (fun _ i => n - (intOf i).toNat)
    case atStart => exact ⟨0, Nat.zero_le _, rfl, by simp⟩
    case round =>
      obtain ⟨k, hk, rfl, rfl⟩ := hrel
      by_cases hlt : k < n
      · have hck := (unhide HC) k hlt
        rw [marks_at k0 n k hlt] at hck
        have hne : ((k0 + (k : Int)) % 256 != (k0 + (k : Int)) % 256) = false := by simp
        go_wp2
        go_round
        case rel => exact ⟨k + 1, by omega, by go_num, by go_num⟩
        case measure => simp [intOf]; omega
      · obtain rfl : k = n := by omega
        go_wp2
        go_ret
        exact ⟨rfl, rfl⟩

set_option maxHeartbeats 1000000 in
theorem markBytesResult_own (B n cap : Nat) (c : Int) (a : Option Addr) (zs : List Int) (k0 : Int) (w : World) (h : w.ownsRow B 5 1 (.slice a n cap) n (zs.map (Value.int .u8))) (hn : n ≤ 2097152) (hk0 : 0 ≤ k0) (hk1 : k0 ≤ 1099511627776) :
    Calls Try.prog 13 #[.agg #[.int .i64 c, .slice a n cap], .int .i64 k0] w fun e w' => e = .returned (.int .i64 (k0 + n)) ∧
      w'.ownsRow B 5 1 (.slice a n cap) n ((marks k0 n).map (Value.int .u8)) ∧ w.grownBy w' (Value.slice a n cap).ownBlock := by
  go_enter Try.func13, Try.ntmps13
  go_wp2_with fail
  refine (markByteS_own B n cap a zs k0 _ (h.alloc _) hn hk0 hk1).mono ?_
  rintro e w1 ⟨rfl, o1, g1⟩
  go_wp2_with fail
  go_ret
  exact ⟨rfl, o1, grownBy_trans (World.grownBy_alloc w _ _) g1⟩

set_option maxHeartbeats 1000000 in
theorem heldBytesResult_any (n cap : Nat) (c : Int) (a : Option Addr) (k0 : Int) (w : World) (h : BRow w a n (marks k0 n)) (hn : n ≤ 2097152) (hk0 : 0 ≤ k0) (hk1 : k0 ≤ 1099511627776) :
    Calls Try.prog 14 #[.agg #[.int .i64 c, .slice a n cap], .int .i64 k0] w fun e w' => e = .returned (.int .i64 (k0 + n)) ∧ Below w.heap.size w w' := by
  have hb : ∀ o, Below w.heap.size w (w.alloc o) := fun o => (Below.refl _ _).alloc (Nat.le_refl _) o
  go_enter Try.func14, Try.ntmps14
  go_wp2_with fail
  refine (heldByteS_any n cap a k0 _ (h.below (hb _) (Nat.le_refl _)) hn hk0 hk1).mono ?_
  rintro e w1 ⟨rfl, rfl⟩
  go_wp2_with fail
  go_ret
  exact ⟨rfl, hb _⟩

set_option maxHeartbeats 1000000 in
theorem eqBytes_same (c : Int) (a b : Option Addr) (n ca cb : Nat) (xs : List Int) (w : World) (ha : BRow w a n xs) (hb : BRow w b n xs) (hn : n ≤ 1048576) :
    Calls Try.prog 12 #[.agg #[.int .i64 c, .slice a n ca], .agg #[.int .i64 c, .slice b n cb]] w fun e w' => e = .returned (.bool true) ∧ Below w.heap.size w w' := by
  have h1 : (c != c) = false := by simp
  have sx : sameB xs xs = true := by simp [sameB]
  have hbel : ∀ o p, Below w.heap.size w ((w.alloc o).alloc p) := fun o p => ((Below.refl _ _).alloc (Nat.le_refl _) o).alloc (by simp) p
  go_enter Try.func12, Try.ntmps12
  go_wp2_with fail
  refine (eqByteS_any _ _ _ _ _ _ xs xs _ (ha.below (hbel _ _) (Nat.le_refl _)) (hb.below (hbel _ _) (Nat.le_refl _)) hn hn).mono ?_
  rintro e w1 ⟨rfl, n1, rfl⟩
  rw [sx]
  go_wp2_with fail
  go_ret
  exact ⟨rfl, below_drewN (hbel _ _) n1⟩

end Go.Proofs.Ytndkdngojjhinaa
