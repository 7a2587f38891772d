/- What is proved here: WideOf of the program and of the model, for every number. -/
import Derived.Test.YtakkhocaloigeaaChecked
import Derived.Test.YtakkhocaloigeaaBase
import Derived.Test.YtakkhocaloigeaaIBase
import Derived.Test.YtakkhocaloigeaaInfo2
import Derived.WalkKit
import Derived.WalkLawsBesides
import Derived.WalkSmall
import Derived.WalkSpells
import Derived.Laws.BitsAllLaws
import Derived.KernelRfl
namespace Go.Proofs.Ytakkhocaloigeaa
open Go.RowKit
set_option linter.unusedVariables false

/-- The limbs of a number, and what is left of it behind some of them. -/
def wofList (n : Int) : List Int := [n % 4294967296, n / 4294967296, 0, 0, 0, 0, 0, 0]
def wofRest (n : Int) (k : Nat) : Int := if k = 0 then n else if k = 1 then n / 4294967296 else 0
def woCode (n : Int) : Int := if n < 0 then 3 else 0
def woList (n : Int) : List Int := if n < 0 then [] else wofList n

theorem woList_length (n : Int) : (woList n).length ≤ 8 := by unfold woList; split <;> simp [wofList]

theorem wraps_i64 (n : Int) (h₀ : 0 ≤ n) (h₁ : n < 2 ^ 63) : IntKind.i64.wrap n = n := by rw [IntKind.wrap_i64]; omega

theorem and_word (n : Int) (h0 : 0 ≤ n) (h1 : n < 9223372036854775808) : bits .and .i64 n 4294967295 = n % 4294967296 := by
  have := bits_mask .i64 63 (by decide) wraps_i64 32 (by decide) n h0 (by omega)
  rw [show (2 : Int) ^ 32 - 1 = 4294967295 by decide] at this
  rw [this, show (2 : Int) ^ 32 = 4294967296 by decide]

theorem wof_at (n : Int) (h0 : 0 ≤ n) (h1 : n < 9223372036854775808) (k : Nat) (hk : k < 8) : wofRest n k % 4294967296 = (wofList n).getD k 0 ∧ wofRest n k / 4294967296 = wofRest n (k + 1) ∧ 0 ≤ wofRest n k ∧ wofRest n k < 9223372036854775808 := by
  match k, hk with
  | 0, _ => simp [wofRest, wofList]; omega
  | 1, _ => simp [wofRest, wofList]; omega
  | k + 2, hk =>
    have : (wofList n).getD (k + 2) 0 = 0 := by
      match k, hk with
      | 0, _ | 1, _ | 2, _ | 3, _ | 4, _ | 5, _ => rfl
    rw [this]
    simp [wofRest]

set_option maxHeartbeats 2000000 in
theorem implWideOf_any (n : Int) (hlo : -9223372036854775808 ≤ n) (hhi : n < 9223372036854775808) (w : World) :
    Calls Try.prog 13 #[.int .i64 n] w fun e w' => ∃ a' cap', e = .returned (.agg #[.int .i64 (woCode n), .slice a' (woList n).length cap']) ∧
      w'.ownsRow w.heap.size 2 1 (.slice a' (woList n).length cap') (woList n).length ((woList n).map (Value.int .i64)) ∧ Below w.heap.size w w' := by
  by_cases hm : n < 0
  · have e1 : woCode n = 3 := if_pos hm
    have e2 : woList n = [] := if_pos hm
    rw [e1, e2]
    clear e1 e2
    go_enter Try.func13, Try.ntmps13
    go_wp2_with fail
    exact bodyPost_ret (v := .agg #[.int .i64 3, .slice none 0 0]) (by simp [results, Try.results13, go_sem]) rfl ⟨none, 0, rfl, World.ownsRow_nil _ _ _ _, (Below.refl _ _).alloc (Nat.le_refl _) _⟩
  · have e1 : woCode n = 0 := if_neg hm
    have e2 : woList n = wofList n := if_neg hm
    rw [e1, e2, show (wofList n).length = 8 from rfl]
    obtain ⟨i0, hi, hz0, hz1, hz2⟩ := info_parts info2
    have WA := hide (wof_at n (by omega) hhi)
    have hzl : (wofList n).length = 8 := rfl
    have w0e : wofRest n 0 = n := rfl
    clear e1 e2
    generalize wofList n = zs at *
    go_enter Try.func13, Try.ntmps13
    go_wp2_with (at_make; refine wpList_make_full _ rfl _ _ 24 rfl (w.heap.size + 1) 2 i0 (.int .i64 0) 1 Try.underlying24 hi hz0 hz1 _ _ _ _ 8 rfl rfl (by omega) (by omega) ?c1 ?c2 ?c3 ?_)
    case c2 => unfold maxLen; omega
    intro w1 hown hgrow
    have hb0 := below_alloc w (.cells #[.int .i64 0, .slice none 0 0] 28)
    have hres : (w.alloc (.cells #[.int .i64 0, .slice none 0 0] 28)).heap[w.heap.size]? = some (.cells #[.int .i64 0, .slice none 0 0] 28 (0, 0)) := by
      show (w.heap.push _)[w.heap.size]? = _
      simp
    have hsz : (w.alloc (.cells #[.int .i64 0, .slice none 0 0] 28)).heap.size = w.heap.size + 1 := by simp
    have hb1 : Below w.heap.size w w1 := hb0.grown hgrow (by rw [hsz]; omega) (fun k e => by cases e)
    have hres1 : w1.heap[w.heap.size]? = some (.cells #[.int .i64 0, .slice none 0 0] 28 (0, 0)) := (hgrow.block _ (by rw [hsz]; omega) (by simp)).trans hres
    have hown0 : w1.ownsRow (w.heap.size + 1) 2 1 (.slice (some ⟨w.heap.size + 1, 0, none⟩) 8 8) 8 ((zs.take 0 ++ List.replicate (8 - 0) 0).map (Value.int .i64)) := by
      have e : (madeCells #[Value.int .i64 0] 8).toList = (zs.take 0 ++ List.replicate (8 - 0) 0).map (Value.int .i64) := by
        rw [toList_madeCells_one]; simp
      rw [← e]; exact hown
    clear hown hgrow hb0 hres hsz
    go_wp2_with fail
    go_loopw [4, 13] (fun r i wr => ∃ k : Nat, k ≤ 8 ∧ i = .int .i64 k ∧ r = .int .i64 (wofRest n k) ∧ wr.ownsRow (w.heap.size + 1) 2 1 (.slice (some ⟨w.heap.size + 1, 0, none⟩) 8 8) 8 ((zs.take k ++ List.replicate (8 - k) 0).map (Value.int .i64)) ∧ Below w.heap.size w wr ∧ wr.heap[w.heap.size]? = some (.cells #[.int .i64 0, .slice none 0 0] 28 (0, 0)))
      (fun _ i _ => 8 - (intOf i).toNat)
    case atStart => exact ⟨0, Nat.zero_le _, rfl, by rw [w0e], hown0, hb1, hres1⟩
    case round =>
      obtain ⟨k, hk, rfl, rfl, hown, hbr, hrs⟩ := hrel
      clear hown0 hb1 hres1
      by_cases hlt : k < 8
      · obtain ⟨ha, hd, hr0, hr1⟩ := (unhide WA) k hlt
        have hand := and_word _ hr0 hr1
        rw [ha] at hand
        have hst := ifill_step zs 8 k hzl hlt
        obtain ⟨r2, hr2⟩ : ∃ r2, r2 = wofRest n (k + 1) := ⟨_, rfl⟩
        rw [← hr2] at hd
        have HR2 := hide hr2
        clear hr2
        generalize wofRest n k = r at hd hr0 hr1 hand
        generalize zs.getD k 0 = z at hand hst
        have hfz := hown.frozenAt k
        obtain ⟨u, hu⟩ : ∃ u, wr.cell? ⟨w.heap.size + 1, k, none⟩ = some u := by
          rw [hown.cellAt k (by omega)]
          exact ⟨_, List.getElem?_eq_getElem (by rw [hown.1]; omega)⟩
        have R := hown.stored k (.int .i64 z)
        rw [hst] at R
        have HR := R.1
        have HB : Below w.heap.size w (wr.setCell ⟨w.heap.size + 1, k, none⟩ (.int .i64 z)) := hbr.setCell (by simp) _
        have HS : (wr.setCell ⟨w.heap.size + 1, k, none⟩ (.int .i64 z)).heap[w.heap.size]? = some (.cells #[.int .i64 0, .slice none 0 0] 28 (0, 0)) := (heap_setCell_other wr ⟨w.heap.size + 1, k, none⟩ w.heap.size _ (by simp)).trans hrs
        clear R hown hst hrs hbr ha
        go_wp2_with fail
        go_roundw
        case rel => exact ⟨k + 1, by omega, by go_num, by rw [unhide HR2], HR, HB, HS⟩
        case measure => simp [intOf]; omega
      · obtain rfl : k = 8 := by omega
        obtain ⟨q0, q1, f0, f1⟩ := res_facts hrs
        go_wp2_with fail
        refine bodyPost_ret (v := .agg #[.int .i64 0, .slice (some ⟨w.heap.size + 1, 0, none⟩) 8 8]) (by simp [results, Try.results13, go_sem, q0, q1]) rfl ⟨_, 8, rfl, ?_, ?_⟩
        · have : (zs.take 8 ++ List.replicate (8 - 8) 0) = zs := by rw [List.take_of_length_le (by omega)]; simp
          rw [this] at hown
          exact ownsRow_base (ownsRow_setCell_below (ownsRow_setCell_below hown (by simp) _) (by simp) _) (by omega)
        · exact (hbr.setCell (by simp) _).setCell (by simp) _

set_option maxHeartbeats 2000000 in
theorem l4Of_any (n : Int) (hlo : 0 ≤ n) (hhi : n < 9223372036854775808) (w : World) :
    Calls Try.prog 42 #[.int .i64 n] w fun e w' => e = .returned (.slice (some ⟨w.heap.size, 0, none⟩) 8 8) ∧
      w'.ownsRow w.heap.size 2 1 (.slice (some ⟨w.heap.size, 0, none⟩) 8 8) 8 ((wofList n).map (Value.int .i64)) ∧ Below w.heap.size w w' := by
  obtain ⟨i0, hi, hz0, hz1, hz2⟩ := info_parts info2
  go_enter Try.func42, Try.ntmps42
  go_wp2_with (at_make; refine wpList_make_full _ rfl _ _ 24 rfl w.heap.size 2 i0 (.int .i64 0) 1 Try.underlying24 hi hz0 hz1 _ _ _ _ 8 rfl rfl (by omega) (by omega) ?c1 ?c2 ?c3 ?_)
  case c1 => rw [hz2]; omega
  case c2 => unfold maxLen; omega
  case c3 => simp
  intro w1 hown hgrow
  have hb1 : Below w.heap.size w w1 := (Below.refl _ _).grown hgrow (Nat.le_refl _) (fun k e => by cases e)
  rw [toList_madeCells_one] at hown
  have f0 := hown.frozenAt 0
  have f1 := hown.frozenAt 1
  have c0 : w1.cell? ⟨w.heap.size, 0, none⟩ = some (.int .i64 0) := by
    rw [hown.cellAt 0 (by omega)]; rfl
  have c1 : w1.cell? ⟨w.heap.size, 1, none⟩ = some (.int .i64 0) := by
    rw [hown.cellAt 1 (by omega)]; rfl
  have R := (hown.stored 0 (.int .i64 (n % 4294967296)))
  have R2 := (R.1.stored 1 (.int .i64 (n / 4294967296)))
  have HB := (hb1.setCell (p := ⟨w.heap.size, 0, none⟩) (Nat.le_refl _) (.int .i64 (n % 4294967296))).setCell (p := ⟨w.heap.size, 1, none⟩) (Nat.le_refl _) (.int .i64 (n / 4294967296))
  have HR := hide R2.1
  have HBB := hide HB
  clear R R2 HB hown hgrow hb1
  go_wp2_with fail
  go_ret
  exact ⟨rfl, unhide HR, unhide HBB⟩

set_option maxHeartbeats 2000000 in
theorem specWideOf_any (n : Int) (hlo : -9223372036854775808 ≤ n) (hhi : n < 9223372036854775808) (w : World) :
    Calls Try.prog 16 #[.int .i64 n] w fun e w' => ∃ a' cap', e = .returned (.agg #[.int .i64 (woCode n), .slice a' (woList n).length cap']) ∧
      w'.ownsRow w.heap.size 2 1 (.slice a' (woList n).length cap') (woList n).length ((woList n).map (Value.int .i64)) ∧ Below w.heap.size w w' := by
  by_cases hm : n < 0
  · have e1 : woCode n = 3 := if_pos hm
    have e2 : woList n = [] := if_pos hm
    rw [e1, e2]
    clear e1 e2
    go_enter Try.func16, Try.ntmps16
    go_wp2_with fail
    exact bodyPost_ret (v := .agg #[.int .i64 3, .slice none 0 0]) (by simp [results, Try.results16, go_sem]) rfl ⟨none, 0, rfl, World.ownsRow_nil _ _ _ _, (Below.refl _ _).alloc (Nat.le_refl _) _⟩
  · have e1 : woCode n = 0 := if_neg hm
    have e2 : woList n = wofList n := if_neg hm
    rw [e1, e2, show (wofList n).length = 8 from rfl]
    have HI := hide (fun W => l4Of_any n (by omega) hhi W)
    clear e1 e2
    generalize wofList n = zs at HI ⊢
    have hb0 := below_alloc w (.cells #[.int .i64 0, .slice none 0 0] 28)
    have hsz : (w.alloc (.cells #[.int .i64 0, .slice none 0 0] 28)).heap.size = w.heap.size + 1 := by simp
    have hres : (w.alloc (.cells #[.int .i64 0, .slice none 0 0] 28)).heap[w.heap.size]? = some (.cells #[.int .i64 0, .slice none 0 0] 28 (0, 0)) := by
      show (w.heap.push _)[w.heap.size]? = _
      simp
    go_enter Try.func16, Try.ntmps16
    go_wp2_with fail
    refine ((unhide HI) _).mono ?_
    rintro e w1 ⟨rfl, o1, b1⟩
    rw [hsz] at o1 b1 ⊢
    have hrs := (b1.block w.heap.size (Nat.lt_succ_self _)).trans hres
    have hbr := hb0.trans (b1.mono (Nat.le_succ _))
    clear b1 hres hb0
    obtain ⟨q0, q1, f0, f1⟩ := res_facts hrs
    go_wp2_with fail
    refine bodyPost_ret (v := .agg #[.int .i64 0, .slice (some ⟨w.heap.size + 1, 0, none⟩) 8 8]) (by simp [results, Try.results16, go_sem, q0, q1]) rfl ⟨_, 8, rfl, ?_, ?_⟩
    · exact ownsRow_base (ownsRow_setCell_below (ownsRow_setCell_below o1 (by simp) _) (by simp) _) (by omega)
    · exact (hbr.setCell (by simp) _).setCell (by simp) _

end Go.Proofs.Ytakkhocaloigeaa
