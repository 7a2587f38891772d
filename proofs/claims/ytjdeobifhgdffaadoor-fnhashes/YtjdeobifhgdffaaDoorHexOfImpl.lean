/- What is proved here: what impl.HexOf answers for slices of at most 2^20 bytes: the code and the text. -/
import Derived.Test.YtjdeobifhgdffaaDoorChecked
import Derived.Test.YtjdeobifhgdffaaDoorBase
import Derived.Test.YtjdeobifhgdffaaDoorInfo
import Derived.Test.YtjdeobifhgdffaaDoorHexEnc
import Derived.Test.YtjdeobifhgdffaaDoorL1Hex
import Derived.WalkKit
import Derived.WalkLawsBesides
import Derived.WalkSmall
import Derived.BigRegion
import Derived.Deep.RegionHeld3
import Derived.Deep.AppendLies
import Derived.WalkSpells
import Derived.KernelRfl
namespace Go.Proofs.YtjdeobifhgdffaaDoor
open Go.RowKit
set_option linter.unusedVariables false

theorem idx_dig (n : Nat) (hn : n < 16) (W : World) : (Instr.index 9 (.string { data := #[48, 49, 50, 51, 52, 53, 54, 55, 56, 57, 97, 98, 99, 100, 101, 102] }) (.int .u8 (n : Int))).run Tryd.prog W = .ok (.int .u8 (hd (n : Int))) W := by
  rcases (by omega : n = 0 ∨ n = 1 ∨ n = 2 ∨ n = 3 ∨ n = 4 ∨ n = 5 ∨ n = 6 ∨ n = 7 ∨ n = 8 ∨ n = 9 ∨ n = 10 ∨ n = 11 ∨ n = 12 ∨ n = 13 ∨ n = 14 ∨ n = 15) with r | r | r | r | r | r | r | r | r | r | r | r | r | r | r | r <;> subst r <;> kernel_rfl

theorem idx_int (v : Int) (h0 : 0 ≤ v) (h1 : v < 16) (W : World) : (Instr.index 9 (.string { data := #[48, 49, 50, 51, 52, 53, 54, 55, 56, 57, 97, 98, 99, 100, 101, 102] }) (.int .u8 v)).run Tryd.prog W = .ok (.int .u8 (hd v)) W := by
  obtain ⟨n, rfl⟩ := Int.eq_ofNat_of_zero_le h0
  exact idx_dig n (by omega) W

theorem news2 (w : World) (x y : Value) (t : TypeId) : ∀ (j : Nat) (u : Value), [x, y][j]? = some u → (w.alloc (.cells #[x, y] t)).cell? ((⟨w.heap.size, 0, none⟩ : Addr).add j) = some u := by
  intro j u hj
  rw [add_none, Nat.zero_add, World.cell?_alloc_new]
  match j, hj with
  | 0, hj => simpa using hj
  | 1, hj => simpa using hj

set_option maxHeartbeats 1000000 in
theorem implHexOf_pos (b off len cap : Nat) (xs : List Int) (w : World) (h : BRow w (some ⟨b, off, none⟩) len xs) (hl : len ≤ 1200) (hp : 0 < len) :
    Calls Tryd.prog 14 #[.slice (some ⟨b, off, none⟩) len cap] w fun e w' => e = .returned (.agg #[.int .i64 0, .string (strOfNums (hexEnc xs))]) ∧ Below w.heap.size w w' := by
  obtain ⟨i0, hi, hz0, hz1, hz2⟩ := info_parts info5
  have hxl := h.1
  have HX := hide h
  clear h
  go_enter Tryd.func14, Tryd.ntmps14
  go_wp2_with (at_make; refine wpList_make_own _ rfl _ _ 22 rfl (w.heap.size + 1) 5 i0 (.int .u8 0) 1 Tryd.underlying22 hi hz0 hz1 _ _ _ (2 * len) rfl rfl (by omega) ?c1 ?c2 ?c3 ?_)
  case c1 => rw [hz2]; omega
  case c2 => unfold maxLen; omega
  case c3 => simp
  intro w1 hown hgrow
  have hbel : Below w.heap.size w w1 := ((Below.refl _ _).alloc (Nat.le_refl _) _).grown hgrow (by simp) (fun k e => by cases e)
  have hres : w1.heap[w.heap.size]? = some (.cells #[.int .i64 0, .string (strOfNums [])] 30 (0, 0)) := by
    rw [hgrow.block _ (by simp) (by simp)]
    show (w.heap.push _)[w.heap.size]? = _
    simp [strOfNums]
  have HO := hide hown
  have HB := hide hbel
  have HR := hide hres
  clear hown hgrow hbel hres
  go_wp2_with fail
  go_loopw [3, 16] (fun v i wr => ∃ (k : Nat) (da : Option Addr) (dc : Nat), k ≤ len ∧ i = .int .i64 k ∧ v = .slice da (2 * k) dc ∧ wr.ownsRow (w.heap.size + 1) 5 1 (.slice da (2 * k) dc) (2 * k) ((hexEnc (xs.take k)).map (Value.int .u8)) ∧
      Below w.heap.size w wr ∧ wr.heap[w.heap.size]? = some (.cells #[.int .i64 0, .string (strOfNums [])] 30 (0, 0))) (fun _ i _ => len - (intOf i).toNat)
  case atStart => exact ⟨0, _, _, Nat.zero_le _, rfl, rfl, by simpa [hexEnc] using unhide HO, unhide HB, unhide HR⟩
  case round =>
    obtain ⟨k, da, dc, hk, rfl, rfl, hown, hbel, hres⟩ := hrel
    by_cases hlt : k < len
    · have hcx : wr.cell? ⟨b, off + k, none⟩ = some (.int .u8 (xs.getD k 0)) := by
        have := ((unhide HX).below hbel (Nat.le_refl _)).2.2.2 _ rfl k hlt
        rwa [add_none] at this
      have hxk := (unhide HX).2.1 (xs.getD k 0) (by rw [getD_at _ _ (by omega)]; exact List.getElem_mem _)
      have HS := hide (hexEnc_snoc xs k (by omega))
      generalize xs.getD k 0 = x at hcx hxk HS
      go_wp2_with fail
      clear hcx
      have e2 := u8_and15 (x := x) hxk.1 (by omega)
      have j1 := idx_int (x / 16) (by omega) (by omega)
      have j2 := idx_int (x % 16) (by omega) (by omega)
      have hsz : w.heap.size < wr.heap.size := lt_of_block hres
      have HE1 := hide hbel
      have HE2 := hide hres
      clear hbel hres
      go_region_held3 (fun w' => True) (trivial) ((refine step_append_lies _ (by rfl) (.tmp 20) (.tmp 27) 22 (by rfl) (w.heap.size + 1) 5 i0 (.int .u8 0) 1 1 Tryd.underlying22 hi hz0 hz1 hz2 rfl (by decide) _ _ _ (by rfl) (by first | exact hown.alloc _ | exact (hown.alloc _).drew) ⟨wr.heap.size, 0, none⟩ 2 2 [.int .u8 (hd (x / 16)), .int .u8 (hd (x % 16))] (by rfl) rfl (by exact news2 _ _ _ _) (by simp [Value.oneCell']) (by omega) (by unfold maxLen; omega) (by omega) (by simp; omega) _ rfl ?_; intro g cap2 w2 hown2 hgrow2 hat2 hlt2))
      all_goals
        have hrow : ∀ q, (Value.slice da (2 * k) dc).ownBlock = some q → w.heap.size < q := fun q e => by have := (hown.lt q e).1; omega
        have hb2 : Below w.heap.size w w2 := (((unhide HE1).alloc (by omega) _).drew).grown hgrow2 (by simp; omega) (fun q e => by have := hrow q e; omega)
        have hr2 : w2.heap[w.heap.size]? = some (.cells #[.int .i64 0, .string (strOfNums [])] 30 (0, 0)) := by
          rw [hgrow2.block _ (by simp; omega) (fun e => by have := hrow _ e.symm; omega)]
          exact (Below.heap_alloc wr _ _ hsz).trans (unhide HE2)
        have ho2 : w2.ownsRow (w.heap.size + 1) 5 1 (.slice (some ⟨g, 0, none⟩) (2 * (k + 1)) cap2) (2 * (k + 1)) ((hexEnc (xs.take (k + 1))).map (Value.int .u8)) := by
          rw [unhide HS, List.map_append, show 2 * (k + 1) = 2 * k + 2 from by omega]
          exact hown2
        have HB2 := hide hb2
        have HR2 := hide hr2
        have HO2 := hide ho2
        clear hb2 hr2 ho2 hown2 hgrow2 hown hrow
        go_wp2_with fail
        go_roundw
        case rel => exact ⟨k + 1, some ⟨g, 0, none⟩, cap2, by omega, by go_num, rfl, unhide HO2, unhide HB2, unhide HR2⟩
        case measure => simp [intOf]; omega
    · obtain rfl : k = len := by omega
      rw [List.take_of_length_le (by omega)] at hown
      have hcv := conv_any (P := Tryd.prog) wr 22 5 9 Tryd.underlying22 Tryd.underlying5 Tryd.underlying9 da (2 * k) dc (hexEnc xs) (BRow.own2 hown (hexEnc_range xs (unhide HX).2.1))
      obtain ⟨q0, q1, f0, f1⟩ := res_facts hres
      have HBE := hide hbel
      clear hown hres hbel
      generalize hT : strOfNums (hexEnc xs) = T at hcv
      have HT := hide hT
      clear hT
      go_wp2_with fail
      exact bodyPost_ret (v := .agg #[.int .i64 0, .string T]) (by simp [results, Tryd.results14, go_sem, q0, q1]) rfl ⟨by rw [unhide HT], ((unhide HBE).setCell (by simp) _).setCell (by simp) _⟩

set_option maxHeartbeats 1000000 in
theorem implHexOf_zero (a : Option Addr) (cap : Nat) (w : World) :
    Calls Tryd.prog 14 #[.slice a 0 cap] w fun e w' => e = .returned (.agg #[.int .i64 0, .string (strOfNums [])]) ∧ Below w.heap.size w w' := by
  obtain ⟨i0, hi, hz0, hz1, hz2⟩ := info_parts info5
  go_enter Tryd.func14, Tryd.ntmps14
  go_wp2_with (at_make; refine wpList_make_own _ rfl _ _ 22 rfl (w.heap.size + 1) 5 i0 (.int .u8 0) 1 Tryd.underlying22 hi hz0 hz1 _ _ _ 0 rfl rfl rfl ?c1 ?c2 ?c3 ?_)
  case c1 => omega
  case c2 => unfold maxLen; omega
  case c3 => simp
  intro w1 hown hgrow
  have hbel : Below w.heap.size w w1 := ((Below.refl _ _).alloc (Nat.le_refl _) _).grown hgrow (by simp) (fun k e => by cases e)
  have hres : w1.heap[w.heap.size]? = some (.cells #[.int .i64 0, .string (strOfNums [])] 30 (0, 0)) := by
    rw [hgrow.block _ (by simp) (by simp)]
    show (w.heap.push _)[w.heap.size]? = _
    simp [strOfNums]
  obtain ⟨q0, q1, f0, f1⟩ := res_facts hres
  have hcv := conv_any (P := Tryd.prog) w1 22 5 9 Tryd.underlying22 Tryd.underlying5 Tryd.underlying9 (some ⟨w.heap.size + 1, 0, none⟩) 0 0 [] ⟨rfl, fun x hx => by simp at hx, fun _ => rfl, fun x hx i hi => by omega⟩
  have HB := hide hbel
  clear hown hgrow hbel hres
  generalize hT : strOfNums [] = T at hcv q1
  have HT := hide hT
  clear hT
  go_wp2_with fail
  refine wp_loop_rounds 1 ?_
  rw [rounds_succ]
  go_wp2_with fail
  exact bodyPost_ret (v := .agg #[.int .i64 0, .string T]) (by simp [results, Tryd.results14, go_sem, q0, q1]) rfl ⟨by rw [unhide HT], ((unhide HB).setCell (by simp) _).setCell (by simp) _⟩

set_option maxHeartbeats 1000000 in
theorem implHexOf_any (a : Option Addr) (len cap : Nat) (xs : List Int) (w : World) (h : BRow w a len xs) (hl : len ≤ 1048576) :
    Calls Tryd.prog 14 #[.slice a len cap] w fun e w' => e = .returned (.agg #[.int .i64 (hoCode xs), .string (hoText xs)]) ∧ Below w.heap.size w w' := by
  have hxl := h.1
  by_cases hm : 1200 < len
  · have e1 : hoCode xs = 2 := if_pos (by omega)
    have e2 : hoText xs = strOfNums [] := if_pos (by omega)
    rw [e1, e2]
    clear h e1 e2
    go_enter Tryd.func14, Tryd.ntmps14
    go_wp2_with fail
    exact bodyPost_ret (v := .agg #[.int .i64 2, .string (strOfNums [])]) (by simp [results, Tryd.results14, go_sem, strOfNums]) rfl ⟨rfl, (Below.refl _ _).alloc (Nat.le_refl _) _⟩
  · have e1 : hoCode xs = 0 := if_neg (by omega)
    have e2 : hoText xs = strOfNums (hexEnc xs) := if_neg (by omega)
    rw [e1, e2]
    rcases Nat.eq_zero_or_pos len with h0 | hp
    · subst h0
      have hx : xs = [] := List.length_eq_zero_iff.1 hxl
      subst hx
      exact implHexOf_zero a cap w
    · obtain ⟨b, off, rfl, _, _⟩ := h.at hp
      exact implHexOf_pos b off len cap xs w h (by omega) hp

end Go.Proofs.YtjdeobifhgdffaaDoor
