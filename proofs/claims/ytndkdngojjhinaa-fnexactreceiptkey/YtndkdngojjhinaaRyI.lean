/- What is proved here: what the program's ReceiptKey answers: a number's bytes as an item. -/
import Derived.Test.YtndkdngojjhinaaRyF
import Derived.Test.YtndkdngojjhinaaRpK0
import Derived.Test.YtndkdngojjhinaaEncJ
import Derived.Test.YtndkdngojjhinaaSBytes
import Derived.Test.YtndkdngojjhinaaFldB
namespace Go.Proofs.Ytndkdngojjhinaa
open Go.RowKit
set_option linter.unusedVariables false
set_option maxRecDepth 100000

theorem own_cap0 {w : World} {B n cap : Nat} {a : Option Addr} {e : TypeId} {xs : List Value} (h : w.ownsRow B e 1 (.slice a n cap) n xs) : a = none → cap = 0 := by
  rintro rfl
  rcases h.2 with ⟨h1, _⟩ | ⟨g, cap', cur, h1, _⟩
  · simp at h1; exact h1.2
  · simp at h1

theorem itRow_one (w : World) (a : Option Addr) (n c : Nat) (z : List Int) (T : TypeId) (h : BRow (w.alloc (.cells #[.bool false, .int .i64 (-1), .slice a n c] T)) a n z) (hc : a = none → c = 0) (hz : z.length ≤ 1048576) : ItRowN (w.alloc (.cells #[.bool false, .int .i64 (-1), .slice a n c] T)) (some ⟨w.heap.size, 0, none⟩) 1 [⟨false, -1, z⟩] := by
  refine ⟨⟨rfl, ?_, fun _ => ⟨w.heap.size, 0, rfl, ?_⟩⟩, ?_⟩
  · intro it hit
    simp at hit
    subst hit
    exact ⟨by show (-9223372036854775808 : Int) ≤ -1; decide, by show (-1 : Int) ≤ 9223372036854775807; decide, by unfold maxLen; show z.length ≤ _; omega⟩
  · intro i it hi
    cases i with
    | zero =>
      simp at hi
      subst hi
      exact ⟨a, n, c, by simp, by simp, by simp, h⟩
    | succ i => simp at hi
  · intro b off e i hi
    simp only [Option.some.injEq, Addr.mk.injEq, and_true] at e
    obtain ⟨rfl, rfl⟩ := e
    obtain rfl : i = 0 := by omega
    exact ⟨a, n, c, by simp, hc⟩

set_option maxHeartbeats 2000000 in
theorem implKey_any (n : Int) (w : World) :
    Calls Try.prog 11 #[.int .i64 n] w fun e w' => ∃ a cap, e = .returned (.agg #[.int .i64 (rkCode n), .slice a (rkBytes n).length cap]) ∧
      w'.ownsRow w.heap.size 5 1 (.slice a (rkBytes n).length cap) (rkBytes n).length ((rkBytes n).map (Value.int .u8)) ∧ Below w.heap.size w w' := by
  have HI := hide (fun (W : World) => rWithin_any n 0 9999 W)
  by_cases hn : 0 ≤ n ∧ n ≤ 9999
  · rw [decide_eq_true hn] at HI
    have e1 : rkCode n = 0 := if_pos hn
    have e2 : rkBytes n = rkZ n := if_pos hn
    have e3 : sbCode n = 0 := if_pos (by omega)
    have e4 : sbBytes n = shortF 7 n := if_pos (by omega)
    obtain ⟨k1, k2⟩ := rk_enc n
    have hl7 := shortF_length 7 n
    have HR := hide (shortF_range 7 n)
    have SB := hide (fun (W : World) => implShort_any n W)
    rw [e3, e4] at SB
    rw [e1, e2]
    have EN := hide (fun (b : Nat) (W : World) (h : ItRowN W (some ⟨b, 0, none⟩) 1 [⟨false, -1, shortF 7 n⟩]) => implEnc_any (some ⟨b, 0, none⟩) 1 1 [⟨false, -1, shortF 7 n⟩] W h (by decide))
    rw [k1, k2] at EN
    clear e1 e2 e3 e4 k1 k2 hn
    generalize rkZ n = Z at EN
    generalize shortF 7 n = z at SB EN HR hl7
    go_enter Try.func11, Try.ntmps11
    go_wp2_with fail
    refine ((unhide HI) _).mono ?_
    rintro e w1 ⟨rfl, rfl⟩
    go_wp2_with fail
    refine ((unhide SB) _).mono ?_
    rintro e w2 ⟨a2, c2, rfl, o2, b2⟩
    have z0 : (w.alloc (.cells #[.int .i64 0, .slice none 0 0] 30)).heap.size = w.heap.size + 1 := by simp
    rw [z0] at b2
    have hs2 : w.heap.size + 1 ≤ w2.heap.size := by have := b2.size; omega
    have hnil : a2 = none → c2 = 0 := own_cap0 o2
    have b3 := b2.trans ((below_alloc w2 (.cells #[.bool false, .int .i64 (-1), .slice a2 z.length c2] 47)).mono (by omega))
    have r2 := (BRow.own2 o2 (unhide HR)).below (below_alloc w2 (.cells #[.bool false, .int .i64 (-1), .slice a2 z.length c2] 47)) (Nat.le_refl _)
    have hit := itRow_one w2 a2 z.length c2 z 47 r2 hnil (by omega)
    have zz : (w2.alloc (.cells #[.bool false, .int .i64 (-1), .slice a2 z.length c2] 47)).heap.size = w2.heap.size + 1 := by simp
    have HB3 := hide b3
    have HIT := hide hit
    have fB := fldB1
    clear o2 b2 r2 hit b3 hnil
    go_wp2_with fail
    refine ((unhide EN) _ _ (unhide HIT)).mono ?_
    rintro e w4 ⟨a4, c4, rfl, o4, b4⟩
    rw [zz] at b4 o4
    have B4 := (unhide HB3).trans (b4.mono (by omega))
    obtain ⟨r0, r1, g0, g1, hbw, hsz⟩ := behind_res B4
    have HO := hide o4
    have HBW := hide hbw
    clear o4 b4 B4 hbw
    go_wp2_with fail
    refine bodyPost_ret (v := .agg #[.int .i64 0, .slice a4 Z.length c4]) (by simp [results, Try.results11, go_sem, r0, r1]) rfl ⟨a4, c4, rfl, ?_, ?_⟩
    · exact ownsRow_base (ownsRow_setCell_below (ownsRow_setCell_below (unhide HO) (by show w.heap.size < w2.heap.size + 1; omega) _) (by show w.heap.size < w2.heap.size + 1; omega) _) (by omega)
    · exact ((unhide HBW).setCell (by simp) _).setCell (by simp) _
  · rw [decide_eq_false hn] at HI
    have e1 : rkCode n = 3 := if_neg hn
    have e2 : rkBytes n = [] := if_neg hn
    rw [e1, e2]
    clear e1 e2 hn
    go_enter Try.func11, Try.ntmps11
    go_wp2_with fail
    refine ((unhide HI) _).mono ?_
    rintro e w1 ⟨rfl, rfl⟩
    go_wp2_with fail
    exact bodyPost_ret (v := .agg #[.int .i64 3, .slice none 0 0]) (by simp [results, Try.results11, go_sem]) rfl ⟨none, 0, rfl, World.ownsRow_nil _ _ _ _, (Below.refl _ _).alloc (Nat.le_refl _) _⟩

end Go.Proofs.Ytndkdngojjhinaa
