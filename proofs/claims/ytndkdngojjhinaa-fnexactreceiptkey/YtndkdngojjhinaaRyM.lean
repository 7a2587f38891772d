/- What is proved here: what the model's ReceiptKey answers. -/
import Derived.Test.YtndkdngojjhinaaRyF
import Derived.Test.YtndkdngojjhinaaEncS
import Derived.Test.YtndkdngojjhinaaL1Short
import Derived.Test.YtndkdngojjhinaaIn
import Derived.Test.YtndkdngojjhinaaBehR
namespace Go.Proofs.Ytndkdngojjhinaa
open Go.RowKit
set_option linter.unusedVariables false
set_option maxRecDepth 100000

theorem own_cap1 {w : World} {B n cap : Nat} {a : Option Addr} {e : TypeId} {xs : List Value} (h : w.ownsRow B e 1 (.slice a n cap) n xs) : a = none → cap = 0 := by
  rintro rfl
  rcases h.2 with ⟨h1, _⟩ | ⟨g, cap', cur, h1, _⟩
  · simp at h1; exact h1.2
  · simp at h1

theorem l14Index_any (n : Int) (w : World) : Calls Try.prog 22 #[.int .i64 n] w fun e w' => e = .returned (.bool (decide (0 ≤ n ∧ n ≤ 9999))) ∧ w' = w := by
  have HI := hide (fun (W : World) => in_any n 0 9999 W)
  generalize decide (0 ≤ n ∧ n ≤ 9999) = b at HI
  go_enter Try.func22, Try.ntmps22
  go_wp2_with fail
  refine ((unhide HI) _).mono ?_
  rintro e w1 ⟨rfl, rfl⟩
  go_wp2_with fail
  go_ret
  exact ⟨rfl, rfl⟩

theorem l14Key_any (n : Int) (w : World) (h0 : 0 ≤ n) (h1 : n ≤ 9999) :
    Calls Try.prog 23 #[.int .i64 n] w fun e w' => ∃ a cap, e = .returned (.slice a (rkZ n).length cap) ∧
      w'.ownsRow w.heap.size 5 1 (.slice a (rkZ n).length cap) (rkZ n).length ((rkZ n).map (Value.int .u8)) ∧ Below w.heap.size w w' := by
  have SB := hide (fun (W : World) => l1Short_any 7 n W h0 (by omega) (by omega) (by omega))
  have hl7 := shortF_length 7 n
  have HR := hide (shortF_range 7 n)
  have PC := hide (fun (a : Option Addr) (c : Nat) (W : World) (h : BRow W a (shortF 7 n).length (shortF 7 n)) (hc : a = none → c = 0) => l3Piece_any a (shortF 7 n).length c (shortF 7 n) W h hc (by omega))
  unfold rkZ
  have e : ∀ z, rkPc z = pieceHd z ++ z := fun z => rfl
  rw [e]
  generalize pieceHd (shortF 7 n) ++ shortF 7 n = Z at PC
  generalize shortF 7 n = z at SB PC HR hl7
  clear e h0 h1
  go_enter Try.func23, Try.ntmps23
  go_wp2_with fail
  refine ((unhide SB) _).mono ?_
  rintro e w2 ⟨a2, c2, rfl, o2, b2⟩
  have r2 := BRow.own2 o2 (unhide HR)
  have hnil : a2 = none → c2 = 0 := own_cap1 o2
  have HB2 := hide b2
  clear o2 b2
  go_wp2_with fail
  refine ((unhide PC) a2 c2 _ r2 hnil).mono ?_
  rintro e w3 ⟨a3, c3, rfl, o3, b3⟩
  have HO := hide o3
  have HB3 := hide ((unhide HB2).trans (b3.mono (unhide HB2).size))
  have hsz := (unhide HB2).size
  clear o3 b3 r2 hnil
  go_wp2_with fail
  go_ret
  exact ⟨a3, c3, rfl, ownsRow_base (unhide HO) hsz, unhide HB3⟩

set_option maxHeartbeats 2000000 in
theorem specKey_any (n : Int) (w : World) :
    Calls Try.prog 10 #[.int .i64 n] w fun e w' => ∃ a cap, e = .returned (.agg #[.int .i64 (rkCode n), .slice a (rkBytes n).length cap]) ∧
      w'.ownsRow w.heap.size 5 1 (.slice a (rkBytes n).length cap) (rkBytes n).length ((rkBytes n).map (Value.int .u8)) ∧ Below w.heap.size w w' := by
  have HI := hide (fun (W : World) => l14Index_any n W)
  by_cases hn : 0 ≤ n ∧ n ≤ 9999
  · rw [decide_eq_true hn] at HI
    have e1 : rkCode n = 0 := if_pos hn
    have e2 : rkBytes n = rkZ n := if_pos hn
    rw [e1, e2]
    have HK := hide (fun (W : World) => l14Key_any n W hn.1 hn.2)
    clear e1 e2 hn
    generalize rkZ n = Z at HK
    go_enter Try.func10, Try.ntmps10
    go_wp2_with fail
    refine ((unhide HI) _).mono ?_
    rintro e w1 ⟨rfl, rfl⟩
    go_wp2_with fail
    refine ((unhide HK) _).mono ?_
    rintro e w2 ⟨a2, c2, rfl, o2, b2⟩
    have hsz : (w.alloc (.cells #[.int .i64 0, .slice none 0 0] 30)).heap.size = w.heap.size + 1 := by simp
    rw [hsz] at o2 b2
    obtain ⟨r0, r1, g0, g1, hbw, hz⟩ := behind_res b2
    have HO := hide o2
    have HB := hide hbw
    clear o2 b2 hbw hsz
    go_wp2_with fail
    refine bodyPost_ret (v := .agg #[.int .i64 0, .slice a2 Z.length c2]) (by simp [results, Try.results10, go_sem, r0, r1]) rfl ⟨a2, c2, rfl, ?_, ?_⟩
    · exact ownsRow_base (ownsRow_setCell_below (ownsRow_setCell_below (unhide HO) (by simp) _) (by simp) _) (by omega)
    · exact ((unhide HB).setCell (by simp) _).setCell (by simp) _
  · rw [decide_eq_false hn] at HI
    have e1 : rkCode n = 3 := if_neg hn
    have e2 : rkBytes n = [] := if_neg hn
    rw [e1, e2]
    clear e1 e2 hn
    go_enter Try.func10, Try.ntmps10
    go_wp2_with fail
    refine ((unhide HI) _).mono ?_
    rintro e w1 ⟨rfl, rfl⟩
    go_wp2_with fail
    exact bodyPost_ret (v := .agg #[.int .i64 3, .slice none 0 0]) (by simp [results, Try.results10, go_sem]) rfl ⟨none, 0, rfl, World.ownsRow_nil _ _ _ _, (Below.refl _ _).alloc (Nat.le_refl _) _⟩

end Go.Proofs.Ytndkdngojjhinaa
