/- What is proved here: what the program's HeadBytes answers: the code and the head of an item, in new memory. -/
import Derived.Test.YtndkdngojjhinaaHeadF
import Derived.Test.YtndkdngojjhinaaSBytes
import Derived.Test.YtndkdngojjhinaaOwnSrc
import Derived.Test.YtndkdngojjhinaaFldB
import Derived.WalkKit
import Derived.WalkLawsBesides
import Derived.WalkSmall
import Derived.WalkSpells
import Derived.KernelRfl
namespace Go.Proofs.Ytndkdngojjhinaa
open Go.RowKit
set_option linter.unusedVariables false
set_option maxRecDepth 100000

theorem headStart_any (l : Bool) (w : World) : Calls Try.prog 42 #[.bool l] w fun e w' => e = .returned (.int .i64 (headB l)) ∧ w' = w := by
  cases l
  all_goals
    go_enter Try.func42, Try.ntmps42
    go_wp2
    go_ret
    exact ⟨rfl, rfl⟩

set_option maxHeartbeats 1000000 in
theorem implHead_out (l : Bool) (n : Int) (w : World) (h : n < 0 ∨ 1200 < n) :
    Calls Try.prog 40 #[.bool l, .int .i64 n] w fun e w' => e = .returned (.agg #[.int .i64 3, .slice none 0 0]) ∧ Below w.heap.size w w' := by
  by_cases h' : n < 0
  · have hd : decide (n < 0) = true := decide_eq_true h'
    go_enter Try.func40, Try.ntmps40
    go_wp2_with fail
    exact bodyPost_ret (v := .agg #[.int .i64 3, .slice none 0 0]) (by simp [results, Try.results40, go_sem]) rfl ⟨rfl, (Below.refl _ _).alloc (Nat.le_refl _) _⟩
  · have hd : decide (n < 0) = false := decide_eq_false h'
    have h2 : decide (1200 < n) = true := decide_eq_true (by omega)
    go_enter Try.func40, Try.ntmps40
    go_wp2_with fail
    exact bodyPost_ret (v := .agg #[.int .i64 3, .slice none 0 0]) (by simp [results, Try.results40, go_sem]) rfl ⟨rfl, (Below.refl _ _).alloc (Nat.le_refl _) _⟩

set_option maxHeartbeats 1000000 in
theorem implHead_small (l : Bool) (n : Int) (w : World) (h0 : 0 ≤ n) (h1 : n ≤ 55) :
    Calls Try.prog 40 #[.bool l, .int .i64 n] w fun e w' => ∃ a cap, e = .returned (.agg #[.int .i64 0, .slice a (headL l n).length cap]) ∧
      w'.ownsRow w.heap.size 5 1 (.slice a (headL l n).length cap) (headL l n).length ((headL l n).map (Value.int .u8)) ∧ Below w.heap.size w w' := by
  have e : headL l n = [headB l + n] := if_pos h1
  rw [e]
  have hb := headB_in l
  have hd : decide (n < 0) = false := decide_eq_false (by omega)
  have h2 : decide (1200 < n) = false := decide_eq_false (by omega)
  have h3 : decide (n ≤ 55) = true := decide_eq_true h1
  have HS := hide (fun W => headStart_any l W)
  generalize headB l = bb at HS hb
  go_enter Try.func40, Try.ntmps40
  go_wp2_with fail
  refine ((unhide HS) _).mono ?_
  rintro e w1 ⟨rfl, rfl⟩
  go_wp2_with fail
  refine bodyPost_ret (v := .agg #[.int .i64 0, .slice (some ⟨w.heap.size + 1, 0, none⟩) 1 1]) (by simp [results, Try.results40, go_sem]) rfl ⟨some ⟨w.heap.size + 1, 0, none⟩, 1, rfl, ?_, ?_⟩
  · have o := World.ownsRow_lit (base := w.heap.size) (e := 5) (size := 1) (w.alloc (.cells #[.int .i64 0, .slice (some ⟨w.heap.size + 1, 0, none⟩) 1 1] 30)) #[.int .u8 (bb + n)] 1 (by simp) (by unfold maxLen; omega) rfl
    simpa using o
  · exact ((Below.refl _ _).alloc (Nat.le_refl _) _).alloc (by simp) _

set_option maxHeartbeats 1000000 in
theorem implHead_long (l : Bool) (n : Int) (w : World) (h0 : 55 < n) (h1 : n ≤ 1200) :
    Calls Try.prog 40 #[.bool l, .int .i64 n] w fun e w' => ∃ a cap, e = .returned (.agg #[.int .i64 0, .slice a (headL l n).length cap]) ∧
      w'.ownsRow w.heap.size 5 1 (.slice a (headL l n).length cap) (headL l n).length ((headL l n).map (Value.int .u8)) ∧ Below w.heap.size w w' := by
  obtain ⟨i0, hi, hz0, hz1, hz2⟩ := info_parts info5
  have e : headL l n = (headB l + 55 + (shortF 7 n).length) :: shortF 7 n := if_neg (by omega)
  rw [e]
  have hb := headB_in l
  have hd : decide (n < 0) = false := decide_eq_false (by omega)
  have h2 : decide (1200 < n) = false := decide_eq_false (by omega)
  have h3 : decide (n ≤ 55) = false := decide_eq_false (by omega)
  have HS := hide (fun W => headStart_any l W)
  have HH := hide (fun W => implShort_pos n W (by omega) (by omega))
  have hs3 := shortF_small n (by omega) (by omega)
  have hs0 := shortF_pos n (by omega)
  clear e
  generalize headB l = bb at HS hb
  generalize shortF 7 n = L at HH hs3 hs0
  go_enter Try.func40, Try.ntmps40
  go_wp2_with fail
  refine ((unhide HS) _).mono ?_
  rintro e w1 ⟨rfl, rfl⟩
  go_wp2_with fail
  refine ((unhide HH) _).mono ?_
  rintro e w2 ⟨a, cap, rfl, hown, hbel⟩
  obtain ⟨g, cap', hv⟩ := own_some hown hs0
  simp only [Value.slice.injEq] at hv
  obtain ⟨rfl, _, rfl⟩ := hv
  have hsz : (w.alloc (.cells #[.int .i64 0, .slice none 0 0] 30)).heap.size = w.heap.size + 1 := by simp
  rw [hsz] at hown hbel
  have hz : w.heap.size + 1 ≤ w2.heap.size := by have := hbel.size; rw [hsz] at this; exact this
  have hfd := fldB1
  go_wp2_with (at_builtin; refine wpList_append_own _ rfl _ _ 28 rfl (w.heap.size + 1) 5 i0 (.int .u8 0) 1 1 Try.underlying28 hi hz0 hz1 hz2 rfl (by decide) _ 1 [.int .u8 _] rfl (World.ownsRow_lit w2 #[.int .u8 _] 1 hz (by unfold maxLen; omega) rfl) ⟨g, 0, none⟩ L.length _ (L.map (Value.int .u8)) rfl (by simp) ?c1 ?c2 ?c3 ?c4 ?c5 ?_)
  case c1 => intro j u hj; exact own_src hown _ j u hj
  case c2 => intro u hu; obtain ⟨x, _, rfl⟩ := List.mem_map.1 hu; rfl
  case c3 => unfold maxLen; omega
  case c4 => omega
  case c5 => simp; omega
  intro v' w3 hown3 hgrow _
  obtain ⟨a3, cap3, hv⟩ := own_shape hown3
  have hb1 : Below (w.heap.size + 1) (w.alloc (.cells #[.int .i64 0, .slice none 0 0] 30)) w3 := (hbel.alloc hz _).grown hgrow (by simp; omega) (fun g e => by cases e; exact hz)
  have hb3 : Below w.heap.size w w3 := ((Below.refl _ _).alloc (Nat.le_refl _) _).trans (hb1.mono (by omega))
  have q0 : w3.cell? ⟨w.heap.size, 0, none⟩ = some (.int .i64 0) := (hb1.cell (by simp)).trans (by simp)
  have q1 : w3.cell? ⟨w.heap.size, 1, none⟩ = some (.slice none 0 0) := (hb1.cell (by simp)).trans (by simp)
  have f0 : w3.frozen? ⟨w.heap.size, 0, none⟩ = false := (hb1.frozen (by simp)).trans (by simp)
  have f1 : w3.frozen? ⟨w.heap.size, 1, none⟩ = false := (hb1.frozen (by simp)).trans (by simp)
  rw [hv] at hown3
  rw [hv]
  have HO := hide hown3
  have HB := hide hb3
  clear hown3 hb3 hb1 hgrow hown hbel
  go_wp2_with fail
  refine bodyPost_ret (v := .agg #[.int .i64 0, .slice a3 (1 + L.length) cap3]) (by simp [results, Try.results40, go_sem, q0, q1]) rfl ⟨a3, cap3, ?_, ?_, ?_⟩
  · rw [Nat.add_comm]
  · have o : w3.ownsRow (w.heap.size + 1) 5 1 (.slice a3 (L.length + 1) cap3) (L.length + 1) (((bb + 55 + (L.length : Int)) :: L).map (Value.int .u8)) := by
      rw [Nat.add_comm L.length 1]; exact unhide HO
    exact ownsRow_base (ownsRow_setCell_below (ownsRow_setCell_below o (by simp) _) (by simp) _) (by omega)
  · exact ((unhide HB).setCell (by simp) _).setCell (by simp) _

theorem implHead_any (l : Bool) (n : Int) (w : World) :
    Calls Try.prog 40 #[.bool l, .int .i64 n] w fun e w' => ∃ a cap, e = .returned (.agg #[.int .i64 (hdCode n), .slice a (hdBytes l n).length cap]) ∧
      w'.ownsRow w.heap.size 5 1 (.slice a (hdBytes l n).length cap) (hdBytes l n).length ((hdBytes l n).map (Value.int .u8)) ∧ Below w.heap.size w w' := by
  by_cases hr : 0 ≤ n ∧ n ≤ 1200
  · have e1 : hdCode n = 0 := if_pos hr
    have e2 : hdBytes l n = headL l n := if_pos hr
    rw [e1, e2]
    by_cases h : n ≤ 55
    · exact implHead_small l n w hr.1 h
    · exact implHead_long l n w (by omega) hr.2
  · have e1 : hdCode n = 3 := if_neg hr
    have e2 : hdBytes l n = [] := if_neg hr
    rw [e1, e2]
    refine (implHead_out l n w (by omega)).mono fun e w' hq => ?_
    exact ⟨none, 0, hq.1, World.ownsRow_nil _ _ _ _, hq.2⟩

end Go.Proofs.Ytndkdngojjhinaa
