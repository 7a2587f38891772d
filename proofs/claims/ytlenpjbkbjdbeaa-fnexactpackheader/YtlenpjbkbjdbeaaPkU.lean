/- What is proved here: what the model's PackHeader answers: the fault of a header, or its bytes in new memory. -/
import Derived.Test.YtlenpjbkbjdbeaaPkT
import Derived.Test.YtlenpjbkbjdbeaaPkN
import Derived.Test.YtlenpjbkbjdbeaaHfS
namespace Go.Proofs.Ytlenpjbkbjdbeaa
open Go.RowKit
set_option linter.unusedVariables false

set_option maxRecDepth 100000 in
set_option maxHeartbeats 8000000 in
theorem specPack_any (x : HS) (h : Hd) (w : World) (o : HOk w x h) (nn : HNil w x) (m : HSm h) :
    Calls Try.prog 10 #[.agg (hvals x h)] w fun e w' => ∃ a c, e = .returned (.agg #[.int .i64 (hdFlt h), .slice a (pkBytes h).length c]) ∧
      w'.ownsRow w.heap.size 5 1 (.slice a (pkBytes h).length c) (pkBytes h).length ((pkBytes h).map (Value.int .u8)) ∧ Below w.heap.size w w' := by
  have kb := SBlk.new w (hvals x h) 28
  have bb := below_alloc w (.cells (hvals x h) 28)
  have zb : (w.alloc (.cells (hvals x h) 28)).heap.size = w.heap.size + 1 := by simp
  obtain ⟨W0, eb⟩ : ∃ W0, w.alloc (.cells (hvals x h) 28) = W0 := ⟨_, rfl⟩
  rw [eb] at kb bb zb
  have k1 := (kb.next (.cells #[.int .i64 0, .slice none 0 0] 33))
  have kr := SBlk.new W0 #[.int .i64 0, .slice none 0 0] 33
  have b1 := bb.alloc bb.size (.cells #[.int .i64 0, .slice none 0 0] 33)
  have z1 : (W0.alloc (.cells #[.int .i64 0, .slice none 0 0] 33)).heap.size = w.heap.size + 2 := by simp; omega
  rw [zb] at kr
  obtain ⟨W1, e1⟩ : ∃ W1, W0.alloc (.cells #[.int .i64 0, .slice none 0 0] 33) = W1 := ⟨_, rfl⟩
  rw [e1] at k1 kr b1 z1
  have HRB := hide (fun (W' : World) (hb : Below W1.heap.size W1 W') => kr.below hb kr.lt)
  have D1 := hide (l5Fault_any w.heap.size x h _ W1 k1 (o.below b1 (Nat.le_refl _)) m)
  have HPK : Hid (hdFlt h = 0 → ∀ n, Calls Try.prog 28 #[.pointer (some ⟨w.heap.size, 0, none⟩)] (W1.drewN n) fun e w' => ∃ a c, e = .returned (.slice a (packL h).length c) ∧ w'.ownsRow W1.heap.size 5 1 (.slice a (packL h).length c) (packL h).length ((packL h).map (Value.int .u8)) ∧ Below W1.heap.size W1 w') := fun hf n => by
    have bd : Below W1.heap.size W1 (W1.drewN n) := below_drewN (Below.refl _ _) n
    refine (l5Pack_any w.heap.size x h _ (W1.drewN n) (k1.below bd k1.lt) ((o.below b1 (Nat.le_refl _)).below bd (Nat.le_refl _)) ((nn.below b1 (Nat.le_refl _)).below bd (Nat.le_refl _)) (good_of hf)).mono ?_
    rintro e w' ⟨a, c, he, ho, hb⟩
    exact ⟨a, c, he, ownsRow_base ho bd.size, bd.trans (hb.mono bd.size)⟩
  have HB1 := hide b1
  have hz2 : w.heap.size + 1 < W1.heap.size := by omega
  clear o nn m kb bb k1 kr b1 zb
  have HPB : Hid (pkBytes h = if hdFlt h = 0 then packL h else []) := rfl
  generalize hdFlt h = q at D1 HPK HPB ⊢
  generalize packL h = PL at HPK HPB
  generalize pkBytes h = PB at HPB ⊢
  unfold hvals at eb ⊢
  have EB := hide eb
  have E1 := hide e1
  clear eb e1
  go_enter Try.func10, Try.ntmps10
  go_upto_region 1 with fail
  rw [unhide EB, unhide E1]
  clear EB E1
  go_wp2_with fail
  refine (unhide D1).mono ?_
  rintro e w2 ⟨rfl, n2, rfl⟩
  have bd : Below W1.heap.size W1 (W1.drewN n2) := below_drewN (Below.refl _ _) n2
  have kr2 := (unhide HRB) _ bd
  have r0 := kr2.cell 0
  have r1 := kr2.cell 1
  have f0 := kr2.free 0
  have f1 := kr2.free 1
  simp only [List.getElem?_cons_zero, List.getElem?_cons_succ] at r0 r1
  have HB2 := hide ((unhide HB1).trans (bd.mono (unhide HB1).size))
  clear bd kr2 D1
  by_cases hq : q = 0
  · subst hq
    have HPB2 : Hid (PB = PL) := by show _ = _; rw [unhide HPB, if_pos rfl]
    go_wp2_with fail
    refine ((unhide HPK) (by first | exact rfl | trivial) n2).mono ?_
    rintro e w5 ⟨a5, c5, rfl, o5, b5⟩
    have HB5 := hide ((unhide HB1).trans (b5.mono (unhide HB1).size))
    have kr5 := (unhide HRB) w5 b5
    have s0 := kr5.cell 0
    have s1 := kr5.cell 1
    have g0 := kr5.free 0
    have g1 := kr5.free 1
    simp only [List.getElem?_cons_zero, List.getElem?_cons_succ] at s0 s1
    have HO5 := hide o5
    have hwz : w.heap.size ≤ W1.heap.size := (unhide HB1).size
    clear kr5 o5 b5 r0 r1 f0 f1
    go_wp2_with fail
    refine bodyPost_ret (v := .agg #[.int .i64 0, .slice a5 PL.length c5]) (by simp [results, Try.results10, go_sem, s0, s1]) rfl ⟨a5, c5, by rw [unhide HPB2], ?_, ?_⟩
    · rw [unhide HPB2]
      exact ownsRow_base (ownsRow_setCell_below (ownsRow_setCell_below (unhide HO5) (by show w.heap.size + 1 < W1.heap.size; omega) _) (by show w.heap.size + 1 < W1.heap.size; omega) _) hwz
    · exact ((unhide HB5).setCell (p := ⟨w.heap.size + 1, _, none⟩) (by show w.heap.size ≤ w.heap.size + 1; omega) _).setCell (p := ⟨w.heap.size + 1, _, none⟩) (by show w.heap.size ≤ w.heap.size + 1; omega) _
  · have hne : (q != 0) = true := by simp [hq]
    have HPB2 : Hid (PB = []) := by show _ = _; rw [unhide HPB, if_neg hq]
    clear hq
    go_wp2_with fail
    refine bodyPost_ret (v := .agg #[.int .i64 q, .slice none 0 0]) (by simp [results, Try.results10, go_sem, r0, r1]) rfl ⟨none, 0, by rw [unhide HPB2]; rfl, ?_, ?_⟩
    · rw [unhide HPB2]; exact World.ownsRow_nil _ _ _ _
    · exact ((unhide HB2).setCell (p := ⟨w.heap.size + 1, _, none⟩) (by show w.heap.size ≤ w.heap.size + 1; omega) _).setCell (p := ⟨w.heap.size + 1, _, none⟩) (by show w.heap.size ≤ w.heap.size + 1; omega) _

end Go.Proofs.Ytlenpjbkbjdbeaa
