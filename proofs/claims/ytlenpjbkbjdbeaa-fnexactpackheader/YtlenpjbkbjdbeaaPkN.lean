/- What is proved here: what the program's PackHeader answers: the fault of a header, or its bytes in new memory. -/
import Derived.Test.YtlenpjbkbjdbeaaJoinC
import Derived.Test.YtlenpjbkbjdbeaaEncJ
import Derived.Test.YtlenpjbkbjdbeaaHfJ
namespace Go.Proofs.Ytlenpjbkbjdbeaa
open Go.RowKit
set_option linter.unusedVariables false

/-- What PackHeader answers. -/
def pkBytes (h : Hd) : List Int := if hdFlt h = 0 then packL h else []

set_option maxRecDepth 100000 in
set_option maxHeartbeats 8000000 in
theorem implPack_any (x : HS) (h : Hd) (w : World) (o : HOk w x h) (nn : HNil w x) (m : HSm h) :
    Calls Try.prog 11 #[.agg (hvals x h)] w fun e w' => ∃ a c, e = .returned (.agg #[.int .i64 (hdFlt h), .slice a (pkBytes h).length c]) ∧
      w'.ownsRow w.heap.size 5 1 (.slice a (pkBytes h).length c) (pkBytes h).length ((pkBytes h).map (Value.int .u8)) ∧ Below w.heap.size w w' := by
  have kb := SBlk.new w (hvals x h) 28
  have bb := below_alloc w (.cells (hvals x h) 28)
  have zb : (w.alloc (.cells (hvals x h) 28)).heap.size = w.heap.size + 1 := by simp
  obtain ⟨W0, eb⟩ : ∃ W0, w.alloc (.cells (hvals x h) 28) = W0 := ⟨_, rfl⟩
  rw [eb] at kb bb zb
  have k1 := (kb.next (.cells #[.int .i64 0, .slice none 0 0] 33))
  have kr := SBlk.new W0 #[.int .i64 0, .slice none 0 0] 33
  have b1 := bb.alloc bb.size (.cells #[.int .i64 0, .slice none 0 0] 33)
  have z1 : (W0.alloc (.cells #[.int .i64 0, .slice none 0 0] 33)).heap.size = w.heap.size + 2 := by simp; omega
  rw [zb] at kr
  obtain ⟨W1, e1⟩ : ∃ W1, W0.alloc (.cells #[.int .i64 0, .slice none 0 0] 33) = W1 := ⟨_, rfl⟩
  rw [e1] at k1 kr b1 z1
  have HCB := hide (fun (W' : World) (hb : Below W1.heap.size W1 W') => hcells (k1.below hb k1.lt))
  have HRB := hide (fun (W' : World) (hb : Below W1.heap.size W1 W') => kr.below hb kr.lt)
  have HON := hide (fun (W' : World) (hb : Below w.heap.size w W') => And.intro (o.below hb (Nat.le_refl _)) (nn.below hb (Nat.le_refl _)))
  have D1 := hide (implHeaderFault_any x h W1 (o.below b1 (Nat.le_refl _)) m)
  have HB1 := hide b1
  obtain ⟨x0, x1, x2, x3, x4, x5, x6, x7, x8, x9, x10⟩ := hcells k1
  have hz2 : w.heap.size + 1 < W1.heap.size := by omega
  clear o nn m kb bb k1 kr b1 zb
  have HD0 := hide (fun (W' : World) => blockOf_any x h W')
  have HIT : Hid (hdFlt h = 0 → ∀ (W' : World), Below w.heap.size w W' → Calls Try.prog 30 #[.agg (hvals x h)] W' fun e w' => ∃ a c, e = .returned (.slice a (hIts h).length c) ∧ ItRowN w' a (hIts h).length (hIts h) ∧ Below W'.heap.size W' w') := fun hf W' hb => items_any x h (good_of hf) W' ((unhide HON) W' hb).1 ((unhide HON) W' hb).2
  have HEN : Hid (hdFlt h = 0 → ∀ (W' : World) (a : Option Addr) (c : Nat), ItRowN W' a (hIts h).length (hIts h) → Calls Try.prog 29 #[.slice a (hIts h).length c] W' fun e w' => ∃ a' c', e = .returned (.agg #[.int .i64 0, .slice a' (packL h).length c']) ∧ w'.ownsRow W'.heap.size 5 1 (.slice a' (packL h).length c') (packL h).length ((packL h).map (Value.int .u8)) ∧ Below W'.heap.size W' w') := fun hf W' a c hr => by
    have gd := good_of hf
    obtain ⟨q1, q2⟩ := en_header gd
    have hl := hIts_len h
    have g1 := gd.s
    have g2 := gd.k
    have := implEnc_any a (hIts h).length c (hIts h) W' hr (by omega)
    rw [q1, q2] at this
    exact this
  have HPB : Hid (pkBytes h = if hdFlt h = 0 then packL h else []) := rfl
  clear HON
  generalize hdFlt h = q at D1 HIT HEN HPB ⊢
  generalize hIts h = IT at HIT HEN
  generalize IT.length = il at HIT HEN
  generalize packL h = PL at HEN HPB
  generalize pkBytes h = PB at HPB ⊢
  unfold hvals at eb D1 HD0 HIT ⊢
  have EB := hide eb
  have E1 := hide e1
  clear eb e1
  go_enter Try.func11, Try.ntmps11
  go_upto_region 1 with fail
  rw [unhide EB, unhide E1]
  clear EB E1
  go_wp2_with fail
  refine (unhide D1).mono ?_
  rintro e w2 ⟨rfl, b2⟩
  have kr2 := (unhide HRB) w2 b2
  have r0 := kr2.cell 0
  have r1 := kr2.cell 1
  have f0 := kr2.free 0
  have f1 := kr2.free 1
  simp only [List.getElem?_cons_zero, List.getElem?_cons_succ] at r0 r1
  have HB2 := hide ((unhide HB1).trans (b2.mono (unhide HB1).size))
  have K2 := hide b2
  clear b2 kr2 x0 x1 x2 x3 x4 x5 x6 x7 x8 x9 x10 D1
  by_cases hq : q = 0
  · subst hq
    have HPB2 : Hid (PB = PL) := by show _ = _; rw [unhide HPB, if_pos rfl]
    obtain ⟨y0, y1, y2, y3, y4, y5, y6, y7, y8, y9, y10⟩ := (unhide HCB) w2 (unhide K2)
    go_wp2_with fail
    refine ((unhide HD0) _).mono ?_
    rintro e w3 ⟨rfl, b3⟩
    have HB3 := hide ((unhide HB2).trans (b3.mono (unhide HB2).size))
    have K3 := hide ((unhide K2).trans (b3.mono (unhide K2).size))
    clear b3 y0 y1 y2 y3 y4 y5 y6 y7 y8 y9 y10
    go_wp2_with fail
    refine ((unhide HIT) (by first | exact rfl | trivial) _ (unhide HB3)).mono ?_
    rintro e w4 ⟨a4, c4, rfl, row4, b4⟩
    have HB4 := hide ((unhide HB3).trans (b4.mono (unhide HB3).size))
    have K4 := hide ((unhide K3).trans (b4.mono (unhide K3).size))
    clear b4
    go_wp2_with fail
    refine ((unhide HEN) (by first | exact rfl | trivial) _ a4 c4 row4).mono ?_
    rintro e w5 ⟨a5, c5, rfl, o5, b5⟩
    have HB5 := hide ((unhide HB4).trans (b5.mono (unhide HB4).size))
    have K5 := (unhide K4).trans (b5.mono (unhide K4).size)
    have kr5 := (unhide HRB) w5 K5
    have s0 := kr5.cell 0
    have s1 := kr5.cell 1
    have g0 := kr5.free 0
    have g1 := kr5.free 1
    simp only [List.getElem?_cons_zero, List.getElem?_cons_succ] at s0 s1
    have hz4 : w.heap.size + 1 < w4.heap.size := Nat.lt_of_lt_of_le hz2 (unhide K4).size
    have HO5 := hide o5
    have hwz : w.heap.size ≤ w4.heap.size := (unhide HB4).size
    clear K5 kr5 o5 b5 row4 r0 r1 f0 f1
    go_wp2_with fail
    refine bodyPost_ret (v := .agg #[.int .i64 0, .slice a5 PL.length c5]) (by simp [results, Try.results11, go_sem, s0, s1]) rfl ⟨a5, c5, by rw [unhide HPB2], ?_, ?_⟩
    · rw [unhide HPB2]
      exact ownsRow_base (ownsRow_setCell_below (ownsRow_setCell_below (unhide HO5) (by show w.heap.size + 1 < w4.heap.size; omega) _) (by show w.heap.size + 1 < w4.heap.size; omega) _) hwz
    · exact ((unhide HB5).setCell (p := ⟨w.heap.size + 1, _, none⟩) (by show w.heap.size ≤ w.heap.size + 1; omega) _).setCell (p := ⟨w.heap.size + 1, _, none⟩) (by show w.heap.size ≤ w.heap.size + 1; omega) _
  · have hne : (q != 0) = true := by simp [hq]
    have HPB2 : Hid (PB = []) := by show _ = _; rw [unhide HPB, if_neg hq]
    clear hq
    go_wp2_with fail
    refine bodyPost_ret (v := .agg #[.int .i64 q, .slice none 0 0]) (by simp [results, Try.results11, go_sem, r0, r1]) rfl ⟨none, 0, by rw [unhide HPB2]; rfl, ?_, ?_⟩
    · rw [unhide HPB2]; exact World.ownsRow_nil _ _ _ _
    · exact ((unhide HB2).setCell (p := ⟨w.heap.size + 1, _, none⟩) (by show w.heap.size ≤ w.heap.size + 1; omega) _).setCell (p := ⟨w.heap.size + 1, _, none⟩) (by show w.heap.size ≤ w.heap.size + 1; omega) _

end Go.Proofs.Ytlenpjbkbjdbeaa
