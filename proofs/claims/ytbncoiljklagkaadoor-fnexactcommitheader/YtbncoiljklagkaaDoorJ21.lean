/- What is proved here: what the program's CommitOf answers: the code, and a commit in new memory. -/
import Derived.Test.YtbncoiljklagkaaDoorJ20
namespace Go.Proofs.YtbncoiljklagkaaDoor
open Go.RowKit
set_option linter.unusedVariables false

set_option maxRecDepth 100000 in
set_option maxHeartbeats 2000000 in
theorem implCommit_any (a : Option Addr) (n c : Nat) (b : Option Addr) (m d : Nat) (xs ys : List Int) (w : World) (h : BRow w a n xs) (k : BRow w b m ys) (hc : a = none → c = 0) (hd : b = none → d = 0) (hn : n ≤ 1048576) (hm : m ≤ 1048576) (hv : Laid w) :
    Calls Tryd.prog 25 #[.slice a n c, .slice b m d] w fun e w' => ∃ a' c', e = .returned (.agg #[.int .i64 (slCode xs ys), .slice a' (cmBytes xs ys).length c']) ∧
      w'.ownsRow w.heap.size 5 1 (.slice a' (cmBytes xs ys).length c') (cmBytes xs ys).length ((cmBytes xs ys).map (Value.int .u8)) ∧ Below w.heap.size w w' := by
  have hxl := h.1
  have hyl := k.1
  have HA := hide (fun W => isAddr_any a n c W)
  have HH := hide (fun W => isHash_any b m d W)
  have kr := SBlk.new w #[.int .i64 0, .slice none 0 0] 28
  have b1 := below_alloc w (.cells #[.int .i64 0, .slice none 0 0] 28)
  have z1 : (w.alloc (.cells #[.int .i64 0, .slice none 0 0] 28)).heap.size = w.heap.size + 1 := by simp
  obtain ⟨W1, e1⟩ : ∃ W1, w.alloc (.cells #[.int .i64 0, .slice none 0 0] 28) = W1 := ⟨_, rfl⟩
  rw [e1] at kr b1 z1
  have r0 := kr.cell 0
  have r1 := kr.cell 1
  have f0 := kr.free 0
  have f1 := kr.free 1
  simp only [List.getElem?_cons_zero, List.getElem?_cons_succ] at r0 r1
  have HB1 := hide b1
  have E1 := hide e1
  clear e1
  by_cases h1 : n = 4
  · by_cases h2 : m = 32
    · subst h1 h2
      have e1 : slCode xs ys = 0 := if_pos ⟨hxl, hyl⟩
      have e2 : cmBytes xs ys = xs ++ markL xs ys := if_pos ⟨hxl, hyl⟩
      have e3 : (xs ++ markL xs ys).length = 8 := by rw [List.length_append, mark4 hxl hyl, hxl]
      have HMR := hide (markL_rng h.2.1 k.2.1)
      have bo := below_alloc W1 (.cells #[.int .u8 1] 5)
      have zo : (W1.alloc (.cells #[.int .u8 1] 5)).heap.size = w.heap.size + 2 := by simp; omega
      have ro : BRow (W1.alloc (.cells #[.int .u8 1] 5)) (some ⟨w.heap.size + 1, 0, none⟩) 1 [1] := ⟨rfl, fun x hx => by simp at hx; omega, fun e => (by cases e), fun y hy j hj => by
        cases hy
        obtain rfl : j = 0 := by omega
        rw [add_none, Nat.zero_add, ← z1, World.cell?_alloc_new]
        rfl⟩
      obtain ⟨W2, e4⟩ : ∃ W2, W1.alloc (.cells #[.int .u8 1] 5) = W2 := ⟨_, rfl⟩
      rw [e4] at bo zo ro
      have b2 := b1.trans (bo.mono b1.size)
      have z3 : (W2.alloc (.cells #[.slice a 4 c, .slice (some ⟨w.heap.size + 1, 0, none⟩) 1 1, .slice b 32 d] 22)).heap.size = w.heap.size + 3 := by simp; omega
      have D : Hid (Calls Tryd.prog 47 #[.slice (some ⟨w.heap.size + 2, 0, none⟩) 3 3] (W2.alloc (.cells #[.slice a 4 c, .slice (some ⟨w.heap.size + 1, 0, none⟩) 1 1, .slice b 32 d] 22)) fun e w' => ∃ g' c', e = .returned (.slice (some ⟨g', 0, none⟩) 4 c') ∧ BRow w' (some ⟨g', 0, none⟩) 4 (markL xs ys) ∧ Below (w.heap.size + 2) W2 w') := by
        have b3 := below_alloc W2 (.cells #[.slice a 4 c, .slice (some ⟨w.heap.size + 1, 0, none⟩) 1 1, .slice b 32 d] 22)
        obtain ⟨R, N⟩ := three_row W2 a 4 c xs (some ⟨w.heap.size + 1, 0, none⟩) 1 1 [1] b 32 d ys 22 (h.below b2 (Nat.le_refl _)) ro (k.below b2 (Nat.le_refl _)) hn (by omega) hm hc (fun e => by cases e) hd
        rw [zo] at R N
        have ef : [xs, [1], ys].flatten = xs ++ 1 :: ys := by simp
        have K := markOf_any _ 3 3 [xs, [1], ys] _ R N (by omega) (by rw [ef]; simp; omega) (by rw [ef]; simp; omega) ((hv.below b2 (Nat.le_refl _)).below b3 (Nat.le_refl _))
        rw [ef] at K
        rw [z3] at K
        refine K.mono ?_
        rintro e w' ⟨a', c', rfl, ho, hb⟩
        obtain ⟨g', c'', he⟩ := own_some ho (by omega)
        simp only [Value.slice.injEq] at he
        obtain ⟨rfl, -, rfl⟩ := he
        exact ⟨g', c', rfl, BRow.own ho (unhide HMR), by rw [zo] at b3; exact b3.trans (hb.mono (by omega))⟩
      have DC : Hid (∀ (W' : World) (g' c' : Nat), Below (w.heap.size + 2) W2 W' → BRow W' (some ⟨g', 0, none⟩) 4 (markL xs ys) → Calls Tryd.prog 49 #[.slice (some ⟨W'.heap.size, 0, none⟩) 2 2] (W'.alloc (.cells #[.slice a 4 c, .slice (some ⟨g', 0, none⟩) 4 c'] 22)) fun e w' => ∃ a' c'', e = .returned (.slice a' 8 c'') ∧ w'.ownsRow (w.heap.size + 2) 5 1 (.slice a' 8 c'') 8 ((xs ++ markL xs ys).map (Value.int .u8)) ∧ Below (w.heap.size + 2) W2 w') := fun W' g' c' hb hr => by
        have b4 := below_alloc W' (.cells #[.slice a 4 c, .slice (some ⟨g', 0, none⟩) 4 c'] 22)
        have bw : Below w.heap.size w W' := b2.trans (hb.mono (by omega))
        obtain ⟨R, N⟩ := two_row W' a 4 c xs (some ⟨g', 0, none⟩) 4 c' (markL xs ys) 22 (h.below bw (Nat.le_refl _)) hr hn (by omega) hc (fun e => by cases e)
        have ef : [xs, markL xs ys].flatten = xs ++ markL xs ys := by simp
        have K := concat_any _ 2 2 [xs, markL xs ys] _ R N (by omega) (by rw [ef, e3]; omega)
        rw [ef, e3] at K
        refine K.mono ?_
        rintro e w' ⟨a', c'', rfl, ho, hb'⟩
        have hz := hb.size
        exact ⟨a', c'', rfl, ownsRow_base ho (by have := b4.size; omega), hb.trans ((b4.trans (hb'.mono b4.size)).mono (by omega))⟩
      have HK := hide (fun (W' : World) (hb : Below (w.heap.size + 2) W2 W') => (kr.below bo kr.lt).below hb (by omega))
      have HB2 := hide b2
      have E4 := hide e4
      rw [e1, e2, e3]
      clear e1 e2 e3 h k hv hxl hyl hc hd kr r0 r1 f0 f1 b1 z3 bo ro b2 HMR e4
      generalize xs ++ markL xs ys = SL at DC ⊢
      generalize markL xs ys = ML at D DC
      go_enter Tryd.func25, Tryd.ntmps25
      go_upto_region 1 with fail
      rw [unhide E1]
      clear E1
      go_wp2_with fail
      refine ((unhide HA) _).mono ?_
      rintro e w' ⟨rfl, rfl⟩
      go_wp2_with fail
      refine ((unhide HH) _).mono ?_
      rintro e w' ⟨rfl, rfl⟩
      go_wp2_with fail
      rw [unhide E4]
      refine (unhide D).mono ?_
      rintro e w3 ⟨g3, c3, rfl, r3, b3⟩
      have D3 := hide ((unhide DC) w3 g3 c3 b3 r3)
      have HB3 := hide b3
      clear r3 b3 D DC
      go_wp2_with fail
      refine (unhide D3).mono ?_
      rintro e w4 ⟨a4, c4, rfl, o4, b4⟩
      have kr4 := (unhide HK) w4 b4
      have r0 := kr4.cell 0
      have r1 := kr4.cell 1
      have f0 := kr4.free 0
      have f1 := kr4.free 1
      simp only [List.getElem?_cons_zero, List.getElem?_cons_succ] at r0 r1
      have HB4 := hide ((unhide HB2).trans (b4.mono (by omega)))
      have HO4 := hide o4
      clear kr4 o4 b4 D3 HK HB3
      go_wp2_with fail
      refine bodyPost_ret (v := .agg #[.int .i64 0, .slice a4 8 c4]) (by simp [results, Tryd.results25, go_sem, r0, r1]) rfl ⟨a4, c4, rfl, ?_, ?_⟩
      · exact ownsRow_base (ownsRow_setCell_below (ownsRow_setCell_below (unhide HO4) (by show w.heap.size < w.heap.size + 2; omega) _) (by show w.heap.size < w.heap.size + 2; omega) _) (by omega)
      · exact ((unhide HB4).setCell (p := ⟨w.heap.size, _, none⟩) (by show w.heap.size ≤ w.heap.size; omega) _).setCell (p := ⟨w.heap.size, _, none⟩) (by show w.heap.size ≤ w.heap.size; omega) _
    · have e1 : slCode xs ys = 1 := if_neg (fun q => h2 (by omega))
      have e2 : cmBytes xs ys = [] := if_neg (fun q => h2 (by omega))
      have q1 : (((n : Nat) : Int) == 4) = true := by simp; omega
      have q2 : (((m : Nat) : Int) == 32) = false := by simp; omega
      simp only [q1] at HA
      simp only [q2] at HH
      rw [e1, e2]
      clear e1 e2 h k hv hxl hyl hc hd kr b1 q1 q2 h1 h2
      go_enter Tryd.func25, Tryd.ntmps25
      go_upto_region 1 with fail
      rw [unhide E1]
      clear E1
      go_wp2_with fail
      refine ((unhide HA) _).mono ?_
      rintro e w' ⟨rfl, rfl⟩
      go_wp2_with fail
      refine ((unhide HH) _).mono ?_
      rintro e w' ⟨rfl, rfl⟩
      go_wp2_with fail
      refine bodyPost_ret (v := .agg #[.int .i64 1, .slice none 0 0]) (by simp [results, Tryd.results25, go_sem, r0, r1]) rfl ⟨none, 0, rfl, World.ownsRow_nil _ _ _ _, ?_⟩
      exact ((unhide HB1).setCell (p := ⟨w.heap.size, _, none⟩) (by show w.heap.size ≤ w.heap.size; omega) _).setCell (p := ⟨w.heap.size, _, none⟩) (by show w.heap.size ≤ w.heap.size; omega) _
  · have e1 : slCode xs ys = 1 := if_neg (fun q => h1 (by omega))
    have e2 : cmBytes xs ys = [] := if_neg (fun q => h1 (by omega))
    have q1 : (((n : Nat) : Int) == 4) = false := by simp; omega
    simp only [q1] at HA
    rw [e1, e2]
    clear e1 e2 h k hv hxl hyl hc hd kr b1 q1 h1
    go_enter Tryd.func25, Tryd.ntmps25
    go_upto_region 1 with fail
    rw [unhide E1]
    clear E1
    go_wp2_with fail
    refine ((unhide HA) _).mono ?_
    rintro e w' ⟨rfl, rfl⟩
    go_wp2_with fail
    refine bodyPost_ret (v := .agg #[.int .i64 1, .slice none 0 0]) (by simp [results, Tryd.results25, go_sem, r0, r1]) rfl ⟨none, 0, rfl, World.ownsRow_nil _ _ _ _, ?_⟩
    exact ((unhide HB1).setCell (p := ⟨w.heap.size, _, none⟩) (by show w.heap.size ≤ w.heap.size; omega) _).setCell (p := ⟨w.heap.size, _, none⟩) (by show w.heap.size ≤ w.heap.size; omega) _

end Go.Proofs.YtbncoiljklagkaaDoor
