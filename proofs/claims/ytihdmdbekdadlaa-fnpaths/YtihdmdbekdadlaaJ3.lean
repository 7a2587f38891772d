/- What is proved here: what the program's PackPath answers: the code and the bytes of a path, in new memory. -/
import Derived.Test.YtihdmdbekdadlaaJ2
namespace Go.Proofs.Ytihdmdbekdadlaa
open Go.RowKit
set_option linter.unusedVariables false
set_option maxRecDepth 100000

set_option maxHeartbeats 2000000 in
theorem implPack_any (a : Option Addr) (n cap : Nat) (p : List Int) (e : Bool) (w : World) (h : IRow w a n p) (hcap : a = none → cap = 0) (hn : n ≤ 1048576) :
    Calls Try.prog 11 #[.slice a n cap, .bool e] w fun e' w' => ∃ a' c', e' = .returned (.agg #[.int .i64 (ppCode p), .slice a' (ppB p e).length c']) ∧
      w'.ownsRow w.heap.size 5 1 (.slice a' (ppB p e).length c') (ppB p e).length ((ppB p e).map (Value.int .u8)) ∧ Below w.heap.size w w' := by
  have hpl := h.1
  by_cases hm : 20 < n
  · have e1 : ppCode p = 2 := if_pos (by omega)
    have e2 : ppB p e = [] := by unfold ppB; rw [e1]; rfl
    rw [e1, e2]
    clear h e1 e2 hcap
    go_enter Try.func11, Try.ntmps11
    go_wp2_with fail
    exact bodyPost_ret (v := .agg #[.int .i64 2, .slice none 0 0]) (by simp [results, Try.results11, go_sem]) rfl ⟨none, 0, rfl, World.ownsRow_nil _ _ _ _, (Below.refl _ _).alloc (Nat.le_refl _) _⟩
  · have HX := hide (fun o => h.below (below_alloc w o) (Nat.le_refl _))
    have HCP := hide hcap
    clear h hcap
    have HC0 : Hid (p.all isH = true → ppCode p = 0 ∧ ppB p e = pkB (phd n e ++ p)) := fun hh => by
      have q : ppCode p = 0 := by unfold ppCode; rw [if_neg (by omega), hh]; rfl
      exact ⟨q, by unfold ppB; rw [if_pos q, hpl]⟩
    have HC3 : Hid (p.all isH = false → ppCode p = 3 ∧ ppB p e = []) := fun hh => by
      have q : ppCode p = 3 := by unfold ppCode; rw [if_neg (by omega), hh]; rfl
      exact ⟨q, by unfold ppB; rw [q]; rfl⟩
    obtain ⟨cd, hcd⟩ : ∃ cd, cd = ppCode p := ⟨_, rfl⟩
    obtain ⟨bs, hbs⟩ : ∃ bs, bs = ppB p e := ⟨_, rfl⟩
    rw [← hcd] at HC0 HC3 ⊢
    rw [← hbs] at HC0 HC3 ⊢
    clear hcd hbs
    have hw : Hid (∀ o, (w.alloc o).heap.size = w.heap.size + 1) := fun o => by simp
    go_enter Try.func11, Try.ntmps11
    go_wp2_with fail
    go_loopw [14] (fun i wr => ∃ k : Nat, k ≤ n ∧ i = .int .i64 k ∧ (p.take k).all isH = true ∧ wr = w.alloc (.cells #[.int .i64 0, .slice none 0 0] 31)) (fun i _ => n - (intOf i).toNat)
    case atStart => exact ⟨0, Nat.zero_le _, rfl, rfl, rfl⟩
    case round =>
      obtain ⟨k, hk, rfl, hall, rfl⟩ := hrel
      by_cases hlt : k < n
      · obtain ⟨b, off, rfl, hb, hc⟩ := ((unhide HX) (.cells #[.int .i64 0, .slice none 0 0] 31)).at (by omega)
        have hck := hc k hlt
        have HN := hide (all_no (p := p) (k := k) (by omega))
        have HY := hide (all_take_succ (p := p) (k := k) (by omega) hall)
        generalize p.getD k 0 = x at hck HN HY
        have i1 : (0 : Int) ≤ (k : Int) := by omega
        have i2 : (k : Int) < (n : Int) := by omega
        clear hc hall
        go_wp2_with fail
        refine (isHalf_any x _).mono ?_
        rintro e1 w1 ⟨rfl, rfl⟩
        cases hx : isH x
        · obtain ⟨rfl, rfl⟩ := (unhide HC3) ((unhide HN) hx)
          clear HC3 HC0 HN HY hck
          go_wp2_with fail
          exact bodyPost_ret (v := .agg #[.int .i64 3, .slice none 0 0]) (by simp [results, Try.results11, go_sem]) rfl ⟨none, 0, rfl, World.ownsRow_nil _ _ _ _, (Below.refl _ _).alloc (Nat.le_refl _) _⟩
        · have HT := hide ((unhide HY) hx)
          clear HN HY hck
          go_wp2_with fail
          go_roundw
          case rel => exact ⟨k + 1, by omega, by go_num, unhide HT, (by first | rfl | trivial)⟩
          case measure => simp [intOf]; omega
      · obtain rfl : k = n := by omega
        rw [List.take_of_length_le (by omega)] at hall
        obtain ⟨rfl, hbs⟩ := (unhide HC0) hall
        clear HC0 HC3
        have HBS := hide hbs
        have HAL := hide hall
        clear hbs hall
        have hsz : (w.alloc (.cells #[.int .i64 0, .slice none 0 0] 31)).heap.size = w.heap.size + 1 := by simp
        have X0 := (unhide HX) (.cells #[.int .i64 0, .slice none 0 0] 31)
        have B0 := below_alloc w (.cells #[.int .i64 0, .slice none 0 0] 31)
        have q0 : (w.alloc (.cells #[.int .i64 0, .slice none 0 0] 31)).heap[w.heap.size]? = some (.cells #[.int .i64 0, .slice none 0 0] 31 (0, 0)) := by
          show (w.heap.push _)[w.heap.size]? = _
          simp
        go_wp2_with fail
        generalize w.alloc (.cells #[.int .i64 0, .slice none 0 0] 31) = w0 at X0 B0 q0 hsz ⊢
        refine (pathHead_any k e w0 (by omega)).mono ?_
        rintro e1 w1 ⟨c1, rfl, o1, b1⟩
        have hph := phd_length k e
        have R1 := IRow.own o1
        have X1 := X0.below b1 (Nat.le_refl _)
        have hcc := hide (fun (t : TypeId) => concatI_any w1.heap.size 2 (some ⟨w0.heap.size, 0, none⟩) a (phd k e).length c1 k cap (phd k e) p (w1.alloc (.cells #[.slice (some ⟨w0.heap.size, 0, none⟩) (phd k e).length c1, .slice a k cap] t)) (by simp) (by simp) (R1.below (below_alloc w1 _) (Nat.le_refl _)) (X1.below (below_alloc w1 _) (Nat.le_refl _)) (fun e => by cases e) (unhide HCP) (by omega) (by omega))
        have HAQ : Hid ((phd k e ++ p).all isH = true) := by show _ = _; rw [List.all_append, phd_all, unhide HAL]; rfl
        have hql : (phd k e ++ p).length = (phd k e).length + k := by rw [List.length_append, hpl]
        have hpk := pkB_length (phd k e ++ p)
        rw [hql, ← unhide HBS] at hpk
        have HPK := hide hpk
        have HQL := hide hql
        generalize (phd k e ++ p) = q at hcc HAQ HBS HQL
        generalize (phd k e).length = m at hcc hph HPK HQL ⊢
        have B1 := B0.trans (b1.mono (by omega))
        have q1 := (b1.block w.heap.size (by omega)).trans q0
        have HB1 := hide B1
        have s1 := b1.size
        have hm2 : m ≤ 2 := by omega
        have s01 : w.heap.size + 1 ≤ w0.heap.size := by omega
        clear o1 R1 X1 hql hpk b1 B1 B0 X0 q0 hph hsz
        go_wp2_with fail
        refine ((unhide hcc) _).mono ?_
        rintro e2 w2 ⟨a2, c2, rfl, o2, b2⟩
        have B2 : Below w.heap.size w w2 := ((unhide HB1).alloc (unhide HB1).size _).trans (b2.mono (by simp; omega))
        have q2 := (b2.block w.heap.size (by simp; omega)).trans ((Below.heap_alloc w1 _ _ (by omega)).trans q1)
        have hs2 : w.heap.size + 1 ≤ w2.heap.size := by have := b2.size; simp at this; omega
        have R2 := IRow.own2 o2
        have HBH := hide (bytesOfHalves_any a2 (m + k) c2 q w2 R2 (by omega) (unhide HAQ))
        rw [← unhide HBS] at HBH
        have HB2 := hide B2
        clear b2 o2 R2 B2 HB1 q1 hcc
        go_wp2_with fail
        refine (unhide HBH).mono ?_
        rintro e3 w3 ⟨a3, c3, rfl, o3, b3⟩
        have B3 : Below w.heap.size w w3 := (unhide HB2).trans (b3.mono (by omega))
        have q3 := (b3.block w.heap.size (by omega)).trans q2
        obtain ⟨z0, z1, f0, f1⟩ := res_facts q3
        have e5 : (m + k) / 2 = bs.length := (unhide HPK).symm
        rw [e5] at o3 ⊢
        have HO := hide (ownsRow_base o3 hs2)
        have HB := hide B3
        clear b3 o3 B3 q3 q2 e5 HBH
        go_wp2_with fail
        refine bodyPost_ret (v := .agg #[.int .i64 0, .slice a3 bs.length c3]) (by simp [results, Try.results11, go_sem, z0, z1]) rfl ⟨_, c3, rfl, ?_, ?_⟩
        · exact ownsRow_base (ownsRow_setCell_below (ownsRow_setCell_below (unhide HO) (by simp) _) (by simp) _) (by omega)
        · exact ((unhide HB).setCell (by simp) _).setCell (by simp) _

end Go.Proofs.Ytihdmdbekdadlaa
