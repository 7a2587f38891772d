/- What is proved here: the model's draws for the law on lanes: three numbers, and a slice of at most 50 numbers in new memory; and that a lane turned all around is itself. -/
import Derived.Test.YtjdeobifhgdffaaDoorWordD
import Derived.Test.YtjdeobifhgdffaaDoorInfo2
import Derived.Test.YtjdeobifhgdffaaDoorOwnG
import Derived.Test.YtjdeobifhgdffaaDoorLaneMath
namespace Go.Proofs.YtjdeobifhgdffaaDoor
open Go.RowKit
set_option linter.unusedVariables false

/-- A lane that is turned all around is itself. -/
theorem rot_back (a n : Nat) (ha : a < 18446744073709551616) (hn : n ≤ 63) : rotL (rotL a n) ((64 - n) % 64) = a := by
  rcases Nat.eq_zero_or_pos n with h0 | hp
  · subst h0
    unfold rotL
    simp
    omega
  · have hm : (64 - n) % 64 = 64 - n := Nat.mod_eq_of_lt (by omega)
    rw [hm]
    obtain ⟨m, hmm⟩ : ∃ m, m = 64 - n := ⟨_, rfl⟩
    have e64 : 64 - m = n := by omega
    have hP : 2 ^ n * 2 ^ m = 18446744073709551616 := by rw [← Nat.pow_add, show n + m = 64 by omega]
    have hn0 : 0 < 2 ^ n := Nat.two_pow_pos n
    have hm0 : 0 < 2 ^ m := Nat.two_pow_pos m
    unfold rotL
    rw [← hmm, e64]
    obtain ⟨q, hq⟩ : ∃ q, q = a / 2 ^ m := ⟨_, rfl⟩
    obtain ⟨r, hr⟩ : ∃ r, r = a % 2 ^ m := ⟨_, rfl⟩
    have ea : a = q * 2 ^ m + r := by rw [hq, hr, Nat.mul_comm]; exact (Nat.div_add_mod a (2 ^ m)).symm
    have hqn : q < 2 ^ n := by rw [hq, Nat.div_lt_iff_lt_mul hm0, hP]; exact ha
    have hrm : r < 2 ^ m := by rw [hr]; exact Nat.mod_lt _ hm0
    have e1 : a * 2 ^ n % 18446744073709551616 = r * 2 ^ n := by
      have : a * 2 ^ n = r * 2 ^ n + 18446744073709551616 * q := by
        rw [ea, Nat.add_mul, Nat.mul_assoc, Nat.mul_comm (2 ^ m), hP, Nat.mul_comm q, Nat.add_comm]
      rw [this, Nat.add_mul_mod_self_left]
      refine Nat.mod_eq_of_lt ?_
      rw [← hP, Nat.mul_comm (2 ^ n)]
      exact Nat.mul_lt_mul_of_pos_right hrm hn0
    rw [e1, ← hq]
    have e2 : (r * 2 ^ n + q) * 2 ^ m % 18446744073709551616 = q * 2 ^ m := by
      have : (r * 2 ^ n + q) * 2 ^ m = q * 2 ^ m + 18446744073709551616 * r := by
        rw [Nat.add_mul, Nat.mul_assoc, hP, Nat.mul_comm r, Nat.add_comm]
      rw [this, Nat.add_mul_mod_self_left]
      refine Nat.mod_eq_of_lt ?_
      rw [← hP]
      exact Nat.mul_lt_mul_of_pos_right hqn hm0
    have e3 : (r * 2 ^ n + q) / 2 ^ n = r := by
      rw [Nat.add_comm, Nat.mul_comm, Nat.add_mul_div_left _ _ hn0, Nat.div_eq_of_lt hqn, Nat.zero_add]
    rw [e2, e3]
    exact ea.symm

set_option maxHeartbeats 2000000 in
theorem drawTL_any (a : Option Addr) (len cap : Nat) (xs : List Int) (w : World) (h : BRow w a len xs) (hl : len ≤ 1048576) :
    Calls Tryd.prog 15 #[.slice a len cap] w fun e w' => (∃ x y n : Int, e = .returned (.tuple #[.int .i64 x, .int .i64 y, .int .i64 n]) ∧ 0 ≤ n ∧ n ≤ 64) ∧ Below w.heap.size w w' := by
  go_enter Tryd.func15, Tryd.ntmps15
  go_wp2_with fail
  refine (source_any a len cap xs w h hl).mono ?_
  rintro e w1 ⟨rfl, s1, b1⟩
  go_wp2_with fail
  refine (word_draw w.heap.size 0 w1 s1 (by omega) (by omega)).mono ?_
  rintro e w2 ⟨⟨x1, rfl, _⟩, s2, g2⟩
  have b2 := grown_below b1 g2 b1.size (Nat.le_refl _)
  clear s1 g2 b1
  go_wp2_with fail
  refine (word_draw w.heap.size _ w2 s2 (by omega) (by omega)).mono ?_
  rintro e w3 ⟨⟨x2, rfl, _⟩, s3, g3⟩
  have b3 := grown_below b2 g3 b2.size (Nat.le_refl _)
  clear s2 g3 b2
  go_wp2_with fail
  refine (word_draw w.heap.size _ w3 s3 (by omega) (by omega)).mono ?_
  rintro e w4 ⟨⟨x3, rfl, _⟩, s4, g4⟩
  have b4 := grown_below b3 g4 b3.size (Nat.le_refl _)
  clear s3 g4 b3
  go_wp2_with fail
  have hlt := s4.lt
  refine (pick_any w.heap.size w4.heap.size 4 [x1, x2, x3, 4294967296] _ _ (s4.below (below_alloc w4 _) (Nat.le_refl _)) (by omega) (by omega) (by omega) (by omega) (by omega) rfl (cells_list [x1, x2, x3, 4294967296] 2)).mono ?_
  rintro e w5 ⟨⟨x, rfl, _⟩, s5, g5⟩
  have b5 := grown_below (b4.alloc b4.size _) g5 (by have := b4.size; simp; omega) (Nat.le_refl _)
  clear s4 g5 b4 hlt
  go_wp2_with fail
  refine (word_draw w.heap.size _ w5 s5 (by omega) (by omega)).mono ?_
  rintro e w6 ⟨⟨y, rfl, _⟩, s6, g6⟩
  have b6 := grown_below b5 g6 b5.size (Nat.le_refl _)
  clear s5 g6 b5
  go_wp2_with fail
  refine (next_any w.heap.size _ 64 w6 s6 (by omega) (by omega) (by omega) (by omega)).mono ?_
  rintro e w7 ⟨⟨p, rfl, hp0, hp1⟩, s7, g7⟩
  have b7 := grown_below b6 g7 b6.size (Nat.le_refl _)
  clear s6 g7 b6
  go_wp2_with fail
  refine (next_any w.heap.size _ 64 w7 s7 (by omega) (by omega) (by omega) (by omega)).mono ?_
  rintro e w8 ⟨⟨q, rfl, hq0, hq1⟩, s8, g8⟩
  have b8 := grown_below b7 g8 b7.size (Nat.le_refl _)
  clear s7 g8 b7
  go_wp2_with fail
  have hlt := s8.lt
  refine (pick_any w.heap.size w8.heap.size 8 [p, q, 0, 31, 32, 33, 63, 64] _ _ (s8.below (below_alloc w8 _) (Nat.le_refl _)) (by omega) (by omega) (by omega) (by omega) (by omega) rfl (cells_list [p, q, 0, 31, 32, 33, 63, 64] 2)).mono ?_
  rintro e w9 ⟨⟨n, rfl, hn⟩, s9, g9⟩
  have hn2 : 0 ≤ n ∧ n ≤ 64 := by
    simp only [List.mem_cons, List.not_mem_nil, or_false] at hn
    omega
  have b9 := grown_below (b8.alloc b8.size _) g9 (by have := b8.size; simp; omega) (Nat.le_refl _)
  clear s8 g9 b8 hlt hn
  go_wp2_with fail
  refine bodyPost_ret (results_tmp3 rfl _ _ _) rfl ⟨⟨x, y, n, rfl, hn2⟩, b9⟩

set_option maxHeartbeats 2000000 in
theorem drawMS_any (a : Option Addr) (len cap : Nat) (xs : List Int) (w : World) (h : BRow w a len xs) (hl : len ≤ 1048576) :
    Calls Tryd.prog 18 #[.slice a len cap] w fun e w' => (∃ (g n c : Nat) (zs : List Int), e = .returned (.slice (some ⟨g, 0, none⟩) n c) ∧ n ≤ 50 ∧ IRow w' (some ⟨g, 0, none⟩) n zs) ∧ Below w.heap.size w w' := by
  obtain ⟨i0, hi, hz0, hz1, hz2⟩ := info_parts info2
  go_enter Tryd.func18, Tryd.ntmps18
  go_wp2_with fail
  refine (source_any a len cap xs w h hl).mono ?_
  rintro e w1 ⟨rfl, s1, b1⟩
  have hs1 := s1.lt
  have HS1 := hide s1
  have HB1 := hide b1
  clear s1 b1
  go_wp2_with fail
  have s1 := unhide HS1
  have b1 := unhide HB1
  have o2 : (w1.alloc (Obj.cells #[] 2)).ownsRow w1.heap.size 2 1 (.slice (some ⟨w1.heap.size, 0, none⟩) 0 0) 0 [] := World.ownsRow_lit w1 #[] 0 (Nat.le_refl _) (by unfold maxLen; omega) rfl
  have s2 : SrcOk (w1.alloc (Obj.cells #[] 2)) w.heap.size 0 := s1.below (below_alloc w1 _) (Nat.le_refl _)
  have b2 : Below w.heap.size w (w1.alloc (Obj.cells #[] 2)) := b1.alloc b1.size _
  have z2 : (w1.alloc (Obj.cells #[] 2)).heap.size = w1.heap.size + 1 := by simp
  generalize w1.alloc (Obj.cells #[] 2) = w2 at o2 s2 b2 z2 ⊢
  have hlt := s2.lt
  have HP := hide (pick_any w.heap.size w2.heap.size 6 [50, 50, 50, 50, 50, 49] 0 (w2.alloc (Obj.cells (([50, 50, 50, 50, 50, 49] : List Int).map (Value.int .i64)).toArray 2)) (s2.below (below_alloc w2 _) (Nat.le_refl _)) (Int.le_refl 0) (by decide) (Nat.ne_of_gt hlt) (by decide) (by decide) rfl (cells_list [50, 50, 50, 50, 50, 49] 2))
  rw [z2] at HP
  refine (unhide HP).mono ?_
  rintro e w3 ⟨⟨K, rfl, hK⟩, s3, g3⟩
  have hK2 : K = 50 ∨ K = 49 := by
    simp only [List.mem_cons, List.not_mem_nil, or_false] at hK
    omega
  have b3 := grown_below (b2.alloc b2.size _) g3 (by have := b2.size; simp; omega) (Nat.le_refl _)
  have o3 := own_grown (o2.alloc (Obj.cells (([50, 50, 50, 50, 50, 49] : List Int).map (Value.int .i64)).toArray 2)) g3 (fun q e e2 => by have e1 : w1.heap.size = q := Option.some.inj e; have e3 : q = w.heap.size := Option.some.inj e2; omega)
  obtain ⟨N, rfl⟩ : ∃ N : Nat, K = (N : Int) := ⟨K.toNat, by omega⟩
  have hN : N ≤ 50 := by omega
  have hN2 : 1 ≤ N := by omega
  have HS3 := hide s3
  have HB3 := hide b3
  have HO3 := hide o3
  generalize w1.heap.size = B at hs1 HO3 ⊢
  clear hK hK2 s2 b2 g3 o2 o3 b3 s3 z2 hlt s1 b1 HS1 HB1 HP
  go_wp2_with fail
  go_loopw [4, 5] (fun s k wr => ∃ (j c : Nat) (g : Nat) (L : List Int) (t : Int), j ≤ N ∧ k = .int .i64 ((N : Int) - j) ∧ s = .slice (some ⟨g, 0, none⟩) j c ∧ wr.ownsRow B 2 1 (.slice (some ⟨g, 0, none⟩) j c) j (L.map (Value.int .i64)) ∧ SrcOk wr w.heap.size t ∧ 0 ≤ t ∧ t ≤ 3 * j + 1 ∧ Below w.heap.size w wr) (fun _ k _ => (intOf k).toNat)
  case atStart => exact ⟨0, 0, B, [], 1, by omega, by simp, rfl, unhide HO3, unhide HS3, by omega, by omega, unhide HB3⟩
  case round =>
    obtain ⟨j, c, g, L, t, hj, rfl, rfl, hown, hs, ht0, ht1, hb⟩ := hrel
    clear HO3 HS3 HB3
    have hgB := (hown.lt g rfl).1
    have hBw : w.heap.size < B := hs1
    by_cases hlt : j < N
    · have hd1 : decide ((0 : Int) < (N : Int) - j) = true := decide_eq_true (by omega)
      have hd2 : (0 : Int) < (N : Int) - j := by omega
      have HW := hide (word_draw w.heap.size t wr hs ht0 (by omega))
      clear hs
      go_wp2_with fail
      refine (unhide HW).mono ?_
      rintro e w4 ⟨⟨v, rfl, _⟩, s4, g4⟩
      have b4 := grown_below hb g4 hb.size (Nat.le_refl _)
      have o4 := own_grown hown g4 (fun q e e2 => by have e1 : g = q := Option.some.inj e; have e3 : q = w.heap.size := Option.some.inj e2; omega)
      have h4B : B ≤ w4.heap.size := Nat.le_of_lt (Nat.lt_of_le_of_lt hgB (o4.lt g rfl).2)
      clear hown hb g4 HW
      go_wp2_with (at_builtin; refine wpList_append_own _ rfl _ _ 34 rfl B 2 i0 (.int .i64 0) 1 8 Tryd.underlying34 hi hz0 hz1 hz2 rfl (by decide) _ _ _ rfl (o4.alloc _) ⟨w4.heap.size, 0, none⟩ 1 1 [.int .i64 v] rfl rfl ?c1 ?c2 ?c3 ?c4 ?c5 ?_)
      case c1 => exact cell_one_new _ _ _
      case c2 => intro u hu; simp at hu; subst hu; rfl
      case c3 => unfold maxLen; omega
      case c4 => omega
      case c5 => simp; omega
      intro v' w5 o5 hgrow _
      obtain ⟨g5, c5, hv⟩ := own_some o5 (by omega)
      have hrow : ∀ q, (Value.slice (some ⟨g, 0, none⟩) j c).ownBlock = some q → B ≤ q := fun q e => (o4.lt q e).1
      have s5 : SrcOk w5 w.heap.size (t + 1 + 1 + 1) := (s4.below (below_alloc w4 _) (Nat.le_refl _)).grown hgrow (fun q e => by have := hrow q e; omega)
      have b5 : Below w.heap.size w w5 := (b4.alloc b4.size _).grown hgrow (by have := b4.size; simp; omega) (fun q e => by have := hrow q e; omega)
      rw [hv] at o5
      rw [hv]
      have HO := hide o5
      have HS := hide s5
      have HB := hide b5
      clear o5 s5 b5 hgrow o4 s4 b4 hrow hv
      go_wp2_with fail
      go_roundw
      case rel => exact ⟨j + 1, c5, g5, L ++ [v], t + 1 + 1 + 1, by omega, by go_num, rfl, by simpa using unhide HO, unhide HS, by omega, by omega, unhide HB⟩
      case measure => simp [intOf]; omega
    · obtain rfl : j = N := by omega
      have hd1 : decide ((0 : Int) < (j : Int) - j) = false := decide_eq_false (by omega)
      have hd2 : ¬ ((0 : Int) < (j : Int) - j) := by omega
      have HC := hide (chance_any w.heap.size t 10 wr hs ht0 (by omega) (by omega) (by omega))
      clear hs
      go_wp2_with fail
      refine (unhide HC).mono ?_
      rintro e w4 ⟨⟨v, rfl⟩, s4, g4⟩
      have b4 := grown_below hb g4 hb.size (Nat.le_refl _)
      have o4 := own_grown hown g4 (fun q e e2 => by have e1 : g = q := Option.some.inj e; have e3 : q = w.heap.size := Option.some.inj e2; omega)
      clear hown hb g4 HC
      cases v with
      | false =>
        have I4 := IRow.own o4
        clear o4
        go_wp2_with fail
        go_ret
        exact ⟨⟨g, j, c, L, rfl, by omega, I4⟩, b4⟩
      | true =>
        have hlt4 := s4.lt
        have HP := hide (pick_any w.heap.size w4.heap.size 2 [-1, 4294967296] _ _ (s4.below (below_alloc w4 (Obj.cells (([-1, 4294967296] : List Int).map (Value.int .i64)).toArray 2)) (Nat.le_refl _)) (by omega) (by omega) (by omega) (by omega) (by omega) rfl (cells_list [-1, 4294967296] 2))
        have o5 := o4.alloc (Obj.cells (([-1, 4294967296] : List Int).map (Value.int .i64)).toArray 2)
        have b5 := b4.alloc b4.size (Obj.cells (([-1, 4294967296] : List Int).map (Value.int .i64)).toArray 2)
        have z5 := b5.size
        have HO5 := hide o5
        have HB5 := hide b5
        clear o4 s4 b4 o5 b5
        go_wp2_with fail
        refine (unhide HP).mono ?_
        rintro e w7 ⟨⟨y, rfl, _⟩, s7, g7⟩
        have o7 := own_grown (unhide HO5) g7 (fun q e e2 => by have e1 : g = q := Option.some.inj e; have e3 : q = w.heap.size := Option.some.inj e2; omega)
        have b7 := grown_below (unhide HB5) g7 z5 (Nat.le_refl _)
        have hfz := o7.frozenAt 0
        obtain ⟨u, hu⟩ : ∃ u, w7.cell? ⟨g, 0, none⟩ = some u := by
          rw [o7.cellAt 0 (by omega)]
          exact ⟨_, List.getElem?_eq_getElem (by rw [o7.1]; omega)⟩
        have R := o7.stored 0 (.int .i64 y)
        rw [← List.map_set] at R
        have I8 := IRow.own R.1
        have b8 : Below w.heap.size w (w7.setCell ⟨g, 0, none⟩ (.int .i64 y)) := b7.setCell (by simp; omega) _
        have j1 : (0 : Int) < (j : Int) := by omega
        clear R o7 b7 s7 g7 HP HO5 HB5
        go_wp2_with fail
        go_ret
        exact ⟨⟨g, j, c, L.set 0 y, rfl, by omega, I8⟩, b8⟩

end Go.Proofs.YtjdeobifhgdffaaDoor
