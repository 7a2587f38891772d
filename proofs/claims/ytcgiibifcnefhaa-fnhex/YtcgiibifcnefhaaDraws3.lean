/- What is proved here: the model's draws of bytes for the law on texts and bytes return, write into no memory that was there, and give bytes of bounded length. -/
import Derived.Test.YtcgiibifcnefhaaChecked
import Derived.Test.YtcgiibifcnefhaaDraws2
import Derived.WalkKit
import Derived.WalkLawsBesides
import Derived.WalkSmall
import Derived.WalkSpells
import Derived.KernelRfl
namespace Go.Proofs.Ytcgiibifcnefhaa
open Go.RowKit
set_option linter.unusedVariables false

/-- What a caller needs of bytes that were drawn: they lie somewhere, and are few. -/
def Drawn (w : World) (v : Value) : Prop := ∃ (a : Option Addr) (n cap : Nat) (zs : List Int), v = .slice a n cap ∧ n ≤ 1048576 ∧ BRow w a n zs

theorem drawn_of {w : World} {B n cap : Nat} {a : Option Addr} {zs : List Int} (h : w.ownsRow B 5 1 (.slice a n cap) n (zs.map (Value.int .u8))) (hz : ∀ x ∈ zs, 0 ≤ x ∧ x ≤ 255) (hn : n ≤ 1048576) : Drawn w (.slice a n cap) :=
  ⟨a, n, cap, zs, rfl, hn, BRow.own2 h hz⟩

theorem range_cons (x : Int) (zs : List Int) (hx : 0 ≤ x ∧ x ≤ 255) (h : ∀ y ∈ zs, 0 ≤ y ∧ y ≤ 255) : ∀ y ∈ x :: zs, 0 ≤ y ∧ y ≤ 255 := by
  intro y hy
  rcases List.mem_cons.1 hy with rfl | hy
  · exact hx
  · exact h y hy

theorem range_snoc (zs : List Int) (x : Int) (hx : 0 ≤ x ∧ x ≤ 255) (h : ∀ y ∈ zs, 0 ≤ y ∧ y ≤ 255) : ∀ y ∈ zs ++ [x], 0 ≤ y ∧ y ≤ 255 := by
  intro y hy
  rcases List.mem_append.1 hy with hy | hy
  · exact h y hy
  · simp at hy; subst hy; exact hx

set_option maxHeartbeats 1000000 in
theorem drawRaw_any (a : Option Addr) (len cap : Nat) (xs : List Int) (w : World) (h : BRow w a len xs) (hl : len ≤ 1048576) :
    Calls Try.prog 9 #[.slice a len cap] w fun e w' => (∃ v, e = .returned v ∧ Drawn w' v) ∧ Below w.heap.size w w' := by
  obtain ⟨i0, hi, hz0, hz1, hz2⟩ := info_parts info5
  go_enter Try.func9, Try.ntmps9
  go_wp2_with fail
  refine (source_any a len cap xs w h hl).mono ?_
  rintro e w1 ⟨rfl, s1, b1⟩
  go_wp2_with fail
  refine (next_any w.heap.size 0 5 w1 s1 (by omega) (by omega) (by omega) (by omega)).mono ?_
  rintro e w2 ⟨⟨k, rfl, hk0, hk1⟩, s2, g2⟩
  have b2 := grown_below b1 g2 b1.size (Nat.le_refl _)
  rcases (by omega : k = 0 ∨ k = 1 ∨ 2 ≤ k) with hk | hk | hk
  · subst hk
    have hlt := s2.lt
    have o0 : (w2.alloc (.cells #[.int .u8 0] 5)).ownsRow (w.heap.size + 1) 5 1 (.slice (some ⟨w2.heap.size, 0, none⟩) 1 1) 1 [.int .u8 0] := World.ownsRow_lit w2 #[.int .u8 0] 1 (by omega) (by unfold maxLen; omega) rfl
    have kA := below_alloc w2 (.cells #[.int .u8 0] 5)
    go_wp2_with fail
    have szA : w2.heap.size < (w2.alloc (.cells #[.int .u8 0] 5)).heap.size := by simp
    generalize w2.alloc (.cells #[.int .u8 0] 5) = w3 at o0 kA szA
    have b3 := b2.trans (kA.mono b2.size)
    refine (next_any w.heap.size _ 3 w3 (s2.below kA (Nat.le_refl _)) (by omega) (by omega) (by omega) (by omega)).mono ?_
    rintro e w4 ⟨⟨n, rfl, hn0, hn1⟩, s4, g4⟩
    have b4 := grown_below b3 g4 b3.size (Nat.le_refl _)
    have o4 := o0.kept g4 (.inr (by simp [Value.ownBlock]; omega))
    obtain ⟨n, rfl⟩ := Int.eq_ofNat_of_zero_le hn0
    go_wp2_with fail
    refine (some_any w.heap.size _ n w4 s4 (by omega) (by omega) (by omega)).mono ?_
    rintro e w5 ⟨g5', c5, zs, rfl, hzl, hzr, o5, s5, g5⟩
    have b5 := grown_below b4 g5 b4.size (Nat.le_refl _)
    have o6 := o4.kept g5 (.inr (by simp [Value.ownBlock]; omega))
    have hr5 := BRow.own o5 hzr
    have hsz5 := b5.size
    have hlt5 := s5.lt
    go_wp2_with (at_builtin; refine wpList_append_own _ rfl _ _ 22 rfl (w.heap.size + 1) 5 i0 (.int .u8 0) 1 1 Try.underlying22 hi hz0 hz1 hz2 rfl (by decide) _ _ _ rfl o6 ⟨g5', 0, none⟩ n c5 (zs.map (Value.int .u8)) rfl ?c0 ?c1 ?c2 ?c3 ?c4 ?c5 ?_)
    case c0 => simp [hzl]
    case c1 =>
      intro j u hj
      have hjl : j < zs.length := by have := (List.getElem?_eq_some_iff.1 hj).1; simpa using this
      rw [hr5.2.2.2 _ rfl j (by omega)]
      rw [List.getElem?_map, List.getElem?_eq_getElem hjl] at hj
      rw [getD_at _ _ hjl]
      exact hj
    case c2 => intro u hu; obtain ⟨z, _, rfl⟩ := List.mem_map.1 hu; rfl
    case c3 => unfold maxLen; omega
    case c4 => omega
    case c5 => omega
    intro v' w6 hown6 hgrow _
    obtain ⟨a6, cap6, hvv⟩ := own_shape hown6
    have b6 : Below w.heap.size w w6 := b5.grown hgrow b5.size (fun g e => by simp [Value.ownBlock] at e; omega)
    have hD : Drawn w6 v' := by
      rw [hvv] at hown6 ⊢
      exact drawn_of (zs := 0 :: zs) (by simpa using hown6) (range_cons 0 zs (by omega) hzr) (by omega)
    have HD := hide hD
    clear hD hown6 hgrow o6 o5 hr5
    go_wp2_with fail
    go_ret
    exact ⟨⟨v', rfl, unhide HD⟩, b6⟩
  · subst hk
    have hlt := s2.lt
    go_wp2_with fail
    have hc : ∀ i, i < 3 → (w2.alloc (Obj.cells #[.int .i64 6, .int .i64 7, .int .i64 8] 2)).cell? ⟨w2.heap.size, i, none⟩ = some (.int .i64 (([6, 7, 8] : List Int).getD i 0)) := by
      intro i hi
      rw [World.cell?_alloc_new]
      rcases (by omega : i = 0 ∨ i = 1 ∨ i = 2) with r | r | r <;> subst r <;> rfl
    refine (pick_any w.heap.size w2.heap.size 3 [6, 7, 8] _ _ (s2.below (below_alloc w2 _) (Nat.le_refl _)) (by omega) (by omega) (by omega) (by omega) (by omega) rfl hc).mono ?_
    rintro e w4 ⟨⟨v, rfl, hv⟩, s4, g4⟩
    have b4 := grown_below (b2.alloc b2.size _) g4 (by have := b2.size; simp; omega) (Nat.le_refl _)
    have hv2 : 6 ≤ v ∧ v ≤ 8 := by simp at hv; omega
    obtain ⟨n, rfl⟩ := Int.eq_ofNat_of_zero_le (by omega : 0 ≤ v)
    clear hv
    go_wp2_with fail
    refine (some_any w.heap.size _ n w4 s4 (by omega) (by omega) (by omega)).mono ?_
    rintro e w5 ⟨g5', c5, zs, rfl, hzl, hzr, o5, s5, g5⟩
    have b5 := grown_below b4 g5 b4.size (Nat.le_refl _)
    have hD := drawn_of o5 hzr (by omega)
    have HD := hide hD
    clear hD o5
    go_wp2_with fail
    go_ret
    exact ⟨⟨_, rfl, unhide HD⟩, b5⟩
  · have e0 : (k == 0) = false := by rw [beq_eq_false_iff_ne]; omega
    have e1 : (k == 1) = false := by rw [beq_eq_false_iff_ne]; omega
    go_wp2_with fail
    refine (next_any w.heap.size _ 90000 w2 s2 (by omega) (by omega) (by omega) (by omega)).mono ?_
    rintro e w3 ⟨⟨n, rfl, hn0, hn1⟩, s3, g3⟩
    have b3 := grown_below b2 g3 b2.size (Nat.le_refl _)
    have e7 : (256 : Int) ^ 7 = 72057594037927936 := by decide
    go_wp2_with fail
    refine (l1Short_any 7 n w3 hn0 (by rw [e7]; omega) (by omega) (Nat.le_refl _)).mono ?_
    rintro e w4 ⟨a4, c4, rfl, o4, b4⟩
    have hD := drawn_of o4 (shortF_range 7 n) (by have := shortF_length 7 n; omega)
    have HD := hide hD
    have HB := hide (b3.trans (b4.mono b3.size))
    clear hD o4 e7
    generalize (shortF 7 n).length = L at HD
    go_wp2_with fail
    go_ret
    exact ⟨⟨_, rfl, unhide HD⟩, unhide HB⟩

set_option maxHeartbeats 1000000 in
theorem drawTwo_any (a : Option Addr) (len cap : Nat) (xs : List Int) (w : World) (h : BRow w a len xs) (hl : len ≤ 1048576) :
    Calls Try.prog 29 #[.slice a len cap] w fun e w' => (∃ v u, e = .returned (.tuple #[v, u]) ∧ Drawn w' v ∧ Drawn w' u) ∧ Below w.heap.size w w' := by
  obtain ⟨i0, hi, hz0, hz1, hz2⟩ := info_parts info5
  go_enter Try.func29, Try.ntmps29
  go_wp2_with fail
  refine (source_any a len cap xs w h hl).mono ?_
  rintro e w1 ⟨rfl, s1, b1⟩
  go_wp2_with fail
  refine (next_any w.heap.size 0 6 w1 s1 (by omega) (by omega) (by omega) (by omega)).mono ?_
  rintro e w2 ⟨⟨n, rfl, hn0, hn1⟩, s2, g2⟩
  have b2 := grown_below b1 g2 b1.size (Nat.le_refl _)
  obtain ⟨n, rfl⟩ := Int.eq_ofNat_of_zero_le hn0
  go_wp2_with fail
  refine (some_any w.heap.size _ n w2 s2 (by omega) (by omega) (by omega)).mono ?_
  rintro e w3 ⟨g3', c3, zs, rfl, hzl, hzr, o3, s3, g3⟩
  have b3 := grown_below b2 g3 b2.size (Nat.le_refl _)
  go_wp2_with fail
  refine (next_any w.heap.size _ 4 w3 s3 (by omega) (by omega) (by omega) (by omega)).mono ?_
  rintro e w4 ⟨⟨k, rfl, hk0, hk1⟩, s4, g4⟩
  have b4 := grown_below b3 g4 b3.size (Nat.le_refl _)
  have hlt2 := s2.lt
  have hg3' : w2.heap.size ≤ g3' := (o3.lt g3' rfl).1
  have o4 := o3.kept g4 (.inr (by simp [Value.ownBlock]; omega))
  have r4 := BRow.own o4 hzr
  have hlt4 := s4.lt
  rcases (by omega : k = 0 ∨ k = 1 ∨ 2 ≤ k) with hk | hk | hk
  · subst hk
    go_wp2_with fail
    refine (copy_any _ n c3 zs w4 r4 (fun e => by cases e) (by omega)).mono ?_
    rintro e w5 ⟨a5, c5, rfl, o5, b5⟩
    have hD1 : Drawn w5 (.slice (some ⟨g3', 0, none⟩) n c3) := ⟨_, n, c3, zs, rfl, by omega, r4.below b5 (Nat.le_refl _)⟩
    have hD2 := drawn_of o5 hzr (by omega)
    have HD1 := hide hD1
    have HD2 := hide hD2
    have HB := hide (b4.trans (b5.mono b4.size))
    clear hD1 hD2 o5 o4 o3 r4
    go_wp2_with fail
    go_ret2
    exact ⟨⟨_, _, rfl, unhide HD1, unhide HD2⟩, unhide HB⟩
  · subst hk
    go_wp2_with fail
    refine (copy_any _ n c3 zs w4 r4 (fun e => by cases e) (by omega)).mono ?_
    rintro e w5 ⟨a5, c5, rfl, o5, b5⟩
    have B5 := b4.trans (b5.mono b4.size)
    have r5 := r4.below b5 (Nat.le_refl _)
    have hs5 := b5.size
    go_wp2_with (at_builtin; refine wpList_append_own _ rfl _ _ 22 rfl w4.heap.size 5 i0 (.int .u8 0) 1 1 Try.underlying22 hi hz0 hz1 hz2 rfl (by decide) _ _ _ rfl (o5.alloc _) ⟨w5.heap.size, 0, none⟩ 1 1 [.int .u8 1] rfl rfl ?c1 ?c2 ?c3 ?c4 ?c5 ?_)
    case c1 => exact cell_one_new _ _ _
    case c2 => intro u hu; simp at hu; subst hu; rfl
    case c3 => unfold maxLen; omega
    case c4 => omega
    case c5 => simp; omega
    intro v' w6 hown6 hgrow _
    obtain ⟨a6, cap6, hvv⟩ := own_shape hown6
    have b6 : Below w4.heap.size w4 w6 := (b5.alloc hs5 _).grown hgrow (by simp; omega) (fun g e => (o5.lt g e).1)
    have hD1 : Drawn w6 (.slice (some ⟨g3', 0, none⟩) n c3) := ⟨_, n, c3, zs, rfl, by omega, r4.below b6 (Nat.le_refl _)⟩
    have hD2 : Drawn w6 v' := by
      rw [hvv] at hown6 ⊢
      exact drawn_of (zs := zs ++ [1]) (by simpa using hown6) (range_snoc zs 1 (by omega) hzr) (by omega)
    have HD1 := hide hD1
    have HD2 := hide hD2
    have HB := hide (b4.trans (b6.mono b4.size))
    clear hD1 hD2 o5 o4 o3 r4 r5 hown6 hgrow hvv
    go_wp2_with fail
    go_ret2
    exact ⟨⟨_, v', rfl, unhide HD1, unhide HD2⟩, unhide HB⟩
  · have e0 : (k == 0) = false := by rw [beq_eq_false_iff_ne]; omega
    have e1 : (k == 1) = false := by rw [beq_eq_false_iff_ne]; omega
    go_wp2_with fail
    refine (next_any w.heap.size _ 6 w4 s4 (by omega) (by omega) (by omega) (by omega)).mono ?_
    rintro e w5 ⟨⟨m, rfl, hm0, hm1⟩, s5, g5⟩
    have b5 := grown_below b4 g5 b4.size (Nat.le_refl _)
    have o5 := o4.kept g5 (.inr (by simp [Value.ownBlock]; omega))
    obtain ⟨m, rfl⟩ := Int.eq_ofNat_of_zero_le hm0
    go_wp2_with fail
    refine (some_any w.heap.size _ m w5 s5 (by omega) (by omega) (by omega)).mono ?_
    rintro e w6 ⟨g6', c6, ys, rfl, hyl, hyr, o6, s6, g6⟩
    have b6 := grown_below b5 g6 b5.size (Nat.le_refl _)
    have o7 := o5.kept g6 (.inr (by simp [Value.ownBlock]; omega))
    have hD1 := drawn_of o7 hzr (by omega)
    have hD2 := drawn_of o6 hyr (by omega)
    have HD1 := hide hD1
    have HD2 := hide hD2
    clear hD1 hD2 o7 o6 o5 o4 o3 r4
    go_wp2_with fail
    go_ret2
    exact ⟨⟨_, _, rfl, unhide HD1, unhide HD2⟩, b6⟩

set_option maxHeartbeats 1000000 in
theorem drawAhead_any (a : Option Addr) (len cap : Nat) (xs : List Int) (w : World) (h : BRow w a len xs) (hl : len ≤ 1048576) :
    Calls Try.prog 15 #[.slice a len cap] w fun e w' => (∃ v u, e = .returned (.tuple #[v, u]) ∧ Drawn w' v ∧ Drawn w' u) ∧ Below w.heap.size w w' := by
  have HH := hide (drawTwo_any a len cap xs w h hl)
  clear h
  go_enter Try.func15, Try.ntmps15
  go_wp2_with fail
  refine (unhide HH).mono ?_
  rintro e w1 ⟨⟨v, u, rfl, hv, hu⟩, b1⟩
  have HV := hide hv
  have HU := hide hu
  clear hv hu
  go_wp2_with fail
  go_ret2
  exact ⟨⟨v, u, rfl, unhide HV, unhide HU⟩, b1⟩

end Go.Proofs.Ytcgiibifcnefhaa
