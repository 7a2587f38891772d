/- What is proved here: the model's draw for the law on orders: two slices of at most eight numbers, in new memory. -/
import Derived.Test.YtpcokoejmodmaaaWdY
import Derived.Laws.AppendOwnNone
namespace Go.Proofs.Ytpcokoejmodmaaa
open Go.RowKit
set_option linter.unusedVariables false

set_option maxHeartbeats 2000000 in
theorem drawCmp_any (a : Option Addr) (len cap : Nat) (xs : List Int) (w : World) (h : BRow w a len xs) (hl : len ≤ 1048576) :
    Calls Try.prog 10 #[.slice a len cap] w fun e w' => ∃ (g off n c : Nat) (a2 : Option Addr) (n2 c2 : Nat) (zs ys : List Int), e = .returned (.tuple #[.slice (some ⟨g, off, none⟩) n c, .slice a2 n2 c2]) ∧ n ≤ 8 ∧ n2 ≤ 8 ∧ IRow w' (some ⟨g, off, none⟩) n zs ∧ IRow w' a2 n2 ys ∧ Below w.heap.size w w' := by
  obtain ⟨i0, hi, hz0, hz1, hz2⟩ := info_parts info2
  go_enter Try.func10, Try.ntmps10
  go_wp2_with fail
  refine (source_any a len cap xs w h hl).mono ?_
  rintro e w1 ⟨rfl, s1, b1⟩
  go_wp2_with fail
  refine (l4Draw_any w.heap.size 0 w1 s1 (by omega) (by omega)).mono ?_
  rintro e w2 ⟨⟨v, rfl, g, off, n, c, zs, rfl, hn, hbg, I2⟩, ⟨t2, s2, ht0, ht1⟩, g2⟩
  have b2 := grown_below b1 g2 b1.size (Nat.le_refl _)
  go_wp2_with fail
  refine (chance_any w.heap.size t2 3 w2 s2 ht0 (by omega) (by omega) (by omega)).mono ?_
  rintro e w3 ⟨⟨v, rfl⟩, s3, g3⟩
  have b3 := grown_below b2 g3 b2.size (Nat.le_refl _)
  have J3 := I2.grown g3 (fun e => by have : w.heap.size = g := Option.some.inj e; omega)
  have hb3 := b3.size
  clear s1 b1 g2 s2 b2 I2 g3
  cases v with
  | true =>
    have hzl := J3.1
    have o0 : (w3.alloc (.cells #[] 2)).ownsRow w3.heap.size 2 1 (.slice (some ⟨w3.heap.size, 0, none⟩) 0 0) 0 [] := World.ownsRow_lit w3 #[] 0 (Nat.le_refl _) (by unfold maxLen; omega) rfl
    have K4 := J3.below (below_alloc w3 (.cells #[] 2)) (Nat.le_refl _)
    have b4 := b3.alloc b3.size (.cells #[] 2)
    go_wp2_with (at_builtin; refine wpList_append_own _ rfl _ _ 27 rfl w3.heap.size 2 i0 (.int .i64 0) 1 8 Try.underlying27 hi hz0 hz1 hz2 rfl (by decide) _ _ _ rfl o0 ⟨g, off, none⟩ n c (zs.map (Value.int .i64)) rfl ?c0 ?c1 ?c2 ?c3 ?c4 ?c5 ?_)
    case c0 => simp [hzl]
    case c1 =>
      intro j u hj
      have hjl : j < zs.length := by have := (List.getElem?_eq_some_iff.1 hj).1; simpa using this
      rw [K4.2.2.2 _ rfl j (by omega)]
      rw [List.getElem?_map, List.getElem?_eq_getElem hjl] at hj
      rw [getD_at _ _ hjl]
      exact hj
    case c2 => intro u hu; obtain ⟨z, _, rfl⟩ := List.mem_map.1 hu; rfl
    case c3 => unfold maxLen; omega
    case c4 => omega
    case c5 => simp
    intro v' w5 o5 hgrow _
    obtain ⟨a5, c5, hv⟩ := own_shape o5
    have b5 : Below w.heap.size w w5 := b4.grown hgrow (by have := b4.size; omega) (fun q e => by have : w3.heap.size = q := Option.some.inj e; omega)
    have K5 : IRow w5 (some ⟨g, off, none⟩) n zs := by
      by_cases hp : 0 < n
      · refine K4.grown hgrow (fun e => ?_)
        have e1 : w3.heap.size = g := Option.some.inj e
        have hc := J3.2.2.2 _ rfl 0 hp
        have := lt_of_cell hc
        rw [add_none] at this
        exact absurd this (by show ¬ g < w3.heap.size; omega)
      · exact ⟨J3.1, trivial, fun e => (by cases e), fun x hx i hi => by omega⟩
    rw [hv] at o5
    rw [hv]
    have I5 : IRow w5 a5 n zs := IRow.own2 (zs := zs) (by simpa using o5)
    clear o5 hgrow o0 K4 b4 J3 b3 hv
    go_wp2_with fail
    go_ret2
    exact ⟨g, off, n, c, a5, n, c5, zs, zs, rfl, hn, hn, K5, I5, b5⟩
  | false =>
    go_wp2_with fail
    refine (l4Draw_any w.heap.size _ w3 s3 (by omega) (by omega)).mono ?_
    rintro e w4 ⟨⟨v, rfl, k, off4, m, c4, ys, rfl, hm, hbk, I4⟩, ⟨t4, s4, _, _⟩, g4⟩
    have b4 := grown_below b3 g4 b3.size (Nat.le_refl _)
    have J4 := J3.grown g4 (fun e => by have : w.heap.size = g := Option.some.inj e; omega)
    go_wp2_with fail
    go_ret2
    exact ⟨g, off, n, c, _, m, c4, zs, ys, rfl, hn, hm, J4, I4, b4⟩

end Go.Proofs.Ytpcokoejmodmaaa
