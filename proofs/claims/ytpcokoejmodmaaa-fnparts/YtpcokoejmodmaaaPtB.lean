/- What is proved here: the model's draws for the law on parts: a row of items in new memory, and a number. -/
import Derived.Test.YtpcokoejmodmaaaPtK
import Derived.Test.YtpcokoejmodmaaaPtS
import Derived.Test.YtpcokoejmodmaaaInfo
namespace Go.Proofs.Ytpcokoejmodmaaa
open Go.RowKit
set_option linter.unusedVariables false

/-- What a draw of items leaves. -/
def BentPost (w0 : World) (b B0 : Nat) (t : Int) (e : Ending) (W' : World) : Prop :=
  (∃ (a : Option Addr) (n cap : Nat) (its : List It), e = .returned (.slice a n cap) ∧ 0 < n ∧ n ≤ 201 ∧ ∀ W'', W'.grownBy W'' (some b) → ItRow W'' a n its) ∧ (∃ t', SrcOk W' b t' ∧ 0 ≤ t' ∧ t' ≤ t + 5000) ∧ Below B0 w0 W'

/-- Items that are made at once are all alike. -/
theorem cells_zero : ∀ (n : Nat), cellsOf (List.replicate n ⟨false, 0, []⟩) (List.replicate n (.slice none 0 0)) = (madeCells #[.bool false, .int .i64 0, .slice none 0 0] (n * 3)).toList := by
  intro n
  have hl : (cellsOf (List.replicate n (⟨false, 0, []⟩ : It)) (List.replicate n (Value.slice none 0 0))).length = n * 3 := by rw [cellsOf_length _ _ (by simp)]; simp
  apply List.ext_getElem?
  intro j
  by_cases hj : j < n * 3
  · obtain ⟨i, r, hr, rfl⟩ : ∃ i r, r < 3 ∧ j = i * 3 + r := ⟨j / 3, j % 3, by omega, by omega⟩
    have hi : i < n := by omega
    have h := cellsOf_at (List.replicate n (⟨false, 0, []⟩ : It)) (List.replicate n (Value.slice none 0 0)) i ⟨false, 0, []⟩ (.slice none 0 0) (by simp) (by simp [hi]) (by simp [hi])
    have hm : (i * 3 + r) % 3 = r := by omega
    rcases (by omega : r = 0 ∨ r = 1 ∨ r = 2) with e | e | e
    · subst e; rw [Nat.add_zero] at *; rw [h.1]; simp [madeCells, hj, show i * 3 % 3 = 0 by omega]
    · subst e; rw [h.2.1]; simp [madeCells, hj, hm]
    · subst e; rw [h.2.2]; simp [madeCells, hj, hm]
  · rw [List.getElem?_eq_none (by omega), List.getElem?_eq_none (by simp [madeCells]; omega)]

theorem MkR.zero {W : World} {B g n : Nat} (h : W.ownsRow B 32 3 (.slice (some ⟨g, 0, none⟩) n n) n (madeCells #[.bool false, .int .i64 0, .slice none 0 0] (n * 3)).toList) : MkR W B (.slice (some ⟨g, 0, none⟩) n n) n (List.replicate n ⟨false, 0, []⟩) := by
  refine ⟨by simp, fun it hi => ?_, List.replicate n (.slice none 0 0), by simp, by rw [cells_zero]; exact h, fun i it u h1 h2 => ?_⟩
  · rw [List.eq_of_mem_replicate hi]
    exact ⟨⟨by show (-9223372036854775808 : Int) ≤ 0; decide, by show (0 : Int) ≤ 9223372036854775807; decide, by show (0 : Nat) ≤ maxLen; omega⟩, by show (0 : Nat) ≤ 1000; omega, fun x hx => by cases hx⟩
  · have e1 := List.eq_of_mem_replicate (List.mem_of_getElem? h1)
    have e2 := List.eq_of_mem_replicate (List.mem_of_getElem? h2)
    subst e1 e2
    exact World.ownsRow_nil _ _ _ _

set_option maxHeartbeats 8000000 in
theorem l3Bent_any (b B0 : Nat) (w0 : World) (t : Int) (W : World) (hs : SrcOk W b t) (ht : 0 ≤ t) (ht2 : t ≤ 1000) (hB0 : B0 ≤ b) (hW : Below B0 w0 W) :
    Calls Try.prog 16 #[.pointer (some ⟨b, 0, none⟩)] W fun e W' => BentPost w0 b B0 t e W' := by
  obtain ⟨i0, hi, hz0, hz1, hz2⟩ := info_parts infoItem
  obtain ⟨i5, hi5, hy0, hy1, hy2⟩ := info_parts info5
  have hlt := hs.lt
  have HMK : Hid (Calls Try.prog 33 #[.pointer (some ⟨b, 0, none⟩), .slice none 0 0, .int .i64 (-1), .int .i64 3] W fun e W' => MkPost w0 b W.heap.size B0 0 t 3 e W') := l3Make_any 3 b W.heap.size B0 w0 t (-1) 0 none 0 [] W hs ht (by have := mkG_le 3 (by omega); omega) (MkR.nil _ _) hlt hB0 hW (Nat.le_refl _) (by have := mkF_le 3 (by omega); omega) ⟨by decide, by decide⟩ (by omega)
  generalize W.heap.size = B at HMK hlt
  clear hs hW
  go_enter Try.func16, Try.ntmps16
  go_wp2_with fail
  refine (unhide HMK).mono ?_
  rintro e w1 ⟨a1, c1, n1, its, t1, rfl, M1, hn0, hn1, s1, h1a, h1b, b1, z1⟩
  have hF := mkF_le 3 (by omega)
  have hG := mkG_le 3 (by omega)
  obtain ⟨g, cc, hv⟩ : ∃ g cc, Value.slice a1 n1 c1 = .slice (some ⟨g, 0, none⟩) n1 cc := by
    obtain ⟨_, _, vs, _, h4, _⟩ := M1
    exact own_some h4 hn0
  cases hv
  have HN := hide (next_any b t1 n1 w1 s1 (by omega) (by omega) (by omega) (by omega))
  have HM1 := hide M1
  have HB1 := hide b1
  clear M1 b1 s1 HMK
  go_wp2_with fail
  refine (unhide HN).mono ?_
  rintro e w2 ⟨⟨iv, rfl, hi0, hi1⟩, s2, g2⟩
  obtain ⟨i, rfl⟩ := Int.eq_ofNat_of_zero_le hi0
  have M2 := (unhide HM1).source g2 hlt
  have b2 := grown_below (unhide HB1) g2 (by omega) hB0
  have z2 := g2.size
  have HN2 := hide (next_any b (t1 + 1) 12 w2 s2 (by omega) (by omega) (by omega) (by omega))
  have HM2 := hide M2
  have HB2 := hide b2
  clear M2 b2 s2 g2 HN HM1 HB1
  go_wp2_with fail
  refine (unhide HN2).mono ?_
  rintro e w3 ⟨⟨v, rfl, hv0, hv1⟩, s3, g3⟩
  have M3 := (unhide HM2).source g3 hlt
  have b3 := grown_below (unhide HB2) g3 (by omega) hB0
  have z3 := g3.size
  clear g3 HN2 HM2 HB2
  have hil : i < its.length := by rw [M3.1]; omega
  obtain ⟨it, hit⟩ : ∃ it, its[i]? = some it := ⟨_, List.getElem?_eq_getElem hil⟩
  have hgB : B ≤ g := by
    obtain ⟨_, _, vs, _, h4, _⟩ := M3
    exact (h4.lt g rfl).1
  have ii : (0 : Int) ≤ (i : Int) := by omega
  have ij : (i : Int) < (n1 : Int) := by omega
  obtain ⟨vs, hvl, hrow⟩ : ∃ vs : List Value, vs.length = its.length ∧ w3.ownsRow B 32 3 (.slice (some ⟨g, 0, none⟩) n1 c1) n1 (cellsOf its vs) := by
    obtain ⟨_, _, vs, h3, h4, _⟩ := M3
    exact ⟨vs, h3, h4⟩
  have f0 := hrow.frozenAt (i * 3)
  have f1 := hrow.frozenAt (i * 3 + 1)
  have f2 := hrow.frozenAt (i * 3 + 2)
  obtain ⟨u, hu⟩ : ∃ u, vs[i]? = some u := ⟨_, List.getElem?_eq_getElem (by omega)⟩
  obtain ⟨k0, k1, k2⟩ := cellsOf_at its vs i it u hvl hit hu
  have hn1l : its.length = n1 := M3.1
  have c0 : w3.cell? ⟨g, i * 3, none⟩ = some (.bool it.l) := by rw [hrow.cellAt _ (by omega)]; exact k0
  have c1' : w3.cell? ⟨g, i * 3 + 1, none⟩ = some (.int .i64 it.p) := by rw [hrow.cellAt _ (by omega)]; exact k1
  have c2' : w3.cell? ⟨g, i * 3 + 2, none⟩ = some u := by rw [hrow.cellAt _ (by omega)]; exact k2
  clear k0 k1 k2 hrow hvl
  by_cases q0 : v = 0
  · have hd0 : (v == 0) = true := by simp [q0]
    have R := M3.setL i it hit (!it.l)
    have s4 := s3.grown R.2 (fun q e => by have : g = q := Option.some.inj e; omega)
    have b4 := b3.grown R.2 (by omega) (fun q e => by have : g = q := Option.some.inj e; omega)
    have HR := hide (fun (W'' : World) hg => (R.1.source (W' := W'') hg hlt).row)
    have HS := hide s4
    have HB := hide b4
    generalize it.l = l at c0 HR HS HB
    clear R s4 b4 M3 s3 b3 q0
    go_wp2_with fail
    go_ret
    unfold BentPost
    exact ⟨⟨_, n1, c1, _, rfl, by omega, by omega, unhide HR⟩, ⟨_, unhide HS, by omega, by omega⟩, unhide HB⟩
  · have hd0 : (v == 0) = false := by rw [beq_eq_false_iff_ne]; exact q0
    by_cases q1 : v = 1
    · have hd1 : (v == 1) = true := by simp [q1]
      have HP := hide (pick_any b w3.heap.size 4 [-1, 0, 1, 200] _ (w3.alloc (Obj.cells (([-1, 0, 1, 200] : List Int).map (Value.int .i64)).toArray 2)) (s3.below (below_alloc w3 _) (Nat.le_refl _)) (by omega) (by omega) (by omega) (by decide) (by decide) rfl (cells_new [-1, 0, 1, 200] 2))
      have HM := hide (M3.below (below_alloc w3 (Obj.cells (([-1, 0, 1, 200] : List Int).map (Value.int .i64)).toArray 2)) (Nat.le_refl _))
      have HBB := hide (b3.alloc (by omega) (Obj.cells (([-1, 0, 1, 200] : List Int).map (Value.int .i64)).toArray 2))
      have zz : (w3.alloc (Obj.cells (([-1, 0, 1, 200] : List Int).map (Value.int .i64)).toArray 2)).heap.size = w3.heap.size + 1 := by simp
      have HZZ := hide zz
      clear M3 s3 b3 q1 q0 c0 c1' c2' f0 f1 f2 zz
      go_wp2_with fail
      refine (unhide HP).mono ?_
      rintro e w5 ⟨⟨y, rfl, hy⟩, s5, g5⟩
      have hyr : -9223372036854775808 ≤ y ∧ y ≤ 9223372036854775807 := by
        simp only [List.mem_cons, List.not_mem_nil, or_false] at hy
        omega
      have M5 := (unhide HM).source g5 hlt
      have b5 := grown_below (unhide HBB) g5 (by rw [unhide HZZ]; omega) hB0
      have z5 := g5.size
      rw [unhide HZZ] at z5
      obtain ⟨vs5, hvl5, hrow5⟩ : ∃ vs : List Value, vs.length = its.length ∧ w5.ownsRow B 32 3 (.slice (some ⟨g, 0, none⟩) n1 c1) n1 (cellsOf its vs) := by
        obtain ⟨_, _, vs, h3, h4, _⟩ := M5
        exact ⟨vs, h3, h4⟩
      have f5 := hrow5.frozenAt (i * 3 + 1)
      obtain ⟨u5, hu5⟩ : ∃ u, w5.cell? ⟨g, i * 3 + 1, none⟩ = some u := by
        rw [hrow5.cellAt _ (by omega)]
        exact ⟨_, List.getElem?_eq_getElem (by rw [hrow5.1]; omega)⟩
      have R := M5.setP i it hit y hyr
      have s6 := s5.grown R.2 (fun q e => by have : g = q := Option.some.inj e; omega)
      have b6 := b5.grown R.2 (by omega) (fun q e => by have : g = q := Option.some.inj e; omega)
      have HR := hide (fun (W'' : World) hg => (R.1.source (W' := W'') hg hlt).row)
      have HS := hide s6
      have HB := hide b6
      clear R s6 b6 M5 s5 b5 g5 hy HP HM HBB HZZ hrow5 hvl5
      go_wp2_with fail
      go_ret
      unfold BentPost
      exact ⟨⟨_, n1, c1, _, rfl, by omega, by omega, unhide HR⟩, ⟨_, unhide HS, by omega, by omega⟩, unhide HB⟩
    · have hd1 : (v == 1) = false := by rw [beq_eq_false_iff_ne]; exact q1
      by_cases q2 : v = 2
      · have hd2 : (v == 2) = true := by simp [q2]
        have HP := hide (pick_any b w3.heap.size 2 [300, 301] _ (w3.alloc (Obj.cells (([300, 301] : List Int).map (Value.int .i64)).toArray 2)) (s3.below (below_alloc w3 _) (Nat.le_refl _)) (by omega) (by omega) (by omega) (by decide) (by decide) rfl (cells_new [300, 301] 2))
        have HM := hide (M3.below (below_alloc w3 (Obj.cells (([300, 301] : List Int).map (Value.int .i64)).toArray 2)) (Nat.le_refl _))
        have HBB := hide (b3.alloc (by omega) (Obj.cells (([300, 301] : List Int).map (Value.int .i64)).toArray 2))
        have zz : (w3.alloc (Obj.cells (([300, 301] : List Int).map (Value.int .i64)).toArray 2)).heap.size = w3.heap.size + 1 := by simp
        have HZZ := hide zz
        clear M3 s3 b3 q2 q1 q0 c0 c1' c2' f0 f1 f2 zz
        go_wp2_with fail
        refine (unhide HP).mono ?_
        rintro e w5 ⟨⟨y, rfl, hy⟩, s5, g5⟩
        have hyr : 0 ≤ y ∧ y ≤ 301 := by
          simp only [List.mem_cons, List.not_mem_nil, or_false] at hy
          omega
        obtain ⟨m, rfl⟩ := Int.eq_ofNat_of_zero_le hyr.1
        have M5 := (unhide HM).source g5 hlt
        have b5 := grown_below (unhide HBB) g5 (by rw [unhide HZZ]; omega) hB0
        have z5 := g5.size
        rw [unhide HZZ] at z5
        have HM5 := hide M5
        have HB5 := hide b5
        have HS5 := hide s5
        clear M5 b5 s5 g5 hy HP HM HBB HZZ
        go_wp2_with (at_make; refine wpList_make_full _ rfl _ _ 22 rfl w5.heap.size 5 i5 (.int .u8 0) 1 Try.underlying22 hi5 hy0 hy1 _ _ _ _ m rfl rfl rfl rfl ?c1 ?c2 ?c3 ?_)
        case c1 => rw [hy2]; omega
        case c2 => unfold maxLen; omega
        case c3 => simp
        intro w6 hown hgrow
        have kb : Below w5.heap.size w5 w6 := (Below.refl _ _).grown hgrow (Nat.le_refl _) (fun k e => by cases e)
        rw [toList_madeCells_one] at hown
        have hu6 : w6.ownsRow B 5 1 (.slice (some ⟨w5.heap.size, 0, none⟩) m m) (List.replicate m (0 : Int)).length ((List.replicate m (0 : Int)).map (Value.int .u8)) := by rw [List.length_replicate, List.map_replicate]; exact ownsRow_base hown (by omega)
        have M6 := (unhide HM5).below kb (Nat.le_refl _)
        have s6 := (unhide HS5).below kb (Nat.le_refl _)
        have b6 := (unhide HB5).trans (kb.mono (by omega))
        have z6 := kb.size
        obtain ⟨vs6, hvl6, hrow6⟩ : ∃ vs : List Value, vs.length = its.length ∧ w6.ownsRow B 32 3 (.slice (some ⟨g, 0, none⟩) n1 c1) n1 (cellsOf its vs) := by
          obtain ⟨_, _, vs, h3, h4, _⟩ := M6
          exact ⟨vs, h3, h4⟩
        have f6 := hrow6.frozenAt (i * 3 + 2)
        obtain ⟨u6, hu7⟩ : ∃ u, w6.cell? ⟨g, i * 3 + 2, none⟩ = some u := by
          rw [hrow6.cellAt _ (by omega)]
          exact ⟨_, List.getElem?_eq_getElem (by rw [hrow6.1]; omega)⟩
        have R := M6.setB i it hit _ (List.replicate m (0 : Int)) hu6 (by simp; omega) (fun x hx => by rw [List.eq_of_mem_replicate hx]; omega)
        have s7 := s6.grown R.2 (fun q e => by have : g = q := Option.some.inj e; omega)
        have b7 := b6.grown R.2 (by omega) (fun q e => by have : g = q := Option.some.inj e; omega)
        have HR := hide (fun (W'' : World) hg => (R.1.source (W' := W'') hg hlt).row)
        have HS := hide s7
        have HB := hide b7
        clear R s7 b7 M6 s6 b6 hown hgrow kb hu6 hrow6 hvl6 HM5 HB5 HS5
        go_wp2_with fail
        go_ret
        unfold BentPost
        exact ⟨⟨_, n1, c1, _, rfl, by omega, by omega, unhide HR⟩, ⟨_, unhide HS, by omega, by omega⟩, unhide HB⟩
      · have hd2 : (v == 2) = false := by rw [beq_eq_false_iff_ne]; exact q2
        by_cases q3 : v = 3
        · have hd3 : (v == 3) = true := by simp [q3]
          have HS3 := hide s3
          have HB3 := hide b3
          clear M3 s3 b3 q3 q2 q1 q0 c0 c1' c2' f0 f1 f2
          go_wp2_with (at_make; refine wpList_make_full _ rfl _ _ 24 rfl w3.heap.size 32 i0 (.agg #[.bool false, .int .i64 0, .slice none 0 0]) 3 Try.underlying24 hi hz0 hz1 _ _ _ _ 201 rfl rfl rfl rfl ?c1 ?c2 ?c3 ?_)
          case c1 => rw [hz2]; omega
          case c2 => unfold maxLen; omega
          case c3 => simp
          intro w6 hown hgrow
          have kb : Below w3.heap.size w3 w6 := (Below.refl _ _).grown hgrow (Nat.le_refl _) (fun k e => by cases e)
          have M6 := MkR.zero hown
          have s6 := (unhide HS3).below kb (Nat.le_refl _)
          have b6 := (unhide HB3).trans (kb.mono (by omega))
          have HR := hide (fun (W'' : World) hg => (M6.source (W' := W'') hg (show b < w3.heap.size by omega)).row)
          have HS := hide s6
          have HB := hide b6
          clear M6 s6 b6 hown hgrow kb HS3 HB3
          go_wp2_with fail
          go_ret
          unfold BentPost
          exact ⟨⟨_, 201, 201, _, rfl, by omega, by omega, unhide HR⟩, ⟨_, unhide HS, by omega, by omega⟩, unhide HB⟩
        · have hd3 : (v == 3) = false := by rw [beq_eq_false_iff_ne]; exact q3
          have HR := hide (fun (W'' : World) hg => (M3.source (W' := W'') hg hlt).row)
          have HS := hide s3
          have HB := hide b3
          clear M3 s3 b3 q3 q2 q1 q0 c0 c1' c2' f0 f1 f2
          go_wp2_with fail
          go_ret
          unfold BentPost
          exact ⟨⟨_, n1, c1, _, rfl, by omega, by omega, unhide HR⟩, ⟨_, unhide HS, by omega, by omega⟩, unhide HB⟩

set_option maxHeartbeats 4000000 in
theorem drawParts_any (a : Option Addr) (len cap : Nat) (xs : List Int) (w : World) (h : BRow w a len xs) (hl : len ≤ 1048576) :
    Calls Try.prog 6 #[.slice a len cap] w fun e w' => (∃ (g : Option Addr) (n c : Nat) (its : List It) (k : Int), e = .returned (.tuple #[.slice g n c, .int .i64 k]) ∧ 0 < n ∧ n ≤ 201 ∧ -1 ≤ k ∧ k ≤ n ∧ ItRow w' g n its) ∧ Below w.heap.size w w' := by
  go_enter Try.func6, Try.ntmps6
  go_wp2_with fail
  refine (source_any a len cap xs w h hl).mono ?_
  rintro e w1 ⟨rfl, s1, b1⟩
  go_wp2_with fail
  refine (l3Bent_any w.heap.size w.heap.size w 0 w1 s1 (by omega) (by omega) (Nat.le_refl _) b1).mono ?_
  rintro e w2 ⟨⟨g, n, c, its, rfl, hn0, hn1, I2⟩, ⟨t2, s2, ht0, ht1⟩, b2⟩
  have HN := hide (next_any w.heap.size t2 ((n : Int) + 2) w2 s2 ht0 (by omega) (by omega) (by omega))
  have HI := hide I2
  have HB := hide b2
  have s2l := s2.lt
  clear s1 b1 I2 b2 s2
  go_wp2_with fail
  refine (unhide HN).mono ?_
  rintro e w3 ⟨⟨v, rfl, hv0, hv1⟩, s3, g3⟩
  have b3 := grown_below (unhide HB) g3 (unhide HB).size (Nat.le_refl _)
  have I3 := (unhide HI) w3 g3
  have HI3 := hide I3
  clear I3 g3 s3 HN HI HB
  go_wp2_with fail
  go_ret2
  exact ⟨⟨g, n, c, its, v - 1, rfl, hn0, hn1, by omega, by omega, unhide HI3⟩, b3⟩

end Go.Proofs.Ytpcokoejmodmaaa
