/- What is proved here: the model's draw of items, one within the other: it returns a row of items in new memory. -/
import Derived.Test.YtpcokoejmodmaaaPtM
import Derived.Test.YtpcokoejmodmaaaSome
import Derived.Test.YtpcokoejmodmaaaChance
import Derived.Test.YtpcokoejmodmaaaWordC
import Derived.Deep.DeepCutAuto
import Derived.Deep.CutBlock
namespace Go.Proofs.Ytpcokoejmodmaaa
open Go.RowKit
set_option linter.unusedVariables false

theorem infoItem : (Try.prog.info? 32).map (fun i => (i.zero, i.size, i.bytes)) = some (some (.agg #[.bool false, .int .i64 0, .slice none 0 0]), 3, 40) := by kernel_rfl

/-- How many items a draw adds at most, and how often it asks the source. -/
def mkF : Nat → Nat
  | 0 => 1
  | d + 1 => 1 + 3 * mkF d
def mkG : Nat → Int
  | 0 => 70
  | d + 1 => 70 + 3 * mkG d

theorem mkF_le (d : Nat) (h : d ≤ 3) : 1 ≤ mkF d ∧ mkF d ≤ 40 := by
  rcases (by omega : d = 0 ∨ d = 1 ∨ d = 2 ∨ d = 3) with r | r | r | r <;> subst r <;> decide
theorem mkG_le (d : Nat) (h : d ≤ 3) : 70 ≤ mkG d ∧ mkG d ≤ 4000 := by
  rcases (by omega : d = 0 ∨ d = 1 ∨ d = 2 ∨ d = 3) with r | r | r | r <;> subst r <;> decide

theorem MkR.shape {W : World} {B n : Nat} {v : Value} {its : List It} (h : MkR W B v n its) : ∃ a cap, v = .slice a n cap := by
  obtain ⟨h1, h2, vs, h3, h4, h5⟩ := h
  exact own_shape h4

theorem three_new (w : World) (x y z : Value) (t : TypeId) : ∀ (j : Nat) (u : Value), [x, y, z][j]? = some u → (w.alloc (.cells #[x, y, z] t)).cell? ((⟨w.heap.size, 0, none⟩ : Addr).add j) = some u := by
  intro j u hj
  rw [add_none, Nat.zero_add, World.cell?_alloc_new]
  match j, hj with
  | 0, hj => simpa using hj
  | 1, hj => simpa using hj
  | 2, hj => simpa using hj

/-- What a draw of items gives. -/
def MkPost (w0 : World) (b B B0 n : Nat) (t : Int) (d : Nat) (e : Ending) (W' : World) : Prop :=
  ∃ (a' : Option Addr) (cap' n' : Nat) (its' : List It) (t' : Int), e = .returned (.slice a' n' cap') ∧ MkR W' B (.slice a' n' cap') n' its' ∧ n < n' ∧ n' ≤ n + mkF d ∧ SrcOk W' b t' ∧ t ≤ t' ∧ t' ≤ t + mkG d ∧ Below B0 w0 W' ∧ B ≤ W'.heap.size

set_option maxHeartbeats 8000000 in
theorem l3Make_any (d : Nat) : ∀ (b B B0 : Nat) (w0 : World) (t parent : Int) (n : Nat) (a : Option Addr) (cap : Nat) (its : List It) (W : World) (hs : SrcOk W b t) (ht : 0 ≤ t) (ht2 : t + mkG d ≤ 50000) (hm : MkR W B (.slice a n cap) n its) (hb : b < B) (hB0 : B0 ≤ b) (hW : Below B0 w0 W) (hBW : B ≤ W.heap.size) (hn : n + mkF d ≤ 1000)
    (hp : -9223372036854775808 ≤ parent ∧ parent ≤ 9223372036854775807) (hd3 : d ≤ 3),
    Calls Try.prog 33 #[.pointer (some ⟨b, 0, none⟩), .slice a n cap, .int .i64 parent, .int .i64 (d : Int)] W fun e W' => MkPost w0 b B B0 n t d e W' := by
  induction d with
  | zero =>
    intro b B B0 w0 t parent n a cap its wc hs ht ht2 hm hb hB0 hW hBW hn hp hd3
    obtain ⟨i0, hi, hz0, hz1, hz2⟩ := info_parts infoItem
    have eF : mkF 0 = 1 := rfl
    have eG : mkG 0 = 70 := rfl
    rw [eF] at hn
    rw [eG] at ht2
    have HF1 := hide eF
    have HG1 := hide eG
    clear eF eG
    obtain ⟨t', htt⟩ : ∃ t' : Int, t' = t := ⟨_, rfl⟩
    rw [← htt] at hs
    go_enter Try.func33, Try.ntmps33
    have hlt := hs.lt
    have HP := hide (pick_any b wc.heap.size 8 [0, 1, 1, 2, 5, 55, 56, 60] t' (wc.alloc (Obj.cells (([0, 1, 1, 2, 5, 55, 56, 60] : List Int).map (Value.int .i64)).toArray 2)) (hs.below (below_alloc wc _) (Nat.le_refl _)) (by omega) (by omega) (Nat.ne_of_gt hlt) (by decide) (by decide) rfl (cells_new [0, 1, 1, 2, 5, 55, 56, 60] 2))
    have M2 := hm.below (below_alloc wc (Obj.cells (([0, 1, 1, 2, 5, 55, 56, 60] : List Int).map (Value.int .i64)).toArray 2)) (Nat.le_refl _)
    have b2 := hW.alloc (by omega) (Obj.cells (([0, 1, 1, 2, 5, 55, 56, 60] : List Int).map (Value.int .i64)).toArray 2)
    have z2 : (wc.alloc (Obj.cells (([0, 1, 1, 2, 5, 55, 56, 60] : List Int).map (Value.int .i64)).toArray 2)).heap.size = wc.heap.size + 1 := by simp
    have HM2 := hide M2
    have HB2 := hide b2
    have HZ2 := hide z2
    clear hs hm hW M2 b2 z2
    go_wp2_with fail
    refine (unhide HP).mono ?_
    rintro e w3 ⟨⟨v, rfl, hv⟩, s3, g3⟩
    have hv2 : 0 ≤ v ∧ v ≤ 60 := by
      simp only [List.mem_cons, List.not_mem_nil, or_false] at hv
      omega
    have M3 := (unhide HM2).source g3 hb
    have z3 := g3.size
    rw [unhide HZ2] at z3
    have b3 := grown_below (unhide HB2) g3 (by rw [unhide HZ2]; omega) hB0
    obtain ⟨m, rfl⟩ := Int.eq_ofNat_of_zero_le hv2.1
    clear hv g3 HP HM2 HB2 HZ2
    go_wp2_with fail
    refine (some_any b _ m w3 s3 (by omega) (by omega) (by omega)).mono ?_
    rintro e w4 ⟨g, c, zs, rfl, hzl, hzr, hown, s4, g4⟩
    have M4 := M3.source g4 hb
    have z4 := g4.size
    have b4 := grown_below b3 g4 (by omega) hB0
    have hu := own_below (ownsRow_base hown (show B ≤ w3.heap.size by omega)) (below_alloc w4 (Obj.cells #[.bool false, .int .i64 parent, .slice (some ⟨g, 0, none⟩) m c] 32)) (Nat.le_refl _)
    obtain ⟨h1, h2, us, h3, h4, h5⟩ := M4.below (below_alloc w4 (Obj.cells #[.bool false, .int .i64 parent, .slice (some ⟨g, 0, none⟩) m c] 32)) (Nat.le_refl _)
    have s5 := s4.below (below_alloc w4 (Obj.cells #[.bool false, .int .i64 parent, .slice (some ⟨g, 0, none⟩) m c] 32)) (Nat.le_refl _)
    have b5 := b4.alloc (by omega) (Obj.cells #[.bool false, .int .i64 parent, .slice (some ⟨g, 0, none⟩) m c] 32)
    have z5 : (w4.alloc (Obj.cells #[.bool false, .int .i64 parent, .slice (some ⟨g, 0, none⟩) m c] 32)).heap.size = w4.heap.size + 1 := by simp
    clear M3 M4 s3 s4 b3 b4 g4 hown
    go_wp2_with (at_builtin; refine wpList_append_own _ rfl _ _ 24 rfl B 32 i0 (.agg #[.bool false, .int .i64 0, .slice none 0 0]) 3 40 Try.underlying24 hi hz0 hz1 hz2 rfl (by decide) _ _ _ rfl h4 ⟨w4.heap.size, 0, none⟩ 1 1 [.bool false, .int .i64 parent, .slice (some ⟨g, 0, none⟩) m c] rfl rfl ?c1 ?c2 ?c3 ?c4 ?c5 ?_)
    case c1 => exact three_new _ _ _ _ _
    case c2 => intro u hu; simp at hu; rcases hu with rfl | rfl | rfl <;> rfl
    case c3 => unfold maxLen; omega
    case c4 => omega
    case c5 => omega
    intro v' w6 hown2 hgrow _
    obtain ⟨a6, cap6, hv6⟩ := own_shape hown2
    have hrow : ∀ q, (Value.slice a n cap).ownBlock = some q → B ≤ q := fun q e => (h4.lt q e).1
    have s6 := s5.grown hgrow (fun q e => by have := hrow q e; omega)
    have b6 := b5.grown hgrow (by omega) (fun q e => by have := hrow q e; omega)
    have z6 := hgrow.size
    rw [hv6] at hown2
    have M6 : MkR w6 B (.slice a6 (n + 1) cap6) (n + 1) (its ++ [⟨false, parent, zs⟩]) := MkR.snoc h1 h2 h3 h4 h5 (by show World.ownsRow _ _ _ _ _ zs.length _; rw [hzl]; exact hu) ⟨⟨hp.1, hp.2, by show zs.length ≤ maxLen; rw [hzl]; unfold maxLen; omega⟩, by show zs.length ≤ 1000; omega, hzr⟩ hown2 hgrow
    rw [hv6]
    have HM6 := hide M6
    have HS6 := hide s6
    have HB6 := hide b6
    clear M6 s6 b6 hown2 hgrow s5 b5 h1 h2 h3 h4 h5 hu hrow hv6
    go_wp2_with fail
    go_ret
    unfold MkPost; rw [unhide HF1, unhide HG1]; exact ⟨a6, cap6, n + 1, _, _, rfl, unhide HM6, by omega, by omega, unhide HS6, by omega, by omega, unhide HB6, by omega⟩
  | succ d ih =>
    intro b B B0 w0 t parent n a cap its W hs ht ht2 hm hb hB0 hW hBW hn hp hd3
    obtain ⟨i0, hi, hz0, hz1, hz2⟩ := info_parts infoItem
    have fF := mkF_le (d + 1) hd3
    have fG := mkG_le (d + 1) hd3
    have gF := mkF_le d (by omega)
    have gG := mkG_le d (by omega)
    have eF : mkF (d + 1) = 1 + 3 * mkF d := rfl
    have eG : mkG (d + 1) = 70 + 3 * mkG d := rfl
    have hdz : (((d + 1 : Nat) : Int) == 0) = false := by rw [beq_eq_false_iff_ne]; omega
    have HS := hide hs
    have HM := hide hm
    have HW := hide hW
    have HIH := hide ih
    clear hs hm hW ih
    generalize hF1 : mkF (d + 1) = F1 at fF eF hn
    generalize hG1 : mkG (d + 1) = G1 at fG eG ht2
    have HF1 := hide hF1
    have HG1 := hide hG1
    clear hF1 hG1
    go_enter Try.func33, Try.ntmps33
    go_upto_region 1 with fail
    go_cut [21] (fun r wx => ∃ (q : Bool) (t' : Int), r = .bool q ∧ SrcOk wx b t' ∧ t ≤ t' ∧ t' ≤ t + 1 ∧ MkR wx B (.slice a n cap) n its ∧ Below B0 w0 wx ∧ B ≤ wx.heap.size)
    case first =>
      by_cases h20 : 20 < n
      · have hd1 : decide ((20 : Int) < (n : Int)) = true := decide_eq_true (by omega)
        have hd2 : decide (20 < n) = true := decide_eq_true h20
        go_wp2_with fail
        go_meet
        exact ⟨true, t, rfl, unhide HS, by omega, by omega, unhide HM, unhide HW, hBW⟩
      · have hd1 : decide ((20 : Int) < (n : Int)) = false := decide_eq_false (by omega)
        have hd2 : decide (20 < n) = false := decide_eq_false h20
        have HC := hide (chance_any b t 3 W (unhide HS) ht (by omega) (by omega) (by omega))
        go_wp2_with fail
        refine (unhide HC).mono ?_
        rintro e w2 ⟨⟨v, rfl⟩, s2, g2⟩
        have M2 := (unhide HM).source g2 hb
        have b2 := grown_below (unhide HW) g2 (by omega) hB0
        have z2 := g2.size
        go_wp2_with fail
        go_meet
        exact ⟨v, t + 1, rfl, s2, by omega, by omega, M2, b2, by omega⟩
    case rest =>
      obtain ⟨q, t', rfl, hs, ht0, ht1, hm, hW, hBW⟩ := hcut
      clear HS HM HW
      cases q with
      | true =>
        have hlt := hs.lt
        have HP := hide (pick_any b wc.heap.size 8 [0, 1, 1, 2, 5, 55, 56, 60] t' (wc.alloc (Obj.cells (([0, 1, 1, 2, 5, 55, 56, 60] : List Int).map (Value.int .i64)).toArray 2)) (hs.below (below_alloc wc _) (Nat.le_refl _)) (by omega) (by omega) (Nat.ne_of_gt hlt) (by decide) (by decide) rfl (cells_new [0, 1, 1, 2, 5, 55, 56, 60] 2))
        have M2 := hm.below (below_alloc wc (Obj.cells (([0, 1, 1, 2, 5, 55, 56, 60] : List Int).map (Value.int .i64)).toArray 2)) (Nat.le_refl _)
        have b2 := hW.alloc (by omega) (Obj.cells (([0, 1, 1, 2, 5, 55, 56, 60] : List Int).map (Value.int .i64)).toArray 2)
        have z2 : (wc.alloc (Obj.cells (([0, 1, 1, 2, 5, 55, 56, 60] : List Int).map (Value.int .i64)).toArray 2)).heap.size = wc.heap.size + 1 := by simp
        have HM2 := hide M2
        have HB2 := hide b2
        have HZ2 := hide z2
        clear hs hm hW M2 b2 z2
        go_wp2_with fail
        refine (unhide HP).mono ?_
        rintro e w3 ⟨⟨v, rfl, hv⟩, s3, g3⟩
        have hv2 : 0 ≤ v ∧ v ≤ 60 := by
          simp only [List.mem_cons, List.not_mem_nil, or_false] at hv
          omega
        have M3 := (unhide HM2).source g3 hb
        have z3 := g3.size
        rw [unhide HZ2] at z3
        have b3 := grown_below (unhide HB2) g3 (by rw [unhide HZ2]; omega) hB0
        obtain ⟨m, rfl⟩ := Int.eq_ofNat_of_zero_le hv2.1
        clear hv g3 HP HM2 HB2 HZ2
        go_wp2_with fail
        refine (some_any b _ m w3 s3 (by omega) (by omega) (by omega)).mono ?_
        rintro e w4 ⟨g, c, zs, rfl, hzl, hzr, hown, s4, g4⟩
        have M4 := M3.source g4 hb
        have z4 := g4.size
        have b4 := grown_below b3 g4 (by omega) hB0
        have hu := own_below (ownsRow_base hown (show B ≤ w3.heap.size by omega)) (below_alloc w4 (Obj.cells #[.bool false, .int .i64 parent, .slice (some ⟨g, 0, none⟩) m c] 32)) (Nat.le_refl _)
        obtain ⟨h1, h2, us, h3, h4, h5⟩ := M4.below (below_alloc w4 (Obj.cells #[.bool false, .int .i64 parent, .slice (some ⟨g, 0, none⟩) m c] 32)) (Nat.le_refl _)
        have s5 := s4.below (below_alloc w4 (Obj.cells #[.bool false, .int .i64 parent, .slice (some ⟨g, 0, none⟩) m c] 32)) (Nat.le_refl _)
        have b5 := b4.alloc (by omega) (Obj.cells #[.bool false, .int .i64 parent, .slice (some ⟨g, 0, none⟩) m c] 32)
        have z5 : (w4.alloc (Obj.cells #[.bool false, .int .i64 parent, .slice (some ⟨g, 0, none⟩) m c] 32)).heap.size = w4.heap.size + 1 := by simp
        clear M3 M4 s3 s4 b3 b4 g4 hown
        go_wp2_with (at_builtin; refine wpList_append_own _ rfl _ _ 24 rfl B 32 i0 (.agg #[.bool false, .int .i64 0, .slice none 0 0]) 3 40 Try.underlying24 hi hz0 hz1 hz2 rfl (by decide) _ _ _ rfl h4 ⟨w4.heap.size, 0, none⟩ 1 1 [.bool false, .int .i64 parent, .slice (some ⟨g, 0, none⟩) m c] rfl rfl ?c1 ?c2 ?c3 ?c4 ?c5 ?_)
        case c1 => exact three_new _ _ _ _ _
        case c2 => intro u hu; simp at hu; rcases hu with rfl | rfl | rfl <;> rfl
        case c3 => unfold maxLen; omega
        case c4 => omega
        case c5 => omega
        intro v' w6 hown2 hgrow _
        obtain ⟨a6, cap6, hv6⟩ := own_shape hown2
        have hrow : ∀ q, (Value.slice a n cap).ownBlock = some q → B ≤ q := fun q e => (h4.lt q e).1
        have s6 := s5.grown hgrow (fun q e => by have := hrow q e; omega)
        have b6 := b5.grown hgrow (by omega) (fun q e => by have := hrow q e; omega)
        have z6 := hgrow.size
        rw [hv6] at hown2
        have M6 : MkR w6 B (.slice a6 (n + 1) cap6) (n + 1) (its ++ [⟨false, parent, zs⟩]) := MkR.snoc h1 h2 h3 h4 h5 (by show World.ownsRow _ _ _ _ _ zs.length _; rw [hzl]; exact hu) ⟨⟨hp.1, hp.2, by show zs.length ≤ maxLen; rw [hzl]; unfold maxLen; omega⟩, by show zs.length ≤ 1000; omega, hzr⟩ hown2 hgrow
        rw [hv6]
        have HM6 := hide M6
        have HS6 := hide s6
        have HB6 := hide b6
        clear M6 s6 b6 hown2 hgrow s5 b5 h1 h2 h3 h4 h5 hu hrow hv6
        go_wp2_with fail
        go_ret
        unfold MkPost; rw [unhide HF1, unhide HG1]; exact ⟨a6, cap6, n + 1, _, _, rfl, unhide HM6, by omega, by omega, unhide HS6, by omega, by omega, unhide HB6, by omega⟩
      | false =>
        obtain ⟨h1, h2, us, h3, h4, h5⟩ := hm.below (below_alloc wc (Obj.cells #[.bool true, .int .i64 parent, .slice none 0 0] 32)) (Nat.le_refl _)
        have s5 := hs.below (below_alloc wc (Obj.cells #[.bool true, .int .i64 parent, .slice none 0 0] 32)) (Nat.le_refl _)
        have b5 := hW.alloc (by omega) (Obj.cells #[.bool true, .int .i64 parent, .slice none 0 0] 32)
        have z5 : (wc.alloc (Obj.cells #[.bool true, .int .i64 parent, .slice none 0 0] 32)).heap.size = wc.heap.size + 1 := by simp
        clear hs hm hW
        go_wp2_with (at_builtin; refine wpList_append_own _ rfl _ _ 24 rfl B 32 i0 (.agg #[.bool false, .int .i64 0, .slice none 0 0]) 3 40 Try.underlying24 hi hz0 hz1 hz2 rfl (by decide) _ _ _ rfl h4 ⟨wc.heap.size, 0, none⟩ 1 1 [.bool true, .int .i64 parent, .slice none 0 0] rfl rfl ?c1 ?c2 ?c3 ?c4 ?c5 ?_)
        case c1 => exact three_new _ _ _ _ _
        case c2 => intro u hu; simp at hu; rcases hu with rfl | rfl | rfl <;> rfl
        case c3 => unfold maxLen; omega
        case c4 => omega
        case c5 => omega
        intro v' w6 hown2 hgrow _
        obtain ⟨a6, cap6, hv6⟩ := own_shape hown2
        have hrow : ∀ q, (Value.slice a n cap).ownBlock = some q → B ≤ q := fun q e => (h4.lt q e).1
        have s6 := s5.grown hgrow (fun q e => by have := hrow q e; omega)
        have b6 := b5.grown hgrow (by omega) (fun q e => by have := hrow q e; omega)
        have z6 := hgrow.size
        rw [hv6] at hown2
        have M6 : MkR w6 B (.slice a6 (n + 1) cap6) (n + 1) (its ++ [⟨true, parent, []⟩]) := MkR.snoc h1 h2 h3 h4 h5 (World.ownsRow_nil _ _ _ _) ⟨⟨hp.1, hp.2, by show (0 : Nat) ≤ maxLen; omega⟩, by show (0 : Nat) ≤ 1000; omega, fun x hx => by simp at hx⟩ hown2 hgrow
        rw [hv6]
        have z7 : B ≤ w6.heap.size := by omega
        have HM6 := hide M6
        have HB6 := hide b6
        have HN := hide (next_any b t' 4 w6 s6 (by omega) (by omega) (by omega) (by omega))
        clear M6 s6 b6 hown2 hgrow s5 b5 h1 h2 h3 h4 h5 hrow hv6 z5 z6
        go_wp2_with fail
        refine (unhide HN).mono ?_
        rintro e w7 ⟨⟨k, rfl, hk0, hk1⟩, s7, g7⟩
        have M7 := (unhide HM6).source g7 hb
        have b7 := grown_below (unhide HB6) g7 (by omega) hB0
        have z8 : B ≤ w7.heap.size := Nat.le_trans z7 g7.size
        obtain ⟨K, rfl⟩ := Int.eq_ofNat_of_zero_le hk0
        have HM7 := hide M7
        have HS7 := hide s7
        have HB7 := hide b7
        clear M7 s7 b7 g7 HN HM6 HB6
        go_wp2_with fail
        go_loopw [1, 10] (fun s i wr => ∃ (j n' : Nat) (a' : Option Addr) (cap' : Nat) (its' : List It) (t2 : Int), j ≤ K ∧ i = .int .i64 ((K : Int) - j) ∧ s = .slice a' n' cap' ∧ MkR wr B (.slice a' n' cap') n' its' ∧ n < n' ∧ n' ≤ n + 1 + j * mkF d ∧ SrcOk wr b t2 ∧ t' ≤ t2 ∧ t2 ≤ t' + 1 + j * mkG d ∧ Below B0 w0 wr ∧ B ≤ wr.heap.size) (fun _ i _ => (intOf i).toNat)
        case atStart => exact ⟨0, n + 1, a6, cap6, _, t' + 1, by omega, by simp, rfl, unhide HM7, by omega, by omega, unhide HS7, by omega, by omega, unhide HB7, z8⟩
        case round =>
          obtain ⟨j, n', a', cap', its', t2, hj, rfl, rfl, hM, hn1, hn2, hS, ht2', ht3, hB, hz⟩ := hrel
          clear HM7 HS7 HB7
          have e1 : (j + 1) * mkF d = j * mkF d + mkF d := by rw [Nat.add_mul, Nat.one_mul]
          have e2 : ((j + 1 : Nat) : Int) * mkG d = (j : Int) * mkG d + mkG d := by rw [Int.natCast_add, Int.add_mul]; simp
          have m0 : ((d + 1 : Nat) : Int) - 1 = (d : Int) := by omega
          by_cases hlt : j < K
          · have hd1 : decide ((0 : Int) < (K : Int) - j) = true := decide_eq_true (by omega)
            have hd2 : (0 : Int) < (K : Int) - j := by omega
            have q1 : j * mkF d ≤ 2 * mkF d := Nat.mul_le_mul_right _ (by omega)
            have q2 : (j : Int) * mkG d ≤ 2 * mkG d := Int.mul_le_mul_of_nonneg_right (by omega) (by omega)
            have HR := hide ((unhide HIH) b B B0 w0 t2 (n : Int) n' a' cap' its' wr hS (by omega) (by omega) hM hb hB0 hB hz (by omega) (by omega) (by omega))
            have HE1 := hide e1
            have HE2 := hide e2
            have HN2 := hide hn2
            have HT3 := hide ht3
            clear hM hS hB q1 q2 e1 e2 hn2 ht3
            go_wp2_with fail
            refine (unhide HR).mono ?_
            rintro e w9 ⟨a9, c9, n9, its9, t9, rfl, M9, hn9, hn10, s9, ht9, ht10, b9, z9⟩
            have HM9 := hide M9
            have HS9 := hide s9
            have HB9 := hide b9
            clear M9 s9 b9
            go_wp2_with fail
            go_roundw
            case rel => exact ⟨j + 1, n9, a9, c9, its9, t9, by omega, by go_num, rfl, unhide HM9, by omega, by rw [unhide HE1]; have := unhide HN2; omega, unhide HS9, by omega, by rw [unhide HE2]; have := unhide HT3; omega, unhide HB9, z9⟩
            case measure => simp [intOf]; omega
          · obtain rfl : j = K := by omega
            have hd1 : decide ((0 : Int) < (j : Int) - j) = false := decide_eq_false (by omega)
            have hd2 : ¬ ((0 : Int) < (j : Int) - j) := by omega
            have q1 : j * mkF d ≤ 3 * mkF d := Nat.mul_le_mul_right _ (by omega)
            have q2 : (j : Int) * mkG d ≤ 3 * mkG d := Int.mul_le_mul_of_nonneg_right (by omega) (by omega)
            have r1 : n' ≤ n + F1 := by omega
            have r2 : t2 ≤ t + G1 := by omega
            clear e1 e2 q1 q2 hn2 ht3
            go_wp2_with fail
            go_ret
            unfold MkPost
            rw [unhide HF1, unhide HG1]
            exact ⟨a', cap', n', its', t2, rfl, hM, hn1, r1, hS, by omega, r2, hB, hz⟩

end Go.Proofs.Ytpcokoejmodmaaa
