/- What is proved here: the model's draws for the law on hashes: they return some bytes, at most 1201, in new memory. -/
import Derived.Test.YtjdeobifhgdffaaDoorChance
import Derived.Test.YtjdeobifhgdffaaDoorSome
namespace Go.Proofs.YtjdeobifhgdffaaDoor
open Go.RowKit
set_option linter.unusedVariables false

set_option maxHeartbeats 2000000 in
theorem l2Data_any (b : Nat) (t : Int) (w : World) (h : SrcOk w b t) (ht : 0 ≤ t) (ht2 : t ≤ 1000) :
    Calls Tryd.prog 30 #[.pointer (some ⟨b, 0, none⟩)] w fun e w' => ∃ (g n cap : Nat) (zs : List Int), e = .returned (.slice (some ⟨g, 0, none⟩) n cap) ∧ n ≤ 1201 ∧ BRow w' (some ⟨g, 0, none⟩) n zs ∧ w.grownBy w' (some b) := by
  obtain ⟨i0, hi, hz0, hz1, hz2⟩ := info_parts info5
  have hbl := h.lt
  go_enter Tryd.func30, Tryd.ntmps30
  go_wp2_with fail
  refine (chance_any b t 30 w h ht (by omega) (by omega) (by omega)).mono ?_
  rintro e w1 ⟨⟨v, rfl⟩, s1, g1⟩
  cases v with
  | true =>
    have hz1s : w1.heap.size = w1.heap.size := rfl
    go_wp2_with (at_make; refine wpList_make_full _ rfl _ _ 22 rfl w1.heap.size 5 i0 (.int .u8 0) 1 Tryd.underlying22 hi hz0 hz1 _ _ _ _ 1201 rfl rfl rfl rfl ?c1 ?c2 ?c3 ?_)
    case c1 => rw [hz2]; omega
    case c2 => unfold maxLen; omega
    case c3 => simp
    intro w2 hown hgrow
    rw [toList_madeCells_one] at hown
    have r2 : BRow w2 (some ⟨w1.heap.size, 0, none⟩) 1201 (List.replicate 1201 0) := BRow.own (zs := List.replicate 1201 0) (by rw [List.map_replicate]; exact hown) (fun x hx => by rw [List.eq_of_mem_replicate hx]; omega)
    have G2 : w.grownBy w2 (some b) := by
      refine ⟨hgrow.os.trans g1.os, hgrow.tape.trans g1.tape, hgrow.output.trans g1.output, Nat.le_trans g1.size hgrow.size, fun q hq hne => ?_⟩
      rw [hgrow.block q (Nat.lt_of_lt_of_le hq g1.size) (by simp)]
      exact g1.block q hq hne
    have HR := hide r2
    have HG := hide G2
    clear r2 G2 hown hgrow
    go_wp2_with fail
    go_ret
    exact ⟨_, 1201, _, _, rfl, by omega, unhide HR, unhide HG⟩
  | false =>
    go_wp2_with fail
    refine (next_any b _ 20 w1 s1 (by omega) (by omega) (by omega) (by omega)).mono ?_
    rintro e w2 ⟨⟨p, rfl, hp0, hp1⟩, s2, g2⟩
    go_wp2_with fail
    refine (next_any b _ 200 w2 s2 (by omega) (by omega) (by omega) (by omega)).mono ?_
    rintro e w3 ⟨⟨q, rfl, hq0, hq1⟩, s3, g3⟩
    have G3 := grownBy_trans (grownBy_trans g1 g2) g3
    go_wp2_with fail
    have hc : ∀ i, i < 9 → (w3.alloc (Obj.cells #[.int .i64 p, .int .i64 0, .int .i64 32, .int .i64 135, .int .i64 136, .int .i64 137, .int .i64 271, .int .i64 272, .int .i64 q] 2)).cell? ⟨w3.heap.size, i, none⟩ = some (.int .i64 (([p, 0, 32, 135, 136, 137, 271, 272, q] : List Int).getD i 0)) := by
      intro i hi
      rw [World.cell?_alloc_new]
      rcases (by omega : i = 0 ∨ i = 1 ∨ i = 2 ∨ i = 3 ∨ i = 4 ∨ i = 5 ∨ i = 6 ∨ i = 7 ∨ i = 8) with r | r | r | r | r | r | r | r | r <;> subst r <;> rfl
    have hlt := s3.lt
    refine (pick_any b w3.heap.size 9 [p, 0, 32, 135, 136, 137, 271, 272, q] _ _ (s3.below (below_alloc w3 _) (Nat.le_refl _)) (by omega) (by omega) (by omega) (by omega) (by omega) rfl hc).mono ?_
    rintro e w4 ⟨⟨v, rfl, hv⟩, s4, g4⟩
    have hv2 : 0 ≤ v ∧ v ≤ 272 := by
      simp only [List.mem_cons, List.not_mem_nil, or_false] at hv
      omega
    have G4 := grownBy_trans (grownBy_trans G3 (World.grownBy_alloc w3 _ _)) g4
    obtain ⟨m, rfl⟩ := Int.eq_ofNat_of_zero_le hv2.1
    have HG4 := hide G4
    clear hc hv g1 g2 g3 g4 G3 G4 s1 s2 s3
    go_wp2_with fail
    refine (some_any b _ m w4 s4 (by omega) (by omega) (by omega)).mono ?_
    rintro e w5 ⟨g, c, zs, rfl, hzl, hzr, hown, s5, g5⟩
    have r5 := BRow.own hown hzr
    have G5 := grownBy_trans (unhide HG4) g5
    go_wp2_with fail
    go_ret
    exact ⟨g, m, c, zs, rfl, by omega, r5, G5⟩

set_option maxHeartbeats 2000000 in
theorem drawKc_any (a : Option Addr) (len cap : Nat) (xs : List Int) (w : World) (h : BRow w a len xs) (hl : len ≤ 1048576) :
    Calls Tryd.prog 8 #[.slice a len cap] w fun e w' => ∃ (g n c : Nat) (zs : List Int), e = .returned (.slice (some ⟨g, 0, none⟩) n c) ∧ n ≤ 1201 ∧ BRow w' (some ⟨g, 0, none⟩) n zs ∧ Below w.heap.size w w' := by
  go_enter Tryd.func8, Tryd.ntmps8
  go_wp2_with fail
  refine (source_any a len cap xs w h hl).mono ?_
  rintro e w1 ⟨rfl, s1, b1⟩
  go_wp2_with fail
  refine (l2Data_any w.heap.size 0 w1 s1 (by omega) (by omega)).mono ?_
  rintro e w2 ⟨g, n, c, zs, rfl, hn, r2, g2⟩
  have b2 := grown_below b1 g2 b1.size (Nat.le_refl _)
  go_wp2_with fail
  go_ret
  exact ⟨g, n, c, zs, rfl, hn, r2, b2⟩

end Go.Proofs.YtjdeobifhgdffaaDoor
