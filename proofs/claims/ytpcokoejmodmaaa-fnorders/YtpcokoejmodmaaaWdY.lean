/- What is proved here: the model's draws for the laws on wide numbers: they return slices of seven or eight numbers, in new memory. -/
import Derived.Test.YtpcokoejmodmaaaChance
import Derived.Test.YtpcokoejmodmaaaWordD
import Derived.Test.YtpcokoejmodmaaaIBase
import Derived.Test.YtpcokoejmodmaaaInfo2
import Derived.Test.YtpcokoejmodmaaaOwnG
import Derived.Deep.DeepCutAuto
import Derived.Deep.CutBlock
namespace Go.Proofs.Ytpcokoejmodmaaa
open Go.RowKit
set_option linter.unusedVariables false

/-- What a draw of a wide number gives: a row of seven or eight numbers, behind the source. -/
def WDrawn (w' : World) (b : Nat) (v : Value) : Prop := ∃ (g off n cap : Nat) (zs : List Int), v = .slice (some ⟨g, off, none⟩) n cap ∧ n ≤ 8 ∧ b < g ∧ IRow w' (some ⟨g, off, none⟩) n zs

set_option maxHeartbeats 4000000 in
theorem l4Draw_any (b : Nat) (t : Int) (w : World) (h : SrcOk w b t) (ht : 0 ≤ t) (ht2 : t ≤ 1000) :
    Calls Try.prog 22 #[.pointer (some ⟨b, 0, none⟩)] w fun e w' => (∃ v, e = .returned v ∧ WDrawn w' b v) ∧ (∃ t', SrcOk w' b t' ∧ 0 ≤ t' ∧ t' ≤ t + 50) ∧ w.grownBy w' (some b) := by
  obtain ⟨i0, hi, hz0, hz1, hz2⟩ := info_parts info2
  have hbl := h.lt
  have HH := hide h
  clear h
  go_enter Try.func22, Try.ntmps22
  go_wp2_with (at_make; refine wpList_make_full _ rfl _ _ 27 rfl w.heap.size 2 i0 (.int .i64 0) 1 Try.underlying27 hi hz0 hz1 _ _ _ _ 8 rfl rfl (by omega) (by omega) ?c1 ?c2 ?c3 ?_)
  case c1 => rw [hz2]; omega
  case c2 => unfold maxLen; omega
  case c3 => simp
  intro w1 hown hgrow
  rw [toList_madeCells_one] at hown
  have s1 : SrcOk w1 b t := (unhide HH).grown hgrow (fun k e => by cases e)
  have g1 : w.grownBy w1 (some b) := ⟨hgrow.os, hgrow.tape, hgrow.output, hgrow.size, fun q hq _ => hgrow.block q hq (by simp)⟩
  have HO1 : Hid (w1.ownsRow w.heap.size 2 1 (.slice (some ⟨w.heap.size, 0, none⟩) 8 8) 8 ((List.replicate 8 (0 : Int)).map (Value.int .i64))) := by rw [List.map_replicate]; exact hown
  have HS1 := hide s1
  have HG1 := hide g1
  clear hown hgrow s1 g1 HH
  go_wp2_with fail
  go_loopw [4] (fun i wr => ∃ (k : Nat) (L : List Int) (t' : Int), k ≤ 8 ∧ i = .int .i64 k ∧ L.length = 8 ∧ wr.ownsRow w.heap.size 2 1 (.slice (some ⟨w.heap.size, 0, none⟩) 8 8) 8 (L.map (Value.int .i64)) ∧ SrcOk wr b t' ∧ 0 ≤ t' ∧ t' ≤ t + 4 * k ∧ w.grownBy wr (some b)) (fun i _ => 8 - (intOf i).toNat)
  case atStart => exact ⟨0, List.replicate 8 0, t, by omega, rfl, by simp, unhide HO1, unhide HS1, ht, by omega, unhide HG1⟩
  case round =>
    obtain ⟨k, L, t', hk, rfl, hL, hown, hs, ht0, ht1, hG⟩ := hrel
    clear HO1 HS1 HG1
    have hsz := hG.size
    by_cases hlt : k < 8
    · have hdk : decide ((k : Int) < 8) = true := decide_eq_true (by omega)
      have HC := hide (chance_any b t' 2 wr hs ht0 (by omega) (by omega) (by omega))
      have j0 : (0 : Int) ≤ (k : Int) := by omega
      have j1 : (k : Int) < 8 := by omega
      clear hs
      go_wp2_with fail
      refine (unhide HC).mono ?_
      rintro e w2 ⟨⟨v, rfl⟩, s2, g2⟩
      have hown2 := own_grown hown g2 (fun q e e2 => by have e1 : w.heap.size = q := Option.some.inj e; have e3 : q = b := Option.some.inj e2; omega)
      have G2 := grownBy_trans hG g2
      have HO2 := hide hown2
      have HG2 := hide G2
      clear hown hG g2 HC
      cases v with
      | true =>
        have HW := hide (word_draw b (t' + 1) w2 s2 (by omega) (by omega))
        clear s2
        go_wp2_with fail
        refine (unhide HW).mono ?_
        rintro e w3 ⟨⟨v, rfl, hv⟩, s3, g3⟩
        have hown3 := own_grown (unhide HO2) g3 (fun q e e2 => by have e1 : w.heap.size = q := Option.some.inj e; have e3 : q = b := Option.some.inj e2; omega)
        have G3 := grownBy_trans (unhide HG2) g3
        have hfz := hown3.frozenAt k
        obtain ⟨u, hu⟩ : ∃ u, w3.cell? ⟨w.heap.size, k, none⟩ = some u := by
          rw [hown3.cellAt k (by omega)]
          exact ⟨_, List.getElem?_eq_getElem (by rw [hown3.1]; omega)⟩
        have R := hown3.stored k (.int .i64 v)
        rw [← List.map_set] at R
        have s4 : SrcOk (w3.setCell ⟨w.heap.size, k, none⟩ (.int .i64 v)) b (t' + 1 + 1 + 1 + 1) := s3.grown R.2 (fun q e => by have : w.heap.size = q := Option.some.inj e; omega)
        have G4 : w.grownBy (w3.setCell ⟨w.heap.size, k, none⟩ (.int .i64 v)) (some b) := by
          refine ⟨R.2.os.trans G3.os, R.2.tape.trans G3.tape, R.2.output.trans G3.output, Nat.le_trans G3.size R.2.size, fun q hq hne => ?_⟩
          rw [R.2.block q (Nat.lt_of_lt_of_le hq G3.size) (fun e => by have : q = w.heap.size := Option.some.inj e; omega)]
          exact G3.block q hq hne
        have HO := hide R.1
        have HS := hide s4
        have HG := hide G4
        clear R s4 G4 s3 g3 hown3 G3 HO2 HG2 HW
        go_wp2_with fail
        go_roundw
        case rel => exact ⟨k + 1, L.set k v, t' + 1 + 1 + 1 + 1, by omega, by go_num, by simpa using hL, unhide HO, unhide HS, by omega, by omega, unhide HG⟩
        case measure => simp [intOf]; omega
      | false =>
        have HS := hide s2
        clear s2
        go_wp2_with fail
        go_roundw
        case rel => exact ⟨k + 1, L, t' + 1, by omega, by go_num, hL, unhide HO2, unhide HS, by omega, by omega, unhide HG2⟩
        case measure => simp [intOf]; omega
    · obtain rfl : k = 8 := by omega
      have hdk : decide (((8 : Nat) : Int) < 8) = false := rfl
      have HC := hide (chance_any b t' 2 wr hs ht0 (by omega) (by omega) (by omega))
      clear hs
      go_wp2_with fail
      refine (unhide HC).mono ?_
      rintro e w2 ⟨⟨v, rfl⟩, s2, g2⟩
      have hown2 := own_grown hown g2 (fun q e e2 => by have e1 : w.heap.size = q := Option.some.inj e; have e3 : q = b := Option.some.inj e2; omega)
      have G2 := grownBy_trans hG g2
      clear hown hG g2 HC
      have hsz2 := G2.size
      generalize hg : w.heap.size = g at hown2 hbl ⊢
      have HGG := hide hg
      clear hg
      cases v
      case' true =>
        have hfz := hown2.frozenAt 7
        obtain ⟨u, hu⟩ : ∃ u, w2.cell? ⟨g, 7, none⟩ = some u := by
          rw [hown2.cellAt 7 (by omega)]
          exact ⟨_, List.getElem?_eq_getElem (by rw [hown2.1]; omega)⟩
        have R := hown2.stored 7 (.int .i64 0)
        rw [← List.map_set] at R
        have s4 : SrcOk (w2.setCell ⟨g, 7, none⟩ (.int .i64 0)) b (t' + 1) := s2.grown R.2 (fun q e => by have : g = q := Option.some.inj e; omega)
        have G4 : w.grownBy (w2.setCell ⟨g, 7, none⟩ (.int .i64 0)) (some b) := by
          have := unhide HGG
          refine ⟨R.2.os.trans G2.os, R.2.tape.trans G2.tape, R.2.output.trans G2.output, Nat.le_trans G2.size R.2.size, fun q hq hne => ?_⟩
          rw [R.2.block q (Nat.lt_of_lt_of_le hq G2.size) (fun e => by have : q = g := Option.some.inj e; omega)]
          exact G2.block q hq hne
        have o4 := R.1
        have hL4 : (L.set 7 0).length = 8 := by simpa using hL
        clear R s2 G2 hown2
        go_wp2_with fail
        clear hfz hu
        generalize L.set 7 0 = L4 at o4 hL4
        generalize w2.setCell ⟨g, 7, none⟩ (.int .i64 0) = w4 at o4 s4 G4 ⊢
      case' false =>
        have o4 := hown2
        have s4 := s2
        have G4 := G2
        have hL4 := hL
        clear hown2 s2 G2
        go_wp2_with fail
        obtain ⟨L4, hLL⟩ : ∃ L4, L4 = L := ⟨_, rfl⟩
        obtain ⟨w4, hww⟩ : ∃ w4, w4 = w2 := ⟨_, rfl⟩
        rw [← hLL] at o4 hL4
        rw [← hww] at o4 s4 G4 ⊢
        clear hLL hww
      all_goals
        refine (next_any b (t' + 1) 12 w4 s4 (by omega) (by omega) (by omega) (by omega)).mono ?_
        rintro e w5 ⟨⟨v, rfl, hv0, hv1⟩, s5, g5⟩
        have hgs := unhide HGG
        have o5 := own_grown o4 g5 (fun q e e2 => by have e1 : g = q := Option.some.inj e; have e3 : q = b := Option.some.inj e2; omega)
        have G5 := grownBy_trans G4 g5
        have I5 := IRow.own o5
        clear s4 o4 G4 g5 hgs
        by_cases hva : v = 0
        · have hd0 : (v == 0) = true := by simp [hva]
          have J5 := I5.sub 1 7 (by omega)
          rw [Nat.zero_add] at J5
          have HJ := hide J5
          have HG := hide G5
          have HS := hide s5
          clear I5 J5 G5 s5 o5 hva
          go_wp2_with fail
          go_ret
          exact ⟨⟨_, rfl, g, 1, 7, 7, _, rfl, by omega, hbl, unhide HJ⟩, ⟨_, unhide HS, by omega, by omega⟩, unhide HG⟩
        · have hd0 : (v == 0) = false := by rw [beq_eq_false_iff_ne]; exact hva
          by_cases hvb : v = 1
          · have hd1 : (v == 1) = true := by simp [hvb]
            have hlt5 := s5.lt
            have HP := hide (pick_any b w5.heap.size 2 [-1, 4294967296] _ _ (s5.below (below_alloc w5 (Obj.cells (([-1, 4294967296] : List Int).map (Value.int .i64)).toArray 2)) (Nat.le_refl _)) (by omega) (by omega) (by omega) (by omega) (by omega) rfl (cells_list [-1, 4294967296] 2))
            have o6 := o5.alloc (Obj.cells (([-1, 4294967296] : List Int).map (Value.int .i64)).toArray 2)
            have G6 := grownBy_trans G5 (World.grownBy_alloc w5 (Obj.cells (([-1, 4294967296] : List Int).map (Value.int .i64)).toArray 2) (some b))
            have HO6 := hide o6
            have HG6 := hide G6
            clear I5 o5 s5 G5 o6 G6 hva hvb
            go_wp2_with fail
            refine (unhide HP).mono ?_
            rintro e w7 ⟨⟨y, rfl, _⟩, s7, g7⟩
            have o7 := own_grown (unhide HO6) g7 (fun q e e2 => by have e1 : g = q := Option.some.inj e; have e3 : q = b := Option.some.inj e2; have := unhide HGG; omega)
            have G7 := grownBy_trans (unhide HG6) g7
            have hfz := o7.frozenAt 0
            obtain ⟨u, hu⟩ : ∃ u, w7.cell? ⟨g, 0, none⟩ = some u := by
              rw [o7.cellAt 0 (by omega)]
              exact ⟨_, List.getElem?_eq_getElem (by rw [o7.1]; omega)⟩
            have R := o7.stored 0 (.int .i64 y)
            rw [← List.map_set] at R
            have s8 : SrcOk (w7.setCell ⟨g, 0, none⟩ (.int .i64 y)) b (t' + 1 + 1 + 1) := s7.grown R.2 (fun q e => by have : g = q := Option.some.inj e; have := unhide HGG; omega)
            have G8 : w.grownBy (w7.setCell ⟨g, 0, none⟩ (.int .i64 y)) (some b) := by
              have := unhide HGG
              refine ⟨R.2.os.trans G7.os, R.2.tape.trans G7.tape, R.2.output.trans G7.output, Nat.le_trans G7.size R.2.size, fun q hq hne => ?_⟩
              rw [R.2.block q (Nat.lt_of_lt_of_le hq G7.size) (fun e => by have : q = g := Option.some.inj e; omega)]
              exact G7.block q hq hne
            have HJ := hide (IRow.own R.1)
            have HS := hide s8
            have HG := hide G8
            clear R s8 G8 s7 g7 o7 G7 HP
            go_wp2_with fail
            go_ret
            exact ⟨⟨_, rfl, g, 0, 8, 8, _, rfl, by omega, hbl, unhide HJ⟩, ⟨_, unhide HS, by omega, by omega⟩, unhide HG⟩
          · have hd1 : (v == 1) = false := by rw [beq_eq_false_iff_ne]; exact hvb
            have HJ := hide I5
            have HG := hide G5
            have HS := hide s5
            clear I5 G5 s5 o5 hva hvb
            go_wp2_with fail
            go_ret
            exact ⟨⟨_, rfl, g, 0, 8, 8, _, rfl, by omega, hbl, unhide HJ⟩, ⟨_, unhide HS, by omega, by omega⟩, unhide HG⟩

end Go.Proofs.Ytpcokoejmodmaaa
