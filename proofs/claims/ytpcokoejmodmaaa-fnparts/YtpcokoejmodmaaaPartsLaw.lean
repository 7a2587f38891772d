/- What is proved here: the law FnParts returns true for every slice of bytes and writes into no memory that was there. -/
import Derived.Test.YtpcokoejmodmaaaPtB
import Derived.Test.YtpcokoejmodmaaaPtG
import Derived.Test.YtpcokoejmodmaaaPartS
import Derived.Test.YtpcokoejmodmaaaPartI
import Derived.Test.YtpcokoejmodmaaaLwN
import Derived.Test.YtpcokoejmodmaaaLwB
import Derived.Test.YtpcokoejmodmaaaTwo
import Derived.Deep.DeepCutAuto
import Derived.Deep.DrawnRows
import Derived.RegionTactic
import Derived.BigRegion
import Derived.Deep.RegionWith
import Derived.Deep.RegionHeld3
namespace Go.Proofs.Ytpcokoejmodmaaa
open Go.RowKit
set_option linter.unusedVariables false
attribute [local go_sem ↓] Go.wp_at_zero Go.wp_at_succ

theorem fieldP0 (x y : Value) (w : World) : (Instr.field 29 (.agg #[x, y]) 0).run Try.prog w = .ok x w := by kernel_rfl
theorem fieldP1 (x y : Value) (w : World) : (Instr.field 29 (.agg #[x, y]) 1).run Try.prog w = .ok y w := by kernel_rfl

set_option maxRecDepth 100000 in
set_option maxHeartbeats 3000000 in
theorem partsLaw_any (a : Option Addr) (len cap : Nat) (xs : List Int) (w : World) (h : BRow w a len xs) :
    Calls Try.prog 3 #[.slice a len cap] w fun e w' => e = .returned (.bool true) ∧ Below w.heap.size w w' := by
  by_cases hl : len ≤ 1048576
  · have hd : decide (1048576 < (len : Int)) = false := decide_eq_false (by omega)
    go_enter Try.func3, Try.ntmps3
    go_wp2_with fail
    refine (lwBig_any a len cap w).mono ?_
    rintro e w' ⟨rfl, rfl⟩
    rw [hd]
    go_wp2_with fail
    refine (drawParts_any a len cap xs _ h hl).mono ?_
    rintro e w1 ⟨⟨g, n, c, its, k, rfl, hn0, hn1, hk0, hk1, i1⟩, b1⟩
    go_wp2_with fail
    refine (implParts_any g n c its k w1 i1 (by omega)).mono ?_
    rintro e w2 ⟨a2, d2, rfl, q2, b2⟩
    have HSP := hide (fun W (hW : ItRow W g n its) => specParts_any g n c its k W hW (by omega))
    obtain ⟨k3, s3, p0, p1⟩ := new2 w2 (.int .i64 (poCode its k)) (.slice a2 (poList its k).length d2) 29
    have T3 : Two (w2.alloc (Obj.cells #[Value.int IntKind.i64 (poCode its k), Value.slice a2 (poList its k).length d2] 29)) w2.heap.size (.int .i64 (poCode its k)) (.slice a2 (poList its k).length d2) := Two.new _ _ _ _
    have k23 := b2.trans (k3.mono b2.size)
    have i3 := i1.below k23 (Nat.le_refl _)
    have r3 := (IRow.own2 q2).below k3 (Nat.le_refl _)
    have B3 := b1.trans (k23.mono b1.size)
    have hlen := i1.1
    have hpl := poList_length its k
    clear b1 b2 k23 i1 q2 k3
    by_cases hok : poCode its k = 0
    · have hf := po_zero hok
      obtain ⟨hU, hpos, h200⟩ := upOk_of hf
      have hall := partSum_all its hU its.length (Nat.le_refl _) hpos
      have HSR := hide (show sameB (poList its k) (poList its k) = true by simp [sameB])
      rw [hok] at HSP p0 p1 s3 i3 r3 B3 T3 ⊢
      generalize poList its k = R at HSP p0 p1 s3 i3 r3 B3 T3 HSR hpl ⊢
      generalize R.length = rl at HSP p0 p1 s3 i3 r3 B3 T3 hpl ⊢
      obtain ⟨w3, e3⟩ : ∃ w3, w2.alloc (Obj.cells #[Value.int IntKind.i64 0, Value.slice a2 rl d2] 29) = w3 := ⟨_, rfl⟩
      rw [e3] at p0 p1 s3 i3 r3 B3 T3
      obtain ⟨bg, og, rfl, hbg, hat⟩ := i3.at hn0
      have HAT := hide hat
      have HPO := hide (fun (I : Nat) (hI : I < its.length) W (hW : ItRow W (some ⟨bg, og, none⟩) n its) => implParts_any (some ⟨bg, og, none⟩) n c its (I : Int) W hW (by omega))
      have HI3 := hide i3
      have HT3 := hide T3
      have HR3 := hide r3
      have HB3 := hide B3
      have HU := hide hU
      have HF := hide hf
      have HALL := hide hall
      have HLEN := hide hlen
      clear hat i3 T3 r3 B3 hok hU hf hall s3
      go_wp2_with (rw [e3])
      clear p0 p1 e3
      go_loopw [6, 7] (fun s i wr => ∃ (I S : Nat), I ≤ n ∧ i = .int .i64 (I : Int) ∧ s = .int .i64 (S : Int) ∧ S = partSum its its.length I ∧ Below w3.heap.size w3 wr) (fun _ i _ => n - (intOf i).toNat)
      case atStart => exact ⟨0, 0, Nat.zero_le _, rfl, rfl, rfl, Below.refl _ _⟩
      case round =>
        obtain ⟨I, S, hI, rfl, rfl, hS, hbr⟩ := hrel
        by_cases hlt : I < n
        · have dI : decide ((I : Int) < (n : Int)) = true := decide_eq_true (by omega)
          have hIl : I < its.length := by rw [unhide HLEN]; exact hlt
          have hP := po_at (unhide HF) I hIl
          have hC := hide ((unhide HPO) I hIl wr ((unhide HI3).below hbr (Nat.le_refl _)))
          rw [hP.1, hP.2] at hC
          have hSl := partSum_le its I its.length (Nat.le_refl _)
          rw [← hS] at hSl
          have hml := partsUp_length its (I : Int) its.length
          have HPT := hide (fun (q : Nat) (hq : q < (partsUp its (I : Int) its.length).length) => part_at (unhide HU) hq)
          have HNX : Hid (S + (partsUp its (I : Int) its.length).length = partSum its its.length (I + 1)) := by show _ = _; rw [partSum, ← hS]
          generalize partsUp its (I : Int) its.length = L at hC hml HPT HNX
          have HBR := hide hbr
          clear hS hP hbr
          go_wp2_with fail
          refine (unhide hC).mono ?_
          rintro e w5 ⟨a5, d5, rfl, q5, b5⟩
          have k6 := below_alloc w5 (Obj.cells #[Value.int IntKind.i64 0, Value.slice a5 L.length d5] 29)
          have T6 : Two (w5.alloc (Obj.cells #[Value.int IntKind.i64 0, Value.slice a5 L.length d5] 29)) w5.heap.size (.int .i64 0) (.slice a5 L.length d5) := Two.new _ _ _ _
          have L6 := (IRow.own2 q5).below k6 (Nat.le_refl _)
          have K6 : Below w3.heap.size w3 (w5.alloc (Obj.cells #[Value.int IntKind.i64 0, Value.slice a5 L.length d5] 29)) := (unhide HBR).trans ((b5.trans (k6.mono b5.size)).mono (unhide HBR).size)
          clear q5 b5 k6 hC
          go_wp2_with fail
          generalize w5.alloc (Obj.cells #[Value.int IntKind.i64 0, Value.slice a5 L.length d5] 29) = w6 at T6 L6 K6 ⊢
          generalize w5.heap.size = b6 at T6 ⊢
          obtain ⟨t0, t1, t2⟩ := T6
          have hLl : L.length ≤ 200 := by omega
          obtain ⟨m, hm⟩ : ∃ m, m = L.length := ⟨_, rfl⟩
          rw [← hm] at t1 L6 hLl HPT HNX ⊢
          have HK6 := hide K6
          have HL6 := hide L6
          have hIl2 : I < 200 := by omega
          have hS2 : S ≤ 200 := by omega
          have hnl : n ≤ 200 := by omega
          clear hm L6 K6 hml hSl HBR
          go_loop [9] (fun i => ∃ q : Nat, q ≤ m ∧ i = .int .i64 (q : Int)) (fun i => m - (intOf i).toNat)
          case atStart => exact ⟨0, Nat.zero_le _, rfl⟩
          case round =>
            obtain ⟨q, hq, rfl⟩ := hrel
            by_cases hqm : q < m
            · obtain ⟨j, it, e1, hj1, hj2, hit, hp⟩ := (unhide HPT) q hqm
              obtain ⟨b7, o7, rfl, _, c7⟩ := (unhide HL6).at (by omega)
              have x7 := c7 q hqm
              rw [e1] at x7
              obtain ⟨sa, sl, sc, _, y7, _, _⟩ := ((unhide HAT) j it hit).below (unhide HK6) (Nat.le_refl _)
              rw [hp] at y7
              have dq : decide ((q : Int) < (m : Int)) = true := decide_eq_true (by omega)
              have z1 : decide ((j : Int) ≤ (I : Int)) = false := decide_eq_false (by omega)
              have z1' : decide (j ≤ I) = false := decide_eq_false (by omega)
              have z2 : decide ((n : Int) ≤ (j : Int)) = false := decide_eq_false (by rw [← unhide HLEN]; omega)
              have z2' : decide (n ≤ j) = false := decide_eq_false (by rw [← unhide HLEN]; omega)
              have z2'' : decide ((j : Int) ≥ (n : Int)) = false := decide_eq_false (by rw [← unhide HLEN]; omega)
              have z3 : ((I : Int) != (I : Int)) = false := by simp
              have j0 : (0 : Int) ≤ (j : Int) := by omega
              have j2 : (j : Int) < (n : Int) := by rw [← unhide HLEN]; omega
              have q0 : (0 : Int) ≤ (q : Int) := by omega
              have q1 : (q : Int) < (m : Int) := by omega
              clear e1 hit hp c7 hj1 hj2
              go_wp2_with fail
              go_round
              case rel => exact ⟨q + 1, by omega, by go_num⟩
              case measure => simp [intOf]; omega
            · obtain rfl : q = m := by omega
              have dq : decide ((q : Int) < (q : Int)) = false := decide_eq_false (by omega)
              go_wp2_with fail
              go_roundw
              case rel => exact ⟨I + 1, S + q, by omega, by go_num, by go_num, unhide HNX, unhide HK6⟩
              case measure => simp [intOf]; omega
        · obtain rfl : I = n := by omega
          have dI : decide ((I : Int) < (I : Int)) = false := decide_eq_false (by omega)
          have hSn : (S : Int) = (I : Int) - 1 := by
            have e := unhide HALL
            rw [unhide HLEN] at e
            rw [unhide HLEN] at hS
            rw [hS, e]; omega
          have hwr : IntKind.i64.wrap ((I : Int) - 1) = (S : Int) := by rw [IntKind.wrap_i64, hSn]; omega
          have hss : ((S : Int) == (S : Int)) = true := by simp
          have hr := (unhide HR3).below hbr (Nat.le_refl _)
          have hi := (unhide HI3).below hbr (Nat.le_refl _)
          have HT := hide ((unhide HT3).below hbr (Nat.le_refl _))
          have c1 := (unhide HT).2.1
          have hrl : rl ≤ 1048576 := by omega
          have hfd := fieldP1
          have HB := hide ((unhide HB3).trans (hbr.mono (unhide HB3).size))
          have HR := hide hr
          have HI := hide hi
          clear hS hSn hbr hr hi HPO HAT HALL
          go_wp2_with fail
          go_region_held3 (fun W => W.cell? ⟨w2.heap.size, 1, none⟩ = some (.slice a2 rl d2)) (first | exact e2 | go_keep)
            (first
            | (go_at_call 8; refine ((unhide HSP) _ ((unhide HI).below (by first | exact (Below.refl _ _).drew | exact below_drewN (Below.refl _ _) _) (Nat.le_refl _))).mono ?_; rintro e w18 ⟨a18, d18, rfl, q18, b18⟩; have I18 := hide (IRow.own2 q18); have KX : Hid (Below wr.heap.size wr w18) := Below.trans (by first | exact (Below.refl _ _).drew | exact below_drewN (Below.refl _ _) _) (b18.mono (by first | exact Nat.le_refl _ | exact (below_drewN (Below.refl wr.heap.size wr) _).size)); have e2 := ((unhide HT).below (unhide KX) (Nat.le_refl _)).2.1; clear b18 q18)
            | (go_at_call 9; refine (lwNums_any _ _ rl _ rl _ R R _ ((unhide HR).below (unhide KX) (Nat.le_refl _)) (unhide I18) hrl hrl).mono ?_; rintro e w19 ⟨rfl, n21, rfl⟩; rw [unhide HSR]))
          all_goals
            go_wp2_with fail
            go_ret
            exact ⟨rfl, (unhide HB).trans ((below_drewN (unhide KX) _).mono (unhide HB).size)⟩
    · have hcb : (poCode its k != 0) = true := by rw [bne_iff_ne]; exact hok
      have hcc : (poCode its k == poCode its k) = true := by simp
      generalize poCode its k = cc at hcb hcc HSP p0 p1 s3 i3 r3 B3 T3 hok ⊢
      generalize poList its k = al at HSP p0 p1 s3 i3 r3 B3 T3 hpl ⊢
      obtain ⟨w3, e3⟩ : ∃ w3, w2.alloc (Obj.cells #[Value.int IntKind.i64 cc, Value.slice a2 al.length d2] 29) = w3 := ⟨_, rfl⟩
      rw [e3] at p0 p1 s3 i3 r3 B3 T3
      have hf := fieldP0
      clear hok T3
      go_wp2_with (rw [e3])
      first | (go_region_with (first
        | (go_at_call 8; refine ((unhide HSP) _ (i3.below (by first | exact Below.refl _ _ | exact (Below.refl _ _).drew) (Nat.le_refl _))).mono ?_; rintro e w4 ⟨a4, c4, rfl, o4, b4⟩; have p0a := (b4.cell s3).trans p0))) | fail
      all_goals
        go_wp2_with fail
        go_ret
        exact ⟨rfl, B3.trans ((((Below.refl w3.heap.size w3).drew).trans b4).mono B3.size)⟩
  · have hd : decide (1048576 < (len : Int)) = true := decide_eq_true (by omega)
    go_enter Try.func3, Try.ntmps3
    go_wp2_with fail
    refine (lwBig_any a len cap w).mono ?_
    rintro e w' ⟨rfl, rfl⟩
    rw [hd]
    go_wp2_with fail
    go_ret
    exact ⟨rfl, Below.refl _ _⟩

end Go.Proofs.Ytpcokoejmodmaaa
