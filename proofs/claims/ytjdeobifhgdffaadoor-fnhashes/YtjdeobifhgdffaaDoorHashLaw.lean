/- What is proved here: the law FnHashes returns true for every slice of bytes and writes into no memory that was there, the two variables reading as the program's text lays them. -/
import Derived.Test.YtjdeobifhgdffaaDoorKcD
import Derived.Test.YtjdeobifhgdffaaDoorKcW
import Derived.Test.YtjdeobifhgdffaaDoorLwS
import Derived.Test.YtjdeobifhgdffaaDoorStepEq
import Derived.Deep.DeepCutAuto
import Derived.Deep.DrawnRows
import Derived.RegionTactic
namespace Go.Proofs.YtjdeobifhgdffaaDoor
open Go.RowKit
set_option linter.unusedVariables false
attribute [local go_sem ↓] Go.wp_at_zero Go.wp_at_succ

theorem fieldB0 (x y : Value) (w : World) : (Instr.field 26 (.agg #[x, y]) 0).run Tryd.prog w = .ok x w := by kernel_rfl
theorem fieldB1 (x y : Value) (w : World) : (Instr.field 26 (.agg #[x, y]) 1).run Tryd.prog w = .ok y w := by kernel_rfl
theorem fieldT1 (x y : Value) (w : World) : (Instr.field 30 (.agg #[x, y]) 1).run Tryd.prog w = .ok y w := by kernel_rfl

theorem padB_take (zs : List Int) : (padB zs).take zs.length = zs := by
  have hp := padLen_lt zs.length
  unfold padB
  rw [List.take_set_of_le (by omega)]
  unfold padRaw
  simp

set_option maxRecDepth 100000 in
set_option maxHeartbeats 12000000 in
theorem hashLaw_any (a : Option Addr) (len cap : Nat) (xs : List Int) (w : World) (h : BRow w a len xs) (VV : Laid w) :
    Calls Tryd.prog 3 #[.slice a len cap] w fun e w' => e = .returned (.bool true) ∧ Below w.heap.size w w' := by
  by_cases hl : len ≤ 1048576
  · have hd : decide (1048576 < (len : Int)) = false := decide_eq_false (by omega)
    go_enter Tryd.func3, Tryd.ntmps3
    go_wp2_with fail
    refine (lwBig_any a len cap w).mono ?_
    rintro e w' ⟨rfl, rfl⟩
    rw [hd]
    go_wp2_with fail
    refine (drawKc_any a len cap xs _ h hl).mono ?_
    rintro e w1 ⟨g, n, c1, zs, rfl, hn, r1, b1⟩
    have V1 := VV.below b1 (Nat.le_refl _)
    go_wp2_with fail
    refine (implKc_any _ n c1 zs w1 r1 (fun e => by cases e) (by omega) V1).mono ?_
    rintro e w2 ⟨a2, c2, rfl, o2, b2⟩
    have hzl := r1.1
    have HZR := hide r1.2.1
    have HKR := hide (kcBytes_range zs r1.2.1)
    have HSP := hide (fun W (hW : BRow W (some ⟨g, 0, none⟩) n zs) => specKc_any _ n c1 zs W hW (fun e => by cases e) (by omega))
    have HPD := hide (fun W (hW : BRow W (some ⟨g, 0, none⟩) n zs) => implPad_any _ n c1 zs W hW (fun e => by cases e) (by omega))
    have HHT := hide (fun W (hW : BRow W (some ⟨g, 0, none⟩) n zs) (hv : Laid W) => implHT_any _ n c1 zs W hW (fun e => by cases e) (by omega) hv)
    have hkl := kcBytes_length zs
    obtain ⟨k3, s3, p0, p1⟩ := new2 w2 (.int .i64 (kcCode zs)) (.slice a2 (kcBytes zs).length c2) 26
    have k23 := b2.trans (k3.mono b2.size)
    have r3 := r1.below k23 (Nat.le_refl _)
    have q3 := (BRow.own2 o2 (unhide HKR)).below k3 (Nat.le_refl _)
    have V3 := V1.below k23 (Nat.le_refl _)
    have B3 := b1.trans (k23.mono b1.size)
    clear b1 b2 k23 r1 V1 o2 k3
    by_cases hm : 1200 < n
    · have e1 : kcCode zs = 2 := if_pos (by omega)
      have e2 : pdCode zs = 2 := if_pos (by omega)
      rw [e1] at p0 p1 HSP s3 r3 q3 V3 B3 ⊢
      rw [e2] at HPD
      have hcc : ((2 : Int) == 2) = true := rfl
      have hf := fieldB0
      obtain ⟨w3, e3⟩ : ∃ w3, w2.alloc (Obj.cells #[Value.int IntKind.i64 2, Value.slice a2 (kcBytes zs).length c2] 26) = w3 := ⟨_, rfl⟩
      rw [e3] at p0 p1 s3 r3 q3 V3 B3
      go_wp2_with (rw [e3])
      first | (go_region_with (first
        | (go_at_call 10; refine ((unhide HSP) _ (r3.below (by first | exact Below.refl _ _ | exact (Below.refl _ _).drew) (Nat.le_refl _))).mono ?_; rintro e w4 ⟨a4, c4, rfl, o4, b4⟩; have p0a := (b4.cell s3).trans p0; have r4 := r3.below (((Below.refl w3.heap.size w3).drew).trans b4) (Nat.le_refl _); have s4 : w2.heap.size < w4.heap.size := Nat.lt_of_lt_of_le s3 b4.size)
        | (go_at_call 11; refine ((unhide HPD) _ r4).mono ?_; rintro e w5 ⟨a5, c5, rfl, o5, b5⟩; have p0b := (b5.cell s4).trans p0a))) | fail
      all_goals
        go_wp2_with fail
        go_ret
        exact ⟨rfl, B3.trans (((((Below.refl w3.heap.size w3).drew).trans b4).trans (b5.mono (((Below.refl w3.heap.size w3).drew).trans b4).size)).mono B3.size)⟩
    · have e1 : kcCode zs = 0 := if_neg (by omega)
      have e2 : pdCode zs = 0 := if_neg (by omega)
      have e4 : pdBytes zs = padB zs := if_neg (by omega)
      have e5 : htText zs = strOfNums (hexEnc (kcBytes zs)) := if_neg (by omega)
      have hk32 : (kcBytes zs).length = 32 := by unfold kcBytes; rw [if_neg (by omega), hashOf_length]
      have hc0 : hoCode (kcBytes zs) = 0 := if_neg (by omega)
      have ht0 : hoText (kcBytes zs) = strOfNums (hexEnc (kcBytes zs)) := if_neg (by omega)
      have hpl := padB_length zs
      have hptk := padB_take zs
      have HPR := hide (padB_range zs (unhide HZR))
      have hD := padLen_lt n
      rw [hzl] at hpl hptk
      rw [e1, hk32] at p0 p1 HSP s3 r3 q3 V3 B3 ⊢
      rw [e2, e4, hpl] at HPD
      rw [e1, e5] at HHT
      have HX := hide (fun (c : Nat) (W : World) (hW : BRow W a2 32 (kcBytes zs)) => implHexOf_any a2 32 c (kcBytes zs) W hW (by omega))
      rw [hc0, ht0] at HX
      have hsz : (strOfNums (hexEnc (kcBytes zs))).size = 64 := by rw [strOfNums_size, hexEnc_length, hk32]
      clear e1 e2 e4 e5 hc0 ht0 hkl
      have HEK := hide (show strEq (kcBytes zs) (kcBytes zs) = true by simp [strEq])
      have HEZ := hide (show strEq zs zs = true by simp [strEq])
      generalize strOfNums (hexEnc (kcBytes zs)) = S at HHT HX hsz
      have hSS : (S.toList == S.toList) = true := by simp
      generalize kcBytes zs = K at p0 p1 HSP s3 r3 q3 V3 B3 HX HKR HEK hk32 ⊢
      clear hk32
      generalize padLen n = D at hpl hD HPD
      generalize padB zs = PB at hpl hptk HPD HPR
      obtain ⟨w3, e3⟩ : ∃ w3, w2.alloc (Obj.cells #[Value.int IntKind.i64 0, Value.slice a2 32 c2] 26) = w3 := ⟨_, rfl⟩
      rw [e3] at p0 p1 s3 r3 q3 V3 B3
      go_wp2_with (rw [e3])
      refine ((unhide HPD) _ r3).mono ?_
      rintro e w4 ⟨a4, c4, rfl, o4, b4⟩
      obtain ⟨gp, cp, hv4⟩ := own_some o4 (by omega)
      cases hv4
      have hcD : D ≤ c4 := by
        rcases o4.2 with ⟨e, _⟩ | ⟨_, _, _, e, _, _, h1, _⟩
        · cases e
        · cases e; exact h1
      obtain ⟨k5, s5, P0, P1⟩ := new2 w4 (.int .i64 0) (.slice (some ⟨gp, 0, none⟩) D c4) 26
      obtain ⟨w5, e5⟩ : ∃ w5, w4.alloc (Obj.cells #[Value.int IntKind.i64 0, Value.slice (some ⟨gp, 0, none⟩) D c4] 26) = w5 := ⟨_, rfl⟩
      rw [e5] at k5 s5 P0 P1
      have k35 := b4.trans (k5.mono b4.size)
      have r5 := r3.below k35 (Nat.le_refl _)
      have q5 := q3.below k35 (Nat.le_refl _)
      have V5 := V3.below k35 (Nat.le_refl _)
      have B5 := B3.trans (k35.mono B3.size)
      have p0a := (k35.cell s3).trans p0
      have p1a := (k35.cell s3).trans p1
      have s3a : w2.heap.size < w5.heap.size := Nat.lt_of_lt_of_le s3 k35.size
      have rp := ((BRow.own o4 (unhide HPR)).below k5 (Nat.le_refl _)).sub 0 n (by omega)
      have epb : (PB.drop 0).take n = zs := by simpa using hptk
      rw [epb, Nat.add_zero] at rp
      have t1 : ((D : Nat) : Int).tmod 136 = 0 := by rw [Int.tmod_eq_emod_of_nonneg (by omega)]; omega
      have t2 : decide ((D : Int) ≤ (n : Int)) = false := decide_eq_false (by omega)
      have t3 : decide (D ≤ n) = false := decide_eq_false (by omega)
      have j0 : (0 : Int) ≤ (n : Int) := by omega
      have j1 : (n : Int) ≤ (c4 : Int) := by omega
      have j2 : n ≤ c4 := by omega
      clear o4 b4 k5 k35 r3 q3 V3 B3 epb hpl hptk
      go_wp2_with (rw [e5])
      refine (lwSame_any _ _ _ _ _ _ zs zs _ rp r5).mono ?_
      rintro e w' ⟨rfl, rfl⟩
      rw [unhide HEZ]
      clear rp t1 t2 t3 P0 P1
      go_wp2_with fail
      refine ((unhide HHT) _ r5 V5).mono ?_
      rintro e w6 ⟨rfl, b6⟩
      have k7 := below_alloc w6 (Obj.cells #[Value.int IntKind.i64 0, Value.string S] 30)
      have T0 : (w6.alloc (Obj.cells #[Value.int IntKind.i64 0, Value.string S] 30)).cell? ⟨w6.heap.size, 0, none⟩ = some (.int .i64 0) := by simp
      have T1 : (w6.alloc (Obj.cells #[Value.int IntKind.i64 0, Value.string S] 30)).cell? ⟨w6.heap.size, 1, none⟩ = some (.string S) := by simp
      have s7 : w6.heap.size < (w6.alloc (Obj.cells #[Value.int IntKind.i64 0, Value.string S] 30)).heap.size := by simp
      obtain ⟨w7, e7⟩ : ∃ w7, w6.alloc (Obj.cells #[Value.int IntKind.i64 0, Value.string S] 30) = w7 := ⟨_, rfl⟩
      rw [e7] at k7 T0 T1 s7
      have k57 := b6.trans (k7.mono b6.size)
      have r7 := r5.below k57 (Nat.le_refl _)
      have q7 := q5.below k57 (Nat.le_refl _)
      have B7 := B5.trans (k57.mono B5.size)
      have p0b := (k57.cell s3a).trans p0a
      have p1b := (k57.cell s3a).trans p1a
      have s3b : w2.heap.size < w7.heap.size := Nat.lt_of_lt_of_le s3a k57.size
      have hf := fieldB1
      have hf2 := fieldT1
      clear b6 k7 k57 r5 q5 V5 B5 p0 p1 p0a p1a s3 s3a e3 e5
      go_wp2_with (rw [e7])
      clear e7
      first | (go_region_with (first
        | (go_at_call 10; refine ((unhide HSP) _ (r7.below (by first | exact Below.refl _ _ | exact (Below.refl _ _).drew) (Nat.le_refl _))).mono ?_; rintro e w8 ⟨a8, c8, rfl, o8, b8⟩; have B8 := B7.trans ((((Below.refl w7.heap.size w7).drew).trans b8).mono B7.size); have q8 := q7.below (((Below.refl w7.heap.size w7).drew).trans b8) (Nat.le_refl _); have z8 := BRow.own2 o8 (unhide HKR); have p1c := (b8.cell s3b).trans p1b; have T0c := (b8.cell s7).trans T0; have T1c := (b8.cell s7).trans T1; have s8 : w6.heap.size < w8.heap.size := Nat.lt_of_lt_of_le s7 b8.size; clear b8 o8)
        | (go_at_call 12; refine (lwSame_any _ _ _ _ _ _ _ _ _ q8 z8).mono ?_; rintro e w9 ⟨rfl, rfl⟩; rw [unhide HEK])
        | (go_at_call 14; refine ((unhide HX) _ _ q8).mono ?_; rintro e w10 ⟨rfl, b10⟩; have T1d := (b10.cell s8).trans T1c; have B10 := B8.trans (b10.mono B8.size); clear b10))) | fail
      all_goals
        go_wp2_with fail
        go_ret
        exact ⟨rfl, B10⟩
  · have hd : decide (1048576 < (len : Int)) = true := decide_eq_true (by omega)
    go_enter Tryd.func3, Tryd.ntmps3
    go_wp2_with fail
    refine (lwBig_any a len cap w).mono ?_
    rintro e w' ⟨rfl, rfl⟩
    rw [hd]
    go_wp2_with fail
    go_ret
    exact ⟨rfl, Below.refl _ _⟩

end Go.Proofs.YtjdeobifhgdffaaDoor
