/- What is proved here: the law FnHex returns true for every slice of bytes and writes into no memory that was there. (Its walk goes through three regions that draw their order: hence the great purse of heartbeats.) -/
import Derived.Test.YtcgiibifcnefhaaChecked
import Derived.Test.YtcgiibifcnefhaaDraws3
import Derived.Test.YtcgiibifcnefhaaHexMath
import Derived.Test.YtcgiibifcnefhaaHexImpl
import Derived.Test.YtcgiibifcnefhaaHexSpec
import Derived.Test.YtcgiibifcnefhaaHexOfImpl
import Derived.Test.YtcgiibifcnefhaaBShort
import Derived.Test.YtcgiibifcnefhaaSSpec
import Derived.Test.YtcgiibifcnefhaaAhead
import Derived.Test.YtcgiibifcnefhaaSameLw
import Derived.WalkKit
import Derived.WalkLawsBesides
import Derived.WalkSmall
import Derived.WalkSpells
import Derived.RegionTactic
import Derived.BigRegion
import Derived.Deep.RegionWith
import Derived.Deep.DrawnRows
import Derived.Deep.DeepCutAuto
import Derived.KernelRfl
namespace Go.Proofs.Ytcgiibifcnefhaa
open Go.RowKit
set_option linter.unusedVariables false
attribute [local go_sem ↓] Go.wp_at_zero Go.wp_at_succ

set_option maxHeartbeats 1000000 in
theorem lwBig_any (a : Option Addr) (len cap : Nat) (w : World) : Calls Try.prog 4 #[.slice a len cap] w fun e w' => e = .returned (.bool (decide (1048576 < (len : Int)))) ∧ w' = w := by
  go_enter Try.func4, Try.ntmps4
  go_wp2
  go_ret
  exact ⟨rfl, rfl⟩

theorem fieldT1 (x y : Value) (w : World) : (Instr.field 29 (.agg #[x, y]) 1).run Try.prog w = .ok y w := by kernel_rfl
theorem fieldB0 (x y : Value) (w : World) : (Instr.field 26 (.agg #[x, y]) 0).run Try.prog w = .ok x w := by kernel_rfl
theorem fieldB1 (x y : Value) (w : World) : (Instr.field 26 (.agg #[x, y]) 1).run Try.prog w = .ok y w := by kernel_rfl
theorem fieldI0 (x y : Value) (w : World) : (Instr.field 33 (.agg #[x, y]) 0).run Try.prog w = .ok x w := by kernel_rfl
theorem fieldI1 (x y : Value) (w : World) : (Instr.field 33 (.agg #[x, y]) 1).run Try.prog w = .ok y w := by kernel_rfl

set_option maxRecDepth 100000 in
set_option maxHeartbeats 12000000 in
theorem hexLaw_any (a : Option Addr) (len cap : Nat) (xs : List Int) (w : World) (h : BRow w a len xs) :
    Calls Try.prog 3 #[.slice a len cap] w fun e w' => e = .returned (.bool true) ∧ Below w.heap.size w w' := by
  by_cases hl : len ≤ 1048576
  · have hd : decide (1048576 < (len : Int)) = false := decide_eq_false (by omega)
    go_enter Try.func3, Try.ntmps3
    go_wp2_with fail
    refine (lwBig_any a len cap w).mono ?_
    rintro e w' ⟨rfl, rfl⟩
    rw [hd]
    go_wp2_with fail
    refine (drawHex_any a len cap xs _ h hl).mono ?_
    rintro e w1 ⟨⟨s, rfl, hs⟩, b1⟩
    have HBK := hide (text_back s)
    have HSP := hide (fun W => specHex_any s W hs)
    have HPR := hide (hxBytes_props (txt s))
    go_wp2_with fail
    refine (implHex_any s w1 hs).mono ?_
    rintro e w2 ⟨a2, c2, rfl, o2, b2⟩
    generalize hxCode (txt s) = c at HBK HSP
    generalize hxBytes (txt s) = zs at HBK HSP HPR o2
    obtain ⟨k3, s3, p0, p1⟩ := new2 w2 (.int .i64 c) (.slice a2 zs.length c2) 26
    go_wp2_with fail
    generalize w2.alloc (Obj.cells #[Value.int IntKind.i64 c, Value.slice a2 zs.length c2] 26) = w3 at k3 s3 p0 p1
    have r3 := (BRow.own2 o2 (unhide HPR).2).below k3 (Nat.le_refl _)
    have hzl : zs.length ≤ 1048576 := by have := (unhide HPR).1; omega
    go_cut [40] (fun r wx => r = .bool false ∧ Below w3.heap.size w3 wx)
    case first =>
      by_cases hc : c = 0
      · subst hc
        have hbk := (unhide HBK) rfl
        have hoc : hoCode zs = 0 := if_neg (by omega)
        have hot : hoText zs = s := (if_neg (by omega)).trans hbk.2
        have HO := hide (implHexOf_any a2 zs.length c2 zs)
        have hss : (s.toList != s.toList) = false := by simp
        have hf := fieldT1
        clear HBK HSP HPR hbk
        first | (go_region_with (first | (go_at_call 7; refine ((unhide HO) _ (r3.below (by first | exact Below.refl _ _ | exact (Below.refl _ _).drew) (Nat.le_refl _)) hzl).mono ?_; rintro e w4 ⟨rfl, b4⟩; have p0' := (b4.cell s3).trans p0))) | fail
        all_goals
          go_wp2_with fail
          go_meet
          case rel => exact ⟨rfl, ((Below.refl _ _).drew).trans b4⟩
      · have hcb : (c == 0) = false := by rw [beq_eq_false_iff_ne]; exact hc
        have hcn : (c != 0) = true := by rw [bne_iff_ne]; exact hc
        have hcc : (c != c) = false := by simp
        have hf := fieldB0
        clear HBK HPR hc
        first | (go_region_with (first | (go_at_call 8; refine ((unhide HSP) _).mono ?_; rintro e w4 ⟨a4, c4, rfl, o4, b4⟩; have p0' := (b4.cell s3).trans p0))) | fail
        all_goals
          go_wp2_with fail
          go_meet
          case rel => exact ⟨rfl, ((Below.refl _ _).drew).trans b4⟩
    case rest =>
      obtain ⟨rfl, b4⟩ := hcut
      have B3 := (b1.trans (b2.mono b1.size)).trans (k3.mono (b1.trans (b2.mono b1.size)).size)
      have B4 := B3.trans (b4.mono B3.size)
      clear HBK HSP HPR r3 o2 p0 p1 b4 k3 b2 b1 s3 B3 hzl
      have h4 := h.below B4 (Nat.le_refl _)
      go_wp2_with fail
      refine (drawRaw_any a len cap xs _ h4 hl).mono ?_
      rintro e w5 ⟨⟨v5, rfl, hD5⟩, b5⟩
      obtain ⟨ar, nr, cr, raw, hv5, hnr, rr⟩ := hD5
      rw [hv5]
      clear hv5
      have B5 := B4.trans (b5.mono B4.size)
      go_wp2_with fail
      refine (implBShort_any ar nr cr raw _ rr hnr).mono ?_
      rintro e w6 ⟨rfl, b6⟩
      have HRB := hide (bytes_back raw rr.2.1)
      have HGD := hide (@good_res raw)
      have HBD := hide (@bad_res raw)
      have B6 := B5.trans (b6.mono B5.size)
      have rr6 := rr.below b6 (Nat.le_refl _)
      have HS6 := hide (fun W (hW : BRow W ar nr raw) => specBShort_any ar nr cr raw W hW hnr)
      generalize codeB raw = d at HGD HBD HS6
      generalize valB raw = y at HGD HBD HS6
      obtain ⟨k7, s7, p0, p1⟩ := new2 w6 (.int .i64 d) (.int .i64 y) 33
      go_wp2_with fail
      generalize w6.alloc (Obj.cells #[Value.int IntKind.i64 d, Value.int IntKind.i64 y] 33) = w7 at k7 s7 p0 p1
      have rr7 := rr6.below k7 (Nat.le_refl _)
      have B7 := B6.trans (k7.mono B6.size)
      clear b5 b6 k7 rr rr6 B4 B5 B6 h4
      go_cut [69] (fun r wx => r = .bool false ∧ Below w7.heap.size w7 wx)
      case first =>
        cases hb : badB raw with
        | false =>
          obtain ⟨rfl, rfl⟩ := (unhide HGD) hb
          have hbb := (unhide HRB) hb
          have hsc : sbCode (numB raw) = 0 := if_pos ⟨hbb.1, hbb.2.1⟩
          have hsb : sbBytes (numB raw) = raw := (if_pos ⟨hbb.1, hbb.2.1⟩).trans hbb.2.2
          have H12 := implShort_any (numB raw)
          rw [hsc, hsb] at H12
          have H12 := hide H12
          have hse : strEq raw raw = true := by simp [strEq]
          have HSE := hide hse
          have hf := fieldB1
          clear HGD HBD HRB HS6 hbb hsc hsb hse hb
          generalize numB raw = y at H12 p1
          first | (go_region_with (first | (go_at_call 12; refine ((unhide H12) _).mono ?_; rintro e w8 ⟨a8, c8, rfl, o8, b8⟩; have p0b := (b8.cell s7).trans p0; have rr8 := rr7.below (((Below.refl w7.heap.size w7).drew).trans b8) (Nat.le_refl _); have q8 := BRow.own2 o8 rr7.2.1) | (go_at_call 11; refine (lwSame_any a8 ar raw.length c8 nr cr raw raw _ (by exact q8) (by exact rr8)).mono ?_; rintro e w8 ⟨rfl, rfl⟩; rw [unhide HSE]))) | fail
          all_goals
            go_wp2_with fail
            go_meet
            case rel => exact ⟨rfl, ((Below.refl _ _).drew).trans b8⟩
        | true =>
          obtain ⟨rfl, rfl⟩ := (unhide HBD) hb
          have hf := fieldI0
          clear HGD HBD HRB hb
          first | (go_region_with (first | (go_at_call 13; refine ((unhide HS6) _ (by exact rr7)).mono ?_; rintro e w8 ⟨rfl, b8⟩; have p0b := (b8.cell s7).trans p0))) | fail
          all_goals
            go_wp2_with fail
            go_meet
            case rel => exact ⟨rfl, ((Below.refl _ _).drew).trans b8⟩
      case rest =>
        obtain ⟨rfl, b8⟩ := hcut
        have B8 := B7.trans (b8.mono B7.size)
        clear HRB HGD HBD HS6 rr7 p0 p1 b8 B7 s7
        have h8 := h.below B8 (Nat.le_refl _)
        go_wp2_with fail
        refine (drawN_any a len cap xs _ h8 hl).mono ?_
        rintro e w9 ⟨⟨n, rfl⟩, b9⟩
        have B9 := B8.trans (b9.mono B8.size)
        go_wp2_with fail
        refine (implShort_any n w9).mono ?_
        rintro e w10 ⟨a10, c10, rfl, o10, b10⟩
        have B10 := B9.trans (b10.mono B9.size)
        have q10 := BRow.own2 o10 (sbBytes_range n)
        obtain ⟨k11, s11, t0, t1⟩ := new2 w10 (.int .i64 (sbCode n)) (.slice a10 (sbBytes n).length c10) 26
        go_wp2_with fail
        generalize w10.alloc (Obj.cells #[Value.int IntKind.i64 (sbCode n), Value.slice a10 (sbBytes n).length c10] 26) = w11 at k11 s11 t0 t1
        have q11 := q10.below k11 (Nat.le_refl _)
        have B11 := B10.trans (k11.mono B10.size)
        clear b9 b10 k11 o10 q10 B8 B9 B10 h8
        have h11 := h.below B11 (Nat.le_refl _)
        refine (drawAhead_any a len cap xs _ h11 hl).mono ?_
        rintro e w12 ⟨⟨v1, v2, rfl, hD1, hD2⟩, b12⟩
        obtain ⟨ax, nx, cx, xx, hx1, hnx, rx⟩ := hD1
        obtain ⟨ay, ny, cy, yy, hy1, hny, ry⟩ := hD2
        rw [hx1, hy1]
        clear hx1 hy1
        have B12 := B11.trans (b12.mono B11.size)
        have q12 := q11.below b12 (Nat.le_refl _)
        have t0b := (b12.cell s11).trans t0
        have t1b := (b12.cell s11).trans t1
        have s12 := Nat.lt_of_lt_of_le s11 b12.size
        clear t0 t1 s11 b12 q11 B11 h11
        have hasym : aheadB xx yy = true → aheadB yy xx = false := less_asym _ _
        have HAS := hide hasym
        clear hasym
        have htt : (strEq xx yy != strEq xx yy) = false := by simp
        generalize hst : strEq xx yy = st at htt
        have HST := hide hst
        clear hst
        go_wp2_with fail
        refine (implAhead_any ax ay nx cx ny cy xx yy _ rx ry).mono ?_
        rintro e w12 ⟨rfl, rfl⟩
        cases hA : aheadB xx yy
        · go_wp2_with fail
          refine (implAhead_any ax ay nx cx ny cy xx yy _ rx ry).mono ?_
          rintro e w12 ⟨rfl, rfl⟩
          rw [hA]
          go_wp2_with fail
          refine (specAhead_any ax ay nx cx ny cy xx yy _ rx ry).mono ?_
          rintro e w12 ⟨rfl, rfl⟩
          rw [hA]
          go_wp2_with fail
          refine (implSame_any ax ay nx cx ny cy xx yy _ rx ry).mono ?_
          rintro e w12 ⟨rfl, rfl⟩
          rw [unhide HST]
          go_wp2_with fail
          refine (lwSame_any ax ay nx cx ny cy xx yy _ rx ry).mono ?_
          rintro e w12 ⟨rfl, rfl⟩
          rw [unhide HST]
          clear HST HAS hA htt rx ry
          by_cases hin : 0 ≤ n ∧ n ≤ 1125899906842624
          · have e1 : sbCode n = 0 := if_pos hin
            have e2 : sbBytes n = shortF 7 n := if_pos hin
            rw [e1] at t0b
            rw [e2] at t1b q12
            have hnb := num_bad n hin.1 hin.2
            have hgr := good_res hnb.1
            rw [hnb.2.1] at hgr
            have hL := shortF_length 7 n
            have HI := fun W (hW : BRow W a10 (shortF 7 n).length (shortF 7 n)) => implBShort_any a10 (shortF 7 n).length c10 (shortF 7 n) W hW (by omega)
            rw [hgr.1, hgr.2] at HI
            have HI := hide HI
            have hz := zero_eq hnb.2.2
            have hnn : (n == n) = true := by simp
            have hf0 := fieldI0
            have hf1 := fieldI1
            clear hgr hnb e1 e2 hin
            generalize shortF 7 n = zz at t1b q12 HI hz hL
            go_wp2_with fail
            refine ((unhide HI) _ q12).mono ?_
            rintro e w13 ⟨rfl, b13⟩
            have t1c := (b13.cell s12).trans t1b
            have q13 := q12.below b13 (Nat.le_refl _)
            have B13 := B12.trans (b13.mono B12.size)
            have s13 := Nat.lt_of_lt_of_le s12 b13.size
            go_wp2_with fail
            refine ((unhide HI) _ q13).mono ?_
            rintro e w14 ⟨rfl, b14⟩
            have t1d := (b14.cell s13).trans t1c
            have B14 := B13.trans (b14.mono B13.size)
            go_wp2_with fail
            go_ret
            exact ⟨rfl, B14⟩
          · have e1 : sbCode n = 3 := if_neg hin
            rw [e1] at t0b
            have HI := fun W => specShort_any n W
            rw [e1] at HI
            have HI := hide HI
            have hf0 := fieldB0
            clear e1 hin q12
            go_wp2_with fail
            first | (go_region_with (first | (go_at_call 19; refine ((unhide HI) _).mono ?_; rintro e w13 ⟨a13, c13, rfl, o13, b13⟩; have t0c := (b13.cell s12).trans t0b))) | fail
            all_goals
              go_wp2_with fail
              go_ret
              exact ⟨rfl, ((B12.drew).trans (b13.mono B12.size))⟩
        · go_wp2_with fail
          refine (implAhead_any ay ax ny cy nx cx yy xx _ ry rx).mono ?_
          rintro e w12 ⟨rfl, rfl⟩
          rw [(unhide HAS) hA]
          go_wp2_with fail
          refine (implAhead_any ax ay nx cx ny cy xx yy _ rx ry).mono ?_
          rintro e w12 ⟨rfl, rfl⟩
          rw [hA]
          go_wp2_with fail
          refine (specAhead_any ax ay nx cx ny cy xx yy _ rx ry).mono ?_
          rintro e w12 ⟨rfl, rfl⟩
          rw [hA]
          go_wp2_with fail
          refine (implSame_any ax ay nx cx ny cy xx yy _ rx ry).mono ?_
          rintro e w12 ⟨rfl, rfl⟩
          rw [unhide HST]
          go_wp2_with fail
          refine (lwSame_any ax ay nx cx ny cy xx yy _ rx ry).mono ?_
          rintro e w12 ⟨rfl, rfl⟩
          rw [unhide HST]
          clear HST HAS hA htt rx ry
          by_cases hin : 0 ≤ n ∧ n ≤ 1125899906842624
          · have e1 : sbCode n = 0 := if_pos hin
            have e2 : sbBytes n = shortF 7 n := if_pos hin
            rw [e1] at t0b
            rw [e2] at t1b q12
            have hnb := num_bad n hin.1 hin.2
            have hgr := good_res hnb.1
            rw [hnb.2.1] at hgr
            have hL := shortF_length 7 n
            have HI := fun W (hW : BRow W a10 (shortF 7 n).length (shortF 7 n)) => implBShort_any a10 (shortF 7 n).length c10 (shortF 7 n) W hW (by omega)
            rw [hgr.1, hgr.2] at HI
            have HI := hide HI
            have hz := zero_eq hnb.2.2
            have hnn : (n == n) = true := by simp
            have hf0 := fieldI0
            have hf1 := fieldI1
            clear hgr hnb e1 e2 hin
            generalize shortF 7 n = zz at t1b q12 HI hz hL
            go_wp2_with fail
            refine ((unhide HI) _ q12).mono ?_
            rintro e w13 ⟨rfl, b13⟩
            have t1c := (b13.cell s12).trans t1b
            have q13 := q12.below b13 (Nat.le_refl _)
            have B13 := B12.trans (b13.mono B12.size)
            have s13 := Nat.lt_of_lt_of_le s12 b13.size
            go_wp2_with fail
            refine ((unhide HI) _ q13).mono ?_
            rintro e w14 ⟨rfl, b14⟩
            have t1d := (b14.cell s13).trans t1c
            have B14 := B13.trans (b14.mono B13.size)
            go_wp2_with fail
            go_ret
            exact ⟨rfl, B14⟩
          · have e1 : sbCode n = 3 := if_neg hin
            rw [e1] at t0b
            have HI := fun W => specShort_any n W
            rw [e1] at HI
            have HI := hide HI
            have hf0 := fieldB0
            clear e1 hin q12
            go_wp2_with fail
            first | (go_region_with (first | (go_at_call 19; refine ((unhide HI) _).mono ?_; rintro e w13 ⟨a13, c13, rfl, o13, b13⟩; have t0c := (b13.cell s12).trans t0b))) | fail
            all_goals
              go_wp2_with fail
              go_ret
              exact ⟨rfl, ((B12.drew).trans (b13.mono B12.size))⟩

  · have hd : decide (1048576 < (len : Int)) = true := decide_eq_true (by omega)
    go_enter Try.func3, Try.ntmps3
    go_wp2_with fail
    refine (lwBig_any a len cap w).mono ?_
    rintro e w' ⟨rfl, rfl⟩
    rw [hd]
    go_wp2_with fail
    go_ret
    exact ⟨rfl, Below.refl _ _⟩

end Go.Proofs.Ytcgiibifcnefhaa
