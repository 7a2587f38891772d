/- What is proved here: the law FnLanes returns true for every slice of bytes and writes into no memory that was there, the two variables reading as the program's text lays them. -/
import Derived.Test.YtjdeobifhgdffaaDoorLaneX
import Derived.Test.YtjdeobifhgdffaaDoorTurnImpl
import Derived.Test.YtjdeobifhgdffaaDoorMsS
import Derived.Test.YtjdeobifhgdffaaDoorMsI
import Derived.Test.YtjdeobifhgdffaaDoorLwN
import Derived.Test.YtjdeobifhgdffaaDoorLwB
import Derived.Test.YtjdeobifhgdffaaDoorTwo
import Derived.Deep.DeepCutAuto
import Derived.Deep.DrawnRows
import Derived.RegionTactic
import Derived.BigRegion
import Derived.Deep.RegionWith
namespace Go.Proofs.YtjdeobifhgdffaaDoor
open Go.RowKit
set_option linter.unusedVariables false
attribute [local go_sem ↓] Go.wp_at_zero Go.wp_at_succ

theorem fieldN0 (x y : Value) (w : World) : (Instr.field 36 (.agg #[x, y]) 0).run Tryd.prog w = .ok x w := by kernel_rfl
theorem fieldN1 (x y : Value) (w : World) : (Instr.field 36 (.agg #[x, y]) 1).run Tryd.prog w = .ok y w := by kernel_rfl

/-- A state that was mixed has no fault. -/
theorem ms_again (zs : List Int) (h : msCode zs = 0) : (msList zs).length = 50 ∧ msCode (msList zs) = 0 := by
  unfold msCode at h
  split at h
  case isTrue hl =>
    split at h
    case isTrue ho =>
      have hL := lanes_of hl ho
      have hm := mixAt_lanes hL.1 24
      have e : msList zs = wordsL (mixAt (lanesOf zs) 24) := if_pos ⟨hl, ho⟩
      have el : (wordsL (mixAt (lanesOf zs) 24)).length = 50 := by rw [wordsL_length, hm.1]
      rw [e]
      refine ⟨el, ?_⟩
      unfold msCode
      rw [if_pos el, if_pos]
      unfold msOk
      rw [List.all_eq_true]
      intro x hx
      unfold wordsL at hx
      obtain ⟨a, ha, hx⟩ := List.mem_flatMap.1 hx
      have h64 := hm.2 a ha
      simp only [List.mem_cons, List.not_mem_nil, or_false] at hx
      have h1 := hi_lt a h64
      have h2 := lo_lt a
      unfold wordB
      refine decide_eq_true ?_
      rcases hx with rfl | rfl <;> omega
    case isFalse => cases h
  case isFalse => cases h

theorem IRow.heap {w w' : World} {m L : Nat} {bs : List Int} (h : IRow w (some ⟨m, 0, none⟩) L bs) (e : w'.heap[m]? = w.heap[m]?) : IRow w' (some ⟨m, 0, none⟩) L bs := by
  refine ⟨h.1, h.2.1, h.2.2.1, fun x hx i hi => ?_⟩
  cases hx
  have := h.2.2.2 _ rfl i hi
  rw [add_none] at this ⊢
  rw [← this]
  unfold World.cell?
  simp only [e]

/-- A block of two cells, laid ahead and written later. -/
theorem Two.late {w3 w5 : World} {x y : Value} {t : TypeId} (hb : Below (w3.alloc (Obj.cells #[x, y] t)).heap.size (w3.alloc (Obj.cells #[x, y] t)) w5) (u v : Value) :
    Two ((w5.setCell ⟨w3.heap.size, 0, none⟩ u).setCell ⟨w3.heap.size, 1, none⟩ v) w3.heap.size u v ∧ w5.cell? ⟨w3.heap.size, 0, none⟩ = some x ∧ w5.cell? ⟨w3.heap.size, 1, none⟩ = some y ∧ w5.frozen? ⟨w3.heap.size, 0, none⟩ = false ∧ w5.frozen? ⟨w3.heap.size, 1, none⟩ = false := by
  have hs : w3.heap.size < (w3.alloc (Obj.cells #[x, y] t)).heap.size := by simp
  have h0 : (w3.alloc (Obj.cells #[x, y] t)).heap[w3.heap.size]? = some (.cells #[x, y] t (0, 0)) := by
    show (w3.heap.push _)[w3.heap.size]? = _
    simp
  have h5 := (hb.block _ hs).trans h0
  have f := res_facts h5
  have e1 := heap_setCell_same w5 w3.heap.size 0 _ t u h5
  have e2 := heap_setCell_same _ w3.heap.size 1 _ t v e1
  have f2 := res_facts (x := u) (y := v) (t := t) (by simpa using e2)
  exact ⟨⟨f2.1, f2.2.1, lt_of_block e2⟩, f⟩

set_option maxRecDepth 100000 in
set_option maxHeartbeats 24000000 in
theorem lanesLaw_any (a : Option Addr) (len cap : Nat) (xs : List Int) (w : World) (h : BRow w a len xs) (VV : Laid w) :
    Calls Tryd.prog 4 #[.slice a len cap] w fun e w' => e = .returned (.bool true) ∧ Below w.heap.size w w' := by
  by_cases hl : len ≤ 1048576
  · have hd : decide (1048576 < (len : Int)) = false := decide_eq_false (by omega)
    go_enter Tryd.func4, Tryd.ntmps4
    go_wp2_with fail
    refine (lwBig_any a len cap w).mono ?_
    rintro e w' ⟨rfl, rfl⟩
    rw [hd]
    go_wp2_with fail
    refine (drawTL_any a len cap xs _ h hl).mono ?_
    rintro e w1 ⟨⟨x, y, n, rfl, hn0, hn1⟩, b1⟩
    cases ho : tlOk x y n with
    | true =>
      unfold tlOk at ho
      simp only [Bool.and_eq_true, decide_eq_true_eq] at ho
      obtain ⟨⟨hx, hy⟩, hn⟩ := ho
      have hx2 : 0 ≤ x ∧ x ≤ 4294967295 := of_decide_eq_true hx
      have hy2 : 0 ≤ y ∧ y ≤ 4294967295 := of_decide_eq_true hy
      obtain ⟨X, rfl⟩ := Int.eq_ofNat_of_zero_le hx2.1
      obtain ⟨Y, rfl⟩ := Int.eq_ofNat_of_zero_le hy2.1
      obtain ⟨m, rfl⟩ := Int.eq_ofNat_of_zero_le hn.1
      have hXY : X * 4294967296 + Y < 18446744073709551616 := by omega
      have hR := rot_lt (X * 4294967296 + Y) m hXY (by omega)
      have hback := rot_back (X * 4294967296 + Y) m hXY (by omega)
      have HT1 := hide (fun W => implTurn_in X Y m (by omega) (by omega) (by omega) W)
      have hjoin := join_back (rotL (X * 4294967296 + Y) m)
      have HT2 := hide (fun W => implTurn_in (hiW (rotL (X * 4294967296 + Y) m)) (loW (rotL (X * 4294967296 + Y) m)) ((64 - m) % 64) (hi_lt _ hR) (lo_lt _) (by omega) W)
      rw [hjoin, hback, hi_join X Y (by omega), lo_join X Y (by omega)] at HT2
      generalize rotL (X * 4294967296 + Y) m = R at HT1 HT2 hR hjoin hback
      clear hjoin hback hR hx hy hx2 hy2
      go_wp2_with fail
      refine ((unhide HT1) _).mono ?_
      rintro e w2 ⟨a2, d2, rfl, q2, b2⟩
      obtain ⟨ga, gc, hv2⟩ := own_some q2 (by omega)
      cases hv2
      have T3 : Two (w2.alloc (Obj.cells #[Value.int IntKind.i64 0, Value.slice (some ⟨ga, 0, none⟩) 2 d2] 36)) w2.heap.size (.int .i64 0) (.slice (some ⟨ga, 0, none⟩) 2 d2) := Two.new _ _ _ _
      have k3 := below_alloc w2 (Obj.cells #[Value.int IntKind.i64 0, Value.slice (some ⟨ga, 0, none⟩) 2 d2] 36)
      obtain ⟨w3, e3⟩ : ∃ w3, w2.alloc (Obj.cells #[Value.int IntKind.i64 0, Value.slice (some ⟨ga, 0, none⟩) 2 d2] 36) = w3 := ⟨_, rfl⟩
      rw [e3] at T3 k3
      have r3 := (IRow.own q2).below k3 (Nat.le_refl _)
      have k13 := b2.trans (k3.mono b2.size)
      have B3 := b1.trans (k13.mono b1.size)
      have c0 : w3.cell? ⟨ga, 0, none⟩ = some (.int .i64 (hiW R : Int)) := by have := r3.2.2.2 _ rfl 0 (by omega); rwa [add_none] at this
      have c1 : w3.cell? ⟨ga, 1, none⟩ = some (.int .i64 (loW R : Int)) := by have := r3.2.2.2 _ rfl 1 (by omega); rwa [add_none] at this
      obtain ⟨p0, p1, p2⟩ := T3
      have HB3 := hide B3
      clear q2 b1 b2 k3 k13 r3 B3
      obtain ⟨M, hM⟩ : ∃ M, M = (64 - m) % 64 := ⟨_, rfl⟩
      rw [← hM] at HT2
      obtain ⟨M2, hM2⟩ : ∃ M2, M2 = 64 - m := ⟨_, rfl⟩
      have m0 : (64 : Int) - (m : Int) = (M2 : Int) := by omega
      have m1 : ((M2 : Nat) : Int).tmod 64 = (M : Int) := by rw [Int.tmod_eq_emod_of_nonneg (by omega)]; omega
      have m2 : ((M2 : Nat) : Int) % 64 = (M : Int) := by omega
      have y0 : IntKind.i64.wrap (M2 : Int) = (M2 : Int) := i64_fits _ (by omega) (by omega)
      clear hM hM2
      go_wp2_with (rw [e3])
      clear e3
      go_cut [7] (fun p wx => ∃ (b7 d7 : Nat) (a7 : Option Addr), p = .pointer (some ⟨b7, 0, none⟩) ∧ Two wx b7 (.int .i64 0) (.slice a7 2 d7) ∧ IRow wx a7 2 [(X : Int), (Y : Int)] ∧ Below w3.heap.size w3 wx)
      case first =>
        have q1 : ¬ (w2.heap.size = w3.heap.size) := by omega
        have hga : ga < w3.heap.size := lt_of_cell (p := ⟨ga, 0, none⟩) c0
        have q2 : ¬ (ga = w3.heap.size) := by omega
        first | (go_region_with (first
          | (go_at_call 16; refine ((unhide HT2) _).mono ?_; rintro e w5 ⟨a5, d5, rfl, q5, b5⟩; have K5 : Below w3.heap.size w3 w5 := ((Below.refl w3.heap.size w3).drew).trans b5; have J5 := IRow.own2 q5; clear b5 q5)
          | (go_at_call 16; refine ((unhide HT2) _).mono ?_; rintro e w5 ⟨a5, d5, rfl, q5, b5⟩; have K5 : Below w3.heap.size w3 w5 := (((Below.refl w3.heap.size w3).drew).alloc (Nat.le_refl _) _).trans (b5.mono (Nat.le_of_lt (by show w3.heap.size < (w3.drew.alloc _).heap.size; simp))); have J5 := IRow.own2 q5; have L5 := Two.late (w3 := w3.drew) b5 (.int .i64 0) (.slice a5 2 d5); have q5' := q5; have T5 : Two ((w5.setCell ⟨w3.heap.size, 0, none⟩ (.int .i64 0)).setCell ⟨w3.heap.size, 1, none⟩ (.slice a5 2 d5)) w3.heap.size (.int .i64 0) (.slice a5 2 d5) := L5.1; have x0 : w5.cell? ⟨w3.heap.size, 0, none⟩ = some (.int .i64 0) := L5.2.1; have x1 : w5.cell? ⟨w3.heap.size, 1, none⟩ = some (.slice none 0 0) := L5.2.2.1; have x2 : w5.frozen? ⟨w3.heap.size, 0, none⟩ = false := L5.2.2.2.1; have x3 : w5.frozen? ⟨w3.heap.size, 1, none⟩ = false := L5.2.2.2.2; clear L5 b5 q5))) | fail
        all_goals
          go_wp2_with fail
        all_goals
          go_meet
          case rel =>
            first
            | exact ⟨w5.heap.size, d5, a5, rfl, Two.new _ _ _ _, J5.below (below_alloc _ _) (Nat.le_refl _), K5.alloc K5.size _⟩
            | (obtain ⟨g5, _, hv5⟩ := own_some q5' (by omega)
               cases hv5
               have hg5 := (q5'.lt g5 rfl).1
               have hg6 : w3.heap.size < g5 := Nat.lt_of_lt_of_le (by show w3.heap.size < (w3.drew.alloc _).heap.size; simp) hg5
               refine ⟨w3.heap.size, d5, _, rfl, T5, J5.heap ?_, (K5.setCell (by simp) _).setCell (by simp) _⟩
               rw [heap_setCell_other _ ⟨w3.heap.size, 1, none⟩ g5 _ (by show g5 ≠ w3.heap.size; omega), heap_setCell_other _ ⟨w3.heap.size, 0, none⟩ g5 _ (by show g5 ≠ w3.heap.size; omega)])
      case rest =>
        obtain ⟨b7, d7, a7, rfl, T7, J7, kx⟩ := hcut
        have B7 := (unhide HB3).trans (kx.mono (unhide HB3).size)
        have h7 := h.below B7 (Nat.le_refl _)
        clear kx HB3 HT1 HT2 p0 p1 p2 c0 c1
        go_wp2_with fail
        refine (drawMS_any a len cap xs _ h7 hl).mono ?_
        rintro e w8 ⟨⟨g8, n8, c8, zs, rfl, hn8, I8⟩, k8⟩
        have V8 := VV.below (B7.trans (k8.mono B7.size)) (Nat.le_refl _)
        have HSM := hide (fun W (hW : IRow W (some ⟨g8, 0, none⟩) n8 zs) => specMix_any _ n8 c8 zs W hW (fun e => by cases e) (by omega))
        have HAG := hide (ms_again zs)
        have hml := msList_length zs
        go_wp2_with fail
        refine (implMix_any _ n8 c8 zs w8 I8 (fun e => by cases e) (by omega) V8).mono ?_
        rintro e w9 ⟨a9, d9, rfl, q9, b9⟩
        generalize hMC : msCode zs = mc at HSM HAG ⊢
        generalize hML : msList zs = ml at HSM HAG hml q9 ⊢
        clear hMC hML
        obtain ⟨mn, hmn⟩ : ∃ mn, mn = ml.length := ⟨_, rfl⟩
        rw [← hmn] at HSM hml q9 HAG ⊢
        have HMN := hide hmn
        clear hmn
        have k10 := below_alloc w9 (Obj.cells #[Value.int IntKind.i64 mc, Value.slice a9 mn d9] 36)
        have TM : Two (w9.alloc (Obj.cells #[Value.int IntKind.i64 mc, Value.slice a9 mn d9] 36)) w9.heap.size (.int .i64 mc) (.slice a9 mn d9) := Two.new _ _ _ _
        have M10 := (IRow.own2 q9).below k10 (Nat.le_refl _)
        have hcap9 : a9 = none → d9 = 0 := fun e => by
          subst e
          rcases q9.2 with ⟨e, _⟩ | ⟨_, _, _, e, _⟩
          · cases e; rfl
          · cases e
        have ka := k8.trans (b9.mono k8.size)
        have k := ka.trans (k10.mono ka.size)
        have kb := b9.trans (k10.mono b9.size)
        have I10 := I8.below kb (Nat.le_refl _)
        have T10 := T7.below k (Nat.le_refl _)
        have J10 := J7.below k (Nat.le_refl _)
        have B10 := B7.trans (k.mono B7.size)
        have V10 := VV.below B10 (Nat.le_refl _)
        clear k8 b9 q9 k10 ka k kb I8 T7 J7 B7 V8 h7
        go_wp2_with fail
        generalize w9.alloc (Obj.cells #[Value.int IntKind.i64 mc, Value.slice a9 mn d9] 36) = w10 at TM M10 I10 T10 J10 B10 V10 ⊢
        go_cut [72] (fun r wx => r = .bool false ∧ Below w10.heap.size w10 wx)
        case first =>
          have hcc : (mc != mc) = false := by simp
          have hss : sameB ml ml = true := by simp [sameB]
          have HSS := hide hss
          obtain ⟨t0, t1, t2⟩ := TM
          have hf := fieldN0
          have hf1 := fieldN1
          have HI := hide I10
          have HM := hide M10
          clear hss I10 M10 T10 J10 B10 V10 h VV hl hd HAG
          by_cases hm : mc = 0
          · have hd1 : (mc == 0) = true := by simp [hm]
            clear hm
            first | (go_region_with (first
              | (go_at_call 20; refine ((unhide HSM) _ ((unhide HI).below (by first | exact (Below.refl _ _).drew | exact unhide K12) (Nat.le_refl _))).mono ?_; rintro e w12 ⟨a12, d12, rfl, q12, b12⟩; have Q12 := hide (IRow.own2 q12); have K12 : Hid (Below w10.heap.size w10 w12) := (by first | exact ((unhide K12).trans (b12.mono (unhide K12).size)) | exact ((Below.refl w10.heap.size w10).drew).trans b12); have u0 := ((unhide K12).cell t2).trans t0; have u1 := ((unhide K12).cell t2).trans t1; clear b12 q12)
              | (go_at_call 21; refine (lwNums_any _ _ mn _ mn _ ml ml _ ((unhide HM).below (unhide K12) (Nat.le_refl _)) (unhide Q12) (by omega) (by omega)).mono ?_; rintro e w13 ⟨rfl, n13, rfl⟩; rw [unhide HSS]))) | fail
            all_goals
              go_wp2_with fail
              go_meet
              case rel => exact ⟨rfl, below_drewN (unhide K12) _⟩
          · have hd1 : (mc == 0) = false := by rw [beq_eq_false_iff_ne]; exact hm
            clear hm
            first | (go_region_with (first
              | (go_at_call 20; refine ((unhide HSM) _ ((unhide HI).below (by first | exact (Below.refl _ _).drew | exact unhide K12) (Nat.le_refl _))).mono ?_; rintro e w12 ⟨a12, d12, rfl, q12, b12⟩; have K12 : Hid (Below w10.heap.size w10 w12) := ((Below.refl w10.heap.size w10).drew).trans b12; have u0 := ((unhide K12).cell t2).trans t0; have u1 := ((unhide K12).cell t2).trans t1; clear b12 q12))) | fail
            all_goals
              go_wp2_with fail
              go_meet
              case rel => exact ⟨rfl, unhide K12⟩
        case rest =>
          obtain ⟨rfl, kx⟩ := hcut
          have TM := TM.below kx (Nat.le_refl _)
          have M := M10.below kx (Nat.le_refl _)
          have TB := T10.below kx (Nat.le_refl _)
          have J := J10.below kx (Nat.le_refl _)
          have B := B10.trans (kx.mono B10.size)
          have V := V10.below kx (Nat.le_refl _)
          clear kx M10 I10 T10 J10 B10 V10 HSM
          obtain ⟨m0', m1', m2'⟩ := TM
          obtain ⟨t0, t1, t2⟩ := TB
          have HSXY := hide (show sameB [(X : Int), (Y : Int)] [(X : Int), (Y : Int)] = true by simp [sameB])
          have hq2 : ∀ (W : World), IRow (W.alloc (Obj.cells #[Value.int IntKind.i64 (X : Int), Value.int IntKind.i64 (Y : Int)] 2)) (some ⟨W.heap.size, 0, none⟩) 2 [(X : Int), (Y : Int)] := fun W => by
            refine ⟨rfl, trivial, fun e => (by cases e), fun x hx i hi => ?_⟩
            cases hx
            rw [add_none, Nat.zero_add]
            exact cells_list [(X : Int), (Y : Int)] 2 i hi
          have HQ2 := hide hq2
          clear hq2 h hl hd
          have hK := J.below (below_alloc wc (Obj.cells #[Value.int IntKind.i64 (X : Int), Value.int IntKind.i64 (Y : Int)] 2)) (Nat.le_refl _)
          have hM := M.below (below_alloc wc (Obj.cells #[Value.int IntKind.i64 (X : Int), Value.int IntKind.i64 (Y : Int)] 2)) (Nat.le_refl _)
          have hV := V.below (below_alloc wc (Obj.cells #[Value.int IntKind.i64 (X : Int), Value.int IntKind.i64 (Y : Int)] 2)) (Nat.le_refl _)
          have hB := B.alloc B.size (Obj.cells #[Value.int IntKind.i64 (X : Int), Value.int IntKind.i64 (Y : Int)] 2)
          have hQ := (unhide HQ2) wc
          have z0 := ((below_alloc wc (Obj.cells #[Value.int IntKind.i64 (X : Int), Value.int IntKind.i64 (Y : Int)] 2)).cell m2').trans m0'
          have z1 := ((below_alloc wc (Obj.cells #[Value.int IntKind.i64 (X : Int), Value.int IntKind.i64 (Y : Int)] 2)).cell m2').trans m1'
          have HK := hide hK
          have HM := hide hM
          have HV := hide hV
          have HB := hide hB
          have HQ := hide hQ
          have HZ0 := hide z0
          have HZ1 := hide z1
          clear hK hM hV hB hQ z0 z1 J M V B HQ2
          go_wp2_with fail
          refine (lwNums_any _ _ 2 _ 2 _ _ _ _ (unhide HK) (unhide HQ) (by omega) (by omega)).mono ?_
          rintro e w' ⟨rfl, n14, rfl⟩
          rw [unhide HSXY]
          have z0 := unhide HZ0
          have z1 := unhide HZ1
          have M2 := (unhide HM).below (below_drewN (Below.refl _ _) n14) (Nat.le_refl _)
          have V2 := (unhide HV).below (below_drewN (Below.refl _ _) n14) (Nat.le_refl _)
          have B2 := below_drewN (unhide HB) n14
          have HM2 := hide M2
          have HV2 := hide V2
          have HB2 := hide B2
          clear M2 V2 B2
          by_cases hm : mc = 0
          · have hd1 : (mc != 0) = false := by simp [hm]
            obtain ⟨e50, ec⟩ := (unhide HAG) hm
            have HX := hide (fun W (hW : IRow W a9 mn ml) (hv : Laid W) => implMix_any a9 mn d9 ml W hW hcap9 (by omega) hv)
            rw [ec] at HX
            have t50 : (((mn : Nat) : Int) == 50) = true := by rw [e50]; rfl
            have hf := fieldN0
            clear hm ec e50
            go_wp2_with fail
            refine ((unhide HX) _ (unhide HM2) (unhide HV2)).mono ?_
            rintro e w15 ⟨a15, d15, rfl, q15, b15⟩
            go_wp2_with fail
            go_ret
            exact ⟨rfl, (unhide HB2).trans (b15.mono (unhide HB2).size)⟩
          · have hd1 : (mc != 0) = true := by rw [bne_iff_ne]; exact hm
            clear hm
            go_wp2_with fail
            go_ret
            exact ⟨rfl, unhide HB2⟩
    | false =>
      have e1 : tlCode x y n = 3 := by unfold tlCode; rw [ho]; rfl
      have HSP := hide (fun W => specTurn_any x y n W)
      rw [e1] at HSP
      go_wp2_with fail
      refine (implTurn_any x y n w1).mono ?_
      rintro e w2 ⟨a2, d2, rfl, q2, b2⟩
      rw [e1]
      generalize (tlList x y n).length = tl at q2 HSP ⊢
      have T3 : Two (w2.alloc (Obj.cells #[Value.int IntKind.i64 3, Value.slice a2 tl d2] 36)) w2.heap.size (.int .i64 3) (.slice a2 tl d2) := Two.new _ _ _ _
      have k3 := below_alloc w2 (Obj.cells #[Value.int IntKind.i64 3, Value.slice a2 tl d2] 36)
      obtain ⟨w3, e3⟩ : ∃ w3, w2.alloc (Obj.cells #[Value.int IntKind.i64 3, Value.slice a2 tl d2] 36) = w3 := ⟨_, rfl⟩
      rw [e3] at T3 k3
      have k13 := b2.trans (k3.mono b2.size)
      have B3 := b1.trans (k13.mono b1.size)
      obtain ⟨p0, p1, p2⟩ := T3
      have hf := fieldN0
      have hcc : ((3 : Int) == 3) = true := rfl
      clear q2 b1 b2 k3 k13 e1 ho
      go_wp2_with (rw [e3])
      clear e3
      first | (go_region_with (first
        | (go_at_call 17; refine ((unhide HSP) _).mono ?_; rintro e w4 ⟨a4, c4, rfl, o4, b4⟩; have p0a := (b4.cell p2).trans p0; clear o4))) | fail
      all_goals
        go_wp2_with fail
        go_ret
        exact ⟨rfl, B3.trans ((((Below.refl w3.heap.size w3).drew).trans b4).mono B3.size)⟩
  · have hd : decide (1048576 < (len : Int)) = true := decide_eq_true (by omega)
    go_enter Tryd.func4, Tryd.ntmps4
    go_wp2_with fail
    refine (lwBig_any a len cap w).mono ?_
    rintro e w' ⟨rfl, rfl⟩
    rw [hd]
    go_wp2_with fail
    go_ret
    exact ⟨rfl, Below.refl _ _⟩

end Go.Proofs.YtjdeobifhgdffaaDoor
