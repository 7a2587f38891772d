/- What is proved here: plain facts on the fault of a header, and the eleven cells of one; no program is named. -/
import Derived.Test.YtnmbdannipebnaaGreatDoorJ4
import Derived.Deep.MidRow
import Derived.WalkKit
import Derived.WalkSmall
import Derived.WalkSpells
import Derived.Deep.DeepCutAuto
import Derived.Deep.CutBlock
import Derived.Deep.RegionWith
import Derived.BigQuiet
import Derived.Deep.QuietTactic
import Derived.Test.YtnmbdannipebnaaGreatDoorJ2
import Derived.Test.YtnmbdannipebnaaGreatDoorChecked
import Derived.Test.YtnmbdannipebnaaGreatDoorJ1
import Derived.WalkLawsBesides
import Derived.KernelRfl
namespace Go.Proofs.YtnmbdannipebnaaGreatDoor
open Go.RowKit
set_option linter.unusedVariables false
set_option maxRecDepth 100000

theorem hcells {W : World} {g : Nat} {x : HS} {h : Hd} {T : TypeId} (b : SBlk W g (hvals x h).toList T) : W.cell? ⟨g, 0, none⟩ = some (.slice x.p.a x.p.n x.p.c) ∧ W.cell? ⟨g, 1, none⟩ = some (.int .i64 h.n1) ∧ W.cell? ⟨g, 2, none⟩ = some (.int .i64 h.n2) ∧ W.cell? ⟨g, 3, none⟩ = some (.int .i64 h.n3) ∧ W.cell? ⟨g, 4, none⟩ = some (.slice x.t.a x.t.n x.t.c) ∧ W.cell? ⟨g, 5, none⟩ = some (.int .i64 h.n5) ∧ W.cell? ⟨g, 6, none⟩ = some (.slice x.s.a x.s.n x.s.c) ∧ W.cell? ⟨g, 7, none⟩ = some (.slice x.r.a x.r.n x.r.c) ∧ W.cell? ⟨g, 8, none⟩ = some (.slice x.g.a x.g.n x.g.c) ∧ W.cell? ⟨g, 9, none⟩ = some (.slice x.e.a x.e.n x.e.c) ∧ W.cell? ⟨g, 10, none⟩ = some (.slice x.k.a x.k.n x.k.c) :=
  ⟨b.cell 0, b.cell 1, b.cell 2, b.cell 3, b.cell 4, b.cell 5, b.cell 6, b.cell 7, b.cell 8, b.cell 9, b.cell 10⟩

theorem srange {W : World} {g : Nat} {vs : List Value} {T : TypeId} (b : SBlk W g vs T) : W.rangeAt g 0 vs := fun j v hj => by
  rw [Nat.zero_add, b.cell j]; exact hj

/-- Whether a field has a wrong number of bytes. -/
def hdLen (h : Hd) : Bool := ((h.p.length : Int) != 32) || (((h.t.length : Int) != 0) && ((h.t.length : Int) != 4)) || ((h.r.length : Int) != 32) || ((h.g.length : Int) != 4) || (((h.e.length : Int) != 0) && ((h.e.length : Int) != 4))

def within (n lo hi : Int) : Bool := decide (lo ≤ n ∧ n ≤ hi)

/-- Whether all numbers lie within their bounds. -/
def hdNum (h : Hd) : Bool := within h.n1 0 1099511627776 && within h.n2 0 1099511627776 && within h.n3 0 9 && within h.n5 0 2

/-- The fault of the commits from a place on. -/
def coFrom : List (List Int) → Int
  | [] => 0
  | z :: r => if z.length = 8 then coFrom r else 1

def coFlt (zss : List (List Int)) : Int := if 7 < zss.length then 2 else coFrom zss

/-- The fault of a header. -/
def hdFlt (h : Hd) : Int := if hdLen h = true then 1 else if hdNum h = false then 3 else if sgFlt h.s = 0 then coFlt h.k else sgFlt h.s

theorem coFrom_step (zss : List (List Int)) (k : Nat) (z : List Int) (h : zss[k]? = some z) : coFrom (zss.drop k) = if z.length = 8 then coFrom (zss.drop (k + 1)) else 1 := by
  obtain ⟨hk, e⟩ := List.getElem?_eq_some_iff.1 h
  rw [List.drop_eq_getElem_cons hk, e]
  rfl

theorem coFrom_end (zss : List (List Int)) (k : Nat) (h : zss.length ≤ k) : coFrom (zss.drop k) = 0 := by
  rw [List.drop_eq_nil_of_le h]; rfl

end Go.Proofs.YtnmbdannipebnaaGreatDoor

/- What is proved here: what the program's SignersFault answers: the first fault of a list of signers. -/
namespace Go.Proofs.YtnmbdannipebnaaGreatDoor
open Go.RowKit
set_option linter.unusedVariables false
set_option maxRecDepth 100000

theorem isAddr_any (a : Option Addr) (n cap : Nat) (w : World) : Calls Tryz.prog 104 #[.slice a n cap] w fun e w' => e = .returned (.bool (((n : Nat) : Int) == 4)) ∧ w' = w := by
  go_enter Tryz.func104, Tryz.ntmps104
  go_wp2_with fail
  go_ret
  exact ⟨rfl, rfl⟩

set_option maxHeartbeats 2000000 in
theorem implSigners_any (a : Option Addr) (len cap : Nat) (zss : List (List Int)) (w : World) (h : BsRow w a len zss) (hl : len ≤ 1048576) :
    Calls Tryz.prog 156 #[.slice a len cap] w fun e w' => e = .returned (.int .i64 (sgFlt zss)) ∧ w' = w := by
  have hil := h.1
  by_cases h2 : 7 < len
  · have HE : Hid (sgFlt zss = 2) := by show _ = _; unfold sgFlt; rw [if_pos (by rw [hil]; exact h2)]
    have hd : decide ((7 : Int) < (len : Int)) = true := decide_eq_true (by omega)
    clear h hil
    go_enter Tryz.func156, Tryz.ntmps156
    go_wp2_with fail
    go_ret
    exact ⟨ret_int (unhide HE).symm, rfl⟩
  · have d2 : decide ((7 : Int) < (len : Int)) = false := decide_eq_false (by omega)
    have HE : Hid (sgFlt zss = sgFrom zss 0 zss) := by show _ = _; unfold sgFlt; rw [if_neg (by omega)]
    rcases Nat.eq_zero_or_pos len with h0 | hp
    · subst h0
      have hn : zss = [] := List.length_eq_zero_iff.1 hil
      subst hn
      clear h
      go_enter Tryz.func156, Tryz.ntmps156
      go_wp2_with fail
      refine wp_loop_rounds 1 ?_
      rw [rounds_succ]
      go_wp2_with fail
      go_ret
      exact ⟨ret_int (by rw [unhide HE]; rfl), rfl⟩
    · obtain ⟨b, off, rfl, hb, hc⟩ := h.at hp
      have HC := hide hc
      have HL := hide hil
      clear h hc hil
      go_enter Tryz.func156, Tryz.ntmps156
      go_wp2_with fail
      go_loop [10] (fun i => ∃ k : Nat, k ≤ len ∧ i = .int .i64 k ∧ sgFrom zss 0 zss = sgFrom zss k (zss.drop k)) (fun i => len - (intOf i).toNat)
      case atStart => exact ⟨0, Nat.zero_le _, rfl, by simp⟩
      case round =>
        obtain ⟨k, hk, rfl, hpre⟩ := hrel
        by_cases hlt : k < len
        · obtain ⟨z, hit⟩ : ∃ z, zss[k]? = some z := ⟨_, List.getElem?_eq_getElem (by rw [unhide HL]; exact hlt)⟩
          have hst := sgFrom_step zss k z hit
          rw [← hpre] at hst
          obtain ⟨s1, n1, d1, p0, r1⟩ := (unhide HC) k z hit
          have hzl : z.length = n1 := r1.1
          have HS := hide hst
          have i1 : (0 : Int) ≤ (k : Int) := by omega
          have i2 : (k : Int) < (len : Int) := by omega
          have HI := hide (isAddr_any s1 n1 d1 w)
          by_cases h4 : n1 = 4
          · have d4 : (((n1 : Nat) : Int) == 4) = true := by simp [h4]
            rw [d4] at HI
            by_cases k0 : k = 0
            · have e : sgBad zss k z = false := by unfold sgBad; simp [hzl, h4, k0]
              rw [e, if_neg (by simp)] at HS
              have dk : decide ((0 : Int) < (k : Int)) = false := decide_eq_false (by omega)
              have dk' : decide (0 < k) = false := decide_eq_false (by omega)
              clear r1 hst hpre hit hzl e k0 h4
              go_wp2_with fail
              refine (unhide HI).mono ?_
              rintro e w1 ⟨rfl, rfl⟩
              go_wp2_with fail
              go_round
              case rel => exact ⟨k + 1, by omega, by go_num, unhide HS⟩
              case measure => simp [intOf]; omega
            · obtain ⟨y, hiy⟩ : ∃ y, zss[k - 1]? = some y := ⟨_, List.getElem?_eq_getElem (by rw [unhide HL]; omega)⟩
              obtain ⟨s2, n2, d2', q0, r2⟩ := (unhide HC) (k - 1) y hiy
              have hgd : zss.getD (k - 1) [] = y := by rw [List.getD_eq_getElem?_getD, hiy]; rfl
              have e : sgBad zss k z = !aheadB y z := by unfold sgBad; rw [hgd, hzl, h4]; simp; omega
              rw [e] at HS
              have dk : decide ((0 : Int) < (k : Int)) = true := decide_eq_true (by omega)
              have dk' : decide (0 < k) = true := decide_eq_true (by omega)
              have ek : ((k : Int) - 1).toNat = k - 1 := by omega
              have j1 : (0 : Int) ≤ (k : Int) - 1 := by omega
              have j2 : (k : Int) - 1 < (len : Int) := by omega
              have hwr : IntKind.i64.wrap ((k : Int) - 1) = (k : Int) - 1 := by rw [IntKind.wrap_i64]; omega
              have HA := hide (implAhead_any s2 s1 n2 d2' n1 d1 y z w r2 r1)
              have q1 : w.cell? ⟨b, off + ((k : Int) - 1).toNat, none⟩ = some (.slice s2 n2 d2') := by rw [ek]; exact q0
              clear r1 r2 hst hpre hit hiy hzl hgd e k0 h4 ek
              generalize aheadB y z = sb at HA HS
              cases sb
              · go_wp2_with fail
                refine (unhide HI).mono ?_
                rintro e w1 ⟨rfl, rfl⟩
                go_wp2_with fail
                refine (unhide HA).mono ?_
                rintro e w1 ⟨rfl, rfl⟩
                go_wp2_with fail
                go_ret
                exact ⟨ret_int (by rw [unhide HE, unhide HS]; rfl), rfl⟩
              · go_wp2_with fail
                refine (unhide HI).mono ?_
                rintro e w1 ⟨rfl, rfl⟩
                go_wp2_with fail
                refine (unhide HA).mono ?_
                rintro e w1 ⟨rfl, rfl⟩
                go_wp2_with fail
                go_round
                case rel => exact ⟨k + 1, by omega, by go_num, by rw [unhide HS]; rfl⟩
                case measure => simp [intOf]; omega
          · have d4 : (((n1 : Nat) : Int) == 4) = false := by rw [beq_eq_false_iff_ne]; omega
            rw [d4] at HI
            have e : sgBad zss k z = true := by unfold sgBad; simp [hzl, h4]
            rw [e, if_pos rfl] at HS
            clear r1 hst hpre hit hzl e h4
            go_wp2_with fail
            refine (unhide HI).mono ?_
            rintro e w1 ⟨rfl, rfl⟩
            go_wp2_with fail
            go_ret
            exact ⟨ret_int (by rw [unhide HE, unhide HS]), rfl⟩
        · obtain rfl : k = len := by omega
          have e := sgFrom_end zss k (by rw [unhide HL]; exact Nat.le_refl _)
          rw [e] at hpre
          have HP := hide hpre
          clear e hpre
          go_wp2_with fail
          go_ret
          exact ⟨ret_int (by rw [unhide HE, unhide HP]), rfl⟩

end Go.Proofs.YtnmbdannipebnaaGreatDoor

/- What is proved here: what the program's HeaderFault answers, and what it calls: the fault of a header. -/
namespace Go.Proofs.YtnmbdannipebnaaGreatDoor
open Go.RowKit
set_option linter.unusedVariables false
set_option maxRecDepth 100000

theorem isHash_any (a : Option Addr) (n cap : Nat) (w : World) : Calls Tryz.prog 165 #[.slice a n cap] w fun e w' => e = .returned (.bool (((n : Nat) : Int) == 32)) ∧ w' = w := by
  go_enter Tryz.func165, Tryz.ntmps165
  go_wp2_with fail
  go_ret
  exact ⟨rfl, rfl⟩

theorem isWithin_any (v lo hi : Int) (w : World) : Calls Tryz.prog 149 #[.int .i64 v, .int .i64 lo, .int .i64 hi] w fun e w' => e = .returned (.bool (within v lo hi)) ∧ w' = w := by
  unfold within
  by_cases h0 : lo ≤ v
  · have e0 : decide (lo ≤ v) = true := decide_eq_true h0
    by_cases h1 : v ≤ hi
    · have e1 : decide (v ≤ hi) = true := decide_eq_true h1
      have e : decide (lo ≤ v ∧ v ≤ hi) = true := decide_eq_true ⟨h0, h1⟩
      rw [e]
      clear e
      go_enter Tryz.func149, Tryz.ntmps149
      go_wp2_with fail
      go_ret
      exact ⟨rfl, rfl⟩
    · have e1 : decide (v ≤ hi) = false := decide_eq_false h1
      have e : decide (lo ≤ v ∧ v ≤ hi) = false := decide_eq_false (fun h => h1 h.2)
      rw [e]
      clear e
      go_enter Tryz.func149, Tryz.ntmps149
      go_wp2_with fail
      go_ret
      exact ⟨rfl, rfl⟩
  · have e0 : decide (lo ≤ v) = false := decide_eq_false h0
    have e : decide (lo ≤ v ∧ v ≤ hi) = false := decide_eq_false (fun h => h0 h.1)
    rw [e]
    clear e
    go_enter Tryz.func149, Tryz.ntmps149
    go_wp2_with fail
    go_ret
    exact ⟨rfl, rfl⟩

theorem isWithin_to (v lo hi : Int) (c : Bool) (w : World) (e : within v lo hi = c) : Calls Tryz.prog 149 #[.int .i64 v, .int .i64 lo, .int .i64 hi] w fun e w' => e = .returned (.bool c) ∧ w' = w := by
  subst e; exact isWithin_any v lo hi w

theorem isNumber_to (v : Int) (c : Bool) (w : World) (e : within v 0 1099511627776 = c) : Calls Tryz.prog 107 #[.int .i64 v] w fun e w' => e = .returned (.bool c) ∧ w' = w := by
  have HI := hide (isWithin_to v 0 1099511627776 c w e)
  clear e
  go_enter Tryz.func107, Tryz.ntmps107
  go_wp2_with fail
  refine (unhide HI).mono ?_
  rintro e w' ⟨rfl, rfl⟩
  go_wp2_with fail
  go_ret
  exact ⟨rfl, rfl⟩

theorem hasNonce_to (x : HS) (h : Hd) (c : Bool) (w : World) (e : within h.n5 0 2 = c) : Calls Tryz.prog 166 #[.agg #[.slice x.t.a x.t.n x.t.c, .int .i64 h.n5, .slice x.s.a x.s.n x.s.c]] w fun e w' => e = .returned (.bool c) ∧ Below w.heap.size w w' := by
  have HI := hide (fun W => isWithin_to h.n5 0 2 c W e)
  have HB := hide (below_alloc w (.cells #[.slice x.t.a x.t.n x.t.c, .int .i64 h.n5, .slice x.s.a x.s.n x.s.c] 133))
  clear e
  go_enter Tryz.func166, Tryz.ntmps166
  go_wp2_with fail
  refine ((unhide HI) _).mono ?_
  rintro e w' ⟨rfl, rfl⟩
  go_wp2_with fail
  go_ret
  exact ⟨rfl, unhide HB⟩

theorem hasAim_to (x : HS) (h : Hd) (b2 b3 : Bool) (w : World) (e2 : (((x.t.n : Nat) : Int) != 0) = b2) (e3 : (((x.t.n : Nat) : Int) != 4) = b3) :
    Calls Tryz.prog 106 #[.agg #[.slice x.t.a x.t.n x.t.c, .int .i64 h.n5, .slice x.s.a x.s.n x.s.c]] w fun e w' => e = .returned (.bool (!(b2 && b3))) ∧ Below w.heap.size w w' := by
  have HI := hide (fun W => isAddr_any x.t.a x.t.n x.t.c W)
  have HB := hide (below_alloc w (.cells #[.slice x.t.a x.t.n x.t.c, .int .i64 h.n5, .slice x.s.a x.s.n x.s.c] 133))
  have f2 : (((x.t.n : Nat) : Int) == 0) = !b2 := by rw [← e2]; simp [bne]
  have f3 : (((x.t.n : Nat) : Int) == 4) = !b3 := by rw [← e3]; simp [bne]
  simp only [f3] at HI
  clear e2 e3 f3
  cases b2
  · have f2' : (((x.t.n : Nat) : Int) == 0) = true := f2
    clear f2
    go_enter Tryz.func106, Tryz.ntmps106
    go_wp2_with fail
    go_ret
    exact ⟨rfl, unhide HB⟩
  · have f2' : (((x.t.n : Nat) : Int) == 0) = false := f2
    clear f2
    go_enter Tryz.func106, Tryz.ntmps106
    go_wp2_with fail
    refine ((unhide HI) _).mono ?_
    rintro e w' ⟨rfl, rfl⟩
    go_wp2_with fail
    go_ret
    exact ⟨ret_bool (by cases b3 <;> rfl), unhide HB⟩

theorem votesFault_any (x : HS) (h : Hd) (w : World) (o : BsRow w x.s.a x.s.n h.s) (hl : x.s.n ≤ 1048576) : Calls Tryz.prog 137 #[.agg #[.slice x.t.a x.t.n x.t.c, .int .i64 h.n5, .slice x.s.a x.s.n x.s.c]] w fun e w' => e = .returned (.int .i64 (sgFlt h.s)) ∧ Below w.heap.size w w' := by
  have hb := below_alloc w (.cells #[.slice x.t.a x.t.n x.t.c, .int .i64 h.n5, .slice x.s.a x.s.n x.s.c] 133)
  have HI := hide (implSigners_any x.s.a x.s.n x.s.c h.s _ (o.below hb (Nat.le_refl _)) hl)
  have HB := hide hb
  clear o hb
  generalize sgFlt h.s = q at HI
  go_enter Tryz.func137, Tryz.ntmps137
  go_wp2_with fail
  refine (unhide HI).mono ?_
  rintro e w' ⟨rfl, rfl⟩
  go_wp2_with fail
  go_ret
  exact ⟨rfl, unhide HB⟩

set_option maxHeartbeats 4000000 in
theorem commitsFault_any (x : HS) (h : Hd) (w : World) (o : BsRow w x.k.a x.k.n h.k) (hkl : x.k.n ≤ 1048576) : Calls Tryz.prog 138 #[.agg (hvals x h)] w fun e w' => e = .returned (.int .i64 (coFlt h.k)) ∧ Below w.heap.size w w' := by
  have k0 := SBlk.new w (hvals x h) 135
  have hb := below_alloc w (.cells (hvals x h) 135)
  obtain ⟨x0, x1, x2, x3, x4, x5, x6, x7, x8, x9, x10⟩ := hcells k0
  have HK := hide (o.below hb (Nat.le_refl _))
  have HB := hide hb
  obtain ⟨W0, e0⟩ : ∃ W0, w.alloc (.cells (hvals x h) 135) = W0 := ⟨_, rfl⟩
  rw [e0] at x10 HK HB
  clear o hb k0 x0 x1 x2 x3 x4 x5 x6 x7 x8 x9
  unfold hvals at e0 ⊢
  by_cases h7 : 7 < x.k.n
  · have d7 : decide ((7 : Int) < (x.k.n : Int)) = true := decide_eq_true (by omega)
    go_enter Tryz.func138, Tryz.ntmps138
    go_wp2_with (rw [e0])
    go_ret
    refine ⟨ret_int ?_, by first | exact unhide HB | (rw [e0]; exact unhide HB)⟩
    unfold coFlt; rw [if_pos (by rw [(unhide HK).1]; exact h7)]
  · have d7 : decide ((7 : Int) < (x.k.n : Int)) = false := decide_eq_false (by omega)
    have HE3 : Hid (coFlt h.k = coFrom h.k) := by
      show _ = _
      unfold coFlt; rw [if_neg (by rw [(unhide HK).1]; exact h7)]
    go_enter Tryz.func138, Tryz.ntmps138
    go_upto_region 1 with (rw [e0])
    try rw [e0]
    clear e0
    go_wp2_with fail
    go_loop [12] (fun i => ∃ k : Nat, k ≤ x.k.n ∧ i = .int .i64 k ∧ coFrom h.k = coFrom (h.k.drop k)) (fun i => x.k.n - (intOf i).toNat)
    case atStart => exact ⟨0, Nat.zero_le _, rfl, by simp⟩
    case round =>
      obtain ⟨k, hk, rfl, hpre⟩ := hrel
      by_cases hlt : k < x.k.n
      · obtain ⟨z, hit⟩ : ∃ z, h.k[k]? = some z := ⟨_, List.getElem?_eq_getElem (by rw [(unhide HK).1]; exact hlt)⟩
        have hst := coFrom_step h.k k z hit
        rw [← hpre] at hst
        obtain ⟨bb, off, hba, _, hcc⟩ := (unhide HK).at (by omega)
        obtain ⟨s1, m1, d1, p0, r1⟩ := hcc k z hit
        have hzl : z.length = m1 := r1.1
        rw [hzl] at hst
        have HS := hide hst
        have i1 : (0 : Int) ≤ (k : Int) := by omega
        have i2 : (k : Int) < (x.k.n : Int) := by omega
        clear r1 hst hpre hit hzl hcc x10
        by_cases h8 : m1 = 8
        · have d8 : (((m1 : Nat) : Int) != 8) = false := by simp [h8]
          rw [if_pos h8] at HS
          clear h8
          rw [hba]
          clear hba
          go_wp2_with fail
          go_round
          case rel => exact ⟨k + 1, by omega, by go_num, unhide HS⟩
          case measure => simp [intOf]; omega
        · have d8 : (((m1 : Nat) : Int) != 8) = true := by simp; omega
          rw [if_neg h8] at HS
          clear h8
          rw [hba]
          clear hba
          go_wp2_with fail
          go_ret
          exact ⟨ret_int (by rw [unhide HE3, unhide HS]), unhide HB⟩
      · obtain rfl : k = x.k.n := by omega
        have e := coFrom_end h.k x.k.n (by rw [(unhide HK).1]; exact Nat.le_refl _)
        rw [e] at hpre
        have HP := hide hpre
        clear e hpre
        go_wp2_with fail
        go_ret
        exact ⟨ret_int (by rw [unhide HE3, unhide HP]), unhide HB⟩

end Go.Proofs.YtnmbdannipebnaaGreatDoor

/- What is proved here: what the model's l5Signers answers: the first fault of a list of signers. -/
namespace Go.Proofs.YtnmbdannipebnaaGreatDoor
open Go.RowKit
set_option linter.unusedVariables false
set_option maxRecDepth 100000

set_option maxHeartbeats 2000000 in
theorem l5Signers_any (a : Option Addr) (len cap : Nat) (zss : List (List Int)) (w : World) (h : BsRow w a len zss) (hl : len ≤ 1048576) :
    Calls Tryz.prog 75 #[.slice a len cap] w fun e w' => e = .returned (.int .i64 (sgFlt zss)) ∧ ∃ n, w' = w.drewN n := by
  have hil := h.1
  by_cases h2 : 7 < len
  · have HE : Hid (sgFlt zss = 2) := by show _ = _; unfold sgFlt; rw [if_pos (by rw [hil]; exact h2)]
    have hd : decide ((7 : Int) < (len : Int)) = true := decide_eq_true (by omega)
    clear h hil
    go_enter Tryz.func75, Tryz.ntmps75
    go_wp2_with fail
    go_ret
    exact ⟨ret_int (unhide HE).symm, 0, rfl⟩
  · have d2 : decide ((7 : Int) < (len : Int)) = false := decide_eq_false (by omega)
    have HE : Hid (sgFlt zss = sgFrom zss 0 zss) := by show _ = _; unfold sgFlt; rw [if_neg (by omega)]
    rcases Nat.eq_zero_or_pos len with h0 | hp
    · subst h0
      have hn : zss = [] := List.length_eq_zero_iff.1 hil
      subst hn
      clear h
      go_enter Tryz.func75, Tryz.ntmps75
      go_wp2_with fail
      refine wp_loop_rounds 1 ?_
      rw [rounds_succ]
      go_wp2_with fail
      go_ret
      exact ⟨ret_int (by rw [unhide HE]; rfl), 0, rfl⟩
    · obtain ⟨b, off, rfl, hb, hc⟩ := h.at hp
      have HC := hide hc
      have HL := hide hil
      clear h hc hil
      go_enter Tryz.func75, Tryz.ntmps75
      go_wp2_with fail
      go_loopw [3] (fun i wr => ∃ k n : Nat, k ≤ len ∧ i = .int .i64 k ∧ sgFrom zss 0 zss = sgFrom zss k (zss.drop k) ∧ wr = w.drewN n) (fun i _ => len - (intOf i).toNat)
      case atStart => exact ⟨0, 0, Nat.zero_le _, rfl, by simp, rfl⟩
      case round =>
        obtain ⟨k, n, hk, rfl, hpre, hw⟩ := hrel
        have hbw : Below w.heap.size w wr := by rw [hw]; exact below_drewN (Below.refl _ _) n
        have HW := hide hw
        clear hw
        by_cases hlt : k < len
        · obtain ⟨z, hit⟩ : ∃ z, zss[k]? = some z := ⟨_, List.getElem?_eq_getElem (by rw [unhide HL]; exact hlt)⟩
          have hst := sgFrom_step zss k z hit
          rw [← hpre] at hst
          obtain ⟨s1, n1, d1, p0, r1⟩ := ((unhide HC) k z hit).below hbw (Nat.le_refl _)
          have hzl : z.length = n1 := r1.1
          have HS := hide hst
          have i1 : (0 : Int) ≤ (k : Int) := by omega
          have i2 : (k : Int) < (len : Int) := by omega
          by_cases h4 : n1 = 4
          · have d4 : (((n1 : Nat) : Int) != 4) = false := by simp [h4]
            by_cases k0 : k = 0
            · have e : sgBad zss k z = false := by unfold sgBad; simp [hzl, h4, k0]
              rw [e, if_neg (by simp)] at HS
              have dk : decide ((0 : Int) < (k : Int)) = false := decide_eq_false (by omega)
              have dk' : decide (0 < k) = false := decide_eq_false (by omega)
              clear r1 hst hpre hit hzl e k0 h4 hbw
              go_wp2_with fail
              go_quiet (fail)
              all_goals
                go_wp2_with fail
                go_roundw
                case rel => exact ⟨k + 1, _, by omega, by go_num, unhide HS, by rw [unhide HW]; first | rfl | exact World.drewN_drewN ..⟩
                case measure => simp [intOf]; omega
            · obtain ⟨j, hj⟩ : ∃ j : Nat, k - 1 = j := ⟨_, rfl⟩
              obtain ⟨y, hiy⟩ : ∃ y, zss[j]? = some y := ⟨_, List.getElem?_eq_getElem (by rw [unhide HL]; omega)⟩
              obtain ⟨s2, n2, d2', q0, r2⟩ := ((unhide HC) j y hiy).below hbw (Nat.le_refl _)
              have hgd : zss.getD (k - 1) [] = y := by rw [hj, List.getD_eq_getElem?_getD, hiy]; rfl
              have e : sgBad zss k z = !aheadB y z := by unfold sgBad; rw [hgd, hzl, h4]; simp; omega
              rw [e] at HS
              have dk : decide ((0 : Int) < (k : Int)) = true := decide_eq_true (by omega)
              have dk' : decide (0 < k) = true := decide_eq_true (by omega)
              have j1 : (0 : Int) ≤ (j : Int) := by omega
              have j2 : (j : Int) < (len : Int) := by omega
              have hwr : IntKind.i64.wrap ((k : Int) - 1) = (j : Int) := by rw [IntKind.wrap_i64]; omega
              have HA := hide (fun (m : Nat) => l1Ahead_any s2 s1 n2 d2' n1 d1 y z (wr.drewN m) (r2.below (B := wr.heap.size) (below_drewN (Below.refl _ _) m) (Nat.le_refl _)) (r1.below (B := wr.heap.size) (below_drewN (Below.refl _ _) m) (Nat.le_refl _)))
              clear r1 r2 hst hpre hit hiy hzl hgd e k0 h4 hj hbw
              generalize aheadB y z = sb at HA HS
              cases sb
              · go_wp2_with fail
                go_quiet ((go_at_call 116; exact Calls.quiet_of_same ((unhide HA) _)))
                all_goals
                  go_wp2_with fail
                  go_ret
                  exact ⟨ret_int (by rw [unhide HE, unhide HS]; rfl), _, by rw [unhide HW]; first | rfl | exact World.drewN_drewN ..⟩
              · go_wp2_with fail
                go_quiet ((go_at_call 116; exact Calls.quiet_of_same ((unhide HA) _)))
                all_goals
                  go_wp2_with fail
                  go_roundw
                  case rel => exact ⟨k + 1, _, by omega, by go_num, by rw [unhide HS]; rfl, by rw [unhide HW]; first | rfl | exact World.drewN_drewN ..⟩
                  case measure => simp [intOf]; omega
          · have d4 : (((n1 : Nat) : Int) != 4) = true := by simp; omega
            have e : sgBad zss k z = true := by unfold sgBad; simp [hzl, h4]
            rw [e, if_pos rfl] at HS
            clear r1 hst hpre hit hzl e h4 hbw
            go_wp2_with fail
            go_quiet (fail)
            all_goals
              go_wp2_with fail
              go_ret
              exact ⟨ret_int (by rw [unhide HE, unhide HS]), _, by rw [unhide HW]; first | rfl | exact World.drewN_drewN ..⟩
        · obtain rfl : k = len := by omega
          have e := sgFrom_end zss k (by rw [unhide HL]; exact Nat.le_refl _)
          rw [e] at hpre
          have HP := hide hpre
          clear e hpre
          go_wp2_with fail
          go_ret
          exact ⟨ret_int (by rw [unhide HE, unhide HP]), n, unhide HW⟩

end Go.Proofs.YtnmbdannipebnaaGreatDoor

/- What is proved here: what the model's l5Number, l5Fault and HeaderFault answer: the fault of a header. -/
namespace Go.Proofs.YtnmbdannipebnaaGreatDoor
open Go.RowKit
set_option linter.unusedVariables false
set_option maxRecDepth 100000

theorem l5Number_any (v : Int) (w : World) : Calls Tryz.prog 56 #[.int .i64 v] w fun e w' => e = .returned (.bool (within v 0 1099511627776)) ∧ w' = w := by
  have HI := hide (in_any v 0 1099511627776 w)
  unfold within
  generalize decide (0 ≤ v ∧ v ≤ 1099511627776) = c at HI
  go_enter Tryz.func56, Tryz.ntmps56
  go_wp2_with fail
  refine (unhide HI).mono ?_
  rintro e w' ⟨rfl, rfl⟩
  go_wp2_with fail
  go_ret
  exact ⟨rfl, rfl⟩

set_option maxRecDepth 100000 in
set_option maxHeartbeats 8000000 in
theorem l5Fault_any (g : Nat) (x : HS) (h : Hd) (T : TypeId) (w : World) (sb : SBlk w g (hvals x h).toList T) (o : HOk w x h) (m : HSm h) :
    Calls Tryz.prog 30 #[.pointer (some ⟨g, 0, none⟩)] w fun e w' => e = .returned (.int .i64 (hdFlt h)) ∧ ∃ n, w' = w.drewN n := by
  obtain ⟨x0, x1, x2, x3, x4, x5, x6, x7, x8, x9, x10⟩ := hcells sb
  have HC := hide (hcells sb)
  obtain ⟨b1, e1⟩ : ∃ b, (((x.p.n : Nat) : Int) != 32) = b := ⟨_, rfl⟩
  obtain ⟨b2, e2⟩ : ∃ b, (((x.t.n : Nat) : Int) != 0) = b := ⟨_, rfl⟩
  obtain ⟨b3, e3⟩ : ∃ b, (((x.t.n : Nat) : Int) != 4) = b := ⟨_, rfl⟩
  obtain ⟨b4, e4⟩ : ∃ b, (((x.r.n : Nat) : Int) != 32) = b := ⟨_, rfl⟩
  obtain ⟨b5, e5⟩ : ∃ b, (((x.g.n : Nat) : Int) != 4) = b := ⟨_, rfl⟩
  obtain ⟨b6, e6⟩ : ∃ b, (((x.e.n : Nat) : Int) != 0) = b := ⟨_, rfl⟩
  obtain ⟨b7, e7⟩ : ∃ b, (((x.e.n : Nat) : Int) != 4) = b := ⟨_, rfl⟩
  have HL : Hid (hdLen h = (b1 || (b2 && b3) || b4 || b5 || (b6 && b7))) := by
    show _ = _
    unfold hdLen
    rw [o.p.1, o.t.1, o.r.1, o.g.1, o.e.1, e1, e2, e3, e4, e5, e6, e7]
  obtain ⟨c1, f1⟩ : ∃ c, within h.n1 0 1099511627776 = c := ⟨_, rfl⟩
  obtain ⟨c2, f2⟩ : ∃ c, within h.n2 0 1099511627776 = c := ⟨_, rfl⟩
  obtain ⟨c3, f3⟩ : ∃ c, within h.n3 0 9 = c := ⟨_, rfl⟩
  obtain ⟨c5, f5⟩ : ∃ c, within h.n5 0 2 = c := ⟨_, rfl⟩
  have HN : Hid (hdNum h = (c1 && c2 && c3 && c5)) := by
    show _ = _
    unfold hdNum
    rw [f1, f2, f3, f5]
  have D1 := hide (fun W => l5Number_any h.n1 W)
  have D2 := hide (fun W => l5Number_any h.n2 W)
  have D3 := hide (fun W => in_any h.n3 0 9 W)
  have D5 := hide (fun W => in_any h.n5 0 2 W)
  simp only [f1] at D1
  simp only [f2] at D2
  simp only [show decide (0 ≤ h.n3 ∧ h.n3 ≤ 9) = c3 from f3] at D3
  simp only [show decide (0 ≤ h.n5 ∧ h.n5 ≤ 2) = c5 from f5] at D5
  have HSG := hide (l5Signers_any x.s.a x.s.n x.s.c h.s w o.s (by have := o.s.1; have := m.s; omega))
  have HE : Hid (hdFlt h = if hdLen h = true then 1 else if hdNum h = false then 3 else if sgFlt h.s = 0 then coFlt h.k else sgFlt h.s) := rfl
  have HK := hide o.k
  have hkl : x.k.n ≤ 1048576 := by have := o.k.1; have := m.k; omega
  clear o m f1 f2 f3 f5 sb
  generalize sgFlt h.s = q at HSG HE
  go_enter Tryz.func30, Tryz.ntmps30
  go_upto_region 1 with fail
  go_cut [58] (fun s wx => s = .bool (b1 || (b2 && b3) || b4 || b5 || (b6 && b7)) ∧ wx = w)
  case first =>
    cases b1
    case true =>
      go_wp2_with fail
      go_meet
      exact ⟨rfl, rfl⟩
    cases b4
    case true =>
      cases b2
      · go_wp2_with fail
        go_meet
        exact ⟨by simp, rfl⟩
      cases b3
      all_goals
        go_wp2_with fail
        go_meet
        exact ⟨by simp, rfl⟩
    cases b5
    case true =>
      cases b2
      · go_wp2_with fail
        go_meet
        exact ⟨by simp, rfl⟩
      cases b3
      all_goals
        go_wp2_with fail
        go_meet
        exact ⟨by simp, rfl⟩
    cases b6
    · cases b2
      · go_wp2_with fail
        go_meet
        exact ⟨by simp, rfl⟩
      cases b3
      all_goals
        go_wp2_with fail
        go_meet
        exact ⟨by simp, rfl⟩
    cases b2
    · go_wp2_with fail
      go_meet
      exact ⟨by simp, rfl⟩
    cases b3
    all_goals
      go_wp2_with fail
      go_meet
      exact ⟨by simp, rfl⟩
  case rest =>
    obtain ⟨rfl, hwc⟩ := hcut
    rw [hwc]
    clear hwc e1 e2 e3 e4 e5 e6 e7
    generalize hlb : (b1 || (b2 && b3) || b4 || b5 || (b6 && b7)) = lb
    rw [hlb] at HL
    clear hlb
    cases lb
    case true =>
      go_wp2_with fail
      go_ret
      exact ⟨ret_int (by rw [unhide HE, unhide HL, if_pos rfl]), 0, rfl⟩
    go_wp2_with fail
    refine ((unhide D1) _).mono ?_
    rintro e w' ⟨rfl, rfl⟩
    cases c1
    · go_wp2_with fail
      go_ret
      exact ⟨ret_int (by rw [unhide HE, unhide HL, unhide HN]; simp), 0, rfl⟩
    go_wp2_with fail
    refine ((unhide D2) _).mono ?_
    rintro e w' ⟨rfl, rfl⟩
    cases c2
    · go_wp2_with fail
      go_ret
      exact ⟨ret_int (by rw [unhide HE, unhide HL, unhide HN]; simp), 0, rfl⟩
    go_wp2_with fail
    refine ((unhide D3) _).mono ?_
    rintro e w' ⟨rfl, rfl⟩
    cases c3
    · go_wp2_with fail
      go_ret
      exact ⟨ret_int (by rw [unhide HE, unhide HL, unhide HN]; simp), 0, rfl⟩
    go_wp2_with fail
    refine ((unhide D5) _).mono ?_
    rintro e w' ⟨rfl, rfl⟩
    cases c5
    · go_wp2_with fail
      go_ret
      exact ⟨ret_int (by rw [unhide HE, unhide HL, unhide HN]; simp), 0, rfl⟩
    go_wp2_with fail
    refine (unhide HSG).mono ?_
    rintro e w1 ⟨rfl, n1, rfl⟩
    by_cases hq : q = 0
    · subst hq
      have HE2 : Hid (hdFlt h = coFlt h.k) := by
        show _ = _
        rw [unhide HE, unhide HL, unhide HN]; simp
      clear HE HL HN D1 D2 D3 D5 HSG x0 x1 x2 x3 x4 x5 x6 x7 x8 x9
      by_cases h7 : 7 < x.k.n
      · have d7 : decide ((7 : Int) < (x.k.n : Int)) = true := decide_eq_true (by omega)
        go_wp2_with fail
        go_ret
        refine ⟨ret_int ?_, n1, rfl⟩
        rw [unhide HE2]; unfold coFlt; rw [if_pos (by rw [(unhide HK).1]; exact h7)]
      have d7 : decide ((7 : Int) < (x.k.n : Int)) = false := decide_eq_false (by omega)
      have HE3 : Hid (hdFlt h = coFrom h.k) := by
        show _ = _
        rw [unhide HE2]; unfold coFlt; rw [if_neg (by rw [(unhide HK).1]; exact h7)]
      clear HE2
      go_wp2_with fail
      go_loop [4] (fun i => ∃ k : Nat, k ≤ x.k.n ∧ i = .int .i64 k ∧ coFrom h.k = coFrom (h.k.drop k)) (fun i => x.k.n - (intOf i).toNat)
      case atStart => exact ⟨0, Nat.zero_le _, rfl, by simp⟩
      case round =>
        obtain ⟨k, hk, rfl, hpre⟩ := hrel
        by_cases hlt : k < x.k.n
        · obtain ⟨z, hit⟩ : ∃ z, h.k[k]? = some z := ⟨_, List.getElem?_eq_getElem (by rw [(unhide HK).1]; exact hlt)⟩
          have hst := coFrom_step h.k k z hit
          rw [← hpre] at hst
          obtain ⟨bb, off, hba, _, hcc⟩ := (unhide HK).at (by omega)
          obtain ⟨s1, m1, d1, p0, r1⟩ := hcc k z hit
          have hzl : z.length = m1 := r1.1
          rw [hzl] at hst
          have HS := hide hst
          have x10' := x10
          rw [hba] at x10'
          have i1 : (0 : Int) ≤ (k : Int) := by omega
          have i2 : (k : Int) < (x.k.n : Int) := by omega
          clear r1 hst hpre hit hzl hcc hba x10
          by_cases h8 : m1 = 8
          · have d8 : (((m1 : Nat) : Int) != 8) = false := by simp [h8]
            rw [if_pos h8] at HS
            clear h8
            go_wp2_with fail
            go_round
            case rel => exact ⟨k + 1, by omega, by go_num, unhide HS⟩
            case measure => simp [intOf]; omega
          · have d8 : (((m1 : Nat) : Int) != 8) = true := by simp; omega
            rw [if_neg h8] at HS
            clear h8
            go_wp2_with fail
            go_ret
            exact ⟨ret_int (by rw [unhide HE3, unhide HS]), n1, rfl⟩
        · obtain rfl : k = x.k.n := by omega
          have e := coFrom_end h.k x.k.n (by rw [(unhide HK).1]; exact Nat.le_refl _)
          rw [e] at hpre
          have HP := hide hpre
          clear e hpre
          go_wp2_with fail
          go_ret
          exact ⟨ret_int (by rw [unhide HE3, unhide HP]), n1, rfl⟩
    · have hne : (q != 0) = true := by simp [hq]
      have HE2 : Hid (hdFlt h = q) := by
        show _ = _
        rw [unhide HE, unhide HL, unhide HN, if_neg (by simp), if_neg (by simp), if_neg hq]
      clear HE HL HN D1 D2 D3 D5 HSG hq
      go_wp2_with fail
      go_ret
      exact ⟨ret_int (unhide HE2).symm, n1, rfl⟩

end Go.Proofs.YtnmbdannipebnaaGreatDoor

/- What is proved here: what ConfigFault and IsCheckpoint answer, in the program and in the model; the laws' copy of a setting; how an argument that is a setting reads. -/
namespace Go.Proofs.YtnmbdannipebnaaGreatDoor
open Go.RowKit
set_option linter.unusedVariables false
set_option maxRecDepth 100000

/-- A setting: mode, period, epoch. -/
abbrev Cf := Int × Int × Int
def cfvals (x : Cf) : Array Value := #[.int .i64 x.1, .int .i64 x.2.1, .int .i64 x.2.2]

/-- The fault of a setting. -/
def cfFlt (x : Cf) : Int := if within x.1 1 2 = true ∧ within x.2.1 1 100 = true ∧ within x.2.2 1 100 = true then 0 else 3

/-- Whether a block is a checkpoint. -/
def cfCk (x : Cf) (n : Int) : Bool := decide (cfFlt x = 0) && within n 0 1099511627776 && decide (n % x.2.2 = 0)

theorem cf_field {H : Type} {enc : TypeId × Value → H} {w : World} {sp : Nat → Bool} {held : Bool} {t u : TypeId} {fs : Array Field} {fuel : Nat} {cs : List Value} {y : DataW H × List MemPlace} (ht : Tryz.prog.underlying t = some (.struct fs)) (h : DataW.trod enc Tryz.prog w 0 sp held fuel t cs = some y) (i : Nat) (f : Field) (hf : fs[i]? = some f) (hu : f.type = u) {o : Nat} (ho : f.offset = o) (ut : Tryz.prog.underlying u = some (.int .i64)) (hc : Tryz.prog.cellsOf u = 1) (hl : o + 1 ≤ cs.length) :
    ∃ n, (cs.drop o).take 1 = [.int .i64 n] := by
  obtain ⟨d, ps⟩ := y
  obtain ⟨xs, m, _, _, _, hxl, hfs⟩ := DataW.trod_struct ht h
  have g := hfs i f hf
  have hi : i < xs.length := by rw [hxl]; exact (Array.getElem?_eq_some_iff.1 hf).1
  rw [List.getElem?_eq_getElem hi, hu, ho, hc] at g
  have hl1 : ((cs.drop o).take 1).length = 1 := by rw [List.length_take, List.length_drop]; omega
  generalize (cs.drop o).take 1 = l at g hl1
  match l, hl1 with
  | [v], _ =>
    obtain ⟨n, rfl, hn⟩ := field_int ut g
    exact ⟨n, rfl⟩

theorem open_config {H : Type} {enc : TypeId × Value → H} {w : World} {sp : Nat → Bool} {held : Bool} {v : Value} {d : DataW H} {ps : List MemPlace} (hv : ∃ cs, v = .agg cs ∧ cs.size = Tryz.prog.cellsOf 23) (h : DataW.Trod enc Tryz.prog w 0 sp held 23 v d ps) :
    ∃ x, v = .agg (cfvals x) := by
  obtain ⟨cs, rfl, hs⟩ := hv
  obtain ⟨fuel, h⟩ := h
  have h' : DataW.trod enc Tryz.prog w 0 sp held fuel 23 cs.toList = some (d, ps) := h
  have h3 : Tryz.prog.cellsOf 23 = 3 := by kernel_rfl
  have hl : cs.toList.length = 3 := by rw [Array.length_toList, hs, h3]
  obtain ⟨m, q0⟩ := cf_field Tryz.underlying23 h' 0 _ rfl rfl (o := 0) rfl Tryz.underlying2 (by kernel_rfl) (by omega)
  obtain ⟨p, q1⟩ := cf_field Tryz.underlying23 h' 1 _ rfl rfl (o := 1) rfl Tryz.underlying2 (by kernel_rfl) (by omega)
  obtain ⟨e, q2⟩ := cf_field Tryz.underlying23 h' 2 _ rfl rfl (o := 2) rfl Tryz.underlying2 (by kernel_rfl) (by omega)
  refine ⟨(m, p, e), ?_⟩
  obtain ⟨l⟩ := cs
  match l, hl with
  | [a, b, c], _ =>
    simp at q0 q1 q2
    subst q0 q1 q2
    rfl

set_option maxHeartbeats 4000000 in
theorem toConfig_any (x : Cf) (w : World) : Calls Tryz.prog 8 #[.agg (cfvals x)] w fun r w' => r = .returned (.agg (cfvals x)) ∧ Below w.heap.size w w' := by
  obtain ⟨m, p, e⟩ := x
  unfold cfvals
  go_enter Tryz.func8, Tryz.ntmps8
  go_wp2
  refine bodyPost_ret (v := .agg #[.int .i64 m, .int .i64 p, .int .i64 e]) (by simp [results, Tryz.results8, go_sem]) rfl ⟨rfl, ?_⟩
  exact (((Below.refl _ _).alloc (Nat.le_refl _) _).alloc (by simp) _).alloc (by simp; omega) _

theorem isSpan_to (v : Int) (c : Bool) (w : World) (e : within v 1 100 = c) : Calls Tryz.prog 131 #[.int .i64 v] w fun e w' => e = .returned (.bool c) ∧ w' = w := by
  have HI := hide (isWithin_to v 1 100 c w e)
  clear e
  go_enter Tryz.func131, Tryz.ntmps131
  go_wp2_with fail
  refine (unhide HI).mono ?_
  rintro e w' ⟨rfl, rfl⟩
  go_wp2_with fail
  go_ret
  exact ⟨rfl, rfl⟩

theorem within_two {m : Int} : within m 1 2 = (m == 1 || m == 2) := by
  unfold within
  by_cases h : 1 ≤ m ∧ m ≤ 2
  · rw [decide_eq_true h]
    have : m = 1 ∨ m = 2 := by omega
    rcases this with rfl | rfl <;> rfl
  · rw [decide_eq_false h]
    have h1 : (m == 1) = false := by rw [beq_eq_false_iff_ne]; omega
    have h2 : (m == 2) = false := by rw [beq_eq_false_iff_ne]; omega
    rw [h1, h2]; rfl

set_option maxHeartbeats 4000000 in
theorem implConfigFault_any (x : Cf) (w : World) : Calls Tryz.prog 84 #[.agg (cfvals x)] w fun r w' => r = .returned (.int .i64 (cfFlt x)) ∧ Below w.heap.size w w' := by
  obtain ⟨m, p, e⟩ := x
  unfold cfvals cfFlt
  simp only
  rw [within_two]
  have HP := hide (fun W => isSpan_to p _ W rfl)
  have HE := hide (fun W => isSpan_to e _ W rfl)
  generalize within p 1 100 = bp at HP ⊢
  generalize within e 1 100 = be at HE ⊢
  obtain ⟨f, hf⟩ : ∃ f : Int, f = (if (m == 1 || m == 2) = true ∧ bp = true ∧ be = true then 0 else 3) := ⟨_, rfl⟩
  rw [← hf]
  have HF := hide hf
  clear hf
  have kr := SBlk.new w #[.int .i64 m, .int .i64 p, .int .i64 e] 35
  have bb := hide (below_alloc w (.cells #[.int .i64 m, .int .i64 p, .int .i64 e] 35))
  obtain ⟨W0, e0⟩ : ∃ W, w.alloc (.cells #[.int .i64 m, .int .i64 p, .int .i64 e] 35) = W := ⟨_, rfl⟩
  rw [e0] at kr bb
  have r0 := kr.cell 0
  have r1 := kr.cell 1
  have r2 := kr.cell 2
  simp only [List.getElem?_cons_zero, List.getElem?_cons_succ] at r0 r1 r2
  clear kr
  cases h1 : (m == 1) <;> cases h2 : (m == 2)
  · go_enter Tryz.func84, Tryz.ntmps84
    go_wp2_with (rw [e0])
    go_ret
    exact ⟨by rw [unhide HF]; simp [h1, h2], unhide bb⟩
  all_goals
    cases bp
    · go_enter Tryz.func84, Tryz.ntmps84
      go_wp2_with (rw [e0])
      refine ((unhide HP) _).mono ?_
      rintro r w1 ⟨rfl, rfl⟩
      go_wp2_with fail
      go_ret
      exact ⟨by rw [unhide HF]; simp [h1, h2], unhide bb⟩
    cases be
    all_goals
      go_enter Tryz.func84, Tryz.ntmps84
      go_wp2_with (rw [e0])
      refine ((unhide HP) _).mono ?_
      rintro r w1 ⟨rfl, rfl⟩
      go_wp2_with fail
      refine ((unhide HE) _).mono ?_
      rintro r w1 ⟨rfl, rfl⟩
      go_wp2_with fail
      go_ret
      exact ⟨by rw [unhide HF]; simp [h1, h2], unhide bb⟩

set_option maxHeartbeats 4000000 in
theorem l8Fault_any (g : Nat) (x : Cf) (T : TypeId) (w : World) (sb : SBlk w g (cfvals x).toList T) : Calls Tryz.prog 28 #[.pointer (some ⟨g, 0, none⟩)] w fun r w' => r = .returned (.int .i64 (cfFlt x)) ∧ w' = w := by
  obtain ⟨m, p, e⟩ := x
  have r0 := sb.cell 0
  have r1 := sb.cell 1
  have r2 := sb.cell 2
  simp only [cfvals, List.getElem?_cons_zero, List.getElem?_cons_succ] at r0 r1 r2
  clear sb
  unfold cfFlt
  simp only
  have HM := hide (fun W => in_any m 1 2 W)
  have HP := hide (fun W => in_any p 1 100 W)
  have HE := hide (fun W => in_any e 1 100 W)
  rw [show decide (1 ≤ m ∧ m ≤ 2) = within m 1 2 from rfl] at HM
  rw [show decide (1 ≤ p ∧ p ≤ 100) = within p 1 100 from rfl] at HP
  rw [show decide (1 ≤ e ∧ e ≤ 100) = within e 1 100 from rfl] at HE
  generalize within m 1 2 = bm at HM ⊢
  generalize within p 1 100 = bp at HP ⊢
  generalize within e 1 100 = be at HE ⊢
  obtain ⟨f, hf⟩ : ∃ f : Int, f = (if bm = true ∧ bp = true ∧ be = true then 0 else 3) := ⟨_, rfl⟩
  rw [← hf]
  have HF := hide hf
  clear hf
  cases bm
  · go_enter Tryz.func28, Tryz.ntmps28
    go_wp2_with fail
    refine ((unhide HM) _).mono ?_
    rintro r w1 ⟨rfl, rfl⟩
    go_wp2_with fail
    go_ret
    exact ⟨by rw [unhide HF]; simp, rfl⟩
  cases bp
  · go_enter Tryz.func28, Tryz.ntmps28
    go_wp2_with fail
    refine ((unhide HM) _).mono ?_
    rintro r w1 ⟨rfl, rfl⟩
    go_wp2_with fail
    refine ((unhide HP) _).mono ?_
    rintro r w1 ⟨rfl, rfl⟩
    go_wp2_with fail
    go_ret
    exact ⟨by rw [unhide HF]; simp, rfl⟩
  cases be
  all_goals
    go_enter Tryz.func28, Tryz.ntmps28
    go_wp2_with fail
    refine ((unhide HM) _).mono ?_
    rintro r w1 ⟨rfl, rfl⟩
    go_wp2_with fail
    refine ((unhide HP) _).mono ?_
    rintro r w1 ⟨rfl, rfl⟩
    go_wp2_with fail
    refine ((unhide HE) _).mono ?_
    rintro r w1 ⟨rfl, rfl⟩
    go_wp2_with fail
    go_ret
    exact ⟨by rw [unhide HF]; simp, rfl⟩

/-- What is known of a setting without a fault. -/
theorem cf_ok {x : Cf} (h : cfFlt x = 0) : (x.1 = 1 ∨ x.1 = 2) ∧ (1 ≤ x.2.1 ∧ x.2.1 ≤ 100) ∧ (1 ≤ x.2.2 ∧ x.2.2 ≤ 100) := by
  unfold cfFlt at h
  split at h
  · rename_i q
    obtain ⟨q1, q2, q3⟩ := q
    unfold within at q1 q2 q3
    have := of_decide_eq_true q1
    have := of_decide_eq_true q2
    have := of_decide_eq_true q3
    omega
  · omega

set_option maxHeartbeats 4000000 in
theorem implCheckpoint_any (x : Cf) (n : Int) (w : World) : Calls Tryz.prog 96 #[.agg (cfvals x), .int .i64 n] w fun r w' => r = .returned (.bool (cfCk x n)) ∧ Below w.heap.size w w' := by
  have kr := SBlk.new w (cfvals x) 35
  have bb := hide (below_alloc w (.cells (cfvals x) 35))
  obtain ⟨W0, e0⟩ : ∃ W, w.alloc (.cells (cfvals x) 35) = W := ⟨_, rfl⟩
  rw [e0] at kr bb
  have HF := hide (implConfigFault_any x W0)
  have HN := hide (fun W => isNumber_to n _ W rfl)
  have HK := hide (fun (W : World) (hb : Below W0.heap.size W0 W) => kr.below hb kr.lt)
  have HO := hide (@cf_ok x)
  have HW : Hid (within n 0 1099511627776 = true → 0 ≤ n ∧ n ≤ 1099511627776) := fun h => by unfold within at h; simpa using h
  have r0 := kr.cell 0
  have r1 := kr.cell 1
  have r2 := kr.cell 2
  obtain ⟨m, p, e⟩ := x
  simp only [cfvals, List.getElem?_cons_zero, List.getElem?_cons_succ] at r0 r1 r2
  clear kr
  unfold cfCk
  generalize cfFlt (m, p, e) = f at HF HO ⊢
  generalize within n 0 1099511627776 = wn at HN HW ⊢
  simp only at HO ⊢
  obtain ⟨ck, hck⟩ : ∃ b : Bool, b = (decide (f = 0) && wn && decide (n % e = 0)) := ⟨_, rfl⟩
  rw [← hck]
  have HB := hide hck
  clear hck
  unfold cfvals at e0 HF ⊢
  simp only at e0 HF ⊢
  go_enter Tryz.func96, Tryz.ntmps96
  go_wp2_with (rw [e0])
  try rw [e0]
  clear e0
  refine (unhide HF).mono ?_
  rintro r w1 ⟨rfl, b1⟩
  have B1 := hide ((unhide bb).trans (b1.mono (unhide bb).size))
  have r2 := ((unhide HK) _ b1).cell 2
  simp only [cfvals, List.getElem?_cons_zero, List.getElem?_cons_succ] at r2
  clear b1 HK bb HF
  by_cases h0 : f = 0
  case neg =>
    have h1 : (f == 0) = false := by rw [beq_eq_false_iff_ne]; exact h0
    have HR : Hid (ck = false) := by show _ = _; rw [unhide HB, decide_eq_false h0]; rfl
    clear h0
    go_wp2_with fail
    go_ret
    exact ⟨by rw [unhide HR]; rfl, unhide B1⟩
  subst h0
  have h1 : ((0 : Int) == 0) = true := rfl
  go_wp2_with fail
  refine ((unhide HN) _).mono ?_
  rintro r w2 ⟨rfl, rfl⟩
  cases wn
  · go_wp2_with fail
    go_ret
    exact ⟨by rw [unhide HB]; simp, unhide B1⟩
  have ho := (unhide HO) (by trivial)
  have hn := (unhide HW) (by trivial)
  have hz : ¬ e = 0 := by omega
  obtain ⟨rm, erm⟩ : ∃ r : Int, r = n % e := ⟨_, rfl⟩
  have hm1 : n.tmod e = rm := by rw [erm, Int.tmod_eq_emod_of_nonneg hn.1]
  have hm2 : 0 ≤ rm ∧ rm < 100 := by
    have h1 := Int.emod_nonneg n (b := e) (by omega)
    have h2 := Int.emod_lt_of_pos n (b := e) (by omega)
    omega
  have hm3 : IntKind.i64.wrap rm = rm := by rw [IntKind.wrap_i64]; omega
  have HR : Hid (ck = decide (rm = 0)) := by show _ = _; rw [unhide HB, erm]; simp
  clear erm HO HW ho hn hm2
  go_wp2_with fail
  go_ret
  exact ⟨by rw [unhide HR]; rfl, unhide B1⟩

set_option maxHeartbeats 4000000 in
theorem l8Checkpoint_any (g : Nat) (x : Cf) (n : Int) (T : TypeId) (w : World) (sb : SBlk w g (cfvals x).toList T) (h0 : cfFlt x = 0) (hn : 0 ≤ n ∧ n ≤ 1099511627776) : Calls Tryz.prog 101 #[.pointer (some ⟨g, 0, none⟩), .int .i64 n] w fun r w' => r = .returned (.bool (decide (n % x.2.2 = 0))) ∧ w' = w := by
  have ho := cf_ok h0
  obtain ⟨m, p, e⟩ := x
  have r2 := sb.cell 2
  simp only [cfvals, List.getElem?_cons_zero, List.getElem?_cons_succ] at r2
  simp only at ho ⊢
  clear sb h0
  have hz : ¬ e = 0 := by omega
  obtain ⟨rm, erm⟩ : ∃ r : Int, r = n % e := ⟨_, rfl⟩
  have hm1 : n.tmod e = rm := by rw [erm, Int.tmod_eq_emod_of_nonneg hn.1]
  have hm2 : 0 ≤ rm ∧ rm < 100 := by
    have h1 := Int.emod_nonneg n (b := e) (by omega)
    have h2 := Int.emod_lt_of_pos n (b := e) (by omega)
    omega
  have hm3 : IntKind.i64.wrap rm = rm := by rw [IntKind.wrap_i64]; omega
  rw [← erm]
  clear erm ho hn hm2
  go_enter Tryz.func101, Tryz.ntmps101
  go_wp2_with fail
  go_ret
  exact ⟨by rfl, rfl⟩

end Go.Proofs.YtnmbdannipebnaaGreatDoor

/- What is proved here: the contract of the laws' helper function that counts bytes (szByteS). -/
namespace Go.Proofs.YtnmbdannipebnaaGreatDoor
open Go.RowKit
set_option linter.unusedVariables false
set_option maxRecDepth 100000

theorem szByteS_any (a : Option Addr) (n cap : Nat) (left : Int) (w : World) (h0 : 0 ≤ left) (h1 : left ≤ 1099511627776) (hn : n ≤ maxLen) :
    Calls Tryz.prog 27 #[.slice a n cap, .int .i64 left] w fun e w' => e = .returned (.int .i64 (if left - n < 0 then -1 else left - n)) ∧ w' = w := by
  unfold maxLen at hn
  by_cases h : left - n < 0
  · rw [if_pos h]
    have hd : decide (left - (n : Int) < 0) = true := decide_eq_true h
    go_enter Tryz.func27, Tryz.ntmps27
    go_wp2
    go_ret
    exact ⟨rfl, rfl⟩
  · rw [if_neg h]
    have hd : decide (left - (n : Int) < 0) = false := decide_eq_false h
    go_enter Tryz.func27, Tryz.ntmps27
    go_wp2
    go_ret
    exact ⟨rfl, rfl⟩

end Go.Proofs.YtnmbdannipebnaaGreatDoor

/- What is proved here: the contract of the laws' helper function that copies slices of slices of bytes (toByteSS). -/
namespace Go.Proofs.YtnmbdannipebnaaGreatDoor
open Go.RowKit
set_option linter.unusedVariables false
set_option maxRecDepth 100000

theorem infoSB : (Tryz.prog.info? 29).map (fun i => (i.zero, i.size, i.bytes)) = some (some (.slice none 0 0), 1, 24) := by kernel_rfl

set_option maxHeartbeats 2000000 in
theorem toByteSS_any (a : Option Addr) (len cap : Nat) (zss : List (List Int)) (w : World) (h : BsRow w a len zss) (hl : len ≤ 1048576) (hz : ∀ z ∈ zss, z.length ≤ 1048576) :
    Calls Tryz.prog 33 #[.slice a len cap] w fun e w' => e = .returned (.slice (some ⟨w.heap.size, 0, none⟩) len len) ∧ OBss w' w.heap.size zss 29 w'.heap.size ∧ Below w.heap.size w w' := by
  obtain ⟨i0, hi, hz0, hz1, hz2⟩ := info_parts infoSB
  have hil := h.1
  rcases Nat.eq_zero_or_pos len with h0 | hp
  · subst h0
    have hn : zss = [] := List.length_eq_zero_iff.1 hil
    subst hn
    clear h hl hz
    go_enter Tryz.func33, Tryz.ntmps33
    go_wp2_with (at_make; refine wpList_make_full _ rfl _ _ 24 rfl w.heap.size 29 i0 (.slice none 0 0) 1 Tryz.underlying24 hi hz0 hz1 _ _ _ _ 0 rfl rfl rfl rfl ?c1 ?c2 ?c3 ?_)
    case c1 => omega
    case c2 => unfold maxLen; omega
    case c3 => omega
    intro w1 hown hgrow
    go_wp2
    refine wp_loop_rounds 1 ?_
    rw [rounds_succ]
    go_wp2
    go_ret
    refine ⟨rfl, ?_, (Below.refl _ _).grown hgrow (Nat.le_refl _) (fun k e => by cases e)⟩
    obtain ⟨vs, hv, hvl⟩ := own_sblk hown
    exact BUpto.zero hv (by simpa using hvl)
  · obtain ⟨b, off, rfl, hb, hc⟩ := h.at hp
    have HC := hide hc
    have HL := hide hil
    have HZ := hide hz
    clear h hc hil hz
    go_enter Tryz.func33, Tryz.ntmps33
    go_wp2_with (at_make; refine wpList_make_full _ rfl _ _ 24 rfl w.heap.size 29 i0 (.slice none 0 0) 1 Tryz.underlying24 hi hz0 hz1 _ _ _ _ len rfl rfl rfl rfl ?c1 ?c2 ?c3 ?_)
    case c1 => rw [hz2]; omega
    case c2 => unfold maxLen; omega
    case c3 => omega
    intro w1 hown hgrow
    obtain ⟨vs, hv, hvl⟩ := own_sblk hown
    have hst : BUpto w1 w.heap.size zss 0 len 29 w1.heap.size := BUpto.zero hv (by simpa using hvl)
    have hbel : Below w.heap.size w w1 := (Below.refl _ _).grown hgrow (Nat.le_refl _) (fun k e => by cases e)
    clear hown hgrow hv hvl
    go_wp2_with fail
    go_loopw [4] (fun i wr => ∃ k : Nat, k ≤ len ∧ i = .int .i64 k ∧ BUpto wr w.heap.size zss k len 29 wr.heap.size ∧ Below w.heap.size w wr) (fun i _ => len - (intOf i).toNat)
    case atStart => exact ⟨0, Nat.zero_le _, rfl, hst, hbel⟩
    case round =>
      obtain ⟨k, hk, rfl, hup, hbr⟩ := hrel
      clear hst hbel
      by_cases hlt : k < len
      · obtain ⟨z, hit⟩ : ∃ z, zss[k]? = some z := ⟨_, List.getElem?_eq_getElem (by rw [unhide HL]; exact hlt)⟩
        have hat := (unhide HC k z hit).below hbr (Nat.le_refl _)
        have hio := (unhide HZ) z (List.mem_of_getElem? hit)
        obtain ⟨sa, sl, sc, c0, hbrow⟩ := hat
        have hsl : z.length = sl := hbrow.1
        rw [hsl] at hio
        have HT := hide (fun W hb => toByteS_any sa sl sc z W (hbrow.below (w' := W) (B := wr.heap.size) hb (Nat.le_refl _)) hio)
        have HB := hide hbr
        have hs : w.heap.size < wr.heap.size := hup.lt
        have hstep : Hid (∀ w2 : World, Below wr.heap.size wr w2 → wr.heap.size < w2.heap.size → w2.ownsRow wr.heap.size 5 1 (.slice (some ⟨wr.heap.size, 0, none⟩) sl sl) sl (z.map (Value.int .u8)) →
            BUpto (w2.setCell ⟨w.heap.size, k, none⟩ (.slice (some ⟨wr.heap.size, 0, none⟩) sl sl)) w.heap.size zss (k + 1) len 29 w2.heap.size) := fun w2 hb hm ho => by
          subst hsl
          exact hup.step hlt hit hb (by omega) hm (ownsRow_base ho (by omega))
        have hslot := hide (fun (w2 : World) (hb : Below wr.heap.size wr w2) => (hup.below hb (Nat.le_refl _)).slot hlt)
        generalize z = bz at HT hstep
        have i1 : (0 : Int) ≤ (k : Int) := by omega
        have i2 : (k : Int) < (len : Int) := by omega
        clear hup hbr hbrow hsl hit
        go_wp2_with fail
        refine ((unhide HT) _ (Below.refl _ _)).mono ?_
        rintro e w2 ⟨rfl, o2, b2⟩
        obtain ⟨⟨u0, g0⟩, gf⟩ := (unhide hslot) w2 b2
        have hm : wr.heap.size < w2.heap.size := (o2.lt wr.heap.size rfl).2
        have HN := hide ((unhide hstep) w2 b2 hm o2)
        have HB2 := hide ((unhide HB).trans (b2.mono (unhide HB).size))
        clear o2 b2 hslot hstep
        go_wp2_with fail
        go_roundw
        case rel => exact ⟨k + 1, by omega, by go_num, by rw [size_set']; exact unhide HN, (unhide HB2).setCell (Nat.le_refl _) _⟩
        case measure => simp [intOf]; omega
      · obtain rfl : k = len := by omega
        have HU := hide hup
        have HB := hide hbr
        clear hup hbr
        go_wp2_with fail
        go_ret
        refine ⟨rfl, ?_, unhide HB⟩
        unfold OBss
        rw [unhide HL]
        exact unhide HU

end Go.Proofs.YtnmbdannipebnaaGreatDoor
