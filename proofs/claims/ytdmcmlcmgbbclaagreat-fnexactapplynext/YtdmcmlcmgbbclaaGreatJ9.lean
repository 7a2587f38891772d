/- What is proved here: what the model's l5Number, l5Fault and HeaderFault answer: the fault of a header. -/
import Derived.Test.YtdmcmlcmgbbclaaGreatJ7
import Derived.Test.YtdmcmlcmgbbclaaGreatJ8
import Derived.WalkKit
import Derived.WalkSmall
import Derived.Deep.DeepCutAuto
import Derived.Deep.CutBlock
import Derived.WalkSpells
import Derived.Test.YtdmcmlcmgbbclaaGreatChecked
import Derived.Maps.OwnSet
import Derived.DeepKeys4
import Derived.KernelRfl
import Derived.Test.YtdmcmlcmgbbclaaGreatJ1
import Derived.Test.YtdmcmlcmgbbclaaGreatJ5
import Derived.Laws.CopyRow
import Derived.WalkLawsBesides
import Derived.Maps.Views
import Derived.Deep.RegionLaw
import Derived.Deep.RegionHeld3
import Derived.Deep.RegionWith
import Derived.RegionTactic
import Derived.Deep.QuietTactic
import Derived.BigQuiet
namespace Go.Proofs.YtdmcmlcmgbbclaaGreat
set_option linter.unusedVariables false
set_option linter.unusedSimpArgs false
open Go.RowKit
set_option maxRecDepth 100000

theorem l5Number_any (v : Int) (w : World) : Calls Tryz.prog 51 #[.int .i64 v] w fun e w' => e = .returned (.bool (within v 0 1099511627776)) ∧ w' = w := by
 have HI := hide (in_any v 0 1099511627776 w)
 unfold within
 generalize decide (0 ≤ v ∧ v ≤ 1099511627776) = c at HI
 go_enter Tryz.func51, Tryz.ntmps51
 go_wp2_with fail
 refine (unhide HI).mono ?_
 rintro e w' ⟨rfl, rfl⟩
 go_wp2_with fail
 go_ret
 exact ⟨rfl, rfl⟩

set_option maxRecDepth 100000 in
set_option maxHeartbeats 8000000 in
theorem l5Fault_any (g : Nat) (x : HS) (h : Hd) (T : TypeId) (w : World) (sb : SBlk w g (hvals x h).toList T) (o : HOk w x h) (m : HSm h) :
    Calls Tryz.prog 24 #[.pointer (some ⟨g, 0, none⟩)] w fun e w' => e = .returned (.int .i64 (hdFlt h)) ∧ ∃ n, w' = w.drewN n := by
 obtain ⟨x0, x1, x2, x3, x4, x5, x6, x7, x8, x9, x10⟩ := hcells sb
 have HC := hide (hcells sb)
 obtain ⟨b1, e1⟩ : ∃ b, (((x.p.n : Nat) : Int) != 32) = b := ⟨_, rfl⟩
 obtain ⟨b2, e2⟩ : ∃ b, (((x.t.n : Nat) : Int) != 0) = b := ⟨_, rfl⟩
 obtain ⟨b3, e3⟩ : ∃ b, (((x.t.n : Nat) : Int) != 4) = b := ⟨_, rfl⟩
 obtain ⟨b4, e4⟩ : ∃ b, (((x.r.n : Nat) : Int) != 32) = b := ⟨_, rfl⟩
 obtain ⟨b5, e5⟩ : ∃ b, (((x.g.n : Nat) : Int) != 4) = b := ⟨_, rfl⟩
 obtain ⟨b6, e6⟩ : ∃ b, (((x.e.n : Nat) : Int) != 0) = b := ⟨_, rfl⟩
 obtain ⟨b7, e7⟩ : ∃ b, (((x.e.n : Nat) : Int) != 4) = b := ⟨_, rfl⟩
 have HL : Hid (hdLen h = (b1 || (b2 && b3) || b4 || b5 || (b6 && b7))) := by
  show _ = _
  unfold hdLen
  rw [o.p.1, o.t.1, o.r.1, o.g.1, o.e.1, e1, e2, e3, e4, e5, e6, e7]
 obtain ⟨c1, f1⟩ : ∃ c, within h.n1 0 1099511627776 = c := ⟨_, rfl⟩
 obtain ⟨c2, f2⟩ : ∃ c, within h.n2 0 1099511627776 = c := ⟨_, rfl⟩
 obtain ⟨c3, f3⟩ : ∃ c, within h.n3 0 9 = c := ⟨_, rfl⟩
 obtain ⟨c5, f5⟩ : ∃ c, within h.n5 0 2 = c := ⟨_, rfl⟩
 have HN : Hid (hdNum h = (c1 && c2 && c3 && c5)) := by
  show _ = _
  unfold hdNum
  rw [f1, f2, f3, f5]
 have D1 := hide (fun W => l5Number_any h.n1 W)
 have D2 := hide (fun W => l5Number_any h.n2 W)
 have D3 := hide (fun W => in_any h.n3 0 9 W)
 have D5 := hide (fun W => in_any h.n5 0 2 W)
 simp only [f1] at D1
 simp only [f2] at D2
 simp only [show decide (0 ≤ h.n3 ∧ h.n3 ≤ 9) = c3 from f3] at D3
 simp only [show decide (0 ≤ h.n5 ∧ h.n5 ≤ 2) = c5 from f5] at D5
 have HSG := hide (l5Signers_any x.s.a x.s.n x.s.c h.s w o.s (by have := o.s.1; have := m.s; omega))
 have HE : Hid (hdFlt h = if hdLen h = true then 1 else if hdNum h = false then 3 else if sgFlt h.s = 0 then coFlt h.k else sgFlt h.s) := rfl
 have HK := hide o.k
 have hkl : x.k.n ≤ 1048576 := by have := o.k.1; have := m.k; omega
 clear o m f1 f2 f3 f5 sb
 generalize sgFlt h.s = q at HSG HE
 go_enter Tryz.func24, Tryz.ntmps24
 go_upto_region 1 with fail
 go_cut [58] (fun s wx => s = .bool (b1 || (b2 && b3) || b4 || b5 || (b6 && b7)) ∧ wx = w)
 case first =>
  cases b1
  case true =>
   go_wp2_with fail
   go_meet
   exact ⟨rfl, rfl⟩
  cases b4
  case true =>
   cases b2
   · go_wp2_with fail
     go_meet
     exact ⟨by simp, rfl⟩
   cases b3
   all_goals
    go_wp2_with fail
    go_meet
    exact ⟨by simp, rfl⟩
  cases b5
  case true =>
   cases b2
   · go_wp2_with fail
     go_meet
     exact ⟨by simp, rfl⟩
   cases b3
   all_goals
    go_wp2_with fail
    go_meet
    exact ⟨by simp, rfl⟩
  cases b6
  · cases b2
    · go_wp2_with fail
      go_meet
      exact ⟨by simp, rfl⟩
    cases b3
    all_goals
     go_wp2_with fail
     go_meet
     exact ⟨by simp, rfl⟩
  cases b2
  · go_wp2_with fail
    go_meet
    exact ⟨by simp, rfl⟩
  cases b3
  all_goals
   go_wp2_with fail
   go_meet
   exact ⟨by simp, rfl⟩
 case rest =>
  obtain ⟨rfl, hwc⟩ := hcut
  rw [hwc]
  clear hwc e1 e2 e3 e4 e5 e6 e7
  generalize hlb : (b1 || (b2 && b3) || b4 || b5 || (b6 && b7)) = lb
  rw [hlb] at HL
  clear hlb
  cases lb
  case true =>
   go_wp2_with fail
   go_ret
   exact ⟨ret_int (by rw [unhide HE, unhide HL, if_pos rfl]), 0, rfl⟩
  go_wp2_with fail
  refine ((unhide D1) _).mono ?_
  rintro e w' ⟨rfl, rfl⟩
  cases c1
  · go_wp2_with fail
    go_ret
    exact ⟨ret_int (by rw [unhide HE, unhide HL, unhide HN]; simp), 0, rfl⟩
  go_wp2_with fail
  refine ((unhide D2) _).mono ?_
  rintro e w' ⟨rfl, rfl⟩
  cases c2
  · go_wp2_with fail
    go_ret
    exact ⟨ret_int (by rw [unhide HE, unhide HL, unhide HN]; simp), 0, rfl⟩
  go_wp2_with fail
  refine ((unhide D3) _).mono ?_
  rintro e w' ⟨rfl, rfl⟩
  cases c3
  · go_wp2_with fail
    go_ret
    exact ⟨ret_int (by rw [unhide HE, unhide HL, unhide HN]; simp), 0, rfl⟩
  go_wp2_with fail
  refine ((unhide D5) _).mono ?_
  rintro e w' ⟨rfl, rfl⟩
  cases c5
  · go_wp2_with fail
    go_ret
    exact ⟨ret_int (by rw [unhide HE, unhide HL, unhide HN]; simp), 0, rfl⟩
  go_wp2_with fail
  refine (unhide HSG).mono ?_
  rintro e w1 ⟨rfl, n1, rfl⟩
  by_cases hq : q = 0
  · subst hq
    have HE2 : Hid (hdFlt h = coFlt h.k) := by
     show _ = _
     rw [unhide HE, unhide HL, unhide HN]; simp
    clear HE HL HN D1 D2 D3 D5 HSG x0 x1 x2 x3 x4 x5 x6 x7 x8 x9
    by_cases h7 : 7 < x.k.n
    · have d7 : decide ((7 : Int) < (x.k.n : Int)) = true := decide_eq_true (by omega)
      go_wp2_with fail
      go_ret
      refine ⟨ret_int ?_, n1, rfl⟩
      rw [unhide HE2]; unfold coFlt; rw [if_pos (by rw [(unhide HK).1]; exact h7)]
    have d7 : decide ((7 : Int) < (x.k.n : Int)) = false := decide_eq_false (by omega)
    have HE3 : Hid (hdFlt h = coFrom h.k) := by
     show _ = _
     rw [unhide HE2]; unfold coFlt; rw [if_neg (by rw [(unhide HK).1]; exact h7)]
    clear HE2
    go_wp2_with fail
    go_loop [4] (fun i => ∃ k : Nat, k ≤ x.k.n ∧ i = .int .i64 k ∧ coFrom h.k = coFrom (h.k.drop k)) (fun i => x.k.n - (intOf i).toNat)
    case atStart => exact ⟨0, Nat.zero_le _, rfl, by simp⟩
    case round =>
     obtain ⟨k, hk, rfl, hpre⟩ := hrel
     by_cases hlt : k < x.k.n
     · obtain ⟨z, hit⟩ : ∃ z, h.k[k]? = some z := ⟨_, List.getElem?_eq_getElem (by rw [(unhide HK).1]; exact hlt)⟩
       have hst := coFrom_step h.k k z hit
       rw [← hpre] at hst
       obtain ⟨bb, off, hba, _, hcc⟩ := (unhide HK).at (by omega)
       obtain ⟨s1, m1, d1, p0, r1⟩ := hcc k z hit
       have hzl : z.length = m1 := r1.1
       rw [hzl] at hst
       have HS := hide hst
       have x10' := x10
       rw [hba] at x10'
       have i1 : (0 : Int) ≤ (k : Int) := by omega
       have i2 : (k : Int) < (x.k.n : Int) := by omega
       clear r1 hst hpre hit hzl hcc hba x10
       by_cases h8 : m1 = 8
       · have d8 : (((m1 : Nat) : Int) != 8) = false := by simp [h8]
         rw [if_pos h8] at HS
         clear h8
         go_wp2_with fail
         go_round
         case rel => exact ⟨k + 1, by omega, by go_num, unhide HS⟩
         case measure => simp [intOf]; omega
       · have d8 : (((m1 : Nat) : Int) != 8) = true := by simp; omega
         rw [if_neg h8] at HS
         clear h8
         go_wp2_with fail
         go_ret
         exact ⟨ret_int (by rw [unhide HE3, unhide HS]), n1, rfl⟩
     · obtain rfl : k = x.k.n := by omega
       have e := coFrom_end h.k x.k.n (by rw [(unhide HK).1]; exact Nat.le_refl _)
       rw [e] at hpre
       have HP := hide hpre
       clear e hpre
       go_wp2_with fail
       go_ret
       exact ⟨ret_int (by rw [unhide HE3, unhide HP]), n1, rfl⟩
  · have hne : (q != 0) = true := by simp [hq]
    have HE2 : Hid (hdFlt h = q) := by
     show _ = _
     rw [unhide HE, unhide HL, unhide HN, if_neg (by simp), if_neg (by simp), if_neg hq]
    clear HE HL HN D1 D2 D3 D5 HSG hq
    go_wp2_with fail
    go_ret
    exact ⟨ret_int (unhide HE2).symm, n1, rfl⟩

set_option maxRecDepth 100000

/-- A setting: mode, period, epoch. -/
abbrev Cf := Int × Int × Int
def cfvals (x : Cf) : Array Value := #[.int .i64 x.1, .int .i64 x.2.1, .int .i64 x.2.2]

/-- The fault of a setting. -/
def cfFlt (x : Cf) : Int := if within x.1 1 2 = true ∧ within x.2.1 1 100 = true ∧ within x.2.2 1 100 = true then 0 else 3

/-- Whether a block is a checkpoint. -/
def cfCk (x : Cf) (n : Int) : Bool := decide (cfFlt x = 0) && within n 0 1099511627776 && decide (n % x.2.2 = 0)

theorem cf_field {H : Type} {enc : TypeId × Value → H} {w : World} {sp : Nat → Bool} {held : Bool} {t u : TypeId} {fs : Array Field} {fuel : Nat} {cs : List Value} {y : DataW H × List MemPlace} (ht : Tryz.prog.underlying t = some (.struct fs)) (h : DataW.trod enc Tryz.prog w 0 sp held fuel t cs = some y) (i : Nat) (f : Field) (hf : fs[i]? = some f) (hu : f.type = u) {o : Nat} (ho : f.offset = o) (ut : Tryz.prog.underlying u = some (.int .i64)) (hc : Tryz.prog.cellsOf u = 1) (hl : o + 1 ≤ cs.length) :
    ∃ n, (cs.drop o).take 1 = [.int .i64 n] := by
 obtain ⟨d, ps⟩ := y
 obtain ⟨xs, m, _, _, _, hxl, hfs⟩ := DataW.trod_struct ht h
 have g := hfs i f hf
 have hi : i < xs.length := by rw [hxl]; exact (Array.getElem?_eq_some_iff.1 hf).1
 rw [List.getElem?_eq_getElem hi, hu, ho, hc] at g
 have hl1 : ((cs.drop o).take 1).length = 1 := by rw [List.length_take, List.length_drop]; omega
 generalize (cs.drop o).take 1 = l at g hl1
 match l, hl1 with
 | [v], _ =>
  obtain ⟨n, rfl, hn⟩ := field_int ut g
  exact ⟨n, rfl⟩

theorem open_config {H : Type} {enc : TypeId × Value → H} {w : World} {sp : Nat → Bool} {held : Bool} {v : Value} {d : DataW H} {ps : List MemPlace} (hv : ∃ cs, v = .agg cs ∧ cs.size = Tryz.prog.cellsOf 23) (h : DataW.Trod enc Tryz.prog w 0 sp held 23 v d ps) :
    ∃ x, v = .agg (cfvals x) := by
 obtain ⟨cs, rfl, hs⟩ := hv
 obtain ⟨fuel, h⟩ := h
 have h' : DataW.trod enc Tryz.prog w 0 sp held fuel 23 cs.toList = some (d, ps) := h
 have h3 : Tryz.prog.cellsOf 23 = 3 := by kernel_rfl
 have hl : cs.toList.length = 3 := by rw [Array.length_toList, hs, h3]
 obtain ⟨m, q0⟩ := cf_field Tryz.underlying23 h' 0 _ rfl rfl (o := 0) rfl Tryz.underlying2 (by kernel_rfl) (by omega)
 obtain ⟨p, q1⟩ := cf_field Tryz.underlying23 h' 1 _ rfl rfl (o := 1) rfl Tryz.underlying2 (by kernel_rfl) (by omega)
 obtain ⟨e, q2⟩ := cf_field Tryz.underlying23 h' 2 _ rfl rfl (o := 2) rfl Tryz.underlying2 (by kernel_rfl) (by omega)
 refine ⟨(m, p, e), ?_⟩
 obtain ⟨l⟩ := cs
 match l, hl with
 | [a, b, c], _ =>
  simp at q0 q1 q2
  subst q0 q1 q2
  rfl

set_option maxHeartbeats 4000000 in
theorem toConfig_any (x : Cf) (w : World) : Calls Tryz.prog 7 #[.agg (cfvals x)] w fun r w' => r = .returned (.agg (cfvals x)) ∧ Below w.heap.size w w' := by
 obtain ⟨m, p, e⟩ := x
 unfold cfvals
 go_enter Tryz.func7, Tryz.ntmps7
 go_wp2
 refine bodyPost_ret (v := .agg #[.int .i64 m, .int .i64 p, .int .i64 e]) (by simp [results, Tryz.results7, go_sem]) rfl ⟨rfl, ?_⟩
 exact (((Below.refl _ _).alloc (Nat.le_refl _) _).alloc (by simp) _).alloc (by simp; omega) _

theorem isSpan_to (v : Int) (c : Bool) (w : World) (e : within v 1 100 = c) : Calls Tryz.prog 93 #[.int .i64 v] w fun e w' => e = .returned (.bool c) ∧ w' = w := by
 have HI := hide (isWithin_to v 1 100 c w e)
 clear e
 go_enter Tryz.func93, Tryz.ntmps93
 go_wp2_with fail
 refine (unhide HI).mono ?_
 rintro e w' ⟨rfl, rfl⟩
 go_wp2_with fail
 go_ret
 exact ⟨rfl, rfl⟩

theorem within_two {m : Int} : within m 1 2 = (m == 1 || m == 2) := by
 unfold within
 by_cases h : 1 ≤ m ∧ m ≤ 2
 · rw [decide_eq_true h]
   have : m = 1 ∨ m = 2 := by omega
   rcases this with rfl | rfl <;> rfl
 · rw [decide_eq_false h]
   have h1 : (m == 1) = false := by rw [beq_eq_false_iff_ne]; omega
   have h2 : (m == 2) = false := by rw [beq_eq_false_iff_ne]; omega
   rw [h1, h2]; rfl

set_option maxHeartbeats 4000000 in
theorem implConfigFault_any (x : Cf) (w : World) : Calls Tryz.prog 63 #[.agg (cfvals x)] w fun r w' => r = .returned (.int .i64 (cfFlt x)) ∧ Below w.heap.size w w' := by
 obtain ⟨m, p, e⟩ := x
 unfold cfvals cfFlt
 simp only
 rw [within_two]
 have HP := hide (fun W => isSpan_to p _ W rfl)
 have HE := hide (fun W => isSpan_to e _ W rfl)
 generalize within p 1 100 = bp at HP ⊢
 generalize within e 1 100 = be at HE ⊢
 obtain ⟨f, hf⟩ : ∃ f : Int, f = (if (m == 1 || m == 2) = true ∧ bp = true ∧ be = true then 0 else 3) := ⟨_, rfl⟩
 rw [← hf]
 have HF := hide hf
 clear hf
 have kr := SBlk.new w #[.int .i64 m, .int .i64 p, .int .i64 e] 41
 have bb := hide (below_alloc w (.cells #[.int .i64 m, .int .i64 p, .int .i64 e] 41))
 obtain ⟨W0, e0⟩ : ∃ W, w.alloc (.cells #[.int .i64 m, .int .i64 p, .int .i64 e] 41) = W := ⟨_, rfl⟩
 rw [e0] at kr bb
 have r0 := kr.cell 0
 have r1 := kr.cell 1
 have r2 := kr.cell 2
 simp only [List.getElem?_cons_zero, List.getElem?_cons_succ] at r0 r1 r2
 clear kr
 cases h1 : (m == 1) <;> cases h2 : (m == 2)
 · go_enter Tryz.func63, Tryz.ntmps63
   go_wp2_with (rw [e0])
   go_ret
   exact ⟨by rw [unhide HF]; simp [h1, h2], unhide bb⟩
 all_goals
  cases bp
  · go_enter Tryz.func63, Tryz.ntmps63
    go_wp2_with (rw [e0])
    refine ((unhide HP) _).mono ?_
    rintro r w1 ⟨rfl, rfl⟩
    go_wp2_with fail
    go_ret
    exact ⟨by rw [unhide HF]; simp [h1, h2], unhide bb⟩
  cases be
  all_goals
   go_enter Tryz.func63, Tryz.ntmps63
   go_wp2_with (rw [e0])
   refine ((unhide HP) _).mono ?_
   rintro r w1 ⟨rfl, rfl⟩
   go_wp2_with fail
   refine ((unhide HE) _).mono ?_
   rintro r w1 ⟨rfl, rfl⟩
   go_wp2_with fail
   go_ret
   exact ⟨by rw [unhide HF]; simp [h1, h2], unhide bb⟩

set_option maxHeartbeats 4000000 in
theorem l8Fault_any (g : Nat) (x : Cf) (T : TypeId) (w : World) (sb : SBlk w g (cfvals x).toList T) : Calls Tryz.prog 22 #[.pointer (some ⟨g, 0, none⟩)] w fun r w' => r = .returned (.int .i64 (cfFlt x)) ∧ w' = w := by
 obtain ⟨m, p, e⟩ := x
 have r0 := sb.cell 0
 have r1 := sb.cell 1
 have r2 := sb.cell 2
 simp only [cfvals, List.getElem?_cons_zero, List.getElem?_cons_succ] at r0 r1 r2
 clear sb
 unfold cfFlt
 simp only
 have HM := hide (fun W => in_any m 1 2 W)
 have HP := hide (fun W => in_any p 1 100 W)
 have HE := hide (fun W => in_any e 1 100 W)
 rw [show decide (1 ≤ m ∧ m ≤ 2) = within m 1 2 from rfl] at HM
 rw [show decide (1 ≤ p ∧ p ≤ 100) = within p 1 100 from rfl] at HP
 rw [show decide (1 ≤ e ∧ e ≤ 100) = within e 1 100 from rfl] at HE
 generalize within m 1 2 = bm at HM ⊢
 generalize within p 1 100 = bp at HP ⊢
 generalize within e 1 100 = be at HE ⊢
 obtain ⟨f, hf⟩ : ∃ f : Int, f = (if bm = true ∧ bp = true ∧ be = true then 0 else 3) := ⟨_, rfl⟩
 rw [← hf]
 have HF := hide hf
 clear hf
 cases bm
 · go_enter Tryz.func22, Tryz.ntmps22
   go_wp2_with fail
   refine ((unhide HM) _).mono ?_
   rintro r w1 ⟨rfl, rfl⟩
   go_wp2_with fail
   go_ret
   exact ⟨by rw [unhide HF]; simp, rfl⟩
 cases bp
 · go_enter Tryz.func22, Tryz.ntmps22
   go_wp2_with fail
   refine ((unhide HM) _).mono ?_
   rintro r w1 ⟨rfl, rfl⟩
   go_wp2_with fail
   refine ((unhide HP) _).mono ?_
   rintro r w1 ⟨rfl, rfl⟩
   go_wp2_with fail
   go_ret
   exact ⟨by rw [unhide HF]; simp, rfl⟩
 cases be
 all_goals
  go_enter Tryz.func22, Tryz.ntmps22
  go_wp2_with fail
  refine ((unhide HM) _).mono ?_
  rintro r w1 ⟨rfl, rfl⟩
  go_wp2_with fail
  refine ((unhide HP) _).mono ?_
  rintro r w1 ⟨rfl, rfl⟩
  go_wp2_with fail
  refine ((unhide HE) _).mono ?_
  rintro r w1 ⟨rfl, rfl⟩
  go_wp2_with fail
  go_ret
  exact ⟨by rw [unhide HF]; simp, rfl⟩

/-- What is known of a setting without a fault. -/
theorem cf_ok {x : Cf} (h : cfFlt x = 0) : (x.1 = 1 ∨ x.1 = 2) ∧ (1 ≤ x.2.1 ∧ x.2.1 ≤ 100) ∧ (1 ≤ x.2.2 ∧ x.2.2 ≤ 100) := by
 unfold cfFlt at h
 split at h
 · rename_i q
   obtain ⟨q1, q2, q3⟩ := q
   unfold within at q1 q2 q3
   have := of_decide_eq_true q1
   have := of_decide_eq_true q2
   have := of_decide_eq_true q3
   omega
 · omega

set_option maxHeartbeats 4000000 in
theorem implCheckpoint_any (x : Cf) (n : Int) (w : World) : Calls Tryz.prog 69 #[.agg (cfvals x), .int .i64 n] w fun r w' => r = .returned (.bool (cfCk x n)) ∧ Below w.heap.size w w' := by
 have kr := SBlk.new w (cfvals x) 41
 have bb := hide (below_alloc w (.cells (cfvals x) 41))
 obtain ⟨W0, e0⟩ : ∃ W, w.alloc (.cells (cfvals x) 41) = W := ⟨_, rfl⟩
 rw [e0] at kr bb
 have HF := hide (implConfigFault_any x W0)
 have HN := hide (fun W => isNumber_to n _ W rfl)
 have HK := hide (fun (W : World) (hb : Below W0.heap.size W0 W) => kr.below hb kr.lt)
 have HO := hide (@cf_ok x)
 have HW : Hid (within n 0 1099511627776 = true → 0 ≤ n ∧ n ≤ 1099511627776) := fun h => by unfold within at h; simpa using h
 have r0 := kr.cell 0
 have r1 := kr.cell 1
 have r2 := kr.cell 2
 obtain ⟨m, p, e⟩ := x
 simp only [cfvals, List.getElem?_cons_zero, List.getElem?_cons_succ] at r0 r1 r2
 clear kr
 unfold cfCk
 generalize cfFlt (m, p, e) = f at HF HO ⊢
 generalize within n 0 1099511627776 = wn at HN HW ⊢
 simp only at HO ⊢
 obtain ⟨ck, hck⟩ : ∃ b : Bool, b = (decide (f = 0) && wn && decide (n % e = 0)) := ⟨_, rfl⟩
 rw [← hck]
 have HB := hide hck
 clear hck
 unfold cfvals at e0 HF ⊢
 simp only at e0 HF ⊢
 go_enter Tryz.func69, Tryz.ntmps69
 go_wp2_with (rw [e0])
 try rw [e0]
 clear e0
 refine (unhide HF).mono ?_
 rintro r w1 ⟨rfl, b1⟩
 have B1 := hide ((unhide bb).trans (b1.mono (unhide bb).size))
 have r2 := ((unhide HK) _ b1).cell 2
 simp only [cfvals, List.getElem?_cons_zero, List.getElem?_cons_succ] at r2
 clear b1 HK bb HF
 by_cases h0 : f = 0
 case neg =>
  have h1 : (f == 0) = false := by rw [beq_eq_false_iff_ne]; exact h0
  have HR : Hid (ck = false) := by show _ = _; rw [unhide HB, decide_eq_false h0]; rfl
  clear h0
  go_wp2_with fail
  go_ret
  exact ⟨by rw [unhide HR]; rfl, unhide B1⟩
 subst h0
 have h1 : ((0 : Int) == 0) = true := rfl
 go_wp2_with fail
 refine ((unhide HN) _).mono ?_
 rintro r w2 ⟨rfl, rfl⟩
 cases wn
 · go_wp2_with fail
   go_ret
   exact ⟨by rw [unhide HB]; simp, unhide B1⟩
 have ho := (unhide HO) (by trivial)
 have hn := (unhide HW) (by trivial)
 have hz : ¬ e = 0 := by omega
 obtain ⟨rm, erm⟩ : ∃ r : Int, r = n % e := ⟨_, rfl⟩
 have hm1 : n.tmod e = rm := by rw [erm, Int.tmod_eq_emod_of_nonneg hn.1]
 have hm2 : 0 ≤ rm ∧ rm < 100 := by
  have h1 := Int.emod_nonneg n (b := e) (by omega)
  have h2 := Int.emod_lt_of_pos n (b := e) (by omega)
  omega
 have hm3 : IntKind.i64.wrap rm = rm := by rw [IntKind.wrap_i64]; omega
 have HR : Hid (ck = decide (rm = 0)) := by show _ = _; rw [unhide HB, erm]; simp
 clear erm HO HW ho hn hm2
 go_wp2_with fail
 go_ret
 exact ⟨by rw [unhide HR]; rfl, unhide B1⟩

set_option maxHeartbeats 4000000 in
theorem l8Checkpoint_any (g : Nat) (x : Cf) (n : Int) (T : TypeId) (w : World) (sb : SBlk w g (cfvals x).toList T) (h0 : cfFlt x = 0) (hn : 0 ≤ n ∧ n ≤ 1099511627776) : Calls Tryz.prog 58 #[.pointer (some ⟨g, 0, none⟩), .int .i64 n] w fun r w' => r = .returned (.bool (decide (n % x.2.2 = 0))) ∧ w' = w := by
 have ho := cf_ok h0
 obtain ⟨m, p, e⟩ := x
 have r2 := sb.cell 2
 simp only [cfvals, List.getElem?_cons_zero, List.getElem?_cons_succ] at r2
 simp only at ho ⊢
 clear sb h0
 have hz : ¬ e = 0 := by omega
 obtain ⟨rm, erm⟩ : ∃ r : Int, r = n % e := ⟨_, rfl⟩
 have hm1 : n.tmod e = rm := by rw [erm, Int.tmod_eq_emod_of_nonneg hn.1]
 have hm2 : 0 ≤ rm ∧ rm < 100 := by
  have h1 := Int.emod_nonneg n (b := e) (by omega)
  have h2 := Int.emod_lt_of_pos n (b := e) (by omega)
  omega
 have hm3 : IntKind.i64.wrap rm = rm := by rw [IntKind.wrap_i64]; omega
 rw [← erm]
 clear erm ho hn hm2
 go_enter Tryz.func58, Tryz.ntmps58
 go_wp2_with fail
 go_ret
 exact ⟨by rfl, rfl⟩

set_option maxRecDepth 100000

theorem laidOutP : laidOutB Tryz.prog = true := by kernel_rfl

theorem ballotLaw : Maps.Keyed Tryz.prog 117 := Maps.Keyed.of_law (deep_law_laid laidOutP (m := 4) (by omega) (of_decide_eq_true (by kernel_rfl)) (by kernel_rfl) (by kernel_rfl))

/-- What a key reads as. -/
def klOf (s t : List Int) : Lit := .string (Lib.bytesOf (s ++ t))

theorem wf_u8 {z : Int} (h : 0 ≤ z ∧ z ≤ 255) : (Lit.int .u8 z).wf = true := by
 have e1 : IntKind.u8.min = 0 := rfl
 have e2 : IntKind.u8.max = 255 := rfl
 simp [Lit.wf, e1, e2]
 omega

theorem keyLits_u8 (d : Nat) {z : Int} (h : 0 ≤ z ∧ z ≤ 255) : Tryz.prog.keyLits (d + 1) 5 [.int .u8 z] = some [.int .u8 z] := by
 unfold Program.keyLits
 rw [Tryz.underlying5]
 simp [wf_u8 h]

theorem cellsU8 : Tryz.prog.cellsOf 5 = 1 := by kernel_rfl
theorem cellsAddr : Tryz.prog.cellsOf 115 = 4 := by kernel_rfl
theorem cellsBallot : Tryz.prog.cellsOf 117 = 8 := by kernel_rfl

theorem keyLits_addr (d : Nat) {z0 z1 z2 z3 : Int} (h0 : 0 ≤ z0 ∧ z0 ≤ 255) (h1 : 0 ≤ z1 ∧ z1 ≤ 255) (h2 : 0 ≤ z2 ∧ z2 ≤ 255) (h3 : 0 ≤ z3 ∧ z3 ≤ 255) :
    Tryz.prog.keyLits (d + 2) 115 [.int .u8 z0, .int .u8 z1, .int .u8 z2, .int .u8 z3] = some [.int .u8 z0, .int .u8 z1, .int .u8 z2, .int .u8 z3] := by
 unfold Program.keyLits
 rw [Tryz.underlying115]
 simp only [cellsU8, cellsAddr]
 have e : List.range 4 = [0, 1, 2, 3] := rfl
 rw [e]
 simp [keyLits_u8 d h0, keyLits_u8 d h1, keyLits_u8 d h2, keyLits_u8 d h3]

theorem keyLits_ballot (d : Nat) {z0 z1 z2 z3 y0 y1 y2 y3 : Int} (h0 : 0 ≤ z0 ∧ z0 ≤ 255) (h1 : 0 ≤ z1 ∧ z1 ≤ 255) (h2 : 0 ≤ z2 ∧ z2 ≤ 255) (h3 : 0 ≤ z3 ∧ z3 ≤ 255) (h4 : 0 ≤ y0 ∧ y0 ≤ 255) (h5 : 0 ≤ y1 ∧ y1 ≤ 255) (h6 : 0 ≤ y2 ∧ y2 ≤ 255) (h7 : 0 ≤ y3 ∧ y3 ≤ 255) :
    Tryz.prog.keyLits (d + 3) 117 [.int .u8 z0, .int .u8 z1, .int .u8 z2, .int .u8 z3, .int .u8 y0, .int .u8 y1, .int .u8 y2, .int .u8 y3] = some [.int .u8 z0, .int .u8 z1, .int .u8 z2, .int .u8 z3, .int .u8 y0, .int .u8 y1, .int .u8 y2, .int .u8 y3] := by
 unfold Program.keyLits
 rw [Tryz.underlying117]
 simp [cellsBallot, cellsAddr, keyLits_addr d h0 h1 h2 h3, keyLits_addr d h4 h5 h6 h7]

theorem keyByte {z : Int} (h : 0 ≤ z ∧ z ≤ 255) : Lit.keyBytes (.int .u8 z) = [UInt8.ofNat z.toNat] := by
 have e : (z % 2 ^ 8).toNat = z.toNat := by omega
 show bytesBE 1 (z % 2 ^ 8).toNat = _
 rw [e]
 simp only [bytesBE, bytesLE, List.reverse_cons, List.reverse_nil, List.nil_append]
 rw [Nat.mod_eq_of_lt (by omega)]

theorem typesSize : Tryz.prog.types.size = 204 := by kernel_rfl

theorem keyOf_ballot {z0 z1 z2 z3 y0 y1 y2 y3 : Int} (h0 : 0 ≤ z0 ∧ z0 ≤ 255) (h1 : 0 ≤ z1 ∧ z1 ≤ 255) (h2 : 0 ≤ z2 ∧ z2 ≤ 255) (h3 : 0 ≤ z3 ∧ z3 ≤ 255) (h4 : 0 ≤ y0 ∧ y0 ≤ 255) (h5 : 0 ≤ y1 ∧ y1 ≤ 255) (h6 : 0 ≤ y2 ∧ y2 ≤ 255) (h7 : 0 ≤ y3 ∧ y3 ≤ 255) :
    keyOf Tryz.prog 117 (.agg #[.int .u8 z0, .int .u8 z1, .int .u8 z2, .int .u8 z3, .int .u8 y0, .int .u8 y1, .int .u8 y2, .int .u8 y3]) = some (klOf [z0, z1, z2, z3] [y0, y1, y2, y3]) := by
 have k1 : Tryz.prog.keyType 117 = true := by kernel_rfl
 unfold keyOf
 rw [Tryz.underlying117]
 simp only [k1, Value.formed, Tryz.underlying117, cellsBallot, typesSize]
 have e := keyLits_ballot (204 - 2) h0 h1 h2 h3 h4 h5 h6 h7
 simp only [Nat.reduceSub, Nat.reduceAdd] at e ⊢
 simp only [Value.cells, List.size_toArray, List.length_cons, List.length_nil, Nat.reduceAdd, BEq.rfl, Bool.and_self, if_true]
 rw [e]
 simp only [Option.map_some, keyBytes, List.flatMap_cons, List.flatMap_nil, keyByte h0, keyByte h1, keyByte h2, keyByte h3, keyByte h4, keyByte h5, keyByte h6, keyByte h7]
 rfl

/-- Two keys are the same just where both parts are. -/
theorem klOf_inj {s t s' t' : List Int} (hs : s.length = s'.length) (h1 : ∀ x ∈ s, 0 ≤ x ∧ x ≤ 255) (h2 : ∀ x ∈ t, 0 ≤ x ∧ x ≤ 255) (h3 : ∀ x ∈ s', 0 ≤ x ∧ x ≤ 255) (h4 : ∀ x ∈ t', 0 ≤ x ∧ x ≤ 255) (h : klOf s t = klOf s' t') : s = s' ∧ t = t' := by
 unfold klOf at h
 simp only [Lit.string.injEq] at h
 have e := bytesOf_inj (s ++ t) (s' ++ t') (fun x hx => (List.mem_append.1 hx).elim (h1 x) (h2 x)) (fun x hx => (List.mem_append.1 hx).elim (h3 x) (h4 x)) h
 exact List.append_inj e hs

/-- How an element of the poll reads: a place and what the vote is for. -/
def standR : Value → Option (DataW Unit × List MemPlace)
 | .agg cs => (match cs.toList with | [.int .i64 n, .bool b] => some (.agg [.lit (.int .i64 n), .lit (.bool b)], []) | _ => none)
 | _ => none

theorem standR_mk (n : Int) (b : Bool) : standR (.agg #[.int .i64 n, .bool b]) = some (.agg [.lit (.int .i64 n), .lit (.bool b)], []) := rfl

theorem standR_inv {v : Value} {z : DataW Unit × List MemPlace} (h : standR v = some z) : ∃ n b, v = .agg #[.int .i64 n, .bool b] := by
 unfold standR at h
 split at h
 · rename_i cs
   split at h
   · rename_i n b e
     refine ⟨n, b, ?_⟩
     obtain ⟨l⟩ := cs
     simp only at e
     rw [e]
   · cases h
 · cases h

theorem zeroStand (w : World) : (zeroValue 121).run Tryz.prog w = .ok (.agg #[.int .i64 0, .bool false]) w := by kernel_rfl

set_option maxRecDepth 100000

theorem sizeU8 : (Tryz.prog.info? 5).map (·.size) = some 1 := by kernel_rfl

theorem copy_addr (s : Sl) (z0 z1 z2 z3 : Int) (w : World) (T : TypeId) (o : BOk w s [z0, z1, z2, z3]) :
    ∃ W, (Builtin.copy_ #[29, 29] 3 #[.slice (some ⟨w.heap.size + 1, 0, none⟩) 4 4, .slice s.a s.n s.c]).run Tryz.prog ((w.alloc (.cells #[.int .u8 0, .int .u8 0, .int .u8 0, .int .u8 0] T)).alloc (.cells #[.int .u8 0, .int .u8 0, .int .u8 0, .int .u8 0] T)) = .ok (.int .i64 4) W ∧
     SBlk W w.heap.size [.int .u8 0, .int .u8 0, .int .u8 0, .int .u8 0] T ∧ SBlk W (w.heap.size + 1) [.int .u8 z0, .int .u8 z1, .int .u8 z2, .int .u8 z3] T ∧ Below w.heap.size w W := by
 obtain ⟨a, n, c⟩ := s
 obtain ⟨hrow, _, _, _⟩ := o
 have hn : n = 4 := hrow.1.symm
 subst hn
 obtain ⟨b, off, ea, hb, hc⟩ := hrow.at (by show 0 < 4; omega)
 simp only at ea
 subst ea
 have k0 := (SBlk.new w #[.int .u8 0, .int .u8 0, .int .u8 0, .int .u8 0] T).next (.cells #[.int .u8 0, .int .u8 0, .int .u8 0, .int .u8 0] T)
 have k1 := SBlk.new (w.alloc (.cells #[.int .u8 0, .int .u8 0, .int .u8 0, .int .u8 0] T)) #[.int .u8 0, .int .u8 0, .int .u8 0, .int .u8 0] T
 have b1 : Below w.heap.size w ((w.alloc (.cells #[.int .u8 0, .int .u8 0, .int .u8 0, .int .u8 0] T)).alloc (.cells #[.int .u8 0, .int .u8 0, .int .u8 0, .int .u8 0] T)) := ((Below.refl _ _).alloc (Nat.le_refl _) _).alloc (by simp) _
 rw [show (w.alloc (.cells #[.int .u8 0, .int .u8 0, .int .u8 0, .int .u8 0] T)).heap.size = w.heap.size + 1 by simp] at k1
 generalize ((w.alloc (.cells #[.int .u8 0, .int .u8 0, .int .u8 0, .int .u8 0] T)).alloc (.cells #[.int .u8 0, .int .u8 0, .int .u8 0, .int .u8 0] T)) = W1 at k0 k1 b1 ⊢
 have hr := run_copy_row (P := Tryz.prog) W1 29 29 3 5 (w.heap.size + 1) 0 4 4 ⟨b, off, none⟩ 4 c #[.int .u8 0, .int .u8 0, .int .u8 0, .int .u8 0] T [.int .u8 z0, .int .u8 z1, .int .u8 z2, .int .u8 z3] Tryz.underlying29 sizeU8 k1 rfl
  (fun j v hj => by
   rw [add_none, b1.cell (p := ⟨b, off + j, none⟩) hb]
   match j, hj with
   | 0, hj => rw [hc 0 (by show 0 < 4; omega)]; simpa using hj
   | 1, hj => rw [hc 1 (by show 1 < 4; omega)]; simpa using hj
   | 2, hj => rw [hc 2 (by show 2 < 4; omega)]; simpa using hj
   | 3, hj => rw [hc 3 (by show 3 < 4; omega)]; simpa using hj
   | (j + 4), hj => simp at hj)
  (by simp) (fun v hv => by simp at hv; rcases hv with rfl | rfl | rfl | rfl <;> rfl)
 refine ⟨_, hr, ?_, ?_, ?_⟩
 · exact (_root_.Go.setRow_other W1 _ _ _ (by omega)).trans k0
 · exact setRow_heap W1 _ _ _ T _ k1
 · refine b1.grown (row := some (w.heap.size + 1)) ⟨rfl, rfl, rfl, by simp [World.setRow], fun k _ hk => _root_.Go.setRow_other W1 _ k _ (fun e => hk (by simp [e]))⟩ b1.size (fun k e => by cases e; omega)

set_option maxHeartbeats 1000000 in
theorem addressOf_any (s : Sl) (z0 z1 z2 z3 : Int) (w : World) (o : BOk w s [z0, z1, z2, z3]) :
    Calls Tryz.prog 109 #[.slice s.a s.n s.c] w fun e w' => e = .returned (.agg #[.int .u8 z0, .int .u8 z1, .int .u8 z2, .int .u8 z3]) ∧ Below w.heap.size w w' := by
 obtain ⟨W2, hr, k0, k1, b2⟩ := copy_addr s z0 z1 z2 z3 w 115 o
 have HB := hide b2
 have c0 := k1.cell 0
 have c1 := k1.cell 1
 have c2 := k1.cell 2
 have c3 := k1.cell 3
 have d0 := k0.cell 0
 have d1 := k0.cell 1
 have d2 := k0.cell 2
 have d3 := k0.cell 3
 have f0 := k0.free 0
 have f1 := k0.free 1
 have f2 := k0.free 2
 have f3 := k0.free 3
 simp only [List.getElem?_cons_zero, List.getElem?_cons_succ] at c0 c1 c2 c3 d0 d1 d2 d3
 clear o k0 k1 b2
 go_enter Tryz.func109, Tryz.ntmps109
 go_wp2_with fail
 refine bodyPost_ret (v := .agg #[.int .u8 z0, .int .u8 z1, .int .u8 z2, .int .u8 z3]) (by simp [results, Tryz.results109, go_sem, d0, d1, d2, d3]) rfl ⟨rfl, ?_⟩
 exact ((((unhide HB).setCell (Nat.le_refl _) _).setCell (Nat.le_refl _) _).setCell (Nat.le_refl _) _).setCell (Nat.le_refl _) _

set_option maxHeartbeats 2000000 in
theorem ballotOf_any (s t : Sl) (z0 z1 z2 z3 y0 y1 y2 y3 : Int) (w : World) (o : BOk w s [z0, z1, z2, z3]) (q : BOk w t [y0, y1, y2, y3]) :
    Calls Tryz.prog 76 #[.slice s.a s.n s.c, .slice t.a t.n t.c] w fun e w' => e = .returned (.agg #[.int .u8 z0, .int .u8 z1, .int .u8 z2, .int .u8 z3, .int .u8 y0, .int .u8 y1, .int .u8 y2, .int .u8 y3]) ∧ Below w.heap.size w w' := by
 have HA := hide (fun (W : World) (hb : Below w.heap.size w W) => addressOf_any s z0 z1 z2 z3 W (bytesK.below o hb (Nat.le_refl _)))
 have HC := hide (fun (W : World) (hb : Below w.heap.size w W) => addressOf_any t y0 y1 y2 y3 W (bytesK.below q hb (Nat.le_refl _)))
 have kb := SBlk.new w #[.int .u8 0, .int .u8 0, .int .u8 0, .int .u8 0, .int .u8 0, .int .u8 0, .int .u8 0, .int .u8 0] 117
 have bb := below_alloc w (.cells #[.int .u8 0, .int .u8 0, .int .u8 0, .int .u8 0, .int .u8 0, .int .u8 0, .int .u8 0, .int .u8 0] 117)
 obtain ⟨W0, e0⟩ : ∃ W, w.alloc (.cells #[.int .u8 0, .int .u8 0, .int .u8 0, .int .u8 0, .int .u8 0, .int .u8 0, .int .u8 0, .int .u8 0] 117) = W := ⟨_, rfl⟩
 rw [e0] at kb bb
 have HB0 := hide bb
 have HK := hide (fun (W : World) (hb : Below W0.heap.size W0 W) => kb.below hb kb.lt)
 clear o q kb bb
 go_enter Tryz.func76, Tryz.ntmps76
 go_wp2_with (rw [e0])
 try rw [e0]
 clear e0
 refine ((unhide HA) _ (unhide HB0)).mono ?_
 rintro e w1 ⟨rfl, b1⟩
 have HB1 := hide ((unhide HB0).trans (b1.mono (unhide HB0).size))
 have K1 := hide b1
 clear b1
 go_wp2_with fail
 refine ((unhide HC) _ (unhide HB1)).mono ?_
 rintro e w2 ⟨rfl, b2⟩
 have HB2 := hide ((unhide HB1).trans (b2.mono (unhide HB1).size))
 have k2 := (unhide HK) w2 ((unhide K1).trans (b2.mono (unhide K1).size))
 have c0 := k2.cell 0
 have c1 := k2.cell 1
 have c2 := k2.cell 2
 have c3 := k2.cell 3
 have c4 := k2.cell 4
 have c5 := k2.cell 5
 have c6 := k2.cell 6
 have c7 := k2.cell 7
 have f0 := k2.free 0
 have f1 := k2.free 1
 have f2 := k2.free 2
 have f3 := k2.free 3
 have f4 := k2.free 4
 have f5 := k2.free 5
 have f6 := k2.free 6
 have f7 := k2.free 7
 simp only [List.getElem?_cons_zero, List.getElem?_cons_succ] at c0 c1 c2 c3 c4 c5 c6 c7
 clear b2 k2 K1 HK
 go_wp2_with fail
 refine bodyPost_ret (v := .agg #[.int .u8 z0, .int .u8 z1, .int .u8 z2, .int .u8 z3, .int .u8 y0, .int .u8 y1, .int .u8 y2, .int .u8 y3]) (by simp [results, Tryz.results76, go_sem, c0, c1, c2, c3, c4, c5, c6, c7]) rfl ⟨rfl, ?_⟩
 exact ((((((((unhide HB2).setCell (Nat.le_refl _) _).setCell (Nat.le_refl _) _).setCell (Nat.le_refl _) _).setCell (Nat.le_refl _) _).setCell (Nat.le_refl _) _).setCell (Nat.le_refl _) _).setCell (Nat.le_refl _) _).setCell (Nat.le_refl _) _

set_option maxRecDepth 100000

/-- Bytes of an address. -/
def Adr (z : List Int) : Prop := z.length = 4 ∧ ∀ x ∈ z, 0 ≤ x ∧ x ≤ 255

theorem adr_of {w : World} {s : Sl} {z : List Int} (o : BOk w s z) (h : z.length = 4) : Adr z := ⟨h, o.row.2.1⟩

theorem adr_four {z : List Int} (h : Adr z) : ∃ z0 z1 z2 z3, z = [z0, z1, z2, z3] ∧ (0 ≤ z0 ∧ z0 ≤ 255) ∧ (0 ≤ z1 ∧ z1 ≤ 255) ∧ (0 ≤ z2 ∧ z2 ≤ 255) ∧ (0 ≤ z3 ∧ z3 ≤ 255) := by
 obtain ⟨h1, h2⟩ := h
 match z, h1 with
 | [z0, z1, z2, z3], _ => exact ⟨z0, z1, z2, z3, rfl, h2 z0 (by simp), h2 z1 (by simp), h2 z2 (by simp), h2 z3 (by simp)⟩

/-- The poll in block g: at most k votes; it has just those that are on the list. -/
def PollOk (w : World) (g k : Nat) (seen : List (List Int × List Int)) : Prop :=
 ∃ D : DataW Unit, w.ownsMap Tryz.prog 117 standR g k D ∧ ∀ s t, Adr s → Adr t → Maps.has D (klOf s t) = decide ((s, t) ∈ seen)

theorem grown_of_below {w w' : World} {B : Nat} (hb : Below B w w') (hB : w.heap.size ≤ B) : w.grownBy w' none := ⟨hb.os, hb.tape, hb.output, hb.size, fun k hk _ => hb.block k (Nat.lt_of_lt_of_le hk hB)⟩

theorem PollOk.below {w w' : World} {g k B : Nat} {seen : List (List Int × List Int)} (h : PollOk w g k seen) (hb : Below B w w') (hB : w.heap.size ≤ B) : PollOk w' g k seen := by
 obtain ⟨D, h1, h2⟩ := h
 exact ⟨D, h1.kept (grown_of_below hb hB) (by simp), h2⟩

theorem PollOk.lt {w : World} {g k : Nat} {seen : List (List Int × List Int)} (h : PollOk w g k seen) : g < w.heap.size := by
 obtain ⟨D, h1, _⟩ := h
 exact h1.lt

theorem PollOk.made (w : World) : PollOk (w.alloc (.map #[] 0)) w.heap.size 0 [] := ⟨.map [], World.ownsMap_made w _ _ _, fun s t _ _ => by simp [Maps.has]⟩

set_option maxHeartbeats 2000000 in
theorem has_any (g k : Nat) (s t : Sl) (x y : List Int) (b : Bool) (seen : List (List Int × List Int)) (w : World) (o : BOk w s x) (q : BOk w t y) (hx : x.length = 4) (hy : y.length = 4) (hp : PollOk w g k seen) :
    Calls Tryz.prog 133 #[.map (some g), .agg #[.slice s.a s.n s.c, .slice t.a t.n t.c, .bool b]] w fun e w' => e = .returned (.bool (decide ((x, y) ∈ seen))) ∧ Below w.heap.size w w' := by
 have ax := adr_of o hx
 have ay := adr_of q hy
 obtain ⟨z0, z1, z2, z3, rfl, r0, r1, r2, r3⟩ := adr_four ax
 obtain ⟨y0, y1, y2, y3, rfl, t0, t1, t2, t3⟩ := adr_four ay
 have hkey := keyOf_ballot r0 r1 r2 r3 t0 t1 t2 t3
 have HB := hide (fun (W : World) (hb : Below w.heap.size w W) => ballotOf_any s t z0 z1 z2 z3 y0 y1 y2 y3 W (bytesK.below o hb (Nat.le_refl _)) (bytesK.below q hb (Nat.le_refl _)))
 have HP := hide (fun (W : World) (hb : Below w.heap.size w W) => hp.below hb (Nat.le_refl _))
 have B0 := hide (below_alloc w (.cells #[.slice s.a s.n s.c, .slice t.a t.n t.c, .bool b] 97))
 clear o q hp r0 r1 r2 r3 t0 t1 t2 t3 hx hy
 go_enter Tryz.func133, Tryz.ntmps133
 go_wp2_with fail
 refine ((unhide HB) _ (unhide B0)).mono ?_
 rintro e w1 ⟨rfl, b1⟩
 have HB1 := hide ((unhide B0).trans (b1.mono (unhide B0).size))
 obtain ⟨D, hown, hhas⟩ := (unhide HP) w1 (unhide HB1)
 have hh := hhas _ _ ax ay
 clear b1 hhas HP HB ax ay
 go_wp2_with (at_lookup; refine wpList_lookup_own_ok _ rfl _ _ 106 rfl 117 121 ballotLaw Tryz.underlying106 standR (zeroStand _) (.agg [.lit (.int .i64 0), .lit (.bool false)]) [] rfl g k D rfl hown _ _ rfl hkey ?_; intro v ps hv; obtain ⟨vn, vb, rfl⟩ := standR_inv hv; clear hv)
 go_ret
 refine ⟨rfl, ?_⟩
 exact (unhide HB1).alloc (unhide HB1).size _

set_option maxHeartbeats 2000000 in
theorem put_any (g k : Nat) (s t : Sl) (x y : List Int) (b : Bool) (pl : Int) (seen : List (List Int × List Int)) (w : World) (o : BOk w s x) (q : BOk w t y) (hx : x.length = 4) (hy : y.length = 4) (hp : PollOk w g k seen) (hk : k < maxLen) :
    Calls Tryz.prog 103 #[.map (some g), .int .i64 pl, .agg #[.slice s.a s.n s.c, .slice t.a t.n t.c, .bool b]] w fun e w' => e = .returned (.tuple #[]) ∧ PollOk w' g (k + 1) (seen ++ [(x, y)]) ∧ w.grownBy w' (some g) := by
 have ax := adr_of o hx
 have ay := adr_of q hy
 obtain ⟨z0, z1, z2, z3, rfl, r0, r1, r2, r3⟩ := adr_four ax
 obtain ⟨y0, y1, y2, y3, rfl, t0, t1, t2, t3⟩ := adr_four ay
 have hkey := keyOf_ballot r0 r1 r2 r3 t0 t1 t2 t3
 have HB := hide (fun (W : World) (hb : Below w.heap.size w W) => ballotOf_any s t z0 z1 z2 z3 y0 y1 y2 y3 W (bytesK.below o hb (Nat.le_refl _)) (bytesK.below q hb (Nat.le_refl _)))
 have HP := hide (fun (W : World) (hb : Below w.heap.size w W) => hp.below hb (Nat.le_refl _))
 have ka := SBlk.new w #[.slice s.a s.n s.c, .slice t.a t.n t.c, .bool b] 97
 have ba := below_alloc w (.cells #[.slice s.a s.n s.c, .slice t.a t.n t.c, .bool b] 97)
 obtain ⟨W0, e0⟩ : ∃ W, w.alloc (.cells #[.slice s.a s.n s.c, .slice t.a t.n t.c, .bool b] 97) = W := ⟨_, rfl⟩
 rw [e0] at ka ba
 have c0 := ka.cell 0
 have c1 := ka.cell 1
 have c2 := ka.cell 2
 simp only [List.getElem?_cons_zero, List.getElem?_cons_succ] at c0 c1 c2
 have B0 := hide ba
 have HKA := hide (fun (W : World) (hb : Below W0.heap.size W0 W) => ka.below hb ka.lt)
 have hgw : some w.heap.size ≠ some g := fun e => by have := hp.lt; simp at e; omega
 clear o q hp r0 r1 r2 r3 t0 t1 t2 t3 hx hy ka ba
 go_enter Tryz.func103, Tryz.ntmps103
 go_wp2_with (rw [e0])
 try rw [e0]
 clear e0
 have HS : Hid (∀ W, Below W0.heap.size W0 W → W.cell? ⟨w.heap.size, 0, none⟩ = some (.slice s.a s.n s.c) ∧ W.cell? ⟨w.heap.size, 1, none⟩ = some (.slice t.a t.n t.c) ∧ W.cell? ⟨w.heap.size, 2, none⟩ = some (.bool b)) := fun W hb => by
  have k := (unhide HKA) W hb
  exact ⟨k.cell 0, k.cell 1, k.cell 2⟩
 go_region_held3 (fun W => W.cell? ⟨w.heap.size, 0, none⟩ = some (.slice s.a s.n s.c) ∧ W.cell? ⟨w.heap.size, 1, none⟩ = some (.slice t.a t.n t.c) ∧ W.cell? ⟨w.heap.size, 2, none⟩ = some (.bool b))
  (first | exact S2 | exact (unhide HS) _ (by first | assumption | exact Below.refl _ _ | exact (Below.refl W0.heap.size W0).drew | exact below_drewN (Below.refl W0.heap.size W0) _))
  (first
  | (go_at_call 76; refine ((unhide HB) _ (by first | exact unhide B0 | exact (unhide B0).drew | exact below_drewN (unhide B0) _)).mono ?_; rintro e w1 ⟨rfl, b1⟩; have HB1 := hide (Below.trans (by first | exact unhide B0 | exact (unhide B0).drew | exact below_drewN (unhide B0) _) (b1.mono (by first | exact (unhide B0).size | exact (below_drewN (unhide B0) _).size)) : Below w.heap.size w w1); obtain ⟨D, hown, hhas⟩ := (unhide HP) w1 (unhide HB1); obtain ⟨w2, hrun, hown2, hgrow2⟩ := hown.update ballotLaw Tryz.underlying106 hk hkey (standR_mk pl b); have HH := hide (And.intro hhas (And.intro hown (And.intro hown2 hgrow2))); have d2 := ((unhide HKA) w1 (by first | exact b1 | exact Below.trans (below_drewN (Below.refl W0.heap.size W0) _) b1 | exact Below.trans ((Below.refl W0.heap.size W0).drew) b1)).cell 2; simp only [List.getElem?_cons_zero, List.getElem?_cons_succ] at d2; have J1 : Below W0.heap.size W0 w1 := (by first | exact b1 | exact Below.trans (below_drewN (Below.refl W0.heap.size W0) _) b1 | exact Below.trans ((Below.refl W0.heap.size W0).drew) b1); have S1 := (unhide HS) w1 J1; have S2 : w2.cell? ⟨w.heap.size, 0, none⟩ = some (.slice s.a s.n s.c) ∧ w2.cell? ⟨w.heap.size, 1, none⟩ = some (.slice t.a t.n t.c) ∧ w2.cell? ⟨w.heap.size, 2, none⟩ = some (.bool b) := (And.intro (hgrow2.cell S1.1 hgw) (And.intro (hgrow2.cell S1.2.1 hgw) (hgrow2.cell S1.2.2 hgw))); clear hhas hown hown2 hgrow2 b1 S1))
 all_goals
  go_wp2_with fail
  obtain ⟨hhas, hown, hown2, hgrow2⟩ := unhide HH
  refine bodyPost_end (v := .tuple #[]) (by simp [results, Tryz.results103]) rfl ⟨rfl, ⟨_, hown2, fun a c ha hc => ?_⟩, ?_⟩
  · by_cases e : (a, c) = ([z0, z1, z2, z3], [y0, y1, y2, y3])
    · simp only [Prod.mk.injEq] at e
      obtain ⟨rfl, rfl⟩ := e
      rw [Maps.has_put_same hown.isMap (ballotLaw.key hkey)]
      simp
    · have hne : klOf a c ≠ klOf [z0, z1, z2, z3] [y0, y1, y2, y3] := fun q => e (by
        obtain ⟨e1, e2⟩ := klOf_inj (by rw [ha.1]; rfl) ha.2 hc.2 ax.2 ay.2 q
        rw [e1, e2])
      rw [Maps.has_put_other hne, hhas a c ha hc]
      simp [e]
  · exact ⟨hgrow2.os.trans (unhide HB1).os, hgrow2.tape.trans (unhide HB1).tape, hgrow2.output.trans (unhide HB1).output, Nat.le_trans (unhide HB1).size hgrow2.size, fun q hq hne => (hgrow2.block q (Nat.lt_of_lt_of_le hq (unhide HB1).size) hne).trans ((unhide HB1).block q hq)⟩

set_option maxRecDepth 100000

theorem bcompare_any (a b : Option Addr) (la ca lb cb : Nat) (xs ys : List Int) (w : World) (ha : BRow w a la xs) (hb : BRow w b lb ys) :
    Calls Tryz.prog 129 #[.slice a la ca, .slice b lb cb] w fun e w' => e = .returned (.int .i64 (cmpB xs ys)) ∧ w' = w := by
 have hr : (callFunc 137 #[.slice a la ca, .slice b lb cb]).run Tryz.prog w = .ok (.value (.int .i64 (cmpB xs ys))) w := by
  rw [run_callFunc_extern (P := Tryz.prog) Tryz.func137 (by kernel_rfl) (by kernel_rfl) (by kernel_rfl) (e := Extern.BytealgCompare.compare) (by kernel_rfl), run_compare w a b la ca lb cb xs ys ha hb]
  rfl
 clear ha hb
 generalize cmpB xs ys = c at hr ⊢
 go_enter Tryz.func129, Tryz.ntmps129
 go_wp2
 go_ret
 exact ⟨rfl, rfl⟩

set_option maxHeartbeats 2000000 in
theorem search_any (s t : Sl) (zss : List (List Int)) (z : List Int) (lb : Nat) (fd : Bool) (w : World) (h : BsRow w s.a s.n zss) (ht : BRow w t.a t.n z) (hl : zss.length ≤ 7) (hlb : lb ≤ zss.length)
    (hlow : ∀ (i : Nat) (y : List Int), zss[i]? = some y → decide (cmpB y z < 0) = decide (i < lb)) (hfd : fd = decide (zss[lb]? = some z)) (heq : ∀ y, zss[lb]? = some y → (cmpB y z == 0) = decide (y = z)) :
    Calls Tryz.prog 128 #[.slice s.a s.n s.c, .slice t.a t.n t.c, .func (.func 129) #[] #[]] w fun e w' => e = .returned (.tuple #[.int .i64 (lb : Nat), .bool fd]) ∧ w' = w := by
 obtain ⟨a, n, c⟩ := s
 have hil : zss.length = n := h.1
 simp only at h
 have hn7 : n ≤ 7 := by omega
 have HAT : Hid (0 < n → ∃ b off, a = some ⟨b, off, none⟩ ∧ b < w.heap.size ∧ ∀ i z, zss[i]? = some z → BsAt w b (off + i) z) := fun hp => h.at hp
 have HL := hide hil
 have HLOW := hide hlow
 have HFD := hide hfd
 have HEQ := hide heq
 have HT := hide ht
 have hlb' : lb ≤ n := by omega
 clear h hil hlow hfd heq ht hl hlb
 go_enter Tryz.func128, Tryz.ntmps128
 go_wp2_with fail
 go_loop [9, 10] (fun i j => ∃ p q : Nat, i = .int .i64 p ∧ j = .int .i64 q ∧ p ≤ lb ∧ lb ≤ q ∧ q ≤ n) (fun i j => (intOf j).toNat - (intOf i).toNat)
 case atStart => exact ⟨0, n, rfl, rfl, Nat.zero_le _, hlb', Nat.le_refl _⟩
 case round =>
  obtain ⟨p, q, rfl, rfl, hp, hq, hqn⟩ := hrel
  by_cases hlt : p < q
  · obtain ⟨b, off, rfl, hb, hc⟩ := (unhide HAT) (by omega)
    obtain ⟨hh, ehh⟩ : ∃ m, m = (p + q) / 2 := ⟨_, rfl⟩
    have hpm : p ≤ hh ∧ hh < q := by omega
    obtain ⟨y, hy⟩ : ∃ y, zss[hh]? = some y := ⟨_, List.getElem?_eq_getElem (by rw [unhide HL]; omega)⟩
    obtain ⟨sa, sl, sc, c0, hbr⟩ := hc hh y hy
    have HC := hide (bcompare_any sa t.a sl sc t.n t.c y z w hbr (unhide HT))
    have hlow := (unhide HLOW) hh y hy
    have d1 : decide ((p : Int) < (q : Int)) = true := decide_eq_true (by omega)
    obtain ⟨mm, emm⟩ : ∃ m : Nat, m = p + q := ⟨_, rfl⟩
    have s1 : (p : Int) + (q : Int) = (mm : Int) := by omega
    have s2 : IntKind.u64.wrap (mm : Int) = (mm : Int) := by rw [IntKind.wrap_u64]; omega
    have s3 : IntKind.i64.wrap (mm : Int) = (mm : Int) := by rw [IntKind.wrap_i64]; omega
    have s4 : (mm : Int) / 2 = (hh : Int) := by omega
    have s5 : IntKind.u64.wrap (hh : Int) = (hh : Int) := by rw [IntKind.wrap_u64]; omega
    have s6 : IntKind.i64.wrap (hh : Int) = (hh : Int) := by rw [IntKind.wrap_i64]; omega
    have HM := hide (And.intro ehh (And.intro hpm emm))
    have i1 : (0 : Int) ≤ (hh : Int) := by omega
    have i2 : (hh : Int) < (n : Int) := by omega
    clear hc hbr hy ehh hpm emm
    go_wp2_with fail
    refine (unhide HC).mono ?_
    rintro e w1 ⟨rfl, rfl⟩
    generalize cmpB y z = cc at hlow
    by_cases hcase : hh < lb
    · rw [decide_eq_true hcase] at hlow
      go_wp2_with fail
      go_round
      case rel => exact ⟨hh + 1, q, by go_num, rfl, by omega, hq, hqn⟩
      case measure => obtain ⟨e1, e2, e3⟩ := unhide HM; simp [intOf]; omega
    · rw [decide_eq_false hcase] at hlow
      go_wp2_with fail
      go_round
      case rel => exact ⟨p, hh, rfl, rfl, hp, by omega, by obtain ⟨e1, e2, e3⟩ := unhide HM; omega⟩
      case measure => obtain ⟨e1, e2, e3⟩ := unhide HM; simp [intOf]; omega
  · obtain rfl : p = lb := by omega
    have d1 : decide ((p : Int) < (q : Int)) = false := decide_eq_false (by omega)
    clear HLOW
    by_cases hpn : p < n
    · obtain ⟨b, off, rfl, hb, hc⟩ := (unhide HAT) (by omega)
      obtain ⟨y, hy⟩ : ∃ y, zss[p]? = some y := ⟨_, List.getElem?_eq_getElem (by rw [unhide HL]; omega)⟩
      obtain ⟨sa, sl, sc, c0, hbr⟩ := hc p y hy
      have HC := hide (bcompare_any sa t.a sl sc t.n t.c y z w hbr (unhide HT))
      have heq := (unhide HEQ) y hy
      have hfd := unhide HFD
      rw [hy] at hfd
      simp only [Option.some.injEq] at hfd
      rw [← hfd] at heq
      have d2 : decide ((p : Int) < (n : Int)) = true := decide_eq_true (by omega)
      have i1 : (0 : Int) ≤ (p : Int) := by omega
      have i2 : (p : Int) < (n : Int) := by omega
      clear hc hbr hy HFD HEQ hfd HAT
      go_wp2_with fail
      refine (unhide HC).mono ?_
      rintro e w1 ⟨rfl, rfl⟩
      generalize cmpB y z = cc at heq
      go_wp2_with fail
      go_ret2
      exact ⟨rfl, rfl⟩
    · have d2 : decide ((p : Int) < (n : Int)) = false := decide_eq_false (by omega)
      have hfd : fd = false := by
       rw [unhide HFD, List.getElem?_eq_none (by rw [unhide HL]; omega)]
       rfl
      subst hfd
      clear HFD HEQ HAT
      go_wp2_with fail
      go_ret2
      exact ⟨rfl, rfl⟩

set_option maxHeartbeats 1000000 in
/-- Where an address stands among signers without a fault, and whether it is there. -/
theorem placeAmong_any (s t : Sl) (zss : List (List Int)) (z : List Int) (w : World) (h : RowOk bytesK w s zss) (ht : BOk w t z) (hs : sgFlt zss = 0) :
    Calls Tryz.prog 110 #[.slice s.a s.n s.c, .slice t.a t.n t.c] w fun e w' => e = .returned (.tuple #[.int .i64 (plB zss z : Nat), .bool (decide (z ∈ zss))]) ∧ w' = w := by
 obtain ⟨h7, h4, hr⟩ := sg_rise hs
 have hb := bs_of_row h
 have HS := hide (search_any s t zss z (plB zss z) (decide (z ∈ zss)) w hb ht.row h7 (plB_le _ _) (fun i y hy => by rw [cmpB_neg]; exact plB_iff hr z i y hy)
  (by by_cases e : z ∈ zss <;> simp [e, plB_mem hr z]) (fun y hy => by
   have := cmpB_zero (hb.bytes y (List.mem_of_getElem? hy)) ht.row.2.1
   by_cases e : y = z
   · rw [decide_eq_true e]; simp [this.2 e]
   · rw [decide_eq_false e]
     rw [beq_eq_false_iff_ne]
     exact fun q => e (this.1 q)))
 generalize plB zss z = lb at HS ⊢
 generalize decide (z ∈ zss) = fd at HS ⊢
 clear h ht hs h7 h4 hr hb
 go_enter Tryz.func110, Tryz.ntmps110
 go_wp2_with fail
 refine (unhide HS).mono ?_
 rintro e w1 ⟨rfl, rfl⟩
 go_wp2_with fail
 go_ret2
 exact ⟨rfl, rfl⟩

set_option maxHeartbeats 1000000 in
theorem isAmong_any (s t : Sl) (zss : List (List Int)) (z : List Int) (w : World) (h : RowOk bytesK w s zss) (ht : BOk w t z) (hs : sgFlt zss = 0) :
    Calls Tryz.prog 77 #[.slice s.a s.n s.c, .slice t.a t.n t.c] w fun e w' => e = .returned (.bool (decide (z ∈ zss))) ∧ w' = w := by
 have HS := hide (placeAmong_any s t zss z w h ht hs)
 generalize plB zss z = lb at HS
 generalize decide (z ∈ zss) = fd at HS ⊢
 clear h ht hs
 go_enter Tryz.func77, Tryz.ntmps77
 go_wp2_with fail
 refine (unhide HS).mono ?_
 rintro e w1 ⟨rfl, rfl⟩
 go_wp2_with fail
 go_ret
 exact ⟨rfl, rfl⟩

set_option maxRecDepth 100000

theorem beq4 (n : Nat) : (n == 4) = (((n : Nat) : Int) == 4) := by
 rw [Bool.eq_iff_iff, beq_iff_eq, beq_iff_eq]
 omega

set_option maxHeartbeats 4000000 in
theorem voteFault_any (s t sS : Sl) (x y : List Int) (b : Bool) (sg : List (List Int)) (g k : Nat) (seen : List (List Int × List Int)) (w : World) (o : BOk w s x) (q : BOk w t y) (h : RowOk bytesK w sS sg) (hs : sgFlt sg = 0) (hp : PollOk w g k seen) :
    Calls Tryz.prog 119 #[.agg #[.slice s.a s.n s.c, .slice t.a t.n t.c, .bool b], .slice sS.a sS.n sS.c, .map (some g)] w fun e w' => e = .returned (.int .i64 (vtOne sg seen (x, y, b))) ∧ Below w.heap.size w w' := by
 have lx : x.length = s.n := o.row.1
 have ly : y.length = t.n := q.row.1
 have HM1 := hide (fun (W : World) (hb : Below w.heap.size w W) => isAmong_any sS s sg x W (RowOk.below h hb (Nat.le_refl _)) (bytesK.below o hb (Nat.le_refl _)) hs)
 have HM2 := hide (fun (W : World) (hb : Below w.heap.size w W) => isAmong_any sS t sg y W (RowOk.below h hb (Nat.le_refl _)) (bytesK.below q hb (Nat.le_refl _)) hs)
 have HH := hide (fun (e1 : x.length = 4) (e2 : y.length = 4) (W : World) (hb : Below w.heap.size w W) => has_any g k s t x y b seen W (bytesK.below o hb (Nat.le_refl _)) (bytesK.below q hb (Nat.le_refl _)) e1 e2 (hp.below hb (Nat.le_refl _)))
 have ka := SBlk.new w #[.slice s.a s.n s.c, .slice t.a t.n t.c, .bool b] 97
 have ba := below_alloc w (.cells #[.slice s.a s.n s.c, .slice t.a t.n t.c, .bool b] 97)
 obtain ⟨W0, e0⟩ : ∃ W, w.alloc (.cells #[.slice s.a s.n s.c, .slice t.a t.n t.c, .bool b] 97) = W := ⟨_, rfl⟩
 rw [e0] at ka ba
 have c0 := ka.cell 0
 have c1 := ka.cell 1
 have c2 := ka.cell 2
 simp only [List.getElem?_cons_zero, List.getElem?_cons_succ] at c0 c1 c2
 have B0 := hide ba
 have HE : Hid (vtOne sg seen (x, y, b) = if ((((s.n : Nat) : Int) == 4) && (((t.n : Nat) : Int) == 4)) = false then 1 else if decide (x ∈ sg) = false then 4 else if (b == decide (y ∈ sg)) = true then 8 else if decide ((x, y) ∈ seen) = true then 6 else 0) := by
  show _ = _
  unfold vtOne
  have e1 : (x.length == 4) = (((s.n : Nat) : Int) == 4) := by rw [lx]; exact beq4 _
  have e2 : (y.length == 4) = (((t.n : Nat) : Int) == 4) := by rw [ly]; exact beq4 _
  simp only [e1, e2]
 have L1 := hide lx
 have L2 := hide ly
 clear o q h hp ka ba lx ly hs
 generalize vtOne sg seen (x, y, b) = r at HE ⊢
 have a1 : ∀ W, Calls Tryz.prog 108 #[.slice s.a s.n s.c] W fun e w' => e = .returned (.bool (((s.n : Nat) : Int) == 4)) ∧ w' = W := fun W => isAddr_any s.a s.n s.c W
 have a2 : ∀ W, Calls Tryz.prog 108 #[.slice t.a t.n t.c] W fun e w' => e = .returned (.bool (((t.n : Nat) : Int) == 4)) ∧ w' = W := fun W => isAddr_any t.a t.n t.c W
 have A1 := hide a1
 have A2 := hide a2
 clear a1 a2
 go_enter Tryz.func119, Tryz.ntmps119
 go_wp2_with (rw [e0])
 try rw [e0]
 clear e0
 have Z1 : Hid ((((s.n : Nat) : Int) == 4) = true → x.length = 4) := fun h => by have := unhide L1; simp at h; omega
 have Z2 : Hid ((((t.n : Nat) : Int) == 4) = true → y.length = 4) := fun h => by have := unhide L2; simp at h; omega
 clear L1 L2
 generalize hp1 : (((s.n : Nat) : Int) == 4) = p1 at A1 HE Z1
 generalize hp2 : (((t.n : Nat) : Int) == 4) = p2 at A2 HE Z2
 generalize decide (x ∈ sg) = m1 at HM1 HE
 generalize decide (y ∈ sg) = m2 at HM2 HE
 generalize decide ((x, y) ∈ seen) = hb at HH HE
 clear hp1 hp2
 refine ((unhide A1) _).mono ?_
 rintro e w1 ⟨rfl, rfl⟩
 cases p1
 · go_wp2_with fail
   go_ret
   exact ⟨ret_int (by rw [unhide HE]; first | rfl | simp), unhide B0⟩
 go_wp2_with fail
 refine ((unhide A2) _).mono ?_
 rintro e w2 ⟨rfl, rfl⟩
 cases p2
 · go_wp2_with fail
   go_ret
   exact ⟨ret_int (by rw [unhide HE]; first | rfl | simp), unhide B0⟩
 go_wp2_with fail
 refine ((unhide HM1) _ (unhide B0)).mono ?_
 rintro e w3 ⟨rfl, rfl⟩
 cases m1
 · go_wp2_with fail
   go_ret
   exact ⟨ret_int (by rw [unhide HE]; first | rfl | simp), unhide B0⟩
 go_wp2_with fail
 cases m2 <;> cases b
 · go_quiet ((go_at_call 77; exact Calls.quiet_of_same ((unhide HM2) _ (below_drewN (unhide B0) _))))
   go_wp2_with fail
   go_ret
   exact ⟨ret_int (by rw [unhide HE]; first | rfl | simp), by first | exact unhide B0 | exact below_drewN (unhide B0) _⟩
 · go_quiet ((go_at_call 77; exact Calls.quiet_of_same ((unhide HM2) _ (below_drewN (unhide B0) _))))
   go_wp2_with fail
   refine ((unhide HH) ((unhide Z1) (by simp)) ((unhide Z2) (by simp)) _ (by first | exact unhide B0 | exact below_drewN (unhide B0) _)).mono ?_
   rintro e w4 ⟨rfl, b4⟩
   have HB4 : Hid (Below w.heap.size w w4) := Below.trans (by first | exact unhide B0 | exact below_drewN (unhide B0) _) (b4.mono (by first | exact (unhide B0).size | exact (below_drewN (unhide B0) _).size))
   clear b4
   cases hb
   all_goals
    go_wp2_with fail
    go_ret
    exact ⟨ret_int (by rw [unhide HE]; first | rfl | simp), unhide HB4⟩
 · go_quiet ((go_at_call 77; exact Calls.quiet_of_same ((unhide HM2) _ (below_drewN (unhide B0) _))))
   go_wp2_with fail
   refine ((unhide HH) ((unhide Z1) (by simp)) ((unhide Z2) (by simp)) _ (by first | exact unhide B0 | exact below_drewN (unhide B0) _)).mono ?_
   rintro e w4 ⟨rfl, b4⟩
   have HB4 : Hid (Below w.heap.size w w4) := Below.trans (by first | exact unhide B0 | exact below_drewN (unhide B0) _) (b4.mono (by first | exact (unhide B0).size | exact (below_drewN (unhide B0) _).size))
   clear b4
   cases hb
   all_goals
    go_wp2_with fail
    go_ret
    exact ⟨ret_int (by rw [unhide HE]; first | rfl | simp), unhide HB4⟩
 · go_quiet ((go_at_call 77; exact Calls.quiet_of_same ((unhide HM2) _ (below_drewN (unhide B0) _))))
   go_wp2_with fail
   go_ret
   exact ⟨ret_int (by rw [unhide HE]; first | rfl | simp), by first | exact unhide B0 | exact below_drewN (unhide B0) _⟩

end Go.Proofs.YtdmcmlcmgbbclaaGreat
