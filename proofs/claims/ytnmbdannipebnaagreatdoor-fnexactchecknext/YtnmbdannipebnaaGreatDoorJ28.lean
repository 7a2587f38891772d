/- What is proved here: plain facts on a header's marks, and that what is written elsewhere leaves a header. -/
import Derived.Test.YtnmbdannipebnaaGreatDoorJ27
import Derived.Test.YtnmbdannipebnaaGreatDoorJ21
import Derived.Test.YtnmbdannipebnaaGreatDoorJ14
import Derived.Test.YtnmbdannipebnaaGreatDoorJ5
import Derived.Test.YtnmbdannipebnaaGreatDoorJ2
import Derived.Test.YtnmbdannipebnaaGreatDoorJ19
import Derived.Test.YtnmbdannipebnaaGreatDoorJ18
import Derived.Test.YtnmbdannipebnaaGreatDoorJ9
import Derived.Test.YtnmbdannipebnaaGreatDoorJ20
import Derived.Test.YtnmbdannipebnaaGreatDoorJ6
import Derived.Test.YtnmbdannipebnaaGreatDoorJ8
import Derived.Test.YtnmbdannipebnaaGreatDoorChecked
import Derived.Test.YtnmbdannipebnaaGreatDoorJ1
import Derived.WalkKit
import Derived.KernelRfl
import Derived.Test.YtnmbdannipebnaaGreatDoorJ15
import Derived.Test.YtnmbdannipebnaaGreatDoorJ4
import Derived.WalkSmall
import Derived.Deep.RegionWith
import Derived.BigRegion
import Derived.Deep.DeepCutAuto
import Derived.Deep.CutBlock
import Derived.WalkSpells
import Derived.Test.YtnmbdannipebnaaGreatDoorJ17
namespace Go.Proofs.YtnmbdannipebnaaGreatDoor
open Go.RowKit
set_option linter.unusedVariables false
set_option maxRecDepth 100000

theorem CB.onlyH {B B' C j : Nat} {d : Nat → Nat} {w w' : World} {s : Sl} {z : List Int} (h : CB w B d j s z) (o : OnlyH B' C w w') (hC : C ≤ B) : CB w' B d j s z := ⟨h.len, h.rng, o.own h.own hC, h.col⟩

theorem CS.onlyH {B B' C r c : Nat} {d : Nat → Nat} {w w' : World} {s : Sl} {zss : List (List Int)} (h : CS w B d r c s zss) (o : OnlyH B' C w w') (hC : C ≤ B) : CS w' B d r c s zss := by
  obtain ⟨h1, es, h2, h3, h4, h5⟩ := h
  exact ⟨h1, es, h2, o.own h3 hC, h4, fun i e z he hz => (h5 i e z he hz).onlyH o hC⟩

theorem CH.onlyH {B B' C : Nat} {d : Nat → Nat} {w w' : World} {x : HS} {h : Hd} (q : CH w B d x h) (o : OnlyH B' C w w') (hC : C ≤ B) : CH w' B d x h :=
  ⟨q.p.onlyH o hC, q.t.onlyH o hC, q.s.onlyH o hC, q.r.onlyH o hC, q.g.onlyH o hC, q.e.onlyH o hC, q.k.onlyH o hC⟩

end Go.Proofs.YtnmbdannipebnaaGreatDoor

/- What is proved here: plain facts for the law of who committed: rooms of what was copied in, and how long the answer is. -/
namespace Go.Proofs.YtnmbdannipebnaaGreatDoor
open Go.RowKit
set_option linter.unusedVariables false
set_option maxRecDepth 100000

theorem OBss.cap {w : World} {g : Nat} {zss : List (List Int)} {T : TypeId} {C : Nat} (o : OBss w g zss T C) : BsCap w (some ⟨g, 0, none⟩) zss.length := by
  obtain ⟨vs, f, h1, h2, h3, h4, h5⟩ := o
  intro b off e i hi
  simp only [Option.some.injEq, Addr.mk.injEq] at e
  obtain ⟨rfl, rfl, _⟩ := e
  obtain ⟨z, hz⟩ : ∃ z, zss[i]? = some z := ⟨_, List.getElem?_eq_getElem hi⟩
  have k := (h5 i z hi hz).1
  exact ⟨some ⟨f i, 0, none⟩, z.length, z.length, by rw [Nat.zero_add, h1.cell i, k], Nat.le_refl _⟩

theorem HOwn.cap {w : World} {B : Nat} {x : HS} {h : Hd} (o : HOwn w B x h) : BsCap w x.k.a x.k.n := by
  obtain ⟨g1, g2, g3, g4, g5, g6, g7, rfl, _, o1, o2, o3, o4, o5, o6, o7⟩ := o
  exact OBss.cap o7

theorem coAns_len (h : Hd) : (coAns h).length ≤ 7 := by
  unfold coAns
  split
  · rename_i hf
    have := (good_of hf.1).k
    rw [coAd_length]
    exact this
  · simp

/-- What is wanted of an answer's lists. -/
structure CoSm (zss : List (List Int)) : Prop where
  l : zss.length ≤ 1048576
  z : ∀ z ∈ zss, z.length ≤ 1048576
  t : bsum zss ≤ 1048576

theorem CS.row {B r c : Nat} {d : Nat → Nat} {w : World} {s : Sl} {zss : List (List Int)} (h : CS w B d r c s zss) (m : CoSm zss) : BsRow w s.a s.n zss := h.bsrow (fun z hz => by have := m.z z hz; unfold maxLen; omega)

end Go.Proofs.YtnmbdannipebnaaGreatDoor

/- What is proved here: what QuorumOf answers, in the program and in the model. -/
namespace Go.Proofs.YtnmbdannipebnaaGreatDoor
open Go.RowKit
set_option linter.unusedVariables false
set_option maxRecDepth 100000

/-- The code of QuorumOf, and what it tells. -/
def qmCode (n : Int) : Int := if within n 1 7 = true then 0 else 3
def qmVal (n : Int) : Int := if within n 1 7 = true then 2 * ((n - 1) / 3) + 1 else 0

theorem within_seven {n : Int} (h : within n 1 7 = true) : n = 1 ∨ n = 2 ∨ n = 3 ∨ n = 4 ∨ n = 5 ∨ n = 6 ∨ n = 7 := by
  unfold within at h
  have := of_decide_eq_true h
  omega

theorem l8Quorum_any (n : Int) (w : World) (h : within n 1 7 = true) : Calls Tryz.prog 159 #[.int .i64 n] w fun r w' => r = .returned (.int .i64 (qmVal n)) ∧ w' = w := by
  unfold qmVal
  rw [if_pos h]
  rcases within_seven h with rfl | rfl | rfl | rfl | rfl | rfl | rfl
  all_goals
    clear h
    go_enter Tryz.func159, Tryz.ntmps159
    go_wp2_with fail
    go_ret
    exact ⟨rfl, rfl⟩

set_option maxHeartbeats 4000000 in
theorem implQuorum_any (n : Int) (w : World) : Calls Tryz.prog 203 #[.int .i64 n] w fun r w' => r = .returned (.agg #[.int .i64 (qmCode n), .int .i64 (qmVal n)]) ∧ Below w.heap.size w w' := by
  have HI := hide (fun (W : World) (c : Bool) (e : within n 1 7 = c) => isWithin_to n 1 7 c W e)
  have kr := SBlk.new w #[.int .i64 0, .int .i64 0] 139
  have bb := hide (below_alloc w (.cells #[.int .i64 0, .int .i64 0] 139))
  obtain ⟨W0, e0⟩ : ∃ W, w.alloc (.cells #[.int .i64 0, .int .i64 0] 139) = W := ⟨_, rfl⟩
  rw [e0] at kr bb
  have r0 := kr.cell 0
  have r1 := kr.cell 1
  have f0 := kr.free 0
  have f1 := kr.free 1
  simp only [List.getElem?_cons_zero, List.getElem?_cons_succ] at r0 r1
  clear kr
  by_cases h : within n 1 7 = true
  · unfold qmCode qmVal
    rw [if_pos h, if_pos h]
    have HH := hide ((unhide HI) W0 true h)
    clear HI
    rcases within_seven h with rfl | rfl | rfl | rfl | rfl | rfl | rfl
    all_goals
      clear h
      go_enter Tryz.func203, Tryz.ntmps203
      go_wp2_with (rw [e0])
      try rw [e0]
      clear e0
      refine (unhide HH).mono ?_
      rintro r w1 ⟨rfl, rfl⟩
      go_wp2_with fail
      refine bodyPost_ret (v := .agg #[.int .i64 _, .int .i64 _]) (by simp [results, Tryz.results203, go_sem, r0, r1]) rfl ⟨rfl, ?_⟩
      exact ((unhide bb).setCell (p := ⟨w.heap.size, 0, none⟩) (Nat.le_refl _) _).setCell (p := ⟨w.heap.size, 1, none⟩) (Nat.le_refl _) _
  · unfold qmCode qmVal
    rw [if_neg h, if_neg h]
    have HH := hide ((unhide HI) W0 false (by simpa using h))
    clear HI h
    go_enter Tryz.func203, Tryz.ntmps203
    go_wp2_with (rw [e0])
    try rw [e0]
    clear e0
    refine (unhide HH).mono ?_
    rintro r w1 ⟨rfl, rfl⟩
    go_wp2_with fail
    refine bodyPost_ret (v := .agg #[.int .i64 3, .int .i64 0]) (by simp [results, Tryz.results203, go_sem, r0, r1]) rfl ⟨rfl, ?_⟩
    exact ((unhide bb).setCell (p := ⟨w.heap.size, 0, none⟩) (Nat.le_refl _) _).setCell (p := ⟨w.heap.size, 1, none⟩) (Nat.le_refl _) _

end Go.Proofs.YtnmbdannipebnaaGreatDoor

/- What is proved here: what the program's areAmong, isQuorum and CommitsRight answer. -/
namespace Go.Proofs.YtnmbdannipebnaaGreatDoor
open Go.RowKit
set_option linter.unusedVariables false
set_option maxRecDepth 100000

/-- Whether each of a list is one of the signers. -/
def crAll (zss yss : List (List Int)) : Bool := yss.all (fun y => decide (y ∈ zss))
/-- What CommitsRight answers. -/
def crCode (zss : List (List Int)) (h : Hd) : Int := if sgSome zss ≠ 0 then sgSome zss else if coCode h ≠ 0 then coCode h else if (crAll zss (coAns h) && decide (qmVal ((zss.length : Nat) : Int) ≤ (((coAns h).length : Nat) : Int))) = true then 0 else 8

theorem crAll_step (zss yss : List (List Int)) (k : Nat) (y : List Int) (h : yss[k]? = some y) : crAll zss (yss.drop k) = (decide (y ∈ zss) && crAll zss (yss.drop (k + 1))) := by
  obtain ⟨hk, e⟩ := List.getElem?_eq_some_iff.1 h
  rw [List.drop_eq_getElem_cons hk, e]
  rfl

theorem sgSome_ok {zss : List (List Int)} (h : sgSome zss = 0) : sgFlt zss = 0 ∧ 0 < zss.length ∧ zss.length ≤ 7 := by
  unfold sgSome at h
  split at h
  · omega
  · exact ⟨h, by omega, (sg_rise h).1⟩

set_option maxHeartbeats 2000000 in
theorem areAmong_any (s t : Sl) (zss yss : List (List Int)) (w : World) (h : RowOk bytesK w s zss) (ht : RowOk bytesK w t yss) (hs : sgFlt zss = 0) (hl : yss.length ≤ 1048576) :
    Calls Tryz.prog 173 #[.slice s.a s.n s.c, .slice t.a t.n t.c] w fun e w' => e = .returned (.bool (crAll zss yss)) ∧ w' = w := by
  obtain ⟨a, len, cap⟩ := t
  have hil : len = yss.length := ht.len
  have HR := hide (fun hp => RowOk.pos ht hp)
  have HL := hide hil
  have hln : len ≤ 1048576 := by omega
  have HM := hide (fun (el : Sl) (y : List Int) (o : BOk w el y) => isAmong_any s el zss y w h o hs)
  clear h hil hl ht hs
  go_enter Tryz.func173, Tryz.ntmps173
  go_wp2_with fail
  go_loop [9] (fun i => ∃ k : Nat, k ≤ len ∧ i = .int .i64 k ∧ crAll zss yss = crAll zss (yss.drop k)) (fun i => len - (intOf i).toNat)
  case atStart => exact ⟨0, Nat.zero_le _, rfl, by simp⟩
  case round =>
    obtain ⟨k, hk, rfl, hpre⟩ := hrel
    by_cases hlt : k < len
    · obtain ⟨b, off, ea, hb, hc⟩ := (unhide HR) (by show 0 < len; omega)
      subst ea
      obtain ⟨y, hy⟩ : ∃ v, yss[k]? = some v := ⟨_, List.getElem?_eq_getElem (by rw [← unhide HL]; exact hlt)⟩
      obtain ⟨el, c, oo⟩ := hc k y hy
      have hst := crAll_step zss yss k y hy
      have c0 := c 0 _ rfl
      simp only [Nat.add_zero, Nat.mul_one, show bytesK.m = 1 from rfl] at c0
      have HQ := hide ((unhide HM) el y oo)
      have HST := hide (And.intro hpre hst)
      have i1 : (0 : Int) ≤ (k : Int) := by omega
      have i2 : (k : Int) < (len : Int) := by omega
      clear hc c oo hst hpre hy
      go_wp2_with fail
      refine (unhide HQ).mono ?_
      rintro e w1 ⟨rfl, rfl⟩
      by_cases e : y ∈ zss
      · rw [decide_eq_true e]
        go_wp2_with fail
        go_round
        case rel => exact ⟨k + 1, by omega, by go_num, by rw [(unhide HST).1, (unhide HST).2, decide_eq_true e]; rfl⟩
        case measure => simp [intOf]; omega
      · rw [decide_eq_false e]
        have HE : Hid (crAll zss yss = false) := by show _ = _; rw [(unhide HST).1, (unhide HST).2, decide_eq_false e]; rfl
        go_wp2_with fail
        go_ret
        exact ⟨ret_bool (unhide HE).symm, rfl⟩
    · obtain rfl : k = len := by omega
      rw [List.drop_eq_nil_of_le (by rw [← unhide HL]; exact Nat.le_refl _)] at hpre
      have HE : Hid (crAll zss yss = true) := hpre
      clear hpre
      go_wp2_with fail
      go_ret
      exact ⟨ret_bool (unhide HE).symm, rfl⟩

theorem fieldI1q (x y : Value) (w : World) : (Instr.field 139 (.agg #[x, y]) 1).run Tryz.prog w = .ok y w := by kernel_rfl

set_option maxHeartbeats 2000000 in
theorem isQuorum_any (s : Sl) (c : Nat) (w : World) (hl : 0 < s.n ∧ s.n ≤ 7) (hc : c ≤ 1048576) :
    Calls Tryz.prog 174 #[.slice s.a s.n s.c, .int .i64 c] w fun e w' => e = .returned (.bool (decide (qmVal ((s.n : Nat) : Int) ≤ (c : Int)))) ∧ Below w.heap.size w w' := by
  obtain ⟨a, len, cap⟩ := s
  simp only at hl ⊢
  have HQ := hide (fun W => implQuorum_any ((len : Nat) : Int) W)
  have i1 : (len : Int) ≤ 7 := by omega
  have i2 : (c : Int) ≤ 1048576 := by omega
  generalize qmVal ((len : Nat) : Int) = q at HQ ⊢
  generalize qmCode ((len : Nat) : Int) = d at HQ
  clear hl hc
  have hf := fieldI1q
  go_enter Tryz.func174, Tryz.ntmps174
  go_wp2_with fail
  refine ((unhide HQ) _).mono ?_
  rintro e w1 ⟨rfl, b1⟩
  go_wp2_with fail
  go_ret
  exact ⟨rfl, b1⟩

set_option maxHeartbeats 8000000 in
theorem implCommitsRight_any (s : Sl) (zss : List (List Int)) (x : HS) (h : Hd) (w : World) (q : RowOk bytesK w s zss) (hl : zss.length ≤ 1048576) (o : HOk w x h) (nn : HNil w x) (bc : BsCap w x.k.a x.k.n) (m : HSm h) (hv : Laid w) (hE : LaidE w) :
    Calls Tryz.prog 145 #[.slice s.a s.n s.c, .agg (hvals x h)] w fun e w' => e = .returned (.int .i64 (crCode zss h)) ∧ Below w.heap.size w w' := by
  have kb := SBlk.new w (hvals x h) 42
  have bb := below_alloc w (.cells (hvals x h) 42)
  obtain ⟨W1, ea⟩ : ∃ W, w.alloc (.cells (hvals x h) 42) = W := ⟨_, rfl⟩
  rw [ea] at kb bb
  have hn : s.n = zss.length := q.len
  have D1 := hide (someSigners_any s zss W1 (RowOk.below q bb (Nat.le_refl _)) hl)
  have D2 := hide (implCommitters_any x h W1 (o.below bb (Nat.le_refl _)) (nn.below bb (Nat.le_refl _)) (bc.below bb (Nat.le_refl _)) m (hv.below bb (Nat.le_refl _)) (hE.below bb (Nat.le_refl _)))
  have DA := hide (fun (W : World) (hb : Below w.heap.size w W) (t : Sl) (yss : List (List Int)) (ht : RowOk bytesK W t yss) (hs : sgSome zss = 0) (hy : yss.length ≤ 1048576) => areAmong_any s t zss yss W (RowOk.below q hb (Nat.le_refl _)) ht (sgSome_ok hs).1 hy)
  have DQ : Hid (∀ (W : World) (c : Nat), sgSome zss = 0 → c ≤ 1048576 → Calls Tryz.prog 174 #[.slice s.a s.n s.c, .int .i64 c] W fun e w' => e = .returned (.bool (decide (qmVal ((zss.length : Nat) : Int) ≤ (c : Int)))) ∧ Below W.heap.size W w') := fun W c hs hc => by
    have := sgSome_ok hs
    have k := isQuorum_any s c W (by omega) hc
    rw [← hn]
    exact k
  have HAL := hide (coAns_len h)
  have HC : Hid (crCode zss h = if sgSome zss ≠ 0 then sgSome zss else if coCode h ≠ 0 then coCode h else if (crAll zss (coAns h) && decide (qmVal ((zss.length : Nat) : Int) ≤ (((coAns h).length : Nat) : Int))) = true then 0 else 8) := rfl
  have HBB := hide bb
  have EA := hide ea
  obtain ⟨x0, x1, x2, x3, x4, x5, x6, x7, x8, x9, x10⟩ := hcells kb
  clear ea o nn bc m kb bb q hv hE hl hn
  generalize crCode zss h = CR at HC ⊢
  generalize coCode h = CC at D2 HC
  generalize coAns h = AA at D2 HAL HC
  generalize sgSome zss = SG at D1 DA DQ HC
  generalize crAll zss = CA at DA HC
  generalize qmVal ((zss.length : Nat) : Int) = QV at DQ HC
  unfold hvals at EA D2 ⊢
  go_enter Tryz.func145, Tryz.ntmps145
  go_upto_region 1 with fail
  rw [unhide EA]
  clear EA
  go_wp2_with fail
  refine (unhide D1).mono ?_
  rintro e w1 ⟨rfl, rfl⟩
  clear D1
  by_cases h0 : SG = 0
  case neg =>
    have h1 : (SG != 0) = true := by simp [h0]
    have HR : Hid (CR = SG) := by show _ = _; rw [unhide HC, if_pos h0]
    clear h0
    go_wp2_with fail
    go_ret
    exact ⟨ret_int (unhide HR).symm, unhide HBB⟩
  subst h0
  have h1 : ((0 : Int) != 0) = false := rfl
  go_wp2_with fail
  refine (unhide D2).mono ?_
  rintro e w2 ⟨t, d, rfl, hc2, b2⟩
  have rt : RowOk bytesK w2 t AA := hc2.nrow (by omega)
  have B2 := (unhide HBB).trans (b2.mono (unhide HBB).size)
  have tn : t.n = AA.length := rt.len
  have kt := SBlk.new w2 #[.int .i64 CC, .slice t.a t.n t.c] 196
  have bt := below_alloc w2 (.cells #[.int .i64 CC, .slice t.a t.n t.c] 196)
  obtain ⟨w3, e3⟩ : ∃ W, w2.alloc (.cells #[.int .i64 CC, .slice t.a t.n t.c] 196) = W := ⟨_, rfl⟩
  rw [e3] at kt bt
  have B3 := hide (B2.trans (bt.mono B2.size))
  have DA2 := hide ((unhide DA) w3 (unhide B3) t AA (RowOk.below rt bt (Nat.le_refl _)) (by trivial) (by have := unhide HAL; omega))
  have DQ2 := hide ((unhide DQ) w3 t.n (by trivial) (by have := unhide HAL; omega))
  have t0 := kt.cell 0
  have t1 := kt.cell 1
  simp only [List.getElem?_cons_zero, List.getElem?_cons_succ] at t0 t1
  have HC2 : Hid (CR = if CC ≠ 0 then CC else if (CA AA && decide (QV ≤ ((t.n : Nat) : Int))) = true then 0 else 8) := by show _ = _; rw [unhide HC, tn]; simp
  generalize CA AA = ca at DA2 HC2
  generalize decide (QV ≤ ((t.n : Nat) : Int)) = cq at DQ2 HC2
  clear D2 DA DQ HC rt hc2 b2 B2 kt bt tn HAL x0 x1 x2 x3 x4 x5 x6 x7 x8 x9 x10
  by_cases h2 : CC = 0
  case neg =>
    have h3 : (CC != 0) = true := by simp [h2]
    have HR : Hid (CR = CC) := by show _ = _; rw [unhide HC2, if_pos h2]
    clear h2
    go_wp2_with (rw [e3])
    try rw [e3]
    go_ret
    exact ⟨ret_int (unhide HR).symm, unhide B3⟩
  subst h2
  cases ca
  · have HR : Hid (CR = 8) := by show _ = _; rw [unhide HC2]; simp
    go_wp2_with (rw [e3])
    try rw [e3]
    refine (unhide DA2).mono ?_
    rintro e w4 ⟨rfl, rfl⟩
    go_wp2_with fail
    go_ret
    exact ⟨ret_int (unhide HR).symm, unhide B3⟩
  cases cq
  · have HR : Hid (CR = 8) := by show _ = _; rw [unhide HC2]; simp
    go_wp2_with (rw [e3])
    try rw [e3]
    refine (unhide DA2).mono ?_
    rintro e w4 ⟨rfl, rfl⟩
    go_wp2_with fail
    refine (unhide DQ2).mono ?_
    rintro e w5 ⟨rfl, b5⟩
    go_wp2_with fail
    go_ret
    exact ⟨ret_int (unhide HR).symm, (unhide B3).trans (b5.mono (unhide B3).size)⟩
  · have HR : Hid (CR = 0) := by show _ = _; rw [unhide HC2]; simp
    go_wp2_with (rw [e3])
    try rw [e3]
    refine (unhide DA2).mono ?_
    rintro e w4 ⟨rfl, rfl⟩
    go_wp2_with fail
    refine (unhide DQ2).mono ?_
    rintro e w5 ⟨rfl, b5⟩
    go_wp2_with fail
    go_ret
    exact ⟨ret_int (unhide HR).symm, (unhide B3).trans (b5.mono (unhide B3).size)⟩

end Go.Proofs.YtnmbdannipebnaaGreatDoor

/- What is proved here: plain facts on a step (a setting, a snapshot, a parent and a next header) and on the first code of many; no program is named but the types of its cells. -/
namespace Go.Proofs.YtnmbdannipebnaaGreatDoor
open Go.RowKit
set_option linter.unusedVariables false
set_option linter.unusedSimpArgs false
set_option maxRecDepth 100000

/-- A header that reads, by kinds where a rule asks for them. -/
structure HKd (w : World) (x : HS) (h : Hd) : Prop where
  ok : HOk w x h
  nn : HNil w x
  bc : BsCap w x.k.a x.k.n
  g : BOk w x.g h.g
  s : RowOk bytesK w x.s h.s

theorem HKd.below {w w' : World} {x : HS} {h : Hd} (o : HKd w x h) {B : Nat} (hb : Below B w w') (hB : w.heap.size ≤ B) : HKd w' x h :=
  ⟨o.ok.below hb hB, o.nn.below hb hB, o.bc.below hb hB, bytesK.below o.g hb hB, RowOk.below o.s hb hB⟩

/-- A step that reads. -/
structure StOk (w : World) (e : SnS) (x : Sn) (px : HS) (p : Hd) (nx : HS) (n : Hd) : Prop where
  os : SNK.Ok w e x
  op : HKd w px p
  on : HKd w nx n
  v : Laid w
  ve : LaidE w
  ms : SnSm x
  mp : HSm p
  mn : HSm n

theorem StOk.below {w w' : World} {e : SnS} {x : Sn} {px nx : HS} {p n : Hd} (o : StOk w e x px p nx n) {B : Nat} (hb : Below B w w') (hB : w.heap.size ≤ B) : StOk w' e x px p nx n :=
  ⟨SNK.below o.os hb hB, o.op.below hb hB, o.on.below hb hB, o.v.below hb hB, o.ve.below hb hB, o.ms, o.mp, o.mn⟩

/-- The 29 cells of a step. -/
def stvals (c : Cf) (e : SnS) (x : Sn) (px : HS) (p : Hd) (nx : HS) (n : Hd) : Array Value := #[.int .i64 c.1, .int .i64 c.2.1, .int .i64 c.2.2, .int .i64 x.1, .slice e.2.1.a e.2.1.n e.2.1.c, .slice e.2.2.1.a e.2.2.1.n e.2.2.1.c, .slice e.2.2.2.a e.2.2.2.n e.2.2.2.c, .slice px.p.a px.p.n px.p.c, .int .i64 p.n1, .int .i64 p.n2, .int .i64 p.n3, .slice px.t.a px.t.n px.t.c, .int .i64 p.n5, .slice px.s.a px.s.n px.s.c, .slice px.r.a px.r.n px.r.c, .slice px.g.a px.g.n px.g.c, .slice px.e.a px.e.n px.e.c, .slice px.k.a px.k.n px.k.c, .slice nx.p.a nx.p.n nx.p.c, .int .i64 n.n1, .int .i64 n.n2, .int .i64 n.n3, .slice nx.t.a nx.t.n nx.t.c, .int .i64 n.n5, .slice nx.s.a nx.s.n nx.s.c, .slice nx.r.a nx.r.n nx.r.c, .slice nx.g.a nx.g.n nx.g.c, .slice nx.e.a nx.e.n nx.e.c, .slice nx.k.a nx.k.n nx.k.c]

theorem bAl {w W : World} (h : Below w.heap.size w W) (o : Obj) : Below w.heap.size w (W.alloc o) := h.trans ((below_alloc W o).mono h.size)

theorem bStep {w W W' : World} (h : Below w.heap.size w W) (k : Below W.heap.size W W') : Below w.heap.size w W' := h.trans (k.mono h.size)

/-- The first code of many that is not 0. -/
def fnz : List Int → Int
  | [] => 0
  | a :: r => if a = 0 then fnz r else a

/-- A code, unless something is right. -/
def unl (b : Bool) (k : Int) : Int := if b = true then 0 else k

theorem fnz_app (a b : List Int) : fnz (a ++ b) = if fnz a = 0 then fnz b else fnz a := by
  induction a with
  | nil => rfl
  | cons y r ih =>
    show (if y = 0 then fnz (r ++ b) else y) = if (if y = 0 then fnz r else y) = 0 then fnz b else (if y = 0 then fnz r else y)
    by_cases h : y = 0
    · rw [if_pos h, if_pos h, ih]
    · rw [if_neg h, if_neg h, if_neg h]

/-- Whether the hash of a parent is what a header says. -/
def bhB (p n : Hd) : Bool := strEq n.p (hsBytes p)
/-- Whether what a header votes, or lists, is as it has to be. -/
def vtB (c : Cf) (x : Sn) (n : Hd) : Bool := if cfCk c n.n1 = true then (n.t.length == 0) && ((n.n5 == 0) && sameLs n.s x.2.1) else ((n.t.length == 0) == (n.n5 == 0)) && (n.s.length == 0)
/-- How hard a header has to be. -/
def hdV (c : Cf) (x : Sn) (n : Hd) : Int := if c.1 = 2 then 1 else trVal x n.g n.n1

def ckFaults (c : Cf) (x : Sn) (p n : Hd) : List Int := [cfFlt c, snFlt x, hdFlt p, hdFlt n]
def ckOrder (c : Cf) (x : Sn) (p n : Hd) : List Int := [unl (x.1 == p.n1) 9, unl (bhB p n) 4, unl (n.n1 == x.1 + 1) 3, unl (decide (p.n2 + c.2.1 ≤ n.n2)) 8, unl (srB n) 7, unl (decide (n.g ∈ x.2.1)) 8]
def ckMode (c : Cf) (x : Sn) (n : Hd) : List Int := if c.1 = 1 then [unl (n.k.length == 0) 1, unl (!wrAns x n.g n.n1) 8, unl (n.n3 == hdV c x n) 8] else if c.1 = 2 then [unl (n.n3 == hdV c x n) 8, crCode x.2.1 n] else []
/-- The code of CheckNext. -/
def ckCode (c : Cf) (x : Sn) (p n : Hd) : Int := fnz (ckFaults c x p n ++ (ckOrder c x p n ++ (ckMode c x n ++ [unl (vtB c x n) 8])))

end Go.Proofs.YtnmbdannipebnaaGreatDoor

/- What is proved here: a header that a law made anew reads by kinds. -/
namespace Go.Proofs.YtnmbdannipebnaaGreatDoor
open Go.RowKit
set_option linter.unusedVariables false
set_option maxRecDepth 100000

theorem HOwn.kd {w : World} {B : Nat} {x : HS} {h : Hd} (o : HOwn w B x h) (ok : HOk w x h) (m : HSm h) : HKd w x h := by
  have hn := o.nilOk
  have hc := o.cap
  obtain ⟨g1, g2, g3, g4, g5, g6, g7, rfl, _, o1, o2, o3, o4, o5, o6, o7⟩ := o
  obtain ⟨d, hd⟩ := row_of_obss o3 (Nat.le_refl _) ok.s.bytes m.s []
  have mg := m.g
  refine ⟨ok, hn, hc, ⟨ok.g, Nat.le_refl _, ?_, fun e => by cases e⟩, (rowK bytesK 29).ok hd⟩
  show h.g.length ≤ maxLen
  unfold maxLen
  omega

theorem toHeader_kd (x : HS) (h : Hd) (w : World) (o : HOk w x h) (m : HSm h) :
    Calls Tryz.prog 10 #[.agg (hvals x h)] w fun e w' => ∃ y, e = .returned (.agg (hvals y h)) ∧ HKd w' y h ∧ Below w.heap.size w w' :=
  (toHeader_any x h w o m).mono fun e w' ⟨y, he, ho, hb⟩ => ⟨y, he, ho.kd (ho.ok o) m, hb⟩

end Go.Proofs.YtnmbdannipebnaaGreatDoor

/- What is proved here: what SameBytes answers, in the program and in the model, for slices of bytes of any length: whether the two are the same as strings. -/
namespace Go.Proofs.YtnmbdannipebnaaGreatDoor
open Go.RowKit
set_option linter.unusedVariables false
set_option maxRecDepth 100000


end Go.Proofs.YtnmbdannipebnaaGreatDoor

/- What is proved here: what modeOf answers, and how its answer is told apart. -/
namespace Go.Proofs.YtnmbdannipebnaaGreatDoor
open Go.RowKit
set_option linter.unusedVariables false
set_option maxRecDepth 100000

set_option maxHeartbeats 2000000 in
theorem modeOf_any (x : Cf) (w : World) (h : x.1 = 1 ∨ x.1 = 2) :
    Calls Tryz.prog 48 #[.agg (cfvals x)] w fun e w' => e = .returned (.iface (if x.1 = 2 then 123 else 122) (.agg #[])) ∧ Below w.heap.size w w' := by
  obtain ⟨m, p, e⟩ := x
  simp only at h
  have bb := hide (below_alloc w (.cells #[.int .i64 m, .int .i64 p, .int .i64 e] 35))
  unfold cfvals
  rcases h with rfl | rfl
  · go_enter Tryz.func48, Tryz.ntmps48
    go_wp2
    go_ret
    exact ⟨rfl, unhide bb⟩
  · go_enter Tryz.func48, Tryz.ntmps48
    go_wp2
    go_ret
    exact ⟨rfl, unhide bb⟩

theorem ta_ct (w : World) : (Instr.typeAssert (.iface 123 (.agg #[])) 77 122 true).run Tryz.prog w = .ok (.tuple #[.agg #[], .bool false]) w := by kernel_rfl
theorem ta_cc (w : World) : (Instr.typeAssert (.iface 123 (.agg #[])) 77 123 true).run Tryz.prog w = .ok (.tuple #[.agg #[], .bool true]) w := by kernel_rfl
theorem ta_tt (w : World) : (Instr.typeAssert (.iface 122 (.agg #[])) 77 122 true).run Tryz.prog w = .ok (.tuple #[.agg #[], .bool true]) w := by kernel_rfl

end Go.Proofs.YtnmbdannipebnaaGreatDoor

/- What is proved here: what the program's SameHeaders answers, and what it calls: sameLists (slices.EqualFunc over SameBytes), sameVotes, blockOf, same. -/
namespace Go.Proofs.YtnmbdannipebnaaGreatDoor
open Go.RowKit
set_option linter.unusedVariables false
set_option maxRecDepth 100000

end Go.Proofs.YtnmbdannipebnaaGreatDoor

/- What is proved here: what the program's SameHeaders answers: whether two headers are the same. -/
namespace Go.Proofs.YtnmbdannipebnaaGreatDoor
open Go.RowKit
set_option linter.unusedVariables false
set_option maxRecDepth 100000

end Go.Proofs.YtnmbdannipebnaaGreatDoor

/- What is proved here: what the rules of chapter 9 answer, one by one. -/
namespace Go.Proofs.YtnmbdannipebnaaGreatDoor
open Go.RowKit
set_option linter.unusedVariables false
set_option linter.unusedSimpArgs false
set_option maxRecDepth 100000

theorem codeUnless_any (b : Bool) (k : Int) (w : World) : Calls Tryz.prog 87 #[.bool b, .int .i64 k] w fun r w' => r = .returned (.int .i64 (unl b k)) ∧ w' = w := by
  cases b
  · go_enter Tryz.func87, Tryz.ntmps87
    go_wp2
    go_ret
    exact ⟨rfl, rfl⟩
  · go_enter Tryz.func87, Tryz.ntmps87
    go_wp2
    go_ret
    exact ⟨rfl, rfl⟩

set_option maxHeartbeats 2000000 in
theorem configRule_any (c : Cf) (e : SnS) (x : Sn) (px : HS) (p : Hd) (nx : HS) (n : Hd) (w : World) (o : StOk w e x px p nx n) :
    Calls Tryz.prog 36 #[.agg (stvals c e x px p nx n)] w fun r w' => r = .returned (.int .i64 (cfFlt c)) ∧ Below w.heap.size w w' := by
  have kb := SBlk.new w (stvals c e x px p nx n) 81
  have bb := below_alloc w (.cells (stvals c e x px p nx n) 81)
  obtain ⟨W0, e0⟩ : ∃ W, w.alloc (.cells (stvals c e x px p nx n) 81) = W := ⟨_, rfl⟩
  rw [e0] at kb bb
  replace o := o.below bb (Nat.le_refl _)
  have k0 : W0.cell? ⟨w.heap.size, 0, none⟩ = some (.int .i64 c.1) := kb.cell 0
  have k1 : W0.cell? ⟨w.heap.size, 1, none⟩ = some (.int .i64 c.2.1) := kb.cell 1
  have k2 : W0.cell? ⟨w.heap.size, 2, none⟩ = some (.int .i64 c.2.2) := kb.cell 2
  have D1 := hide (implConfigFault_any c W0)
  unfold cfvals at D1
  have HBB := hide bb
  have E0 := hide e0
  clear bb e0 kb o
  unfold stvals at E0 ⊢
  go_enter Tryz.func36, Tryz.ntmps36
  go_upto_region 1 with fail
  rw [unhide E0]
  clear E0
  go_wp2_with fail
  refine (unhide D1).mono ?_
  rintro r w1 ⟨rfl, b1⟩
  go_wp2_with fail
  go_ret
  exact ⟨rfl, (unhide HBB).trans (b1.mono (unhide HBB).size)⟩

set_option maxHeartbeats 2000000 in
theorem snapRule_any (c : Cf) (e : SnS) (x : Sn) (px : HS) (p : Hd) (nx : HS) (n : Hd) (w : World) (o : StOk w e x px p nx n) :
    Calls Tryz.prog 37 #[.agg (stvals c e x px p nx n)] w fun r w' => r = .returned (.int .i64 (snFlt x)) ∧ Below w.heap.size w w' := by
  have kb := SBlk.new w (stvals c e x px p nx n) 81
  have bb := below_alloc w (.cells (stvals c e x px p nx n) 81)
  obtain ⟨W0, e0⟩ : ∃ W, w.alloc (.cells (stvals c e x px p nx n) 81) = W := ⟨_, rfl⟩
  rw [e0] at kb bb
  replace o := o.below bb (Nat.le_refl _)
  have k3 : W0.cell? ⟨w.heap.size, 3, none⟩ = some (.int .i64 x.1) := kb.cell 3
  have k4 : W0.cell? ⟨w.heap.size, 4, none⟩ = some (.slice e.2.1.a e.2.1.n e.2.1.c) := kb.cell 4
  have k5 : W0.cell? ⟨w.heap.size, 5, none⟩ = some (.slice e.2.2.1.a e.2.2.1.n e.2.2.1.c) := kb.cell 5
  have k6 : W0.cell? ⟨w.heap.size, 6, none⟩ = some (.slice e.2.2.2.a e.2.2.2.n e.2.2.2.c) := kb.cell 6
  have D1 := hide (implSnapFault_any e x W0 o.os o.ms)
  unfold snvals at D1
  have HBB := hide bb
  have E0 := hide e0
  clear bb e0 kb o
  unfold stvals at E0 ⊢
  go_enter Tryz.func37, Tryz.ntmps37
  go_upto_region 1 with fail
  rw [unhide E0]
  clear E0
  go_wp2_with fail
  refine (unhide D1).mono ?_
  rintro r w1 ⟨rfl, b1⟩
  go_wp2_with fail
  go_ret
  exact ⟨rfl, (unhide HBB).trans (b1.mono (unhide HBB).size)⟩

set_option maxHeartbeats 2000000 in
theorem parentRule_any (c : Cf) (e : SnS) (x : Sn) (px : HS) (p : Hd) (nx : HS) (n : Hd) (w : World) (o : StOk w e x px p nx n) :
    Calls Tryz.prog 38 #[.agg (stvals c e x px p nx n)] w fun r w' => r = .returned (.int .i64 (hdFlt p)) ∧ Below w.heap.size w w' := by
  have kb := SBlk.new w (stvals c e x px p nx n) 81
  have bb := below_alloc w (.cells (stvals c e x px p nx n) 81)
  obtain ⟨W0, e0⟩ : ∃ W, w.alloc (.cells (stvals c e x px p nx n) 81) = W := ⟨_, rfl⟩
  rw [e0] at kb bb
  replace o := o.below bb (Nat.le_refl _)
  have k7 : W0.cell? ⟨w.heap.size, 7, none⟩ = some (.slice px.p.a px.p.n px.p.c) := kb.cell 7
  have k8 : W0.cell? ⟨w.heap.size, 8, none⟩ = some (.int .i64 p.n1) := kb.cell 8
  have k9 : W0.cell? ⟨w.heap.size, 9, none⟩ = some (.int .i64 p.n2) := kb.cell 9
  have k10 : W0.cell? ⟨w.heap.size, 10, none⟩ = some (.int .i64 p.n3) := kb.cell 10
  have k11 : W0.cell? ⟨w.heap.size, 11, none⟩ = some (.slice px.t.a px.t.n px.t.c) := kb.cell 11
  have k12 : W0.cell? ⟨w.heap.size, 12, none⟩ = some (.int .i64 p.n5) := kb.cell 12
  have k13 : W0.cell? ⟨w.heap.size, 13, none⟩ = some (.slice px.s.a px.s.n px.s.c) := kb.cell 13
  have k14 : W0.cell? ⟨w.heap.size, 14, none⟩ = some (.slice px.r.a px.r.n px.r.c) := kb.cell 14
  have k15 : W0.cell? ⟨w.heap.size, 15, none⟩ = some (.slice px.g.a px.g.n px.g.c) := kb.cell 15
  have k16 : W0.cell? ⟨w.heap.size, 16, none⟩ = some (.slice px.e.a px.e.n px.e.c) := kb.cell 16
  have k17 : W0.cell? ⟨w.heap.size, 17, none⟩ = some (.slice px.k.a px.k.n px.k.c) := kb.cell 17
  have D1 := hide (implHeaderFault_any px p W0 o.op.ok o.mp)
  unfold hvals at D1
  have HBB := hide bb
  have E0 := hide e0
  clear bb e0 kb o
  unfold stvals at E0 ⊢
  go_enter Tryz.func38, Tryz.ntmps38
  go_upto_region 1 with fail
  rw [unhide E0]
  clear E0
  go_wp2_with fail
  refine (unhide D1).mono ?_
  rintro r w1 ⟨rfl, b1⟩
  go_wp2_with fail
  go_ret
  exact ⟨rfl, (unhide HBB).trans (b1.mono (unhide HBB).size)⟩

set_option maxHeartbeats 2000000 in
theorem nextRule_any (c : Cf) (e : SnS) (x : Sn) (px : HS) (p : Hd) (nx : HS) (n : Hd) (w : World) (o : StOk w e x px p nx n) :
    Calls Tryz.prog 39 #[.agg (stvals c e x px p nx n)] w fun r w' => r = .returned (.int .i64 (hdFlt n)) ∧ Below w.heap.size w w' := by
  have kb := SBlk.new w (stvals c e x px p nx n) 81
  have bb := below_alloc w (.cells (stvals c e x px p nx n) 81)
  obtain ⟨W0, e0⟩ : ∃ W, w.alloc (.cells (stvals c e x px p nx n) 81) = W := ⟨_, rfl⟩
  rw [e0] at kb bb
  replace o := o.below bb (Nat.le_refl _)
  have k18 : W0.cell? ⟨w.heap.size, 18, none⟩ = some (.slice nx.p.a nx.p.n nx.p.c) := kb.cell 18
  have k19 : W0.cell? ⟨w.heap.size, 19, none⟩ = some (.int .i64 n.n1) := kb.cell 19
  have k20 : W0.cell? ⟨w.heap.size, 20, none⟩ = some (.int .i64 n.n2) := kb.cell 20
  have k21 : W0.cell? ⟨w.heap.size, 21, none⟩ = some (.int .i64 n.n3) := kb.cell 21
  have k22 : W0.cell? ⟨w.heap.size, 22, none⟩ = some (.slice nx.t.a nx.t.n nx.t.c) := kb.cell 22
  have k23 : W0.cell? ⟨w.heap.size, 23, none⟩ = some (.int .i64 n.n5) := kb.cell 23
  have k24 : W0.cell? ⟨w.heap.size, 24, none⟩ = some (.slice nx.s.a nx.s.n nx.s.c) := kb.cell 24
  have k25 : W0.cell? ⟨w.heap.size, 25, none⟩ = some (.slice nx.r.a nx.r.n nx.r.c) := kb.cell 25
  have k26 : W0.cell? ⟨w.heap.size, 26, none⟩ = some (.slice nx.g.a nx.g.n nx.g.c) := kb.cell 26
  have k27 : W0.cell? ⟨w.heap.size, 27, none⟩ = some (.slice nx.e.a nx.e.n nx.e.c) := kb.cell 27
  have k28 : W0.cell? ⟨w.heap.size, 28, none⟩ = some (.slice nx.k.a nx.k.n nx.k.c) := kb.cell 28
  have D1 := hide (implHeaderFault_any nx n W0 o.on.ok o.mn)
  unfold hvals at D1
  have HBB := hide bb
  have E0 := hide e0
  clear bb e0 kb o
  unfold stvals at E0 ⊢
  go_enter Tryz.func39, Tryz.ntmps39
  go_upto_region 1 with fail
  rw [unhide E0]
  clear E0
  go_wp2_with fail
  refine (unhide D1).mono ?_
  rintro r w1 ⟨rfl, b1⟩
  go_wp2_with fail
  go_ret
  exact ⟨rfl, (unhide HBB).trans (b1.mono (unhide HBB).size)⟩

set_option maxHeartbeats 2000000 in
theorem stateRule_any (c : Cf) (e : SnS) (x : Sn) (px : HS) (p : Hd) (nx : HS) (n : Hd) (w : World) (o : StOk w e x px p nx n) :
    Calls Tryz.prog 40 #[.agg (stvals c e x px p nx n)] w fun r w' => r = .returned (.int .i64 (unl (x.1 == p.n1) 9)) ∧ Below w.heap.size w w' := by
  have kb := SBlk.new w (stvals c e x px p nx n) 81
  have bb := below_alloc w (.cells (stvals c e x px p nx n) 81)
  obtain ⟨W0, e0⟩ : ∃ W, w.alloc (.cells (stvals c e x px p nx n) 81) = W := ⟨_, rfl⟩
  rw [e0] at kb bb
  replace o := o.below bb (Nat.le_refl _)
  have k3 : W0.cell? ⟨w.heap.size, 3, none⟩ = some (.int .i64 x.1) := kb.cell 3
  have k8 : W0.cell? ⟨w.heap.size, 8, none⟩ = some (.int .i64 p.n1) := kb.cell 8
  have DU := hide (fun W => codeUnless_any (x.1 == p.n1) 9 W)
  have HBB := hide bb
  have E0 := hide e0
  clear bb e0 kb o
  unfold stvals at E0 ⊢
  go_enter Tryz.func40, Tryz.ntmps40
  go_upto_region 1 with fail
  rw [unhide E0]
  clear E0
  go_wp2_with fail
  refine ((unhide DU) _).mono ?_
  rintro r w9 ⟨rfl, rfl⟩
  go_wp2_with fail
  go_ret
  exact ⟨rfl, unhide HBB⟩

set_option maxHeartbeats 2000000 in
theorem numberRule_any (c : Cf) (e : SnS) (x : Sn) (px : HS) (p : Hd) (nx : HS) (n : Hd) (w : World) (o : StOk w e x px p nx n) (hx : 0 ≤ x.1 ∧ x.1 ≤ 1099511627776) :
    Calls Tryz.prog 42 #[.agg (stvals c e x px p nx n)] w fun r w' => r = .returned (.int .i64 (unl (n.n1 == x.1 + 1) 3)) ∧ Below w.heap.size w w' := by
  have kb := SBlk.new w (stvals c e x px p nx n) 81
  have bb := below_alloc w (.cells (stvals c e x px p nx n) 81)
  obtain ⟨W0, e0⟩ : ∃ W, w.alloc (.cells (stvals c e x px p nx n) 81) = W := ⟨_, rfl⟩
  rw [e0] at kb bb
  replace o := o.below bb (Nat.le_refl _)
  have k3 : W0.cell? ⟨w.heap.size, 3, none⟩ = some (.int .i64 x.1) := kb.cell 3
  have k19 : W0.cell? ⟨w.heap.size, 19, none⟩ = some (.int .i64 n.n1) := kb.cell 19
  have hw : IntKind.i64.wrap (x.1 + 1) = x.1 + 1 := by rw [IntKind.wrap_i64]; omega
  have DU := hide (fun W => codeUnless_any (n.n1 == x.1 + 1) 3 W)
  have HBB := hide bb
  have E0 := hide e0
  clear bb e0 kb o
  unfold stvals at E0 ⊢
  go_enter Tryz.func42, Tryz.ntmps42
  go_upto_region 1 with fail
  rw [unhide E0]
  clear E0
  go_wp2_with fail
  refine ((unhide DU) _).mono ?_
  rintro r w9 ⟨rfl, rfl⟩
  go_wp2_with fail
  go_ret
  exact ⟨rfl, unhide HBB⟩

set_option maxHeartbeats 2000000 in
theorem timeRule_any (c : Cf) (e : SnS) (x : Sn) (px : HS) (p : Hd) (nx : HS) (n : Hd) (w : World) (o : StOk w e x px p nx n) (hp : 0 ≤ p.n2 ∧ p.n2 ≤ 1099511627776) (hc : 1 ≤ c.2.1 ∧ c.2.1 ≤ 100) :
    Calls Tryz.prog 43 #[.agg (stvals c e x px p nx n)] w fun r w' => r = .returned (.int .i64 (unl (decide (p.n2 + c.2.1 ≤ n.n2)) 8)) ∧ Below w.heap.size w w' := by
  have kb := SBlk.new w (stvals c e x px p nx n) 81
  have bb := below_alloc w (.cells (stvals c e x px p nx n) 81)
  obtain ⟨W0, e0⟩ : ∃ W, w.alloc (.cells (stvals c e x px p nx n) 81) = W := ⟨_, rfl⟩
  rw [e0] at kb bb
  replace o := o.below bb (Nat.le_refl _)
  have k1 : W0.cell? ⟨w.heap.size, 1, none⟩ = some (.int .i64 c.2.1) := kb.cell 1
  have k9 : W0.cell? ⟨w.heap.size, 9, none⟩ = some (.int .i64 p.n2) := kb.cell 9
  have k20 : W0.cell? ⟨w.heap.size, 20, none⟩ = some (.int .i64 n.n2) := kb.cell 20
  have hw : IntKind.i64.wrap (p.n2 + c.2.1) = p.n2 + c.2.1 := by rw [IntKind.wrap_i64]; omega
  have DU := hide (fun W => codeUnless_any (decide (p.n2 + c.2.1 ≤ n.n2)) 8 W)
  have HBB := hide bb
  have E0 := hide e0
  clear bb e0 kb o
  unfold stvals at E0 ⊢
  go_enter Tryz.func43, Tryz.ntmps43
  go_upto_region 1 with fail
  rw [unhide E0]
  clear E0
  go_wp2_with fail
  refine ((unhide DU) _).mono ?_
  rintro r w9 ⟨rfl, rfl⟩
  go_wp2_with fail
  go_ret
  exact ⟨rfl, unhide HBB⟩

set_option maxHeartbeats 2000000 in
theorem sealRule_any (c : Cf) (e : SnS) (x : Sn) (px : HS) (p : Hd) (nx : HS) (n : Hd) (w : World) (o : StOk w e x px p nx n) :
    Calls Tryz.prog 44 #[.agg (stvals c e x px p nx n)] w fun r w' => r = .returned (.int .i64 (unl (srB n) 7)) ∧ Below w.heap.size w w' := by
  have kb := SBlk.new w (stvals c e x px p nx n) 81
  have bb := below_alloc w (.cells (stvals c e x px p nx n) 81)
  obtain ⟨W0, e0⟩ : ∃ W, w.alloc (.cells (stvals c e x px p nx n) 81) = W := ⟨_, rfl⟩
  rw [e0] at kb bb
  replace o := o.below bb (Nat.le_refl _)
  have k18 : W0.cell? ⟨w.heap.size, 18, none⟩ = some (.slice nx.p.a nx.p.n nx.p.c) := kb.cell 18
  have k19 : W0.cell? ⟨w.heap.size, 19, none⟩ = some (.int .i64 n.n1) := kb.cell 19
  have k20 : W0.cell? ⟨w.heap.size, 20, none⟩ = some (.int .i64 n.n2) := kb.cell 20
  have k21 : W0.cell? ⟨w.heap.size, 21, none⟩ = some (.int .i64 n.n3) := kb.cell 21
  have k22 : W0.cell? ⟨w.heap.size, 22, none⟩ = some (.slice nx.t.a nx.t.n nx.t.c) := kb.cell 22
  have k23 : W0.cell? ⟨w.heap.size, 23, none⟩ = some (.int .i64 n.n5) := kb.cell 23
  have k24 : W0.cell? ⟨w.heap.size, 24, none⟩ = some (.slice nx.s.a nx.s.n nx.s.c) := kb.cell 24
  have k25 : W0.cell? ⟨w.heap.size, 25, none⟩ = some (.slice nx.r.a nx.r.n nx.r.c) := kb.cell 25
  have k26 : W0.cell? ⟨w.heap.size, 26, none⟩ = some (.slice nx.g.a nx.g.n nx.g.c) := kb.cell 26
  have k27 : W0.cell? ⟨w.heap.size, 27, none⟩ = some (.slice nx.e.a nx.e.n nx.e.c) := kb.cell 27
  have k28 : W0.cell? ⟨w.heap.size, 28, none⟩ = some (.slice nx.k.a nx.k.n nx.k.c) := kb.cell 28
  have D1 := hide (implRight_any nx n W0 o.on.ok o.on.nn o.mn o.v o.ve)
  unfold hvals at D1
  have DU := hide (fun W => codeUnless_any (srB n) 7 W)
  have HBB := hide bb
  have E0 := hide e0
  clear bb e0 kb o
  unfold stvals at E0 ⊢
  go_enter Tryz.func44, Tryz.ntmps44
  go_upto_region 1 with fail
  rw [unhide E0]
  clear E0
  go_wp2_with fail
  refine (unhide D1).mono ?_
  rintro r w1 ⟨rfl, b1⟩
  go_wp2_with fail
  refine ((unhide DU) _).mono ?_
  rintro r w9 ⟨rfl, rfl⟩
  go_wp2_with fail
  go_ret
  exact ⟨rfl, (unhide HBB).trans (b1.mono (unhide HBB).size)⟩

set_option maxHeartbeats 2000000 in
theorem uncommittedRule_any (c : Cf) (e : SnS) (x : Sn) (px : HS) (p : Hd) (nx : HS) (n : Hd) (w : World) (o : StOk w e x px p nx n) :
    Calls Tryz.prog 92 #[.agg (stvals c e x px p nx n)] w fun r w' => r = .returned (.int .i64 (unl (n.k.length == 0) 1)) ∧ Below w.heap.size w w' := by
  have kb := SBlk.new w (stvals c e x px p nx n) 81
  have bb := below_alloc w (.cells (stvals c e x px p nx n) 81)
  obtain ⟨W0, e0⟩ : ∃ W, w.alloc (.cells (stvals c e x px p nx n) 81) = W := ⟨_, rfl⟩
  rw [e0] at kb bb
  replace o := o.below bb (Nat.le_refl _)
  have k28 : W0.cell? ⟨w.heap.size, 28, none⟩ = some (.slice nx.k.a nx.k.n nx.k.c) := kb.cell 28
  have hk : nx.k.n = n.k.length := o.on.ok.k.1.symm
  have hi : (((nx.k.n : Nat) : Int) == 0) = (n.k.length == 0) := by rw [hk]; cases n.k <;> rfl
  clear hk
  have DU := hide (fun W => codeUnless_any (n.k.length == 0) 1 W)
  have HBB := hide bb
  have E0 := hide e0
  clear bb e0 kb o
  unfold stvals at E0 ⊢
  go_enter Tryz.func92, Tryz.ntmps92
  go_upto_region 1 with fail
  rw [unhide E0]
  clear E0
  go_wp2_with fail
  refine ((unhide DU) _).mono ?_
  rintro r w9 ⟨rfl, rfl⟩
  go_wp2_with fail
  go_ret
  exact ⟨rfl, unhide HBB⟩

set_option maxHeartbeats 2000000 in
theorem recentRule_any (c : Cf) (e : SnS) (x : Sn) (px : HS) (p : Hd) (nx : HS) (n : Hd) (w : World) (o : StOk w e x px p nx n) :
    Calls Tryz.prog 93 #[.agg (stvals c e x px p nx n)] w fun r w' => r = .returned (.int .i64 (unl (!wrAns x n.g n.n1) 8)) ∧ Below w.heap.size w w' := by
  have kb := SBlk.new w (stvals c e x px p nx n) 81
  have bb := below_alloc w (.cells (stvals c e x px p nx n) 81)
  obtain ⟨W0, e0⟩ : ∃ W, w.alloc (.cells (stvals c e x px p nx n) 81) = W := ⟨_, rfl⟩
  rw [e0] at kb bb
  replace o := o.below bb (Nat.le_refl _)
  have k3 : W0.cell? ⟨w.heap.size, 3, none⟩ = some (.int .i64 x.1) := kb.cell 3
  have k4 : W0.cell? ⟨w.heap.size, 4, none⟩ = some (.slice e.2.1.a e.2.1.n e.2.1.c) := kb.cell 4
  have k5 : W0.cell? ⟨w.heap.size, 5, none⟩ = some (.slice e.2.2.1.a e.2.2.1.n e.2.2.1.c) := kb.cell 5
  have k6 : W0.cell? ⟨w.heap.size, 6, none⟩ = some (.slice e.2.2.2.a e.2.2.2.n e.2.2.2.c) := kb.cell 6
  have k19 : W0.cell? ⟨w.heap.size, 19, none⟩ = some (.int .i64 n.n1) := kb.cell 19
  have k26 : W0.cell? ⟨w.heap.size, 26, none⟩ = some (.slice nx.g.a nx.g.n nx.g.c) := kb.cell 26
  have D1 := hide (implRecent_any e x nx.g n.g n.n1 W0 o.os o.on.g o.ms o.mn.g)
  unfold snvals at D1
  have DU := hide (fun W => codeUnless_any (!wrAns x n.g n.n1) 8 W)
  have HBB := hide bb
  have E0 := hide e0
  clear bb e0 kb o
  unfold stvals at E0 ⊢
  go_enter Tryz.func93, Tryz.ntmps93
  go_upto_region 1 with fail
  rw [unhide E0]
  clear E0
  go_wp2_with fail
  refine (unhide D1).mono ?_
  rintro r w1 ⟨rfl, b1⟩
  go_wp2_with fail
  refine ((unhide DU) _).mono ?_
  rintro r w9 ⟨rfl, rfl⟩
  go_wp2_with fail
  go_ret
  exact ⟨rfl, (unhide HBB).trans (b1.mono (unhide HBB).size)⟩

set_option maxHeartbeats 2000000 in
theorem commitsRule_any (c : Cf) (e : SnS) (x : Sn) (px : HS) (p : Hd) (nx : HS) (n : Hd) (w : World) (o : StOk w e x px p nx n) :
    Calls Tryz.prog 95 #[.agg (stvals c e x px p nx n)] w fun r w' => r = .returned (.int .i64 (crCode x.2.1 n)) ∧ Below w.heap.size w w' := by
  have kb := SBlk.new w (stvals c e x px p nx n) 81
  have bb := below_alloc w (.cells (stvals c e x px p nx n) 81)
  obtain ⟨W0, e0⟩ : ∃ W, w.alloc (.cells (stvals c e x px p nx n) 81) = W := ⟨_, rfl⟩
  rw [e0] at kb bb
  replace o := o.below bb (Nat.le_refl _)
  have k4 : W0.cell? ⟨w.heap.size, 4, none⟩ = some (.slice e.2.1.a e.2.1.n e.2.1.c) := kb.cell 4
  have k18 : W0.cell? ⟨w.heap.size, 18, none⟩ = some (.slice nx.p.a nx.p.n nx.p.c) := kb.cell 18
  have k19 : W0.cell? ⟨w.heap.size, 19, none⟩ = some (.int .i64 n.n1) := kb.cell 19
  have k20 : W0.cell? ⟨w.heap.size, 20, none⟩ = some (.int .i64 n.n2) := kb.cell 20
  have k21 : W0.cell? ⟨w.heap.size, 21, none⟩ = some (.int .i64 n.n3) := kb.cell 21
  have k22 : W0.cell? ⟨w.heap.size, 22, none⟩ = some (.slice nx.t.a nx.t.n nx.t.c) := kb.cell 22
  have k23 : W0.cell? ⟨w.heap.size, 23, none⟩ = some (.int .i64 n.n5) := kb.cell 23
  have k24 : W0.cell? ⟨w.heap.size, 24, none⟩ = some (.slice nx.s.a nx.s.n nx.s.c) := kb.cell 24
  have k25 : W0.cell? ⟨w.heap.size, 25, none⟩ = some (.slice nx.r.a nx.r.n nx.r.c) := kb.cell 25
  have k26 : W0.cell? ⟨w.heap.size, 26, none⟩ = some (.slice nx.g.a nx.g.n nx.g.c) := kb.cell 26
  have k27 : W0.cell? ⟨w.heap.size, 27, none⟩ = some (.slice nx.e.a nx.e.n nx.e.c) := kb.cell 27
  have k28 : W0.cell? ⟨w.heap.size, 28, none⟩ = some (.slice nx.k.a nx.k.n nx.k.c) := kb.cell 28
  have D1 := hide (implCommitsRight_any e.2.1 x.2.1 nx n W0 o.os.2.1 o.ms.s o.on.ok o.on.nn o.on.bc o.mn o.v o.ve)
  unfold hvals at D1
  have HBB := hide bb
  have E0 := hide e0
  clear bb e0 kb o
  unfold stvals at E0 ⊢
  go_enter Tryz.func95, Tryz.ntmps95
  go_upto_region 1 with fail
  rw [unhide E0]
  clear E0
  go_wp2_with fail
  refine (unhide D1).mono ?_
  rintro r w1 ⟨rfl, b1⟩
  go_wp2_with fail
  go_ret
  exact ⟨rfl, (unhide HBB).trans (b1.mono (unhide HBB).size)⟩

theorem fieldB1 (x y : Value) (w : World) : (Instr.field 90 (.agg #[x, y]) 1).run Tryz.prog w = .ok y w := by kernel_rfl

set_option maxHeartbeats 2000000 in
theorem behindRule_any (c : Cf) (e : SnS) (x : Sn) (px : HS) (p : Hd) (nx : HS) (n : Hd) (w : World) (o : StOk w e x px p nx n) (hp : hdFlt p = 0) :
    Calls Tryz.prog 41 #[.agg (stvals c e x px p nx n)] w fun r w' => r = .returned (.int .i64 (unl (bhB p n) 4)) ∧ Below w.heap.size w w' := by
  have kb := SBlk.new w (stvals c e x px p nx n) 81
  have bb := below_alloc w (.cells (stvals c e x px p nx n) 81)
  obtain ⟨W0, e0⟩ : ∃ W, w.alloc (.cells (stvals c e x px p nx n) 81) = W := ⟨_, rfl⟩
  rw [e0] at kb bb
  replace o := o.below bb (Nat.le_refl _)
  have k18 : W0.cell? ⟨w.heap.size, 18, none⟩ = some (.slice nx.p.a nx.p.n nx.p.c) := kb.cell 18
  have k7 : W0.cell? ⟨w.heap.size, 7, none⟩ = some (.slice px.p.a px.p.n px.p.c) := kb.cell 7
  have k8 : W0.cell? ⟨w.heap.size, 8, none⟩ = some (.int .i64 p.n1) := kb.cell 8
  have k9 : W0.cell? ⟨w.heap.size, 9, none⟩ = some (.int .i64 p.n2) := kb.cell 9
  have k10 : W0.cell? ⟨w.heap.size, 10, none⟩ = some (.int .i64 p.n3) := kb.cell 10
  have k11 : W0.cell? ⟨w.heap.size, 11, none⟩ = some (.slice px.t.a px.t.n px.t.c) := kb.cell 11
  have k12 : W0.cell? ⟨w.heap.size, 12, none⟩ = some (.int .i64 p.n5) := kb.cell 12
  have k13 : W0.cell? ⟨w.heap.size, 13, none⟩ = some (.slice px.s.a px.s.n px.s.c) := kb.cell 13
  have k14 : W0.cell? ⟨w.heap.size, 14, none⟩ = some (.slice px.r.a px.r.n px.r.c) := kb.cell 14
  have k15 : W0.cell? ⟨w.heap.size, 15, none⟩ = some (.slice px.g.a px.g.n px.g.c) := kb.cell 15
  have k16 : W0.cell? ⟨w.heap.size, 16, none⟩ = some (.slice px.e.a px.e.n px.e.c) := kb.cell 16
  have k17 : W0.cell? ⟨w.heap.size, 17, none⟩ = some (.slice px.k.a px.k.n px.k.c) := kb.cell 17
  have hfl := fieldB1
  have HBH : Hid (strEq n.p (hsBytes p) = bhB p n) := rfl
  have D1 := hide (fun (W : World) (hb : Below W0.heap.size W0 W) => implHash_any px p W (o.op.ok.below hb (Nat.le_refl _)) (o.op.nn.below hb (Nat.le_refl _)) o.mp (o.v.below hb (Nat.le_refl _)))
  have D2 : Hid (∀ W a cp B, Below W0.heap.size W0 W → W.ownsRow B 5 1 (.slice a (hsBytes p).length cp) (hsBytes p).length ((hsBytes p).map (Value.int .u8)) → Calls Tryz.prog 88 #[.slice nx.p.a nx.p.n nx.p.c, .slice a (hsBytes p).length cp] W fun r w' => r = .returned (.bool (strEq n.p (hsBytes p))) ∧ w' = W) := fun W a cp B hb ho => implSame_any nx.p.a a nx.p.n nx.p.c _ cp n.p (hsBytes p) W (o.on.ok.p.below hb (Nat.le_refl _)) (BRow.own2 ho (hs_range o.op.ok))
  generalize hsBytes p = hb at D1 D2 HBH
  have HS : Hid (∀ W, Below W0.heap.size W0 W → W.cell? ⟨w.heap.size, 18, none⟩ = some (.slice nx.p.a nx.p.n nx.p.c) ∧ W.cell? ⟨w.heap.size, 7, none⟩ = some (.slice px.p.a px.p.n px.p.c) ∧ W.cell? ⟨w.heap.size, 8, none⟩ = some (.int .i64 p.n1) ∧ W.cell? ⟨w.heap.size, 9, none⟩ = some (.int .i64 p.n2) ∧ W.cell? ⟨w.heap.size, 10, none⟩ = some (.int .i64 p.n3) ∧ W.cell? ⟨w.heap.size, 11, none⟩ = some (.slice px.t.a px.t.n px.t.c) ∧ W.cell? ⟨w.heap.size, 12, none⟩ = some (.int .i64 p.n5) ∧ W.cell? ⟨w.heap.size, 13, none⟩ = some (.slice px.s.a px.s.n px.s.c) ∧ W.cell? ⟨w.heap.size, 14, none⟩ = some (.slice px.r.a px.r.n px.r.c) ∧ W.cell? ⟨w.heap.size, 15, none⟩ = some (.slice px.g.a px.g.n px.g.c) ∧ W.cell? ⟨w.heap.size, 16, none⟩ = some (.slice px.e.a px.e.n px.e.c) ∧ W.cell? ⟨w.heap.size, 17, none⟩ = some (.slice px.k.a px.k.n px.k.c)) := fun W hb => ⟨(kb.below hb kb.lt).cell 18, (kb.below hb kb.lt).cell 7, (kb.below hb kb.lt).cell 8, (kb.below hb kb.lt).cell 9, (kb.below hb kb.lt).cell 10, (kb.below hb kb.lt).cell 11, (kb.below hb kb.lt).cell 12, (kb.below hb kb.lt).cell 13, (kb.below hb kb.lt).cell 14, (kb.below hb kb.lt).cell 15, (kb.below hb kb.lt).cell 16, (kb.below hb kb.lt).cell 17⟩
  unfold hvals at D1
  have DU := hide (fun W => codeUnless_any (strEq n.p hb) 4 W)
  have HBB := hide bb
  have E0 := hide e0
  clear bb e0 kb o
  unfold stvals at E0 ⊢
  go_enter Tryz.func41, Tryz.ntmps41
  go_upto_region 1 with fail
  rw [unhide E0]
  clear E0
  go_region_held3 (fun W => W.cell? ⟨w.heap.size, 18, none⟩ = some (.slice nx.p.a nx.p.n nx.p.c) ∧ W.cell? ⟨w.heap.size, 7, none⟩ = some (.slice px.p.a px.p.n px.p.c) ∧ W.cell? ⟨w.heap.size, 8, none⟩ = some (.int .i64 p.n1) ∧ W.cell? ⟨w.heap.size, 9, none⟩ = some (.int .i64 p.n2) ∧ W.cell? ⟨w.heap.size, 10, none⟩ = some (.int .i64 p.n3) ∧ W.cell? ⟨w.heap.size, 11, none⟩ = some (.slice px.t.a px.t.n px.t.c) ∧ W.cell? ⟨w.heap.size, 12, none⟩ = some (.int .i64 p.n5) ∧ W.cell? ⟨w.heap.size, 13, none⟩ = some (.slice px.s.a px.s.n px.s.c) ∧ W.cell? ⟨w.heap.size, 14, none⟩ = some (.slice px.r.a px.r.n px.r.c) ∧ W.cell? ⟨w.heap.size, 15, none⟩ = some (.slice px.g.a px.g.n px.g.c) ∧ W.cell? ⟨w.heap.size, 16, none⟩ = some (.slice px.e.a px.e.n px.e.c) ∧ W.cell? ⟨w.heap.size, 17, none⟩ = some (.slice px.k.a px.k.n px.k.c))
    (exact (unhide HS) _ (by first | assumption | exact (Below.refl _ _).drew | exact below_drewN (Below.refl _ _) _ | exact Below.refl _ _))
    (first
      | (go_at_call 61; refine ((unhide D1) _ (by first | exact (Below.refl _ _).drew | exact below_drewN (Below.refl _ _) _ | exact Below.refl _ _)).mono ?_; rintro r w1 ⟨a1, c1, rfl, o1, b1⟩; have K1 : Below W0.heap.size W0 w1 := bStep (by first | exact (Below.refl _ _).drew | exact below_drewN (Below.refl _ _) _ | exact Below.refl _ _) b1)
      | (go_at_call 88; refine ((unhide D2) _ a1 c1 _ K1 o1).mono ?_; rintro r w2 ⟨rfl, rfl⟩)
      | (go_at_call 87; refine ((unhide DU) _).mono ?_; rintro r w3 ⟨rfl, rfl⟩))
  all_goals
    go_wp2_with fail
    go_ret
    exact ⟨by rw [← unhide HBH]; rfl, (unhide HBB).trans (K1.mono (unhide HBB).size)⟩

set_option maxHeartbeats 2000000 in
theorem hasSigner_any (c : Cf) (e : SnS) (x : Sn) (px : HS) (p : Hd) (nx : HS) (n : Hd) (w : World) (o : StOk w e x px p nx n) (hx : snFlt x = 0) :
    Calls Tryz.prog 90 #[.agg (stvals c e x px p nx n)] w fun r w' => r = .returned (.bool (decide (n.g ∈ x.2.1))) ∧ Below w.heap.size w w' := by
  have kb := SBlk.new w (stvals c e x px p nx n) 81
  have bb := below_alloc w (.cells (stvals c e x px p nx n) 81)
  obtain ⟨W0, e0⟩ : ∃ W, w.alloc (.cells (stvals c e x px p nx n) 81) = W := ⟨_, rfl⟩
  rw [e0] at kb bb
  replace o := o.below bb (Nat.le_refl _)
  have k4 : W0.cell? ⟨w.heap.size, 4, none⟩ = some (.slice e.2.1.a e.2.1.n e.2.1.c) := kb.cell 4
  have k26 : W0.cell? ⟨w.heap.size, 26, none⟩ = some (.slice nx.g.a nx.g.n nx.g.c) := kb.cell 26
  have D1 := hide (isAmong_any e.2.1 nx.g x.2.1 n.g W0 o.os.2.1 o.on.g (snFlt_sg hx).1)
  have HBB := hide bb
  have E0 := hide e0
  clear bb e0 kb o
  unfold stvals at E0 ⊢
  go_enter Tryz.func90, Tryz.ntmps90
  go_upto_region 1 with fail
  rw [unhide E0]
  clear E0
  go_wp2_with fail
  refine (unhide D1).mono ?_
  rintro r w1 ⟨rfl, rfl⟩
  go_wp2_with fail
  go_ret
  exact ⟨rfl, unhide HBB⟩

theorem stLoad (c : Cf) (e : SnS) (x : Sn) (px : HS) (p : Hd) (nx : HS) (n : Hd) (W : World) (g : Nat) (kb : SBlk W g (stvals c e x px p nx n).toList 81) : (Instr.loadAt 81 (.pointer (some ⟨g, 0, none⟩))).run Tryz.prog W = .ok (.agg (stvals c e x px p nx n)) W :=
  run_loadAt_mid (P := Tryz.prog) W g 0 81 (stvals c e x px p nx n).toList _ (srange kb) Tryz.underlying81 rfl (by kernel_rfl)

set_option maxHeartbeats 2000000 in
theorem signerRule_any (c : Cf) (e : SnS) (x : Sn) (px : HS) (p : Hd) (nx : HS) (n : Hd) (w : World) (o : StOk w e x px p nx n) (hx : snFlt x = 0) :
    Calls Tryz.prog 45 #[.agg (stvals c e x px p nx n)] w fun r w' => r = .returned (.int .i64 (unl (decide (n.g ∈ x.2.1)) 8)) ∧ Below w.heap.size w w' := by
  have kb := SBlk.new w (stvals c e x px p nx n) 81
  have bb := below_alloc w (.cells (stvals c e x px p nx n) 81)
  obtain ⟨W0, e0⟩ : ∃ W, w.alloc (.cells (stvals c e x px p nx n) 81) = W := ⟨_, rfl⟩
  rw [e0] at kb bb
  replace o := o.below bb (Nat.le_refl _)
  have HLD := hide (stLoad c e x px p nx n W0 w.heap.size kb)
  have D1 := hide (hasSigner_any c e x px p nx n W0 o hx)
  have DU := hide (fun W => codeUnless_any (decide (n.g ∈ x.2.1)) 8 W)
  have HBB := hide bb
  have E0 := hide e0
  clear bb e0 kb o
  generalize stvals c e x px p nx n = V at HLD D1 E0 ⊢
  go_enter Tryz.func45, Tryz.ntmps45
  go_upto_region 1 with fail
  rw [unhide E0]
  clear E0
  go_wp2_with (refine wpList_load_eq rfl 81 _ rfl _ _ rfl (unhide HLD) ?_)
  refine (unhide D1).mono ?_
  rintro r w1 ⟨rfl, b1⟩
  go_wp2_with fail
  refine ((unhide DU) _).mono ?_
  rintro r w9 ⟨rfl, rfl⟩
  go_wp2_with fail
  go_ret
  exact ⟨rfl, (unhide HBB).trans (b1.mono (unhide HBB).size)⟩

end Go.Proofs.YtnmbdannipebnaaGreatDoor
