/- What is proved here: what the program's votesFault and recentsFault answer. -/
import Derived.Test.YtdmcmlcmgbbclaaGreatJ9
import Derived.Test.YtdmcmlcmgbbclaaGreatJ8
import Derived.Test.YtdmcmlcmgbbclaaGreatJ7
import Derived.Test.YtdmcmlcmgbbclaaGreatChecked
import Derived.Test.YtdmcmlcmgbbclaaGreatJ1
import Derived.WalkKit
import Derived.KernelRfl
import Derived.Test.YtdmcmlcmgbbclaaGreatJ3
import Derived.WalkSmall
import Derived.Deep.RegionWith
import Derived.BigRegion
import Derived.BigQuiet
import Derived.Deep.QuietTactic
import Derived.WalkSpells
namespace Go.Proofs.YtdmcmlcmgbbclaaGreat
set_option linter.unusedVariables false
set_option linter.unusedSimpArgs false
open Go.RowKit
set_option maxRecDepth 100000

set_option maxHeartbeats 4000000 in
theorem votesFaultS_any (vS sS : Sl) (vs : List Vt) (sg : List (List Int)) (w : World) (o : RowOk vtK w vS vs) (h : RowOk bytesK w sS sg) (hs : sgFlt sg = 0) (hl : vs.length ≤ 30) :
    Calls Tryz.prog 97 #[.slice vS.a vS.n vS.c, .slice sS.a sS.n sS.c] w fun e w' => e = .returned (.int .i64 (vtFrom sg vs 0 vs)) ∧ Below w.heap.size w w' := by
 obtain ⟨a, len, cap⟩ := vS
 have hil : len = vs.length := o.len
 have HR := hide (fun hp => RowOk.pos o hp)
 have HL := hide hil
 have HS := hide h
 have HG := hide hs
 have hln : len ≤ 30 := by omega
 have HO := hide o
 have hmm := @run_makeMap Tryz.prog
 clear o h hs hil hl
 go_enter Tryz.func97, Tryz.ntmps97
 go_wp2_with fail
 go_loopw [12] (fun i wr => ∃ k : Nat, k ≤ len ∧ i = .int .i64 k ∧ vtFrom sg vs 0 vs = vtFrom sg vs k (vs.drop k) ∧ PollOk wr w.heap.size k (vtKeys (vs.take k)) ∧ Below w.heap.size w wr) (fun i _ => len - (intOf i).toNat)
 case atStart => exact ⟨0, Nat.zero_le _, rfl, by simp, by simpa [vtKeys] using PollOk.made w, (Below.refl _ _).alloc (Nat.le_refl _) _⟩
 case round =>
  obtain ⟨k, hk, rfl, hpre, hpoll, hbr⟩ := hrel
  by_cases hlt : k < len
  · obtain ⟨b, off, ea, hb, hc⟩ := (unhide HR) (by show 0 < len; omega)
    subst ea
    obtain ⟨v, hv⟩ : ∃ v, vs[k]? = some v := ⟨_, List.getElem?_eq_getElem (by rw [← unhide HL]; exact hlt)⟩
    obtain ⟨⟨s, t, ⟨⟩⟩, c, oo⟩ := hc k v hv
    have hst := vtFrom_step sg vs k v hv
    have hsn := vtKeys_snoc vs k v hv
    have hz0 := fun h => vtOne_zero (sg := sg) (seen := vtKeys (vs.take k)) (v := v) h
    obtain ⟨x, y, bb⟩ := v
    have c0 := (hbr.cell (p := ⟨b, off + k * vtK.m + 0, none⟩) hb).trans (c 0 _ rfl)
    have c1 := (hbr.cell (p := ⟨b, off + k * vtK.m + 1, none⟩) hb).trans (c 1 _ rfl)
    have c2 := (hbr.cell (p := ⟨b, off + k * vtK.m + 2, none⟩) hb).trans (c 2 _ rfl)
    simp only [Nat.add_zero, show vtK.m = 3 from rfl] at c0 c1 c2
    have ox := bytesK.below oo.1 hbr (Nat.le_refl _)
    have oy := bytesK.below oo.2.1 hbr (Nat.le_refl _)
    have HF := hide (fun (W : World) (hb : Below wr.heap.size wr W) => voteFault_any s t sS x y bb sg w.heap.size k (vtKeys (vs.take k)) W (bytesK.below ox hb (Nat.le_refl _)) (bytesK.below oy hb (Nat.le_refl _)) (RowOk.below (unhide HS) (hbr.trans (hb.mono hbr.size)) (Nat.le_refl _)) (unhide HG) (hpoll.below hb (Nat.le_refl _)))
    have HU := hide (fun (e1 : x.length = 4) (e2 : y.length = 4) (W : World) (hb : Below wr.heap.size wr W) => put_any w.heap.size k s t x y bb k (vtKeys (vs.take k)) W (bytesK.below ox hb (Nat.le_refl _)) (bytesK.below oy hb (Nat.le_refl _)) e1 e2 (hpoll.below hb (Nat.le_refl _)) (by unfold maxLen; omega))
    have HST := hide (And.intro hpre (And.intro hst (And.intro hsn hz0)))
    have HB := hide hbr
    have i1 : (0 : Int) ≤ (k : Int) := by omega
    have i2 : (k : Int) < (len : Int) := by omega
    clear hc c oo ox oy hst hsn hz0 hpre hpoll hbr hv
    generalize vtOne sg (vtKeys (vs.take k)) (x, y, bb) = r at HF HST
    go_wp2_with fail
    have ka := SBlk.new wr #[.slice s.a s.n s.c, .slice t.a t.n t.c, .bool bb] 97
    have ba := below_alloc wr (.cells #[.slice s.a s.n s.c, .slice t.a t.n t.c, .bool bb] 97)
    refine ((unhide HF) _ ba).mono ?_
    rintro e w1 ⟨rfl, b1⟩
    have B1 := hide (ba.trans (b1.mono ba.size))
    have k1 := ka.below b1 ka.lt
    have d0 := k1.cell 0
    have d1 := k1.cell 1
    have d2 := k1.cell 2
    simp only [List.getElem?_cons_zero, List.getElem?_cons_succ] at d0 d1 d2
    clear ka ba b1 k1 HF
    by_cases hr : r = 0
    · subst hr
      have h00 : ((0 : Int) != 0) = false := by simp
      go_wp2_with fail
      have hzz := (unhide HST).2.2.2 (by simp)
      refine ((unhide HU) hzz.1 hzz.2.1 _ (unhide B1)).mono ?_
      rintro e w2 ⟨rfl, p2, g2⟩
      have B2 := hide (((unhide HB).trans ((unhide B1).mono (unhide HB).size)).grown g2 ((unhide HB).trans ((unhide B1).mono (unhide HB).size)).size (fun q e => by cases e; exact Nat.le_refl _))
      have P2 := hide p2
      clear p2 g2 hzz
      go_wp2_with fail
      go_roundw
      case rel => exact ⟨k + 1, by omega, by go_num, by rw [(unhide HST).1, (unhide HST).2.1]; simp, by rw [(unhide HST).2.2.1]; exact unhide P2, unhide B2⟩
      case measure => simp [intOf]; omega
    · have h00 : (r != 0) = true := by simp [hr]
      have HE : Hid (vtFrom sg vs 0 vs = r) := by show _ = _; rw [(unhide HST).1, (unhide HST).2.1, if_neg hr]
      go_wp2_with fail
      go_ret
      exact ⟨ret_int (unhide HE).symm, (unhide HB).trans ((unhide B1).mono (unhide HB).size)⟩
  · obtain rfl : k = len := by omega
    rw [List.drop_eq_nil_of_le (by rw [← unhide HL]; exact Nat.le_refl _)] at hpre
    have HE : Hid (vtFrom sg vs 0 vs = 0) := hpre
    have HB := hide hbr
    clear hpre hpoll hbr
    go_wp2_with fail
    go_ret
    exact ⟨ret_int (unhide HE).symm, unhide HB⟩

set_option maxHeartbeats 2000000 in
theorem recentsFault_any (rS : Sl) (rs : List Rc) (last : Int) (w : World) (o : RowOk rcK w rS rs) (hl : rs.length ≤ 1048576) (hlast : 0 ≤ last ∧ last ≤ 1099511627776) :
    Calls Tryz.prog 96 #[.slice rS.a rS.n rS.c, .int .i64 last] w fun e w' => e = .returned (.int .i64 (rcFrom last 0 rs)) ∧ Below w.heap.size w w' := by
 obtain ⟨a, len, cap⟩ := rS
 have hil : len = rs.length := o.len
 have HR := hide (fun hp => RowOk.pos o hp)
 have HL := hide hil
 have hln : len ≤ 1048576 := by omega
 clear o hil hl
 go_enter Tryz.func96, Tryz.ntmps96
 go_wp2_with fail
 go_loopw [5, 10] (fun q i wr => ∃ (k : Nat) (L : Int), k ≤ len ∧ q = .int .i64 L ∧ i = .int .i64 k ∧ 0 ≤ L ∧ L ≤ 1099511627777 ∧ rcFrom last 0 rs = rcFrom last L (rs.drop k) ∧ Below w.heap.size w wr) (fun _ i _ => len - (intOf i).toNat)
 case atStart => exact ⟨0, 0, Nat.zero_le _, rfl, rfl, by omega, by omega, by simp, Below.refl _ _⟩
 case round =>
  obtain ⟨k, L, hk, rfl, rfl, hL0, hL1, hpre, hbr⟩ := hrel
  by_cases hlt : k < len
  · obtain ⟨b, off, ea, hb, hc⟩ := (unhide HR) (by show 0 < len; omega)
    subst ea
    obtain ⟨v, hv⟩ : ∃ v, rs[k]? = some v := ⟨_, List.getElem?_eq_getElem (by rw [← unhide HL]; exact hlt)⟩
    obtain ⟨⟨⟨⟩, s⟩, c, oo⟩ := hc k v hv
    have hst := rcFrom_step last L rs k v hv
    obtain ⟨n, z⟩ := v
    have c0 := (hbr.cell (p := ⟨b, off + k * rcK.m + 0, none⟩) hb).trans (c 0 _ rfl)
    have c1 := (hbr.cell (p := ⟨b, off + k * rcK.m + 1, none⟩) hb).trans (c 1 _ rfl)
    simp only [Nat.add_zero, show rcK.m = 2 from rfl] at c0 c1
    have lz : z.length = s.n := oo.2.row.1
    have hone : rcOne last L (n, z) = if (((s.n : Nat) : Int) == 4) = false then 1 else if within n L last = false then 3 else 0 := by
     unfold rcOne
     rw [← beq4 s.n, ← lz]
    rw [hone] at hst
    have hw : within n L last = true → 0 ≤ n ∧ n ≤ 1099511627776 := fun h => by unfold within at h; simp at h; omega
    have A1 := hide (fun W => isAddr_any s.a s.n s.c W)
    have A2 := hide (fun W => isWithin_any n L last W)
    have HST := hide (And.intro hpre hst)
    have HW := hide hw
    have HB := hide hbr
    have i1 : (0 : Int) ≤ (k : Int) := by omega
    have i2 : (k : Int) < (len : Int) := by omega
    have ka := SBlk.new wr #[.int .i64 n, .slice s.a s.n s.c] 93
    have ba := below_alloc wr (.cells #[.int .i64 n, .slice s.a s.n s.c] 93)
    have HBA := hide ((unhide HB).trans (ba.mono (unhide HB).size))
    clear hc c oo hst hpre hbr hv hone hw lz
    generalize (((s.n : Nat) : Int) == 4) = p1 at A1 HST
    generalize within n L last = p2 at A2 HST HW
    obtain ⟨W0, e0⟩ : ∃ W, wr.alloc (.cells #[.int .i64 n, .slice s.a s.n s.c] 93) = W := ⟨_, rfl⟩
    rw [e0] at ka HBA
    have d0 := ka.cell 0
    have d1 := ka.cell 1
    simp only [List.getElem?_cons_zero, List.getElem?_cons_succ] at d0 d1
    clear ka ba
    go_wp2_with (rw [e0])
    try rw [e0]
    clear e0
    refine ((unhide A1) _).mono ?_
    rintro e w1 ⟨rfl, rfl⟩
    cases p1
    · have HE : Hid (rcFrom last 0 rs = 1) := by show _ = _; rw [(unhide HST).1, (unhide HST).2]; simp
      go_wp2_with fail
      go_ret
      exact ⟨ret_int (unhide HE).symm, unhide HBA⟩
    go_wp2_with fail
    refine ((unhide A2) _).mono ?_
    rintro e w2 ⟨rfl, rfl⟩
    cases p2
    · have HE : Hid (rcFrom last 0 rs = 3) := by show _ = _; rw [(unhide HST).1, (unhide HST).2]; simp
      go_wp2_with fail
      go_ret
      exact ⟨ret_int (unhide HE).symm, unhide HBA⟩
    have hn := (unhide HW) (by first | rfl | simp)
    have hn1 : IntKind.i64.wrap (n + 1) = n + 1 := by rw [IntKind.wrap_i64]; omega
    go_wp2_with fail
    go_roundw
    case rel => exact ⟨k + 1, n + 1, by omega, rfl, by go_num, by omega, by omega, by rw [(unhide HST).1, (unhide HST).2]; simp, unhide HBA⟩
    case measure => simp [intOf]; omega
  · obtain rfl : k = len := by omega
    rw [List.drop_eq_nil_of_le (by rw [← unhide HL]; exact Nat.le_refl _)] at hpre
    have HE : Hid (rcFrom last 0 rs = 0) := hpre
    have HB := hide hbr
    clear hpre hbr
    go_wp2_with fail
    go_ret
    exact ⟨ret_int (unhide HE).symm, unhide HB⟩

set_option maxRecDepth 100000

set_option maxHeartbeats 4000000 in
theorem implSnapFault_any (e : SnS) (x : Sn) (w : World) (o : SNK.Ok w e x) (m : SnSm x) :
    Calls Tryz.prog 64 #[.agg (snvals e x)] w fun r w' => r = .returned (.int .i64 (snFlt x)) ∧ Below w.heap.size w w' := by
 have kb := SBlk.new w (snvals e x) 37
 have bb := below_alloc w (.cells (snvals e x) 37)
 obtain ⟨W0, e0⟩ : ∃ W, w.alloc (.cells (snvals e x) 37) = W := ⟨_, rfl⟩
 rw [e0] at kb bb
 obtain ⟨ee0, e1, e2, e3⟩ := e
 obtain ⟨x0, x1, x2, x3⟩ := x
 have D0 := hide (fun W => isNumber_to x0 _ W rfl)
 have D1 := hide (someSigners_any e1 x1 W0 (RowOk.below o.2.1 bb (Nat.le_refl _)) m.s)
 have D2 := hide (fun (h : 0 ≤ x0 ∧ x0 ≤ 1099511627776) => recentsFault_any e2 x2 x0 W0 (RowOk.below o.2.2.1 bb (Nat.le_refl _)) m.r h)
 have D3 := hide (fun (W : World) (hb : Below W0.heap.size W0 W) (hs : sgFlt x1 = 0) (hl : x3.length ≤ 30) => votesFaultS_any e3 e1 x3 x1 W (RowOk.below o.2.2.2 (bb.trans (hb.mono bb.size)) (Nat.le_refl _)) (RowOk.below o.2.1 (bb.trans (hb.mono bb.size)) (Nat.le_refl _)) hs hl)
 have l2 : e2.n = x2.length := o.2.2.1.len
 have l3 : e3.n = x3.length := o.2.2.2.len
 have LL := hide (And.intro l2 l3)
 have HK := hide (fun (W : World) (hb : Below W0.heap.size W0 W) => kb.below hb kb.lt)
 have HBB := hide bb
 have c0 := kb.cell 0
 have c1 := kb.cell 1
 have c2 := kb.cell 2
 have c3 := kb.cell 3
 simp only [snvals, List.getElem?_cons_zero, List.getElem?_cons_succ] at c0 c1 c2 c3
 have HE : Hid (snFlt (x0, x1, x2, x3) = if within x0 0 1099511627776 = false then 3 else if sgSome x1 ≠ 0 then sgSome x1 else if 7 < e2.n ∨ 30 < e3.n then 2 else if rcFrom x0 0 x2 ≠ 0 then rcFrom x0 0 x2 else vtFrom x1 x3 0 x3) := by
  show _ = _
  rw [l2, l3]
  rfl
 have HW : Hid (within x0 0 1099511627776 = true → 0 ≤ x0 ∧ x0 ≤ 1099511627776) := fun h => by unfold within at h; simpa using h
 have HG : Hid (sgSome x1 = 0 → sgFlt x1 = 0) := fun h => by unfold sgSome at h; split at h; omega; exact h
 clear o m kb bb l2 l3
 unfold snvals at e0 ⊢
 simp only at e0 ⊢
 generalize snFlt (x0, x1, x2, x3) = r at HE ⊢
 generalize within x0 0 1099511627776 = p0 at D0 HE HW
 generalize sgSome x1 = p1 at D1 HE HG
 go_enter Tryz.func64, Tryz.ntmps64
 go_wp2_with (rw [e0])
 try rw [e0]
 clear e0
 refine ((unhide D0) _).mono ?_
 rintro e w1 ⟨rfl, rfl⟩
 cases p0
 · go_wp2_with fail
   go_ret
   exact ⟨ret_int (by rw [unhide HE]; simp), unhide HBB⟩
 go_wp2_with fail
 refine (unhide D1).mono ?_
 rintro e w2 ⟨rfl, rfl⟩
 by_cases n1 : p1 = 0
 case neg =>
  have h1 : (p1 != 0) = true := by simp [n1]
  go_wp2_with fail
  go_ret
  exact ⟨ret_int (by rw [unhide HE]; simp [n1]), unhide HBB⟩
 subst n1
 have h1 : ((0 : Int) != 0) = false := by simp
 by_cases n2 : 7 < e2.n
 · have h2 : decide ((7 : Int) < (e2.n : Int)) = true := decide_eq_true (by omega)
   go_wp2_with fail
   go_ret
   exact ⟨ret_int (by rw [unhide HE]; simp [n2]), unhide HBB⟩
 have h2 : decide ((7 : Int) < (e2.n : Int)) = false := decide_eq_false (by omega)
 by_cases n3 : 30 < e3.n
 · have h3 : decide ((30 : Int) < (e3.n : Int)) = true := decide_eq_true (by omega)
   go_wp2_with fail
   go_ret
   exact ⟨ret_int (by rw [unhide HE]; simp [n3]), unhide HBB⟩
 have h3 : decide ((30 : Int) < (e3.n : Int)) = false := decide_eq_false (by omega)
 have HE2 : Hid (r = if rcFrom x0 0 x2 ≠ 0 then rcFrom x0 0 x2 else vtFrom x1 x3 0 x3) := by show _ = _; rw [unhide HE]; simp [n2, n3]
 have D2' := hide ((unhide D2) ((unhide HW) (by simp)))
 have hl3 : Hid (x3.length ≤ 30) := by have := (unhide LL).2; show _ ≤ _; omega
 have hg : Hid (sgFlt x1 = 0) := (unhide HG) (by simp)
 clear HE D2
 generalize rcFrom x0 0 x2 = p2 at D2' HE2
 go_wp2_with fail
 refine (unhide D2').mono ?_
 rintro e w3 ⟨rfl, b3⟩
 have K3 := hide b3
 have HB3 := hide ((unhide HBB).trans (b3.mono (unhide HBB).size))
 have k3 := (unhide HK) w3 b3
 have d1 := k3.cell 1
 have d3 := k3.cell 3
 simp only [snvals, List.getElem?_cons_zero, List.getElem?_cons_succ] at d1 d3
 clear b3 k3
 by_cases n4 : p2 = 0
 case neg =>
  have h4 : (p2 != 0) = true := by simp [n4]
  go_wp2_with fail
  go_ret
  exact ⟨ret_int (by rw [unhide HE2]; simp [n4]), unhide HB3⟩
 subst n4
 have D3' := hide ((unhide D3) w3 (unhide K3) (unhide hg) (unhide hl3))
 generalize vtFrom x1 x3 0 x3 = p3 at D3' HE2
 go_wp2_with fail
 refine (unhide D3').mono ?_
 rintro e w4 ⟨rfl, b4⟩
 have HB4 := hide ((unhide HB3).trans (b4.mono (unhide HB3).size))
 clear b4
 go_wp2_with fail
 go_ret
 exact ⟨ret_int (by rw [unhide HE2]; simp), unhide HB4⟩

set_option maxRecDepth 100000

/-- The place of one from a place on; -1: it is not there. -/
def atFrom {α : Type} [DecidableEq α] (z : α) : Nat → List α → Int
 | _, [] => -1
 | k, y :: r => if y = z then (k : Int) else atFrom z (k + 1) r

theorem atFrom_step {α : Type} [DecidableEq α] (z : α) (zs : List α) (k : Nat) (y : α) (h : zs[k]? = some y) : atFrom z k (zs.drop k) = if y = z then (k : Int) else atFrom z (k + 1) (zs.drop (k + 1)) := by
 obtain ⟨hk, e⟩ := List.getElem?_eq_some_iff.1 h
 rw [List.drop_eq_getElem_cons hk, e]
 rfl

theorem atFrom_neg {α : Type} [DecidableEq α] (z : α) : ∀ (zs : List α) (k : Nat), decide (atFrom z k zs < 0) = !decide (z ∈ zs)
 | [], k => by simp [atFrom]
 | y :: r, k => by
  unfold atFrom
  by_cases e : y = z
  · subst e
    have h : ¬ ((k : Int) < 0) := by omega
    simp [h]
  · have e' : ¬ z = y := fun q => e q.symm
    rw [if_neg e, atFrom_neg z r (k + 1)]
    simp [e']

/-- Where one stands is the first of its places. -/
theorem atFrom_at {α : Type} [DecidableEq α] (z : α) : ∀ (zs : List α) (k i : Nat), zs[i]? = some z → (atFrom z k zs == ((k + i : Nat) : Int)) = !decide (z ∈ zs.take i)
 | [], k, i, h => by simp at h
 | y :: r, k, 0, h => by
  simp at h
  subst h
  simp [atFrom]
 | y :: r, k, i + 1, h => by
  rw [List.getElem?_cons_succ] at h
  unfold atFrom
  by_cases e : y = z
  · subst e
    have h1 : ¬ ((k : Int) = ((k + (i + 1) : Nat) : Int)) := by omega
    simp only [if_true, List.take_succ_cons, List.mem_cons, true_or, decide_true, Bool.not_true]
    rw [beq_eq_false_iff_ne]
    exact h1
  · have e' : ¬ z = y := fun q => e q.symm
    rw [if_neg e, show ((k + (i + 1) : Nat) : Int) = ((k + 1 + i : Nat) : Int) by omega, atFrom_at z r (k + 1) i h]
    simp [e']

set_option maxRecDepth 100000

theorem l1Same_any (a b : Option Addr) (la ca lb cb : Nat) (xs ys : List Int) (w : World) (ha : BRow w a la xs) (hb : BRow w b lb ys) :
    Calls Tryz.prog 56 #[.slice a la ca, .slice b lb cb] w fun e w' => e = .returned (.bool (strEq xs ys)) ∧ w' = w := by
 have h1 := conv_any (P := Tryz.prog) w 29 5 9 Tryz.underlying29 Tryz.underlying5 Tryz.underlying9 a la ca xs ha
 have h2 := conv_any (P := Tryz.prog) w 29 5 9 Tryz.underlying29 Tryz.underlying5 Tryz.underlying9 b lb cb ys hb
 clear ha hb
 go_enter Tryz.func56, Tryz.ntmps56
 go_wp2
 go_ret
 exact ⟨rfl, rfl⟩

set_option maxRecDepth 100000

/-- Whether two lists of bytes are the same, as strings. -/
def sameLs : List (List Int) → List (List Int) → Bool
 | [], [] => true
 | a :: ar, b :: bs => strEq a b && sameLs ar bs
 | _, _ => false

/-- Whether two headers are the same. -/
def sameHd (h k : Hd) : Bool := strEq h.p k.p && (h.n1 == k.n1) && (h.n2 == k.n2) && (h.n3 == k.n3) && strEq h.t k.t && (h.n5 == k.n5) && sameLs h.s k.s && strEq h.r k.r && strEq h.g k.g && strEq h.e k.e && sameLs h.k k.k

set_option maxRecDepth 100000

set_option maxRecDepth 100000

theorem l1Same_kd (s t : Sl) (x y : List Int) (w : World) (o : BOk w s x) (q : BOk w t y) :
    Calls Tryz.prog 56 #[.slice s.a s.n s.c, .slice t.a t.n t.c] w fun e w' => e = .returned (.bool (decide (x = y))) ∧ w' = w := by
 rw [← strEq_dec o.row.2.1 q.row.2.1]
 exact l1Same_any s.a t.a s.n s.c t.n t.c x y w o.row q.row

set_option maxRecDepth 100000

theorem l7Addr_any (a : Option Addr) (n cap : Nat) (w : World) : Calls Tryz.prog 86 #[.slice a n cap] w fun e w' => e = .returned (.bool (((n : Nat) : Int) == 4)) ∧ w' = w := by
 go_enter Tryz.func86, Tryz.ntmps86
 go_wp2_with fail
 go_ret
 exact ⟨rfl, rfl⟩

set_option maxHeartbeats 2000000 in
theorem l7At_any (s t : Sl) (zss : List (List Int)) (z : List Int) (w : World) (h : RowOk bytesK w s zss) (ht : BOk w t z) (hl : zss.length ≤ 1048576) :
    Calls Tryz.prog 25 #[.slice s.a s.n s.c, .slice t.a t.n t.c] w fun e w' => e = .returned (.int .i64 (atFrom z 0 zss)) ∧ w' = w := by
 obtain ⟨a, len, cap⟩ := s
 have hil : len = zss.length := h.len
 have HR := hide (fun hp => RowOk.pos h hp)
 have HL := hide hil
 have hln : len ≤ 1048576 := by omega
 have HT := hide ht
 clear h hil hl ht
 go_enter Tryz.func25, Tryz.ntmps25
 go_wp2_with fail
 go_loop [5] (fun i => ∃ k : Nat, k ≤ len ∧ i = .int .i64 k ∧ atFrom z 0 zss = atFrom z k (zss.drop k)) (fun i => len - (intOf i).toNat)
 case atStart => exact ⟨0, Nat.zero_le _, rfl, by simp⟩
 case round =>
  obtain ⟨k, hk, rfl, hpre⟩ := hrel
  by_cases hlt : k < len
  · obtain ⟨b, off, ea, hb, hc⟩ := (unhide HR) (by show 0 < len; omega)
    subst ea
    obtain ⟨y, hy⟩ : ∃ v, zss[k]? = some v := ⟨_, List.getElem?_eq_getElem (by rw [← unhide HL]; exact hlt)⟩
    obtain ⟨el, c, oo⟩ := hc k y hy
    have hst := atFrom_step z zss k y hy
    have c0 := c 0 _ rfl
    simp only [Nat.add_zero, Nat.mul_one, show bytesK.m = 1 from rfl] at c0
    have HQ := hide (l1Same_kd el t y z w oo (unhide HT))
    have HST := hide (And.intro hpre hst)
    have i1 : (0 : Int) ≤ (k : Int) := by omega
    have i2 : (k : Int) < (len : Int) := by omega
    clear hc c oo hst hpre hy
    go_wp2_with fail
    refine (unhide HQ).mono ?_
    rintro e w1 ⟨rfl, rfl⟩
    by_cases e : y = z
    · rw [decide_eq_true e]
      have HE : Hid (atFrom z 0 zss = k) := by show _ = _; rw [(unhide HST).1, (unhide HST).2, if_pos e]
      go_wp2_with fail
      go_ret
      exact ⟨ret_int (unhide HE).symm, rfl⟩
    · rw [decide_eq_false e]
      go_wp2_with fail
      go_round
      case rel => exact ⟨k + 1, by omega, by go_num, by rw [(unhide HST).1, (unhide HST).2, if_neg e]⟩
      case measure => simp [intOf]; omega
  · obtain rfl : k = len := by omega
    rw [List.drop_eq_nil_of_le (by rw [← unhide HL]; exact Nat.le_refl _)] at hpre
    have HE : Hid (atFrom z 0 zss = -1) := hpre
    clear hpre
    go_wp2_with fail
    go_ret
    exact ⟨ret_int (unhide HE).symm, rfl⟩

set_option maxHeartbeats 2000000 in
theorem l7Vote_any (g : Nat) (e : SnS) (x : Sn) (T : TypeId) (s t : Sl) (y z : List Int) (w : World) (sb : SBlk w g (snvals e x).toList T) (o : RowOk vtK w e.2.2.2 x.2.2.2) (oy : BOk w s y) (oz : BOk w t z) (hl : x.2.2.2.length ≤ 1048576) :
    Calls Tryz.prog 87 #[.pointer (some ⟨g, 0, none⟩), .slice s.a s.n s.c, .slice t.a t.n t.c] w fun r w' => r = .returned (.int .i64 (atFrom (y, z) 0 (vtKeys x.2.2.2))) ∧ w' = w := by
 obtain ⟨ee, e1, e2, a, len, cap⟩ := e
 obtain ⟨x0, x1, x2, vs⟩ := x
 have hil : len = vs.length := o.len
 have HR := hide (fun hp => RowOk.pos o hp)
 have HL := hide hil
 have hln : len ≤ 1048576 := by simp only at hl; omega
 have HY := hide oy
 have HZ := hide oz
 have u3 := sb.cell 3
 simp only [snvals, List.getElem?_cons_zero, List.getElem?_cons_succ] at u3
 have HU := hide u3
 simp only at HR
 clear o hil hl oy oz sb
 go_enter Tryz.func87, Tryz.ntmps87
 go_wp2_with fail
 go_loop [7] (fun i => ∃ k : Nat, k ≤ len ∧ i = .int .i64 k ∧ atFrom (y, z) 0 (vtKeys vs) = atFrom (y, z) k ((vtKeys vs).drop k)) (fun i => len - (intOf i).toNat)
 case atStart => exact ⟨0, Nat.zero_le _, rfl, by simp⟩
 case round =>
  obtain ⟨k, hk, rfl, hpre⟩ := hrel
  by_cases hlt : k < len
  · obtain ⟨b, off, ea, hb, hc⟩ := (unhide HR) (by show 0 < len; omega)
    subst ea
    obtain ⟨v, hv⟩ : ∃ v, vs[k]? = some v := ⟨_, List.getElem?_eq_getElem (by rw [← unhide HL]; exact hlt)⟩
    have hkv : (vtKeys vs)[k]? = some (v.1, v.2.1) := by unfold vtKeys; rw [List.getElem?_map, hv]; rfl
    obtain ⟨⟨s0, s1, ⟨⟩⟩, c, oo⟩ := hc k v hv
    have hst := atFrom_step (y, z) (vtKeys vs) k _ hkv
    obtain ⟨v0, v1, vb⟩ := v
    have c0 := c 0 _ rfl
    have c1 := c 1 _ rfl
    simp only [Nat.add_zero, show vtK.m = 3 from rfl] at c0 c1
    have HQ0 := hide (l1Same_kd s0 s v0 y w oo.1 (unhide HY))
    have HQ1 := hide (l1Same_kd s1 t v1 z w oo.2.1 (unhide HZ))
    have HST := hide (And.intro hpre hst)
    have i1 : (0 : Int) ≤ (k : Int) := by omega
    have i2 : (k : Int) < (len : Int) := by omega
    clear hc c oo hst hpre hv hkv
    go_wp2_with fail
    refine (unhide HQ0).mono ?_
    rintro e w1 ⟨rfl, rfl⟩
    by_cases e0 : v0 = y
    case neg =>
     rw [decide_eq_false e0]
     go_wp2_with fail
     go_round
     case rel => exact ⟨k + 1, by omega, by go_num, by rw [(unhide HST).1, (unhide HST).2, if_neg (fun q => e0 (by simp only [Prod.mk.injEq] at q; exact q.1))]⟩
     case measure => simp [intOf]; omega
    rw [decide_eq_true e0]
    go_wp2_with fail
    refine (unhide HQ1).mono ?_
    rintro e w2 ⟨rfl, rfl⟩
    by_cases e1 : v1 = z
    · rw [decide_eq_true e1]
      have HE : Hid (atFrom (y, z) 0 (vtKeys vs) = k) := by show _ = _; rw [(unhide HST).1, (unhide HST).2, if_pos (by rw [e0, e1])]
      go_wp2_with fail
      go_ret
      exact ⟨ret_int (unhide HE).symm, rfl⟩
    · rw [decide_eq_false e1]
      go_wp2_with fail
      go_round
      case rel => exact ⟨k + 1, by omega, by go_num, by rw [(unhide HST).1, (unhide HST).2, if_neg (fun q => e1 (by simp only [Prod.mk.injEq] at q; exact q.2))]⟩
      case measure => simp [intOf]; omega
  · obtain rfl : k = len := by omega
    rw [List.drop_eq_nil_of_le (by unfold vtKeys; rw [List.length_map, ← unhide HL]; exact Nat.le_refl _)] at hpre
    have HE : Hid (atFrom (y, z) 0 (vtKeys vs) = -1) := hpre
    clear hpre
    go_wp2_with fail
    go_ret
    exact ⟨ret_int (unhide HE).symm, rfl⟩

set_option maxRecDepth 100000

theorem beq4' (n : Nat) : (n == 4) = (((n : Nat) : Int) == 4) := by
 rw [Bool.eq_iff_iff, beq_iff_eq, beq_iff_eq]
 omega

set_option maxHeartbeats 4000000 in
theorem l7Recents_any (g : Nat) (e : SnS) (x : Sn) (T : TypeId) (w : World) (sb : SBlk w g (snvals e x).toList T) (o : RowOk rcK w e.2.2.1 x.2.2.1) (hl : x.2.2.1.length ≤ 1048576) (hx : 0 ≤ x.1 ∧ x.1 ≤ 1099511627776) :
    Calls Tryz.prog 53 #[.pointer (some ⟨g, 0, none⟩)] w fun r w' => r = .returned (.int .i64 (rcFrom x.1 0 x.2.2.1)) ∧ ∃ n, w' = w.drewN n := by
 obtain ⟨ee, e1, ⟨a, len, cap⟩, e3⟩ := e
 obtain ⟨x0, x1, rs, x3⟩ := x
 have hil : len = rs.length := o.len
 have HR := hide (fun hp => RowOk.pos o hp)
 have HL := hide hil
 have hln : len ≤ 1048576 := by simp only at hl; omega
 have u0 := sb.cell 0
 have u2 := sb.cell 2
 simp only [snvals, List.getElem?_cons_zero, List.getElem?_cons_succ] at u0 u2
 simp only at HR hx
 clear o hil hl sb
 go_enter Tryz.func53, Tryz.ntmps53
 go_wp2_with fail
 have HU := hide (And.intro u0 u2)
 clear u0 u2
 go_loopw [3] (fun i wr => ∃ (k n : Nat) (L : Int), k ≤ len ∧ i = .int .i64 k ∧ 0 ≤ L ∧ L ≤ 1099511627777 ∧ (k = 0 → L = 0) ∧ (∀ j p, k = j + 1 → rs[j]? = some p → L = p.1 + 1) ∧ rcFrom x0 0 rs = rcFrom x0 L (rs.drop k) ∧ wr = w.drewN n) (fun i _ => len - (intOf i).toNat)
 case atStart => exact ⟨0, 0, 0, Nat.zero_le _, rfl, by omega, by omega, fun _ => rfl, fun j p h => by omega, by simp, rfl⟩
 case round =>
  obtain ⟨k, n, L, hk, rfl, hL0, hL1, hz, hs, hpre, hw⟩ := hrel
  have hbw : Below w.heap.size w wr := by rw [hw]; exact below_drewN (Below.refl _ _) n
  have q0 : wr.cell? ⟨g, 0, none⟩ = some (.int .i64 x0) := by rw [hw]; exact (unhide HU).1
  have q2 : wr.cell? ⟨g, 2, none⟩ = some (.slice a len cap) := by rw [hw]; exact (unhide HU).2
  have HW := hide hw
  clear hw
  by_cases hlt : k < len
  · obtain ⟨b, off, ea, hb, hc⟩ := (unhide HR) (by show 0 < len; omega)
    subst ea
    obtain ⟨v, hv⟩ : ∃ v, rs[k]? = some v := ⟨_, List.getElem?_eq_getElem (by rw [← unhide HL]; exact hlt)⟩
    obtain ⟨⟨⟨⟩, s⟩, c, oo⟩ := hc k v hv
    have hst := rcFrom_step x0 L rs k v hv
    obtain ⟨m, z⟩ := v
    have c0 := (hbw.cell (p := ⟨b, off + k * rcK.m + 0, none⟩) hb).trans (c 0 _ rfl)
    have c1 := (hbw.cell (p := ⟨b, off + k * rcK.m + 1, none⟩) hb).trans (c 1 _ rfl)
    simp only [Nat.add_zero, show rcK.m = 2 from rfl] at c0 c1
    have lz : z.length = s.n := oo.2.row.1
    have hone : rcOne x0 L (m, z) = if (((s.n : Nat) : Int) == 4) = false then 1 else if within m L x0 = false then 3 else 0 := by
     unfold rcOne
     rw [← beq4' s.n, ← lz]
    rw [hone] at hst
    have A1 := hide (fun W => l7Addr_any s.a s.n s.c W)
    have A2 := hide (fun W => in_any m 0 x0 W)
    have HST := hide (And.intro hpre hst)
    have i1 : (0 : Int) ≤ (k : Int) := by omega
    have i2 : (k : Int) < (len : Int) := by omega
    have i64m : in64 m := oo.1
    have HPV : Hid (∀ j p, k = j + 1 → rs[j]? = some p → wr.cell? ⟨b, off + j * 2, none⟩ = some (.int .i64 p.1)) := fun j p hj hp => by
     obtain ⟨⟨⟨⟩, s'⟩, c', _⟩ := hc j p hp
     have q := (hbw.cell (p := ⟨b, off + j * rcK.m + 0, none⟩) hb).trans (c' 0 _ rfl)
     simp only [Nat.add_zero, show rcK.m = 2 from rfl] at q
     exact q
    have HHS := hide (And.intro hz hs)
    have HV := hide hv
    clear hc c oo hst hpre hv hone lz hbw hz hs
    generalize (((s.n : Nat) : Int) == 4) = p1 at A1 HST
    go_wp2_with fail
    refine ((unhide A1) _).mono ?_
    rintro e w1 ⟨rfl, rfl⟩
    cases p1
    · have HE : Hid (rcFrom x0 0 rs = 1) := by show _ = _; rw [(unhide HST).1, (unhide HST).2]; simp
      go_wp2_with fail
      go_ret
      exact ⟨ret_int (unhide HE).symm, n, unhide HW⟩
    go_wp2_with fail
    by_cases hin : 0 ≤ m ∧ m ≤ x0
    case neg =>
     have hwi : within m L x0 = false := by unfold within; exact decide_eq_false (by omega)
     have HE : Hid (rcFrom x0 0 rs = 3) := by show _ = _; rw [(unhide HST).1, (unhide HST).2]; simp [hwi]
     rw [decide_eq_false hin] at A2
     clear HST HHS HPV
     go_quiet ((go_at_call 50; exact Calls.quiet_of_same ((unhide A2) _)))
     go_wp2_with fail
     go_ret
     exact ⟨ret_int (unhide HE).symm, _, by rw [unhide HW]; first | rfl | exact World.drewN_drewN ..⟩
    rw [decide_eq_true hin] at A2
    rcases Nat.eq_zero_or_pos k with hk0 | hkp
    · have hLz := (unhide HHS).1 hk0
      have hwi : within m L x0 = true := by unfold within; exact decide_eq_true (by omega)
      have h0 : decide ((0 : Int) < (k : Int)) = false := decide_eq_false (by omega)
      have h0' : decide (0 < k) = false := decide_eq_false (by omega)
      have hm1 : m + 1 ≤ 1099511627777 := by omega
      have HREL : Hid (∀ j p, k + 1 = j + 1 → rs[j]? = some p → m + 1 = p.1 + 1) := fun j p hj hp => by
       obtain rfl : k = j := by omega
       have := unhide HV
       rw [hp] at this
       cases this
       rfl
      clear HPV HHS hk0 hLz HV
      go_quiet ((go_at_call 50; exact Calls.quiet_of_same ((unhide A2) _)))
      go_wp2_with fail
      go_roundw
      case rel => exact ⟨k + 1, _, m + 1, by omega, by go_num, by omega, by omega, fun h => by omega, unhide HREL, by rw [(unhide HST).1, (unhide HST).2]; simp [hwi], by rw [unhide HW]; first | rfl | exact World.drewN_drewN ..⟩
      case measure => simp [intOf]; omega
    · obtain ⟨j, rfl⟩ : ∃ j, k = j + 1 := ⟨k - 1, by omega⟩
      obtain ⟨p, hp⟩ : ∃ p, rs[j]? = some p := ⟨_, List.getElem?_eq_getElem (by rw [← unhide HL]; omega)⟩
      have hLp := (unhide HHS).2 j p rfl hp
      have cp := (unhide HPV) j p rfl hp
      have h0 : decide ((0 : Int) < ((j + 1 : Nat) : Int)) = true := decide_eq_true (by omega)
      have h0' : decide (0 < j + 1) = true := decide_eq_true (by omega)
      have ws : IntKind.i64.wrap (((j + 1 : Nat) : Int) - 1) = (j : Int) := by rw [IntKind.wrap_i64]; omega
      have j1 : (0 : Int) ≤ (j : Int) := by omega
      have j2 : (j : Int) < (len : Int) := by omega
      clear HPV HHS hp
      generalize p.1 = pn at cp hLp
      obtain ⟨kk, ekk⟩ : ∃ kk : Nat, kk = j + 1 := ⟨_, rfl⟩
      rw [← ekk] at ws h0 h0' c0 c1 i1 i2 HST HV hlt hk ⊢
      by_cases hle : m ≤ pn
      · have hwi : within m L x0 = false := by unfold within; exact decide_eq_false (by omega)
        have HE : Hid (rcFrom x0 0 rs = 3) := by show _ = _; rw [(unhide HST).1, (unhide HST).2]; simp [hwi]
        have hd : decide (m ≤ pn) = true := decide_eq_true hle
        have EK := hide ekk
        clear ekk HST hLp hwi
        go_quiet ((go_at_call 50; exact Calls.quiet_of_same ((unhide A2) _)))
        go_wp2_with fail
        go_ret
        exact ⟨ret_int (unhide HE).symm, _, by rw [unhide HW]; first | rfl | exact World.drewN_drewN ..⟩
      · have hwi : within m L x0 = true := by unfold within; exact decide_eq_true (by omega)
        have hd : decide (m ≤ pn) = false := decide_eq_false hle
        have hLm : L ≤ m := by omega
        have HREL : Hid (∀ j p, kk + 1 = j + 1 → rs[j]? = some p → m + 1 = p.1 + 1) := fun j p hj hp => by
         obtain rfl : kk = j := by omega
         have := unhide HV
         rw [hp] at this
         cases this
         rfl
        have EK := hide ekk
        clear ekk hLp HV
        go_quiet ((go_at_call 50; exact Calls.quiet_of_same ((unhide A2) _)))
        go_wp2_with fail
        go_roundw
        case rel => exact ⟨kk + 1, _, m + 1, by omega, by go_num, by omega, by omega, fun h => by omega, unhide HREL, by rw [(unhide HST).1, (unhide HST).2]; simp [hwi], by rw [unhide HW]; first | rfl | exact World.drewN_drewN ..⟩
        case measure => have := unhide EK; simp [intOf]; omega
  · obtain rfl : k = len := by omega
    rw [List.drop_eq_nil_of_le (by rw [← unhide HL]; exact Nat.le_refl _)] at hpre
    have HE : Hid (rcFrom x0 0 rs = 0) := hpre
    clear hpre hbw
    go_wp2_with fail
    go_ret
    exact ⟨ret_int (unhide HE).symm, n, unhide HW⟩

set_option maxHeartbeats 4000000 in
theorem l7Votes_any (g : Nat) (e : SnS) (x : Sn) (T : TypeId) (w : World) (sb : SBlk w g (snvals e x).toList T) (o : RowOk vtK w e.2.2.2 x.2.2.2) (os : RowOk bytesK w e.2.1 x.2.1) (hl : x.2.2.2.length ≤ 1048576) (hl2 : x.2.1.length ≤ 1048576) :
    Calls Tryz.prog 54 #[.pointer (some ⟨g, 0, none⟩)] w fun r w' => r = .returned (.int .i64 (vtFrom x.2.1 x.2.2.2 0 x.2.2.2)) ∧ ∃ n, w' = w.drewN n := by
 have HVT := hide (fun (W : World) (hb : Below w.heap.size w W) (s t : Sl) (y z : List Int) (oy : BOk W s y) (oz : BOk W t z) => l7Vote_any g e x T s t y z W (sb.below hb sb.lt) (RowOk.below o hb (Nat.le_refl _)) oy oz hl)
 obtain ⟨ee, sS, e2, ⟨a, len, cap⟩⟩ := e
 obtain ⟨x0, sg, x2, vs⟩ := x
 have hil : len = vs.length := o.len
 have HR := hide (fun hp => RowOk.pos o hp)
 have HL := hide hil
 have HOS := hide os
 have hln : len ≤ 1048576 := by simp only at hl; omega
 have HSL := hide hl2
 have u1 := sb.cell 1
 have u3 := sb.cell 3
 simp only [snvals, List.getElem?_cons_zero, List.getElem?_cons_succ] at u1 u3
 simp only at HR HOS HVT HSL
 have HU := hide (And.intro u1 u3)
 clear o os hil hl hl2 sb
 go_enter Tryz.func54, Tryz.ntmps54
 go_wp2_with fail
 clear u1 u3
 go_loopw [3] (fun i wr => ∃ k n : Nat, k ≤ len ∧ i = .int .i64 k ∧ vtFrom sg vs 0 vs = vtFrom sg vs k (vs.drop k) ∧ wr = w.drewN n) (fun i _ => len - (intOf i).toNat)
 case atStart => exact ⟨0, 0, Nat.zero_le _, rfl, by simp, rfl⟩
 case round =>
  obtain ⟨k, n, hk, rfl, hpre, hw⟩ := hrel
  have hbw : Below w.heap.size w wr := by rw [hw]; exact below_drewN (Below.refl _ _) n
  have q1 : wr.cell? ⟨g, 1, none⟩ = some (.slice sS.a sS.n sS.c) := by rw [hw]; exact (unhide HU).1
  have q3 : wr.cell? ⟨g, 3, none⟩ = some (.slice a len cap) := by rw [hw]; exact (unhide HU).2
  have HW := hide hw
  clear hw
  by_cases hlt : k < len
  · obtain ⟨b, off, ea, hb, hc⟩ := (unhide HR) (by show 0 < len; omega)
    subst ea
    obtain ⟨v, hv⟩ : ∃ v, vs[k]? = some v := ⟨_, List.getElem?_eq_getElem (by rw [← unhide HL]; exact hlt)⟩
    obtain ⟨⟨s, t, ⟨⟩⟩, c, oo⟩ := hc k v hv
    have hst := vtFrom_step sg vs k v hv
    have hkv : (vtKeys vs)[k]? = some (v.1, v.2.1) := by unfold vtKeys; rw [List.getElem?_map, hv]; rfl
    have hat := atFrom_at (v.1, v.2.1) (vtKeys vs) 0 k hkv
    have htk : (vtKeys vs).take k = vtKeys (vs.take k) := by unfold vtKeys; rw [List.map_take]
    rw [htk] at hat
    obtain ⟨y, z, bb⟩ := v
    have c0 := (hbw.cell (p := ⟨b, off + k * vtK.m + 0, none⟩) hb).trans (c 0 _ rfl)
    have c1 := (hbw.cell (p := ⟨b, off + k * vtK.m + 1, none⟩) hb).trans (c 1 _ rfl)
    have c2 := (hbw.cell (p := ⟨b, off + k * vtK.m + 2, none⟩) hb).trans (c 2 _ rfl)
    simp only [Nat.add_zero, show vtK.m = 3 from rfl] at c0 c1 c2
    have oy := bytesK.below oo.1 hbw (Nat.le_refl _)
    have oz := bytesK.below oo.2.1 hbw (Nat.le_refl _)
    have ly : y.length = s.n := oy.row.1
    have lz : z.length = t.n := oz.row.1
    have hone : vtOne sg (vtKeys (vs.take k)) (y, z, bb) = if ((((s.n : Nat) : Int) == 4) && (((t.n : Nat) : Int) == 4)) = false then 1 else if decide (y ∈ sg) = false then 4 else if (bb == decide (z ∈ sg)) = true then 8 else if decide ((y, z) ∈ vtKeys (vs.take k)) = true then 6 else 0 := by
     unfold vtOne
     simp only [ly, lz, beq4']
    rw [hone] at hst
    have A1 := hide (fun W => l7Addr_any s.a s.n s.c W)
    have A2 := hide (fun W => l7Addr_any t.a t.n t.c W)
    have T1 := hide (fun (W : World) (hb : Below wr.heap.size wr W) => l7At_any sS s sg y W (RowOk.below (unhide HOS) (hbw.trans (hb.mono hbw.size)) (Nat.le_refl _)) (bytesK.below oy hb (Nat.le_refl _)) (unhide HSL))
    have T2 := hide (fun (W : World) (hb : Below wr.heap.size wr W) => l7At_any sS t sg z W (RowOk.below (unhide HOS) (hbw.trans (hb.mono hbw.size)) (Nat.le_refl _)) (bytesK.below oz hb (Nat.le_refl _)) (unhide HSL))
    have T3 := hide (fun (W : World) (hb : Below wr.heap.size wr W) => (unhide HVT) W (hbw.trans (hb.mono hbw.size)) s t y z (bytesK.below oy hb (Nat.le_refl _)) (bytesK.below oz hb (Nat.le_refl _)))
    have t1 : decide (atFrom y 0 sg < 0) = !decide (y ∈ sg) := by have h := atFrom_neg y sg 0; rw [h]; by_cases q : y ∈ sg <;> simp [q]
    have t2 : decide (atFrom z 0 sg < 0) = !decide (z ∈ sg) := by have h := atFrom_neg z sg 0; rw [h]; by_cases q : z ∈ sg <;> simp [q]
    have hat : (atFrom (y, z) 0 (vtKeys vs) == ((0 + k : Nat) : Int)) = !decide ((y, z) ∈ vtKeys (vs.take k)) := by rw [hat]; by_cases q : (y, z) ∈ vtKeys (vs.take k) <;> simp [q]
    have HST := hide (And.intro hpre hst)
    have i1 : (0 : Int) ≤ (k : Int) := by omega
    have i2 : (k : Int) < (len : Int) := by omega
    clear hc c oo hst hpre hv hone ly lz hbw oy oz hkv htk
    generalize (((s.n : Nat) : Int) == 4) = p1 at A1 HST
    generalize (((t.n : Nat) : Int) == 4) = p2 at A2 HST
    generalize atFrom y 0 sg = f1 at T1 t1
    generalize atFrom z 0 sg = f2 at T2 t2
    generalize atFrom (y, z) 0 (vtKeys vs) = f3 at T3 hat
    generalize decide (y ∈ sg) = m1 at t1 HST
    generalize decide (z ∈ sg) = m2 at t2 HST
    generalize decide ((y, z) ∈ vtKeys (vs.take k)) = m3 at hat HST
    have t2' : decide (0 ≤ f2) = m2 := by
     by_cases h : f2 < 0
     · rw [decide_eq_true h] at t2
       rw [decide_eq_false (by omega)]
       cases m2
       · rfl
       · exact absurd t2 (by decide)
     · rw [decide_eq_false h] at t2
       rw [decide_eq_true (by omega)]
       cases m2
       · exact absurd t2 (by decide)
       · rfl
    have hne : (f3 != (k : Int)) = m3 := by
     rw [Nat.zero_add] at hat
     unfold bne
     rw [hat]
     cases m3 <;> rfl
    clear t2 hat
    go_wp2_with fail
    refine ((unhide A1) _).mono ?_
    rintro e w1 ⟨rfl, rfl⟩
    cases p1
    · have HE : Hid (vtFrom sg vs 0 vs = 1) := by show _ = _; rw [(unhide HST).1, (unhide HST).2]; simp
      go_wp2_with fail
      go_ret
      exact ⟨ret_int (unhide HE).symm, n, unhide HW⟩
    go_wp2_with fail
    refine ((unhide A2) _).mono ?_
    rintro e w2 ⟨rfl, rfl⟩
    cases p2
    · have HE : Hid (vtFrom sg vs 0 vs = 1) := by show _ = _; rw [(unhide HST).1, (unhide HST).2]; simp
      go_wp2_with fail
      go_ret
      exact ⟨ret_int (unhide HE).symm, n, unhide HW⟩
    go_wp2_with fail
    cases m1
    · have HE : Hid (vtFrom sg vs 0 vs = 4) := by show _ = _; rw [(unhide HST).1, (unhide HST).2]; simp
      simp only [Bool.not_false] at t1
      go_quiet ((go_at_call 25; exact Calls.quiet_of_same ((unhide T1) _ (by first | exact below_drewN (below_drewN (below_drewN (Below.refl _ _) _) _) _ | exact below_drewN (below_drewN (Below.refl _ _) _) _ | exact below_drewN (Below.refl _ _) _))))
      go_wp2_with fail
      go_ret
      exact ⟨ret_int (unhide HE).symm, _, by rw [unhide HW]; simp only [World.drewN_drewN]; rfl⟩
    simp only [Bool.not_true] at t1
    go_quiet ((go_at_call 25; exact Calls.quiet_of_same ((unhide T1) _ (by first | exact below_drewN (below_drewN (below_drewN (Below.refl _ _) _) _) _ | exact below_drewN (below_drewN (Below.refl _ _) _) _ | exact below_drewN (Below.refl _ _) _))))
    go_wp2_with fail
    generalize hw3 : w2.drewN _ = W3
    have B3 : Hid (Below w2.heap.size w2 W3) := by show Below _ _ _; rw [← hw3]; exact below_drewN (Below.refl _ _) _
    replace q1 : W3.cell? ⟨g, 1, none⟩ = some (.slice sS.a sS.n sS.c) := by rw [← hw3]; exact q1
    replace q3 : W3.cell? ⟨g, 3, none⟩ = some (.slice (some ⟨b, off, none⟩) len cap) := by rw [← hw3]; exact q3
    replace c0 : W3.cell? ⟨b, off + k * 3, none⟩ = some (.slice s.a s.n s.c) := by rw [← hw3]; exact c0
    replace c1 : W3.cell? ⟨b, off + k * 3 + 1, none⟩ = some (.slice t.a t.n t.c) := by rw [← hw3]; exact c1
    replace c2 : W3.cell? ⟨b, off + k * 3 + 2, none⟩ = some (.bool bb) := by rw [← hw3]; exact c2
    have HW3 : Hid (∃ j, W3 = w.drewN j) := ⟨_, by rw [← hw3, unhide HW, World.drewN_drewN]⟩
    clear hw3
    cases m2 <;> cases bb
    · have HE : Hid (vtFrom sg vs 0 vs = 8) := by show _ = _; rw [(unhide HST).1, (unhide HST).2]; simp
      go_quiet ((go_at_call 25; exact Calls.quiet_of_same ((unhide T2) _ (below_drewN (unhide B3) _))))
      go_wp2_with fail
      go_ret
      obtain ⟨jj, hj⟩ := unhide HW3
      exact ⟨ret_int (unhide HE).symm, _, by rw [hj]; simp only [World.drewN_drewN]; rfl⟩
    · go_quiet ((go_at_call 25; exact Calls.quiet_of_same ((unhide T2) _ (below_drewN (unhide B3) _))))
      go_wp2_with fail
      generalize hw4 : W3.drewN _ = W4
      have B4 : Hid (Below w2.heap.size w2 W4) := by show Below _ _ _; rw [← hw4]; exact below_drewN (unhide B3) _
      replace q1 : W4.cell? ⟨g, 1, none⟩ = some (.slice sS.a sS.n sS.c) := by rw [← hw4]; exact q1
      replace q3 : W4.cell? ⟨g, 3, none⟩ = some (.slice (some ⟨b, off, none⟩) len cap) := by rw [← hw4]; exact q3
      replace c0 : W4.cell? ⟨b, off + k * 3, none⟩ = some (.slice s.a s.n s.c) := by rw [← hw4]; exact c0
      replace c1 : W4.cell? ⟨b, off + k * 3 + 1, none⟩ = some (.slice t.a t.n t.c) := by rw [← hw4]; exact c1
      replace c2 : W4.cell? ⟨b, off + k * 3 + 2, none⟩ = some (.bool true) := by rw [← hw4]; exact c2
      have HW4 : Hid (∃ j, W4 = w.drewN j) := (by obtain ⟨jj, hj⟩ := unhide HW3; exact ⟨_, by rw [← hw4, hj, World.drewN_drewN]⟩)
      clear hw4
      cases m3
      · go_quiet ((go_at_call 87; exact Calls.quiet_of_same ((unhide T3) _ (below_drewN (unhide B4) _))))
        go_wp2_with fail
        go_roundw
        case rel =>
         obtain ⟨jj, hj⟩ := unhide HW4
         exact ⟨k + 1, _, by omega, by go_num, by rw [(unhide HST).1, (unhide HST).2]; simp, by rw [hj]; simp only [World.drewN_drewN]; rfl⟩
        case measure => simp [intOf]; omega
      · have HE : Hid (vtFrom sg vs 0 vs = 6) := by show _ = _; rw [(unhide HST).1, (unhide HST).2]; simp
        go_quiet ((go_at_call 87; exact Calls.quiet_of_same ((unhide T3) _ (below_drewN (unhide B4) _))))
        go_wp2_with fail
        go_ret
        obtain ⟨jj, hj⟩ := unhide HW4
        exact ⟨ret_int (unhide HE).symm, _, by rw [hj]; simp only [World.drewN_drewN]; rfl⟩
    · go_quiet ((go_at_call 25; exact Calls.quiet_of_same ((unhide T2) _ (below_drewN (unhide B3) _))))
      go_wp2_with fail
      generalize hw4 : W3.drewN _ = W4
      have B4 : Hid (Below w2.heap.size w2 W4) := by show Below _ _ _; rw [← hw4]; exact below_drewN (unhide B3) _
      replace q1 : W4.cell? ⟨g, 1, none⟩ = some (.slice sS.a sS.n sS.c) := by rw [← hw4]; exact q1
      replace q3 : W4.cell? ⟨g, 3, none⟩ = some (.slice (some ⟨b, off, none⟩) len cap) := by rw [← hw4]; exact q3
      replace c0 : W4.cell? ⟨b, off + k * 3, none⟩ = some (.slice s.a s.n s.c) := by rw [← hw4]; exact c0
      replace c1 : W4.cell? ⟨b, off + k * 3 + 1, none⟩ = some (.slice t.a t.n t.c) := by rw [← hw4]; exact c1
      replace c2 : W4.cell? ⟨b, off + k * 3 + 2, none⟩ = some (.bool false) := by rw [← hw4]; exact c2
      have HW4 : Hid (∃ j, W4 = w.drewN j) := (by obtain ⟨jj, hj⟩ := unhide HW3; exact ⟨_, by rw [← hw4, hj, World.drewN_drewN]⟩)
      clear hw4
      cases m3
      · go_quiet ((go_at_call 87; exact Calls.quiet_of_same ((unhide T3) _ (below_drewN (unhide B4) _))))
        go_wp2_with fail
        go_roundw
        case rel =>
         obtain ⟨jj, hj⟩ := unhide HW4
         exact ⟨k + 1, _, by omega, by go_num, by rw [(unhide HST).1, (unhide HST).2]; simp, by rw [hj]; simp only [World.drewN_drewN]; rfl⟩
        case measure => simp [intOf]; omega
      · have HE : Hid (vtFrom sg vs 0 vs = 6) := by show _ = _; rw [(unhide HST).1, (unhide HST).2]; simp
        go_quiet ((go_at_call 87; exact Calls.quiet_of_same ((unhide T3) _ (below_drewN (unhide B4) _))))
        go_wp2_with fail
        go_ret
        obtain ⟨jj, hj⟩ := unhide HW4
        exact ⟨ret_int (unhide HE).symm, _, by rw [hj]; simp only [World.drewN_drewN]; rfl⟩
    · have HE : Hid (vtFrom sg vs 0 vs = 8) := by show _ = _; rw [(unhide HST).1, (unhide HST).2]; simp
      go_quiet ((go_at_call 25; exact Calls.quiet_of_same ((unhide T2) _ (below_drewN (unhide B3) _))))
      go_wp2_with fail
      go_ret
      obtain ⟨jj, hj⟩ := unhide HW3
      exact ⟨ret_int (unhide HE).symm, _, by rw [hj]; simp only [World.drewN_drewN]; rfl⟩
  · obtain rfl : k = len := by omega
    rw [List.drop_eq_nil_of_le (by rw [← unhide HL]; exact Nat.le_refl _)] at hpre
    have HE : Hid (vtFrom sg vs 0 vs = 0) := hpre
    clear hpre hbw
    go_wp2_with fail
    go_ret
    exact ⟨ret_int (unhide HE).symm, n, unhide HW⟩

set_option maxRecDepth 100000

set_option maxHeartbeats 4000000 in
theorem l7Fault_any (g : Nat) (e : SnS) (x : Sn) (T : TypeId) (w : World) (sb : SBlk w g (snvals e x).toList T) (o : SNK.Ok w e x) (m : SnSm x) :
    Calls Tryz.prog 23 #[.pointer (some ⟨g, 0, none⟩)] w fun r w' => r = .returned (.int .i64 (snFlt x)) ∧ ∃ n, w' = w.drewN n := by
 have D2 := hide (fun (n : Nat) (h : 0 ≤ x.1 ∧ x.1 ≤ 1099511627776) => l7Recents_any g e x T (w.drewN n) (sb.below (below_drewN (Below.refl w.heap.size w) n) sb.lt) (RowOk.below o.2.2.1 (below_drewN (Below.refl w.heap.size w) n) (Nat.le_refl _)) m.r h)
 have D3 := hide (fun (n : Nat) => l7Votes_any g e x T (w.drewN n) (sb.below (below_drewN (Below.refl w.heap.size w) n) sb.lt) (RowOk.below o.2.2.2 (below_drewN (Below.refl w.heap.size w) n) (Nat.le_refl _)) (RowOk.below o.2.1 (below_drewN (Below.refl w.heap.size w) n) (Nat.le_refl _)) m.v m.s)
 obtain ⟨ee0, e1, e2, e3⟩ := e
 obtain ⟨x0, x1, x2, x3⟩ := x
 have D0 := hide (fun W => l5Number_any x0 W)
 have D1 := hide (l7List_any e1 x1 w o.2.1 m.s)
 have l2 : e2.n = x2.length := o.2.2.1.len
 have l3 : e3.n = x3.length := o.2.2.2.len
 have c0 := sb.cell 0
 have c1 := sb.cell 1
 have c2 := sb.cell 2
 have c3 := sb.cell 3
 simp only [snvals, List.getElem?_cons_zero, List.getElem?_cons_succ] at c0 c1 c2 c3
 have HE : Hid (snFlt (x0, x1, x2, x3) = if within x0 0 1099511627776 = false then 3 else if sgSome x1 ≠ 0 then sgSome x1 else if 7 < e2.n ∨ 30 < e3.n then 2 else if rcFrom x0 0 x2 ≠ 0 then rcFrom x0 0 x2 else vtFrom x1 x3 0 x3) := by
  show _ = _
  rw [l2, l3]
  rfl
 have HW : Hid (within x0 0 1099511627776 = true → 0 ≤ x0 ∧ x0 ≤ 1099511627776) := fun h => by unfold within at h; simpa using h
 clear o m sb l2 l3
 simp only at D2 D3
 generalize snFlt (x0, x1, x2, x3) = r at HE ⊢
 generalize within x0 0 1099511627776 = p0 at D0 HE HW
 generalize sgSome x1 = p1 at D1 HE
 go_enter Tryz.func23, Tryz.ntmps23
 go_wp2_with fail
 refine ((unhide D0) _).mono ?_
 rintro e w1 ⟨rfl, rfl⟩
 cases p0
 · go_wp2_with fail
   go_ret
   exact ⟨ret_int (by rw [unhide HE]; simp), 0, rfl⟩
 go_wp2_with fail
 refine (unhide D1).mono ?_
 rintro e w2 ⟨rfl, n1, rfl⟩
 by_cases q1 : p1 = 0
 case neg =>
  have h1 : (p1 != 0) = true := by simp [q1]
  go_wp2_with fail
  go_ret
  exact ⟨ret_int (by rw [unhide HE]; simp [q1]), n1, rfl⟩
 subst q1
 have h1 : ((0 : Int) != 0) = false := by simp
 by_cases n2 : 7 < e2.n
 · have h2 : decide ((7 : Int) < (e2.n : Int)) = true := decide_eq_true (by omega)
   go_wp2_with fail
   go_ret
   exact ⟨ret_int (by rw [unhide HE]; simp [n2]), n1, rfl⟩
 have h2 : decide ((7 : Int) < (e2.n : Int)) = false := decide_eq_false (by omega)
 by_cases n3 : 30 < e3.n
 · have h3 : decide ((30 : Int) < (e3.n : Int)) = true := decide_eq_true (by omega)
   go_wp2_with fail
   go_ret
   exact ⟨ret_int (by rw [unhide HE]; simp [n3]), n1, rfl⟩
 have h3 : decide ((30 : Int) < (e3.n : Int)) = false := decide_eq_false (by omega)
 have HE2 : Hid (r = if rcFrom x0 0 x2 ≠ 0 then rcFrom x0 0 x2 else vtFrom x1 x3 0 x3) := by show _ = _; rw [unhide HE]; simp [n2, n3]
 have D2' := hide (fun n => (unhide D2) n ((unhide HW) (by simp)))
 clear HE D2
 generalize rcFrom x0 0 x2 = p2 at D2' HE2
 generalize vtFrom x1 x3 0 x3 = p3 at D3 HE2
 go_wp2_with fail
 refine ((unhide D2') _).mono ?_
 rintro e w3 ⟨rfl, n4, rfl⟩
 by_cases q4 : p2 = 0
 case neg =>
  have h4 : (p2 != 0) = true := by simp [q4]
  go_wp2_with fail
  go_ret
  exact ⟨ret_int (by rw [unhide HE2]; simp [q4]), _, by first | rfl | (simp only [World.drewN_drewN]; rfl)⟩
 subst q4
 go_wp2_with fail
 refine ((unhide D3) _).mono ?_
 rintro e w4 ⟨rfl, n5, rfl⟩
 go_wp2_with fail
 go_ret
 exact ⟨ret_int (by rw [unhide HE2]; simp), _, by first | rfl | (simp only [World.drewN_drewN]; rfl)⟩

set_option maxRecDepth 100000

/-- The code of TurnOf, and what it tells. -/
def trCode (x : Sn) (z : List Int) (n : Int) : Int := if snFlt x ≠ 0 then snFlt x else if within n 0 1099511627776 = false then 3 else if decide (z ∈ x.2.1) = false then 4 else 0
def trVal (x : Sn) (z : List Int) (n : Int) : Int := if snFlt x ≠ 0 then 0 else if within n 0 1099511627776 = false then 0 else if decide (z ∈ x.2.1) = false then 0 else if (((plB x.2.1 z : Nat) : Int) == n % ((x.2.1.length : Nat) : Int)) = true then 2 else 1

theorem snFlt_sg {x : Sn} (h : snFlt x = 0) : sgFlt x.2.1 = 0 ∧ 0 < x.2.1.length ∧ x.2.1.length ≤ 7 := by
 unfold snFlt at h
 split at h
 · omega
 · split at h
   · omega
   · rename_i h1
     have h2 : sgSome x.2.1 = 0 := by simpa using h1
     unfold sgSome at h2
     split at h2
     · omega
     · exact ⟨h2, by omega, (sg_rise h2).1⟩

theorem two_sblk (w : World) (vs us : Array Value) (T S : TypeId) : SBlk ((w.alloc (.cells vs T)).alloc (.cells us S)) w.heap.size vs.toList T ∧ SBlk ((w.alloc (.cells vs T)).alloc (.cells us S)) (w.heap.size + 1) us.toList S ∧ Below w.heap.size w ((w.alloc (.cells vs T)).alloc (.cells us S)) := by
 refine ⟨(SBlk.new w vs T).next _, ?_, ((Below.refl _ _).alloc (Nat.le_refl _) _).alloc (by simp) _⟩
 have h := SBlk.new (w.alloc (.cells vs T)) us S
 rwa [show (w.alloc (.cells vs T)).heap.size = w.heap.size + 1 by simp] at h

end Go.Proofs.YtdmcmlcmgbbclaaGreat
