/- What is proved here: what the program's voteFault answers. -/
import Derived.Test.YtalkhlimkanlcaaJ8
import Derived.Deep.QuietTactic
import Derived.BigQuiet
import Derived.WalkKit
import Derived.WalkSmall
import Derived.Deep.DeepCutAuto
import Derived.Deep.CutBlock
import Derived.WalkSpells
import Derived.Test.YtalkhlimkanlcaaJ7
import Derived.Deep.RegionWith
import Derived.Test.YtalkhlimkanlcaaChecked
import Derived.Test.YtalkhlimkanlcaaJ1
import Derived.KernelRfl
namespace Go.Proofs.Ytalkhlimkanlcaa
open Go.RowKit
set_option linter.unusedVariables false
set_option maxRecDepth 100000

theorem beq4 (n : Nat) : (n == 4) = (((n : Nat) : Int) == 4) := by
  rw [Bool.eq_iff_iff, beq_iff_eq, beq_iff_eq]
  omega

set_option maxHeartbeats 4000000 in
theorem voteFault_any (s t sS : Sl) (x y : List Int) (b : Bool) (sg : List (List Int)) (g k : Nat) (seen : List (List Int × List Int)) (w : World) (o : BOk w s x) (q : BOk w t y) (h : RowOk bytesK w sS sg) (hs : sgFlt sg = 0) (hp : PollOk w g k seen) :
    Calls Try.prog 80 #[.agg #[.slice s.a s.n s.c, .slice t.a t.n t.c, .bool b], .slice sS.a sS.n sS.c, .map (some g)] w fun e w' => e = .returned (.int .i64 (vtOne sg seen (x, y, b))) ∧ Below w.heap.size w w' := by
  have lx : x.length = s.n := o.row.1
  have ly : y.length = t.n := q.row.1
  have HM1 := hide (fun (W : World) (hb : Below w.heap.size w W) => isAmong_any sS s sg x W (RowOk.below h hb (Nat.le_refl _)) (bytesK.below o hb (Nat.le_refl _)) hs)
  have HM2 := hide (fun (W : World) (hb : Below w.heap.size w W) => isAmong_any sS t sg y W (RowOk.below h hb (Nat.le_refl _)) (bytesK.below q hb (Nat.le_refl _)) hs)
  have HH := hide (fun (e1 : x.length = 4) (e2 : y.length = 4) (W : World) (hb : Below w.heap.size w W) => has_any g k s t x y b seen W (bytesK.below o hb (Nat.le_refl _)) (bytesK.below q hb (Nat.le_refl _)) e1 e2 (hp.below hb (Nat.le_refl _)))
  have ka := SBlk.new w #[.slice s.a s.n s.c, .slice t.a t.n t.c, .bool b] 89
  have ba := below_alloc w (.cells #[.slice s.a s.n s.c, .slice t.a t.n t.c, .bool b] 89)
  obtain ⟨W0, e0⟩ : ∃ W, w.alloc (.cells #[.slice s.a s.n s.c, .slice t.a t.n t.c, .bool b] 89) = W := ⟨_, rfl⟩
  rw [e0] at ka ba
  have c0 := ka.cell 0
  have c1 := ka.cell 1
  have c2 := ka.cell 2
  simp only [List.getElem?_cons_zero, List.getElem?_cons_succ] at c0 c1 c2
  have B0 := hide ba
  have HE : Hid (vtOne sg seen (x, y, b) = if ((((s.n : Nat) : Int) == 4) && (((t.n : Nat) : Int) == 4)) = false then 1 else if decide (x ∈ sg) = false then 4 else if (b == decide (y ∈ sg)) = true then 8 else if decide ((x, y) ∈ seen) = true then 6 else 0) := by
    show _ = _
    unfold vtOne
    have e1 : (x.length == 4) = (((s.n : Nat) : Int) == 4) := by rw [lx]; exact beq4 _
    have e2 : (y.length == 4) = (((t.n : Nat) : Int) == 4) := by rw [ly]; exact beq4 _
    simp only [e1, e2]
  have L1 := hide lx
  have L2 := hide ly
  clear o q h hp ka ba lx ly hs
  generalize vtOne sg seen (x, y, b) = r at HE ⊢
  have a1 : ∀ W, Calls Try.prog 54 #[.slice s.a s.n s.c] W fun e w' => e = .returned (.bool (((s.n : Nat) : Int) == 4)) ∧ w' = W := fun W => isAddr_any s.a s.n s.c W
  have a2 : ∀ W, Calls Try.prog 54 #[.slice t.a t.n t.c] W fun e w' => e = .returned (.bool (((t.n : Nat) : Int) == 4)) ∧ w' = W := fun W => isAddr_any t.a t.n t.c W
  have A1 := hide a1
  have A2 := hide a2
  clear a1 a2
  go_enter Try.func80, Try.ntmps80
  go_wp2_with (rw [e0])
  try rw [e0]
  clear e0
  have Z1 : Hid ((((s.n : Nat) : Int) == 4) = true → x.length = 4) := fun h => by have := unhide L1; simp at h; omega
  have Z2 : Hid ((((t.n : Nat) : Int) == 4) = true → y.length = 4) := fun h => by have := unhide L2; simp at h; omega
  clear L1 L2
  generalize hp1 : (((s.n : Nat) : Int) == 4) = p1 at A1 HE Z1
  generalize hp2 : (((t.n : Nat) : Int) == 4) = p2 at A2 HE Z2
  generalize decide (x ∈ sg) = m1 at HM1 HE
  generalize decide (y ∈ sg) = m2 at HM2 HE
  generalize decide ((x, y) ∈ seen) = hb at HH HE
  clear hp1 hp2
  refine ((unhide A1) _).mono ?_
  rintro e w1 ⟨rfl, rfl⟩
  cases p1
  · go_wp2_with fail
    go_ret
    exact ⟨ret_int (by rw [unhide HE]; first | rfl | simp), unhide B0⟩
  go_wp2_with fail
  refine ((unhide A2) _).mono ?_
  rintro e w2 ⟨rfl, rfl⟩
  cases p2
  · go_wp2_with fail
    go_ret
    exact ⟨ret_int (by rw [unhide HE]; first | rfl | simp), unhide B0⟩
  go_wp2_with fail
  refine ((unhide HM1) _ (unhide B0)).mono ?_
  rintro e w3 ⟨rfl, rfl⟩
  cases m1
  · go_wp2_with fail
    go_ret
    exact ⟨ret_int (by rw [unhide HE]; first | rfl | simp), unhide B0⟩
  go_wp2_with fail
  cases m2 <;> cases b
  · go_quiet ((go_at_call 100; exact Calls.quiet_of_same ((unhide HM2) _ (below_drewN (unhide B0) _))))
    go_wp2_with fail
    go_ret
    exact ⟨ret_int (by rw [unhide HE]; first | rfl | simp), by first | exact unhide B0 | exact below_drewN (unhide B0) _⟩
  · go_quiet ((go_at_call 100; exact Calls.quiet_of_same ((unhide HM2) _ (below_drewN (unhide B0) _))))
    go_wp2_with fail
    refine ((unhide HH) ((unhide Z1) (by simp)) ((unhide Z2) (by simp)) _ (by first | exact unhide B0 | exact below_drewN (unhide B0) _)).mono ?_
    rintro e w4 ⟨rfl, b4⟩
    have HB4 : Hid (Below w.heap.size w w4) := Below.trans (by first | exact unhide B0 | exact below_drewN (unhide B0) _) (b4.mono (by first | exact (unhide B0).size | exact (below_drewN (unhide B0) _).size))
    clear b4
    cases hb
    all_goals
      go_wp2_with fail
      go_ret
      exact ⟨ret_int (by rw [unhide HE]; first | rfl | simp), unhide HB4⟩
  · go_quiet ((go_at_call 100; exact Calls.quiet_of_same ((unhide HM2) _ (below_drewN (unhide B0) _))))
    go_wp2_with fail
    refine ((unhide HH) ((unhide Z1) (by simp)) ((unhide Z2) (by simp)) _ (by first | exact unhide B0 | exact below_drewN (unhide B0) _)).mono ?_
    rintro e w4 ⟨rfl, b4⟩
    have HB4 : Hid (Below w.heap.size w w4) := Below.trans (by first | exact unhide B0 | exact below_drewN (unhide B0) _) (b4.mono (by first | exact (unhide B0).size | exact (below_drewN (unhide B0) _).size))
    clear b4
    cases hb
    all_goals
      go_wp2_with fail
      go_ret
      exact ⟨ret_int (by rw [unhide HE]; first | rfl | simp), unhide HB4⟩
  · go_quiet ((go_at_call 100; exact Calls.quiet_of_same ((unhide HM2) _ (below_drewN (unhide B0) _))))
    go_wp2_with fail
    go_ret
    exact ⟨ret_int (by rw [unhide HE]; first | rfl | simp), by first | exact unhide B0 | exact below_drewN (unhide B0) _⟩

end Go.Proofs.Ytalkhlimkanlcaa

/- What is proved here: what the program's HeaderFault answers, and what it calls: the fault of a header. -/
namespace Go.Proofs.Ytalkhlimkanlcaa
open Go.RowKit
set_option linter.unusedVariables false
set_option maxRecDepth 100000

theorem isWithin_any (v lo hi : Int) (w : World) : Calls Try.prog 78 #[.int .i64 v, .int .i64 lo, .int .i64 hi] w fun e w' => e = .returned (.bool (within v lo hi)) ∧ w' = w := by
  unfold within
  by_cases h0 : lo ≤ v
  · have e0 : decide (lo ≤ v) = true := decide_eq_true h0
    by_cases h1 : v ≤ hi
    · have e1 : decide (v ≤ hi) = true := decide_eq_true h1
      have e : decide (lo ≤ v ∧ v ≤ hi) = true := decide_eq_true ⟨h0, h1⟩
      rw [e]
      clear e
      go_enter Try.func78, Try.ntmps78
      go_wp2_with fail
      go_ret
      exact ⟨rfl, rfl⟩
    · have e1 : decide (v ≤ hi) = false := decide_eq_false h1
      have e : decide (lo ≤ v ∧ v ≤ hi) = false := decide_eq_false (fun h => h1 h.2)
      rw [e]
      clear e
      go_enter Try.func78, Try.ntmps78
      go_wp2_with fail
      go_ret
      exact ⟨rfl, rfl⟩
  · have e0 : decide (lo ≤ v) = false := decide_eq_false h0
    have e : decide (lo ≤ v ∧ v ≤ hi) = false := decide_eq_false (fun h => h0 h.1)
    rw [e]
    clear e
    go_enter Try.func78, Try.ntmps78
    go_wp2_with fail
    go_ret
    exact ⟨rfl, rfl⟩

theorem isWithin_to (v lo hi : Int) (c : Bool) (w : World) (e : within v lo hi = c) : Calls Try.prog 78 #[.int .i64 v, .int .i64 lo, .int .i64 hi] w fun e w' => e = .returned (.bool c) ∧ w' = w := by
  subst e; exact isWithin_any v lo hi w

theorem isNumber_to (v : Int) (c : Bool) (w : World) (e : within v 0 1099511627776 = c) : Calls Try.prog 39 #[.int .i64 v] w fun e w' => e = .returned (.bool c) ∧ w' = w := by
  have HI := hide (isWithin_to v 0 1099511627776 c w e)
  clear e
  go_enter Try.func39, Try.ntmps39
  go_wp2_with fail
  refine (unhide HI).mono ?_
  rintro e w' ⟨rfl, rfl⟩
  go_wp2_with fail
  go_ret
  exact ⟨rfl, rfl⟩

end Go.Proofs.Ytalkhlimkanlcaa

/- What is proved here: what the program's votesFault and recentsFault answer. -/
namespace Go.Proofs.Ytalkhlimkanlcaa
open Go.RowKit
set_option linter.unusedVariables false
set_option maxRecDepth 100000

set_option maxHeartbeats 4000000 in
theorem votesFault_any (vS sS : Sl) (vs : List Vt) (sg : List (List Int)) (w : World) (o : RowOk vtK w vS vs) (h : RowOk bytesK w sS sg) (hs : sgFlt sg = 0) (hl : vs.length ≤ 30) :
    Calls Try.prog 42 #[.slice vS.a vS.n vS.c, .slice sS.a sS.n sS.c] w fun e w' => e = .returned (.int .i64 (vtFrom sg vs 0 vs)) ∧ Below w.heap.size w w' := by
  obtain ⟨a, len, cap⟩ := vS
  have hil : len = vs.length := o.len
  have HR := hide (fun hp => RowOk.pos o hp)
  have HL := hide hil
  have HS := hide h
  have HG := hide hs
  have hln : len ≤ 30 := by omega
  have HO := hide o
  have hmm := @run_makeMap Try.prog
  clear o h hs hil hl
  go_enter Try.func42, Try.ntmps42
  go_wp2_with fail
  go_loopw [12] (fun i wr => ∃ k : Nat, k ≤ len ∧ i = .int .i64 k ∧ vtFrom sg vs 0 vs = vtFrom sg vs k (vs.drop k) ∧ PollOk wr w.heap.size k (vtKeys (vs.take k)) ∧ Below w.heap.size w wr) (fun i _ => len - (intOf i).toNat)
  case atStart => exact ⟨0, Nat.zero_le _, rfl, by simp, by simpa [vtKeys] using PollOk.made w, (Below.refl _ _).alloc (Nat.le_refl _) _⟩
  case round =>
    obtain ⟨k, hk, rfl, hpre, hpoll, hbr⟩ := hrel
    by_cases hlt : k < len
    · obtain ⟨b, off, ea, hb, hc⟩ := (unhide HR) (by show 0 < len; omega)
      subst ea
      obtain ⟨v, hv⟩ : ∃ v, vs[k]? = some v := ⟨_, List.getElem?_eq_getElem (by rw [← unhide HL]; exact hlt)⟩
      obtain ⟨⟨s, t, ⟨⟩⟩, c, oo⟩ := hc k v hv
      have hst := vtFrom_step sg vs k v hv
      have hsn := vtKeys_snoc vs k v hv
      have hz0 := fun h => vtOne_zero (sg := sg) (seen := vtKeys (vs.take k)) (v := v) h
      obtain ⟨x, y, bb⟩ := v
      have c0 := (hbr.cell (p := ⟨b, off + k * vtK.m + 0, none⟩) hb).trans (c 0 _ rfl)
      have c1 := (hbr.cell (p := ⟨b, off + k * vtK.m + 1, none⟩) hb).trans (c 1 _ rfl)
      have c2 := (hbr.cell (p := ⟨b, off + k * vtK.m + 2, none⟩) hb).trans (c 2 _ rfl)
      simp only [Nat.add_zero, show vtK.m = 3 from rfl] at c0 c1 c2
      have ox := bytesK.below oo.1 hbr (Nat.le_refl _)
      have oy := bytesK.below oo.2.1 hbr (Nat.le_refl _)
      have HF := hide (fun (W : World) (hb : Below wr.heap.size wr W) => voteFault_any s t sS x y bb sg w.heap.size k (vtKeys (vs.take k)) W (bytesK.below ox hb (Nat.le_refl _)) (bytesK.below oy hb (Nat.le_refl _)) (RowOk.below (unhide HS) (hbr.trans (hb.mono hbr.size)) (Nat.le_refl _)) (unhide HG) (hpoll.below hb (Nat.le_refl _)))
      have HU := hide (fun (e1 : x.length = 4) (e2 : y.length = 4) (W : World) (hb : Below wr.heap.size wr W) => put_any w.heap.size k s t x y bb k (vtKeys (vs.take k)) W (bytesK.below ox hb (Nat.le_refl _)) (bytesK.below oy hb (Nat.le_refl _)) e1 e2 (hpoll.below hb (Nat.le_refl _)) (by unfold maxLen; omega))
      have HST := hide (And.intro hpre (And.intro hst (And.intro hsn hz0)))
      have HB := hide hbr
      have i1 : (0 : Int) ≤ (k : Int) := by omega
      have i2 : (k : Int) < (len : Int) := by omega
      clear hc c oo ox oy hst hsn hz0 hpre hpoll hbr hv
      generalize vtOne sg (vtKeys (vs.take k)) (x, y, bb) = r at HF HST
      go_wp2_with fail
      have ka := SBlk.new wr #[.slice s.a s.n s.c, .slice t.a t.n t.c, .bool bb] 89
      have ba := below_alloc wr (.cells #[.slice s.a s.n s.c, .slice t.a t.n t.c, .bool bb] 89)
      refine ((unhide HF) _ ba).mono ?_
      rintro e w1 ⟨rfl, b1⟩
      have B1 := hide (ba.trans (b1.mono ba.size))
      have k1 := ka.below b1 ka.lt
      have d0 := k1.cell 0
      have d1 := k1.cell 1
      have d2 := k1.cell 2
      simp only [List.getElem?_cons_zero, List.getElem?_cons_succ] at d0 d1 d2
      clear ka ba b1 k1 HF
      by_cases hr : r = 0
      · subst hr
        have h00 : ((0 : Int) != 0) = false := by simp
        go_wp2_with fail
        have hzz := (unhide HST).2.2.2 (by simp)
        refine ((unhide HU) hzz.1 hzz.2.1 _ (unhide B1)).mono ?_
        rintro e w2 ⟨rfl, p2, g2⟩
        have B2 := hide (((unhide HB).trans ((unhide B1).mono (unhide HB).size)).grown g2 ((unhide HB).trans ((unhide B1).mono (unhide HB).size)).size (fun q e => by cases e; exact Nat.le_refl _))
        have P2 := hide p2
        clear p2 g2 hzz
        go_wp2_with fail
        go_roundw
        case rel => exact ⟨k + 1, by omega, by go_num, by rw [(unhide HST).1, (unhide HST).2.1]; simp, by rw [(unhide HST).2.2.1]; exact unhide P2, unhide B2⟩
        case measure => simp [intOf]; omega
      · have h00 : (r != 0) = true := by simp [hr]
        have HE : Hid (vtFrom sg vs 0 vs = r) := by show _ = _; rw [(unhide HST).1, (unhide HST).2.1, if_neg hr]
        go_wp2_with fail
        go_ret
        exact ⟨ret_int (unhide HE).symm, (unhide HB).trans ((unhide B1).mono (unhide HB).size)⟩
    · obtain rfl : k = len := by omega
      rw [List.drop_eq_nil_of_le (by rw [← unhide HL]; exact Nat.le_refl _)] at hpre
      have HE : Hid (vtFrom sg vs 0 vs = 0) := hpre
      have HB := hide hbr
      clear hpre hpoll hbr
      go_wp2_with fail
      go_ret
      exact ⟨ret_int (unhide HE).symm, unhide HB⟩

set_option maxHeartbeats 2000000 in
theorem recentsFault_any (rS : Sl) (rs : List Rc) (last : Int) (w : World) (o : RowOk rcK w rS rs) (hl : rs.length ≤ 1048576) (hlast : 0 ≤ last ∧ last ≤ 1099511627776) :
    Calls Try.prog 41 #[.slice rS.a rS.n rS.c, .int .i64 last] w fun e w' => e = .returned (.int .i64 (rcFrom last 0 rs)) ∧ Below w.heap.size w w' := by
  obtain ⟨a, len, cap⟩ := rS
  have hil : len = rs.length := o.len
  have HR := hide (fun hp => RowOk.pos o hp)
  have HL := hide hil
  have hln : len ≤ 1048576 := by omega
  clear o hil hl
  go_enter Try.func41, Try.ntmps41
  go_wp2_with fail
  go_loopw [5, 10] (fun q i wr => ∃ (k : Nat) (L : Int), k ≤ len ∧ q = .int .i64 L ∧ i = .int .i64 k ∧ 0 ≤ L ∧ L ≤ 1099511627777 ∧ rcFrom last 0 rs = rcFrom last L (rs.drop k) ∧ Below w.heap.size w wr) (fun _ i _ => len - (intOf i).toNat)
  case atStart => exact ⟨0, 0, Nat.zero_le _, rfl, rfl, by omega, by omega, by simp, Below.refl _ _⟩
  case round =>
    obtain ⟨k, L, hk, rfl, rfl, hL0, hL1, hpre, hbr⟩ := hrel
    by_cases hlt : k < len
    · obtain ⟨b, off, ea, hb, hc⟩ := (unhide HR) (by show 0 < len; omega)
      subst ea
      obtain ⟨v, hv⟩ : ∃ v, rs[k]? = some v := ⟨_, List.getElem?_eq_getElem (by rw [← unhide HL]; exact hlt)⟩
      obtain ⟨⟨⟨⟩, s⟩, c, oo⟩ := hc k v hv
      have hst := rcFrom_step last L rs k v hv
      obtain ⟨n, z⟩ := v
      have c0 := (hbr.cell (p := ⟨b, off + k * rcK.m + 0, none⟩) hb).trans (c 0 _ rfl)
      have c1 := (hbr.cell (p := ⟨b, off + k * rcK.m + 1, none⟩) hb).trans (c 1 _ rfl)
      simp only [Nat.add_zero, show rcK.m = 2 from rfl] at c0 c1
      have lz : z.length = s.n := oo.2.row.1
      have hone : rcOne last L (n, z) = if (((s.n : Nat) : Int) == 4) = false then 1 else if within n L last = false then 3 else 0 := by
        unfold rcOne
        rw [← beq4 s.n, ← lz]
      rw [hone] at hst
      have hw : within n L last = true → 0 ≤ n ∧ n ≤ 1099511627776 := fun h => by unfold within at h; simp at h; omega
      have A1 := hide (fun W => isAddr_any s.a s.n s.c W)
      have A2 := hide (fun W => isWithin_any n L last W)
      have HST := hide (And.intro hpre hst)
      have HW := hide hw
      have HB := hide hbr
      have i1 : (0 : Int) ≤ (k : Int) := by omega
      have i2 : (k : Int) < (len : Int) := by omega
      have ka := SBlk.new wr #[.int .i64 n, .slice s.a s.n s.c] 87
      have ba := below_alloc wr (.cells #[.int .i64 n, .slice s.a s.n s.c] 87)
      have HBA := hide ((unhide HB).trans (ba.mono (unhide HB).size))
      clear hc c oo hst hpre hbr hv hone hw lz
      generalize (((s.n : Nat) : Int) == 4) = p1 at A1 HST
      generalize within n L last = p2 at A2 HST HW
      obtain ⟨W0, e0⟩ : ∃ W, wr.alloc (.cells #[.int .i64 n, .slice s.a s.n s.c] 87) = W := ⟨_, rfl⟩
      rw [e0] at ka HBA
      have d0 := ka.cell 0
      have d1 := ka.cell 1
      simp only [List.getElem?_cons_zero, List.getElem?_cons_succ] at d0 d1
      clear ka ba
      go_wp2_with (rw [e0])
      try rw [e0]
      clear e0
      refine ((unhide A1) _).mono ?_
      rintro e w1 ⟨rfl, rfl⟩
      cases p1
      · have HE : Hid (rcFrom last 0 rs = 1) := by show _ = _; rw [(unhide HST).1, (unhide HST).2]; simp
        go_wp2_with fail
        go_ret
        exact ⟨ret_int (unhide HE).symm, unhide HBA⟩
      go_wp2_with fail
      refine ((unhide A2) _).mono ?_
      rintro e w2 ⟨rfl, rfl⟩
      cases p2
      · have HE : Hid (rcFrom last 0 rs = 3) := by show _ = _; rw [(unhide HST).1, (unhide HST).2]; simp
        go_wp2_with fail
        go_ret
        exact ⟨ret_int (unhide HE).symm, unhide HBA⟩
      have hn := (unhide HW) (by first | rfl | simp)
      have hn1 : IntKind.i64.wrap (n + 1) = n + 1 := by rw [IntKind.wrap_i64]; omega
      go_wp2_with fail
      go_roundw
      case rel => exact ⟨k + 1, n + 1, by omega, rfl, by go_num, by omega, by omega, by rw [(unhide HST).1, (unhide HST).2]; simp, unhide HBA⟩
      case measure => simp [intOf]; omega
    · obtain rfl : k = len := by omega
      rw [List.drop_eq_nil_of_le (by rw [← unhide HL]; exact Nat.le_refl _)] at hpre
      have HE : Hid (rcFrom last 0 rs = 0) := hpre
      have HB := hide hbr
      clear hpre hbr
      go_wp2_with fail
      go_ret
      exact ⟨ret_int (unhide HE).symm, unhide HB⟩

end Go.Proofs.Ytalkhlimkanlcaa

/- What is proved here: what the program's SnapFault answers. -/
namespace Go.Proofs.Ytalkhlimkanlcaa
open Go.RowKit
set_option linter.unusedVariables false
set_option maxRecDepth 100000

set_option maxHeartbeats 1000000 in
theorem someSigners_any (s : Sl) (zss : List (List Int)) (w : World) (h : RowOk bytesK w s zss) (hl : zss.length ≤ 1048576) :
    Calls Try.prog 40 #[.slice s.a s.n s.c] w fun e w' => e = .returned (.int .i64 (sgSome zss)) ∧ w' = w := by
  have hn : s.n = zss.length := h.len
  have HI := hide (implSigners_any s.a s.n s.c zss w (bs_of_row h) (by omega))
  by_cases h0 : zss.length = 0
  · have HE : Hid (sgSome zss = 4) := if_pos h0
    have hz : (((s.n : Nat) : Int) == 0) = true := by rw [hn, h0]; rfl
    clear hn h h0 HI
    go_enter Try.func40, Try.ntmps40
    go_wp2_with fail
    go_ret
    exact ⟨ret_int (unhide HE).symm, rfl⟩
  · have HE : Hid (sgSome zss = sgFlt zss) := if_neg h0
    have hz : (((s.n : Nat) : Int) == 0) = false := by rw [beq_eq_false_iff_ne]; omega
    clear hn h h0
    go_enter Try.func40, Try.ntmps40
    go_wp2_with fail
    refine (unhide HI).mono ?_
    rintro e w1 ⟨rfl, rfl⟩
    go_wp2_with fail
    go_ret
    exact ⟨ret_int (unhide HE).symm, rfl⟩

set_option maxHeartbeats 4000000 in
theorem implSnapFault_any (e : SnS) (x : Sn) (w : World) (o : SNK.Ok w e x) (m : SnSm x) :
    Calls Try.prog 12 #[.agg (snvals e x)] w fun r w' => r = .returned (.int .i64 (snFlt x)) ∧ Below w.heap.size w w' := by
  have kb := SBlk.new w (snvals e x) 32
  have bb := below_alloc w (.cells (snvals e x) 32)
  obtain ⟨W0, e0⟩ : ∃ W, w.alloc (.cells (snvals e x) 32) = W := ⟨_, rfl⟩
  rw [e0] at kb bb
  obtain ⟨ee0, e1, e2, e3⟩ := e
  obtain ⟨x0, x1, x2, x3⟩ := x
  have D0 := hide (fun W => isNumber_to x0 _ W rfl)
  have D1 := hide (someSigners_any e1 x1 W0 (RowOk.below o.2.1 bb (Nat.le_refl _)) m.s)
  have D2 := hide (fun (h : 0 ≤ x0 ∧ x0 ≤ 1099511627776) => recentsFault_any e2 x2 x0 W0 (RowOk.below o.2.2.1 bb (Nat.le_refl _)) m.r h)
  have D3 := hide (fun (W : World) (hb : Below W0.heap.size W0 W) (hs : sgFlt x1 = 0) (hl : x3.length ≤ 30) => votesFault_any e3 e1 x3 x1 W (RowOk.below o.2.2.2 (bb.trans (hb.mono bb.size)) (Nat.le_refl _)) (RowOk.below o.2.1 (bb.trans (hb.mono bb.size)) (Nat.le_refl _)) hs hl)
  have l2 : e2.n = x2.length := o.2.2.1.len
  have l3 : e3.n = x3.length := o.2.2.2.len
  have LL := hide (And.intro l2 l3)
  have HK := hide (fun (W : World) (hb : Below W0.heap.size W0 W) => kb.below hb kb.lt)
  have HBB := hide bb
  have c0 := kb.cell 0
  have c1 := kb.cell 1
  have c2 := kb.cell 2
  have c3 := kb.cell 3
  simp only [snvals, List.getElem?_cons_zero, List.getElem?_cons_succ] at c0 c1 c2 c3
  have HE : Hid (snFlt (x0, x1, x2, x3) = if within x0 0 1099511627776 = false then 3 else if sgSome x1 ≠ 0 then sgSome x1 else if 7 < e2.n ∨ 30 < e3.n then 2 else if rcFrom x0 0 x2 ≠ 0 then rcFrom x0 0 x2 else vtFrom x1 x3 0 x3) := by
    show _ = _
    rw [l2, l3]
    rfl
  have HW : Hid (within x0 0 1099511627776 = true → 0 ≤ x0 ∧ x0 ≤ 1099511627776) := fun h => by unfold within at h; simpa using h
  have HG : Hid (sgSome x1 = 0 → sgFlt x1 = 0) := fun h => by unfold sgSome at h; split at h; omega; exact h
  clear o m kb bb l2 l3
  unfold snvals at e0 ⊢
  simp only at e0 ⊢
  generalize snFlt (x0, x1, x2, x3) = r at HE ⊢
  generalize within x0 0 1099511627776 = p0 at D0 HE HW
  generalize sgSome x1 = p1 at D1 HE HG
  go_enter Try.func12, Try.ntmps12
  go_wp2_with (rw [e0])
  try rw [e0]
  clear e0
  refine ((unhide D0) _).mono ?_
  rintro e w1 ⟨rfl, rfl⟩
  cases p0
  · go_wp2_with fail
    go_ret
    exact ⟨ret_int (by rw [unhide HE]; simp), unhide HBB⟩
  go_wp2_with fail
  refine (unhide D1).mono ?_
  rintro e w2 ⟨rfl, rfl⟩
  by_cases n1 : p1 = 0
  case neg =>
    have h1 : (p1 != 0) = true := by simp [n1]
    go_wp2_with fail
    go_ret
    exact ⟨ret_int (by rw [unhide HE]; simp [n1]), unhide HBB⟩
  subst n1
  have h1 : ((0 : Int) != 0) = false := by simp
  by_cases n2 : 7 < e2.n
  · have h2 : decide ((7 : Int) < (e2.n : Int)) = true := decide_eq_true (by omega)
    go_wp2_with fail
    go_ret
    exact ⟨ret_int (by rw [unhide HE]; simp [n2]), unhide HBB⟩
  have h2 : decide ((7 : Int) < (e2.n : Int)) = false := decide_eq_false (by omega)
  by_cases n3 : 30 < e3.n
  · have h3 : decide ((30 : Int) < (e3.n : Int)) = true := decide_eq_true (by omega)
    go_wp2_with fail
    go_ret
    exact ⟨ret_int (by rw [unhide HE]; simp [n3]), unhide HBB⟩
  have h3 : decide ((30 : Int) < (e3.n : Int)) = false := decide_eq_false (by omega)
  have HE2 : Hid (r = if rcFrom x0 0 x2 ≠ 0 then rcFrom x0 0 x2 else vtFrom x1 x3 0 x3) := by show _ = _; rw [unhide HE]; simp [n2, n3]
  have D2' := hide ((unhide D2) ((unhide HW) (by simp)))
  have hl3 : Hid (x3.length ≤ 30) := by have := (unhide LL).2; show _ ≤ _; omega
  have hg : Hid (sgFlt x1 = 0) := (unhide HG) (by simp)
  clear HE D2
  generalize rcFrom x0 0 x2 = p2 at D2' HE2
  go_wp2_with fail
  refine (unhide D2').mono ?_
  rintro e w3 ⟨rfl, b3⟩
  have K3 := hide b3
  have HB3 := hide ((unhide HBB).trans (b3.mono (unhide HBB).size))
  have k3 := (unhide HK) w3 b3
  have d1 := k3.cell 1
  have d3 := k3.cell 3
  simp only [snvals, List.getElem?_cons_zero, List.getElem?_cons_succ] at d1 d3
  clear b3 k3
  by_cases n4 : p2 = 0
  case neg =>
    have h4 : (p2 != 0) = true := by simp [n4]
    go_wp2_with fail
    go_ret
    exact ⟨ret_int (by rw [unhide HE2]; simp [n4]), unhide HB3⟩
  subst n4
  have D3' := hide ((unhide D3) w3 (unhide K3) (unhide hg) (unhide hl3))
  generalize vtFrom x1 x3 0 x3 = p3 at D3' HE2
  go_wp2_with fail
  refine (unhide D3').mono ?_
  rintro e w4 ⟨rfl, b4⟩
  have HB4 := hide ((unhide HB3).trans (b4.mono (unhide HB3).size))
  clear b4
  go_wp2_with fail
  go_ret
  exact ⟨ret_int (by rw [unhide HE2]; simp), unhide HB4⟩

end Go.Proofs.Ytalkhlimkanlcaa

/- What is proved here: plain facts on the place of an address among signers, and of a vote among votes; no program is named. -/
namespace Go.Proofs.Ytalkhlimkanlcaa
open Go.RowKit
set_option linter.unusedVariables false
set_option maxRecDepth 100000

/-- The place of one from a place on; -1: it is not there. -/
def atFrom {α : Type} [DecidableEq α] (z : α) : Nat → List α → Int
  | _, [] => -1
  | k, y :: r => if y = z then (k : Int) else atFrom z (k + 1) r

theorem atFrom_step {α : Type} [DecidableEq α] (z : α) (zs : List α) (k : Nat) (y : α) (h : zs[k]? = some y) : atFrom z k (zs.drop k) = if y = z then (k : Int) else atFrom z (k + 1) (zs.drop (k + 1)) := by
  obtain ⟨hk, e⟩ := List.getElem?_eq_some_iff.1 h
  rw [List.drop_eq_getElem_cons hk, e]
  rfl

theorem atFrom_neg {α : Type} [DecidableEq α] (z : α) : ∀ (zs : List α) (k : Nat), decide (atFrom z k zs < 0) = !decide (z ∈ zs)
  | [], k => by simp [atFrom]
  | y :: r, k => by
    unfold atFrom
    by_cases e : y = z
    · subst e
      have h : ¬ ((k : Int) < 0) := by omega
      simp [h]
    · have e' : ¬ z = y := fun q => e q.symm
      rw [if_neg e, atFrom_neg z r (k + 1)]
      simp [e']

theorem atFrom_bd {α : Type} [DecidableEq α] (z : α) : ∀ (zs : List α) (k : Nat), -1 ≤ atFrom z k zs ∧ atFrom z k zs ≤ (k : Int) + zs.length
  | [], k => by simp [atFrom]
  | y :: r, k => by
    unfold atFrom
    have := atFrom_bd z r (k + 1)
    split
    · simp; omega
    · simp at this ⊢; omega

/-- Where one stands is the first of its places. -/
theorem atFrom_at {α : Type} [DecidableEq α] (z : α) : ∀ (zs : List α) (k i : Nat), zs[i]? = some z → (atFrom z k zs == ((k + i : Nat) : Int)) = !decide (z ∈ zs.take i)
  | [], k, i, h => by simp at h
  | y :: r, k, 0, h => by
    simp at h
    subst h
    simp [atFrom]
  | y :: r, k, i + 1, h => by
    rw [List.getElem?_cons_succ] at h
    unfold atFrom
    by_cases e : y = z
    · subst e
      have h1 : ¬ ((k : Int) = ((k + (i + 1) : Nat) : Int)) := by omega
      simp only [if_true, List.take_succ_cons, List.mem_cons, true_or, decide_true, Bool.not_true]
      rw [beq_eq_false_iff_ne]
      exact h1
    · have e' : ¬ z = y := fun q => e q.symm
      rw [if_neg e, show ((k + (i + 1) : Nat) : Int) = ((k + 1 + i : Nat) : Int) by omega, atFrom_at z r (k + 1) i h]
      simp [e']

/-- Among signers that rise the place is that which a search finds. -/
theorem atFrom_low {zss : List (List Int)} (hr : ∀ (i j : Nat) (x y : List Int), i < j → zss[i]? = some x → zss[j]? = some y → aheadB x y = true) (t : List Int) (h : t ∈ zss) : atFrom t 0 zss = (lowB zss t : Nat) := by
  have h1 := (lowB_mem hr t).2 h
  have h2 := atFrom_at t zss 0 (lowB zss t) h1
  have h3 : t ∉ zss.take (lowB zss t) := fun q => by
    obtain ⟨i, hi⟩ := List.getElem?_of_mem q
    have hl := (List.getElem?_eq_some_iff.1 hi).1
    rw [List.length_take] at hl
    rw [List.getElem?_take_of_lt (by omega)] at hi
    have := lowB_lt zss t i t hi (by omega)
    rw [aheadB_irrefl] at this
    cases this
  simp [h3] at h2
  exact h2

end Go.Proofs.Ytalkhlimkanlcaa

/- What is proved here: what the model's l7Addr, l7At and l7Vote answer. -/
namespace Go.Proofs.Ytalkhlimkanlcaa
open Go.RowKit
set_option linter.unusedVariables false
set_option maxRecDepth 100000

theorem l7Addr_any (a : Option Addr) (n cap : Nat) (w : World) : Calls Try.prog 52 #[.slice a n cap] w fun e w' => e = .returned (.bool (((n : Nat) : Int) == 4)) ∧ w' = w := by
  go_enter Try.func52, Try.ntmps52
  go_wp2_with fail
  go_ret
  exact ⟨rfl, rfl⟩

set_option maxHeartbeats 2000000 in
theorem l7At_any (s t : Sl) (zss : List (List Int)) (z : List Int) (w : World) (h : RowOk bytesK w s zss) (ht : BOk w t z) (hl : zss.length ≤ 1048576) :
    Calls Try.prog 59 #[.slice s.a s.n s.c, .slice t.a t.n t.c] w fun e w' => e = .returned (.int .i64 (atFrom z 0 zss)) ∧ w' = w := by
  obtain ⟨a, len, cap⟩ := s
  have hil : len = zss.length := h.len
  have HR := hide (fun hp => RowOk.pos h hp)
  have HL := hide hil
  have hln : len ≤ 1048576 := by omega
  have HT := hide ht
  clear h hil hl ht
  go_enter Try.func59, Try.ntmps59
  go_wp2_with fail
  go_loop [5] (fun i => ∃ k : Nat, k ≤ len ∧ i = .int .i64 k ∧ atFrom z 0 zss = atFrom z k (zss.drop k)) (fun i => len - (intOf i).toNat)
  case atStart => exact ⟨0, Nat.zero_le _, rfl, by simp⟩
  case round =>
    obtain ⟨k, hk, rfl, hpre⟩ := hrel
    by_cases hlt : k < len
    · obtain ⟨b, off, ea, hb, hc⟩ := (unhide HR) (by show 0 < len; omega)
      subst ea
      obtain ⟨y, hy⟩ : ∃ v, zss[k]? = some v := ⟨_, List.getElem?_eq_getElem (by rw [← unhide HL]; exact hlt)⟩
      obtain ⟨el, c, oo⟩ := hc k y hy
      have hst := atFrom_step z zss k y hy
      have c0 := c 0 _ rfl
      simp only [Nat.add_zero, Nat.mul_one, show bytesK.m = 1 from rfl] at c0
      have HQ := hide (l1Same_kd el t y z w oo (unhide HT))
      have HST := hide (And.intro hpre hst)
      have i1 : (0 : Int) ≤ (k : Int) := by omega
      have i2 : (k : Int) < (len : Int) := by omega
      clear hc c oo hst hpre hy
      go_wp2_with fail
      refine (unhide HQ).mono ?_
      rintro e w1 ⟨rfl, rfl⟩
      by_cases e : y = z
      · rw [decide_eq_true e]
        have HE : Hid (atFrom z 0 zss = k) := by show _ = _; rw [(unhide HST).1, (unhide HST).2, if_pos e]
        go_wp2_with fail
        go_ret
        exact ⟨ret_int (unhide HE).symm, rfl⟩
      · rw [decide_eq_false e]
        go_wp2_with fail
        go_round
        case rel => exact ⟨k + 1, by omega, by go_num, by rw [(unhide HST).1, (unhide HST).2, if_neg e]⟩
        case measure => simp [intOf]; omega
    · obtain rfl : k = len := by omega
      rw [List.drop_eq_nil_of_le (by rw [← unhide HL]; exact Nat.le_refl _)] at hpre
      have HE : Hid (atFrom z 0 zss = -1) := hpre
      clear hpre
      go_wp2_with fail
      go_ret
      exact ⟨ret_int (unhide HE).symm, rfl⟩

set_option maxHeartbeats 2000000 in
theorem l7Vote_any (g : Nat) (e : SnS) (x : Sn) (T : TypeId) (s t : Sl) (y z : List Int) (w : World) (sb : SBlk w g (snvals e x).toList T) (o : RowOk vtK w e.2.2.2 x.2.2.2) (oy : BOk w s y) (oz : BOk w t z) (hl : x.2.2.2.length ≤ 1048576) :
    Calls Try.prog 98 #[.pointer (some ⟨g, 0, none⟩), .slice s.a s.n s.c, .slice t.a t.n t.c] w fun r w' => r = .returned (.int .i64 (atFrom (y, z) 0 (vtKeys x.2.2.2))) ∧ w' = w := by
  obtain ⟨ee, e1, e2, a, len, cap⟩ := e
  obtain ⟨x0, x1, x2, vs⟩ := x
  have hil : len = vs.length := o.len
  have HR := hide (fun hp => RowOk.pos o hp)
  have HL := hide hil
  have hln : len ≤ 1048576 := by simp only at hl; omega
  have HY := hide oy
  have HZ := hide oz
  have u3 := sb.cell 3
  simp only [snvals, List.getElem?_cons_zero, List.getElem?_cons_succ] at u3
  have HU := hide u3
  simp only at HR
  clear o hil hl oy oz sb
  go_enter Try.func98, Try.ntmps98
  go_wp2_with fail
  go_loop [7] (fun i => ∃ k : Nat, k ≤ len ∧ i = .int .i64 k ∧ atFrom (y, z) 0 (vtKeys vs) = atFrom (y, z) k ((vtKeys vs).drop k)) (fun i => len - (intOf i).toNat)
  case atStart => exact ⟨0, Nat.zero_le _, rfl, by simp⟩
  case round =>
    obtain ⟨k, hk, rfl, hpre⟩ := hrel
    by_cases hlt : k < len
    · obtain ⟨b, off, ea, hb, hc⟩ := (unhide HR) (by show 0 < len; omega)
      subst ea
      obtain ⟨v, hv⟩ : ∃ v, vs[k]? = some v := ⟨_, List.getElem?_eq_getElem (by rw [← unhide HL]; exact hlt)⟩
      have hkv : (vtKeys vs)[k]? = some (v.1, v.2.1) := by unfold vtKeys; rw [List.getElem?_map, hv]; rfl
      obtain ⟨⟨s0, s1, ⟨⟩⟩, c, oo⟩ := hc k v hv
      have hst := atFrom_step (y, z) (vtKeys vs) k _ hkv
      obtain ⟨v0, v1, vb⟩ := v
      have c0 := c 0 _ rfl
      have c1 := c 1 _ rfl
      simp only [Nat.add_zero, show vtK.m = 3 from rfl] at c0 c1
      have HQ0 := hide (l1Same_kd s0 s v0 y w oo.1 (unhide HY))
      have HQ1 := hide (l1Same_kd s1 t v1 z w oo.2.1 (unhide HZ))
      have HST := hide (And.intro hpre hst)
      have i1 : (0 : Int) ≤ (k : Int) := by omega
      have i2 : (k : Int) < (len : Int) := by omega
      clear hc c oo hst hpre hv hkv
      go_wp2_with fail
      refine (unhide HQ0).mono ?_
      rintro e w1 ⟨rfl, rfl⟩
      by_cases e0 : v0 = y
      case neg =>
        rw [decide_eq_false e0]
        go_wp2_with fail
        go_round
        case rel => exact ⟨k + 1, by omega, by go_num, by rw [(unhide HST).1, (unhide HST).2, if_neg (fun q => e0 (by simp only [Prod.mk.injEq] at q; exact q.1))]⟩
        case measure => simp [intOf]; omega
      rw [decide_eq_true e0]
      go_wp2_with fail
      refine (unhide HQ1).mono ?_
      rintro e w2 ⟨rfl, rfl⟩
      by_cases e1 : v1 = z
      · rw [decide_eq_true e1]
        have HE : Hid (atFrom (y, z) 0 (vtKeys vs) = k) := by show _ = _; rw [(unhide HST).1, (unhide HST).2, if_pos (by rw [e0, e1])]
        go_wp2_with fail
        go_ret
        exact ⟨ret_int (unhide HE).symm, rfl⟩
      · rw [decide_eq_false e1]
        go_wp2_with fail
        go_round
        case rel => exact ⟨k + 1, by omega, by go_num, by rw [(unhide HST).1, (unhide HST).2, if_neg (fun q => e1 (by simp only [Prod.mk.injEq] at q; exact q.2))]⟩
        case measure => simp [intOf]; omega
    · obtain rfl : k = len := by omega
      rw [List.drop_eq_nil_of_le (by unfold vtKeys; rw [List.length_map, ← unhide HL]; exact Nat.le_refl _)] at hpre
      have HE : Hid (atFrom (y, z) 0 (vtKeys vs) = -1) := hpre
      clear hpre
      go_wp2_with fail
      go_ret
      exact ⟨ret_int (unhide HE).symm, rfl⟩

end Go.Proofs.Ytalkhlimkanlcaa

/- What is proved here: what the model's l5Signers answers: the first fault of a list of signers. -/
namespace Go.Proofs.Ytalkhlimkanlcaa
open Go.RowKit
set_option linter.unusedVariables false
set_option maxRecDepth 100000

set_option maxHeartbeats 2000000 in
theorem l5Signers_any (a : Option Addr) (len cap : Nat) (zss : List (List Int)) (w : World) (h : BsRow w a len zss) (hl : len ≤ 1048576) :
    Calls Try.prog 84 #[.slice a len cap] w fun e w' => e = .returned (.int .i64 (sgFlt zss)) ∧ ∃ n, w' = w.drewN n := by
  have hil := h.1
  by_cases h2 : 7 < len
  · have HE : Hid (sgFlt zss = 2) := by show _ = _; unfold sgFlt; rw [if_pos (by rw [hil]; exact h2)]
    have hd : decide ((7 : Int) < (len : Int)) = true := decide_eq_true (by omega)
    clear h hil
    go_enter Try.func84, Try.ntmps84
    go_wp2_with fail
    go_ret
    exact ⟨ret_int (unhide HE).symm, 0, rfl⟩
  · have d2 : decide ((7 : Int) < (len : Int)) = false := decide_eq_false (by omega)
    have HE : Hid (sgFlt zss = sgFrom zss 0 zss) := by show _ = _; unfold sgFlt; rw [if_neg (by omega)]
    rcases Nat.eq_zero_or_pos len with h0 | hp
    · subst h0
      have hn : zss = [] := List.length_eq_zero_iff.1 hil
      subst hn
      clear h
      go_enter Try.func84, Try.ntmps84
      go_wp2_with fail
      refine wp_loop_rounds 1 ?_
      rw [rounds_succ]
      go_wp2_with fail
      go_ret
      exact ⟨ret_int (by rw [unhide HE]; rfl), 0, rfl⟩
    · obtain ⟨b, off, rfl, hb, hc⟩ := h.at hp
      have HC := hide hc
      have HL := hide hil
      clear h hc hil
      go_enter Try.func84, Try.ntmps84
      go_wp2_with fail
      go_loopw [3] (fun i wr => ∃ k n : Nat, k ≤ len ∧ i = .int .i64 k ∧ sgFrom zss 0 zss = sgFrom zss k (zss.drop k) ∧ wr = w.drewN n) (fun i _ => len - (intOf i).toNat)
      case atStart => exact ⟨0, 0, Nat.zero_le _, rfl, by simp, rfl⟩
      case round =>
        obtain ⟨k, n, hk, rfl, hpre, hw⟩ := hrel
        have hbw : Below w.heap.size w wr := by rw [hw]; exact below_drewN (Below.refl _ _) n
        have HW := hide hw
        clear hw
        by_cases hlt : k < len
        · obtain ⟨z, hit⟩ : ∃ z, zss[k]? = some z := ⟨_, List.getElem?_eq_getElem (by rw [unhide HL]; exact hlt)⟩
          have hst := sgFrom_step zss k z hit
          rw [← hpre] at hst
          obtain ⟨s1, n1, d1, p0, r1⟩ := ((unhide HC) k z hit).below hbw (Nat.le_refl _)
          have hzl : z.length = n1 := r1.1
          have HS := hide hst
          have i1 : (0 : Int) ≤ (k : Int) := by omega
          have i2 : (k : Int) < (len : Int) := by omega
          by_cases h4 : n1 = 4
          · have d4 : (((n1 : Nat) : Int) != 4) = false := by simp [h4]
            by_cases k0 : k = 0
            · have e : sgBad zss k z = false := by unfold sgBad; simp [hzl, h4, k0]
              rw [e, if_neg (by simp)] at HS
              have dk : decide ((0 : Int) < (k : Int)) = false := decide_eq_false (by omega)
              have dk' : decide (0 < k) = false := decide_eq_false (by omega)
              clear r1 hst hpre hit hzl e k0 h4 hbw
              go_wp2_with fail
              go_quiet (fail)
              all_goals
                go_wp2_with fail
                go_roundw
                case rel => exact ⟨k + 1, _, by omega, by go_num, unhide HS, by rw [unhide HW]; first | rfl | exact World.drewN_drewN ..⟩
                case measure => simp [intOf]; omega
            · obtain ⟨j, hj⟩ : ∃ j : Nat, k - 1 = j := ⟨_, rfl⟩
              obtain ⟨y, hiy⟩ : ∃ y, zss[j]? = some y := ⟨_, List.getElem?_eq_getElem (by rw [unhide HL]; omega)⟩
              obtain ⟨s2, n2, d2', q0, r2⟩ := ((unhide HC) j y hiy).below hbw (Nat.le_refl _)
              have hgd : zss.getD (k - 1) [] = y := by rw [hj, List.getD_eq_getElem?_getD, hiy]; rfl
              have e : sgBad zss k z = !aheadB y z := by unfold sgBad; rw [hgd, hzl, h4]; simp; omega
              rw [e] at HS
              have dk : decide ((0 : Int) < (k : Int)) = true := decide_eq_true (by omega)
              have dk' : decide (0 < k) = true := decide_eq_true (by omega)
              have j1 : (0 : Int) ≤ (j : Int) := by omega
              have j2 : (j : Int) < (len : Int) := by omega
              have hwr : IntKind.i64.wrap ((k : Int) - 1) = (j : Int) := by rw [IntKind.wrap_i64]; omega
              have HA := hide (fun (m : Nat) => l1Ahead_any s2 s1 n2 d2' n1 d1 y z (wr.drewN m) (r2.below (B := wr.heap.size) (below_drewN (Below.refl _ _) m) (Nat.le_refl _)) (r1.below (B := wr.heap.size) (below_drewN (Below.refl _ _) m) (Nat.le_refl _)))
              clear r1 r2 hst hpre hit hiy hzl hgd e k0 h4 hj hbw
              generalize aheadB y z = sb at HA HS
              cases sb
              · go_wp2_with fail
                go_quiet ((go_at_call 103; exact Calls.quiet_of_same ((unhide HA) _)))
                all_goals
                  go_wp2_with fail
                  go_ret
                  exact ⟨ret_int (by rw [unhide HE, unhide HS]; rfl), _, by rw [unhide HW]; first | rfl | exact World.drewN_drewN ..⟩
              · go_wp2_with fail
                go_quiet ((go_at_call 103; exact Calls.quiet_of_same ((unhide HA) _)))
                all_goals
                  go_wp2_with fail
                  go_roundw
                  case rel => exact ⟨k + 1, _, by omega, by go_num, by rw [unhide HS]; rfl, by rw [unhide HW]; first | rfl | exact World.drewN_drewN ..⟩
                  case measure => simp [intOf]; omega
          · have d4 : (((n1 : Nat) : Int) != 4) = true := by simp; omega
            have e : sgBad zss k z = true := by unfold sgBad; simp [hzl, h4]
            rw [e, if_pos rfl] at HS
            clear r1 hst hpre hit hzl e h4 hbw
            go_wp2_with fail
            go_quiet (fail)
            all_goals
              go_wp2_with fail
              go_ret
              exact ⟨ret_int (by rw [unhide HE, unhide HS]), _, by rw [unhide HW]; first | rfl | exact World.drewN_drewN ..⟩
        · obtain rfl : k = len := by omega
          have e := sgFrom_end zss k (by rw [unhide HL]; exact Nat.le_refl _)
          rw [e] at hpre
          have HP := hide hpre
          clear e hpre
          go_wp2_with fail
          go_ret
          exact ⟨ret_int (by rw [unhide HE, unhide HP]), n, unhide HW⟩

end Go.Proofs.Ytalkhlimkanlcaa

/- What is proved here: what the model's l1In answers: whether a number lies within two bounds. -/
namespace Go.Proofs.Ytalkhlimkanlcaa
open Go.RowKit
set_option linter.unusedVariables false
set_option maxRecDepth 100000

theorem in_yes (v lo hi : Int) (w : World) (h0 : lo ≤ v) (h1 : v ≤ hi) : Calls Try.prog 93 #[.int .i64 v, .int .i64 lo, .int .i64 hi] w fun e w' => e = .returned (.bool true) ∧ w' = w := by
  have e0 : decide (lo ≤ v) = true := decide_eq_true h0
  have e1 : decide (v ≤ hi) = true := decide_eq_true h1
  go_enter Try.func93, Try.ntmps93
  go_wp2
  go_ret
  exact ⟨ret_bool (by simp), rfl⟩

set_option maxHeartbeats 1000000 in
theorem in_no (v lo hi : Int) (w : World) (h : v < lo ∨ hi < v) : Calls Try.prog 93 #[.int .i64 v, .int .i64 lo, .int .i64 hi] w fun e w' => e = .returned (.bool false) ∧ w' = w := by
  by_cases h0 : lo ≤ v
  · have e0 : decide (lo ≤ v) = true := decide_eq_true h0
    have e1 : decide (v ≤ hi) = false := decide_eq_false (by omega)
    go_enter Try.func93, Try.ntmps93
    go_wp2
    go_ret
    exact ⟨ret_bool (by simp), rfl⟩
  · have e0 : decide (lo ≤ v) = false := decide_eq_false h0
    go_enter Try.func93, Try.ntmps93
    go_wp2
    go_ret
    exact ⟨ret_bool (by simp), rfl⟩

/-- Whether a number is a word. -/
def isWord (v : Int) : Bool := decide (0 ≤ v ∧ v ≤ 4294967295)

theorem in_any (v lo hi : Int) (w : World) : Calls Try.prog 93 #[.int .i64 v, .int .i64 lo, .int .i64 hi] w fun e w' => e = .returned (.bool (decide (lo ≤ v ∧ v ≤ hi))) ∧ w' = w := by
  by_cases h : lo ≤ v ∧ v ≤ hi
  · rw [decide_eq_true h]; exact in_yes v lo hi w h.1 h.2
  · rw [decide_eq_false h]; exact in_no v lo hi w (by omega)

end Go.Proofs.Ytalkhlimkanlcaa

/- What is proved here: what the model's l5Number, l5Fault and HeaderFault answer: the fault of a header. -/
namespace Go.Proofs.Ytalkhlimkanlcaa
open Go.RowKit
set_option linter.unusedVariables false
set_option maxRecDepth 100000

theorem l5Number_any (v : Int) (w : World) : Calls Try.prog 58 #[.int .i64 v] w fun e w' => e = .returned (.bool (within v 0 1099511627776)) ∧ w' = w := by
  have HI := hide (in_any v 0 1099511627776 w)
  unfold within
  generalize decide (0 ≤ v ∧ v ≤ 1099511627776) = c at HI
  go_enter Try.func58, Try.ntmps58
  go_wp2_with fail
  refine (unhide HI).mono ?_
  rintro e w' ⟨rfl, rfl⟩
  go_wp2_with fail
  go_ret
  exact ⟨rfl, rfl⟩

end Go.Proofs.Ytalkhlimkanlcaa
