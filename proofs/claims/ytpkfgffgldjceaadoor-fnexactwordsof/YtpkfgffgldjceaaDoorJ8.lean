/- What is proved here: what bytes.Compare and slices.BinarySearchFunc answer at signers that rise, and so the program's placeAmong and isAmong: where an address stands, and whether it is there. -/
import Derived.Test.YtpkfgffgldjceaaDoorJ6
import Derived.Test.YtpkfgffgldjceaaDoorJ4
import Derived.Test.YtpkfgffgldjceaaDoorChecked
import Derived.WalkKit
import Derived.WalkSmall
import Derived.WalkSpells
import Derived.Test.YtpkfgffgldjceaaDoorJ7
import Derived.Deep.QuietTactic
import Derived.BigQuiet
import Derived.Deep.DeepCutAuto
import Derived.Deep.CutBlock
import Derived.Test.YtpkfgffgldjceaaDoorJ1
import Derived.KernelRfl
import Derived.Test.YtpkfgffgldjceaaDoorJ3
import Derived.Deep.RegionWith
import Derived.BigRegion
namespace Go.Proofs.YtpkfgffgldjceaaDoor
open Go.RowKit
set_option linter.unusedVariables false
set_option maxRecDepth 100000

theorem bcompare_any (a b : Option Addr) (la ca lb cb : Nat) (xs ys : List Int) (w : World) (ha : BRow w a la xs) (hb : BRow w b lb ys) :
    Calls Tryd.prog 96 #[.slice a la ca, .slice b lb cb] w fun e w' => e = .returned (.int .i64 (cmpB xs ys)) ∧ w' = w := by
  have hr : (callFunc 110 #[.slice a la ca, .slice b lb cb]).run Tryd.prog w = .ok (.value (.int .i64 (cmpB xs ys))) w := by
    rw [run_callFunc_extern (P := Tryd.prog) Tryd.func110 (by kernel_rfl) (by kernel_rfl) (by kernel_rfl) (e := Extern.BytealgCompare.compare) (by kernel_rfl), run_compare w a b la ca lb cb xs ys ha hb]
    rfl
  clear ha hb
  generalize cmpB xs ys = c at hr ⊢
  go_enter Tryd.func96, Tryd.ntmps96
  go_wp2
  go_ret
  exact ⟨rfl, rfl⟩

set_option maxHeartbeats 2000000 in
theorem search_any (s t : Sl) (zss : List (List Int)) (z : List Int) (lb : Nat) (fd : Bool) (w : World) (h : BsRow w s.a s.n zss) (ht : BRow w t.a t.n z) (hl : zss.length ≤ 7) (hlb : lb ≤ zss.length)
    (hlow : ∀ (i : Nat) (y : List Int), zss[i]? = some y → decide (cmpB y z < 0) = decide (i < lb)) (hfd : fd = decide (zss[lb]? = some z)) (heq : ∀ y, zss[lb]? = some y → (cmpB y z == 0) = decide (y = z)) :
    Calls Tryd.prog 111 #[.slice s.a s.n s.c, .slice t.a t.n t.c, .func (.func 96) #[] #[]] w fun e w' => e = .returned (.tuple #[.int .i64 (lb : Nat), .bool fd]) ∧ w' = w := by
  obtain ⟨a, n, c⟩ := s
  have hil : zss.length = n := h.1
  simp only at h
  have hn7 : n ≤ 7 := by omega
  have HAT : Hid (0 < n → ∃ b off, a = some ⟨b, off, none⟩ ∧ b < w.heap.size ∧ ∀ i z, zss[i]? = some z → BsAt w b (off + i) z) := fun hp => h.at hp
  have HL := hide hil
  have HLOW := hide hlow
  have HFD := hide hfd
  have HEQ := hide heq
  have HT := hide ht
  have hlb' : lb ≤ n := by omega
  clear h hil hlow hfd heq ht hl hlb
  go_enter Tryd.func111, Tryd.ntmps111
  go_wp2_with fail
  go_loop [9, 10] (fun i j => ∃ p q : Nat, i = .int .i64 p ∧ j = .int .i64 q ∧ p ≤ lb ∧ lb ≤ q ∧ q ≤ n) (fun i j => (intOf j).toNat - (intOf i).toNat)
  case atStart => exact ⟨0, n, rfl, rfl, Nat.zero_le _, hlb', Nat.le_refl _⟩
  case round =>
    obtain ⟨p, q, rfl, rfl, hp, hq, hqn⟩ := hrel
    by_cases hlt : p < q
    · obtain ⟨b, off, rfl, hb, hc⟩ := (unhide HAT) (by omega)
      obtain ⟨hh, ehh⟩ : ∃ m, m = (p + q) / 2 := ⟨_, rfl⟩
      have hpm : p ≤ hh ∧ hh < q := by omega
      obtain ⟨y, hy⟩ : ∃ y, zss[hh]? = some y := ⟨_, List.getElem?_eq_getElem (by rw [unhide HL]; omega)⟩
      obtain ⟨sa, sl, sc, c0, hbr⟩ := hc hh y hy
      have HC := hide (bcompare_any sa t.a sl sc t.n t.c y z w hbr (unhide HT))
      have hlow := (unhide HLOW) hh y hy
      have d1 : decide ((p : Int) < (q : Int)) = true := decide_eq_true (by omega)
      obtain ⟨mm, emm⟩ : ∃ m : Nat, m = p + q := ⟨_, rfl⟩
      have s1 : (p : Int) + (q : Int) = (mm : Int) := by omega
      have s2 : IntKind.u64.wrap (mm : Int) = (mm : Int) := by rw [IntKind.wrap_u64]; omega
      have s3 : IntKind.i64.wrap (mm : Int) = (mm : Int) := by rw [IntKind.wrap_i64]; omega
      have s4 : (mm : Int) / 2 = (hh : Int) := by omega
      have s5 : IntKind.u64.wrap (hh : Int) = (hh : Int) := by rw [IntKind.wrap_u64]; omega
      have s6 : IntKind.i64.wrap (hh : Int) = (hh : Int) := by rw [IntKind.wrap_i64]; omega
      have HM := hide (And.intro ehh (And.intro hpm emm))
      have i1 : (0 : Int) ≤ (hh : Int) := by omega
      have i2 : (hh : Int) < (n : Int) := by omega
      clear hc hbr hy ehh hpm emm
      go_wp2_with fail
      refine (unhide HC).mono ?_
      rintro e w1 ⟨rfl, rfl⟩
      generalize cmpB y z = cc at hlow
      by_cases hcase : hh < lb
      · rw [decide_eq_true hcase] at hlow
        go_wp2_with fail
        go_round
        case rel => exact ⟨hh + 1, q, by go_num, rfl, by omega, hq, hqn⟩
        case measure => obtain ⟨e1, e2, e3⟩ := unhide HM; simp [intOf]; omega
      · rw [decide_eq_false hcase] at hlow
        go_wp2_with fail
        go_round
        case rel => exact ⟨p, hh, rfl, rfl, hp, by omega, by obtain ⟨e1, e2, e3⟩ := unhide HM; omega⟩
        case measure => obtain ⟨e1, e2, e3⟩ := unhide HM; simp [intOf]; omega
    · obtain rfl : p = lb := by omega
      have d1 : decide ((p : Int) < (q : Int)) = false := decide_eq_false (by omega)
      clear HLOW
      by_cases hpn : p < n
      · obtain ⟨b, off, rfl, hb, hc⟩ := (unhide HAT) (by omega)
        obtain ⟨y, hy⟩ : ∃ y, zss[p]? = some y := ⟨_, List.getElem?_eq_getElem (by rw [unhide HL]; omega)⟩
        obtain ⟨sa, sl, sc, c0, hbr⟩ := hc p y hy
        have HC := hide (bcompare_any sa t.a sl sc t.n t.c y z w hbr (unhide HT))
        have heq := (unhide HEQ) y hy
        have hfd := unhide HFD
        rw [hy] at hfd
        simp only [Option.some.injEq] at hfd
        rw [← hfd] at heq
        have d2 : decide ((p : Int) < (n : Int)) = true := decide_eq_true (by omega)
        have i1 : (0 : Int) ≤ (p : Int) := by omega
        have i2 : (p : Int) < (n : Int) := by omega
        clear hc hbr hy HFD HEQ hfd HAT
        go_wp2_with fail
        refine (unhide HC).mono ?_
        rintro e w1 ⟨rfl, rfl⟩
        generalize cmpB y z = cc at heq
        go_wp2_with fail
        go_ret2
        exact ⟨rfl, rfl⟩
      · have d2 : decide ((p : Int) < (n : Int)) = false := decide_eq_false (by omega)
        have hfd : fd = false := by
          rw [unhide HFD, List.getElem?_eq_none (by rw [unhide HL]; omega)]
          rfl
        subst hfd
        clear HFD HEQ HAT
        go_wp2_with fail
        go_ret2
        exact ⟨rfl, rfl⟩

set_option maxHeartbeats 1000000 in
/-- Where an address stands among signers without a fault, and whether it is there. -/
theorem placeAmong_any (s t : Sl) (zss : List (List Int)) (z : List Int) (w : World) (h : RowOk bytesK w s zss) (ht : BOk w t z) (hs : sgFlt zss = 0) :
    Calls Tryd.prog 97 #[.slice s.a s.n s.c, .slice t.a t.n t.c] w fun e w' => e = .returned (.tuple #[.int .i64 (plB zss z : Nat), .bool (decide (z ∈ zss))]) ∧ w' = w := by
  obtain ⟨h7, h4, hr⟩ := sg_rise hs
  have hb := bs_of_row h
  have HS := hide (search_any s t zss z (plB zss z) (decide (z ∈ zss)) w hb ht.row h7 (plB_le _ _) (fun i y hy => by rw [cmpB_neg]; exact plB_iff hr z i y hy)
    (by by_cases e : z ∈ zss <;> simp [e, plB_mem hr z]) (fun y hy => by
      have := cmpB_zero (hb.bytes y (List.mem_of_getElem? hy)) ht.row.2.1
      by_cases e : y = z
      · rw [decide_eq_true e]; simp [this.2 e]
      · rw [decide_eq_false e]
        rw [beq_eq_false_iff_ne]
        exact fun q => e (this.1 q)))
  generalize plB zss z = lb at HS ⊢
  generalize decide (z ∈ zss) = fd at HS ⊢
  clear h ht hs h7 h4 hr hb
  go_enter Tryd.func97, Tryd.ntmps97
  go_wp2_with fail
  refine (unhide HS).mono ?_
  rintro e w1 ⟨rfl, rfl⟩
  go_wp2_with fail
  go_ret2
  exact ⟨rfl, rfl⟩

set_option maxHeartbeats 1000000 in
theorem isAmong_any (s t : Sl) (zss : List (List Int)) (z : List Int) (w : World) (h : RowOk bytesK w s zss) (ht : BOk w t z) (hs : sgFlt zss = 0) :
    Calls Tryd.prog 85 #[.slice s.a s.n s.c, .slice t.a t.n t.c] w fun e w' => e = .returned (.bool (decide (z ∈ zss))) ∧ w' = w := by
  have HS := hide (placeAmong_any s t zss z w h ht hs)
  generalize plB zss z = lb at HS
  generalize decide (z ∈ zss) = fd at HS ⊢
  clear h ht hs
  go_enter Tryd.func85, Tryd.ntmps85
  go_wp2_with fail
  refine (unhide HS).mono ?_
  rintro e w1 ⟨rfl, rfl⟩
  go_wp2_with fail
  go_ret
  exact ⟨rfl, rfl⟩

end Go.Proofs.YtpkfgffgldjceaaDoor

/- What is proved here: what the program's voteFault answers. -/
namespace Go.Proofs.YtpkfgffgldjceaaDoor
open Go.RowKit
set_option linter.unusedVariables false
set_option maxRecDepth 100000

theorem beq4 (n : Nat) : (n == 4) = (((n : Nat) : Int) == 4) := by
  rw [Bool.eq_iff_iff, beq_iff_eq, beq_iff_eq]
  omega

set_option maxHeartbeats 4000000 in
theorem voteFault_any (s t sS : Sl) (x y : List Int) (b : Bool) (sg : List (List Int)) (g k : Nat) (seen : List (List Int × List Int)) (w : World) (o : BOk w s x) (q : BOk w t y) (h : RowOk bytesK w sS sg) (hs : sgFlt sg = 0) (hp : PollOk w g k seen) :
    Calls Tryd.prog 73 #[.agg #[.slice s.a s.n s.c, .slice t.a t.n t.c, .bool b], .slice sS.a sS.n sS.c, .map (some g)] w fun e w' => e = .returned (.int .i64 (vtOne sg seen (x, y, b))) ∧ Below w.heap.size w w' := by
  have lx : x.length = s.n := o.row.1
  have ly : y.length = t.n := q.row.1
  have HM1 := hide (fun (W : World) (hb : Below w.heap.size w W) => isAmong_any sS s sg x W (RowOk.below h hb (Nat.le_refl _)) (bytesK.below o hb (Nat.le_refl _)) hs)
  have HM2 := hide (fun (W : World) (hb : Below w.heap.size w W) => isAmong_any sS t sg y W (RowOk.below h hb (Nat.le_refl _)) (bytesK.below q hb (Nat.le_refl _)) hs)
  have HH := hide (fun (e1 : x.length = 4) (e2 : y.length = 4) (W : World) (hb : Below w.heap.size w W) => has_any g k s t x y b seen W (bytesK.below o hb (Nat.le_refl _)) (bytesK.below q hb (Nat.le_refl _)) e1 e2 (hp.below hb (Nat.le_refl _)))
  have ka := SBlk.new w #[.slice s.a s.n s.c, .slice t.a t.n t.c, .bool b] 62
  have ba := below_alloc w (.cells #[.slice s.a s.n s.c, .slice t.a t.n t.c, .bool b] 62)
  obtain ⟨W0, e0⟩ : ∃ W, w.alloc (.cells #[.slice s.a s.n s.c, .slice t.a t.n t.c, .bool b] 62) = W := ⟨_, rfl⟩
  rw [e0] at ka ba
  have c0 := ka.cell 0
  have c1 := ka.cell 1
  have c2 := ka.cell 2
  simp only [List.getElem?_cons_zero, List.getElem?_cons_succ] at c0 c1 c2
  have B0 := hide ba
  have HE : Hid (vtOne sg seen (x, y, b) = if ((((s.n : Nat) : Int) == 4) && (((t.n : Nat) : Int) == 4)) = false then 1 else if decide (x ∈ sg) = false then 4 else if (b == decide (y ∈ sg)) = true then 8 else if decide ((x, y) ∈ seen) = true then 6 else 0) := by
    show _ = _
    unfold vtOne
    have e1 : (x.length == 4) = (((s.n : Nat) : Int) == 4) := by rw [lx]; exact beq4 _
    have e2 : (y.length == 4) = (((t.n : Nat) : Int) == 4) := by rw [ly]; exact beq4 _
    simp only [e1, e2]
  have L1 := hide lx
  have L2 := hide ly
  clear o q h hp ka ba lx ly hs
  generalize vtOne sg seen (x, y, b) = r at HE ⊢
  have a1 : ∀ W, Calls Tryd.prog 72 #[.slice s.a s.n s.c] W fun e w' => e = .returned (.bool (((s.n : Nat) : Int) == 4)) ∧ w' = W := fun W => isAddr_any s.a s.n s.c W
  have a2 : ∀ W, Calls Tryd.prog 72 #[.slice t.a t.n t.c] W fun e w' => e = .returned (.bool (((t.n : Nat) : Int) == 4)) ∧ w' = W := fun W => isAddr_any t.a t.n t.c W
  have A1 := hide a1
  have A2 := hide a2
  clear a1 a2
  go_enter Tryd.func73, Tryd.ntmps73
  go_wp2_with (rw [e0])
  try rw [e0]
  clear e0
  have Z1 : Hid ((((s.n : Nat) : Int) == 4) = true → x.length = 4) := fun h => by have := unhide L1; simp at h; omega
  have Z2 : Hid ((((t.n : Nat) : Int) == 4) = true → y.length = 4) := fun h => by have := unhide L2; simp at h; omega
  clear L1 L2
  generalize hp1 : (((s.n : Nat) : Int) == 4) = p1 at A1 HE Z1
  generalize hp2 : (((t.n : Nat) : Int) == 4) = p2 at A2 HE Z2
  generalize decide (x ∈ sg) = m1 at HM1 HE
  generalize decide (y ∈ sg) = m2 at HM2 HE
  generalize decide ((x, y) ∈ seen) = hb at HH HE
  clear hp1 hp2
  refine ((unhide A1) _).mono ?_
  rintro e w1 ⟨rfl, rfl⟩
  cases p1
  · go_wp2_with fail
    go_ret
    exact ⟨ret_int (by rw [unhide HE]; first | rfl | simp), unhide B0⟩
  go_wp2_with fail
  refine ((unhide A2) _).mono ?_
  rintro e w2 ⟨rfl, rfl⟩
  cases p2
  · go_wp2_with fail
    go_ret
    exact ⟨ret_int (by rw [unhide HE]; first | rfl | simp), unhide B0⟩
  go_wp2_with fail
  refine ((unhide HM1) _ (unhide B0)).mono ?_
  rintro e w3 ⟨rfl, rfl⟩
  cases m1
  · go_wp2_with fail
    go_ret
    exact ⟨ret_int (by rw [unhide HE]; first | rfl | simp), unhide B0⟩
  go_wp2_with fail
  cases m2 <;> cases b
  · go_quiet ((go_at_call 85; exact Calls.quiet_of_same ((unhide HM2) _ (below_drewN (unhide B0) _))))
    go_wp2_with fail
    go_ret
    exact ⟨ret_int (by rw [unhide HE]; first | rfl | simp), by first | exact unhide B0 | exact below_drewN (unhide B0) _⟩
  · go_quiet ((go_at_call 85; exact Calls.quiet_of_same ((unhide HM2) _ (below_drewN (unhide B0) _))))
    go_wp2_with fail
    refine ((unhide HH) ((unhide Z1) (by simp)) ((unhide Z2) (by simp)) _ (by first | exact unhide B0 | exact below_drewN (unhide B0) _)).mono ?_
    rintro e w4 ⟨rfl, b4⟩
    have HB4 : Hid (Below w.heap.size w w4) := Below.trans (by first | exact unhide B0 | exact below_drewN (unhide B0) _) (b4.mono (by first | exact (unhide B0).size | exact (below_drewN (unhide B0) _).size))
    clear b4
    cases hb
    all_goals
      go_wp2_with fail
      go_ret
      exact ⟨ret_int (by rw [unhide HE]; first | rfl | simp), unhide HB4⟩
  · go_quiet ((go_at_call 85; exact Calls.quiet_of_same ((unhide HM2) _ (below_drewN (unhide B0) _))))
    go_wp2_with fail
    refine ((unhide HH) ((unhide Z1) (by simp)) ((unhide Z2) (by simp)) _ (by first | exact unhide B0 | exact below_drewN (unhide B0) _)).mono ?_
    rintro e w4 ⟨rfl, b4⟩
    have HB4 : Hid (Below w.heap.size w w4) := Below.trans (by first | exact unhide B0 | exact below_drewN (unhide B0) _) (b4.mono (by first | exact (unhide B0).size | exact (below_drewN (unhide B0) _).size))
    clear b4
    cases hb
    all_goals
      go_wp2_with fail
      go_ret
      exact ⟨ret_int (by rw [unhide HE]; first | rfl | simp), unhide HB4⟩
  · go_quiet ((go_at_call 85; exact Calls.quiet_of_same ((unhide HM2) _ (below_drewN (unhide B0) _))))
    go_wp2_with fail
    go_ret
    exact ⟨ret_int (by rw [unhide HE]; first | rfl | simp), by first | exact unhide B0 | exact below_drewN (unhide B0) _⟩

end Go.Proofs.YtpkfgffgldjceaaDoor

/- What is proved here: what the program's HeaderFault answers, and what it calls: the fault of a header. -/
namespace Go.Proofs.YtpkfgffgldjceaaDoor
open Go.RowKit
set_option linter.unusedVariables false
set_option maxRecDepth 100000

theorem isWithin_any (v lo hi : Int) (w : World) : Calls Tryd.prog 70 #[.int .i64 v, .int .i64 lo, .int .i64 hi] w fun e w' => e = .returned (.bool (within v lo hi)) ∧ w' = w := by
  unfold within
  by_cases h0 : lo ≤ v
  · have e0 : decide (lo ≤ v) = true := decide_eq_true h0
    by_cases h1 : v ≤ hi
    · have e1 : decide (v ≤ hi) = true := decide_eq_true h1
      have e : decide (lo ≤ v ∧ v ≤ hi) = true := decide_eq_true ⟨h0, h1⟩
      rw [e]
      clear e
      go_enter Tryd.func70, Tryd.ntmps70
      go_wp2_with fail
      go_ret
      exact ⟨rfl, rfl⟩
    · have e1 : decide (v ≤ hi) = false := decide_eq_false h1
      have e : decide (lo ≤ v ∧ v ≤ hi) = false := decide_eq_false (fun h => h1 h.2)
      rw [e]
      clear e
      go_enter Tryd.func70, Tryd.ntmps70
      go_wp2_with fail
      go_ret
      exact ⟨rfl, rfl⟩
  · have e0 : decide (lo ≤ v) = false := decide_eq_false h0
    have e : decide (lo ≤ v ∧ v ≤ hi) = false := decide_eq_false (fun h => h0 h.1)
    rw [e]
    clear e
    go_enter Tryd.func70, Tryd.ntmps70
    go_wp2_with fail
    go_ret
    exact ⟨rfl, rfl⟩

theorem isWithin_to (v lo hi : Int) (c : Bool) (w : World) (e : within v lo hi = c) : Calls Tryd.prog 70 #[.int .i64 v, .int .i64 lo, .int .i64 hi] w fun e w' => e = .returned (.bool c) ∧ w' = w := by
  subst e; exact isWithin_any v lo hi w

theorem isNumber_to (v : Int) (c : Bool) (w : World) (e : within v 0 1099511627776 = c) : Calls Tryd.prog 50 #[.int .i64 v] w fun e w' => e = .returned (.bool c) ∧ w' = w := by
  have HI := hide (isWithin_to v 0 1099511627776 c w e)
  clear e
  go_enter Tryd.func50, Tryd.ntmps50
  go_wp2_with fail
  refine (unhide HI).mono ?_
  rintro e w' ⟨rfl, rfl⟩
  go_wp2_with fail
  go_ret
  exact ⟨rfl, rfl⟩

end Go.Proofs.YtpkfgffgldjceaaDoor

/- What is proved here: what the program's votesFault and recentsFault answer. -/
namespace Go.Proofs.YtpkfgffgldjceaaDoor
open Go.RowKit
set_option linter.unusedVariables false
set_option maxRecDepth 100000

set_option maxHeartbeats 4000000 in
theorem votesFaultS_any (vS sS : Sl) (vs : List Vt) (sg : List (List Int)) (w : World) (o : RowOk vtK w vS vs) (h : RowOk bytesK w sS sg) (hs : sgFlt sg = 0) (hl : vs.length ≤ 30) :
    Calls Tryd.prog 53 #[.slice vS.a vS.n vS.c, .slice sS.a sS.n sS.c] w fun e w' => e = .returned (.int .i64 (vtFrom sg vs 0 vs)) ∧ Below w.heap.size w w' := by
  obtain ⟨a, len, cap⟩ := vS
  have hil : len = vs.length := o.len
  have HR := hide (fun hp => RowOk.pos o hp)
  have HL := hide hil
  have HS := hide h
  have HG := hide hs
  have hln : len ≤ 30 := by omega
  have HO := hide o
  have hmm := @run_makeMap Tryd.prog
  clear o h hs hil hl
  go_enter Tryd.func53, Tryd.ntmps53
  go_wp2_with fail
  go_loopw [12] (fun i wr => ∃ k : Nat, k ≤ len ∧ i = .int .i64 k ∧ vtFrom sg vs 0 vs = vtFrom sg vs k (vs.drop k) ∧ PollOk wr w.heap.size k (vtKeys (vs.take k)) ∧ Below w.heap.size w wr) (fun i _ => len - (intOf i).toNat)
  case atStart => exact ⟨0, Nat.zero_le _, rfl, by simp, by simpa [vtKeys] using PollOk.made w, (Below.refl _ _).alloc (Nat.le_refl _) _⟩
  case round =>
    obtain ⟨k, hk, rfl, hpre, hpoll, hbr⟩ := hrel
    by_cases hlt : k < len
    · obtain ⟨b, off, ea, hb, hc⟩ := (unhide HR) (by show 0 < len; omega)
      subst ea
      obtain ⟨v, hv⟩ : ∃ v, vs[k]? = some v := ⟨_, List.getElem?_eq_getElem (by rw [← unhide HL]; exact hlt)⟩
      obtain ⟨⟨s, t, ⟨⟩⟩, c, oo⟩ := hc k v hv
      have hst := vtFrom_step sg vs k v hv
      have hsn := vtKeys_snoc vs k v hv
      have hz0 := fun h => vtOne_zero (sg := sg) (seen := vtKeys (vs.take k)) (v := v) h
      obtain ⟨x, y, bb⟩ := v
      have c0 := (hbr.cell (p := ⟨b, off + k * vtK.m + 0, none⟩) hb).trans (c 0 _ rfl)
      have c1 := (hbr.cell (p := ⟨b, off + k * vtK.m + 1, none⟩) hb).trans (c 1 _ rfl)
      have c2 := (hbr.cell (p := ⟨b, off + k * vtK.m + 2, none⟩) hb).trans (c 2 _ rfl)
      simp only [Nat.add_zero, show vtK.m = 3 from rfl] at c0 c1 c2
      have ox := bytesK.below oo.1 hbr (Nat.le_refl _)
      have oy := bytesK.below oo.2.1 hbr (Nat.le_refl _)
      have HF := hide (fun (W : World) (hb : Below wr.heap.size wr W) => voteFault_any s t sS x y bb sg w.heap.size k (vtKeys (vs.take k)) W (bytesK.below ox hb (Nat.le_refl _)) (bytesK.below oy hb (Nat.le_refl _)) (RowOk.below (unhide HS) (hbr.trans (hb.mono hbr.size)) (Nat.le_refl _)) (unhide HG) (hpoll.below hb (Nat.le_refl _)))
      have HU := hide (fun (e1 : x.length = 4) (e2 : y.length = 4) (W : World) (hb : Below wr.heap.size wr W) => put_any w.heap.size k s t x y bb k (vtKeys (vs.take k)) W (bytesK.below ox hb (Nat.le_refl _)) (bytesK.below oy hb (Nat.le_refl _)) e1 e2 (hpoll.below hb (Nat.le_refl _)) (by unfold maxLen; omega))
      have HST := hide (And.intro hpre (And.intro hst (And.intro hsn hz0)))
      have HB := hide hbr
      have i1 : (0 : Int) ≤ (k : Int) := by omega
      have i2 : (k : Int) < (len : Int) := by omega
      clear hc c oo ox oy hst hsn hz0 hpre hpoll hbr hv
      generalize vtOne sg (vtKeys (vs.take k)) (x, y, bb) = r at HF HST
      go_wp2_with fail
      have ka := SBlk.new wr #[.slice s.a s.n s.c, .slice t.a t.n t.c, .bool bb] 62
      have ba := below_alloc wr (.cells #[.slice s.a s.n s.c, .slice t.a t.n t.c, .bool bb] 62)
      refine ((unhide HF) _ ba).mono ?_
      rintro e w1 ⟨rfl, b1⟩
      have B1 := hide (ba.trans (b1.mono ba.size))
      have k1 := ka.below b1 ka.lt
      have d0 := k1.cell 0
      have d1 := k1.cell 1
      have d2 := k1.cell 2
      simp only [List.getElem?_cons_zero, List.getElem?_cons_succ] at d0 d1 d2
      clear ka ba b1 k1 HF
      by_cases hr : r = 0
      · subst hr
        have h00 : ((0 : Int) != 0) = false := by simp
        go_wp2_with fail
        have hzz := (unhide HST).2.2.2 (by simp)
        refine ((unhide HU) hzz.1 hzz.2.1 _ (unhide B1)).mono ?_
        rintro e w2 ⟨rfl, p2, g2⟩
        have B2 := hide (((unhide HB).trans ((unhide B1).mono (unhide HB).size)).grown g2 ((unhide HB).trans ((unhide B1).mono (unhide HB).size)).size (fun q e => by cases e; exact Nat.le_refl _))
        have P2 := hide p2
        clear p2 g2 hzz
        go_wp2_with fail
        go_roundw
        case rel => exact ⟨k + 1, by omega, by go_num, by rw [(unhide HST).1, (unhide HST).2.1]; simp, by rw [(unhide HST).2.2.1]; exact unhide P2, unhide B2⟩
        case measure => simp [intOf]; omega
      · have h00 : (r != 0) = true := by simp [hr]
        have HE : Hid (vtFrom sg vs 0 vs = r) := by show _ = _; rw [(unhide HST).1, (unhide HST).2.1, if_neg hr]
        go_wp2_with fail
        go_ret
        exact ⟨ret_int (unhide HE).symm, (unhide HB).trans ((unhide B1).mono (unhide HB).size)⟩
    · obtain rfl : k = len := by omega
      rw [List.drop_eq_nil_of_le (by rw [← unhide HL]; exact Nat.le_refl _)] at hpre
      have HE : Hid (vtFrom sg vs 0 vs = 0) := hpre
      have HB := hide hbr
      clear hpre hpoll hbr
      go_wp2_with fail
      go_ret
      exact ⟨ret_int (unhide HE).symm, unhide HB⟩

set_option maxHeartbeats 2000000 in
theorem recentsFault_any (rS : Sl) (rs : List Rc) (last : Int) (w : World) (o : RowOk rcK w rS rs) (hl : rs.length ≤ 1048576) (hlast : 0 ≤ last ∧ last ≤ 1099511627776) :
    Calls Tryd.prog 52 #[.slice rS.a rS.n rS.c, .int .i64 last] w fun e w' => e = .returned (.int .i64 (rcFrom last 0 rs)) ∧ Below w.heap.size w w' := by
  obtain ⟨a, len, cap⟩ := rS
  have hil : len = rs.length := o.len
  have HR := hide (fun hp => RowOk.pos o hp)
  have HL := hide hil
  have hln : len ≤ 1048576 := by omega
  clear o hil hl
  go_enter Tryd.func52, Tryd.ntmps52
  go_wp2_with fail
  go_loopw [5, 10] (fun q i wr => ∃ (k : Nat) (L : Int), k ≤ len ∧ q = .int .i64 L ∧ i = .int .i64 k ∧ 0 ≤ L ∧ L ≤ 1099511627777 ∧ rcFrom last 0 rs = rcFrom last L (rs.drop k) ∧ Below w.heap.size w wr) (fun _ i _ => len - (intOf i).toNat)
  case atStart => exact ⟨0, 0, Nat.zero_le _, rfl, rfl, by omega, by omega, by simp, Below.refl _ _⟩
  case round =>
    obtain ⟨k, L, hk, rfl, rfl, hL0, hL1, hpre, hbr⟩ := hrel
    by_cases hlt : k < len
    · obtain ⟨b, off, ea, hb, hc⟩ := (unhide HR) (by show 0 < len; omega)
      subst ea
      obtain ⟨v, hv⟩ : ∃ v, rs[k]? = some v := ⟨_, List.getElem?_eq_getElem (by rw [← unhide HL]; exact hlt)⟩
      obtain ⟨⟨⟨⟩, s⟩, c, oo⟩ := hc k v hv
      have hst := rcFrom_step last L rs k v hv
      obtain ⟨n, z⟩ := v
      have c0 := (hbr.cell (p := ⟨b, off + k * rcK.m + 0, none⟩) hb).trans (c 0 _ rfl)
      have c1 := (hbr.cell (p := ⟨b, off + k * rcK.m + 1, none⟩) hb).trans (c 1 _ rfl)
      simp only [Nat.add_zero, show rcK.m = 2 from rfl] at c0 c1
      have lz : z.length = s.n := oo.2.row.1
      have hone : rcOne last L (n, z) = if (((s.n : Nat) : Int) == 4) = false then 1 else if within n L last = false then 3 else 0 := by
        unfold rcOne
        rw [← beq4 s.n, ← lz]
      rw [hone] at hst
      have hw : within n L last = true → 0 ≤ n ∧ n ≤ 1099511627776 := fun h => by unfold within at h; simp at h; omega
      have A1 := hide (fun W => isAddr_any s.a s.n s.c W)
      have A2 := hide (fun W => isWithin_any n L last W)
      have HST := hide (And.intro hpre hst)
      have HW := hide hw
      have HB := hide hbr
      have i1 : (0 : Int) ≤ (k : Int) := by omega
      have i2 : (k : Int) < (len : Int) := by omega
      have ka := SBlk.new wr #[.int .i64 n, .slice s.a s.n s.c] 60
      have ba := below_alloc wr (.cells #[.int .i64 n, .slice s.a s.n s.c] 60)
      have HBA := hide ((unhide HB).trans (ba.mono (unhide HB).size))
      clear hc c oo hst hpre hbr hv hone hw lz
      generalize (((s.n : Nat) : Int) == 4) = p1 at A1 HST
      generalize within n L last = p2 at A2 HST HW
      obtain ⟨W0, e0⟩ : ∃ W, wr.alloc (.cells #[.int .i64 n, .slice s.a s.n s.c] 60) = W := ⟨_, rfl⟩
      rw [e0] at ka HBA
      have d0 := ka.cell 0
      have d1 := ka.cell 1
      simp only [List.getElem?_cons_zero, List.getElem?_cons_succ] at d0 d1
      clear ka ba
      go_wp2_with (rw [e0])
      try rw [e0]
      clear e0
      refine ((unhide A1) _).mono ?_
      rintro e w1 ⟨rfl, rfl⟩
      cases p1
      · have HE : Hid (rcFrom last 0 rs = 1) := by show _ = _; rw [(unhide HST).1, (unhide HST).2]; simp
        go_wp2_with fail
        go_ret
        exact ⟨ret_int (unhide HE).symm, unhide HBA⟩
      go_wp2_with fail
      refine ((unhide A2) _).mono ?_
      rintro e w2 ⟨rfl, rfl⟩
      cases p2
      · have HE : Hid (rcFrom last 0 rs = 3) := by show _ = _; rw [(unhide HST).1, (unhide HST).2]; simp
        go_wp2_with fail
        go_ret
        exact ⟨ret_int (unhide HE).symm, unhide HBA⟩
      have hn := (unhide HW) (by first | rfl | simp)
      have hn1 : IntKind.i64.wrap (n + 1) = n + 1 := by rw [IntKind.wrap_i64]; omega
      go_wp2_with fail
      go_roundw
      case rel => exact ⟨k + 1, n + 1, by omega, rfl, by go_num, by omega, by omega, by rw [(unhide HST).1, (unhide HST).2]; simp, unhide HBA⟩
      case measure => simp [intOf]; omega
    · obtain rfl : k = len := by omega
      rw [List.drop_eq_nil_of_le (by rw [← unhide HL]; exact Nat.le_refl _)] at hpre
      have HE : Hid (rcFrom last 0 rs = 0) := hpre
      have HB := hide hbr
      clear hpre hbr
      go_wp2_with fail
      go_ret
      exact ⟨ret_int (unhide HE).symm, unhide HB⟩

end Go.Proofs.YtpkfgffgldjceaaDoor

/- What is proved here: what the program's SnapFault answers. -/
namespace Go.Proofs.YtpkfgffgldjceaaDoor
open Go.RowKit
set_option linter.unusedVariables false
set_option maxRecDepth 100000

set_option maxHeartbeats 4000000 in
theorem implSnapFault_any (e : SnS) (x : Sn) (w : World) (o : SNK.Ok w e x) (m : SnSm x) :
    Calls Tryd.prog 24 #[.agg (snvals e x)] w fun r w' => r = .returned (.int .i64 (snFlt x)) ∧ Below w.heap.size w w' := by
  have kb := SBlk.new w (snvals e x) 34
  have bb := below_alloc w (.cells (snvals e x) 34)
  obtain ⟨W0, e0⟩ : ∃ W, w.alloc (.cells (snvals e x) 34) = W := ⟨_, rfl⟩
  rw [e0] at kb bb
  obtain ⟨ee0, e1, e2, e3⟩ := e
  obtain ⟨x0, x1, x2, x3⟩ := x
  have D0 := hide (fun W => isNumber_to x0 _ W rfl)
  have D1 := hide (someSigners_any e1 x1 W0 (RowOk.below o.2.1 bb (Nat.le_refl _)) m.s)
  have D2 := hide (fun (h : 0 ≤ x0 ∧ x0 ≤ 1099511627776) => recentsFault_any e2 x2 x0 W0 (RowOk.below o.2.2.1 bb (Nat.le_refl _)) m.r h)
  have D3 := hide (fun (W : World) (hb : Below W0.heap.size W0 W) (hs : sgFlt x1 = 0) (hl : x3.length ≤ 30) => votesFaultS_any e3 e1 x3 x1 W (RowOk.below o.2.2.2 (bb.trans (hb.mono bb.size)) (Nat.le_refl _)) (RowOk.below o.2.1 (bb.trans (hb.mono bb.size)) (Nat.le_refl _)) hs hl)
  have l2 : e2.n = x2.length := o.2.2.1.len
  have l3 : e3.n = x3.length := o.2.2.2.len
  have LL := hide (And.intro l2 l3)
  have HK := hide (fun (W : World) (hb : Below W0.heap.size W0 W) => kb.below hb kb.lt)
  have HBB := hide bb
  have c0 := kb.cell 0
  have c1 := kb.cell 1
  have c2 := kb.cell 2
  have c3 := kb.cell 3
  simp only [snvals, List.getElem?_cons_zero, List.getElem?_cons_succ] at c0 c1 c2 c3
  have HE : Hid (snFlt (x0, x1, x2, x3) = if within x0 0 1099511627776 = false then 3 else if sgSome x1 ≠ 0 then sgSome x1 else if 7 < e2.n ∨ 30 < e3.n then 2 else if rcFrom x0 0 x2 ≠ 0 then rcFrom x0 0 x2 else vtFrom x1 x3 0 x3) := by
    show _ = _
    rw [l2, l3]
    rfl
  have HW : Hid (within x0 0 1099511627776 = true → 0 ≤ x0 ∧ x0 ≤ 1099511627776) := fun h => by unfold within at h; simpa using h
  have HG : Hid (sgSome x1 = 0 → sgFlt x1 = 0) := fun h => by unfold sgSome at h; split at h; omega; exact h
  clear o m kb bb l2 l3
  unfold snvals at e0 ⊢
  simp only at e0 ⊢
  generalize snFlt (x0, x1, x2, x3) = r at HE ⊢
  generalize within x0 0 1099511627776 = p0 at D0 HE HW
  generalize sgSome x1 = p1 at D1 HE HG
  go_enter Tryd.func24, Tryd.ntmps24
  go_wp2_with (rw [e0])
  try rw [e0]
  clear e0
  refine ((unhide D0) _).mono ?_
  rintro e w1 ⟨rfl, rfl⟩
  cases p0
  · go_wp2_with fail
    go_ret
    exact ⟨ret_int (by rw [unhide HE]; simp), unhide HBB⟩
  go_wp2_with fail
  refine (unhide D1).mono ?_
  rintro e w2 ⟨rfl, rfl⟩
  by_cases n1 : p1 = 0
  case neg =>
    have h1 : (p1 != 0) = true := by simp [n1]
    go_wp2_with fail
    go_ret
    exact ⟨ret_int (by rw [unhide HE]; simp [n1]), unhide HBB⟩
  subst n1
  have h1 : ((0 : Int) != 0) = false := by simp
  by_cases n2 : 7 < e2.n
  · have h2 : decide ((7 : Int) < (e2.n : Int)) = true := decide_eq_true (by omega)
    go_wp2_with fail
    go_ret
    exact ⟨ret_int (by rw [unhide HE]; simp [n2]), unhide HBB⟩
  have h2 : decide ((7 : Int) < (e2.n : Int)) = false := decide_eq_false (by omega)
  by_cases n3 : 30 < e3.n
  · have h3 : decide ((30 : Int) < (e3.n : Int)) = true := decide_eq_true (by omega)
    go_wp2_with fail
    go_ret
    exact ⟨ret_int (by rw [unhide HE]; simp [n3]), unhide HBB⟩
  have h3 : decide ((30 : Int) < (e3.n : Int)) = false := decide_eq_false (by omega)
  have HE2 : Hid (r = if rcFrom x0 0 x2 ≠ 0 then rcFrom x0 0 x2 else vtFrom x1 x3 0 x3) := by show _ = _; rw [unhide HE]; simp [n2, n3]
  have D2' := hide ((unhide D2) ((unhide HW) (by simp)))
  have hl3 : Hid (x3.length ≤ 30) := by have := (unhide LL).2; show _ ≤ _; omega
  have hg : Hid (sgFlt x1 = 0) := (unhide HG) (by simp)
  clear HE D2
  generalize rcFrom x0 0 x2 = p2 at D2' HE2
  go_wp2_with fail
  refine (unhide D2').mono ?_
  rintro e w3 ⟨rfl, b3⟩
  have K3 := hide b3
  have HB3 := hide ((unhide HBB).trans (b3.mono (unhide HBB).size))
  have k3 := (unhide HK) w3 b3
  have d1 := k3.cell 1
  have d3 := k3.cell 3
  simp only [snvals, List.getElem?_cons_zero, List.getElem?_cons_succ] at d1 d3
  clear b3 k3
  by_cases n4 : p2 = 0
  case neg =>
    have h4 : (p2 != 0) = true := by simp [n4]
    go_wp2_with fail
    go_ret
    exact ⟨ret_int (by rw [unhide HE2]; simp [n4]), unhide HB3⟩
  subst n4
  have D3' := hide ((unhide D3) w3 (unhide K3) (unhide hg) (unhide hl3))
  generalize vtFrom x1 x3 0 x3 = p3 at D3' HE2
  go_wp2_with fail
  refine (unhide D3').mono ?_
  rintro e w4 ⟨rfl, b4⟩
  have HB4 := hide ((unhide HB3).trans (b4.mono (unhide HB3).size))
  clear b4
  go_wp2_with fail
  go_ret
  exact ⟨ret_int (by rw [unhide HE2]; simp), unhide HB4⟩

end Go.Proofs.YtpkfgffgldjceaaDoor

/- What is proved here: what the model's l1Same and the program's SameBytes answer: whether two slices are the same as strings. -/
namespace Go.Proofs.YtpkfgffgldjceaaDoor
open Go.RowKit
set_option linter.unusedVariables false
set_option maxRecDepth 100000

theorem l1Same_any (a b : Option Addr) (la ca lb cb : Nat) (xs ys : List Int) (w : World) (ha : BRow w a la xs) (hb : BRow w b lb ys) :
    Calls Tryd.prog 83 #[.slice a la ca, .slice b lb cb] w fun e w' => e = .returned (.bool (strEq xs ys)) ∧ w' = w := by
  have h1 := conv_any (P := Tryd.prog) w 57 5 9 Tryd.underlying57 Tryd.underlying5 Tryd.underlying9 a la ca xs ha
  have h2 := conv_any (P := Tryd.prog) w 57 5 9 Tryd.underlying57 Tryd.underlying5 Tryd.underlying9 b lb cb ys hb
  clear ha hb
  go_enter Tryd.func83, Tryd.ntmps83
  go_wp2
  go_ret
  exact ⟨rfl, rfl⟩

end Go.Proofs.YtpkfgffgldjceaaDoor

/- What is proved here: plain facts on whether two headers are the same; no program is named. -/
namespace Go.Proofs.YtpkfgffgldjceaaDoor
open Go.RowKit
set_option linter.unusedVariables false
set_option maxRecDepth 100000

/-- Whether two lists of bytes are the same, as strings. -/
def sameLs : List (List Int) → List (List Int) → Bool
  | [], [] => true
  | a :: ar, b :: bs => strEq a b && sameLs ar bs
  | _, _ => false

theorem sameLs_length : ∀ (a b : List (List Int)), sameLs a b = true → a.length = b.length
  | [], [], _ => rfl
  | [], _ :: _, h => by simp [sameLs] at h
  | _ :: _, [], h => by simp [sameLs] at h
  | a :: ar, b :: bs, h => by
    simp [sameLs] at h
    simp [sameLs_length ar bs h.2]

theorem sameLs_step (a b : List (List Int)) (k : Nat) (x y : List Int) (hx : a[k]? = some x) (hy : b[k]? = some y) : sameLs (a.drop k) (b.drop k) = (strEq x y && sameLs (a.drop (k + 1)) (b.drop (k + 1))) := by
  obtain ⟨h1, e1⟩ := List.getElem?_eq_some_iff.1 hx
  obtain ⟨h2, e2⟩ := List.getElem?_eq_some_iff.1 hy
  rw [List.drop_eq_getElem_cons h1, List.drop_eq_getElem_cons h2, e1, e2]
  rfl

theorem sameLs_end (a b : List (List Int)) (k : Nat) (h1 : a.length = k) (h2 : b.length = k) : sameLs (a.drop k) (b.drop k) = true := by
  rw [List.drop_eq_nil_of_le (by omega), List.drop_eq_nil_of_le (by omega)]
  rfl

theorem sameLs_len (a b : List (List Int)) (h : a.length ≠ b.length) : sameLs a b = false := by
  rw [Bool.eq_false_iff]
  intro e
  exact h (sameLs_length a b e)

/-- Whether two headers are the same. -/
def sameHd (h k : Hd) : Bool := strEq h.p k.p && (h.n1 == k.n1) && (h.n2 == k.n2) && (h.n3 == k.n3) && strEq h.t k.t && (h.n5 == k.n5) && sameLs h.s k.s && strEq h.r k.r && strEq h.g k.g && strEq h.e k.e && sameLs h.k k.k

theorem bool11 (c0 c1 c2 c3 c4 c5 c6 c7 c8 c9 c10 : Bool) : ((c1 && c2 && c3) && (c0 && c7) && (c8 && c9 && c10) && (c4 && c5 && c6)) = (c0 && c1 && c2 && c3 && c4 && c5 && c6 && c7 && c8 && c9 && c10) := by
  ac_rfl

end Go.Proofs.YtpkfgffgldjceaaDoor

/- What is proved here: what the program's sameLists (slices.EqualFunc over SameBytes) and the model's l5SameLists answer. -/
namespace Go.Proofs.YtpkfgffgldjceaaDoor
open Go.RowKit
set_option linter.unusedVariables false
set_option maxRecDepth 100000

end Go.Proofs.YtpkfgffgldjceaaDoor

/- What is proved here: what the program's SameSnaps answers, and what it calls. -/
namespace Go.Proofs.YtpkfgffgldjceaaDoor
open Go.RowKit
set_option linter.unusedVariables false
set_option maxRecDepth 100000

theorem l1Same_kd (s t : Sl) (x y : List Int) (w : World) (o : BOk w s x) (q : BOk w t y) :
    Calls Tryd.prog 83 #[.slice s.a s.n s.c, .slice t.a t.n t.c] w fun e w' => e = .returned (.bool (decide (x = y))) ∧ w' = w := by
  rw [← strEq_dec o.row.2.1 q.row.2.1]
  exact l1Same_any s.a t.a s.n s.c t.n t.c x y w o.row q.row

theorem sameLs_dec : ∀ (a b : List (List Int)), (∀ z ∈ a, ∀ x ∈ z, 0 ≤ x ∧ x ≤ 255) → (∀ z ∈ b, ∀ x ∈ z, 0 ≤ x ∧ x ≤ 255) → sameLs a b = decide (a = b)
  | [], [], _, _ => rfl
  | [], _ :: _, _, _ => by simp [sameLs]
  | _ :: _, [], _, _ => by simp [sameLs]
  | a :: r, b :: t, ha, hb => by
    rw [sameLs, sameLs_dec r t (fun z hz => ha z (by simp [hz])) (fun z hz => hb z (by simp [hz])), strEq_dec (ha a (by simp)) (hb b (by simp))]
    simp [Bool.decide_and]

end Go.Proofs.YtpkfgffgldjceaaDoor

/- What is proved here: what the model's l7Addr, l7At and l7Vote answer. -/
namespace Go.Proofs.YtpkfgffgldjceaaDoor
open Go.RowKit
set_option linter.unusedVariables false
set_option maxRecDepth 100000

theorem l7Addr_any (a : Option Addr) (n cap : Nat) (w : World) : Calls Tryd.prog 66 #[.slice a n cap] w fun e w' => e = .returned (.bool (((n : Nat) : Int) == 4)) ∧ w' = w := by
  go_enter Tryd.func66, Tryd.ntmps66
  go_wp2_with fail
  go_ret
  exact ⟨rfl, rfl⟩

set_option maxHeartbeats 2000000 in
theorem l7At_any (s t : Sl) (zss : List (List Int)) (z : List Int) (w : World) (h : RowOk bytesK w s zss) (ht : BOk w t z) (hl : zss.length ≤ 1048576) :
    Calls Tryd.prog 67 #[.slice s.a s.n s.c, .slice t.a t.n t.c] w fun e w' => e = .returned (.int .i64 (atFrom z 0 zss)) ∧ w' = w := by
  obtain ⟨a, len, cap⟩ := s
  have hil : len = zss.length := h.len
  have HR := hide (fun hp => RowOk.pos h hp)
  have HL := hide hil
  have hln : len ≤ 1048576 := by omega
  have HT := hide ht
  clear h hil hl ht
  go_enter Tryd.func67, Tryd.ntmps67
  go_wp2_with fail
  go_loop [5] (fun i => ∃ k : Nat, k ≤ len ∧ i = .int .i64 k ∧ atFrom z 0 zss = atFrom z k (zss.drop k)) (fun i => len - (intOf i).toNat)
  case atStart => exact ⟨0, Nat.zero_le _, rfl, by simp⟩
  case round =>
    obtain ⟨k, hk, rfl, hpre⟩ := hrel
    by_cases hlt : k < len
    · obtain ⟨b, off, ea, hb, hc⟩ := (unhide HR) (by show 0 < len; omega)
      subst ea
      obtain ⟨y, hy⟩ : ∃ v, zss[k]? = some v := ⟨_, List.getElem?_eq_getElem (by rw [← unhide HL]; exact hlt)⟩
      obtain ⟨el, c, oo⟩ := hc k y hy
      have hst := atFrom_step z zss k y hy
      have c0 := c 0 _ rfl
      simp only [Nat.add_zero, Nat.mul_one, show bytesK.m = 1 from rfl] at c0
      have HQ := hide (l1Same_kd el t y z w oo (unhide HT))
      have HST := hide (And.intro hpre hst)
      have i1 : (0 : Int) ≤ (k : Int) := by omega
      have i2 : (k : Int) < (len : Int) := by omega
      clear hc c oo hst hpre hy
      go_wp2_with fail
      refine (unhide HQ).mono ?_
      rintro e w1 ⟨rfl, rfl⟩
      by_cases e : y = z
      · rw [decide_eq_true e]
        have HE : Hid (atFrom z 0 zss = k) := by show _ = _; rw [(unhide HST).1, (unhide HST).2, if_pos e]
        go_wp2_with fail
        go_ret
        exact ⟨ret_int (unhide HE).symm, rfl⟩
      · rw [decide_eq_false e]
        go_wp2_with fail
        go_round
        case rel => exact ⟨k + 1, by omega, by go_num, by rw [(unhide HST).1, (unhide HST).2, if_neg e]⟩
        case measure => simp [intOf]; omega
    · obtain rfl : k = len := by omega
      rw [List.drop_eq_nil_of_le (by rw [← unhide HL]; exact Nat.le_refl _)] at hpre
      have HE : Hid (atFrom z 0 zss = -1) := hpre
      clear hpre
      go_wp2_with fail
      go_ret
      exact ⟨ret_int (unhide HE).symm, rfl⟩

set_option maxHeartbeats 2000000 in
theorem l7Vote_any (g : Nat) (e : SnS) (x : Sn) (T : TypeId) (s t : Sl) (y z : List Int) (w : World) (sb : SBlk w g (snvals e x).toList T) (o : RowOk vtK w e.2.2.2 x.2.2.2) (oy : BOk w s y) (oz : BOk w t z) (hl : x.2.2.2.length ≤ 1048576) :
    Calls Tryd.prog 68 #[.pointer (some ⟨g, 0, none⟩), .slice s.a s.n s.c, .slice t.a t.n t.c] w fun r w' => r = .returned (.int .i64 (atFrom (y, z) 0 (vtKeys x.2.2.2))) ∧ w' = w := by
  obtain ⟨ee, e1, e2, a, len, cap⟩ := e
  obtain ⟨x0, x1, x2, vs⟩ := x
  have hil : len = vs.length := o.len
  have HR := hide (fun hp => RowOk.pos o hp)
  have HL := hide hil
  have hln : len ≤ 1048576 := by simp only at hl; omega
  have HY := hide oy
  have HZ := hide oz
  have u3 := sb.cell 3
  simp only [snvals, List.getElem?_cons_zero, List.getElem?_cons_succ] at u3
  have HU := hide u3
  simp only at HR
  clear o hil hl oy oz sb
  go_enter Tryd.func68, Tryd.ntmps68
  go_wp2_with fail
  go_loop [7] (fun i => ∃ k : Nat, k ≤ len ∧ i = .int .i64 k ∧ atFrom (y, z) 0 (vtKeys vs) = atFrom (y, z) k ((vtKeys vs).drop k)) (fun i => len - (intOf i).toNat)
  case atStart => exact ⟨0, Nat.zero_le _, rfl, by simp⟩
  case round =>
    obtain ⟨k, hk, rfl, hpre⟩ := hrel
    by_cases hlt : k < len
    · obtain ⟨b, off, ea, hb, hc⟩ := (unhide HR) (by show 0 < len; omega)
      subst ea
      obtain ⟨v, hv⟩ : ∃ v, vs[k]? = some v := ⟨_, List.getElem?_eq_getElem (by rw [← unhide HL]; exact hlt)⟩
      have hkv : (vtKeys vs)[k]? = some (v.1, v.2.1) := by unfold vtKeys; rw [List.getElem?_map, hv]; rfl
      obtain ⟨⟨s0, s1, ⟨⟩⟩, c, oo⟩ := hc k v hv
      have hst := atFrom_step (y, z) (vtKeys vs) k _ hkv
      obtain ⟨v0, v1, vb⟩ := v
      have c0 := c 0 _ rfl
      have c1 := c 1 _ rfl
      simp only [Nat.add_zero, show vtK.m = 3 from rfl] at c0 c1
      have HQ0 := hide (l1Same_kd s0 s v0 y w oo.1 (unhide HY))
      have HQ1 := hide (l1Same_kd s1 t v1 z w oo.2.1 (unhide HZ))
      have HST := hide (And.intro hpre hst)
      have i1 : (0 : Int) ≤ (k : Int) := by omega
      have i2 : (k : Int) < (len : Int) := by omega
      clear hc c oo hst hpre hv hkv
      go_wp2_with fail
      refine (unhide HQ0).mono ?_
      rintro e w1 ⟨rfl, rfl⟩
      by_cases e0 : v0 = y
      case neg =>
        rw [decide_eq_false e0]
        go_wp2_with fail
        go_round
        case rel => exact ⟨k + 1, by omega, by go_num, by rw [(unhide HST).1, (unhide HST).2, if_neg (fun q => e0 (by simp only [Prod.mk.injEq] at q; exact q.1))]⟩
        case measure => simp [intOf]; omega
      rw [decide_eq_true e0]
      go_wp2_with fail
      refine (unhide HQ1).mono ?_
      rintro e w2 ⟨rfl, rfl⟩
      by_cases e1 : v1 = z
      · rw [decide_eq_true e1]
        have HE : Hid (atFrom (y, z) 0 (vtKeys vs) = k) := by show _ = _; rw [(unhide HST).1, (unhide HST).2, if_pos (by rw [e0, e1])]
        go_wp2_with fail
        go_ret
        exact ⟨ret_int (unhide HE).symm, rfl⟩
      · rw [decide_eq_false e1]
        go_wp2_with fail
        go_round
        case rel => exact ⟨k + 1, by omega, by go_num, by rw [(unhide HST).1, (unhide HST).2, if_neg (fun q => e1 (by simp only [Prod.mk.injEq] at q; exact q.2))]⟩
        case measure => simp [intOf]; omega
    · obtain rfl : k = len := by omega
      rw [List.drop_eq_nil_of_le (by unfold vtKeys; rw [List.length_map, ← unhide HL]; exact Nat.le_refl _)] at hpre
      have HE : Hid (atFrom (y, z) 0 (vtKeys vs) = -1) := hpre
      clear hpre
      go_wp2_with fail
      go_ret
      exact ⟨ret_int (unhide HE).symm, rfl⟩

end Go.Proofs.YtpkfgffgldjceaaDoor

/- What is proved here: what the model's l1In answers: whether a number lies within two bounds. -/
namespace Go.Proofs.YtpkfgffgldjceaaDoor
open Go.RowKit
set_option linter.unusedVariables false
set_option maxRecDepth 100000

theorem in_yes (v lo hi : Int) (w : World) (h0 : lo ≤ v) (h1 : v ≤ hi) : Calls Tryd.prog 64 #[.int .i64 v, .int .i64 lo, .int .i64 hi] w fun e w' => e = .returned (.bool true) ∧ w' = w := by
  have e0 : decide (lo ≤ v) = true := decide_eq_true h0
  have e1 : decide (v ≤ hi) = true := decide_eq_true h1
  go_enter Tryd.func64, Tryd.ntmps64
  go_wp2
  go_ret
  exact ⟨ret_bool (by simp), rfl⟩

set_option maxHeartbeats 1000000 in
theorem in_no (v lo hi : Int) (w : World) (h : v < lo ∨ hi < v) : Calls Tryd.prog 64 #[.int .i64 v, .int .i64 lo, .int .i64 hi] w fun e w' => e = .returned (.bool false) ∧ w' = w := by
  by_cases h0 : lo ≤ v
  · have e0 : decide (lo ≤ v) = true := decide_eq_true h0
    have e1 : decide (v ≤ hi) = false := decide_eq_false (by omega)
    go_enter Tryd.func64, Tryd.ntmps64
    go_wp2
    go_ret
    exact ⟨ret_bool (by simp), rfl⟩
  · have e0 : decide (lo ≤ v) = false := decide_eq_false h0
    go_enter Tryd.func64, Tryd.ntmps64
    go_wp2
    go_ret
    exact ⟨ret_bool (by simp), rfl⟩

/-- Whether a number is a word. -/
def isWord (v : Int) : Bool := decide (0 ≤ v ∧ v ≤ 4294967295)

theorem in_any (v lo hi : Int) (w : World) : Calls Tryd.prog 64 #[.int .i64 v, .int .i64 lo, .int .i64 hi] w fun e w' => e = .returned (.bool (decide (lo ≤ v ∧ v ≤ hi))) ∧ w' = w := by
  by_cases h : lo ≤ v ∧ v ≤ hi
  · rw [decide_eq_true h]; exact in_yes v lo hi w h.1 h.2
  · rw [decide_eq_false h]; exact in_no v lo hi w (by omega)

end Go.Proofs.YtpkfgffgldjceaaDoor

/- What is proved here: what the model's l5Number, l5Fault and HeaderFault answer: the fault of a header. -/
namespace Go.Proofs.YtpkfgffgldjceaaDoor
open Go.RowKit
set_option linter.unusedVariables false
set_option maxRecDepth 100000

theorem l5Number_any (v : Int) (w : World) : Calls Tryd.prog 41 #[.int .i64 v] w fun e w' => e = .returned (.bool (within v 0 1099511627776)) ∧ w' = w := by
  have HI := hide (in_any v 0 1099511627776 w)
  unfold within
  generalize decide (0 ≤ v ∧ v ≤ 1099511627776) = c at HI
  go_enter Tryd.func41, Tryd.ntmps41
  go_wp2_with fail
  refine (unhide HI).mono ?_
  rintro e w' ⟨rfl, rfl⟩
  go_wp2_with fail
  go_ret
  exact ⟨rfl, rfl⟩

end Go.Proofs.YtpkfgffgldjceaaDoor
