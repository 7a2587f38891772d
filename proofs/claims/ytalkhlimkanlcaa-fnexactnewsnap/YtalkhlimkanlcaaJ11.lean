/- What is proved here: what TurnOf answers, in the program and in the model. -/
import Derived.Test.YtalkhlimkanlcaaJ9
import Derived.Test.YtalkhlimkanlcaaJ10
import Derived.Test.YtalkhlimkanlcaaChecked
import Derived.Test.YtalkhlimkanlcaaJ1
import Derived.WalkKit
import Derived.WalkLawsBesides
import Derived.KernelRfl
namespace Go.Proofs.Ytalkhlimkanlcaa
open Go.RowKit
set_option linter.unusedVariables false
set_option maxRecDepth 100000

/-- The code of TurnOf, and what it tells. -/
def trCode (x : Sn) (z : List Int) (n : Int) : Int := if snFlt x ≠ 0 then snFlt x else if within n 0 1099511627776 = false then 3 else if decide (z ∈ x.2.1) = false then 4 else 0
def trVal (x : Sn) (z : List Int) (n : Int) : Int := if snFlt x ≠ 0 then 0 else if within n 0 1099511627776 = false then 0 else if decide (z ∈ x.2.1) = false then 0 else if (((lowB x.2.1 z : Nat) : Int) == n % ((x.2.1.length : Nat) : Int)) = true then 2 else 1

theorem snFlt_sg {x : Sn} (h : snFlt x = 0) : sgFlt x.2.1 = 0 ∧ 0 < x.2.1.length ∧ x.2.1.length ≤ 7 := by
  unfold snFlt at h
  split at h
  · omega
  · split at h
    · omega
    · rename_i h1
      have h2 : sgSome x.2.1 = 0 := by simpa using h1
      unfold sgSome at h2
      split at h2
      · omega
      · exact ⟨h2, by omega, (sg_rise h2).1⟩

theorem two_sblk (w : World) (vs us : Array Value) (T S : TypeId) : SBlk ((w.alloc (.cells vs T)).alloc (.cells us S)) w.heap.size vs.toList T ∧ SBlk ((w.alloc (.cells vs T)).alloc (.cells us S)) (w.heap.size + 1) us.toList S ∧ Below w.heap.size w ((w.alloc (.cells vs T)).alloc (.cells us S)) := by
  refine ⟨(SBlk.new w vs T).next _, ?_, ((Below.refl _ _).alloc (Nat.le_refl _) _).alloc (by simp) _⟩
  have h := SBlk.new (w.alloc (.cells vs T)) us S
  rwa [show (w.alloc (.cells vs T)).heap.size = w.heap.size + 1 by simp] at h

set_option maxHeartbeats 4000000 in
theorem implTurn_any (e : SnS) (x : Sn) (s : Sl) (z : List Int) (n : Int) (w : World) (o : SNK.Ok w e x) (q : BOk w s z) (m : SnSm x) (mz : z.length ≤ 1048576) :
    Calls Try.prog 29 #[.agg (snvals e x), .slice s.a s.n s.c, .int .i64 n] w fun r w' => r = .returned (.agg #[.int .i64 (trCode x z n), .int .i64 (trVal x z n)]) ∧ Below w.heap.size w w' := by
  have HF := hide (fun (W : World) (hb : Below w.heap.size w W) => implSnapFault_any e x W (SNK.below o hb (Nat.le_refl _)) m)
  have HP := hide (fun (W : World) (hb : Below w.heap.size w W) (h : snFlt x = 0) => placeAmong_any e.2.1 s x.2.1 z W (RowOk.below o.2.1 hb (Nat.le_refl _)) (bytesK.below q hb (Nat.le_refl _)) (snFlt_sg h).1)
  have HN := hide (fun W => isNumber_to n _ W rfl)
  have ll : e.2.1.n = x.2.1.length := o.2.1.len
  obtain ⟨kb, kr, bb⟩ := two_sblk w (snvals e x) #[.int .i64 0, .int .i64 0] 32 47
  obtain ⟨W0, e0⟩ : ∃ W, (w.alloc (.cells (snvals e x) 32)).alloc (.cells #[.int .i64 0, .int .i64 0] 47) = W := ⟨_, rfl⟩
  rw [e0] at kb kr bb
  have HK := hide (fun (W : World) (hb : Below W0.heap.size W0 W) => And.intro (kb.below hb kb.lt) (kr.below hb kr.lt))
  have HBB := hide bb
  have c0 := kb.cell 0
  have c1 := kb.cell 1
  have c2 := kb.cell 2
  have c3 := kb.cell 3
  have r0 := kr.cell 0
  have r1 := kr.cell 1
  have f0 := kr.free 0
  have f1 := kr.free 1
  simp only [snvals, List.getElem?_cons_zero, List.getElem?_cons_succ] at c0 c1 c2 c3 r0 r1
  have HC : Hid (trCode x z n = if snFlt x ≠ 0 then snFlt x else if within n 0 1099511627776 = false then 3 else if decide (z ∈ x.2.1) = false then 4 else 0) := rfl
  have HV : Hid (trVal x z n = if snFlt x ≠ 0 then 0 else if within n 0 1099511627776 = false then 0 else if decide (z ∈ x.2.1) = false then 0 else if (((lowB x.2.1 z : Nat) : Int) == n % ((e.2.1.n : Nat) : Int)) = true then 2 else 1) := by show _ = _; rw [ll]; rfl
  have HSG : Hid (snFlt x = 0 → 0 < e.2.1.n ∧ e.2.1.n ≤ 7) := fun h => by have := snFlt_sg h; omega
  have HWN : Hid (within n 0 1099511627776 = true → 0 ≤ n ∧ n ≤ 1099511627776) := fun h => by unfold within at h; simpa using h
  clear o q m mz kb kr bb ll
  generalize trCode x z n = tc at HC ⊢
  generalize trVal x z n = tv at HV ⊢
  generalize snFlt x = fl at HF HP HC HV HSG
  generalize within n 0 1099511627776 = wn at HN HC HV HWN
  generalize decide (z ∈ x.2.1) = mm at HP HC HV
  generalize lowB x.2.1 z = lo at HP HV
  have HA : Hid (∀ c v, tc = c → tv = v → tc = c ∧ tv = v) := fun c v a b => ⟨a, b⟩
  unfold snvals at e0 HF ⊢
  obtain ⟨ee, ⟨a1, len1, cap1⟩, e2, e3⟩ := e
  simp only at *
  go_enter Try.func29, Try.ntmps29
  go_wp2_with (rw [e0])
  try rw [e0]
  clear e0
  refine ((unhide HF) _ (unhide HBB)).mono ?_
  rintro r w1 ⟨rfl, b1⟩
  have HB1 := hide ((unhide HBB).trans (b1.mono (unhide HBB).size))
  obtain ⟨kb, kr⟩ := (unhide HK) w1 b1
  have c1 := kb.cell 1
  have r0 := kr.cell 0
  have r1 := kr.cell 1
  have f0 := kr.free 0
  have f1 := kr.free 1
  simp only [snvals, List.getElem?_cons_zero, List.getElem?_cons_succ] at c1 r0 r1
  clear b1 kb kr HK
  by_cases n0 : fl = 0
  case neg =>
    have h0 : (fl != 0) = true := by simp [n0]
    have hR : tc = fl ∧ tv = 0 := ⟨by rw [unhide HC]; simp [n0], by rw [unhide HV]; simp [n0]⟩
    have HRR := hide hR
    clear hR n0
    go_wp2_with fail
    refine bodyPost_ret (v := .agg #[.int .i64 (fl), .int .i64 (0)]) (by simp [results, Try.results29, go_sem, r0, r1]) rfl ⟨?_, ?_⟩
    · rw [(unhide HRR).1, (unhide HRR).2]
    · exact ((unhide HB1).setCell (p := ⟨w.heap.size + 1, 0, none⟩) (by show w.heap.size ≤ w.heap.size + 1; omega) _).setCell (p := ⟨w.heap.size + 1, 1, none⟩) (by show w.heap.size ≤ w.heap.size + 1; omega) _
  subst n0
  have h0 : ((0 : Int) != 0) = false := by simp
  go_wp2_with fail
  refine ((unhide HN) _).mono ?_
  rintro r w2 ⟨rfl, rfl⟩
  cases wn
  · have HRR : Hid (tc = 3 ∧ tv = 0) := ⟨by rw [unhide HC]; simp, by rw [unhide HV]; simp⟩
    go_wp2_with fail
    refine bodyPost_ret (v := .agg #[.int .i64 (3), .int .i64 (0)]) (by simp [results, Try.results29, go_sem, r0, r1]) rfl ⟨?_, ?_⟩
    · rw [(unhide HRR).1, (unhide HRR).2]
    · exact ((unhide HB1).setCell (p := ⟨w.heap.size + 1, 0, none⟩) (by show w.heap.size ≤ w.heap.size + 1; omega) _).setCell (p := ⟨w.heap.size + 1, 1, none⟩) (by show w.heap.size ≤ w.heap.size + 1; omega) _
  go_wp2_with fail
  refine ((unhide HP) _ (unhide HB1) (by simp)).mono ?_
  rintro r w3 ⟨rfl, rfl⟩
  cases mm
  · have HRR : Hid (tc = 4 ∧ tv = 0) := ⟨by rw [unhide HC]; simp, by rw [unhide HV]; simp⟩
    go_wp2_with fail
    refine bodyPost_ret (v := .agg #[.int .i64 (4), .int .i64 (0)]) (by simp [results, Try.results29, go_sem, r0, r1]) rfl ⟨?_, ?_⟩
    · rw [(unhide HRR).1, (unhide HRR).2]
    · exact ((unhide HB1).setCell (p := ⟨w.heap.size + 1, 0, none⟩) (by show w.heap.size ≤ w.heap.size + 1; omega) _).setCell (p := ⟨w.heap.size + 1, 1, none⟩) (by show w.heap.size ≤ w.heap.size + 1; omega) _
  have hl := (unhide HSG) (by simp)
  have hn := (unhide HWN) (by simp)
  have hz : (((len1 : Nat) : Int) == 0) = false := by rw [beq_eq_false_iff_ne]; omega
  by_cases hq : ((lo : Nat) : Int) = n % ((len1 : Nat) : Int)
  · have hq' : ((((lo : Nat) : Int)) == n % ((len1 : Nat) : Int)) = true := by simpa using hq
    have HRR : Hid (tc = 0 ∧ tv = 2) := ⟨by rw [unhide HC]; simp, by rw [unhide HV]; simp [hq]⟩
    clear hq
    go_wp2_with fail
    refine bodyPost_ret (v := .agg #[.int .i64 (0), .int .i64 (2)]) (by simp [results, Try.results29, go_sem, r0, r1]) rfl ⟨?_, ?_⟩
    · rw [(unhide HRR).1, (unhide HRR).2]
    · exact ((unhide HB1).setCell (p := ⟨w.heap.size + 1, 0, none⟩) (by show w.heap.size ≤ w.heap.size + 1; omega) _).setCell (p := ⟨w.heap.size + 1, 1, none⟩) (by show w.heap.size ≤ w.heap.size + 1; omega) _
  · have hq' : ((((lo : Nat) : Int)) == n % ((len1 : Nat) : Int)) = false := by rw [beq_eq_false_iff_ne]; exact hq
    have HRR : Hid (tc = 0 ∧ tv = 1) := ⟨by rw [unhide HC]; simp, by rw [unhide HV]; simp [hq]⟩
    clear hq
    go_wp2_with fail
    refine bodyPost_ret (v := .agg #[.int .i64 (0), .int .i64 (1)]) (by simp [results, Try.results29, go_sem, r0, r1]) rfl ⟨?_, ?_⟩
    · rw [(unhide HRR).1, (unhide HRR).2]
    · exact ((unhide HB1).setCell (p := ⟨w.heap.size + 1, 0, none⟩) (by show w.heap.size ≤ w.heap.size + 1; omega) _).setCell (p := ⟨w.heap.size + 1, 1, none⟩) (by show w.heap.size ≤ w.heap.size + 1; omega) _

set_option maxHeartbeats 2000000 in
theorem l7Turn_any (g : Nat) (e : SnS) (x : Sn) (T : TypeId) (s : Sl) (z : List Int) (n : Int) (w : World) (sb : SBlk w g (snvals e x).toList T) (o : RowOk bytesK w e.2.1 x.2.1) (q : BOk w s z) (hl : 0 < e.2.1.n ∧ e.2.1.n ≤ 7) (hn : 0 ≤ n ∧ n ≤ 1099511627776) :
    Calls Try.prog 60 #[.pointer (some ⟨g, 0, none⟩), .slice s.a s.n s.c, .int .i64 n] w fun r w' => r = .returned (.int .i64 (if (atFrom z 0 x.2.1 == n % ((e.2.1.n : Nat) : Int)) = true then 2 else 1)) ∧ ∃ k, w' = w.drewN k := by
  have ll : e.2.1.n = x.2.1.length := o.len
  have HA := hide (fun (k : Nat) => l7At_any e.2.1 s x.2.1 z (w.drewN k) (RowOk.below o (below_drewN (Below.refl w.heap.size w) k) (Nat.le_refl _)) (bytesK.below q (below_drewN (Below.refl w.heap.size w) k) (Nat.le_refl _)) (by omega))
  obtain ⟨ee, ⟨a1, len1, cap1⟩, e2, e3⟩ := e
  have c1 := sb.cell 1
  simp only [snvals, List.getElem?_cons_zero, List.getElem?_cons_succ] at c1
  simp only at hl HA ⊢
  have hz : (((len1 : Nat) : Int) == 0) = false := by rw [beq_eq_false_iff_ne]; omega
  clear sb o q ll
  generalize atFrom z 0 x.2.1 = f at HA ⊢
  obtain ⟨rm, erm⟩ : ∃ r : Int, r = n % ((len1 : Nat) : Int) := ⟨_, rfl⟩
  have hm1 : n.tmod ((len1 : Nat) : Int) = rm := by rw [erm, Int.tmod_eq_emod_of_nonneg hn.1]
  have hm2 : 0 ≤ rm ∧ rm < 7 := by
    have h1 := Int.emod_nonneg n (b := ((len1 : Nat) : Int)) (by omega)
    have h2 := Int.emod_lt_of_pos n (b := ((len1 : Nat) : Int)) (by omega)
    omega
  have hm3 : IntKind.i64.wrap rm = rm := by rw [IntKind.wrap_i64]; omega
  have hm4 : n % ((len1 : Nat) : Int) = rm := erm.symm
  rw [hm4]
  clear erm
  by_cases hq : f = rm
  · have hq' : (f == rm) = true := by simpa using hq
    rw [if_pos hq']
    clear hq
    go_enter Try.func60, Try.ntmps60
    go_wp2_with fail
    go_quiet ((go_at_call 59; exact Calls.quiet_of_same ((unhide HA) _)))
    go_wp2_with fail
    go_ret
    exact ⟨rfl, _, rfl⟩
  · have hq' : (f == rm) = false := by rw [beq_eq_false_iff_ne]; exact hq
    rw [if_neg (by rw [hq']; simp)]
    clear hq
    go_enter Try.func60, Try.ntmps60
    go_wp2_with fail
    go_quiet ((go_at_call 59; exact Calls.quiet_of_same ((unhide HA) _)))
    go_wp2_with fail
    go_ret
    exact ⟨rfl, _, rfl⟩

set_option maxHeartbeats 4000000 in
theorem specTurn_any (e : SnS) (x : Sn) (s : Sl) (z : List Int) (n : Int) (w : World) (o : SNK.Ok w e x) (q : BOk w s z) (m : SnSm x) (mz : z.length ≤ 1048576) :
    Calls Try.prog 28 #[.agg (snvals e x), .slice s.a s.n s.c, .int .i64 n] w fun r w' => r = .returned (.agg #[.int .i64 (trCode x z n), .int .i64 (trVal x z n)]) ∧ Below w.heap.size w w' := by
  obtain ⟨kb, kr, bb⟩ := two_sblk w (snvals e x) #[.int .i64 0, .int .i64 0] 32 47
  obtain ⟨W0, e0⟩ : ∃ W, (w.alloc (.cells (snvals e x) 32)).alloc (.cells #[.int .i64 0, .int .i64 0] 47) = W := ⟨_, rfl⟩
  rw [e0] at kb kr bb
  have HF := hide (l7Fault_any w.heap.size e x 32 W0 kb (SNK.below o bb (Nat.le_refl _)) m)
  have HN := hide (fun W => l5Number_any n W)
  have ll : e.2.1.n = x.2.1.length := o.2.1.len
  have HA := hide (fun (W : World) (hb : Below W0.heap.size W0 W) => l7At_any e.2.1 s x.2.1 z W (RowOk.below o.2.1 (bb.trans (hb.mono bb.size)) (Nat.le_refl _)) (bytesK.below q (bb.trans (hb.mono bb.size)) (Nat.le_refl _)) m.s)
  have HT := hide (fun (W : World) (hb : Below W0.heap.size W0 W) (hl : 0 < e.2.1.n ∧ e.2.1.n ≤ 7) (hn : 0 ≤ n ∧ n ≤ 1099511627776) => l7Turn_any w.heap.size e x 32 s z n W (kb.below hb kb.lt) (RowOk.below o.2.1 (bb.trans (hb.mono bb.size)) (Nat.le_refl _)) (bytesK.below q (bb.trans (hb.mono bb.size)) (Nat.le_refl _)) hl hn)
  have HBB := hide bb
  have c0 := kb.cell 0
  have c1 := kb.cell 1
  have c2 := kb.cell 2
  have c3 := kb.cell 3
  have r0 := kr.cell 0
  have r1 := kr.cell 1
  have f0 := kr.free 0
  have f1 := kr.free 1
  simp only [snvals, List.getElem?_cons_zero, List.getElem?_cons_succ] at c0 c1 c2 c3 r0 r1
  have HC : Hid (trCode x z n = if snFlt x ≠ 0 then snFlt x else if within n 0 1099511627776 = false then 3 else if decide (z ∈ x.2.1) = false then 4 else 0) := rfl
  have HSG : Hid (snFlt x = 0 → 0 < e.2.1.n ∧ e.2.1.n ≤ 7) := fun h => by have := snFlt_sg h; omega
  have HV : Hid (trVal x z n = if snFlt x ≠ 0 then 0 else if within n 0 1099511627776 = false then 0 else if decide (z ∈ x.2.1) = false then 0 else if (atFrom z 0 x.2.1 == n % ((e.2.1.n : Nat) : Int)) = true then 2 else 1) := by
    show _ = _
    rw [ll]
    unfold trVal
    by_cases h1 : snFlt x = 0
    · by_cases h2 : z ∈ x.2.1
      · rw [atFrom_low (sg_rise (snFlt_sg h1).1).2.2 z h2]
      · simp [h1, h2]
    · simp [h1]
  have HWN : Hid (within n 0 1099511627776 = true → 0 ≤ n ∧ n ≤ 1099511627776) := fun h => by unfold within at h; simpa using h
  have t1 : decide (atFrom z 0 x.2.1 < 0) = !decide (z ∈ x.2.1) := by have h := atFrom_neg z x.2.1 0; rw [h]; by_cases q : z ∈ x.2.1 <;> simp [q]
  clear o q m mz kb kr bb ll
  generalize trCode x z n = tc at HC ⊢
  generalize trVal x z n = tv at HV ⊢
  generalize snFlt x = fl at HF HC HV HSG
  generalize within n 0 1099511627776 = wn at HN HC HV HWN
  generalize decide (z ∈ x.2.1) = mm at HC HV t1
  generalize atFrom z 0 x.2.1 = f at HA HT HV t1
  generalize hres : (if (f == n % ((e.2.1.n : Nat) : Int)) = true then (2 : Int) else 1) = res at HT HV
  clear hres
  unfold snvals at e0 ⊢
  obtain ⟨ee, ⟨a1, len1, cap1⟩, e2, e3⟩ := e
  simp only at *
  go_enter Try.func28, Try.ntmps28
  go_wp2_with (rw [e0])
  try rw [e0]
  clear e0
  refine (unhide HF).mono ?_
  rintro r w1 ⟨rfl, k1, rfl⟩
  by_cases n0 : fl = 0
  case neg =>
    have h0 : (fl != 0) = true := by simp [n0]
    have HRR : Hid (tc = fl ∧ tv = 0) := ⟨by rw [unhide HC]; simp [n0], by rw [unhide HV]; simp [n0]⟩
    have HB1 := hide (below_drewN (unhide HBB) k1)
    clear n0
    go_wp2_with fail
    refine bodyPost_ret (v := .agg #[.int .i64 (fl), .int .i64 (0)]) (by simp [results, Try.results28, go_sem, r0, r1]) rfl ⟨?_, ?_⟩
    · rw [(unhide HRR).1, (unhide HRR).2]
    · exact ((unhide HB1).setCell (p := ⟨w.heap.size + 1, 0, none⟩) (by show w.heap.size ≤ w.heap.size + 1; omega) _).setCell (p := ⟨w.heap.size + 1, 1, none⟩) (by show w.heap.size ≤ w.heap.size + 1; omega) _
  subst n0
  have h0 : ((0 : Int) != 0) = false := by simp
  go_wp2_with fail
  refine ((unhide HN) _).mono ?_
  rintro r w2 ⟨rfl, rfl⟩
  cases wn
  · have HRR : Hid (tc = 3 ∧ tv = 0) := ⟨by rw [unhide HC]; simp, by rw [unhide HV]; simp⟩
    have HB1 := hide (below_drewN (unhide HBB) k1)
    go_wp2_with fail
    refine bodyPost_ret (v := .agg #[.int .i64 (3), .int .i64 (0)]) (by simp [results, Try.results28, go_sem, r0, r1]) rfl ⟨?_, ?_⟩
    · rw [(unhide HRR).1, (unhide HRR).2]
    · exact ((unhide HB1).setCell (p := ⟨w.heap.size + 1, 0, none⟩) (by show w.heap.size ≤ w.heap.size + 1; omega) _).setCell (p := ⟨w.heap.size + 1, 1, none⟩) (by show w.heap.size ≤ w.heap.size + 1; omega) _
  go_wp2_with fail
  refine ((unhide HA) _ (below_drewN (Below.refl _ _) _)).mono ?_
  rintro r w3 ⟨rfl, rfl⟩
  cases mm
  · have HRR : Hid (tc = 4 ∧ tv = 0) := ⟨by rw [unhide HC]; simp, by rw [unhide HV]; simp⟩
    have HB1 := hide (below_drewN (unhide HBB) k1)
    simp only [Bool.not_false] at t1
    go_wp2_with fail
    refine bodyPost_ret (v := .agg #[.int .i64 (4), .int .i64 (0)]) (by simp [results, Try.results28, go_sem, r0, r1]) rfl ⟨?_, ?_⟩
    · rw [(unhide HRR).1, (unhide HRR).2]
    · exact ((unhide HB1).setCell (p := ⟨w.heap.size + 1, 0, none⟩) (by show w.heap.size ≤ w.heap.size + 1; omega) _).setCell (p := ⟨w.heap.size + 1, 1, none⟩) (by show w.heap.size ≤ w.heap.size + 1; omega) _
  simp only [Bool.not_true] at t1
  have hl := (unhide HSG) (by simp)
  have hn := (unhide HWN) (by simp)
  go_wp2_with fail
  refine ((unhide HT) _ (below_drewN (Below.refl _ _) _) hl hn).mono ?_
  rintro r w4 ⟨rfl, k4, rfl⟩
  have HRR : Hid (tc = 0 ∧ tv = res) := ⟨by rw [unhide HC]; simp, by rw [unhide HV]; simp⟩
  have HB1 := hide (below_drewN (below_drewN (unhide HBB) k1) k4)
  simp only [World.drewN_drewN] at HB1
  go_wp2_with fail
  refine bodyPost_ret (v := .agg #[.int .i64 (0), .int .i64 (res)]) (by simp [results, Try.results28, go_sem, r0, r1]) rfl ⟨?_, ?_⟩
  · rw [(unhide HRR).1, (unhide HRR).2]
  · exact ((unhide HB1).setCell (p := ⟨w.heap.size + 1, 0, none⟩) (by show w.heap.size ≤ w.heap.size + 1; omega) _).setCell (p := ⟨w.heap.size + 1, 1, none⟩) (by show w.heap.size ≤ w.heap.size + 1; omega) _

end Go.Proofs.Ytalkhlimkanlcaa

/- What is proved here: the laws' comparison of two equal number answers gives true. -/
namespace Go.Proofs.Ytalkhlimkanlcaa
open Go.RowKit
set_option linter.unusedVariables false
set_option maxRecDepth 100000

set_option maxHeartbeats 1000000 in
theorem eqInt_same (c v : Int) (w : World) :
    Calls Try.prog 26 #[.agg #[.int .i64 c, .int .i64 v], .agg #[.int .i64 c, .int .i64 v]] w fun e w' => e = .returned (.bool true) ∧ Below w.heap.size w w' := by
  have h1 : (c != c) = false := by simp
  have h2 : (v != v) = false := by simp
  go_enter Try.func26, Try.ntmps26
  go_wp2
  go_ret
  exact ⟨rfl, ((Below.refl _ _).alloc (Nat.le_refl _) _).alloc (by simp) _⟩

end Go.Proofs.Ytalkhlimkanlcaa
