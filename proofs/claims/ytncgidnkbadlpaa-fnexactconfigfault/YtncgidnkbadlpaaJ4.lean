/- What is proved here: what ConfigFault and IsCheckpoint answer, in the program and in the model; the laws' copy of a setting; how an argument that is a setting reads. -/
import Derived.Test.YtncgidnkbadlpaaJ3
import Derived.WalkSmall
namespace Go.Proofs.Ytncgidnkbadlpaa
open Go.RowKit
set_option linter.unusedVariables false
set_option maxRecDepth 100000

/-- A setting: mode, period, epoch. -/
abbrev Cf := Int × Int × Int
def cfvals (x : Cf) : Array Value := #[.int .i64 x.1, .int .i64 x.2.1, .int .i64 x.2.2]

/-- The fault of a setting. -/
def cfFlt (x : Cf) : Int := if within x.1 1 2 = true ∧ within x.2.1 1 100 = true ∧ within x.2.2 1 100 = true then 0 else 3

/-- Whether a block is a checkpoint. -/
def cfCk (x : Cf) (n : Int) : Bool := decide (cfFlt x = 0) && within n 0 1099511627776 && decide (n % x.2.2 = 0)

theorem cf_field {H : Type} {enc : TypeId × Value → H} {w : World} {sp : Nat → Bool} {held : Bool} {t u : TypeId} {fs : Array Field} {fuel : Nat} {cs : List Value} {y : DataW H × List MemPlace} (ht : Try.prog.underlying t = some (.struct fs)) (h : DataW.trod enc Try.prog w 0 sp held fuel t cs = some y) (i : Nat) (f : Field) (hf : fs[i]? = some f) (hu : f.type = u) {o : Nat} (ho : f.offset = o) (ut : Try.prog.underlying u = some (.int .i64)) (hc : Try.prog.cellsOf u = 1) (hl : o + 1 ≤ cs.length) :
    ∃ n, (cs.drop o).take 1 = [.int .i64 n] := by
  obtain ⟨d, ps⟩ := y
  obtain ⟨xs, m, _, _, _, hxl, hfs⟩ := DataW.trod_struct ht h
  have g := hfs i f hf
  have hi : i < xs.length := by rw [hxl]; exact (Array.getElem?_eq_some_iff.1 hf).1
  rw [List.getElem?_eq_getElem hi, hu, ho, hc] at g
  have hl1 : ((cs.drop o).take 1).length = 1 := by rw [List.length_take, List.length_drop]; omega
  generalize (cs.drop o).take 1 = l at g hl1
  match l, hl1 with
  | [v], _ =>
    obtain ⟨n, rfl, hn⟩ := field_int ut g
    exact ⟨n, rfl⟩

theorem open_config {H : Type} {enc : TypeId × Value → H} {w : World} {sp : Nat → Bool} {held : Bool} {v : Value} {d : DataW H} {ps : List MemPlace} (hv : ∃ cs, v = .agg cs ∧ cs.size = Try.prog.cellsOf 23) (h : DataW.Trod enc Try.prog w 0 sp held 23 v d ps) :
    ∃ x, v = .agg (cfvals x) := by
  obtain ⟨cs, rfl, hs⟩ := hv
  obtain ⟨fuel, h⟩ := h
  have h' : DataW.trod enc Try.prog w 0 sp held fuel 23 cs.toList = some (d, ps) := h
  have h3 : Try.prog.cellsOf 23 = 3 := by kernel_rfl
  have hl : cs.toList.length = 3 := by rw [Array.length_toList, hs, h3]
  obtain ⟨m, q0⟩ := cf_field Try.underlying23 h' 0 _ rfl rfl (o := 0) rfl Try.underlying2 (by kernel_rfl) (by omega)
  obtain ⟨p, q1⟩ := cf_field Try.underlying23 h' 1 _ rfl rfl (o := 1) rfl Try.underlying2 (by kernel_rfl) (by omega)
  obtain ⟨e, q2⟩ := cf_field Try.underlying23 h' 2 _ rfl rfl (o := 2) rfl Try.underlying2 (by kernel_rfl) (by omega)
  refine ⟨(m, p, e), ?_⟩
  obtain ⟨l⟩ := cs
  match l, hl with
  | [a, b, c], _ =>
    simp at q0 q1 q2
    subst q0 q1 q2
    rfl

set_option maxHeartbeats 4000000 in
theorem toConfig_any (x : Cf) (w : World) : Calls Try.prog 7 #[.agg (cfvals x)] w fun r w' => r = .returned (.agg (cfvals x)) ∧ Below w.heap.size w w' := by
  obtain ⟨m, p, e⟩ := x
  unfold cfvals
  go_enter Try.func7, Try.ntmps7
  go_wp2
  refine bodyPost_ret (v := .agg #[.int .i64 m, .int .i64 p, .int .i64 e]) (by simp [results, Try.results7, go_sem]) rfl ⟨rfl, ?_⟩
  exact (((Below.refl _ _).alloc (Nat.le_refl _) _).alloc (by simp) _).alloc (by simp; omega) _

theorem isSpan_to (v : Int) (c : Bool) (w : World) (e : within v 1 100 = c) : Calls Try.prog 15 #[.int .i64 v] w fun e w' => e = .returned (.bool c) ∧ w' = w := by
  have HI := hide (isWithin_to v 1 100 c w e)
  clear e
  go_enter Try.func15, Try.ntmps15
  go_wp2_with fail
  refine (unhide HI).mono ?_
  rintro e w' ⟨rfl, rfl⟩
  go_wp2_with fail
  go_ret
  exact ⟨rfl, rfl⟩

theorem within_two {m : Int} : within m 1 2 = (m == 1 || m == 2) := by
  unfold within
  by_cases h : 1 ≤ m ∧ m ≤ 2
  · rw [decide_eq_true h]
    have : m = 1 ∨ m = 2 := by omega
    rcases this with rfl | rfl <;> rfl
  · rw [decide_eq_false h]
    have h1 : (m == 1) = false := by rw [beq_eq_false_iff_ne]; omega
    have h2 : (m == 2) = false := by rw [beq_eq_false_iff_ne]; omega
    rw [h1, h2]; rfl

set_option maxHeartbeats 4000000 in
theorem implConfigFault_any (x : Cf) (w : World) : Calls Try.prog 8 #[.agg (cfvals x)] w fun r w' => r = .returned (.int .i64 (cfFlt x)) ∧ Below w.heap.size w w' := by
  obtain ⟨m, p, e⟩ := x
  unfold cfvals cfFlt
  simp only
  rw [within_two]
  have HP := hide (fun W => isSpan_to p _ W rfl)
  have HE := hide (fun W => isSpan_to e _ W rfl)
  generalize within p 1 100 = bp at HP ⊢
  generalize within e 1 100 = be at HE ⊢
  obtain ⟨f, hf⟩ : ∃ f : Int, f = (if (m == 1 || m == 2) = true ∧ bp = true ∧ be = true then 0 else 3) := ⟨_, rfl⟩
  rw [← hf]
  have HF := hide hf
  clear hf
  have kr := SBlk.new w #[.int .i64 m, .int .i64 p, .int .i64 e] 25
  have bb := hide (below_alloc w (.cells #[.int .i64 m, .int .i64 p, .int .i64 e] 25))
  obtain ⟨W0, e0⟩ : ∃ W, w.alloc (.cells #[.int .i64 m, .int .i64 p, .int .i64 e] 25) = W := ⟨_, rfl⟩
  rw [e0] at kr bb
  have r0 := kr.cell 0
  have r1 := kr.cell 1
  have r2 := kr.cell 2
  simp only [List.getElem?_cons_zero, List.getElem?_cons_succ] at r0 r1 r2
  clear kr
  cases h1 : (m == 1) <;> cases h2 : (m == 2)
  · go_enter Try.func8, Try.ntmps8
    go_wp2_with (rw [e0])
    go_ret
    exact ⟨by rw [unhide HF]; simp [h1, h2], unhide bb⟩
  all_goals
    cases bp
    · go_enter Try.func8, Try.ntmps8
      go_wp2_with (rw [e0])
      refine ((unhide HP) _).mono ?_
      rintro r w1 ⟨rfl, rfl⟩
      go_wp2_with fail
      go_ret
      exact ⟨by rw [unhide HF]; simp [h1, h2], unhide bb⟩
    cases be
    all_goals
      go_enter Try.func8, Try.ntmps8
      go_wp2_with (rw [e0])
      refine ((unhide HP) _).mono ?_
      rintro r w1 ⟨rfl, rfl⟩
      go_wp2_with fail
      refine ((unhide HE) _).mono ?_
      rintro r w1 ⟨rfl, rfl⟩
      go_wp2_with fail
      go_ret
      exact ⟨by rw [unhide HF]; simp [h1, h2], unhide bb⟩

set_option maxHeartbeats 4000000 in
theorem l8Fault_any (g : Nat) (x : Cf) (T : TypeId) (w : World) (sb : SBlk w g (cfvals x).toList T) : Calls Try.prog 14 #[.pointer (some ⟨g, 0, none⟩)] w fun r w' => r = .returned (.int .i64 (cfFlt x)) ∧ w' = w := by
  obtain ⟨m, p, e⟩ := x
  have r0 := sb.cell 0
  have r1 := sb.cell 1
  have r2 := sb.cell 2
  simp only [cfvals, List.getElem?_cons_zero, List.getElem?_cons_succ] at r0 r1 r2
  clear sb
  unfold cfFlt
  simp only
  have HM := hide (fun W => in_any m 1 2 W)
  have HP := hide (fun W => in_any p 1 100 W)
  have HE := hide (fun W => in_any e 1 100 W)
  rw [show decide (1 ≤ m ∧ m ≤ 2) = within m 1 2 from rfl] at HM
  rw [show decide (1 ≤ p ∧ p ≤ 100) = within p 1 100 from rfl] at HP
  rw [show decide (1 ≤ e ∧ e ≤ 100) = within e 1 100 from rfl] at HE
  generalize within m 1 2 = bm at HM ⊢
  generalize within p 1 100 = bp at HP ⊢
  generalize within e 1 100 = be at HE ⊢
  obtain ⟨f, hf⟩ : ∃ f : Int, f = (if bm = true ∧ bp = true ∧ be = true then 0 else 3) := ⟨_, rfl⟩
  rw [← hf]
  have HF := hide hf
  clear hf
  cases bm
  · go_enter Try.func14, Try.ntmps14
    go_wp2_with fail
    refine ((unhide HM) _).mono ?_
    rintro r w1 ⟨rfl, rfl⟩
    go_wp2_with fail
    go_ret
    exact ⟨by rw [unhide HF]; simp, rfl⟩
  cases bp
  · go_enter Try.func14, Try.ntmps14
    go_wp2_with fail
    refine ((unhide HM) _).mono ?_
    rintro r w1 ⟨rfl, rfl⟩
    go_wp2_with fail
    refine ((unhide HP) _).mono ?_
    rintro r w1 ⟨rfl, rfl⟩
    go_wp2_with fail
    go_ret
    exact ⟨by rw [unhide HF]; simp, rfl⟩
  cases be
  all_goals
    go_enter Try.func14, Try.ntmps14
    go_wp2_with fail
    refine ((unhide HM) _).mono ?_
    rintro r w1 ⟨rfl, rfl⟩
    go_wp2_with fail
    refine ((unhide HP) _).mono ?_
    rintro r w1 ⟨rfl, rfl⟩
    go_wp2_with fail
    refine ((unhide HE) _).mono ?_
    rintro r w1 ⟨rfl, rfl⟩
    go_wp2_with fail
    go_ret
    exact ⟨by rw [unhide HF]; simp, rfl⟩

set_option maxHeartbeats 4000000 in
theorem specConfigFault_any (x : Cf) (w : World) : Calls Try.prog 6 #[.agg (cfvals x)] w fun r w' => r = .returned (.int .i64 (cfFlt x)) ∧ Below w.heap.size w w' := by
  have kr := SBlk.new w (cfvals x) 25
  have bb := hide (below_alloc w (.cells (cfvals x) 25))
  obtain ⟨W0, e0⟩ : ∃ W, w.alloc (.cells (cfvals x) 25) = W := ⟨_, rfl⟩
  rw [e0] at kr bb
  have HF := hide (l8Fault_any _ x _ W0 kr)
  clear kr
  generalize cfFlt x = f at HF ⊢
  unfold cfvals at e0 ⊢
  go_enter Try.func6, Try.ntmps6
  go_wp2_with (rw [e0])
  refine (unhide HF).mono ?_
  rintro r w1 ⟨rfl, rfl⟩
  go_wp2_with fail
  go_ret
  exact ⟨rfl, unhide bb⟩

/-- What is known of a setting without a fault. -/
theorem cf_ok {x : Cf} (h : cfFlt x = 0) : (x.1 = 1 ∨ x.1 = 2) ∧ (1 ≤ x.2.1 ∧ x.2.1 ≤ 100) ∧ (1 ≤ x.2.2 ∧ x.2.2 ≤ 100) := by
  unfold cfFlt at h
  split at h
  · rename_i q
    obtain ⟨q1, q2, q3⟩ := q
    unfold within at q1 q2 q3
    have := of_decide_eq_true q1
    have := of_decide_eq_true q2
    have := of_decide_eq_true q3
    omega
  · omega

set_option maxHeartbeats 4000000 in
theorem implCheckpoint_any (x : Cf) (n : Int) (w : World) : Calls Try.prog 13 #[.agg (cfvals x), .int .i64 n] w fun r w' => r = .returned (.bool (cfCk x n)) ∧ Below w.heap.size w w' := by
  have kr := SBlk.new w (cfvals x) 25
  have bb := hide (below_alloc w (.cells (cfvals x) 25))
  obtain ⟨W0, e0⟩ : ∃ W, w.alloc (.cells (cfvals x) 25) = W := ⟨_, rfl⟩
  rw [e0] at kr bb
  have HF := hide (implConfigFault_any x W0)
  have HN := hide (fun W => isNumber_to n _ W rfl)
  have HK := hide (fun (W : World) (hb : Below W0.heap.size W0 W) => kr.below hb kr.lt)
  have HO := hide (@cf_ok x)
  have HW : Hid (within n 0 1099511627776 = true → 0 ≤ n ∧ n ≤ 1099511627776) := fun h => by unfold within at h; simpa using h
  have r0 := kr.cell 0
  have r1 := kr.cell 1
  have r2 := kr.cell 2
  obtain ⟨m, p, e⟩ := x
  simp only [cfvals, List.getElem?_cons_zero, List.getElem?_cons_succ] at r0 r1 r2
  clear kr
  unfold cfCk
  generalize cfFlt (m, p, e) = f at HF HO ⊢
  generalize within n 0 1099511627776 = wn at HN HW ⊢
  simp only at HO ⊢
  obtain ⟨ck, hck⟩ : ∃ b : Bool, b = (decide (f = 0) && wn && decide (n % e = 0)) := ⟨_, rfl⟩
  rw [← hck]
  have HB := hide hck
  clear hck
  unfold cfvals at e0 HF ⊢
  simp only at e0 HF ⊢
  go_enter Try.func13, Try.ntmps13
  go_wp2_with (rw [e0])
  try rw [e0]
  clear e0
  refine (unhide HF).mono ?_
  rintro r w1 ⟨rfl, b1⟩
  have B1 := hide ((unhide bb).trans (b1.mono (unhide bb).size))
  have r2 := ((unhide HK) _ b1).cell 2
  simp only [cfvals, List.getElem?_cons_zero, List.getElem?_cons_succ] at r2
  clear b1 HK bb HF
  by_cases h0 : f = 0
  case neg =>
    have h1 : (f == 0) = false := by rw [beq_eq_false_iff_ne]; exact h0
    have HR : Hid (ck = false) := by show _ = _; rw [unhide HB, decide_eq_false h0]; rfl
    clear h0
    go_wp2_with fail
    go_ret
    exact ⟨by rw [unhide HR]; rfl, unhide B1⟩
  subst h0
  have h1 : ((0 : Int) == 0) = true := rfl
  go_wp2_with fail
  refine ((unhide HN) _).mono ?_
  rintro r w2 ⟨rfl, rfl⟩
  cases wn
  · go_wp2_with fail
    go_ret
    exact ⟨by rw [unhide HB]; simp, unhide B1⟩
  have ho := (unhide HO) (by trivial)
  have hn := (unhide HW) (by trivial)
  have hz : ¬ e = 0 := by omega
  obtain ⟨rm, erm⟩ : ∃ r : Int, r = n % e := ⟨_, rfl⟩
  have hm1 : n.tmod e = rm := by rw [erm, Int.tmod_eq_emod_of_nonneg hn.1]
  have hm2 : 0 ≤ rm ∧ rm < 100 := by
    have h1 := Int.emod_nonneg n (b := e) (by omega)
    have h2 := Int.emod_lt_of_pos n (b := e) (by omega)
    omega
  have hm3 : IntKind.i64.wrap rm = rm := by rw [IntKind.wrap_i64]; omega
  have HR : Hid (ck = decide (rm = 0)) := by show _ = _; rw [unhide HB, erm]; simp
  clear erm HO HW ho hn hm2
  go_wp2_with fail
  go_ret
  exact ⟨by rw [unhide HR]; rfl, unhide B1⟩

set_option maxHeartbeats 4000000 in
theorem l8Checkpoint_any (g : Nat) (x : Cf) (n : Int) (T : TypeId) (w : World) (sb : SBlk w g (cfvals x).toList T) (h0 : cfFlt x = 0) (hn : 0 ≤ n ∧ n ≤ 1099511627776) : Calls Try.prog 20 #[.pointer (some ⟨g, 0, none⟩), .int .i64 n] w fun r w' => r = .returned (.bool (decide (n % x.2.2 = 0))) ∧ w' = w := by
  have ho := cf_ok h0
  obtain ⟨m, p, e⟩ := x
  have r2 := sb.cell 2
  simp only [cfvals, List.getElem?_cons_zero, List.getElem?_cons_succ] at r2
  simp only at ho ⊢
  clear sb h0
  have hz : ¬ e = 0 := by omega
  obtain ⟨rm, erm⟩ : ∃ r : Int, r = n % e := ⟨_, rfl⟩
  have hm1 : n.tmod e = rm := by rw [erm, Int.tmod_eq_emod_of_nonneg hn.1]
  have hm2 : 0 ≤ rm ∧ rm < 100 := by
    have h1 := Int.emod_nonneg n (b := e) (by omega)
    have h2 := Int.emod_lt_of_pos n (b := e) (by omega)
    omega
  have hm3 : IntKind.i64.wrap rm = rm := by rw [IntKind.wrap_i64]; omega
  rw [← erm]
  clear erm ho hn hm2
  go_enter Try.func20, Try.ntmps20
  go_wp2_with fail
  go_ret
  exact ⟨by rfl, rfl⟩

set_option maxHeartbeats 4000000 in
theorem specCheckpoint_any (x : Cf) (n : Int) (w : World) : Calls Try.prog 12 #[.agg (cfvals x), .int .i64 n] w fun r w' => r = .returned (.bool (cfCk x n)) ∧ Below w.heap.size w w' := by
  have kr := SBlk.new w (cfvals x) 25
  have bb := hide (below_alloc w (.cells (cfvals x) 25))
  obtain ⟨W0, e0⟩ : ∃ W, w.alloc (.cells (cfvals x) 25) = W := ⟨_, rfl⟩
  rw [e0] at kr bb
  have HF := hide (l8Fault_any _ x _ W0 kr)
  have HC := hide (fun (h0 : cfFlt x = 0) (hn : 0 ≤ n ∧ n ≤ 1099511627776) => l8Checkpoint_any _ x n _ W0 kr h0 hn)
  have HN := hide (fun W => l5Number_any n W)
  have HK := hide (fun (W : World) (hb : Below W0.heap.size W0 W) => kr.below hb kr.lt)
  have HO := hide (@cf_ok x)
  have HW : Hid (within n 0 1099511627776 = true → 0 ≤ n ∧ n ≤ 1099511627776) := fun h => by unfold within at h; simpa using h
  have r0 := kr.cell 0
  have r1 := kr.cell 1
  have r2 := kr.cell 2
  obtain ⟨m, p, e⟩ := x
  simp only [cfvals, List.getElem?_cons_zero, List.getElem?_cons_succ] at r0 r1 r2
  clear kr
  unfold cfCk
  generalize cfFlt (m, p, e) = f at HF HO HC ⊢
  generalize within n 0 1099511627776 = wn at HN HW ⊢
  simp only at HO HC ⊢
  obtain ⟨ck, hck⟩ : ∃ b : Bool, b = (decide (f = 0) && wn && decide (n % e = 0)) := ⟨_, rfl⟩
  rw [← hck]
  have HB := hide hck
  clear hck
  unfold cfvals at e0 ⊢
  simp only at e0 ⊢
  go_enter Try.func12, Try.ntmps12
  go_wp2_with (rw [e0])
  try rw [e0]
  clear e0
  refine (unhide HF).mono ?_
  rintro r w1 ⟨rfl, rfl⟩
  clear HF HK
  by_cases h0 : f = 0
  case neg =>
    have h1 : (f == 0) = false := by rw [beq_eq_false_iff_ne]; exact h0
    have HR : Hid (ck = false) := by show _ = _; rw [unhide HB, decide_eq_false h0]; rfl
    clear h0
    go_wp2_with fail
    go_ret
    exact ⟨by rw [unhide HR]; rfl, unhide bb⟩
  subst h0
  have h1 : ((0 : Int) == 0) = true := rfl
  go_wp2_with fail
  refine ((unhide HN) _).mono ?_
  rintro r w2 ⟨rfl, rfl⟩
  cases wn
  · go_wp2_with fail
    go_ret
    exact ⟨by rw [unhide HB]; simp, unhide bb⟩
  go_wp2_with fail
  refine ((unhide HC) (by trivial) ((unhide HW) (by trivial))).mono ?_
  rintro r w3 ⟨rfl, rfl⟩
  go_wp2_with fail
  go_ret
  exact ⟨by rw [unhide HB]; simp, unhide bb⟩

end Go.Proofs.Ytncgidnkbadlpaa
