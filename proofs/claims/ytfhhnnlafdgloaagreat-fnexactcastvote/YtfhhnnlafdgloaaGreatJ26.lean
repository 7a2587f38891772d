/- What is proved here: what the program's CastVote answers: a code and a snapshot in memory of its own, those of the model. -/
import Derived.Test.YtfhhnnlafdgloaaGreatJ24
import Derived.Test.YtfhhnnlafdgloaaGreatJ25
import Derived.Test.YtfhhnnlafdgloaaGreatJ16
import Derived.Test.YtfhhnnlafdgloaaGreatChecked
import Derived.Test.YtfhhnnlafdgloaaGreatJ7
import Derived.KernelRfl
namespace Go.Proofs.YtfhhnnlafdgloaaGreat
open Go.RowKit
set_option linter.unusedVariables false
set_option linter.unusedSimpArgs false
set_option maxRecDepth 100000

theorem sn_own_nil (w : World) (B : Nat) (d : Nat → Path) (p : Path) : SNK.Own w B d p ((), ⟨none, 0, 0⟩, ⟨none, 0, 0⟩, ⟨none, 0, 0⟩) (0, [], [], []) :=
  ⟨(show in64 0 by unfold in64; omega), RowOwn.nil _ _ _ _ _ _, RowOwn.nil _ _ _ _ _ _, RowOwn.nil _ _ _ _ _ _⟩

theorem cf_cv {x : Sn} {s t : List Int} {add : Bool} (h : cfCode x s t ≠ 0) : cvCode x s t add = cfCode x s t := by
  unfold cfCode at h ⊢
  unfold cvCode
  by_cases h1 : snFlt x ≠ 0
  · rw [if_pos h1, if_pos h1]
  · rw [if_neg h1] at h
    rw [if_neg h1, if_neg h1]
    by_cases h2 : (s.length == 4) = false
    · rw [if_pos h2, if_pos h2]
    · rw [if_neg h2] at h
      rw [if_neg h2, if_neg h2]
      by_cases h3 : (t.length == 4) = false
      · rw [if_pos h3, if_pos h3]
      · rw [if_neg h3] at h
        rw [if_neg h3, if_neg h3]
        by_cases h4 : decide (s ∈ x.2.1) = false
        · rw [if_pos h4, if_pos h4]
        · rw [if_neg h4] at h
          exact absurd rfl h

theorem cf_zero {x : Sn} {s t : List Int} (h : cfCode x s t = 0) : snFlt x = 0 ∧ s.length = 4 ∧ t.length = 4 ∧ s ∈ x.2.1 := by
  unfold cfCode at h
  by_cases h1 : snFlt x ≠ 0
  · rw [if_pos h1] at h
    exact absurd h h1
  · rw [if_neg h1] at h
    by_cases h2 : (s.length == 4) = false
    · rw [if_pos h2] at h
      exact absurd h (by decide)
    · rw [if_neg h2] at h
      by_cases h3 : (t.length == 4) = false
      · rw [if_pos h3] at h
        exact absurd h (by decide)
      · rw [if_neg h3] at h
        by_cases h4 : decide (s ∈ x.2.1) = false
        · rw [if_pos h4] at h
          exact absurd h (by decide)
        · refine ⟨by simpa using h1, by simpa using h2, by simpa using h3, by simpa using h4⟩

theorem cv_ct {x : Sn} {s t : List Int} {add : Bool} (h : cfCode x s t = 0) : cvCode x s t add = ctCode x s t add := by
  obtain ⟨h1, h2, h3, h4⟩ := cf_zero h
  unfold cvCode
  rw [if_neg (by simp [h1]), if_neg (by simp [h2]), if_neg (by simp [h3]), if_neg (by simp [h4])]

theorem cv_sn {x : Sn} {s t : List Int} {add : Bool} (h : cvCode x s t add = 0) : cvSn x s t add = ctSn x s t add := if_pos h
theorem cv_nil {x : Sn} {s t : List Int} {add : Bool} (h : cvCode x s t add ≠ 0) : cvSn x s t add = (0, [], [], []) := if_neg h

theorem map_len {α β : Type} (f : α → β) {l : List α} {k : List β} (h : l.map f = k) : k.length = l.length := by rw [← h, List.length_map]

theorem implCast_any (p : Path) (e : SnS) (x : Sn) (sa sb : Sl) (za zb : List Int) (add : Bool) (w : World) (o : SNK.Ok w e x) (m : SnSm x) (oa : BOk w sa za) (ob : BOk w sb zb) :
    Calls Tryz.prog 8 #[.agg (snvals e x), .slice sa.a sa.n sa.c, .slice sb.a sb.n sb.c, .bool add] w fun r w' => ∃ e' : SnS, r = .returned (.agg (srvals (cvCode x za zb add) e' (cvSn x za zb add))) ∧ (∃ d, SNK.Own w' w.heap.size d p e' (cvSn x za zb add)) ∧ Below w.heap.size w w' := by
  by_cases hc : cfCode x za zb = 0
  case neg =>
    have h1 := cf_cv (add := add) hc
    rw [cv_nil (by rw [h1]; exact hc), h1]
    refine (cast_fault e x sa sb za zb add w o m oa ob hc).mono ?_
    rintro r w' ⟨rfl, b⟩
    exact ⟨_, rfl, ⟨fun _ => [], sn_own_nil _ _ _ _⟩, b⟩
  obtain ⟨h0, ha, hb, hmem⟩ := cf_zero hc
  have hct := cv_ct (add := add) hc
  have hless := cast_less x za zb ha hb
  have hwith := cast_with x za zb add ((x.2.2.2.length : Nat) : Int) ha hb
  have hll := map_len _ hless
  by_cases hadd : add = decide (zb ∈ x.2.1)
  · have hcode : ctCode x za zb add = 0 := if_pos hadd
    have hsn : ctSn x za zb add = lessSn x za zb := if_pos hadd
    rw [cv_sn (by rw [hct]; exact hcode), hct, hcode, hsn]
    have h := cast_same p e x sa sb za zb add w o m oa ob hc h0 ha hb hadd
    rw [hless] at h
    exact h
  have hadd' : add = !decide (zb ∈ x.2.1) := by
    generalize decide (zb ∈ x.2.1) = b at hadd
    cases add <;> cases b <;> simp_all
  by_cases hmany : 30 ≤ (pvLess (placed x.2.2.2) za zb).length
  · have hcode : ctCode x za zb add = 2 := by unfold ctCode; rw [if_neg hadd, if_pos (by rw [hll]; exact hmany)]
    rw [cv_nil (by rw [hct, hcode]; decide), hct, hcode]
    refine (cast_many p e x sa sb za zb add w o m oa ob hc h0 ha hb hadd' hmany).mono ?_
    rintro r w' ⟨rfl, b⟩
    exact ⟨_, rfl, ⟨fun _ => [], sn_own_nil _ _ _ _⟩, b⟩
  have hkeys : pvKeys (pvLess (placed x.2.2.2) za zb ++ [(((x.2.2.2.length : Nat) : Int), za, zb, add)]) = vtKeys (withVt x za zb add).2.2.2 := by unfold pvKeys; rw [hwith]
  by_cases hmaj : 2 * tlOf zb (pvKeys (pvLess (placed x.2.2.2) za zb ++ [(((x.2.2.2.length : Nat) : Int), za, zb, add)])) ≤ x.2.1.length
  · have hm2 : 2 * tlOf zb (vtKeys (withVt x za zb add).2.2.2) ≤ x.2.1.length := by rw [← hkeys]; exact hmaj
    have hcode : ctCode x za zb add = 0 := by unfold ctCode; rw [if_neg hadd, if_neg (by rw [hll]; exact hmany), if_pos hm2]
    have hsn : ctSn x za zb add = withVt x za zb add := by unfold ctSn; rw [if_neg hadd, if_neg (by rw [hll]; exact hmany), if_pos hm2]
    rw [cv_sn (by rw [hct]; exact hcode), hct, hcode, hsn]
    have h := cast_few p e x sa sb za zb add w o m oa ob hc h0 ha hb hadd' hmany hmaj
    rw [hwith] at h
    exact h
  have hm2 : ¬ 2 * tlOf zb (vtKeys (withVt x za zb add).2.2.2) ≤ x.2.1.length := by rw [← hkeys]; exact hmaj
  have hcode : ctCode x za zb add = wonCode (withVt x za zb add) add := by unfold ctCode; rw [if_neg hadd, if_neg (by rw [hll]; exact hmany), if_neg hm2]
  have hsn : ctSn x za zb add = wonSn (withVt x za zb add) zb add := by unfold ctSn; rw [if_neg hadd, if_neg (by rw [hll]; exact hmany), if_neg hm2]
  cases add with
  | true =>
    by_cases h7 : 7 ≤ x.2.1.length
    · have h10 : wonCode (withVt x za zb true) true = 10 := if_pos ⟨rfl, h7⟩
      rw [cv_nil (by rw [hct, hcode, h10]; decide), hct, hcode, h10]
      refine (cast_full p e x sa sb za zb true w o m oa ob hc h0 ha hb hadd' hmany hmaj rfl h7).mono ?_
      rintro r w' ⟨rfl, b⟩
      exact ⟨_, rfl, ⟨fun _ => [], sn_own_nil _ _ _ _⟩, b⟩
    · have h10 : wonCode (withVt x za zb true) true = 0 := if_neg (fun h => h7 h.2)
      have hw : wonSn (withVt x za zb true) zb true = wonIn (withVt x za zb true) zb := by unfold wonSn; rw [if_pos rfl]; exact if_neg h7
      rw [cv_sn (by rw [hct, hcode]; exact h10), hct, hcode, h10, hsn, hw]
      have h := cast_in_any p e x sa sb za zb true w o m oa ob hc h0 ha hb hadd' hmany hmaj rfl h7
      rw [cast_in _ (withVt x za zb true) zb hb hwith] at h
      exact h
  | false =>
    have h10 : wonCode (withVt x za zb false) false = 0 := if_neg (fun h => by cases h.1)
    by_cases h1 : x.2.1.length = 1
    · have hw : wonSn (withVt x za zb false) zb false = withVt x za zb false := by unfold wonSn; rw [if_neg (by decide)]; exact if_pos h1
      rw [cv_sn (by rw [hct, hcode]; exact h10), hct, hcode, h10, hsn, hw]
      have h := cast_out_one p e x sa sb za zb false w o m oa ob hc h0 ha hb hadd' hmany hmaj rfl h1
      rw [hwith] at h
      exact h
    · have hw : wonSn (withVt x za zb false) zb false = wonOut (withVt x za zb false) zb := by unfold wonSn; rw [if_neg (by decide)]; exact if_neg h1
      rw [cv_sn (by rw [hct, hcode]; exact h10), hct, hcode, h10, hsn, hw]
      have h := cast_out_any p e x sa sb za zb false w o m oa ob hc h0 ha hb hadd' hmany hmaj rfl h1
      have hmem2 : zb ∈ x.2.1 := by simpa using hadd'
      rw [cast_out _ (withVt x za zb false) zb hb hwith, plB_atFrom (snFlt_sg h0).1 hmem2] at h
      exact h

end Go.Proofs.YtfhhnnlafdgloaaGreat

/- What is proved here: the sizes of a snapshot without a fault, and of what CastVote answers; no program is walked. -/
namespace Go.Proofs.YtfhhnnlafdgloaaGreat
open Go.RowKit
set_option linter.unusedVariables false
set_option maxRecDepth 100000

theorem ls_bound {α : Type} (t : α → Nat) (b : Nat) : ∀ (xs : List α), (∀ x ∈ xs, t x ≤ b) → lsum t xs ≤ b * xs.length
  | [], _ => by simp [lsum]
  | x :: r, h => by
    have h1 := h x (by simp)
    have h2 := ls_bound t b r (fun y hy => h y (by simp [hy]))
    simp only [lsum, List.map_cons, List.sum_cons, List.length_cons] at h2 ⊢
    rw [Nat.mul_succ]
    omega

theorem ls_one {α : Type} (f : α → Nat) : ∀ (xs : List α), lsum (fun x => f x + 1) xs = lsum f xs + xs.length
  | [] => rfl
  | x :: r => by
    have := ls_one f r
    simp only [lsum, List.map_cons, List.sum_cons, List.length_cons] at this ⊢
    omega

theorem snT_of {x : Sn} (h : snSz x ≤ 1048576) : SnT x := by
  unfold snSz at h
  have h1 : lsum rcT x.2.2.1 = lsum rcSz x.2.2.1 + x.2.2.1.length := by
    rw [← ls_one]
    unfold rcT rcSz
    congr 1
    funext y
    omega
  have h2 : lsum vtT x.2.2.2 = lsum vtSz x.2.2.2 + x.2.2.2.length := by
    rw [← ls_one]
    rfl
  have h3 : bsum x.2.1 = lsum List.length x.2.1 := rfl
  exact ⟨by omega, by omega, by omega, by omega, by omega, by omega⟩

theorem snT_flt {x : Sn} (h : snFlt x = 0) : SnT x := by
  obtain ⟨q1, q2, q3, q4, q5, q6, q7, q8⟩ := sn_iff.1 h
  have h1 : bsum x.2.1 ≤ 4 * x.2.1.length := ls_bound List.length 4 _ (fun z hz => by rw [q3.2.1 z hz]; exact Nat.le_refl _)
  have h2 : lsum rcT x.2.2.1 ≤ 5 * x.2.2.1.length := ls_bound rcT 5 _ (fun r hr => by unfold rcT; rw [(q6.1 r hr).1]; exact Nat.le_refl _)
  have h3 : lsum vtT x.2.2.2 ≤ 9 * x.2.2.2.length := ls_bound vtT 9 _ (fun v hv => by unfold vtT; rw [(q7 v hv).1, (q7 v hv).2.1]; exact Nat.le_refl _)
  have := q3.1
  exact ⟨by omega, by omega, by omega, by omega, by omega, by omega⟩

theorem snT_nil : SnT (0, [], [], []) := ⟨by simp, by simp [bsum], by simp, by simp [lsum], by simp, by simp [lsum]⟩

theorem row_byt {w : World} {s : Sl} {zss : List (List Int)} (h : RowOk bytesK w s zss) : ∀ z ∈ zss, Byt z := fun z hz => by
  obtain ⟨i, hi⟩ := List.getElem?_of_mem hz
  have hl := (List.getElem?_eq_some_iff.1 hi).1
  obtain ⟨b, off, _, _, hat⟩ := h.pos (by rw [h.len]; omega)
  obtain ⟨e, _, ok⟩ := hat i z hi
  exact ok.row.2.1

/-- What CastVote answers has no fault, or is nothing. -/
theorem cv_ok {w : World} {e : SnS} {x : Sn} {sb : Sl} {za zb : List Int} {add : Bool} (o : SNK.Ok w e x) (ob : BOk w sb zb) : cvCode x za zb add = 0 → snFlt (cvSn x za zb add) = 0 := fun h => by
  by_cases hc : cfCode x za zb = 0
  · obtain ⟨h0, ha, hb, hm⟩ := cf_zero hc
    rw [cv_sn h]
    exact ct_ok h0 ha hb hm (row_byt o.2.1) ob.row.2.1
  · exact absurd (by rw [cf_cv hc] at h; exact h) hc

theorem cv_tiny {w : World} {e : SnS} {x : Sn} {sb : Sl} {za zb : List Int} {add : Bool} (o : SNK.Ok w e x) (ob : BOk w sb zb) : SnT (cvSn x za zb add) := by
  by_cases h : cvCode x za zb add = 0
  · exact snT_flt (cv_ok o ob h)
  · rw [cv_nil h]
    exact snT_nil

end Go.Proofs.YtfhhnnlafdgloaaGreat

/- What is proved here: plain facts on what stays where something else is marked; they hold for every program. -/
namespace Go.Proofs.YtfhhnnlafdgloaaGreat
open Go.RowKit
set_option linter.unusedVariables false
set_option maxRecDepth 100000

/-- The blocks from E on stay. -/
def Hi (E : Nat) (w w' : World) : Prop := ∀ g, E ≤ g → g < w.heap.size → w'.heap[g]? = w.heap[g]?

theorem Hi.sblk {E : Nat} {w w' : World} (h : Hi E w w') {g : Nat} {vs : List Value} {T : TypeId} (k : SBlk w g vs T) (hg : E ≤ g) : SBlk w' g vs T := (h g hg k.lt).trans k
theorem Hi.own {α β : Type} (K : Kd α β) {E B : Nat} {w w' : World} (h : Hi E w w') {d : Nat → Path} {p : Path} {e : β} {x : α} (k : K.Own w B d p e x) (hB : E ≤ B) : K.Own w' B d p e x :=
  K.frame k (fun g hg hb _ => h g (Nat.le_trans hB hb) hg)
theorem Hi.of {B E : Nat} {d : Nat → Path} {w w' : World} (h : OnlyP B d [0] w w') (hd : ∀ g, E ≤ g → d g = [1]) : Hi E w w' :=
  fun g hg hs => h.2 g hs (by rw [hd g hg]; decide)
theorem not_one {d : Nat → Path} {E : Nat} (hd : ∀ g, E ≤ g → d g = [1]) (n : Nat) (hn : E ≤ n) : ∀ g, n ≤ g → ¬ [0] <+: d g := fun g hg => by rw [hd g (Nat.le_trans hn hg)]; decide

/-- What is made has colours; what comes later has another one. -/
theorem Kd.recol1 {α β : Type} (K : Kd α β) {w : World} {B : Nat} {d : Nat → Path} {p : Path} {e : β} {x : α} (h : K.Own w B d p e x) : ∃ d' : Nat → Path, K.Own w B d' p e x ∧ ∀ g, w.heap.size ≤ g → d' g = [1] :=
  ⟨fun g => if g < w.heap.size then d g else [1], K.recolNew h (fun g hg => if_pos hg), fun g hg => if_neg (by omega)⟩

end Go.Proofs.YtfhhnnlafdgloaaGreat

/- What is proved here: how arguments that are recents, votes and snapshots read. -/
namespace Go.Proofs.YtfhhnnlafdgloaaGreat
open Go.RowKit
set_option linter.unusedVariables false
set_option maxRecDepth 100000

theorem opensRecent {H : Type} {enc : TypeId × Value → H} {w : World} {sp : Nat → Bool} {held : Bool} : Opens enc Tryz.prog w sp held (rcK) 79 := by
  intro fuel cs y hl h
  have hl' : cs.length = 2 := hl
  have f0 := opens_field (K := intK) Tryz.underlying79 h 0 _ rfl rfl rfl (by kernel_rfl) (opens_int Tryz.underlying2) (by show 0 + 1 ≤ cs.length; omega)
  have f1 := opens_field (K := bytesK) Tryz.underlying79 h 1 _ rfl rfl rfl (by kernel_rfl) (opens_bytes Tryz.underlying27 Tryz.underlying5 (by kernel_rfl)) (by show 1 + 1 ≤ cs.length; omega)
  match cs, hl' with
  | [c0, c1], _ =>
    replace f0 : ∃ e x, [c0] = (intK).vals e x ∧ (intK).Ok w e x := f0
    obtain ⟨e0, x0, q0, r0⟩ := f0
    replace f1 : ∃ e x, [c1] = (bytesK).vals e x ∧ (bytesK).Ok w e x := f1
    obtain ⟨e1, x1, q1, r1⟩ := f1
    refine ⟨(e0, e1), (x0, x1), ?_, r0, r1⟩
    show [c0, c1] = (intK).vals e0 x0 ++ ((bytesK).vals e1 x1)
    rw [← q0, ← q1]
    rfl

theorem opensVote {H : Type} {enc : TypeId × Value → H} {w : World} {sp : Nat → Bool} {held : Bool} : Opens enc Tryz.prog w sp held (vtK) 82 := by
  intro fuel cs y hl h
  have hl' : cs.length = 3 := hl
  have f0 := opens_field (K := bytesK) Tryz.underlying82 h 0 _ rfl rfl rfl (by kernel_rfl) (opens_bytes Tryz.underlying27 Tryz.underlying5 (by kernel_rfl)) (by show 0 + 1 ≤ cs.length; omega)
  have f1 := opens_field (K := bytesK) Tryz.underlying82 h 1 _ rfl rfl rfl (by kernel_rfl) (opens_bytes Tryz.underlying27 Tryz.underlying5 (by kernel_rfl)) (by show 1 + 1 ≤ cs.length; omega)
  have f2 := opens_field (K := boolK) Tryz.underlying82 h 2 _ rfl rfl rfl (by kernel_rfl) (opens_bool Tryz.underlying4) (by show 2 + 1 ≤ cs.length; omega)
  match cs, hl' with
  | [c0, c1, c2], _ =>
    replace f0 : ∃ e x, [c0] = (bytesK).vals e x ∧ (bytesK).Ok w e x := f0
    obtain ⟨e0, x0, q0, r0⟩ := f0
    replace f1 : ∃ e x, [c1] = (bytesK).vals e x ∧ (bytesK).Ok w e x := f1
    obtain ⟨e1, x1, q1, r1⟩ := f1
    replace f2 : ∃ e x, [c2] = (boolK).vals e x ∧ (boolK).Ok w e x := f2
    obtain ⟨e2, x2, q2, r2⟩ := f2
    refine ⟨(e0, e1, e2), (x0, x1, x2), ?_, r0, r1, r2⟩
    show [c0, c1, c2] = (bytesK).vals e0 x0 ++ ((bytesK).vals e1 x1 ++ ((boolK).vals e2 x2))
    rw [← q0, ← q1, ← q2]
    rfl

theorem opensSnap {H : Type} {enc : TypeId × Value → H} {w : World} {sp : Nat → Bool} {held : Bool} : Opens enc Tryz.prog w sp held (SNK) 26 := by
  intro fuel cs y hl h
  have hl' : cs.length = 4 := hl
  have f0 := opens_field (K := intK) Tryz.underlying26 h 0 _ rfl rfl rfl (by kernel_rfl) (opens_int Tryz.underlying2) (by show 0 + 1 ≤ cs.length; omega)
  have f1 := opens_field (K := rowK bytesK 27) Tryz.underlying26 h 1 _ rfl rfl rfl (by kernel_rfl) (opens_row Tryz.underlying22 (by kernel_rfl) (by decide) (opens_bytes Tryz.underlying27 Tryz.underlying5 (by kernel_rfl))) (by show 1 + 1 ≤ cs.length; omega)
  have f2 := opens_field (K := rowK rcK 89) Tryz.underlying26 h 2 _ rfl rfl rfl (by kernel_rfl) (opens_row Tryz.underlying23 (by kernel_rfl) (by decide) opensRecent) (by show 2 + 1 ≤ cs.length; omega)
  have f3 := opens_field (K := rowK vtK 86) Tryz.underlying26 h 3 _ rfl rfl rfl (by kernel_rfl) (opens_row Tryz.underlying24 (by kernel_rfl) (by decide) opensVote) (by show 3 + 1 ≤ cs.length; omega)
  match cs, hl' with
  | [c0, c1, c2, c3], _ =>
    replace f0 : ∃ e x, [c0] = (intK).vals e x ∧ (intK).Ok w e x := f0
    obtain ⟨e0, x0, q0, r0⟩ := f0
    replace f1 : ∃ e x, [c1] = (rowK bytesK 27).vals e x ∧ (rowK bytesK 27).Ok w e x := f1
    obtain ⟨e1, x1, q1, r1⟩ := f1
    replace f2 : ∃ e x, [c2] = (rowK rcK 89).vals e x ∧ (rowK rcK 89).Ok w e x := f2
    obtain ⟨e2, x2, q2, r2⟩ := f2
    replace f3 : ∃ e x, [c3] = (rowK vtK 86).vals e x ∧ (rowK vtK 86).Ok w e x := f3
    obtain ⟨e3, x3, q3, r3⟩ := f3
    refine ⟨(e0, e1, e2, e3), (x0, x1, x2, x3), ?_, r0, r1, r2, r3⟩
    show [c0, c1, c2, c3] = (intK).vals e0 x0 ++ ((rowK bytesK 27).vals e1 x1 ++ ((rowK rcK 89).vals e2 x2 ++ ((rowK vtK 86).vals e3 x3)))
    rw [← q0, ← q1, ← q2, ← q3]
    rfl

theorem open_snap {H : Type} {enc : TypeId × Value → H} {w : World} {sp : Nat → Bool} {held : Bool} {v : Value} {d : DataW H} {ps : List MemPlace} (hv : ∃ cs, v = .agg cs ∧ cs.size = Tryz.prog.cellsOf 26) (h : DataW.Trod enc Tryz.prog w 0 sp held 26 v d ps) :
    ∃ e x, v = .agg (snvals e x) ∧ SNK.Ok w e x := opens_arg opensSnap hv (by kernel_rfl) h

end Go.Proofs.YtfhhnnlafdgloaaGreat
