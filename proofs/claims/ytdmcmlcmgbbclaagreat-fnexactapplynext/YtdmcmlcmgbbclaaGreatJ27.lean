/- What is proved here: what the program's CastVote answers: a code and a snapshot in memory of its own, those of the model. -/
import Derived.Test.YtdmcmlcmgbbclaaGreatJ25
import Derived.Test.YtdmcmlcmgbbclaaGreatJ26
import Derived.Test.YtdmcmlcmgbbclaaGreatJ16
import Derived.Test.YtdmcmlcmgbbclaaGreatJ17
import Derived.Test.YtdmcmlcmgbbclaaGreatJ23
import Derived.Test.YtdmcmlcmgbbclaaGreatJ22
import Derived.Test.YtdmcmlcmgbbclaaGreatJ7
import Derived.Lib.SliceRun
import Derived.Test.YtdmcmlcmgbbclaaGreatJ10
import Derived.Test.YtdmcmlcmgbbclaaGreatJ24
import Derived.Test.YtdmcmlcmgbbclaaGreatJ3
import Derived.Test.YtdmcmlcmgbbclaaGreatJ19
namespace Go.Proofs.YtdmcmlcmgbbclaaGreat
set_option linter.unusedVariables false
set_option linter.unusedSimpArgs false
open Go.RowKit
set_option maxRecDepth 100000

theorem sn_own_nil (w : World) (B : Nat) (d : Nat → Path) (p : Path) : SNK.Own w B d p ((), ⟨none, 0, 0⟩, ⟨none, 0, 0⟩, ⟨none, 0, 0⟩) (0, [], [], []) :=
 ⟨(show in64 0 by unfold in64; omega), RowOwn.nil _ _ _ _ _ _, RowOwn.nil _ _ _ _ _ _, RowOwn.nil _ _ _ _ _ _⟩

theorem cf_cv {x : Sn} {s t : List Int} {add : Bool} (h : cfCode x s t ≠ 0) : cvCode x s t add = cfCode x s t := by
 unfold cfCode at h ⊢
 unfold cvCode
 by_cases h1 : snFlt x ≠ 0
 · rw [if_pos h1, if_pos h1]
 · rw [if_neg h1] at h
   rw [if_neg h1, if_neg h1]
   by_cases h2 : (s.length == 4) = false
   · rw [if_pos h2, if_pos h2]
   · rw [if_neg h2] at h
     rw [if_neg h2, if_neg h2]
     by_cases h3 : (t.length == 4) = false
     · rw [if_pos h3, if_pos h3]
     · rw [if_neg h3] at h
       rw [if_neg h3, if_neg h3]
       by_cases h4 : decide (s ∈ x.2.1) = false
       · rw [if_pos h4, if_pos h4]
       · rw [if_neg h4] at h
         exact absurd rfl h

theorem cf_zero {x : Sn} {s t : List Int} (h : cfCode x s t = 0) : snFlt x = 0 ∧ s.length = 4 ∧ t.length = 4 ∧ s ∈ x.2.1 := by
 unfold cfCode at h
 by_cases h1 : snFlt x ≠ 0
 · rw [if_pos h1] at h
   exact absurd h h1
 · rw [if_neg h1] at h
   by_cases h2 : (s.length == 4) = false
   · rw [if_pos h2] at h
     exact absurd h (by decide)
   · rw [if_neg h2] at h
     by_cases h3 : (t.length == 4) = false
     · rw [if_pos h3] at h
       exact absurd h (by decide)
     · rw [if_neg h3] at h
       by_cases h4 : decide (s ∈ x.2.1) = false
       · rw [if_pos h4] at h
         exact absurd h (by decide)
       · refine ⟨by simpa using h1, by simpa using h2, by simpa using h3, by simpa using h4⟩

theorem cv_ct {x : Sn} {s t : List Int} {add : Bool} (h : cfCode x s t = 0) : cvCode x s t add = ctCode x s t add := by
 obtain ⟨h1, h2, h3, h4⟩ := cf_zero h
 unfold cvCode
 rw [if_neg (by simp [h1]), if_neg (by simp [h2]), if_neg (by simp [h3]), if_neg (by simp [h4])]

theorem cv_sn {x : Sn} {s t : List Int} {add : Bool} (h : cvCode x s t add = 0) : cvSn x s t add = ctSn x s t add := if_pos h
theorem cv_nil {x : Sn} {s t : List Int} {add : Bool} (h : cvCode x s t add ≠ 0) : cvSn x s t add = (0, [], [], []) := if_neg h

theorem map_len {α β : Type} (f : α → β) {l : List α} {k : List β} (h : l.map f = k) : k.length = l.length := by rw [← h, List.length_map]

theorem implCast_any (p : Path) (e : SnS) (x : Sn) (sa sb : Sl) (za zb : List Int) (add : Bool) (w : World) (o : SNK.Ok w e x) (m : SnSm x) (oa : BOk w sa za) (ob : BOk w sb zb) :
    Calls Tryz.prog 38 #[.agg (snvals e x), .slice sa.a sa.n sa.c, .slice sb.a sb.n sb.c, .bool add] w fun r w' => ∃ e' : SnS, r = .returned (.agg (srvals (cvCode x za zb add) e' (cvSn x za zb add))) ∧ (∃ d, SNK.Own w' w.heap.size d p e' (cvSn x za zb add)) ∧ Below w.heap.size w w' := by
 by_cases hc : cfCode x za zb = 0
 case neg =>
  have h1 := cf_cv (add := add) hc
  rw [cv_nil (by rw [h1]; exact hc), h1]
  refine (cast_fault e x sa sb za zb add w o m oa ob hc).mono ?_
  rintro r w' ⟨rfl, b⟩
  exact ⟨_, rfl, ⟨fun _ => [], sn_own_nil _ _ _ _⟩, b⟩
 obtain ⟨h0, ha, hb, hmem⟩ := cf_zero hc
 have hct := cv_ct (add := add) hc
 have hless := cast_less x za zb ha hb
 have hwith := cast_with x za zb add ((x.2.2.2.length : Nat) : Int) ha hb
 have hll := map_len _ hless
 by_cases hadd : add = decide (zb ∈ x.2.1)
 · have hcode : ctCode x za zb add = 0 := if_pos hadd
   have hsn : ctSn x za zb add = lessSn x za zb := if_pos hadd
   rw [cv_sn (by rw [hct]; exact hcode), hct, hcode, hsn]
   have h := cast_same p e x sa sb za zb add w o m oa ob hc h0 ha hb hadd
   rw [hless] at h
   exact h
 have hadd' : add = !decide (zb ∈ x.2.1) := by
  generalize decide (zb ∈ x.2.1) = b at hadd
  cases add <;> cases b <;> simp_all
 by_cases hmany : 30 ≤ (pvLess (placed x.2.2.2) za zb).length
 · have hcode : ctCode x za zb add = 2 := by unfold ctCode; rw [if_neg hadd, if_pos (by rw [hll]; exact hmany)]
   rw [cv_nil (by rw [hct, hcode]; decide), hct, hcode]
   refine (cast_many p e x sa sb za zb add w o m oa ob hc h0 ha hb hadd' hmany).mono ?_
   rintro r w' ⟨rfl, b⟩
   exact ⟨_, rfl, ⟨fun _ => [], sn_own_nil _ _ _ _⟩, b⟩
 have hkeys : pvKeys (pvLess (placed x.2.2.2) za zb ++ [(((x.2.2.2.length : Nat) : Int), za, zb, add)]) = vtKeys (withVt x za zb add).2.2.2 := by unfold pvKeys; rw [hwith]
 by_cases hmaj : 2 * tlOf zb (pvKeys (pvLess (placed x.2.2.2) za zb ++ [(((x.2.2.2.length : Nat) : Int), za, zb, add)])) ≤ x.2.1.length
 · have hm2 : 2 * tlOf zb (vtKeys (withVt x za zb add).2.2.2) ≤ x.2.1.length := by rw [← hkeys]; exact hmaj
   have hcode : ctCode x za zb add = 0 := by unfold ctCode; rw [if_neg hadd, if_neg (by rw [hll]; exact hmany), if_pos hm2]
   have hsn : ctSn x za zb add = withVt x za zb add := by unfold ctSn; rw [if_neg hadd, if_neg (by rw [hll]; exact hmany), if_pos hm2]
   rw [cv_sn (by rw [hct]; exact hcode), hct, hcode, hsn]
   have h := cast_few p e x sa sb za zb add w o m oa ob hc h0 ha hb hadd' hmany hmaj
   rw [hwith] at h
   exact h
 have hm2 : ¬ 2 * tlOf zb (vtKeys (withVt x za zb add).2.2.2) ≤ x.2.1.length := by rw [← hkeys]; exact hmaj
 have hcode : ctCode x za zb add = wonCode (withVt x za zb add) add := by unfold ctCode; rw [if_neg hadd, if_neg (by rw [hll]; exact hmany), if_neg hm2]
 have hsn : ctSn x za zb add = wonSn (withVt x za zb add) zb add := by unfold ctSn; rw [if_neg hadd, if_neg (by rw [hll]; exact hmany), if_neg hm2]
 cases add with
 | true =>
  by_cases h7 : 7 ≤ x.2.1.length
  · have h10 : wonCode (withVt x za zb true) true = 10 := if_pos ⟨rfl, h7⟩
    rw [cv_nil (by rw [hct, hcode, h10]; decide), hct, hcode, h10]
    refine (cast_full p e x sa sb za zb true w o m oa ob hc h0 ha hb hadd' hmany hmaj rfl h7).mono ?_
    rintro r w' ⟨rfl, b⟩
    exact ⟨_, rfl, ⟨fun _ => [], sn_own_nil _ _ _ _⟩, b⟩
  · have h10 : wonCode (withVt x za zb true) true = 0 := if_neg (fun h => h7 h.2)
    have hw : wonSn (withVt x za zb true) zb true = wonIn (withVt x za zb true) zb := by unfold wonSn; rw [if_pos rfl]; exact if_neg h7
    rw [cv_sn (by rw [hct, hcode]; exact h10), hct, hcode, h10, hsn, hw]
    have h := cast_in_any p e x sa sb za zb true w o m oa ob hc h0 ha hb hadd' hmany hmaj rfl h7
    rw [cast_in _ (withVt x za zb true) zb hb hwith] at h
    exact h
 | false =>
  have h10 : wonCode (withVt x za zb false) false = 0 := if_neg (fun h => by cases h.1)
  by_cases h1 : x.2.1.length = 1
  · have hw : wonSn (withVt x za zb false) zb false = withVt x za zb false := by unfold wonSn; rw [if_neg (by decide)]; exact if_pos h1
    rw [cv_sn (by rw [hct, hcode]; exact h10), hct, hcode, h10, hsn, hw]
    have h := cast_out_one p e x sa sb za zb false w o m oa ob hc h0 ha hb hadd' hmany hmaj rfl h1
    rw [hwith] at h
    exact h
  · have hw : wonSn (withVt x za zb false) zb false = wonOut (withVt x za zb false) zb := by unfold wonSn; rw [if_neg (by decide)]; exact if_neg h1
    rw [cv_sn (by rw [hct, hcode]; exact h10), hct, hcode, h10, hsn, hw]
    have h := cast_out_any p e x sa sb za zb false w o m oa ob hc h0 ha hb hadd' hmany hmaj rfl h1
    have hmem2 : zb ∈ x.2.1 := by simpa using hadd'
    rw [cast_out _ (withVt x za zb false) zb hb hwith, plB_atFrom (snFlt_sg h0).1 hmem2] at h
    exact h

set_option maxRecDepth 100000

theorem ls_bound {α : Type} (t : α → Nat) (b : Nat) : ∀ (xs : List α), (∀ x ∈ xs, t x ≤ b) → lsum t xs ≤ b * xs.length
 | [], _ => by simp [lsum]
 | x :: r, h => by
  have h1 := h x (by simp)
  have h2 := ls_bound t b r (fun y hy => h y (by simp [hy]))
  simp only [lsum, List.map_cons, List.sum_cons, List.length_cons] at h2 ⊢
  rw [Nat.mul_succ]
  omega

theorem ls_one {α : Type} (f : α → Nat) : ∀ (xs : List α), lsum (fun x => f x + 1) xs = lsum f xs + xs.length
 | [] => rfl
 | x :: r => by
  have := ls_one f r
  simp only [lsum, List.map_cons, List.sum_cons, List.length_cons] at this ⊢
  omega

theorem snT_of {x : Sn} (h : snSz x ≤ 1048576) : SnT x := by
 unfold snSz at h
 have h1 : lsum rcT x.2.2.1 = lsum rcSz x.2.2.1 + x.2.2.1.length := by
  rw [← ls_one]
  unfold rcT rcSz
  congr 1
  funext y
  omega
 have h2 : lsum vtT x.2.2.2 = lsum vtSz x.2.2.2 + x.2.2.2.length := by
  rw [← ls_one]
  rfl
 have h3 : bsum x.2.1 = lsum List.length x.2.1 := rfl
 exact ⟨by omega, by omega, by omega, by omega, by omega, by omega⟩

theorem snT_flt {x : Sn} (h : snFlt x = 0) : SnT x := by
 obtain ⟨q1, q2, q3, q4, q5, q6, q7, q8⟩ := sn_iff.1 h
 have h1 : bsum x.2.1 ≤ 4 * x.2.1.length := ls_bound List.length 4 _ (fun z hz => by rw [q3.2.1 z hz]; exact Nat.le_refl _)
 have h2 : lsum rcT x.2.2.1 ≤ 5 * x.2.2.1.length := ls_bound rcT 5 _ (fun r hr => by unfold rcT; rw [(q6.1 r hr).1]; exact Nat.le_refl _)
 have h3 : lsum vtT x.2.2.2 ≤ 9 * x.2.2.2.length := ls_bound vtT 9 _ (fun v hv => by unfold vtT; rw [(q7 v hv).1, (q7 v hv).2.1]; exact Nat.le_refl _)
 have := q3.1
 exact ⟨by omega, by omega, by omega, by omega, by omega, by omega⟩

theorem snT_nil : SnT (0, [], [], []) := ⟨by simp, by simp [bsum], by simp, by simp [lsum], by simp, by simp [lsum]⟩

theorem row_byt {w : World} {s : Sl} {zss : List (List Int)} (h : RowOk bytesK w s zss) : ∀ z ∈ zss, Byt z := fun z hz => by
 obtain ⟨i, hi⟩ := List.getElem?_of_mem hz
 have hl := (List.getElem?_eq_some_iff.1 hi).1
 obtain ⟨b, off, _, _, hat⟩ := h.pos (by rw [h.len]; omega)
 obtain ⟨e, _, ok⟩ := hat i z hi
 exact ok.row.2.1

set_option maxRecDepth 100000

/-- The first t of those behind k have been moved forward. -/
def shf (vs : List Value) (k t : Nat) : List Value := (vs.drop (2 * k)).take (2 * t) ++ vs.drop (2 * t)

theorem shf_zero (vs : List Value) (k : Nat) : shf vs k 0 = vs := by simp [shf]

theorem shf_length {vs : List Value} {n k t : Nat} (hl : vs.length = n * 2) (h : k + t ≤ n) : (shf vs k t).length = n * 2 := by
 unfold shf
 rw [List.length_append, List.length_take, List.length_drop, List.length_drop]
 omega

theorem shf_old {vs : List Value} {n k t i : Nat} (hl : vs.length = n * 2) (h : k + t ≤ n) (hi : 2 * t ≤ i) : (shf vs k t)[i]? = vs[i]? := by
 unfold shf
 have h1 : ((vs.drop (2 * k)).take (2 * t)).length = 2 * t := by rw [List.length_take, List.length_drop]; omega
 rw [List.getElem?_append_right (by omega), h1, List.getElem?_drop]
 congr 1
 omega

theorem shf_new {vs : List Value} {n k t i : Nat} (hl : vs.length = n * 2) (h : k + t ≤ n) (hi : i < 2 * t) : (shf vs k t)[i]? = vs[2 * k + i]? := by
 unfold shf
 have h1 : ((vs.drop (2 * k)).take (2 * t)).length = 2 * t := by rw [List.length_take, List.length_drop]; omega
 rw [List.getElem?_append_left (by omega), List.getElem?_take, if_pos hi, List.getElem?_drop]

theorem shf_step {vs : List Value} {n k t : Nat} (hl : vs.length = n * 2) (hk : 0 < k) (h : k + t < n) {u v : Value} (hu : vs[(k + t) * 2]? = some u) (hv : vs[(k + t) * 2 + 1]? = some v) : ((shf vs k t).set (t * 2) u).set (t * 2 + 1) v = shf vs k (t + 1) := by
 apply List.ext_getElem?
 intro i
 have hln := shf_length hl (show k + t ≤ n by omega)
 by_cases h1 : i = t * 2 + 1
 · subst h1
   rw [List.getElem?_set_self (by rw [List.length_set, hln]; omega), shf_new hl (by omega) (by omega), ← hv]
   congr 1
   omega
 · rw [List.getElem?_set_ne (by omega)]
   by_cases h2 : i = t * 2
   · subst h2
     rw [List.getElem?_set_self (by rw [hln]; omega), shf_new hl (by omega) (by omega), ← hu]
     congr 1
     omega
   · rw [List.getElem?_set_ne (by omega)]
     by_cases h3 : i < 2 * t
     · rw [shf_new hl (by omega) h3, shf_new hl (by omega) (by omega)]
     · rw [shf_old hl (by omega) (by omega), shf_old hl (by omega) (by omega)]

theorem shf_end {vs : List Value} {n k : Nat} (hl : vs.length = n * 2) (hk : k ≤ n) : (shf vs k (n - k)).take ((n - k) * 2) = vs.drop (k * 2) := by
 apply List.ext_getElem?
 intro i
 rw [List.getElem?_take, List.getElem?_drop]
 by_cases hi : i < (n - k) * 2
 · rw [if_pos hi, shf_new hl (by omega) (by omega)]
   congr 1
   omega
 · rw [if_neg hi, List.getElem?_eq_none (by omega)]

/-- 'clear(s)': what is cleared stays of that length, and nothing else turns. -/
theorem run_clear_two {P : Program} (w : World) (t e ty : TypeId) (z : Value) (z0 z1 : Value) (ht : P.underlying t = some (.slice e)) (hv : ∀ w, (zeroValue e).run P w = .ok z w) (hz : z.cells = #[z0, z1]) (h0 : z0.oneCell' = true) (h1 : z1.oneCell' = true) (b o n c : Nat) (hn : 0 < n)
    (hc : ∀ j, j < n * 2 → (w.cell? ⟨b, o + j, none⟩).isSome = true) (hf : ∀ j, j < n * 2 → w.frozen? ⟨b, o + j, none⟩ = false) :
    ∃ us : List Value, us.length = n * 2 ∧ (Builtin.clear_ #[t] ty #[.slice (some ⟨b, o, none⟩) n c]).run P w = .ok (.tuple #[]) (w.setCells b o us) := by
 refine ⟨(Builtin.zeroCells z.cells n).toList, by rw [hz]; simp [Builtin.zeroCells], ?_⟩
 have hln : (Builtin.zeroCells z.cells n).toList.length = n * 2 := by rw [hz]; simp [Builtin.zeroCells]
 have hone : ∀ v ∈ (Builtin.zeroCells z.cells n).toList, v.oneCell' = true := by
  intro v hv'
  rw [hz] at hv'
  simp only [Builtin.zeroCells, Array.toList_map, List.mem_map] at hv'
  obtain ⟨i, _, rfl⟩ := hv'
  have h2 : i % 2 = 0 ∨ i % 2 = 1 := by omega
  show (#[z0, z1][i % 2]!).oneCell' = true
  rcases h2 with h2 | h2 <;> rw [h2] <;> assumption
 have hst := run_storeCells_cells (P := P) b o (Builtin.zeroCells z.cells n).toList 0 w (by rw [hln]; simpa using hc) (by rw [hln]; simpa using hf) hone
 simp only [Nat.add_zero] at hst
 obtain ⟨m, rfl⟩ : ∃ m, n = m + 1 := ⟨n - 1, by omega⟩
 simp [Builtin.clear_, run_underlying ht, hv, hst]


theorem row_blk {w : World} {B g n c m : Nat} {T : TypeId} {xs : List Value} (h : w.ownsRow B T m (.slice (some ⟨g, 0, none⟩) n c) n xs) : ∃ cur : Array Value, B ≤ g ∧ w.heap[g]? = some (.cells cur T (0, 0)) ∧ n ≤ c ∧ c ≤ maxLen ∧ cur.size = c * m ∧ cur.toList.take (n * m) = xs ∧ xs.length = n * m := by
 rcases h.2 with ⟨h1, _⟩ | ⟨g', cap', cur, h1, h2, h3, h4, h5, h6, h7⟩
 · simp at h1
 · simp only [Value.slice.injEq, Option.some.injEq, Addr.mk.injEq, and_true, true_and] at h1
   obtain ⟨rfl, rfl⟩ := h1
   exact ⟨cur, h2, h3, h4, h5, h6, h7, h.1⟩

theorem row_mk {w : World} {B g n c m : Nat} {T : TypeId} {xs : List Value} {cur : Array Value} (h1 : B ≤ g) (h2 : w.heap[g]? = some (.cells cur T (0, 0))) (h3 : n ≤ c) (h4 : c ≤ maxLen) (h5 : cur.size = c * m) (h6 : cur.toList.take (n * m) = xs) (h7 : xs.length = n * m) : w.ownsRow B T m (.slice (some ⟨g, 0, none⟩) n c) n xs :=
 ⟨h7, .inr ⟨g, c, cur, rfl, h1, h2, h3, h4, h5, h6⟩⟩

theorem row_set {w : World} {B g n c m : Nat} {T : TypeId} {xs : List Value} (h : w.ownsRow B T m (.slice (some ⟨g, 0, none⟩) n c) n xs) (j : Nat) (u : Value) : (w.setCell ⟨g, j, none⟩ u).ownsRow B T m (.slice (some ⟨g, 0, none⟩) n c) n (xs.set j u) := by
 obtain ⟨cur, h1, h2, h3, h4, h5, h6, h7⟩ := row_blk h
 refine row_mk h1 (heap_setCell_same w g j cur T u h2) h3 h4 (by simpa using h5) ?_ (by simpa using h7)
 rw [Array.toList_setIfInBounds, List.take_set, h6]

/-- The first m elements alone, behind stores beyond them. -/
theorem row_cut {w : World} {B g n c k q : Nat} {T : TypeId} {xs us : List Value} (h : w.ownsRow B T k (.slice (some ⟨g, 0, none⟩) n c) n xs) (hq : q ≤ n) (o : Nat) (ho : q * k ≤ o) : (w.setCells g o us).ownsRow B T k (.slice (some ⟨g, 0, none⟩) q c) q (xs.take (q * k)) := by
 obtain ⟨cur, h1, h2, h3, h4, h5, h6, h7⟩ := row_blk h
 obtain ⟨cur', e1, e2⟩ := setCells_row us o w cur h2
 have hqn : q * k ≤ n * k := Nat.mul_le_mul_right k hq
 refine row_mk h1 e1 (by omega) h4 (by rw [← Array.length_toList, e2, setL_length, Array.length_toList]; exact h5) ?_ (by rw [List.length_take, h7]; omega)
 rw [e2, ← h6, List.take_take, Nat.min_eq_left hqn]
 apply List.ext_getElem?
 intro i
 rw [List.getElem?_take, List.getElem?_take]
 by_cases hi : i < q * k
 · rw [if_pos hi, if_pos hi]
   exact setL_other us _ _ _ (.inl (by omega))
 · rw [if_neg hi, if_neg hi]

theorem flatV_drop {α β : Type} (K : Kd α β) : ∀ (es : List β) (xs : List α) (k : Nat), es.length = xs.length → flatV K (es.drop k) (xs.drop k) = (flatV K es xs).drop (k * K.m)
 | es, xs, 0, _ => by simp
 | [], [], k + 1, _ => by simp [flatV]
 | e :: es, x :: xs, k + 1, h => by
  have ih := flatV_drop K es xs k (by simpa using h)
  show flatV K (es.drop k) (xs.drop k) = (K.vals e x ++ flatV K es xs).drop ((k + 1) * K.m)
  have hv : (K.vals e x).drop ((k + 1) * K.m) = [] := List.drop_of_length_le (by rw [K.len, Nat.succ_mul]; omega)
  rw [ih, List.drop_append, K.len, hv, List.nil_append, Nat.succ_mul, Nat.add_sub_cancel]
 | [], _ :: _, k + 1, h => by simp at h
 | _ :: _, [], k + 1, h => by simp at h

/-- Recents that are owned behind the first ones' being taken out, in place. -/
theorem rc_shift {w w' : World} {B : Nat} {d f : Nat → Path} {P : Path} {T : TypeId} {g n c k : Nat} {xs : List Rc} {es : List RcS} (hk : k ≤ n) (hf : ∀ q, P <+: d q → f q = turnP P (lessF k) (d q))
    (hw : ∀ q, q < w.heap.size → B ≤ q → q ≠ g → w'.heap[q]? = w.heap[q]?)
    (h1 : n = xs.length) (h2 : es.length = xs.length) (h4 : d g = P) (h5 : ∀ i e x, es[i]? = some e → xs[i]? = some x → rcK.Own w B d (P ++ [i]) e x)
    (ho : w'.ownsRow B T 2 (.slice (some ⟨g, 0, none⟩) (n - k) c) (n - k) ((flatV rcK es xs).drop (k * 2))) :
    RowG rcK T w' B f P ⟨some ⟨g, 0, none⟩, n - k, c⟩ (xs.drop k) := by
 have hfb : f g = P := by rw [hf g (by rw [h4]; exact List.prefix_rfl), h4]; exact turnP_self _ _
 refine ⟨by show n - k = (xs.drop k).length; rw [List.length_drop]; omega, es.drop k, by rw [List.length_drop, List.length_drop]; omega, by rw [flatV_drop rcK es xs k h2]; exact ho, fun x hx => ?_, fun i e x he hx => ?_⟩
 · have hx' : (some ⟨g, 0, none⟩ : Option Addr) = some x := hx
   cases hx'
   exact hfb
 · rw [List.getElem?_drop] at he hx
   obtain ⟨q2, q3⟩ := h5 (k + i) e x he hx
   refine ⟨q2, ?_⟩
   have hb2 : BOwn w' B d (P ++ [k + i] ++ [1]) e.2 x.2 := bytesK.frame q3 (fun q hq hB hp => hw q hq hB (fun e => by
    rw [e, h4] at hp
    have := hp.length_le
    simp at this
    omega))
   refine ⟨hb2.rng, hb2.own, fun y hy => ?_⟩
   have hc := hb2.col y hy
   rw [hf y.block (by rw [hc, List.append_assoc]; exact List.prefix_append _ _), hc]
   exact turnP_at P (lessF k) (k + i) i [1] (by unfold lessF; rw [if_neg (by omega)]; congr 1; omega)

set_option maxRecDepth 100000

/-- Whether one of some recents is of a signer, above a bound. -/
def rcHit (b : Int) (z : List Int) (r : Rc) : Bool := decide (b < r.1) && decide (r.2 = z)
def rcAny (b : Int) (z : List Int) (rs : List Rc) : Bool := rs.any (rcHit b z)
def wrAns (x : Sn) (z : List Int) (n : Int) : Bool := decide (snFlt x = 0) && (within n 0 1099511627776 && rcAny (n - ((x.2.1.length / 2 : Nat) : Int) - 1) z x.2.2.1)

set_option maxHeartbeats 1000000 in
theorem recentBound_any (s : Sl) (n : Int) (w : World) (hl : s.n ≤ 7) (hn : 0 ≤ n ∧ n ≤ 1099511627776) :
    Calls Tryz.prog 71 #[.slice s.a s.n s.c, .int .i64 n] w fun r w' => r = .returned (.int .i64 (n - ((s.n / 2 : Nat) : Int) - 1)) ∧ w' = w := by
 obtain ⟨a, len, cap⟩ := s
 simp only at hl ⊢
 obtain ⟨hh, ehh⟩ : ∃ h : Nat, h = len / 2 := ⟨_, rfl⟩
 have s1 : ((len : Nat) : Int).tdiv 2 = (hh : Int) := by rw [Int.tdiv_eq_ediv_of_nonneg (by omega)]; omega
 have s1' : ((len : Nat) : Int) / 2 = (hh : Int) := by omega
 have s2 : IntKind.i64.wrap (hh : Int) = (hh : Int) := by rw [IntKind.wrap_i64]; omega
 have s3 : IntKind.i64.wrap (n - (hh : Int)) = n - (hh : Int) := by rw [IntKind.wrap_i64]; omega
 have s4 : IntKind.i64.wrap (n - (hh : Int) - 1) = n - (hh : Int) - 1 := by rw [IntKind.wrap_i64]; omega
 rw [← ehh]
 clear ehh
 go_enter Tryz.func71, Tryz.ntmps71
 go_wp2_with fail
 go_ret
 exact ⟨rfl, rfl⟩

set_option maxRecDepth 100000

set_option maxHeartbeats 2000000 in
theorem pb1_any (q : Int) (e : Sl) (bd : Int) (bx : Nat) (w : World) (hB : w.cell? ⟨bx, 0, none⟩ = some (.int .i64 bd)) :
    Calls Tryz.prog 73 #[.agg #[.int .i64 q, .slice e.a e.n e.c], .pointer (some ⟨bx, 0, none⟩)] w fun r w' => r = .returned (.bool (decide (q ≤ bd))) ∧ Below w.heap.size w w' := by
 have k0 := SBlk.new w #[.int .i64 q, .slice e.a e.n e.c] 93
 have k2 := below_alloc w (.cells #[.int .i64 q, .slice e.a e.n e.c] 93)
 obtain ⟨W0, e0⟩ : ∃ W, w.alloc (.cells #[.int .i64 q, .slice e.a e.n e.c] 93) = W := ⟨_, rfl⟩
 rw [e0] at k0 k2
 have hB0 := (k2.cell (p := ⟨bx, 0, none⟩) (lt_of_cell hB)).trans hB
 have HB0 := hide k2
 have x0 := k0.cell 0
 simp only [List.getElem?_cons_zero, List.getElem?_cons_succ] at x0
 have E0 := hide e0
 clear e0 k0 k2 hB
 go_enter Tryz.func73, Tryz.ntmps73
 go_upto_region 1 with fail
 rw [unhide E0]
 clear E0
 go_wp2_with fail
 go_ret
 exact ⟨rfl, unhide HB0⟩

set_option maxHeartbeats 4000000 in
theorem indexRc_any (s : Sl) (xs : List Rc) (bd : Int) (bx k : Nat) (w : World) (o : RowOk rcK w s xs) (hB : w.cell? ⟨bx, 0, none⟩ = some (.int .i64 bd)) (hk : ∀ (i : Nat) x, xs[i]? = some x → (x.1 ≤ bd ↔ i < k)) (hkn : k ≤ xs.length) (hn : s.n ≤ 100) :
    Calls Tryz.prog 107 #[.slice s.a s.n s.c, .func (.func 73) #[] #[.pointer (some ⟨bx, 0, none⟩)]] w fun r w' => r = .returned (.int .i64 (if k = 0 then -1 else 0)) ∧ Below w.heap.size w w' := by
 obtain ⟨a, n, c⟩ := s
 have hl : n = xs.length := o.len
 obtain ⟨A, hA⟩ : ∃ A : Int, (if k = 0 then (-1 : Int) else 0) = A := ⟨_, rfl⟩
 rw [hA]
 have HAA := hide hA
 clear hA
 rcases Nat.eq_zero_or_pos n with h0 | hpos
 · subst h0
   have hk0 : k = 0 := by omega
   obtain rfl : -1 = A := by rw [← unhide HAA]; exact (if_pos hk0).symm
   clear o hB hk hl
   go_enter Tryz.func107, Tryz.ntmps107
   go_wp2_with fail
   refine wp_loop_rounds 1 ?_
   rw [rounds_succ]
   go_wp2_with fail
   go_ret
   exact ⟨rfl, Below.refl _ _⟩
 · obtain ⟨b, off, ha, hba, hat⟩ := o.pos (by show 0 < n; omega)
   simp only at ha
   subst ha
   have HX := hide (fun (W : World) (hbl : Below w.heap.size w W) (i : Nat) (x : Rc) (hx : xs[i]? = some x) => (match hat i x hx with | ⟨e, hc, _⟩ => ⟨e.2, (hbl.cell (p := ⟨b, off + i * 2 + 0, none⟩) hba).trans (hc 0 _ rfl), (hbl.cell (p := ⟨b, off + i * 2 + 1, none⟩) hba).trans (hc 1 _ rfl)⟩ : ∃ e : Sl, W.cell? ⟨b, off + i * 2 + 0, none⟩ = some (.int .i64 x.1) ∧ W.cell? ⟨b, off + i * 2 + 1, none⟩ = some (.slice e.a e.n e.c)))
   have HD := hide (fun (W : World) (hbl : Below w.heap.size w W) (q : Int) (e : Sl) => pb1_any q e bd bx W ((hbl.cell (p := ⟨bx, 0, none⟩) (lt_of_cell hB)).trans hB))
   have HK := hide hk
   have HL := hide hl
   clear o hB hl hat hba hk
   go_enter Tryz.func107, Tryz.ntmps107
   go_wp2_with fail
   go_loopw [8] (fun i wr => ∃ j : Nat, j ≤ n ∧ i = .int .i64 j ∧ (0 < j → k = 0) ∧ Below w.heap.size w wr) (fun i _ => n - (intOf i).toNat)
   case atStart => exact ⟨0, Nat.zero_le _, rfl, fun h => absurd h (Nat.lt_irrefl _), Below.refl _ _⟩
   case round =>
    obtain ⟨j, hj, rfl, hall, hbr⟩ := hrel
    have HA := hide hall
    clear hall
    by_cases hlt : j < n
    · obtain ⟨x, hx⟩ : ∃ x, xs[j]? = some x := ⟨_, List.getElem?_eq_getElem (by rw [← unhide HL]; exact hlt)⟩
      obtain ⟨e, c0, c1⟩ := (unhide HX) wr hbr j x hx
      simp only [Nat.add_zero] at c0
      have HD1 := hide ((unhide HD) wr hbr x.1 e)
      have HXX := hide ((unhide HK) j x hx)
      have HBR := hide hbr
      have i1 : (0 : Int) ≤ (j : Int) := by omega
      have i2 : (j : Int) < (n : Int) := by omega
      clear hbr hx
      by_cases hz : x.1 ≤ bd
      · rw [decide_eq_true hz] at HD1
        have HZ := hide hz
        clear hz
        go_wp2_with fail
        refine (unhide HD1).mono ?_
        rintro r w1 ⟨rfl, b1⟩
        have HB1 := hide ((unhide HBR).trans (b1.mono (unhide HBR).size))
        clear b1 c0 c1
        have hjk : j < k := (unhide HXX).1 (unhide HZ)
        have hj0 : j = 0 := by
         rcases Nat.eq_zero_or_pos j with h | h
         · exact h
         · have := (unhide HA) h; omega
        obtain rfl : 0 = A := by rw [← unhide HAA]; exact (if_neg (by omega)).symm
        subst hj0
        go_wp2_with fail
        go_ret
        exact ⟨rfl, unhide HB1⟩
      · rw [decide_eq_false hz] at HD1
        have HZ := hide hz
        clear hz
        go_wp2_with fail
        refine (unhide HD1).mono ?_
        rintro r w1 ⟨rfl, b1⟩
        have HB1 := hide ((unhide HBR).trans (b1.mono (unhide HBR).size))
        clear b1 c0 c1
        go_wp2_with fail
        go_roundw
        case rel => exact ⟨j + 1, by omega, by go_num, fun _ => by
         have h1 : ¬ j < k := fun h => by have h2 := unhide HZ; have h3 := (unhide HXX).2 h; omega
         rcases Nat.eq_zero_or_pos j with h | h
         · omega
         · exact (unhide HA) h, unhide HB1⟩
        case measure => simp [intOf]; omega
    · obtain rfl : j = n := by omega
      have hk0 : k = 0 := (unhide HA) hpos
      obtain rfl : -1 = A := by rw [← unhide HAA]; exact (if_pos hk0).symm
      have HBR := hide hbr
      clear hbr
      go_wp2_with fail
      go_ret
      exact ⟨rfl, unhide HBR⟩

set_option maxHeartbeats 4000000 in
theorem delRc_any (B g n c : Nat) (xs : List Rc) (es : List RcS) (bd : Int) (bx k : Nat) (w : World) (o : RowOk rcK w ⟨some ⟨g, 0, none⟩, n, c⟩ xs) (hel : es.length = xs.length) (ho : w.ownsRow B 93 2 (.slice (some ⟨g, 0, none⟩) n c) n (flatV rcK es xs)) (hB : w.cell? ⟨bx, 0, none⟩ = some (.int .i64 bd)) (hbx : bx ≠ g) (hk : ∀ (i : Nat) x, xs[i]? = some x → (x.1 ≤ bd ↔ i < k)) (hkn : k ≤ n) (hn : n ≤ 100) :
    Calls Tryz.prog 72 #[.slice (some ⟨g, 0, none⟩) n c, .func (.func 73) #[] #[.pointer (some ⟨bx, 0, none⟩)]] w fun r w' => r = .returned (.slice (some ⟨g, 0, none⟩) (n - k) c) ∧ w'.ownsRow B 93 2 (.slice (some ⟨g, 0, none⟩) (n - k) c) (n - k) ((flatV rcK es xs).drop (k * 2)) ∧ w.grownBy w' (some g) := by
 have hl : n = xs.length := o.len
 have D1 := hide (indexRc_any ⟨some ⟨g, 0, none⟩, n, c⟩ xs bd bx k w o hB hk (by omega) hn)
 rcases Nat.eq_zero_or_pos k with h0 | hpos
 · subst h0
   rw [if_pos rfl] at D1
   have HO := hide ho
   clear o hB hk ho hl hel
   go_enter Tryz.func72, Tryz.ntmps72
   go_wp2_with fail
   refine (unhide D1).mono ?_
   rintro r w1 ⟨rfl, b1⟩
   have HB := hide b1
   clear b1
   go_wp2_with fail
   go_ret
   exact ⟨rfl, by simpa using own_below (unhide HO) (unhide HB) (Nat.le_refl _), (grown_of_below (unhide HB) (Nat.le_refl _)).weaken g⟩
 · rw [if_neg (by omega)] at D1
   obtain ⟨vs, hvs⟩ : ∃ vs, vs = flatV rcK es xs := ⟨_, rfl⟩
   rw [← hvs] at ho ⊢
   have hvl : vs.length = n * 2 := by have := ho.1; simpa using this
   have HV : Hid (∀ (i : Nat) x, xs[i]? = some x → ∃ e : Sl, vs[i * 2]? = some (.int .i64 x.1) ∧ vs[i * 2 + 1]? = some (.slice e.a e.n e.c)) := fun i x hx => by
    obtain ⟨e, he⟩ : ∃ e, es[i]? = some e := ⟨_, List.getElem?_eq_getElem (by have := (List.getElem?_eq_some_iff.1 hx).1; omega)⟩
    exact ⟨e.2, by rw [hvs]; exact flatV_at rcK es xs i 0 e x _ he hx rfl, by rw [hvs]; exact flatV_at rcK es xs i 1 e x _ he hx rfl⟩
   obtain ⟨cur0, hBg, hg0, hnc, hcm, _, _, _⟩ := row_blk ho
   have hgl : g < w.heap.size := lt_of_block hg0
   have HBX := hide (fun (W : World) (hW : w.grownBy W (some g)) => (hW.cell hB (fun e => hbx (Option.some.inj e)) : W.cell? ⟨bx, 0, none⟩ = some (.int .i64 bd)))
   have HD := hide (fun (W : World) (hW : w.grownBy W (some g)) (q : Int) (e : Sl) => pb1_any q e bd bx W ((unhide HBX) W hW))
   have H0 : Hid (w.ownsRow B 93 2 (.slice (some ⟨g, 0, none⟩) n c) n vs) := ho
   have HK := hide hk
   have HL := hide hl
   have HVL := hide hvl
   have HGL := hide hgl
   clear o hB hk ho hl hel hvs hvl hg0 hgl
   go_enter Tryz.func72, Tryz.ntmps72
   go_wp2_with fail
   refine (unhide D1).mono ?_
   rintro r w1 ⟨rfl, b1⟩
   have HO1 := hide (And.intro (own_below (unhide H0) b1 (Nat.le_refl _)) ((grown_of_below b1 (Nat.le_refl _)).weaken g : w.grownBy w1 (some g)))
   clear b1 H0 D1
   have hc0 : Hid (w1.ownsRow B 93 2 (.slice (some ⟨g, 0, none⟩) n c) n (shf vs k 0)) := by
    show w1.ownsRow B 93 2 (.slice (some ⟨g, 0, none⟩) n c) n (shf vs k 0)
    rw [shf_zero]
    exact (unhide HO1).1
   go_wp2_with fail
   go_loopw [5, 6] (fun iv jv wr => ∃ (j t : Nat), 1 ≤ j ∧ j ≤ n ∧ jv = .int .i64 (j : Int) ∧ iv = .int .i64 (t : Int) ∧ t = j - k ∧ wr.ownsRow B 93 2 (.slice (some ⟨g, 0, none⟩) n c) n (shf vs k t) ∧ w.grownBy wr (some g)) (fun _ jv _ => n - (intOf jv).toNat)
   case atStart => exact ⟨1, 0, Nat.le_refl _, by omega, by first | rfl | go_num, rfl, by omega, unhide hc0, (unhide HO1).2⟩
   case round =>
    obtain ⟨j, t, hj1, hj, rfl, rfl, ht, hrow, hgr⟩ := hrel
    clear hc0 HO1
    have hkt : k + t ≤ n := by omega
    have HT := hide ht
    have HROW := hide hrow
    have HGR := hide hgr
    by_cases hlt : j < n
    · obtain ⟨x, hx⟩ : ∃ x, xs[j]? = some x := ⟨_, List.getElem?_eq_getElem (by rw [← unhide HL]; exact hlt)⟩
      obtain ⟨e, hv0, hv1⟩ := (unhide HV) j x hx
      have c0 := hrow.cells (g := g) rfl (j * 2) _ ((shf_old (unhide HVL) hkt (by omega)).trans hv0)
      have c1 := hrow.cells (g := g) rfl (j * 2 + 1) _ ((shf_old (unhide HVL) hkt (by omega)).trans hv1)
      rw [add_none, Nat.zero_add] at c0 c1
      have kv := SBlk.new wr #[.int .i64 x.1, .slice e.a e.n e.c] 93
      have bv := below_alloc wr (.cells #[.int .i64 x.1, .slice e.a e.n e.c] 93)
      obtain ⟨Wv, ev⟩ : ∃ W, wr.alloc (.cells #[.int .i64 x.1, .slice e.a e.n e.c] 93) = W := ⟨_, rfl⟩
      rw [ev] at kv bv
      have hgv := grownQ hgr bv (Nat.le_refl _)
      have HD1 := hide ((unhide HD) Wv hgv x.1 e)
      have HXX := hide ((unhide HK) j x hx)
      have HVV := hide (And.intro hv0 hv1)
      have rv := own_below hrow bv (Nat.le_refl _)
      replace HROW := hide rv
      replace HGR := hide hgv
      have v0 := kv.cell 0
      have v1 := kv.cell 1
      simp only [List.getElem?_cons_zero, List.getElem?_cons_succ] at v0 v1
      have HKV := hide kv
      have EV := hide ev
      have hgv2 : g < wr.heap.size := by obtain ⟨_, _, hg2, _⟩ := row_blk hrow; exact lt_of_block hg2
      have i1 : (0 : Int) ≤ (j : Int) := by omega
      have i2 : (j : Int) < (n : Int) := by omega
      have i3 : (0 : Int) ≤ (t : Int) := by omega
      have i4 : (t : Int) < (n : Int) := by omega
      clear hrow hgr hx hv0 hv1 ht rv hgv kv bv ev
      go_upto_region 8 with (rw [unhide EV])
      try rw [unhide EV]
      clear EV c0 c1
      by_cases hz : x.1 ≤ bd
      · rw [decide_eq_true hz] at HD1
        have HZ := hide hz
        clear hz
        go_wp2_with fail
        refine (unhide HD1).mono ?_
        rintro r w2 ⟨rfl, b2⟩
        have HR2 := hide (own_below (unhide HROW) b2 (Nat.le_refl _))
        have HG2 := hide (grownQ (unhide HGR) b2 (Nat.le_refl _))
        clear b2 v0 v1
        go_wp2_with fail
        go_roundw
        case rel => exact ⟨j + 1, t, by omega, by omega, by go_num, rfl, by have h1 := (unhide HXX).1 (unhide HZ); have := unhide HT; omega, unhide HR2, unhide HG2⟩
        case measure => simp [intOf]; omega
      · rw [decide_eq_false hz] at HD1
        have hjk : ¬ j < k := fun h => hz ((unhide HXX).2 h)
        have HZ := hide hjk
        clear hz hjk
        go_wp2_with fail
        refine (unhide HD1).mono ?_
        rintro r w2 ⟨rfl, b2⟩
        have r2 := own_below (unhide HROW) b2 (Nat.le_refl _)
        have kv2 := (unhide HKV).below b2 (unhide HKV).lt
        have v0 := kv2.cell 0
        have v1 := kv2.cell 1
        simp only [List.getElem?_cons_zero, List.getElem?_cons_succ] at v0 v1
        have hln := shf_length (unhide HVL) hkt
        obtain ⟨u0, hu0⟩ : ∃ u, (shf vs k t)[t * 2]? = some u := ⟨_, List.getElem?_eq_getElem (by rw [hln]; omega)⟩
        obtain ⟨u1, hu1⟩ : ∃ u, (shf vs k t)[t * 2 + 1]? = some u := ⟨_, List.getElem?_eq_getElem (by rw [hln]; omega)⟩
        have d0 := r2.cells (g := g) rfl (t * 2) _ hu0
        have d1 := r2.cells (g := g) rfl (t * 2 + 1) _ hu1
        rw [add_none, Nat.zero_add] at d0 d1
        obtain ⟨cur, _, hg2, _, _, _, _, _⟩ := row_blk r2
        have e0 := frozen_of_row w2 g (t * 2) cur _ hg2
        have e1 := frozen_of_row w2 g (t * 2 + 1) cur _ hg2
        have hjt : j = k + t := by have := unhide HT; have := unhide HZ; omega
        have r3 := row_set (row_set r2 (t * 2) (.int .i64 x.1)) (t * 2 + 1) (.slice e.a e.n e.c)
        rw [shf_step (unhide HVL) hpos (by omega) (by rw [← hjt]; exact (unhide HVV).1) (by rw [← hjt]; exact (unhide HVV).2)] at r3
        have HR3 := hide r3
        have HG3 := hide (grownP (grownP (grownQ (unhide HGR) b2 (Nat.le_refl _)) (grown_cell w2 g (t * 2) (.int .i64 x.1))) (grown_cell _ g (t * 2 + 1) (.slice e.a e.n e.c)))
        have HJT := hide hjt
        clear b2 r2 r3 hu0 hu1 hg2 hln hjt kv2
        go_wp2_with fail
        go_roundw
        case rel => exact ⟨j + 1, t + 1, by omega, by omega, by go_num, by go_num, by have := unhide HJT; omega, unhide HR3, unhide HG3⟩
        case measure => simp [intOf]; omega
    · obtain rfl : j = n := by omega
      have htn : t = j - k := ht
      obtain ⟨cur, _, hg2, hnc2, hcm2, hcs2, htk2, hvl2⟩ := row_blk hrow
      have hln := shf_length (unhide HVL) hkt
      have hCL : ∃ us : List Value, us.length = (j - t) * 2 ∧ ∀ ty, (Builtin.clear_ #[34] ty #[.slice (some ⟨g, t * 2, none⟩) (j - t) (c - t)]).run Tryz.prog wr = .ok (.tuple #[]) (wr.setCells g (t * 2) us) := by
       have h := fun ty => run_clear_two (P := Tryz.prog) wr 34 93 ty (.agg #[.int .i64 0, .slice none 0 0]) (.int .i64 0) (.slice none 0 0) Tryz.underlying34 (fun w => by kernel_rfl) rfl rfl rfl g (t * 2) (j - t) (c - t) (by omega)
        (fun q hq => by
         obtain ⟨u, hu⟩ : ∃ u, (shf vs k t)[t * 2 + q]? = some u := ⟨_, List.getElem?_eq_getElem (by rw [hln]; omega)⟩
         have := hrow.cells (g := g) rfl _ _ hu
         rw [add_none, Nat.zero_add] at this
         rw [this]
         rfl)
        (fun q _ => frozen_of_row wr g _ cur _ hg2)
       obtain ⟨us, hul, hr⟩ := h 0
       refine ⟨us, hul, fun ty => ?_⟩
       obtain ⟨us2, _, hr2⟩ := h ty
       have e1 : (Builtin.clear_ #[34] ty #[.slice (some ⟨g, t * 2, none⟩) (j - t) (c - t)]) = (Builtin.clear_ #[34] 0 #[.slice (some ⟨g, t * 2, none⟩) (j - t) (c - t)]) := rfl
       rw [e1]
       exact hr
      obtain ⟨us, hul, hcl⟩ := hCL
      have r3 := row_cut (us := us) hrow (show t ≤ j by omega) (t * 2) (Nat.le_refl _)
      have G3 := grownP hgr (grown_cells g us (t * 2) wr)
      rw [show (shf vs k t).take (t * 2) = vs.drop (k * 2) from by rw [htn]; exact shf_end (unhide HVL) hkn] at r3
      have HR3 := hide r3
      have HG3 := hide G3
      have hne : ¬ c = t := by omega
      have htc : t ≤ c := by omega
      have htj : t ≤ j := by omega
      have q1 : (0 : Int) ≤ (t : Int) := by omega
      have q2 : (t : Int) ≤ (j : Int) := by omega
      have q3 : (t : Int) ≤ (c : Int) := by omega
      have HTN := hide htn
      clear hrow hgr hg2 hnc2 hcm2 hcs2 htk2 hvl2 hln r3 G3 ht HROW HGR HT htn
      go_wp2_with fail
      go_ret
      exact ⟨by rw [← unhide HTN]; rfl, by rw [← unhide HTN]; exact unhide HR3, unhide HG3⟩

set_option maxHeartbeats 2000000 in
theorem delRc_zero (s : Sl) (xs : List Rc) (bd : Int) (bx : Nat) (w : World) (o : RowOk rcK w s xs) (hB : w.cell? ⟨bx, 0, none⟩ = some (.int .i64 bd)) (hk : ∀ (i : Nat) x, xs[i]? = some x → (x.1 ≤ bd ↔ i < 0)) (hn : s.n ≤ 100) :
    Calls Tryz.prog 72 #[.slice s.a s.n s.c, .func (.func 73) #[] #[.pointer (some ⟨bx, 0, none⟩)]] w fun r w' => r = .returned (.slice s.a s.n s.c) ∧ Below w.heap.size w w' := by
 have D1 := hide (indexRc_any s xs bd bx 0 w o hB hk (Nat.zero_le _) hn)
 rw [if_pos rfl] at D1
 obtain ⟨a, n, c⟩ := s
 clear o hB hk
 go_enter Tryz.func72, Tryz.ntmps72
 go_wp2_with fail
 refine (unhide D1).mono ?_
 rintro r w1 ⟨rfl, b1⟩
 have HB := hide b1
 clear b1
 go_wp2_with fail
 go_ret
 exact ⟨rfl, unhide HB⟩

/-- Recents in memory of their own without the first ones. -/
theorem delG_any (B : Nat) (d : Nat → Path) (P : Path) (s : Sl) (xs : List Rc) (bd : Int) (bx k : Nat) (w : World) (h : RowG rcK 93 w B d P s xs) (hB : w.cell? ⟨bx, 0, none⟩ = some (.int .i64 bd)) (hbx : ∀ x, s.a = some x → bx ≠ x.block) (hk : ∀ (i : Nat) x, xs[i]? = some x → (x.1 ≤ bd ↔ i < k)) (hkn : k ≤ xs.length) (hn : xs.length ≤ 100) :
    Calls Tryz.prog 72 #[.slice s.a s.n s.c, .func (.func 73) #[] #[.pointer (some ⟨bx, 0, none⟩)]] w fun r w' => ∃ (s' : Sl) (f : Nat → Path), r = .returned (.slice s'.a s'.n s'.c) ∧ RowG rcK 93 w' B f P s' (xs.drop k) ∧ (∀ q, ¬ P <+: d q → f q = d q) ∧ w.grownBy w' (Value.slice s.a s.n s.c).ownBlock := by
 have hok := h.own.ok
 have hl := h.len
 rcases Nat.eq_zero_or_pos k with h0 | hpos
 · subst h0
   refine (delRc_zero s xs bd bx w hok hB hk (by omega)).mono ?_
   rintro r w' ⟨rfl, b⟩
   refine ⟨s, d, rfl, by simpa using h.below b (Nat.le_refl _), fun _ _ => rfl, ?_⟩
   exact ⟨b.os, b.tape, b.output, b.size, fun q hq _ => b.block q hq⟩
 · obtain ⟨h1, es, h2, h3, h4, h5⟩ := h
   obtain ⟨g, cp, hv⟩ := own_some h3 (by omega)
   obtain ⟨a, n, c⟩ := s
   simp only [Value.slice.injEq] at hv hl h4 hbx
   obtain ⟨rfl, _, rfl⟩ := hv
   refine (delRc_any B g n c xs es bd bx k w hok h2 h3 hB (hbx _ rfl) hk (by omega) (by omega)).mono ?_
   rintro r w' ⟨rfl, ho, hg⟩
   refine ⟨⟨some ⟨g, 0, none⟩, n - k, c⟩, fun q => turnP P (lessF k) (d q), rfl, ?_, fun q hq => turnP_other _ _ _ hq, hg⟩
   exact rc_shift (w := w) (d := d) (by omega) (fun q _ => rfl) (fun q hq _ hne => hg.block q hq (fun e => hne (Option.some.inj e))) hl h2 (h4 _ rfl) h5 ho

set_option maxRecDepth 100000

/-- A snapshot's parts in memory of their own, its recents' row as one that may grow, the block gp without a colour. -/
structure PbP (W : World) (B : Nat) (f : Nat → Path) (p : Path) (gp : Nat) (s1 s s3 : Sl) (sg : List (List Int)) (ys : List Rc) (vs : List Vt) : Prop where
 sig : (rowK bytesK 29).Own W B f (p ++ [1] ++ [0]) s1 sg
 vot : (rowK vtK 97).Own W B f (p ++ [1] ++ [1] ++ [1]) s3 vs
 row : RowG rcK 93 W B f (p ++ [1] ++ [1] ++ [0]) s ys
 none : f gp = []
 lt : gp < W.heap.size

theorem not_pre_nil (p : Path) (i : Nat) : ¬ (p ++ [i]) <+: ([] : Path) := fun h => by have := h.length_le; simp at this

theorem PbP.set {W : World} {B gp i : Nat} {f : Nat → Path} {p : Path} {s1 s s3 : Sl} {sg : List (List Int)} {ys : List Rc} {vs : List Vt} (h : PbP W B f p gp s1 s s3 sg ys vs) (v : Value) : PbP (W.setCell ⟨gp, i, Option.none⟩ v) B f p gp s1 s s3 sg ys vs := by
 have ne : ∀ (a : Path) (j q : Nat), (a ++ [j]) <+: f q → (W.setCell ⟨gp, i, Option.none⟩ v).heap[q]? = W.heap[q]? := fun a j q hp => heap_setCell_other W ⟨gp, i, Option.none⟩ q v (fun e => by
  obtain rfl : q = gp := e
  rw [h.none] at hp
  exact not_pre_nil _ _ hp)
 exact ⟨(rowK bytesK 29).frame h.sig (fun g _ _ c => ne _ _ g c), (rowK vtK 97).frame h.vot (fun g _ _ c => ne _ _ g c), h.row.frame (fun g _ _ c => ne _ _ g c), h.none, by have := h.lt; simpa [World.setCell] using this⟩

/-- One more recent. -/
theorem PbP.snoc {W W1 WW WA W2 : World} {B gp : Nat} {f : Nat → Path} {p : Path} {s1 s s3 : Sl} {sg : List (List Int)} {ys : List Rc} {vs : List Vt} {q : Int} {z : List Int} {a1 : Option Addr} {n1 c1 g2 cap2 : Nat} {es : List RcS}
    (h : PbP W B f p gp s1 s s3 sg ys vs) (hBW : B ≤ W.heap.size) (hq : in64 q) (hz : ∀ x ∈ z, 0 ≤ x ∧ x ≤ 255) (bW : Below W.heap.size W WW)
    (ho : W1.ownsRow WW.heap.size 5 1 (.slice a1 n1 c1) n1 (z.map (Value.int .u8))) (hb : Below WW.heap.size WW W1) (bA : Below W1.heap.size W1 WA)
    (e2 : es.length = ys.length) (e5 : ∀ i e x, es[i]? = some e → ys[i]? = some x → rcK.Own W B f (p ++ [1] ++ [1] ++ [0] ++ [i]) e x)
    (hown : W2.ownsRow B 93 2 (.slice (some ⟨g2, 0, Option.none⟩) (s.n + 1) cap2) (s.n + 1) (flatV rcK es ys ++ [.int .i64 q, .slice a1 n1 c1])) (hg : WA.grownBy W2 (Value.slice s.a s.n s.c).ownBlock) (hat : (Value.slice s.a s.n s.c).ownBlock = some g2 ∨ g2 = WA.heap.size) :
    ∃ d, PbP W2 B d p gp s1 ⟨some ⟨g2, 0, Option.none⟩, s.n + 1, cap2⟩ s3 sg (ys ++ [(q, z)]) vs := by
 have b0A : Below W.heap.size W WA := bW.trans ((hb.trans (bA.mono hb.size)).mono bW.size)
 have h4 : ∀ x, s.a = some x → f x.block = p ++ [1] ++ [1] ++ [0] := by
  obtain ⟨_, es', _, _, q4, _⟩ := h.row
  exact q4
 obtain ⟨d1, hd1⟩ : ∃ d1 : Nat → Path, d1 = fun g => if W.heap.size ≤ g then p ++ [1] ++ [1] ++ [0] ++ [ys.length] ++ [1] else f g := ⟨_, rfl⟩
 have hdo : ∀ g, g < W.heap.size → d1 g = f g := fun g hg => by rw [hd1]; exact if_neg (by omega)
 have s1A := bW.size
 have s2A := b0A.size
 have own1 : rcK.Own WA B d1 (p ++ [1] ++ [1] ++ [0] ++ [ys.length]) ((), ⟨a1, n1, c1⟩) (q, z) := by
  refine ⟨hq, hz, ?_, fun x hx => ?_⟩
  · exact ownsRow_base (own_below ho bA (Nat.le_refl _)) (by omega)
  · have hx' : a1 = some x := hx
    have := (ho.lt x.block (by rw [hx']; rfl)).1
    rw [hd1]
    exact if_pos (by omega)
 have S := RowG.snoc (K := rcK) (w := WA) (d := d1) (p := p ++ [1] ++ [1] ++ [0]) (s := s) h.row.len e2 (fun x hx => by rw [hdo _ (h.row.blk hx).2]; exact h4 x hx) (fun i e x he hx => rcK.ownBelow (rcK.recolNew (e5 i e x he hx) hdo) b0A (Nat.le_refl _)) own1 hown hg hat
 have hd2 : ∀ g, g < W.heap.size → (if WA.heap.size ≤ g then p ++ [1] ++ [1] ++ [0] else d1 g) = f g := fun g hg' => by rw [if_neg (by omega)]; exact hdo g hg'
 have hob : ∀ g, (Value.slice s.a s.n s.c).ownBlock = some g → f g = p ++ [1] ++ [1] ++ [0] := fun g hg' => by
  cases ha : s.a with
  | none => rw [ha] at hg'; cases hg'
  | some y => rw [ha] at hg'; obtain rfl := Option.some.inj hg'; exact h4 y ha
 have keep : ∀ g, g < W.heap.size → ¬ (p ++ [1] ++ [1] ++ [0]) <+: f g → W2.heap[g]? = W.heap[g]? := fun g hg' hne => by
  rw [hg.block g (by omega) (fun e => hne (by rw [hob g e.symm]; exact List.prefix_rfl)), b0A.block g hg']
 refine ⟨_, ?_, ?_, S, ?_, ?_⟩
 · exact (rowK bytesK 29).frame ((rowK bytesK 29).recolNew h.sig hd2) (fun g a b c => keep g a (sig_ne (by rw [hd2 g a] at c; exact c)))
 · exact (rowK vtK 97).frame ((rowK vtK 97).recolNew h.vot hd2) (fun g a b c => keep g a (vot_ne (by rw [hd2 g a] at c; exact c)))
 · rw [hd2 gp h.lt]; exact h.none
 · have := hg.size
   have := h.lt
   omega

/-- Behind the delete of the first recents. -/
theorem PbP.del {W w9 : World} {B gp : Nat} {d f : Nat → Path} {p : Path} {s1 s2 s s3 : Sl} {n : Int} {sg : List (List Int)} {xs ys : List Rc} {vs : List Vt} (V : SNK.Own W B d p ((), s1, s2, s3) (n, sg, xs, vs)) (G : RowG rcK 93 W B d (p ++ [1] ++ [1] ++ [0]) s2 xs) (hgp : d gp = []) (lt : gp < W.heap.size)
    (G9 : RowG rcK 93 w9 B f (p ++ [1] ++ [1] ++ [0]) s ys) (hf : ∀ q, ¬ (p ++ [1] ++ [1] ++ [0]) <+: d q → f q = d q) (gr : W.grownBy w9 (Value.slice s2.a s2.n s2.c).ownBlock) : PbP w9 B f p gp s1 s s3 sg ys vs := by
 have h4 : ∀ x, s2.a = some x → d x.block = p ++ [1] ++ [1] ++ [0] := by
  obtain ⟨_, es', _, _, q4, _⟩ := G
  exact q4
 have hob : ∀ g, (Value.slice s2.a s2.n s2.c).ownBlock = some g → d g = p ++ [1] ++ [1] ++ [0] := fun g hg' => by
  cases ha : s2.a with
  | none => rw [ha] at hg'; cases hg'
  | some y => rw [ha] at hg'; obtain rfl := Option.some.inj hg'; exact h4 y ha
 have keep : ∀ g, g < W.heap.size → ¬ (p ++ [1] ++ [1] ++ [0]) <+: d g → w9.heap[g]? = W.heap[g]? := fun g hg' hne => gr.block g hg' (fun e => hne (by rw [hob g e.symm]; exact List.prefix_rfl))
 refine ⟨?_, ?_, G9, (hf gp (by rw [hgp]; exact not_pre_nil _ _)).trans hgp, by have := gr.size; omega⟩
 · exact (rowK bytesK 29).recol ((rowK bytesK 29).frame V.2.1 (fun g a b c => keep g a (sig_ne c))) (fun g a b c => hf g (sig_ne c))
 · exact (rowK vtK 97).recol ((rowK vtK 97).frame V.2.2.2 (fun g a b c => keep g a (vot_ne c))) (fun g a b c => hf g (vot_ne c))

theorem PbP.own {W : World} {B gp : Nat} {f : Nat → Path} {p : Path} {s1 s s3 : Sl} {sg : List (List Int)} {ys : List Rc} {vs : List Vt} (h : PbP W B f p gp s1 s s3 sg ys vs) {n : Int} (hn : in64 n) : SNK.Own W B f p ((), s1, s, s3) (n, sg, ys, vs) := ⟨hn, h.sig, h.row.own, h.vot⟩

open Go.RowKit Go.ChangeMaps Go.MapKept
set_option maxRecDepth 100000

theorem PollV.clear {w : World} {g k : Nat} {L : Pv} (h : PollV w g k L) : ∃ w', (∀ ty, (Builtin.clear_ #[106] ty #[.map (some g)]).run Tryz.prog w = .ok (.tuple #[]) w') ∧ PollV w' g 0 [] ∧ w.grownBy w' (some g) := by
 obtain ⟨D, ⟨es, clock, hb, F, hs, rfl⟩, hd⟩ := h
 refine ⟨setBlock w g (.map #[] clock), fun ty => ?_, ⟨.map [], ⟨#[], clock, heap_setBlock_same hb _, ⟨by simp, stamped_empty clock, by simp⟩, Nat.le_refl _, rfl⟩, PvD.empty⟩, ⟨rfl, rfl, rfl, by simp [setBlock], fun i _ hi => heap_setBlock_other hb _ (fun e => hi (by rw [e]))⟩⟩
 simp [Builtin.clear_, run_underlying Tryz.underlying106, MapKept.run_getObj_map hb, MapKept.run_setObj_map _ hb, Result.andThen, setBlock]

theorem entry4 (c : Cf) (e : SnS) (x : Sn) (hx : HS) (h : Hd) (w : World) : ∃ W0, (((w.alloc (.cells (cfvals c) 41)).alloc (.cells (snvals e x) 37)).alloc (.cells (hvals hx h) 44)).alloc (.cells #[.int .i64 0, .slice none 0 0, .slice none 0 0, .slice none 0 0] 37) = W0 ∧ Below w.heap.size w W0 ∧ W0.heap.size = w.heap.size + 4 ∧ SBlk W0 w.heap.size (cfvals c).toList 41 ∧ SBlk W0 (w.heap.size + 1) (snvals e x).toList 37 ∧ SBlk W0 (w.heap.size + 2) (hvals hx h).toList 44 ∧ SBlk W0 (w.heap.size + 3) [.int .i64 0, .slice none 0 0, .slice none 0 0, .slice none 0 0] 37 := by
 refine ⟨_, rfl, (((Below.refl _ _).alloc (Nat.le_refl _) _).alloc (by simp) _ |>.alloc (by simp; omega) _).alloc (by simp; omega) _, by simp, ?_, ?_, ?_, ?_⟩
 · exact (((SBlk.new w (cfvals c) 41).next _).next _).next _
 · have k := ((SBlk.new (w.alloc (.cells (cfvals c) 41)) (snvals e x) 37).next (.cells (hvals hx h) 44)).next (.cells #[.int .i64 0, .slice none 0 0, .slice none 0 0, .slice none 0 0] 37)
   simpa using k
 · have k := (SBlk.new ((w.alloc (.cells (cfvals c) 41)).alloc (.cells (snvals e x) 37)) (hvals hx h) 44).next (.cells #[.int .i64 0, .slice none 0 0, .slice none 0 0, .slice none 0 0] 37)
   simpa using k
 · have k := SBlk.new (((w.alloc (.cells (cfvals c) 41)).alloc (.cells (snvals e x) 37)).alloc (.cells (hvals hx h) 44)) #[.int .i64 0, .slice none 0 0, .slice none 0 0, .slice none 0 0] 37
   simpa using k

theorem ret4 {W : World} {R : Nat} {a b c d : Value} {T : TypeId} (k : SBlk W R [a, b, c, d] T) (v0 v1 v2 v3 : Value) : SBlk ((((W.setCell ⟨R, 0, none⟩ v0).setCell ⟨R, 1, none⟩ v1).setCell ⟨R, 2, none⟩ v2).setCell ⟨R, 3, none⟩ v3) R [v0, v1, v2, v3] T ∧ (∀ q, q ≠ R → ((((W.setCell ⟨R, 0, none⟩ v0).setCell ⟨R, 1, none⟩ v1).setCell ⟨R, 2, none⟩ v2).setCell ⟨R, 3, none⟩ v3).heap[q]? = W.heap[q]?) ∧ ∀ (B : Nat) (W0 : World), B ≤ R → Below B W0 W → Below B W0 ((((W.setCell ⟨R, 0, none⟩ v0).setCell ⟨R, 1, none⟩ v1).setCell ⟨R, 2, none⟩ v2).setCell ⟨R, 3, none⟩ v3) :=
 ⟨(((k.set 0 v0).set 1 v1).set 2 v2).set 3 v3, fun q hq => by
  rw [heap_setCell_other _ ⟨R, 3, none⟩ q v3 hq, heap_setCell_other _ ⟨R, 2, none⟩ q v2 hq, heap_setCell_other _ ⟨R, 1, none⟩ q v1 hq, heap_setCell_other _ ⟨R, 0, none⟩ q v0 hq], fun B W0 hB b => (((b.setCell (p := ⟨R, 0, none⟩) hB v0).setCell (p := ⟨R, 1, none⟩) hB v1).setCell (p := ⟨R, 2, none⟩) hB v2).setCell (p := ⟨R, 3, none⟩) hB v3⟩

/-- Those who are no longer recent stand ahead of all others. -/
def oldN (b : Int) : List Rc → Nat
 | [] => 0
 | r :: t => if r.1 ≤ b then oldN b t + 1 else 0

theorem oldN_le (b : Int) : ∀ xs : List Rc, oldN b xs ≤ xs.length
 | [] => Nat.le_refl _
 | r :: t => by
  unfold oldN
  have := oldN_le b t
  split <;> simp <;> omega

theorem oldN_iff (b : Int) : ∀ (xs : List Rc), xs.Pairwise (fun a c => a.1 < c.1) → ∀ (i : Nat) (x : Rc), xs[i]? = some x → (x.1 ≤ b ↔ i < oldN b xs)
 | [], _, i, x, h => by simp at h
 | r :: t, hp, 0, x, h => by
  simp at h
  subst h
  unfold oldN
  split
  · rename_i q; exact ⟨fun _ => Nat.succ_pos _, fun _ => q⟩
  · rename_i q; exact ⟨fun h => absurd h q, fun h => absurd h (Nat.lt_irrefl _)⟩
 | r :: t, hp, i + 1, x, h => by
  rw [List.getElem?_cons_succ] at h
  obtain ⟨h1, h2⟩ := List.pairwise_cons.1 hp
  have ih := oldN_iff b t h2 i x h
  unfold oldN
  split
  · rw [ih]; omega
  · rename_i q
    have := h1 x (List.mem_of_getElem? h)
    exact ⟨fun h => by omega, fun h => absurd h (Nat.not_lt_zero _)⟩

theorem oldN_drop (b : Int) : ∀ (xs : List Rc), xs.Pairwise (fun a c => a.1 < c.1) → xs.drop (oldN b xs) = xs.filter (fun r => decide (b < r.1))
 | [], _ => rfl
 | r :: t, hp => by
  obtain ⟨h1, h2⟩ := List.pairwise_cons.1 hp
  unfold oldN
  by_cases q : r.1 ≤ b
  · rw [if_pos q, List.filter_cons_of_neg (by simp; omega), List.drop_succ_cons]
    exact oldN_drop b t h2
  · rw [if_neg q, List.drop_zero, List.filter_cons_of_pos (by simp; omega), List.filter_eq_self.2 (fun y hy => by have := h1 y hy; simp; omega)]

end Go.Proofs.YtdmcmlcmgbbclaaGreat
