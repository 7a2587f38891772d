/- What is proved here: plain facts on sums of wide numbers. -/
import Derived.Test.YtldiilmpmcbjkaaGreatDoorJ13
import Derived.Test.YtldiilmpmcbjkaaGreatDoorJ2
import Derived.Test.YtldiilmpmcbjkaaGreatDoorJ6
import Derived.Test.YtldiilmpmcbjkaaGreatDoorJ7
import Derived.Test.YtldiilmpmcbjkaaGreatDoorJ12
import Derived.Test.YtldiilmpmcbjkaaGreatDoorJ4
import Derived.Test.YtldiilmpmcbjkaaGreatDoorChecked
import Derived.Test.YtldiilmpmcbjkaaGreatDoorJ1
import Derived.WalkKit
import Derived.BigQuiet
import Derived.Deep.QuietTactic
import Derived.KernelRfl
import Derived.WalkSpells
namespace Go.Proofs.YtldiilmpmcbjkaaGreatDoor
open Go.RowKit
set_option linter.unusedVariables false
set_option maxRecDepth 100000

theorem sum_num {xs ys : List Int} : ∀ k, k ≤ 8 → numW xs k + numW ys k = numW (sumL xs ys) k + caW xs ys k * 4294967296 ^ k
  | 0, _ => by simp [numW, caW]
  | k + 1, h => by
    have ih := sum_num (xs := xs) (ys := ys) k (by omega)
    rw [numW, numW, numW, sumL_at xs ys k (by omega)]
    have e : (4294967296 : Int) ^ (k + 1) = 4294967296 ^ k * 4294967296 := Int.pow_succ _ _
    have hs : xs.getD k 0 + ys.getD k 0 + caW xs ys k = suW xs ys k + caW xs ys (k + 1) * 4294967296 := by
      unfold suW
      rw [caW]
      have := Int.emod_add_mul_ediv (xs.getD k 0 + ys.getD k 0 + caW xs ys k) 4294967296
      omega
    rw [e]
    have hm := congrArg (fun z => z * (4294967296 : Int) ^ k) hs
    simp only [Int.add_mul] at hm
    have e2 : caW xs ys (k + 1) * (4294967296 ^ k * 4294967296) = caW xs ys (k + 1) * 4294967296 * 4294967296 ^ k := by
      rw [Int.mul_comm (4294967296 ^ k) 4294967296, Int.mul_assoc]
    rw [e2]
    generalize xs.getD k 0 * 4294967296 ^ k = p1 at hm
    generalize ys.getD k 0 * 4294967296 ^ k = p2 at hm
    generalize suW xs ys k * 4294967296 ^ k = p3 at hm
    generalize caW xs ys (k + 1) * 4294967296 * 4294967296 ^ k = p4 at hm
    generalize caW xs ys k * 4294967296 ^ k = p5 at hm ih
    omega

theorem caW_comm (xs ys : List Int) : ∀ k, caW xs ys k = caW ys xs k
  | 0 => rfl
  | k + 1 => by rw [caW, caW, caW_comm xs ys k, Int.add_comm (xs.getD k 0)]

theorem sumL_comm (xs ys : List Int) : sumL xs ys = sumL ys xs := by
  unfold sumL
  refine List.map_congr_left fun k _ => ?_
  unfold suW
  rw [caW_comm xs ys k, Int.add_comm (xs.getD k 0)]

theorem Wd_sum (xs ys : List Int) : Wd (sumL xs ys) := by
  intro i
  by_cases hi : i < 8
  · rw [sumL_at xs ys i hi]
    unfold suW
    omega
  · rw [List.getD_eq_getElem?_getD, List.getElem?_eq_none (by rw [sumL_length]; omega)]
    simp

theorem wf_of (L : List Int) (h : L.length = 8) (hw : Wd L) : wfCode L = 0 := by
  refine wf_ok L h ?_
  rw [List.all_eq_true]
  intro x hx
  obtain ⟨i, hi, rfl⟩ := List.getElem_of_mem (List.mem_of_mem_take hx)
  have := hw i
  rw [getD_at _ _ hi] at this
  exact decide_eq_true this

/-- Eight zeros. -/
def z8 : List Int := [0, 0, 0, 0, 0, 0, 0, 0]
theorem z8_at (i : Nat) : z8.getD i 0 = 0 := by
  match i with
  | 0 | 1 | 2 | 3 | 4 | 5 | 6 | 7 => rfl
  | n + 8 => rfl
theorem Wd_z8 : Wd z8 := fun i => by rw [z8_at]; decide
theorem num_z8 : ∀ k, numW z8 k = 0
  | 0 => rfl
  | k + 1 => by rw [numW, num_z8 k, z8_at]; simp

theorem ca_z8 {xs : List Int} (hx : Wd xs) : ∀ k, caW xs z8 k = 0
  | 0 => rfl
  | k + 1 => by
    rw [caW, ca_z8 hx k, z8_at]
    have := hx k
    omega

theorem sum_z8 {xs : List Int} (hl : xs.length = 8) (hx : Wd xs) : sumL xs z8 = xs := by
  refine List.ext_getElem (by rw [sumL_length, hl]) fun i h1 h2 => ?_
  have e := sumL_at xs z8 i (by omega)
  rw [getD_at _ _ h1] at e
  rw [e]
  unfold suW
  rw [ca_z8 hx i, z8_at, getD_at _ _ h2]
  have := hx i
  rw [getD_at _ _ h2] at this
  omega

/-- A sum is more than one of its parts just as the other part is more than nothing. -/
theorem sum_more {xs ys : List Int} (hx : Wd xs) (hy : Wd ys) (hc : caW xs ys 8 = 0) : cmpW (sumL xs ys) xs 8 = cmpW ys z8 8 ∧ 0 ≤ cmpW ys z8 8 := by
  have e := sum_num (xs := xs) (ys := ys) 8 (Nat.le_refl _)
  have ry := numW_range hy 8
  rw [hc, Int.zero_mul, Int.add_zero] at e
  rw [cmpW_num (Wd_sum xs ys) hx, cmpW_num hy Wd_z8, num_z8, ← e]
  generalize numW xs 8 = p
  generalize numW ys 8 = q at ry
  unfold cmpI
  refine ⟨?_, ?_⟩
  · have e1 : (p + q < p) ↔ (q < 0) := by omega
    have e2 : (p < p + q) ↔ (0 < q) := by omega
    simp only [e1, e2]
  · split
    · omega
    · split <;> decide

end Go.Proofs.YtldiilmpmcbjkaaGreatDoor

/- What is proved here: CompareWide of the program and of the model, for every two slices of numbers. -/
namespace Go.Proofs.YtldiilmpmcbjkaaGreatDoor
open Go.RowKit
set_option linter.unusedVariables false
set_option maxRecDepth 100000

/-- What CompareWide answers beside the code. -/
def cwVal (xs ys : List Int) : Int := if wf2 xs ys = 0 then cmpW xs ys 8 else 0

theorem wf2_zero (xs ys : List Int) (h : wf2 xs ys = 0) : wfCode xs = 0 ∧ wfCode ys = 0 := by
  unfold wf2 at h
  split at h
  · exact ⟨by assumption, h⟩
  · contradiction

theorem cell2_facts {w : World} {b : Nat} {x y : Value} {t : TypeId} (h : w.heap[b]? = some (.cells #[x, y] t (0, 0))) : w.cell? ⟨b, 0, none⟩ = some x ∧ w.cell? ⟨b, 1, none⟩ = some y ∧ w.frozen? ⟨b, 0, none⟩ = false ∧ w.frozen? ⟨b, 1, none⟩ = false := res_facts h

end Go.Proofs.YtldiilmpmcbjkaaGreatDoor

/- What is proved here: plain facts on the order of wide numbers: two are the same where their comparison is 0; no program is named. -/
namespace Go.Proofs.YtldiilmpmcbjkaaGreatDoor
open Go.RowKit
set_option linter.unusedVariables false
set_option maxRecDepth 100000

theorem cmpI_neg (x y : Int) : cmpI y x = - cmpI x y := by
  rcases Int.lt_trichotomy x y with h | h | h
  · rw [cmpI_more h, cmpI_less h]; rfl
  · subst h; rw [cmpI_same (Int.lt_irrefl _) (Int.lt_irrefl _)]; rfl
  · rw [cmpI_less h, cmpI_more h]

theorem cmpI_range (x y : Int) : -1 ≤ cmpI x y ∧ cmpI x y ≤ 1 := by
  unfold cmpI
  split
  · omega
  · split <;> omega

theorem cmpW_zero (xs ys : List Int) : ∀ k, cmpW xs ys k = 0 ↔ ∀ i, i < k → xs.getD i 0 = ys.getD i 0
  | 0 => by simp [cmpW]
  | k + 1 => by
    have ih := cmpW_zero xs ys k
    rcases Int.lt_trichotomy (xs.getD k 0) (ys.getD k 0) with h | h | h
    · rw [cmpW_other xs ys k (by rw [cmpI_less h]; decide), cmpI_less h]
      exact ⟨fun a => absurd a (by decide), fun a => absurd (a k (Nat.lt_succ_self _)) (by omega)⟩
    · rw [cmpW_same xs ys k (by rw [h]; exact cmpI_same (Int.lt_irrefl _) (Int.lt_irrefl _)), ih]
      exact ⟨fun a i hi => if e : i = k then by rw [e]; exact h else a i (by omega), fun a i hi => a i (by omega)⟩
    · rw [cmpW_other xs ys k (by rw [cmpI_more h]; decide), cmpI_more h]
      exact ⟨fun a => absurd a (by decide), fun a => absurd (a k (Nat.lt_succ_self _)) (by omega)⟩

theorem same_cmp {xs ys : List Int} (hx : xs.length = 8) (hy : ys.length = 8) : sameB xs ys = (cmpW xs ys 8 == 0) := by
  have h := cmpW_zero xs ys 8
  by_cases e : cmpW xs ys 8 = 0
  · have : xs = ys := by
      refine List.ext_getElem (by omega) fun i h1 h2 => ?_
      have := h.1 e i (by omega)
      rwa [getD_at _ _ h1, getD_at _ _ h2] at this
    rw [e, this]
    simp [sameB]
  · have hne : xs ≠ ys := fun e2 => e (h.2 (fun i _ => by rw [e2]))
    have e1 : (cmpW xs ys 8 == 0) = false := by rw [beq_eq_false_iff_ne]; exact e
    rw [e1]
    unfold sameB
    rw [beq_eq_false_iff_ne]
    exact hne

end Go.Proofs.YtldiilmpmcbjkaaGreatDoor

/- What is proved here: plain facts on entries and stores: their kinds, where a hash stands, and their faults; no program is named but the types of its cells. -/
namespace Go.Proofs.YtldiilmpmcbjkaaGreatDoor
open Go.RowKit
set_option linter.unusedVariables false
set_option linter.unusedSimpArgs false
set_option maxRecDepth 100000

/-- A kind told by other names. -/
def Kd.via {α β α' β' : Type} (K : Kd α β) (f : α' → α) (g : β' → β) : Kd α' β' where
  m := K.m
  vals e x := K.vals (g e) (f x)
  len e x := K.len _ _
  Own w B d p e x := K.Own w B d p (g e) (f x)
  Ok w e x := K.Ok w (g e) (f x)
  frame h hk := K.frame h hk
  recol h hk := K.recol h hk
  base h hB := K.base h hB
  ok h := K.ok h
  below h hb hB := K.below h hb hB

/-- Numbers that read. -/
structure IOk (w : World) (s : Sl) (z : List Int) : Prop where
  row : IRow w s.a s.n z
  room : s.n ≤ s.c
  max : s.c ≤ maxLen
  nil : s.a = none → s.c = 0

structure IOwn (w : World) (B : Nat) (d : Nat → Path) (p : Path) (s : Sl) (z : List Int) : Prop where
  own : w.ownsRow B 2 1 (.slice s.a s.n s.c) s.n (z.map (Value.int .i64))
  col : ∀ x, s.a = some x → d x.block = p

theorem IOwn.blk {w : World} {B : Nat} {d : Nat → Path} {p : Path} {s : Sl} {z : List Int} (h : IOwn w B d p s z) {x : Addr} (hx : s.a = some x) : B ≤ x.block ∧ x.block < w.heap.size := (OwnS.of h.own).blk hx

def intsK : Kd (List Int) Sl where
  m := 1
  vals s _ := [.slice s.a s.n s.c]
  len _ _ := rfl
  Own := IOwn
  Ok := IOk
  frame h hk := ⟨own_frame h.own (fun x hx => hk _ (h.blk hx).2 (h.blk hx).1 (by rw [h.col x hx]; exact List.prefix_rfl)), h.col⟩
  recol h hk := ⟨h.own, fun x hx => by rw [hk _ (h.blk hx).2 (h.blk hx).1 (by rw [h.col x hx]; exact List.prefix_rfl)]; exact h.col x hx⟩
  base h hB := ⟨ownsRow_base h.own hB, h.col⟩
  ok h := ⟨IRow.own2 h.own, (OwnS.of h.own).room, (OwnS.of h.own).max, (OwnS.of h.own).nil⟩
  below h hb hB := ⟨h.row.below hb hB, h.room, h.max, h.nil⟩

abbrev bssK : Kd (List (List Int)) Sl := rowK bytesK 60

/-- The kind of a header. -/
def hdK : Kd Hd HS := (pairK bytesK (pairK intK (pairK intK (pairK intK (pairK bytesK (pairK intK (pairK bssK (pairK bytesK (pairK bytesK (pairK bytesK bssK)))))))))).via
  (fun h => (h.p, h.n1, h.n2, h.n3, h.t, h.n5, h.s, h.r, h.g, h.e, h.k)) (fun x => (x.p, (), (), (), x.t, (), x.s, x.r, x.g, x.e, x.k))

theorem hdK_vals (e : HS) (x : Hd) : hdK.vals e x = (hvals e x).toList := rfl

theorem hd_ok {w : World} {e : HS} {x : Hd} (h : hdK.Ok w e x) : HOk w e x := by
  obtain ⟨p, _, _, _, t, _, s, r, g, k, c⟩ := h
  exact ⟨BOk.row p, BOk.row t, bs_of_row s, BOk.row r, BOk.row g, BOk.row k, bs_of_row c⟩

theorem hd_nil {w : World} {e : HS} {x : Hd} (h : hdK.Ok w e x) : HNil w e := by
  obtain ⟨p, _, _, _, t, _, s, r, g, k, c⟩ := h
  exact ⟨BOk.nil p, BOk.nil t, bsnil_of_row s, BOk.nil r, BOk.nil g, BOk.nil k, bsnil_of_row c⟩

theorem hd_max {w : World} {e : HS} {x : Hd} (h : hdK.Ok w e x) : HMax e maxLen := by
  obtain ⟨p, _, _, _, t, _, s, r, g, k, c⟩ := h
  have b : ∀ {s : Sl} {z : List Int}, BOk w s z → s.n ≤ maxLen := fun o => Nat.le_trans o.room o.max
  have l : ∀ {s : Sl} {z : List (List Int)}, RowOk bytesK w s z → s.n ≤ maxLen := fun o => Nat.le_trans o.room o.max
  exact ⟨b p, b t, l s, b r, b g, b k, l c⟩

theorem hd_in {w : World} {e : HS} {x : Hd} (h : hdK.Ok w e x) : HIn x := by
  obtain ⟨p, n1, n2, n3, t, n5, s, r, g, k, c⟩ := h
  exact ⟨n1, n2, n3, n5⟩

/-- An entry: a header, its hash, the place of its parent, its total. -/
abbrev En := Hd × List Int × Int × List Int
abbrev EnS := HS × Sl × Unit × Sl
def enK : Kd En EnS := pairK hdK (pairK bytesK (pairK intK intsK))

/-- A store: a setting, entries. -/
abbrev St := Cf × List En
abbrev ensK : Kd (List En) Sl := rowK enK 70

/-- The four cells of a store. -/
def tvals (t : Sl) (x : St) : Array Value := #[.int .i64 x.1.1, .int .i64 x.1.2.1, .int .i64 x.1.2.2, .slice t.a t.n t.c]

/-- The fourteen cells of an entry. -/
def evals (e : EnS) (x : En) : Array Value := #[.slice e.1.p.a e.1.p.n e.1.p.c, .int .i64 x.1.n1, .int .i64 x.1.n2, .int .i64 x.1.n3, .slice e.1.t.a e.1.t.n e.1.t.c, .int .i64 x.1.n5, .slice e.1.s.a e.1.s.n e.1.s.c, .slice e.1.r.a e.1.r.n e.1.r.c, .slice e.1.g.a e.1.g.n e.1.g.c, .slice e.1.e.a e.1.e.n e.1.e.c, .slice e.1.k.a e.1.k.n e.1.k.c, .slice e.2.1.a e.2.1.n e.2.1.c, .int .i64 x.2.2.1, .slice e.2.2.2.a e.2.2.2.n e.2.2.2.c]

theorem enK_vals (e : EnS) (x : En) : enK.vals e x = (evals e x).toList := rfl

/-- A small entry. -/
structure EnSm (x : En) : Prop where
  h : HSm x.1
  z : x.2.1.length ≤ 1048576
  t : x.2.2.2.length ≤ 1048576

structure StSm (x : St) : Prop where
  n : x.2.length ≤ 1048576
  e : ∀ y ∈ x.2, EnSm y

/-- Where a hash stands: -1: it is not there. -/
def fnd : List En → List Int → Int
  | [], _ => -1
  | x :: r, z => if x.2.1 = z then 0 else if fnd r z = -1 then -1 else fnd r z + 1

theorem fnd_range : ∀ (xs : List En) (z : List Int), -1 ≤ fnd xs z ∧ fnd xs z < xs.length
  | [], z => by simp [fnd]
  | x :: r, z => by
    have := fnd_range r z
    unfold fnd
    simp only [List.length_cons]
    split
    · omega
    · split <;> omega

theorem fnd_none : ∀ (xs : List En) (z : List Int), (∀ (j : Nat) x, xs[j]? = some x → x.2.1 ≠ z) → fnd xs z = -1
  | [], z, _ => rfl
  | x :: r, z, h => by
    unfold fnd
    rw [if_neg (h 0 x rfl), if_pos (fnd_none r z (fun j y hy => h (j + 1) y hy))]

theorem fnd_some : ∀ (xs : List En) (z : List Int) (i : Nat) (x : En), xs[i]? = some x → x.2.1 = z → (∀ (j : Nat) y, j < i → xs[j]? = some y → y.2.1 ≠ z) → fnd xs z = i
  | [], z, i, x, h, _, _ => by simp at h
  | y :: r, z, 0, x, h, e, _ => by
    simp at h
    subst h
    unfold fnd
    rw [if_pos e]
    rfl
  | y :: r, z, i + 1, x, h, e, k => by
    have ih := fnd_some r z i x h e (fun j u hj hu => k (j + 1) u (by omega) hu)
    unfold fnd
    rw [if_neg (k 0 y (by omega) rfl), ih, if_neg (by omega)]
    omega

theorem fnd_none_iff {xs : List En} {z : List Int} (h : fnd xs z = -1) : ∀ (j : Nat) x, xs[j]? = some x → x.2.1 ≠ z := by
  induction xs with
  | nil => intro j x hx; simp at hx
  | cons y r ih =>
    intro j x hx
    unfold fnd at h
    split at h
    · omega
    · rename_i hn
      split at h
      · rename_i hr
        cases j with
        | zero => simp at hx; subst hx; exact hn
        | succ j => exact ih hr j x hx
      · have := fnd_range r z; omega

/-- Whether none of those ahead has the hash, told by all of them. -/
theorem fnd_ahead {xs : List En} {i : Nat} {x : En} (h : xs[i]? = some x) : (fnd xs x.2.1 = (i : Int)) ↔ fnd (xs.take i) x.2.1 = -1 := by
  constructor
  · intro e
    refine fnd_none _ _ (fun j y hy hz => ?_)
    rw [List.getElem?_take] at hy
    split at hy
    · rename_i hj
      have hex : ∃ k, ∃ u, xs[k]? = some u ∧ u.2.1 = x.2.1 ∧ k < i := ⟨j, y, hy, hz, hj⟩
      have hmin : ∃ k, (∃ u, xs[k]? = some u ∧ u.2.1 = x.2.1 ∧ k < i) ∧ ∀ k' u', k' < k → xs[k']? = some u' → u'.2.1 ≠ x.2.1 := by
        induction j using Nat.strongRecOn generalizing y with
        | ind j ih =>
          by_cases hq : ∃ k' u', k' < j ∧ xs[k']? = some u' ∧ u'.2.1 = x.2.1
          · obtain ⟨k', u', q1, q2, q3⟩ := hq
            exact ih k' q1 u' q3 (by omega) q2
          · exact ⟨j, ⟨y, hy, hz, hj⟩, fun k' u' q1 q2 q3 => hq ⟨k', u', q1, q2, q3⟩⟩
      obtain ⟨k, ⟨u, u1, u2, u3⟩, hk⟩ := hmin
      have := fnd_some xs x.2.1 k u u1 u2 hk
      omega
    · cases hy
  · intro e
    refine fnd_some xs _ i x h rfl (fun j y hj hy => ?_)
    exact fnd_none_iff e j y (by rw [List.getElem?_take, if_pos hj]; exact hy)

/-- Whether an entry has a right place of its parent. -/
def upOk (i : Nat) (up : Int) : Bool := if i = 0 then decide (up = -1) else within up 0 ((i : Int) - 1)

/-- The entry at a place. -/
def enAt (xs : List En) (up : Int) : Option En := if up = -1 then none else xs[up.toNat]?

/-- Whether a header is behind that parent. -/
def bhOk (q : Option En) (h : Hd) : Bool := match q with
  | none => true
  | some y => decide (h.p = y.2.1) && decide (h.n1 = y.1.n1 + 1)

/-- Code and limbs of the total up to a header. -/
def ttCode (q : Option En) (h : Hd) : Int := match q with
  | none => 0
  | some y => awCode y.2.2.2 (wofList h.n3)
def ttList (q : Option En) (h : Hd) : List Int := match q with
  | none => wofList h.n3
  | some y => awList y.2.2.2 (wofList h.n3)

def ttOk (q : Option En) (x : En) : Bool := decide (ttCode q x.1 = 0) && decide (x.2.2.2 = ttList q x.1)

/-- The fault of an entry behind those ahead of it, which have none. -/
def enFlt (ahead : List En) (x : En) : Int :=
  if hdFlt x.1 = 0 then
    if x.2.1 = hsBytes x.1 then
      if fnd ahead x.2.1 = -1 then
        if upOk ahead.length x.2.2.1 = true then
          if bhOk (enAt ahead x.2.2.1) x.1 = true then
            if ttOk (enAt ahead x.2.2.1) x = true then 0 else 9
          else 1
        else 3
      else 6
    else 7
  else hdFlt x.1

/-- The first fault of the entries from a place on. -/
def enFrom (xs : List En) : Nat → Nat → Int
  | 0, _ => 0
  | n + 1, i => match xs[i]? with
    | none => 0
    | some x => if enFlt (xs.take i) x = 0 then enFrom xs n (i + 1) else enFlt (xs.take i) x

/-- The fault of a store. -/
def stFlt (t : St) : Int :=
  if cfFlt t.1 = 0 then
    if 1 ≤ t.2.length ∧ t.2.length ≤ 24 then
      if enFrom t.2 t.2.length 0 = 0 then
        (match t.2 with | [] => 0 | y :: _ => if y.1.s.length = 0 then 4 else 0)
      else enFrom t.2 t.2.length 0
    else 2
  else cfFlt t.1

theorem enFrom_step (xs : List En) (i : Nat) (x : En) (h : xs[i]? = some x) : enFrom xs (xs.length - i) i = if enFlt (xs.take i) x = 0 then enFrom xs (xs.length - (i + 1)) (i + 1) else enFlt (xs.take i) x := by
  have hi := (List.getElem?_eq_some_iff.1 h).1
  rw [show xs.length - i = (xs.length - (i + 1)) + 1 by omega, enFrom, h]

theorem enFrom_end (xs : List En) (i : Nat) (h : xs.length ≤ i) : enFrom xs (xs.length - i) i = 0 := by
  rw [show xs.length - i = 0 by omega]; rfl

/-- An entry without a fault. -/
theorem enFlt_zero {ahead : List En} {x : En} (h : enFlt ahead x = 0) : hdFlt x.1 = 0 ∧ x.2.1 = hsBytes x.1 ∧ fnd ahead x.2.1 = -1 ∧ upOk ahead.length x.2.2.1 = true ∧ bhOk (enAt ahead x.2.2.1) x.1 = true ∧ ttOk (enAt ahead x.2.2.1) x = true := by
  unfold enFlt at h
  split at h
  · rename_i h1
    split at h
    · rename_i h2
      split at h
      · rename_i h3
        split at h
        · rename_i h4
          split at h
          · rename_i h5
            split at h
            · rename_i h6
              exact ⟨h1, h2, h3, h4, h5, h6⟩
            · omega
          · omega
        · omega
      · omega
    · omega
  · omega

theorem wof_Wd (n : Int) (h0 : 0 ≤ n) (h1 : n < 9223372036854775808) : Wd (wofList n) := by
  intro i
  unfold wofList
  match i with
  | 0 => simp; omega
  | 1 => simp; omega
  | 2 | 3 | 4 | 5 | 6 | 7 => simp
  | i + 8 => simp

theorem wof_wf (n : Int) (h0 : 0 ≤ n) (h1 : n < 9223372036854775808) : wfCode (wofList n) = 0 := wf_of _ rfl (wof_Wd n h0 h1)

theorem hd_num {h : Hd} (hf : hdFlt h = 0) : (0 ≤ h.n1 ∧ h.n1 ≤ 1099511627776) ∧ (0 ≤ h.n3 ∧ h.n3 ≤ 9) := by
  unfold hdFlt at hf
  split at hf
  · omega
  · split at hf
    · omega
    · rename_i hn
      simp only [Bool.not_eq_false, hdNum, within, Bool.and_eq_true, decide_eq_true_eq] at hn
      exact ⟨hn.1.1.1, hn.1.2⟩

/-- The total of an entry without a fault is a wide number. -/
theorem tt_wf {q : Option En} {x : En} (hf : hdFlt x.1 = 0) (h : ttOk q x = true) : wfCode x.2.2.2 = 0 := by
  have hn := (hd_num hf).2
  unfold ttOk at h
  simp only [Bool.and_eq_true, decide_eq_true_eq] at h
  rw [h.2]
  cases q with
  | none => exact wof_wf _ hn.1 (by omega)
  | some y =>
    have h1 : awCode y.2.2.2 (wofList x.1.n3) = 0 := h.1
    show wfCode (awList y.2.2.2 (wofList x.1.n3)) = 0
    unfold awCode at h1
    split at h1
    · rename_i h2
      split at h1
      · rename_i h3
        rw [(aw_ok _ _ h2 h3).2]
        exact wf_of _ (sumL_length _ _) (Wd_sum _ _)
      · omega
    · omega

/-- What holds of those ahead, none of which has a fault. -/
def AllOk (ahead : List En) : Prop := ∀ y ∈ ahead, hdFlt y.1 = 0 ∧ wfCode y.2.2.2 = 0

theorem AllOk.step {xs : List En} {i : Nat} {x : En} (h : AllOk (xs.take i)) (hx : xs[i]? = some x) (h0 : enFlt (xs.take i) x = 0) : AllOk (xs.take (i + 1)) := by
  obtain ⟨h1, _, _, _, _, h6⟩ := enFlt_zero h0
  obtain ⟨hi, e⟩ := List.getElem?_eq_some_iff.1 hx
  intro y hy
  rw [List.take_succ_eq_append_getElem hi, e] at hy
  rcases List.mem_append.1 hy with hy | hy
  · exact h y hy
  · obtain rfl := List.mem_singleton.1 hy
    exact ⟨h1, tt_wf h1 h6⟩

end Go.Proofs.YtldiilmpmcbjkaaGreatDoor

/- What is proved here: plain facts on lines: the places from the first entry on to one; no program is named. -/
namespace Go.Proofs.YtldiilmpmcbjkaaGreatDoor
open Go.RowKit
set_option linter.unusedVariables false
set_option maxRecDepth 100000
set_option linter.unusedSimpArgs false

/-- The place of the parent of an entry. -/
def upAt (xs : List En) (p : Int) : Int := match xs[p.toNat]? with
  | some x => x.2.2.1
  | none => -1

/-- Each entry has a right place of its parent. -/
def UpsOk (xs : List En) : Prop := ∀ (i : Nat) x, xs[i]? = some x → upOk i x.2.2.1 = true

theorem enFrom_zero (xs : List En) : ∀ (n i : Nat), i + n = xs.length → enFrom xs n i = 0 → ∀ (j : Nat) x, i ≤ j → xs[j]? = some x → enFlt (xs.take j) x = 0
  | 0, i, h, _, j, x, hj, hx => by have := (List.getElem?_eq_some_iff.1 hx).1; omega
  | n + 1, i, h, h0, j, x, hj, hx => by
    obtain ⟨y, hy⟩ : ∃ y, xs[i]? = some y := ⟨_, List.getElem?_eq_getElem (by omega)⟩
    rw [enFrom, hy] at h0
    simp only at h0
    split at h0
    · rename_i h1
      by_cases e : j = i
      · subst e
        obtain rfl : y = x := Option.some.inj (hy.symm.trans hx)
        exact h1
      · exact enFrom_zero xs n (i + 1) (by omega) h0 j x (by omega) hx
    · rename_i h1; exact absurd h0 h1

theorem st_zero {t : St} (h : stFlt t = 0) : cfFlt t.1 = 0 ∧ (1 ≤ t.2.length ∧ t.2.length ≤ 24) ∧ ∀ (j : Nat) x, t.2[j]? = some x → enFlt (t.2.take j) x = 0 := by
  unfold stFlt at h
  split at h
  · rename_i h1
    split at h
    · rename_i h2
      split at h
      · rename_i h3
        exact ⟨h1, h2, fun j x hx => enFrom_zero t.2 t.2.length 0 (by omega) h3 j x (Nat.zero_le _) hx⟩
      · rename_i h3; exact absurd h h3
    · omega
  · rename_i h1; exact absurd h h1

theorem st_ups {t : St} (h : stFlt t = 0) : UpsOk t.2 := fun i x hx => by
  have h1 := (enFlt_zero ((st_zero h).2.2 i x hx)).2.2.2.1
  have h2 := (List.getElem?_eq_some_iff.1 hx).1
  rwa [show (t.2.take i).length = i by simp; omega] at h1

theorem up_next {xs : List En} (h : UpsOk xs) {p : Int} (h0 : 0 ≤ p) (h1 : p < xs.length) : -1 ≤ upAt xs p ∧ upAt xs p < p := by
  obtain ⟨x, hx⟩ : ∃ x, xs[p.toNat]? = some x := ⟨_, List.getElem?_eq_getElem (by omega)⟩
  have k := h _ x hx
  unfold upAt
  rw [hx]
  unfold upOk at k
  split at k
  · have := of_decide_eq_true k
    simp only
    omega
  · simp only [within, decide_eq_true_eq] at k
    simp only
    omega

/-- The places from one up to the first. -/
def clL (xs : List En) : Nat → Int → List Int
  | 0, _ => []
  | n + 1, p => if p = -1 then [] else p :: clL xs n (upAt xs p)

theorem clL_none (xs : List En) (n : Nat) : clL xs n (-1) = [] := by
  cases n with
  | zero => rfl
  | succ n => exact if_pos rfl

theorem clL_fuel {xs : List En} (h : UpsOk xs) : ∀ (n m : Nat) (p : Int), p + 1 ≤ n → p + 1 ≤ m → -1 ≤ p → p < xs.length → clL xs n p = clL xs m p
  | 0, m, p, h1, h2, h3, h4 => by
    obtain rfl : p = -1 := by omega
    rw [clL_none, clL_none]
  | n + 1, m, p, h1, h2, h3, h4 => by
    by_cases e : p = -1
    · subst e
      rw [clL_none, clL_none]
    · obtain ⟨m', rfl⟩ : ∃ m', m = m' + 1 := ⟨m - 1, by omega⟩
      have k := up_next h (p := p) (by omega) h4
      rw [clL, clL, if_neg e, if_neg e, clL_fuel h n m' (upAt xs p) (by omega) (by omega) k.1 (by omega)]

/-- The line to a place. -/
def lineL (xs : List En) (p : Int) : List Int := (clL xs (p + 1).toNat p).reverse

theorem lineL_none (xs : List En) : lineL xs (-1) = [] := by unfold lineL; rw [clL_none]; rfl

theorem clL_step {xs : List En} (h : UpsOk xs) {p : Int} (h0 : 0 ≤ p) (h1 : p < xs.length) : clL xs (p + 1).toNat p = p :: clL xs (upAt xs p + 1).toNat (upAt xs p) := by
  have k := up_next h h0 h1
  rw [show (p + 1).toNat = p.toNat + 1 by omega, clL, if_neg (by omega), clL_fuel h p.toNat (upAt xs p + 1).toNat _ (by omega) (by omega) k.1 (by omega)]

theorem lineL_step {xs : List En} (h : UpsOk xs) {p : Int} (h0 : 0 ≤ p) (h1 : p < xs.length) : lineL xs p = lineL xs (upAt xs p) ++ [p] := by
  unfold lineL
  rw [clL_step h h0 h1, List.reverse_cons]

theorem clL_len (xs : List En) : ∀ (n : Nat) (p : Int), (clL xs n p).length ≤ n
  | 0, p => Nat.le_refl _
  | n + 1, p => by
    rw [clL]
    split
    · simp
    · have := clL_len xs n (upAt xs p); simp; omega

theorem lineL_len (xs : List En) (p : Int) (h : p < 24) : (lineL xs p).length ≤ 24 := by
  unfold lineL
  have := clL_len xs (p + 1).toNat p
  simp
  omega

end Go.Proofs.YtldiilmpmcbjkaaGreatDoor

/- What is proved here: plain facts on which of two entries is better, and which of all is the best; no program is named. -/
namespace Go.Proofs.YtldiilmpmcbjkaaGreatDoor
open Go.RowKit
set_option linter.unusedVariables false
set_option linter.unusedSimpArgs false
set_option maxRecDepth 100000

/-- The code of places of a store. -/
def plsOk (x : St) (ps : List Int) : Bool := ps.all fun p => within p 0 ((x.2.length : Int) - 1)
def plsCode (x : St) (ps : List Int) : Int := if stFlt x = 0 then (if plsOk x ps = true then 0 else 3) else stFlt x

theorem pls_zero {x : St} {ps : List Int} (h : plsCode x ps = 0) : stFlt x = 0 ∧ ∀ p ∈ ps, 0 ≤ p ∧ p < x.2.length := by
  unfold plsCode at h
  split at h
  · rename_i h1
    split at h
    · rename_i h2
      refine ⟨h1, fun p hp => ?_⟩
      have := List.all_eq_true.1 h2 p hp
      simp only [within, decide_eq_true_eq] at this
      omega
    · omega
  · rename_i h1; exact absurd h h1

theorem st_all {t : St} (h : stFlt t = 0) : AllOk t.2 := fun y hy => by
  obtain ⟨j, hj⟩ := List.getElem?_of_mem hy
  have k := enFlt_zero ((st_zero h).2.2 j y hj)
  exact ⟨k.1, tt_wf k.1 k.2.2.2.2.2⟩

theorem cmpI_swap (x y : Int) : cmpI y x = - cmpI x y := by
  unfold cmpI
  by_cases h : x < y
  · rw [if_pos h, if_neg (by omega), if_pos h]; rfl
  · by_cases h2 : y < x
    · rw [if_pos h2, if_neg h, if_pos h2]
    · rw [if_neg h2, if_neg h, if_neg h, if_neg h2]; rfl

theorem cmpW_swap (xs ys : List Int) : ∀ k, cmpW ys xs k = - cmpW xs ys k
  | 0 => rfl
  | k + 1 => by
    have e := cmpI_swap (xs.getD k 0) (ys.getD k 0)
    rw [cmpW, cmpW, e, cmpW_swap xs ys k]
    by_cases h : cmpI (xs.getD k 0) (ys.getD k 0) = 0
    · rw [if_pos (by omega), if_pos h]
    · rw [if_neg (by omega), if_neg h]

theorem less_self : ∀ (l : List UInt8), Op.bytesLess l l = false
  | [] => rfl
  | x :: r => by
    have h : ¬ x < x := by simp
    have ih := less_self r
    unfold Op.bytesLess
    simp [h, ih]

theorem ahead_self (z : List Int) : aheadB z z = false := less_self _

/-- Whether an entry is better than another one. -/
def btE (x y : En) : Bool := if cmpW x.2.2.2 y.2.2.2 8 = 0 then (if x.1.n1 = y.1.n1 then aheadB x.2.1 y.2.1 else decide (x.1.n1 < y.1.n1)) else decide (0 < cmpW x.2.2.2 y.2.2.2 8)

theorem bt_self (x : En) : btE x x = false := by
  have := cmpW_swap x.2.2.2 x.2.2.2 8
  unfold btE
  rw [if_pos (by omega), if_pos rfl]
  exact ahead_self _

/-- The first of some orders that tells two apart. -/
def abL (A B : Nat → Bool) : Nat → Nat → Bool
  | 0, _ => false
  | n + 1, i => if A i = true then true else if B i = true then false else abL A B n (i + 1)

/-- The three orders of two entries. -/
def ordE (x y : En) : Nat → Bool
  | 0 => decide (0 < cmpW x.2.2.2 y.2.2.2 8)
  | 1 => decide (x.1.n1 < y.1.n1)
  | _ => aheadB x.2.1 y.2.1

theorem ab_bt (x y : En) : abL (ordE x y) (ordE y x) 3 0 = btE x y := by
  have hs := cmpW_swap x.2.2.2 y.2.2.2 8
  unfold btE
  simp only [abL, ordE, decide_eq_true_eq]
  by_cases h1 : 0 < cmpW x.2.2.2 y.2.2.2 8
  · have z : ¬ cmpW x.2.2.2 y.2.2.2 8 = 0 := by omega
    rw [if_pos h1, if_neg z, decide_eq_true h1]
  · rw [if_neg h1]
    by_cases h2 : 0 < cmpW y.2.2.2 x.2.2.2 8
    · have z : ¬ cmpW x.2.2.2 y.2.2.2 8 = 0 := by omega
      rw [if_pos h2, if_neg z, decide_eq_false h1]
    · have z : cmpW x.2.2.2 y.2.2.2 8 = 0 := by omega
      rw [if_neg h2, if_pos z]
      by_cases h3 : x.1.n1 < y.1.n1
      · have u : ¬ x.1.n1 = y.1.n1 := by omega
        rw [if_pos h3, if_neg u, decide_eq_true h3]
      · rw [if_neg h3]
        by_cases h4 : y.1.n1 < x.1.n1
        · have u : ¬ x.1.n1 = y.1.n1 := by omega
          rw [if_pos h4, if_neg u, decide_eq_false h3]
        · have u : x.1.n1 = y.1.n1 := by omega
          rw [if_neg h4, if_pos u]
          cases aheadB x.2.1 y.2.1
          · simp
          · simp

/-- Whether the entry of a place is better than that of another one. -/
def btAt (xs : List En) (i j : Nat) : Bool := match xs[i]?, xs[j]? with
  | some x, some y => btE x y
  | _, _ => false

theorem btAt_of {xs : List En} {i j : Nat} {x y : En} (hx : xs[i]? = some x) (hy : xs[j]? = some y) : btAt xs i j = btE x y := by
  unfold btAt
  rw [hx, hy]

/-- The best, from a place on. -/
def hdFrom (xs : List En) : Nat → Nat → Nat → Nat
  | 0, _, b => b
  | n + 1, i, b => hdFrom xs n (i + 1) (if btAt xs i b = true then i else b)

def bestL (xs : List En) : Nat := hdFrom xs xs.length 0 0

theorem hdFrom_step (xs : List En) (i b : Nat) (h : i < xs.length) : hdFrom xs (xs.length - i) i b = hdFrom xs (xs.length - (i + 1)) (i + 1) (if btAt xs i b = true then i else b) := by
  rw [show xs.length - i = (xs.length - (i + 1)) + 1 by omega, hdFrom]

theorem bestL_one {xs : List En} (h : 0 < xs.length) : bestL xs = hdFrom xs (xs.length - 1) 1 0 := by
  obtain ⟨x, hx⟩ : ∃ x, xs[0]? = some x := ⟨_, List.getElem?_eq_getElem h⟩
  have e : btAt xs 0 0 = false := by rw [btAt_of hx hx, bt_self]
  have := hdFrom_step xs 0 0 h
  rw [e] at this
  exact this

theorem hdFrom_lt (xs : List En) : ∀ (n i b : Nat), i + n = xs.length → b < xs.length → hdFrom xs n i b < xs.length
  | 0, i, b, _, h => h
  | n + 1, i, b, h1, h2 => by
    rw [hdFrom]
    split
    · exact hdFrom_lt xs n (i + 1) i (by omega) (by omega)
    · exact hdFrom_lt xs n (i + 1) b (by omega) h2

theorem bestL_lt {xs : List En} (h : 0 < xs.length) : bestL xs < xs.length := hdFrom_lt xs _ 0 0 (by omega) h

end Go.Proofs.YtldiilmpmcbjkaaGreatDoor

/- What is proved here: plain facts on what a call made, path by path, and the contracts of the laws' helper functions that copy bytes and lists of them, told by kinds. -/
namespace Go.Proofs.YtldiilmpmcbjkaaGreatDoor
open Go.RowKit
set_option linter.unusedVariables false
set_option maxRecDepth 100000

/-- What was made, with whatever colours stand elsewhere. -/
def Kd.Made {α β : Type} (K : Kd α β) (w : World) (n B : Nat) (d : Nat → Path) (p : Path) (e : β) (x : α) : Prop := ∀ d' : Nat → Path, (∀ g, B ≤ g → g < n → d' g = d g) → K.Own w B d' p e x

theorem Kd.made {α β : Type} (K : Kd α β) {w : World} {B : Nat} {d : Nat → Path} {p : Path} {e : β} {x : α} (h : K.Own w B d p e x) : K.Made w w.heap.size B d p e x := fun d' hd => K.recol h (fun g h1 h2 _ => hd g h2 h1)

theorem Kd.Made.below {α β : Type} {K : Kd α β} {w w' : World} {n B C : Nat} {d : Nat → Path} {p : Path} {e : β} {x : α} (h : K.Made w n B d p e x) (hb : Below C w w') (hC : w.heap.size ≤ C) : K.Made w' n B d p e x := fun d' hd => K.ownBelow (h d' hd) hb hC

theorem Kd.ownSet {α β : Type} (K : Kd α β) {w : World} {B : Nat} {d : Nat → Path} {p : Path} {e : β} {x : α} (h : K.Own w B d p e x) {q : Addr} (hq : q.block < B) (v : Value) : K.Own (w.setCell q v) B d p e x :=
  K.frame h (fun g _ hg _ => heap_setCell_other w q g v (fun e => by omega))

theorem Kd.Made.set {α β : Type} {K : Kd α β} {w : World} {n B : Nat} {d : Nat → Path} {p : Path} {e : β} {x : α} (h : K.Made w n B d p e x) {q : Addr} (hq : q.block < B) (v : Value) : K.Made (w.setCell q v) n B d p e x := fun d' hd => K.ownSet (h d' hd) hq v

theorem Kd.Made.get {α β : Type} {K : Kd α β} {w : World} {n B : Nat} {d : Nat → Path} {p : Path} {e : β} {x : α} (h : K.Made w n B d p e x) : K.Own w B d p e x := h d (fun _ _ _ => rfl)

theorem toB_kd (p : Path) (s : Sl) (z : List Int) (w : World) (o : BOk w s z) (hl : z.length ≤ 1048576) :
    Calls Tryz.prog 52 #[.slice s.a s.n s.c] w fun e w' => ∃ (t : Sl) (d : Nat → Path), e = .returned (.slice t.a t.n t.c) ∧ bytesK.Own w' w.heap.size d p t z ∧ Below w.heap.size w w' := by
  refine (toByteS_any s.a s.n s.c z w o.row (by have := o.row.1; omega)).mono ?_
  rintro e w' ⟨rfl, h1, h2⟩
  exact ⟨⟨some ⟨w.heap.size, 0, none⟩, s.n, s.n⟩, fun _ => p, rfl, ⟨o.row.2.1, h1, fun x hx => rfl⟩, h2⟩

theorem strict_inj {f : Nat → Nat} {k : Nat} (h : ∀ i j, i < j → j < k → f i < f j) {i j : Nat} (hi : i < k) (hj : j < k) (e : f i = f j) : i = j := by
  rcases Nat.lt_trichotomy i j with h' | h' | h'
  · have := h i j h' hj; omega
  · exact h'
  · have := h j i h' hi; omega

open Classical in
theorem row_of_obss {w : World} {g B : Nat} {zss : List (List Int)} {C : Nat} (h : OBss w g zss 60 C) (hB : B ≤ g) (hr : ∀ z ∈ zss, ∀ x ∈ z, 0 ≤ x ∧ x ≤ 255) (hl : zss.length ≤ 1048576) (p : Path) : ∃ d : Nat → Path, RowOwn bytesK 60 w B d p ⟨some ⟨g, 0, none⟩, zss.length, zss.length⟩ zss := by
  obtain ⟨vs, f, h1, h2, h3, h4, h5⟩ := h
  obtain ⟨d, hd⟩ : ∃ d : Nat → Path, d = fun q => if hq : ∃ i, i < zss.length ∧ f i = q then p ++ [hq.choose] else p := ⟨_, rfl⟩
  have dg : d g = p := by
    rw [hd]
    refine dif_neg ?_
    rintro ⟨i, hi, e⟩
    have := (h3 i hi).1
    omega
  have df : ∀ i, i < zss.length → d (f i) = p ++ [i] := by
    intro i hi
    have hq : ∃ j, j < zss.length ∧ f j = f i := ⟨i, hi, rfl⟩
    rw [hd]
    show (if hq : ∃ j, j < zss.length ∧ f j = f i then p ++ [hq.choose] else p) = _
    rw [dif_pos hq, strict_inj h4 hq.choose_spec.1 hi hq.choose_spec.2]
  obtain ⟨es, he1, he2⟩ : ∃ es : List Sl, es.length = zss.length ∧ ∀ (i : Nat) (e : Sl), es[i]? = some e → ∃ z, zss[i]? = some z ∧ e = ⟨some ⟨f i, 0, none⟩, z.length, z.length⟩ := by
    refine ⟨zss.zipIdx.map (fun q => ⟨some ⟨f q.2, 0, none⟩, q.1.length, q.1.length⟩), by simp, fun i e he => ?_⟩
    rw [List.getElem?_map, List.getElem?_zipIdx] at he
    cases hz : zss[i]? with
    | none => rw [hz] at he; simp at he
    | some z =>
      rw [hz] at he
      simp at he
      exact ⟨z, rfl, he.symm⟩
  refine ⟨d, rfl, es, vs, he1, ⟨h2.trans (Nat.mul_one _).symm, by show zss.length ≤ maxLen; unfold maxLen; omega, Nat.le_refl _, (fun e => by cases e), fun x hx => ?_⟩, fun x hx => by cases hx; exact dg, fun i e z he hz => ?_⟩
  · cases hx
    refine ⟨g, 0, vs.toArray, rfl, hB, h1, by simp [h2, bytesK], ?_⟩
    show (vs.drop 0).take (zss.length * 1) = vs
    rw [List.drop_zero, Nat.mul_one, ← h2, List.take_length]
  · have hi := (List.getElem?_eq_some_iff.1 hz).1
    obtain ⟨z', hz', rfl⟩ := he2 i e he
    obtain rfl : z = z' := Option.some.inj (hz.symm.trans hz')
    obtain ⟨q1, q2⟩ := h5 i z hi hz
    refine ⟨fun j v hv => ?_, hr z (List.mem_of_getElem? hz), ownsRow_base q2 (by omega), fun x hx => by cases hx; exact df i hi⟩
    match j, hv with
    | 0, hv =>
      simp only [bytesK, List.getElem?_cons_zero, Option.some.injEq] at hv
      subst hv
      have e1 : bytesK.m = 1 := rfl
      rw [e1, Nat.mul_one, Nat.add_zero]
      exact q1

theorem toBs_kd (p : Path) (s : Sl) (zss : List (List Int)) (w : World) (o : RowOk bytesK w s zss) (hl : zss.length ≤ 1048576) (hz : ∀ z ∈ zss, z.length ≤ 1048576) :
    Calls Tryz.prog 69 #[.slice s.a s.n s.c] w fun e w' => ∃ (t : Sl) (d : Nat → Path), e = .returned (.slice t.a t.n t.c) ∧ (rowK bytesK 60).Own w' w.heap.size d p t zss ∧ Below w.heap.size w w' := by
  have hb := bs_of_row o
  refine (toByteSS_any s.a s.n s.c zss w hb (by have := o.len; omega) hz).mono ?_
  rintro e w' ⟨rfl, h1, h2⟩
  obtain ⟨d, hd⟩ := row_of_obss h1 (Nat.le_refl _) hb.bytes hl p
  have e1 : s.n = zss.length := o.len
  refine ⟨⟨some ⟨w.heap.size, 0, none⟩, zss.length, zss.length⟩, d, by rw [e1], hd, h2⟩

end Go.Proofs.YtldiilmpmcbjkaaGreatDoor

/- What is proved here: the contracts of the laws' helper functions on slices of int64 (toInt64S), for slices of at most 2^20 numbers. -/
namespace Go.Proofs.YtldiilmpmcbjkaaGreatDoor
open Go.RowKit
set_option linter.unusedVariables false
set_option maxRecDepth 100000

set_option maxHeartbeats 400000 in
theorem toInt64S_any (a : Option Addr) (len cap : Nat) (zs : List Int) (w : World) (h : IRow w a len zs) (hl : len ≤ 1048576) :
    Calls Tryz.prog 53 #[.slice a len cap] w fun e w' => e = .returned (.slice (some ⟨w.heap.size, 0, none⟩) len len) ∧
      w'.ownsRow w.heap.size 2 1 (.slice (some ⟨w.heap.size, 0, none⟩) len len) len (zs.map (Value.int .i64)) ∧ Below w.heap.size w w' := by
  obtain ⟨i0, hi, hz0, hz1, hz2⟩ := info_parts info2
  rcases Nat.eq_zero_or_pos len with h0 | hp
  · subst h0
    have hzs : zs = [] := List.length_eq_zero_iff.1 h.1
    subst hzs
    clear h hl
    go_enter Tryz.func53, Tryz.ntmps53
    go_wp2_with (at_make; refine wpList_make_full _ rfl _ _ 28 rfl w.heap.size 2 i0 (.int .i64 0) 1 Tryz.underlying28 hi hz0 hz1 _ _ _ _ 0 rfl rfl rfl rfl ?c1 ?c2 ?c3 ?_)
    case c1 => omega
    case c2 => unfold maxLen; omega
    case c3 => omega
    intro w1 hown hgrow
    go_wp2
    refine wp_loop_rounds 1 ?_
    rw [rounds_succ]
    go_wp2
    go_ret
    exact ⟨rfl, by simpa [toList_madeCells_one] using hown, (Below.refl _ _).grown hgrow (Nat.le_refl _) (fun k e => by cases e)⟩
  · obtain ⟨b, off, rfl, hb, hc⟩ := h.at hp
    have hzl := h.1
    clear h
    go_enter Tryz.func53, Tryz.ntmps53
    go_wp2_with (at_make; refine wpList_make_full _ rfl _ _ 28 rfl w.heap.size 2 i0 (.int .i64 0) 1 Tryz.underlying28 hi hz0 hz1 _ _ _ _ len rfl rfl rfl rfl ?c1 ?c2 ?c3 ?_)
    case c1 => rw [hz2]; omega
    case c2 => unfold maxLen; omega
    case c3 => omega
    intro w1 hown hgrow
    have hown0 : w1.ownsRow w.heap.size 2 1 (.slice (some ⟨w.heap.size, 0, none⟩) len len) len ((zs.take 0 ++ List.replicate (len - 0) 0).map (Value.int .i64)) := by
      have e : (madeCells #[Value.int .i64 0] len).toList = (zs.take 0 ++ List.replicate (len - 0) 0).map (Value.int .i64) := by
        rw [toList_madeCells_one]; simp
      rw [← e]; exact hown
    have hbel : Below w.heap.size w w1 := (Below.refl _ _).grown hgrow (Nat.le_refl _) (fun k e => by cases e)
    clear hown hgrow
    go_wp2
    go_loopw [4] (fun i wr => ∃ k : Nat, k ≤ len ∧ i = .int .i64 k ∧ wr.ownsRow w.heap.size 2 1 (.slice (some ⟨w.heap.size, 0, none⟩) len len) len ((zs.take k ++ List.replicate (len - k) 0).map (Value.int .i64)) ∧ Below w.heap.size w wr)
      (fun i _ => len - (intOf i).toNat)
    case atStart => exact ⟨0, Nat.zero_le _, rfl, hown0, hbel⟩
    case round =>
      obtain ⟨k, hk, rfl, hown, hbr⟩ := hrel
      clear hown0 hbel
      by_cases hlt : k < len
      · have hst := ifill_step zs len k hzl hlt
        have hcx : wr.cell? ⟨b, off + k, none⟩ = some (.int .i64 (zs.getD k 0)) := (hbr.cell (by exact hb)).trans (hc k hlt)
        generalize zs.getD k 0 = z at hcx hst
        have hfz := hown.frozenAt k
        obtain ⟨u, hu⟩ : ∃ u, wr.cell? ⟨w.heap.size, k, none⟩ = some u := by
          rw [hown.cellAt k (by omega)]
          exact ⟨_, List.getElem?_eq_getElem (by rw [hown.1]; omega)⟩
        have R := hown.stored k (.int .i64 z)
        rw [hst] at R
        have HR := R.1
        have HB : Below w.heap.size w (wr.setCell ⟨w.heap.size, k, none⟩ (.int .i64 z)) := hbr.setCell (Nat.le_refl _) _
        clear R hown hst
        go_wp2
        go_roundw
        case rel => exact ⟨k + 1, by omega, by go_num, HR, HB⟩
        case measure => simp [intOf]; omega
      · obtain rfl : k = len := by omega
        go_wp2
        go_ret
        refine ⟨rfl, ?_, hbr⟩
        simpa [← hzl] using hown

end Go.Proofs.YtldiilmpmcbjkaaGreatDoor
