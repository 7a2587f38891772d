/- What is proved here: the contract of the laws' helper function that counts bytes (szByteS). -/
import Derived.Test.YtihdmdbekdadlaaChecked
import Derived.Test.YtihdmdbekdadlaaJ1
import Derived.WalkKit
import Derived.WalkLawsBesides
import Derived.WalkSmall
import Derived.KernelRfl
import Derived.WalkSpells
import Derived.Test.YtihdmdbekdadlaaJ6
import Derived.Deep.RegionWith
import Derived.Test.YtihdmdbekdadlaaJ5
namespace Go.Proofs.Ytihdmdbekdadlaa
open Go.RowKit
set_option linter.unusedVariables false
set_option maxRecDepth 100000

theorem szByteS_any (a : Option Addr) (n cap : Nat) (left : Int) (w : World) (h0 : 0 ≤ left) (h1 : left ≤ 1099511627776) (hn : n ≤ maxLen) :
    Calls Try.prog 60 #[.slice a n cap, .int .i64 left] w fun e w' => e = .returned (.int .i64 (if left - n < 0 then -1 else left - n)) ∧ w' = w := by
  unfold maxLen at hn
  by_cases h : left - n < 0
  · rw [if_pos h]
    have hd : decide (left - (n : Int) < 0) = true := decide_eq_true h
    go_enter Try.func60, Try.ntmps60
    go_wp2
    go_ret
    exact ⟨rfl, rfl⟩
  · rw [if_neg h]
    have hd : decide (left - (n : Int) < 0) = false := decide_eq_false h
    go_enter Try.func60, Try.ntmps60
    go_wp2
    go_ret
    exact ⟨rfl, rfl⟩

end Go.Proofs.Ytihdmdbekdadlaa

/- What is proved here: how an argument of a kind reads, by its walk; it holds for every program. -/
namespace Go.Proofs.Ytihdmdbekdadlaa
open Go.RowKit
set_option linter.unusedVariables false
set_option maxRecDepth 100000

section
variable {H : Type} {enc : TypeId × Value → H} {P : Program} {w : World} {sp : Nat → Bool} {held : Bool}

/-- Cells of the type t read as a thing of the kind. -/
def Opens {α β : Type} (enc : TypeId × Value → H) (P : Program) (w : World) (sp : Nat → Bool) (held : Bool) (K : Kd α β) (t : TypeId) : Prop :=
  ∀ (fuel : Nat) (cs : List Value) (y : DataW H × List MemPlace), cs.length = K.m → DataW.trod enc P w 0 sp held fuel t cs = some y → ∃ e x, cs = K.vals e x ∧ K.Ok w e x

theorem one_cell {cs : List Value} (h : cs.length = 1) : ∃ v, cs = [v] := by
  match cs, h with
  | [v], _ => exact ⟨v, rfl⟩

theorem opens_int {t : TypeId} (ut : P.underlying t = some (.int .i64)) : Opens enc P w sp held intK t := by
  intro fuel cs y hl h
  obtain ⟨v, rfl⟩ := one_cell hl
  obtain ⟨n, rfl, hn⟩ := field_int ut h
  exact ⟨(), n, rfl, hn⟩

theorem opens_bool {t : TypeId} (ut : P.underlying t = some .bool) : Opens enc P w sp held boolK t := by
  intro fuel cs y hl h
  obtain ⟨v, rfl⟩ := one_cell hl
  obtain ⟨b, e, _⟩ := DataW.trod_bool ut h
  simp only [List.cons.injEq, and_true] at e
  subst e
  exact ⟨(), b, rfl, trivial⟩

theorem opens_bytes {t tu : TypeId} (us : P.underlying t = some (.slice tu)) (uu : P.underlying tu = some (.int .u8)) (cu : P.cellsOf tu = 1) : Opens enc P w sp held bytesK t := by
  intro fuel cs y hl h
  obtain ⟨v, rfl⟩ := one_cell hl
  rcases ChangeShapes.open_ints us uu cu h with ⟨e2, _⟩ | ⟨sa, sl, sc, zs, e2, _, hsl, hsm, hzl, _, hzc, hzw⟩
  · simp only [List.cons.injEq, and_true] at e2
    subst e2
    exact ⟨⟨none, 0, 0⟩, [], rfl, ⟨rfl, fun n hn => by simp at hn, fun _ => rfl, fun y hy => by cases hy⟩, Nat.le_refl _, Nat.zero_le _, fun _ => rfl⟩
  · simp only [List.cons.injEq, and_true] at e2
    subst e2
    have hzl' : sl ≤ zs.length := by rw [hzl]; split <;> omega
    refine ⟨⟨some sa, sl, sc⟩, zs.take sl, rfl, ⟨by simp; omega, fun n hn => ?_, (fun e => (by cases e)), fun y hy j hj => ?_⟩, hsl, hsm, fun e => by cases e⟩
    · exact bounds_u8 (hzw n (List.mem_of_mem_take hn))
    · cases hy
      have hj' : j < sl := hj
      rw [hzc j (by omega), getD_at _ j (by omega), getD_at _ j (by simp; omega), List.getElem_take]

/-- A slice of a kind. -/
theorem opens_row {α β : Type} {K : Kd α β} {t e T : TypeId} (ht : P.underlying t = some (.slice e)) (hc : P.cellsOf e = K.m) (hm : 0 < K.m) (each : Opens enc P w sp held K e) : Opens enc P w sp held (rowK K T) t := by
  intro fuel cs y hl h
  obtain ⟨v, rfl⟩ := one_cell hl
  obtain ⟨d, ps⟩ := y
  rcases DataW.trod_slice ht h with ⟨hn, _⟩ | ⟨x, len, cap, elems, rest, n, _, hcs, _, _, hlc, hm', hlen, hel, _⟩
  · simp only [List.cons.injEq, and_true] at hn
    subst hn
    exact ⟨⟨none, 0, 0⟩, [], rfl, rfl, Nat.le_refl _, Nat.zero_le _, fun _ => rfl, fun hp => absurd hp (Nat.lt_irrefl _)⟩
  · simp only [List.cons.injEq, and_true] at hcs
    subst hcs
    have each' : ∀ i, i < len → ∃ (el : β) (a : α), x.spot = none ∧ x.block < w.heap.size ∧ (∀ j v, (K.vals el a)[j]? = some v → w.cell? ⟨x.block, x.off + i * K.m + j, none⟩ = some v) ∧ K.Ok w el a := by
      intro i hi
      have cellsAt : ∀ i, i < len → ∃ cs : List Value, cs.length = K.m ∧ (∀ (j : Nat) (hj : j < cs.length), w.cell? ((x.add (i * K.m)).add j) = some cs[j]) ∧ DataW.trod enc P w 0 sp held n e cs = elems[i]? := by
        intro i hi
        have hE := hel i hi
        rw [List.getElem?_eq_getElem (by omega), Option.bind_eq_some_iff, hc] at hE
        obtain ⟨cs, hcells, htr⟩ := hE
        obtain ⟨_, hcl, hcell⟩ := World.cells?_some hcells
        refine ⟨cs, hcl, fun j hj => ?_, by rw [htr, List.getElem?_eq_getElem (by omega)]⟩
        have := hcell j (by omega)
        rw [List.getElem?_eq_getElem hj] at this
        exact this
      have hsp : x.spot = none := by
        obtain ⟨cs0, hl0, hc0, _⟩ := cellsAt 0 (by omega)
        have q := hc0 0 (by omega)
        simpa [Addr.add] using World.cell?_spot q
      obtain ⟨cs, hl1, hc1, ht1⟩ := cellsAt i hi
      obtain ⟨xb, xo, xs⟩ := x
      simp only at hsp
      subst hsp
      rw [List.getElem?_eq_getElem (by omega)] at ht1
      obtain ⟨el, a, rfl, ho⟩ := each _ _ _ hl1 ht1
      refine ⟨el, a, rfl, ?_, fun j v hv => ?_, ho⟩
      · have q := hc1 0 (by omega)
        rw [add_none, add_none] at q
        have := lt_of_cell q
        exact this
      · obtain ⟨hj, rfl⟩ := List.getElem?_eq_some_iff.1 hv
        have := hc1 j hj
        rw [add_none, add_none] at this
        exact this
    have build : ∀ k, k ≤ len → ∃ al : List α, al.length = k ∧ ∀ i a, al[i]? = some a → ∃ el, (∀ j v, (K.vals el a)[j]? = some v → w.cell? ⟨x.block, x.off + i * K.m + j, none⟩ = some v) ∧ K.Ok w el a := by
      intro k
      induction k with
      | zero => exact fun _ => ⟨[], rfl, fun i a ha => by simp at ha⟩
      | succ k ih =>
        intro hk
        obtain ⟨al, q1, q2⟩ := ih (by omega)
        obtain ⟨el, a, _, _, r1, r2⟩ := each' k (by omega)
        refine ⟨al ++ [a], by simp [q1], fun i b hb => ?_⟩
        rcases Nat.lt_or_ge i k with h' | h'
        · rw [List.getElem?_append_left (by omega)] at hb
          exact q2 i b hb
        · have hi : i < (al ++ [a]).length := (List.getElem?_eq_some_iff.1 hb).1
          simp at hi
          obtain rfl : i = k := by omega
          rw [List.getElem?_append_right (by omega), q1, Nat.sub_self] at hb
          simp at hb
          subst hb
          exact ⟨el, r1, r2⟩
    obtain ⟨al, q1, q2⟩ := build len (Nat.le_refl _)
    refine ⟨⟨some x, len, cap⟩, al, rfl, q1.symm, hlc, hm', (fun e => by cases e), fun hp => ?_⟩
    obtain ⟨_, _, hsp, hlt, _⟩ := each' 0 hp
    refine ⟨x.block, x.off, ?_, hlt, q2⟩
    obtain ⟨b, o, s⟩ := x
    simp only at hsp
    subst hsp
    rfl

/-- The fields of a struct, one behind the other: the first cells, and the rest. -/
theorem opens_pair {α β α' β' : Type} {K : Kd α β} {L : Kd α' β'} {cs : List Value} (hl : cs.length = K.m + L.m)
    (h1 : ∃ e x, cs.take K.m = K.vals e x ∧ K.Ok w e x) (h2 : ∃ e x, cs.drop K.m = L.vals e x ∧ L.Ok w e x) : ∃ e x, cs = (pairK K L).vals e x ∧ (pairK K L).Ok w e x := by
  obtain ⟨e, x, q1, q2⟩ := h1
  obtain ⟨e', x', r1, r2⟩ := h2
  refine ⟨(e, e'), (x, x'), ?_, q2, r2⟩
  show cs = K.vals e x ++ L.vals e' x'
  rw [← q1, ← r1, List.take_append_drop]

/-- A field of a struct. -/
theorem opens_field {α β : Type} {K : Kd α β} {t : TypeId} {fs : Array Field} {fuel : Nat} {cs : List Value} {y : DataW H × List MemPlace} (ht : P.underlying t = some (.struct fs)) (h : DataW.trod enc P w 0 sp held fuel t cs = some y)
    (i : Nat) (f : Field) (hf : fs[i]? = some f) {u : TypeId} {o : Nat} (hu : f.type = u) (ho : f.offset = o) (hc : P.cellsOf u = K.m) (hk : Opens enc P w sp held K u) (hl : o + K.m ≤ cs.length) :
    ∃ e x, (cs.drop o).take K.m = K.vals e x ∧ K.Ok w e x := by
  obtain ⟨d, ps⟩ := y
  obtain ⟨xs, m, _, _, _, hxl, hfs⟩ := DataW.trod_struct ht h
  have g := hfs i f hf
  have hi : i < xs.length := by rw [hxl]; exact (Array.getElem?_eq_some_iff.1 hf).1
  rw [List.getElem?_eq_getElem hi, hu, ho, hc] at g
  exact hk _ _ _ (by rw [List.length_take, List.length_drop]; omega) g

/-- An argument. -/
theorem opens_arg {α β : Type} {K : Kd α β} {t : TypeId} {v : Value} {d : DataW H} {ps : List MemPlace} (hk : Opens enc P w sp held K t) (hv : ∃ cs, v = .agg cs ∧ cs.size = P.cellsOf t) (hc : P.cellsOf t = K.m) (h : DataW.Trod enc P w 0 sp held t v d ps) :
    ∃ e x, v = .agg (K.vals e x).toArray ∧ K.Ok w e x := by
  obtain ⟨cs, rfl, hs⟩ := hv
  obtain ⟨fuel, h⟩ := h
  have h' : DataW.trod enc P w 0 sp held fuel t cs.toList = some (d, ps) := h
  obtain ⟨e, x, q1, q2⟩ := hk _ _ _ (by rw [Array.length_toList, hs, hc]) h'
  exact ⟨e, x, by rw [← q1], q2⟩
end

end Go.Proofs.Ytihdmdbekdadlaa

/- What is proved here: plain facts on snapshots: their kinds, and how great they are; no program is named. -/
namespace Go.Proofs.Ytihdmdbekdadlaa
open Go.RowKit
set_option linter.unusedVariables false
set_option maxRecDepth 100000

/-- A recent signer: a number, an address. A vote: signer, target, whether to add. A snapshot: a number, signers, recents, votes. -/
abbrev Rc := Int × List Int
abbrev Vt := List Int × List Int × Bool
abbrev Sn := Int × List (List Int) × List Rc × List Vt
abbrev RcS := Unit × Sl
abbrev VtS := Sl × Sl × Unit
abbrev SnS := Unit × Sl × Sl × Sl

def rcK : Kd Rc RcS := pairK intK bytesK
def vtK : Kd Vt VtS := pairK bytesK (pairK bytesK boolK)
def snK (TB TR TV : TypeId) : Kd Sn SnS := pairK intK (pairK (rowK bytesK TB) (pairK (rowK rcK TR) (rowK vtK TV)))

/-- The four cells of a snapshot. -/
def snvals (e : SnS) (x : Sn) : Array Value := #[.int .i64 x.1, .slice e.2.1.a e.2.1.n e.2.1.c, .slice e.2.2.1.a e.2.2.1.n e.2.2.1.c, .slice e.2.2.2.a e.2.2.2.n e.2.2.2.c]

theorem snvals_eq (TB TR TV : TypeId) (e : SnS) (x : Sn) : ((snK TB TR TV).vals e x).toArray = snvals e x := rfl

/-- What is left of a number behind so many: below 0: -1. -/
def szOf (left : Int) (n : Nat) : Int := if left - n < 0 then -1 else left - n

def rcSz (x : Rc) : Nat := x.2.length
def vtSz (x : Vt) : Nat := x.1.length + x.2.1.length
/-- The sum over a list. -/
def lsum {α : Type} (f : α → Nat) (xs : List α) : Nat := (xs.map f).sum
def snSz (x : Sn) : Nat := (x.2.1.length + lsum List.length x.2.1) + (x.2.2.1.length + lsum rcSz x.2.2.1) + (x.2.2.2.length + lsum vtSz x.2.2.2)

theorem lsum_succ {α : Type} (f : α → Nat) (xs : List α) (k : Nat) (x : α) (h : xs[k]? = some x) : lsum f (xs.take (k + 1)) = lsum f (xs.take k) + f x := by
  obtain ⟨hk, e⟩ := List.getElem?_eq_some_iff.1 h
  unfold lsum
  rw [List.take_succ_eq_append_getElem hk, List.map_append, List.sum_append, e]
  simp

theorem lsum_take {α : Type} (f : α → Nat) (xs : List α) (k : Nat) : lsum f (xs.take k) ≤ lsum f xs := by
  induction xs generalizing k with
  | nil => simp [lsum]
  | cons x r ih =>
    cases k with
    | zero => simp [lsum]
    | succ k => have := ih k; simp [lsum] at this ⊢; omega

theorem lsum_mem {α : Type} (f : α → Nat) (xs : List α) (x : α) (h : x ∈ xs) : f x ≤ lsum f xs := by
  induction xs with
  | nil => simp at h
  | cons y r ih =>
    rcases List.mem_cons.1 h with e | e
    · subst e; simp [lsum]
    · have := ih e; simp [lsum] at this ⊢; omega

theorem szBs_lsum (zss : List (List Int)) : ∀ left : Int, 0 ≤ left → szBs left zss = szOf left (lsum List.length zss) := by
  induction zss with
  | nil => intro left h; unfold szBs szOf lsum; simp; omega
  | cons z r ih =>
    intro left h
    have e : lsum List.length (z :: r) = z.length + lsum List.length r := by simp [lsum]
    unfold szBs
    rw [e]
    split
    · rename_i hn
      unfold szOf
      rw [if_pos (by omega)]
    · rename_i hn
      rw [ih _ (by omega)]
      unfold szOf
      split <;> split <;> omega

theorem szBss_lsum (zss : List (List Int)) (left : Int) (h : 0 ≤ left) : szBss left zss = szOf left (zss.length + lsum List.length zss) := by
  unfold szBss
  split
  · unfold szOf
    rw [if_pos (by omega)]
  · rw [szBs_lsum _ _ (by omega)]
    unfold szOf
    split <;> split <;> omega

theorem szOf_szOf {left : Int} {a b : Nat} (h : 0 ≤ szOf left a) : szOf (szOf left a) b = szOf left (a + b) := by
  unfold szOf at h ⊢
  split at h
  · omega
  · rename_i hn
    rw [if_neg hn]
    split <;> split <;> omega

theorem szOf_neg {left : Int} {a b : Nat} (h : szOf left a < 0) (hab : a ≤ b) : szOf left b = -1 := by
  unfold szOf at h ⊢
  split at h
  · rw [if_pos (by omega)]
  · omega

theorem szOf_ok {left : Int} {a : Nat} (h : 0 ≤ szOf left a) : (a : Int) ≤ left := by
  unfold szOf at h
  split at h <;> omega

/-- The bytes of rows of bytes. -/
theorem bs_of_row {w : World} {s : Sl} {zss : List (List Int)} (h : RowOk bytesK w s zss) : BsRow w s.a s.n zss := by
  refine ⟨h.len.symm, fun z hz => ?_, fun hp => ?_⟩
  · obtain ⟨i, hi⟩ := List.getElem?_of_mem hz
    have hil := (List.getElem?_eq_some_iff.1 hi).1
    obtain ⟨b, off, _, _, k⟩ := h.pos (by rw [h.len]; omega)
    obtain ⟨e, _, ho⟩ := k i z hi
    have ho' : BOk w e z := ho
    have := ho'.row.1
    have := ho'.room
    have := ho'.max
    omega
  · obtain ⟨b, off, ha, _, k⟩ := h.pos hp
    refine ⟨b, off, ha, fun i z hi => ?_⟩
    obtain ⟨e, q, ho⟩ := k i z hi
    have ho' : BOk w e z := ho
    have q0 := q 0 _ rfl
    refine ⟨e.a, e.n, e.c, ?_, ho'.row⟩
    have e1 : bytesK.m = 1 := rfl
    rw [e1, Nat.mul_one, Nat.add_zero] at q0
    exact q0

theorem bsnil_of_row {w : World} {s : Sl} {zss : List (List Int)} (h : RowOk bytesK w s zss) : BsNil w s.a s.n := by
  intro b off e i hi
  obtain ⟨b', off', ha, _, k⟩ := h.pos (by omega)
  rw [e] at ha
  simp only [Option.some.injEq, Addr.mk.injEq, and_true] at ha
  obtain ⟨rfl, rfl⟩ := ha
  obtain ⟨z, hz⟩ : ∃ z, zss[i]? = some z := ⟨_, List.getElem?_eq_getElem (by have := h.len; omega)⟩
  obtain ⟨el, q, ho⟩ := k i z hz
  have ho' : BOk w el z := ho
  have q0 := q 0 _ rfl
  have e1 : bytesK.m = 1 := rfl
  rw [e1, Nat.mul_one, Nat.add_zero] at q0
  exact ⟨el.a, el.n, el.c, q0, ho'.nil⟩

/-- Rows of bytes in memory of their own, told by colours before, told by paths. -/
theorem row_of_cs {w : World} {B r c : Nat} {d : Nat → Nat} {s : Sl} {zss : List (List Int)} (h : CS w B d r c s zss) (hr : ∀ i, r ≠ c + 3 * i) (p : Path) : ∃ d' : Nat → Path, RowOwn bytesK 22 w B d' p s zss := by
  obtain ⟨h1, es, h2, h3, h4, h5⟩ := h
  refine ⟨fun g => if d g = r then p else p ++ [(d g - c) / 3], h1, es, es.map Sl.v, h2, OwnS.of h3, fun x hx => ?_, fun i e z he hz => ?_⟩
  · have := h4 x.block (by rw [hx]; rfl)
    exact if_pos this
  · obtain ⟨q1, q2, q3, q4⟩ := h5 i e z he hz
    refine ⟨fun j v hv => ?_, q2, q3, fun x hx => ?_⟩
    · match j, hv with
      | 0, hv =>
        simp only [bytesK, List.getElem?_cons_zero, Option.some.injEq] at hv
        subst hv
        have e1 : bytesK.m = 1 := rfl
        rw [e1, Nat.mul_one, Nat.add_zero, List.getElem?_map, he]
        rfl
    · have hc := q4 x.block (by rw [hx]; rfl)
      show (if d x.block = r then p else p ++ [(d x.block - c) / 3]) = p ++ [i]
      rw [hc, if_neg (fun e => hr i e.symm), show c + 3 * i - c = 3 * i by omega, Nat.mul_div_cancel_left _ (by omega)]

end Go.Proofs.Ytihdmdbekdadlaa

/- What is proved here: plain facts on pairs: their kind, how great they are, and their faults; no program is named. -/
namespace Go.Proofs.Ytihdmdbekdadlaa
open Go.RowKit
set_option linter.unusedVariables false
set_option maxRecDepth 100000

/-- A pair: a key and a value. -/
abbrev Pr := List Int × List Int
abbrev PrSl := Sl × Sl

def prK : Kd Pr PrSl := pairK bytesK bytesK

def prSz (x : Pr) : Nat := x.1.length + x.2.length

/-- Whether a pair's key or value is not as it must be. -/
def prBad (x : Pr) : Bool := decide (6 < x.1.length) || decide (x.2.length < 1) || decide (60 < x.2.length)

/-- The fault of the pairs from a place on. -/
def prFrom (xs : List Pr) : List Pr → Nat → Int
  | [], _ => 0
  | x :: r, k => if prBad x then 1 else if (xs.take k).any (fun y => decide (y.1 = x.1)) then 6 else prFrom xs r (k + 1)

def prFlt (xs : List Pr) : Int := if 12 < xs.length then 2 else prFrom xs xs 0

theorem prFrom_step (xs : List Pr) (i : Nat) (x : Pr) (h : xs[i]? = some x) : prFrom xs (xs.drop i) i = if prBad x then 1 else if (xs.take i).any (fun y => decide (y.1 = x.1)) then 6 else prFrom xs (xs.drop (i + 1)) (i + 1) := by
  obtain ⟨hi, e⟩ := List.getElem?_eq_some_iff.1 h
  rw [List.drop_eq_getElem_cons hi, e]
  rfl

theorem prFrom_end (xs : List Pr) (i : Nat) (h : xs.length ≤ i) : prFrom xs (xs.drop i) i = 0 := by
  rw [List.drop_eq_nil_of_le h]
  rfl

theorem any_no {xs : List Pr} {i : Nat} {z : List Int} (h : ∀ j y, j < i → xs[j]? = some y → y.1 ≠ z) : (xs.take i).any (fun y => decide (y.1 = z)) = false := by
  rw [List.any_eq_false]
  intro y hy
  obtain ⟨j, hj, e⟩ := List.mem_iff_getElem.1 hy
  have hj2 : j < i ∧ j < xs.length := by simp at hj; omega
  have := h j y hj2.1 (by rw [← e, List.getElem_take]; exact List.getElem?_eq_getElem hj2.2)
  simpa using this

theorem any_yes {xs : List Pr} {i j : Nat} {y : Pr} {z : List Int} (hj : j < i) (hy : xs[j]? = some y) (e : y.1 = z) : (xs.take i).any (fun y => decide (y.1 = z)) = true := by
  rw [List.any_eq_true]
  refine ⟨y, ?_, by simp [e]⟩
  have : (xs.take i)[j]? = some y := by rw [List.getElem?_take, if_pos hj]; exact hy
  exact List.mem_of_getElem? this

end Go.Proofs.Ytihdmdbekdadlaa

/- What is proved here: the contracts of the laws' helper functions that count pairs (szPairS). -/
namespace Go.Proofs.Ytihdmdbekdadlaa
open Go.RowKit
set_option linter.unusedVariables false
set_option maxRecDepth 100000

theorem szPair_any (s0 : Sl) (z0 : List Int) (s1 : Sl) (z1 : List Int) (left : Int) (w : World) (o0 : BOk w s0 z0) (o1 : BOk w s1 z1) (h0 : 0 ≤ left) (h1 : left ≤ 1099511627776) :
    Calls Try.prog 47 #[.agg #[.slice s0.a s0.n s0.c, .slice s1.a s1.n s1.c], .int .i64 left] w fun e w' => e = .returned (.int .i64 (szOf left (prSz (z0, z1)))) ∧ Below w.heap.size w w' := by
  have HB := hide (below_alloc w (.cells #[.slice s0.a s0.n s0.c, .slice s1.a s1.n s1.c] 68))
  have l0 : z0.length = s0.n := o0.row.1
  have HS0 := hide (fun (W : World) (L : Int) (q0 : 0 ≤ L) (q1 : L ≤ 1099511627776) => szByteS_any s0.a s0.n s0.c L W q0 q1 (Nat.le_trans o0.room o0.max))
  have l1 : z1.length = s1.n := o1.row.1
  have HS1 := hide (fun (W : World) (L : Int) (q0 : 0 ≤ L) (q1 : L ≤ 1099511627776) => szByteS_any s1.a s1.n s1.c L W q0 q1 (Nat.le_trans o1.room o1.max))
  have e0 : prSz (z0, z1) = s0.n + s1.n := by simp only [prSz]; omega
  rw [e0]
  clear e0 l0 l1 o0 o1
  by_cases c0 : left - s0.n < 0
  · have D0 := hide (fun W => (unhide HS0) W left (by omega) (by omega))
    rw [if_pos c0] at D0
    go_enter Try.func47, Try.ntmps47
    go_wp2_with fail
    refine ((unhide D0) _).mono ?_
    rintro e w' ⟨rfl, rfl⟩
    go_wp2_with fail
    go_ret
    exact ⟨ret_int (by unfold szOf; rw [if_pos (by omega)]), unhide HB⟩
  · have D0 := hide (fun W => (unhide HS0) W left (by omega) (by omega))
    rw [if_neg c0] at D0
    obtain ⟨L1, eL1⟩ : ∃ L : Int, L = left - s0.n := ⟨_, rfl⟩
    rw [← eL1] at D0
    have d0 : decide (L1 < 0) = false := decide_eq_false (by omega)
    have EL1 := hide eL1
    have q0 : 0 ≤ L1 ∧ L1 ≤ 1099511627776 := by omega
    clear eL1
    go_enter Try.func47, Try.ntmps47
    go_wp2_with fail
    refine ((unhide D0) _).mono ?_
    rintro e w' ⟨rfl, rfl⟩
    by_cases c1 : L1 - s1.n < 0
    · have D1 := hide (fun W => (unhide HS1) W L1 (by omega) (by omega))
      rw [if_pos c1] at D1
      go_wp2_with fail
      refine ((unhide D1) _).mono ?_
      rintro e w' ⟨rfl, rfl⟩
      go_wp2_with fail
      go_ret
      have eL1 := unhide EL1; exact ⟨ret_int (by unfold szOf; rw [if_pos (by omega)]), unhide HB⟩
    · have D1 := hide (fun W => (unhide HS1) W L1 (by omega) (by omega))
      rw [if_neg c1] at D1
      obtain ⟨L2, eL2⟩ : ∃ L : Int, L = L1 - s1.n := ⟨_, rfl⟩
      rw [← eL2] at D1
      have d1 : decide (L2 < 0) = false := decide_eq_false (by omega)
      have EL2 := hide eL2
      have q1 : 0 ≤ L2 ∧ L2 ≤ 1099511627776 := by omega
      clear eL2
      go_wp2_with fail
      refine ((unhide D1) _).mono ?_
      rintro e w' ⟨rfl, rfl⟩
      go_wp2_with fail
      go_ret
      have eL1 := unhide EL1; have eL2 := unhide EL2; exact ⟨ret_int (by unfold szOf; rw [if_neg (by omega)]; omega), unhide HB⟩

set_option maxHeartbeats 1000000 in
theorem szPairS_any (s : Sl) (xs : List Pr) (left : Int) (w : World) (h : RowOk prK w s xs) (h0 : 0 ≤ left) (h1 : left ≤ 1099511627776) :
    Calls Try.prog 16 #[.slice s.a s.n s.c, .int .i64 left] w fun e w' => e = .returned (.int .i64 (szOf left (xs.length + lsum prSz xs))) ∧ Below w.heap.size w w' := by
  obtain ⟨a, len, cap⟩ := s
  have hil : len = xs.length := h.len
  have hl : len ≤ maxLen := Nat.le_trans h.room h.max
  unfold maxLen at hl
  rw [← hil]
  by_cases hs : left - len < 0
  · have e : szOf left (len + lsum prSz xs) = -1 := by unfold szOf; rw [if_pos (by omega)]
    rw [e]
    have hd : decide (left - (len : Int) < 0) = true := decide_eq_true hs
    clear h
    go_enter Try.func16, Try.ntmps16
    go_wp2_with fail
    go_ret
    exact ⟨rfl, Below.refl _ _⟩
  · have hd : decide (left - (len : Int) < 0) = false := decide_eq_false hs
    rcases Nat.eq_zero_or_pos len with hz | hp
    · subst hz
      obtain rfl : xs = [] := List.length_eq_zero_iff.1 hil.symm
      clear h hil hl hd hs
      have hd : decide (left < 0) = false := decide_eq_false (by omega)
      have HE : Hid (szOf left (0 + lsum prSz ([] : List Pr)) = left) := by show _ = _; unfold szOf lsum; simp; omega
      go_enter Try.func16, Try.ntmps16
      go_wp2_with fail
      refine wp_loop_rounds 1 ?_
      rw [rounds_succ]
      go_wp2_with fail
      go_ret
      exact ⟨ret_int (by rw [unhide HE]), Below.refl _ _⟩
    · obtain ⟨b, off, rfl, hb, hc⟩ := h.pos hp
      have HC := hide (fun (W : World) (hbl : Below w.heap.size w W) (i : Nat) (x : Pr) (hx : xs[i]? = some x) => match hc i x hx with | ⟨e, c, o⟩ => (⟨e, fun j v hv => (hbl.cell (p := ⟨b, off + i * prK.m + j, none⟩) hb).trans (c j v hv), prK.below o hbl (Nat.le_refl _)⟩ : ∃ e, (∀ j v, (prK.vals e x)[j]? = some v → W.cell? ⟨b, off + i * prK.m + j, none⟩ = some v) ∧ prK.Ok W e x))
      have HL := hide hil
      clear h hc hil
      go_enter Try.func16, Try.ntmps16
      go_wp2_with fail
      go_loopw [1, 5] (fun q i wr => ∃ (k : Nat) (L : Int), k ≤ len ∧ i = .int .i64 k ∧ q = .int .i64 L ∧ 0 ≤ L ∧ L = left - len - (lsum prSz (xs.take k) : Nat) ∧ Below w.heap.size w wr) (fun _ i _ => len - (intOf i).toNat)
      case atStart => exact ⟨0, _, Nat.zero_le _, rfl, rfl, by omega, by simp [lsum], Below.refl _ _⟩
      case round =>
        obtain ⟨k, L, hk, rfl, rfl, hL0, hL1, hbr⟩ := hrel
        by_cases hlt : k < len
        · obtain ⟨x, hx⟩ : ∃ x, xs[k]? = some x := ⟨_, List.getElem?_eq_getElem (by rw [← unhide HL]; exact hlt)⟩
          have hsum := lsum_succ prSz xs k x hx
          have htk := lsum_take prSz xs (k + 1)
          obtain ⟨⟨s0, s1⟩, c, o⟩ := (unhide HC) wr hbr k x hx
          obtain ⟨z0, z1⟩ := x
          have c0 := c 0 _ rfl
          have c1 := c 1 _ rfl
          simp only [Nat.add_zero, show prK.m = 2 from rfl] at c0 c1
          have HZ := hide (fun (W : World) (hbl : Below wr.heap.size wr W) => szPair_any s0 z0 s1 z1 L W (bytesK.below o.1 hbl (Nat.le_refl _)) (bytesK.below o.2 hbl (Nat.le_refl _)) hL0 (by omega))
          have HB := hide hbr
          have i1 : (0 : Int) ≤ (k : Int) := by omega
          have i2 : (k : Int) < (len : Int) := by omega
          have hL2 : L ≤ left := by omega
          generalize prSz (z0, z1) = sz at HZ hsum
          have HN := hide (And.intro hL1 (And.intro hsum htk))
          have HL0 := hide hL2
          clear c o hbr hx hsum htk hL1 hL2
          by_cases hneg : L - sz < 0
          · have e1 : szOf L sz = -1 := if_pos hneg
            rw [e1] at HZ
            go_wp2_with fail
            refine ((unhide HZ) _ (by first | exact Below.refl _ _ | exact (Below.refl _ _).drew)).mono ?_
            rintro e w1 ⟨rfl, b1⟩
            go_wp2_with fail
            go_ret
            obtain ⟨a1, a2, a3⟩ := unhide HN
            exact ⟨ret_int (by unfold szOf; rw [if_pos (by omega)]), (unhide HB).trans (b1.mono (unhide HB).size)⟩
          · have e1 : szOf L sz = L - sz := if_neg hneg
            rw [e1] at HZ
            have hd2 : decide (L - (sz : Int) < 0) = false := decide_eq_false hneg
            go_wp2_with fail
            refine ((unhide HZ) _ (by first | exact Below.refl _ _ | exact (Below.refl _ _).drew)).mono ?_
            rintro e w1 ⟨rfl, b1⟩
            go_wp2_with fail
            go_roundw
            case rel => exact ⟨k + 1, L - sz, by omega, by go_num, rfl, by omega, by obtain ⟨a1, a2, a3⟩ := unhide HN; omega, (unhide HB).trans (b1.mono (unhide HB).size)⟩
            case measure => simp [intOf]; omega
        · obtain rfl : k = len := by omega
          rw [List.take_of_length_le (by rw [← unhide HL]; exact Nat.le_refl _)] at hL1
          have HR := hide hL1
          clear hL1
          go_wp2_with fail
          go_ret
          have hR := unhide HR
          exact ⟨ret_int (by unfold szOf; rw [if_neg (by omega)]; omega), hbr⟩

end Go.Proofs.Ytihdmdbekdadlaa

/- What is proved here: the contracts of the laws' helper functions that compare pairs (eqPairS). -/
namespace Go.Proofs.Ytihdmdbekdadlaa
open Go.RowKit
set_option linter.unusedVariables false
set_option maxRecDepth 100000

theorem below_twoP (w : World) (o1 o2 : Obj) : Below w.heap.size w ((w.alloc o1).alloc o2) := ((Below.refl _ _).alloc (Nat.le_refl _) _).alloc (by simp) _

theorem drop_sameP {α : Type} [DecidableEq α] (a b : List α) (k : Nat) (x y : α) (hx : a[k]? = some x) (hy : b[k]? = some y) : decide (a.drop k = b.drop k) = (decide (x = y) && decide (a.drop (k + 1) = b.drop (k + 1))) := by
  obtain ⟨h1, e1⟩ := List.getElem?_eq_some_iff.1 hx
  obtain ⟨h2, e2⟩ := List.getElem?_eq_some_iff.1 hy
  rw [List.drop_eq_getElem_cons h1, List.drop_eq_getElem_cons h2, e1, e2]
  simp

set_option maxHeartbeats 1000000 in
theorem eqPair_any (s0x : Sl) (z0x : List Int) (s1x : Sl) (z1x : List Int) (s0y : Sl) (z0y : List Int) (s1y : Sl) (z1y : List Int) (w : World) (o0 : BOk w s0x z0x) (q0 : BOk w s0y z0y) (m0 : z0x.length ≤ 1048576) (t0 : z0y.length ≤ 1048576) (o1 : BOk w s1x z1x) (q1 : BOk w s1y z1y) (m1 : z1x.length ≤ 1048576) (t1 : z1y.length ≤ 1048576) :
    Calls Try.prog 53 #[.agg #[.slice s0x.a s0x.n s0x.c, .slice s1x.a s1x.n s1x.c], .agg #[.slice s0y.a s0y.n s0y.c, .slice s1y.a s1y.n s1y.c]] w fun e w' => e = .returned (.bool (decide ((z0x, z1x) = (z0y, z1y)))) ∧ Below w.heap.size w w' := by
  have HR0 := hide (fun (W : World) (hb : Below w.heap.size w W) => eqByteS_any s0x.a s0y.a s0x.n s0x.c s0y.n s0y.c z0x z0y W (o0.row.below hb (Nat.le_refl _)) (q0.row.below hb (Nat.le_refl _)) (by have := o0.row.1; omega) (by have := q0.row.1; omega))
  have HR1 := hide (fun (W : World) (hb : Below w.heap.size w W) => eqByteS_any s1x.a s1y.a s1x.n s1x.c s1y.n s1y.c z1x z1y W (o1.row.below hb (Nat.le_refl _)) (q1.row.below hb (Nat.le_refl _)) (by have := o1.row.1; omega) (by have := q1.row.1; omega))
  have HB0 := hide (below_twoP w (.cells #[.slice s0x.a s0x.n s0x.c, .slice s1x.a s1x.n s1x.c] 69) (.cells #[.slice s0y.a s0y.n s0y.c, .slice s1y.a s1y.n s1y.c] 69))
  clear o0 q0 m0 t0 o1 q1 m1 t1
  go_enter Try.func53, Try.ntmps53
  go_wp2_with fail
  refine ((unhide HR0) _ (unhide HB0)).mono ?_
  rintro e w0 ⟨rfl, m0, rfl⟩
  have HB1 := hide (below_drewN (unhide HB0) m0)
  by_cases c0 : z0x = z0y
  · subst c0
    have e0 : sameB z0x z0x = true := by simp [sameB]
    rw [e0]
    go_wp2_with fail
    refine ((unhide HR1) _ (unhide HB1)).mono ?_
    rintro e w1 ⟨rfl, m1, rfl⟩
    have HB2 := hide (below_drewN (unhide HB1) m1)
    by_cases c1 : z1x = z1y
    · subst c1
      have e1 : sameB z1x z1x = true := by simp [sameB]
      rw [e1]
      go_wp2_with fail
      go_ret
      exact ⟨ret_bool (by first | rfl | exact (decide_eq_true rfl).symm), by first | exact unhide HB2 | exact below_drewN (unhide HB0) _⟩
    · have e1 : sameB z1x z1y = false := by simp [sameB, c1]
      rw [e1]
      go_wp2_with fail
      go_ret
      exact ⟨ret_bool (decide_eq_false (fun e => by simp only [Prod.mk.injEq] at e; exact absurd (by first | exact e.1 | exact e.2 | exact e.2.1 | exact e.2.2) (c1))).symm, by first | exact unhide HB2 | exact below_drewN (unhide HB0) _⟩
  · have e0 : sameB z0x z0y = false := by simp [sameB, c0]
    rw [e0]
    go_wp2_with fail
    go_ret
    exact ⟨ret_bool (decide_eq_false (fun e => by simp only [Prod.mk.injEq] at e; exact absurd (by first | exact e.1 | exact e.2 | exact e.2.1 | exact e.2.2) (c0))).symm, by first | exact unhide HB1 | exact below_drewN (unhide HB0) _⟩

set_option maxHeartbeats 2000000 in
theorem eqPairS_any (s t : Sl) (xs ys : List Pr) (w : World) (ha : RowOk prK w s xs) (hb : RowOk prK w t ys) (hl : xs.length ≤ 1048576) (hl2 : ys.length ≤ 1048576) (hx : ∀ x ∈ xs, prSz x ≤ 1048576) (hy : ∀ y ∈ ys, prSz y ≤ 1048576) :
    Calls Try.prog 20 #[.slice s.a s.n s.c, .slice t.a t.n t.c] w fun e w' => e = .returned (.bool (decide (xs = ys))) ∧ Below w.heap.size w w' := by
  obtain ⟨a, la, ca⟩ := s
  obtain ⟨b, lb, cb⟩ := t
  have hxl : la = xs.length := ha.len
  have hyl : lb = ys.length := hb.len
  by_cases hne : la = lb
  · subst hne
    have hlen : (((la : Nat) : Int) != ((la : Nat) : Int)) = false := by simp
    rcases Nat.eq_zero_or_pos la with h0 | hp
    · subst h0
      obtain rfl : xs = [] := List.length_eq_zero_iff.1 hxl.symm
      obtain rfl : ys = [] := List.length_eq_zero_iff.1 hyl.symm
      clear ha hb hxl hyl hl hl2 hx hy
      go_enter Try.func20, Try.ntmps20
      go_wp2_with fail
      refine wp_loop_rounds 1 ?_
      rw [rounds_succ]
      go_wp2_with fail
      go_ret
      exact ⟨rfl, Below.refl _ _⟩
    · obtain ⟨ba, oa, ea, hba, hca⟩ := ha.pos hp
      obtain ⟨bb, ob, eb, hbb, hcb⟩ := hb.pos hp
      simp only at ea eb
      subst ea eb
      have HCA := hide (fun (W : World) (hbl : Below w.heap.size w W) (i : Nat) (x : Pr) (hx : xs[i]? = some x) => match hca i x hx with | ⟨e, c, o⟩ => (⟨e, fun j v hv => (hbl.cell (p := ⟨ba, oa + i * prK.m + j, none⟩) hba).trans (c j v hv), prK.below o hbl (Nat.le_refl _)⟩ : ∃ e, (∀ j v, (prK.vals e x)[j]? = some v → W.cell? ⟨ba, oa + i * prK.m + j, none⟩ = some v) ∧ prK.Ok W e x))
      have HCB := hide (fun (W : World) (hbl : Below w.heap.size w W) (i : Nat) (x : Pr) (hx : ys[i]? = some x) => match hcb i x hx with | ⟨e, c, o⟩ => (⟨e, fun j v hv => (hbl.cell (p := ⟨bb, ob + i * prK.m + j, none⟩) hbb).trans (c j v hv), prK.below o hbl (Nat.le_refl _)⟩ : ∃ e, (∀ j v, (prK.vals e x)[j]? = some v → W.cell? ⟨bb, ob + i * prK.m + j, none⟩ = some v) ∧ prK.Ok W e x))
      have HX := hide hx
      have HY := hide hy
      have HXL := hide hxl
      have HYL := hide hyl
      have hla : la ≤ 1048576 := by omega
      clear ha hb hca hcb hx hy hxl hyl hl hl2
      go_enter Try.func20, Try.ntmps20
      go_wp2_with fail
      go_loopw [5] (fun i wr => ∃ k : Nat, k ≤ la ∧ i = .int .i64 k ∧ decide (xs = ys) = decide (xs.drop k = ys.drop k) ∧ Below w.heap.size w wr) (fun i _ => la - (intOf i).toNat)
      case atStart => exact ⟨0, Nat.zero_le _, rfl, by simp, Below.refl _ _⟩
      case round =>
        obtain ⟨k, hk, rfl, hpre, hbr⟩ := hrel
        by_cases hlt : k < la
        · obtain ⟨x, hix⟩ : ∃ it, xs[k]? = some it := ⟨_, List.getElem?_eq_getElem (by rw [← unhide HXL]; exact hlt)⟩
          obtain ⟨y, hiy⟩ : ∃ it, ys[k]? = some it := ⟨_, List.getElem?_eq_getElem (by rw [← unhide HYL]; exact hlt)⟩
          have hst := drop_sameP xs ys k x y hix hiy
          rw [← hpre] at hst
          have mx := (unhide HX) x (List.mem_of_getElem? hix)
          have my := (unhide HY) y (List.mem_of_getElem? hiy)
          obtain ⟨⟨s0x, s1x⟩, c, o⟩ := (unhide HCA) wr hbr k x hix
          obtain ⟨⟨s0y, s1y⟩, d, q⟩ := (unhide HCB) wr hbr k y hiy
          obtain ⟨z0x, z1x⟩ := x
          obtain ⟨z0y, z1y⟩ := y
          have c0 := c 0 _ rfl
          have d0 := d 0 _ rfl
          have c1 := c 1 _ rfl
          have d1 := d 1 _ rfl
          simp only [Nat.add_zero, show prK.m = 2 from rfl] at c0 d0 c1 d1
          simp only [prSz] at mx my
          have HEQ := hide (fun (W : World) (hbl : Below wr.heap.size wr W) => eqPair_any s0x z0x s1x z1x s0y z0y s1y z1y W (bytesK.below o.1 hbl (Nat.le_refl _)) (bytesK.below q.1 hbl (Nat.le_refl _)) (by omega) (by omega) (bytesK.below o.2 hbl (Nat.le_refl _)) (bytesK.below q.2 hbl (Nat.le_refl _)) (by omega) (by omega))
          have HP := hide hpre
          have HS := hide hst
          have HB := hide hbr
          have i1 : (0 : Int) ≤ (k : Int) := by omega
          have i2 : (k : Int) < (la : Int) := by omega
          clear c d o q hst hpre hbr hix hiy mx my
          generalize decide ((z0x, z1x) = (z0y, z1y)) = sb at HEQ HS
          go_wp2_with fail
          go_region_with (first | (go_at_call 53; refine ((unhide HEQ) _ (by first | exact Below.refl _ _ | exact (Below.refl _ _).drew | exact below_drewN (Below.refl _ _) _)).mono ?_; rintro e w1 ⟨rfl, b1⟩))
          all_goals
            have HB1 := hide ((unhide HB).trans (Below.mono (Below.trans (b := _) (by first | exact Below.refl _ _ | exact (Below.refl _ _).drew | exact below_drewN (Below.refl _ _) _ : Below wr.heap.size wr _) b1) (unhide HB).size))
            clear b1
            cases sb
            · go_wp2_with fail
              go_ret
              exact ⟨ret_bool (by rw [unhide HS]; rfl), unhide HB1⟩
            · go_wp2_with fail
              go_roundw
              case rel => exact ⟨k + 1, by omega, by go_num, by rw [unhide HS]; simp, unhide HB1⟩
              case measure => simp [intOf]; omega
        · obtain rfl : k = la := by omega
          rw [List.drop_eq_nil_of_le (by rw [← unhide HXL]; exact Nat.le_refl _), List.drop_eq_nil_of_le (by rw [← unhide HYL]; exact Nat.le_refl _)] at hpre
          have HE := hide hpre
          clear hpre
          go_wp2_with fail
          go_ret
          exact ⟨ret_bool (by rw [unhide HE]; rfl), hbr⟩
  · have hlen : (((la : Nat) : Int) != ((lb : Nat) : Int)) = true := by simp; omega
    have HE : Hid (decide (xs = ys) = false) := decide_eq_false (fun e => hne (by rw [hxl, hyl, e]))
    clear ha hb hxl hyl hx hy
    go_enter Try.func20, Try.ntmps20
    go_wp2_with fail
    go_ret
    exact ⟨ret_bool (unhide HE).symm, Below.refl _ _⟩

end Go.Proofs.Ytihdmdbekdadlaa

/- What is proved here: plain facts on what a call made, path by path, and the contracts of the laws' helper functions that copy bytes and lists of them, told by kinds. -/
namespace Go.Proofs.Ytihdmdbekdadlaa
open Go.RowKit
set_option linter.unusedVariables false
set_option maxRecDepth 100000

/-- What was made, with whatever colours stand elsewhere. -/
def Kd.Made {α β : Type} (K : Kd α β) (w : World) (n B : Nat) (d : Nat → Path) (p : Path) (e : β) (x : α) : Prop := ∀ d' : Nat → Path, (∀ g, B ≤ g → g < n → d' g = d g) → K.Own w B d' p e x

theorem Kd.made {α β : Type} (K : Kd α β) {w : World} {B : Nat} {d : Nat → Path} {p : Path} {e : β} {x : α} (h : K.Own w B d p e x) : K.Made w w.heap.size B d p e x := fun d' hd => K.recol h (fun g h1 h2 _ => hd g h2 h1)

theorem Kd.Made.below {α β : Type} {K : Kd α β} {w w' : World} {n B C : Nat} {d : Nat → Path} {p : Path} {e : β} {x : α} (h : K.Made w n B d p e x) (hb : Below C w w') (hC : w.heap.size ≤ C) : K.Made w' n B d p e x := fun d' hd => K.ownBelow (h d' hd) hb hC

theorem Kd.ownSet {α β : Type} (K : Kd α β) {w : World} {B : Nat} {d : Nat → Path} {p : Path} {e : β} {x : α} (h : K.Own w B d p e x) {q : Addr} (hq : q.block < B) (v : Value) : K.Own (w.setCell q v) B d p e x :=
  K.frame h (fun g _ hg _ => heap_setCell_other w q g v (fun e => by omega))

theorem Kd.Made.set {α β : Type} {K : Kd α β} {w : World} {n B : Nat} {d : Nat → Path} {p : Path} {e : β} {x : α} (h : K.Made w n B d p e x) {q : Addr} (hq : q.block < B) (v : Value) : K.Made (w.setCell q v) n B d p e x := fun d' hd => K.ownSet (h d' hd) hq v

theorem Kd.Made.get {α β : Type} {K : Kd α β} {w : World} {n B : Nat} {d : Nat → Path} {p : Path} {e : β} {x : α} (h : K.Made w n B d p e x) : K.Own w B d p e x := h d (fun _ _ _ => rfl)

theorem toB_kd (p : Path) (s : Sl) (z : List Int) (w : World) (o : BOk w s z) (hl : z.length ≤ 1048576) :
    Calls Try.prog 27 #[.slice s.a s.n s.c] w fun e w' => ∃ (t : Sl) (d : Nat → Path), e = .returned (.slice t.a t.n t.c) ∧ bytesK.Own w' w.heap.size d p t z ∧ Below w.heap.size w w' := by
  refine (toByteS_any s.a s.n s.c z w o.row (by have := o.row.1; omega)).mono ?_
  rintro e w' ⟨rfl, h1, h2⟩
  exact ⟨⟨some ⟨w.heap.size, 0, none⟩, s.n, s.n⟩, fun _ => p, rfl, ⟨o.row.2.1, h1, fun x hx => rfl⟩, h2⟩

theorem strict_inj {f : Nat → Nat} {k : Nat} (h : ∀ i j, i < j → j < k → f i < f j) {i j : Nat} (hi : i < k) (hj : j < k) (e : f i = f j) : i = j := by
  rcases Nat.lt_trichotomy i j with h' | h' | h'
  · have := h i j h' hj; omega
  · exact h'
  · have := h j i h' hi; omega

open Classical in
theorem row_of_obss {w : World} {g B : Nat} {zss : List (List Int)} {C : Nat} (h : OBss w g zss 22 C) (hB : B ≤ g) (hr : ∀ z ∈ zss, ∀ x ∈ z, 0 ≤ x ∧ x ≤ 255) (hl : zss.length ≤ 1048576) (p : Path) : ∃ d : Nat → Path, RowOwn bytesK 22 w B d p ⟨some ⟨g, 0, none⟩, zss.length, zss.length⟩ zss := by
  obtain ⟨vs, f, h1, h2, h3, h4, h5⟩ := h
  obtain ⟨d, hd⟩ : ∃ d : Nat → Path, d = fun q => if hq : ∃ i, i < zss.length ∧ f i = q then p ++ [hq.choose] else p := ⟨_, rfl⟩
  have dg : d g = p := by
    rw [hd]
    refine dif_neg ?_
    rintro ⟨i, hi, e⟩
    have := (h3 i hi).1
    omega
  have df : ∀ i, i < zss.length → d (f i) = p ++ [i] := by
    intro i hi
    have hq : ∃ j, j < zss.length ∧ f j = f i := ⟨i, hi, rfl⟩
    rw [hd]
    show (if hq : ∃ j, j < zss.length ∧ f j = f i then p ++ [hq.choose] else p) = _
    rw [dif_pos hq, strict_inj h4 hq.choose_spec.1 hi hq.choose_spec.2]
  obtain ⟨es, he1, he2⟩ : ∃ es : List Sl, es.length = zss.length ∧ ∀ (i : Nat) (e : Sl), es[i]? = some e → ∃ z, zss[i]? = some z ∧ e = ⟨some ⟨f i, 0, none⟩, z.length, z.length⟩ := by
    refine ⟨zss.zipIdx.map (fun q => ⟨some ⟨f q.2, 0, none⟩, q.1.length, q.1.length⟩), by simp, fun i e he => ?_⟩
    rw [List.getElem?_map, List.getElem?_zipIdx] at he
    cases hz : zss[i]? with
    | none => rw [hz] at he; simp at he
    | some z =>
      rw [hz] at he
      simp at he
      exact ⟨z, rfl, he.symm⟩
  refine ⟨d, rfl, es, vs, he1, ⟨h2.trans (Nat.mul_one _).symm, by show zss.length ≤ maxLen; unfold maxLen; omega, Nat.le_refl _, (fun e => by cases e), fun x hx => ?_⟩, fun x hx => by cases hx; exact dg, fun i e z he hz => ?_⟩
  · cases hx
    refine ⟨g, 0, vs.toArray, rfl, hB, h1, by simp [h2, bytesK], ?_⟩
    show (vs.drop 0).take (zss.length * 1) = vs
    rw [List.drop_zero, Nat.mul_one, ← h2, List.take_length]
  · have hi := (List.getElem?_eq_some_iff.1 hz).1
    obtain ⟨z', hz', rfl⟩ := he2 i e he
    obtain rfl : z = z' := Option.some.inj (hz.symm.trans hz')
    obtain ⟨q1, q2⟩ := h5 i z hi hz
    refine ⟨fun j v hv => ?_, hr z (List.mem_of_getElem? hz), ownsRow_base q2 (by omega), fun x hx => by cases hx; exact df i hi⟩
    match j, hv with
    | 0, hv =>
      simp only [bytesK, List.getElem?_cons_zero, Option.some.injEq] at hv
      subst hv
      have e1 : bytesK.m = 1 := rfl
      rw [e1, Nat.mul_one, Nat.add_zero]
      exact q1

end Go.Proofs.Ytihdmdbekdadlaa

/- What is proved here: the contracts of the laws' helper functions that copy pairs (toPairS). -/
namespace Go.Proofs.Ytihdmdbekdadlaa
open Go.RowKit
set_option linter.unusedVariables false
set_option maxRecDepth 100000

set_option maxHeartbeats 4000000 in
theorem toPair_any (p : Path) (s0 : Sl) (z0 : List Int) (s1 : Sl) (z1 : List Int) (w : World) (o0 : (bytesK).Ok w s0 z0) (m0_0 : z0.length ≤ 1048576) (o1 : (bytesK).Ok w s1 z1) (m1_0 : z1.length ≤ 1048576) :
    Calls Try.prog 49 #[.agg #[.slice s0.a s0.n s0.c, .slice s1.a s1.n s1.c]] w fun e w' => ∃ (t0 : Sl) (t1 : Sl) (d : Nat → Path), e = .returned (.agg #[.slice t0.a t0.n t0.c, .slice t1.a t1.n t1.c]) ∧ (prK).Own w' w.heap.size d p (t0, t1) (z0, z1) ∧ Below w.heap.size w w' := by
  have HO0 := hide (fun (W : World) (hb : Below w.heap.size w W) => toB_kd (p ++ [0]) s0 z0 W ((bytesK).below o0 hb (Nat.le_refl _)) m0_0)
  have HO1 := hide (fun (W : World) (hb : Below w.heap.size w W) => toB_kd (p ++ [1]) s1 z1 W ((bytesK).below o1 hb (Nat.le_refl _)) m1_0)
  obtain ⟨k0, k1, k2, K0, hsz⟩ := three_blk w #[.slice s0.a s0.n s0.c, .slice s1.a s1.n s1.c] #[.slice none 0 0, .slice none 0 0] #[.slice none 0 0, .slice none 0 0] 68 69 69
  obtain ⟨W0, e0⟩ : ∃ W0, ((w.alloc (.cells #[.slice s0.a s0.n s0.c, .slice s1.a s1.n s1.c] 68)).alloc (.cells #[.slice none 0 0, .slice none 0 0] 69)).alloc (.cells #[.slice none 0 0, .slice none 0 0] 69) = W0 := ⟨_, rfl⟩
  rw [e0] at k0 k1 k2 K0 hsz
  clear o0 o1
  go_enter Try.func49, Try.ntmps49
  have x0 := k0.cell 0
  simp only [List.getElem?_cons_zero] at x0 
  have Q := hide (And.intro k0 (And.intro k1 (And.intro k2 (And.intro K0 hsz))))
  clear k0 k1 k2 K0 hsz
  go_wp2_with (rw [e0])
  try rw [e0]
  clear e0
  obtain ⟨k0, k1, k2, K0, hsz⟩ := unhide Q
  clear Q x0 
  have B0 := K0
  refine ((unhide HO0) _ B0).mono ?_
  rintro e w1 ⟨t0, d0, rfl, ow0, b1⟩
  have k0 := k0.below b1 (by omega)
  have k1 := k1.below b1 (by omega)
  have k2 := k2.below b1 (by omega)
  have K1 := B0.trans (b1.mono (by omega))
  have ow0 := Kd.made _ ow0
  have g1 : W0.heap.size ≤ w1.heap.size := b1.size
  have hs1 : w.heap.size + 3 ≤ w1.heap.size := by omega
  have hsW := hsz
  clear b1 B0 hsz
  have hsz := hs1
  have x1 := k0.cell 1
  have u0 := k2.cell 0
  have v0 := k2.free 0
  simp only [List.getElem?_cons_zero, List.getElem?_cons_succ] at x1 u0
  have Q := hide (And.intro k0 (And.intro k1 (And.intro k2 (And.intro K1 hsz))))
  clear k0 k1 k2 K1 hsz
  go_wp2_with fail
  obtain ⟨k0, k1, k2, K1, hsz⟩ := unhide Q
  clear Q x1 u0 v0
  have B1 := (K1.setCell (p := ⟨w.heap.size + 2, 0, none⟩) (by show w.heap.size ≤ w.heap.size + 2; omega) (.slice t0.a t0.n t0.c))
  refine ((unhide HO1) _ B1).mono ?_
  rintro e w2 ⟨t1, d1, rfl, ow1, b2⟩
  simp only [size_set'] at ow1 b2
  have k0 := (k0.other (g' := w.heap.size + 2) (by omega)).below b2 (by omega)
  have k1 := (k1.other (g' := w.heap.size + 2) (by omega)).below b2 (by omega)
  have k2 := (k2.set 0 (.slice t0.a t0.n t0.c)).below b2 (by omega)
  simp only [List.set_cons_zero] at k2
  have K2 := B1.trans (b2.mono (by omega))
  have ow0 := (ow0.set (q := ⟨w.heap.size + 2, _, none⟩) (by show w.heap.size + 2 < _; omega) _).below b2 (by simp only [size_set']; exact Nat.le_refl _)
  have ow1 := Kd.made _ ow1
  have g2 : w1.heap.size ≤ w2.heap.size := by have := b2.size; simp only [size_set'] at this; exact this
  have hs2 : w.heap.size + 3 ≤ w2.heap.size := by omega
  clear b2 B1 hsz
  have hsz := hs2
  have u0 := k2.cell 0
  have v0 := k2.free 0
  have r0 := k1.cell 0
  have q0 := k1.free 0
  have u1 := k2.cell 1
  have v1 := k2.free 1
  have r1 := k1.cell 1
  have q1 := k1.free 1
  simp only [List.getElem?_cons_zero, List.getElem?_cons_succ] at  u0 r0 u1 r1
  have Q := hide (And.intro K2 (And.intro hsz (And.intro hsW trivial)))
  clear k0 k1 k2 K2 hsz hsW
  have MO0 := hide ow0
  clear ow0
  have MO1 := hide ow1
  clear ow1
  go_wp2_with fail
  obtain ⟨K2, hsz, hsW, _⟩ := unhide Q
  refine bodyPost_ret (v := .agg #[.slice t0.a t0.n t0.c, .slice t1.a t1.n t1.c]) (by simp [results, Try.results49, go_sem, r0, r1]) rfl ⟨t0, t1, (joinD w1.heap.size d0 d1), rfl, ?_, ?_⟩
  · exact ⟨(Kd.base _ (((((unhide MO0).set (q := ⟨w.heap.size + 2, _, none⟩) (by show w.heap.size + 2 < _; omega) _).set (q := ⟨w.heap.size + 1, _, none⟩) (by show w.heap.size + 1 < _; omega) _).set (q := ⟨w.heap.size + 1, _, none⟩) (by show w.heap.size + 1 < _; omega) _) _ (fun g h1 h2 => by rw [joinD_lt h2])) (by omega)), (Kd.base _ (((((unhide MO1).set (q := ⟨w.heap.size + 2, _, none⟩) (by show w.heap.size + 2 < _; omega) _).set (q := ⟨w.heap.size + 1, _, none⟩) (by show w.heap.size + 1 < _; omega) _).set (q := ⟨w.heap.size + 1, _, none⟩) (by show w.heap.size + 1 < _; omega) _) _ (fun g h1 h2 => by rw [joinD_ge (by omega)])) (by omega))⟩
  · exact (((K2.setCell (p := ⟨w.heap.size + 2, 1, none⟩) (by show w.heap.size ≤ w.heap.size + 2; omega) (.slice t1.a t1.n t1.c)).setCell (p := ⟨w.heap.size + 1, 0, none⟩) (by show w.heap.size ≤ w.heap.size + 1; omega) (.slice t0.a t0.n t0.c)).setCell (p := ⟨w.heap.size + 1, 1, none⟩) (by show w.heap.size ≤ w.heap.size + 1; omega) (.slice t1.a t1.n t1.c))

theorem infoPair : (Try.prog.info? 69).map (fun i => (i.zero, i.size, i.bytes)) = some (some (.agg #[.slice none 0 0, .slice none 0 0]), 2, 48) := by kernel_rfl

set_option maxHeartbeats 2000000 in
theorem toPairS_any (p : Path) (s : Sl) (xs : List Pr) (w : World) (o : RowOk prK w s xs) (hl : xs.length ≤ 1048576) (hz : ∀ x ∈ xs, prSz x ≤ 1048576) :
    Calls Try.prog 18 #[.slice s.a s.n s.c] w fun e w' => ∃ (t : Sl) (d : Nat → Path), e = .returned (.slice t.a t.n t.c) ∧ (rowK prK 69).Own w' w.heap.size d p t xs ∧ Below w.heap.size w w' := by
  obtain ⟨i0, hi, hz0, hz1, hz2⟩ := info_parts infoPair
  obtain ⟨a, len, cap⟩ := s
  have hil : len = xs.length := o.len
  rcases Nat.eq_zero_or_pos len with h0 | hp
  · subst h0
    obtain rfl : xs = [] := List.length_eq_zero_iff.1 hil.symm
    clear o hl hz hil
    go_enter Try.func18, Try.ntmps18
    go_wp2_with (at_make; refine wpList_make_full _ rfl _ _ 39 rfl w.heap.size 69 i0 (.agg #[.slice none 0 0, .slice none 0 0]) 2 Try.underlying39 hi hz0 hz1 _ _ _ _ 0 rfl rfl rfl rfl ?c1 ?c2 ?c3 ?_)
    case c1 => omega
    case c2 => unfold maxLen; omega
    case c3 => omega
    intro w1 hown hgrow
    go_wp2
    refine wp_loop_rounds 1 ?_
    rw [rounds_succ]
    go_wp2
    go_ret
    exact ⟨⟨some ⟨w.heap.size, 0, none⟩, 0, 0⟩, fun _ => p, rfl, RowPart.zero (OwnS.of hown) rfl (fun _ _ => rfl), (Below.refl _ _).grown hgrow (Nat.le_refl _) (fun k e => by cases e)⟩
  · obtain ⟨b, off, ea, hb, hc⟩ := o.pos hp
    simp only at ea
    subst ea
    have HC := hide (fun (W : World) (hbl : Below w.heap.size w W) (i : Nat) (x : Pr) (hx : xs[i]? = some x) => match hc i x hx with | ⟨e, c, o⟩ => (⟨e, fun j v hv => (hbl.cell (p := ⟨b, off + i * prK.m + j, none⟩) hb).trans (c j v hv), prK.below o hbl (Nat.le_refl _)⟩ : ∃ e, (∀ j v, (prK.vals e x)[j]? = some v → W.cell? ⟨b, off + i * prK.m + j, none⟩ = some v) ∧ prK.Ok W e x))
    have HL := hide hil
    have HZ := hide hz
    have hla : len ≤ 1048576 := by omega
    clear o hc hil hz hl
    go_enter Try.func18, Try.ntmps18
    go_wp2_with (at_make; refine wpList_make_full _ rfl _ _ 39 rfl w.heap.size 69 i0 (.agg #[.slice none 0 0, .slice none 0 0]) 2 Try.underlying39 hi hz0 hz1 _ _ _ _ len rfl rfl rfl rfl ?c1 ?c2 ?c3 ?_)
    case c1 => rw [hz2]; omega
    case c2 => unfold maxLen; omega
    case c3 => omega
    intro w1 hown hgrow
    have hst : RowPart prK 69 w1 w.heap.size (fun _ => p) p ⟨some ⟨w.heap.size, 0, none⟩, len, len⟩ xs 0 := RowPart.zero (OwnS.of hown) (unhide HL) (fun _ _ => rfl)
    have hbel : Below w.heap.size w w1 := (Below.refl _ _).grown hgrow (Nat.le_refl _) (fun k e => by cases e)
    clear hown hgrow
    go_wp2_with fail
    go_loopw [4] (fun i wr => ∃ (k : Nat) (d : Nat → Path), k ≤ len ∧ i = .int .i64 k ∧ RowPart prK 69 wr w.heap.size d p ⟨some ⟨w.heap.size, 0, none⟩, len, len⟩ xs k ∧ w.heap.size < wr.heap.size ∧ Below w.heap.size w wr) (fun i _ => len - (intOf i).toNat)
    case atStart => exact ⟨0, fun _ => p, Nat.zero_le _, rfl, hst, by obtain ⟨_, _, _, _, h, _⟩ := hst; exact (h.blk (x := ⟨w.heap.size, 0, none⟩) rfl).2, hbel⟩
    case round =>
      obtain ⟨k, d, hk, rfl, hup, hsw, hbr⟩ := hrel
      clear hst hbel
      by_cases hlt : k < len
      · obtain ⟨x, hx⟩ : ∃ x, xs[k]? = some x := ⟨_, List.getElem?_eq_getElem (by rw [← unhide HL]; exact hlt)⟩
        have mx := (unhide HZ) x (List.mem_of_getElem? hx)
        obtain ⟨⟨s0, s1⟩, c, o⟩ := (unhide HC) wr hbr k x hx
        obtain ⟨z0, z1⟩ := x
        have c0 := c 0 _ rfl
        have c1 := c 1 _ rfl
        simp only [Nat.add_zero, show prK.m = 2 from rfl] at c0 c1
        simp only [prSz] at mx
        have HT := hide (fun (W : World) (hbl : Below wr.heap.size wr W) => toPair_any (p ++ [k]) s0 z0 s1 z1 W ((bytesK).below o.1 hbl (Nat.le_refl _)) (by omega) ((bytesK).below o.2 hbl (Nat.le_refl _)) (by omega))
        have hslot := hide (fun (w2 : World) (hb : Below wr.heap.size wr w2) => (hup.frame (w' := w2) (fun g h1 _ _ => hb.block g h1)).slot (g := w.heap.size) (off := 0) rfl (i := k) (by rw [← unhide HL]; exact hlt))
        have hstep := hide (fun (w2 : World) (d2 : Nat → Path) (t0 t1 : Sl) (hb : Below wr.heap.size wr w2) (ho : prK.Own w2 wr.heap.size d2 (p ++ [k]) (t0, t1) (z0, z1)) => hup.step hx (fun g hg => hb.block g hg) (d2 := joinD wr.heap.size d d2) (fun g hg => joinD_lt hg) (prK.base (Kd.right prK ho (Nat.le_refl _)) (Nat.le_of_lt hsw)) (g := w.heap.size) (off := 0) rfl)
        have HB := hide hbr
        have i1 : (0 : Int) ≤ (k : Int) := by omega
        have i2 : (k : Int) < (len : Int) := by omega
        clear hup hbr c o hx mx
        go_wp2_with fail
        refine ((unhide HT) _ (by first | exact Below.refl _ _ | exact (Below.refl _ _).drew)).mono ?_
        rintro e w2 ⟨t0, t1, d2, rfl, o2, b2⟩
        have b2' : Below wr.heap.size wr w2 := by first | exact b2 | exact Below.trans ((Below.refl _ _).drew) b2
        obtain ⟨gs, gf⟩ := (unhide hslot) w2 b2'
        have HN := hide ((unhide hstep) w2 d2 t0 t1 b2' o2)
        obtain ⟨u0, h0⟩ := gs 0 (by show 0 < 2; omega)
        obtain ⟨u1, h1⟩ := gs 1 (by show 1 < 2; omega)
        simp only [Nat.zero_add, Nat.add_zero, show prK.m = 2 from rfl] at h0 h1
        have HB2 := hide ((unhide HB).trans (b2'.mono (unhide HB).size))
        have hs2 : w.heap.size < w2.heap.size := Nat.lt_of_lt_of_le hsw b2'.size
        clear o2 b2 b2' hslot hstep gs
        go_wp2_with fail
        go_roundw
        case rel =>
          have hN := unhide HN
          simp only [Nat.zero_add, show prK.m = 2 from rfl] at hN
          exact ⟨k + 1, joinD wr.heap.size d d2, by omega, by go_num, hN, by simp only [size_set']; exact hs2, (((unhide HB2).setCell (Nat.le_refl _) _).setCell (Nat.le_refl _) _)⟩
        case measure => simp [intOf]; omega
      · obtain rfl : k = len := by omega
        have HU := hide hup
        have HB := hide hbr
        clear hup hbr
        go_wp2_with fail
        go_ret
        refine ⟨⟨some ⟨w.heap.size, 0, none⟩, k, k⟩, d, rfl, ?_, unhide HB⟩
        show RowPart prK _ _ _ _ _ _ xs xs.length
        rw [← unhide HL]
        exact unhide HU

end Go.Proofs.Ytihdmdbekdadlaa

/- What is proved here: how arguments that are pairs read. -/
namespace Go.Proofs.Ytihdmdbekdadlaa
open Go.RowKit
set_option linter.unusedVariables false
set_option maxRecDepth 100000

theorem opensPair {H : Type} {enc : TypeId × Value → H} {w : World} {sp : Nat → Bool} {held : Bool} : Opens enc Try.prog w sp held (prK) 68 := by
  intro fuel cs y hl h
  have hl' : cs.length = 2 := hl
  have f0 := opens_field (K := bytesK) Try.underlying68 h 0 _ rfl rfl rfl (by kernel_rfl) (opens_bytes Try.underlying22 Try.underlying5 (by kernel_rfl)) (by show 0 + 1 ≤ cs.length; omega)
  have f1 := opens_field (K := bytesK) Try.underlying68 h 1 _ rfl rfl rfl (by kernel_rfl) (opens_bytes Try.underlying22 Try.underlying5 (by kernel_rfl)) (by show 1 + 1 ≤ cs.length; omega)
  match cs, hl' with
  | [c0, c1], _ =>
    replace f0 : ∃ e x, [c0] = (bytesK).vals e x ∧ (bytesK).Ok w e x := f0
    obtain ⟨e0, x0, q0, r0⟩ := f0
    replace f1 : ∃ e x, [c1] = (bytesK).vals e x ∧ (bytesK).Ok w e x := f1
    obtain ⟨e1, x1, q1, r1⟩ := f1
    refine ⟨(e0, e1), (x0, x1), ?_, r0, r1⟩
    show [c0, c1] = (bytesK).vals e0 x0 ++ ((bytesK).vals e1 x1)
    rw [← q0, ← q1]
    rfl

end Go.Proofs.Ytihdmdbekdadlaa

/- What is proved here: what the model's l1Same and the program's SameBytes answer: whether two slices are the same as strings. -/
namespace Go.Proofs.Ytihdmdbekdadlaa
open Go.RowKit
set_option linter.unusedVariables false
set_option maxRecDepth 100000

theorem l1SameP_any (a b : Option Addr) (la ca lb cb : Nat) (xs ys : List Int) (w : World) (ha : BRow w a la xs) (hb : BRow w b lb ys) :
    Calls Try.prog 61 #[.slice a la ca, .slice b lb cb] w fun e w' => e = .returned (.bool (strEq xs ys)) ∧ w' = w := by
  have h1 := conv_any (P := Try.prog) w 22 5 9 Try.underlying22 Try.underlying5 Try.underlying9 a la ca xs ha
  have h2 := conv_any (P := Try.prog) w 22 5 9 Try.underlying22 Try.underlying5 Try.underlying9 b lb cb ys hb
  clear ha hb
  go_enter Try.func61, Try.ntmps61
  go_wp2
  go_ret
  exact ⟨rfl, rfl⟩

end Go.Proofs.Ytihdmdbekdadlaa
