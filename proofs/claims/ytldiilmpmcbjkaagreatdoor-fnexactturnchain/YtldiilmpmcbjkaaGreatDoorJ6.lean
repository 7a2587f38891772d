/- What is proved here: how an argument of a kind reads, by its walk; it holds for every program. -/
import Derived.Test.YtldiilmpmcbjkaaGreatDoorJ5
import Derived.Test.YtldiilmpmcbjkaaGreatDoorChecked
import Derived.Test.YtldiilmpmcbjkaaGreatDoorJ1
import Derived.WalkKit
import Derived.WalkLawsBesides
import Derived.Lib.BytesEntry
import Derived.KernelRfl
import Derived.Test.YtldiilmpmcbjkaaGreatDoorJ3
import Derived.Test.YtldiilmpmcbjkaaGreatDoorJ4
import Derived.Deep.MidRow
import Derived.WalkSmall
import Derived.WalkSpells
import Derived.Deep.DeepCutAuto
import Derived.Deep.CutBlock
import Derived.Deep.RegionWith
import Derived.BigQuiet
import Derived.Deep.QuietTactic
import Derived.Test.YtldiilmpmcbjkaaGreatDoorJ2
namespace Go.Proofs.YtldiilmpmcbjkaaGreatDoor
open Go.RowKit
set_option linter.unusedVariables false
set_option maxRecDepth 100000

section
variable {H : Type} {enc : TypeId × Value → H} {P : Program} {w : World} {sp : Nat → Bool} {held : Bool}

/-- Cells of the type t read as a thing of the kind. -/
def Opens {α β : Type} (enc : TypeId × Value → H) (P : Program) (w : World) (sp : Nat → Bool) (held : Bool) (K : Kd α β) (t : TypeId) : Prop :=
  ∀ (fuel : Nat) (cs : List Value) (y : DataW H × List MemPlace), cs.length = K.m → DataW.trod enc P w 0 sp held fuel t cs = some y → ∃ e x, cs = K.vals e x ∧ K.Ok w e x

theorem one_cell {cs : List Value} (h : cs.length = 1) : ∃ v, cs = [v] := by
  match cs, h with
  | [v], _ => exact ⟨v, rfl⟩

theorem opens_int {t : TypeId} (ut : P.underlying t = some (.int .i64)) : Opens enc P w sp held intK t := by
  intro fuel cs y hl h
  obtain ⟨v, rfl⟩ := one_cell hl
  obtain ⟨n, rfl, hn⟩ := field_int ut h
  exact ⟨(), n, rfl, hn⟩

theorem opens_bool {t : TypeId} (ut : P.underlying t = some .bool) : Opens enc P w sp held boolK t := by
  intro fuel cs y hl h
  obtain ⟨v, rfl⟩ := one_cell hl
  obtain ⟨b, e, _⟩ := DataW.trod_bool ut h
  simp only [List.cons.injEq, and_true] at e
  subst e
  exact ⟨(), b, rfl, trivial⟩

theorem opens_bytes {t tu : TypeId} (us : P.underlying t = some (.slice tu)) (uu : P.underlying tu = some (.int .u8)) (cu : P.cellsOf tu = 1) : Opens enc P w sp held bytesK t := by
  intro fuel cs y hl h
  obtain ⟨v, rfl⟩ := one_cell hl
  rcases ChangeShapes.open_ints us uu cu h with ⟨e2, _⟩ | ⟨sa, sl, sc, zs, e2, _, hsl, hsm, hzl, _, hzc, hzw⟩
  · simp only [List.cons.injEq, and_true] at e2
    subst e2
    exact ⟨⟨none, 0, 0⟩, [], rfl, ⟨rfl, fun n hn => by simp at hn, fun _ => rfl, fun y hy => by cases hy⟩, Nat.le_refl _, Nat.zero_le _, fun _ => rfl⟩
  · simp only [List.cons.injEq, and_true] at e2
    subst e2
    have hzl' : sl ≤ zs.length := by rw [hzl]; split <;> omega
    refine ⟨⟨some sa, sl, sc⟩, zs.take sl, rfl, ⟨by simp; omega, fun n hn => ?_, (fun e => (by cases e)), fun y hy j hj => ?_⟩, hsl, hsm, fun e => by cases e⟩
    · exact bounds_u8 (hzw n (List.mem_of_mem_take hn))
    · cases hy
      have hj' : j < sl := hj
      rw [hzc j (by omega), getD_at _ j (by omega), getD_at _ j (by simp; omega), List.getElem_take]

/-- A slice of a kind. -/
theorem opens_row {α β : Type} {K : Kd α β} {t e T : TypeId} (ht : P.underlying t = some (.slice e)) (hc : P.cellsOf e = K.m) (hm : 0 < K.m) (each : Opens enc P w sp held K e) : Opens enc P w sp held (rowK K T) t := by
  intro fuel cs y hl h
  obtain ⟨v, rfl⟩ := one_cell hl
  obtain ⟨d, ps⟩ := y
  rcases DataW.trod_slice ht h with ⟨hn, _⟩ | ⟨x, len, cap, elems, rest, n, _, hcs, _, _, hlc, hm', hlen, hel, _⟩
  · simp only [List.cons.injEq, and_true] at hn
    subst hn
    exact ⟨⟨none, 0, 0⟩, [], rfl, rfl, Nat.le_refl _, Nat.zero_le _, fun _ => rfl, fun hp => absurd hp (Nat.lt_irrefl _)⟩
  · simp only [List.cons.injEq, and_true] at hcs
    subst hcs
    have each' : ∀ i, i < len → ∃ (el : β) (a : α), x.spot = none ∧ x.block < w.heap.size ∧ (∀ j v, (K.vals el a)[j]? = some v → w.cell? ⟨x.block, x.off + i * K.m + j, none⟩ = some v) ∧ K.Ok w el a := by
      intro i hi
      have cellsAt : ∀ i, i < len → ∃ cs : List Value, cs.length = K.m ∧ (∀ (j : Nat) (hj : j < cs.length), w.cell? ((x.add (i * K.m)).add j) = some cs[j]) ∧ DataW.trod enc P w 0 sp held n e cs = elems[i]? := by
        intro i hi
        have hE := hel i hi
        rw [List.getElem?_eq_getElem (by omega), Option.bind_eq_some_iff, hc] at hE
        obtain ⟨cs, hcells, htr⟩ := hE
        obtain ⟨_, hcl, hcell⟩ := World.cells?_some hcells
        refine ⟨cs, hcl, fun j hj => ?_, by rw [htr, List.getElem?_eq_getElem (by omega)]⟩
        have := hcell j (by omega)
        rw [List.getElem?_eq_getElem hj] at this
        exact this
      have hsp : x.spot = none := by
        obtain ⟨cs0, hl0, hc0, _⟩ := cellsAt 0 (by omega)
        have q := hc0 0 (by omega)
        simpa [Addr.add] using World.cell?_spot q
      obtain ⟨cs, hl1, hc1, ht1⟩ := cellsAt i hi
      obtain ⟨xb, xo, xs⟩ := x
      simp only at hsp
      subst hsp
      rw [List.getElem?_eq_getElem (by omega)] at ht1
      obtain ⟨el, a, rfl, ho⟩ := each _ _ _ hl1 ht1
      refine ⟨el, a, rfl, ?_, fun j v hv => ?_, ho⟩
      · have q := hc1 0 (by omega)
        rw [add_none, add_none] at q
        have := lt_of_cell q
        exact this
      · obtain ⟨hj, rfl⟩ := List.getElem?_eq_some_iff.1 hv
        have := hc1 j hj
        rw [add_none, add_none] at this
        exact this
    have build : ∀ k, k ≤ len → ∃ al : List α, al.length = k ∧ ∀ i a, al[i]? = some a → ∃ el, (∀ j v, (K.vals el a)[j]? = some v → w.cell? ⟨x.block, x.off + i * K.m + j, none⟩ = some v) ∧ K.Ok w el a := by
      intro k
      induction k with
      | zero => exact fun _ => ⟨[], rfl, fun i a ha => by simp at ha⟩
      | succ k ih =>
        intro hk
        obtain ⟨al, q1, q2⟩ := ih (by omega)
        obtain ⟨el, a, _, _, r1, r2⟩ := each' k (by omega)
        refine ⟨al ++ [a], by simp [q1], fun i b hb => ?_⟩
        rcases Nat.lt_or_ge i k with h' | h'
        · rw [List.getElem?_append_left (by omega)] at hb
          exact q2 i b hb
        · have hi : i < (al ++ [a]).length := (List.getElem?_eq_some_iff.1 hb).1
          simp at hi
          obtain rfl : i = k := by omega
          rw [List.getElem?_append_right (by omega), q1, Nat.sub_self] at hb
          simp at hb
          subst hb
          exact ⟨el, r1, r2⟩
    obtain ⟨al, q1, q2⟩ := build len (Nat.le_refl _)
    refine ⟨⟨some x, len, cap⟩, al, rfl, q1.symm, hlc, hm', (fun e => by cases e), fun hp => ?_⟩
    obtain ⟨_, _, hsp, hlt, _⟩ := each' 0 hp
    refine ⟨x.block, x.off, ?_, hlt, q2⟩
    obtain ⟨b, o, s⟩ := x
    simp only at hsp
    subst hsp
    rfl

/-- The fields of a struct, one behind the other: the first cells, and the rest. -/
theorem opens_pair {α β α' β' : Type} {K : Kd α β} {L : Kd α' β'} {cs : List Value} (hl : cs.length = K.m + L.m)
    (h1 : ∃ e x, cs.take K.m = K.vals e x ∧ K.Ok w e x) (h2 : ∃ e x, cs.drop K.m = L.vals e x ∧ L.Ok w e x) : ∃ e x, cs = (pairK K L).vals e x ∧ (pairK K L).Ok w e x := by
  obtain ⟨e, x, q1, q2⟩ := h1
  obtain ⟨e', x', r1, r2⟩ := h2
  refine ⟨(e, e'), (x, x'), ?_, q2, r2⟩
  show cs = K.vals e x ++ L.vals e' x'
  rw [← q1, ← r1, List.take_append_drop]

/-- A field of a struct. -/
theorem opens_field {α β : Type} {K : Kd α β} {t : TypeId} {fs : Array Field} {fuel : Nat} {cs : List Value} {y : DataW H × List MemPlace} (ht : P.underlying t = some (.struct fs)) (h : DataW.trod enc P w 0 sp held fuel t cs = some y)
    (i : Nat) (f : Field) (hf : fs[i]? = some f) {u : TypeId} {o : Nat} (hu : f.type = u) (ho : f.offset = o) (hc : P.cellsOf u = K.m) (hk : Opens enc P w sp held K u) (hl : o + K.m ≤ cs.length) :
    ∃ e x, (cs.drop o).take K.m = K.vals e x ∧ K.Ok w e x := by
  obtain ⟨d, ps⟩ := y
  obtain ⟨xs, m, _, _, _, hxl, hfs⟩ := DataW.trod_struct ht h
  have g := hfs i f hf
  have hi : i < xs.length := by rw [hxl]; exact (Array.getElem?_eq_some_iff.1 hf).1
  rw [List.getElem?_eq_getElem hi, hu, ho, hc] at g
  exact hk _ _ _ (by rw [List.length_take, List.length_drop]; omega) g

/-- An argument. -/
theorem opens_arg {α β : Type} {K : Kd α β} {t : TypeId} {v : Value} {d : DataW H} {ps : List MemPlace} (hk : Opens enc P w sp held K t) (hv : ∃ cs, v = .agg cs ∧ cs.size = P.cellsOf t) (hc : P.cellsOf t = K.m) (h : DataW.Trod enc P w 0 sp held t v d ps) :
    ∃ e x, v = .agg (K.vals e x).toArray ∧ K.Ok w e x := by
  obtain ⟨cs, rfl, hs⟩ := hv
  obtain ⟨fuel, h⟩ := h
  have h' : DataW.trod enc P w 0 sp held fuel t cs.toList = some (d, ps) := h
  obtain ⟨e, x, q1, q2⟩ := hk _ _ _ (by rw [Array.length_toList, hs, hc]) h'
  exact ⟨e, x, by rw [← q1], q2⟩
end

end Go.Proofs.YtldiilmpmcbjkaaGreatDoor

/- What is proved here: plain facts on snapshots: their kinds, and how great they are; no program is named. -/
namespace Go.Proofs.YtldiilmpmcbjkaaGreatDoor
open Go.RowKit
set_option linter.unusedVariables false
set_option maxRecDepth 100000

/-- A recent signer: a number, an address. A vote: signer, target, whether to add. A snapshot: a number, signers, recents, votes. -/
abbrev Rc := Int × List Int
abbrev Vt := List Int × List Int × Bool
abbrev Sn := Int × List (List Int) × List Rc × List Vt
abbrev RcS := Unit × Sl
abbrev VtS := Sl × Sl × Unit
abbrev SnS := Unit × Sl × Sl × Sl

def rcK : Kd Rc RcS := pairK intK bytesK
def vtK : Kd Vt VtS := pairK bytesK (pairK bytesK boolK)
def snK (TB TR TV : TypeId) : Kd Sn SnS := pairK intK (pairK (rowK bytesK TB) (pairK (rowK rcK TR) (rowK vtK TV)))

/-- The four cells of a snapshot. -/
def snvals (e : SnS) (x : Sn) : Array Value := #[.int .i64 x.1, .slice e.2.1.a e.2.1.n e.2.1.c, .slice e.2.2.1.a e.2.2.1.n e.2.2.1.c, .slice e.2.2.2.a e.2.2.2.n e.2.2.2.c]

theorem snvals_eq (TB TR TV : TypeId) (e : SnS) (x : Sn) : ((snK TB TR TV).vals e x).toArray = snvals e x := rfl

/-- What is left of a number behind so many: below 0: -1. -/
def szOf (left : Int) (n : Nat) : Int := if left - n < 0 then -1 else left - n

def rcSz (x : Rc) : Nat := x.2.length
def vtSz (x : Vt) : Nat := x.1.length + x.2.1.length
/-- The sum over a list. -/
def lsum {α : Type} (f : α → Nat) (xs : List α) : Nat := (xs.map f).sum
def snSz (x : Sn) : Nat := (x.2.1.length + lsum List.length x.2.1) + (x.2.2.1.length + lsum rcSz x.2.2.1) + (x.2.2.2.length + lsum vtSz x.2.2.2)

theorem lsum_succ {α : Type} (f : α → Nat) (xs : List α) (k : Nat) (x : α) (h : xs[k]? = some x) : lsum f (xs.take (k + 1)) = lsum f (xs.take k) + f x := by
  obtain ⟨hk, e⟩ := List.getElem?_eq_some_iff.1 h
  unfold lsum
  rw [List.take_succ_eq_append_getElem hk, List.map_append, List.sum_append, e]
  simp

theorem lsum_take {α : Type} (f : α → Nat) (xs : List α) (k : Nat) : lsum f (xs.take k) ≤ lsum f xs := by
  induction xs generalizing k with
  | nil => simp [lsum]
  | cons x r ih =>
    cases k with
    | zero => simp [lsum]
    | succ k => have := ih k; simp [lsum] at this ⊢; omega

theorem lsum_mem {α : Type} (f : α → Nat) (xs : List α) (x : α) (h : x ∈ xs) : f x ≤ lsum f xs := by
  induction xs with
  | nil => simp at h
  | cons y r ih =>
    rcases List.mem_cons.1 h with e | e
    · subst e; simp [lsum]
    · have := ih e; simp [lsum] at this ⊢; omega

theorem szBs_lsum (zss : List (List Int)) : ∀ left : Int, 0 ≤ left → szBs left zss = szOf left (lsum List.length zss) := by
  induction zss with
  | nil => intro left h; unfold szBs szOf lsum; simp; omega
  | cons z r ih =>
    intro left h
    have e : lsum List.length (z :: r) = z.length + lsum List.length r := by simp [lsum]
    unfold szBs
    rw [e]
    split
    · rename_i hn
      unfold szOf
      rw [if_pos (by omega)]
    · rename_i hn
      rw [ih _ (by omega)]
      unfold szOf
      split <;> split <;> omega

theorem szBss_lsum (zss : List (List Int)) (left : Int) (h : 0 ≤ left) : szBss left zss = szOf left (zss.length + lsum List.length zss) := by
  unfold szBss
  split
  · unfold szOf
    rw [if_pos (by omega)]
  · rw [szBs_lsum _ _ (by omega)]
    unfold szOf
    split <;> split <;> omega

theorem szOf_szOf {left : Int} {a b : Nat} (h : 0 ≤ szOf left a) : szOf (szOf left a) b = szOf left (a + b) := by
  unfold szOf at h ⊢
  split at h
  · omega
  · rename_i hn
    rw [if_neg hn]
    split <;> split <;> omega

theorem szOf_neg {left : Int} {a b : Nat} (h : szOf left a < 0) (hab : a ≤ b) : szOf left b = -1 := by
  unfold szOf at h ⊢
  split at h
  · rw [if_pos (by omega)]
  · omega

theorem szOf_ok {left : Int} {a : Nat} (h : 0 ≤ szOf left a) : (a : Int) ≤ left := by
  unfold szOf at h
  split at h <;> omega

/-- The bytes of rows of bytes. -/
theorem bs_of_row {w : World} {s : Sl} {zss : List (List Int)} (h : RowOk bytesK w s zss) : BsRow w s.a s.n zss := by
  refine ⟨h.len.symm, fun z hz => ?_, fun hp => ?_⟩
  · obtain ⟨i, hi⟩ := List.getElem?_of_mem hz
    have hil := (List.getElem?_eq_some_iff.1 hi).1
    obtain ⟨b, off, _, _, k⟩ := h.pos (by rw [h.len]; omega)
    obtain ⟨e, _, ho⟩ := k i z hi
    have ho' : BOk w e z := ho
    have := ho'.row.1
    have := ho'.room
    have := ho'.max
    omega
  · obtain ⟨b, off, ha, _, k⟩ := h.pos hp
    refine ⟨b, off, ha, fun i z hi => ?_⟩
    obtain ⟨e, q, ho⟩ := k i z hi
    have ho' : BOk w e z := ho
    have q0 := q 0 _ rfl
    refine ⟨e.a, e.n, e.c, ?_, ho'.row⟩
    have e1 : bytesK.m = 1 := rfl
    rw [e1, Nat.mul_one, Nat.add_zero] at q0
    exact q0

theorem bsnil_of_row {w : World} {s : Sl} {zss : List (List Int)} (h : RowOk bytesK w s zss) : BsNil w s.a s.n := by
  intro b off e i hi
  obtain ⟨b', off', ha, _, k⟩ := h.pos (by omega)
  rw [e] at ha
  simp only [Option.some.injEq, Addr.mk.injEq, and_true] at ha
  obtain ⟨rfl, rfl⟩ := ha
  obtain ⟨z, hz⟩ : ∃ z, zss[i]? = some z := ⟨_, List.getElem?_eq_getElem (by have := h.len; omega)⟩
  obtain ⟨el, q, ho⟩ := k i z hz
  have ho' : BOk w el z := ho
  have q0 := q 0 _ rfl
  have e1 : bytesK.m = 1 := rfl
  rw [e1, Nat.mul_one, Nat.add_zero] at q0
  exact ⟨el.a, el.n, el.c, q0, ho'.nil⟩

/-- Rows of bytes in memory of their own, told by colours before, told by paths. -/
theorem row_of_cs {w : World} {B r c : Nat} {d : Nat → Nat} {s : Sl} {zss : List (List Int)} (h : CS w B d r c s zss) (hr : ∀ i, r ≠ c + 3 * i) (p : Path) : ∃ d' : Nat → Path, RowOwn bytesK 60 w B d' p s zss := by
  obtain ⟨h1, es, h2, h3, h4, h5⟩ := h
  refine ⟨fun g => if d g = r then p else p ++ [(d g - c) / 3], h1, es, es.map Sl.v, h2, OwnS.of h3, fun x hx => ?_, fun i e z he hz => ?_⟩
  · have := h4 x.block (by rw [hx]; rfl)
    exact if_pos this
  · obtain ⟨q1, q2, q3, q4⟩ := h5 i e z he hz
    refine ⟨fun j v hv => ?_, q2, q3, fun x hx => ?_⟩
    · match j, hv with
      | 0, hv =>
        simp only [bytesK, List.getElem?_cons_zero, Option.some.injEq] at hv
        subst hv
        have e1 : bytesK.m = 1 := rfl
        rw [e1, Nat.mul_one, Nat.add_zero, List.getElem?_map, he]
        rfl
    · have hc := q4 x.block (by rw [hx]; rfl)
      show (if d x.block = r then p else p ++ [(d x.block - c) / 3]) = p ++ [i]
      rw [hc, if_neg (fun e => hr i e.symm), show c + 3 * i - c = 3 * i by omega, Nat.mul_div_cancel_left _ (by omega)]

end Go.Proofs.YtldiilmpmcbjkaaGreatDoor

/- What is proved here: what the program's IsAhead and the model's l1Ahead answer, for slices of bytes of any length: whether the first is less than the second, byte by byte. -/
namespace Go.Proofs.YtldiilmpmcbjkaaGreatDoor
open Go.RowKit
set_option linter.unusedVariables false
set_option maxRecDepth 100000

/-- Whether the first list of bytes is less than the second. -/
def aheadB (xs ys : List Int) : Bool := Op.bytesLess (strOfNums xs).toList (strOfNums ys).toList

theorem less_of_compare : ∀ (l m : List UInt8), decide (Lib.compareBytes l m < 0) = Op.bytesLess l m
  | [], [] => by simp [Lib.compareBytes, Op.bytesLess]
  | [], _ :: _ => by simp [Lib.compareBytes, Op.bytesLess]
  | _ :: _, [] => by simp [Lib.compareBytes, Op.bytesLess]
  | x :: a, y :: b => by
    have ih := less_of_compare a b
    unfold Lib.compareBytes Op.bytesLess
    by_cases h1 : x < y
    · simp [h1]
    · by_cases h2 : y < x
      · have hne : (x == y) = false := by
          rw [beq_eq_false_iff_ne]; intro e; subst e; exact h1 h2
        simp [h1, h2, hne]
      · have e : x = y := UInt8.le_antisymm (UInt8.not_lt.1 h2) (UInt8.not_lt.1 h1)
        subst e
        simp [h1, ih]

theorem run_bytesOf {P : Program} (w : World) (a : Option Addr) (len cap : Nat) (xs : List Int) (h : BRow w a len xs) :
    (Extern.Bytes.bytesOf (.slice a len cap)).run P w = .ok ⟨(Lib.bytesOf xs).toArray⟩ w := by
  cases a with
  | none =>
    have h0 := h.2.2.1 rfl
    have hx : xs = [] := List.length_eq_zero_iff.1 (by rw [h.1]; exact h0)
    subst hx
    rfl
  | some x =>
    have hl := Lib.run_loadBytesX (P := P) w xs x .empty (fun j y hj => by
      have hjl : j < xs.length := (List.getElem?_eq_some_iff.1 hj).1
      rw [h.2.2.2 x rfl j (by rw [← h.1]; exact hjl), List.getD_eq_getElem?_getD, hj]
      rfl)
    rw [h.1] at hl
    show (Extern.Bytes.loadBytes x len .empty).run P w = _
    rw [hl]
    congr 1
    apply ByteArray.ext
    show (#[] : Array UInt8) ++ (Lib.bytesOf xs).toArray = (Lib.bytesOf xs).toArray
    simp

theorem run_compare {P : Program} (w : World) (a b : Option Addr) (la ca lb cb : Nat) (xs ys : List Int) (ha : BRow w a la xs) (hb : BRow w b lb ys) :
    (Extern.BytealgCompare.compare #[.slice a la ca, .slice b lb cb]).run P w = .ok (.int .i64 (Lib.compareBytes (Lib.bytesOf xs) (Lib.bytesOf ys))) w := by
  change Sem.run P (do pure (goInt (Extern.BytealgCompare.cmp (← Extern.Bytes.bytesOf (.slice a la ca)) (← Extern.Bytes.bytesOf (.slice b lb cb))))) w = _
  simp only [Sem.run_bind, run_bytesOf w a la ca xs ha, run_bytesOf w b lb cb ys hb, Sem.run_pure, Result.andThen]
  rw [Lib.cmp_eq]
  rfl

theorem l1Ahead_any (a b : Option Addr) (la ca lb cb : Nat) (xs ys : List Int) (w : World) (ha : BRow w a la xs) (hb : BRow w b lb ys) :
    Calls Tryz.prog 99 #[.slice a la ca, .slice b lb cb] w fun e w' => e = .returned (.bool (aheadB xs ys)) ∧ w' = w := by
  have h1 := conv_any (P := Tryz.prog) w 60 5 9 Tryz.underlying60 Tryz.underlying5 Tryz.underlying9 a la ca xs ha
  have h2 := conv_any (P := Tryz.prog) w 60 5 9 Tryz.underlying60 Tryz.underlying5 Tryz.underlying9 b lb cb ys hb
  clear ha hb
  go_enter Tryz.func99, Tryz.ntmps99
  go_wp2
  go_ret
  exact ⟨rfl, rfl⟩

theorem implAhead_any (a b : Option Addr) (la ca lb cb : Nat) (xs ys : List Int) (w : World) (ha : BRow w a la xs) (hb : BRow w b lb ys) :
    Calls Tryz.prog 126 #[.slice a la ca, .slice b lb cb] w fun e w' => e = .returned (.bool (aheadB xs ys)) ∧ w' = w := by
  have hr : (callFunc 149 #[.slice a la ca, .slice b lb cb]).run Tryz.prog w = .ok (.value (.int .i64 (Lib.compareBytes (Lib.bytesOf xs) (Lib.bytesOf ys)))) w := by
    rw [run_callFunc_extern (P := Tryz.prog) Tryz.func149 (by kernel_rfl) (by kernel_rfl) (by kernel_rfl) (e := Extern.BytealgCompare.compare) (by kernel_rfl), run_compare w a b la ca lb cb xs ys ha hb]
    rfl
  have e := less_of_compare (Lib.bytesOf xs) (Lib.bytesOf ys)
  rw [← Lib.strOfNums_toList, ← Lib.strOfNums_toList] at e
  rw [← Lib.strOfNums_toList, ← Lib.strOfNums_toList] at hr
  have HE := hide e
  clear ha hb e
  generalize Lib.compareBytes (strOfNums xs).toList (strOfNums ys).toList = c at hr HE
  go_enter Tryz.func126, Tryz.ntmps126
  go_wp2
  go_ret
  exact ⟨ret_bool (unhide HE), rfl⟩

end Go.Proofs.YtldiilmpmcbjkaaGreatDoor

/- What is proved here: plain facts on the fault of a list of signers; no program is named. -/
namespace Go.Proofs.YtldiilmpmcbjkaaGreatDoor
open Go.RowKit
set_option linter.unusedVariables false
set_option maxRecDepth 100000

/-- Whether the signer at a place has a fault: no address, or not behind the one ahead. -/
def sgBad (zss : List (List Int)) (k : Nat) (z : List Int) : Bool := z.length != 4 || (decide (0 < k) && !aheadB (zss.getD (k - 1) []) z)

/-- The first fault among the signers from a place on. -/
def sgFrom (zss : List (List Int)) : Nat → List (List Int) → Int
  | _, [] => 0
  | k, z :: r => if sgBad zss k z = true then 1 else sgFrom zss (k + 1) r

def sgFlt (zss : List (List Int)) : Int := if 7 < zss.length then 2 else sgFrom zss 0 zss

theorem sgFrom_step (zss : List (List Int)) (k : Nat) (z : List Int) (h : zss[k]? = some z) : sgFrom zss k (zss.drop k) = if sgBad zss k z = true then 1 else sgFrom zss (k + 1) (zss.drop (k + 1)) := by
  obtain ⟨hk, e⟩ := List.getElem?_eq_some_iff.1 h
  rw [List.drop_eq_getElem_cons hk, e]
  rfl

theorem sgFrom_end (zss : List (List Int)) (k : Nat) (h : zss.length ≤ k) : sgFrom zss k (zss.drop k) = 0 := by
  rw [List.drop_eq_nil_of_le h]; rfl

theorem sgFrom_cases (zss : List (List Int)) : ∀ (r : List (List Int)) (k : Nat), sgFrom zss k r = 0 ∨ sgFrom zss k r = 1
  | [], k => .inl rfl
  | z :: r, k => by
    unfold sgFrom
    split
    · exact .inr rfl
    · exact sgFrom_cases zss r (k + 1)

theorem sgFlt_cases (zss : List (List Int)) : sgFlt zss = 0 ∨ sgFlt zss = 1 ∨ sgFlt zss = 2 := by
  unfold sgFlt
  split
  · omega
  · rcases sgFrom_cases zss zss 0 with h | h <;> omega

end Go.Proofs.YtldiilmpmcbjkaaGreatDoor

/- What is proved here: plain facts on the fault of a header, and the eleven cells of one; no program is named. -/
namespace Go.Proofs.YtldiilmpmcbjkaaGreatDoor
open Go.RowKit
set_option linter.unusedVariables false
set_option maxRecDepth 100000

theorem hcells {W : World} {g : Nat} {x : HS} {h : Hd} {T : TypeId} (b : SBlk W g (hvals x h).toList T) : W.cell? ⟨g, 0, none⟩ = some (.slice x.p.a x.p.n x.p.c) ∧ W.cell? ⟨g, 1, none⟩ = some (.int .i64 h.n1) ∧ W.cell? ⟨g, 2, none⟩ = some (.int .i64 h.n2) ∧ W.cell? ⟨g, 3, none⟩ = some (.int .i64 h.n3) ∧ W.cell? ⟨g, 4, none⟩ = some (.slice x.t.a x.t.n x.t.c) ∧ W.cell? ⟨g, 5, none⟩ = some (.int .i64 h.n5) ∧ W.cell? ⟨g, 6, none⟩ = some (.slice x.s.a x.s.n x.s.c) ∧ W.cell? ⟨g, 7, none⟩ = some (.slice x.r.a x.r.n x.r.c) ∧ W.cell? ⟨g, 8, none⟩ = some (.slice x.g.a x.g.n x.g.c) ∧ W.cell? ⟨g, 9, none⟩ = some (.slice x.e.a x.e.n x.e.c) ∧ W.cell? ⟨g, 10, none⟩ = some (.slice x.k.a x.k.n x.k.c) :=
  ⟨b.cell 0, b.cell 1, b.cell 2, b.cell 3, b.cell 4, b.cell 5, b.cell 6, b.cell 7, b.cell 8, b.cell 9, b.cell 10⟩

theorem srange {W : World} {g : Nat} {vs : List Value} {T : TypeId} (b : SBlk W g vs T) : W.rangeAt g 0 vs := fun j v hj => by
  rw [Nat.zero_add, b.cell j]; exact hj

/-- Whether a field has a wrong number of bytes. -/
def hdLen (h : Hd) : Bool := ((h.p.length : Int) != 32) || (((h.t.length : Int) != 0) && ((h.t.length : Int) != 4)) || ((h.r.length : Int) != 32) || ((h.g.length : Int) != 4) || (((h.e.length : Int) != 0) && ((h.e.length : Int) != 4))

def within (n lo hi : Int) : Bool := decide (lo ≤ n ∧ n ≤ hi)

/-- Whether all numbers lie within their bounds. -/
def hdNum (h : Hd) : Bool := within h.n1 0 1099511627776 && within h.n2 0 1099511627776 && within h.n3 0 9 && within h.n5 0 2

/-- The fault of the commits from a place on. -/
def coFrom : List (List Int) → Int
  | [] => 0
  | z :: r => if z.length = 8 then coFrom r else 1

def coFlt (zss : List (List Int)) : Int := if 7 < zss.length then 2 else coFrom zss

/-- The fault of a header. -/
def hdFlt (h : Hd) : Int := if hdLen h = true then 1 else if hdNum h = false then 3 else if sgFlt h.s = 0 then coFlt h.k else sgFlt h.s

theorem coFrom_step (zss : List (List Int)) (k : Nat) (z : List Int) (h : zss[k]? = some z) : coFrom (zss.drop k) = if z.length = 8 then coFrom (zss.drop (k + 1)) else 1 := by
  obtain ⟨hk, e⟩ := List.getElem?_eq_some_iff.1 h
  rw [List.drop_eq_getElem_cons hk, e]
  rfl

theorem coFrom_end (zss : List (List Int)) (k : Nat) (h : zss.length ≤ k) : coFrom (zss.drop k) = 0 := by
  rw [List.drop_eq_nil_of_le h]; rfl

end Go.Proofs.YtldiilmpmcbjkaaGreatDoor

/- What is proved here: what the program's SignersFault answers: the first fault of a list of signers. -/
namespace Go.Proofs.YtldiilmpmcbjkaaGreatDoor
open Go.RowKit
set_option linter.unusedVariables false
set_option maxRecDepth 100000

theorem isAddr_any (a : Option Addr) (n cap : Nat) (w : World) : Calls Tryz.prog 112 #[.slice a n cap] w fun e w' => e = .returned (.bool (((n : Nat) : Int) == 4)) ∧ w' = w := by
  go_enter Tryz.func112, Tryz.ntmps112
  go_wp2_with fail
  go_ret
  exact ⟨rfl, rfl⟩

set_option maxHeartbeats 2000000 in
theorem implSigners_any (a : Option Addr) (len cap : Nat) (zss : List (List Int)) (w : World) (h : BsRow w a len zss) (hl : len ≤ 1048576) :
    Calls Tryz.prog 115 #[.slice a len cap] w fun e w' => e = .returned (.int .i64 (sgFlt zss)) ∧ w' = w := by
  have hil := h.1
  by_cases h2 : 7 < len
  · have HE : Hid (sgFlt zss = 2) := by show _ = _; unfold sgFlt; rw [if_pos (by rw [hil]; exact h2)]
    have hd : decide ((7 : Int) < (len : Int)) = true := decide_eq_true (by omega)
    clear h hil
    go_enter Tryz.func115, Tryz.ntmps115
    go_wp2_with fail
    go_ret
    exact ⟨ret_int (unhide HE).symm, rfl⟩
  · have d2 : decide ((7 : Int) < (len : Int)) = false := decide_eq_false (by omega)
    have HE : Hid (sgFlt zss = sgFrom zss 0 zss) := by show _ = _; unfold sgFlt; rw [if_neg (by omega)]
    rcases Nat.eq_zero_or_pos len with h0 | hp
    · subst h0
      have hn : zss = [] := List.length_eq_zero_iff.1 hil
      subst hn
      clear h
      go_enter Tryz.func115, Tryz.ntmps115
      go_wp2_with fail
      refine wp_loop_rounds 1 ?_
      rw [rounds_succ]
      go_wp2_with fail
      go_ret
      exact ⟨ret_int (by rw [unhide HE]; rfl), rfl⟩
    · obtain ⟨b, off, rfl, hb, hc⟩ := h.at hp
      have HC := hide hc
      have HL := hide hil
      clear h hc hil
      go_enter Tryz.func115, Tryz.ntmps115
      go_wp2_with fail
      go_loop [10] (fun i => ∃ k : Nat, k ≤ len ∧ i = .int .i64 k ∧ sgFrom zss 0 zss = sgFrom zss k (zss.drop k)) (fun i => len - (intOf i).toNat)
      case atStart => exact ⟨0, Nat.zero_le _, rfl, by simp⟩
      case round =>
        obtain ⟨k, hk, rfl, hpre⟩ := hrel
        by_cases hlt : k < len
        · obtain ⟨z, hit⟩ : ∃ z, zss[k]? = some z := ⟨_, List.getElem?_eq_getElem (by rw [unhide HL]; exact hlt)⟩
          have hst := sgFrom_step zss k z hit
          rw [← hpre] at hst
          obtain ⟨s1, n1, d1, p0, r1⟩ := (unhide HC) k z hit
          have hzl : z.length = n1 := r1.1
          have HS := hide hst
          have i1 : (0 : Int) ≤ (k : Int) := by omega
          have i2 : (k : Int) < (len : Int) := by omega
          have HI := hide (isAddr_any s1 n1 d1 w)
          by_cases h4 : n1 = 4
          · have d4 : (((n1 : Nat) : Int) == 4) = true := by simp [h4]
            rw [d4] at HI
            by_cases k0 : k = 0
            · have e : sgBad zss k z = false := by unfold sgBad; simp [hzl, h4, k0]
              rw [e, if_neg (by simp)] at HS
              have dk : decide ((0 : Int) < (k : Int)) = false := decide_eq_false (by omega)
              have dk' : decide (0 < k) = false := decide_eq_false (by omega)
              clear r1 hst hpre hit hzl e k0 h4
              go_wp2_with fail
              refine (unhide HI).mono ?_
              rintro e w1 ⟨rfl, rfl⟩
              go_wp2_with fail
              go_round
              case rel => exact ⟨k + 1, by omega, by go_num, unhide HS⟩
              case measure => simp [intOf]; omega
            · obtain ⟨y, hiy⟩ : ∃ y, zss[k - 1]? = some y := ⟨_, List.getElem?_eq_getElem (by rw [unhide HL]; omega)⟩
              obtain ⟨s2, n2, d2', q0, r2⟩ := (unhide HC) (k - 1) y hiy
              have hgd : zss.getD (k - 1) [] = y := by rw [List.getD_eq_getElem?_getD, hiy]; rfl
              have e : sgBad zss k z = !aheadB y z := by unfold sgBad; rw [hgd, hzl, h4]; simp; omega
              rw [e] at HS
              have dk : decide ((0 : Int) < (k : Int)) = true := decide_eq_true (by omega)
              have dk' : decide (0 < k) = true := decide_eq_true (by omega)
              have ek : ((k : Int) - 1).toNat = k - 1 := by omega
              have j1 : (0 : Int) ≤ (k : Int) - 1 := by omega
              have j2 : (k : Int) - 1 < (len : Int) := by omega
              have hwr : IntKind.i64.wrap ((k : Int) - 1) = (k : Int) - 1 := by rw [IntKind.wrap_i64]; omega
              have HA := hide (implAhead_any s2 s1 n2 d2' n1 d1 y z w r2 r1)
              have q1 : w.cell? ⟨b, off + ((k : Int) - 1).toNat, none⟩ = some (.slice s2 n2 d2') := by rw [ek]; exact q0
              clear r1 r2 hst hpre hit hiy hzl hgd e k0 h4 ek
              generalize aheadB y z = sb at HA HS
              cases sb
              · go_wp2_with fail
                refine (unhide HI).mono ?_
                rintro e w1 ⟨rfl, rfl⟩
                go_wp2_with fail
                refine (unhide HA).mono ?_
                rintro e w1 ⟨rfl, rfl⟩
                go_wp2_with fail
                go_ret
                exact ⟨ret_int (by rw [unhide HE, unhide HS]; rfl), rfl⟩
              · go_wp2_with fail
                refine (unhide HI).mono ?_
                rintro e w1 ⟨rfl, rfl⟩
                go_wp2_with fail
                refine (unhide HA).mono ?_
                rintro e w1 ⟨rfl, rfl⟩
                go_wp2_with fail
                go_round
                case rel => exact ⟨k + 1, by omega, by go_num, by rw [unhide HS]; rfl⟩
                case measure => simp [intOf]; omega
          · have d4 : (((n1 : Nat) : Int) == 4) = false := by rw [beq_eq_false_iff_ne]; omega
            rw [d4] at HI
            have e : sgBad zss k z = true := by unfold sgBad; simp [hzl, h4]
            rw [e, if_pos rfl] at HS
            clear r1 hst hpre hit hzl e h4
            go_wp2_with fail
            refine (unhide HI).mono ?_
            rintro e w1 ⟨rfl, rfl⟩
            go_wp2_with fail
            go_ret
            exact ⟨ret_int (by rw [unhide HE, unhide HS]), rfl⟩
        · obtain rfl : k = len := by omega
          have e := sgFrom_end zss k (by rw [unhide HL]; exact Nat.le_refl _)
          rw [e] at hpre
          have HP := hide hpre
          clear e hpre
          go_wp2_with fail
          go_ret
          exact ⟨ret_int (by rw [unhide HE, unhide HP]), rfl⟩

end Go.Proofs.YtldiilmpmcbjkaaGreatDoor

/- What is proved here: what the program's HeaderFault answers, and what it calls: the fault of a header. -/
namespace Go.Proofs.YtldiilmpmcbjkaaGreatDoor
open Go.RowKit
set_option linter.unusedVariables false
set_option maxRecDepth 100000

theorem isHash_any (a : Option Addr) (n cap : Nat) (w : World) : Calls Tryz.prog 110 #[.slice a n cap] w fun e w' => e = .returned (.bool (((n : Nat) : Int) == 32)) ∧ w' = w := by
  go_enter Tryz.func110, Tryz.ntmps110
  go_wp2_with fail
  go_ret
  exact ⟨rfl, rfl⟩

theorem isWithin_any (v lo hi : Int) (w : World) : Calls Tryz.prog 55 #[.int .i64 v, .int .i64 lo, .int .i64 hi] w fun e w' => e = .returned (.bool (within v lo hi)) ∧ w' = w := by
  unfold within
  by_cases h0 : lo ≤ v
  · have e0 : decide (lo ≤ v) = true := decide_eq_true h0
    by_cases h1 : v ≤ hi
    · have e1 : decide (v ≤ hi) = true := decide_eq_true h1
      have e : decide (lo ≤ v ∧ v ≤ hi) = true := decide_eq_true ⟨h0, h1⟩
      rw [e]
      clear e
      go_enter Tryz.func55, Tryz.ntmps55
      go_wp2_with fail
      go_ret
      exact ⟨rfl, rfl⟩
    · have e1 : decide (v ≤ hi) = false := decide_eq_false h1
      have e : decide (lo ≤ v ∧ v ≤ hi) = false := decide_eq_false (fun h => h1 h.2)
      rw [e]
      clear e
      go_enter Tryz.func55, Tryz.ntmps55
      go_wp2_with fail
      go_ret
      exact ⟨rfl, rfl⟩
  · have e0 : decide (lo ≤ v) = false := decide_eq_false h0
    have e : decide (lo ≤ v ∧ v ≤ hi) = false := decide_eq_false (fun h => h0 h.1)
    rw [e]
    clear e
    go_enter Tryz.func55, Tryz.ntmps55
    go_wp2_with fail
    go_ret
    exact ⟨rfl, rfl⟩

theorem isWithin_to (v lo hi : Int) (c : Bool) (w : World) (e : within v lo hi = c) : Calls Tryz.prog 55 #[.int .i64 v, .int .i64 lo, .int .i64 hi] w fun e w' => e = .returned (.bool c) ∧ w' = w := by
  subst e; exact isWithin_any v lo hi w

theorem isNumber_to (v : Int) (c : Bool) (w : World) (e : within v 0 1099511627776 = c) : Calls Tryz.prog 113 #[.int .i64 v] w fun e w' => e = .returned (.bool c) ∧ w' = w := by
  have HI := hide (isWithin_to v 0 1099511627776 c w e)
  clear e
  go_enter Tryz.func113, Tryz.ntmps113
  go_wp2_with fail
  refine (unhide HI).mono ?_
  rintro e w' ⟨rfl, rfl⟩
  go_wp2_with fail
  go_ret
  exact ⟨rfl, rfl⟩

theorem hasNonce_to (x : HS) (h : Hd) (c : Bool) (w : World) (e : within h.n5 0 2 = c) : Calls Tryz.prog 114 #[.agg #[.slice x.t.a x.t.n x.t.c, .int .i64 h.n5, .slice x.s.a x.s.n x.s.c]] w fun e w' => e = .returned (.bool c) ∧ Below w.heap.size w w' := by
  have HI := hide (fun W => isWithin_to h.n5 0 2 c W e)
  have HB := hide (below_alloc w (.cells #[.slice x.t.a x.t.n x.t.c, .int .i64 h.n5, .slice x.s.a x.s.n x.s.c] 123))
  clear e
  go_enter Tryz.func114, Tryz.ntmps114
  go_wp2_with fail
  refine ((unhide HI) _).mono ?_
  rintro e w' ⟨rfl, rfl⟩
  go_wp2_with fail
  go_ret
  exact ⟨rfl, unhide HB⟩

theorem hasAim_to (x : HS) (h : Hd) (b2 b3 : Bool) (w : World) (e2 : (((x.t.n : Nat) : Int) != 0) = b2) (e3 : (((x.t.n : Nat) : Int) != 4) = b3) :
    Calls Tryz.prog 111 #[.agg #[.slice x.t.a x.t.n x.t.c, .int .i64 h.n5, .slice x.s.a x.s.n x.s.c]] w fun e w' => e = .returned (.bool (!(b2 && b3))) ∧ Below w.heap.size w w' := by
  have HI := hide (fun W => isAddr_any x.t.a x.t.n x.t.c W)
  have HB := hide (below_alloc w (.cells #[.slice x.t.a x.t.n x.t.c, .int .i64 h.n5, .slice x.s.a x.s.n x.s.c] 123))
  have f2 : (((x.t.n : Nat) : Int) == 0) = !b2 := by rw [← e2]; simp [bne]
  have f3 : (((x.t.n : Nat) : Int) == 4) = !b3 := by rw [← e3]; simp [bne]
  simp only [f3] at HI
  clear e2 e3 f3
  cases b2
  · have f2' : (((x.t.n : Nat) : Int) == 0) = true := f2
    clear f2
    go_enter Tryz.func111, Tryz.ntmps111
    go_wp2_with fail
    go_ret
    exact ⟨rfl, unhide HB⟩
  · have f2' : (((x.t.n : Nat) : Int) == 0) = false := f2
    clear f2
    go_enter Tryz.func111, Tryz.ntmps111
    go_wp2_with fail
    refine ((unhide HI) _).mono ?_
    rintro e w' ⟨rfl, rfl⟩
    go_wp2_with fail
    go_ret
    exact ⟨ret_bool (by cases b3 <;> rfl), unhide HB⟩

theorem votesFault_any (x : HS) (h : Hd) (w : World) (o : BsRow w x.s.a x.s.n h.s) (hl : x.s.n ≤ 1048576) : Calls Tryz.prog 90 #[.agg #[.slice x.t.a x.t.n x.t.c, .int .i64 h.n5, .slice x.s.a x.s.n x.s.c]] w fun e w' => e = .returned (.int .i64 (sgFlt h.s)) ∧ Below w.heap.size w w' := by
  have hb := below_alloc w (.cells #[.slice x.t.a x.t.n x.t.c, .int .i64 h.n5, .slice x.s.a x.s.n x.s.c] 123)
  have HI := hide (implSigners_any x.s.a x.s.n x.s.c h.s _ (o.below hb (Nat.le_refl _)) hl)
  have HB := hide hb
  clear o hb
  generalize sgFlt h.s = q at HI
  go_enter Tryz.func90, Tryz.ntmps90
  go_wp2_with fail
  refine (unhide HI).mono ?_
  rintro e w' ⟨rfl, rfl⟩
  go_wp2_with fail
  go_ret
  exact ⟨rfl, unhide HB⟩

set_option maxHeartbeats 4000000 in
theorem commitsFault_any (x : HS) (h : Hd) (w : World) (o : BsRow w x.k.a x.k.n h.k) (hkl : x.k.n ≤ 1048576) : Calls Tryz.prog 91 #[.agg (hvals x h)] w fun e w' => e = .returned (.int .i64 (coFlt h.k)) ∧ Below w.heap.size w w' := by
  have k0 := SBlk.new w (hvals x h) 125
  have hb := below_alloc w (.cells (hvals x h) 125)
  obtain ⟨x0, x1, x2, x3, x4, x5, x6, x7, x8, x9, x10⟩ := hcells k0
  have HK := hide (o.below hb (Nat.le_refl _))
  have HB := hide hb
  obtain ⟨W0, e0⟩ : ∃ W0, w.alloc (.cells (hvals x h) 125) = W0 := ⟨_, rfl⟩
  rw [e0] at x10 HK HB
  clear o hb k0 x0 x1 x2 x3 x4 x5 x6 x7 x8 x9
  unfold hvals at e0 ⊢
  by_cases h7 : 7 < x.k.n
  · have d7 : decide ((7 : Int) < (x.k.n : Int)) = true := decide_eq_true (by omega)
    go_enter Tryz.func91, Tryz.ntmps91
    go_wp2_with (rw [e0])
    go_ret
    refine ⟨ret_int ?_, by first | exact unhide HB | (rw [e0]; exact unhide HB)⟩
    unfold coFlt; rw [if_pos (by rw [(unhide HK).1]; exact h7)]
  · have d7 : decide ((7 : Int) < (x.k.n : Int)) = false := decide_eq_false (by omega)
    have HE3 : Hid (coFlt h.k = coFrom h.k) := by
      show _ = _
      unfold coFlt; rw [if_neg (by rw [(unhide HK).1]; exact h7)]
    go_enter Tryz.func91, Tryz.ntmps91
    go_upto_region 1 with (rw [e0])
    try rw [e0]
    clear e0
    go_wp2_with fail
    go_loop [12] (fun i => ∃ k : Nat, k ≤ x.k.n ∧ i = .int .i64 k ∧ coFrom h.k = coFrom (h.k.drop k)) (fun i => x.k.n - (intOf i).toNat)
    case atStart => exact ⟨0, Nat.zero_le _, rfl, by simp⟩
    case round =>
      obtain ⟨k, hk, rfl, hpre⟩ := hrel
      by_cases hlt : k < x.k.n
      · obtain ⟨z, hit⟩ : ∃ z, h.k[k]? = some z := ⟨_, List.getElem?_eq_getElem (by rw [(unhide HK).1]; exact hlt)⟩
        have hst := coFrom_step h.k k z hit
        rw [← hpre] at hst
        obtain ⟨bb, off, hba, _, hcc⟩ := (unhide HK).at (by omega)
        obtain ⟨s1, m1, d1, p0, r1⟩ := hcc k z hit
        have hzl : z.length = m1 := r1.1
        rw [hzl] at hst
        have HS := hide hst
        have i1 : (0 : Int) ≤ (k : Int) := by omega
        have i2 : (k : Int) < (x.k.n : Int) := by omega
        clear r1 hst hpre hit hzl hcc x10
        by_cases h8 : m1 = 8
        · have d8 : (((m1 : Nat) : Int) != 8) = false := by simp [h8]
          rw [if_pos h8] at HS
          clear h8
          rw [hba]
          clear hba
          go_wp2_with fail
          go_round
          case rel => exact ⟨k + 1, by omega, by go_num, unhide HS⟩
          case measure => simp [intOf]; omega
        · have d8 : (((m1 : Nat) : Int) != 8) = true := by simp; omega
          rw [if_neg h8] at HS
          clear h8
          rw [hba]
          clear hba
          go_wp2_with fail
          go_ret
          exact ⟨ret_int (by rw [unhide HE3, unhide HS]), unhide HB⟩
      · obtain rfl : k = x.k.n := by omega
        have e := coFrom_end h.k x.k.n (by rw [(unhide HK).1]; exact Nat.le_refl _)
        rw [e] at hpre
        have HP := hide hpre
        clear e hpre
        go_wp2_with fail
        go_ret
        exact ⟨ret_int (by rw [unhide HE3, unhide HP]), unhide HB⟩

end Go.Proofs.YtldiilmpmcbjkaaGreatDoor

/- What is proved here: what the model's l5Signers answers: the first fault of a list of signers. -/
namespace Go.Proofs.YtldiilmpmcbjkaaGreatDoor
open Go.RowKit
set_option linter.unusedVariables false
set_option maxRecDepth 100000

set_option maxHeartbeats 2000000 in
theorem l5Signers_any (a : Option Addr) (len cap : Nat) (zss : List (List Int)) (w : World) (h : BsRow w a len zss) (hl : len ≤ 1048576) :
    Calls Tryz.prog 80 #[.slice a len cap] w fun e w' => e = .returned (.int .i64 (sgFlt zss)) ∧ ∃ n, w' = w.drewN n := by
  have hil := h.1
  by_cases h2 : 7 < len
  · have HE : Hid (sgFlt zss = 2) := by show _ = _; unfold sgFlt; rw [if_pos (by rw [hil]; exact h2)]
    have hd : decide ((7 : Int) < (len : Int)) = true := decide_eq_true (by omega)
    clear h hil
    go_enter Tryz.func80, Tryz.ntmps80
    go_wp2_with fail
    go_ret
    exact ⟨ret_int (unhide HE).symm, 0, rfl⟩
  · have d2 : decide ((7 : Int) < (len : Int)) = false := decide_eq_false (by omega)
    have HE : Hid (sgFlt zss = sgFrom zss 0 zss) := by show _ = _; unfold sgFlt; rw [if_neg (by omega)]
    rcases Nat.eq_zero_or_pos len with h0 | hp
    · subst h0
      have hn : zss = [] := List.length_eq_zero_iff.1 hil
      subst hn
      clear h
      go_enter Tryz.func80, Tryz.ntmps80
      go_wp2_with fail
      refine wp_loop_rounds 1 ?_
      rw [rounds_succ]
      go_wp2_with fail
      go_ret
      exact ⟨ret_int (by rw [unhide HE]; rfl), 0, rfl⟩
    · obtain ⟨b, off, rfl, hb, hc⟩ := h.at hp
      have HC := hide hc
      have HL := hide hil
      clear h hc hil
      go_enter Tryz.func80, Tryz.ntmps80
      go_wp2_with fail
      go_loopw [3] (fun i wr => ∃ k n : Nat, k ≤ len ∧ i = .int .i64 k ∧ sgFrom zss 0 zss = sgFrom zss k (zss.drop k) ∧ wr = w.drewN n) (fun i _ => len - (intOf i).toNat)
      case atStart => exact ⟨0, 0, Nat.zero_le _, rfl, by simp, rfl⟩
      case round =>
        obtain ⟨k, n, hk, rfl, hpre, hw⟩ := hrel
        have hbw : Below w.heap.size w wr := by rw [hw]; exact below_drewN (Below.refl _ _) n
        have HW := hide hw
        clear hw
        by_cases hlt : k < len
        · obtain ⟨z, hit⟩ : ∃ z, zss[k]? = some z := ⟨_, List.getElem?_eq_getElem (by rw [unhide HL]; exact hlt)⟩
          have hst := sgFrom_step zss k z hit
          rw [← hpre] at hst
          obtain ⟨s1, n1, d1, p0, r1⟩ := ((unhide HC) k z hit).below hbw (Nat.le_refl _)
          have hzl : z.length = n1 := r1.1
          have HS := hide hst
          have i1 : (0 : Int) ≤ (k : Int) := by omega
          have i2 : (k : Int) < (len : Int) := by omega
          by_cases h4 : n1 = 4
          · have d4 : (((n1 : Nat) : Int) != 4) = false := by simp [h4]
            by_cases k0 : k = 0
            · have e : sgBad zss k z = false := by unfold sgBad; simp [hzl, h4, k0]
              rw [e, if_neg (by simp)] at HS
              have dk : decide ((0 : Int) < (k : Int)) = false := decide_eq_false (by omega)
              have dk' : decide (0 < k) = false := decide_eq_false (by omega)
              clear r1 hst hpre hit hzl e k0 h4 hbw
              go_wp2_with fail
              go_quiet (fail)
              all_goals
                go_wp2_with fail
                go_roundw
                case rel => exact ⟨k + 1, _, by omega, by go_num, unhide HS, by rw [unhide HW]; first | rfl | exact World.drewN_drewN ..⟩
                case measure => simp [intOf]; omega
            · obtain ⟨j, hj⟩ : ∃ j : Nat, k - 1 = j := ⟨_, rfl⟩
              obtain ⟨y, hiy⟩ : ∃ y, zss[j]? = some y := ⟨_, List.getElem?_eq_getElem (by rw [unhide HL]; omega)⟩
              obtain ⟨s2, n2, d2', q0, r2⟩ := ((unhide HC) j y hiy).below hbw (Nat.le_refl _)
              have hgd : zss.getD (k - 1) [] = y := by rw [hj, List.getD_eq_getElem?_getD, hiy]; rfl
              have e : sgBad zss k z = !aheadB y z := by unfold sgBad; rw [hgd, hzl, h4]; simp; omega
              rw [e] at HS
              have dk : decide ((0 : Int) < (k : Int)) = true := decide_eq_true (by omega)
              have dk' : decide (0 < k) = true := decide_eq_true (by omega)
              have j1 : (0 : Int) ≤ (j : Int) := by omega
              have j2 : (j : Int) < (len : Int) := by omega
              have hwr : IntKind.i64.wrap ((k : Int) - 1) = (j : Int) := by rw [IntKind.wrap_i64]; omega
              have HA := hide (fun (m : Nat) => l1Ahead_any s2 s1 n2 d2' n1 d1 y z (wr.drewN m) (r2.below (B := wr.heap.size) (below_drewN (Below.refl _ _) m) (Nat.le_refl _)) (r1.below (B := wr.heap.size) (below_drewN (Below.refl _ _) m) (Nat.le_refl _)))
              clear r1 r2 hst hpre hit hiy hzl hgd e k0 h4 hj hbw
              generalize aheadB y z = sb at HA HS
              cases sb
              · go_wp2_with fail
                go_quiet ((go_at_call 99; exact Calls.quiet_of_same ((unhide HA) _)))
                all_goals
                  go_wp2_with fail
                  go_ret
                  exact ⟨ret_int (by rw [unhide HE, unhide HS]; rfl), _, by rw [unhide HW]; first | rfl | exact World.drewN_drewN ..⟩
              · go_wp2_with fail
                go_quiet ((go_at_call 99; exact Calls.quiet_of_same ((unhide HA) _)))
                all_goals
                  go_wp2_with fail
                  go_roundw
                  case rel => exact ⟨k + 1, _, by omega, by go_num, by rw [unhide HS]; rfl, by rw [unhide HW]; first | rfl | exact World.drewN_drewN ..⟩
                  case measure => simp [intOf]; omega
          · have d4 : (((n1 : Nat) : Int) != 4) = true := by simp; omega
            have e : sgBad zss k z = true := by unfold sgBad; simp [hzl, h4]
            rw [e, if_pos rfl] at HS
            clear r1 hst hpre hit hzl e h4 hbw
            go_wp2_with fail
            go_quiet (fail)
            all_goals
              go_wp2_with fail
              go_ret
              exact ⟨ret_int (by rw [unhide HE, unhide HS]), _, by rw [unhide HW]; first | rfl | exact World.drewN_drewN ..⟩
        · obtain rfl : k = len := by omega
          have e := sgFrom_end zss k (by rw [unhide HL]; exact Nat.le_refl _)
          rw [e] at hpre
          have HP := hide hpre
          clear e hpre
          go_wp2_with fail
          go_ret
          exact ⟨ret_int (by rw [unhide HE, unhide HP]), n, unhide HW⟩

end Go.Proofs.YtldiilmpmcbjkaaGreatDoor

/- What is proved here: what the model's l5Number, l5Fault and HeaderFault answer: the fault of a header. -/
namespace Go.Proofs.YtldiilmpmcbjkaaGreatDoor
open Go.RowKit
set_option linter.unusedVariables false
set_option maxRecDepth 100000

theorem l5Number_any (v : Int) (w : World) : Calls Tryz.prog 79 #[.int .i64 v] w fun e w' => e = .returned (.bool (within v 0 1099511627776)) ∧ w' = w := by
  have HI := hide (in_any v 0 1099511627776 w)
  unfold within
  generalize decide (0 ≤ v ∧ v ≤ 1099511627776) = c at HI
  go_enter Tryz.func79, Tryz.ntmps79
  go_wp2_with fail
  refine (unhide HI).mono ?_
  rintro e w' ⟨rfl, rfl⟩
  go_wp2_with fail
  go_ret
  exact ⟨rfl, rfl⟩

set_option maxRecDepth 100000 in
set_option maxHeartbeats 8000000 in
theorem l5Fault_any (g : Nat) (x : HS) (h : Hd) (T : TypeId) (w : World) (sb : SBlk w g (hvals x h).toList T) (o : HOk w x h) (m : HSm h) :
    Calls Tryz.prog 64 #[.pointer (some ⟨g, 0, none⟩)] w fun e w' => e = .returned (.int .i64 (hdFlt h)) ∧ ∃ n, w' = w.drewN n := by
  obtain ⟨x0, x1, x2, x3, x4, x5, x6, x7, x8, x9, x10⟩ := hcells sb
  have HC := hide (hcells sb)
  obtain ⟨b1, e1⟩ : ∃ b, (((x.p.n : Nat) : Int) != 32) = b := ⟨_, rfl⟩
  obtain ⟨b2, e2⟩ : ∃ b, (((x.t.n : Nat) : Int) != 0) = b := ⟨_, rfl⟩
  obtain ⟨b3, e3⟩ : ∃ b, (((x.t.n : Nat) : Int) != 4) = b := ⟨_, rfl⟩
  obtain ⟨b4, e4⟩ : ∃ b, (((x.r.n : Nat) : Int) != 32) = b := ⟨_, rfl⟩
  obtain ⟨b5, e5⟩ : ∃ b, (((x.g.n : Nat) : Int) != 4) = b := ⟨_, rfl⟩
  obtain ⟨b6, e6⟩ : ∃ b, (((x.e.n : Nat) : Int) != 0) = b := ⟨_, rfl⟩
  obtain ⟨b7, e7⟩ : ∃ b, (((x.e.n : Nat) : Int) != 4) = b := ⟨_, rfl⟩
  have HL : Hid (hdLen h = (b1 || (b2 && b3) || b4 || b5 || (b6 && b7))) := by
    show _ = _
    unfold hdLen
    rw [o.p.1, o.t.1, o.r.1, o.g.1, o.e.1, e1, e2, e3, e4, e5, e6, e7]
  obtain ⟨c1, f1⟩ : ∃ c, within h.n1 0 1099511627776 = c := ⟨_, rfl⟩
  obtain ⟨c2, f2⟩ : ∃ c, within h.n2 0 1099511627776 = c := ⟨_, rfl⟩
  obtain ⟨c3, f3⟩ : ∃ c, within h.n3 0 9 = c := ⟨_, rfl⟩
  obtain ⟨c5, f5⟩ : ∃ c, within h.n5 0 2 = c := ⟨_, rfl⟩
  have HN : Hid (hdNum h = (c1 && c2 && c3 && c5)) := by
    show _ = _
    unfold hdNum
    rw [f1, f2, f3, f5]
  have D1 := hide (fun W => l5Number_any h.n1 W)
  have D2 := hide (fun W => l5Number_any h.n2 W)
  have D3 := hide (fun W => in_any h.n3 0 9 W)
  have D5 := hide (fun W => in_any h.n5 0 2 W)
  simp only [f1] at D1
  simp only [f2] at D2
  simp only [show decide (0 ≤ h.n3 ∧ h.n3 ≤ 9) = c3 from f3] at D3
  simp only [show decide (0 ≤ h.n5 ∧ h.n5 ≤ 2) = c5 from f5] at D5
  have HSG := hide (l5Signers_any x.s.a x.s.n x.s.c h.s w o.s (by have := o.s.1; have := m.s; omega))
  have HE : Hid (hdFlt h = if hdLen h = true then 1 else if hdNum h = false then 3 else if sgFlt h.s = 0 then coFlt h.k else sgFlt h.s) := rfl
  have HK := hide o.k
  have hkl : x.k.n ≤ 1048576 := by have := o.k.1; have := m.k; omega
  clear o m f1 f2 f3 f5 sb
  generalize sgFlt h.s = q at HSG HE
  go_enter Tryz.func64, Tryz.ntmps64
  go_upto_region 1 with fail
  go_cut [58] (fun s wx => s = .bool (b1 || (b2 && b3) || b4 || b5 || (b6 && b7)) ∧ wx = w)
  case first =>
    cases b1
    case true =>
      go_wp2_with fail
      go_meet
      exact ⟨rfl, rfl⟩
    cases b4
    case true =>
      cases b2
      · go_wp2_with fail
        go_meet
        exact ⟨by simp, rfl⟩
      cases b3
      all_goals
        go_wp2_with fail
        go_meet
        exact ⟨by simp, rfl⟩
    cases b5
    case true =>
      cases b2
      · go_wp2_with fail
        go_meet
        exact ⟨by simp, rfl⟩
      cases b3
      all_goals
        go_wp2_with fail
        go_meet
        exact ⟨by simp, rfl⟩
    cases b6
    · cases b2
      · go_wp2_with fail
        go_meet
        exact ⟨by simp, rfl⟩
      cases b3
      all_goals
        go_wp2_with fail
        go_meet
        exact ⟨by simp, rfl⟩
    cases b2
    · go_wp2_with fail
      go_meet
      exact ⟨by simp, rfl⟩
    cases b3
    all_goals
      go_wp2_with fail
      go_meet
      exact ⟨by simp, rfl⟩
  case rest =>
    obtain ⟨rfl, hwc⟩ := hcut
    rw [hwc]
    clear hwc e1 e2 e3 e4 e5 e6 e7
    generalize hlb : (b1 || (b2 && b3) || b4 || b5 || (b6 && b7)) = lb
    rw [hlb] at HL
    clear hlb
    cases lb
    case true =>
      go_wp2_with fail
      go_ret
      exact ⟨ret_int (by rw [unhide HE, unhide HL, if_pos rfl]), 0, rfl⟩
    go_wp2_with fail
    refine ((unhide D1) _).mono ?_
    rintro e w' ⟨rfl, rfl⟩
    cases c1
    · go_wp2_with fail
      go_ret
      exact ⟨ret_int (by rw [unhide HE, unhide HL, unhide HN]; simp), 0, rfl⟩
    go_wp2_with fail
    refine ((unhide D2) _).mono ?_
    rintro e w' ⟨rfl, rfl⟩
    cases c2
    · go_wp2_with fail
      go_ret
      exact ⟨ret_int (by rw [unhide HE, unhide HL, unhide HN]; simp), 0, rfl⟩
    go_wp2_with fail
    refine ((unhide D3) _).mono ?_
    rintro e w' ⟨rfl, rfl⟩
    cases c3
    · go_wp2_with fail
      go_ret
      exact ⟨ret_int (by rw [unhide HE, unhide HL, unhide HN]; simp), 0, rfl⟩
    go_wp2_with fail
    refine ((unhide D5) _).mono ?_
    rintro e w' ⟨rfl, rfl⟩
    cases c5
    · go_wp2_with fail
      go_ret
      exact ⟨ret_int (by rw [unhide HE, unhide HL, unhide HN]; simp), 0, rfl⟩
    go_wp2_with fail
    refine (unhide HSG).mono ?_
    rintro e w1 ⟨rfl, n1, rfl⟩
    by_cases hq : q = 0
    · subst hq
      have HE2 : Hid (hdFlt h = coFlt h.k) := by
        show _ = _
        rw [unhide HE, unhide HL, unhide HN]; simp
      clear HE HL HN D1 D2 D3 D5 HSG x0 x1 x2 x3 x4 x5 x6 x7 x8 x9
      by_cases h7 : 7 < x.k.n
      · have d7 : decide ((7 : Int) < (x.k.n : Int)) = true := decide_eq_true (by omega)
        go_wp2_with fail
        go_ret
        refine ⟨ret_int ?_, n1, rfl⟩
        rw [unhide HE2]; unfold coFlt; rw [if_pos (by rw [(unhide HK).1]; exact h7)]
      have d7 : decide ((7 : Int) < (x.k.n : Int)) = false := decide_eq_false (by omega)
      have HE3 : Hid (hdFlt h = coFrom h.k) := by
        show _ = _
        rw [unhide HE2]; unfold coFlt; rw [if_neg (by rw [(unhide HK).1]; exact h7)]
      clear HE2
      go_wp2_with fail
      go_loop [4] (fun i => ∃ k : Nat, k ≤ x.k.n ∧ i = .int .i64 k ∧ coFrom h.k = coFrom (h.k.drop k)) (fun i => x.k.n - (intOf i).toNat)
      case atStart => exact ⟨0, Nat.zero_le _, rfl, by simp⟩
      case round =>
        obtain ⟨k, hk, rfl, hpre⟩ := hrel
        by_cases hlt : k < x.k.n
        · obtain ⟨z, hit⟩ : ∃ z, h.k[k]? = some z := ⟨_, List.getElem?_eq_getElem (by rw [(unhide HK).1]; exact hlt)⟩
          have hst := coFrom_step h.k k z hit
          rw [← hpre] at hst
          obtain ⟨bb, off, hba, _, hcc⟩ := (unhide HK).at (by omega)
          obtain ⟨s1, m1, d1, p0, r1⟩ := hcc k z hit
          have hzl : z.length = m1 := r1.1
          rw [hzl] at hst
          have HS := hide hst
          have x10' := x10
          rw [hba] at x10'
          have i1 : (0 : Int) ≤ (k : Int) := by omega
          have i2 : (k : Int) < (x.k.n : Int) := by omega
          clear r1 hst hpre hit hzl hcc hba x10
          by_cases h8 : m1 = 8
          · have d8 : (((m1 : Nat) : Int) != 8) = false := by simp [h8]
            rw [if_pos h8] at HS
            clear h8
            go_wp2_with fail
            go_round
            case rel => exact ⟨k + 1, by omega, by go_num, unhide HS⟩
            case measure => simp [intOf]; omega
          · have d8 : (((m1 : Nat) : Int) != 8) = true := by simp; omega
            rw [if_neg h8] at HS
            clear h8
            go_wp2_with fail
            go_ret
            exact ⟨ret_int (by rw [unhide HE3, unhide HS]), n1, rfl⟩
        · obtain rfl : k = x.k.n := by omega
          have e := coFrom_end h.k x.k.n (by rw [(unhide HK).1]; exact Nat.le_refl _)
          rw [e] at hpre
          have HP := hide hpre
          clear e hpre
          go_wp2_with fail
          go_ret
          exact ⟨ret_int (by rw [unhide HE3, unhide HP]), n1, rfl⟩
    · have hne : (q != 0) = true := by simp [hq]
      have HE2 : Hid (hdFlt h = q) := by
        show _ = _
        rw [unhide HE, unhide HL, unhide HN, if_neg (by simp), if_neg (by simp), if_neg hq]
      clear HE HL HN D1 D2 D3 D5 HSG hq
      go_wp2_with fail
      go_ret
      exact ⟨ret_int (unhide HE2).symm, n1, rfl⟩

end Go.Proofs.YtldiilmpmcbjkaaGreatDoor
