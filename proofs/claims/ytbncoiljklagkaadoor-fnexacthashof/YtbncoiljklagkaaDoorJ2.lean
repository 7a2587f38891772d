/- What is proved here: plain facts on slices of items in a world, and how an argument that is such a slice reads; they hold for every program. -/
import Derived.Test.YtbncoiljklagkaaDoorJ1
import Derived.OpenShut
import Derived.Laws.OwnMore
import Derived.Test.YtbncoiljklagkaaDoorChecked
import Derived.WalkKit
import Derived.WalkLawsBesides
import Derived.Lib.BytesEntry
import Derived.KernelRfl
import Derived.Deep.MidRow
import Derived.Maps.AppendAt
import Derived.WalkSmall
import Derived.WalkSpells
import Derived.Laws.CopyOwn
import Derived.Laws.AppendOwnNone
import Derived.Deep.RegionHeld3
import Derived.Deep.DeepCutAuto
import Derived.Deep.CutBlock
import Derived.Deep.AppendLies
namespace Go.Proofs.YtbncoiljklagkaaDoor
open Go.RowKit
set_option linter.unusedVariables false

/-- An item: whether it is a list, its parent, its bytes. -/
structure It where
  l : Bool
  p : Int
  z : List Int

/-- The item 'it' lies at three cells. -/
def ItAt (w : World) (b o : Nat) (it : It) : Prop :=
  ∃ sa sl sc, w.cell? ⟨b, o, none⟩ = some (.bool it.l) ∧ w.cell? ⟨b, o + 1, none⟩ = some (.int .i64 it.p) ∧ w.cell? ⟨b, o + 2, none⟩ = some (.slice sa sl sc) ∧ BRow w sa sl it.z

/-- What the numbers of an item keep to. -/
def ItOk (it : It) : Prop := -9223372036854775808 ≤ it.p ∧ it.p ≤ 9223372036854775807 ∧ it.z.length ≤ maxLen

/-- The slice 'a', of 'len' items, reads as 'its'. -/
def ItRow (w : World) (a : Option Addr) (len : Nat) (its : List It) : Prop :=
  its.length = len ∧ (∀ it ∈ its, ItOk it) ∧ (0 < len → ∃ b off, a = some ⟨b, off, none⟩ ∧ ∀ i it, its[i]? = some it → ItAt w b (off + i * 3) it)

theorem ItAt.lt {w : World} {b o : Nat} {it : It} (h : ItAt w b o it) : b < w.heap.size := by
  obtain ⟨_, _, _, h, _⟩ := h
  exact lt_of_cell h

theorem ItAt.below {w w' : World} {b o : Nat} {it : It} (h : ItAt w b o it) {B : Nat} (hb : Below B w w') (hB : w.heap.size ≤ B) : ItAt w' b o it := by
  have hl := Nat.lt_of_lt_of_le h.lt hB
  obtain ⟨sa, sl, sc, h1, h2, h3, h4⟩ := h
  exact ⟨sa, sl, sc, (hb.cell hl).trans h1, (hb.cell hl).trans h2, (hb.cell hl).trans h3, h4.below hb hB⟩

theorem ItRow.below {w w' : World} {a : Option Addr} {len : Nat} {its : List It} (h : ItRow w a len its) {B : Nat} (hb : Below B w w') (hB : w.heap.size ≤ B) : ItRow w' a len its := by
  refine ⟨h.1, h.2.1, fun hp => ?_⟩
  obtain ⟨b, off, e, k⟩ := h.2.2 hp
  exact ⟨b, off, e, fun i it hi => (k i it hi).below hb hB⟩

theorem ItRow.at {w : World} {a : Option Addr} {len : Nat} {its : List It} (h : ItRow w a len its) (hp : 0 < len) :
    ∃ b off, a = some ⟨b, off, none⟩ ∧ b < w.heap.size ∧ ∀ i it, its[i]? = some it → ItAt w b (off + i * 3) it := by
  obtain ⟨b, off, e, k⟩ := h.2.2 hp
  refine ⟨b, off, e, ?_, k⟩
  have hl : 0 < its.length := by rw [h.1]; exact hp
  exact (k 0 its[0] (List.getElem?_eq_getElem hl)).lt

theorem ItRow.bytes {w : World} {a : Option Addr} {len : Nat} {its : List It} (h : ItRow w a len its) : ∀ it ∈ its, ∀ x ∈ it.z, 0 ≤ x ∧ x ≤ 255 := by
  intro it hit
  obtain ⟨i, hi⟩ := List.getElem?_of_mem hit
  have hl := (List.getElem?_eq_some_iff.1 hi).1
  obtain ⟨b, off, _, k⟩ := h.2.2 (by rw [← h.1]; omega)
  obtain ⟨_, _, _, _, _, _, hb⟩ := k i it hi
  exact hb.2.1

theorem add_add (x : Addr) (hx : x.spot = none) (i j : Nat) : (x.add i).add j = ⟨x.block, x.off + i + j, none⟩ := by
  obtain ⟨b, o, s⟩ := x
  simp only at hx
  subst hx
  rw [add_none, add_none]

/-- How an argument that is a slice of items reads. -/
theorem open_items {H : Type} {enc : TypeId × Value → H} {P : Program} {w : World} {sp : Nat → Bool} {held : Bool} {t e tb ti ts tu : TypeId} {fs : Array Field} {f0 f1 f2 : Field} {v : Value} {d : DataW H} {ps : List MemPlace}
    (ht : P.underlying t = some (.slice e)) (he : P.underlying e = some (.struct fs)) (hc : P.cellsOf e = 3)
    (h0 : fs[0]? = some f0) (h1 : fs[1]? = some f1) (h2 : fs[2]? = some f2)
    (o0 : f0.offset = 0) (o1 : f1.offset = 1) (o2 : f2.offset = 2) (t0 : f0.type = tb) (t1 : f1.type = ti) (t2 : f2.type = ts)
    (c0 : P.cellsOf tb = 1) (c1 : P.cellsOf ti = 1) (c2 : P.cellsOf ts = 1) (cu : P.cellsOf tu = 1)
    (ub : P.underlying tb = some .bool) (ui : P.underlying ti = some (.int .i64)) (us : P.underlying ts = some (.slice tu)) (uu : P.underlying tu = some (.int .u8))
    (hv : ∃ a len cap, v = .slice a len cap) (h : DataW.Trod enc P w 0 sp held t v d ps) : ∃ a len cap its, v = .slice a len cap ∧ len ≤ maxLen ∧ ItRow w a len its := by
  obtain ⟨a, len, cap, rfl⟩ := hv
  obtain ⟨fuel, h⟩ := h
  rcases DataW.trod_slice ht h with ⟨hn, _⟩ | ⟨x, len', cap', elems, rest, n, _, hcs, _, _, hl, hm, hlen, hel, _⟩
  · have hn' : [Value.slice a len cap] = [Value.slice none 0 0] := hn
    simp only [List.cons.injEq, Value.slice.injEq, and_true] at hn'
    obtain ⟨rfl, rfl, rfl⟩ := hn'
    exact ⟨none, 0, 0, [], rfl, Nat.zero_le _, rfl, fun it hi => by simp at hi, fun hp => absurd hp (Nat.lt_irrefl _)⟩
  · have hcs' : [Value.slice a len cap] = [Value.slice (some x) len' cap'] := hcs
    simp only [List.cons.injEq, Value.slice.injEq, and_true] at hcs'
    obtain ⟨rfl, rfl, rfl⟩ := hcs'
    have each : ∀ i, i < len → ∃ it : It, ItOk it ∧ x.spot = none ∧ ItAt w x.block (x.off + i * 3) it := by
      intro i hi
      have hE := hel i hi
      have hi' : i < elems.length := by omega
      rw [List.getElem?_eq_getElem hi', Option.bind_eq_some_iff, hc] at hE
      obtain ⟨cs, hcells, htr⟩ := hE
      obtain ⟨_, hcl, hcell⟩ := World.cells?_some hcells
      obtain ⟨xs, m, _, _, _, hxl, hf⟩ := DataW.trod_struct he htr
      have hs3 : 3 ≤ xs.length := by
        rw [hxl]
        have := (Array.getElem?_eq_some_iff.1 h2).1
        omega
      have g0 := hf 0 f0 h0
      have g1 := hf 1 f1 h1
      have g2 := hf 2 f2 h2
      rw [List.getElem?_eq_getElem (by omega)] at g0 g1 g2
      rw [t0, o0, c0] at g0
      rw [t1, o1, c1] at g1
      rw [t2, o2, c2] at g2
      obtain ⟨bl, e0, _⟩ := DataW.trod_bool ub g0
      obtain ⟨pn, e1, _, hwf⟩ := DataW.trod_int ui g1
      match cs, hcl with
      | [x0, x1, x2], _ =>
        simp only [List.drop_zero, List.drop_succ_cons, List.take_succ_cons, List.take_zero, List.cons.injEq, and_true] at e0 e1 g2
        subst e0 e1
        have k0 : w.cell? ((x.add (i * 3)).add 0) = some (.bool bl) := hcell 0 (by omega)
        have k1 : w.cell? ((x.add (i * 3)).add 1) = some (.int .i64 pn) := hcell 1 (by omega)
        have k2 : w.cell? ((x.add (i * 3)).add 2) = some x2 := hcell 2 (by omega)
        have hsp : x.spot = none := by
          have hk := World.cell?_spot k0
          by_cases hi0 : i * 3 = 0
          · simpa [Addr.add, hi0] using hk
          · cases i with
            | zero => simp at hi0
            | succ j =>
              have hE0 := hel 0 (by omega)
              rw [List.getElem?_eq_getElem (by omega), Option.bind_eq_some_iff, hc] at hE0
              obtain ⟨cs0, hcells0, _⟩ := hE0
              obtain ⟨_, hcl0, hcell0⟩ := World.cells?_some hcells0
              have q := hcell0 0 (by omega)
              rw [List.getElem?_eq_getElem (by omega)] at q
              simpa [Addr.add] using World.cell?_spot q
        rw [add_add x hsp] at k0 k1 k2
        have hb := bounds_i64 hwf
        rcases ChangeShapes.open_ints us uu cu g2 with ⟨e2, _⟩ | ⟨sa, sl, sc, zs, e2, _, hsl, hsm, hzl, _, hzc, hzw⟩
        · simp only [List.cons.injEq, and_true] at e2
          subst e2
          exact ⟨⟨bl, pn, []⟩, ⟨hb.1, hb.2, Nat.zero_le _⟩, hsp, none, 0, 0, k0, k1, k2, rfl, fun n hn => by simp at hn, fun _ => rfl, fun y hy => by cases hy⟩
        · simp only [List.cons.injEq, and_true] at e2
          subst e2
          have hzl' : sl ≤ zs.length := by rw [hzl]; split <;> omega
          refine ⟨⟨bl, pn, zs.take sl⟩, ⟨hb.1, hb.2, by simp; omega⟩, hsp, some sa, sl, sc, k0, k1, k2, by simp; omega, fun n hn => ?_, (fun e => (by cases e)), fun y hy j hj => ?_⟩
          · exact bounds_u8 (hzw n (List.mem_of_mem_take hn))
          · cases hy
            rw [hzc j (by omega), getD_at _ j (by omega), getD_at _ j (by simp; omega), List.getElem_take]
    have build : ∀ m, m ≤ len → ∃ its : List It, its.length = m ∧ (∀ it ∈ its, ItOk it) ∧ ∀ i it, its[i]? = some it → ItAt w x.block (x.off + i * 3) it := by
      intro m
      induction m with
      | zero => intro _; exact ⟨[], rfl, fun it hi => by simp at hi, fun i it hi => by simp at hi⟩
      | succ m ih =>
        intro hm'
        obtain ⟨its, q1, q2, q3⟩ := ih (by omega)
        obtain ⟨it, r1, _, r2⟩ := each m (by omega)
        refine ⟨its ++ [it], by simp [q1], fun y hy => ?_, fun i y hy => ?_⟩
        · rcases List.mem_append.1 hy with h' | h'
          · exact q2 y h'
          · simp at h'; subst h'; exact r1
        · rcases Nat.lt_or_ge i m with h' | h'
          · rw [List.getElem?_append_left (by omega)] at hy
            exact q3 i y hy
          · have hi : i < (its ++ [it]).length := (List.getElem?_eq_some_iff.1 hy).1
            simp at hi
            obtain rfl : i = m := by omega
            rw [List.getElem?_append_right (by omega), q1, Nat.sub_self] at hy
            simp at hy
            subst hy
            exact r2
    obtain ⟨its, q1, q2, q3⟩ := build len (Nat.le_refl _)
    refine ⟨some x, len, cap, its, rfl, Nat.le_trans hl hm, q1, q2, fun hp => ⟨x.block, x.off, ?_, q3⟩⟩
    obtain ⟨_, _, hsp, _⟩ := each 0 hp
    obtain ⟨b, o, s⟩ := x
    simp only at hsp
    subst hsp
    rfl

end Go.Proofs.YtbncoiljklagkaaDoor

/- What is proved here: plain facts on lists of items: how great they are, and whether two are the same; no program is named. -/
namespace Go.Proofs.YtbncoiljklagkaaDoor
open Go.RowKit
set_option linter.unusedVariables false

/-- What is left of a number behind the bytes of items: below 0 at the first time: -1. -/
def szIts : Int → List It → Int
  | left, [] => left
  | left, it :: r => if left - it.z.length < 0 then -1 else szIts (left - it.z.length) r

def szAll (left : Int) (its : List It) : Int := if left - its.length < 0 then -1 else szIts (left - its.length) its

/-- All bytes of items. -/
def bytesOf (its : List It) : Nat := (its.map fun it => it.z.length).sum

theorem szIts_bd (its : List It) : ∀ left, 0 ≤ left → szIts left its ≤ left := by
  induction its with
  | nil => intro left _; exact Int.le_refl _
  | cons it r ih =>
    intro left h
    unfold szIts
    split
    · omega
    · exact Int.le_trans (ih _ (by omega)) (by omega)

theorem szIts_ge (its : List It) : ∀ left, 0 ≤ left → -1 ≤ szIts left its := by
  induction its with
  | nil => intro left h; unfold szIts; omega
  | cons it r ih =>
    intro left h
    unfold szIts
    split
    · omega
    · exact ih _ (by omega)

theorem szIts_sum (its : List It) : ∀ left, 0 ≤ szIts left its → (bytesOf its : Int) ≤ left := by
  induction its with
  | nil => intro left h; simpa [szIts, bytesOf] using h
  | cons it r ih =>
    intro left h
    unfold szIts at h
    split at h
    · omega
    · have := ih _ h
      simp [bytesOf] at this ⊢
      omega

theorem bytesOf_mem {its : List It} {it : It} (h : it ∈ its) : it.z.length ≤ bytesOf its := by
  induction its with
  | nil => simp at h
  | cons a r ih =>
    rcases List.mem_cons.1 h with e | e
    · subst e; simp [bytesOf]
    · have := ih e; simp [bytesOf] at this ⊢; omega

theorem szAll_ok {left : Int} {its : List It} (h : 0 ≤ szAll left its) : (its.length : Int) + bytesOf its ≤ left := by
  unfold szAll at h
  split at h
  · omega
  · have := szIts_sum its _ h
    omega

theorem szAll_le (left : Int) (its : List It) (h : 0 ≤ left) : szAll left its ≤ left := by
  unfold szAll
  split
  · omega
  · exact Int.le_trans (szIts_bd its _ (by omega)) (by omega)

/-- One item more. -/
theorem szIts_step (its : List It) (k : Nat) (it : It) (left : Int) (h : its[k]? = some it) : szIts left (its.drop k) = if left - it.z.length < 0 then -1 else szIts (left - it.z.length) (its.drop (k + 1)) := by
  obtain ⟨hk, e⟩ := List.getElem?_eq_some_iff.1 h
  rw [List.drop_eq_getElem_cons hk, e]
  rfl

/-- Whether two items, two lists of them, are the same. -/
def sameIt (a b : It) : Bool := a.l == b.l && a.p == b.p && sameB a.z b.z
def sameIts : List It → List It → Bool
  | [], [] => true
  | a :: as, b :: bs => sameIt a b && sameIts as bs
  | _, _ => false

theorem sameIt_self (a : It) : sameIt a a = true := by simp [sameIt, sameB]

theorem sameIts_self (a : List It) : sameIts a a = true := by
  induction a with
  | nil => rfl
  | cons a r ih => simp [sameIts, sameIt_self, ih]

theorem sameIts_length : ∀ (a b : List It), sameIts a b = true → a.length = b.length
  | [], [], _ => rfl
  | [], _ :: _, h => by simp [sameIts] at h
  | _ :: _, [], h => by simp [sameIts] at h
  | a :: as, b :: bs, h => by
    simp [sameIts] at h
    simp [sameIts_length as bs h.2]

theorem sameIts_step (a b : List It) (k : Nat) (x y : It) (hx : a[k]? = some x) (hy : b[k]? = some y) : sameIts (a.drop k) (b.drop k) = (sameIt x y && sameIts (a.drop (k + 1)) (b.drop (k + 1))) := by
  obtain ⟨h1, e1⟩ := List.getElem?_eq_some_iff.1 hx
  obtain ⟨h2, e2⟩ := List.getElem?_eq_some_iff.1 hy
  rw [List.drop_eq_getElem_cons h1, List.drop_eq_getElem_cons h2, e1, e2]
  rfl

theorem sameIts_end (a b : List It) (k : Nat) (h1 : a.length = k) (h2 : b.length = k) : sameIts (a.drop k) (b.drop k) = true := by
  rw [List.drop_eq_nil_of_le (by omega), List.drop_eq_nil_of_le (by omega)]
  rfl

theorem sameIts_len (a b : List It) (h : a.length ≠ b.length) : sameIts a b = false := by
  rw [Bool.eq_false_iff]
  intro e
  exact h (sameIts_length a b e)

end Go.Proofs.YtbncoiljklagkaaDoor

/- What is proved here: plain facts on slices of items that a call made itself: the block of the items, and a block of bytes for each; they hold for every program. -/
namespace Go.Proofs.YtbncoiljklagkaaDoor
open Go.RowKit
set_option linter.unusedVariables false

/-- A block that holds these values, none of it frozen. -/
def VBlk (w : World) (g : Nat) (vs : List Value) (T : TypeId) : Prop := w.heap[g]? = some (.cells vs.toArray T (0, 0))

theorem VBlk.cell {w : World} {g : Nat} {vs : List Value} {T : TypeId} (h : VBlk w g vs T) (i : Nat) : w.cell? ⟨g, i, none⟩ = vs[i]? := by
  simp [World.cell?, show w.heap[g]? = _ from h]

theorem VBlk.free {w : World} {g : Nat} {vs : List Value} {T : TypeId} (h : VBlk w g vs T) (i : Nat) : w.frozen? ⟨g, i, none⟩ = false := frozen_of_row w g i _ T h

theorem VBlk.set {w : World} {g : Nat} {vs : List Value} {T : TypeId} (h : VBlk w g vs T) (i : Nat) (x : Value) : VBlk (w.setCell ⟨g, i, none⟩ x) g (vs.set i x) T := by
  have := heap_setCell_same w g i _ T x h
  unfold VBlk
  rw [this]
  simp

theorem VBlk.lt {w : World} {g : Nat} {vs : List Value} {T : TypeId} (h : VBlk w g vs T) : g < w.heap.size := lt_of_block h

theorem VBlk.below {w w' : World} {g C : Nat} {vs : List Value} {T : TypeId} (h : VBlk w g vs T) (hb : Below C w w') (hC : g < C) : VBlk w' g vs T := by
  unfold VBlk
  rw [hb.block g hC]
  exact h

theorem size_set (w : World) (a : Addr) (v : Value) : (w.setCell a v).heap.size = w.heap.size := by simp [World.setCell]

/-- Of the items 'its' the first k lie in the block g, each with its bytes in a block of its own, all these blocks rising. -/
def OUpto (w : World) (g : Nat) (its : List It) (k len : Nat) (T : TypeId) (C : Nat) : Prop :=
  ∃ (vs : List Value) (f : Nat → Nat), VBlk w g vs T ∧ vs.length = len * 3 ∧ (∀ i, i < k → g < f i ∧ f i < C) ∧ (∀ i j, i < j → j < k → f i < f j) ∧
    ∀ i it, i < k → its[i]? = some it → vs[i * 3]? = some (.bool it.l) ∧ vs[i * 3 + 1]? = some (.int .i64 it.p) ∧ vs[i * 3 + 2]? = some (.slice (some ⟨f i, 0, none⟩) it.z.length it.z.length) ∧
      w.ownsRow (g + 1) 5 1 (.slice (some ⟨f i, 0, none⟩) it.z.length it.z.length) it.z.length (it.z.map (Value.int .u8))

/-- All of them. -/
def OIts (w : World) (g : Nat) (its : List It) (T : TypeId) (C : Nat) : Prop := OUpto w g its its.length its.length T C

theorem OUpto.lt {w : World} {g : Nat} {its : List It} {k len : Nat} {T : TypeId} {C : Nat} (h : OUpto w g its k len T C) : g < w.heap.size := by
  obtain ⟨_, _, h, _⟩ := h
  exact h.lt

theorem OUpto.below {w w' : World} {g : Nat} {its : List It} {k len : Nat} {T : TypeId} {C : Nat} (h : OUpto w g its k len T C) {B : Nat} (hb : Below B w w') (hB : w.heap.size ≤ B) : OUpto w' g its k len T C := by
  obtain ⟨vs, f, h1, h2, h3, h4, h5⟩ := h
  refine ⟨vs, f, h1.below hb (Nat.lt_of_lt_of_le h1.lt hB), h2, h3, h4, fun i it hi hit => ?_⟩
  obtain ⟨q1, q2, q3, q4⟩ := h5 i it hi hit
  exact ⟨q1, q2, q3, own_below q4 hb hB⟩

theorem OUpto.zero {w : World} {g : Nat} {its : List It} {len : Nat} {T : TypeId} {vs : List Value} {C : Nat} (h : VBlk w g vs T) (hl : vs.length = len * 3) : OUpto w g its 0 len T C :=
  ⟨vs, fun _ => 0, h, hl, fun i hi => absurd hi (Nat.not_lt_zero _), fun i j _ hj => absurd hj (Nat.not_lt_zero _), fun i it hi => absurd hi (Nat.not_lt_zero _)⟩

/-- What is there at the place of the next one. -/
theorem OUpto.slot {w : World} {g : Nat} {its : List It} {k len : Nat} {T : TypeId} {C : Nat} (h : OUpto w g its k len T C) (hk : k < len) :
    (∃ u, w.cell? ⟨g, k * 3, none⟩ = some u) ∧ (∃ u, w.cell? ⟨g, k * 3 + 1, none⟩ = some u) ∧ (∃ u, w.cell? ⟨g, k * 3 + 2, none⟩ = some u) ∧ ∀ i, w.frozen? ⟨g, i, none⟩ = false := by
  obtain ⟨vs, f, h1, h2, _⟩ := h
  refine ⟨?_, ?_, ?_, fun i => h1.free i⟩
  all_goals
    rw [h1.cell]
    exact ⟨_, List.getElem?_eq_getElem (by omega)⟩

/-- One item more. -/
theorem OUpto.step {w w2 : World} {g m : Nat} {its : List It} {k len : Nat} {T : TypeId} {it : It} (h : OUpto w g its k len T w.heap.size) (hk : k < len) (hit : its[k]? = some it) (hb : Below w.heap.size w w2) (hm : w.heap.size ≤ m) (hm2 : m < w2.heap.size)
    (ho : w2.ownsRow (g + 1) 5 1 (.slice (some ⟨m, 0, none⟩) it.z.length it.z.length) it.z.length (it.z.map (Value.int .u8))) :
    OUpto (((w2.setCell ⟨g, k * 3, none⟩ (.bool it.l)).setCell ⟨g, k * 3 + 1, none⟩ (.int .i64 it.p)).setCell ⟨g, k * 3 + 2, none⟩ (.slice (some ⟨m, 0, none⟩) it.z.length it.z.length)) g its (k + 1) len T w2.heap.size := by
  have h' := h.below hb (Nat.le_refl _)
  have hgl := h.lt
  obtain ⟨vs, f, h1, h2, h3, h4, h5⟩ := h
  obtain ⟨q1, q2, q3⟩ : VBlk w2 g vs T ∧ (∀ i, i < k → f i < w.heap.size) ∧ True := ⟨h1.below hb h1.lt, fun i hi => (h3 i hi).2, trivial⟩
  have hlt : ∀ {B : Nat} {v : Value} {n : Nat} {xs : List Value} {W : World}, W.ownsRow (g + 1) 5 1 v n xs → ∀ i u, (W.setCell ⟨g, i, none⟩ u).ownsRow (g + 1) 5 1 v n xs := fun h i u => ownsRow_setCell_below h (Nat.lt_succ_self g) u
  refine ⟨((vs.set (k * 3) (.bool it.l)).set (k * 3 + 1) (.int .i64 it.p)).set (k * 3 + 2) (.slice (some ⟨m, 0, none⟩) it.z.length it.z.length), fun i => if i = k then m else f i, ((q1.set _ _).set _ _).set _ _, by simp [h2], fun i hi => ?_, fun i j hij hj => ?_, fun i jt hi hjt => ?_⟩
  · dsimp only
    split
    · exact ⟨by omega, hm2⟩
    · have := h3 i (by omega)
      exact ⟨this.1, Nat.lt_of_lt_of_le this.2 hb.size⟩
  · dsimp only
    rw [if_neg (by omega)]
    split
    · have := q2 i (by omega); omega
    · exact h4 i j hij (by omega)
  · dsimp only
    by_cases e : i = k
    · subst e
      rw [if_pos rfl]
      obtain rfl : jt = it := by rw [hit] at hjt; exact (Option.some.inj hjt).symm
      refine ⟨?_, ?_, ?_, hlt (B := 0) (hlt (B := 0) (hlt (B := 0) ho _ _) _ _) _ _⟩
      · rw [List.getElem?_set_ne (by omega), List.getElem?_set_ne (by omega), List.getElem?_set_self (by omega)]
      · rw [List.getElem?_set_ne (by omega), List.getElem?_set_self (by simp; omega)]
      · rw [List.getElem?_set_self (by simp; omega)]
    · rw [if_neg e]
      obtain ⟨p1, p2, p3, p4⟩ := h5 i jt (by omega) hjt
      refine ⟨?_, ?_, ?_, hlt (B := 0) (hlt (B := 0) (hlt (B := 0) (own_below p4 hb (Nat.le_refl _)) _ _) _ _) _ _⟩
      · rw [List.getElem?_set_ne (by omega), List.getElem?_set_ne (by omega), List.getElem?_set_ne (by omega)]; exact p1
      · rw [List.getElem?_set_ne (by omega), List.getElem?_set_ne (by omega), List.getElem?_set_ne (by omega)]; exact p2
      · rw [List.getElem?_set_ne (by omega), List.getElem?_set_ne (by omega), List.getElem?_set_ne (by omega)]; exact p3

/-- What is owned reads as items. -/
theorem OIts.row {w : World} {g : Nat} {its : List It} {T : TypeId} {C : Nat} (h : OIts w g its T C) (hok : ∀ it ∈ its, ItOk it) (hz : ∀ it ∈ its, ∀ x ∈ it.z, 0 ≤ x ∧ x ≤ 255) : ItRow w (some ⟨g, 0, none⟩) its.length its := by
  obtain ⟨vs, f, h1, h2, h3, h4, h5⟩ := h
  refine ⟨rfl, hok, fun _ => ⟨g, 0, rfl, fun i it hi => ?_⟩⟩
  have hil := (List.getElem?_eq_some_iff.1 hi).1
  obtain ⟨q1, q2, q3, q4⟩ := h5 i it hil hi
  refine ⟨some ⟨f i, 0, none⟩, it.z.length, it.z.length, ?_, ?_, ?_, BRow.own q4 (hz it (List.mem_of_getElem? hi))⟩
  all_goals
    rw [h1.cell]
    simpa using by assumption

end Go.Proofs.YtbncoiljklagkaaDoor

/- What is proved here: slices of items whose empty bytes have no room: plain facts. -/
namespace Go.Proofs.YtbncoiljklagkaaDoor
open Go.RowKit
set_option linter.unusedVariables false

/-- No item's bytes are a bare nil with some room. -/
def ItNil (w : World) (a : Option Addr) (len : Nat) : Prop := ∀ b off, a = some ⟨b, off, none⟩ → ∀ i, i < len → ∃ sa sl sc, w.cell? ⟨b, off + i * 3 + 2, none⟩ = some (.slice sa sl sc) ∧ (sa = none → sc = 0)

theorem ItNil.below {w w' : World} {a : Option Addr} {len : Nat} (h : ItNil w a len) {B : Nat} (hb : Below B w w') (hB : w.heap.size ≤ B) : ItNil w' a len := by
  intro b off e i hi
  obtain ⟨sa, sl, sc, hc, hn⟩ := h b off e i hi
  exact ⟨sa, sl, sc, (hb.cell (Nat.lt_of_lt_of_le (lt_of_cell hc) hB)).trans hc, hn⟩

def ItRowN (w : World) (a : Option Addr) (len : Nat) (its : List It) : Prop := ItRow w a len its ∧ ItNil w a len

theorem ItRowN.below {w w' : World} {a : Option Addr} {len : Nat} {its : List It} (h : ItRowN w a len its) {B : Nat} (hb : Below B w w') (hB : w.heap.size ≤ B) : ItRowN w' a len its := ⟨h.1.below hb hB, h.2.below hb hB⟩

theorem OIts.nilOk {w : World} {g : Nat} {its : List It} {T : TypeId} {C : Nat} (h : OIts w g its T C) : ItNil w (some ⟨g, 0, none⟩) its.length := by
  obtain ⟨vs, f, h1, h2, h3, h4, h5⟩ := h
  intro b off e i hi
  simp only [Option.some.injEq, Addr.mk.injEq, and_true] at e
  obtain ⟨rfl, rfl⟩ := e
  obtain ⟨_, _, q3, _⟩ := h5 i _ hi (List.getElem?_eq_getElem hi)
  exact ⟨_, _, _, by rw [h1.cell, Nat.zero_add]; exact q3, fun e => by cases e⟩

/-- One item of a row, its bytes no bare nil with some room. -/
theorem ItRowN.at {w : World} {a : Option Addr} {len : Nat} {its : List It} (h : ItRowN w a len its) (hp : 0 < len) :
    ∃ b off, a = some ⟨b, off, none⟩ ∧ b < w.heap.size ∧ ∀ i it, its[i]? = some it → ∃ sa sc, w.cell? ⟨b, off + i * 3, none⟩ = some (.bool it.l) ∧ w.cell? ⟨b, off + i * 3 + 1, none⟩ = some (.int .i64 it.p) ∧ w.cell? ⟨b, off + i * 3 + 2, none⟩ = some (.slice sa it.z.length sc) ∧ BRow w sa it.z.length it.z ∧ (sa = none → sc = 0) := by
  obtain ⟨b, off, e, hb, k⟩ := h.1.at hp
  refine ⟨b, off, e, hb, fun i it hi => ?_⟩
  obtain ⟨sa, sl, sc, c0, c1, c2, hr⟩ := k i it hi
  have hil : i < len := by rw [← h.1.1]; exact (List.getElem?_eq_some_iff.1 hi).1
  obtain ⟨sa', sl', sc', hc, hn⟩ := h.2 b off e i hil
  rw [c2] at hc
  simp only [Option.some.injEq, Value.slice.injEq] at hc
  obtain ⟨rfl, rfl, rfl⟩ := hc
  have := hr.1
  subst this
  exact ⟨sa, sc, c0, c1, c2, hr, hn⟩

/-- Rows of other elements lie in other blocks. -/
theorem own_apart {w : World} {B B' s s' n n' : Nat} {e e' : TypeId} {v v' : Value} {xs xs' : List Value} (h : w.ownsRow B e s v n xs) (h' : w.ownsRow B' e' s' v' n' xs') (he : e ≠ e') : ∀ g, v'.ownBlock = some g → some g ≠ v.ownBlock := by
  intro g hg heq
  rcases h.2 with ⟨q, _⟩ | ⟨b, cap, cur, q, _, hb, _⟩
  · rw [q] at heq; simp [Value.ownBlock] at heq
  · rcases h'.2 with ⟨q', _⟩ | ⟨b', cap', cur', q', _, hb', _⟩
    · rw [q'] at hg; simp [Value.ownBlock] at hg
    · rw [q] at heq; rw [q'] at hg
      simp [Value.ownBlock] at heq hg
      subst hg
      subst heq
      rw [hb] at hb'
      simp at hb'
      exact he hb'.2

end Go.Proofs.YtbncoiljklagkaaDoor

/- What is proved here: items that a call makes one by one: a row of three cells an item, each with bytes of its own, kept while the row grows and other memory is written. -/
namespace Go.Proofs.YtbncoiljklagkaaDoor
open Go.RowKit
set_option linter.unusedVariables false

/-- The cells of items whose bytes lie in the given slices. -/
def cellsOf : List It → List Value → List Value
  | [], _ => []
  | it :: its, v :: vs => .bool it.l :: .int .i64 it.p :: v :: cellsOf its vs
  | _ :: _, [] => []

theorem cellsOf_length : ∀ (its : List It) (vs : List Value), vs.length = its.length → (cellsOf its vs).length = its.length * 3
  | [], _, _ => rfl
  | it :: its, v :: vs, h => by
    have := cellsOf_length its vs (by simpa using h)
    simp [cellsOf, this]
    omega
  | _ :: _, [], h => by simp at h

theorem cellsOf_snoc : ∀ (its : List It) (vs : List Value) (it : It) (v : Value), vs.length = its.length → cellsOf (its ++ [it]) (vs ++ [v]) = cellsOf its vs ++ [.bool it.l, .int .i64 it.p, v]
  | [], [], it, v, _ => rfl
  | x :: its, u :: vs, it, v, h => by
    have := cellsOf_snoc its vs it v (by simpa using h)
    simp [cellsOf, this]
  | [], _ :: _, _, _, h => by simp at h
  | _ :: _, [], _, _, h => by simp at h

theorem cellsOf_at : ∀ (its : List It) (vs : List Value) (i : Nat) (it : It) (v : Value), vs.length = its.length → its[i]? = some it → vs[i]? = some v →
    (cellsOf its vs)[i * 3]? = some (.bool it.l) ∧ (cellsOf its vs)[i * 3 + 1]? = some (.int .i64 it.p) ∧ (cellsOf its vs)[i * 3 + 2]? = some v
  | [], _, i, it, v, _, h, _ => by simp at h
  | _ :: _, [], _, _, _, h, _, _ => by simp at h
  | x :: its, u :: vs, 0, it, v, h, h1, h2 => by
    simp at h1 h2
    subst h1 h2
    exact ⟨rfl, rfl, rfl⟩
  | x :: its, u :: vs, i + 1, it, v, h, h1, h2 => by
    have := cellsOf_at its vs i it v (by simpa using h) (by simpa using h1) (by simpa using h2)
    rw [show (i + 1) * 3 = i * 3 + 1 + 1 + 1 by omega, show i * 3 + 1 + 1 + 1 + 1 = i * 3 + 1 + 1 + 1 + 1 from rfl]
    simpa [cellsOf] using this

/-- Items that were made: their row, and the bytes of each, all behind a block B. -/
def MkR (W : World) (B : Nat) (v : Value) (n : Nat) (its : List It) : Prop :=
  its.length = n ∧ (∀ it ∈ its, ItOk it ∧ it.z.length ≤ 1000 ∧ ∀ x ∈ it.z, 0 ≤ x ∧ x ≤ 255) ∧ ∃ vs : List Value, vs.length = its.length ∧ W.ownsRow B 91 3 v n (cellsOf its vs) ∧
    ∀ (i : Nat) (it : It) (u : Value), its[i]? = some it → vs[i]? = some u → W.ownsRow B 5 1 u it.z.length (it.z.map (Value.int .u8))

theorem MkR.nil (W : World) (B : Nat) : MkR W B (.slice none 0 0) 0 [] :=
  ⟨rfl, fun it h => by simp at h, [], rfl, World.ownsRow_nil _ _ _ _, fun i it u h _ => by simp at h⟩

theorem MkR.below {W W' : World} {B C n : Nat} {v : Value} {its : List It} (h : MkR W B v n its) (hb : Below C W W') (hC : W.heap.size ≤ C) : MkR W' B v n its := by
  obtain ⟨h1, h2, vs, h3, h4, h5⟩ := h
  exact ⟨h1, h2, vs, h3, own_below h4 hb hC, fun i it u hi hu => own_below (h5 i it u hi hu) hb hC⟩

/-- The source is written: nothing of it lies there. -/
theorem MkR.source {W W' : World} {B b n : Nat} {v : Value} {its : List It} (h : MkR W B v n its) (hg : W.grownBy W' (some b)) (hb : b < B) : MkR W' B v n its := by
  obtain ⟨h1, h2, vs, h3, h4, h5⟩ := h
  exact ⟨h1, h2, vs, h3, own_grown h4 hg (fun g e e2 => by have := (h4.lt g e).1; have := Option.some.inj e2; omega), fun i it u hi hu => own_grown (h5 i it u hi hu) hg (fun g e e2 => by have := ((h5 i it u hi hu).lt g e).1; have := Option.some.inj e2; omega)⟩

/-- One item more. -/
theorem MkR.snoc {W W' : World} {B n : Nat} {v v' u : Value} {its : List It} {vs : List Value} {it : It} (h1 : its.length = n) (h2 : ∀ it ∈ its, ItOk it ∧ it.z.length ≤ 1000 ∧ ∀ x ∈ it.z, 0 ≤ x ∧ x ≤ 255) (h3 : vs.length = its.length) (h4 : W.ownsRow B 91 3 v n (cellsOf its vs))
    (h5 : ∀ (i : Nat) (it : It) (u : Value), its[i]? = some it → vs[i]? = some u → W.ownsRow B 5 1 u it.z.length (it.z.map (Value.int .u8))) (hu : W.ownsRow B 5 1 u it.z.length (it.z.map (Value.int .u8))) (hok : ItOk it ∧ it.z.length ≤ 1000 ∧ ∀ x ∈ it.z, 0 ≤ x ∧ x ≤ 255)
    (hown : W'.ownsRow B 91 3 v' (n + 1) (cellsOf its vs ++ [.bool it.l, .int .i64 it.p, u])) (hg : W.grownBy W' v.ownBlock) : MkR W' B v' (n + 1) (its ++ [it]) := by
  have keep : ∀ {q : Value} {m : Nat} {xs : List Value}, W.ownsRow B 5 1 q m xs → W'.ownsRow B 5 1 q m xs := fun hq => own_grown hq hg (own_apart h4 hq (by decide))
  refine ⟨by simp [h1], fun x hx => ?_, vs ++ [u], by simp [h3], by rw [cellsOf_snoc its vs it u h3]; exact hown, fun i x q hi hq => ?_⟩
  · rcases List.mem_append.1 hx with hx | hx
    · exact h2 x hx
    · rw [List.mem_singleton.1 hx]; exact hok
  · by_cases hlt : i < its.length
    · rw [List.getElem?_append_left hlt] at hi
      rw [List.getElem?_append_left (by omega)] at hq
      exact keep (h5 i x q hi hq)
    · rw [List.getElem?_append_right (by omega)] at hi
      rw [List.getElem?_append_right (by omega)] at hq
      rw [h3] at hq
      cases hk : i - its.length with
      | zero =>
        rw [hk] at hi hq
        simp at hi hq
        subst hi hq
        exact keep hu
      | succ m => rw [hk] at hi; simp at hi

end Go.Proofs.YtbncoiljklagkaaDoor

/- What is proved here: items that a call makes one by one, their bytes in slices that were there or in new ones: kept while the row grows. -/
namespace Go.Proofs.YtbncoiljklagkaaDoor
open Go.RowKit
set_option linter.unusedVariables false

/-- The bytes z lie behind a slice that was there at w0, or in a row that the call owns. -/
def Src (w0 : World) (B : Nat) (W : World) (u : Value) (z : List Int) : Prop :=
  (∃ sa sl sc, u = .slice sa sl sc ∧ BRow w0 sa sl z ∧ (sa = none → sc = 0)) ∨ (W.ownsRow B 5 1 u z.length (z.map (Value.int .u8)) ∧ ∀ x ∈ z, 0 ≤ x ∧ x ≤ 255)

theorem Src.below {w0 W W' : World} {B C : Nat} {u : Value} {z : List Int} (h : Src w0 B W u z) (hb : Below C W W') (hC : W.heap.size ≤ C) : Src w0 B W' u z := by
  rcases h with h | ⟨h, hz⟩
  · exact .inl h
  · exact .inr ⟨own_below h hb hC, hz⟩

theorem Src.grown {w0 W W' : World} {B B' s n : Nat} {e : TypeId} {u v : Value} {z : List Int} {xs : List Value} (h : Src w0 B W u z) (hv : W.ownsRow B' e s v n xs) (he : e ≠ 5) (hg : W.grownBy W' v.ownBlock) : Src w0 B W' u z := by
  rcases h with h | ⟨h, hz⟩
  · exact .inl h
  · exact .inr ⟨own_grown h hg (own_apart hv h he), hz⟩

/-- What a source reads as. -/
theorem Src.reads {w0 W : World} {B : Nat} {u : Value} {z : List Int} (h : Src w0 B W u z) (hb : Below B w0 W) (hB : w0.heap.size ≤ B) : ∃ sa sl sc, u = .slice sa sl sc ∧ BRow W sa sl z ∧ (sa = none → sc = 0) := by
  rcases h with ⟨sa, sl, sc, rfl, hr, hn⟩ | ⟨h, hz⟩
  · exact ⟨sa, sl, sc, rfl, hr.below hb hB, hn⟩
  · obtain ⟨sa, sc, rfl⟩ := own_shape h
    refine ⟨sa, z.length, sc, rfl, BRow.own2 h hz, fun e => ?_⟩
    subst e
    rcases h.2 with ⟨q, _⟩ | ⟨g, cap, cur, q, _⟩
    · simp only [Value.slice.injEq] at q; exact q.2.2
    · simp at q

/-- Items that were made. -/
def HkR (w0 : World) (B : Nat) (W : World) (v : Value) (n : Nat) (its : List It) : Prop :=
  its.length = n ∧ (∀ it ∈ its, ItOk it) ∧ Below B w0 W ∧ ∃ vs : List Value, vs.length = its.length ∧ W.ownsRow B 91 3 v n (cellsOf its vs) ∧ ∀ (i : Nat) (it : It) (u : Value), its[i]? = some it → vs[i]? = some u → Src w0 B W u it.z

theorem HkR.below {w0 W W' : World} {B C n : Nat} {v : Value} {its : List It} (h : HkR w0 B W v n its) (hb : Below C W W') (hC : W.heap.size ≤ C) (hB : B ≤ W.heap.size) : HkR w0 B W' v n its := by
  obtain ⟨h1, h2, hb0, vs, h3, h4, h5⟩ := h
  exact ⟨h1, h2, hb0.trans (hb.mono (by omega)), vs, h3, own_below h4 hb hC, fun i it u hi hu => (h5 i it u hi hu).below hb hC⟩

/-- One item more. -/
theorem HkR.snoc {w0 W W' : World} {B n : Nat} {v v' u : Value} {its : List It} {it : It} {vs : List Value} (h1 : its.length = n) (h2 : ∀ it ∈ its, ItOk it) (hb0 : Below B w0 W) (h3 : vs.length = its.length) (h4 : W.ownsRow B 91 3 v n (cellsOf its vs)) (h5 : ∀ (i : Nat) (it : It) (u : Value), its[i]? = some it → vs[i]? = some u → Src w0 B W u it.z)
    (hB : B ≤ W.heap.size) (hu : Src w0 B W u it.z) (hok : ItOk it) (hown : W'.ownsRow B 91 3 v' (n + 1) (cellsOf its vs ++ [.bool it.l, .int .i64 it.p, u])) (hg : W.grownBy W' v.ownBlock) : HkR w0 B W' v' (n + 1) (its ++ [it]) := by
  refine ⟨by simp [h1], fun x hx => ?_, hb0.grown hg hB (fun q e => (h4.lt q e).1), vs ++ [u], by simp [h3], by rw [cellsOf_snoc its vs it u h3]; exact hown, fun i x q hi hq => ?_⟩
  · rcases List.mem_append.1 hx with hx | hx
    · exact h2 x hx
    · rw [List.mem_singleton.1 hx]; exact hok
  · by_cases hlt : i < its.length
    · rw [List.getElem?_append_left hlt] at hi
      rw [List.getElem?_append_left (by omega)] at hq
      exact (h5 i x q hi hq).grown h4 (by decide) hg
    · rw [List.getElem?_append_right (by omega)] at hi
      rw [List.getElem?_append_right (by omega)] at hq
      rw [h3] at hq
      cases hk : i - its.length with
      | zero =>
        rw [hk] at hi hq
        simp at hi hq
        subst hi hq
        exact hu.grown h4 (by decide) hg
      | succ m => rw [hk] at hi; simp at hi

/-- What was made reads as items. -/
theorem HkR.row {w0 W : World} {B n cap : Nat} {a : Option Addr} {its : List It} (h : HkR w0 B W (.slice a n cap) n its) (hB : w0.heap.size ≤ B) : ItRowN W a n its := by
  obtain ⟨h1, h2, hb0, vs, h3, h4, h5⟩ := h
  have key0 : ∀ (i : Nat) (it : It), its[i]? = some it → ∃ u, vs[i]? = some u := fun i it hi => ⟨_, List.getElem?_eq_getElem (by have := (List.getElem?_eq_some_iff.1 hi).1; omega)⟩
  refine ⟨⟨h1, h2, fun hp => ?_⟩, fun b off e i hi => ?_⟩
  · obtain ⟨g, c, e⟩ := own_some h4 hp
    cases e
    refine ⟨g, 0, rfl, fun i it hi => ?_⟩
    have hlt : i < its.length := (List.getElem?_eq_some_iff.1 hi).1
    obtain ⟨u, hu⟩ := key0 i it hi
    obtain ⟨c0, c1, c2⟩ := cellsOf_at its vs i it u h3 hi hu
    obtain ⟨sa, sl, sc, rfl, hr, _⟩ := (h5 i it u hi hu).reads hb0 hB
    rw [Nat.zero_add]
    have key : ∀ k v, k < n * 3 → (cellsOf its vs)[k]? = some v → W.cell? ⟨g, k, none⟩ = some v := fun k v hk hv => by rw [h4.cellAt k hk]; exact hv
    exact ⟨sa, sl, sc, key _ _ (by omega) c0, key _ _ (by omega) c1, key _ _ (by omega) c2, hr⟩
  · have hp : 0 < n := by omega
    obtain ⟨g, c, e'⟩ := own_some h4 hp
    cases e'
    simp only [Option.some.injEq, Addr.mk.injEq, and_true] at e
    obtain ⟨rfl, rfl⟩ := e
    obtain ⟨it, hit⟩ : ∃ it, its[i]? = some it := ⟨_, List.getElem?_eq_getElem (by omega)⟩
    obtain ⟨u, hu⟩ := key0 i it hit
    obtain ⟨_, _, c2⟩ := cellsOf_at its vs i it u h3 hit hu
    obtain ⟨sa, sl, sc, rfl, _, hn⟩ := (h5 i it u hit hu).reads hb0 hB
    refine ⟨sa, sl, sc, ?_, hn⟩
    rw [Nat.zero_add, h4.cellAt _ (by omega)]
    exact c2

/-- The parts that are handed over: in a slice that was there, or in a row that the call owns. -/
def PRow (w0 : World) (B : Nat) (W : World) (pa : Option Addr) (pn : Nat) (zss : List (List Int)) : Prop :=
  zss.length = pn ∧ (∀ z ∈ zss, z.length ≤ maxLen) ∧ ∃ us : List Value, us.length = pn ∧ (∀ (i : Nat) (z : List Int) (u : Value), zss[i]? = some z → us[i]? = some u → Src w0 B W u z) ∧
    ((∃ b off, pa = some ⟨b, off, none⟩ ∧ ∀ (i : Nat) (u : Value), us[i]? = some u → w0.cell? ⟨b, off + i, none⟩ = some u) ∨ (∃ pc, W.ownsRow B 22 1 (.slice pa pn pc) pn us) ∨ pn = 0)

theorem PRow.below {w0 W W' : World} {B C pn : Nat} {pa : Option Addr} {zss : List (List Int)} (h : PRow w0 B W pa pn zss) (hb : Below C W W') (hC : W.heap.size ≤ C) : PRow w0 B W' pa pn zss := by
  obtain ⟨h1, h2, us, h3, h4, h5⟩ := h
  refine ⟨h1, h2, us, h3, fun i z u hz hu => (h4 i z u hz hu).below hb hC, ?_⟩
  rcases h5 with h5 | ⟨pc, h5⟩ | h5
  · exact .inl h5
  · exact .inr (.inl ⟨pc, own_below h5 hb hC⟩)
  · exact .inr (.inr h5)

theorem PRow.grown {w0 W W' : World} {B pn n : Nat} {pa : Option Addr} {zss : List (List Int)} {v : Value} {xs : List Value} (h : PRow w0 B W pa pn zss) (hv : W.ownsRow B 91 3 v n xs) (hg : W.grownBy W' v.ownBlock) : PRow w0 B W' pa pn zss := by
  obtain ⟨h1, h2, us, h3, h4, h5⟩ := h
  refine ⟨h1, h2, us, h3, fun i z u hz hu => (h4 i z u hz hu).grown hv (by decide) hg, ?_⟩
  rcases h5 with h5 | ⟨pc, h5⟩ | h5
  · exact .inl h5
  · exact .inr (.inl ⟨pc, own_grown h5 hg (own_apart hv h5 (by decide))⟩)
  · exact .inr (.inr h5)

/-- The part at a place. -/
theorem PRow.at {w0 W : World} {B pn : Nat} {pa : Option Addr} {zss : List (List Int)} (h : PRow w0 B W pa pn zss) (hb : Below B w0 W) (hB : w0.heap.size ≤ B) {k : Nat} {z : List Int} (hk : zss[k]? = some z) :
    ∃ b off sa sl sc, pa = some ⟨b, off, none⟩ ∧ W.cell? ⟨b, off + k, none⟩ = some (.slice sa sl sc) ∧ Src w0 B W (.slice sa sl sc) z := by
  obtain ⟨h1, h2, us, h3, h4, h5⟩ := h
  have hkl : k < pn := by have := (List.getElem?_eq_some_iff.1 hk).1; omega
  obtain ⟨u, hu⟩ : ∃ u, us[k]? = some u := ⟨_, List.getElem?_eq_getElem (by omega)⟩
  have hs := h4 k z u hk hu
  obtain ⟨sa, sl, sc, rfl, _, _⟩ := hs.reads hb hB
  rcases h5 with ⟨b, off, e, hc⟩ | ⟨pc, h5⟩ | h5
  · have c := hc k _ hu
    exact ⟨b, off, sa, sl, sc, e, (hb.cell (Nat.lt_of_lt_of_le (lt_of_cell c) hB)).trans c, hs⟩
  · obtain ⟨g, c, e⟩ := own_some h5 (by omega)
    cases e
    exact ⟨g, 0, sa, sl, sc, rfl, by rw [Nat.zero_add, h5.cellAt k (by omega)]; exact hu, hs⟩
  · omega

end Go.Proofs.YtbncoiljklagkaaDoor

/- What is proved here: what the program's IsAhead and the model's l1Ahead answer, for slices of bytes of any length: whether the first is less than the second, byte by byte. -/
namespace Go.Proofs.YtbncoiljklagkaaDoor
open Go.RowKit
set_option linter.unusedVariables false

/-- Whether the first list of bytes is less than the second. -/
def aheadB (xs ys : List Int) : Bool := Op.bytesLess (strOfNums xs).toList (strOfNums ys).toList

theorem less_of_compare : ∀ (l m : List UInt8), decide (Lib.compareBytes l m < 0) = Op.bytesLess l m
  | [], [] => by simp [Lib.compareBytes, Op.bytesLess]
  | [], _ :: _ => by simp [Lib.compareBytes, Op.bytesLess]
  | _ :: _, [] => by simp [Lib.compareBytes, Op.bytesLess]
  | x :: a, y :: b => by
    have ih := less_of_compare a b
    unfold Lib.compareBytes Op.bytesLess
    by_cases h1 : x < y
    · simp [h1]
    · by_cases h2 : y < x
      · have hne : (x == y) = false := by
          rw [beq_eq_false_iff_ne]; intro e; subst e; exact h1 h2
        simp [h1, h2, hne]
      · have e : x = y := UInt8.le_antisymm (UInt8.not_lt.1 h2) (UInt8.not_lt.1 h1)
        subst e
        simp [h1, ih]

theorem run_bytesOf {P : Program} (w : World) (a : Option Addr) (len cap : Nat) (xs : List Int) (h : BRow w a len xs) :
    (Extern.Bytes.bytesOf (.slice a len cap)).run P w = .ok ⟨(Lib.bytesOf xs).toArray⟩ w := by
  cases a with
  | none =>
    have h0 := h.2.2.1 rfl
    have hx : xs = [] := List.length_eq_zero_iff.1 (by rw [h.1]; exact h0)
    subst hx
    rfl
  | some x =>
    have hl := Lib.run_loadBytesX (P := P) w xs x .empty (fun j y hj => by
      have hjl : j < xs.length := (List.getElem?_eq_some_iff.1 hj).1
      rw [h.2.2.2 x rfl j (by rw [← h.1]; exact hjl), List.getD_eq_getElem?_getD, hj]
      rfl)
    rw [h.1] at hl
    show (Extern.Bytes.loadBytes x len .empty).run P w = _
    rw [hl]
    congr 1
    apply ByteArray.ext
    show (#[] : Array UInt8) ++ (Lib.bytesOf xs).toArray = (Lib.bytesOf xs).toArray
    simp

theorem run_compare {P : Program} (w : World) (a b : Option Addr) (la ca lb cb : Nat) (xs ys : List Int) (ha : BRow w a la xs) (hb : BRow w b lb ys) :
    (Extern.BytealgCompare.compare #[.slice a la ca, .slice b lb cb]).run P w = .ok (.int .i64 (Lib.compareBytes (Lib.bytesOf xs) (Lib.bytesOf ys))) w := by
  change Sem.run P (do pure (goInt (Extern.BytealgCompare.cmp (← Extern.Bytes.bytesOf (.slice a la ca)) (← Extern.Bytes.bytesOf (.slice b lb cb))))) w = _
  simp only [Sem.run_bind, run_bytesOf w a la ca xs ha, run_bytesOf w b lb cb ys hb, Sem.run_pure, Result.andThen]
  rw [Lib.cmp_eq]
  rfl

theorem l1Ahead_any (a b : Option Addr) (la ca lb cb : Nat) (xs ys : List Int) (w : World) (ha : BRow w a la xs) (hb : BRow w b lb ys) :
    Calls Tryd.prog 71 #[.slice a la ca, .slice b lb cb] w fun e w' => e = .returned (.bool (aheadB xs ys)) ∧ w' = w := by
  have h1 := conv_any (P := Tryd.prog) w 22 5 9 Tryd.underlying22 Tryd.underlying5 Tryd.underlying9 a la ca xs ha
  have h2 := conv_any (P := Tryd.prog) w 22 5 9 Tryd.underlying22 Tryd.underlying5 Tryd.underlying9 b lb cb ys hb
  clear ha hb
  go_enter Tryd.func71, Tryd.ntmps71
  go_wp2
  go_ret
  exact ⟨rfl, rfl⟩

theorem implAhead_any (a b : Option Addr) (la ca lb cb : Nat) (xs ys : List Int) (w : World) (ha : BRow w a la xs) (hb : BRow w b lb ys) :
    Calls Tryd.prog 73 #[.slice a la ca, .slice b lb cb] w fun e w' => e = .returned (.bool (aheadB xs ys)) ∧ w' = w := by
  have hr : (callFunc 108 #[.slice a la ca, .slice b lb cb]).run Tryd.prog w = .ok (.value (.int .i64 (Lib.compareBytes (Lib.bytesOf xs) (Lib.bytesOf ys)))) w := by
    rw [run_callFunc_extern (P := Tryd.prog) Tryd.func108 (by kernel_rfl) (by kernel_rfl) (by kernel_rfl) (e := Extern.BytealgCompare.compare) (by kernel_rfl), run_compare w a b la ca lb cb xs ys ha hb]
    rfl
  have e := less_of_compare (Lib.bytesOf xs) (Lib.bytesOf ys)
  rw [← Lib.strOfNums_toList, ← Lib.strOfNums_toList] at e
  rw [← Lib.strOfNums_toList, ← Lib.strOfNums_toList] at hr
  have HE := hide e
  clear ha hb e
  generalize Lib.compareBytes (strOfNums xs).toList (strOfNums ys).toList = c at hr HE
  go_enter Tryd.func73, Tryd.ntmps73
  go_wp2
  go_ret
  exact ⟨ret_bool (unhide HE), rfl⟩

end Go.Proofs.YtbncoiljklagkaaDoor

/- What is proved here: plain facts on the fault of a list of signers; no program is named. -/
namespace Go.Proofs.YtbncoiljklagkaaDoor
open Go.RowKit
set_option linter.unusedVariables false

/-- Whether the signer at a place has a fault: no address, or not behind the one ahead. -/
def sgBad (zss : List (List Int)) (k : Nat) (z : List Int) : Bool := z.length != 4 || (decide (0 < k) && !aheadB (zss.getD (k - 1) []) z)

/-- The first fault among the signers from a place on. -/
def sgFrom (zss : List (List Int)) : Nat → List (List Int) → Int
  | _, [] => 0
  | k, z :: r => if sgBad zss k z = true then 1 else sgFrom zss (k + 1) r

def sgFlt (zss : List (List Int)) : Int := if 7 < zss.length then 2 else sgFrom zss 0 zss

theorem sgFrom_step (zss : List (List Int)) (k : Nat) (z : List Int) (h : zss[k]? = some z) : sgFrom zss k (zss.drop k) = if sgBad zss k z = true then 1 else sgFrom zss (k + 1) (zss.drop (k + 1)) := by
  obtain ⟨hk, e⟩ := List.getElem?_eq_some_iff.1 h
  rw [List.drop_eq_getElem_cons hk, e]
  rfl

theorem sgFrom_end (zss : List (List Int)) (k : Nat) (h : zss.length ≤ k) : sgFrom zss k (zss.drop k) = 0 := by
  rw [List.drop_eq_nil_of_le h]; rfl

theorem sgFrom_cases (zss : List (List Int)) : ∀ (r : List (List Int)) (k : Nat), sgFrom zss k r = 0 ∨ sgFrom zss k r = 1
  | [], k => .inl rfl
  | z :: r, k => by
    unfold sgFrom
    split
    · exact .inr rfl
    · exact sgFrom_cases zss r (k + 1)

theorem sgFlt_cases (zss : List (List Int)) : sgFlt zss = 0 ∨ sgFlt zss = 1 ∨ sgFlt zss = 2 := by
  unfold sgFlt
  split
  · omega
  · rcases sgFrom_cases zss zss 0 with h | h <;> omega

end Go.Proofs.YtbncoiljklagkaaDoor

/- What is proved here: plain facts on the fault of a header, and the eleven cells of one; no program is named. -/
namespace Go.Proofs.YtbncoiljklagkaaDoor
open Go.RowKit
set_option linter.unusedVariables false

theorem hcells {W : World} {g : Nat} {x : HS} {h : Hd} {T : TypeId} (b : SBlk W g (hvals x h).toList T) : W.cell? ⟨g, 0, none⟩ = some (.slice x.p.a x.p.n x.p.c) ∧ W.cell? ⟨g, 1, none⟩ = some (.int .i64 h.n1) ∧ W.cell? ⟨g, 2, none⟩ = some (.int .i64 h.n2) ∧ W.cell? ⟨g, 3, none⟩ = some (.int .i64 h.n3) ∧ W.cell? ⟨g, 4, none⟩ = some (.slice x.t.a x.t.n x.t.c) ∧ W.cell? ⟨g, 5, none⟩ = some (.int .i64 h.n5) ∧ W.cell? ⟨g, 6, none⟩ = some (.slice x.s.a x.s.n x.s.c) ∧ W.cell? ⟨g, 7, none⟩ = some (.slice x.r.a x.r.n x.r.c) ∧ W.cell? ⟨g, 8, none⟩ = some (.slice x.g.a x.g.n x.g.c) ∧ W.cell? ⟨g, 9, none⟩ = some (.slice x.e.a x.e.n x.e.c) ∧ W.cell? ⟨g, 10, none⟩ = some (.slice x.k.a x.k.n x.k.c) :=
  ⟨b.cell 0, b.cell 1, b.cell 2, b.cell 3, b.cell 4, b.cell 5, b.cell 6, b.cell 7, b.cell 8, b.cell 9, b.cell 10⟩

theorem srange {W : World} {g : Nat} {vs : List Value} {T : TypeId} (b : SBlk W g vs T) : W.rangeAt g 0 vs := fun j v hj => by
  rw [Nat.zero_add, b.cell j]; exact hj

/-- Whether a field has a wrong number of bytes. -/
def hdLen (h : Hd) : Bool := ((h.p.length : Int) != 32) || (((h.t.length : Int) != 0) && ((h.t.length : Int) != 4)) || ((h.r.length : Int) != 32) || ((h.g.length : Int) != 4) || (((h.e.length : Int) != 0) && ((h.e.length : Int) != 4))

def within (n lo hi : Int) : Bool := decide (lo ≤ n ∧ n ≤ hi)

/-- Whether all numbers lie within their bounds. -/
def hdNum (h : Hd) : Bool := within h.n1 0 1099511627776 && within h.n2 0 1099511627776 && within h.n3 0 9 && within h.n5 0 2

/-- The fault of the commits from a place on. -/
def coFrom : List (List Int) → Int
  | [] => 0
  | z :: r => if z.length = 8 then coFrom r else 1

def coFlt (zss : List (List Int)) : Int := if 7 < zss.length then 2 else coFrom zss

/-- The fault of a header. -/
def hdFlt (h : Hd) : Int := if hdLen h = true then 1 else if hdNum h = false then 3 else if sgFlt h.s = 0 then coFlt h.k else sgFlt h.s

theorem coFrom_step (zss : List (List Int)) (k : Nat) (z : List Int) (h : zss[k]? = some z) : coFrom (zss.drop k) = if z.length = 8 then coFrom (zss.drop (k + 1)) else 1 := by
  obtain ⟨hk, e⟩ := List.getElem?_eq_some_iff.1 h
  rw [List.drop_eq_getElem_cons hk, e]
  rfl

theorem coFrom_end (zss : List (List Int)) (k : Nat) (h : zss.length ≤ k) : coFrom (zss.drop k) = 0 := by
  rw [List.drop_eq_nil_of_le h]; rfl

end Go.Proofs.YtbncoiljklagkaaDoor

/- What is proved here: plain facts on the short bytes of a number, the highest first; no program is named. -/
namespace Go.Proofs.YtbncoiljklagkaaDoor
set_option linter.unusedVariables false

/-- The bytes of a number, the highest first, no zero ahead; the first argument bounds how many. -/
def shortF : Nat → Int → List Int
  | 0, _ => []
  | k + 1, n => if n = 0 then [] else shortF k (n / 256) ++ [n % 256]

theorem shortF_zero (k : Nat) : shortF k 0 = [] := by cases k <;> simp [shortF]

theorem shortF_succ (k : Nat) (n : Int) (h : 0 < n) : shortF (k + 1) n = shortF k (n / 256) ++ [n % 256] := by
  rw [shortF, if_neg (by omega)]

theorem shortF_range : ∀ (k : Nat) (n : Int), ∀ x ∈ shortF k n, 0 ≤ x ∧ x ≤ 255
  | 0, _, x, hx => by simp [shortF] at hx
  | k + 1, n, x, hx => by
    unfold shortF at hx
    split at hx
    · simp at hx
    · rcases List.mem_append.1 hx with h | h
      · exact shortF_range k (n / 256) x h
      · simp at h; omega

theorem shortF_length : ∀ (k : Nat) (n : Int), (shortF k n).length ≤ k
  | 0, _ => by simp [shortF]
  | k + 1, n => by
    have := shortF_length k (n / 256)
    unfold shortF
    split <;> simp <;> omega

theorem shortF_pos (n : Int) (h : 0 < n) : 0 < (shortF 7 n).length := by
  rw [shortF_succ 6 n h]
  simp

theorem pow_step (rest : Int) (m : Nat) (h0 : 0 < rest) (h : rest < 256 ^ m) : ∃ k, m = k + 1 ∧ rest / 256 < 256 ^ k := by
  cases m with
  | zero => simp at h; omega
  | succ k =>
    refine ⟨k, rfl, ?_⟩
    rw [Int.pow_succ] at h
    generalize (256 : Int) ^ k = p at h
    omega

theorem room_step (room : List Int) (k : Nat) (z : Int) (h : k < room.length) : (room.set k z).drop k = z :: room.drop (k + 1) := by
  rw [List.drop_eq_getElem_cons (by simpa using h)]
  simp [List.drop_set_of_lt]

theorem room_range (room : List Int) (k : Nat) (z : Int) (hz : 0 ≤ z ∧ z ≤ 255) (h : ∀ x ∈ room, 0 ≤ x ∧ x ≤ 255) : ∀ x ∈ room.set k z, 0 ≤ x ∧ x ≤ 255 := by
  intro x hx
  rcases List.mem_or_eq_of_mem_set hx with h' | h'
  · exact h x h'
  · subst h'; exact hz

/-- What holds of the room while the bytes of n are written into it from its end. -/
def Room (n : Int) (m : Nat) (rest : Int) (room : List Int) : Prop :=
  m ≤ 7 ∧ 0 ≤ rest ∧ rest < 256 ^ m ∧ room.length = 7 ∧ (∀ x ∈ room, 0 ≤ x ∧ x ≤ 255) ∧ shortF 7 n = shortF m rest ++ room.drop m

theorem Room.start (n : Int) (h0 : 0 ≤ n) (h1 : n ≤ 1125899906842624) : Room n 7 n [0, 0, 0, 0, 0, 0, 0] := by
  refine ⟨Nat.le_refl _, h0, ?_, rfl, by intro x hx; simp at hx; omega, by simp⟩
  have e : (256 : Int) ^ 7 = 72057594037927936 := by decide
  rw [e]; omega

theorem Room.step {n rest : Int} {m : Nat} {room : List Int} (h : Room n m rest room) (hr : 0 < rest) :
    ∃ k, m = k + 1 ∧ Room n k (rest / 256) (room.set k (rest % 256)) := by
  obtain ⟨h1, h2, h3, h4, h5, h6⟩ := h
  obtain ⟨k, rfl, hk⟩ := pow_step rest m hr h3
  refine ⟨k, rfl, by omega, by omega, hk, by simpa using h4, room_range room k _ (by omega) h5, ?_⟩
  rw [room_step room k _ (by omega), h6, shortF_succ k rest hr]
  simp

theorem Room.done {n rest : Int} {m : Nat} {room : List Int} (h : Room n m rest room) (hr : rest = 0) : shortF 7 n = room.drop m := by
  subst hr
  rw [h.2.2.2.2.2, shortF_zero, List.nil_append]

theorem Room.bd {n rest : Int} {m : Nat} {room : List Int} (h : Room n m rest room) : rest < 72057594037927936 := by
  have e : (256 : Int) ^ 7 = 72057594037927936 := by decide
  have hm : (256 : Int) ^ m ≤ 256 ^ 7 := by
    have := h.1
    rcases (by omega : m = 0 ∨ m = 1 ∨ m = 2 ∨ m = 3 ∨ m = 4 ∨ m = 5 ∨ m = 6 ∨ m = 7) with r | r | r | r | r | r | r | r <;> subst r <;> decide
  rw [e] at hm
  exact Int.lt_of_lt_of_le h.2.2.1 hm

end Go.Proofs.YtbncoiljklagkaaDoor

/- What is proved here: plain facts on the bytes that stand ahead of an item; no program is named. -/
namespace Go.Proofs.YtbncoiljklagkaaDoor
set_option linter.unusedVariables false

/-- The first number of a head. -/
def headB (l : Bool) : Int := if l then 192 else 128

theorem headB_in (l : Bool) : 128 ≤ headB l ∧ headB l ≤ 192 := by cases l <;> decide

/-- The bytes ahead of n bytes. -/
def headL (l : Bool) (n : Int) : List Int := if n ≤ 55 then [headB l + n] else (headB l + 55 + (shortF 7 n).length) :: shortF 7 n

theorem shortF_small (n : Int) (h0 : 0 ≤ n) (h : n < 16777216) : (shortF 7 n).length ≤ 3 := by
  by_cases a : n = 0
  · subst a; rw [shortF_zero]; simp
  by_cases b : n / 256 = 0
  · rw [shortF_succ 6 n (by omega), b, shortF_zero]; simp
  by_cases c : n / 256 / 256 = 0
  · rw [shortF_succ 6 n (by omega), shortF_succ 5 (n / 256) (by omega), c, shortF_zero]; simp
  have d : n / 256 / 256 / 256 = 0 := by omega
  rw [shortF_succ 6 n (by omega), shortF_succ 5 (n / 256) (by omega), shortF_succ 4 (n / 256 / 256) (by omega), d, shortF_zero]; simp

theorem headL_range (l : Bool) (n : Int) (h0 : 0 ≤ n) (h : n < 16777216) : ∀ x ∈ headL l n, 0 ≤ x ∧ x ≤ 255 := by
  have hb := headB_in l
  have hs := shortF_small n h0 h
  unfold headL
  split
  · intro x hx; simp at hx; omega
  · intro x hx
    rcases List.mem_cons.1 hx with e | e
    · omega
    · exact shortF_range 7 n x e

theorem headL_length (l : Bool) (n : Int) : (headL l n).length ≤ 8 := by
  have := shortF_length 7 n
  unfold headL
  split
  · simp
  · simp; omega

/-- What HeadBytes answers: its code and its bytes. -/
def hdCode (n : Int) : Int := if 0 ≤ n ∧ n ≤ 1200 then 0 else 3
def hdBytes (l : Bool) (n : Int) : List Int := if 0 ≤ n ∧ n ≤ 1200 then headL l n else []

theorem hdBytes_range (l : Bool) (n : Int) : ∀ x ∈ hdBytes l n, 0 ≤ x ∧ x ≤ 255 := by
  unfold hdBytes
  split
  · exact headL_range l n (by omega) (by omega)
  · intro x hx; simp at hx

theorem hdBytes_length (l : Bool) (n : Int) : (hdBytes l n).length ≤ 8 := by
  unfold hdBytes
  split
  · exact headL_length l n
  · simp

theorem shortF_some (n : Int) (h : 0 < n) : 0 < (shortF 7 n).length := shortF_pos n h

end Go.Proofs.YtbncoiljklagkaaDoor

/- What is proved here: plain facts on the bytes of a header: what it is packed to, and that a header without a fault is small; no program is named. -/
namespace Go.Proofs.YtbncoiljklagkaaDoor
open Go.RowKit
set_option linter.unusedVariables false

/-- The head of bytes as an item: none for one small byte. -/
def pcHd (z : List Int) : List Int := if z.length = 1 ∧ z.getD 0 0 < 128 then [] else headL false z.length

/-- Bytes as an item. -/
def pcL (z : List Int) : List Int := pcHd z ++ z

/-- Slices of bytes, as items one behind the other. -/
def pcsL (zss : List (List Int)) : List Int := zss.flatMap pcL

/-- Items as a list. -/
def wrapL (z : List Int) : List Int := headL true z.length ++ z

def listL (zss : List (List Int)) : List Int := wrapL (pcsL zss)

/-- What is in the list of a header, up to each of its parts. -/
def bd1 (h : Hd) : List Int := pcL h.p ++ pcL (shortF 7 h.n1)
def bd2 (h : Hd) : List Int := bd1 h ++ pcL (shortF 7 h.n2) ++ pcL (shortF 7 h.n3)
def bd3 (h : Hd) : List Int := bd2 h ++ pcL h.t ++ pcL (shortF 7 h.n5)
def bd4 (h : Hd) : List Int := bd3 h ++ listL h.s ++ pcL h.r
def bd5 (h : Hd) : List Int := bd4 h ++ pcL h.g ++ pcL h.e
def bd6 (h : Hd) : List Int := bd5 h ++ listL h.k

def packL (h : Hd) : List Int := wrapL (bd6 h)

/-- What a header without a fault keeps to. -/
structure HGood (h : Hd) : Prop where
  p : h.p.length = 32
  n1 : 0 ≤ h.n1 ∧ h.n1 ≤ 1099511627776
  n2 : 0 ≤ h.n2 ∧ h.n2 ≤ 1099511627776
  n3 : 0 ≤ h.n3 ∧ h.n3 ≤ 9
  t : h.t.length ≤ 4
  n5 : 0 ≤ h.n5 ∧ h.n5 ≤ 2
  s : h.s.length ≤ 7
  sz : ∀ z ∈ h.s, z.length ≤ 8
  r : h.r.length = 32
  g : h.g.length = 4
  e : h.e.length ≤ 4
  k : h.k.length ≤ 7
  kz : ∀ z ∈ h.k, z.length ≤ 8

theorem sgFrom_zero (zss : List (List Int)) : ∀ (r : List (List Int)) (k : Nat), sgFrom zss k r = 0 → ∀ z ∈ r, z.length = 4
  | [], k, _, z, hz => by simp at hz
  | a :: r, k, h, z, hz => by
    unfold sgFrom at h
    split at h
    · omega
    · rename_i hb
      rcases List.mem_cons.1 hz with e | e
      · subst e
        have : sgBad zss k z = false := by simpa using hb
        unfold sgBad at this
        simp at this
        exact this.1
      · exact sgFrom_zero zss r (k + 1) h z e

theorem coFrom_zero : ∀ (r : List (List Int)), coFrom r = 0 → ∀ z ∈ r, z.length = 8
  | [], _, z, hz => by simp at hz
  | a :: r, h, z, hz => by
    unfold coFrom at h
    split at h
    · rename_i ha
      rcases List.mem_cons.1 hz with e | e
      · subst e; exact ha
      · exact coFrom_zero r h z e
    · omega

theorem good_of {h : Hd} (hf : hdFlt h = 0) : HGood h := by
  unfold hdFlt at hf
  split at hf
  · omega
  · rename_i h1
    split at hf
    · omega
    · rename_i h2
      split at hf
      · rename_i h3
        have l1 : hdLen h = false := by simpa using h1
        have n1 : hdNum h = true := by simpa using h2
        unfold hdLen at l1
        simp only [Bool.or_eq_false_iff, Bool.and_eq_false_iff, bne_eq_false_iff_eq] at l1
        obtain ⟨⟨⟨⟨a1, a2⟩, a3⟩, a4⟩, a5⟩ := l1
        unfold hdNum within at n1
        simp only [Bool.and_eq_true, decide_eq_true_eq] at n1
        obtain ⟨⟨⟨c1, c2⟩, c3⟩, c5⟩ := n1
        unfold sgFlt at h3
        split at h3
        · omega
        · rename_i s7
          have hs := sgFrom_zero h.s h.s 0 h3
          unfold coFlt at hf
          split at hf
          · omega
          · rename_i k7
            have hk := coFrom_zero h.k hf
            exact ⟨by omega, c1, c2, c3, by omega, c5, by omega, fun z hz => by have := hs z hz; omega, by omega, by omega, by omega, by omega, fun z hz => by have := hk z hz; omega⟩
      · omega

theorem pcL_length (z : List Int) : (pcL z).length ≤ 8 + z.length := by
  unfold pcL
  rw [List.length_append]
  have : (pcHd z).length ≤ 8 := by
    unfold pcHd
    split
    · simp
    · exact headL_length _ _
  omega

theorem pcsL_length : ∀ (zss : List (List Int)), (∀ z ∈ zss, z.length ≤ 8) → (pcsL zss).length ≤ 16 * zss.length
  | [], _ => by simp [pcsL]
  | z :: r, h => by
    have h1 := pcsL_length r (fun y hy => h y (List.mem_cons_of_mem _ hy))
    have h2 := pcL_length z
    have h3 := h z List.mem_cons_self
    unfold pcsL at h1 ⊢
    rw [List.flatMap_cons, List.length_append, List.length_cons]
    omega

theorem wrapL_length (z : List Int) : (wrapL z).length ≤ 8 + z.length := by
  unfold wrapL
  rw [List.length_append]
  have := headL_length true z.length
  omega

theorem listL_length (zss : List (List Int)) (h : ∀ z ∈ zss, z.length ≤ 8) (hl : zss.length ≤ 7) : (listL zss).length ≤ 120 := by
  have h1 := wrapL_length (pcsL zss)
  have h2 := pcsL_length zss h
  unfold listL
  omega

theorem sh_length (n : Int) : (shortF 7 n).length ≤ 7 := shortF_length 7 n

theorem bd_length {h : Hd} (g : HGood h) : (bd1 h).length ≤ 60 ∧ (bd2 h).length ≤ 100 ∧ (bd3 h).length ≤ 140 ∧ (bd4 h).length ≤ 300 ∧ (bd5 h).length ≤ 340 ∧ (bd6 h).length ≤ 460 := by
  have a1 := pcL_length h.p
  have a2 := pcL_length (shortF 7 h.n1)
  have a3 := pcL_length (shortF 7 h.n2)
  have a4 := pcL_length (shortF 7 h.n3)
  have a5 := pcL_length h.t
  have a6 := pcL_length (shortF 7 h.n5)
  have a7 := listL_length h.s g.sz g.s
  have a8 := pcL_length h.r
  have a9 := pcL_length h.g
  have a10 := pcL_length h.e
  have a11 := listL_length h.k g.kz g.k
  have s1 := sh_length h.n1
  have s2 := sh_length h.n2
  have s3 := sh_length h.n3
  have s5 := sh_length h.n5
  have := g.p
  have := g.t
  have := g.r
  have := g.g
  have := g.e
  unfold bd6 bd5 bd4 bd3 bd2 bd1
  simp only [List.length_append]
  omega

end Go.Proofs.YtbncoiljklagkaaDoor

/- What is proved here: plain facts on the way up from an item to the first one, and on the fault of items; no program is named. -/
namespace Go.Proofs.YtbncoiljklagkaaDoor
open Go.RowKit
set_option linter.unusedVariables false

/-- The places from one up to the first one: each one's parent is ahead of it; the first one's is -1. -/
def IsWay (its : List It) : Int → List Nat → Prop
  | a, [] => a = -1
  | a, k :: r => a = (k : Int) ∧ ∃ it, its[k]? = some it ∧ -1 ≤ it.p ∧ it.p < k ∧ IsWay its it.p r

/-- The same, reckoned. -/
def wayF (its : List It) : Nat → Int → List Nat
  | 0, _ => []
  | n + 1, a => if a < 0 then [] else match its[a.toNat]? with
    | none => []
    | some it => a.toNat :: wayF its n it.p

theorem IsWay.fuel {its : List It} : ∀ {xs : List Nat} {a : Int} {n : Nat}, IsWay its a xs → a < n → wayF its n a = xs
  | [], a, n, h, _ => by
    obtain rfl : a = -1 := h
    cases n <;> rfl
  | k :: r, a, 0, h, hn => by
    obtain ⟨rfl, _⟩ := h
    omega
  | k :: r, a, n + 1, h, hn => by
    obtain ⟨rfl, it, hit, _, hlt, hr⟩ := h
    unfold wayF
    rw [if_neg (by omega), Int.toNat_natCast, hit]
    show k :: wayF its n it.p = k :: r
    rw [hr.fuel (by omega)]

theorem wayF_len (its : List It) : ∀ (n : Nat) (a : Int), (wayF its n a).length ≤ n
  | 0, _ => Nat.le_refl _
  | n + 1, a => by
    unfold wayF
    split
    · simp
    · split
      · simp
      · have := wayF_len its n (by assumption : It).p
        simp; omega

theorem IsWay.ge {its : List It} {xs : List Nat} {a : Int} (h : IsWay its a xs) : -1 ≤ a := by
  cases xs with
  | nil => have : a = -1 := h; omega
  | cons k r => obtain ⟨rfl, _⟩ := h; omega

/-- The first K items have parents ahead of them. -/
def UpOk (its : List It) (K : Nat) : Prop := ∀ j it, j < K → its[j]? = some it → (j = 0 → it.p = -1) ∧ (0 < j → 0 ≤ it.p ∧ it.p < j)

theorem UpOk.way {its : List It} {K : Nat} (h : UpOk its K) (hK : K ≤ its.length) : ∀ (j : Nat), j < K → ∃ xs, IsWay its (j : Int) xs := by
  intro j
  induction j using Nat.strongRecOn with
  | ind j ih =>
    intro hj
    have hl : j < its.length := by omega
    obtain ⟨it, hit⟩ : ∃ it, its[j]? = some it := ⟨_, List.getElem?_eq_getElem hl⟩
    obtain ⟨h0, h1⟩ := h j it hj hit
    by_cases e : j = 0
    · subst e
      have hp := h0 rfl
      exact ⟨[0], rfl, it, hit, by omega, by omega, hp⟩
    · obtain ⟨p0, p1⟩ := h1 (by omega)
      obtain ⟨q, hq⟩ : ∃ q : Nat, it.p = (q : Int) := ⟨it.p.toNat, by omega⟩
      obtain ⟨xs, hx⟩ := ih q (by omega) (by omega)
      exact ⟨j :: xs, rfl, it, hit, by omega, p1, by rw [hq]; exact hx⟩

/-- The way up from a place. -/
def upL (its : List It) (a : Int) : List Nat := wayF its (its.length + 1) a

theorem IsWay.up {its : List It} {xs : List Nat} {a : Int} (h : IsWay its a xs) (ha : a ≤ its.length) : upL its a = xs := h.fuel (by omega)

def lAt (its : List It) (q : Nat) : Bool := match its[q]? with
  | none => false
  | some it => it.l

/-- The fault of the item at a place, those ahead of it having none. -/
def fltAt (its : List It) (i : Nat) (it : It) : Int :=
  if it.l = true ∧ 0 < it.z.length then 1
  else if 300 < it.z.length then 2
  else if i = 0 then (if it.p = -1 then 0 else 3)
  else if it.p < 0 ∨ (i : Int) ≤ it.p then 3
  else if lAt its it.p.toNat = true ∧ it.p.toNat ∈ upL its ((i : Int) - 1) then (if 5 < (upL its i).length then 2 else 0)
  else 1

/-- The first fault among the items from a place on. -/
def fltFrom (its : List It) : Nat → List It → Int
  | _, [] => 0
  | i, it :: r => if fltAt its i it = 0 then fltFrom its (i + 1) r else fltAt its i it

def itemsFlt (its : List It) : Int := if its.length < 1 ∨ 200 < its.length then 2 else fltFrom its 0 its

theorem fltFrom_step (its : List It) (k : Nat) (it : It) (h : its[k]? = some it) : fltFrom its k (its.drop k) = if fltAt its k it = 0 then fltFrom its (k + 1) (its.drop (k + 1)) else fltAt its k it := by
  obtain ⟨hk, e⟩ := List.getElem?_eq_some_iff.1 h
  rw [List.drop_eq_getElem_cons hk, e]
  rfl

theorem fltFrom_end (its : List It) (k : Nat) (h : its.length ≤ k) : fltFrom its k (its.drop k) = 0 := by
  rw [List.drop_eq_nil_of_le h]; rfl

/-- Items without a fault have their parents ahead. -/
theorem upOk_step {its : List It} {k : Nat} {it : It} (h : UpOk its k) (hit : its[k]? = some it) (h0 : k = 0 → it.p = -1) (h1 : 0 < k → 0 ≤ it.p ∧ it.p < k) : UpOk its (k + 1) := by
  intro j jt hj hjt
  by_cases e : j = k
  · subst e
    obtain rfl : jt = it := by rw [hit] at hjt; exact (Option.some.inj hjt).symm
    exact ⟨h0, h1⟩
  · exact h j jt (by omega) hjt

theorem fltAt_up {its : List It} {k : Nat} {it : It} (h : fltAt its k it = 0) : (k = 0 → it.p = -1) ∧ (0 < k → 0 ≤ it.p ∧ it.p < k) := by
  unfold fltAt at h
  split at h
  · omega
  · split at h
    · omega
    · split at h
      · split at h
        · exact ⟨fun _ => by assumption, fun _ => by omega⟩
        · omega
      · split at h
        · omega
        · exact ⟨fun _ => by omega, fun _ => by omega⟩

theorem fltAt_cases (its : List It) (k : Nat) (it : It) : fltAt its k it = 0 ∨ fltAt its k it = 1 ∨ fltAt its k it = 2 ∨ fltAt its k it = 3 := by
  unfold fltAt
  repeat' split
  all_goals omega

theorem fltFrom_cases (its : List It) : ∀ (r : List It) (k : Nat), fltFrom its k r = 0 ∨ fltFrom its k r = 1 ∨ fltFrom its k r = 2 ∨ fltFrom its k r = 3
  | [], k => .inl rfl
  | it :: r, k => by
    unfold fltFrom
    split
    · exact fltFrom_cases its r (k + 1)
    · exact fltAt_cases its k it

theorem itemsFlt_cases (its : List It) : itemsFlt its = 0 ∨ itemsFlt its = 1 ∨ itemsFlt its = 2 ∨ itemsFlt its = 3 := by
  unfold itemsFlt
  split
  · omega
  · exact fltFrom_cases its its 0

end Go.Proofs.YtbncoiljklagkaaDoor

/- What is proved here: plain facts on the parts of an item; no program is named. -/
namespace Go.Proofs.YtbncoiljklagkaaDoor
open Go.RowKit
set_option linter.unusedVariables false

/-- The places below k whose parent is a given one. -/
def partsUp (its : List It) (at_ : Int) : Nat → List Int
  | 0 => []
  | k + 1 => partsUp its at_ k ++ (match its[k]? with
    | some it => if it.p = at_ then [(k : Int)] else []
    | none => [])

theorem partsUp_yes {its : List It} {at_ : Int} {k : Nat} {it : It} (h : its[k]? = some it) (hp : it.p = at_) : partsUp its at_ (k + 1) = partsUp its at_ k ++ [(k : Int)] := by
  show partsUp its at_ k ++ _ = _
  rw [h]; simp [hp]

theorem partsUp_no {its : List It} {at_ : Int} {k : Nat} {it : It} (h : its[k]? = some it) (hp : it.p ≠ at_) : partsUp its at_ (k + 1) = partsUp its at_ k := by
  show partsUp its at_ k ++ _ = _
  rw [h]; simp [hp]

theorem partsUp_length (its : List It) (at_ : Int) : ∀ k, (partsUp its at_ k).length ≤ k
  | 0 => Nat.le_refl _
  | k + 1 => by
    have := partsUp_length its at_ k
    unfold partsUp
    split
    · split <;> simp <;> omega
    · simp; omega

/-- What PartsOf answers: its code and its list. -/
def poCode (its : List It) (at_ : Int) : Int := if itemsFlt its = 0 then (if 0 ≤ at_ ∧ at_ ≤ (its.length : Int) - 1 then 0 else 3) else itemsFlt its
def poList (its : List It) (at_ : Int) : List Int := if itemsFlt its = 0 ∧ 0 ≤ at_ ∧ at_ ≤ (its.length : Int) - 1 then partsUp its at_ its.length else []

theorem poList_length (its : List It) (at_ : Int) : (poList its at_).length ≤ its.length := by
  unfold poList
  split
  · exact partsUp_length _ _ _
  · simp

end Go.Proofs.YtbncoiljklagkaaDoor

/- What is proved here: plain facts on items written as bytes: told from the first one down, each with all in it, or in their order, each with its head; no program is named. -/
namespace Go.Proofs.YtbncoiljklagkaaDoor
open Go.RowKit
set_option linter.unusedVariables false

/-- The head of an item that has n bytes in it: in the model, and in the program, which has none for more than 1200. -/
def hdS (it : It) (n : Nat) : List Int := if it.l = false ∧ n = 1 ∧ it.z.getD 0 0 < 128 then [] else headL it.l n
def hdI (it : It) (n : Nat) : List Int := if it.l = false ∧ n = 1 ∧ it.z.getD 0 0 < 128 then [] else hdBytes it.l n

theorem hdS_length (it : It) (n : Nat) : (hdS it n).length ≤ 8 := by
  unfold hdS; split
  · simp
  · exact headL_length _ _

theorem hdI_length (it : It) (n : Nat) : (hdI it n).length ≤ 8 := by
  unfold hdI; split
  · simp
  · exact hdBytes_length _ _

theorem hd_same (it : It) (n : Nat) (h : n ≤ 1200) : hdI it n = hdS it n := by
  unfold hdI hdS
  split
  · rfl
  · unfold hdBytes; rw [if_pos (by omega)]

/-- The parent of a place; that of none is -2. -/
def pOf (its : List It) (j : Nat) : Int := match its[j]? with
  | some it => it.p
  | none => -2

/-- The places from k on, n of them, whose parent is x. -/
def kidsN (its : List It) (x : Int) : Nat → Nat → List Nat
  | 0, _ => []
  | n + 1, k => (if pOf its k = x then [k] else []) ++ kidsN its x n (k + 1)

def kidsFrom (its : List It) (x : Int) (k : Nat) : List Nat := kidsN its x (its.length - k) k

theorem kidsFrom_end (its : List It) (x : Int) (k : Nat) (h : its.length ≤ k) : kidsFrom its x k = [] := by
  unfold kidsFrom
  rw [Nat.sub_eq_zero_of_le h]; rfl

theorem kidsFrom_yes {its : List It} {x : Int} {k : Nat} (hk : k < its.length) (h : pOf its k = x) : kidsFrom its x k = k :: kidsFrom its x (k + 1) := by
  unfold kidsFrom
  rw [show its.length - k = (its.length - (k + 1)) + 1 by omega]
  show (if pOf its k = x then [k] else []) ++ _ = _
  rw [if_pos h]; rfl

theorem kidsFrom_no {its : List It} {x : Int} {k : Nat} (hk : k < its.length) (h : pOf its k ≠ x) : kidsFrom its x k = kidsFrom its x (k + 1) := by
  unfold kidsFrom
  rw [show its.length - k = (its.length - (k + 1)) + 1 by omega]
  show (if pOf its k = x then [k] else []) ++ _ = _
  rw [if_neg h]; rfl

theorem kidsN_mem (its : List It) (x : Int) : ∀ (n k j : Nat), j ∈ kidsN its x n k → k ≤ j ∧ j < k + n ∧ pOf its j = x
  | 0, _, _, h => by simp [kidsN] at h
  | n + 1, k, j, h => by
    rcases List.mem_append.1 h with e | e
    · split at e
      · simp at e; subst e; exact ⟨Nat.le_refl _, by omega, by assumption⟩
      · simp at e
    · obtain ⟨a, b, c⟩ := kidsN_mem its x n (k + 1) j e
      exact ⟨by omega, by omega, c⟩

theorem kidsFrom_mem {its : List It} {x : Int} {k j : Nat} (h : j ∈ kidsFrom its x k) : k ≤ j ∧ j < its.length ∧ pOf its j = x := by
  obtain ⟨a, b, c⟩ := kidsN_mem its x _ _ _ h
  exact ⟨a, by omega, c⟩

theorem kidsN_nil (its : List It) (x : Int) : ∀ (n k : Nat), (∀ j, k ≤ j → j < k + n → pOf its j ≠ x) → kidsN its x n k = []
  | 0, _, _ => rfl
  | n + 1, k, h => by
    show (if pOf its k = x then [k] else []) ++ _ = _
    rw [if_neg (h k (Nat.le_refl _) (by omega)), kidsN_nil its x n (k + 1) (fun j h1 h2 => h j (by omega) (by omega))]
    rfl

theorem kidsFrom_nil {its : List It} {x : Int} {k : Nat} (h : ∀ j, k ≤ j → j < its.length → pOf its j ≠ x) : kidsFrom its x k = [] :=
  kidsN_nil its x _ _ (fun j h1 h2 => h j h1 (by omega))

/-- No place up to k is a part of k or of a later one. -/
theorem kidsFrom_skip {its : List It} {x : Int} : ∀ (m k : Nat), k ≤ m → m ≤ its.length → (∀ j, k ≤ j → j < m → pOf its j ≠ x) → kidsFrom its x k = kidsFrom its x m
  | 0, k, h, _, _ => by
    obtain rfl : k = 0 := by omega
    rfl
  | m + 1, k, h, hm, hh => by
    by_cases e : k = m + 1
    · rw [e]
    · rw [kidsFrom_skip m k (by omega) (by omega) (fun j h1 h2 => hh j h1 (by omega)), kidsFrom_no (by omega) (hh m (by omega) (by omega))]

theorem parts_kids (its : List It) (x : Int) : ∀ (n k : Nat), k + n = its.length → partsUp its x its.length = partsUp its x k ++ (kidsN its x n k).map (fun (j : Nat) => (j : Int))
  | 0, k, h => by
    obtain rfl : k = its.length := by omega
    simp [kidsN]
  | n + 1, k, h => by
    have hk : k < its.length := by omega
    rw [parts_kids its x n (k + 1) (by omega)]
    show partsUp its x (k + 1) ++ _ = partsUp its x k ++ ((if pOf its k = x then [k] else []) ++ kidsN its x n (k + 1)).map _
    have hit := List.getElem?_eq_getElem hk
    have hp : pOf its k = its[k].p := by unfold pOf; rw [hit]
    by_cases e : its[k].p = x
    · rw [partsUp_yes hit e, if_pos (by rw [hp]; exact e)]; simp
    · rw [partsUp_no hit e, if_neg (by rw [hp]; exact e)]; simp

theorem parts_all (its : List It) (x : Int) : partsUp its x its.length = (kidsFrom its x 0).map (fun (j : Nat) => (j : Int)) := by
  have := parts_kids its x its.length 0 (by omega)
  rw [this]
  simp [partsUp, kidsFrom]

/-- An item with all in it, its head told by H. -/
def encH (H : It → Nat → List Int) (its : List It) : Nat → Nat → List Int
  | 0, _ => []
  | n + 1, i => match its[i]? with
    | none => []
    | some it => H it (it.z ++ (kidsFrom its i 0).flatMap (encH H its n)).length ++ (it.z ++ (kidsFrom its i 0).flatMap (encH H its n))

def enc (H : It → Nat → List Int) (its : List It) (i : Nat) : List Int := encH H its its.length i

theorem pOf_some {its : List It} {k : Nat} {it : It} (h : its[k]? = some it) : pOf its k = it.p := by unfold pOf; rw [h]

theorem kid_later {its : List It} (hU : UpOk its its.length) {i k j : Nat} (h : j ∈ kidsFrom its (i : Int) k) : i < j ∧ j < its.length := by
  obtain ⟨_, hl, hp⟩ := kidsFrom_mem h
  obtain ⟨it, hit⟩ : ∃ it, its[j]? = some it := ⟨_, List.getElem?_eq_getElem hl⟩
  rw [pOf_some hit] at hp
  obtain ⟨h0, h1⟩ := hU j it hl hit
  rcases Nat.eq_zero_or_pos j with e | e
  · have := h0 e; omega
  · have := h1 e; omega

theorem flatMap_eq {α β : Type} {l : List α} {f g : α → List β} (h : ∀ x ∈ l, f x = g x) : l.flatMap f = l.flatMap g := by
  induction l with
  | nil => rfl
  | cons a r ih =>
    rw [List.flatMap_cons, List.flatMap_cons, h a (by simp), ih (fun x hx => h x (by simp [hx]))]

theorem encH_fuel (H : It → Nat → List Int) {its : List It} (hU : UpOk its its.length) : ∀ (n m i : Nat), its.length ≤ i + n → its.length ≤ i + m → encH H its n i = encH H its m i
  | 0, 0, _, _, _ => rfl
  | 0, m + 1, i, h, _ => by
    have : its[i]? = none := List.getElem?_eq_none (by omega)
    unfold encH; rw [this]
  | n + 1, 0, i, _, h => by
    have : its[i]? = none := List.getElem?_eq_none (by omega)
    unfold encH; rw [this]
  | n + 1, m + 1, i, hn, hm => by
    unfold encH
    cases hit : its[i]? with
    | none => rfl
    | some it =>
      have e : (kidsFrom its i 0).flatMap (encH H its n) = (kidsFrom its i 0).flatMap (encH H its m) := flatMap_eq (fun j hj => by
        obtain ⟨h1, h2⟩ := kid_later hU hj
        exact encH_fuel H hU n m j (by omega) (by omega))
      simp only [e]

/-- All in an item. -/
def cont (H : It → Nat → List Int) (its : List It) (i : Nat) (it : It) : List Int := it.z ++ (kidsFrom its i 0).flatMap (enc H its)

theorem enc_eq (H : It → Nat → List Int) {its : List It} (hU : UpOk its its.length) {i : Nat} {it : It} (hit : its[i]? = some it) : enc H its i = H it (cont H its i it).length ++ cont H its i it := by
  have hl := (List.getElem?_eq_some_iff.1 hit).1
  obtain ⟨m, hm⟩ : ∃ m, its.length = m + 1 := ⟨its.length - 1, by omega⟩
  have e : (kidsFrom its i 0).flatMap (encH H its m) = (kidsFrom its i 0).flatMap (enc H its) := flatMap_eq (fun j hj => by
    obtain ⟨h1, h2⟩ := kid_later hU hj
    exact encH_fuel H hU m its.length j (by omega) (by omega))
  have : enc H its i = encH H its (m + 1) i := by unfold enc; rw [hm]
  rw [this]
  show (match its[i]? with | none => [] | some it => _) = _
  rw [hit]
  simp only [e]
  rfl

/-- The parts of an item from a place on. -/
def eFrom (H : It → Nat → List Int) (its : List It) (x k : Nat) : List Int := (kidsFrom its x k).flatMap (enc H its)

/-- The items from a place on, each with its head. -/
def dN (H : It → Nat → List Int) (its : List It) : Nat → Nat → List Int
  | 0, _ => []
  | n + 1, k => (match its[k]? with
    | none => []
    | some it => H it (cont H its k it).length ++ it.z) ++ dN H its n (k + 1)

def dFrom (H : It → Nat → List Int) (its : List It) (k : Nat) : List Int := dN H its (its.length - k) k

theorem dFrom_end (H : It → Nat → List Int) (its : List It) (k : Nat) (h : its.length ≤ k) : dFrom H its k = [] := by
  unfold dFrom; rw [Nat.sub_eq_zero_of_le h]; rfl

theorem dFrom_step (H : It → Nat → List Int) {its : List It} {k : Nat} {it : It} (hit : its[k]? = some it) : dFrom H its k = H it (cont H its k it).length ++ it.z ++ dFrom H its (k + 1) := by
  have hl := (List.getElem?_eq_some_iff.1 hit).1
  unfold dFrom
  rw [show its.length - k = (its.length - (k + 1)) + 1 by omega]
  show (match its[k]? with | none => [] | some it => _) ++ _ = _
  rw [hit]

theorem IsWay.suffix {its : List It} {q : Nat} : ∀ {ws : List Nat} {a : Int}, IsWay its a ws → q ∈ ws → ∃ pre post, ws = pre ++ q :: post ∧ IsWay its (q : Int) (q :: post)
  | [], _, _, h => by simp at h
  | k :: r, a, hw, h => by
    obtain ⟨rfl, it, hit, hge, hlt, hr⟩ := hw
    rcases List.mem_cons.1 h with e | e
    · subst e
      exact ⟨[], r, rfl, rfl, it, hit, hge, hlt, hr⟩
    · obtain ⟨pre, post, e1, e2⟩ := hr.suffix e
      exact ⟨k :: pre, post, by rw [e1]; rfl, e2⟩

/-- A way falls. -/
theorem IsWay.falls {its : List It} : ∀ {ws : List Nat} {a : Int}, IsWay its a ws → ∀ x ∈ ws, (x : Int) ≤ a
  | [], _, _, _, h => by simp at h
  | k :: r, a, hw, x, h => by
    obtain ⟨rfl, it, hit, hge, hlt, hr⟩ := hw
    rcases List.mem_cons.1 h with e | e
    · omega
    · have := hr.falls x e; omega

theorem IsWay.apart {its : List It} : ∀ {pre : List Nat} {q : Nat} {post : List Nat} {a : Int}, IsWay its a (pre ++ q :: post) → (∀ x ∈ pre, q < x) ∧ ∀ x ∈ post, x < q
  | [], q, post, a, hw => by
    obtain ⟨rfl, it, hit, hge, hlt, hr⟩ := hw
    exact ⟨fun x h => by simp at h, fun x h => by have := hr.falls x h; omega⟩
  | k :: pre, q, post, a, hw => by
    obtain ⟨rfl, it, hit, hge, hlt, hr⟩ := hw
    obtain ⟨h1, h2⟩ := IsWay.apart hr
    refine ⟨fun x h => ?_, h2⟩
    rcases List.mem_cons.1 h with e | e
    · have := hr.falls q (by simp); omega
    · exact h1 x e

theorem IsWay.unique {its : List It} {a : Int} : ∀ {xs ys : List Nat}, IsWay its a xs → IsWay its a ys → xs = ys := by
  intro xs ys h1 h2
  have ha := h1.ge
  have e1 := h1.fuel (n := (a + 1).toNat) (by omega)
  have e2 := h2.fuel (n := (a + 1).toNat) (by omega)
  rw [← e1, ← e2]

/-- Items in order: each one's parent is on the way up from the one ahead. -/
def LineOk (its : List It) : Prop := ∀ (k : Nat) (it : It), 0 < k → its[k]? = some it → it.p.toNat ∈ upL its ((k : Int) - 1)

theorem way_at {its : List It} (hU : UpOk its its.length) {k : Nat} (hk : k < its.length) : IsWay its (k : Int) (upL its (k : Int)) := by
  obtain ⟨xs, hx⟩ := hU.way (Nat.le_refl _) k hk
  rw [hx.up (by omega)]; exact hx

/-- On ways from later places nothing ahead of k is met but what the way from k's parent has. -/
theorem way_later {its : List It} (hU : UpOk its its.length) (hL : LineOk its) {k q : Nat} {post : List Nat} {it : It} (hit : its[k]? = some it) (hq : it.p = (q : Int)) (hw : IsWay its (q : Int) (q :: post)) :
    ∀ (n : Nat), k + n < its.length → ∀ x ∈ upL its ((k + n : Nat) : Int), x < k → x ∈ q :: post
  | 0, hn, x, hx, hxk => by
    have h1 := way_at hU (k := k) (by omega)
    have h2 : IsWay its (k : Int) (k :: q :: post) := by
      have hkl := (List.getElem?_eq_some_iff.1 hit).1
      obtain ⟨u0, u1⟩ := hU k it hkl hit
      have : it.p < k := by rcases Nat.eq_zero_or_pos k with e | e; have := u0 e; omega; exact (u1 e).2
      exact ⟨rfl, it, hit, by omega, this, by rw [hq]; exact hw⟩
    rw [show ((k + 0 : Nat) : Int) = (k : Int) by simp, h1.unique h2] at hx
    rcases List.mem_cons.1 hx with e | e
    · omega
    · exact e
  | n + 1, hn, x, hx, hxk => by
    have ih := way_later hU hL hit hq hw n (by omega)
    obtain ⟨jt, hjt⟩ : ∃ jt, its[k + (n + 1)]? = some jt := ⟨_, List.getElem?_eq_getElem hn⟩
    have hline := hL (k + (n + 1)) jt (by omega) hjt
    have e1 : ((k + (n + 1) : Nat) : Int) - 1 = ((k + n : Nat) : Int) := by omega
    rw [e1] at hline
    obtain ⟨pre, post', es, hs⟩ := (way_at hU (k := k + n) (by omega)).suffix hline
    obtain ⟨u0, u1⟩ := hU _ jt hn hjt
    have hjp := u1 (by omega)
    have hw2 : IsWay its ((k + (n + 1) : Nat) : Int) ((k + (n + 1)) :: jt.p.toNat :: post') := ⟨rfl, jt, hjt, by omega, hjp.2, by
      rw [show ((jt.p.toNat : Nat) : Int) = jt.p by omega] at hs; exact hs⟩
    rw [(way_at hU hn).unique hw2] at hx
    rcases List.mem_cons.1 hx with e | e
    · omega
    · exact ih x (by rw [es]; exact List.mem_append.2 (.inr e)) hxk

set_option maxHeartbeats 400000 in
/-- The items from a place on are the parts, from it on, of all on the way up from the place ahead. -/
theorem suffix_eq (H : It → Nat → List Int) {its : List It} (hU : UpOk its its.length) (hL : LineOk its) : ∀ (n k : Nat), k + n = its.length → 0 < k → dFrom H its k = (upL its ((k : Int) - 1)).flatMap (fun x => eFrom H its x k)
  | 0, k, h, h0 => by
    rw [dFrom_end H its k (by omega)]
    symm
    rw [List.flatMap_eq_nil_iff]
    intro x _
    unfold eFrom
    rw [kidsFrom_end its _ k (by omega)]; rfl
  | n + 1, k, h, h0 => by
    have hk : k < its.length := by omega
    have ih := suffix_eq H hU hL n (k + 1) (by omega) (by omega)
    obtain ⟨it, hit⟩ : ∃ it, its[k]? = some it := ⟨_, List.getElem?_eq_getElem hk⟩
    obtain ⟨_, u1⟩ := hU k it hk hit
    obtain ⟨p0, p1⟩ := u1 h0
    obtain ⟨q, hq⟩ : ∃ q : Nat, it.p = (q : Int) := ⟨it.p.toNat, by omega⟩
    have hqk : q < k := by omega
    have hline := hL k it h0 hit
    rw [hq, Int.toNat_natCast] at hline
    have hwk : IsWay its ((k : Int) - 1) (upL its ((k : Int) - 1)) := by
      have := way_at hU (k := k - 1) (by omega)
      rwa [show ((k - 1 : Nat) : Int) = (k : Int) - 1 by omega] at this
    obtain ⟨pre, post, es, hs⟩ := hwk.suffix hline
    have hap : (∀ x ∈ pre, q < x) ∧ ∀ x ∈ post, x < q := IsWay.apart (by rw [← es]; exact hwk)
    have hw2 : IsWay its (k : Int) (k :: q :: post) := ⟨rfl, it, hit, by omega, p1, by rw [hq]; exact hs⟩
    have hpk : pOf its k = (q : Int) := by rw [pOf_some hit, hq]
    have e1 : upL its (((k + 1 : Nat) : Int) - 1) = k :: q :: post := by
      rw [show ((k + 1 : Nat) : Int) - 1 = (k : Int) by omega]
      exact (way_at hU hk).unique hw2
    rw [e1] at ih
    have hpre : ∀ x ∈ pre, eFrom H its x k = [] := by
      intro x hx
      unfold eFrom
      rw [kidsFrom_nil (fun j hj1 hj2 hp => ?_)]; rfl
      have hxq := hap.1 x hx
      have hxk : x < k := by have := hwk.falls x (by rw [es]; exact List.mem_append.2 (.inl hx)); omega
      by_cases e : j = k
      · subst e; rw [hpk] at hp; omega
      · obtain ⟨jt, hjt⟩ : ∃ jt, its[j]? = some jt := ⟨_, List.getElem?_eq_getElem hj2⟩
        have hjl := hL j jt (by omega) hjt
        rw [pOf_some hjt] at hp
        rw [hp, Int.toNat_natCast, show (j : Int) - 1 = ((k + (j - 1 - k) : Nat) : Int) by omega] at hjl
        have hm := way_later hU hL hit hq hs (j - 1 - k) (by omega) x hjl hxk
        rcases List.mem_cons.1 hm with e' | e'
        · omega
        · have := hap.2 x e'; omega
    have hpost : post.flatMap (fun x => eFrom H its x k) = post.flatMap (fun x => eFrom H its x (k + 1)) := flatMap_eq (fun x hx => by
      have := hap.2 x hx
      unfold eFrom
      rw [kidsFrom_no hk (by rw [hpk]; omega)])
    have hqe : eFrom H its q k = enc H its k ++ eFrom H its q (k + 1) := by
      unfold eFrom
      rw [kidsFrom_yes hk hpk, List.flatMap_cons]
    have hke : cont H its k it = it.z ++ eFrom H its k (k + 1) := by
      unfold cont eFrom
      rw [kidsFrom_skip (k + 1) 0 (by omega) (by omega) (fun j _ hj hp => ?_)]
      obtain ⟨jt, hjt⟩ : ∃ jt, its[j]? = some jt := ⟨_, List.getElem?_eq_getElem (by omega)⟩
      rw [pOf_some hjt] at hp
      obtain ⟨v0, v1⟩ := hU j jt (by omega) hjt
      rcases Nat.eq_zero_or_pos j with e | e
      · have := v0 e; omega
      · have := v1 e; omega
    rw [dFrom_step H hit, ih, es]
    simp only [List.flatMap_append, List.flatMap_cons]
    rw [List.flatMap_eq_nil_iff.2 hpre, hpost, hqe, enc_eq H hU hit, hke]
    simp [List.append_assoc]

theorem cont_eq (H : It → Nat → List Int) {its : List It} (hU : UpOk its its.length) {k : Nat} {it : It} (hit : its[k]? = some it) : cont H its k it = it.z ++ eFrom H its k (k + 1) := by
  have hk := (List.getElem?_eq_some_iff.1 hit).1
  unfold cont eFrom
  rw [kidsFrom_skip (k + 1) 0 (by omega) (by omega) (fun j _ hj hp => ?_)]
  obtain ⟨jt, hjt⟩ : ∃ jt, its[j]? = some jt := ⟨_, List.getElem?_eq_getElem (by omega)⟩
  rw [pOf_some hjt] at hp
  obtain ⟨v0, v1⟩ := hU j jt (by omega) hjt
  rcases Nat.eq_zero_or_pos j with e | e
  · have := v0 e; omega
  · have := v1 e; omega

/-- All items in order are the first one with all in it. -/
theorem all_eq (H : It → Nat → List Int) {its : List It} (hU : UpOk its its.length) (hL : LineOk its) (h0 : 0 < its.length) : dFrom H its 0 = enc H its 0 := by
  obtain ⟨it, hit⟩ : ∃ it, its[0]? = some it := ⟨_, List.getElem?_eq_getElem h0⟩
  obtain ⟨u0, _⟩ := hU 0 it h0 hit
  have hw : IsWay its ((0 : Nat) : Int) [0] := ⟨rfl, it, hit, by have := u0 rfl; omega, by have := u0 rfl; omega, u0 rfl⟩
  have e1 : upL its (((1 : Nat) : Int) - 1) = [0] := (way_at hU h0).unique hw
  have hs := suffix_eq H hU hL (its.length - 1) 1 (by omega) (by omega)
  rw [e1] at hs
  rw [dFrom_step H hit, enc_eq H hU hit, cont_eq H hU hit, hs]
  simp [List.append_assoc]

end Go.Proofs.YtbncoiljklagkaaDoor

/- What is proved here: plain facts on items without a fault that are written as bytes: the program's heads and the model's give the same bytes, or both give more than 1200; no program is named. -/
namespace Go.Proofs.YtbncoiljklagkaaDoor
open Go.RowKit
set_option linter.unusedVariables false

theorem fltFrom_zero (its : List It) : ∀ (r : List It) (k : Nat), fltFrom its k r = 0 → ∀ i it, r[i]? = some it → fltAt its (k + i) it = 0
  | [], _, _, i, it, h => by simp at h
  | a :: r, k, hz, i, it, h => by
    unfold fltFrom at hz
    split at hz
    · cases i with
      | zero => simp at h; subst h; assumption
      | succ i =>
        have := fltFrom_zero its r (k + 1) hz i it (by simpa using h)
        rwa [show k + 1 + i = k + (i + 1) by omega] at this
    · exact absurd hz (by assumption)

/-- Items without a fault. -/
structure NoFault (its : List It) : Prop where
  some : 0 < its.length
  few : its.length ≤ 200
  up : UpOk its its.length
  line : LineOk its
  small : ∀ it ∈ its, it.z.length ≤ 300
  empty : ∀ it ∈ its, it.l = true → it.z = []
  leaf : ∀ (k : Nat) (it : It), its[k]? = Option.some it → it.l = false → ∀ m, kidsFrom its (k : Int) m = []

theorem noFault_of {its : List It} (h : itemsFlt its = 0) : NoFault its := by
  unfold itemsFlt at h
  split at h
  · omega
  · rename_i hlen
    have all : ∀ (i : Nat) (it : It), its[i]? = some it → fltAt its i it = 0 := fun i it hi => by
      have := fltFrom_zero its its 0 h i it hi
      rwa [Nat.zero_add] at this
    have hU : UpOk its its.length := fun j it _ hit => fltAt_up (all j it hit)
    have each : ∀ (k : Nat) (it : It), its[k]? = some it → (it.l = true → it.z = []) ∧ it.z.length ≤ 300 ∧ (0 < k → lAt its it.p.toNat = true ∧ it.p.toNat ∈ upL its ((k : Int) - 1)) := by
      intro k it hit
      have hz := all k it hit
      unfold fltAt at hz
      split at hz
      · omega
      · rename_i n1
        split at hz
        · omega
        · rename_i n2
          refine ⟨fun hl => ?_, by omega, fun hk => ?_⟩
          · have : ¬ 0 < it.z.length := fun hh => n1 ⟨hl, hh⟩
            exact List.length_eq_zero_iff.1 (by omega)
          · rw [if_neg (by omega)] at hz
            split at hz
            · omega
            · split at hz
              · assumption
              · omega
    refine ⟨by omega, by omega, hU, fun k it hk hit => ((each k it hit).2.2 hk).2, fun it hi => ?_, fun it hi => ?_, fun k it hit hl m => ?_⟩
    · obtain ⟨k, hk⟩ := List.getElem?_of_mem hi
      exact (each k it hk).2.1
    · obtain ⟨k, hk⟩ := List.getElem?_of_mem hi
      exact (each k it hk).1
    · apply kidsFrom_nil
      intro j _ hj hp
      obtain ⟨jt, hjt⟩ : ∃ jt, its[j]? = some jt := ⟨_, List.getElem?_eq_getElem hj⟩
      rw [pOf_some hjt] at hp
      obtain ⟨u0, u1⟩ := hU j jt hj hjt
      have hj0 : 0 < j := by rcases Nat.eq_zero_or_pos j with e | e; have := u0 e; omega; exact e
      have := ((each j jt hjt).2.2 hj0).1
      rw [hp, Int.toNat_natCast] at this
      unfold lAt at this
      rw [hit] at this
      simp only at this
      rw [hl] at this
      cases this

theorem le_flatMap {α : Type} {l : List α} {f : α → List Int} {x : α} (h : x ∈ l) : (f x).length ≤ (l.flatMap f).length := by
  induction l with
  | nil => simp at h
  | cons a r ih =>
    rw [List.flatMap_cons, List.length_append]
    rcases List.mem_cons.1 h with e | e
    · subst e; omega
    · have := ih e; omega

theorem enc_ge_cont (H : It → Nat → List Int) {its : List It} (hU : UpOk its its.length) {i : Nat} {it : It} (hit : its[i]? = some it) : (cont H its i it).length ≤ (enc H its i).length := by
  rw [enc_eq H hU hit, List.length_append]; omega

theorem kid_le (H : It → Nat → List Int) {its : List It} {i j : Nat} {it : It} (h : j ∈ kidsFrom its (i : Int) 0) : (enc H its j).length ≤ (cont H its i it).length := by
  unfold cont
  rw [List.length_append]
  have := le_flatMap (f := enc H its) h
  omega

theorem enc_same {its : List It} (hU : UpOk its its.length) : ∀ (n i : Nat) (it : It), its.length ≤ i + n → its[i]? = some it → (cont hdS its i it).length ≤ 1200 → enc hdI its i = enc hdS its i ∧ cont hdI its i it = cont hdS its i it
  | 0, i, it, hn, hit, _ => by have := (List.getElem?_eq_some_iff.1 hit).1; omega
  | n + 1, i, it, hn, hit, hc => by
    have e : (kidsFrom its i 0).flatMap (enc hdI its) = (kidsFrom its i 0).flatMap (enc hdS its) := flatMap_eq (fun j hj => by
      obtain ⟨h1, h2⟩ := kid_later hU hj
      obtain ⟨jt, hjt⟩ : ∃ jt, its[j]? = some jt := ⟨_, List.getElem?_eq_getElem h2⟩
      have hl := kid_le hdS (it := it) hj
      have hg := enc_ge_cont hdS hU hjt
      exact (enc_same hU n j jt (by omega) hjt (by omega)).1)
    have ec : cont hdI its i it = cont hdS its i it := by unfold cont; rw [e]
    exact ⟨by rw [enc_eq hdI hU hit, enc_eq hdS hU hit, ec, hd_same it _ hc], ec⟩

theorem enc_great {its : List It} (hU : UpOk its its.length) : ∀ (n i : Nat) (it : It), its.length ≤ i + n → its[i]? = some it → 1200 < (cont hdS its i it).length → 1200 < (enc hdI its i).length
  | 0, i, it, hn, hit, _ => by have := (List.getElem?_eq_some_iff.1 hit).1; omega
  | n + 1, i, it, hn, hit, hc => by
    by_cases hall : ∀ j ∈ kidsFrom its (i : Int) 0, ∀ jt, its[j]? = some jt → (cont hdS its j jt).length ≤ 1200
    · have e : (kidsFrom its i 0).flatMap (enc hdI its) = (kidsFrom its i 0).flatMap (enc hdS its) := flatMap_eq (fun j hj => by
        obtain ⟨h1, h2⟩ := kid_later hU hj
        obtain ⟨jt, hjt⟩ : ∃ jt, its[j]? = some jt := ⟨_, List.getElem?_eq_getElem h2⟩
        exact (enc_same hU its.length j jt (by omega) hjt (hall j hj jt hjt)).1)
      have ec : cont hdI its i it = cont hdS its i it := by unfold cont; rw [e]
      have := enc_ge_cont hdI hU hit
      rw [ec] at this
      omega
    · have : ∃ j, j ∈ kidsFrom its (i : Int) 0 ∧ ∃ jt, its[j]? = some jt ∧ 1200 < (cont hdS its j jt).length := by
        refine Classical.byContradiction fun hno => hall fun j hj jt hjt => ?_
        refine Nat.le_of_not_lt fun hlt => hno ⟨j, hj, jt, hjt, hlt⟩
      obtain ⟨j, hj, jt, hjt, hlt⟩ := this
      have h1 := (kid_later hU hj).1
      have h2 := enc_great hU n j jt (by omega) hjt hlt
      have h3 := kid_le hdI (it := it) hj
      have h4 := enc_ge_cont hdI hU hit
      omega

theorem dN_le (H : It → Nat → List Int) (hH : ∀ it n, (H it n).length ≤ 8) {its : List It} (hs : ∀ it ∈ its, it.z.length ≤ 300) : ∀ n k, (dN H its n k).length ≤ 308 * n
  | 0, _ => by simp [dN]
  | n + 1, k => by
    unfold dN
    rw [List.length_append]
    have ih := dN_le H hH hs n (k + 1)
    cases hit : its[k]? with
    | none => simp; omega
    | some it =>
      simp only [List.length_append]
      have h1 := hH it (cont H its k it).length
      have h2 := hs it (List.mem_of_getElem? hit)
      omega

theorem kids_later_le (H : It → Nat → List Int) {its : List It} (x : Nat) : ∀ (m k : Nat), k ≤ m → m ≤ its.length → (eFrom H its x m).length ≤ (eFrom H its x k).length
  | 0, k, h, _ => by
    obtain rfl : k = 0 := by omega
    exact Nat.le_refl _
  | m + 1, k, h, hm => by
    by_cases e : k = m + 1
    · subst e; exact Nat.le_refl _
    · refine Nat.le_trans ?_ (kids_later_le H x m k (by omega) (by omega))
      unfold eFrom
      by_cases hp : pOf its m = (x : Int)
      · rw [kidsFrom_yes (by omega) hp, List.flatMap_cons, List.length_append]; omega
      · rw [kidsFrom_no (by omega) hp]; exact Nat.le_refl _

theorem eFrom_le (H : It → Nat → List Int) (hH : ∀ it n, (H it n).length ≤ 8) {its : List It} (N : NoFault its) (i k : Nat) (hi : i < its.length) (hk : i < k) (hkl : k ≤ its.length) : (eFrom H its i k).length ≤ 61600 := by
  have h1 := kids_later_le H (its := its) i k (i + 1) (by omega) hkl
  have h2 := suffix_eq H N.up N.line (its.length - (i + 1)) (i + 1) (by omega) (by omega)
  have hm : i ∈ upL its (((i + 1 : Nat) : Int) - 1) := by
    rw [show ((i + 1 : Nat) : Int) - 1 = (i : Int) by omega]
    have hw := way_at N.up hi
    generalize upL its (i : Int) = ws at hw
    cases ws with
    | nil => have : (i : Int) = -1 := hw; omega
    | cons a r => obtain ⟨e, _⟩ := hw; simp; omega
  have h3 := le_flatMap (f := fun x => eFrom H its x (i + 1)) hm
  rw [← h2] at h3
  have h4 := dN_le H hH N.small (its.length - (i + 1)) (i + 1)
  have h5 := N.few
  have : (dFrom H its (i + 1)).length ≤ 308 * (its.length - (i + 1)) := h4
  omega

theorem cont_le (H : It → Nat → List Int) (hH : ∀ it n, (H it n).length ≤ 8) {its : List It} (N : NoFault its) {i : Nat} {it : It} (hit : its[i]? = some it) : (cont H its i it).length ≤ 61900 := by
  have hl := (List.getElem?_eq_some_iff.1 hit).1
  rw [cont_eq H N.up hit, List.length_append]
  have := eFrom_le H hH N i (i + 1) hl (by omega) (by omega)
  have := N.small it (List.mem_of_getElem? hit)
  omega

theorem enc_le (H : It → Nat → List Int) (hH : ∀ it n, (H it n).length ≤ 8) {its : List It} (N : NoFault its) {i : Nat} {it : It} (hit : its[i]? = some it) : (enc H its i).length ≤ 61908 := by
  rw [enc_eq H N.up hit, List.length_append]
  have := cont_le H hH N hit
  have := hH it (cont H its i it).length
  omega

/-- What EncodeItems answers: its code and its bytes. -/
def enCode (its : List It) : Int := if itemsFlt its = 0 then (if 1200 < (enc hdS its 0).length then 2 else 0) else itemsFlt its
def enBytes (its : List It) : List Int := if itemsFlt its = 0 ∧ (enc hdS its 0).length ≤ 1200 then enc hdS its 0 else []

/-- The program's bytes: the same, or both too many. -/
theorem enc_tie {its : List It} (N : NoFault its) : (1200 < (enc hdS its 0).length → 1200 < (dFrom hdI its 0).length) ∧ ((enc hdS its 0).length ≤ 1200 → dFrom hdI its 0 = enc hdS its 0) := by
  have h0 := N.some
  obtain ⟨it, hit⟩ : ∃ it, its[0]? = some it := ⟨_, List.getElem?_eq_getElem h0⟩
  rw [all_eq hdI N.up N.line h0]
  by_cases hc : (cont hdS its 0 it).length ≤ 1200
  · have := (enc_same N.up its.length 0 it (by omega) hit hc).1
    rw [this]
    exact ⟨fun h => h, fun _ => rfl⟩
  · have h1 := enc_great N.up its.length 0 it (by omega) hit (by omega)
    have h2 := enc_ge_cont hdS N.up hit
    exact ⟨fun _ => h1, fun h => by omega⟩

theorem hdS_range (it : It) (n : Nat) (h : n < 16777216) : ∀ x ∈ hdS it n, 0 ≤ x ∧ x ≤ 255 := by
  unfold hdS; split
  · intro x hx; simp at hx
  · exact headL_range _ _ (by omega) (by omega)

theorem enc_range {its : List It} (N : NoFault its) (hz : ∀ it ∈ its, ∀ x ∈ it.z, 0 ≤ x ∧ x ≤ 255) : ∀ (n i : Nat), its.length ≤ i + n → ∀ x ∈ enc hdS its i, 0 ≤ x ∧ x ≤ 255
  | n, i, hn, x, hx => by
    cases hit : its[i]? with
    | none =>
      unfold enc at hx
      have hl : its.length ≤ i := List.getElem?_eq_none_iff.1 hit
      rw [encH_fuel hdS N.up its.length 0 i (by omega) (by omega)] at hx
      simp [encH] at hx
    | some it =>
      have hl := (List.getElem?_eq_some_iff.1 hit).1
      rw [enc_eq hdS N.up hit] at hx
      rcases List.mem_append.1 hx with e | e
      · exact hdS_range it _ (by have := cont_le hdS hdS_length N hit; omega) x e
      · unfold cont at e
        rcases List.mem_append.1 e with e' | e'
        · exact hz it (List.mem_of_getElem? hit) x e'
        · obtain ⟨j, hj, hxj⟩ := List.mem_flatMap.1 e'
          have h1 := kid_later N.up hj
          cases n with
          | zero => omega
          | succ n => exact enc_range N hz n j (by omega) x hxj

theorem enBytes_range (its : List It) (hz : ∀ it ∈ its, ∀ x ∈ it.z, 0 ≤ x ∧ x ≤ 255) : ∀ x ∈ enBytes its, 0 ≤ x ∧ x ≤ 255 := by
  unfold enBytes
  split
  · exact enc_range (noFault_of (by omega)) hz its.length 0 (by omega)
  · intro x hx; simp at hx

theorem enBytes_length (its : List It) : (enBytes its).length ≤ 1200 := by
  unfold enBytes
  split
  · omega
  · simp

end Go.Proofs.YtbncoiljklagkaaDoor

/- What is proved here: the items of a header without a fault have none, and encoded they are its bytes; no program is named. -/
namespace Go.Proofs.YtbncoiljklagkaaDoor
open Go.RowKit
set_option linter.unusedVariables false

/-- A leaf and a list. -/
def lf (p : Int) (z : List Int) : It := ⟨false, p, z⟩
def ls (p : Int) : It := ⟨true, p, []⟩

def hA (h : Hd) : List It := [ls (-1), lf 0 h.p, lf 0 (shortF 7 h.n1), lf 0 (shortF 7 h.n2), lf 0 (shortF 7 h.n3), lf 0 h.t, lf 0 (shortF 7 h.n5), ls 0]
def hC (h : Hd) : List It := [lf 0 h.r, lf 0 h.g, lf 0 h.e, ls 0]

/-- The items of a header. -/
def hIts (h : Hd) : List It := hA h ++ h.s.map (lf 7) ++ hC h ++ h.k.map (lf ((11 + h.s.length : Nat) : Int))

theorem hIts_len (h : Hd) : (hIts h).length = 12 + h.s.length + h.k.length := by
  unfold hIts hA hC
  simp
  omega

theorem at_A (h : Hd) (j : Nat) (hj : j < 8) : (hIts h)[j]? = (hA h)[j]? := by
  unfold hIts
  have hl : (hA h).length = 8 := rfl
  rw [List.getElem?_append_left (by simp; omega), List.getElem?_append_left (by simp; omega), List.getElem?_append_left (by omega)]

theorem at_S (h : Hd) (i : Nat) (hi : i < h.s.length) : (hIts h)[8 + i]? = some (lf 7 h.s[i]) := by
  unfold hIts
  have hl : (hA h).length = 8 := rfl
  rw [List.getElem?_append_left (by simp; omega), List.getElem?_append_left (by simp; omega), List.getElem?_append_right (by omega), hl, Nat.add_sub_cancel_left]
  simp [hi]

theorem at_C (h : Hd) (i : Nat) (hi : i < 4) : (hIts h)[8 + h.s.length + i]? = (hC h)[i]? := by
  unfold hIts
  have hl : (hA h).length = 8 := rfl
  have hc : (hC h).length = 4 := rfl
  rw [List.getElem?_append_left (by simp; omega), List.getElem?_append_right (by simp; omega)]
  congr 1
  simp
  omega

theorem at_K (h : Hd) (i : Nat) (hi : i < h.k.length) : (hIts h)[12 + h.s.length + i]? = some (lf ((11 + h.s.length : Nat) : Int) h.k[i]) := by
  unfold hIts
  have hl : (hA h).length = 8 := rfl
  have hc : (hC h).length = 4 := rfl
  have e : 12 + h.s.length + i - (hA h ++ h.s.map (lf 7) ++ hC h).length = i := by simp; omega
  rw [List.getElem?_append_right (by simp; omega), e]
  simp [hi]

/-- What each item is. -/
theorem cls {h : Hd} (gd : HGood h) (j : Nat) (it : It) (hit : (hIts h)[j]? = some it) :
    (j = 0 ∧ it = ls (-1)) ∨ (1 ≤ j ∧ j ≤ 6 ∧ ∃ z, it = lf 0 z ∧ z.length ≤ 300) ∨ (j = 7 ∧ it = ls 0) ∨ (8 ≤ j ∧ j < 8 + h.s.length ∧ ∃ z, it = lf 7 z ∧ z.length ≤ 300) ∨
    (8 + h.s.length ≤ j ∧ j < 11 + h.s.length ∧ ∃ z, it = lf 0 z ∧ z.length ≤ 300) ∨ (j = 11 + h.s.length ∧ it = ls 0) ∨
    (12 + h.s.length ≤ j ∧ j < 12 + h.s.length + h.k.length ∧ ∃ z, it = lf ((11 + h.s.length : Nat) : Int) z ∧ z.length ≤ 300) := by
  have hl := (List.getElem?_eq_some_iff.1 hit).1
  rw [hIts_len] at hl
  have s1 := sh_length h.n1
  have s2 := sh_length h.n2
  have s3 := sh_length h.n3
  have s5 := sh_length h.n5
  have g1 := gd.p
  have g2 := gd.t
  have g3 := gd.r
  have g4 := gd.g
  have g5 := gd.e
  rcases Nat.lt_or_ge j 8 with h8 | h8
  · rw [at_A h j h8] at hit
    match j, h8 with
    | 0, _ => left; exact ⟨rfl, by simpa [hA] using hit.symm⟩
    | 1, _ => right; left; exact ⟨by omega, by omega, h.p, by simpa [hA] using hit.symm, by omega⟩
    | 2, _ => right; left; exact ⟨by omega, by omega, shortF 7 h.n1, by simpa [hA] using hit.symm, by omega⟩
    | 3, _ => right; left; exact ⟨by omega, by omega, shortF 7 h.n2, by simpa [hA] using hit.symm, by omega⟩
    | 4, _ => right; left; exact ⟨by omega, by omega, shortF 7 h.n3, by simpa [hA] using hit.symm, by omega⟩
    | 5, _ => right; left; exact ⟨by omega, by omega, h.t, by simpa [hA] using hit.symm, by omega⟩
    | 6, _ => right; left; exact ⟨by omega, by omega, shortF 7 h.n5, by simpa [hA] using hit.symm, by omega⟩
    | 7, _ => right; right; left; exact ⟨rfl, by simpa [hA] using hit.symm⟩
  · rcases Nat.lt_or_ge j (8 + h.s.length) with hs | hs
    · obtain ⟨i, rfl⟩ : ∃ i, j = 8 + i := ⟨j - 8, by omega⟩
      rw [at_S h i (by omega)] at hit
      have hz := gd.sz h.s[i] (List.getElem_mem _)
      right; right; right; left
      exact ⟨by omega, by omega, _, (Option.some.inj hit).symm, by omega⟩
    · rcases Nat.lt_or_ge j (12 + h.s.length) with hc | hc
      · obtain ⟨i, rfl⟩ : ∃ i, j = 8 + h.s.length + i := ⟨j - (8 + h.s.length), by omega⟩
        rw [at_C h i (by omega)] at hit
        have hi : i < 4 := by omega
        match i, hi with
        | 0, _ => right; right; right; right; left; exact ⟨by omega, by omega, h.r, by simpa [hC] using hit.symm, by omega⟩
        | 1, _ => right; right; right; right; left; exact ⟨by omega, by omega, h.g, by simpa [hC] using hit.symm, by omega⟩
        | 2, _ => right; right; right; right; left; exact ⟨by omega, by omega, h.e, by simpa [hC] using hit.symm, by omega⟩
        | 3, _ => right; right; right; right; right; left; exact ⟨by omega, by simpa [hC] using hit.symm⟩
      · obtain ⟨i, rfl⟩ : ∃ i, j = 12 + h.s.length + i := ⟨j - (12 + h.s.length), by omega⟩
        rw [at_K h i (by omega)] at hit
        have hz := gd.kz h.k[i] (List.getElem_mem _)
        right; right; right; right; right; right
        exact ⟨by omega, by omega, _, (Option.some.inj hit).symm, by omega⟩

theorem it_at (h : Hd) (j : Nat) (hj : j < 12 + h.s.length + h.k.length) : ∃ it, (hIts h)[j]? = some it := ⟨_, List.getElem?_eq_getElem (by rw [hIts_len]; exact hj)⟩

theorem way0 (h : Hd) : IsWay (hIts h) ((0 : Nat) : Int) [0] := ⟨rfl, ls (-1), at_A h 0 (by omega), by show (-1 : Int) ≤ -1; omega, by show (-1 : Int) < ((0 : Nat) : Int); omega, rfl⟩

theorem way_up (h : Hd) {j q : Nat} {it : It} {ws : List Nat} (hit : (hIts h)[j]? = some it) (hp : it.p = (q : Int)) (hq : q < j) (hw : IsWay (hIts h) (q : Int) ws) : IsWay (hIts h) (j : Int) (j :: ws) :=
  ⟨rfl, it, hit, by omega, by omega, by rw [hp]; exact hw⟩

theorem way7 (h : Hd) : IsWay (hIts h) ((7 : Nat) : Int) [7, 0] := way_up (q := 0) h (at_A h 7 (by omega)) rfl (by omega) (way0 h)
theorem way11 (h : Hd) : IsWay (hIts h) ((11 + h.s.length : Nat) : Int) [11 + h.s.length, 0] := way_up (q := 0) h (by have := at_C h 3 (by omega); rw [show 8 + h.s.length + 3 = 11 + h.s.length by omega] at this; exact this) rfl (by omega) (way0 h)

/-- The way up from each item. -/
theorem way_all {h : Hd} (gd : HGood h) (j : Nat) (hj : j < 12 + h.s.length + h.k.length) : ∃ ws, IsWay (hIts h) (j : Int) ws ∧ 0 ∈ ws ∧ ws.length ≤ 3 ∧ (7 ≤ j → j < 8 + h.s.length → 7 ∈ ws) ∧ (11 + h.s.length ≤ j → 11 + h.s.length ∈ ws) := by
  obtain ⟨it, hit⟩ := it_at h j hj
  rcases cls gd j it hit with ⟨rfl, rfl⟩ | ⟨h1, h2, z, rfl, _⟩ | ⟨rfl, rfl⟩ | ⟨h1, h2, z, rfl, _⟩ | ⟨h1, h2, z, rfl, _⟩ | ⟨rfl, rfl⟩ | ⟨h1, h2, z, rfl, _⟩
  · exact ⟨[0], way0 h, by simp, by simp, fun a => by omega, fun a => by omega⟩
  · exact ⟨[j, 0], way_up (q := 0) h hit rfl (by omega) (way0 h), by simp, by simp, fun a => by omega, fun a => by omega⟩
  · exact ⟨[7, 0], way7 h, by simp, by simp, fun _ _ => by simp, fun a => by omega⟩
  · exact ⟨[j, 7, 0], way_up (q := 7) h hit rfl (by omega) (way7 h), by simp, by simp, fun _ _ => by simp, fun a => by omega⟩
  · exact ⟨[j, 0], way_up (q := 0) h hit rfl (by omega) (way0 h), by simp, by simp, fun _ a => by omega, fun a => by omega⟩
  · exact ⟨[11 + h.s.length, 0], way11 h, by simp, by simp, fun _ a => by omega, fun _ => by simp⟩
  · exact ⟨[j, 11 + h.s.length, 0], way_up (q := 11 + h.s.length) h hit rfl (by omega) (way11 h), by simp, by simp, fun _ a => by omega, fun _ => by simp⟩

theorem lAt_of {h : Hd} {q : Nat} {p : Int} (hq : (hIts h)[q]? = some (ls p)) : lAt (hIts h) q = true := by unfold lAt; rw [hq]; rfl

theorem flt_leaf {h : Hd} (gd : HGood h) {j q : Nat} {l : Bool} {z : List Int} (hz : z.length ≤ 300) (hlz : l = true → z = []) (hj : j < 12 + h.s.length + h.k.length) (hq : q < j) (hl : lAt (hIts h) q = true) (hup : ∀ ws, IsWay (hIts h) (((j - 1 : Nat) : Nat) : Int) ws → q ∈ ws) (hit : (hIts h)[j]? = some ⟨l, (q : Int), z⟩) :
    fltAt (hIts h) j ⟨l, (q : Int), z⟩ = 0 := by
  obtain ⟨ws, w1, w2, w3, _⟩ := way_all gd j hj
  obtain ⟨vs, v1, _⟩ := way_all gd (j - 1) (by omega)
  have e1 : (j : Int) - 1 = ((j - 1 : Nat) : Int) := by omega
  unfold fltAt
  rw [if_neg (fun hh => by rw [hlz hh.1] at hh; simp at hh), if_neg (by show ¬ 300 < z.length; omega), if_neg (by omega), if_neg (by show ¬ ((q : Int) < 0 ∨ (j : Int) ≤ (q : Int)); omega)]
  show (if lAt (hIts h) (q : Int).toNat = true ∧ (q : Int).toNat ∈ upL (hIts h) ((j : Int) - 1) then (if 5 < (upL (hIts h) j).length then 2 else 0) else 1) = 0
  rw [Int.toNat_natCast, e1, v1.up (by rw [hIts_len]; omega), if_pos ⟨hl, hup vs v1⟩, w1.up (by rw [hIts_len]; omega), if_neg (by omega)]

theorem hIts_flt {h : Hd} (gd : HGood h) : itemsFlt (hIts h) = 0 := by
  have hs := gd.s
  have hk := gd.k
  unfold itemsFlt
  rw [if_neg (by rw [hIts_len]; omega)]
  have l0 : lAt (hIts h) 0 = true := lAt_of (at_A h 0 (by omega))
  have l7 : lAt (hIts h) 7 = true := lAt_of (at_A h 7 (by omega))
  have l11 : lAt (hIts h) (11 + h.s.length) = true := lAt_of (p := 0) (by have := at_C h 3 (by omega); rw [show 8 + h.s.length + 3 = 11 + h.s.length by omega] at this; exact this)
  have u0 : ∀ j, j < 12 + h.s.length + h.k.length → ∀ ws, IsWay (hIts h) ((j : Nat) : Int) ws → 0 ∈ ws := fun j hj ws hw => by
    obtain ⟨vs, v1, v2, _⟩ := way_all gd j hj
    rw [hw.unique v1]; exact v2
  have all : ∀ j it, (hIts h)[j]? = some it → fltAt (hIts h) j it = 0 := fun j it hit => by
    have hj : j < 12 + h.s.length + h.k.length := by have := (List.getElem?_eq_some_iff.1 hit).1; rwa [hIts_len] at this
    rcases cls gd j it hit with ⟨rfl, rfl⟩ | ⟨h1, h2, z, rfl, hz⟩ | ⟨rfl, rfl⟩ | ⟨h1, h2, z, rfl, hz⟩ | ⟨h1, h2, z, rfl, hz⟩ | ⟨rfl, rfl⟩ | ⟨h1, h2, z, rfl, hz⟩
    · rfl
    · exact flt_leaf gd (q := 0) hz (fun e => by cases e) hj (by omega) l0 (u0 (j - 1) (by omega)) hit
    · exact flt_leaf gd (q := 0) (by simp) (fun _ => rfl) hj (by omega) l0 (u0 (7 - 1) (by omega)) hit
    · exact flt_leaf gd (q := 7) hz (fun e => by cases e) hj (by omega) l7 (fun ws hw => by
        obtain ⟨vs, v1, _, _, v4, _⟩ := way_all gd (j - 1) (by omega)
        rw [hw.unique v1]; exact v4 (by omega) (by omega)) hit
    · exact flt_leaf gd (q := 0) hz (fun e => by cases e) hj (by omega) l0 (u0 (j - 1) (by omega)) hit
    · exact flt_leaf gd (q := 0) (by simp) (fun _ => rfl) hj (by omega) l0 (u0 (11 + h.s.length - 1) (by omega)) hit
    · exact flt_leaf gd (q := 11 + h.s.length) hz (fun e => by cases e) hj (by omega) l11 (fun ws hw => by
        obtain ⟨vs, v1, _, _, _, v5⟩ := way_all gd (j - 1) (by omega)
        rw [hw.unique v1]; exact v5 (by omega)) hit
  have from0 : ∀ (n k : Nat), k + n = (hIts h).length → fltFrom (hIts h) k ((hIts h).drop k) = 0 := by
    intro n
    induction n with
    | zero => intro k e; exact fltFrom_end _ _ (by omega)
    | succ n ih =>
      intro k e
      obtain ⟨it, hit⟩ := it_at h k (by rw [hIts_len] at e; omega)
      rw [fltFrom_step _ k it hit, if_pos (all k it hit)]
      exact ih (k + 1) (by omega)
  simpa using from0 (hIts h).length 0 (by omega)

end Go.Proofs.YtbncoiljklagkaaDoor

/- What is proved here: what the program's addParts and addList answer: items with some more behind them. -/
namespace Go.Proofs.YtbncoiljklagkaaDoor
open Go.RowKit
set_option linter.unusedVariables false

theorem infoIt : (Tryd.prog.info? 91).map (fun i => (i.zero, i.size, i.bytes)) = some (some (.agg #[.bool false, .int .i64 0, .slice none 0 0]), 3, 40) := by kernel_rfl

theorem three_at (w : World) (x y z : Value) (t : TypeId) : ∀ (j : Nat) (u : Value), [x, y, z][j]? = some u → (w.alloc (.cells #[x, y, z] t)).cell? ((⟨w.heap.size, 0, none⟩ : Addr).add j) = some u := by
  intro j u hj
  rw [add_none, Nat.zero_add, World.cell?_alloc_new]
  match j, hj with
  | 0, hj => simpa using hj
  | 1, hj => simpa using hj
  | 2, hj => simpa using hj

/-- All blocks that were there stay but the row's; and where the row lies then. -/
def Kept (W W' : World) (v v' : Value) : Prop := (∀ k, k < W.heap.size → v.ownBlock ≠ some k → W'.heap[k]? = W.heap[k]?) ∧ W.heap.size ≤ W'.heap.size ∧ (v'.ownBlock = v.ownBlock ∨ ∃ k, v'.ownBlock = some k ∧ W.heap.size ≤ k)

theorem Kept.refl (W : World) (v : Value) : Kept W W v v := ⟨fun _ _ _ => rfl, Nat.le_refl _, .inl rfl⟩

theorem Kept.below {W W1 W2 : World} {v v1 : Value} (h : Kept W W1 v v1) (hb : Below W1.heap.size W1 W2) : Kept W W2 v v1 := by
  obtain ⟨h1, h2, h3⟩ := h
  exact ⟨fun k hk hv => (hb.block k (by omega)).trans (h1 k hk hv), Nat.le_trans h2 hb.size, h3⟩

theorem Kept.app {W W1 W2 : World} {v v1 v2 : Value} (h : Kept W W1 v v1) (hg : W1.grownBy W2 v1.ownBlock) (ho : v2.ownBlock = v1.ownBlock ∨ v2.ownBlock = some W1.heap.size) : Kept W W2 v v2 := by
  obtain ⟨h1, h2, h3⟩ := h
  refine ⟨fun k hk hv => ?_, Nat.le_trans h2 hg.size, ?_⟩
  · rw [hg.block k (by omega) (fun e => ?_)]
    · exact h1 k hk hv
    · rcases h3 with h3 | ⟨q, h3, h4⟩
      · exact hv (by rw [← h3]; exact e.symm)
      · rw [h3] at e; have := Option.some.inj e; omega
  · rcases ho with ho | ho
    · rw [ho]; exact h3
    · exact .inr ⟨_, ho, h2⟩

theorem Kept.trans {W W1 W2 : World} {v v1 v2 : Value} (h : Kept W W1 v v1) (k : Kept W1 W2 v1 v2) : Kept W W2 v v2 := by
  obtain ⟨h1, h2, h3⟩ := h
  obtain ⟨k1, k2, k3⟩ := k
  refine ⟨fun q hq hv => ?_, Nat.le_trans h2 k2, ?_⟩
  · rw [k1 q (by omega) (fun e => ?_)]
    · exact h1 q hq hv
    · rcases h3 with h3 | ⟨b, h3, h4⟩
      · exact hv (by rw [← h3]; exact e)
      · rw [h3] at e; have := Option.some.inj e; omega
  · rcases k3 with k3 | ⟨b, k3, k4⟩
    · rw [k3]; exact h3
    · exact .inr ⟨b, k3, by omega⟩

theorem map_snoc (zss : List (List Int)) (k : Nat) (z : List Int) (p : Int) (h : zss[k]? = some z) : (zss.take (k + 1)).map (lf p) = (zss.take k).map (lf p) ++ [lf p z] := by
  obtain ⟨hk, e⟩ := List.getElem?_eq_some_iff.1 h
  rw [List.take_succ_eq_append_getElem hk, List.map_append, e]
  rfl

set_option maxHeartbeats 4000000 in
theorem addParts_any (w0 : World) (B : Nat) (hw0 : w0.heap.size ≤ B) (a : Option Addr) (n c : Nat) (its : List It) (W : World) (hm : HkR w0 B W (.slice a n c) n its) (p : Int) (hp : in64 p) (pa : Option Addr) (pn pc : Nat) (zss : List (List Int)) (hr : PRow w0 B W pa pn zss) (hB : B ≤ W.heap.size) (hn : n + pn ≤ 300) :
    Calls Tryd.prog 93 #[.slice a n c, .int .i64 p, .slice pa pn pc] W fun e w' => ∃ a' c', e = .returned (.slice a' (n + pn) c') ∧ HkR w0 B w' (.slice a' (n + pn) c') (n + pn) (its ++ zss.map (lf p)) ∧ Kept W w' (.slice a n c) (.slice a' (n + pn) c') ∧ B ≤ w'.heap.size := by
  obtain ⟨i0, hi, hz0, hz1, hz2⟩ := info_parts infoIt
  have hzl := hr.1
  have hml := hr.2.1
  have HM := hide hm
  have HR := hide hr
  have HZL := hide hzl
  have HML := hide hml
  have HSN := hide (map_snoc zss)
  have HP := hide hp
  clear hm hr hzl hml hp
  go_enter Tryd.func93, Tryd.ntmps93
  go_wp2_with fail
  go_loopw [0, 11] (fun s i wr => ∃ (k : Nat) (a' : Option Addr) (c' : Nat), k ≤ pn ∧ i = .int .i64 k ∧ s = .slice a' (n + k) c' ∧ HkR w0 B wr (.slice a' (n + k) c') (n + k) (its ++ (zss.take k).map (lf p)) ∧ PRow w0 B wr pa pn zss ∧ Kept W wr (.slice a n c) (.slice a' (n + k) c') ∧ B ≤ wr.heap.size) (fun _ i _ => pn - (intOf i).toNat)
  case atStart => exact ⟨0, a, c, Nat.zero_le _, rfl, rfl, by simpa using unhide HM, unhide HR, Kept.refl _ _, hB⟩
  case round =>
    obtain ⟨k, a1, c1, hk, rfl, rfl, hmk, hrk, hkk, hBk⟩ := hrel
    clear HM HR
    by_cases hlt : k < pn
    · obtain ⟨z, hit⟩ : ∃ z, zss[k]? = some z := ⟨_, List.getElem?_eq_getElem (by rw [unhide HZL]; exact hlt)⟩
      obtain ⟨pb, po, sa, sl, sc, rfl, cc, hs⟩ := hrk.at hmk.2.2.1 hw0 hit
      have hsn : its ++ (zss.take (k + 1)).map (lf p) = its ++ (zss.take k).map (lf p) ++ [lf p z] := by rw [(unhide HSN) k z p hit, List.append_assoc]
      generalize its ++ (zss.take k).map (lf p) = IS at hmk hsn
      have hzm := (unhide HML) z (List.mem_of_getElem? hit)
      have ba := below_alloc wr (Obj.cells #[.bool false, .int .i64 p, .slice sa sl sc] 91)
      obtain ⟨h1, h2, hb0, vs, h3, h4, h5⟩ := hmk.below ba (Nat.le_refl _) hBk
      have hsa := hs.below ba (Nat.le_refl _)
      have hra := hrk.below ba (Nat.le_refl _)
      have hka := hkk.below ba
      have zz : (wr.alloc (Obj.cells #[.bool false, .int .i64 p, .slice sa sl sc] 91)).heap.size = wr.heap.size + 1 := by simp
      have k1 : (0 : Int) ≤ (k : Int) := by omega
      have k2 : (k : Int) < (pn : Int) := by omega
      have HS := hide hsn
      have HOK : Hid (ItOk (lf p z)) := ⟨(unhide HP).1, (unhide HP).2, hzm⟩
      have H1 := hide h1
      have H2 := hide h2
      have H3 := hide h3
      have H5 := hide h5
      have HB0 := hide hb0
      have HSA := hide hsa
      have HRA := hide hra
      have HKA := hide hka
      clear hmk hrk hkk hs hsn hit hzm h1 h2 h3 h5 hb0 hsa hra hka ba
      go_wp2_with (at_builtin; refine wpList_append_own_at _ rfl _ _ 75 rfl B 91 i0 (.agg #[.bool false, .int .i64 0, .slice none 0 0]) 3 40 Tryd.underlying75 hi hz0 hz1 hz2 rfl (by decide) _ _ _ rfl h4 ⟨wr.heap.size, 0, none⟩ 1 1 [.bool false, .int .i64 p, .slice sa sl sc] rfl rfl ?c1 ?c2 ?c3 ?c4 ?c5 ?_)
      case c1 => exact three_at _ _ _ _ _
      case c2 => intro u hu; simp at hu; rcases hu with rfl | rfl | rfl <;> rfl
      case c3 => unfold maxLen; omega
      case c4 => omega
      case c5 => omega
      intro v' w6 hown2 hgrow _ hblk
      obtain ⟨a6, c6, hv6⟩ := own_shape hown2
      subst hv6
      have M6 : HkR w0 B w6 (.slice a6 (n + k + 1) c6) (n + k + 1) (IS ++ [lf p z]) := HkR.snoc (unhide H1) (unhide H2) (unhide HB0) (unhide H3) h4 (unhide H5) (by omega) (unhide HSA) (unhide HOK) hown2 hgrow
      have R6 := (unhide HRA).grown h4 hgrow
      have K6 := (unhide HKA).app hgrow (v2 := .slice a6 (n + k + 1) c6) (by rw [zz]; exact hblk)
      have z6 := hgrow.size
      rw [zz] at z6
      have HM6 := hide M6
      have HR6 := hide R6
      have HK6 := hide K6
      clear M6 R6 K6 hown2 hgrow hblk h4 H1 H2 H3 H5 HB0 HSA HRA HKA zz
      go_wp2_with fail
      go_roundw
      case rel => exact ⟨k + 1, a6, c6, by omega, by go_num, rfl, by rw [unhide HS]; exact unhide HM6, unhide HR6, unhide HK6, by omega⟩
      case measure => simp [intOf]; omega
    · obtain rfl : k = pn := by omega
      have et : zss.take k = zss := List.take_of_length_le (by rw [unhide HZL]; exact Nat.le_refl _)
      rw [et] at hmk
      have HMK := hide hmk
      have HKK := hide hkk
      clear hmk hrk hkk et
      go_wp2_with fail
      go_ret
      exact ⟨a1, c1, rfl, unhide HMK, unhide HKK, hBk⟩

end Go.Proofs.YtbncoiljklagkaaDoor

/- What is proved here: what ShortBytes answers, in the program and in the model, for every number: the same code and the same bytes, in new memory. -/
namespace Go.Proofs.YtbncoiljklagkaaDoor
open Go.RowKit
set_option linter.unusedVariables false
set_option maxRecDepth 100000

/-- The world in which impl.ShortBytes fills its room. -/
def roomW (w : World) (room : List Int) : World := (w.alloc (.cells #[.int .i64 0, .slice none 0 0] 28)).alloc (.cells (room.map (Value.int .u8)).toArray 113)

theorem roomW_cell (w : World) (room : List Int) (k : Nat) (h : k < room.length) : (roomW w room).cell? ⟨w.heap.size + 1, k, none⟩ = some (.int .u8 (room.getD k 0)) := by
  unfold roomW
  rw [World.cell?_alloc_at _ _ _ _ (by simp)]
  simp [h]

theorem roomW_frozen (w : World) (room : List Int) (k : Nat) : (roomW w room).frozen? ⟨w.heap.size + 1, k, none⟩ = false := by
  unfold roomW
  simp

theorem roomW_set (w : World) (room : List Int) (k : Nat) (z : Int) : (roomW w room).setCell ⟨w.heap.size + 1, k, none⟩ (.int .u8 z) = roomW w (room.set k z) := by
  unfold roomW
  rw [World.setCell_alloc_at _ _ _ _ _ (by simp)]
  simp [List.map_set]

theorem roomW_below (w : World) (room : List Int) : Below w.heap.size w (roomW w room) := ((Below.refl _ _).alloc (Nat.le_refl _) _).alloc (by simp) _

theorem roomW_size (w : World) (room : List Int) : (roomW w room).heap.size = w.heap.size + 2 := by simp [roomW]

theorem roomW_res0 (w : World) (room : List Int) : (roomW w room).heap[w.heap.size]? = some (.cells #[.int .i64 0, .slice none 0 0] 28 (0, 0)) := by
  unfold roomW
  show ((w.heap.push _).push _)[w.heap.size]? = _
  simp [Array.getElem?_push]

theorem own_cur {w : World} {B g d : Nat} {e : TypeId} {xs : List Value} (h : w.ownsRow B e 1 (.slice (some ⟨g, 0, none⟩) d d) d xs) : ∃ cur, w.heap[g]? = some (.cells cur e (0, 0)) ∧ cur.size = d := by
  rcases h.2 with ⟨h', _⟩ | ⟨g', cap', cur, h', hb, hg, hnc, hcm, hcs, htake⟩
  · simp at h'
  · simp only [Value.slice.injEq, Option.some.injEq, Addr.mk.injEq, and_true, true_and] at h'
    obtain ⟨rfl, rfl⟩ := h'
    exact ⟨cur, hg, by simpa using hcs⟩

theorem underRoom : Tryd.prog.underlying 113 = some (.array 7 5) := by kernel_rfl
theorem size5 : (Tryd.prog.info? 5).map (·.size) = some 1 := by kernel_rfl

theorem copy_own (w : World) (B g d sCap : Nat) (a : Addr) (xs cs : List Value) (h : w.ownsRow B 5 1 (.slice (some ⟨g, 0, none⟩) d d) d xs) (hl : cs.length = d)
    (hsrc : ∀ j v, cs[j]? = some v → w.cell? (a.add j) = some v) (h1 : ∀ v ∈ cs, v.oneCell' = true) :
    ∃ W, (Builtin.copy_ #[22, 22] 3 #[.slice (some ⟨g, 0, none⟩) d d, .slice (some a) d sCap]).run Tryd.prog w = .ok (goInt d) W ∧
      W.ownsRow B 5 1 (.slice (some ⟨g, 0, none⟩) d d) d cs ∧ w.grownBy W (some g) := by
  rcases h.2 with ⟨h', _⟩ | ⟨g', cap', cur, h', hb, hg, hnc, hcm, hcs, htake⟩
  · simp at h'
  · simp only [Value.slice.injEq, Option.some.injEq, Addr.mk.injEq, and_true, true_and] at h'
    obtain ⟨rfl, rfl⟩ := h'
    have hr := run_copy_row (P := Tryd.prog) w 22 22 3 5 g 0 d d a d sCap cur 5 cs Tryd.underlying22 size5 hg (by rw [hl]; exact (Nat.min_self d).symm) hsrc (by omega) h1
    have e1 : cur.toList.take 0 ++ cs ++ cur.toList.drop (0 + cs.length) = cs := by
      rw [List.drop_eq_nil_of_le (by simp; omega)]; simp
    rw [e1, hl] at hr
    exact ⟨_, hr, ⟨by simpa using hl, .inr ⟨g, d, cs.toArray, rfl, hb, setRow_heap w g cur _ 5 _ hg, Nat.le_refl _, hcm, by simpa using hl, by simp [← hl]⟩⟩,
      ⟨rfl, rfl, rfl, by simp [World.setRow], fun k _ hk => setRow_other w g k _ (fun e => hk (by simp [e]))⟩⟩

theorem slice_room (b m : Nat) (hm : m < 7) (W : World) :
    (Instr.sliceAt 113 (.pointer (some ⟨b, 0, none⟩)) (some (.int .i64 (m : Int))) none none).run Tryd.prog W = .ok (.slice (some ⟨b, m, none⟩) (7 - m) (7 - m)) W := by
  have hs : (sizeOf 5).run Tryd.prog W = .ok 1 W := by kernel_rfl
  have h := run_sliceAt_array_l (P := Tryd.prog) W 113 ⟨b, 0, none⟩ (by kernel_rfl) .i64 (m : Int) (by omega) (by show (m : Int) ≤ ((7 : Nat) : Int); omega)
  rw [h]
  show ((sizeOf 5).run Tryd.prog W).andThen (fun s w => .ok (slicedAt ⟨b, 0, none⟩ (m : Int).toNat 7 7 s) w) = _
  rw [hs]
  simp only [Result.andThen, slicedAt, Int.toNat_natCast, Nat.mul_one]
  rw [if_neg (by omega), add_none, Nat.zero_add]

set_option maxHeartbeats 1000000 in
theorem implShort_pos (n : Int) (w : World) (h0 : 0 < n) (h1 : n ≤ 1125899906842624) :
    Calls Tryd.prog 107 #[.int .i64 n] w fun e w' => ∃ a cap, e = .returned (.agg #[.int .i64 0, .slice a (shortF 7 n).length cap]) ∧
      w'.ownsRow w.heap.size 5 1 (.slice a (shortF 7 n).length cap) (shortF 7 n).length ((shortF 7 n).map (Value.int .u8)) ∧ Below w.heap.size w w' := by
  obtain ⟨i0, hi, hz0, hz1, hz2⟩ := info_parts info5
  have hst := Room.start n (by omega) h1
  have HST := hide hst
  clear hst
  go_enter Tryd.func107, Tryd.ntmps107
  go_wp2
  go_loopw [4, 5] (fun f r wr => ∃ (m : Nat) (rest : Int) (room : List Int), f = .int .i64 m ∧ r = .int .i64 rest ∧ wr = roomW w room ∧ Room n m rest room) (fun f _ _ => (intOf f).toNat)
  case atStart => exact ⟨7, n, _, rfl, rfl, rfl, unhide HST⟩
  case round =>
    obtain ⟨m, rest, room, rfl, rfl, rfl, hroom⟩ := hrel
    by_cases hr : 0 < rest
    · obtain ⟨k, rfl, hnext⟩ := hroom.step hr
      have hbd := hroom.bd
      have hk : k < 7 := by have := hroom.1; omega
      have HN := hide hnext
      have hlen := hroom.2.2.2.1
      clear hnext hroom HST
      have hcell := roomW_cell w room k (by omega)
      have hfz := roomW_frozen w room k
      have hset := roomW_set w room k (rest % 256)
      generalize room.getD k 0 = u at hcell
      go_wp2
      go_roundw
      case rel => exact ⟨k, rest / 256, _, rfl, rfl, rfl, unhide HN⟩
      case measure => simp [intOf]
    · obtain rfl : rest = 0 := by have := hroom.2.1; omega
      have HD := hide (hroom.done rfl)
      have hm : m ≤ 7 := hroom.1
      have hlen := hroom.2.2.2.1
      have hsz := roomW_size w room
      clear hroom HST
      have hm7 : m < 7 := by
        have hp := shortF_pos n h0
        rw [unhide HD, List.length_drop] at hp
        omega
      have hdl : (shortF 7 n).length = 7 - m := by rw [unhide HD, List.length_drop]; omega
      have HDL := hide hdl
      have hres := roomW_res0 w room
      have hbel := roomW_below w room
      have hsrc : ∀ j, j < 7 - m → (roomW w room).cell? ⟨w.heap.size + 1, m + j, none⟩ = some (.int .u8 (room.getD (m + j) 0)) := fun j hj => roomW_cell w room (m + j) (by omega)
      have HSRC := hide hsrc
      have HRES := hide hres
      clear hdl hsrc hres
      go_wp2_with (at_make; refine wpList_make_full _ rfl _ _ 22 rfl (w.heap.size + 1) 5 i0 (.int .u8 0) 1 Tryd.underlying22 hi hz0 hz1 _ _ _ _ (7 - m) rfl rfl (by omega) (by omega) ?c1 ?c2 ?c3 ?_)
      case c1 => omega
      case c2 => unfold maxLen; omega
      intro w1 hown hgrow
      have hsrc1 : ∀ j, j < 7 - m → w1.cell? ⟨w.heap.size + 1, m + j, none⟩ = some (.int .u8 (room.getD (m + j) 0)) := fun j hj => hgrow.cell ((unhide HSRC) j hj) (by simp)
      have hbel1 : Below w.heap.size w w1 := hbel.grown hgrow (by rw [hsz]; omega) (fun k e => by cases e)
      have hres1 : w1.heap[w.heap.size]? = some (.cells #[.int .i64 0, .slice none 0 0] 28 (0, 0)) := (hgrow.block _ (by rw [hsz]; omega) (by simp)).trans (unhide HRES)
      have hsl := slice_room (w.heap.size + 1) m hm7
      obtain ⟨w2, hcp, hown2, hgrow2⟩ := copy_own w1 (w.heap.size + 1) (w.heap.size + 2) (7 - m) (7 - m) ⟨w.heap.size + 1, m, none⟩ _ ((room.drop m).map (Value.int .u8)) hown (by simp; omega)
        (fun j v hj => by
          have hjl : j < 7 - m := by
            have := (List.getElem?_eq_some_iff.1 hj).1
            simp at this; omega
          rw [add_none, hsrc1 j hjl]
          rw [List.getElem?_map, List.getElem?_drop, List.getElem?_eq_getElem (by omega)] at hj
          rw [getD_at _ _ (by omega)]
          exact hj)
        (fun v hv => by obtain ⟨x, _, rfl⟩ := List.mem_map.1 hv; rfl)
      have hsz1 : w.heap.size + 2 ≤ w1.heap.size := by rw [← hsz]; exact hgrow.size
      have hbel2 : Below w.heap.size w w2 := hbel1.grown hgrow2 (by omega) (fun k e => by cases e; omega)
      have hres2 : w2.heap[w.heap.size]? = some (.cells #[.int .i64 0, .slice none 0 0] 28 (0, 0)) := (hgrow2.block _ (by omega) (by simp)).trans hres1
      have HB := hide hbel2
      have HR := hide hres2
      have HO := hide hown2
      have q0 : w2.cell? ⟨w.heap.size, 0, none⟩ = some (.int .i64 0) := by simp [World.cell?, hres2]
      have q1 : w2.cell? ⟨w.heap.size, 1, none⟩ = some (.slice none 0 0) := by simp [World.cell?, hres2]
      have f0 : w2.frozen? ⟨w.heap.size, 0, none⟩ = false := frozen_of_row w2 _ 0 _ 28 hres2
      have f1 : w2.frozen? ⟨w.heap.size, 1, none⟩ = false := frozen_of_row w2 _ 1 _ 28 hres2
      clear hown hgrow hsrc1 hbel1 hres1 hbel hown2 hgrow2 hbel2 hres2 HSRC HRES
      go_wp2_with fail
      refine bodyPost_ret (v := .agg #[.int .i64 0, .slice (some ⟨w.heap.size + 2, 0, none⟩) (7 - m) (7 - m)]) (by simp [results, Tryd.results107, go_sem, q0, q1]) rfl ⟨some ⟨w.heap.size + 2, 0, none⟩, 7 - m, ?_, ?_, ?_⟩
      · rw [unhide HDL]
      · rw [unhide HDL, unhide HD]
        exact ownsRow_base (ownsRow_setCell_below (ownsRow_setCell_below (unhide HO) (by simp) _) (by simp) _) (by omega)
      · exact ((unhide HB).setCell (by simp) _).setCell (by simp) _

theorem slice_room7 (b : Nat) (W : World) :
    (Instr.sliceAt 113 (.pointer (some ⟨b, 0, none⟩)) (some (.int .i64 7)) none none).run Tryd.prog W = .ok (.slice (some ⟨b, 0, none⟩) 0 0) W := by
  have hs : (sizeOf 5).run Tryd.prog W = .ok 1 W := by kernel_rfl
  have h := run_sliceAt_array_l (P := Tryd.prog) W 113 ⟨b, 0, none⟩ (by kernel_rfl) .i64 7 (by omega) (by show (7 : Int) ≤ ((7 : Nat) : Int); omega)
  rw [h]
  show ((sizeOf 5).run Tryd.prog W).andThen (fun s w => .ok (slicedAt ⟨b, 0, none⟩ 7 7 7 s) w) = _
  rw [hs]
  rfl

set_option maxHeartbeats 1000000 in
theorem implShort_zero (w : World) :
    Calls Tryd.prog 107 #[.int .i64 0] w fun e w' => ∃ a cap, e = .returned (.agg #[.int .i64 0, .slice a 0 cap]) ∧
      w'.ownsRow w.heap.size 5 1 (.slice a 0 cap) 0 [] ∧ Below w.heap.size w w' := by
  obtain ⟨i0, hi, hz0, hz1, hz2⟩ := info_parts info5
  have hsl := slice_room7 (w.heap.size + 1)
  have hcp := fun (W : World) (d a : Option Addr) => run_copy_none (P := Tryd.prog) W 22 22 3 5 d a 0 0 0 0 Tryd.underlying22 size5 rfl
  have hres := roomW_res0 w [0, 0, 0, 0, 0, 0, 0]
  have hbel := roomW_below w [0, 0, 0, 0, 0, 0, 0]
  have hsz := roomW_size w [0, 0, 0, 0, 0, 0, 0]
  have hroom : roomW w [0, 0, 0, 0, 0, 0, 0] = (w.alloc (.cells #[.int .i64 0, .slice none 0 0] 28)).alloc (.cells #[.int .u8 0, .int .u8 0, .int .u8 0, .int .u8 0, .int .u8 0, .int .u8 0, .int .u8 0] 113) := rfl
  rw [hroom] at hres hbel hsz
  have HRES := hide hres
  have HBEL := hide hbel
  have HSZ := hide hsz
  clear hres hbel hsz hroom
  go_enter Tryd.func107, Tryd.ntmps107
  go_wp2
  refine wp_loop_rounds 1 ?_
  rw [rounds_succ]
  go_wp2_with (at_make; refine wpList_make_full _ rfl _ _ 22 rfl (w.heap.size + 1) 5 i0 (.int .u8 0) 1 Tryd.underlying22 hi hz0 hz1 _ _ _ _ 0 rfl rfl rfl rfl ?c1 ?c2 ?c3 ?_)
  case c1 => omega
  case c2 => unfold maxLen; omega
  case c3 => simp
  intro w1 hown hgrow
  have hres1 : w1.heap[w.heap.size]? = some (.cells #[.int .i64 0, .slice none 0 0] 28 (0, 0)) := (hgrow.block _ (by rw [unhide HSZ]; omega) (by simp)).trans (unhide HRES)
  have hbel1 : Below w.heap.size w w1 := (unhide HBEL).grown hgrow (by rw [unhide HSZ]; omega) (fun k e => by cases e)
  have q0 : w1.cell? ⟨w.heap.size, 0, none⟩ = some (.int .i64 0) := by simp [World.cell?, hres1]
  have q1 : w1.cell? ⟨w.heap.size, 1, none⟩ = some (.slice none 0 0) := by simp [World.cell?, hres1]
  have f0 : w1.frozen? ⟨w.heap.size, 0, none⟩ = false := frozen_of_row w1 _ 0 _ 28 hres1
  have f1 : w1.frozen? ⟨w.heap.size, 1, none⟩ = false := frozen_of_row w1 _ 1 _ 28 hres1
  have HB := hide hbel1
  have HO := hide hown
  clear hown hgrow hbel1 hres1
  go_wp2_with fail
  refine bodyPost_ret (v := .agg #[.int .i64 0, .slice (some ⟨w.heap.size + 2, 0, none⟩) 0 0]) (by simp [results, Tryd.results107, go_sem, q0, q1]) rfl ⟨some ⟨w.heap.size + 2, 0, none⟩, 0, rfl, ?_, ?_⟩
  · have ho := unhide HO
    simp [toList_madeCells_one] at ho
    exact ownsRow_base (ownsRow_setCell_below (ownsRow_setCell_below ho (by simp) _) (by simp) _) (by omega)
  · exact ((unhide HB).setCell (by simp) _).setCell (by simp) _

/-- The code of a number's short bytes, and the bytes. -/
def sbCode (n : Int) : Int := if 0 ≤ n ∧ n ≤ 1125899906842624 then 0 else 3
def sbBytes (n : Int) : List Int := if 0 ≤ n ∧ n ≤ 1125899906842624 then shortF 7 n else []

theorem sbBytes_range (n : Int) : ∀ x ∈ sbBytes n, 0 ≤ x ∧ x ≤ 255 := by
  unfold sbBytes
  split
  · exact shortF_range 7 n
  · intro x hx; simp at hx

theorem sbBytes_length (n : Int) : (sbBytes n).length ≤ 7 := by
  unfold sbBytes
  split
  · exact shortF_length 7 n
  · simp

set_option maxHeartbeats 1000000 in
theorem implShort_out (n : Int) (w : World) (h : n < 0 ∨ 1125899906842624 < n) :
    Calls Tryd.prog 107 #[.int .i64 n] w fun e w' => e = .returned (.agg #[.int .i64 3, .slice none 0 0]) ∧ Below w.heap.size w w' := by
  rcases h with h | h
  · have h' : decide (n < 0) = true := decide_eq_true h
    go_enter Tryd.func107, Tryd.ntmps107
    go_wp2
    exact bodyPost_ret (v := .agg #[.int .i64 3, .slice none 0 0]) (by simp [results, Tryd.results107, go_sem]) rfl ⟨rfl, (Below.refl _ _).alloc (Nat.le_refl _) _⟩
  · have h' : decide (n < 0) = false := decide_eq_false (by omega)
    have h2 : decide (1125899906842624 < n) = true := decide_eq_true h
    go_enter Tryd.func107, Tryd.ntmps107
    go_wp2
    exact bodyPost_ret (v := .agg #[.int .i64 3, .slice none 0 0]) (by simp [results, Tryd.results107, go_sem]) rfl ⟨rfl, (Below.refl _ _).alloc (Nat.le_refl _) _⟩

theorem implShort_any (n : Int) (w : World) :
    Calls Tryd.prog 107 #[.int .i64 n] w fun e w' => ∃ a cap, e = .returned (.agg #[.int .i64 (sbCode n), .slice a (sbBytes n).length cap]) ∧
      w'.ownsRow w.heap.size 5 1 (.slice a (sbBytes n).length cap) (sbBytes n).length ((sbBytes n).map (Value.int .u8)) ∧ Below w.heap.size w w' := by
  by_cases hr : 0 ≤ n ∧ n ≤ 1125899906842624
  · have e1 : sbCode n = 0 := if_pos hr
    have e2 : sbBytes n = shortF 7 n := if_pos hr
    rw [e1, e2]
    by_cases h0 : 0 < n
    · exact implShort_pos n w h0 hr.2
    · obtain rfl : n = 0 := by omega
      rw [shortF_zero]
      exact implShort_zero w
  · have e1 : sbCode n = 3 := if_neg hr
    have e2 : sbBytes n = [] := if_neg hr
    rw [e1, e2]
    refine (implShort_out n w (by omega)).mono fun e w' hq => ?_
    exact ⟨none, 0, hq.1, World.ownsRow_nil _ _ _ _, hq.2⟩

end Go.Proofs.YtbncoiljklagkaaDoor

/- What is proved here: what the fields of a BytesResult that lies as one value are. -/
namespace Go.Proofs.YtbncoiljklagkaaDoor
open Go.RowKit
set_option linter.unusedVariables false

theorem fldB0 (x y : Value) (w : World) : (Instr.field 28 (.agg #[x, y]) 0).run Tryd.prog w = .ok x w := by kernel_rfl
theorem fldB1 (x y : Value) (w : World) : (Instr.field 28 (.agg #[x, y]) 1).run Tryd.prog w = .ok y w := by kernel_rfl

end Go.Proofs.YtbncoiljklagkaaDoor

/- What is proved here: what the program's shortOf and addList answer. -/
namespace Go.Proofs.YtbncoiljklagkaaDoor
open Go.RowKit
set_option linter.unusedVariables false

theorem shortOf_any (n : Int) (w : World) (h0 : 0 ≤ n) (h1 : n ≤ 1099511627776) :
    Calls Tryd.prog 94 #[.int .i64 n] w fun e w' => ∃ a c, e = .returned (.slice a (shortF 7 n).length c) ∧ w'.ownsRow w.heap.size 5 1 (.slice a (shortF 7 n).length c) (shortF 7 n).length ((shortF 7 n).map (Value.int .u8)) ∧ Below w.heap.size w w' := by
  have HS := hide (implShort_any n w)
  have e : sbBytes n = shortF 7 n := by unfold sbBytes; rw [if_pos ⟨h0, by omega⟩]
  rw [e] at HS
  have hf := fldB1
  clear e
  generalize shortF 7 n = L at HS
  generalize sbCode n = q at HS
  go_enter Tryd.func94, Tryd.ntmps94
  go_wp2_with fail
  refine (unhide HS).mono ?_
  rintro e w' ⟨a, c, rfl, o1, b1⟩
  have HO := hide o1
  have HB := hide b1
  clear o1 b1
  go_wp2_with fail
  go_ret
  exact ⟨a, c, rfl, unhide HO, unhide HB⟩

theorem Src.nil (w0 : World) (B : Nat) (W : World) : Src w0 B W (.slice none 0 0) [] := .inl ⟨none, 0, 0, rfl, ⟨rfl, fun n hn => by simp at hn, fun _ => rfl, fun x hx => by cases hx⟩, fun _ => rfl⟩

set_option maxHeartbeats 4000000 in
theorem addList_any (w0 : World) (B : Nat) (hw0 : w0.heap.size ≤ B) (a : Option Addr) (n c : Nat) (its : List It) (W : World) (hm : HkR w0 B W (.slice a n c) n its) (pa : Option Addr) (pn pc : Nat) (zss : List (List Int)) (hr : PRow w0 B W pa pn zss) (hB : B ≤ W.heap.size) (hn : n + 1 + pn ≤ 300) :
    Calls Tryd.prog 96 #[.slice a n c, .slice pa pn pc] W fun e w' => ∃ a' c', e = .returned (.slice a' (n + 1 + pn) c') ∧ HkR w0 B w' (.slice a' (n + 1 + pn) c') (n + 1 + pn) (its ++ [ls 0] ++ zss.map (lf (n : Int))) ∧ Kept W w' (.slice a n c) (.slice a' (n + 1 + pn) c') ∧ B ≤ w'.heap.size := by
  obtain ⟨i0, hi, hz0, hz1, hz2⟩ := info_parts infoIt
  have ba := below_alloc W (Obj.cells #[.bool true, .int .i64 0, .slice none 0 0] 91)
  obtain ⟨h1, h2, hb0, vs, h3, h4, h5⟩ := hm.below ba (Nat.le_refl _) hB
  have hra := hr.below ba (Nat.le_refl _)
  have hka := (Kept.refl W (.slice a n c)).below ba
  have zz : (W.alloc (Obj.cells #[.bool true, .int .i64 0, .slice none 0 0] 91)).heap.size = W.heap.size + 1 := by simp
  have H1 := hide h1
  have H2 := hide h2
  have H3 := hide h3
  have H5 := hide h5
  have HB0 := hide hb0
  have HRA := hide hra
  have HKA := hide hka
  have HPR := hide hr.1
  clear hm hr h1 h2 h3 h5 hb0 hra hka ba
  go_enter Tryd.func96, Tryd.ntmps96
  go_wp2_with (at_builtin; refine wpList_append_own_at _ rfl _ _ 75 rfl B 91 i0 (.agg #[.bool false, .int .i64 0, .slice none 0 0]) 3 40 Tryd.underlying75 hi hz0 hz1 hz2 rfl (by decide) _ _ _ rfl h4 ⟨W.heap.size, 0, none⟩ 1 1 [.bool true, .int .i64 0, .slice none 0 0] rfl rfl ?c1 ?c2 ?c3 ?c4 ?c5 ?_)
  case c1 => exact three_at _ _ _ _ _
  case c2 => intro u hu; simp at hu; rcases hu with rfl | rfl | rfl <;> rfl
  case c3 => unfold maxLen; omega
  case c4 => omega
  case c5 => omega
  intro v' w6 hown2 hgrow _ hblk
  obtain ⟨a6, c6, hv6⟩ := own_shape hown2
  subst hv6
  have M6 : HkR w0 B w6 (.slice a6 (n + 1) c6) (n + 1) (its ++ [ls 0]) := HkR.snoc (unhide H1) (unhide H2) (unhide HB0) (unhide H3) h4 (unhide H5) (by omega) (Src.nil w0 B _) ⟨by show (-9223372036854775808 : Int) ≤ 0; omega, by show (0 : Int) ≤ 9223372036854775807; omega, Nat.zero_le _⟩ hown2 hgrow
  have R6 := (unhide HRA).grown h4 hgrow
  have K6 := (unhide HKA).app hgrow (v2 := .slice a6 (n + 1) c6) (by rw [zz]; exact hblk)
  have z6 := hgrow.size
  rw [zz] at z6
  have HC := hide (addParts_any w0 B hw0 a6 (n + 1) c6 (its ++ [ls 0]) w6 M6 (n : Int) ⟨by omega, by omega⟩ pa pn pc zss R6 (by omega) (by omega))
  have HK6 := hide K6
  clear M6 R6 K6 hown2 hgrow hblk h4 H1 H2 H3 H5 HB0 HRA HKA zz z6
  go_wp2_with fail
  refine (unhide HC).mono ?_
  rintro e w7 ⟨a7, c7, rfl, m7, k7, z7⟩
  have HM7 := hide m7
  have HK7 := hide ((unhide HK6).trans k7)
  clear m7 k7
  go_wp2_with fail
  go_ret
  exact ⟨a7, c7, rfl, unhide HM7, unhide HK7, z7⟩

end Go.Proofs.YtbncoiljklagkaaDoor

/- What is proved here: plain facts on rows that a call owns; no program is named. -/
namespace Go.Proofs.YtbncoiljklagkaaDoor
open Go.RowKit
set_option linter.unusedVariables false

/-- What lies in a row that is owned is there behind a new block too. -/
theorem own_src {w : World} {B g n cap : Nat} {e : TypeId} {xs : List Value} (h : w.ownsRow B e 1 (.slice (some ⟨g, 0, none⟩) n cap) n xs) (o : Obj) (j : Nat) (u : Value) (hj : xs[j]? = some u) :
    (w.alloc o).cell? ((⟨g, 0, none⟩ : Addr).add j) = some u := by
  have hl := (List.getElem?_eq_some_iff.1 hj).1
  rw [h.1] at hl
  rw [add_none, Nat.zero_add, (own_below h (below_alloc w o) (Nat.le_refl _)).cellAt j hl, hj]

end Go.Proofs.YtbncoiljklagkaaDoor

/- What is proved here: what the model's l1Short answers: the bytes of a number, in new memory. -/
namespace Go.Proofs.YtbncoiljklagkaaDoor
open Go.RowKit
set_option linter.unusedVariables false

set_option maxHeartbeats 1000000 in
theorem l1Short_zero (w : World) : Calls Tryd.prog 82 #[.int .i64 0] w fun e w' => ∃ a cap, e = .returned (.slice a 0 cap) ∧
      w'.ownsRow w.heap.size 5 1 (.slice a 0 cap) 0 [] ∧ Below w.heap.size w w' := by
  go_enter Tryd.func82, Tryd.ntmps82
  go_wp2_with fail
  go_ret
  refine ⟨some ⟨w.heap.size, 0, none⟩, 0, rfl, ?_, (Below.refl _ _).alloc (Nat.le_refl _) _⟩
  exact World.ownsRow_lit w #[] 0 (Nat.le_refl _) (by unfold maxLen; omega) rfl

set_option maxHeartbeats 1000000 in
theorem l1Short_any (k : Nat) : ∀ (n : Int) (w : World), 0 ≤ n → n < 256 ^ k → n < 72057594037927936 → k ≤ 7 →
    Calls Tryd.prog 82 #[.int .i64 n] w fun e w' => ∃ a cap, e = .returned (.slice a (shortF k n).length cap) ∧
      w'.ownsRow w.heap.size 5 1 (.slice a (shortF k n).length cap) (shortF k n).length ((shortF k n).map (Value.int .u8)) ∧ Below w.heap.size w w' := by
  induction k with
  | zero =>
    intro n w h0 h1 _ _
    obtain rfl : n = 0 := by simp at h1; omega
    rw [shortF_zero]
    exact l1Short_zero w
  | succ k ih =>
    intro n w h0 h1 h2 hk
    by_cases hn : n = 0
    · subst hn
      rw [shortF_zero]
      exact l1Short_zero w
    · obtain ⟨i0, hi, hz0, hz1, hz2⟩ := info_parts info5
      obtain ⟨k', hk', hd⟩ := pow_step n (k + 1) (by omega) h1
      obtain rfl : k = k' := by omega
      have IH := ih (n / 256) w (by omega) hd (by omega) (by omega)
      have HI := hide IH
      have HS := hide (shortF_succ k n (by omega))
      have hL := shortF_length k (n / 256)
      have hne : (n == 0) = false := by rw [beq_eq_false_iff_ne]; exact hn
      clear IH ih hk' hd h1
      generalize shortF k (n / 256) = L at HI HS hL
      go_enter Tryd.func82, Tryd.ntmps82
      go_wp2_with fail
      refine (unhide HI).mono ?_
      rintro e w1 ⟨a, cap, rfl, hown, hbel⟩
      go_wp2_with (at_builtin; refine wpList_append_own _ rfl _ _ 22 rfl w.heap.size 5 i0 (.int .u8 0) 1 1 Tryd.underlying22 hi hz0 hz1 hz2 rfl (by decide) _ _ _ rfl (hown.alloc _) ⟨w1.heap.size, 0, none⟩ 1 1 [.int .u8 (n % 256)] rfl rfl ?c1 ?c2 ?c3 ?c4 ?c5 ?_)
      case c1 => exact cell_one_new _ _ _
      case c2 => intro u hu; simp at hu; subst hu; rfl
      case c3 => unfold maxLen; omega
      case c4 => omega
      case c5 => have := hbel.size; simp; omega
      intro v' w2 hown2 hgrow _
      obtain ⟨a2, cap2, hv⟩ := own_shape hown2
      have hb2 : Below w.heap.size w w2 := (hbel.alloc hbel.size _).grown hgrow (by have := hbel.size; simp; omega) (fun g e => (hown.lt g e).1)
      rw [hv] at hown2
      rw [hv]
      have HO := hide hown2
      have HB := hide hb2
      clear hown2 hb2 hgrow hown hbel
      go_wp2_with fail
      go_ret
      refine ⟨a2, cap2, ?_, ?_, unhide HB⟩
      · rw [unhide HS]; simp
      · rw [unhide HS]; simpa using unhide HO

end Go.Proofs.YtbncoiljklagkaaDoor

/- What is proved here: what the model's l3Head answers: the head of an item, in new memory. -/
namespace Go.Proofs.YtbncoiljklagkaaDoor
open Go.RowKit
set_option linter.unusedVariables false

set_option maxHeartbeats 1000000 in
theorem l3Head_small (l : Bool) (n : Int) (w : World) (h0 : 0 ≤ n) (h1 : n ≤ 55) :
    Calls Tryd.prog 101 #[.bool l, .int .i64 n] w fun e w' => ∃ a cap, e = .returned (.slice a (headL l n).length cap) ∧
      w'.ownsRow w.heap.size 5 1 (.slice a (headL l n).length cap) (headL l n).length ((headL l n).map (Value.int .u8)) ∧ Below w.heap.size w w' := by
  have e : headL l n = [headB l + n] := if_pos h1
  rw [e]
  have hd : decide (n ≤ 55) = true := decide_eq_true h1
  cases l
  all_goals
    go_enter Tryd.func101, Tryd.ntmps101
    go_wp2_with fail
    go_ret
    refine ⟨some ⟨w.heap.size, 0, none⟩, 1, rfl, ?_, (Below.refl _ _).alloc (Nat.le_refl _) _⟩
    exact World.ownsRow_lit w #[.int .u8 _] 1 (Nat.le_refl _) (by unfold maxLen; omega) rfl

set_option maxHeartbeats 1000000 in
theorem l3Head_long (l : Bool) (n : Int) (w : World) (h0 : 55 < n) (h1 : n < 16777216) :
    Calls Tryd.prog 101 #[.bool l, .int .i64 n] w fun e w' => ∃ a cap, e = .returned (.slice a (headL l n).length cap) ∧
      w'.ownsRow w.heap.size 5 1 (.slice a (headL l n).length cap) (headL l n).length ((headL l n).map (Value.int .u8)) ∧ Below w.heap.size w w' := by
  obtain ⟨i0, hi, hz0, hz1, hz2⟩ := info_parts info5
  have e : headL l n = (headB l + 55 + (shortF 7 n).length) :: shortF 7 n := if_neg (by omega)
  rw [e]
  have hd : decide (n ≤ 55) = false := decide_eq_false (by omega)
  have p : (256 : Int) ^ 7 = 72057594037927936 := by decide
  have HH := hide (l1Short_any 7 n w (by omega) (by rw [p]; omega) (by omega) (Nat.le_refl _))
  have hs3 := shortF_small n (by omega) h1
  have hs0 := shortF_pos n (by omega)
  have hrg := hide (shortF_range 7 n)
  clear e p
  generalize shortF 7 n = L at HH hs3 hs0 hrg
  cases l
  all_goals
    go_enter Tryd.func101, Tryd.ntmps101
    go_wp2_with fail
    refine (unhide HH).mono ?_
    rintro e w1 ⟨a, cap, rfl, hown, hbel⟩
    obtain ⟨g, cap', hv⟩ := own_some hown hs0
    simp only [Value.slice.injEq] at hv
    obtain ⟨rfl, _, rfl⟩ := hv
    have hr := BRow.own hown (unhide hrg)
    go_wp2_with (at_builtin; refine wpList_append_own _ rfl _ _ 22 rfl w.heap.size 5 i0 (.int .u8 0) 1 1 Tryd.underlying22 hi hz0 hz1 hz2 rfl (by decide) _ 1 [.int .u8 _] rfl (World.ownsRow_lit w1 #[.int .u8 _] 1 hbel.size (by unfold maxLen; omega) rfl) ⟨g, 0, none⟩ L.length _ (L.map (Value.int .u8)) rfl (by simp) ?c1 ?c2 ?c3 ?c4 ?c5 ?_)
    case c1 =>
      intro j u hj
      exact own_src hown _ j u hj
    case c2 => intro u hu; obtain ⟨x, _, rfl⟩ := List.mem_map.1 hu; rfl
    case c3 => unfold maxLen; omega
    case c4 => omega
    case c5 => have := hbel.size; simp; omega
    intro v' w2 hown2 hgrow _
    obtain ⟨a2, cap2, hv⟩ := own_shape hown2
    have hb2 : Below w.heap.size w w2 := (hbel.alloc hbel.size _).grown hgrow (by have := hbel.size; simp; omega) (fun g e => by cases e; exact hbel.size)
    rw [hv] at hown2
    rw [hv]
    have HO := hide hown2
    have HB := hide hb2
    clear hown2 hb2 hgrow hown hbel hr
    go_wp2_with fail
    go_ret
    refine ⟨a2, cap2, ?_, ?_, unhide HB⟩
    · rw [Nat.add_comm]; rfl
    · have := unhide HO
      rw [Nat.add_comm] at this
      simpa [headB] using this

theorem l3Head_any (l : Bool) (n : Int) (w : World) (h0 : 0 ≤ n) (h1 : n < 16777216) :
    Calls Tryd.prog 101 #[.bool l, .int .i64 n] w fun e w' => ∃ a cap, e = .returned (.slice a (headL l n).length cap) ∧
      w'.ownsRow w.heap.size 5 1 (.slice a (headL l n).length cap) (headL l n).length ((headL l n).map (Value.int .u8)) ∧ Below w.heap.size w w' := by
  by_cases h : n ≤ 55
  · exact l3Head_small l n w h0 h
  · exact l3Head_long l n w (by omega) h1

end Go.Proofs.YtbncoiljklagkaaDoor

/- What is proved here: the model's copy of bytes gives the same bytes in new memory. -/
namespace Go.Proofs.YtbncoiljklagkaaDoor
open Go.RowKit
set_option linter.unusedVariables false

set_option maxHeartbeats 1000000 in
theorem copy_any (a : Option Addr) (n cap : Nat) (zs : List Int) (w : World) (h : BRow w a n zs) (hcap : a = none → cap = 0) (hn : n ≤ 1048576) :
    Calls Tryd.prog 68 #[.slice a n cap] w fun e w' => ∃ (a' : Option Addr) (cap' : Nat), e = .returned (.slice a' n cap') ∧ w'.ownsRow w.heap.size 5 1 (.slice a' n cap') n (zs.map (Value.int .u8)) ∧ Below w.heap.size w w' := by
  obtain ⟨i0, hi, hz0, hz1, hz2⟩ := info_parts info5
  have hown0 : (w.alloc (.cells #[] 5)).ownsRow w.heap.size 5 1 (.slice (some ⟨w.heap.size, 0, none⟩) 0 0) 0 [] := World.ownsRow_lit w #[] 0 (Nat.le_refl _) (by unfold maxLen; omega) rfl
  have hb := below_alloc w (.cells #[] 5)
  have hr := h.below hb (Nat.le_refl _)
  cases a with
  | none =>
    obtain rfl : n = 0 := h.2.2.1 rfl
    obtain rfl : zs = [] := List.length_eq_zero_iff.1 h.1
    obtain rfl : cap = 0 := hcap rfl
    have HB := hide hb
    clear h hr hb
    go_enter Tryd.func68, Tryd.ntmps68
    go_wp2_with (at_builtin; refine wpList_append_own_none rfl _ _ 22 rfl w.heap.size 5 i0 1 Tryd.underlying22 hi _ _ _ rfl hown0 rfl ?_)
    go_ret
    exact ⟨_, _, rfl, hown0, unhide HB⟩
  | some x =>
    have HR := hide hr
    have hzl := h.1
    clear h hr
    go_enter Tryd.func68, Tryd.ntmps68
    go_wp2_with (at_builtin; refine wpList_append_own _ rfl _ _ 22 rfl w.heap.size 5 i0 (.int .u8 0) 1 1 Tryd.underlying22 hi hz0 hz1 hz2 rfl (by decide) _ _ _ rfl hown0 x n cap (zs.map (Value.int .u8)) rfl ?c0 ?c1 ?c2 ?c3 ?c4 ?c5 ?_)
    case c0 => simp [hzl]
    case c1 =>
      intro j u hj
      have hjl : j < zs.length := by have := (List.getElem?_eq_some_iff.1 hj).1; simpa using this
      rw [(unhide HR).2.2.2 x rfl j (by omega)]
      rw [List.getElem?_map, List.getElem?_eq_getElem hjl] at hj
      rw [getD_at _ _ hjl]
      exact hj
    case c2 => intro u hu; obtain ⟨z, _, rfl⟩ := List.mem_map.1 hu; rfl
    case c3 => unfold maxLen; omega
    case c4 => omega
    case c5 => simp
    intro v' w2 hown2 hgrow _
    obtain ⟨a2, cap2, hvv⟩ := own_shape hown2
    have hb2 : Below w.heap.size w w2 := hb.grown hgrow (by simp) (fun g e => by simp [Value.ownBlock] at e; omega)
    rw [hvv] at hown2
    rw [hvv]
    have HO := hide hown2
    have HB := hide hb2
    clear hown2 hb2 hgrow hvv hown0 hb
    go_wp2_with fail
    go_ret
    refine ⟨a2, cap2, ?_, ?_, unhide HB⟩
    · simp
    · simpa using unhide HO

end Go.Proofs.YtbncoiljklagkaaDoor

/- What is proved here: bytes appended to a row that the call owns, whatever slice they come from, told in one law for the walk; it holds for every program. -/
namespace Go.Proofs.YtbncoiljklagkaaDoor
open Go.RowKit
set_option linter.unusedVariables false

theorem wpList_append_brow {P : Program} (w : World) {ops : Array Oper} {rest : List Oper} {o : Oper} {a : Act} {Q : Exit → Act → World → Prop} (hgd : o.guard = none) (s x : Operand) (t : TypeId)
    (ho : o.op = .call { callee := .builtin .append, args := #[s, x], argTypes := #[t, t] }) (base : Nat) (i : TypeInfo) (ht : P.underlying t = some (.slice 5)) (hi : P.info? 5 = some i) (hz : i.zero = some (.int .u8 0)) (hsize : i.size = 1) (hby : i.bytes = 1)
    (v : Value) (n : Nat) (xs : List Int) (hs : a.eval s = v) (hown : w.ownsRow base 5 1 v n (xs.map (Value.int .u8))) (ad : Option Addr) (m c : Nat) (zs : List Int) (hx : a.eval x = .slice ad m c) (hr : BRow w ad m zs) (hc : ad = none → c = 0)
    (h63 : n + m ≤ 1099511627776) (hbase : base ≤ w.heap.size)
    (h : ∀ a' c' w', w'.ownsRow base 5 1 (.slice a' (n + m) c') (n + m) ((xs ++ zs).map (Value.int .u8)) → w.grownBy w' v.ownBlock → wpList P ops Q rest (a.put o.dst (.slice a' (n + m) c')) w') : wpList P ops Q (o :: rest) a w := by
  cases ad with
  | none =>
    obtain rfl : m = 0 := hr.2.2.1 rfl
    obtain rfl : zs = [] := List.length_eq_zero_iff.1 hr.1
    obtain rfl : c = 0 := hc rfl
    refine wpList_append_own_none hgd s x t ho base 5 i 1 ht hi v n _ hs hown hx ?_
    obtain ⟨a', c', hv⟩ := own_shape hown
    have := h a' c' w (by rw [Nat.add_zero, List.append_nil, ← hv]; exact hown) (grownBy_refl w _)
    rw [Nat.add_zero, ← hv] at this
    exact this
  | some ad =>
    refine wpList_append_own w hgd s x t ho base 5 i (.int .u8 0) 1 1 ht hi hz hsize hby rfl (by decide) v n _ hs hown ad m c (zs.map (Value.int .u8)) hx (by simp [hr.1]) ?_ ?_ ?_ ?_ hbase ?_
    · intro j u hj
      have hjl : j < zs.length := by have := (List.getElem?_eq_some_iff.1 hj).1; simpa using this
      rw [hr.2.2.2 ad rfl j (by rw [← hr.1]; exact hjl)]
      rw [List.getElem?_map, List.getElem?_eq_getElem hjl] at hj
      rw [getD_at _ _ hjl]
      exact hj
    · intro u hu; obtain ⟨z, _, rfl⟩ := List.mem_map.1 hu; rfl
    · unfold maxLen; omega
    · omega
    · intro v' w' hown' hg _
      obtain ⟨a', c', hv⟩ := own_shape hown'
      rw [hv] at hown' ⊢
      exact h a' c' w' (by rw [List.map_append]; exact hown') hg

/-- What is owned is no bare nil of some room. -/
theorem own_cap {w : World} {B n cap : Nat} {a : Option Addr} {e : TypeId} {xs : List Value} {size : Nat} (h : w.ownsRow B e size (.slice a n cap) n xs) : a = none → cap = 0 := by
  intro ha
  rcases h.2 with ⟨h', _⟩ | ⟨g, cap', cur, h', _⟩
  · simp only [Value.slice.injEq] at h'; exact h'.2.2
  · simp only [Value.slice.injEq] at h'; rw [ha] at h'; simp at h'

end Go.Proofs.YtbncoiljklagkaaDoor

/- What is proved here: what the model's l3Piece and l3Wrap answer: bytes as an item, and what is in a list as an item, in new memory. -/
namespace Go.Proofs.YtbncoiljklagkaaDoor
open Go.RowKit
set_option linter.unusedVariables false

/-- The head of bytes. -/
def pieceHd (z : List Int) : List Int := if z.length = 1 ∧ z.getD 0 0 < 128 then [] else headL false z.length

set_option maxHeartbeats 1000000 in
theorem l3Wrap_any (a : Option Addr) (n cap : Nat) (z : List Int) (w : World) (h : BRow w a n z) (hc : a = none → cap = 0) (hn : n ≤ 1048576) :
    Calls Tryd.prog 84 #[.slice a n cap] w fun e w' => ∃ a' cap', e = .returned (.slice a' (headL true n ++ z).length cap') ∧
      w'.ownsRow w.heap.size 5 1 (.slice a' (headL true n ++ z).length cap') (headL true n ++ z).length ((headL true n ++ z).map (Value.int .u8)) ∧ Below w.heap.size w w' := by
  obtain ⟨i0, hi, hz0, hz1, hz2⟩ := info_parts info5
  have HH := hide (l3Head_any true n w (by omega) (by omega))
  have hhl := headL_length true n
  have hzl := h.1
  have HR := hide (fun (W : World) (hb : Below w.heap.size w W) => h.below hb (Nat.le_refl _))
  generalize headL true n = L at HH hhl
  have HL : Hid ((L ++ z).length = L.length + n) := by show _ = _; rw [List.length_append, hzl]
  clear h hzl
  go_enter Tryd.func84, Tryd.ntmps84
  go_wp2_with fail
  refine (unhide HH).mono ?_
  rintro e w1 ⟨a1, c1, rfl, o1, b1⟩
  have hr := (unhide HR) w1 b1
  go_wp2_with (at_builtin; refine wpList_append_brow _ rfl _ _ 22 rfl w.heap.size i0 Tryd.underlying22 hi hz0 hz1 hz2 _ L.length L rfl o1 a n cap z rfl hr hc (by omega) b1.size ?_)
  intro a2 c2 w2 o2 g2
  have hb2 : Below w.heap.size w w2 := b1.grown g2 b1.size (fun g e => (o1.lt g e).1)
  have HO := hide o2
  have HB := hide hb2
  clear o2 hb2 g2 o1 b1 hr
  go_wp2_with fail
  go_ret
  refine ⟨a2, c2, ?_, ?_, unhide HB⟩
  · rw [unhide HL]; rfl
  · rw [unhide HL, List.map_append]; exact unhide HO

set_option maxHeartbeats 1000000 in
theorem l3Piece_any (a : Option Addr) (n cap : Nat) (z : List Int) (w : World) (h : BRow w a n z) (hc : a = none → cap = 0) (hn : n ≤ 1048576) :
    Calls Tryd.prog 81 #[.slice a n cap] w fun e w' => ∃ a' cap', e = .returned (.slice a' (pieceHd z ++ z).length cap') ∧
      w'.ownsRow w.heap.size 5 1 (.slice a' (pieceHd z ++ z).length cap') (pieceHd z ++ z).length ((pieceHd z ++ z).map (Value.int .u8)) ∧ Below w.heap.size w w' := by
  obtain ⟨i0, hi, hz0, hz1, hz2⟩ := info_parts info5
  have hzl := h.1
  by_cases t : n = 1 ∧ z.getD 0 0 < 128
  · obtain ⟨rfl, h128⟩ := t
    have e : pieceHd z = [] := if_pos ⟨hzl, h128⟩
    rw [e, List.nil_append]
    have HC := hide (copy_any a 1 cap z w h hc (by omega))
    obtain ⟨b, off, rfl, _, hcell⟩ := h.at (by omega)
    have c0 := hcell 0 (by omega)
    rw [Nat.add_zero] at c0
    generalize z.getD 0 0 = x at c0 h128
    have d1 : decide (x < 128) = true := decide_eq_true h128
    rw [hzl]
    clear h hc e hcell
    go_enter Tryd.func81, Tryd.ntmps81
    go_wp2_with fail
    refine (unhide HC).mono ?_
    rintro e w1 ⟨a1, c1, rfl, o1, b1⟩
    go_wp2_with fail
    go_ret
    exact ⟨a1, c1, rfl, o1, b1⟩
  · have e : pieceHd z = headL false n := by unfold pieceHd; rw [if_neg (by rw [hzl]; exact t), hzl]
    rw [e]
    have HH := hide (l3Head_any false n w (by omega) (by omega))
    have hhl := headL_length false n
    have HR := hide (fun (W : World) (hb : Below w.heap.size w W) => h.below hb (Nat.le_refl _))
    generalize headL false n = L at HH hhl
    have HL : Hid ((L ++ z).length = L.length + n) := by show _ = _; rw [List.length_append, hzl]
    by_cases t1 : n = 1
    · subst t1
      obtain ⟨b, off, rfl, _, hcell⟩ := h.at (by omega)
      have c0 := hcell 0 (by omega)
      rw [Nat.add_zero] at c0
      have h128 : ¬ z.getD 0 0 < 128 := fun hh => t ⟨rfl, hh⟩
      generalize z.getD 0 0 = x at c0 h128
      have d1 : decide (x < 128) = false := decide_eq_false h128
      clear h e hcell t hzl
      go_enter Tryd.func81, Tryd.ntmps81
      go_wp2_with fail
      refine (unhide HH).mono ?_
      rintro e w1 ⟨a1, c1, rfl, o1, b1⟩
      have hr := (unhide HR) w1 b1
      go_wp2_with (at_builtin; refine wpList_append_brow _ rfl _ _ 22 rfl w.heap.size i0 Tryd.underlying22 hi hz0 hz1 hz2 _ L.length L rfl o1 _ 1 cap z rfl hr hc (by omega) b1.size ?_)
      intro a2 c2 w2 o2 g2
      have hb2 : Below w.heap.size w w2 := b1.grown g2 b1.size (fun g e => (o1.lt g e).1)
      have HO := hide o2
      have HB := hide hb2
      clear o2 hb2 g2 o1 b1 hr
      go_wp2_with fail
      go_ret
      refine ⟨a2, c2, ?_, ?_, unhide HB⟩
      · rw [unhide HL]; rfl
      · rw [unhide HL, List.map_append]; exact unhide HO
    · have d1 : (((n : Nat) : Int) == 1) = false := by simp; omega
      clear h e t hzl
      go_enter Tryd.func81, Tryd.ntmps81
      go_wp2_with fail
      refine (unhide HH).mono ?_
      rintro e w1 ⟨a1, c1, rfl, o1, b1⟩
      have hr := (unhide HR) w1 b1
      go_wp2_with (at_builtin; refine wpList_append_brow _ rfl _ _ 22 rfl w.heap.size i0 Tryd.underlying22 hi hz0 hz1 hz2 _ L.length L rfl o1 a n cap z rfl hr hc (by omega) b1.size ?_)
      intro a2 c2 w2 o2 g2
      have hb2 : Below w.heap.size w w2 := b1.grown g2 b1.size (fun g e => (o1.lt g e).1)
      have HO := hide o2
      have HB := hide hb2
      clear o2 hb2 g2 o1 b1 hr
      go_wp2_with fail
      go_ret
      refine ⟨a2, c2, ?_, ?_, unhide HB⟩
      · rw [unhide HL]; rfl
      · rw [unhide HL, List.map_append]; exact unhide HO

end Go.Proofs.YtbncoiljklagkaaDoor

/- What is proved here: what the model's l5List answers: slices of bytes as a list. -/
namespace Go.Proofs.YtbncoiljklagkaaDoor
open Go.RowKit
set_option linter.unusedVariables false

/-- None of the slices is a bare nil with some room. -/
def BsNil (w : World) (a : Option Addr) (len : Nat) : Prop := ∀ b off, a = some ⟨b, off, none⟩ → ∀ i, i < len → ∃ sa sl sc, w.cell? ⟨b, off + i, none⟩ = some (.slice sa sl sc) ∧ (sa = none → sc = 0)

theorem BsNil.below {w w' : World} {a : Option Addr} {len : Nat} (h : BsNil w a len) {B : Nat} (hb : Below B w w') (hB : w.heap.size ≤ B) : BsNil w' a len := by
  intro b off e i hi
  obtain ⟨sa, sl, sc, hc, hn⟩ := h b off e i hi
  exact ⟨sa, sl, sc, (hb.cell (Nat.lt_of_lt_of_le (lt_of_cell hc) hB)).trans hc, hn⟩

theorem headL_rng (l : Bool) (n : Nat) (h : n ≤ 1048576) : ∀ x ∈ headL l n, 0 ≤ x ∧ x ≤ 255 := headL_range l n (by omega) (by omega)

theorem pcL_range (z : List Int) (hl : z.length ≤ 1048576) (h : ∀ x ∈ z, 0 ≤ x ∧ x ≤ 255) : ∀ x ∈ pcL z, 0 ≤ x ∧ x ≤ 255 := by
  intro x hx
  unfold pcL at hx
  rcases List.mem_append.1 hx with e | e
  · unfold pcHd at e
    split at e
    · simp at e
    · exact headL_rng false _ hl x e
  · exact h x e

theorem wrapL_range (z : List Int) (hl : z.length ≤ 1048576) (h : ∀ x ∈ z, 0 ≤ x ∧ x ≤ 255) : ∀ x ∈ wrapL z, 0 ≤ x ∧ x ≤ 255 := by
  intro x hx
  unfold wrapL at hx
  rcases List.mem_append.1 hx with e | e
  · exact headL_rng true _ hl x e
  · exact h x e

theorem pcsL_range (zss : List (List Int)) (hl : ∀ z ∈ zss, z.length ≤ 8) (h : ∀ z ∈ zss, ∀ x ∈ z, 0 ≤ x ∧ x ≤ 255) : ∀ x ∈ pcsL zss, 0 ≤ x ∧ x ≤ 255 := by
  intro x hx
  obtain ⟨z, hz, hxz⟩ := List.mem_flatMap.1 hx
  exact pcL_range z (by have := hl z hz; omega) (h z hz) x hxz

theorem flat_snoc (zss : List (List Int)) (k : Nat) (z : List Int) (h : zss[k]? = some z) : pcsL (zss.take (k + 1)) = pcsL (zss.take k) ++ pcL z := by
  obtain ⟨hk, e⟩ := List.getElem?_eq_some_iff.1 h
  unfold pcsL
  rw [List.take_succ_eq_append_getElem hk, List.flatMap_append, e]
  simp

theorem pcsL_take (zss : List (List Int)) (k : Nat) (h : ∀ z ∈ zss, z.length ≤ 8) (hl : zss.length ≤ 7) : (pcsL (zss.take k)).length ≤ 112 := by
  have := pcsL_length (zss.take k) (fun z hz => h z (List.mem_of_mem_take hz))
  have h2 : (zss.take k).length ≤ zss.length := by simp; omega
  omega

set_option maxHeartbeats 4000000 in
theorem l5List_any (a : Option Addr) (len cap : Nat) (zss : List (List Int)) (w : World) (h : BsRow w a len zss) (hn : BsNil w a len) (hl : len ≤ 7) (hz : ∀ z ∈ zss, z.length ≤ 8) :
    Calls Tryd.prog 83 #[.slice a len cap] w fun e w' => ∃ a' c', e = .returned (.slice a' (listL zss).length c') ∧
      w'.ownsRow w.heap.size 5 1 (.slice a' (listL zss).length c') (listL zss).length ((listL zss).map (Value.int .u8)) ∧ Below w.heap.size w w' := by
  obtain ⟨i0, hi, hz0, hz1, hz2⟩ := info_parts info5
  have hil := h.1
  have hby := h.bytes
  have o0 : (w.alloc (.cells #[] 5)).ownsRow w.heap.size 5 1 (.slice (some ⟨w.heap.size, 0, none⟩) 0 0) 0 (([] : List Int).map (Value.int .u8)) := World.ownsRow_lit w #[] 0 (Nat.le_refl _) (by unfold maxLen; omega) rfl
  have HW : Hid (∀ (W : World) (ab : Option Addr) (m cb : Nat), m = (pcsL zss).length → W.ownsRow w.heap.size 5 1 (.slice ab m cb) m ((pcsL zss).map (Value.int .u8)) → Calls Tryd.prog 84 #[.slice ab m cb] W fun e w' => ∃ a' c', e = .returned (.slice a' (listL zss).length c') ∧
      w'.ownsRow W.heap.size 5 1 (.slice a' (listL zss).length c') (listL zss).length ((listL zss).map (Value.int .u8)) ∧ Below W.heap.size W w') := fun W ab m cb hm ho => by
    subst hm
    have hlen := pcsL_length zss hz
    exact l3Wrap_any ab _ cb (pcsL zss) W (BRow.own2 ho (pcsL_range zss hz hby)) (own_cap ho) (by omega)
  have HROW := hide (fun (W : World) (hb : Below w.heap.size w W) => And.intro (h.below hb (Nat.le_refl _)) (hn.below hb (Nat.le_refl _)))
  have HTK := hide (fun k => pcsL_take zss k hz (by omega))
  have HFL := hide (flat_snoc zss)
  have HZ := hide hz
  have HBY := hide hby
  have HL := hide hil
  have HO0 := hide o0
  clear h hn hil hby o0 hz
  go_enter Tryd.func83, Tryd.ntmps83
  go_wp2_with fail
  go_loopw [3, 4] (fun s i wr => ∃ (k m : Nat) (ab : Option Addr) (cb : Nat), k ≤ len ∧ i = .int .i64 k ∧ m = (pcsL (zss.take k)).length ∧ s = .slice ab m cb ∧ wr.ownsRow w.heap.size 5 1 (.slice ab m cb) m ((pcsL (zss.take k)).map (Value.int .u8)) ∧ Below w.heap.size w wr) (fun _ i _ => len - (intOf i).toNat)
  case atStart => exact ⟨0, 0, _, 0, Nat.zero_le _, rfl, rfl, rfl, unhide HO0, below_alloc w _⟩
  case round =>
    obtain ⟨k, m, ab, cb, hk, rfl, hm, rfl, ob, hbr⟩ := hrel
    clear HO0
    by_cases hlt : k < len
    · obtain ⟨z, hit⟩ : ∃ z, zss[k]? = some z := ⟨_, List.getElem?_eq_getElem (by rw [unhide HL]; exact hlt)⟩
      obtain ⟨hrow, hnil⟩ := (unhide HROW) wr hbr
      obtain ⟨b, off, rfl, _, hat⟩ := hrow.at (by omega)
      obtain ⟨s1, n1, d1, c0, r1⟩ := hat k z hit
      obtain ⟨s1', n1', d1', c0', hnn⟩ := hnil b off rfl k hlt
      rw [c0] at c0'
      simp only [Option.some.injEq, Value.slice.injEq] at c0'
      obtain ⟨rfl, rfl, rfl⟩ := c0'
      have hz8 := (unhide HZ) z (List.mem_of_getElem? hit)
      have hzl : z.length = n1 := r1.1
      have HP := hide (l3Piece_any s1 n1 d1 z wr r1 hnn (by omega))
      have hpr := pcL_range z (by omega) ((unhide HBY) z (List.mem_of_getElem? hit))
      have hpl := pcL_length z
      have hs := (unhide HFL) k z hit
      have hml : m ≤ 112 := by rw [hm]; exact (unhide HTK) k
      change Hid (Calls _ _ _ _ (fun e w' => ∃ a' cap', e = .returned (.slice a' (pcL z).length cap') ∧ w'.ownsRow wr.heap.size 5 1 (.slice a' (pcL z).length cap') (pcL z).length ((pcL z).map (Value.int .u8)) ∧ Below wr.heap.size wr w')) at HP
      have HS := hide hs
      have HM := hide hm
      have HPR := hide hpr
      have hpl2 : (pcL z).length ≤ 16 := by omega
      generalize pcL z = P at HP HS HPR hpl2
      generalize pcsL (zss.take k) = L at ob HS HM
      have k1 : (0 : Int) ≤ (k : Int) := by omega
      have k2 : (k : Int) < (len : Int) := by omega
      have HOB := hide ob
      have HB := hide hbr
      clear hs hm ob hbr hit hrow hnil hat r1 hnn hpr hpl hzl hz8
      go_wp2_with fail
      refine (unhide HP).mono ?_
      rintro e w2 ⟨a2, c2, rfl, o2, b2⟩
      have ob2 := own_below (unhide HOB) b2 (Nat.le_refl _)
      have B2 := (unhide HB).trans (b2.mono (unhide HB).size)
      have hr2 := BRow.own2 o2 (unhide HPR)
      go_wp2_with (at_builtin; refine wpList_append_brow _ rfl _ _ 22 rfl w.heap.size i0 Tryd.underlying22 hi hz0 hz1 hz2 _ m L rfl ob2 a2 P.length c2 P rfl hr2 (own_cap o2) (by omega) B2.size ?_)
      intro a3 c3 w3 o3 g3
      have B3 : Below w.heap.size w w3 := B2.grown g3 B2.size (fun g e => (ob2.lt g e).1)
      have HO3 := hide o3
      have HB3 := hide B3
      clear o3 B3 g3 ob2 hr2 B2 o2 b2
      go_wp2_with fail
      go_roundw
      case rel => exact ⟨k + 1, m + P.length, a3, c3, by omega, by go_num, by rw [unhide HS, List.length_append, ← unhide HM], rfl, by rw [unhide HS, List.map_append]; exact unhide HO3, unhide HB3⟩
      case measure => simp [intOf]; omega
    · obtain rfl : k = len := by omega
      have et : zss.take k = zss := List.take_of_length_le (by rw [unhide HL]; exact Nat.le_refl _)
      rw [et] at hm ob
      have HC := hide ((unhide HW) wr ab m cb hm ob)
      have HB := hide hbr
      clear et hm ob hbr HW
      go_wp2_with fail
      refine (unhide HC).mono ?_
      rintro e w2 ⟨a2, c2, rfl, o2, b2⟩
      go_wp2_with fail
      go_ret
      exact ⟨a2, c2, rfl, ownsRow_base o2 (unhide HB).size, (unhide HB).trans (b2.mono (unhide HB).size)⟩

end Go.Proofs.YtbncoiljklagkaaDoor

/- What is proved here: what the program's addVotes answers: the votes of a header as items behind others. -/
namespace Go.Proofs.YtbncoiljklagkaaDoor
open Go.RowKit
set_option linter.unusedVariables false

/-- Slices of bytes that were there, as parts. -/
theorem prow_of {w0 : World} {a : Option Addr} {len : Nat} {zss : List (List Int)} (h : BsRow w0 a len zss) (hn : BsNil w0 a len) (B : Nat) (W : World) : PRow w0 B W a len zss := by
  rcases Nat.eq_zero_or_pos len with h0 | hp
  · subst h0
    have hz : zss = [] := List.length_eq_zero_iff.1 h.1
    subst hz
    exact ⟨rfl, fun z hz => by simp at hz, [], rfl, fun i z u hz => by simp at hz, .inr (.inr rfl)⟩
  · obtain ⟨b, off, rfl, _, hat⟩ := h.at hp
    refine ⟨h.1, h.2.1, (List.range len).map (fun i => (w0.cell? ⟨b, off + i, none⟩).getD undef), by simp, fun i z u hz hu => ?_, .inl ⟨b, off, rfl, fun i u hu => ?_⟩⟩
    · have hi : i < len := by have := (List.getElem?_eq_some_iff.1 hz).1; rw [h.1] at this; exact this
      obtain ⟨sa, sl, sc, hc, hr⟩ := hat i z hz
      obtain ⟨sa', sl', sc', hc', hnn⟩ := hn b off rfl i hi
      rw [hc] at hc'
      simp only [Option.some.injEq, Value.slice.injEq] at hc'
      obtain ⟨rfl, rfl, rfl⟩ := hc'
      rw [List.getElem?_map, List.getElem?_range hi] at hu
      simp only [Option.map_some, Option.some.injEq, hc, Option.getD_some] at hu
      exact .inl ⟨sa, sl, sc, hu.symm, hr, hnn⟩
    · have hi : i < len := by have := (List.getElem?_eq_some_iff.1 hu).1; simpa using this
      obtain ⟨z, hz⟩ : ∃ z, zss[i]? = some z := ⟨_, List.getElem?_eq_getElem (by rw [h.1]; exact hi)⟩
      obtain ⟨sa, sl, sc, hc, hr⟩ := hat i z hz
      rw [List.getElem?_map, List.getElem?_range hi] at hu
      simp only [Option.map_some, Option.some.injEq, hc, Option.getD_some] at hu
      rw [hc, hu]

/-- Parts that were laid side by side just now. -/
theorem prow_lit {w0 w1 : World} {B : Nat} (us : Array Value) (zss : List (List Int)) (hl : zss.length = us.size) (hB : B ≤ w1.heap.size) (hm : ∀ z ∈ zss, z.length ≤ maxLen) (hu1 : us.size ≤ 10) (hs : ∀ (i : Nat) (z : List Int) (u : Value), zss[i]? = some z → us.toList[i]? = some u → Src w0 B w1 u z) :
    PRow w0 B (w1.alloc (.cells us 22)) (some ⟨w1.heap.size, 0, none⟩) us.size zss :=
  ⟨hl, hm, us.toList, by simp, fun i z u hz hu => (hs i z u hz hu).below (below_alloc w1 _) (Nat.le_refl _), .inr (.inl ⟨us.size, World.ownsRow_lit w1 us us.size hB (by unfold maxLen; omega) (Nat.mul_one _).symm⟩)⟩

set_option maxRecDepth 100000 in
set_option maxHeartbeats 8000000 in
theorem addVotes_any (w0 : World) (B : Nat) (hw0 : w0.heap.size ≤ B) (x : HS) (h : Hd) (gd : HGood h) (ht : BRow w0 x.t.a x.t.n h.t) (hnt : x.t.a = none → x.t.c = 0) (hs : BsRow w0 x.s.a x.s.n h.s) (hns : BsNil w0 x.s.a x.s.n) (a : Option Addr) (n c : Nat) (its : List It) (W : World) (hm : HkR w0 B W (.slice a n c) n its) (hB : B ≤ W.heap.size) (hn : n ≤ 100) :
    Calls Tryd.prog 95 #[.agg #[.slice x.t.a x.t.n x.t.c, .int .i64 h.n5, .slice x.s.a x.s.n x.s.c], .slice a n c] W fun e w' => ∃ a' c', e = .returned (.slice a' (n + 2 + 1 + x.s.n) c') ∧ HkR w0 B w' (.slice a' (n + 2 + 1 + x.s.n) c') (n + 2 + 1 + x.s.n) (its ++ [lf 0 h.t, lf 0 (shortF 7 h.n5)] ++ [ls 0] ++ h.s.map (lf ((n + 2 : Nat) : Int))) ∧ Kept W w' (.slice a n c) (.slice a' (n + 2 + 1 + x.s.n) c') ∧ B ≤ w'.heap.size := by
  have kb := SBlk.new W #[.slice x.t.a x.t.n x.t.c, .int .i64 h.n5, .slice x.s.a x.s.n x.s.c] 64
  have bb := below_alloc W (.cells #[.slice x.t.a x.t.n x.t.c, .int .i64 h.n5, .slice x.s.a x.s.n x.s.c] 64)
  obtain ⟨Wb, eb⟩ : ∃ Wb, W.alloc (.cells #[.slice x.t.a x.t.n x.t.c, .int .i64 h.n5, .slice x.s.a x.s.n x.s.c] 64) = Wb := ⟨_, rfl⟩
  rw [eb] at kb bb
  have hmb := hm.below bb (Nat.le_refl _) hB
  have hkb := (Kept.refl W (.slice a n c)).below bb
  have hBb : B ≤ Wb.heap.size := Nat.le_trans hB bb.size
  have hsl : x.s.n ≤ 7 := by have := hs.1; have := gd.s; omega
  have hgv : W.heap.size < Wb.heap.size := kb.lt
  have hvb : ∀ q, (Value.slice a n c).ownBlock = some q → q < W.heap.size := fun q e => by obtain ⟨_, _, _, vs, _, h4, _⟩ := hm; exact (h4.lt q e).2
  have sl5 := sh_length h.n5
  have htl := gd.t
  have HAP : Hid (∀ (w1 : World) (a5 : Option Addr) (c5 : Nat), Below Wb.heap.size Wb w1 → w1.ownsRow Wb.heap.size 5 1 (.slice a5 (shortF 7 h.n5).length c5) (shortF 7 h.n5).length ((shortF 7 h.n5).map (Value.int .u8)) →
      Calls Tryd.prog 93 #[.slice a n c, .int .i64 0, .slice (some ⟨w1.heap.size, 0, none⟩) 2 2] (w1.alloc (.cells #[.slice x.t.a x.t.n x.t.c, .slice a5 (shortF 7 h.n5).length c5] 22)) fun e w' => ∃ a' c', e = .returned (.slice a' (n + 2) c') ∧ HkR w0 B w' (.slice a' (n + 2) c') (n + 2) (its ++ [lf 0 h.t, lf 0 (shortF 7 h.n5)]) ∧
        Kept Wb w' (.slice a n c) (.slice a' (n + 2) c') ∧ B ≤ w'.heap.size) := fun w1 a5 c5 hb1 ho => by
    have hB1 : B ≤ w1.heap.size := Nat.le_trans hBb hb1.size
    have m1 := (hmb.below hb1 (Nat.le_refl _) hBb).below (below_alloc w1 (.cells #[.slice x.t.a x.t.n x.t.c, .slice a5 (shortF 7 h.n5).length c5] 22)) (Nat.le_refl _) hB1
    have pr := prow_lit (w0 := w0) (B := B) (w1 := w1) #[.slice x.t.a x.t.n x.t.c, .slice a5 (shortF 7 h.n5).length c5] [h.t, shortF 7 h.n5] rfl hB1 (fun z hz => by simp at hz; rcases hz with rfl | rfl <;> (unfold maxLen; omega)) (by simp) (fun i z u hz hu => by
      match i with
      | 0 => simp at hz hu; subst hz hu; exact .inl ⟨_, _, _, rfl, ht, hnt⟩
      | 1 => simp at hz hu; subst hz hu; exact .inr ⟨ownsRow_base ho hBb, shortF_range 7 _⟩
      | k + 2 => simp at hz)
    refine (addParts_any w0 B hw0 a n c its _ m1 0 ⟨by omega, by omega⟩ _ 2 2 [h.t, shortF 7 h.n5] pr (by simp; omega) (by omega)).mono ?_
    rintro e w' ⟨a', c', he, hm', hk', hb'⟩
    exact ⟨a', c', he, hm', (((Kept.refl Wb (.slice a n c)).below hb1).below (below_alloc w1 _)).trans hk', hb'⟩
  have HSH := hide (fun W' => shortOf_any h.n5 W' gd.n5.1 (by have := gd.n5.2; omega))
  have HKB := hide kb
  have HK0 := hide hkb
  have HPS := hide (fun W' => prow_of hs hns B W')
  have HVB := hide hvb
  have HCE : Hid (∀ W', Below Wb.heap.size Wb W' → W'.cell? ⟨W.heap.size, 0, none⟩ = some (.slice x.t.a x.t.n x.t.c) ∧ W'.cell? ⟨W.heap.size, 1, none⟩ = some (.int .i64 h.n5)) := fun W' hb => ⟨(kb.below hb kb.lt).cell 0, (kb.below hb kb.lt).cell 1⟩
  clear hm hmb hkb kb bb hs hns ht hnt gd hvb
  generalize shortF 7 h.n5 = L5 at HAP HSH sl5
  go_enter Tryd.func95, Tryd.ntmps95
  go_upto_region 1 with (rw [eb])
  try rw [eb]
  clear eb
  go_wp2_with fail
  go_region_held3 (fun W' => W'.cell? ⟨W.heap.size, 0, none⟩ = some (.slice x.t.a x.t.n x.t.c) ∧ W'.cell? ⟨W.heap.size, 1, none⟩ = some (.int .i64 h.n5))
    (first | exact s2 | exact (unhide HCE) _ (by first | assumption | exact (Below.refl Wb.heap.size Wb).drew | exact below_drewN (Below.refl Wb.heap.size Wb) _ | exact Below.alloc (by assumption) (Below.size (by assumption)) _ | exact Below.mono (by assumption) (Nat.le_refl _)))
    (first
      | (go_at_call 94; refine ((unhide HSH) _).mono ?_; rintro e w1 ⟨a5, c5, rfl, o5, b5⟩; have K1 : Below Wb.heap.size Wb w1 := Below.trans (by first | exact (Below.refl Wb.heap.size Wb).drew | exact below_drewN (Below.refl Wb.heap.size Wb) _) b5)
      | (go_at_call 93; refine ((unhide HAP) w1 a5 c5 K1 o5).mono ?_; rintro e w2 ⟨a2, c2, rfl, m2, k2, z2⟩; have q2 : w2.heap[W.heap.size]? = Wb.heap[W.heap.size]? := k2.1 _ hgv (fun e => by have := (unhide HVB) _ e; omega); have s2 : w2.cell? ⟨W.heap.size, 0, none⟩ = some (.slice x.t.a x.t.n x.t.c) ∧ w2.cell? ⟨W.heap.size, 1, none⟩ = some (.int .i64 h.n5) := ⟨SBlk.cell (show SBlk w2 W.heap.size _ _ from q2.trans (unhide HKB)) 0, SBlk.cell (show SBlk w2 W.heap.size _ _ from q2.trans (unhide HKB)) 1⟩))
  all_goals
    have cS : w2.cell? ⟨W.heap.size, 2, none⟩ = some (.slice x.s.a x.s.n x.s.c) := by
      have hc : SBlk w2 W.heap.size _ _ := q2.trans (unhide HKB)
      exact hc.cell 2
    have HC := hide (addList_any w0 B hw0 a2 (n + 2) c2 _ w2 m2 x.s.a x.s.n x.s.c h.s ((unhide HPS) w2) z2 (by omega))
    have HK2 := hide ((unhide HK0).trans k2)
    clear m2 k2 q2 o5 b5 K1
    go_wp2_with fail
    refine (unhide HC).mono ?_
    rintro e w3 ⟨a3, c3, rfl, m3, k3, z3⟩
    have HM3 := hide m3
    have HK3 := hide ((unhide HK2).trans k3)
    clear m3 k3
    go_wp2_with fail
    go_ret
    exact ⟨a3, c3, rfl, unhide HM3, unhide HK3, z3⟩

end Go.Proofs.YtbncoiljklagkaaDoor

/- What is proved here: what the model's l5Pack answers for a header without a fault: its bytes. -/
namespace Go.Proofs.YtbncoiljklagkaaDoor
open Go.RowKit
set_option linter.unusedVariables false

/-- The slices of a header are no bare nils with some room. -/
structure HNil (w : World) (x : HS) : Prop where
  p : x.p.a = none → x.p.c = 0
  t : x.t.a = none → x.t.c = 0
  s : BsNil w x.s.a x.s.n
  r : x.r.a = none → x.r.c = 0
  g : x.g.a = none → x.g.c = 0
  e : x.e.a = none → x.e.c = 0
  k : BsNil w x.k.a x.k.n

theorem HNil.below {w w' : World} {x : HS} (h : HNil w x) {B : Nat} (hb : Below B w w') (hB : w.heap.size ≤ B) : HNil w' x :=
  ⟨h.p, h.t, h.s.below hb hB, h.r, h.g, h.e, h.k.below hb hB⟩

theorem headL_pos (l : Bool) (n : Int) : 0 < (headL l n).length := by
  unfold headL
  split <;> simp

theorem pcL_pos (z : List Int) : 0 < (pcL z).length := by
  unfold pcL pcHd
  rw [List.length_append]
  split
  · rename_i h; omega
  · have := headL_pos false z.length; omega

theorem wrapL_pos (z : List Int) : 0 < (wrapL z).length := by
  unfold wrapL
  rw [List.length_append]
  have := headL_pos true z.length
  omega

/-- Bytes that the call owns, appended to bytes that it owns, in a region that draws its order. -/
theorem step_app {P : Program} {w : World} {ops : Array Oper} {o : Oper} {a : Act} {K : Act → World → Prop} {Q : Exit → Act → World → Prop} {E : Prop} (hgd : o.guard = none) (s x : Operand) (t : TypeId)
    (ho : o.op = .call { callee := .builtin .append, args := #[s, x], argTypes := #[t, t] }) (base : Nat) (i : TypeInfo) (ht : P.underlying t = some (.slice 5)) (hi : P.info? 5 = some i) (hz : i.zero = some (.int .u8 0)) (hsize : i.size = 1) (hby : i.bytes = 1)
    (v : Value) (n : Nat) (L : List Int) (hs : a.eval s = v) (hown : w.ownsRow base 5 1 v n (L.map (Value.int .u8))) (b2 : Nat) (u : Value) (m : Nat) (R : List Int) (hx : a.eval x = u) (hu : w.ownsRow b2 5 1 u m (R.map (Value.int .u8))) (hm : 0 < m) (h63 : n + m ≤ 100000) (hbase : base ≤ w.heap.size)
    (h : ∀ g c w', w'.ownsRow base 5 1 (.slice (some ⟨g, 0, none⟩) (n + m) c) (n + m) ((L ++ R).map (Value.int .u8)) → w.grownBy w' v.ownBlock → K (a.put o.dst (.slice (some ⟨g, 0, none⟩) (n + m) c)) w') :
    if Region.wanted o (yielded ops a.tmps) = true then Oper.wp P o a w K Q else E := by
  obtain ⟨g, c, rfl⟩ := own_some hu hm
  refine step_append_lies (w := w) hgd s x t ho base 5 i (.int .u8 0) 1 1 ht hi hz hsize hby rfl (by decide) v n _ hs hown ⟨g, 0, none⟩ m c (R.map (Value.int .u8)) hx (by have := hu.1; simpa using this) ?_ ?_ hm (by unfold maxLen; omega) (by omega) hbase _ rfl ?_
  · intro j q hj
    rw [add_none, Nat.zero_add, hu.cellAt j (by have := (List.getElem?_eq_some_iff.1 hj).1; have := hu.1; omega)]
    exact hj
  · intro q hq
    obtain ⟨z, _, rfl⟩ := List.mem_map.1 hq
    rfl
  · intro g' c' w' h1 h2 _ _
    exact h g' c' w' (by rw [List.map_append]; exact h1) h2

end Go.Proofs.YtbncoiljklagkaaDoor

/- What is proved here: what the program's items answers: the items of a header, in new memory. -/
namespace Go.Proofs.YtbncoiljklagkaaDoor
open Go.RowKit
set_option linter.unusedVariables false

theorem one_item (w0 : World) : HkR w0 w0.heap.size (w0.alloc (.cells #[.bool true, .int .i64 (-1), .slice none 0 0] 91)) (.slice (some ⟨w0.heap.size, 0, none⟩) 1 1) 1 [ls (-1)] := by
  refine ⟨rfl, fun it hit => ?_, below_alloc w0 _, [.slice none 0 0], rfl, World.ownsRow_lit w0 #[.bool true, .int .i64 (-1), .slice none 0 0] 1 (Nat.le_refl _) (by unfold maxLen; omega) rfl, fun i it u hi hu => ?_⟩
  · rw [List.mem_singleton.1 hit]
    exact ⟨by show (-9223372036854775808 : Int) ≤ -1; omega, by show (-1 : Int) ≤ 9223372036854775807; omega, Nat.zero_le _⟩
  · match i with
    | 0 => simp at hi hu; subst hi hu; exact Src.nil _ _ _
    | k + 1 => simp at hi

set_option maxRecDepth 100000 in
set_option maxHeartbeats 8000000 in
theorem items_any (x : HS) (h : Hd) (gd : HGood h) (w : World) (o : HOk w x h) (nn : HNil w x) :
    Calls Tryd.prog 67 #[.agg (hvals x h)] w fun e w' => ∃ a c, e = .returned (.slice a (hIts h).length c) ∧ ItRowN w' a (hIts h).length (hIts h) ∧ Below w.heap.size w w' := by
  have kb := SBlk.new w (hvals x h) 66
  have bb := below_alloc w (.cells (hvals x h) 66)
  obtain ⟨W0, eb⟩ : ∃ W0, w.alloc (.cells (hvals x h) 66) = W0 := ⟨_, rfl⟩
  rw [eb] at kb bb
  have hgw : w.heap.size < W0.heap.size := kb.lt
  have o0 := o.below bb (Nat.le_refl _)
  have n0 := nn.below bb (Nat.le_refl _)
  have hsn : x.s.n = h.s.length := o.s.1.symm
  have hkn : x.k.n = h.k.length := o.k.1.symm
  have m1 := one_item W0
  have b01 := below_alloc W0 (.cells #[.bool true, .int .i64 (-1), .slice none 0 0] 91)
  obtain ⟨W1, e1⟩ : ∃ W1, W0.alloc (.cells #[.bool true, .int .i64 (-1), .slice none 0 0] 91) = W1 := ⟨_, rfl⟩
  rw [e1] at m1 b01
  have HCB := hide (fun (W' : World) (hb : Below W0.heap.size W0 W') => hcells (kb.below hb kb.lt))
  have gs := gd.s
  have gk := gd.k
  have pl := gd.p
  have rl := gd.r
  have gl := gd.g
  have el := gd.e
  have t1 := sh_length h.n1
  have t2 := sh_length h.n2
  have t3 := sh_length h.n3
  have hB1 : W0.heap.size ≤ W1.heap.size := b01.size
  have HAP : Hid (∀ (w1 : World) (a1 : Option Addr) (c1 : Nat) (a2 : Option Addr) (c2 : Nat) (a3 : Option Addr) (c3 : Nat), Below W1.heap.size W1 w1 → w1.ownsRow W1.heap.size 5 1 (.slice a1 (shortF 7 h.n1).length c1) (shortF 7 h.n1).length ((shortF 7 h.n1).map (Value.int .u8)) → w1.ownsRow W1.heap.size 5 1 (.slice a2 (shortF 7 h.n2).length c2) (shortF 7 h.n2).length ((shortF 7 h.n2).map (Value.int .u8)) → w1.ownsRow W1.heap.size 5 1 (.slice a3 (shortF 7 h.n3).length c3) (shortF 7 h.n3).length ((shortF 7 h.n3).map (Value.int .u8)) →
      Calls Tryd.prog 93 #[.slice (some ⟨W0.heap.size, 0, none⟩) 1 1, .int .i64 0, .slice (some ⟨w1.heap.size, 0, none⟩) 4 4] (w1.alloc (.cells #[.slice x.p.a x.p.n x.p.c, .slice a1 (shortF 7 h.n1).length c1, .slice a2 (shortF 7 h.n2).length c2, .slice a3 (shortF 7 h.n3).length c3] 22)) fun e w' => ∃ a' c', e = .returned (.slice a' 5 c') ∧ HkR W0 W0.heap.size w' (.slice a' 5 c') 5 ([ls (-1)] ++ [lf 0 h.p, lf 0 (shortF 7 h.n1), lf 0 (shortF 7 h.n2), lf 0 (shortF 7 h.n3)]) ∧ W0.heap.size ≤ w'.heap.size) := fun w1 a1 c1 a2 c2 a3 c3 hb1 r1 r2 r3 => by
    have hBw : W0.heap.size ≤ w1.heap.size := Nat.le_trans hB1 hb1.size
    have m2 := (m1.below hb1 (Nat.le_refl _) hB1).below (below_alloc w1 (.cells #[.slice x.p.a x.p.n x.p.c, .slice a1 (shortF 7 h.n1).length c1, .slice a2 (shortF 7 h.n2).length c2, .slice a3 (shortF 7 h.n3).length c3] 22)) (Nat.le_refl _) hBw
    have pr := prow_lit (w0 := W0) (B := W0.heap.size) (w1 := w1) #[.slice x.p.a x.p.n x.p.c, .slice a1 (shortF 7 h.n1).length c1, .slice a2 (shortF 7 h.n2).length c2, .slice a3 (shortF 7 h.n3).length c3] [h.p, shortF 7 h.n1, shortF 7 h.n2, shortF 7 h.n3] rfl hBw (fun z hz => by simp at hz; rcases hz with rfl | rfl | rfl | rfl <;> (unfold maxLen; omega)) (by simp) (fun i z u hz hu => by
      match i with
      | 0 => simp at hz hu; subst hz hu; exact .inl ⟨_, _, _, rfl, o0.p, n0.p⟩
      | 1 => simp at hz hu; subst hz hu; exact .inr ⟨ownsRow_base r1 hB1, shortF_range 7 _⟩
      | 2 => simp at hz hu; subst hz hu; exact .inr ⟨ownsRow_base r2 hB1, shortF_range 7 _⟩
      | 3 => simp at hz hu; subst hz hu; exact .inr ⟨ownsRow_base r3 hB1, shortF_range 7 _⟩
      | k + 4 => simp at hz)
    refine (addParts_any W0 W0.heap.size (Nat.le_refl _) _ 1 1 _ _ m2 0 ⟨by omega, by omega⟩ _ 4 4 _ pr (by simp; omega) (by omega)).mono ?_
    rintro e w' ⟨a', c', he, hm', hk', hb'⟩
    exact ⟨a', c', he, hm', hb'⟩
  have HS1 := hide (fun W' => shortOf_any h.n1 W' gd.n1.1 gd.n1.2)
  have HS2 := hide (fun W' => shortOf_any h.n2 W' gd.n2.1 gd.n2.2)
  have HS3 := hide (fun W' => shortOf_any h.n3 W' gd.n3.1 (by have := gd.n3.2; omega))
  have HAV : Hid (∀ (W' : World) (a : Option Addr) (c : Nat) (its : List It), HkR W0 W0.heap.size W' (.slice a 5 c) 5 its → W0.heap.size ≤ W'.heap.size → Calls Tryd.prog 95 #[.agg #[.slice x.t.a x.t.n x.t.c, .int .i64 h.n5, .slice x.s.a x.s.n x.s.c], .slice a 5 c] W' fun e w' => ∃ a' c', e = .returned (.slice a' (8 + h.s.length) c') ∧ HkR W0 W0.heap.size w' (.slice a' (8 + h.s.length) c') (8 + h.s.length) (its ++ [lf 0 h.t, lf 0 (shortF 7 h.n5)] ++ [ls 0] ++ h.s.map (lf 7)) ∧ W0.heap.size ≤ w'.heap.size) := fun W' a c its hm hb => by
    refine (addVotes_any W0 W0.heap.size (Nat.le_refl _) x h gd o0.t n0.t o0.s n0.s a 5 c its W' hm hb (by omega)).mono ?_
    rintro e w' ⟨a', c', he, hm', _, hb'⟩
    rw [hsn, show 5 + 2 + 1 + h.s.length = 8 + h.s.length by omega] at he hm'
    exact ⟨a', c', he, hm', hb'⟩
  have HAQ : Hid (∀ (W' : World) (a : Option Addr) (c : Nat) (its : List It), HkR W0 W0.heap.size W' (.slice a (8 + h.s.length) c) (8 + h.s.length) its → W0.heap.size ≤ W'.heap.size → Calls Tryd.prog 93 #[.slice a (8 + h.s.length) c, .int .i64 0, .slice (some ⟨W'.heap.size, 0, none⟩) 3 3] (W'.alloc (.cells #[.slice x.r.a x.r.n x.r.c, .slice x.g.a x.g.n x.g.c, .slice x.e.a x.e.n x.e.c] 22)) fun e w' => ∃ a' c', e = .returned (.slice a' (11 + h.s.length) c') ∧ HkR W0 W0.heap.size w' (.slice a' (11 + h.s.length) c') (11 + h.s.length) (its ++ [lf 0 h.r, lf 0 h.g, lf 0 h.e]) ∧ W0.heap.size ≤ w'.heap.size) := fun W' a c its hm hb => by
    have m2 := hm.below (below_alloc W' (.cells #[.slice x.r.a x.r.n x.r.c, .slice x.g.a x.g.n x.g.c, .slice x.e.a x.e.n x.e.c] 22)) (Nat.le_refl _) hb
    have pr := prow_lit (w0 := W0) (B := W0.heap.size) (w1 := W') #[.slice x.r.a x.r.n x.r.c, .slice x.g.a x.g.n x.g.c, .slice x.e.a x.e.n x.e.c] [h.r, h.g, h.e] rfl hb (fun z hz => by simp at hz; rcases hz with rfl | rfl | rfl <;> (unfold maxLen; omega)) (by simp) (fun i z u hz hu => by
      match i with
      | 0 => simp at hz hu; subst hz hu; exact .inl ⟨_, _, _, rfl, o0.r, n0.r⟩
      | 1 => simp at hz hu; subst hz hu; exact .inl ⟨_, _, _, rfl, o0.g, n0.g⟩
      | 2 => simp at hz hu; subst hz hu; exact .inl ⟨_, _, _, rfl, o0.e, n0.e⟩
      | k + 3 => simp at hz)
    refine (addParts_any W0 W0.heap.size (Nat.le_refl _) a (8 + h.s.length) c its _ m2 0 ⟨by omega, by omega⟩ _ 3 3 _ pr (by simp; omega) (by omega)).mono ?_
    rintro e w' ⟨a', c', he, hm', hk', hb'⟩
    exact ⟨a', c', by rw [he, show 11 + h.s.length = 8 + h.s.length + 3 by omega], by rw [show 11 + h.s.length = 8 + h.s.length + 3 by omega]; exact hm', hb'⟩
  have HAL : Hid (∀ (W' : World) (a : Option Addr) (c : Nat) (its : List It), HkR W0 W0.heap.size W' (.slice a (11 + h.s.length) c) (11 + h.s.length) its → W0.heap.size ≤ W'.heap.size → Calls Tryd.prog 96 #[.slice a (11 + h.s.length) c, .slice x.k.a x.k.n x.k.c] W' fun e w' => ∃ a' c', e = .returned (.slice a' (12 + h.s.length + h.k.length) c') ∧ HkR W0 W0.heap.size w' (.slice a' (12 + h.s.length + h.k.length) c') (12 + h.s.length + h.k.length) (its ++ [ls 0] ++ h.k.map (lf ((11 + h.s.length : Nat) : Int)))) := fun W' a c its hm hb => by
    refine (addList_any W0 W0.heap.size (Nat.le_refl _) a (11 + h.s.length) c its W' hm x.k.a x.k.n x.k.c h.k (prow_of o0.k n0.k _ _) hb (by omega)).mono ?_
    rintro e w' ⟨a', c', he, hm', _, hb'⟩
    rw [hkn, show 11 + h.s.length + 1 + h.k.length = 12 + h.s.length + h.k.length by omega] at he hm'
    exact ⟨a', c', he, hm'⟩
  have HLN := hide (hIts_len h)
  have HITS : Hid ((([ls (-1)] ++ [lf 0 h.p, lf 0 (shortF 7 h.n1), lf 0 (shortF 7 h.n2), lf 0 (shortF 7 h.n3)] ++ [lf 0 h.t, lf 0 (shortF 7 h.n5)] ++ [ls 0] ++ h.s.map (lf 7)) ++ [lf 0 h.r, lf 0 h.g, lf 0 h.e] ++ [ls 0] ++ h.k.map (lf ((11 + h.s.length : Nat) : Int))) = hIts h) := by
    show _ = _
    unfold hIts hA hC
    simp only [List.cons_append, List.nil_append, List.append_assoc]
  have HB0 := hide bb
  have HB01 := hide b01
  clear o nn o0 n0 gd m1 kb bb b01 hsn hkn
  unfold hvals at eb ⊢
  go_enter Tryd.func67, Tryd.ntmps67
  go_upto_region 1 with (rw [eb])
  try rw [eb]
  clear eb
  go_upto_region 2 with (rw [e1])
  try rw [e1]
  clear e1
  have HCE : Hid (∀ W', Below W0.heap.size W0 W' → W'.cell? ⟨w.heap.size, 0, none⟩ = some (.slice x.p.a x.p.n x.p.c) ∧ W'.cell? ⟨w.heap.size, 1, none⟩ = some (.int .i64 h.n1) ∧ W'.cell? ⟨w.heap.size, 2, none⟩ = some (.int .i64 h.n2) ∧ W'.cell? ⟨w.heap.size, 3, none⟩ = some (.int .i64 h.n3)) := fun W' hb => by
    obtain ⟨c0, c1, c2, c3, _⟩ := (unhide HCB) W' hb
    exact ⟨c0, c1, c2, c3⟩
  go_region_held3 (fun W' => W'.cell? ⟨w.heap.size, 0, none⟩ = some (.slice x.p.a x.p.n x.p.c) ∧ W'.cell? ⟨w.heap.size, 1, none⟩ = some (.int .i64 h.n1) ∧ W'.cell? ⟨w.heap.size, 2, none⟩ = some (.int .i64 h.n2) ∧ W'.cell? ⟨w.heap.size, 3, none⟩ = some (.int .i64 h.n3))
    (first | exact s9 | exact (unhide HCE) _ (Below.trans (unhide HB01) (Below.mono (by first | assumption | exact (Below.refl W1.heap.size W1).drew | exact below_drewN (Below.refl W1.heap.size W1) _ | exact Below.alloc (by assumption) (Below.size (by assumption)) _) hB1)))
    (first
      | (go_at_call_of 94 (h.n1); refine ((unhide HS1) _).mono ?_; rintro e v1 ⟨a1, c1, rfl, r1, b1⟩; have K1 : Below W1.heap.size W1 v1 := Below.trans (by first | exact (Below.refl W1.heap.size W1).drew | exact below_drewN (Below.refl W1.heap.size W1) _) b1; clear b1)
      | (go_at_call_of 94 (h.n2); refine ((unhide HS2) _).mono ?_; rintro e v2 ⟨a2, c2, rfl, r2, b2⟩; have r1 := own_below r1 b2 (Nat.le_refl _); have r2 := ownsRow_base r2 K1.size; have K2 : Below W1.heap.size W1 v2 := K1.trans (b2.mono K1.size); clear b2 K1)
      | (go_at_call_of 94 (h.n3); refine ((unhide HS3) _).mono ?_; rintro e v3 ⟨a3, c3, rfl, r3, b3⟩; have r1 := own_below r1 b3 (Nat.le_refl _); have r2 := own_below r2 b3 (Nat.le_refl _); have r3 := ownsRow_base r3 K2.size; have K3 : Below W1.heap.size W1 v3 := K2.trans (b3.mono K2.size); clear b3 K2)
      | (go_at_call 93; refine ((unhide HAP) v3 a1 c1 a2 c2 a3 c3 K3 r1 r2 r3).mono ?_; rintro e w2 ⟨a9, c9, rfl, m9, z9⟩; have s9 := (unhide HCE) w2 m9.2.2.1))
  all_goals
    obtain ⟨_, _, _, _, d4, d5, d6, _, _, _, _⟩ := (unhide HCB) w2 m9.2.2.1
    have HC := hide ((unhide HAV) w2 a9 c9 _ m9 z9)
    clear m9 z9 s9 r1 r2 r3 K3
    go_wp2_with fail
    refine (unhide HC).mono ?_
    rintro e w3 ⟨a3', c3', rfl, m3, z3⟩
    obtain ⟨_, _, _, _, _, _, _, d7, d8, d9, _⟩ := (unhide HCB) w3 m3.2.2.1
    have HC := hide ((unhide HAQ) w3 a3' c3' _ m3 z3)
    clear m3 z3 d4 d5 d6
    go_wp2_with fail
    refine (unhide HC).mono ?_
    rintro e w4 ⟨a4, c4, rfl, m4, z4⟩
    obtain ⟨_, _, _, _, _, _, _, _, _, _, d10⟩ := (unhide HCB) w4 m4.2.2.1
    have HC := hide ((unhide HAL) w4 a4 c4 _ m4 z4)
    clear m4 z4 d7 d8 d9
    go_wp2_with fail
    refine (unhide HC).mono ?_
    rintro e w5 ⟨a5, c5, rfl, m5⟩
    rw [unhide HITS] at m5
    have HM5 := hide m5
    clear m5
    go_wp2_with fail
    go_ret
    refine ⟨a5, c5, by rw [unhide HLN]; rfl, ?_, (unhide HB0).trans ((unhide HM5).2.2.1.mono (unhide HB0).size)⟩
    rw [unhide HLN]
    exact (unhide HM5).row (Nat.le_refl _)

end Go.Proofs.YtbncoiljklagkaaDoor

/- What is proved here: the items of a header, encoded, are its bytes; no program is named. -/
namespace Go.Proofs.YtbncoiljklagkaaDoor
open Go.RowKit
set_option linter.unusedVariables false

theorem kids_block {its : List It} {x : Int} : ∀ (n k : Nat), k + n ≤ its.length → (∀ i, i < n → pOf its (k + i) = x) → kidsFrom its x k = List.range' k n ++ kidsFrom its x (k + n)
  | 0, k, _, _ => by simp
  | n + 1, k, hk, h => by
    have h0 : pOf its k = x := by simpa using h 0 (by omega)
    rw [kidsFrom_yes (by omega) h0, kids_block n (k + 1) (by omega) (fun i hi => by have := h (i + 1) (by omega); rwa [show k + (i + 1) = k + 1 + i by omega] at this), List.range'_succ, List.cons_append, show k + 1 + n = k + (n + 1) by omega]

/-- Where the parents lie. -/
theorem pOf_cls {h : Hd} (gd : HGood h) (j : Nat) (hj : j < 12 + h.s.length + h.k.length) :
    (j = 0 → pOf (hIts h) j = -1) ∧ (1 ≤ j → j ≤ 7 → pOf (hIts h) j = 0) ∧ (8 ≤ j → j < 8 + h.s.length → pOf (hIts h) j = 7) ∧ (8 + h.s.length ≤ j → j ≤ 11 + h.s.length → pOf (hIts h) j = 0) ∧ (12 + h.s.length ≤ j → pOf (hIts h) j = ((11 + h.s.length : Nat) : Int)) := by
  obtain ⟨it, hit⟩ := it_at h j hj
  rw [pOf_some hit]
  rcases cls gd j it hit with ⟨rfl, rfl⟩ | ⟨h1, h2, z, rfl, _⟩ | ⟨rfl, rfl⟩ | ⟨h1, h2, z, rfl, _⟩ | ⟨h1, h2, z, rfl, _⟩ | ⟨rfl, rfl⟩ | ⟨h1, h2, z, rfl, _⟩
  all_goals refine ⟨fun _ => ?_, fun _ _ => ?_, fun _ _ => ?_, fun _ _ => ?_, fun _ => ?_⟩ <;> first | rfl | (exfalso; omega)

theorem no_kids {h : Hd} (gd : HGood h) (q : Nat) (h0 : q ≠ 0) (h7 : q ≠ 7) (h11 : q ≠ 11 + h.s.length) : kidsFrom (hIts h) (q : Int) 0 = [] := by
  refine kidsFrom_nil fun j _ hj => ?_
  rw [hIts_len] at hj
  obtain ⟨p0, p1, p2, p3, p4⟩ := pOf_cls gd j hj
  rcases Nat.eq_zero_or_pos j with e | e
  · rw [p0 e]; omega
  · rcases Nat.lt_or_ge j 8 with a | a
    · rw [p1 (by omega) (by omega)]; omega
    · rcases Nat.lt_or_ge j (8 + h.s.length) with b | b
      · rw [p2 a b]; omega
      · rcases Nat.lt_or_ge j (12 + h.s.length) with c | c
        · rw [p3 b (by omega)]; omega
        · rw [p4 c]; omega

theorem enc_leaf {h : Hd} (gd : HGood h) {j : Nat} {p : Int} {z : List Int} (h0 : j ≠ 0) (h7 : j ≠ 7) (h11 : j ≠ 11 + h.s.length) (hit : (hIts h)[j]? = some (lf p z)) : enc hdS (hIts h) j = pcL z := by
  have N := noFault_of (hIts_flt gd)
  have hc : cont hdS (hIts h) j (lf p z) = z := by unfold cont; rw [no_kids gd j h0 h7 h11]; simp [lf]
  rw [enc_eq hdS N.up hit, hc]
  unfold pcL pcHd hdS lf
  by_cases t : z.length = 1 ∧ z.getD 0 0 < 128
  · rw [if_pos t, if_pos ⟨rfl, t⟩]
  · rw [if_neg t, if_neg (fun hh => t hh.2)]

theorem enc_block {h : Hd} (gd : HGood h) (p : Int) : ∀ (zs : List (List Int)) (k : Nat), (∀ i (hi : i < zs.length), (hIts h)[k + i]? = some (lf p zs[i]) ∧ k + i ≠ 0 ∧ k + i ≠ 7 ∧ k + i ≠ 11 + h.s.length) → (List.range' k zs.length).flatMap (enc hdS (hIts h)) = pcsL zs
  | [], k, _ => by simp [pcsL]
  | z :: zs, k, hz => by
    obtain ⟨a1, a2, a3, a4⟩ := hz 0 (by simp)
    have ih := enc_block gd p zs (k + 1) (fun i hi => by
      have := hz (i + 1) (by simpa using hi)
      rw [show k + (i + 1) = k + 1 + i by omega] at this
      simpa using this)
    rw [List.length_cons, List.range'_succ, List.flatMap_cons, ih]
    rw [enc_leaf gd (z := z) (p := p) (by simpa using a2) (by simpa using a3) (by simpa using a4) (by simpa using a1)]
    rfl

theorem enc_list7 {h : Hd} (gd : HGood h) : enc hdS (hIts h) 7 = listL h.s := by
  have N := noFault_of (hIts_flt gd)
  have hit : (hIts h)[7]? = some (ls 0) := at_A h 7 (by omega)
  have hlen := hIts_len h
  have hk : kidsFrom (hIts h) ((7 : Nat) : Int) 0 = List.range' 8 h.s.length := by
    rw [kidsFrom_skip 8 0 (by omega) (by omega) (fun j _ hj => by
      obtain ⟨p0, p1, _⟩ := pOf_cls gd j (by omega)
      rcases Nat.eq_zero_or_pos j with e | e
      · rw [p0 e]; omega
      · rw [p1 (by omega) (by omega)]; omega)]
    rw [kids_block (x := ((7 : Nat) : Int)) h.s.length 8 (by omega) (fun i hi => (pOf_cls gd (8 + i) (by omega)).2.2.1 (by omega) (by omega))]
    rw [kidsFrom_nil (fun j hj1 hj2 => by
      rw [hlen] at hj2
      obtain ⟨_, _, _, p3, p4⟩ := pOf_cls gd j hj2
      rcases Nat.lt_or_ge j (12 + h.s.length) with c | c
      · rw [p3 hj1 (by omega)]; omega
      · rw [p4 c]; omega)]
    simp
  have hc : cont hdS (hIts h) 7 (ls 0) = pcsL h.s := by
    unfold cont
    rw [hk, enc_block gd 7 h.s 8 (fun i hi => ⟨at_S h i hi, by omega, by omega, by omega⟩)]
    rfl
  rw [enc_eq hdS N.up hit, hc]
  rfl

theorem enc_list11 {h : Hd} (gd : HGood h) : enc hdS (hIts h) (11 + h.s.length) = listL h.k := by
  have N := noFault_of (hIts_flt gd)
  have hit : (hIts h)[11 + h.s.length]? = some (ls 0) := by have := at_C h 3 (by omega); rw [show 8 + h.s.length + 3 = 11 + h.s.length by omega] at this; exact this
  have hlen := hIts_len h
  have hk : kidsFrom (hIts h) ((11 + h.s.length : Nat) : Int) 0 = List.range' (12 + h.s.length) h.k.length := by
    rw [kidsFrom_skip (12 + h.s.length) 0 (by omega) (by omega) (fun j _ hj => by
      obtain ⟨p0, p1, p2, p3, _⟩ := pOf_cls gd j (by omega)
      rcases Nat.eq_zero_or_pos j with e | e
      · rw [p0 e]; omega
      · rcases Nat.lt_or_ge j 8 with a | a
        · rw [p1 (by omega) (by omega)]; omega
        · rcases Nat.lt_or_ge j (8 + h.s.length) with b | b
          · rw [p2 a b]; omega
          · rw [p3 b (by omega)]; omega)]
    rw [kids_block h.k.length (12 + h.s.length) (by omega) (fun i hi => (pOf_cls gd (12 + h.s.length + i) (by omega)).2.2.2.2 (by omega))]
    rw [kidsFrom_end _ _ _ (by omega)]
    simp
  have hc : cont hdS (hIts h) (11 + h.s.length) (ls 0) = pcsL h.k := by
    unfold cont
    rw [hk, enc_block gd _ h.k (12 + h.s.length) (fun i hi => ⟨at_K h i hi, by omega, by omega, by omega⟩)]
    rfl
  rw [enc_eq hdS N.up hit, hc]
  rfl

theorem enc_header {h : Hd} (gd : HGood h) : enc hdS (hIts h) 0 = packL h := by
  have N := noFault_of (hIts_flt gd)
  have hit : (hIts h)[0]? = some (ls (-1)) := at_A h 0 (by omega)
  have hlen := hIts_len h
  have hk : kidsFrom (hIts h) ((0 : Nat) : Int) 0 = List.range' 1 7 ++ List.range' (8 + h.s.length) 4 := by
    rw [kidsFrom_skip 1 0 (by omega) (by omega) (fun j _ hj => by rw [(pOf_cls gd j (by omega)).1 (by omega)]; omega)]
    rw [kids_block (x := ((0 : Nat) : Int)) 7 1 (by omega) (fun i hi => (pOf_cls gd (1 + i) (by omega)).2.1 (by omega) (by omega))]
    rw [kidsFrom_skip (8 + h.s.length) (1 + 7) (by omega) (by omega) (fun j h1 h2 => by rw [(pOf_cls gd j (by omega)).2.2.1 (by omega) h2]; omega)]
    rw [kids_block (x := ((0 : Nat) : Int)) 4 (8 + h.s.length) (by omega) (fun i hi => (pOf_cls gd (8 + h.s.length + i) (by omega)).2.2.2.1 (by omega) (by omega))]
    rw [kidsFrom_nil (fun j hj1 hj2 => by
      rw [hlen] at hj2
      rw [(pOf_cls gd j hj2).2.2.2.2 (by omega)]; omega)]
    simp
  have e1 := enc_leaf gd (j := 1) (p := 0) (z := h.p) (by omega) (by omega) (by omega) (at_A h 1 (by omega))
  have e2 := enc_leaf gd (j := 2) (p := 0) (z := shortF 7 h.n1) (by omega) (by omega) (by omega) (at_A h 2 (by omega))
  have e3 := enc_leaf gd (j := 3) (p := 0) (z := shortF 7 h.n2) (by omega) (by omega) (by omega) (at_A h 3 (by omega))
  have e4 := enc_leaf gd (j := 4) (p := 0) (z := shortF 7 h.n3) (by omega) (by omega) (by omega) (at_A h 4 (by omega))
  have e5 := enc_leaf gd (j := 5) (p := 0) (z := h.t) (by omega) (by omega) (by omega) (at_A h 5 (by omega))
  have e6 := enc_leaf gd (j := 6) (p := 0) (z := shortF 7 h.n5) (by omega) (by omega) (by omega) (at_A h 6 (by omega))
  have e7 := enc_list7 gd
  have e8 := enc_leaf gd (j := 8 + h.s.length) (p := 0) (z := h.r) (by omega) (by omega) (by omega) (by have := at_C h 0 (by omega); exact this)
  have e9 := enc_leaf gd (j := 8 + h.s.length + 1) (p := 0) (z := h.g) (by omega) (by omega) (by omega) (at_C h 1 (by omega))
  have e10 := enc_leaf gd (j := 8 + h.s.length + 1 + 1) (p := 0) (z := h.e) (by omega) (by omega) (by omega) (at_C h 2 (by omega))
  have e11 := enc_list11 gd
  rw [show 11 + h.s.length = 8 + h.s.length + 1 + 1 + 1 by omega] at e11
  have hc : cont hdS (hIts h) 0 (ls (-1)) = bd6 h := by
    unfold cont
    rw [hk]
    have r1 : List.range' 1 7 = [1, 2, 3, 4, 5, 6, 7] := rfl
    have r2 : List.range' (8 + h.s.length) 4 = [8 + h.s.length, 8 + h.s.length + 1, 8 + h.s.length + 1 + 1, 8 + h.s.length + 1 + 1 + 1] := rfl
    rw [r1, r2]
    simp only [List.cons_append, List.nil_append, List.flatMap_cons, List.flatMap_nil, e1, e2, e3, e4, e5, e6, e7, e8, e9, e10, e11, ls]
    unfold bd6 bd5 bd4 bd3 bd2 bd1
    simp only [List.append_assoc, List.append_nil]
  rw [enc_eq hdS N.up hit, hc]
  rfl

/-- What EncodeItems answers for them. -/
theorem en_header {h : Hd} (gd : HGood h) : enCode (hIts h) = 0 ∧ enBytes (hIts h) = packL h := by
  have hl : (packL h).length ≤ 1200 := by
    have h1 := wrapL_length (bd6 h)
    have h2 := (bd_length gd).2.2.2.2.2
    unfold packL
    omega
  refine ⟨?_, ?_⟩
  · unfold enCode; rw [if_pos (hIts_flt gd), enc_header gd, if_neg (by omega)]
  · unfold enBytes; rw [enc_header gd, if_pos ⟨hIts_flt gd, hl⟩]

end Go.Proofs.YtbncoiljklagkaaDoor
