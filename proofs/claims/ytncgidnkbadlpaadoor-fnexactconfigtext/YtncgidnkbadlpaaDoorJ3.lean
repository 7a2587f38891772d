/- What is proved here: plain facts on slices of slices of bytes that a call made itself: the block of the slices, and a block of bytes for each; they hold for every program. -/
import Derived.Test.YtncgidnkbadlpaaDoorJ2
import Derived.Laws.OwnMore
import Derived.OpenShut
import Derived.WideShapes
import Derived.Test.YtncgidnkbadlpaaDoorChecked
import Derived.Test.YtncgidnkbadlpaaDoorJ1
import Derived.WalkKit
import Derived.WalkLawsBesides
import Derived.Lib.BytesEntry
import Derived.KernelRfl
import Derived.Deep.MidRow
import Derived.WalkSmall
import Derived.WalkSpells
import Derived.Deep.DeepCutAuto
import Derived.Deep.CutBlock
import Derived.Deep.RegionWith
import Derived.BigQuiet
import Derived.Deep.QuietTactic
import Derived.Lib.ItoaNum
import Derived.Deep.RegionLaw
import Derived.Deep.RegionHeld3
import Derived.Shelf.Strings.Builder1
import Derived.Shelf.Strings.Builder2
import Derived.Shelf.Strings.OnBuilder
import Derived.Shelf.Strings.BuilderF
import Derived.Shelf.Strings.BuilderK
import Derived.Shelf.Strconv.Itoa0
import Derived.Shelf.Strconv.Itoa1
import Derived.Shelf.LaysM
import Derived.Shelf.Strconv.Itoa2
import Derived.Shelf.Strconv.Itoa3
import Derived.Shelf.Strconv.Itoa4
import Derived.Test.YtncgidnkbadlpaaDoorProg
import Derived.Lib.AppendIntMem
import Derived.Lib.SmallJoins
namespace Go.Proofs.YtncgidnkbadlpaaDoor
open Go.RowKit
set_option linter.unusedVariables false
set_option maxRecDepth 100000

/-- A block that holds these values, none of it frozen. -/
def SBlk (w : World) (g : Nat) (vs : List Value) (T : TypeId) : Prop := w.heap[g]? = some (.cells vs.toArray T (0, 0))

theorem SBlk.cell {w : World} {g : Nat} {vs : List Value} {T : TypeId} (h : SBlk w g vs T) (i : Nat) : w.cell? ⟨g, i, none⟩ = vs[i]? := by
  simp [World.cell?, show w.heap[g]? = _ from h]

theorem SBlk.free {w : World} {g : Nat} {vs : List Value} {T : TypeId} (h : SBlk w g vs T) (i : Nat) : w.frozen? ⟨g, i, none⟩ = false := frozen_of_row w g i _ T h

theorem SBlk.set {w : World} {g : Nat} {vs : List Value} {T : TypeId} (h : SBlk w g vs T) (i : Nat) (x : Value) : SBlk (w.setCell ⟨g, i, none⟩ x) g (vs.set i x) T := by
  have := heap_setCell_same w g i _ T x h
  unfold SBlk
  rw [this]
  simp

theorem SBlk.lt {w : World} {g : Nat} {vs : List Value} {T : TypeId} (h : SBlk w g vs T) : g < w.heap.size := lt_of_block h

theorem SBlk.below {w w' : World} {g C : Nat} {vs : List Value} {T : TypeId} (h : SBlk w g vs T) (hb : Below C w w') (hC : g < C) : SBlk w' g vs T := by
  unfold SBlk
  rw [hb.block g hC]
  exact h

theorem SBlk.new (w : World) (vs : Array Value) (T : TypeId) : SBlk (w.alloc (.cells vs T)) w.heap.size vs.toList T := by
  unfold SBlk World.alloc
  simp

theorem SBlk.next {w : World} {g : Nat} {vs : List Value} {T : TypeId} (h : SBlk w g vs T) (o : Obj) : SBlk (w.alloc o) g vs T := h.below (below_alloc w o) h.lt

theorem SBlk.other {w : World} {g g' i : Nat} {vs : List Value} {T : TypeId} {v : Value} (h : SBlk w g vs T) (hne : g ≠ g') : SBlk (w.setCell ⟨g', i, none⟩ v) g vs T := by
  unfold SBlk
  rw [heap_setCell_other w ⟨g', i, none⟩ g v hne]
  exact h

theorem size_set' (w : World) (a : Addr) (v : Value) : (w.setCell a v).heap.size = w.heap.size := by simp [World.setCell]

theorem own_sblk {w : World} {B g n : Nat} {e : TypeId} {size : Nat} {xs : List Value} (h : w.ownsRow B e size (.slice (some ⟨g, 0, none⟩) n n) n xs) : ∃ vs, SBlk w g vs e ∧ vs.length = n * size := by
  rcases h.2 with ⟨h', _⟩ | ⟨g', cap', cur, h', hb, hg, hnc, hcm, hcs, htake⟩
  · simp at h'
  · simp only [Value.slice.injEq, Option.some.injEq, Addr.mk.injEq, and_true, true_and] at h'
    obtain ⟨rfl, rfl⟩ := h'
    exact ⟨cur.toList, by unfold SBlk; simpa using hg, by simpa using hcs⟩

/-- Of the slices 'zss' the first k lie in the block g, each with its bytes in a block of its own, all these blocks rising. -/
def BUpto (w : World) (g : Nat) (zss : List (List Int)) (k len : Nat) (T : TypeId) (C : Nat) : Prop :=
  ∃ (vs : List Value) (f : Nat → Nat), SBlk w g vs T ∧ vs.length = len ∧ (∀ i, i < k → g < f i ∧ f i < C) ∧ (∀ i j, i < j → j < k → f i < f j) ∧
    ∀ i z, i < k → zss[i]? = some z → vs[i]? = some (.slice (some ⟨f i, 0, none⟩) z.length z.length) ∧
      w.ownsRow (g + 1) 5 1 (.slice (some ⟨f i, 0, none⟩) z.length z.length) z.length (z.map (Value.int .u8))

/-- All of them. -/
def OBss (w : World) (g : Nat) (zss : List (List Int)) (T : TypeId) (C : Nat) : Prop := BUpto w g zss zss.length zss.length T C

theorem BUpto.lt {w : World} {g : Nat} {zss : List (List Int)} {k len : Nat} {T : TypeId} {C : Nat} (h : BUpto w g zss k len T C) : g < w.heap.size := by
  obtain ⟨_, _, h, _⟩ := h
  exact h.lt

theorem BUpto.below {w w' : World} {g : Nat} {zss : List (List Int)} {k len : Nat} {T : TypeId} {C : Nat} (h : BUpto w g zss k len T C) {B : Nat} (hb : Below B w w') (hB : w.heap.size ≤ B) : BUpto w' g zss k len T C := by
  obtain ⟨vs, f, h1, h2, h3, h4, h5⟩ := h
  refine ⟨vs, f, h1.below hb (Nat.lt_of_lt_of_le h1.lt hB), h2, h3, h4, fun i z hi hit => ?_⟩
  obtain ⟨q3, q4⟩ := h5 i z hi hit
  exact ⟨q3, own_below q4 hb hB⟩

theorem BUpto.zero {w : World} {g : Nat} {zss : List (List Int)} {len : Nat} {T : TypeId} {vs : List Value} {C : Nat} (h : SBlk w g vs T) (hl : vs.length = len) : BUpto w g zss 0 len T C :=
  ⟨vs, fun _ => 0, h, hl, fun i hi => absurd hi (Nat.not_lt_zero _), fun i j _ hj => absurd hj (Nat.not_lt_zero _), fun i it hi => absurd hi (Nat.not_lt_zero _)⟩

/-- What is there at the place of the next one. -/
theorem BUpto.slot {w : World} {g : Nat} {zss : List (List Int)} {k len : Nat} {T : TypeId} {C : Nat} (h : BUpto w g zss k len T C) (hk : k < len) :
    (∃ u, w.cell? ⟨g, k, none⟩ = some u) ∧ ∀ i, w.frozen? ⟨g, i, none⟩ = false := by
  obtain ⟨vs, f, h1, h2, _⟩ := h
  refine ⟨?_, fun i => h1.free i⟩
  rw [h1.cell]
  exact ⟨_, List.getElem?_eq_getElem (by omega)⟩

/-- One more. -/
theorem BUpto.step {w w2 : World} {g m : Nat} {zss : List (List Int)} {k len : Nat} {T : TypeId} {z : List Int} (h : BUpto w g zss k len T w.heap.size) (hk : k < len) (hit : zss[k]? = some z) (hb : Below w.heap.size w w2) (hm : w.heap.size ≤ m) (hm2 : m < w2.heap.size)
    (ho : w2.ownsRow (g + 1) 5 1 (.slice (some ⟨m, 0, none⟩) z.length z.length) z.length (z.map (Value.int .u8))) :
    BUpto (w2.setCell ⟨g, k, none⟩ (.slice (some ⟨m, 0, none⟩) z.length z.length)) g zss (k + 1) len T w2.heap.size := by
  have hgl := h.lt
  obtain ⟨vs, f, h1, h2, h3, h4, h5⟩ := h
  obtain ⟨q1, q2⟩ : SBlk w2 g vs T ∧ (∀ i, i < k → f i < w.heap.size) := ⟨h1.below hb h1.lt, fun i hi => (h3 i hi).2⟩
  have hlt : ∀ {v : Value} {n : Nat} {xs : List Value} {W : World}, W.ownsRow (g + 1) 5 1 v n xs → ∀ i u, (W.setCell ⟨g, i, none⟩ u).ownsRow (g + 1) 5 1 v n xs := fun h i u => ownsRow_setCell_below h (Nat.lt_succ_self g) u
  refine ⟨vs.set k (.slice (some ⟨m, 0, none⟩) z.length z.length), fun i => if i = k then m else f i, q1.set _ _, by simp [h2], fun i hi => ?_, fun i j hij hj => ?_, fun i jt hi hjt => ?_⟩
  · dsimp only
    split
    · exact ⟨by omega, hm2⟩
    · have := h3 i (by omega)
      exact ⟨this.1, Nat.lt_of_lt_of_le this.2 hb.size⟩
  · dsimp only
    rw [if_neg (by omega)]
    split
    · have := q2 i (by omega); omega
    · exact h4 i j hij (by omega)
  · dsimp only
    by_cases e : i = k
    · subst e
      rw [if_pos rfl]
      obtain rfl : jt = z := by rw [hit] at hjt; exact (Option.some.inj hjt).symm
      refine ⟨?_, hlt ho _ _⟩
      rw [List.getElem?_set_self (by omega)]
    · rw [if_neg e]
      obtain ⟨p3, p4⟩ := h5 i jt (by omega) hjt
      refine ⟨?_, hlt (own_below p4 hb (Nat.le_refl _)) _ _⟩
      rw [List.getElem?_set_ne (by omega)]; exact p3

theorem BUpto.stored {w : World} {g g' j : Nat} {zss : List (List Int)} {k len : Nat} {T : TypeId} {C : Nat} {v : Value} (h : BUpto w g zss k len T C) (hg : g' < g) : BUpto (w.setCell ⟨g', j, none⟩ v) g zss k len T C := by
  obtain ⟨vs, f, h1, h2, h3, h4, h5⟩ := h
  refine ⟨vs, f, h1.other (by omega), h2, h3, h4, fun i z hi hit => ?_⟩
  obtain ⟨q3, q4⟩ := h5 i z hi hit
  exact ⟨q3, ownsRow_setCell_below q4 (by show g' < g + 1; omega) _⟩

/-- What is owned reads so. -/
theorem OBss.row {w : World} {g : Nat} {zss : List (List Int)} {T : TypeId} {C : Nat} (h : OBss w g zss T C) (hok : ∀ z ∈ zss, z.length ≤ maxLen) (hz : ∀ z ∈ zss, ∀ x ∈ z, 0 ≤ x ∧ x ≤ 255) : BsRow w (some ⟨g, 0, none⟩) zss.length zss := by
  obtain ⟨vs, f, h1, h2, h3, h4, h5⟩ := h
  refine ⟨rfl, hok, fun _ => ⟨g, 0, rfl, fun i z hi => ?_⟩⟩
  have hil := (List.getElem?_eq_some_iff.1 hi).1
  obtain ⟨q3, q4⟩ := h5 i z hil hi
  refine ⟨some ⟨f i, 0, none⟩, z.length, z.length, ?_, BRow.own q4 (hz z (List.mem_of_getElem? hi))⟩
  rw [h1.cell]
  simpa using q3

end Go.Proofs.YtncgidnkbadlpaaDoor

/- What is proved here: plain facts on headers in a world: how an argument that is a header reads; they hold for every program. -/
namespace Go.Proofs.YtncgidnkbadlpaaDoor
open Go.RowKit
set_option linter.unusedVariables false
set_option maxRecDepth 100000

/-- A slice's three parts. -/
structure Sl where
  a : Option Addr
  n : Nat
  c : Nat

/-- The slices of a header: Parent, Target, Signers, Receipts, Signer, Seal, Commits. -/
structure HS where
  p : Sl
  t : Sl
  s : Sl
  r : Sl
  g : Sl
  e : Sl
  k : Sl

/-- A header: its bytes and numbers. -/
structure Hd where
  p : List Int
  n1 : Int
  n2 : Int
  n3 : Int
  t : List Int
  n5 : Int
  s : List (List Int)
  r : List Int
  g : List Int
  e : List Int
  k : List (List Int)

/-- The slices read as the header's bytes. -/
structure HOk (w : World) (x : HS) (h : Hd) : Prop where
  p : BRow w x.p.a x.p.n h.p
  t : BRow w x.t.a x.t.n h.t
  s : BsRow w x.s.a x.s.n h.s
  r : BRow w x.r.a x.r.n h.r
  g : BRow w x.g.a x.g.n h.g
  e : BRow w x.e.a x.e.n h.e
  k : BsRow w x.k.a x.k.n h.k

theorem HOk.below {w w' : World} {x : HS} {h : Hd} (o : HOk w x h) {B : Nat} (hb : Below B w w') (hB : w.heap.size ≤ B) : HOk w' x h :=
  ⟨o.p.below hb hB, o.t.below hb hB, o.s.below hb hB, o.r.below hb hB, o.g.below hb hB, o.e.below hb hB, o.k.below hb hB⟩

/-- None is longer than M. -/
structure HMax (x : HS) (M : Nat) : Prop where
  p : x.p.n ≤ M
  t : x.t.n ≤ M
  s : x.s.n ≤ M
  r : x.r.n ≤ M
  g : x.g.n ≤ M
  e : x.e.n ≤ M
  k : x.k.n ≤ M

def in64 (n : Int) : Prop := -9223372036854775808 ≤ n ∧ n ≤ 9223372036854775807

/-- The numbers fit. -/
structure HIn (h : Hd) : Prop where
  n1 : in64 h.n1
  n2 : in64 h.n2
  n3 : in64 h.n3
  n5 : in64 h.n5

/-- All bytes, and how many slices there are, are at most 2^20. -/
structure HSm (h : Hd) : Prop where
  p : h.p.length ≤ 1048576
  t : h.t.length ≤ 1048576
  s : h.s.length ≤ 1048576
  sz : ∀ z ∈ h.s, z.length ≤ 1048576
  r : h.r.length ≤ 1048576
  g : h.g.length ≤ 1048576
  e : h.e.length ≤ 1048576
  k : h.k.length ≤ 1048576
  kz : ∀ z ∈ h.k, z.length ≤ 1048576

/-- The eleven cells of a header. -/
def hvals (x : HS) (h : Hd) : Array Value := #[.slice x.p.a x.p.n x.p.c, .int .i64 h.n1, .int .i64 h.n2, .int .i64 h.n3, .slice x.t.a x.t.n x.t.c, .int .i64 h.n5, .slice x.s.a x.s.n x.s.c, .slice x.r.a x.r.n x.r.c, .slice x.g.a x.g.n x.g.c, .slice x.e.a x.e.n x.e.c, .slice x.k.a x.k.n x.k.c]

section
variable {H : Type} {enc : TypeId × Value → H} {P : Program} {w : World} {sp : Nat → Bool} {held : Bool}

/-- A field that is a slice of bytes. -/
theorem field_bytes {ts tu : TypeId} {fuel : Nat} {v : Value} {y : DataW H × List MemPlace} (us : P.underlying ts = some (.slice tu)) (uu : P.underlying tu = some (.int .u8)) (cu : P.cellsOf tu = 1)
    (h : DataW.trod enc P w 0 sp held fuel ts [v] = some y) : ∃ (x : Sl) (z : List Int), v = .slice x.a x.n x.c ∧ x.n ≤ maxLen ∧ BRow w x.a x.n z := by
  rcases ChangeShapes.open_ints us uu cu h with ⟨e2, _⟩ | ⟨sa, sl, sc, zs, e2, _, hsl, hsm, hzl, _, hzc, hzw⟩
  · simp only [List.cons.injEq, and_true] at e2
    subst e2
    exact ⟨⟨none, 0, 0⟩, [], rfl, Nat.zero_le _, rfl, fun n hn => by simp at hn, fun _ => rfl, fun y hy => by cases hy⟩
  · simp only [List.cons.injEq, and_true] at e2
    subst e2
    have hzl' : sl ≤ zs.length := by rw [hzl]; split <;> omega
    refine ⟨⟨some sa, sl, sc⟩, zs.take sl, rfl, Nat.le_trans hsl hsm, by simp; omega, fun n hn => ?_, (fun e => (by cases e)), fun y hy j hj => ?_⟩
    · exact bounds_u8 (hzw n (List.mem_of_mem_take hn))
    · cases hy
      have hj' : j < sl := hj
      rw [hzc j (by omega), getD_at _ j (by omega), getD_at _ j (by simp; omega), List.getElem_take]

/-- A field that is a slice of slices of bytes. -/
theorem field_bss {t ts tu : TypeId} {fuel : Nat} {v : Value} {y : DataW H × List MemPlace} (ut : P.underlying t = some (.slice ts)) (us : P.underlying ts = some (.slice tu)) (cs : P.cellsOf ts = 1) (uu : P.underlying tu = some (.int .u8)) (cu : P.cellsOf tu = 1)
    (h : DataW.trod enc P w 0 sp held fuel t [v] = some y) : ∃ (x : Sl) (z : List (List Int)), v = .slice x.a x.n x.c ∧ x.n ≤ maxLen ∧ BsRow w x.a x.n z := by
  have hv : ∃ a len cap, v = .slice a len cap := by
    rcases DataW.trod_slice ut h with ⟨hn, _⟩ | ⟨x, len', cap', elems, rest, n, _, hcs, _⟩
    · simp only [List.cons.injEq, and_true] at hn; exact ⟨_, _, _, hn⟩
    · simp only [List.cons.injEq, and_true] at hcs; exact ⟨_, _, _, hcs⟩
  obtain ⟨a, len, cap, rfl⟩ := hv
  obtain ⟨d, ps⟩ := y
  obtain ⟨zss, h1, h2⟩ := read_bss ut us cs cu uu h
  exact ⟨⟨a, len, cap⟩, zss, rfl, h1, h2⟩

theorem field_int {t : TypeId} {fuel : Nat} {v : Value} {y : DataW H × List MemPlace} (ut : P.underlying t = some (.int .i64)) (h : DataW.trod enc P w 0 sp held fuel t [v] = some y) : ∃ n, v = .int .i64 n ∧ in64 n := by
  obtain ⟨n, e, _, hwf⟩ := DataW.trod_int ut h
  simp only [List.cons.injEq, and_true] at e
  exact ⟨n, e, bounds_i64 hwf⟩

/-- How an argument that is a header reads. -/
theorem open_header {t tb ti tl tu : TypeId} {fs : Array Field} {f0 f1 f2 f3 f4 f5 f6 f7 f8 f9 f10 : Field} {v : Value} {d : DataW H} {ps : List MemPlace}
    (ht : P.underlying t = some (.struct fs)) (hfs : fs = #[f0, f1, f2, f3, f4, f5, f6, f7, f8, f9, f10]) (hc : P.cellsOf t = 11)
    (ho : f0.offset = 0 ∧ f1.offset = 1 ∧ f2.offset = 2 ∧ f3.offset = 3 ∧ f4.offset = 4 ∧ f5.offset = 5 ∧ f6.offset = 6 ∧ f7.offset = 7 ∧ f8.offset = 8 ∧ f9.offset = 9 ∧ f10.offset = 10)
    (hty : f0.type = tb ∧ f1.type = ti ∧ f2.type = ti ∧ f3.type = ti ∧ f4.type = tb ∧ f5.type = ti ∧ f6.type = tl ∧ f7.type = tb ∧ f8.type = tb ∧ f9.type = tb ∧ f10.type = tl)
    (ub : P.underlying tb = some (.slice tu)) (uu : P.underlying tu = some (.int .u8)) (ui : P.underlying ti = some (.int .i64)) (ul : P.underlying tl = some (.slice tb))
    (cb : P.cellsOf tb = 1) (ci : P.cellsOf ti = 1) (cl : P.cellsOf tl = 1) (cu : P.cellsOf tu = 1)
    (hv : ∃ cs, v = .agg cs ∧ cs.size = P.cellsOf t) (h : DataW.Trod enc P w 0 sp held t v d ps) :
    ∃ (x : HS) (y : Hd), v = .agg (hvals x y) ∧ HOk w x y ∧ HMax x maxLen ∧ HIn y := by
  obtain ⟨cs, rfl, hsz⟩ := hv
  obtain ⟨fuel, h⟩ := h
  have h' : DataW.trod enc P w 0 sp held fuel t cs.toList = some (d, ps) := h
  obtain ⟨l⟩ := cs
  rw [hc] at hsz
  have hl : l.length = 11 := by simpa using hsz
  match l, hl with
  | [v0, v1, v2, v3, v4, v5, v6, v7, v8, v9, v10], _ =>
    subst hfs
    obtain ⟨xs, m, _, _, _, hxl, hf⟩ := DataW.trod_struct ht h'
    have hs : xs.length = 11 := by rw [hxl]; rfl
    obtain ⟨o0, o1, o2, o3, o4, o5, o6, o7, o8, o9, o10⟩ := ho
    obtain ⟨y0, y1, y2, y3, y4, y5, y6, y7, y8, y9, y10⟩ := hty
    have g0 := hf 0 f0 rfl
    have g1 := hf 1 f1 rfl
    have g2 := hf 2 f2 rfl
    have g3 := hf 3 f3 rfl
    have g4 := hf 4 f4 rfl
    have g5 := hf 5 f5 rfl
    have g6 := hf 6 f6 rfl
    have g7 := hf 7 f7 rfl
    have g8 := hf 8 f8 rfl
    have g9 := hf 9 f9 rfl
    have g10 := hf 10 f10 rfl
    rw [List.getElem?_eq_getElem (by omega)] at g0 g1 g2 g3 g4 g5 g6 g7 g8 g9 g10
    rw [y0, o0, cb] at g0
    rw [y1, o1, ci] at g1
    rw [y2, o2, ci] at g2
    rw [y3, o3, ci] at g3
    rw [y4, o4, cb] at g4
    rw [y5, o5, ci] at g5
    rw [y6, o6, cl] at g6
    rw [y7, o7, cb] at g7
    rw [y8, o8, cb] at g8
    rw [y9, o9, cb] at g9
    rw [y10, o10, cl] at g10
    simp only [List.drop_zero, List.drop_succ_cons, List.take_succ_cons, List.take_zero] at g0 g1 g2 g3 g4 g5 g6 g7 g8 g9 g10
    obtain ⟨x0, z0, e0, l0, r0⟩ := field_bytes ub uu cu g0
    obtain ⟨n1, e1, i1⟩ := field_int ui g1
    obtain ⟨n2, e2, i2⟩ := field_int ui g2
    obtain ⟨n3, e3, i3⟩ := field_int ui g3
    obtain ⟨x4, z4, e4, l4, r4⟩ := field_bytes ub uu cu g4
    obtain ⟨n5, e5, i5⟩ := field_int ui g5
    obtain ⟨x6, z6, e6, l6, r6⟩ := field_bss ul ub cb uu cu g6
    obtain ⟨x7, z7, e7, l7, r7⟩ := field_bytes ub uu cu g7
    obtain ⟨x8, z8, e8, l8, r8⟩ := field_bytes ub uu cu g8
    obtain ⟨x9, z9, e9, l9, r9⟩ := field_bytes ub uu cu g9
    obtain ⟨x10, z10, e10, l10, r10⟩ := field_bss ul ub cb uu cu g10
    subst e0 e1 e2 e3 e4 e5 e6 e7 e8 e9 e10
    exact ⟨⟨x0, x4, x6, x7, x8, x9, x10⟩, ⟨z0, n1, n2, n3, z4, n5, z6, z7, z8, z9, z10⟩, rfl, ⟨r0, r4, r6, r7, r8, r9, r10⟩, ⟨l0, l4, l6, l7, l8, l9, l10⟩, ⟨i1, i2, i3, i5⟩⟩
end

end Go.Proofs.YtncgidnkbadlpaaDoor

/- What is proved here: what the program's IsAhead and the model's l1Ahead answer, for slices of bytes of any length: whether the first is less than the second, byte by byte. -/
namespace Go.Proofs.YtncgidnkbadlpaaDoor
open Go.RowKit
set_option linter.unusedVariables false
set_option maxRecDepth 100000

/-- Whether the first list of bytes is less than the second. -/
def aheadB (xs ys : List Int) : Bool := Op.bytesLess (strOfNums xs).toList (strOfNums ys).toList

theorem less_of_compare : ∀ (l m : List UInt8), decide (Lib.compareBytes l m < 0) = Op.bytesLess l m
  | [], [] => by simp [Lib.compareBytes, Op.bytesLess]
  | [], _ :: _ => by simp [Lib.compareBytes, Op.bytesLess]
  | _ :: _, [] => by simp [Lib.compareBytes, Op.bytesLess]
  | x :: a, y :: b => by
    have ih := less_of_compare a b
    unfold Lib.compareBytes Op.bytesLess
    by_cases h1 : x < y
    · simp [h1]
    · by_cases h2 : y < x
      · have hne : (x == y) = false := by
          rw [beq_eq_false_iff_ne]; intro e; subst e; exact h1 h2
        simp [h1, h2, hne]
      · have e : x = y := UInt8.le_antisymm (UInt8.not_lt.1 h2) (UInt8.not_lt.1 h1)
        subst e
        simp [h1, ih]

theorem run_bytesOf {P : Program} (w : World) (a : Option Addr) (len cap : Nat) (xs : List Int) (h : BRow w a len xs) :
    (Extern.Bytes.bytesOf (.slice a len cap)).run P w = .ok ⟨(Lib.bytesOf xs).toArray⟩ w := by
  cases a with
  | none =>
    have h0 := h.2.2.1 rfl
    have hx : xs = [] := List.length_eq_zero_iff.1 (by rw [h.1]; exact h0)
    subst hx
    rfl
  | some x =>
    have hl := Lib.run_loadBytesX (P := P) w xs x .empty (fun j y hj => by
      have hjl : j < xs.length := (List.getElem?_eq_some_iff.1 hj).1
      rw [h.2.2.2 x rfl j (by rw [← h.1]; exact hjl), List.getD_eq_getElem?_getD, hj]
      rfl)
    rw [h.1] at hl
    show (Extern.Bytes.loadBytes x len .empty).run P w = _
    rw [hl]
    congr 1
    apply ByteArray.ext
    show (#[] : Array UInt8) ++ (Lib.bytesOf xs).toArray = (Lib.bytesOf xs).toArray
    simp

theorem run_compare {P : Program} (w : World) (a b : Option Addr) (la ca lb cb : Nat) (xs ys : List Int) (ha : BRow w a la xs) (hb : BRow w b lb ys) :
    (Extern.BytealgCompare.compare #[.slice a la ca, .slice b lb cb]).run P w = .ok (.int .i64 (Lib.compareBytes (Lib.bytesOf xs) (Lib.bytesOf ys))) w := by
  change Sem.run P (do pure (goInt (Extern.BytealgCompare.cmp (← Extern.Bytes.bytesOf (.slice a la ca)) (← Extern.Bytes.bytesOf (.slice b lb cb))))) w = _
  simp only [Sem.run_bind, run_bytesOf w a la ca xs ha, run_bytesOf w b lb cb ys hb, Sem.run_pure, Result.andThen]
  rw [Lib.cmp_eq]
  rfl

end Go.Proofs.YtncgidnkbadlpaaDoor

/- What is proved here: plain facts on the fault of a list of signers; no program is named. -/
namespace Go.Proofs.YtncgidnkbadlpaaDoor
open Go.RowKit
set_option linter.unusedVariables false
set_option maxRecDepth 100000

/-- Whether the signer at a place has a fault: no address, or not behind the one ahead. -/
def sgBad (zss : List (List Int)) (k : Nat) (z : List Int) : Bool := z.length != 4 || (decide (0 < k) && !aheadB (zss.getD (k - 1) []) z)

/-- The first fault among the signers from a place on. -/
def sgFrom (zss : List (List Int)) : Nat → List (List Int) → Int
  | _, [] => 0
  | k, z :: r => if sgBad zss k z = true then 1 else sgFrom zss (k + 1) r

def sgFlt (zss : List (List Int)) : Int := if 7 < zss.length then 2 else sgFrom zss 0 zss

theorem sgFrom_step (zss : List (List Int)) (k : Nat) (z : List Int) (h : zss[k]? = some z) : sgFrom zss k (zss.drop k) = if sgBad zss k z = true then 1 else sgFrom zss (k + 1) (zss.drop (k + 1)) := by
  obtain ⟨hk, e⟩ := List.getElem?_eq_some_iff.1 h
  rw [List.drop_eq_getElem_cons hk, e]
  rfl

theorem sgFrom_end (zss : List (List Int)) (k : Nat) (h : zss.length ≤ k) : sgFrom zss k (zss.drop k) = 0 := by
  rw [List.drop_eq_nil_of_le h]; rfl

theorem sgFrom_cases (zss : List (List Int)) : ∀ (r : List (List Int)) (k : Nat), sgFrom zss k r = 0 ∨ sgFrom zss k r = 1
  | [], k => .inl rfl
  | z :: r, k => by
    unfold sgFrom
    split
    · exact .inr rfl
    · exact sgFrom_cases zss r (k + 1)

theorem sgFlt_cases (zss : List (List Int)) : sgFlt zss = 0 ∨ sgFlt zss = 1 ∨ sgFlt zss = 2 := by
  unfold sgFlt
  split
  · omega
  · rcases sgFrom_cases zss zss 0 with h | h <;> omega

end Go.Proofs.YtncgidnkbadlpaaDoor

/- What is proved here: plain facts on the fault of a header, and the eleven cells of one; no program is named. -/
namespace Go.Proofs.YtncgidnkbadlpaaDoor
open Go.RowKit
set_option linter.unusedVariables false
set_option maxRecDepth 100000

theorem hcells {W : World} {g : Nat} {x : HS} {h : Hd} {T : TypeId} (b : SBlk W g (hvals x h).toList T) : W.cell? ⟨g, 0, none⟩ = some (.slice x.p.a x.p.n x.p.c) ∧ W.cell? ⟨g, 1, none⟩ = some (.int .i64 h.n1) ∧ W.cell? ⟨g, 2, none⟩ = some (.int .i64 h.n2) ∧ W.cell? ⟨g, 3, none⟩ = some (.int .i64 h.n3) ∧ W.cell? ⟨g, 4, none⟩ = some (.slice x.t.a x.t.n x.t.c) ∧ W.cell? ⟨g, 5, none⟩ = some (.int .i64 h.n5) ∧ W.cell? ⟨g, 6, none⟩ = some (.slice x.s.a x.s.n x.s.c) ∧ W.cell? ⟨g, 7, none⟩ = some (.slice x.r.a x.r.n x.r.c) ∧ W.cell? ⟨g, 8, none⟩ = some (.slice x.g.a x.g.n x.g.c) ∧ W.cell? ⟨g, 9, none⟩ = some (.slice x.e.a x.e.n x.e.c) ∧ W.cell? ⟨g, 10, none⟩ = some (.slice x.k.a x.k.n x.k.c) :=
  ⟨b.cell 0, b.cell 1, b.cell 2, b.cell 3, b.cell 4, b.cell 5, b.cell 6, b.cell 7, b.cell 8, b.cell 9, b.cell 10⟩

theorem srange {W : World} {g : Nat} {vs : List Value} {T : TypeId} (b : SBlk W g vs T) : W.rangeAt g 0 vs := fun j v hj => by
  rw [Nat.zero_add, b.cell j]; exact hj

/-- Whether a field has a wrong number of bytes. -/
def hdLen (h : Hd) : Bool := ((h.p.length : Int) != 32) || (((h.t.length : Int) != 0) && ((h.t.length : Int) != 4)) || ((h.r.length : Int) != 32) || ((h.g.length : Int) != 4) || (((h.e.length : Int) != 0) && ((h.e.length : Int) != 4))

def within (n lo hi : Int) : Bool := decide (lo ≤ n ∧ n ≤ hi)

/-- Whether all numbers lie within their bounds. -/
def hdNum (h : Hd) : Bool := within h.n1 0 1099511627776 && within h.n2 0 1099511627776 && within h.n3 0 9 && within h.n5 0 2

/-- The fault of the commits from a place on. -/
def coFrom : List (List Int) → Int
  | [] => 0
  | z :: r => if z.length = 8 then coFrom r else 1

def coFlt (zss : List (List Int)) : Int := if 7 < zss.length then 2 else coFrom zss

/-- The fault of a header. -/
def hdFlt (h : Hd) : Int := if hdLen h = true then 1 else if hdNum h = false then 3 else if sgFlt h.s = 0 then coFlt h.k else sgFlt h.s

theorem coFrom_step (zss : List (List Int)) (k : Nat) (z : List Int) (h : zss[k]? = some z) : coFrom (zss.drop k) = if z.length = 8 then coFrom (zss.drop (k + 1)) else 1 := by
  obtain ⟨hk, e⟩ := List.getElem?_eq_some_iff.1 h
  rw [List.drop_eq_getElem_cons hk, e]
  rfl

theorem coFrom_end (zss : List (List Int)) (k : Nat) (h : zss.length ≤ k) : coFrom (zss.drop k) = 0 := by
  rw [List.drop_eq_nil_of_le h]; rfl

end Go.Proofs.YtncgidnkbadlpaaDoor

/- What is proved here: what the program's SignersFault answers: the first fault of a list of signers. -/
namespace Go.Proofs.YtncgidnkbadlpaaDoor
open Go.RowKit
set_option linter.unusedVariables false
set_option maxRecDepth 100000

end Go.Proofs.YtncgidnkbadlpaaDoor

/- What is proved here: what the program's HeaderFault answers, and what it calls: the fault of a header. -/
namespace Go.Proofs.YtncgidnkbadlpaaDoor
open Go.RowKit
set_option linter.unusedVariables false
set_option maxRecDepth 100000

theorem isWithin_any (v lo hi : Int) (w : World) : Calls Tryd.prog 21 #[.int .i64 v, .int .i64 lo, .int .i64 hi] w fun e w' => e = .returned (.bool (within v lo hi)) ∧ w' = w := by
  unfold within
  by_cases h0 : lo ≤ v
  · have e0 : decide (lo ≤ v) = true := decide_eq_true h0
    by_cases h1 : v ≤ hi
    · have e1 : decide (v ≤ hi) = true := decide_eq_true h1
      have e : decide (lo ≤ v ∧ v ≤ hi) = true := decide_eq_true ⟨h0, h1⟩
      rw [e]
      clear e
      go_enter Tryd.func21, Tryd.ntmps21
      go_wp2_with fail
      go_ret
      exact ⟨rfl, rfl⟩
    · have e1 : decide (v ≤ hi) = false := decide_eq_false h1
      have e : decide (lo ≤ v ∧ v ≤ hi) = false := decide_eq_false (fun h => h1 h.2)
      rw [e]
      clear e
      go_enter Tryd.func21, Tryd.ntmps21
      go_wp2_with fail
      go_ret
      exact ⟨rfl, rfl⟩
  · have e0 : decide (lo ≤ v) = false := decide_eq_false h0
    have e : decide (lo ≤ v ∧ v ≤ hi) = false := decide_eq_false (fun h => h0 h.1)
    rw [e]
    clear e
    go_enter Tryd.func21, Tryd.ntmps21
    go_wp2_with fail
    go_ret
    exact ⟨rfl, rfl⟩

theorem isWithin_to (v lo hi : Int) (c : Bool) (w : World) (e : within v lo hi = c) : Calls Tryd.prog 21 #[.int .i64 v, .int .i64 lo, .int .i64 hi] w fun e w' => e = .returned (.bool c) ∧ w' = w := by
  subst e; exact isWithin_any v lo hi w

end Go.Proofs.YtncgidnkbadlpaaDoor

/- What is proved here: what the model's l5Signers answers: the first fault of a list of signers. -/
namespace Go.Proofs.YtncgidnkbadlpaaDoor
open Go.RowKit
set_option linter.unusedVariables false
set_option maxRecDepth 100000

end Go.Proofs.YtncgidnkbadlpaaDoor

/- What is proved here: what the model's l1In answers: whether a number lies within two bounds. -/
namespace Go.Proofs.YtncgidnkbadlpaaDoor
open Go.RowKit
set_option linter.unusedVariables false
set_option maxRecDepth 100000

theorem in_yes (v lo hi : Int) (w : World) (h0 : lo ≤ v) (h1 : v ≤ hi) : Calls Tryd.prog 15 #[.int .i64 v, .int .i64 lo, .int .i64 hi] w fun e w' => e = .returned (.bool true) ∧ w' = w := by
  have e0 : decide (lo ≤ v) = true := decide_eq_true h0
  have e1 : decide (v ≤ hi) = true := decide_eq_true h1
  go_enter Tryd.func15, Tryd.ntmps15
  go_wp2
  go_ret
  exact ⟨ret_bool (by simp), rfl⟩

set_option maxHeartbeats 1000000 in
theorem in_no (v lo hi : Int) (w : World) (h : v < lo ∨ hi < v) : Calls Tryd.prog 15 #[.int .i64 v, .int .i64 lo, .int .i64 hi] w fun e w' => e = .returned (.bool false) ∧ w' = w := by
  by_cases h0 : lo ≤ v
  · have e0 : decide (lo ≤ v) = true := decide_eq_true h0
    have e1 : decide (v ≤ hi) = false := decide_eq_false (by omega)
    go_enter Tryd.func15, Tryd.ntmps15
    go_wp2
    go_ret
    exact ⟨ret_bool (by simp), rfl⟩
  · have e0 : decide (lo ≤ v) = false := decide_eq_false h0
    go_enter Tryd.func15, Tryd.ntmps15
    go_wp2
    go_ret
    exact ⟨ret_bool (by simp), rfl⟩

/-- Whether a number is a word. -/
def isWord (v : Int) : Bool := decide (0 ≤ v ∧ v ≤ 4294967295)

theorem in_any (v lo hi : Int) (w : World) : Calls Tryd.prog 15 #[.int .i64 v, .int .i64 lo, .int .i64 hi] w fun e w' => e = .returned (.bool (decide (lo ≤ v ∧ v ≤ hi))) ∧ w' = w := by
  by_cases h : lo ≤ v ∧ v ≤ hi
  · rw [decide_eq_true h]; exact in_yes v lo hi w h.1 h.2
  · rw [decide_eq_false h]; exact in_no v lo hi w (by omega)

end Go.Proofs.YtncgidnkbadlpaaDoor

/- What is proved here: what the model's l5Number, l5Fault and HeaderFault answer: the fault of a header. -/
namespace Go.Proofs.YtncgidnkbadlpaaDoor
open Go.RowKit
set_option linter.unusedVariables false
set_option maxRecDepth 100000

end Go.Proofs.YtncgidnkbadlpaaDoor

/- What is proved here: what ConfigFault and IsCheckpoint answer, in the program and in the model; the laws' copy of a setting; how an argument that is a setting reads. -/
namespace Go.Proofs.YtncgidnkbadlpaaDoor
open Go.RowKit
set_option linter.unusedVariables false
set_option maxRecDepth 100000

/-- A setting: mode, period, epoch. -/
abbrev Cf := Int × Int × Int
def cfvals (x : Cf) : Array Value := #[.int .i64 x.1, .int .i64 x.2.1, .int .i64 x.2.2]

/-- The fault of a setting. -/
def cfFlt (x : Cf) : Int := if within x.1 1 2 = true ∧ within x.2.1 1 100 = true ∧ within x.2.2 1 100 = true then 0 else 3

/-- Whether a block is a checkpoint. -/
def cfCk (x : Cf) (n : Int) : Bool := decide (cfFlt x = 0) && within n 0 1099511627776 && decide (n % x.2.2 = 0)

theorem cf_field {H : Type} {enc : TypeId × Value → H} {w : World} {sp : Nat → Bool} {held : Bool} {t u : TypeId} {fs : Array Field} {fuel : Nat} {cs : List Value} {y : DataW H × List MemPlace} (ht : Tryd.prog.underlying t = some (.struct fs)) (h : DataW.trod enc Tryd.prog w 0 sp held fuel t cs = some y) (i : Nat) (f : Field) (hf : fs[i]? = some f) (hu : f.type = u) {o : Nat} (ho : f.offset = o) (ut : Tryd.prog.underlying u = some (.int .i64)) (hc : Tryd.prog.cellsOf u = 1) (hl : o + 1 ≤ cs.length) :
    ∃ n, (cs.drop o).take 1 = [.int .i64 n] := by
  obtain ⟨d, ps⟩ := y
  obtain ⟨xs, m, _, _, _, hxl, hfs⟩ := DataW.trod_struct ht h
  have g := hfs i f hf
  have hi : i < xs.length := by rw [hxl]; exact (Array.getElem?_eq_some_iff.1 hf).1
  rw [List.getElem?_eq_getElem hi, hu, ho, hc] at g
  have hl1 : ((cs.drop o).take 1).length = 1 := by rw [List.length_take, List.length_drop]; omega
  generalize (cs.drop o).take 1 = l at g hl1
  match l, hl1 with
  | [v], _ =>
    obtain ⟨n, rfl, hn⟩ := field_int ut g
    exact ⟨n, rfl⟩

theorem open_config {H : Type} {enc : TypeId × Value → H} {w : World} {sp : Nat → Bool} {held : Bool} {v : Value} {d : DataW H} {ps : List MemPlace} (hv : ∃ cs, v = .agg cs ∧ cs.size = Tryd.prog.cellsOf 23) (h : DataW.Trod enc Tryd.prog w 0 sp held 23 v d ps) :
    ∃ x, v = .agg (cfvals x) := by
  obtain ⟨cs, rfl, hs⟩ := hv
  obtain ⟨fuel, h⟩ := h
  have h' : DataW.trod enc Tryd.prog w 0 sp held fuel 23 cs.toList = some (d, ps) := h
  have h3 : Tryd.prog.cellsOf 23 = 3 := by kernel_rfl
  have hl : cs.toList.length = 3 := by rw [Array.length_toList, hs, h3]
  obtain ⟨m, q0⟩ := cf_field Tryd.underlying23 h' 0 _ rfl rfl (o := 0) rfl Tryd.underlying2 (by kernel_rfl) (by omega)
  obtain ⟨p, q1⟩ := cf_field Tryd.underlying23 h' 1 _ rfl rfl (o := 1) rfl Tryd.underlying2 (by kernel_rfl) (by omega)
  obtain ⟨e, q2⟩ := cf_field Tryd.underlying23 h' 2 _ rfl rfl (o := 2) rfl Tryd.underlying2 (by kernel_rfl) (by omega)
  refine ⟨(m, p, e), ?_⟩
  obtain ⟨l⟩ := cs
  match l, hl with
  | [a, b, c], _ =>
    simp at q0 q1 q2
    subst q0 q1 q2
    rfl

set_option maxHeartbeats 4000000 in
theorem toConfig_any (x : Cf) (w : World) : Calls Tryd.prog 5 #[.agg (cfvals x)] w fun r w' => r = .returned (.agg (cfvals x)) ∧ Below w.heap.size w w' := by
  obtain ⟨m, p, e⟩ := x
  unfold cfvals
  go_enter Tryd.func5, Tryd.ntmps5
  go_wp2
  refine bodyPost_ret (v := .agg #[.int .i64 m, .int .i64 p, .int .i64 e]) (by simp [results, Tryd.results5, go_sem]) rfl ⟨rfl, ?_⟩
  exact (((Below.refl _ _).alloc (Nat.le_refl _) _).alloc (by simp) _).alloc (by simp; omega) _

theorem isSpan_to (v : Int) (c : Bool) (w : World) (e : within v 1 100 = c) : Calls Tryd.prog 16 #[.int .i64 v] w fun e w' => e = .returned (.bool c) ∧ w' = w := by
  have HI := hide (isWithin_to v 1 100 c w e)
  clear e
  go_enter Tryd.func16, Tryd.ntmps16
  go_wp2_with fail
  refine (unhide HI).mono ?_
  rintro e w' ⟨rfl, rfl⟩
  go_wp2_with fail
  go_ret
  exact ⟨rfl, rfl⟩

theorem within_two {m : Int} : within m 1 2 = (m == 1 || m == 2) := by
  unfold within
  by_cases h : 1 ≤ m ∧ m ≤ 2
  · rw [decide_eq_true h]
    have : m = 1 ∨ m = 2 := by omega
    rcases this with rfl | rfl <;> rfl
  · rw [decide_eq_false h]
    have h1 : (m == 1) = false := by rw [beq_eq_false_iff_ne]; omega
    have h2 : (m == 2) = false := by rw [beq_eq_false_iff_ne]; omega
    rw [h1, h2]; rfl

set_option maxHeartbeats 4000000 in
theorem implConfigFault_any (x : Cf) (w : World) : Calls Tryd.prog 10 #[.agg (cfvals x)] w fun r w' => r = .returned (.int .i64 (cfFlt x)) ∧ Below w.heap.size w w' := by
  obtain ⟨m, p, e⟩ := x
  unfold cfvals cfFlt
  simp only
  rw [within_two]
  have HP := hide (fun W => isSpan_to p _ W rfl)
  have HE := hide (fun W => isSpan_to e _ W rfl)
  generalize within p 1 100 = bp at HP ⊢
  generalize within e 1 100 = be at HE ⊢
  obtain ⟨f, hf⟩ : ∃ f : Int, f = (if (m == 1 || m == 2) = true ∧ bp = true ∧ be = true then 0 else 3) := ⟨_, rfl⟩
  rw [← hf]
  have HF := hide hf
  clear hf
  have kr := SBlk.new w #[.int .i64 m, .int .i64 p, .int .i64 e] 27
  have bb := hide (below_alloc w (.cells #[.int .i64 m, .int .i64 p, .int .i64 e] 27))
  obtain ⟨W0, e0⟩ : ∃ W, w.alloc (.cells #[.int .i64 m, .int .i64 p, .int .i64 e] 27) = W := ⟨_, rfl⟩
  rw [e0] at kr bb
  have r0 := kr.cell 0
  have r1 := kr.cell 1
  have r2 := kr.cell 2
  simp only [List.getElem?_cons_zero, List.getElem?_cons_succ] at r0 r1 r2
  clear kr
  cases h1 : (m == 1) <;> cases h2 : (m == 2)
  · go_enter Tryd.func10, Tryd.ntmps10
    go_wp2_with (rw [e0])
    go_ret
    exact ⟨by rw [unhide HF]; simp [h1, h2], unhide bb⟩
  all_goals
    cases bp
    · go_enter Tryd.func10, Tryd.ntmps10
      go_wp2_with (rw [e0])
      refine ((unhide HP) _).mono ?_
      rintro r w1 ⟨rfl, rfl⟩
      go_wp2_with fail
      go_ret
      exact ⟨by rw [unhide HF]; simp [h1, h2], unhide bb⟩
    cases be
    all_goals
      go_enter Tryd.func10, Tryd.ntmps10
      go_wp2_with (rw [e0])
      refine ((unhide HP) _).mono ?_
      rintro r w1 ⟨rfl, rfl⟩
      go_wp2_with fail
      refine ((unhide HE) _).mono ?_
      rintro r w1 ⟨rfl, rfl⟩
      go_wp2_with fail
      go_ret
      exact ⟨by rw [unhide HF]; simp [h1, h2], unhide bb⟩

set_option maxHeartbeats 4000000 in
theorem l8Fault_any (g : Nat) (x : Cf) (T : TypeId) (w : World) (sb : SBlk w g (cfvals x).toList T) : Calls Tryd.prog 8 #[.pointer (some ⟨g, 0, none⟩)] w fun r w' => r = .returned (.int .i64 (cfFlt x)) ∧ w' = w := by
  obtain ⟨m, p, e⟩ := x
  have r0 := sb.cell 0
  have r1 := sb.cell 1
  have r2 := sb.cell 2
  simp only [cfvals, List.getElem?_cons_zero, List.getElem?_cons_succ] at r0 r1 r2
  clear sb
  unfold cfFlt
  simp only
  have HM := hide (fun W => in_any m 1 2 W)
  have HP := hide (fun W => in_any p 1 100 W)
  have HE := hide (fun W => in_any e 1 100 W)
  rw [show decide (1 ≤ m ∧ m ≤ 2) = within m 1 2 from rfl] at HM
  rw [show decide (1 ≤ p ∧ p ≤ 100) = within p 1 100 from rfl] at HP
  rw [show decide (1 ≤ e ∧ e ≤ 100) = within e 1 100 from rfl] at HE
  generalize within m 1 2 = bm at HM ⊢
  generalize within p 1 100 = bp at HP ⊢
  generalize within e 1 100 = be at HE ⊢
  obtain ⟨f, hf⟩ : ∃ f : Int, f = (if bm = true ∧ bp = true ∧ be = true then 0 else 3) := ⟨_, rfl⟩
  rw [← hf]
  have HF := hide hf
  clear hf
  cases bm
  · go_enter Tryd.func8, Tryd.ntmps8
    go_wp2_with fail
    refine ((unhide HM) _).mono ?_
    rintro r w1 ⟨rfl, rfl⟩
    go_wp2_with fail
    go_ret
    exact ⟨by rw [unhide HF]; simp, rfl⟩
  cases bp
  · go_enter Tryd.func8, Tryd.ntmps8
    go_wp2_with fail
    refine ((unhide HM) _).mono ?_
    rintro r w1 ⟨rfl, rfl⟩
    go_wp2_with fail
    refine ((unhide HP) _).mono ?_
    rintro r w1 ⟨rfl, rfl⟩
    go_wp2_with fail
    go_ret
    exact ⟨by rw [unhide HF]; simp, rfl⟩
  cases be
  all_goals
    go_enter Tryd.func8, Tryd.ntmps8
    go_wp2_with fail
    refine ((unhide HM) _).mono ?_
    rintro r w1 ⟨rfl, rfl⟩
    go_wp2_with fail
    refine ((unhide HP) _).mono ?_
    rintro r w1 ⟨rfl, rfl⟩
    go_wp2_with fail
    refine ((unhide HE) _).mono ?_
    rintro r w1 ⟨rfl, rfl⟩
    go_wp2_with fail
    go_ret
    exact ⟨by rw [unhide HF]; simp, rfl⟩

/-- What is known of a setting without a fault. -/
theorem cf_ok {x : Cf} (h : cfFlt x = 0) : (x.1 = 1 ∨ x.1 = 2) ∧ (1 ≤ x.2.1 ∧ x.2.1 ≤ 100) ∧ (1 ≤ x.2.2 ∧ x.2.2 ≤ 100) := by
  unfold cfFlt at h
  split at h
  · rename_i q
    obtain ⟨q1, q2, q3⟩ := q
    unfold within at q1 q2 q3
    have := of_decide_eq_true q1
    have := of_decide_eq_true q2
    have := of_decide_eq_true q3
    omega
  · omega

end Go.Proofs.YtncgidnkbadlpaaDoor

/- What is proved here: what the model's l1Digits answers: the decimal digits of a number. -/
namespace Go.Proofs.YtncgidnkbadlpaaDoor
open Go.RowKit
set_option linter.unusedVariables false
set_option maxRecDepth 100000

theorem brow_one (W : World) (d : Int) (t : TypeId) (h0 : 0 ≤ d) (h1 : d ≤ 255) : BRow (W.alloc (.cells #[.int .u8 d] t)) (some ⟨W.heap.size, 0, none⟩) 1 [d] := by
  refine ⟨rfl, fun n hn => by simp at hn; omega, fun e => (by cases e), fun x hx i hi => ?_⟩
  cases hx
  have : i = 0 := by omega
  subst this
  have h := (SBlk.new W #[.int .u8 d] t).cell 0
  rw [add_none]
  exact h.trans rfl

theorem digit_str (r : Nat) (h : r < 10) : strOfNums [48 + (r : Int)] = ⟨#[UInt8.ofNat (48 + r)]⟩ := by
  have : r = 0 ∨ r = 1 ∨ r = 2 ∨ r = 3 ∨ r = 4 ∨ r = 5 ∨ r = 6 ∨ r = 7 ∨ r = 8 ∨ r = 9 := by omega
  rcases this with rfl | rfl | rfl | rfl | rfl | rfl | rfl | rfl | rfl | rfl <;> rfl

theorem digit_conv (W : World) (b : Nat) (d : Int) (h : BRow W (some ⟨b, 0, none⟩) 1 [d]) : (convert 42 9 (.slice (some ⟨b, 0, none⟩) 1 1)).run Tryd.prog W = .ok (.string (strOfNums [d])) W :=
  conv_any W 42 5 9 Tryd.underlying42 Tryd.underlying5 Tryd.underlying9 _ 1 1 [d] h

set_option maxHeartbeats 4000000 in
theorem l1Digits_any (n : Nat) (hn : n ≤ 1000) : ∀ w, Calls Tryd.prog 9 #[.int .i64 n] w fun e w' => e = .returned (.string ⟨(Lib.decDigits n).toArray⟩) ∧ Below w.heap.size w w' := by
  induction n using Nat.strongRecOn with
  | ind n ih =>
    intro w
    by_cases h : n < 10
    · have HS : Hid ((⟨(Lib.decDigits n).toArray⟩ : ByteArray) = strOfNums [48 + (n : Int)]) := by show _ = _; rw [Lib.decDigits, dif_pos h, digit_str n h]
      have h1 : decide ((n : Int) < 0) = false := decide_eq_false (by omega)
      have h2 : decide ((n : Int) < 10) = true := decide_eq_true (by omega)
      have CV := digit_conv _ w.heap.size (48 + (n : Int)) (brow_one w (48 + (n : Int)) 5 (by omega) (by omega))
      have HB := hide (below_alloc w (.cells #[.int .u8 (48 + (n : Int))] 5))
      clear ih
      go_enter Tryd.func9, Tryd.ntmps9
      go_wp2_with fail
      go_ret
      exact ⟨by rw [unhide HS]; rfl, unhide HB⟩
    · have HI := hide (ih (n / 10) (by omega) (by omega))
      obtain ⟨q, hq⟩ : ∃ q, q = n / 10 := ⟨_, rfl⟩
      obtain ⟨r, hr⟩ : ∃ r, r = n % 10 := ⟨_, rfl⟩
      have hr9 : r < 10 := by omega
      have HS : Hid ((⟨(Lib.decDigits n).toArray⟩ : ByteArray) = (⟨(Lib.decDigits q).toArray⟩ : ByteArray) ++ strOfNums [48 + (r : Int)]) := by
        show _ = _
        rw [Lib.decDigits, dif_neg h, ← hq, ← hr, digit_str r hr9]
        apply ByteArray.ext
        simp
      rw [← hq] at HI
      have h1 : decide ((n : Int) < 0) = false := decide_eq_false (by omega)
      have h2 : decide ((n : Int) < 10) = false := decide_eq_false (by omega)
      have d1 : (n : Int).tdiv 10 = (q : Int) := by rw [Int.tdiv_eq_ediv_of_nonneg (by omega)]; omega
      have d1' : (n : Int) / 10 = (q : Int) := by omega
      have d2 : IntKind.i64.wrap (q : Int) = (q : Int) := by rw [IntKind.wrap_i64]; omega
      have r1 : (n : Int).tmod 10 = (r : Int) := by rw [Int.tmod_eq_emod_of_nonneg (by omega)]; omega
      have r1' : (n : Int) % 10 = (r : Int) := by omega
      have r2 : IntKind.i64.wrap (r : Int) = (r : Int) := by rw [IntKind.wrap_i64]; omega
      have HL : Hid (q ≤ 100) := by show _ ≤ _; omega
      clear ih hq hr h
      have cva : ∀ W : World, (convert 42 9 (.slice (some ⟨W.heap.size, 0, none⟩) 1 1)).run Tryd.prog (W.alloc (.cells #[.int .u8 (48 + (r : Int))] 5)) = .ok (.string (strOfNums [48 + (r : Int)])) (W.alloc (.cells #[.int .u8 (48 + (r : Int))] 5)) := fun W => digit_conv _ _ _ (brow_one W _ 5 (by omega) (by omega))
      have cvd : (convert 42 9 (.slice (some ⟨w.heap.size, 0, none⟩) 1 1)).run Tryd.prog (w.alloc (.cells #[.int .u8 (48 + (r : Int))] 5)).drew = .ok (.string (strOfNums [48 + (r : Int)])) (w.alloc (.cells #[.int .u8 (48 + (r : Int))] 5)).drew := digit_conv _ _ _ ((brow_one w _ 5 (by omega) (by omega)).below (Below.refl _ _).drew (Nat.le_refl _))
      have CVB : Hid (∀ (w1 : World), Below ((w.alloc (.cells #[.int .u8 (48 + (r : Int))] 5)).drew).heap.size ((w.alloc (.cells #[.int .u8 (48 + (r : Int))] 5)).drew) w1 → (convert 42 9 (.slice (some ⟨w.heap.size, 0, none⟩) 1 1)).run Tryd.prog w1 = .ok (.string (strOfNums [48 + (r : Int)])) w1) := fun w1 b1 => digit_conv w1 _ _ (((brow_one w _ 5 (by omega) (by omega)).below (Below.refl _ _).drew (Nat.le_refl _)).below b1 (Nat.le_refl _))
      have HZ : Hid ((strOfNums [48 + (r : Int)]).size = 1) := by show _ = _; rw [strOfNums_size]; rfl
      have HZQ : Hid ((⟨(Lib.decDigits q).toArray⟩ : ByteArray).size ≤ 1000) := by
        show (Lib.decDigits q).toArray.size ≤ 1000
        have hd : ∀ m, m ≤ 1000 → (Lib.decDigits m).length ≤ m + 1 := by
          intro m
          induction m using Nat.strongRecOn with
          | ind m ihm =>
            intro hm
            rw [Lib.decDigits]
            split
            · simp
            · have := ihm (m / 10) (by omega) (by omega)
              simp; omega
        have := hd q (by have := unhide HL; omega)
        have := unhide HL
        simp; omega
      have HBA : Hid (Below w.heap.size w (w.alloc (.cells #[.int .u8 (48 + (r : Int))] 5)).drew) := ((Below.refl w.heap.size w).alloc (Nat.le_refl _) _).drew
      have HBD : Hid (Below w.heap.size w w.drew) := (Below.refl w.heap.size w).drew
      generalize (⟨(Lib.decDigits n).toArray⟩ : ByteArray) = sn at HS ⊢
      generalize (⟨(Lib.decDigits q).toArray⟩ : ByteArray) = sq at HS HI HZQ
      generalize strOfNums [48 + (r : Int)] = ds at HS cva cvd CVB HZ
      have hsz : ¬ (9223372036854775807 < sq.size + ds.size) := by have := unhide HZ; have := unhide HZQ; omega
      have wr1 : IntKind.i64.wrap (48 + (r : Int)) = 48 + (r : Int) := by rw [IntKind.wrap_i64]; omega
      have wr2 : IntKind.u8.wrap (48 + (r : Int)) = 48 + (r : Int) := by rw [IntKind.wrap_u8]; omega
      clear hn
      go_enter Tryd.func9, Tryd.ntmps9
      go_wp2_with fail
      go_region_law (first
        | (go_simp; go_at_call 9; refine ((unhide HI) _).mono ?_; rintro e w1 ⟨rfl, b1⟩; (first | (have cvc := (unhide CVB) w1 b1; have BB : Below w.heap.size w w1 := (unhide HBA).trans (b1.mono (unhide HBA).size)) | (have BB : Below w.heap.size w w1 := (unhide HBD).trans (b1.mono (unhide HBD).size)))))
      all_goals
        go_wp2_with fail
        go_ret
        first
          | exact ⟨by rw [unhide HS]; rfl, BB⟩
          | exact ⟨by rw [unhide HS]; rfl, BB.alloc BB.size _⟩

end Go.Proofs.YtncgidnkbadlpaaDoor

/- What is proved here: the bodies of some functions of Go's library in this program are those that the library of proofs knows. -/
namespace Go.Proofs
open Go.Shelf
def Tryd.lays156_ren : Go.Shelf.Ren := ⟨fun | 156 => 14 | 165 => 18 | 166 => 19 | 169 => 20 | 240 => 26 | 241 => 27 | 276 => 33 | 277 => 34 | n => n, fun | 31 => 39 | 9 => 9 | 3 => 3 | 4 => 4 | 0 => 0 | 20 => 20 | 72 => 50 | 76 => 54 | 70 => 48 | 37 => 42 | 75 => 53 | 127 => 64 | 164 => 73 | 5 => 5 | 80 => 56 | n => n, fun | n => n⟩
theorem Tryd.lays156 : Go.Proofs.Lays.n156 Tryd.prog Tryd.lays156_ren := {
  mixed := by kernel_rfl
  f156 := Tryd.func14.trans (congrArg some (by kernel_rfl))
  f165 := Tryd.func18.trans (congrArg some (by kernel_rfl))
  f166 := Tryd.func19.trans (congrArg some (by kernel_rfl))
  f169 := Tryd.func20.trans (congrArg some (by kernel_rfl))
  f240 := Tryd.func26.trans (congrArg some (by kernel_rfl))
  f241 := Tryd.func27.trans (congrArg some (by kernel_rfl))
  f276 := Tryd.func33.trans (congrArg some (by kernel_rfl))
  f277 := Tryd.func34.trans (congrArg some (by kernel_rfl))
  t0 := Tryd.underlying0
  a0 := Tryd.isAgg0
  z0 := Tryd.sizeOf0
  v0 := Tryd.zeroValue0
  t3 := Tryd.underlying3
  a3 := Tryd.isAgg3
  z3 := Tryd.sizeOf3
  v3 := Tryd.zeroValue3
  t4 := Tryd.underlying4
  a4 := Tryd.isAgg4
  z4 := Tryd.sizeOf4
  v4 := Tryd.zeroValue4
  t9 := Tryd.underlying9
  a9 := Tryd.isAgg9
  z9 := Tryd.sizeOf9
  v9 := Tryd.zeroValue9
  t20 := Tryd.underlying20
  a20 := Tryd.isAgg20
  z20 := Tryd.sizeOf20
  v20 := Tryd.zeroValue20
  t31 := Tryd.underlying39
  a31 := Tryd.isAgg39
  z31 := Tryd.sizeOf39
  v31 := Tryd.zeroValue39
  t37 := Tryd.underlying42
  a37 := Tryd.isAgg42
  z37 := Tryd.sizeOf42
  v37 := Tryd.zeroValue42
  t70 := Tryd.underlying48
  a70 := Tryd.isAgg48
  z70 := Tryd.sizeOf48
  v70 := Tryd.zeroValue48
  t72 := Tryd.underlying50
  a72 := Tryd.isAgg50
  z72 := Tryd.sizeOf50
  v72 := Tryd.zeroValue50
  t75 := Tryd.underlying53
  a75 := Tryd.isAgg53
  z75 := Tryd.sizeOf53
  v75 := Tryd.zeroValue53
  t76 := Tryd.underlying54
  a76 := Tryd.isAgg54
  z76 := Tryd.sizeOf54
  v76 := Tryd.zeroValue54
  t127 := Tryd.underlying64
  a127 := Tryd.isAgg64
  z127 := Tryd.sizeOf64
  v127 := Tryd.zeroValue64
  t164 := Tryd.underlying73
  a164 := Tryd.isAgg73
  z164 := Tryd.sizeOf73
  v164 := Tryd.zeroValue73 }
theorem Tryd.Builder_Extra_156 : Builder.Extra Tryd.prog Tryd.lays156_ren := {
  sizeBuilder := by kernel_rfl
  liesBuilder := by kernel_rfl
  t5 := Tryd.underlying5
  a5 := Tryd.isAgg5
  z5 := Tryd.sizeOf5
  v5 := Tryd.zeroValue5
  infoByte := by kernel_rfl
  cellsByte := by kernel_rfl
  sizeByte := by kernel_rfl
  neB5 := by decide }
def Tryd.laysM173_ren : Go.Shelf.Ren := ⟨fun | 173 => 13 | 246 => 17 | 283 => 22 | 284 => 23 | 285 => 24 | 286 => 25 | 129 => 29 | 317 => 28 | 318 => 30 | 319 => 31 | 320 => 32 | 337 => 35 | 338 => 36 | n => n, fun | 2 => 2 | 3 => 3 | 9 => 9 | 4 => 4 | 171 => 58 | 0 => 0 | 53 => 59 | 37 => 42 | 5 => 5 | 173 => 62 | 212 => 67 | 51 => 68 | 20 => 20 | 213 => 69 | 46 => 71 | 232 => 77 | 233 => 78 | n => n, fun | 17 => 0 | 18 => 2 | 19 => 3 | n => n⟩
theorem Tryd.laysM173 : Go.Proofs.LaysM.n173 Tryd.prog Tryd.laysM173_ren := {
  mixed := by kernel_rfl
  f129 := Tryd.func29.trans (congrArg some (by kernel_rfl))
  f173 := Tryd.func13.trans (congrArg some (by kernel_rfl))
  f246 := Tryd.func17.trans (congrArg some (by kernel_rfl))
  f283 := Tryd.func22.trans (congrArg some (by kernel_rfl))
  f284 := Tryd.func23.trans (congrArg some (by kernel_rfl))
  f285 := Tryd.func24.trans (congrArg some (by kernel_rfl))
  f286 := Tryd.func25.trans (congrArg some (by kernel_rfl))
  f317 := Tryd.func28.trans (congrArg some (by kernel_rfl))
  f318 := Tryd.func30.trans (congrArg some (by kernel_rfl))
  f319 := Tryd.func31.trans (congrArg some (by kernel_rfl))
  f320 := Tryd.func32.trans (congrArg some (by kernel_rfl))
  f337 := Tryd.func35.trans (congrArg some (by kernel_rfl))
  f338 := Tryd.func36.trans (congrArg some (by kernel_rfl))
  t0 := Tryd.underlying0
  a0 := Tryd.isAgg0
  z0 := Tryd.sizeOf0
  v0 := Tryd.zeroValue0
  t2 := Tryd.underlying2
  a2 := Tryd.isAgg2
  z2 := Tryd.sizeOf2
  v2 := Tryd.zeroValue2
  t3 := Tryd.underlying3
  a3 := Tryd.isAgg3
  z3 := Tryd.sizeOf3
  v3 := Tryd.zeroValue3
  t4 := Tryd.underlying4
  a4 := Tryd.isAgg4
  z4 := Tryd.sizeOf4
  v4 := Tryd.zeroValue4
  t5 := Tryd.underlying5
  a5 := Tryd.isAgg5
  z5 := Tryd.sizeOf5
  v5 := Tryd.zeroValue5
  t9 := Tryd.underlying9
  a9 := Tryd.isAgg9
  z9 := Tryd.sizeOf9
  v9 := Tryd.zeroValue9
  t20 := Tryd.underlying20
  a20 := Tryd.isAgg20
  z20 := Tryd.sizeOf20
  v20 := Tryd.zeroValue20
  t37 := Tryd.underlying42
  a37 := Tryd.isAgg42
  z37 := Tryd.sizeOf42
  v37 := Tryd.zeroValue42
  t46 := Tryd.underlying71
  a46 := Tryd.isAgg71
  z46 := Tryd.sizeOf71
  v46 := Tryd.zeroValue71
  t51 := Tryd.underlying68
  a51 := Tryd.isAgg68
  z51 := Tryd.sizeOf68
  v51 := Tryd.zeroValue68
  t53 := Tryd.underlying59
  a53 := Tryd.isAgg59
  z53 := Tryd.sizeOf59
  v53 := Tryd.zeroValue59
  t171 := Tryd.underlying58
  a171 := Tryd.isAgg58
  z171 := Tryd.sizeOf58
  v171 := Tryd.zeroValue58
  t173 := Tryd.underlying62
  a173 := Tryd.isAgg62
  z173 := Tryd.sizeOf62
  v173 := Tryd.zeroValue62
  t212 := Tryd.underlying67
  a212 := Tryd.isAgg67
  z212 := Tryd.sizeOf67
  v212 := Tryd.zeroValue67
  t213 := Tryd.underlying69
  a213 := Tryd.isAgg69
  z213 := Tryd.sizeOf69
  t232 := Tryd.underlying77
  a232 := Tryd.isAgg77
  z232 := Tryd.sizeOf77
  v232 := Tryd.zeroValue77
  t233 := Tryd.underlying78
  a233 := Tryd.isAgg78
  z233 := Tryd.sizeOf78
  v233 := Tryd.zeroValue78
  g17 := by kernel_rfl
  g18 := by kernel_rfl
  g19 := by kernel_rfl
  i0 := by kernel_rfl
  i2 := by kernel_rfl
  i3 := by kernel_rfl
  i4 := by kernel_rfl
  i5 := by kernel_rfl
  i9 := by kernel_rfl
  i20 := by kernel_rfl
  i37 := by kernel_rfl
  i46 := by kernel_rfl
  i51 := by kernel_rfl
  i53 := by kernel_rfl
  i171 := by kernel_rfl
  i173 := by kernel_rfl
  i212 := by kernel_rfl
  i232 := by kernel_rfl
  i233 := by kernel_rfl
  m17 := by kernel_rfl
  m18 := by kernel_rfl
  m19 := by kernel_rfl }
def Tryd.lays173_ren : Go.Shelf.Ren := ⟨fun | 173 => 13 | 246 => 17 | 283 => 22 | 284 => 23 | 285 => 24 | 286 => 25 | 129 => 29 | 317 => 28 | 318 => 30 | 319 => 31 | 320 => 32 | 337 => 35 | 338 => 36 | n => n, fun | 2 => 2 | 3 => 3 | 9 => 9 | 4 => 4 | 171 => 58 | 0 => 0 | 53 => 59 | 37 => 42 | 5 => 5 | 173 => 62 | 212 => 67 | 51 => 68 | 20 => 20 | 213 => 69 | 46 => 71 | 232 => 77 | 233 => 78 | n => n, fun | 17 => 0 | 18 => 2 | 19 => 3 | n => n⟩
theorem Tryd.lays173 : Go.Proofs.Lays.n173 Tryd.prog Tryd.lays173_ren := {
  mixed := by kernel_rfl
  f129 := Tryd.func29.trans (congrArg some (by kernel_rfl))
  f173 := Tryd.func13.trans (congrArg some (by kernel_rfl))
  f246 := Tryd.func17.trans (congrArg some (by kernel_rfl))
  f283 := Tryd.func22.trans (congrArg some (by kernel_rfl))
  f284 := Tryd.func23.trans (congrArg some (by kernel_rfl))
  f285 := Tryd.func24.trans (congrArg some (by kernel_rfl))
  f286 := Tryd.func25.trans (congrArg some (by kernel_rfl))
  f317 := Tryd.func28.trans (congrArg some (by kernel_rfl))
  f318 := Tryd.func30.trans (congrArg some (by kernel_rfl))
  f319 := Tryd.func31.trans (congrArg some (by kernel_rfl))
  f320 := Tryd.func32.trans (congrArg some (by kernel_rfl))
  f337 := Tryd.func35.trans (congrArg some (by kernel_rfl))
  f338 := Tryd.func36.trans (congrArg some (by kernel_rfl))
  t0 := Tryd.underlying0
  a0 := Tryd.isAgg0
  z0 := Tryd.sizeOf0
  v0 := Tryd.zeroValue0
  t2 := Tryd.underlying2
  a2 := Tryd.isAgg2
  z2 := Tryd.sizeOf2
  v2 := Tryd.zeroValue2
  t3 := Tryd.underlying3
  a3 := Tryd.isAgg3
  z3 := Tryd.sizeOf3
  v3 := Tryd.zeroValue3
  t4 := Tryd.underlying4
  a4 := Tryd.isAgg4
  z4 := Tryd.sizeOf4
  v4 := Tryd.zeroValue4
  t5 := Tryd.underlying5
  a5 := Tryd.isAgg5
  z5 := Tryd.sizeOf5
  v5 := Tryd.zeroValue5
  t9 := Tryd.underlying9
  a9 := Tryd.isAgg9
  z9 := Tryd.sizeOf9
  v9 := Tryd.zeroValue9
  t20 := Tryd.underlying20
  a20 := Tryd.isAgg20
  z20 := Tryd.sizeOf20
  v20 := Tryd.zeroValue20
  t37 := Tryd.underlying42
  a37 := Tryd.isAgg42
  z37 := Tryd.sizeOf42
  v37 := Tryd.zeroValue42
  t46 := Tryd.underlying71
  a46 := Tryd.isAgg71
  z46 := Tryd.sizeOf71
  v46 := Tryd.zeroValue71
  t51 := Tryd.underlying68
  a51 := Tryd.isAgg68
  z51 := Tryd.sizeOf68
  v51 := Tryd.zeroValue68
  t53 := Tryd.underlying59
  a53 := Tryd.isAgg59
  z53 := Tryd.sizeOf59
  v53 := Tryd.zeroValue59
  t171 := Tryd.underlying58
  a171 := Tryd.isAgg58
  z171 := Tryd.sizeOf58
  v171 := Tryd.zeroValue58
  t173 := Tryd.underlying62
  a173 := Tryd.isAgg62
  z173 := Tryd.sizeOf62
  v173 := Tryd.zeroValue62
  t212 := Tryd.underlying67
  a212 := Tryd.isAgg67
  z212 := Tryd.sizeOf67
  v212 := Tryd.zeroValue67
  t213 := Tryd.underlying69
  a213 := Tryd.isAgg69
  z213 := Tryd.sizeOf69
  t232 := Tryd.underlying77
  a232 := Tryd.isAgg77
  z232 := Tryd.sizeOf77
  v232 := Tryd.zeroValue77
  t233 := Tryd.underlying78
  a233 := Tryd.isAgg78
  z233 := Tryd.sizeOf78
  v233 := Tryd.zeroValue78
  g17 := by kernel_rfl
  g18 := by kernel_rfl
  g19 := by kernel_rfl }
end Go.Proofs

/- What is proved here: what ConfigText answers, in the program and in the model. -/
namespace Go.Proofs.YtncgidnkbadlpaaDoor
open Go.RowKit
set_option linter.unusedVariables false
set_option maxRecDepth 100000

def wdC : ByteArray := ⟨#[99, 111, 109, 109, 105, 116, 115]⟩
def wdT : ByteArray := ⟨#[116, 117, 114, 110, 115]⟩
def wdCs : ByteArray := ⟨#[99, 111, 109, 109, 105, 116, 115, 32]⟩
def wdTs : ByteArray := ⟨#[116, 117, 114, 110, 115, 32]⟩
def spB : ByteArray := ⟨#[32]⟩
def dgB (n : Int) : ByteArray := ⟨(Lib.decDigits n.toNat).toArray⟩
/-- The text of a setting. -/
def cfTxt (x : Cf) : ByteArray := if cfFlt x = 0 then (if x.1 = 2 then wdCs else wdTs) ++ dgB x.2.1 ++ spB ++ dgB x.2.2 else ⟨#[]⟩

/-- The table that FormatInt reads, in whatever world. -/
def Tab (w : World) : Prop := Lib.TabIs Tryd.prog w "internal/strconv.uint64pow10" .u64 Lib.pow10Tab
theorem gTab : Tryd.prog.globalNamed "internal/strconv.uint64pow10" = some 0 := by kernel_rfl
theorem Tab.below {w w' : World} {B : Nat} (h : Tab w) (hb : Below B w w') (hB : w.heap.size ≤ B) : Tab w' := Joins.tab_stays gTab h hb hB

theorem fmt_any (n : Int) (h0 : 1 ≤ n) (h1 : n ≤ 100) (w : World) (ht : Tab w) :
    Calls Tryd.prog 13 #[.int .i64 n, .int .i64 10] w fun e w' => e = .returned (.string (dgB n)) ∧ Below w.heap.size w w' := by
  refine (Any.strconv_FormatInt_10 Tryd.laysM173 n (by omega) (by omega) w ht).mono ?_
  rintro e w' ⟨rfl, k, os, rfl⟩
  refine ⟨?_, Lib.below_grow _ _ (Nat.le_refl _) k os⟩
  unfold dgB Lib.itoa
  rw [if_neg (by omega)]

theorem dec_len : ∀ m, m ≤ 1000 → (Lib.decDigits m).length ≤ m + 1 := by
  intro m
  induction m using Nat.strongRecOn with
  | ind m ihm =>
    intro hm
    rw [Lib.decDigits]
    split
    · simp
    · have := ihm (m / 10) (by omega) (by omega)
      simp; omega

theorem dgB_size (n : Int) (h0 : 1 ≤ n) (h1 : n ≤ 100) : (dgB n).size ≤ 1000 := by
  have := dec_len n.toNat (by omega)
  show (Lib.decDigits n.toNat).toArray.size ≤ 1000
  simp; omega

theorem join_txt (a p e : ByteArray) : (⟨(Lib.join ([a, p, e].map (·.data.toList)) spB.data.toList).toArray⟩ : ByteArray) = a ++ spB ++ p ++ spB ++ e := by
  apply ByteArray.ext
  simp [Lib.join_cons, Lib.joinTail, spB]

theorem wds : wdC ++ spB = wdCs ∧ wdT ++ spB = wdTs := ⟨rfl, rfl⟩

set_option maxHeartbeats 2000000 in
theorem modeOf_any (x : Cf) (w : World) (h : x.1 = 1 ∨ x.1 = 2) :
    Calls Tryd.prog 12 #[.agg (cfvals x)] w fun e w' => e = .returned (.iface (if x.1 = 2 then 47 else 46) (.agg #[])) ∧ Below w.heap.size w w' := by
  obtain ⟨m, p, e⟩ := x
  simp only at h
  have bb := hide (below_alloc w (.cells #[.int .i64 m, .int .i64 p, .int .i64 e] 27))
  unfold cfvals
  rcases h with rfl | rfl
  · go_enter Tryd.func12, Tryd.ntmps12
    go_wp2
    go_ret
    exact ⟨rfl, unhide bb⟩
  · go_enter Tryd.func12, Tryd.ntmps12
    go_wp2
    go_ret
    exact ⟨rfl, unhide bb⟩

theorem ta_ct (w : World) : (Instr.typeAssert (.iface 47 (.agg #[])) 36 46 true).run Tryd.prog w = .ok (.tuple #[.agg #[], .bool false]) w := by kernel_rfl
theorem ta_cc (w : World) : (Instr.typeAssert (.iface 47 (.agg #[])) 36 47 true).run Tryd.prog w = .ok (.tuple #[.agg #[], .bool true]) w := by kernel_rfl
theorem ta_tt (w : World) : (Instr.typeAssert (.iface 46 (.agg #[])) 36 46 true).run Tryd.prog w = .ok (.tuple #[.agg #[], .bool true]) w := by kernel_rfl

set_option maxHeartbeats 2000000 in
theorem modeWord_c (w : World) : Calls Tryd.prog 11 #[.iface 47 (.agg #[])] w fun e w' => e = .returned (.string wdC) ∧ w' = w := by
  have t0 := ta_ct
  have t1 := ta_cc
  have t2 := ta_tt
  go_enter Tryd.func11, Tryd.ntmps11
  go_wp2
  go_ret
  exact ⟨rfl, rfl⟩

set_option maxHeartbeats 2000000 in
theorem modeWord_t (w : World) : Calls Tryd.prog 11 #[.iface 46 (.agg #[])] w fun e w' => e = .returned (.string wdT) ∧ w' = w := by
  have t0 := ta_ct
  have t1 := ta_cc
  have t2 := ta_tt
  go_enter Tryd.func11, Tryd.ntmps11
  go_wp2
  go_ret
  exact ⟨rfl, rfl⟩

end Go.Proofs.YtncgidnkbadlpaaDoor
