/- What is proved here: plain facts on slices of slices of bytes that a call made itself: the block of the slices, and a block of bytes for each; they hold for every program. -/
import Derived.Test.YtldiilmpmcbjkaaJ2
import Derived.Laws.OwnMore
import Derived.OpenShut
import Derived.WideShapes
import Derived.Test.YtldiilmpmcbjkaaChecked
import Derived.Test.YtldiilmpmcbjkaaJ1
import Derived.WalkKit
import Derived.WalkLawsBesides
import Derived.Lib.BytesEntry
import Derived.KernelRfl
import Derived.Deep.MidRow
import Derived.WalkSmall
import Derived.WalkSpells
import Derived.Deep.DeepCutAuto
import Derived.Deep.CutBlock
import Derived.BigQuiet
import Derived.Deep.QuietTactic
import Derived.Deep.RegionWith
namespace Go.Proofs.Ytldiilmpmcbjkaa
open Go.RowKit
set_option linter.unusedVariables false
set_option maxRecDepth 100000

/-- A block that holds these values, none of it frozen. -/
def SBlk (w : World) (g : Nat) (vs : List Value) (T : TypeId) : Prop := w.heap[g]? = some (.cells vs.toArray T (0, 0))

theorem SBlk.cell {w : World} {g : Nat} {vs : List Value} {T : TypeId} (h : SBlk w g vs T) (i : Nat) : w.cell? ⟨g, i, none⟩ = vs[i]? := by
  simp [World.cell?, show w.heap[g]? = _ from h]

theorem SBlk.free {w : World} {g : Nat} {vs : List Value} {T : TypeId} (h : SBlk w g vs T) (i : Nat) : w.frozen? ⟨g, i, none⟩ = false := frozen_of_row w g i _ T h

theorem SBlk.set {w : World} {g : Nat} {vs : List Value} {T : TypeId} (h : SBlk w g vs T) (i : Nat) (x : Value) : SBlk (w.setCell ⟨g, i, none⟩ x) g (vs.set i x) T := by
  have := heap_setCell_same w g i _ T x h
  unfold SBlk
  rw [this]
  simp

theorem SBlk.lt {w : World} {g : Nat} {vs : List Value} {T : TypeId} (h : SBlk w g vs T) : g < w.heap.size := lt_of_block h

theorem SBlk.below {w w' : World} {g C : Nat} {vs : List Value} {T : TypeId} (h : SBlk w g vs T) (hb : Below C w w') (hC : g < C) : SBlk w' g vs T := by
  unfold SBlk
  rw [hb.block g hC]
  exact h

theorem SBlk.new (w : World) (vs : Array Value) (T : TypeId) : SBlk (w.alloc (.cells vs T)) w.heap.size vs.toList T := by
  unfold SBlk World.alloc
  simp

theorem SBlk.next {w : World} {g : Nat} {vs : List Value} {T : TypeId} (h : SBlk w g vs T) (o : Obj) : SBlk (w.alloc o) g vs T := h.below (below_alloc w o) h.lt

theorem SBlk.other {w : World} {g g' i : Nat} {vs : List Value} {T : TypeId} {v : Value} (h : SBlk w g vs T) (hne : g ≠ g') : SBlk (w.setCell ⟨g', i, none⟩ v) g vs T := by
  unfold SBlk
  rw [heap_setCell_other w ⟨g', i, none⟩ g v hne]
  exact h

theorem size_set' (w : World) (a : Addr) (v : Value) : (w.setCell a v).heap.size = w.heap.size := by simp [World.setCell]

theorem own_sblk {w : World} {B g n : Nat} {e : TypeId} {size : Nat} {xs : List Value} (h : w.ownsRow B e size (.slice (some ⟨g, 0, none⟩) n n) n xs) : ∃ vs, SBlk w g vs e ∧ vs.length = n * size := by
  rcases h.2 with ⟨h', _⟩ | ⟨g', cap', cur, h', hb, hg, hnc, hcm, hcs, htake⟩
  · simp at h'
  · simp only [Value.slice.injEq, Option.some.injEq, Addr.mk.injEq, and_true, true_and] at h'
    obtain ⟨rfl, rfl⟩ := h'
    exact ⟨cur.toList, by unfold SBlk; simpa using hg, by simpa using hcs⟩

/-- Of the slices 'zss' the first k lie in the block g, each with its bytes in a block of its own, all these blocks rising. -/
def BUpto (w : World) (g : Nat) (zss : List (List Int)) (k len : Nat) (T : TypeId) (C : Nat) : Prop :=
  ∃ (vs : List Value) (f : Nat → Nat), SBlk w g vs T ∧ vs.length = len ∧ (∀ i, i < k → g < f i ∧ f i < C) ∧ (∀ i j, i < j → j < k → f i < f j) ∧
    ∀ i z, i < k → zss[i]? = some z → vs[i]? = some (.slice (some ⟨f i, 0, none⟩) z.length z.length) ∧
      w.ownsRow (g + 1) 5 1 (.slice (some ⟨f i, 0, none⟩) z.length z.length) z.length (z.map (Value.int .u8))

/-- All of them. -/
def OBss (w : World) (g : Nat) (zss : List (List Int)) (T : TypeId) (C : Nat) : Prop := BUpto w g zss zss.length zss.length T C

theorem BUpto.lt {w : World} {g : Nat} {zss : List (List Int)} {k len : Nat} {T : TypeId} {C : Nat} (h : BUpto w g zss k len T C) : g < w.heap.size := by
  obtain ⟨_, _, h, _⟩ := h
  exact h.lt

theorem BUpto.below {w w' : World} {g : Nat} {zss : List (List Int)} {k len : Nat} {T : TypeId} {C : Nat} (h : BUpto w g zss k len T C) {B : Nat} (hb : Below B w w') (hB : w.heap.size ≤ B) : BUpto w' g zss k len T C := by
  obtain ⟨vs, f, h1, h2, h3, h4, h5⟩ := h
  refine ⟨vs, f, h1.below hb (Nat.lt_of_lt_of_le h1.lt hB), h2, h3, h4, fun i z hi hit => ?_⟩
  obtain ⟨q3, q4⟩ := h5 i z hi hit
  exact ⟨q3, own_below q4 hb hB⟩

theorem BUpto.zero {w : World} {g : Nat} {zss : List (List Int)} {len : Nat} {T : TypeId} {vs : List Value} {C : Nat} (h : SBlk w g vs T) (hl : vs.length = len) : BUpto w g zss 0 len T C :=
  ⟨vs, fun _ => 0, h, hl, fun i hi => absurd hi (Nat.not_lt_zero _), fun i j _ hj => absurd hj (Nat.not_lt_zero _), fun i it hi => absurd hi (Nat.not_lt_zero _)⟩

/-- What is there at the place of the next one. -/
theorem BUpto.slot {w : World} {g : Nat} {zss : List (List Int)} {k len : Nat} {T : TypeId} {C : Nat} (h : BUpto w g zss k len T C) (hk : k < len) :
    (∃ u, w.cell? ⟨g, k, none⟩ = some u) ∧ ∀ i, w.frozen? ⟨g, i, none⟩ = false := by
  obtain ⟨vs, f, h1, h2, _⟩ := h
  refine ⟨?_, fun i => h1.free i⟩
  rw [h1.cell]
  exact ⟨_, List.getElem?_eq_getElem (by omega)⟩

/-- One more. -/
theorem BUpto.step {w w2 : World} {g m : Nat} {zss : List (List Int)} {k len : Nat} {T : TypeId} {z : List Int} (h : BUpto w g zss k len T w.heap.size) (hk : k < len) (hit : zss[k]? = some z) (hb : Below w.heap.size w w2) (hm : w.heap.size ≤ m) (hm2 : m < w2.heap.size)
    (ho : w2.ownsRow (g + 1) 5 1 (.slice (some ⟨m, 0, none⟩) z.length z.length) z.length (z.map (Value.int .u8))) :
    BUpto (w2.setCell ⟨g, k, none⟩ (.slice (some ⟨m, 0, none⟩) z.length z.length)) g zss (k + 1) len T w2.heap.size := by
  have hgl := h.lt
  obtain ⟨vs, f, h1, h2, h3, h4, h5⟩ := h
  obtain ⟨q1, q2⟩ : SBlk w2 g vs T ∧ (∀ i, i < k → f i < w.heap.size) := ⟨h1.below hb h1.lt, fun i hi => (h3 i hi).2⟩
  have hlt : ∀ {v : Value} {n : Nat} {xs : List Value} {W : World}, W.ownsRow (g + 1) 5 1 v n xs → ∀ i u, (W.setCell ⟨g, i, none⟩ u).ownsRow (g + 1) 5 1 v n xs := fun h i u => ownsRow_setCell_below h (Nat.lt_succ_self g) u
  refine ⟨vs.set k (.slice (some ⟨m, 0, none⟩) z.length z.length), fun i => if i = k then m else f i, q1.set _ _, by simp [h2], fun i hi => ?_, fun i j hij hj => ?_, fun i jt hi hjt => ?_⟩
  · dsimp only
    split
    · exact ⟨by omega, hm2⟩
    · have := h3 i (by omega)
      exact ⟨this.1, Nat.lt_of_lt_of_le this.2 hb.size⟩
  · dsimp only
    rw [if_neg (by omega)]
    split
    · have := q2 i (by omega); omega
    · exact h4 i j hij (by omega)
  · dsimp only
    by_cases e : i = k
    · subst e
      rw [if_pos rfl]
      obtain rfl : jt = z := by rw [hit] at hjt; exact (Option.some.inj hjt).symm
      refine ⟨?_, hlt ho _ _⟩
      rw [List.getElem?_set_self (by omega)]
    · rw [if_neg e]
      obtain ⟨p3, p4⟩ := h5 i jt (by omega) hjt
      refine ⟨?_, hlt (own_below p4 hb (Nat.le_refl _)) _ _⟩
      rw [List.getElem?_set_ne (by omega)]; exact p3

theorem BUpto.stored {w : World} {g g' j : Nat} {zss : List (List Int)} {k len : Nat} {T : TypeId} {C : Nat} {v : Value} (h : BUpto w g zss k len T C) (hg : g' < g) : BUpto (w.setCell ⟨g', j, none⟩ v) g zss k len T C := by
  obtain ⟨vs, f, h1, h2, h3, h4, h5⟩ := h
  refine ⟨vs, f, h1.other (by omega), h2, h3, h4, fun i z hi hit => ?_⟩
  obtain ⟨q3, q4⟩ := h5 i z hi hit
  exact ⟨q3, ownsRow_setCell_below q4 (by show g' < g + 1; omega) _⟩

/-- What is owned reads so. -/
theorem OBss.row {w : World} {g : Nat} {zss : List (List Int)} {T : TypeId} {C : Nat} (h : OBss w g zss T C) (hok : ∀ z ∈ zss, z.length ≤ maxLen) (hz : ∀ z ∈ zss, ∀ x ∈ z, 0 ≤ x ∧ x ≤ 255) : BsRow w (some ⟨g, 0, none⟩) zss.length zss := by
  obtain ⟨vs, f, h1, h2, h3, h4, h5⟩ := h
  refine ⟨rfl, hok, fun _ => ⟨g, 0, rfl, fun i z hi => ?_⟩⟩
  have hil := (List.getElem?_eq_some_iff.1 hi).1
  obtain ⟨q3, q4⟩ := h5 i z hil hi
  refine ⟨some ⟨f i, 0, none⟩, z.length, z.length, ?_, BRow.own q4 (hz z (List.mem_of_getElem? hi))⟩
  rw [h1.cell]
  simpa using q3

end Go.Proofs.Ytldiilmpmcbjkaa

/- What is proved here: plain facts on headers in a world: how an argument that is a header reads; they hold for every program. -/
namespace Go.Proofs.Ytldiilmpmcbjkaa
open Go.RowKit
set_option linter.unusedVariables false
set_option maxRecDepth 100000

/-- A slice's three parts. -/
structure Sl where
  a : Option Addr
  n : Nat
  c : Nat

/-- The slices of a header: Parent, Target, Signers, Receipts, Signer, Seal, Commits. -/
structure HS where
  p : Sl
  t : Sl
  s : Sl
  r : Sl
  g : Sl
  e : Sl
  k : Sl

/-- A header: its bytes and numbers. -/
structure Hd where
  p : List Int
  n1 : Int
  n2 : Int
  n3 : Int
  t : List Int
  n5 : Int
  s : List (List Int)
  r : List Int
  g : List Int
  e : List Int
  k : List (List Int)

/-- The slices read as the header's bytes. -/
structure HOk (w : World) (x : HS) (h : Hd) : Prop where
  p : BRow w x.p.a x.p.n h.p
  t : BRow w x.t.a x.t.n h.t
  s : BsRow w x.s.a x.s.n h.s
  r : BRow w x.r.a x.r.n h.r
  g : BRow w x.g.a x.g.n h.g
  e : BRow w x.e.a x.e.n h.e
  k : BsRow w x.k.a x.k.n h.k

theorem HOk.below {w w' : World} {x : HS} {h : Hd} (o : HOk w x h) {B : Nat} (hb : Below B w w') (hB : w.heap.size ≤ B) : HOk w' x h :=
  ⟨o.p.below hb hB, o.t.below hb hB, o.s.below hb hB, o.r.below hb hB, o.g.below hb hB, o.e.below hb hB, o.k.below hb hB⟩

/-- None is longer than M. -/
structure HMax (x : HS) (M : Nat) : Prop where
  p : x.p.n ≤ M
  t : x.t.n ≤ M
  s : x.s.n ≤ M
  r : x.r.n ≤ M
  g : x.g.n ≤ M
  e : x.e.n ≤ M
  k : x.k.n ≤ M

def in64 (n : Int) : Prop := -9223372036854775808 ≤ n ∧ n ≤ 9223372036854775807

/-- The numbers fit. -/
structure HIn (h : Hd) : Prop where
  n1 : in64 h.n1
  n2 : in64 h.n2
  n3 : in64 h.n3
  n5 : in64 h.n5

/-- All bytes, and how many slices there are, are at most 2^20. -/
structure HSm (h : Hd) : Prop where
  p : h.p.length ≤ 1048576
  t : h.t.length ≤ 1048576
  s : h.s.length ≤ 1048576
  sz : ∀ z ∈ h.s, z.length ≤ 1048576
  r : h.r.length ≤ 1048576
  g : h.g.length ≤ 1048576
  e : h.e.length ≤ 1048576
  k : h.k.length ≤ 1048576
  kz : ∀ z ∈ h.k, z.length ≤ 1048576

/-- The eleven cells of a header. -/
def hvals (x : HS) (h : Hd) : Array Value := #[.slice x.p.a x.p.n x.p.c, .int .i64 h.n1, .int .i64 h.n2, .int .i64 h.n3, .slice x.t.a x.t.n x.t.c, .int .i64 h.n5, .slice x.s.a x.s.n x.s.c, .slice x.r.a x.r.n x.r.c, .slice x.g.a x.g.n x.g.c, .slice x.e.a x.e.n x.e.c, .slice x.k.a x.k.n x.k.c]

section
variable {H : Type} {enc : TypeId × Value → H} {P : Program} {w : World} {sp : Nat → Bool} {held : Bool}

/-- A field that is a slice of bytes. -/
theorem field_bytes {ts tu : TypeId} {fuel : Nat} {v : Value} {y : DataW H × List MemPlace} (us : P.underlying ts = some (.slice tu)) (uu : P.underlying tu = some (.int .u8)) (cu : P.cellsOf tu = 1)
    (h : DataW.trod enc P w 0 sp held fuel ts [v] = some y) : ∃ (x : Sl) (z : List Int), v = .slice x.a x.n x.c ∧ x.n ≤ maxLen ∧ BRow w x.a x.n z := by
  rcases ChangeShapes.open_ints us uu cu h with ⟨e2, _⟩ | ⟨sa, sl, sc, zs, e2, _, hsl, hsm, hzl, _, hzc, hzw⟩
  · simp only [List.cons.injEq, and_true] at e2
    subst e2
    exact ⟨⟨none, 0, 0⟩, [], rfl, Nat.zero_le _, rfl, fun n hn => by simp at hn, fun _ => rfl, fun y hy => by cases hy⟩
  · simp only [List.cons.injEq, and_true] at e2
    subst e2
    have hzl' : sl ≤ zs.length := by rw [hzl]; split <;> omega
    refine ⟨⟨some sa, sl, sc⟩, zs.take sl, rfl, Nat.le_trans hsl hsm, by simp; omega, fun n hn => ?_, (fun e => (by cases e)), fun y hy j hj => ?_⟩
    · exact bounds_u8 (hzw n (List.mem_of_mem_take hn))
    · cases hy
      have hj' : j < sl := hj
      rw [hzc j (by omega), getD_at _ j (by omega), getD_at _ j (by simp; omega), List.getElem_take]

/-- A field that is a slice of slices of bytes. -/
theorem field_bss {t ts tu : TypeId} {fuel : Nat} {v : Value} {y : DataW H × List MemPlace} (ut : P.underlying t = some (.slice ts)) (us : P.underlying ts = some (.slice tu)) (cs : P.cellsOf ts = 1) (uu : P.underlying tu = some (.int .u8)) (cu : P.cellsOf tu = 1)
    (h : DataW.trod enc P w 0 sp held fuel t [v] = some y) : ∃ (x : Sl) (z : List (List Int)), v = .slice x.a x.n x.c ∧ x.n ≤ maxLen ∧ BsRow w x.a x.n z := by
  have hv : ∃ a len cap, v = .slice a len cap := by
    rcases DataW.trod_slice ut h with ⟨hn, _⟩ | ⟨x, len', cap', elems, rest, n, _, hcs, _⟩
    · simp only [List.cons.injEq, and_true] at hn; exact ⟨_, _, _, hn⟩
    · simp only [List.cons.injEq, and_true] at hcs; exact ⟨_, _, _, hcs⟩
  obtain ⟨a, len, cap, rfl⟩ := hv
  obtain ⟨d, ps⟩ := y
  obtain ⟨zss, h1, h2⟩ := read_bss ut us cs cu uu h
  exact ⟨⟨a, len, cap⟩, zss, rfl, h1, h2⟩

theorem field_int {t : TypeId} {fuel : Nat} {v : Value} {y : DataW H × List MemPlace} (ut : P.underlying t = some (.int .i64)) (h : DataW.trod enc P w 0 sp held fuel t [v] = some y) : ∃ n, v = .int .i64 n ∧ in64 n := by
  obtain ⟨n, e, _, hwf⟩ := DataW.trod_int ut h
  simp only [List.cons.injEq, and_true] at e
  exact ⟨n, e, bounds_i64 hwf⟩

/-- How an argument that is a header reads. -/
theorem open_header {t tb ti tl tu : TypeId} {fs : Array Field} {f0 f1 f2 f3 f4 f5 f6 f7 f8 f9 f10 : Field} {v : Value} {d : DataW H} {ps : List MemPlace}
    (ht : P.underlying t = some (.struct fs)) (hfs : fs = #[f0, f1, f2, f3, f4, f5, f6, f7, f8, f9, f10]) (hc : P.cellsOf t = 11)
    (ho : f0.offset = 0 ∧ f1.offset = 1 ∧ f2.offset = 2 ∧ f3.offset = 3 ∧ f4.offset = 4 ∧ f5.offset = 5 ∧ f6.offset = 6 ∧ f7.offset = 7 ∧ f8.offset = 8 ∧ f9.offset = 9 ∧ f10.offset = 10)
    (hty : f0.type = tb ∧ f1.type = ti ∧ f2.type = ti ∧ f3.type = ti ∧ f4.type = tb ∧ f5.type = ti ∧ f6.type = tl ∧ f7.type = tb ∧ f8.type = tb ∧ f9.type = tb ∧ f10.type = tl)
    (ub : P.underlying tb = some (.slice tu)) (uu : P.underlying tu = some (.int .u8)) (ui : P.underlying ti = some (.int .i64)) (ul : P.underlying tl = some (.slice tb))
    (cb : P.cellsOf tb = 1) (ci : P.cellsOf ti = 1) (cl : P.cellsOf tl = 1) (cu : P.cellsOf tu = 1)
    (hv : ∃ cs, v = .agg cs ∧ cs.size = P.cellsOf t) (h : DataW.Trod enc P w 0 sp held t v d ps) :
    ∃ (x : HS) (y : Hd), v = .agg (hvals x y) ∧ HOk w x y ∧ HMax x maxLen ∧ HIn y := by
  obtain ⟨cs, rfl, hsz⟩ := hv
  obtain ⟨fuel, h⟩ := h
  have h' : DataW.trod enc P w 0 sp held fuel t cs.toList = some (d, ps) := h
  obtain ⟨l⟩ := cs
  rw [hc] at hsz
  have hl : l.length = 11 := by simpa using hsz
  match l, hl with
  | [v0, v1, v2, v3, v4, v5, v6, v7, v8, v9, v10], _ =>
    subst hfs
    obtain ⟨xs, m, _, _, _, hxl, hf⟩ := DataW.trod_struct ht h'
    have hs : xs.length = 11 := by rw [hxl]; rfl
    obtain ⟨o0, o1, o2, o3, o4, o5, o6, o7, o8, o9, o10⟩ := ho
    obtain ⟨y0, y1, y2, y3, y4, y5, y6, y7, y8, y9, y10⟩ := hty
    have g0 := hf 0 f0 rfl
    have g1 := hf 1 f1 rfl
    have g2 := hf 2 f2 rfl
    have g3 := hf 3 f3 rfl
    have g4 := hf 4 f4 rfl
    have g5 := hf 5 f5 rfl
    have g6 := hf 6 f6 rfl
    have g7 := hf 7 f7 rfl
    have g8 := hf 8 f8 rfl
    have g9 := hf 9 f9 rfl
    have g10 := hf 10 f10 rfl
    rw [List.getElem?_eq_getElem (by omega)] at g0 g1 g2 g3 g4 g5 g6 g7 g8 g9 g10
    rw [y0, o0, cb] at g0
    rw [y1, o1, ci] at g1
    rw [y2, o2, ci] at g2
    rw [y3, o3, ci] at g3
    rw [y4, o4, cb] at g4
    rw [y5, o5, ci] at g5
    rw [y6, o6, cl] at g6
    rw [y7, o7, cb] at g7
    rw [y8, o8, cb] at g8
    rw [y9, o9, cb] at g9
    rw [y10, o10, cl] at g10
    simp only [List.drop_zero, List.drop_succ_cons, List.take_succ_cons, List.take_zero] at g0 g1 g2 g3 g4 g5 g6 g7 g8 g9 g10
    obtain ⟨x0, z0, e0, l0, r0⟩ := field_bytes ub uu cu g0
    obtain ⟨n1, e1, i1⟩ := field_int ui g1
    obtain ⟨n2, e2, i2⟩ := field_int ui g2
    obtain ⟨n3, e3, i3⟩ := field_int ui g3
    obtain ⟨x4, z4, e4, l4, r4⟩ := field_bytes ub uu cu g4
    obtain ⟨n5, e5, i5⟩ := field_int ui g5
    obtain ⟨x6, z6, e6, l6, r6⟩ := field_bss ul ub cb uu cu g6
    obtain ⟨x7, z7, e7, l7, r7⟩ := field_bytes ub uu cu g7
    obtain ⟨x8, z8, e8, l8, r8⟩ := field_bytes ub uu cu g8
    obtain ⟨x9, z9, e9, l9, r9⟩ := field_bytes ub uu cu g9
    obtain ⟨x10, z10, e10, l10, r10⟩ := field_bss ul ub cb uu cu g10
    subst e0 e1 e2 e3 e4 e5 e6 e7 e8 e9 e10
    exact ⟨⟨x0, x4, x6, x7, x8, x9, x10⟩, ⟨z0, n1, n2, n3, z4, n5, z6, z7, z8, z9, z10⟩, rfl, ⟨r0, r4, r6, r7, r8, r9, r10⟩, ⟨l0, l4, l6, l7, l8, l9, l10⟩, ⟨i1, i2, i3, i5⟩⟩
end

end Go.Proofs.Ytldiilmpmcbjkaa

/- What is proved here: what the program's IsAhead and the model's l1Ahead answer, for slices of bytes of any length: whether the first is less than the second, byte by byte. -/
namespace Go.Proofs.Ytldiilmpmcbjkaa
open Go.RowKit
set_option linter.unusedVariables false
set_option maxRecDepth 100000

/-- Whether the first list of bytes is less than the second. -/
def aheadB (xs ys : List Int) : Bool := Op.bytesLess (strOfNums xs).toList (strOfNums ys).toList

theorem less_of_compare : ∀ (l m : List UInt8), decide (Lib.compareBytes l m < 0) = Op.bytesLess l m
  | [], [] => by simp [Lib.compareBytes, Op.bytesLess]
  | [], _ :: _ => by simp [Lib.compareBytes, Op.bytesLess]
  | _ :: _, [] => by simp [Lib.compareBytes, Op.bytesLess]
  | x :: a, y :: b => by
    have ih := less_of_compare a b
    unfold Lib.compareBytes Op.bytesLess
    by_cases h1 : x < y
    · simp [h1]
    · by_cases h2 : y < x
      · have hne : (x == y) = false := by
          rw [beq_eq_false_iff_ne]; intro e; subst e; exact h1 h2
        simp [h1, h2, hne]
      · have e : x = y := UInt8.le_antisymm (UInt8.not_lt.1 h2) (UInt8.not_lt.1 h1)
        subst e
        simp [h1, ih]

theorem run_bytesOf {P : Program} (w : World) (a : Option Addr) (len cap : Nat) (xs : List Int) (h : BRow w a len xs) :
    (Extern.Bytes.bytesOf (.slice a len cap)).run P w = .ok ⟨(Lib.bytesOf xs).toArray⟩ w := by
  cases a with
  | none =>
    have h0 := h.2.2.1 rfl
    have hx : xs = [] := List.length_eq_zero_iff.1 (by rw [h.1]; exact h0)
    subst hx
    rfl
  | some x =>
    have hl := Lib.run_loadBytesX (P := P) w xs x .empty (fun j y hj => by
      have hjl : j < xs.length := (List.getElem?_eq_some_iff.1 hj).1
      rw [h.2.2.2 x rfl j (by rw [← h.1]; exact hjl), List.getD_eq_getElem?_getD, hj]
      rfl)
    rw [h.1] at hl
    show (Extern.Bytes.loadBytes x len .empty).run P w = _
    rw [hl]
    congr 1
    apply ByteArray.ext
    show (#[] : Array UInt8) ++ (Lib.bytesOf xs).toArray = (Lib.bytesOf xs).toArray
    simp

theorem run_compare {P : Program} (w : World) (a b : Option Addr) (la ca lb cb : Nat) (xs ys : List Int) (ha : BRow w a la xs) (hb : BRow w b lb ys) :
    (Extern.BytealgCompare.compare #[.slice a la ca, .slice b lb cb]).run P w = .ok (.int .i64 (Lib.compareBytes (Lib.bytesOf xs) (Lib.bytesOf ys))) w := by
  change Sem.run P (do pure (goInt (Extern.BytealgCompare.cmp (← Extern.Bytes.bytesOf (.slice a la ca)) (← Extern.Bytes.bytesOf (.slice b lb cb))))) w = _
  simp only [Sem.run_bind, run_bytesOf w a la ca xs ha, run_bytesOf w b lb cb ys hb, Sem.run_pure, Result.andThen]
  rw [Lib.cmp_eq]
  rfl

end Go.Proofs.Ytldiilmpmcbjkaa

/- What is proved here: plain facts on the fault of a list of signers; no program is named. -/
namespace Go.Proofs.Ytldiilmpmcbjkaa
open Go.RowKit
set_option linter.unusedVariables false
set_option maxRecDepth 100000

/-- Whether the signer at a place has a fault: no address, or not behind the one ahead. -/
def sgBad (zss : List (List Int)) (k : Nat) (z : List Int) : Bool := z.length != 4 || (decide (0 < k) && !aheadB (zss.getD (k - 1) []) z)

/-- The first fault among the signers from a place on. -/
def sgFrom (zss : List (List Int)) : Nat → List (List Int) → Int
  | _, [] => 0
  | k, z :: r => if sgBad zss k z = true then 1 else sgFrom zss (k + 1) r

def sgFlt (zss : List (List Int)) : Int := if 7 < zss.length then 2 else sgFrom zss 0 zss

theorem sgFrom_step (zss : List (List Int)) (k : Nat) (z : List Int) (h : zss[k]? = some z) : sgFrom zss k (zss.drop k) = if sgBad zss k z = true then 1 else sgFrom zss (k + 1) (zss.drop (k + 1)) := by
  obtain ⟨hk, e⟩ := List.getElem?_eq_some_iff.1 h
  rw [List.drop_eq_getElem_cons hk, e]
  rfl

theorem sgFrom_end (zss : List (List Int)) (k : Nat) (h : zss.length ≤ k) : sgFrom zss k (zss.drop k) = 0 := by
  rw [List.drop_eq_nil_of_le h]; rfl

theorem sgFrom_cases (zss : List (List Int)) : ∀ (r : List (List Int)) (k : Nat), sgFrom zss k r = 0 ∨ sgFrom zss k r = 1
  | [], k => .inl rfl
  | z :: r, k => by
    unfold sgFrom
    split
    · exact .inr rfl
    · exact sgFrom_cases zss r (k + 1)

theorem sgFlt_cases (zss : List (List Int)) : sgFlt zss = 0 ∨ sgFlt zss = 1 ∨ sgFlt zss = 2 := by
  unfold sgFlt
  split
  · omega
  · rcases sgFrom_cases zss zss 0 with h | h <;> omega

end Go.Proofs.Ytldiilmpmcbjkaa

/- What is proved here: plain facts on the fault of a header, and the eleven cells of one; no program is named. -/
namespace Go.Proofs.Ytldiilmpmcbjkaa
open Go.RowKit
set_option linter.unusedVariables false
set_option maxRecDepth 100000

theorem hcells {W : World} {g : Nat} {x : HS} {h : Hd} {T : TypeId} (b : SBlk W g (hvals x h).toList T) : W.cell? ⟨g, 0, none⟩ = some (.slice x.p.a x.p.n x.p.c) ∧ W.cell? ⟨g, 1, none⟩ = some (.int .i64 h.n1) ∧ W.cell? ⟨g, 2, none⟩ = some (.int .i64 h.n2) ∧ W.cell? ⟨g, 3, none⟩ = some (.int .i64 h.n3) ∧ W.cell? ⟨g, 4, none⟩ = some (.slice x.t.a x.t.n x.t.c) ∧ W.cell? ⟨g, 5, none⟩ = some (.int .i64 h.n5) ∧ W.cell? ⟨g, 6, none⟩ = some (.slice x.s.a x.s.n x.s.c) ∧ W.cell? ⟨g, 7, none⟩ = some (.slice x.r.a x.r.n x.r.c) ∧ W.cell? ⟨g, 8, none⟩ = some (.slice x.g.a x.g.n x.g.c) ∧ W.cell? ⟨g, 9, none⟩ = some (.slice x.e.a x.e.n x.e.c) ∧ W.cell? ⟨g, 10, none⟩ = some (.slice x.k.a x.k.n x.k.c) :=
  ⟨b.cell 0, b.cell 1, b.cell 2, b.cell 3, b.cell 4, b.cell 5, b.cell 6, b.cell 7, b.cell 8, b.cell 9, b.cell 10⟩

theorem srange {W : World} {g : Nat} {vs : List Value} {T : TypeId} (b : SBlk W g vs T) : W.rangeAt g 0 vs := fun j v hj => by
  rw [Nat.zero_add, b.cell j]; exact hj

/-- Whether a field has a wrong number of bytes. -/
def hdLen (h : Hd) : Bool := ((h.p.length : Int) != 32) || (((h.t.length : Int) != 0) && ((h.t.length : Int) != 4)) || ((h.r.length : Int) != 32) || ((h.g.length : Int) != 4) || (((h.e.length : Int) != 0) && ((h.e.length : Int) != 4))

def within (n lo hi : Int) : Bool := decide (lo ≤ n ∧ n ≤ hi)

/-- Whether all numbers lie within their bounds. -/
def hdNum (h : Hd) : Bool := within h.n1 0 1099511627776 && within h.n2 0 1099511627776 && within h.n3 0 9 && within h.n5 0 2

/-- The fault of the commits from a place on. -/
def coFrom : List (List Int) → Int
  | [] => 0
  | z :: r => if z.length = 8 then coFrom r else 1

def coFlt (zss : List (List Int)) : Int := if 7 < zss.length then 2 else coFrom zss

/-- The fault of a header. -/
def hdFlt (h : Hd) : Int := if hdLen h = true then 1 else if hdNum h = false then 3 else if sgFlt h.s = 0 then coFlt h.k else sgFlt h.s

theorem coFrom_step (zss : List (List Int)) (k : Nat) (z : List Int) (h : zss[k]? = some z) : coFrom (zss.drop k) = if z.length = 8 then coFrom (zss.drop (k + 1)) else 1 := by
  obtain ⟨hk, e⟩ := List.getElem?_eq_some_iff.1 h
  rw [List.drop_eq_getElem_cons hk, e]
  rfl

theorem coFrom_end (zss : List (List Int)) (k : Nat) (h : zss.length ≤ k) : coFrom (zss.drop k) = 0 := by
  rw [List.drop_eq_nil_of_le h]; rfl

end Go.Proofs.Ytldiilmpmcbjkaa

/- What is proved here: what the program's SignersFault answers: the first fault of a list of signers. -/
namespace Go.Proofs.Ytldiilmpmcbjkaa
open Go.RowKit
set_option linter.unusedVariables false
set_option maxRecDepth 100000

end Go.Proofs.Ytldiilmpmcbjkaa

/- What is proved here: what the program's HeaderFault answers, and what it calls: the fault of a header. -/
namespace Go.Proofs.Ytldiilmpmcbjkaa
open Go.RowKit
set_option linter.unusedVariables false
set_option maxRecDepth 100000

theorem isWithin_any (v lo hi : Int) (w : World) : Calls Try.prog 17 #[.int .i64 v, .int .i64 lo, .int .i64 hi] w fun e w' => e = .returned (.bool (within v lo hi)) ∧ w' = w := by
  unfold within
  by_cases h0 : lo ≤ v
  · have e0 : decide (lo ≤ v) = true := decide_eq_true h0
    by_cases h1 : v ≤ hi
    · have e1 : decide (v ≤ hi) = true := decide_eq_true h1
      have e : decide (lo ≤ v ∧ v ≤ hi) = true := decide_eq_true ⟨h0, h1⟩
      rw [e]
      clear e
      go_enter Try.func17, Try.ntmps17
      go_wp2_with fail
      go_ret
      exact ⟨rfl, rfl⟩
    · have e1 : decide (v ≤ hi) = false := decide_eq_false h1
      have e : decide (lo ≤ v ∧ v ≤ hi) = false := decide_eq_false (fun h => h1 h.2)
      rw [e]
      clear e
      go_enter Try.func17, Try.ntmps17
      go_wp2_with fail
      go_ret
      exact ⟨rfl, rfl⟩
  · have e0 : decide (lo ≤ v) = false := decide_eq_false h0
    have e : decide (lo ≤ v ∧ v ≤ hi) = false := decide_eq_false (fun h => h0 h.1)
    rw [e]
    clear e
    go_enter Try.func17, Try.ntmps17
    go_wp2_with fail
    go_ret
    exact ⟨rfl, rfl⟩

theorem isWithin_to (v lo hi : Int) (c : Bool) (w : World) (e : within v lo hi = c) : Calls Try.prog 17 #[.int .i64 v, .int .i64 lo, .int .i64 hi] w fun e w' => e = .returned (.bool c) ∧ w' = w := by
  subst e; exact isWithin_any v lo hi w

end Go.Proofs.Ytldiilmpmcbjkaa

/- What is proved here: what the model's l1In answers: whether a number lies within two bounds. -/
namespace Go.Proofs.Ytldiilmpmcbjkaa
open Go.RowKit
set_option linter.unusedVariables false
set_option maxRecDepth 100000

theorem in_yes (v lo hi : Int) (w : World) (h0 : lo ≤ v) (h1 : v ≤ hi) : Calls Try.prog 9 #[.int .i64 v, .int .i64 lo, .int .i64 hi] w fun e w' => e = .returned (.bool true) ∧ w' = w := by
  have e0 : decide (lo ≤ v) = true := decide_eq_true h0
  have e1 : decide (v ≤ hi) = true := decide_eq_true h1
  go_enter Try.func9, Try.ntmps9
  go_wp2
  go_ret
  exact ⟨ret_bool (by simp), rfl⟩

set_option maxHeartbeats 1000000 in
theorem in_no (v lo hi : Int) (w : World) (h : v < lo ∨ hi < v) : Calls Try.prog 9 #[.int .i64 v, .int .i64 lo, .int .i64 hi] w fun e w' => e = .returned (.bool false) ∧ w' = w := by
  by_cases h0 : lo ≤ v
  · have e0 : decide (lo ≤ v) = true := decide_eq_true h0
    have e1 : decide (v ≤ hi) = false := decide_eq_false (by omega)
    go_enter Try.func9, Try.ntmps9
    go_wp2
    go_ret
    exact ⟨ret_bool (by simp), rfl⟩
  · have e0 : decide (lo ≤ v) = false := decide_eq_false h0
    go_enter Try.func9, Try.ntmps9
    go_wp2
    go_ret
    exact ⟨ret_bool (by simp), rfl⟩

/-- Whether a number is a word. -/
def isWord (v : Int) : Bool := decide (0 ≤ v ∧ v ≤ 4294967295)

theorem in_any (v lo hi : Int) (w : World) : Calls Try.prog 9 #[.int .i64 v, .int .i64 lo, .int .i64 hi] w fun e w' => e = .returned (.bool (decide (lo ≤ v ∧ v ≤ hi))) ∧ w' = w := by
  by_cases h : lo ≤ v ∧ v ≤ hi
  · rw [decide_eq_true h]; exact in_yes v lo hi w h.1 h.2
  · rw [decide_eq_false h]; exact in_no v lo hi w (by omega)

end Go.Proofs.Ytldiilmpmcbjkaa

/- What is proved here: closed facts of the program's table of types. -/
namespace Go.Proofs.Ytldiilmpmcbjkaa
open Go.RowKit
set_option linter.unusedVariables false
set_option maxRecDepth 100000

theorem info5 : (Try.prog.info? 5).map (fun i => (i.zero, i.size, i.bytes)) = some (some (.int .u8 0), 1, 1) := by kernel_rfl

end Go.Proofs.Ytldiilmpmcbjkaa

/- What is proved here: the contracts of the laws' helper functions on byte slices (toByteS, eqByteS), for slices of at most 2^20 bytes. -/
namespace Go.Proofs.Ytldiilmpmcbjkaa
open Go.RowKit
set_option linter.unusedVariables false
set_option maxRecDepth 100000


set_option maxHeartbeats 400000 in
theorem eqByteS_any (a b : Option Addr) (la ca lb cb : Nat) (xs ys : List Int) (w : World) (ha : BRow w a la xs) (hb : BRow w b lb ys) (hl : la ≤ 1048576) (hl2 : lb ≤ 1048576) :
    Calls Try.prog 30 #[.slice a la ca, .slice b lb cb] w fun e w' => e = .returned (.bool (sameB xs ys)) ∧ ∃ n, w' = w.drewN n := by
  have hxl := ha.1
  have hyl := hb.1
  by_cases hne : la = lb
  · subst hne
    have hlen : (((la : Nat) : Int) != ((la : Nat) : Int)) = false := by simp
    rcases Nat.eq_zero_or_pos la with h0 | hp
    · subst h0
      have hx : xs = [] := List.length_eq_zero_iff.1 hxl
      have hy : ys = [] := List.length_eq_zero_iff.1 hyl
      subst hx hy
      clear ha hb
      go_enter Try.func30, Try.ntmps30
      go_wp2
      refine wp_loop_rounds 1 ?_
      rw [rounds_succ]
      go_wp2
      go_ret
      exact ⟨rfl, 0, rfl⟩
    · obtain ⟨ba, oa, rfl, hba, hca⟩ := ha.at hp
      obtain ⟨bb, ob, rfl, hbb, hcb⟩ := hb.at hp
      have HCA := hide hca
      have HCB := hide hcb
      clear ha hb hca hcb
      go_enter Try.func30, Try.ntmps30
      go_wp2
      go_loopw [5] (fun i wr => ∃ k n : Nat, k ≤ la ∧ i = .int .i64 k ∧ xs.take k = ys.take k ∧ wr = w.drewN n)
        (fun i _ => la - (intOf i).toNat)
      case atStart => exact ⟨0, 0, Nat.zero_le _, rfl, rfl, rfl⟩
      case round =>
        obtain ⟨k, n, hk, rfl, hpre, rfl⟩ := hrel
        by_cases hlt : k < la
        · have h1 : w.cell? ⟨ba, oa + k, none⟩ = some (.int .u8 (xs.getD k 0)) := (unhide HCA) k hlt
          have h2 : w.cell? ⟨bb, ob + k, none⟩ = some (.int .u8 (ys.getD k 0)) := (unhide HCB) k hlt
          have Hs := take_same xs ys k (by omega) (by omega) hpre
          have Hd := take_other xs ys k (by omega) (by omega)
          generalize xs.getD k 0 = x at h1 Hs Hd
          generalize ys.getD k 0 = y at h2 Hs Hd
          have HS := hide Hs
          have HD := hide Hd
          have HP := hide hpre
          have i1 : (0 : Int) ≤ (k : Int) := by omega
          have i2 : (k : Int) < (la : Int) := by omega
          clear Hs Hd hpre hxl hyl
          by_cases hxy : x = y
          · subst hxy
            have HT := hide ((unhide HS) rfl)
            clear HS HD HP
            have ht : (x != x) = false := by simp
            go_wp2
            go_quiet (fail)
            go_wp2
            go_roundw
            case rel => exact ⟨k + 1, _, by omega, by go_num, unhide HT, rfl⟩
            case measure => simp [intOf]; omega
          · have ht : (x != y) = true := by simp [hxy]
            go_wp2
            go_quiet (fail)
            go_wp2
            go_ret
            exact ⟨ret_bool ((unhide HD) hxy).symm, _, World.drewN_drewN ..⟩
        · obtain rfl : k = la := by omega
          have e := take_whole xs ys k hxl hyl hpre
          have HE := hide e
          clear e hpre hxl hyl
          go_wp2
          go_ret
          exact ⟨ret_bool (unhide HE).symm, n, rfl⟩
  · have hlen : (((la : Nat) : Int) != ((lb : Nat) : Int)) = true := by simp; omega
    have e : sameB xs ys = false := by
      unfold sameB
      rw [beq_eq_false_iff_ne]
      intro e; rw [e] at hxl; omega
    have HE := hide e
    clear e
    go_enter Try.func30, Try.ntmps30
    go_wp2
    go_ret
    exact ⟨ret_bool (unhide HE).symm, 0, rfl⟩

end Go.Proofs.Ytldiilmpmcbjkaa

/- What is proved here: the contract of the laws' helper function that compares slices of slices of bytes (eqByteSS). -/
namespace Go.Proofs.Ytldiilmpmcbjkaa
open Go.RowKit
set_option linter.unusedVariables false
set_option maxRecDepth 100000

set_option maxHeartbeats 2000000 in
theorem eqByteSS_any (a b : Option Addr) (la ca lb cb : Nat) (xs ys : List (List Int)) (w : World) (ha : BsRow w a la xs) (hb : BsRow w b lb ys) (hl : la ≤ 1048576) (hl2 : lb ≤ 1048576) (hx : ∀ z ∈ xs, z.length ≤ 1048576) (hy : ∀ z ∈ ys, z.length ≤ 1048576) :
    Calls Try.prog 18 #[.slice a la ca, .slice b lb cb] w fun e w' => e = .returned (.bool (sameBs xs ys)) ∧ ∃ n, w' = w.drewN n := by
  have hxl := ha.1
  have hyl := hb.1
  by_cases hne : la = lb
  · subst hne
    have hlen : (((la : Nat) : Int) != ((la : Nat) : Int)) = false := by simp
    rcases Nat.eq_zero_or_pos la with h0 | hp
    · subst h0
      have hx : xs = [] := List.length_eq_zero_iff.1 hxl
      have hy : ys = [] := List.length_eq_zero_iff.1 hyl
      subst hx hy
      clear ha hb
      go_enter Try.func18, Try.ntmps18
      go_wp2_with fail
      refine wp_loop_rounds 1 ?_
      rw [rounds_succ]
      go_wp2_with fail
      go_ret
      exact ⟨rfl, 0, rfl⟩
    · obtain ⟨ba, oa, rfl, hba, hca⟩ := ha.at hp
      obtain ⟨bb, ob, rfl, hbb, hcb⟩ := hb.at hp
      have HCA := hide hca
      have HCB := hide hcb
      have HX := hide hx
      have HY := hide hy
      have HXL := hide hxl
      have HYL := hide hyl
      clear ha hb hca hcb hx hy hxl hyl
      go_enter Try.func18, Try.ntmps18
      go_wp2_with fail
      go_loopw [5] (fun i wr => ∃ k n : Nat, k ≤ la ∧ i = .int .i64 k ∧ sameBs xs ys = sameBs (xs.drop k) (ys.drop k) ∧ wr = w.drewN n) (fun i _ => la - (intOf i).toNat)
      case atStart => exact ⟨0, 0, Nat.zero_le _, rfl, by simp, rfl⟩
      case round =>
        obtain ⟨k, n, hk, rfl, hpre, rfl⟩ := hrel
        by_cases hlt : k < la
        · obtain ⟨x, hix⟩ : ∃ z, xs[k]? = some z := ⟨_, List.getElem?_eq_getElem (by rw [unhide HXL]; exact hlt)⟩
          obtain ⟨y, hiy⟩ : ∃ z, ys[k]? = some z := ⟨_, List.getElem?_eq_getElem (by rw [unhide HYL]; exact hlt)⟩
          have hst := sameBs_step xs ys k x y hix hiy
          rw [← hpre] at hst
          obtain ⟨s1, n1, d1, p0, r1⟩ := (unhide HCA) k x hix
          obtain ⟨s2, n2, d2, q0, r2⟩ := (unhide HCB) k y hiy
          have m1 : n1 ≤ 1048576 := by rw [← r1.1]; exact (unhide HX) x (List.mem_of_getElem? hix)
          have m2 : n2 ≤ 1048576 := by rw [← r2.1]; exact (unhide HY) y (List.mem_of_getElem? hiy)
          have HEQ := hide (fun (m : Nat) => eqByteS_any s1 s2 n1 d1 n2 d2 x y (w.drewN m) (r1.below (B := w.heap.size) (below_drewN (Below.refl _ _) m) (Nat.le_refl _)) (r2.below (B := w.heap.size) (below_drewN (Below.refl _ _) m) (Nat.le_refl _)) m1 m2)
          have HP := hide hpre
          have HS := hide hst
          have i1 : (0 : Int) ≤ (k : Int) := by omega
          have i2 : (k : Int) < (la : Int) := by omega
          clear r1 r2 hst hpre hix hiy m1 m2
          generalize sameB x y = sb at HEQ HS
          go_wp2_with fail
          go_region_with (first | (go_at_call 30; refine ((unhide HEQ) (n + 1)).mono ?_; rintro e w1 ⟨rfl, m, rfl⟩))
          all_goals
            cases sb
            · go_wp2_with fail
              go_ret
              exact ⟨ret_bool (by rw [unhide HS]; rfl), _, by first | rfl | exact World.drewN_drewN ..⟩
            · go_wp2_with fail
              go_roundw
              case rel => exact ⟨k + 1, _, by omega, by go_num, by rw [unhide HS]; simp, by first | rfl | exact World.drewN_drewN ..⟩
              case measure => simp [intOf]; omega
        · obtain rfl : k = la := by omega
          have e := sameBs_end xs ys k (unhide HXL) (unhide HYL)
          rw [e] at hpre
          have HE := hide hpre
          clear e hpre
          go_wp2_with fail
          go_ret
          exact ⟨ret_bool (unhide HE).symm, n, rfl⟩
  · have hlen : (((la : Nat) : Int) != ((lb : Nat) : Int)) = true := by simp; omega
    have HE := hide (sameBs_len xs ys (by rw [hxl, hyl]; exact hne))
    clear ha hb hxl hyl
    go_enter Try.func18, Try.ntmps18
    go_wp2_with fail
    go_ret
    exact ⟨ret_bool (unhide HE).symm, 0, rfl⟩

end Go.Proofs.Ytldiilmpmcbjkaa

/- What is proved here: the contract of the laws' helper function eqHeader, for two that are the same: it answers true. -/
namespace Go.Proofs.Ytldiilmpmcbjkaa
open Go.RowKit
set_option linter.unusedVariables false
set_option maxRecDepth 100000

theorem ne64 (n : Int) : (n != n) = false := by simp

theorem eqB_yes (a b : Option Addr) (la ca lb cb : Nat) (xs : List Int) (w : World) (ha : BRow w a la xs) (hb : BRow w b lb xs) (hl : xs.length ≤ 1048576) :
    Calls Try.prog 30 #[.slice a la ca, .slice b lb cb] w fun e w' => e = .returned (.bool true) ∧ Below w.heap.size w w' :=
  (eqByteS_any a b la ca lb cb xs xs w ha hb (by rw [← ha.1]; exact hl) (by rw [← hb.1]; exact hl)).mono fun e w' ⟨he, n, hw⟩ => ⟨by rw [he, sameB_self], by rw [hw]; exact below_drewN (Below.refl _ _) n⟩

theorem eqBs_yes (a b : Option Addr) (la ca lb cb : Nat) (xs : List (List Int)) (w : World) (ha : BsRow w a la xs) (hb : BsRow w b lb xs) (hl : xs.length ≤ 1048576) (hz : ∀ z ∈ xs, z.length ≤ 1048576) :
    Calls Try.prog 18 #[.slice a la ca, .slice b lb cb] w fun e w' => e = .returned (.bool true) ∧ Below w.heap.size w w' :=
  (eqByteSS_any a b la ca lb cb xs xs w ha hb (by rw [← ha.1]; exact hl) (by rw [← hb.1]; exact hl) hz hz).mono fun e w' ⟨he, n, hw⟩ => ⟨by rw [he, sameBs_self], by rw [hw]; exact below_drewN (Below.refl _ _) n⟩

theorem two_blk (w : World) (vs us : Array Value) (T S : TypeId) : SBlk ((w.alloc (.cells vs T)).alloc (.cells us S)) w.heap.size vs.toList T ∧ SBlk ((w.alloc (.cells vs T)).alloc (.cells us S)) (w.heap.size + 1) us.toList S ∧ Below w.heap.size w ((w.alloc (.cells vs T)).alloc (.cells us S)) ∧ ((w.alloc (.cells vs T)).alloc (.cells us S)).heap.size = w.heap.size + 2 := by
  refine ⟨?_, ?_, ((Below.refl _ _).alloc (Nat.le_refl _) _).alloc (by simp) _, by simp⟩
  · exact (SBlk.new w vs T).next _
  · have h := SBlk.new (w.alloc (.cells vs T)) us S
    rwa [show (w.alloc (.cells vs T)).heap.size = w.heap.size + 1 by simp] at h

end Go.Proofs.Ytldiilmpmcbjkaa

/- What is proved here: the contracts of the laws' helper functions over a CacheResult that keeps nothing (eqCacheResult, markCacheResult, heldCacheResult). -/
namespace Go.Proofs.Ytldiilmpmcbjkaa
open Go.RowKit
set_option linter.unusedVariables false
set_option maxRecDepth 100000

/-- The cells of an answer that keeps nothing, of its snapshot and of its cache. -/
def ncvals (c n : Int) : Array Value := #[.int .i64 c, .int .i64 0, .slice none 0 0, .slice none 0 0, .slice none 0 0, .bool false, .int .i64 n, .slice none 0 0]
def nsnil : Array Value := #[.int .i64 0, .slice none 0 0, .slice none 0 0, .slice none 0 0]
def ncnil (n : Int) : Array Value := #[.int .i64 n, .slice none 0 0]

theorem nc_at {W : World} {g : Nat} {c n : Int} {T : TypeId} (b : SBlk W g (ncvals c n).toList T) : W.cell? ⟨g, 0, none⟩ = some (.int .i64 c) ∧ W.cell? ⟨g, 1, none⟩ = some (.int .i64 0) ∧ W.cell? ⟨g, 2, none⟩ = some (.slice none 0 0) ∧ W.cell? ⟨g, 3, none⟩ = some (.slice none 0 0) ∧ W.cell? ⟨g, 4, none⟩ = some (.slice none 0 0) ∧ W.cell? ⟨g, 5, none⟩ = some (.bool false) ∧ W.cell? ⟨g, 6, none⟩ = some (.int .i64 n) ∧ W.cell? ⟨g, 7, none⟩ = some (.slice none 0 0) := ⟨b.cell 0, b.cell 1, b.cell 2, b.cell 3, b.cell 4, b.cell 5, b.cell 6, b.cell 7⟩
theorem ns_at {W : World} {g : Nat} {T : TypeId} (b : SBlk W g nsnil.toList T) : W.cell? ⟨g, 0, none⟩ = some (.int .i64 0) ∧ W.cell? ⟨g, 1, none⟩ = some (.slice none 0 0) ∧ W.cell? ⟨g, 2, none⟩ = some (.slice none 0 0) ∧ W.cell? ⟨g, 3, none⟩ = some (.slice none 0 0) := ⟨b.cell 0, b.cell 1, b.cell 2, b.cell 3⟩
theorem nk_at {W : World} {g : Nat} {n : Int} {T : TypeId} (b : SBlk W g (ncnil n).toList T) : W.cell? ⟨g, 0, none⟩ = some (.int .i64 n) ∧ W.cell? ⟨g, 1, none⟩ = some (.slice none 0 0) := ⟨b.cell 0, b.cell 1⟩

theorem nmarkByteSS_nil (k : Int) (w : World) : Calls Try.prog 22 #[.slice none 0 0, .int .i64 k] w fun e w' => e = .returned (.int .i64 k) ∧ w' = w := by
  go_enter Try.func22, Try.ntmps22
  go_wp2_with fail
  refine wp_loop_rounds 1 ?_
  rw [rounds_succ]
  go_wp2_with fail
  go_ret
  exact ⟨rfl, rfl⟩

theorem nheldByteSS_nil (k : Int) (w : World) : Calls Try.prog 26 #[.slice none 0 0, .int .i64 k] w fun e w' => e = .returned (.int .i64 k) ∧ w' = w := by
  go_enter Try.func26, Try.ntmps26
  go_wp2_with fail
  refine wp_loop_rounds 1 ?_
  rw [rounds_succ]
  go_wp2_with fail
  go_ret
  exact ⟨rfl, rfl⟩

theorem neqByteSS_nil (w : World) : Calls Try.prog 18 #[.slice none 0 0, .slice none 0 0] w fun e w' => e = .returned (.bool true) ∧ w' = w := by
  go_enter Try.func18, Try.ntmps18
  go_wp2_with fail
  refine wp_loop_rounds 1 ?_
  rw [rounds_succ]
  go_wp2_with fail
  go_ret
  exact ⟨rfl, rfl⟩

theorem nmarkRecentS_nil (k : Int) (w : World) : Calls Try.prog 23 #[.slice none 0 0, .int .i64 k] w fun e w' => e = .returned (.int .i64 k) ∧ w' = w := by
  go_enter Try.func23, Try.ntmps23
  go_wp2_with fail
  refine wp_loop_rounds 1 ?_
  rw [rounds_succ]
  go_wp2_with fail
  go_ret
  exact ⟨rfl, rfl⟩

theorem nheldRecentS_nil (k : Int) (w : World) : Calls Try.prog 27 #[.slice none 0 0, .int .i64 k] w fun e w' => e = .returned (.int .i64 k) ∧ w' = w := by
  go_enter Try.func27, Try.ntmps27
  go_wp2_with fail
  refine wp_loop_rounds 1 ?_
  rw [rounds_succ]
  go_wp2_with fail
  go_ret
  exact ⟨rfl, rfl⟩

theorem neqRecentS_nil (w : World) : Calls Try.prog 19 #[.slice none 0 0, .slice none 0 0] w fun e w' => e = .returned (.bool true) ∧ w' = w := by
  go_enter Try.func19, Try.ntmps19
  go_wp2_with fail
  refine wp_loop_rounds 1 ?_
  rw [rounds_succ]
  go_wp2_with fail
  go_ret
  exact ⟨rfl, rfl⟩

theorem nmarkVoteS_nil (k : Int) (w : World) : Calls Try.prog 24 #[.slice none 0 0, .int .i64 k] w fun e w' => e = .returned (.int .i64 k) ∧ w' = w := by
  go_enter Try.func24, Try.ntmps24
  go_wp2_with fail
  refine wp_loop_rounds 1 ?_
  rw [rounds_succ]
  go_wp2_with fail
  go_ret
  exact ⟨rfl, rfl⟩

theorem nheldVoteS_nil (k : Int) (w : World) : Calls Try.prog 28 #[.slice none 0 0, .int .i64 k] w fun e w' => e = .returned (.int .i64 k) ∧ w' = w := by
  go_enter Try.func28, Try.ntmps28
  go_wp2_with fail
  refine wp_loop_rounds 1 ?_
  rw [rounds_succ]
  go_wp2_with fail
  go_ret
  exact ⟨rfl, rfl⟩

theorem neqVoteS_nil (w : World) : Calls Try.prog 20 #[.slice none 0 0, .slice none 0 0] w fun e w' => e = .returned (.bool true) ∧ w' = w := by
  go_enter Try.func20, Try.ntmps20
  go_wp2_with fail
  refine wp_loop_rounds 1 ?_
  rw [rounds_succ]
  go_wp2_with fail
  go_ret
  exact ⟨rfl, rfl⟩

theorem nmarkKeptS_nil (k : Int) (w : World) : Calls Try.prog 25 #[.slice none 0 0, .int .i64 k] w fun e w' => e = .returned (.int .i64 k) ∧ w' = w := by
  go_enter Try.func25, Try.ntmps25
  go_wp2_with fail
  refine wp_loop_rounds 1 ?_
  rw [rounds_succ]
  go_wp2_with fail
  go_ret
  exact ⟨rfl, rfl⟩

theorem nheldKeptS_nil (k : Int) (w : World) : Calls Try.prog 29 #[.slice none 0 0, .int .i64 k] w fun e w' => e = .returned (.int .i64 k) ∧ w' = w := by
  go_enter Try.func29, Try.ntmps29
  go_wp2_with fail
  refine wp_loop_rounds 1 ?_
  rw [rounds_succ]
  go_wp2_with fail
  go_ret
  exact ⟨rfl, rfl⟩

theorem neqKeptS_nil (w : World) : Calls Try.prog 21 #[.slice none 0 0, .slice none 0 0] w fun e w' => e = .returned (.bool true) ∧ w' = w := by
  go_enter Try.func21, Try.ntmps21
  go_wp2_with fail
  refine wp_loop_rounds 1 ?_
  rw [rounds_succ]
  go_wp2_with fail
  go_ret
  exact ⟨rfl, rfl⟩

set_option maxHeartbeats 4000000 in
theorem nmarkSnap_nil (k : Int) (w : World) : Calls Try.prog 13 #[.agg nsnil, .int .i64 k] w fun e w' => e = .returned (.int .i64 k) ∧ Below w.heap.size w w' := by
  have kb := SBlk.new w nsnil 26
  have HB0 := hide (below_alloc w (.cells nsnil 26))
  obtain ⟨W0, eb⟩ : ∃ W0, w.alloc (.cells nsnil 26) = W0 := ⟨_, rfl⟩
  rw [eb] at kb HB0
  have EB := hide eb
  have HK := hide kb
  obtain ⟨u0, u1, u2, u3⟩ := ns_at kb
  clear eb kb
  unfold nsnil at EB ⊢
  go_enter Try.func13, Try.ntmps13
  go_upto_region 1 with fail
  rw [unhide EB]
  clear EB
  go_wp2_with fail
  have D0 := hide (nmarkByteSS_nil k W0)
  refine (unhide D0).mono ?_
  rintro e w1 ⟨rfl, rfl⟩
  go_wp2_with fail
  have D1 := hide (nmarkRecentS_nil k w1)
  refine (unhide D1).mono ?_
  rintro e w2 ⟨rfl, rfl⟩
  go_wp2_with fail
  have D2 := hide (nmarkVoteS_nil k w2)
  refine (unhide D2).mono ?_
  rintro e w3 ⟨rfl, rfl⟩
  go_wp2_with fail
  go_ret
  exact ⟨rfl, unhide HB0⟩

set_option maxHeartbeats 4000000 in
theorem nheldSnap_nil (k : Int) (w : World) (hk : 0 ≤ k) : Calls Try.prog 15 #[.agg nsnil, .int .i64 k] w fun e w' => e = .returned (.int .i64 k) ∧ Below w.heap.size w w' := by
  have kb := SBlk.new w nsnil 26
  have HB0 := hide (below_alloc w (.cells nsnil 26))
  obtain ⟨W0, eb⟩ : ∃ W0, w.alloc (.cells nsnil 26) = W0 := ⟨_, rfl⟩
  rw [eb] at kb HB0
  have EB := hide eb
  have HK := hide kb
  obtain ⟨u0, u1, u2, u3⟩ := ns_at kb
  clear eb kb
  have dK : decide (k < 0) = false := decide_eq_false (by omega)
  unfold nsnil at EB ⊢
  go_enter Try.func15, Try.ntmps15
  go_upto_region 1 with fail
  rw [unhide EB]
  clear EB
  go_wp2_with fail
  have D0 := hide (nheldByteSS_nil k W0)
  refine (unhide D0).mono ?_
  rintro e w1 ⟨rfl, rfl⟩
  go_wp2_with fail
  have D1 := hide (nheldRecentS_nil k w1)
  refine (unhide D1).mono ?_
  rintro e w2 ⟨rfl, rfl⟩
  go_wp2_with fail
  have D2 := hide (nheldVoteS_nil k w2)
  refine (unhide D2).mono ?_
  rintro e w3 ⟨rfl, rfl⟩
  go_wp2_with fail
  go_ret
  exact ⟨rfl, unhide HB0⟩

set_option maxHeartbeats 4000000 in
theorem nmarkCache_nil (n : Int) (k : Int) (w : World) : Calls Try.prog 14 #[.agg (ncnil n), .int .i64 k] w fun e w' => e = .returned (.int .i64 k) ∧ Below w.heap.size w w' := by
  have kb := SBlk.new w (ncnil n) 29
  have HB0 := hide (below_alloc w (.cells (ncnil n) 29))
  obtain ⟨W0, eb⟩ : ∃ W0, w.alloc (.cells (ncnil n) 29) = W0 := ⟨_, rfl⟩
  rw [eb] at kb HB0
  have EB := hide eb
  have HK := hide kb
  obtain ⟨u0, u1⟩ := nk_at kb
  clear eb kb
  unfold ncnil at EB ⊢
  go_enter Try.func14, Try.ntmps14
  go_upto_region 1 with fail
  rw [unhide EB]
  clear EB
  go_wp2_with fail
  have D0 := hide (nmarkKeptS_nil k W0)
  refine (unhide D0).mono ?_
  rintro e w1 ⟨rfl, rfl⟩
  go_wp2_with fail
  go_ret
  exact ⟨rfl, unhide HB0⟩

set_option maxHeartbeats 4000000 in
theorem nheldCache_nil (n : Int) (k : Int) (w : World) (hk : 0 ≤ k) : Calls Try.prog 16 #[.agg (ncnil n), .int .i64 k] w fun e w' => e = .returned (.int .i64 k) ∧ Below w.heap.size w w' := by
  have kb := SBlk.new w (ncnil n) 29
  have HB0 := hide (below_alloc w (.cells (ncnil n) 29))
  obtain ⟨W0, eb⟩ : ∃ W0, w.alloc (.cells (ncnil n) 29) = W0 := ⟨_, rfl⟩
  rw [eb] at kb HB0
  have EB := hide eb
  have HK := hide kb
  obtain ⟨u0, u1⟩ := nk_at kb
  clear eb kb
  have dK : decide (k < 0) = false := decide_eq_false (by omega)
  unfold ncnil at EB ⊢
  go_enter Try.func16, Try.ntmps16
  go_upto_region 1 with fail
  rw [unhide EB]
  clear EB
  go_wp2_with fail
  have D0 := hide (nheldKeptS_nil k W0)
  refine (unhide D0).mono ?_
  rintro e w1 ⟨rfl, rfl⟩
  go_wp2_with fail
  go_ret
  exact ⟨rfl, unhide HB0⟩

set_option maxHeartbeats 4000000 in
theorem nmarkCacheResult_nil (c n : Int) (k : Int) (w : World) : Calls Try.prog 7 #[.agg (ncvals c n), .int .i64 k] w fun e w' => e = .returned (.int .i64 k) ∧ Below w.heap.size w w' := by
  have kb := SBlk.new w (ncvals c n) 31
  have HB0 := hide (below_alloc w (.cells (ncvals c n) 31))
  obtain ⟨W0, eb⟩ : ∃ W0, w.alloc (.cells (ncvals c n) 31) = W0 := ⟨_, rfl⟩
  rw [eb] at kb HB0
  have EB := hide eb
  have HK := hide kb
  obtain ⟨u0, u1, u2, u3, u4, u5, u6, u7⟩ := nc_at kb
  clear eb kb
  unfold ncvals at EB ⊢
  go_enter Try.func7, Try.ntmps7
  go_upto_region 1 with fail
  rw [unhide EB]
  clear EB
  go_wp2_with fail
  have D0 := hide (nmarkSnap_nil k W0)
  unfold nsnil at D0
  refine (unhide D0).mono ?_
  rintro e w1 ⟨rfl, b1⟩
  have HB1 := hide ((unhide HB0).trans (b1.mono (unhide HB0).size))
  have kk := (unhide HK).below b1 (unhide HK).lt
  have HK := hide kk
  clear u0 u1 u2 u3 u4 u5 u6 u7
  obtain ⟨u0, u1, u2, u3, u4, u5, u6, u7⟩ := nc_at kk
  clear kk b1
  go_wp2_with fail
  have D1 := hide (nmarkCache_nil n k w1)
  unfold ncnil at D1
  refine (unhide D1).mono ?_
  rintro e w2 ⟨rfl, b2⟩
  have HB2 := hide ((unhide HB1).trans (b2.mono (unhide HB1).size))
  have kk := (unhide HK).below b2 (unhide HK).lt
  have HK := hide kk
  clear u0 u1 u2 u3 u4 u5 u6 u7
  obtain ⟨u0, u1, u2, u3, u4, u5, u6, u7⟩ := nc_at kk
  clear kk b2
  go_wp2_with fail
  go_ret
  exact ⟨rfl, unhide HB2⟩

set_option maxHeartbeats 4000000 in
theorem nheldCacheResult_nil (c n : Int) (k : Int) (w : World) (hk : 0 ≤ k) : Calls Try.prog 8 #[.agg (ncvals c n), .int .i64 k] w fun e w' => e = .returned (.int .i64 k) ∧ Below w.heap.size w w' := by
  have kb := SBlk.new w (ncvals c n) 31
  have HB0 := hide (below_alloc w (.cells (ncvals c n) 31))
  obtain ⟨W0, eb⟩ : ∃ W0, w.alloc (.cells (ncvals c n) 31) = W0 := ⟨_, rfl⟩
  rw [eb] at kb HB0
  have EB := hide eb
  have HK := hide kb
  obtain ⟨u0, u1, u2, u3, u4, u5, u6, u7⟩ := nc_at kb
  clear eb kb
  have dK : decide (k < 0) = false := decide_eq_false (by omega)
  unfold ncvals at EB ⊢
  go_enter Try.func8, Try.ntmps8
  go_upto_region 1 with fail
  rw [unhide EB]
  clear EB
  go_wp2_with fail
  have D0 := hide (nheldSnap_nil k W0 hk)
  unfold nsnil at D0
  refine (unhide D0).mono ?_
  rintro e w1 ⟨rfl, b1⟩
  have HB1 := hide ((unhide HB0).trans (b1.mono (unhide HB0).size))
  have kk := (unhide HK).below b1 (unhide HK).lt
  have HK := hide kk
  clear u0 u1 u2 u3 u4 u5 u6 u7
  obtain ⟨u0, u1, u2, u3, u4, u5, u6, u7⟩ := nc_at kk
  clear kk b1
  go_wp2_with fail
  have D1 := hide (nheldCache_nil n k w1 hk)
  unfold ncnil at D1
  refine (unhide D1).mono ?_
  rintro e w2 ⟨rfl, b2⟩
  have HB2 := hide ((unhide HB1).trans (b2.mono (unhide HB1).size))
  have kk := (unhide HK).below b2 (unhide HK).lt
  have HK := hide kk
  clear u0 u1 u2 u3 u4 u5 u6 u7
  obtain ⟨u0, u1, u2, u3, u4, u5, u6, u7⟩ := nc_at kk
  clear kk b2
  go_wp2_with fail
  go_ret
  exact ⟨rfl, unhide HB2⟩

set_option maxHeartbeats 4000000 in
theorem neqSnap_nil (w : World) : Calls Try.prog 11 #[.agg nsnil, .agg nsnil] w fun e w' => e = .returned (.bool true) ∧ Below w.heap.size w w' := by
  obtain ⟨k0, k1, k2, k3⟩ := two_blk w nsnil nsnil 26 26
  have HB0 := hide k2
  obtain ⟨W0, eb⟩ : ∃ W0, (w.alloc (.cells nsnil 26)).alloc (.cells nsnil 26) = W0 := ⟨_, rfl⟩
  rw [eb] at k0 k1 HB0
  have EB := hide eb
  have HK := hide (And.intro k0 k1)
  obtain ⟨u0, u1, u2, u3⟩ := ns_at k0
  obtain ⟨v0, v1, v2, v3⟩ := ns_at k1
  clear eb k0 k1 k2 k3
  unfold nsnil at EB ⊢
  go_enter Try.func11, Try.ntmps11
  go_upto_region 1 with fail
  rw [unhide EB]
  clear EB
  go_wp2_with fail
  have D0 := hide (neqByteSS_nil W0)
  refine (unhide D0).mono ?_
  rintro e w1 ⟨rfl, rfl⟩
  go_wp2_with fail
  have D1 := hide (neqRecentS_nil w1)
  refine (unhide D1).mono ?_
  rintro e w2 ⟨rfl, rfl⟩
  go_wp2_with fail
  have D2 := hide (neqVoteS_nil w2)
  refine (unhide D2).mono ?_
  rintro e w3 ⟨rfl, rfl⟩
  go_wp2_with fail
  go_ret
  exact ⟨rfl, unhide HB0⟩

set_option maxHeartbeats 4000000 in
theorem neqCache_nil (n : Int) (w : World) : Calls Try.prog 12 #[.agg (ncnil n), .agg (ncnil n)] w fun e w' => e = .returned (.bool true) ∧ Below w.heap.size w w' := by
  obtain ⟨k0, k1, k2, k3⟩ := two_blk w (ncnil n) (ncnil n) 29 29
  have HB0 := hide k2
  obtain ⟨W0, eb⟩ : ∃ W0, (w.alloc (.cells (ncnil n) 29)).alloc (.cells (ncnil n) 29) = W0 := ⟨_, rfl⟩
  rw [eb] at k0 k1 HB0
  have EB := hide eb
  have HK := hide (And.intro k0 k1)
  obtain ⟨u0, u1⟩ := nk_at k0
  obtain ⟨v0, v1⟩ := nk_at k1
  clear eb k0 k1 k2 k3
  have en : (n != n) = false := by simp
  unfold ncnil at EB ⊢
  go_enter Try.func12, Try.ntmps12
  go_upto_region 1 with fail
  rw [unhide EB]
  clear EB
  go_wp2_with fail
  have D0 := hide (neqKeptS_nil W0)
  refine (unhide D0).mono ?_
  rintro e w1 ⟨rfl, rfl⟩
  go_wp2_with fail
  go_ret
  exact ⟨rfl, unhide HB0⟩

set_option maxHeartbeats 4000000 in
theorem neqCacheResult_nil (c n : Int) (w : World) : Calls Try.prog 6 #[.agg (ncvals c n), .agg (ncvals c n)] w fun e w' => e = .returned (.bool true) ∧ Below w.heap.size w w' := by
  obtain ⟨k0, k1, k2, k3⟩ := two_blk w (ncvals c n) (ncvals c n) 31 31
  have HB0 := hide k2
  obtain ⟨W0, eb⟩ : ∃ W0, (w.alloc (.cells (ncvals c n) 31)).alloc (.cells (ncvals c n) 31) = W0 := ⟨_, rfl⟩
  rw [eb] at k0 k1 HB0
  have EB := hide eb
  have HK := hide (And.intro k0 k1)
  obtain ⟨u0, u1, u2, u3, u4, u5, u6, u7⟩ := nc_at k0
  obtain ⟨v0, v1, v2, v3, v4, v5, v6, v7⟩ := nc_at k1
  clear eb k0 k1 k2 k3
  have ec : (c != c) = false := by simp
  unfold ncvals at EB ⊢
  go_enter Try.func6, Try.ntmps6
  go_upto_region 1 with fail
  rw [unhide EB]
  clear EB
  go_wp2_with fail
  have D0 := hide (neqSnap_nil W0)
  unfold nsnil at D0
  refine (unhide D0).mono ?_
  rintro e w1 ⟨rfl, b1⟩
  have HB1 := hide ((unhide HB0).trans (b1.mono (unhide HB0).size))
  have ka := (unhide HK).1.below b1 (unhide HK).1.lt
  have kc := (unhide HK).2.below b1 (unhide HK).2.lt
  have HK := hide (And.intro ka kc)
  clear u0 u1 u2 u3 u4 u5 u6 u7 v0 v1 v2 v3 v4 v5 v6 v7
  obtain ⟨u0, u1, u2, u3, u4, u5, u6, u7⟩ := nc_at ka
  obtain ⟨v0, v1, v2, v3, v4, v5, v6, v7⟩ := nc_at kc
  clear ka kc b1
  go_wp2_with fail
  have D1 := hide (neqCache_nil n w1)
  unfold ncnil at D1
  refine (unhide D1).mono ?_
  rintro e w2 ⟨rfl, b2⟩
  have HB2 := hide ((unhide HB1).trans (b2.mono (unhide HB1).size))
  have ka := (unhide HK).1.below b2 (unhide HK).1.lt
  have kc := (unhide HK).2.below b2 (unhide HK).2.lt
  have HK := hide (And.intro ka kc)
  clear u0 u1 u2 u3 u4 u5 u6 u7 v0 v1 v2 v3 v4 v5 v6 v7
  obtain ⟨u0, u1, u2, u3, u4, u5, u6, u7⟩ := nc_at ka
  obtain ⟨v0, v1, v2, v3, v4, v5, v6, v7⟩ := nc_at kc
  clear ka kc b2
  go_wp2_with fail
  go_ret
  exact ⟨rfl, unhide HB2⟩

end Go.Proofs.Ytldiilmpmcbjkaa

/- What is proved here: what NewCache answers, in the program and in the model. -/
namespace Go.Proofs.Ytldiilmpmcbjkaa
open Go.RowKit
set_option linter.unusedVariables false
set_option maxRecDepth 100000

/-- The code of NewCache, and the size that it answers. -/
def ncCode (n : Int) : Int := if within n 0 5 = true then 0 else 3
def ncSize (n : Int) : Int := if within n 0 5 = true then n else 0

theorem isSize_to (n : Int) (c : Bool) (w : World) (e : within n 0 5 = c) : Calls Try.prog 10 #[.int .i64 n] w fun r w' => r = .returned (.bool c) ∧ w' = w := by
  have D := hide (isWithin_to n 0 5 c w e)
  clear e
  go_enter Try.func10, Try.ntmps10
  go_wp2_with fail
  refine (unhide D).mono ?_
  rintro r w1 ⟨rfl, rfl⟩
  go_wp2_with fail
  go_ret
  exact ⟨rfl, rfl⟩

set_option maxHeartbeats 4000000 in
theorem implNewCache_any (n : Int) (w : World) : Calls Try.prog 5 #[.int .i64 n] w fun r w' => r = .returned (.agg (ncvals (ncCode n) (ncSize n))) ∧ Below w.heap.size w w' := by
  have HI := hide (fun (W : World) (c : Bool) (e : within n 0 5 = c) => isSize_to n c W e)
  by_cases h : within n 0 5 = true
  · unfold ncCode ncSize
    rw [if_pos h, if_pos h]
    have HH := hide (fun W => (unhide HI) W true h)
    clear HI h
    unfold ncvals
    go_enter Try.func5, Try.ntmps5
    go_wp2_with fail
    refine ((unhide HH) _).mono ?_
    rintro r w1 ⟨rfl, rfl⟩
    go_wp2_with fail
    exact bodyPost_ret (v := .agg #[.int .i64 0, .int .i64 0, .slice none 0 0, .slice none 0 0, .slice none 0 0, .bool false, .int .i64 n, .slice none 0 0]) (by simp [results, Try.results5, go_sem]) rfl ⟨rfl, below_alloc w _⟩
  · unfold ncCode ncSize
    rw [if_neg h, if_neg h]
    have HH := hide (fun W => (unhide HI) W false (by simpa using h))
    clear HI h
    unfold ncvals
    go_enter Try.func5, Try.ntmps5
    go_wp2_with fail
    refine ((unhide HH) _).mono ?_
    rintro r w1 ⟨rfl, rfl⟩
    go_wp2_with fail
    exact bodyPost_ret (v := .agg #[.int .i64 3, .int .i64 0, .slice none 0 0, .slice none 0 0, .slice none 0 0, .bool false, .int .i64 0, .slice none 0 0]) (by simp [results, Try.results5, go_sem]) rfl ⟨rfl, below_alloc w _⟩

set_option maxHeartbeats 4000000 in
theorem specNewCache_any (n : Int) (w : World) : Calls Try.prog 4 #[.int .i64 n] w fun r w' => r = .returned (.agg (ncvals (ncCode n) (ncSize n))) ∧ Below w.heap.size w w' := by
  have HI := hide (fun (W : World) => in_any n 0 5 W)
  by_cases h : within n 0 5 = true
  · unfold ncCode ncSize
    rw [if_pos h, if_pos h]
    unfold within at h
    rw [h] at HI
    clear h
    unfold ncvals
    go_enter Try.func4, Try.ntmps4
    go_wp2_with fail
    refine ((unhide HI) _).mono ?_
    rintro r w1 ⟨rfl, rfl⟩
    go_wp2_with fail
    exact bodyPost_ret (v := .agg #[.int .i64 0, .int .i64 0, .slice none 0 0, .slice none 0 0, .slice none 0 0, .bool false, .int .i64 n, .slice none 0 0]) (by simp [results, Try.results4, go_sem]) rfl ⟨rfl, below_alloc w _⟩
  · unfold ncCode ncSize
    rw [if_neg h, if_neg h]
    have h' : within n 0 5 = false := by simpa using h
    unfold within at h'
    rw [h'] at HI
    clear h h'
    unfold ncvals
    go_enter Try.func4, Try.ntmps4
    go_wp2_with fail
    refine ((unhide HI) _).mono ?_
    rintro r w1 ⟨rfl, rfl⟩
    go_wp2_with fail
    exact bodyPost_ret (v := .agg #[.int .i64 3, .int .i64 0, .slice none 0 0, .slice none 0 0, .slice none 0 0, .bool false, .int .i64 0, .slice none 0 0]) (by simp [results, Try.results4, go_sem]) rfl ⟨rfl, below_alloc w _⟩

end Go.Proofs.Ytldiilmpmcbjkaa
