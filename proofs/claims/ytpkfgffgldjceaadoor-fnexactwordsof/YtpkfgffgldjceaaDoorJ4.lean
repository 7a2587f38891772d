/- What is proved here: plain facts on data in memory, told by kinds: a kind says which cells a thing of it has, when its slices read as it, and when they lie in memory of their own, each block with a path of its own; they hold for every program. -/
import Derived.Test.YtpkfgffgldjceaaDoorJ3
import Derived.Test.YtpkfgffgldjceaaDoorChecked
import Derived.Test.YtpkfgffgldjceaaDoorJ1
import Derived.WalkKit
import Derived.WalkLawsBesides
import Derived.WalkSmall
import Derived.Deep.RegionWith
import Derived.KernelRfl
import Derived.WalkSpells
namespace Go.Proofs.YtpkfgffgldjceaaDoor
open Go.RowKit
set_option linter.unusedVariables false
set_option maxRecDepth 100000

abbrev Path := List Nat

/-- The cells us from a place on. -/
def setL : List Value → Nat → List Value → List Value
  | vs, _, [] => vs
  | vs, j, u :: r => setL (vs.set j u) (j + 1) r

theorem setL_length : ∀ (us vs : List Value) (j : Nat), (setL vs j us).length = vs.length
  | [], vs, j => rfl
  | u :: r, vs, j => by rw [setL, setL_length r]; simp

theorem setL_other : ∀ (us vs : List Value) (j i : Nat), (i < j ∨ j + us.length ≤ i) → (setL vs j us)[i]? = vs[i]?
  | [], vs, j, i, _ => rfl
  | u :: r, vs, j, i, h => by
    rw [setL, setL_other r _ _ i (by simp at h ⊢; omega), List.getElem?_set_ne (by simp at h; omega)]

theorem setL_at : ∀ (us vs : List Value) (j i : Nat) (v : Value), us[i]? = some v → j + i < vs.length → (setL vs j us)[j + i]? = some v
  | [], vs, j, i, v, h, _ => by simp at h
  | u :: r, vs, j, 0, v, h, hl => by
    simp at h
    subst h
    rw [setL, setL_other r _ _ _ (by omega), Nat.add_zero, List.getElem?_set_self (by simpa using hl)]
  | u :: r, vs, j, i + 1, v, h, hl => by
    rw [List.getElem?_cons_succ] at h
    rw [setL, show j + (i + 1) = (j + 1) + i by omega]
    exact setL_at r _ _ i v h (by simp; omega)

def putRow : World → Nat → Nat → List Value → World
  | w, _, _, [] => w
  | w, g, o, u :: r => putRow (w.setCell ⟨g, o, none⟩ u) g (o + 1) r

theorem putRow_size : ∀ (us : List Value) (w : World) (g o : Nat), (putRow w g o us).heap.size = w.heap.size
  | [], w, g, o => rfl
  | u :: r, w, g, o => by rw [putRow, putRow_size r]; simp [World.setCell]

theorem putRow_other : ∀ (us : List Value) (w : World) (g o k : Nat), k ≠ g → (putRow w g o us).heap[k]? = w.heap[k]?
  | [], w, g, o, k, _ => rfl
  | u :: r, w, g, o, k, h => by rw [putRow, putRow_other r _ _ _ k h, heap_setCell_other w ⟨g, o, none⟩ k u (fun e => h e)]

theorem putRow_below : ∀ (us : List Value) (w0 w : World) (B g o : Nat), Below B w0 w → B ≤ g → Below B w0 (putRow w g o us)
  | [], w0, w, B, g, o, h, _ => h
  | u :: r, w0, w, B, g, o, h, hg => by rw [putRow]; exact putRow_below r w0 _ B g _ (h.setCell hg _) hg

/-- The slice s holds the cells vs in a block of its own, at or beyond B. -/
structure OwnS (w : World) (B : Nat) (T : TypeId) (m : Nat) (s : Sl) (vs : List Value) : Prop where
  len : vs.length = s.n * m
  max : s.c ≤ maxLen
  room : s.n ≤ s.c
  nil : s.a = none → s.c = 0
  at' : ∀ x, s.a = some x → ∃ g off cur, x = ⟨g, off, none⟩ ∧ B ≤ g ∧ w.heap[g]? = some (.cells cur T (0, 0)) ∧ off + s.n * m ≤ cur.size ∧ (cur.toList.drop off).take (s.n * m) = vs

theorem OwnS.of {w : World} {B : Nat} {T : TypeId} {m n c : Nat} {a : Option Addr} {xs : List Value} (h : w.ownsRow B T m (.slice a n c) n xs) : OwnS w B T m ⟨a, n, c⟩ xs := by
  rcases h.2 with ⟨h1, h2⟩ | ⟨g, cap, cur, h1, h2, h3, h4, h5, h6, h7⟩
  · simp only [Value.slice.injEq] at h1
    obtain ⟨rfl, rfl, rfl⟩ := h1
    exact ⟨h.1, Nat.zero_le _, Nat.le_refl _, fun _ => rfl, fun x hx => by cases hx⟩
  · simp only [Value.slice.injEq] at h1
    obtain ⟨rfl, _, rfl⟩ := h1
    refine ⟨h.1, h5, h4, (fun e => by cases e), fun x hx => ?_⟩
    cases hx
    refine ⟨g, 0, cur, rfl, h2, h3, ?_, by simpa using h7⟩
    rw [Nat.zero_add, h6]
    exact Nat.mul_le_mul_right m h4

theorem OwnS.blk {w : World} {B : Nat} {T : TypeId} {m : Nat} {s : Sl} {vs : List Value} (h : OwnS w B T m s vs) {x : Addr} (hx : s.a = some x) : B ≤ x.block ∧ x.block < w.heap.size := by
  obtain ⟨g, off, cur, rfl, hb, hg, _⟩ := h.at' x hx
  exact ⟨hb, lt_of_block hg⟩

theorem OwnS.pos {w : World} {B : Nat} {T : TypeId} {m : Nat} {s : Sl} {vs : List Value} (h : OwnS w B T m s vs) (hp : 0 < s.n) : ∃ g off, s.a = some ⟨g, off, none⟩ ∧ B ≤ g ∧ g < w.heap.size := by
  cases ha : s.a with
  | none => have := h.nil ha; have := h.room; omega
  | some x =>
    obtain ⟨g, off, cur, rfl, hb, hg, _⟩ := h.at' x ha
    exact ⟨g, off, rfl, hb, lt_of_block hg⟩

theorem OwnS.cell {w : World} {B : Nat} {T : TypeId} {m : Nat} {s : Sl} {vs : List Value} (h : OwnS w B T m s vs) {g off : Nat} (ha : s.a = some ⟨g, off, none⟩) {j : Nat} (hj : j < s.n * m) : w.cell? ⟨g, off + j, none⟩ = vs[j]? := by
  obtain ⟨g', off', cur, e, hb, hg, hl, ht⟩ := h.at' _ ha
  simp only [Addr.mk.injEq, and_true] at e
  obtain ⟨rfl, rfl⟩ := e
  rw [cell_of_row w g (off + j) cur T (0, 0) hg, ← ht, List.getElem?_take, if_pos hj, List.getElem?_drop]
  simp

theorem OwnS.free {w : World} {B : Nat} {T : TypeId} {m : Nat} {s : Sl} {vs : List Value} (h : OwnS w B T m s vs) {g off : Nat} (ha : s.a = some ⟨g, off, none⟩) (j : Nat) : w.frozen? ⟨g, j, none⟩ = false := by
  obtain ⟨g', off', cur, e, hb, hg, hl, ht⟩ := h.at' _ ha
  simp only [Addr.mk.injEq, and_true] at e
  obtain ⟨rfl, rfl⟩ := e
  exact frozen_of_row w g j cur T hg

theorem OwnS.set {w : World} {B : Nat} {T : TypeId} {m : Nat} {s : Sl} {vs : List Value} (h : OwnS w B T m s vs) {g off : Nat} (ha : s.a = some ⟨g, off, none⟩) (j : Nat) (u : Value) : OwnS (w.setCell ⟨g, off + j, none⟩ u) B T m s (vs.set j u) := by
  refine ⟨by rw [List.length_set]; exact h.len, h.max, h.room, h.nil, fun x hx => ?_⟩
  obtain ⟨g', off', cur, e, hb, hg, hl, ht⟩ := h.at' _ ha
  simp only [Addr.mk.injEq, and_true] at e
  obtain ⟨rfl, rfl⟩ := e
  obtain rfl : (⟨g, off, none⟩ : Addr) = x := Option.some.inj (ha.symm.trans hx)
  refine ⟨g, off, cur.setIfInBounds (off + j) u, rfl, hb, heap_setCell_same w g (off + j) cur T u hg, by simpa using hl, ?_⟩
  rw [Array.toList_setIfInBounds, ← ht, List.drop_set, if_neg (by omega), show off + j - off = j by omega, List.take_set]

theorem OwnS.putRow : ∀ (us : List Value) {w : World} {B : Nat} {T : TypeId} {m : Nat} {s : Sl} {vs : List Value} (_ : OwnS w B T m s vs) {g off : Nat} (_ : s.a = some ⟨g, off, none⟩) (j : Nat), OwnS (putRow w g (off + j) us) B T m s (setL vs j us)
  | [], w, B, T, m, s, vs, h, g, off, ha, j => h
  | u :: r, w, B, T, m, s, vs, h, g, off, ha, j => by
    rw [Go.Proofs.YtpkfgffgldjceaaDoor.putRow, setL, Nat.add_assoc]
    exact OwnS.putRow r (h.set ha j u) ha (j + 1)

theorem OwnS.keep {w w' : World} {B : Nat} {T : TypeId} {m : Nat} {s : Sl} {vs : List Value} (h : OwnS w B T m s vs) (hk : ∀ x, s.a = some x → w'.heap[x.block]? = w.heap[x.block]?) : OwnS w' B T m s vs := by
  refine ⟨h.len, h.max, h.room, h.nil, fun x hx => ?_⟩
  obtain ⟨g, off, cur, rfl, hb, hg, hl, ht⟩ := h.at' x hx
  exact ⟨g, off, cur, rfl, hb, (hk _ hx).trans hg, hl, ht⟩

theorem OwnS.base {w : World} {B B' : Nat} {T : TypeId} {m : Nat} {s : Sl} {vs : List Value} (h : OwnS w B T m s vs) (hB : B' ≤ B) : OwnS w B' T m s vs := by
  refine ⟨h.len, h.max, h.room, h.nil, fun x hx => ?_⟩
  obtain ⟨g, off, cur, e, hb, r⟩ := h.at' x hx
  exact ⟨g, off, cur, e, Nat.le_trans hB hb, r⟩

/-- A kind of thing: its cells, when its slices lie in memory of their own (path by path), and when they read as it. -/
structure Kd (α β : Type) where
  m : Nat
  vals : β → α → List Value
  len : ∀ e x, (vals e x).length = m
  Own : World → Nat → (Nat → Path) → Path → β → α → Prop
  Ok : World → β → α → Prop
  frame : ∀ {w w' : World} {B : Nat} {d : Nat → Path} {p : Path} {e : β} {x : α}, Own w B d p e x → (∀ g, g < w.heap.size → B ≤ g → p <+: d g → w'.heap[g]? = w.heap[g]?) → Own w' B d p e x
  recol : ∀ {w : World} {B : Nat} {d d' : Nat → Path} {p : Path} {e : β} {x : α}, Own w B d p e x → (∀ g, g < w.heap.size → B ≤ g → p <+: d g → d' g = d g) → Own w B d' p e x
  base : ∀ {w : World} {B B' : Nat} {d : Nat → Path} {p : Path} {e : β} {x : α}, Own w B d p e x → B' ≤ B → Own w B' d p e x
  ok : ∀ {w : World} {B : Nat} {d : Nat → Path} {p : Path} {e : β} {x : α}, Own w B d p e x → Ok w e x
  below : ∀ {w w' : World} {B : Nat} {e : β} {x : α}, Ok w e x → Below B w w' → w.heap.size ≤ B → Ok w' e x

theorem Kd.ownBelow {α β : Type} (K : Kd α β) {w w' : World} {B C : Nat} {d : Nat → Path} {p : Path} {e : β} {x : α} (h : K.Own w B d p e x) (hb : Below C w w') (hC : w.heap.size ≤ C) : K.Own w' B d p e x :=
  K.frame h (fun g hg _ _ => hb.block g (Nat.lt_of_lt_of_le hg hC))

theorem Kd.recolNew {α β : Type} (K : Kd α β) {w : World} {B : Nat} {d d' : Nat → Path} {p : Path} {e : β} {x : α} (h : K.Own w B d p e x) (hd : ∀ g, g < w.heap.size → d' g = d g) : K.Own w B d' p e x := K.recol h (fun g hg _ _ => hd g hg)

/-- A number. -/
def intK : Kd Int Unit where
  m := 1
  vals _ n := [.int .i64 n]
  len _ _ := rfl
  Own _ _ _ _ _ n := in64 n
  Ok _ _ n := in64 n
  frame h _ := h
  recol h _ := h
  base h _ := h
  ok h := h
  below h _ _ := h

def boolK : Kd Bool Unit where
  m := 1
  vals _ b := [.bool b]
  len _ _ := rfl
  Own _ _ _ _ _ _ := True
  Ok _ _ _ := True
  frame h _ := h
  recol h _ := h
  base h _ := h
  ok h := h
  below h _ _ := h

/-- Bytes that read. -/
structure BOk (w : World) (s : Sl) (z : List Int) : Prop where
  row : BRow w s.a s.n z
  room : s.n ≤ s.c
  max : s.c ≤ maxLen
  nil : s.a = none → s.c = 0

structure BOwn (w : World) (B : Nat) (d : Nat → Path) (p : Path) (s : Sl) (z : List Int) : Prop where
  rng : ∀ x ∈ z, 0 ≤ x ∧ x ≤ 255
  own : w.ownsRow B 5 1 (.slice s.a s.n s.c) s.n (z.map (Value.int .u8))
  col : ∀ x, s.a = some x → d x.block = p

theorem own_frame {w w' : World} {B : Nat} {e : TypeId} {m n c : Nat} {a : Option Addr} {xs : List Value} (h : w.ownsRow B e m (.slice a n c) n xs) (hk : ∀ x, a = some x → w'.heap[x.block]? = w.heap[x.block]?) : w'.ownsRow B e m (.slice a n c) n xs := by
  refine ⟨h.1, ?_⟩
  rcases h.2 with h' | ⟨g, cap, cur, h1, h2, h3, h4⟩
  · exact .inl h'
  · have ha : a = some ⟨g, 0, none⟩ := by simp only [Value.slice.injEq] at h1; exact h1.1
    exact .inr ⟨g, cap, cur, h1, h2, (hk _ ha).trans h3, h4⟩

theorem BOwn.blk {w : World} {B : Nat} {d : Nat → Path} {p : Path} {s : Sl} {z : List Int} (h : BOwn w B d p s z) {x : Addr} (hx : s.a = some x) : B ≤ x.block ∧ x.block < w.heap.size := (OwnS.of h.own).blk hx

theorem BOwn.ok {w : World} {B : Nat} {d : Nat → Path} {p : Path} {s : Sl} {z : List Int} (h : BOwn w B d p s z) : BOk w s z :=
  ⟨BRow.own2 h.own h.rng, (OwnS.of h.own).room, (OwnS.of h.own).max, (OwnS.of h.own).nil⟩

def bytesK : Kd (List Int) Sl where
  m := 1
  vals s _ := [.slice s.a s.n s.c]
  len _ _ := rfl
  Own := BOwn
  Ok := BOk
  frame h hk := ⟨h.rng, own_frame h.own (fun x hx => hk _ (h.blk hx).2 (h.blk hx).1 (by rw [h.col x hx]; exact List.prefix_rfl)), h.col⟩
  recol h hk := ⟨h.rng, h.own, fun x hx => by rw [hk _ (h.blk hx).2 (h.blk hx).1 (by rw [h.col x hx]; exact List.prefix_rfl)]; exact h.col x hx⟩
  base h hB := ⟨h.rng, ownsRow_base h.own hB, h.col⟩
  ok h := h.ok
  below h hb hB := ⟨h.row.below hb hB, h.room, h.max, h.nil⟩

/-- One thing and another one behind it. -/
def pairK {α β α' β' : Type} (K : Kd α β) (L : Kd α' β') : Kd (α × α') (β × β') where
  m := K.m + L.m
  vals e x := K.vals e.1 x.1 ++ L.vals e.2 x.2
  len e x := by rw [List.length_append, K.len, L.len]
  Own w B d p e x := K.Own w B d (p ++ [0]) e.1 x.1 ∧ L.Own w B d (p ++ [1]) e.2 x.2
  Ok w e x := K.Ok w e.1 x.1 ∧ L.Ok w e.2 x.2
  frame h hk := ⟨K.frame h.1 (fun g h1 h2 h3 => hk g h1 h2 ((List.prefix_append _ _).trans h3)), L.frame h.2 (fun g h1 h2 h3 => hk g h1 h2 ((List.prefix_append _ _).trans h3))⟩
  recol h hk := ⟨K.recol h.1 (fun g h1 h2 h3 => hk g h1 h2 ((List.prefix_append _ _).trans h3)), L.recol h.2 (fun g h1 h2 h3 => hk g h1 h2 ((List.prefix_append _ _).trans h3))⟩
  base h hB := ⟨K.base h.1 hB, L.base h.2 hB⟩
  ok h := ⟨K.ok h.1, L.ok h.2⟩
  below h hb hB := ⟨K.below h.1 hb hB, L.below h.2 hb hB⟩

/-- Rows of a kind. -/
structure RowOk {α β : Type} (K : Kd α β) (w : World) (s : Sl) (xs : List α) : Prop where
  len : s.n = xs.length
  room : s.n ≤ s.c
  max : s.c ≤ maxLen
  nil : s.a = none → s.c = 0
  pos : 0 < s.n → ∃ b off, s.a = some ⟨b, off, none⟩ ∧ b < w.heap.size ∧ ∀ i x, xs[i]? = some x → ∃ e, (∀ j v, (K.vals e x)[j]? = some v → w.cell? ⟨b, off + i * K.m + j, none⟩ = some v) ∧ K.Ok w e x

/-- The first k of them lie there. -/
structure RowPart {α β : Type} (K : Kd α β) (T : TypeId) (w : World) (B : Nat) (d : Nat → Path) (p : Path) (s : Sl) (xs : List α) (k : Nat) : Prop where
  len : s.n = xs.length
  all : ∃ (es : List β) (vs : List Value), es.length = k ∧ OwnS w B T K.m s vs ∧ (∀ x, s.a = some x → d x.block = p) ∧
    ∀ i e x, es[i]? = some e → xs[i]? = some x → (∀ j v, (K.vals e x)[j]? = some v → vs[i * K.m + j]? = some v) ∧ K.Own w B d (p ++ [i]) e x

def RowOwn {α β : Type} (K : Kd α β) (T : TypeId) (w : World) (B : Nat) (d : Nat → Path) (p : Path) (s : Sl) (xs : List α) : Prop := RowPart K T w B d p s xs xs.length

theorem not_pre_self (p : Path) (i : Nat) : ¬ (p ++ [i]) <+: p := fun h => by have := h.length_le; simp at this; omega

theorem pre_snoc (p q : Path) (i j : Nat) (h : i ≠ j) : (p ++ [i]) <+: q → ¬ (p ++ [j]) <+: q := by
  intro h1 h2
  have e : p ++ [i] = p ++ [j] := by
    have a := List.prefix_of_prefix_length_le h1 h2 (by simp)
    exact a.eq_of_length (by simp)
  simp at e
  exact h e

theorem row_index {m i j n : Nat} (hi : i < n) (hj : j < m) : i * m + j < n * m := by
  have : i * m + m ≤ n * m := by
    rw [← Nat.succ_mul]
    exact Nat.mul_le_mul_right m hi
  omega

theorem RowPart.frame {α β : Type} {K : Kd α β} {T : TypeId} {w w' : World} {B : Nat} {d : Nat → Path} {p : Path} {s : Sl} {xs : List α} {k : Nat} (h : RowPart K T w B d p s xs k) (hk : ∀ g, g < w.heap.size → B ≤ g → p <+: d g → w'.heap[g]? = w.heap[g]?) : RowPart K T w' B d p s xs k := by
  obtain ⟨h1, es, vs, h2, h3, h4, h5⟩ := h
  refine ⟨h1, es, vs, h2, h3.keep (fun x hx => hk _ (h3.blk hx).2 (h3.blk hx).1 (by rw [h4 x hx]; exact List.prefix_rfl)), h4, fun i e x he hx => ?_⟩
  obtain ⟨q1, q2⟩ := h5 i e x he hx
  exact ⟨q1, K.frame q2 (fun g a b c => hk g a b ((List.prefix_append _ _).trans c))⟩

theorem RowPart.recol {α β : Type} {K : Kd α β} {T : TypeId} {w : World} {B : Nat} {d d' : Nat → Path} {p : Path} {s : Sl} {xs : List α} {k : Nat} (h : RowPart K T w B d p s xs k) (hk : ∀ g, g < w.heap.size → B ≤ g → p <+: d g → d' g = d g) : RowPart K T w B d' p s xs k := by
  obtain ⟨h1, es, vs, h2, h3, h4, h5⟩ := h
  refine ⟨h1, es, vs, h2, h3, fun x hx => by rw [hk _ (h3.blk hx).2 (h3.blk hx).1 (by rw [h4 x hx]; exact List.prefix_rfl)]; exact h4 x hx, fun i e x he hx => ?_⟩
  obtain ⟨q1, q2⟩ := h5 i e x he hx
  exact ⟨q1, K.recol q2 (fun g a b c => hk g a b ((List.prefix_append _ _).trans c))⟩

theorem RowPart.base {α β : Type} {K : Kd α β} {T : TypeId} {w : World} {B B' : Nat} {d : Nat → Path} {p : Path} {s : Sl} {xs : List α} {k : Nat} (h : RowPart K T w B d p s xs k) (hB : B' ≤ B) : RowPart K T w B' d p s xs k := by
  obtain ⟨h1, es, vs, h2, h3, h4, h5⟩ := h
  refine ⟨h1, es, vs, h2, h3.base hB, h4, fun i e x he hx => ?_⟩
  obtain ⟨q1, q2⟩ := h5 i e x he hx
  exact ⟨q1, K.base q2 hB⟩

theorem RowOwn.ok {α β : Type} {K : Kd α β} {T : TypeId} {w : World} {B : Nat} {d : Nat → Path} {p : Path} {s : Sl} {xs : List α} (h : RowOwn K T w B d p s xs) : RowOk K w s xs := by
  obtain ⟨h1, es, vs, h2, h3, h4, h5⟩ := h
  refine ⟨h1, h3.room, h3.max, h3.nil, fun hp => ?_⟩
  obtain ⟨g, off, ha, hb, hl⟩ := h3.pos hp
  refine ⟨g, off, ha, hl, fun i x hx => ?_⟩
  have hi := (List.getElem?_eq_some_iff.1 hx).1
  obtain ⟨e, he⟩ : ∃ e, es[i]? = some e := ⟨_, List.getElem?_eq_getElem (by omega)⟩
  obtain ⟨q1, q2⟩ := h5 i e x he hx
  refine ⟨e, fun j v hv => ?_, K.ok q2⟩
  have hj : j < K.m := by have := (List.getElem?_eq_some_iff.1 hv).1; rw [K.len] at this; exact this
  rw [Nat.add_assoc, h3.cell ha (row_index (by omega) hj)]
  exact q1 j v hv

theorem RowOk.below {α β : Type} {K : Kd α β} {w w' : World} {B : Nat} {s : Sl} {xs : List α} (h : RowOk K w s xs) (hb : Below B w w') (hB : w.heap.size ≤ B) : RowOk K w' s xs := by
  refine ⟨h.len, h.room, h.max, h.nil, fun hp => ?_⟩
  obtain ⟨b, off, ha, hl, hx⟩ := h.pos hp
  refine ⟨b, off, ha, Nat.lt_of_lt_of_le hl hb.size, fun i x hi => ?_⟩
  obtain ⟨e, q1, q2⟩ := hx i x hi
  exact ⟨e, fun j v hv => (hb.cell (Nat.lt_of_lt_of_le hl hB)).trans (q1 j v hv), K.below q2 hb hB⟩

/-- A slice of a kind is a kind. -/
def rowK {α β : Type} (K : Kd α β) (T : TypeId) : Kd (List α) Sl where
  m := 1
  vals s _ := [.slice s.a s.n s.c]
  len _ _ := rfl
  Own := RowOwn K T
  Ok := RowOk K
  frame h hk := RowPart.frame h hk
  recol h hk := RowPart.recol h hk
  base h hB := RowPart.base h hB
  ok h := h.ok
  below h hb hB := h.below hb hB

theorem RowOwn.nil {α β : Type} (K : Kd α β) (T : TypeId) (w : World) (B : Nat) (d : Nat → Path) (p : Path) : RowOwn K T w B d p ⟨none, 0, 0⟩ [] :=
  ⟨rfl, [], [], rfl, ⟨by simp, Nat.zero_le _, Nat.le_refl _, fun _ => rfl, fun x hx => by cases hx⟩, (fun x hx => by cases hx), fun i e x he => by simp at he⟩

theorem RowPart.zero {α β : Type} {K : Kd α β} {T : TypeId} {w : World} {B : Nat} {d : Nat → Path} {p : Path} {s : Sl} {xs : List α} {vs : List Value} (h : OwnS w B T K.m s vs) (hn : s.n = xs.length) (hc : ∀ x, s.a = some x → d x.block = p) : RowPart K T w B d p s xs 0 :=
  ⟨hn, [], vs, rfl, h, hc, fun i e x he => by simp at he⟩

/-- What is there at the place of the next one. -/
theorem RowPart.slot {α β : Type} {K : Kd α β} {T : TypeId} {w : World} {B : Nat} {d : Nat → Path} {p : Path} {s : Sl} {xs : List α} {k : Nat} (h : RowPart K T w B d p s xs k) {g off : Nat} (ha : s.a = some ⟨g, off, none⟩) {i : Nat} (hk : i < xs.length) :
    (∀ j, j < K.m → ∃ u, w.cell? ⟨g, off + i * K.m + j, none⟩ = some u) ∧ ∀ j, w.frozen? ⟨g, j, none⟩ = false := by
  obtain ⟨h1, es, vs, h2, h3, h4, h5⟩ := h
  refine ⟨fun j hj => ?_, fun j => h3.free ha j⟩
  have hx := row_index (n := s.n) (m := K.m) (i := i) (j := j) (by omega) hj
  rw [Nat.add_assoc, h3.cell ha hx]
  exact ⟨_, List.getElem?_eq_getElem (by rw [h3.len]; exact hx)⟩

/-- One more. -/
theorem RowPart.step {α β : Type} {K : Kd α β} {T : TypeId} {w w2 : World} {B : Nat} {d d2 : Nat → Path} {p : Path} {s : Sl} {xs : List α} {k : Nat} {e : β} {x : α} (h : RowPart K T w B d p s xs k) (hx : xs[k]? = some x)
    (hw : ∀ g, g < w.heap.size → w2.heap[g]? = w.heap[g]?) (hd : ∀ g, g < w.heap.size → d2 g = d g) (o : K.Own w2 B d2 (p ++ [k]) e x) {g off : Nat} (ha : s.a = some ⟨g, off, none⟩) :
    RowPart K T (putRow w2 g (off + k * K.m) (K.vals e x)) B d2 p s xs (k + 1) := by
  obtain ⟨h1, es, vs, h2, h3, h4, h5⟩ := h
  have hk := (List.getElem?_eq_some_iff.1 hx).1
  have hgs := (h3.blk ha).2
  have hdg : d2 g = p := by rw [hd g hgs]; exact h4 _ ha
  have h3' := h3.keep (w' := w2) (fun y hy => by rw [ha] at hy; obtain rfl := Option.some.inj hy; exact hw _ hgs)
  have keep : ∀ {i e' x'}, K.Own w2 B d2 (p ++ [i]) e' x' → K.Own (putRow w2 g (off + k * K.m) (K.vals e x)) B d2 (p ++ [i]) e' x' := fun {i e' x'} q => K.frame q (fun g' a b c => putRow_other _ _ _ _ _ (fun ee => by subst ee; rw [hdg] at c; exact not_pre_self p i c))
  refine ⟨h1, es ++ [e], setL vs (k * K.m) (K.vals e x), by simp [h2], h3'.putRow _ ha _, fun y hy => by rw [ha] at hy; obtain rfl := Option.some.inj hy; exact hdg, fun i e' x' he hx' => ?_⟩
  by_cases hik : i < k
  · rw [List.getElem?_append_left (by omega)] at he
    obtain ⟨q1, q2⟩ := h5 i e' x' he hx'
    refine ⟨fun j v hv => ?_, keep (K.frame (K.recolNew q2 hd) (fun g' a b c => hw g' a))⟩
    have hj : j < K.m := by have := (List.getElem?_eq_some_iff.1 hv).1; rw [K.len] at this; exact this
    rw [setL_other _ _ _ _ (.inl (row_index hik hj))]
    exact q1 j v hv
  · have hi : i < (es ++ [e]).length := (List.getElem?_eq_some_iff.1 he).1
    simp [h2] at hi
    obtain rfl : i = k := by omega
    rw [List.getElem?_append_right (by omega), h2, Nat.sub_self] at he
    simp at he
    subst he
    obtain rfl : x = x' := Option.some.inj (hx.symm.trans hx')
    refine ⟨fun j v hv => ?_, keep o⟩
    have hj : j < K.m := by have := (List.getElem?_eq_some_iff.1 hv).1; rw [K.len] at this; exact this
    exact setL_at _ _ _ _ _ hv (by rw [h3.len]; exact row_index (by omega) hj)

/-- Two colourings, one below n and one from there on. -/
def joinD (n : Nat) (d1 d2 : Nat → Path) : Nat → Path := fun g => if g < n then d1 g else d2 g

theorem joinD_lt {n g : Nat} {d1 d2 : Nat → Path} (h : g < n) : joinD n d1 d2 g = d1 g := if_pos h
theorem joinD_ge {n g : Nat} {d1 d2 : Nat → Path} (h : n ≤ g) : joinD n d1 d2 g = d2 g := if_neg (by omega)

theorem Kd.left {α β : Type} (K : Kd α β) {w : World} {B : Nat} {d1 d2 : Nat → Path} {p : Path} {e : β} {x : α} (h : K.Own w B d1 p e x) {n : Nat} (hn : w.heap.size ≤ n) : K.Own w B (joinD n d1 d2) p e x :=
  K.recol h (fun g hg _ _ => joinD_lt (by omega))

theorem Kd.right {α β : Type} (K : Kd α β) {w : World} {B : Nat} {d1 d2 : Nat → Path} {p : Path} {e : β} {x : α} (h : K.Own w B d2 p e x) {n : Nat} (hn : n ≤ B) : K.Own w B (joinD n d1 d2) p e x :=
  K.recol h (fun g hg hb _ => joinD_ge (by omega))

/-- Nothing is written below B, nor in blocks that are not under the path p. -/
def OnlyP (B : Nat) (d : Nat → Path) (p : Path) (w w' : World) : Prop := Below B w w' ∧ ∀ g, g < w.heap.size → ¬ p <+: d g → w'.heap[g]? = w.heap[g]?

theorem OnlyP.refl (B : Nat) (d : Nat → Path) (p : Path) (w : World) : OnlyP B d p w w := ⟨Below.refl _ _, fun _ _ _ => rfl⟩

theorem OnlyP.trans {B : Nat} {d : Nat → Path} {p : Path} {a b c : World} (h : OnlyP B d p a b) (k : OnlyP B d p b c) : OnlyP B d p a c :=
  ⟨h.1.trans k.1, fun g hg hs => (k.2 g (Nat.lt_of_lt_of_le hg h.1.size) hs).trans (h.2 g hg hs)⟩

theorem OnlyP.up {B : Nat} {d : Nat → Path} {p q : Path} {a b : World} (h : OnlyP B d (p ++ q) a b) : OnlyP B d p a b := ⟨h.1, fun g hg hp => h.2 g hg (fun k => hp ((List.prefix_append _ _).trans k))⟩

theorem OnlyP.below {B C : Nat} {d : Nat → Path} {p : Path} {a b : World} (h : Below C a b) (hC : a.heap.size ≤ C) (hB : B ≤ C) : OnlyP B d p a b := ⟨h.mono hB, fun g hg _ => h.block g (Nat.lt_of_lt_of_le hg hC)⟩

theorem OnlyP.sblk {B : Nat} {d : Nat → Path} {p : Path} {w w' : World} (h : OnlyP B d p w w') {g : Nat} {vs : List Value} {T : TypeId} (hs : SBlk w g vs T) (hg : ¬ p <+: d g) : SBlk w' g vs T := (h.2 g hs.lt hg).trans hs

/-- What lies under another path stays. -/
theorem Kd.apart {α β : Type} (K : Kd α β) {w w' : World} {B B' : Nat} {d : Nat → Path} {p q : Path} {e : β} {x : α} (h : K.Own w B d p e x) (o : OnlyP B' d q w w') (hpq : ∀ c, p <+: c → ¬ q <+: c) : K.Own w' B d p e x :=
  K.frame h (fun g hg _ hp => o.2 g hg (hpq _ hp))

end Go.Proofs.YtpkfgffgldjceaaDoor

/- What is proved here: how an argument of a kind reads, by its walk; it holds for every program. -/
namespace Go.Proofs.YtpkfgffgldjceaaDoor
open Go.RowKit
set_option linter.unusedVariables false
set_option maxRecDepth 100000

section
variable {H : Type} {enc : TypeId × Value → H} {P : Program} {w : World} {sp : Nat → Bool} {held : Bool}

/-- Cells of the type t read as a thing of the kind. -/
def Opens {α β : Type} (enc : TypeId × Value → H) (P : Program) (w : World) (sp : Nat → Bool) (held : Bool) (K : Kd α β) (t : TypeId) : Prop :=
  ∀ (fuel : Nat) (cs : List Value) (y : DataW H × List MemPlace), cs.length = K.m → DataW.trod enc P w 0 sp held fuel t cs = some y → ∃ e x, cs = K.vals e x ∧ K.Ok w e x

theorem one_cell {cs : List Value} (h : cs.length = 1) : ∃ v, cs = [v] := by
  match cs, h with
  | [v], _ => exact ⟨v, rfl⟩

theorem opens_int {t : TypeId} (ut : P.underlying t = some (.int .i64)) : Opens enc P w sp held intK t := by
  intro fuel cs y hl h
  obtain ⟨v, rfl⟩ := one_cell hl
  obtain ⟨n, rfl, hn⟩ := field_int ut h
  exact ⟨(), n, rfl, hn⟩

theorem opens_bool {t : TypeId} (ut : P.underlying t = some .bool) : Opens enc P w sp held boolK t := by
  intro fuel cs y hl h
  obtain ⟨v, rfl⟩ := one_cell hl
  obtain ⟨b, e, _⟩ := DataW.trod_bool ut h
  simp only [List.cons.injEq, and_true] at e
  subst e
  exact ⟨(), b, rfl, trivial⟩

theorem opens_bytes {t tu : TypeId} (us : P.underlying t = some (.slice tu)) (uu : P.underlying tu = some (.int .u8)) (cu : P.cellsOf tu = 1) : Opens enc P w sp held bytesK t := by
  intro fuel cs y hl h
  obtain ⟨v, rfl⟩ := one_cell hl
  rcases ChangeShapes.open_ints us uu cu h with ⟨e2, _⟩ | ⟨sa, sl, sc, zs, e2, _, hsl, hsm, hzl, _, hzc, hzw⟩
  · simp only [List.cons.injEq, and_true] at e2
    subst e2
    exact ⟨⟨none, 0, 0⟩, [], rfl, ⟨rfl, fun n hn => by simp at hn, fun _ => rfl, fun y hy => by cases hy⟩, Nat.le_refl _, Nat.zero_le _, fun _ => rfl⟩
  · simp only [List.cons.injEq, and_true] at e2
    subst e2
    have hzl' : sl ≤ zs.length := by rw [hzl]; split <;> omega
    refine ⟨⟨some sa, sl, sc⟩, zs.take sl, rfl, ⟨by simp; omega, fun n hn => ?_, (fun e => (by cases e)), fun y hy j hj => ?_⟩, hsl, hsm, fun e => by cases e⟩
    · exact bounds_u8 (hzw n (List.mem_of_mem_take hn))
    · cases hy
      have hj' : j < sl := hj
      rw [hzc j (by omega), getD_at _ j (by omega), getD_at _ j (by simp; omega), List.getElem_take]

/-- A slice of a kind. -/
theorem opens_row {α β : Type} {K : Kd α β} {t e T : TypeId} (ht : P.underlying t = some (.slice e)) (hc : P.cellsOf e = K.m) (hm : 0 < K.m) (each : Opens enc P w sp held K e) : Opens enc P w sp held (rowK K T) t := by
  intro fuel cs y hl h
  obtain ⟨v, rfl⟩ := one_cell hl
  obtain ⟨d, ps⟩ := y
  rcases DataW.trod_slice ht h with ⟨hn, _⟩ | ⟨x, len, cap, elems, rest, n, _, hcs, _, _, hlc, hm', hlen, hel, _⟩
  · simp only [List.cons.injEq, and_true] at hn
    subst hn
    exact ⟨⟨none, 0, 0⟩, [], rfl, rfl, Nat.le_refl _, Nat.zero_le _, fun _ => rfl, fun hp => absurd hp (Nat.lt_irrefl _)⟩
  · simp only [List.cons.injEq, and_true] at hcs
    subst hcs
    have each' : ∀ i, i < len → ∃ (el : β) (a : α), x.spot = none ∧ x.block < w.heap.size ∧ (∀ j v, (K.vals el a)[j]? = some v → w.cell? ⟨x.block, x.off + i * K.m + j, none⟩ = some v) ∧ K.Ok w el a := by
      intro i hi
      have cellsAt : ∀ i, i < len → ∃ cs : List Value, cs.length = K.m ∧ (∀ (j : Nat) (hj : j < cs.length), w.cell? ((x.add (i * K.m)).add j) = some cs[j]) ∧ DataW.trod enc P w 0 sp held n e cs = elems[i]? := by
        intro i hi
        have hE := hel i hi
        rw [List.getElem?_eq_getElem (by omega), Option.bind_eq_some_iff, hc] at hE
        obtain ⟨cs, hcells, htr⟩ := hE
        obtain ⟨_, hcl, hcell⟩ := World.cells?_some hcells
        refine ⟨cs, hcl, fun j hj => ?_, by rw [htr, List.getElem?_eq_getElem (by omega)]⟩
        have := hcell j (by omega)
        rw [List.getElem?_eq_getElem hj] at this
        exact this
      have hsp : x.spot = none := by
        obtain ⟨cs0, hl0, hc0, _⟩ := cellsAt 0 (by omega)
        have q := hc0 0 (by omega)
        simpa [Addr.add] using World.cell?_spot q
      obtain ⟨cs, hl1, hc1, ht1⟩ := cellsAt i hi
      obtain ⟨xb, xo, xs⟩ := x
      simp only at hsp
      subst hsp
      rw [List.getElem?_eq_getElem (by omega)] at ht1
      obtain ⟨el, a, rfl, ho⟩ := each _ _ _ hl1 ht1
      refine ⟨el, a, rfl, ?_, fun j v hv => ?_, ho⟩
      · have q := hc1 0 (by omega)
        rw [add_none, add_none] at q
        have := lt_of_cell q
        exact this
      · obtain ⟨hj, rfl⟩ := List.getElem?_eq_some_iff.1 hv
        have := hc1 j hj
        rw [add_none, add_none] at this
        exact this
    have build : ∀ k, k ≤ len → ∃ al : List α, al.length = k ∧ ∀ i a, al[i]? = some a → ∃ el, (∀ j v, (K.vals el a)[j]? = some v → w.cell? ⟨x.block, x.off + i * K.m + j, none⟩ = some v) ∧ K.Ok w el a := by
      intro k
      induction k with
      | zero => exact fun _ => ⟨[], rfl, fun i a ha => by simp at ha⟩
      | succ k ih =>
        intro hk
        obtain ⟨al, q1, q2⟩ := ih (by omega)
        obtain ⟨el, a, _, _, r1, r2⟩ := each' k (by omega)
        refine ⟨al ++ [a], by simp [q1], fun i b hb => ?_⟩
        rcases Nat.lt_or_ge i k with h' | h'
        · rw [List.getElem?_append_left (by omega)] at hb
          exact q2 i b hb
        · have hi : i < (al ++ [a]).length := (List.getElem?_eq_some_iff.1 hb).1
          simp at hi
          obtain rfl : i = k := by omega
          rw [List.getElem?_append_right (by omega), q1, Nat.sub_self] at hb
          simp at hb
          subst hb
          exact ⟨el, r1, r2⟩
    obtain ⟨al, q1, q2⟩ := build len (Nat.le_refl _)
    refine ⟨⟨some x, len, cap⟩, al, rfl, q1.symm, hlc, hm', (fun e => by cases e), fun hp => ?_⟩
    obtain ⟨_, _, hsp, hlt, _⟩ := each' 0 hp
    refine ⟨x.block, x.off, ?_, hlt, q2⟩
    obtain ⟨b, o, s⟩ := x
    simp only at hsp
    subst hsp
    rfl

/-- The fields of a struct, one behind the other: the first cells, and the rest. -/
theorem opens_pair {α β α' β' : Type} {K : Kd α β} {L : Kd α' β'} {cs : List Value} (hl : cs.length = K.m + L.m)
    (h1 : ∃ e x, cs.take K.m = K.vals e x ∧ K.Ok w e x) (h2 : ∃ e x, cs.drop K.m = L.vals e x ∧ L.Ok w e x) : ∃ e x, cs = (pairK K L).vals e x ∧ (pairK K L).Ok w e x := by
  obtain ⟨e, x, q1, q2⟩ := h1
  obtain ⟨e', x', r1, r2⟩ := h2
  refine ⟨(e, e'), (x, x'), ?_, q2, r2⟩
  show cs = K.vals e x ++ L.vals e' x'
  rw [← q1, ← r1, List.take_append_drop]

/-- A field of a struct. -/
theorem opens_field {α β : Type} {K : Kd α β} {t : TypeId} {fs : Array Field} {fuel : Nat} {cs : List Value} {y : DataW H × List MemPlace} (ht : P.underlying t = some (.struct fs)) (h : DataW.trod enc P w 0 sp held fuel t cs = some y)
    (i : Nat) (f : Field) (hf : fs[i]? = some f) {u : TypeId} {o : Nat} (hu : f.type = u) (ho : f.offset = o) (hc : P.cellsOf u = K.m) (hk : Opens enc P w sp held K u) (hl : o + K.m ≤ cs.length) :
    ∃ e x, (cs.drop o).take K.m = K.vals e x ∧ K.Ok w e x := by
  obtain ⟨d, ps⟩ := y
  obtain ⟨xs, m, _, _, _, hxl, hfs⟩ := DataW.trod_struct ht h
  have g := hfs i f hf
  have hi : i < xs.length := by rw [hxl]; exact (Array.getElem?_eq_some_iff.1 hf).1
  rw [List.getElem?_eq_getElem hi, hu, ho, hc] at g
  exact hk _ _ _ (by rw [List.length_take, List.length_drop]; omega) g

/-- An argument. -/
theorem opens_arg {α β : Type} {K : Kd α β} {t : TypeId} {v : Value} {d : DataW H} {ps : List MemPlace} (hk : Opens enc P w sp held K t) (hv : ∃ cs, v = .agg cs ∧ cs.size = P.cellsOf t) (hc : P.cellsOf t = K.m) (h : DataW.Trod enc P w 0 sp held t v d ps) :
    ∃ e x, v = .agg (K.vals e x).toArray ∧ K.Ok w e x := by
  obtain ⟨cs, rfl, hs⟩ := hv
  obtain ⟨fuel, h⟩ := h
  have h' : DataW.trod enc P w 0 sp held fuel t cs.toList = some (d, ps) := h
  obtain ⟨e, x, q1, q2⟩ := hk _ _ _ (by rw [Array.length_toList, hs, hc]) h'
  exact ⟨e, x, by rw [← q1], q2⟩
end

end Go.Proofs.YtpkfgffgldjceaaDoor

/- What is proved here: plain facts on snapshots: their kinds, and how great they are; no program is named. -/
namespace Go.Proofs.YtpkfgffgldjceaaDoor
open Go.RowKit
set_option linter.unusedVariables false
set_option maxRecDepth 100000

/-- A recent signer: a number, an address. A vote: signer, target, whether to add. A snapshot: a number, signers, recents, votes. -/
abbrev Rc := Int × List Int
abbrev Vt := List Int × List Int × Bool
abbrev Sn := Int × List (List Int) × List Rc × List Vt
abbrev RcS := Unit × Sl
abbrev VtS := Sl × Sl × Unit
abbrev SnS := Unit × Sl × Sl × Sl

def rcK : Kd Rc RcS := pairK intK bytesK
def vtK : Kd Vt VtS := pairK bytesK (pairK bytesK boolK)
def snK (TB TR TV : TypeId) : Kd Sn SnS := pairK intK (pairK (rowK bytesK TB) (pairK (rowK rcK TR) (rowK vtK TV)))

/-- The four cells of a snapshot. -/
def snvals (e : SnS) (x : Sn) : Array Value := #[.int .i64 x.1, .slice e.2.1.a e.2.1.n e.2.1.c, .slice e.2.2.1.a e.2.2.1.n e.2.2.1.c, .slice e.2.2.2.a e.2.2.2.n e.2.2.2.c]

theorem snvals_eq (TB TR TV : TypeId) (e : SnS) (x : Sn) : ((snK TB TR TV).vals e x).toArray = snvals e x := rfl

/-- What is left of a number behind so many: below 0: -1. -/
def szOf (left : Int) (n : Nat) : Int := if left - n < 0 then -1 else left - n

def rcSz (x : Rc) : Nat := x.2.length
def vtSz (x : Vt) : Nat := x.1.length + x.2.1.length
/-- The sum over a list. -/
def lsum {α : Type} (f : α → Nat) (xs : List α) : Nat := (xs.map f).sum
def snSz (x : Sn) : Nat := (x.2.1.length + lsum List.length x.2.1) + (x.2.2.1.length + lsum rcSz x.2.2.1) + (x.2.2.2.length + lsum vtSz x.2.2.2)

theorem lsum_succ {α : Type} (f : α → Nat) (xs : List α) (k : Nat) (x : α) (h : xs[k]? = some x) : lsum f (xs.take (k + 1)) = lsum f (xs.take k) + f x := by
  obtain ⟨hk, e⟩ := List.getElem?_eq_some_iff.1 h
  unfold lsum
  rw [List.take_succ_eq_append_getElem hk, List.map_append, List.sum_append, e]
  simp

theorem lsum_take {α : Type} (f : α → Nat) (xs : List α) (k : Nat) : lsum f (xs.take k) ≤ lsum f xs := by
  induction xs generalizing k with
  | nil => simp [lsum]
  | cons x r ih =>
    cases k with
    | zero => simp [lsum]
    | succ k => have := ih k; simp [lsum] at this ⊢; omega

theorem lsum_mem {α : Type} (f : α → Nat) (xs : List α) (x : α) (h : x ∈ xs) : f x ≤ lsum f xs := by
  induction xs with
  | nil => simp at h
  | cons y r ih =>
    rcases List.mem_cons.1 h with e | e
    · subst e; simp [lsum]
    · have := ih e; simp [lsum] at this ⊢; omega

theorem szBs_lsum (zss : List (List Int)) : ∀ left : Int, 0 ≤ left → szBs left zss = szOf left (lsum List.length zss) := by
  induction zss with
  | nil => intro left h; unfold szBs szOf lsum; simp; omega
  | cons z r ih =>
    intro left h
    have e : lsum List.length (z :: r) = z.length + lsum List.length r := by simp [lsum]
    unfold szBs
    rw [e]
    split
    · rename_i hn
      unfold szOf
      rw [if_pos (by omega)]
    · rename_i hn
      rw [ih _ (by omega)]
      unfold szOf
      split <;> split <;> omega

theorem szBss_lsum (zss : List (List Int)) (left : Int) (h : 0 ≤ left) : szBss left zss = szOf left (zss.length + lsum List.length zss) := by
  unfold szBss
  split
  · unfold szOf
    rw [if_pos (by omega)]
  · rw [szBs_lsum _ _ (by omega)]
    unfold szOf
    split <;> split <;> omega

theorem szOf_szOf {left : Int} {a b : Nat} (h : 0 ≤ szOf left a) : szOf (szOf left a) b = szOf left (a + b) := by
  unfold szOf at h ⊢
  split at h
  · omega
  · rename_i hn
    rw [if_neg hn]
    split <;> split <;> omega

theorem szOf_neg {left : Int} {a b : Nat} (h : szOf left a < 0) (hab : a ≤ b) : szOf left b = -1 := by
  unfold szOf at h ⊢
  split at h
  · rw [if_pos (by omega)]
  · omega

theorem szOf_ok {left : Int} {a : Nat} (h : 0 ≤ szOf left a) : (a : Int) ≤ left := by
  unfold szOf at h
  split at h <;> omega

/-- The bytes of rows of bytes. -/
theorem bs_of_row {w : World} {s : Sl} {zss : List (List Int)} (h : RowOk bytesK w s zss) : BsRow w s.a s.n zss := by
  refine ⟨h.len.symm, fun z hz => ?_, fun hp => ?_⟩
  · obtain ⟨i, hi⟩ := List.getElem?_of_mem hz
    have hil := (List.getElem?_eq_some_iff.1 hi).1
    obtain ⟨b, off, _, _, k⟩ := h.pos (by rw [h.len]; omega)
    obtain ⟨e, _, ho⟩ := k i z hi
    have ho' : BOk w e z := ho
    have := ho'.row.1
    have := ho'.room
    have := ho'.max
    omega
  · obtain ⟨b, off, ha, _, k⟩ := h.pos hp
    refine ⟨b, off, ha, fun i z hi => ?_⟩
    obtain ⟨e, q, ho⟩ := k i z hi
    have ho' : BOk w e z := ho
    have q0 := q 0 _ rfl
    refine ⟨e.a, e.n, e.c, ?_, ho'.row⟩
    have e1 : bytesK.m = 1 := rfl
    rw [e1, Nat.mul_one, Nat.add_zero] at q0
    exact q0

theorem bsnil_of_row {w : World} {s : Sl} {zss : List (List Int)} (h : RowOk bytesK w s zss) : BsNil w s.a s.n := by
  intro b off e i hi
  obtain ⟨b', off', ha, _, k⟩ := h.pos (by omega)
  rw [e] at ha
  simp only [Option.some.injEq, Addr.mk.injEq, and_true] at ha
  obtain ⟨rfl, rfl⟩ := ha
  obtain ⟨z, hz⟩ : ∃ z, zss[i]? = some z := ⟨_, List.getElem?_eq_getElem (by have := h.len; omega)⟩
  obtain ⟨el, q, ho⟩ := k i z hz
  have ho' : BOk w el z := ho
  have q0 := q 0 _ rfl
  have e1 : bytesK.m = 1 := rfl
  rw [e1, Nat.mul_one, Nat.add_zero] at q0
  exact ⟨el.a, el.n, el.c, q0, ho'.nil⟩

/-- Rows of bytes in memory of their own, told by colours before, told by paths. -/
theorem row_of_cs {w : World} {B r c : Nat} {d : Nat → Nat} {s : Sl} {zss : List (List Int)} (h : CS w B d r c s zss) (hr : ∀ i, r ≠ c + 3 * i) (p : Path) : ∃ d' : Nat → Path, RowOwn bytesK 57 w B d' p s zss := by
  obtain ⟨h1, es, h2, h3, h4, h5⟩ := h
  refine ⟨fun g => if d g = r then p else p ++ [(d g - c) / 3], h1, es, es.map Sl.v, h2, OwnS.of h3, fun x hx => ?_, fun i e z he hz => ?_⟩
  · have := h4 x.block (by rw [hx]; rfl)
    exact if_pos this
  · obtain ⟨q1, q2, q3, q4⟩ := h5 i e z he hz
    refine ⟨fun j v hv => ?_, q2, q3, fun x hx => ?_⟩
    · match j, hv with
      | 0, hv =>
        simp only [bytesK, List.getElem?_cons_zero, Option.some.injEq] at hv
        subst hv
        have e1 : bytesK.m = 1 := rfl
        rw [e1, Nat.mul_one, Nat.add_zero, List.getElem?_map, he]
        rfl
    · have hc := q4 x.block (by rw [hx]; rfl)
      show (if d x.block = r then p else p ++ [(d x.block - c) / 3]) = p ++ [i]
      rw [hc, if_neg (fun e => hr i e.symm), show c + 3 * i - c = 3 * i by omega, Nat.mul_div_cancel_left _ (by omega)]

end Go.Proofs.YtpkfgffgldjceaaDoor

/- What is proved here: the contracts of the laws' helper functions that count recents and votes (szRecentS, szVoteS). -/
namespace Go.Proofs.YtpkfgffgldjceaaDoor
open Go.RowKit
set_option linter.unusedVariables false
set_option maxRecDepth 100000

theorem szRecent_any (n0 : Int) (s1 : Sl) (z1 : List Int) (left : Int) (w : World) (o0 : BOk w s1 z1) (h0 : 0 ≤ left) (h1 : left ≤ 1099511627776) :
    Calls Tryd.prog 39 #[.agg #[.int .i64 n0, .slice s1.a s1.n s1.c], .int .i64 left] w fun e w' => e = .returned (.int .i64 (szOf left (rcSz (n0, z1)))) ∧ Below w.heap.size w w' := by
  have HB := hide (below_alloc w (.cells #[.int .i64 n0, .slice s1.a s1.n s1.c] 77))
  have l0 : z1.length = s1.n := o0.row.1
  have HS0 := hide (fun (W : World) (L : Int) (q0 : 0 ≤ L) (q1 : L ≤ 1099511627776) => szByteS_any s1.a s1.n s1.c L W q0 q1 (Nat.le_trans o0.room o0.max))
  have e0 : rcSz (n0, z1) = s1.n := by simp only [rcSz]; omega
  rw [e0]
  clear e0 l0 o0
  by_cases c0 : left - s1.n < 0
  · have D0 := hide (fun W => (unhide HS0) W left (by omega) (by omega))
    rw [if_pos c0] at D0
    go_enter Tryd.func39, Tryd.ntmps39
    go_wp2_with fail
    refine ((unhide D0) _).mono ?_
    rintro e w' ⟨rfl, rfl⟩
    go_wp2_with fail
    go_ret
    exact ⟨ret_int (by unfold szOf; rw [if_pos (by omega)]), unhide HB⟩
  · have D0 := hide (fun W => (unhide HS0) W left (by omega) (by omega))
    rw [if_neg c0] at D0
    obtain ⟨L1, eL1⟩ : ∃ L : Int, L = left - s1.n := ⟨_, rfl⟩
    rw [← eL1] at D0
    have d0 : decide (L1 < 0) = false := decide_eq_false (by omega)
    have EL1 := hide eL1
    have q0 : 0 ≤ L1 ∧ L1 ≤ 1099511627776 := by omega
    clear eL1
    go_enter Tryd.func39, Tryd.ntmps39
    go_wp2_with fail
    refine ((unhide D0) _).mono ?_
    rintro e w' ⟨rfl, rfl⟩
    go_wp2_with fail
    go_ret
    have eL1 := unhide EL1; exact ⟨ret_int (by unfold szOf; rw [if_neg (by omega)]; omega), unhide HB⟩

set_option maxHeartbeats 1000000 in
theorem szRecentS_any (s : Sl) (xs : List Rc) (left : Int) (w : World) (h : RowOk rcK w s xs) (h0 : 0 ≤ left) (h1 : left ≤ 1099511627776) :
    Calls Tryd.prog 17 #[.slice s.a s.n s.c, .int .i64 left] w fun e w' => e = .returned (.int .i64 (szOf left (xs.length + lsum rcSz xs))) ∧ Below w.heap.size w w' := by
  obtain ⟨a, len, cap⟩ := s
  have hil : len = xs.length := h.len
  have hl : len ≤ maxLen := Nat.le_trans h.room h.max
  unfold maxLen at hl
  rw [← hil]
  by_cases hs : left - len < 0
  · have e : szOf left (len + lsum rcSz xs) = -1 := by unfold szOf; rw [if_pos (by omega)]
    rw [e]
    have hd : decide (left - (len : Int) < 0) = true := decide_eq_true hs
    clear h
    go_enter Tryd.func17, Tryd.ntmps17
    go_wp2_with fail
    go_ret
    exact ⟨rfl, Below.refl _ _⟩
  · have hd : decide (left - (len : Int) < 0) = false := decide_eq_false hs
    rcases Nat.eq_zero_or_pos len with hz | hp
    · subst hz
      obtain rfl : xs = [] := List.length_eq_zero_iff.1 hil.symm
      clear h hil hl hd hs
      have hd : decide (left < 0) = false := decide_eq_false (by omega)
      have HE : Hid (szOf left (0 + lsum rcSz ([] : List Rc)) = left) := by show _ = _; unfold szOf lsum; simp; omega
      go_enter Tryd.func17, Tryd.ntmps17
      go_wp2_with fail
      refine wp_loop_rounds 1 ?_
      rw [rounds_succ]
      go_wp2_with fail
      go_ret
      exact ⟨ret_int (by rw [unhide HE]), Below.refl _ _⟩
    · obtain ⟨b, off, rfl, hb, hc⟩ := h.pos hp
      have HC := hide (fun (W : World) (hbl : Below w.heap.size w W) (i : Nat) (x : Rc) (hx : xs[i]? = some x) => match hc i x hx with | ⟨e, c, o⟩ => (⟨e, fun j v hv => (hbl.cell (p := ⟨b, off + i * rcK.m + j, none⟩) hb).trans (c j v hv), rcK.below o hbl (Nat.le_refl _)⟩ : ∃ e, (∀ j v, (rcK.vals e x)[j]? = some v → W.cell? ⟨b, off + i * rcK.m + j, none⟩ = some v) ∧ rcK.Ok W e x))
      have HL := hide hil
      clear h hc hil
      go_enter Tryd.func17, Tryd.ntmps17
      go_wp2_with fail
      go_loopw [1, 5] (fun q i wr => ∃ (k : Nat) (L : Int), k ≤ len ∧ i = .int .i64 k ∧ q = .int .i64 L ∧ 0 ≤ L ∧ L = left - len - (lsum rcSz (xs.take k) : Nat) ∧ Below w.heap.size w wr) (fun _ i _ => len - (intOf i).toNat)
      case atStart => exact ⟨0, _, Nat.zero_le _, rfl, rfl, by omega, by simp [lsum], Below.refl _ _⟩
      case round =>
        obtain ⟨k, L, hk, rfl, rfl, hL0, hL1, hbr⟩ := hrel
        by_cases hlt : k < len
        · obtain ⟨x, hx⟩ : ∃ x, xs[k]? = some x := ⟨_, List.getElem?_eq_getElem (by rw [← unhide HL]; exact hlt)⟩
          have hsum := lsum_succ rcSz xs k x hx
          have htk := lsum_take rcSz xs (k + 1)
          obtain ⟨⟨⟨⟩, s1⟩, c, o⟩ := (unhide HC) wr hbr k x hx
          obtain ⟨n0, z1⟩ := x
          have c0 := c 0 _ rfl
          have c1 := c 1 _ rfl
          simp only [Nat.add_zero, show rcK.m = 2 from rfl] at c0 c1
          have HZ := hide (fun (W : World) (hbl : Below wr.heap.size wr W) => szRecent_any n0 s1 z1 L W (bytesK.below o.2 hbl (Nat.le_refl _)) hL0 (by omega))
          have HB := hide hbr
          have i1 : (0 : Int) ≤ (k : Int) := by omega
          have i2 : (k : Int) < (len : Int) := by omega
          have hL2 : L ≤ left := by omega
          generalize rcSz (n0, z1) = sz at HZ hsum
          have HN := hide (And.intro hL1 (And.intro hsum htk))
          have HL0 := hide hL2
          clear c o hbr hx hsum htk hL1 hL2
          by_cases hneg : L - sz < 0
          · have e1 : szOf L sz = -1 := if_pos hneg
            rw [e1] at HZ
            go_wp2_with fail
            refine ((unhide HZ) _ (by first | exact Below.refl _ _ | exact (Below.refl _ _).drew)).mono ?_
            rintro e w1 ⟨rfl, b1⟩
            go_wp2_with fail
            go_ret
            obtain ⟨a1, a2, a3⟩ := unhide HN
            exact ⟨ret_int (by unfold szOf; rw [if_pos (by omega)]), (unhide HB).trans (b1.mono (unhide HB).size)⟩
          · have e1 : szOf L sz = L - sz := if_neg hneg
            rw [e1] at HZ
            have hd2 : decide (L - (sz : Int) < 0) = false := decide_eq_false hneg
            go_wp2_with fail
            refine ((unhide HZ) _ (by first | exact Below.refl _ _ | exact (Below.refl _ _).drew)).mono ?_
            rintro e w1 ⟨rfl, b1⟩
            go_wp2_with fail
            go_roundw
            case rel => exact ⟨k + 1, L - sz, by omega, by go_num, rfl, by omega, by obtain ⟨a1, a2, a3⟩ := unhide HN; omega, (unhide HB).trans (b1.mono (unhide HB).size)⟩
            case measure => simp [intOf]; omega
        · obtain rfl : k = len := by omega
          rw [List.take_of_length_le (by rw [← unhide HL]; exact Nat.le_refl _)] at hL1
          have HR := hide hL1
          clear hL1
          go_wp2_with fail
          go_ret
          have hR := unhide HR
          exact ⟨ret_int (by unfold szOf; rw [if_neg (by omega)]; omega), hbr⟩

theorem szVote_any (s0 : Sl) (z0 : List Int) (s1 : Sl) (z1 : List Int) (b2 : Bool) (left : Int) (w : World) (o0 : BOk w s0 z0) (o1 : BOk w s1 z1) (h0 : 0 ≤ left) (h1 : left ≤ 1099511627776) :
    Calls Tryd.prog 40 #[.agg #[.slice s0.a s0.n s0.c, .slice s1.a s1.n s1.c, .bool b2], .int .i64 left] w fun e w' => e = .returned (.int .i64 (szOf left (vtSz (z0, z1, b2)))) ∧ Below w.heap.size w w' := by
  have HB := hide (below_alloc w (.cells #[.slice s0.a s0.n s0.c, .slice s1.a s1.n s1.c, .bool b2] 79))
  have l0 : z0.length = s0.n := o0.row.1
  have HS0 := hide (fun (W : World) (L : Int) (q0 : 0 ≤ L) (q1 : L ≤ 1099511627776) => szByteS_any s0.a s0.n s0.c L W q0 q1 (Nat.le_trans o0.room o0.max))
  have l1 : z1.length = s1.n := o1.row.1
  have HS1 := hide (fun (W : World) (L : Int) (q0 : 0 ≤ L) (q1 : L ≤ 1099511627776) => szByteS_any s1.a s1.n s1.c L W q0 q1 (Nat.le_trans o1.room o1.max))
  have e0 : vtSz (z0, z1, b2) = s0.n + s1.n := by simp only [vtSz]; omega
  rw [e0]
  clear e0 l0 l1 o0 o1
  by_cases c0 : left - s0.n < 0
  · have D0 := hide (fun W => (unhide HS0) W left (by omega) (by omega))
    rw [if_pos c0] at D0
    go_enter Tryd.func40, Tryd.ntmps40
    go_wp2_with fail
    refine ((unhide D0) _).mono ?_
    rintro e w' ⟨rfl, rfl⟩
    go_wp2_with fail
    go_ret
    exact ⟨ret_int (by unfold szOf; rw [if_pos (by omega)]), unhide HB⟩
  · have D0 := hide (fun W => (unhide HS0) W left (by omega) (by omega))
    rw [if_neg c0] at D0
    obtain ⟨L1, eL1⟩ : ∃ L : Int, L = left - s0.n := ⟨_, rfl⟩
    rw [← eL1] at D0
    have d0 : decide (L1 < 0) = false := decide_eq_false (by omega)
    have EL1 := hide eL1
    have q0 : 0 ≤ L1 ∧ L1 ≤ 1099511627776 := by omega
    clear eL1
    go_enter Tryd.func40, Tryd.ntmps40
    go_wp2_with fail
    refine ((unhide D0) _).mono ?_
    rintro e w' ⟨rfl, rfl⟩
    by_cases c1 : L1 - s1.n < 0
    · have D1 := hide (fun W => (unhide HS1) W L1 (by omega) (by omega))
      rw [if_pos c1] at D1
      go_wp2_with fail
      refine ((unhide D1) _).mono ?_
      rintro e w' ⟨rfl, rfl⟩
      go_wp2_with fail
      go_ret
      have eL1 := unhide EL1; exact ⟨ret_int (by unfold szOf; rw [if_pos (by omega)]), unhide HB⟩
    · have D1 := hide (fun W => (unhide HS1) W L1 (by omega) (by omega))
      rw [if_neg c1] at D1
      obtain ⟨L2, eL2⟩ : ∃ L : Int, L = L1 - s1.n := ⟨_, rfl⟩
      rw [← eL2] at D1
      have d1 : decide (L2 < 0) = false := decide_eq_false (by omega)
      have EL2 := hide eL2
      have q1 : 0 ≤ L2 ∧ L2 ≤ 1099511627776 := by omega
      clear eL2
      go_wp2_with fail
      refine ((unhide D1) _).mono ?_
      rintro e w' ⟨rfl, rfl⟩
      go_wp2_with fail
      go_ret
      have eL1 := unhide EL1; have eL2 := unhide EL2; exact ⟨ret_int (by unfold szOf; rw [if_neg (by omega)]; omega), unhide HB⟩

set_option maxHeartbeats 1000000 in
theorem szVoteS_any (s : Sl) (xs : List Vt) (left : Int) (w : World) (h : RowOk vtK w s xs) (h0 : 0 ≤ left) (h1 : left ≤ 1099511627776) :
    Calls Tryd.prog 18 #[.slice s.a s.n s.c, .int .i64 left] w fun e w' => e = .returned (.int .i64 (szOf left (xs.length + lsum vtSz xs))) ∧ Below w.heap.size w w' := by
  obtain ⟨a, len, cap⟩ := s
  have hil : len = xs.length := h.len
  have hl : len ≤ maxLen := Nat.le_trans h.room h.max
  unfold maxLen at hl
  rw [← hil]
  by_cases hs : left - len < 0
  · have e : szOf left (len + lsum vtSz xs) = -1 := by unfold szOf; rw [if_pos (by omega)]
    rw [e]
    have hd : decide (left - (len : Int) < 0) = true := decide_eq_true hs
    clear h
    go_enter Tryd.func18, Tryd.ntmps18
    go_wp2_with fail
    go_ret
    exact ⟨rfl, Below.refl _ _⟩
  · have hd : decide (left - (len : Int) < 0) = false := decide_eq_false hs
    rcases Nat.eq_zero_or_pos len with hz | hp
    · subst hz
      obtain rfl : xs = [] := List.length_eq_zero_iff.1 hil.symm
      clear h hil hl hd hs
      have hd : decide (left < 0) = false := decide_eq_false (by omega)
      have HE : Hid (szOf left (0 + lsum vtSz ([] : List Vt)) = left) := by show _ = _; unfold szOf lsum; simp; omega
      go_enter Tryd.func18, Tryd.ntmps18
      go_wp2_with fail
      refine wp_loop_rounds 1 ?_
      rw [rounds_succ]
      go_wp2_with fail
      go_ret
      exact ⟨ret_int (by rw [unhide HE]), Below.refl _ _⟩
    · obtain ⟨b, off, rfl, hb, hc⟩ := h.pos hp
      have HC := hide (fun (W : World) (hbl : Below w.heap.size w W) (i : Nat) (x : Vt) (hx : xs[i]? = some x) => match hc i x hx with | ⟨e, c, o⟩ => (⟨e, fun j v hv => (hbl.cell (p := ⟨b, off + i * vtK.m + j, none⟩) hb).trans (c j v hv), vtK.below o hbl (Nat.le_refl _)⟩ : ∃ e, (∀ j v, (vtK.vals e x)[j]? = some v → W.cell? ⟨b, off + i * vtK.m + j, none⟩ = some v) ∧ vtK.Ok W e x))
      have HL := hide hil
      clear h hc hil
      go_enter Tryd.func18, Tryd.ntmps18
      go_wp2_with fail
      go_loopw [1, 5] (fun q i wr => ∃ (k : Nat) (L : Int), k ≤ len ∧ i = .int .i64 k ∧ q = .int .i64 L ∧ 0 ≤ L ∧ L = left - len - (lsum vtSz (xs.take k) : Nat) ∧ Below w.heap.size w wr) (fun _ i _ => len - (intOf i).toNat)
      case atStart => exact ⟨0, _, Nat.zero_le _, rfl, rfl, by omega, by simp [lsum], Below.refl _ _⟩
      case round =>
        obtain ⟨k, L, hk, rfl, rfl, hL0, hL1, hbr⟩ := hrel
        by_cases hlt : k < len
        · obtain ⟨x, hx⟩ : ∃ x, xs[k]? = some x := ⟨_, List.getElem?_eq_getElem (by rw [← unhide HL]; exact hlt)⟩
          have hsum := lsum_succ vtSz xs k x hx
          have htk := lsum_take vtSz xs (k + 1)
          obtain ⟨⟨s0, s1, ⟨⟩⟩, c, o⟩ := (unhide HC) wr hbr k x hx
          obtain ⟨z0, z1, b2⟩ := x
          have c0 := c 0 _ rfl
          have c1 := c 1 _ rfl
          have c2 := c 2 _ rfl
          simp only [Nat.add_zero, show vtK.m = 3 from rfl] at c0 c1 c2
          have HZ := hide (fun (W : World) (hbl : Below wr.heap.size wr W) => szVote_any s0 z0 s1 z1 b2 L W (bytesK.below o.1 hbl (Nat.le_refl _)) (bytesK.below o.2.1 hbl (Nat.le_refl _)) hL0 (by omega))
          have HB := hide hbr
          have i1 : (0 : Int) ≤ (k : Int) := by omega
          have i2 : (k : Int) < (len : Int) := by omega
          have hL2 : L ≤ left := by omega
          generalize vtSz (z0, z1, b2) = sz at HZ hsum
          have HN := hide (And.intro hL1 (And.intro hsum htk))
          have HL0 := hide hL2
          clear c o hbr hx hsum htk hL1 hL2
          by_cases hneg : L - sz < 0
          · have e1 : szOf L sz = -1 := if_pos hneg
            rw [e1] at HZ
            go_wp2_with fail
            refine ((unhide HZ) _ (by first | exact Below.refl _ _ | exact (Below.refl _ _).drew)).mono ?_
            rintro e w1 ⟨rfl, b1⟩
            go_wp2_with fail
            go_ret
            obtain ⟨a1, a2, a3⟩ := unhide HN
            exact ⟨ret_int (by unfold szOf; rw [if_pos (by omega)]), (unhide HB).trans (b1.mono (unhide HB).size)⟩
          · have e1 : szOf L sz = L - sz := if_neg hneg
            rw [e1] at HZ
            have hd2 : decide (L - (sz : Int) < 0) = false := decide_eq_false hneg
            go_wp2_with fail
            refine ((unhide HZ) _ (by first | exact Below.refl _ _ | exact (Below.refl _ _).drew)).mono ?_
            rintro e w1 ⟨rfl, b1⟩
            go_wp2_with fail
            go_roundw
            case rel => exact ⟨k + 1, L - sz, by omega, by go_num, rfl, by omega, by obtain ⟨a1, a2, a3⟩ := unhide HN; omega, (unhide HB).trans (b1.mono (unhide HB).size)⟩
            case measure => simp [intOf]; omega
        · obtain rfl : k = len := by omega
          rw [List.take_of_length_le (by rw [← unhide HL]; exact Nat.le_refl _)] at hL1
          have HR := hide hL1
          clear hL1
          go_wp2_with fail
          go_ret
          have hR := unhide HR
          exact ⟨ret_int (by unfold szOf; rw [if_neg (by omega)]; omega), hbr⟩

end Go.Proofs.YtpkfgffgldjceaaDoor
