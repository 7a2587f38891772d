/- What is proved here: plain facts on data in memory, told by kinds: a kind says which cells a thing of it has, when its slices read as it, and when they lie in memory of their own, each block with a path of its own; they hold for every program. -/
import Derived.Test.YtihdmdbekdadlaaJ5
import Derived.Test.YtihdmdbekdadlaaJ2
import Derived.Test.YtihdmdbekdadlaaJ1
import Derived.Test.YtihdmdbekdadlaaChecked
import Derived.WalkKit
import Derived.BigQuiet
import Derived.Deep.QuietTactic
import Derived.KernelRfl
import Derived.WalkSpells
import Derived.WalkLawsBesides
import Derived.WalkSmall
namespace Go.Proofs.Ytihdmdbekdadlaa
open Go.RowKit
set_option linter.unusedVariables false
set_option maxRecDepth 100000

abbrev Path := List Nat

/-- The cells us from a place on. -/
def setL : List Value → Nat → List Value → List Value
  | vs, _, [] => vs
  | vs, j, u :: r => setL (vs.set j u) (j + 1) r

theorem setL_length : ∀ (us vs : List Value) (j : Nat), (setL vs j us).length = vs.length
  | [], vs, j => rfl
  | u :: r, vs, j => by rw [setL, setL_length r]; simp

theorem setL_other : ∀ (us vs : List Value) (j i : Nat), (i < j ∨ j + us.length ≤ i) → (setL vs j us)[i]? = vs[i]?
  | [], vs, j, i, _ => rfl
  | u :: r, vs, j, i, h => by
    rw [setL, setL_other r _ _ i (by simp at h ⊢; omega), List.getElem?_set_ne (by simp at h; omega)]

theorem setL_at : ∀ (us vs : List Value) (j i : Nat) (v : Value), us[i]? = some v → j + i < vs.length → (setL vs j us)[j + i]? = some v
  | [], vs, j, i, v, h, _ => by simp at h
  | u :: r, vs, j, 0, v, h, hl => by
    simp at h
    subst h
    rw [setL, setL_other r _ _ _ (by omega), Nat.add_zero, List.getElem?_set_self (by simpa using hl)]
  | u :: r, vs, j, i + 1, v, h, hl => by
    rw [List.getElem?_cons_succ] at h
    rw [setL, show j + (i + 1) = (j + 1) + i by omega]
    exact setL_at r _ _ i v h (by simp; omega)

def putRow : World → Nat → Nat → List Value → World
  | w, _, _, [] => w
  | w, g, o, u :: r => putRow (w.setCell ⟨g, o, none⟩ u) g (o + 1) r

theorem putRow_size : ∀ (us : List Value) (w : World) (g o : Nat), (putRow w g o us).heap.size = w.heap.size
  | [], w, g, o => rfl
  | u :: r, w, g, o => by rw [putRow, putRow_size r]; simp [World.setCell]

theorem putRow_other : ∀ (us : List Value) (w : World) (g o k : Nat), k ≠ g → (putRow w g o us).heap[k]? = w.heap[k]?
  | [], w, g, o, k, _ => rfl
  | u :: r, w, g, o, k, h => by rw [putRow, putRow_other r _ _ _ k h, heap_setCell_other w ⟨g, o, none⟩ k u (fun e => h e)]

theorem putRow_below : ∀ (us : List Value) (w0 w : World) (B g o : Nat), Below B w0 w → B ≤ g → Below B w0 (putRow w g o us)
  | [], w0, w, B, g, o, h, _ => h
  | u :: r, w0, w, B, g, o, h, hg => by rw [putRow]; exact putRow_below r w0 _ B g _ (h.setCell hg _) hg

/-- The slice s holds the cells vs in a block of its own, at or beyond B. -/
structure OwnS (w : World) (B : Nat) (T : TypeId) (m : Nat) (s : Sl) (vs : List Value) : Prop where
  len : vs.length = s.n * m
  max : s.c ≤ maxLen
  room : s.n ≤ s.c
  nil : s.a = none → s.c = 0
  at' : ∀ x, s.a = some x → ∃ g off cur, x = ⟨g, off, none⟩ ∧ B ≤ g ∧ w.heap[g]? = some (.cells cur T (0, 0)) ∧ off + s.n * m ≤ cur.size ∧ (cur.toList.drop off).take (s.n * m) = vs

theorem OwnS.of {w : World} {B : Nat} {T : TypeId} {m n c : Nat} {a : Option Addr} {xs : List Value} (h : w.ownsRow B T m (.slice a n c) n xs) : OwnS w B T m ⟨a, n, c⟩ xs := by
  rcases h.2 with ⟨h1, h2⟩ | ⟨g, cap, cur, h1, h2, h3, h4, h5, h6, h7⟩
  · simp only [Value.slice.injEq] at h1
    obtain ⟨rfl, rfl, rfl⟩ := h1
    exact ⟨h.1, Nat.zero_le _, Nat.le_refl _, fun _ => rfl, fun x hx => by cases hx⟩
  · simp only [Value.slice.injEq] at h1
    obtain ⟨rfl, _, rfl⟩ := h1
    refine ⟨h.1, h5, h4, (fun e => by cases e), fun x hx => ?_⟩
    cases hx
    refine ⟨g, 0, cur, rfl, h2, h3, ?_, by simpa using h7⟩
    rw [Nat.zero_add, h6]
    exact Nat.mul_le_mul_right m h4

theorem OwnS.blk {w : World} {B : Nat} {T : TypeId} {m : Nat} {s : Sl} {vs : List Value} (h : OwnS w B T m s vs) {x : Addr} (hx : s.a = some x) : B ≤ x.block ∧ x.block < w.heap.size := by
  obtain ⟨g, off, cur, rfl, hb, hg, _⟩ := h.at' x hx
  exact ⟨hb, lt_of_block hg⟩

theorem OwnS.pos {w : World} {B : Nat} {T : TypeId} {m : Nat} {s : Sl} {vs : List Value} (h : OwnS w B T m s vs) (hp : 0 < s.n) : ∃ g off, s.a = some ⟨g, off, none⟩ ∧ B ≤ g ∧ g < w.heap.size := by
  cases ha : s.a with
  | none => have := h.nil ha; have := h.room; omega
  | some x =>
    obtain ⟨g, off, cur, rfl, hb, hg, _⟩ := h.at' x ha
    exact ⟨g, off, rfl, hb, lt_of_block hg⟩

theorem OwnS.cell {w : World} {B : Nat} {T : TypeId} {m : Nat} {s : Sl} {vs : List Value} (h : OwnS w B T m s vs) {g off : Nat} (ha : s.a = some ⟨g, off, none⟩) {j : Nat} (hj : j < s.n * m) : w.cell? ⟨g, off + j, none⟩ = vs[j]? := by
  obtain ⟨g', off', cur, e, hb, hg, hl, ht⟩ := h.at' _ ha
  simp only [Addr.mk.injEq, and_true] at e
  obtain ⟨rfl, rfl⟩ := e
  rw [cell_of_row w g (off + j) cur T (0, 0) hg, ← ht, List.getElem?_take, if_pos hj, List.getElem?_drop]
  simp

theorem OwnS.free {w : World} {B : Nat} {T : TypeId} {m : Nat} {s : Sl} {vs : List Value} (h : OwnS w B T m s vs) {g off : Nat} (ha : s.a = some ⟨g, off, none⟩) (j : Nat) : w.frozen? ⟨g, j, none⟩ = false := by
  obtain ⟨g', off', cur, e, hb, hg, hl, ht⟩ := h.at' _ ha
  simp only [Addr.mk.injEq, and_true] at e
  obtain ⟨rfl, rfl⟩ := e
  exact frozen_of_row w g j cur T hg

theorem OwnS.set {w : World} {B : Nat} {T : TypeId} {m : Nat} {s : Sl} {vs : List Value} (h : OwnS w B T m s vs) {g off : Nat} (ha : s.a = some ⟨g, off, none⟩) (j : Nat) (u : Value) : OwnS (w.setCell ⟨g, off + j, none⟩ u) B T m s (vs.set j u) := by
  refine ⟨by rw [List.length_set]; exact h.len, h.max, h.room, h.nil, fun x hx => ?_⟩
  obtain ⟨g', off', cur, e, hb, hg, hl, ht⟩ := h.at' _ ha
  simp only [Addr.mk.injEq, and_true] at e
  obtain ⟨rfl, rfl⟩ := e
  obtain rfl : (⟨g, off, none⟩ : Addr) = x := Option.some.inj (ha.symm.trans hx)
  refine ⟨g, off, cur.setIfInBounds (off + j) u, rfl, hb, heap_setCell_same w g (off + j) cur T u hg, by simpa using hl, ?_⟩
  rw [Array.toList_setIfInBounds, ← ht, List.drop_set, if_neg (by omega), show off + j - off = j by omega, List.take_set]

theorem OwnS.putRow : ∀ (us : List Value) {w : World} {B : Nat} {T : TypeId} {m : Nat} {s : Sl} {vs : List Value} (_ : OwnS w B T m s vs) {g off : Nat} (_ : s.a = some ⟨g, off, none⟩) (j : Nat), OwnS (putRow w g (off + j) us) B T m s (setL vs j us)
  | [], w, B, T, m, s, vs, h, g, off, ha, j => h
  | u :: r, w, B, T, m, s, vs, h, g, off, ha, j => by
    rw [Go.Proofs.Ytihdmdbekdadlaa.putRow, setL, Nat.add_assoc]
    exact OwnS.putRow r (h.set ha j u) ha (j + 1)

theorem OwnS.keep {w w' : World} {B : Nat} {T : TypeId} {m : Nat} {s : Sl} {vs : List Value} (h : OwnS w B T m s vs) (hk : ∀ x, s.a = some x → w'.heap[x.block]? = w.heap[x.block]?) : OwnS w' B T m s vs := by
  refine ⟨h.len, h.max, h.room, h.nil, fun x hx => ?_⟩
  obtain ⟨g, off, cur, rfl, hb, hg, hl, ht⟩ := h.at' x hx
  exact ⟨g, off, cur, rfl, hb, (hk _ hx).trans hg, hl, ht⟩

theorem OwnS.base {w : World} {B B' : Nat} {T : TypeId} {m : Nat} {s : Sl} {vs : List Value} (h : OwnS w B T m s vs) (hB : B' ≤ B) : OwnS w B' T m s vs := by
  refine ⟨h.len, h.max, h.room, h.nil, fun x hx => ?_⟩
  obtain ⟨g, off, cur, e, hb, r⟩ := h.at' x hx
  exact ⟨g, off, cur, e, Nat.le_trans hB hb, r⟩

/-- A kind of thing: its cells, when its slices lie in memory of their own (path by path), and when they read as it. -/
structure Kd (α β : Type) where
  m : Nat
  vals : β → α → List Value
  len : ∀ e x, (vals e x).length = m
  Own : World → Nat → (Nat → Path) → Path → β → α → Prop
  Ok : World → β → α → Prop
  frame : ∀ {w w' : World} {B : Nat} {d : Nat → Path} {p : Path} {e : β} {x : α}, Own w B d p e x → (∀ g, g < w.heap.size → B ≤ g → p <+: d g → w'.heap[g]? = w.heap[g]?) → Own w' B d p e x
  recol : ∀ {w : World} {B : Nat} {d d' : Nat → Path} {p : Path} {e : β} {x : α}, Own w B d p e x → (∀ g, g < w.heap.size → B ≤ g → p <+: d g → d' g = d g) → Own w B d' p e x
  base : ∀ {w : World} {B B' : Nat} {d : Nat → Path} {p : Path} {e : β} {x : α}, Own w B d p e x → B' ≤ B → Own w B' d p e x
  ok : ∀ {w : World} {B : Nat} {d : Nat → Path} {p : Path} {e : β} {x : α}, Own w B d p e x → Ok w e x
  below : ∀ {w w' : World} {B : Nat} {e : β} {x : α}, Ok w e x → Below B w w' → w.heap.size ≤ B → Ok w' e x

theorem Kd.ownBelow {α β : Type} (K : Kd α β) {w w' : World} {B C : Nat} {d : Nat → Path} {p : Path} {e : β} {x : α} (h : K.Own w B d p e x) (hb : Below C w w') (hC : w.heap.size ≤ C) : K.Own w' B d p e x :=
  K.frame h (fun g hg _ _ => hb.block g (Nat.lt_of_lt_of_le hg hC))

theorem Kd.recolNew {α β : Type} (K : Kd α β) {w : World} {B : Nat} {d d' : Nat → Path} {p : Path} {e : β} {x : α} (h : K.Own w B d p e x) (hd : ∀ g, g < w.heap.size → d' g = d g) : K.Own w B d' p e x := K.recol h (fun g hg _ _ => hd g hg)

/-- A number. -/
def intK : Kd Int Unit where
  m := 1
  vals _ n := [.int .i64 n]
  len _ _ := rfl
  Own _ _ _ _ _ n := in64 n
  Ok _ _ n := in64 n
  frame h _ := h
  recol h _ := h
  base h _ := h
  ok h := h
  below h _ _ := h

def boolK : Kd Bool Unit where
  m := 1
  vals _ b := [.bool b]
  len _ _ := rfl
  Own _ _ _ _ _ _ := True
  Ok _ _ _ := True
  frame h _ := h
  recol h _ := h
  base h _ := h
  ok h := h
  below h _ _ := h

/-- Bytes that read. -/
structure BOk (w : World) (s : Sl) (z : List Int) : Prop where
  row : BRow w s.a s.n z
  room : s.n ≤ s.c
  max : s.c ≤ maxLen
  nil : s.a = none → s.c = 0

structure BOwn (w : World) (B : Nat) (d : Nat → Path) (p : Path) (s : Sl) (z : List Int) : Prop where
  rng : ∀ x ∈ z, 0 ≤ x ∧ x ≤ 255
  own : w.ownsRow B 5 1 (.slice s.a s.n s.c) s.n (z.map (Value.int .u8))
  col : ∀ x, s.a = some x → d x.block = p

theorem own_frame {w w' : World} {B : Nat} {e : TypeId} {m n c : Nat} {a : Option Addr} {xs : List Value} (h : w.ownsRow B e m (.slice a n c) n xs) (hk : ∀ x, a = some x → w'.heap[x.block]? = w.heap[x.block]?) : w'.ownsRow B e m (.slice a n c) n xs := by
  refine ⟨h.1, ?_⟩
  rcases h.2 with h' | ⟨g, cap, cur, h1, h2, h3, h4⟩
  · exact .inl h'
  · have ha : a = some ⟨g, 0, none⟩ := by simp only [Value.slice.injEq] at h1; exact h1.1
    exact .inr ⟨g, cap, cur, h1, h2, (hk _ ha).trans h3, h4⟩

theorem BOwn.blk {w : World} {B : Nat} {d : Nat → Path} {p : Path} {s : Sl} {z : List Int} (h : BOwn w B d p s z) {x : Addr} (hx : s.a = some x) : B ≤ x.block ∧ x.block < w.heap.size := (OwnS.of h.own).blk hx

theorem BOwn.ok {w : World} {B : Nat} {d : Nat → Path} {p : Path} {s : Sl} {z : List Int} (h : BOwn w B d p s z) : BOk w s z :=
  ⟨BRow.own2 h.own h.rng, (OwnS.of h.own).room, (OwnS.of h.own).max, (OwnS.of h.own).nil⟩

def bytesK : Kd (List Int) Sl where
  m := 1
  vals s _ := [.slice s.a s.n s.c]
  len _ _ := rfl
  Own := BOwn
  Ok := BOk
  frame h hk := ⟨h.rng, own_frame h.own (fun x hx => hk _ (h.blk hx).2 (h.blk hx).1 (by rw [h.col x hx]; exact List.prefix_rfl)), h.col⟩
  recol h hk := ⟨h.rng, h.own, fun x hx => by rw [hk _ (h.blk hx).2 (h.blk hx).1 (by rw [h.col x hx]; exact List.prefix_rfl)]; exact h.col x hx⟩
  base h hB := ⟨h.rng, ownsRow_base h.own hB, h.col⟩
  ok h := h.ok
  below h hb hB := ⟨h.row.below hb hB, h.room, h.max, h.nil⟩

/-- One thing and another one behind it. -/
def pairK {α β α' β' : Type} (K : Kd α β) (L : Kd α' β') : Kd (α × α') (β × β') where
  m := K.m + L.m
  vals e x := K.vals e.1 x.1 ++ L.vals e.2 x.2
  len e x := by rw [List.length_append, K.len, L.len]
  Own w B d p e x := K.Own w B d (p ++ [0]) e.1 x.1 ∧ L.Own w B d (p ++ [1]) e.2 x.2
  Ok w e x := K.Ok w e.1 x.1 ∧ L.Ok w e.2 x.2
  frame h hk := ⟨K.frame h.1 (fun g h1 h2 h3 => hk g h1 h2 ((List.prefix_append _ _).trans h3)), L.frame h.2 (fun g h1 h2 h3 => hk g h1 h2 ((List.prefix_append _ _).trans h3))⟩
  recol h hk := ⟨K.recol h.1 (fun g h1 h2 h3 => hk g h1 h2 ((List.prefix_append _ _).trans h3)), L.recol h.2 (fun g h1 h2 h3 => hk g h1 h2 ((List.prefix_append _ _).trans h3))⟩
  base h hB := ⟨K.base h.1 hB, L.base h.2 hB⟩
  ok h := ⟨K.ok h.1, L.ok h.2⟩
  below h hb hB := ⟨K.below h.1 hb hB, L.below h.2 hb hB⟩

/-- Rows of a kind. -/
structure RowOk {α β : Type} (K : Kd α β) (w : World) (s : Sl) (xs : List α) : Prop where
  len : s.n = xs.length
  room : s.n ≤ s.c
  max : s.c ≤ maxLen
  nil : s.a = none → s.c = 0
  pos : 0 < s.n → ∃ b off, s.a = some ⟨b, off, none⟩ ∧ b < w.heap.size ∧ ∀ i x, xs[i]? = some x → ∃ e, (∀ j v, (K.vals e x)[j]? = some v → w.cell? ⟨b, off + i * K.m + j, none⟩ = some v) ∧ K.Ok w e x

/-- The first k of them lie there. -/
structure RowPart {α β : Type} (K : Kd α β) (T : TypeId) (w : World) (B : Nat) (d : Nat → Path) (p : Path) (s : Sl) (xs : List α) (k : Nat) : Prop where
  len : s.n = xs.length
  all : ∃ (es : List β) (vs : List Value), es.length = k ∧ OwnS w B T K.m s vs ∧ (∀ x, s.a = some x → d x.block = p) ∧
    ∀ i e x, es[i]? = some e → xs[i]? = some x → (∀ j v, (K.vals e x)[j]? = some v → vs[i * K.m + j]? = some v) ∧ K.Own w B d (p ++ [i]) e x

def RowOwn {α β : Type} (K : Kd α β) (T : TypeId) (w : World) (B : Nat) (d : Nat → Path) (p : Path) (s : Sl) (xs : List α) : Prop := RowPart K T w B d p s xs xs.length

theorem not_pre_self (p : Path) (i : Nat) : ¬ (p ++ [i]) <+: p := fun h => by have := h.length_le; simp at this; omega

theorem pre_snoc (p q : Path) (i j : Nat) (h : i ≠ j) : (p ++ [i]) <+: q → ¬ (p ++ [j]) <+: q := by
  intro h1 h2
  have e : p ++ [i] = p ++ [j] := by
    have a := List.prefix_of_prefix_length_le h1 h2 (by simp)
    exact a.eq_of_length (by simp)
  simp at e
  exact h e

theorem row_index {m i j n : Nat} (hi : i < n) (hj : j < m) : i * m + j < n * m := by
  have : i * m + m ≤ n * m := by
    rw [← Nat.succ_mul]
    exact Nat.mul_le_mul_right m hi
  omega

theorem RowPart.frame {α β : Type} {K : Kd α β} {T : TypeId} {w w' : World} {B : Nat} {d : Nat → Path} {p : Path} {s : Sl} {xs : List α} {k : Nat} (h : RowPart K T w B d p s xs k) (hk : ∀ g, g < w.heap.size → B ≤ g → p <+: d g → w'.heap[g]? = w.heap[g]?) : RowPart K T w' B d p s xs k := by
  obtain ⟨h1, es, vs, h2, h3, h4, h5⟩ := h
  refine ⟨h1, es, vs, h2, h3.keep (fun x hx => hk _ (h3.blk hx).2 (h3.blk hx).1 (by rw [h4 x hx]; exact List.prefix_rfl)), h4, fun i e x he hx => ?_⟩
  obtain ⟨q1, q2⟩ := h5 i e x he hx
  exact ⟨q1, K.frame q2 (fun g a b c => hk g a b ((List.prefix_append _ _).trans c))⟩

theorem RowPart.recol {α β : Type} {K : Kd α β} {T : TypeId} {w : World} {B : Nat} {d d' : Nat → Path} {p : Path} {s : Sl} {xs : List α} {k : Nat} (h : RowPart K T w B d p s xs k) (hk : ∀ g, g < w.heap.size → B ≤ g → p <+: d g → d' g = d g) : RowPart K T w B d' p s xs k := by
  obtain ⟨h1, es, vs, h2, h3, h4, h5⟩ := h
  refine ⟨h1, es, vs, h2, h3, fun x hx => by rw [hk _ (h3.blk hx).2 (h3.blk hx).1 (by rw [h4 x hx]; exact List.prefix_rfl)]; exact h4 x hx, fun i e x he hx => ?_⟩
  obtain ⟨q1, q2⟩ := h5 i e x he hx
  exact ⟨q1, K.recol q2 (fun g a b c => hk g a b ((List.prefix_append _ _).trans c))⟩

theorem RowPart.base {α β : Type} {K : Kd α β} {T : TypeId} {w : World} {B B' : Nat} {d : Nat → Path} {p : Path} {s : Sl} {xs : List α} {k : Nat} (h : RowPart K T w B d p s xs k) (hB : B' ≤ B) : RowPart K T w B' d p s xs k := by
  obtain ⟨h1, es, vs, h2, h3, h4, h5⟩ := h
  refine ⟨h1, es, vs, h2, h3.base hB, h4, fun i e x he hx => ?_⟩
  obtain ⟨q1, q2⟩ := h5 i e x he hx
  exact ⟨q1, K.base q2 hB⟩

theorem RowOwn.ok {α β : Type} {K : Kd α β} {T : TypeId} {w : World} {B : Nat} {d : Nat → Path} {p : Path} {s : Sl} {xs : List α} (h : RowOwn K T w B d p s xs) : RowOk K w s xs := by
  obtain ⟨h1, es, vs, h2, h3, h4, h5⟩ := h
  refine ⟨h1, h3.room, h3.max, h3.nil, fun hp => ?_⟩
  obtain ⟨g, off, ha, hb, hl⟩ := h3.pos hp
  refine ⟨g, off, ha, hl, fun i x hx => ?_⟩
  have hi := (List.getElem?_eq_some_iff.1 hx).1
  obtain ⟨e, he⟩ : ∃ e, es[i]? = some e := ⟨_, List.getElem?_eq_getElem (by omega)⟩
  obtain ⟨q1, q2⟩ := h5 i e x he hx
  refine ⟨e, fun j v hv => ?_, K.ok q2⟩
  have hj : j < K.m := by have := (List.getElem?_eq_some_iff.1 hv).1; rw [K.len] at this; exact this
  rw [Nat.add_assoc, h3.cell ha (row_index (by omega) hj)]
  exact q1 j v hv

theorem RowOk.below {α β : Type} {K : Kd α β} {w w' : World} {B : Nat} {s : Sl} {xs : List α} (h : RowOk K w s xs) (hb : Below B w w') (hB : w.heap.size ≤ B) : RowOk K w' s xs := by
  refine ⟨h.len, h.room, h.max, h.nil, fun hp => ?_⟩
  obtain ⟨b, off, ha, hl, hx⟩ := h.pos hp
  refine ⟨b, off, ha, Nat.lt_of_lt_of_le hl hb.size, fun i x hi => ?_⟩
  obtain ⟨e, q1, q2⟩ := hx i x hi
  exact ⟨e, fun j v hv => (hb.cell (Nat.lt_of_lt_of_le hl hB)).trans (q1 j v hv), K.below q2 hb hB⟩

/-- A slice of a kind is a kind. -/
def rowK {α β : Type} (K : Kd α β) (T : TypeId) : Kd (List α) Sl where
  m := 1
  vals s _ := [.slice s.a s.n s.c]
  len _ _ := rfl
  Own := RowOwn K T
  Ok := RowOk K
  frame h hk := RowPart.frame h hk
  recol h hk := RowPart.recol h hk
  base h hB := RowPart.base h hB
  ok h := h.ok
  below h hb hB := h.below hb hB

theorem RowOwn.nil {α β : Type} (K : Kd α β) (T : TypeId) (w : World) (B : Nat) (d : Nat → Path) (p : Path) : RowOwn K T w B d p ⟨none, 0, 0⟩ [] :=
  ⟨rfl, [], [], rfl, ⟨by simp, Nat.zero_le _, Nat.le_refl _, fun _ => rfl, fun x hx => by cases hx⟩, (fun x hx => by cases hx), fun i e x he => by simp at he⟩

theorem RowPart.zero {α β : Type} {K : Kd α β} {T : TypeId} {w : World} {B : Nat} {d : Nat → Path} {p : Path} {s : Sl} {xs : List α} {vs : List Value} (h : OwnS w B T K.m s vs) (hn : s.n = xs.length) (hc : ∀ x, s.a = some x → d x.block = p) : RowPart K T w B d p s xs 0 :=
  ⟨hn, [], vs, rfl, h, hc, fun i e x he => by simp at he⟩

/-- What is there at the place of the next one. -/
theorem RowPart.slot {α β : Type} {K : Kd α β} {T : TypeId} {w : World} {B : Nat} {d : Nat → Path} {p : Path} {s : Sl} {xs : List α} {k : Nat} (h : RowPart K T w B d p s xs k) {g off : Nat} (ha : s.a = some ⟨g, off, none⟩) {i : Nat} (hk : i < xs.length) :
    (∀ j, j < K.m → ∃ u, w.cell? ⟨g, off + i * K.m + j, none⟩ = some u) ∧ ∀ j, w.frozen? ⟨g, j, none⟩ = false := by
  obtain ⟨h1, es, vs, h2, h3, h4, h5⟩ := h
  refine ⟨fun j hj => ?_, fun j => h3.free ha j⟩
  have hx := row_index (n := s.n) (m := K.m) (i := i) (j := j) (by omega) hj
  rw [Nat.add_assoc, h3.cell ha hx]
  exact ⟨_, List.getElem?_eq_getElem (by rw [h3.len]; exact hx)⟩

/-- One more. -/
theorem RowPart.step {α β : Type} {K : Kd α β} {T : TypeId} {w w2 : World} {B : Nat} {d d2 : Nat → Path} {p : Path} {s : Sl} {xs : List α} {k : Nat} {e : β} {x : α} (h : RowPart K T w B d p s xs k) (hx : xs[k]? = some x)
    (hw : ∀ g, g < w.heap.size → w2.heap[g]? = w.heap[g]?) (hd : ∀ g, g < w.heap.size → d2 g = d g) (o : K.Own w2 B d2 (p ++ [k]) e x) {g off : Nat} (ha : s.a = some ⟨g, off, none⟩) :
    RowPart K T (putRow w2 g (off + k * K.m) (K.vals e x)) B d2 p s xs (k + 1) := by
  obtain ⟨h1, es, vs, h2, h3, h4, h5⟩ := h
  have hk := (List.getElem?_eq_some_iff.1 hx).1
  have hgs := (h3.blk ha).2
  have hdg : d2 g = p := by rw [hd g hgs]; exact h4 _ ha
  have h3' := h3.keep (w' := w2) (fun y hy => by rw [ha] at hy; obtain rfl := Option.some.inj hy; exact hw _ hgs)
  have keep : ∀ {i e' x'}, K.Own w2 B d2 (p ++ [i]) e' x' → K.Own (putRow w2 g (off + k * K.m) (K.vals e x)) B d2 (p ++ [i]) e' x' := fun {i e' x'} q => K.frame q (fun g' a b c => putRow_other _ _ _ _ _ (fun ee => by subst ee; rw [hdg] at c; exact not_pre_self p i c))
  refine ⟨h1, es ++ [e], setL vs (k * K.m) (K.vals e x), by simp [h2], h3'.putRow _ ha _, fun y hy => by rw [ha] at hy; obtain rfl := Option.some.inj hy; exact hdg, fun i e' x' he hx' => ?_⟩
  by_cases hik : i < k
  · rw [List.getElem?_append_left (by omega)] at he
    obtain ⟨q1, q2⟩ := h5 i e' x' he hx'
    refine ⟨fun j v hv => ?_, keep (K.frame (K.recolNew q2 hd) (fun g' a b c => hw g' a))⟩
    have hj : j < K.m := by have := (List.getElem?_eq_some_iff.1 hv).1; rw [K.len] at this; exact this
    rw [setL_other _ _ _ _ (.inl (row_index hik hj))]
    exact q1 j v hv
  · have hi : i < (es ++ [e]).length := (List.getElem?_eq_some_iff.1 he).1
    simp [h2] at hi
    obtain rfl : i = k := by omega
    rw [List.getElem?_append_right (by omega), h2, Nat.sub_self] at he
    simp at he
    subst he
    obtain rfl : x = x' := Option.some.inj (hx.symm.trans hx')
    refine ⟨fun j v hv => ?_, keep o⟩
    have hj : j < K.m := by have := (List.getElem?_eq_some_iff.1 hv).1; rw [K.len] at this; exact this
    exact setL_at _ _ _ _ _ hv (by rw [h3.len]; exact row_index (by omega) hj)

/-- Two colourings, one below n and one from there on. -/
def joinD (n : Nat) (d1 d2 : Nat → Path) : Nat → Path := fun g => if g < n then d1 g else d2 g

theorem joinD_lt {n g : Nat} {d1 d2 : Nat → Path} (h : g < n) : joinD n d1 d2 g = d1 g := if_pos h
theorem joinD_ge {n g : Nat} {d1 d2 : Nat → Path} (h : n ≤ g) : joinD n d1 d2 g = d2 g := if_neg (by omega)

theorem Kd.left {α β : Type} (K : Kd α β) {w : World} {B : Nat} {d1 d2 : Nat → Path} {p : Path} {e : β} {x : α} (h : K.Own w B d1 p e x) {n : Nat} (hn : w.heap.size ≤ n) : K.Own w B (joinD n d1 d2) p e x :=
  K.recol h (fun g hg _ _ => joinD_lt (by omega))

theorem Kd.right {α β : Type} (K : Kd α β) {w : World} {B : Nat} {d1 d2 : Nat → Path} {p : Path} {e : β} {x : α} (h : K.Own w B d2 p e x) {n : Nat} (hn : n ≤ B) : K.Own w B (joinD n d1 d2) p e x :=
  K.recol h (fun g hg hb _ => joinD_ge (by omega))

/-- Nothing is written below B, nor in blocks that are not under the path p. -/
def OnlyP (B : Nat) (d : Nat → Path) (p : Path) (w w' : World) : Prop := Below B w w' ∧ ∀ g, g < w.heap.size → ¬ p <+: d g → w'.heap[g]? = w.heap[g]?

theorem OnlyP.refl (B : Nat) (d : Nat → Path) (p : Path) (w : World) : OnlyP B d p w w := ⟨Below.refl _ _, fun _ _ _ => rfl⟩

theorem OnlyP.trans {B : Nat} {d : Nat → Path} {p : Path} {a b c : World} (h : OnlyP B d p a b) (k : OnlyP B d p b c) : OnlyP B d p a c :=
  ⟨h.1.trans k.1, fun g hg hs => (k.2 g (Nat.lt_of_lt_of_le hg h.1.size) hs).trans (h.2 g hg hs)⟩

theorem OnlyP.up {B : Nat} {d : Nat → Path} {p q : Path} {a b : World} (h : OnlyP B d (p ++ q) a b) : OnlyP B d p a b := ⟨h.1, fun g hg hp => h.2 g hg (fun k => hp ((List.prefix_append _ _).trans k))⟩

theorem OnlyP.below {B C : Nat} {d : Nat → Path} {p : Path} {a b : World} (h : Below C a b) (hC : a.heap.size ≤ C) (hB : B ≤ C) : OnlyP B d p a b := ⟨h.mono hB, fun g hg _ => h.block g (Nat.lt_of_lt_of_le hg hC)⟩

theorem OnlyP.sblk {B : Nat} {d : Nat → Path} {p : Path} {w w' : World} (h : OnlyP B d p w w') {g : Nat} {vs : List Value} {T : TypeId} (hs : SBlk w g vs T) (hg : ¬ p <+: d g) : SBlk w' g vs T := (h.2 g hs.lt hg).trans hs

/-- What lies under another path stays. -/
theorem Kd.apart {α β : Type} (K : Kd α β) {w w' : World} {B B' : Nat} {d : Nat → Path} {p q : Path} {e : β} {x : α} (h : K.Own w B d p e x) (o : OnlyP B' d q w w') (hpq : ∀ c, p <+: c → ¬ q <+: c) : K.Own w' B d p e x :=
  K.frame h (fun g hg _ hp => o.2 g hg (hpq _ hp))

end Go.Proofs.Ytihdmdbekdadlaa

/- What is proved here: what the model's l13Read answers: whether bytes are those of a path, and the path. -/
namespace Go.Proofs.Ytihdmdbekdadlaa
open Go.RowKit
set_option linter.unusedVariables false
set_option maxRecDepth 100000

theorem hbs_at0 {d : List Int} (h : 0 < d.length) : (hbs d).getD 0 0 = d.getD 0 0 / 16 := by
  match d, h with
  | b :: r, _ => rfl

theorem drop_getD (l : List Int) (k i : Nat) (h : k + i < l.length) : (l.drop k).getD i 0 = l.getD (k + i) 0 := by
  rw [getD_at _ _ (by rw [List.length_drop]; omega), getD_at _ _ h, List.getElem_drop]

/-- What is left of a row of numbers, behind its first ones. -/
theorem IRow.drop {w : World} {g off n : Nat} {zs : List Int} (h : IRow w (some ⟨g, off, none⟩) n zs) (k : Nat) (hk : k ≤ n) : IRow w (some ⟨g, off + k, none⟩) (n - k) (zs.drop k) := by
  refine ⟨by rw [List.length_drop, h.1], trivial, (fun e => by cases e), fun x hx i hi => ?_⟩
  cases hx
  have := h.2.2.2 _ rfl (k + i) (by omega)
  rw [add_none] at this ⊢
  rw [drop_getD _ _ _ (by rw [h.1]; omega), Nat.add_assoc]
  exact this

/-- What reading a path answers. -/
def Rd (P : List Int) (E ok : Bool) (e : Ending) (w' : World) : Prop := ∃ (s : Option Addr) (m c : Nat) (E' : Bool), e = .returned (.tuple #[.slice s m c, .bool E', .bool ok]) ∧ (ok = true → IRow w' s m P ∧ E' = E ∧ (s = none → c = 0))

theorem IRow.none' (w : World) (a : Option Addr) : IRow w a 0 [] := ⟨rfl, trivial, fun _ => rfl, fun x _ i hi => by omega⟩

set_option maxHeartbeats 2000000 in
theorem l13Read_bad (a : Option Addr) (n cap : Nat) (d : List Int) (w : World) (h : BRow w a n d) (hb : n = 0 ∨ 11 < n ∨ 64 ≤ d.getD 0 0) (hl : n ≤ 1048576) :
    Calls Try.prog 43 #[.slice a n cap] w fun e w' => e = .returned (.tuple #[.slice none 0 0, .bool false, .bool false]) ∧ Below w.heap.size w w' := by
  by_cases h0 : n = 0
  · subst h0
    go_enter Try.func43, Try.ntmps43
    go_wp2_with fail
    exact bodyPost_ret (v := .tuple #[.slice none 0 0, .bool false, .bool false]) (by simp [results, Try.results43, go_sem]) rfl ⟨rfl, Below.refl _ _⟩
  · have e0 : ((n : Int) == 0) = false := by rw [beq_eq_false_iff_ne]; omega
    by_cases h1 : 11 < n
    · go_enter Try.func43, Try.ntmps43
      go_wp2_with fail
      exact bodyPost_ret (v := .tuple #[.slice none 0 0, .bool false, .bool false]) (by simp [results, Try.results43, go_sem]) rfl ⟨rfl, Below.refl _ _⟩
    · obtain ⟨b, off, rfl, _, hc⟩ := h.at (by omega)
      have hc0 := hc 0 (by omega)
      have h64 : 64 ≤ d.getD 0 0 := by omega
      rw [Nat.add_zero] at hc0
      generalize d.getD 0 0 = x at hc0 h64
      have e2 : decide (64 ≤ x) = true := decide_eq_true h64
      have i1 : (0 : Int) < (n : Int) := by omega
      clear hc h hb
      go_enter Try.func43, Try.ntmps43
      go_wp2_with fail
      exact bodyPost_ret (v := .tuple #[.slice none 0 0, .bool false, .bool false]) (by simp [results, Try.results43, go_sem]) rfl ⟨rfl, Below.refl _ _⟩

set_option maxHeartbeats 2000000 in
theorem l13Read_in (a : Option Addr) (n cap : Nat) (d : List Int) (w : World) (h : BRow w a n d) (h0 : 0 < n) (h1 : n ≤ 11) (h64 : d.getD 0 0 < 64) :
    Calls Try.prog 43 #[.slice a n cap] w fun e w' => Rd (upP d) (upE d) (upOk1 d) e w' ∧ Below w.heap.size w w' := by
  have hdl := h.1
  have hh := hbs_length d
  have h00 := hbs_at0 (d := d) (by omega)
  have hrg := h.2.1
  have hd0 : 0 ≤ d.getD 0 0 := (hrg _ (by rw [getD_at _ _ (by omega)]; exact List.getElem_mem _)).1
  have hOk : upOk1 d = (!(decide ((hbs d).getD 0 0 % 2 = 0) && !decide ((hbs d).getD 1 0 = 0)) && decide ((upP d).length ≤ 20)) := by
    unfold upOk1
    rw [decide_eq_false (by omega : ¬ d.length = 0), decide_eq_false (by omega : ¬ 11 < d.length), decide_eq_false (by omega : ¬ 64 ≤ d.getD 0 0)]
    simp
  have hP : upP d = if (hbs d).getD 0 0 % 2 = 0 then (hbs d).drop 2 else (hbs d).drop 1 := rfl
  have hE : upE d = decide (2 ≤ (hbs d).getD 0 0) := rfl
  have HH := hide (l13Half_any a n cap d w h (by omega))
  obtain ⟨b, off, rfl, _, hc⟩ := h.at (by omega)
  have hc0 := hc 0 (by omega)
  rw [Nat.add_zero] at hc0
  have hf0 : 0 ≤ (hbs d).getD 0 0 := by rw [h00]; omega
  rw [hOk, hE]
  have HPP := hide hP
  clear hc h hrg hOk hE h00 hP
  generalize upP d = P at HPP ⊢
  generalize hbs d = q at HH hh HPP hf0 ⊢
  generalize d.getD 0 0 = x at hc0 h64 hd0
  obtain ⟨f, hf⟩ : ∃ f, f = q.getD 0 0 := ⟨_, rfl⟩
  obtain ⟨y, hy⟩ : ∃ y, y = q.getD 1 0 := ⟨_, rfl⟩
  rw [← hf] at HPP hf0 ⊢
  rw [← hy]
  obtain ⟨ok, hok⟩ : ∃ ok, ok = (!(decide (f % 2 = 0) && !decide (y = 0)) && decide (P.length ≤ 20)) := ⟨_, rfl⟩
  rw [← hok]
  have HOK := hide hok
  have HF := hide hf
  have HY := hide hy
  clear hf hy hok
  obtain ⟨N, hN⟩ : ∃ N, N = 2 * n := ⟨_, rfl⟩
  rw [← hN] at HH
  have hqN : q.length = N := by omega
  have e0 : ((n : Int) == 0) = false := by rw [beq_eq_false_iff_ne]; omega
  have e1 : decide (11 < (n : Int)) = false := decide_eq_false (by omega)
  have e2 : decide (64 ≤ x) = false := decide_eq_false (by omega)
  have i1 : (0 : Int) < (n : Int) := by omega
  have hN2 : 2 ≤ N := by omega
  have hN22 : N ≤ 22 := by omega
  have HNn := hide hN
  clear hN hh
  go_enter Try.func43, Try.ntmps43
  go_wp2_with fail
  refine (unhide HH).mono ?_
  rintro e w1 ⟨a1, c1, rfl, o1, b1⟩
  obtain ⟨g, c2, hv⟩ := own_some o1 (by omega)
  simp only [Value.slice.injEq] at hv
  obtain ⟨rfl, _, rfl⟩ := hv
  have R1 := IRow.own2 o1
  have hNc : N ≤ c1 := (OwnS.of o1).room
  have y0 := R1.2.2.2 _ rfl 0 (by omega)
  have y1 := R1.2.2.2 _ rfl 1 (by omega)
  rw [add_none] at y0 y1
  simp only [Nat.zero_add] at y0 y1
  have HR1 := hide R1
  have HB1 := hide b1
  have HQ := hide hqN
  rw [← unhide HF] at y0
  rw [← unhide HY] at y1
  have em : f.tmod 2 = f % 2 := Int.tmod_eq_emod_of_nonneg hf0
  have k1 : ¬ c1 = 1 := by omega
  have k2 : (1 : Int) ≤ (N : Int) := by omega
  have k3 : (2 : Int) ≤ (N : Int) := by omega
  have k4 : (0 : Int) < (N : Int) := by omega
  have k5 : (1 : Int) < (N : Int) := by omega
  clear o1 b1 R1 hqN HH HF HY
  by_cases hev : f % 2 = 0
  · have hb : (f % 2 == 0) = true := by simp [hev]
    by_cases hy : y = 0
    · have hyb : (y != 0) = false := by simp [hy]
      have hPl : P.length = N - 2 := by rw [unhide HPP, if_pos hev, List.length_drop, unhide HQ]
      have hokT : ok = true := by rw [unhide HOK, decide_eq_true hev, decide_eq_true hy, decide_eq_true (by omega : P.length ≤ 20)]; rfl
      by_cases hc2 : c1 = 2
      · subst hc2
        obtain rfl : N = 2 := by omega
        have HP2 : P = [] := List.length_eq_zero_iff.1 (by omega)
        subst HP2
        subst hokT
        go_wp2_with fail
        exact bodyPost_ret (v := .tuple #[.slice (some ⟨g, 0, none⟩) 0 0, .bool (decide (2 ≤ f)), .bool true]) (by simp [results, Try.results43, go_sem]) rfl ⟨⟨_, 0, 0, _, rfl, fun _ => ⟨IRow.none' _ _, rfl, fun e => by cases e⟩⟩, unhide HB1⟩
      · subst hokT
        have m1 : (N : Int) - 2 = ((N - 2 : Nat) : Int) := by omega
        have m2 : decide ((N : Int) - 2 ≤ 20) = true := decide_eq_true (by omega)
        have m3 : decide (N - 2 ≤ 20) = true := decide_eq_true (by omega)
        have HD0 : IRow w1 (some ⟨g, 2, none⟩) (N - 2) P := by
          have := (unhide HR1).drop 2 (by omega)
          rw [unhide HPP, if_pos hev]
          simpa using this
        have HD := hide HD0
        have m4 : decide (((N - 2 : Nat) : Int) ≤ 20) = true := decide_eq_true (by omega)
        have m5 : ((N - 2 : Nat) : Int) ≤ 20 := by omega
        clear HD0
        clear hPl
        go_wp2_with fail
        skip
        exact bodyPost_ret (v := .tuple #[.slice (some ⟨g, 2, none⟩) (N - 2) (c1 - 2), .bool (decide (2 ≤ f)), .bool true]) (by simp [results, Try.results43, go_sem]) rfl ⟨⟨_, _, _, _, rfl, fun _ => ⟨unhide HD, rfl, fun e => by cases e⟩⟩, unhide HB1⟩
    · have hyb : (y != 0) = true := by simp [hy]
      have hokF : ok = false := by rw [unhide HOK, decide_eq_true hev, decide_eq_false hy]; rfl
      subst hokF
      go_wp2_with fail
      exact bodyPost_ret (v := .tuple #[.slice none 0 0, .bool false, .bool false]) (by simp [results, Try.results43, go_sem]) rfl ⟨⟨_, 0, 0, _, rfl, fun e => by cases e⟩, unhide HB1⟩
  · have hb : (f % 2 == 0) = false := by simp [hev]
    have hPl : P.length = N - 1 := by rw [unhide HPP, if_neg hev, List.length_drop, unhide HQ]
    have HD0 : IRow w1 (some ⟨g, 1, none⟩) (N - 1) P := by
      have := (unhide HR1).drop 1 (by omega)
      rw [unhide HPP, if_neg hev]
      simpa using this
    have HD := hide HD0
    clear HD0
    have hokT : ok = decide (N - 1 ≤ 20) := by rw [unhide HOK, decide_eq_false hev, hPl]; rfl
    have m1 : (N : Int) - 1 = ((N - 1 : Nat) : Int) := by omega
    obtain ⟨M, hM⟩ : ∃ M, M = N - 1 := ⟨_, rfl⟩
    have m2 : (N : Int) - 1 = (M : Int) := by omega
    have m3 : decide ((M : Int) ≤ 20) = ok := by rw [hokT, ← hM]; by_cases h : M ≤ 20 <;> simp [h] <;> omega
    rw [← hM] at HD
    have HM := hide hM
    have hM1 : N - 1 = M := hM.symm
    clear hokT hPl m1 HOK hM
    go_wp2_with fail
    skip
    exact bodyPost_ret (v := .tuple #[.slice (some ⟨g, 1, none⟩) M (c1 - 1), .bool (decide (2 ≤ f)), .bool ok]) (by simp [results, Try.results43, go_sem]) rfl ⟨⟨_, _, _, _, rfl, fun _ => ⟨unhide HD, rfl, fun e => by cases e⟩⟩, unhide HB1⟩

end Go.Proofs.Ytihdmdbekdadlaa

/- What is proved here: the contracts of the laws' helper functions on slices of int64 (eqInt64S), for slices of at most 2^20 numbers. -/
namespace Go.Proofs.Ytihdmdbekdadlaa
open Go.RowKit
set_option linter.unusedVariables false
set_option maxRecDepth 100000

set_option maxHeartbeats 400000 in
theorem eqInt64S_any (a b : Option Addr) (la ca lb cb : Nat) (xs ys : List Int) (w : World) (ha : IRow w a la xs) (hb : IRow w b lb ys) (hl : la ≤ 1048576) (hl2 : lb ≤ 1048576) :
    Calls Try.prog 23 #[.slice a la ca, .slice b lb cb] w fun e w' => e = .returned (.bool (sameB xs ys)) ∧ ∃ n, w' = w.drewN n := by
  have hxl := ha.1
  have hyl := hb.1
  by_cases hne : la = lb
  · subst hne
    have hlen : (((la : Nat) : Int) != ((la : Nat) : Int)) = false := by simp
    rcases Nat.eq_zero_or_pos la with h0 | hp
    · subst h0
      have hx : xs = [] := List.length_eq_zero_iff.1 hxl
      have hy : ys = [] := List.length_eq_zero_iff.1 hyl
      subst hx hy
      clear ha hb
      go_enter Try.func23, Try.ntmps23
      go_wp2
      refine wp_loop_rounds 1 ?_
      rw [rounds_succ]
      go_wp2
      go_ret
      exact ⟨rfl, 0, rfl⟩
    · obtain ⟨ba, oa, rfl, hba, hca⟩ := ha.at hp
      obtain ⟨bb, ob, rfl, hbb, hcb⟩ := hb.at hp
      have HCA := hide hca
      have HCB := hide hcb
      clear ha hb hca hcb
      go_enter Try.func23, Try.ntmps23
      go_wp2
      go_loopw [5] (fun i wr => ∃ k n : Nat, k ≤ la ∧ i = .int .i64 k ∧ xs.take k = ys.take k ∧ wr = w.drewN n)
        (fun i _ => la - (intOf i).toNat)
      case atStart => exact ⟨0, 0, Nat.zero_le _, rfl, rfl, rfl⟩
      case round =>
        obtain ⟨k, n, hk, rfl, hpre, rfl⟩ := hrel
        by_cases hlt : k < la
        · have h1 : w.cell? ⟨ba, oa + k, none⟩ = some (.int .i64 (xs.getD k 0)) := (unhide HCA) k hlt
          have h2 : w.cell? ⟨bb, ob + k, none⟩ = some (.int .i64 (ys.getD k 0)) := (unhide HCB) k hlt
          have Hs := take_same xs ys k (by omega) (by omega) hpre
          have Hd := take_other xs ys k (by omega) (by omega)
          generalize xs.getD k 0 = x at h1 Hs Hd
          generalize ys.getD k 0 = y at h2 Hs Hd
          have HS := hide Hs
          have HD := hide Hd
          have HP := hide hpre
          have i1 : (0 : Int) ≤ (k : Int) := by omega
          have i2 : (k : Int) < (la : Int) := by omega
          clear Hs Hd hpre hxl hyl
          by_cases hxy : x = y
          · subst hxy
            have HT := hide ((unhide HS) rfl)
            clear HS HD HP
            have ht : (x != x) = false := by simp
            go_wp2
            go_quiet (fail)
            go_wp2
            go_roundw
            case rel => exact ⟨k + 1, _, by omega, by go_num, unhide HT, rfl⟩
            case measure => simp [intOf]; omega
          · have ht : (x != y) = true := by simp [hxy]
            go_wp2
            go_quiet (fail)
            go_wp2
            go_ret
            exact ⟨ret_bool ((unhide HD) hxy).symm, _, World.drewN_drewN ..⟩
        · obtain rfl : k = la := by omega
          have e := take_whole xs ys k hxl hyl hpre
          have HE := hide e
          clear e hpre hxl hyl
          go_wp2
          go_ret
          exact ⟨ret_bool (unhide HE).symm, n, rfl⟩
  · have hlen : (((la : Nat) : Int) != ((lb : Nat) : Int)) = true := by simp; omega
    have e : sameB xs ys = false := by
      unfold sameB
      rw [beq_eq_false_iff_ne]
      intro e; rw [e] at hxl; omega
    have HE := hide e
    clear e
    go_enter Try.func23, Try.ntmps23
    go_wp2
    go_ret
    exact ⟨ret_bool (unhide HE).symm, 0, rfl⟩

end Go.Proofs.Ytihdmdbekdadlaa

/- What is proved here: the contracts of the laws' helper functions that write marks into an answer's numbers and look for them later (markInt64S, heldInt64S and those over IntsResult), for slices that the call itself made. -/
namespace Go.Proofs.Ytihdmdbekdadlaa
open Go.RowKit
set_option linter.unusedVariables false
set_option maxRecDepth 100000

set_option maxHeartbeats 1000000 in
theorem markInt64S_any (B g n cap : Nat) (zs : List Int) (k0 : Int) (w : World) (h : w.ownsRow B 2 1 (.slice (some ⟨g, 0, none⟩) n cap) n (zs.map (Value.int .i64))) (hn : n ≤ 2097152) (hk0 : 0 ≤ k0) (hk1 : k0 ≤ 1099511627776) :
    Calls Try.prog 24 #[.slice (some ⟨g, 0, none⟩) n cap, .int .i64 k0] w fun e w' => e = .returned (.int .i64 (k0 + n)) ∧
      w'.ownsRow B 2 1 (.slice (some ⟨g, 0, none⟩) n cap) n ((imarks k0 n).map (Value.int .i64)) ∧ w.grownBy w' (some g) := by
  have hzl : zs.length = n := by simpa using h.1
  go_enter Try.func24, Try.ntmps24
  go_wp2
  go_loopw [1, 5] (fun q i wr => ∃ k : Nat, k ≤ n ∧ i = .int .i64 k ∧ q = .int .i64 (k0 + k) ∧ wr.ownsRow B 2 1 (.slice (some ⟨g, 0, none⟩) n cap) n ((imarks k0 k ++ zs.drop k).map (Value.int .i64)) ∧ w.grownBy wr (some g))
    (fun _ i _ => n - (intOf i).toNat)
  case atStart => exact ⟨0, Nat.zero_le _, rfl, by simp, by simpa [imarks] using h, grownBy_refl w _⟩
  case round =>
    obtain ⟨k, hk, rfl, rfl, hown, hgr⟩ := hrel
    by_cases hlt : k < n
    · have hfz := hown.frozenAt k
      obtain ⟨u, hu⟩ : ∃ u, wr.cell? ⟨g, k, none⟩ = some u := by
        rw [hown.cellAt k (by omega)]
        exact ⟨_, List.getElem?_eq_getElem (by rw [hown.1]; omega)⟩
      have R := hown.stored k (.int .i64 (k0 + k))
      rw [imark_step k0 zs n k hzl hlt] at R
      have HR := R.1
      have HG := grownBy_trans hgr R.2
      clear R hown
      go_wp2
      go_roundw
      case rel => exact ⟨k + 1, by omega, by go_num, by go_num, HR, HG⟩
      case measure => simp [intOf]; omega
    · obtain rfl : k = n := by omega
      rw [List.drop_eq_nil_of_le (by omega), List.append_nil] at hown
      go_wp2
      go_ret
      exact ⟨rfl, hown, hgr⟩

set_option maxHeartbeats 1000000 in
theorem markInt64S_nil (k0 : Int) (w : World) :
    Calls Try.prog 24 #[.slice none 0 0, .int .i64 k0] w fun e w' => e = .returned (.int .i64 k0) ∧ w' = w := by
  go_enter Try.func24, Try.ntmps24
  go_wp2
  refine wp_loop_rounds 1 ?_
  rw [rounds_succ]
  go_wp2
  go_ret
  exact ⟨rfl, rfl⟩

theorem markInt64S_own (B n cap : Nat) (a : Option Addr) (zs : List Int) (k0 : Int) (w : World) (h : w.ownsRow B 2 1 (.slice a n cap) n (zs.map (Value.int .i64))) (hn : n ≤ 2097152) (hk0 : 0 ≤ k0) (hk1 : k0 ≤ 1099511627776) :
    Calls Try.prog 24 #[.slice a n cap, .int .i64 k0] w fun e w' => e = .returned (.int .i64 (k0 + n)) ∧
      w'.ownsRow B 2 1 (.slice a n cap) n ((imarks k0 n).map (Value.int .i64)) ∧ w.grownBy w' (Value.slice a n cap).ownBlock := by
  rcases h.2 with ⟨h', h0⟩ | ⟨g, cap', cur, h', _⟩
  · simp only [Value.slice.injEq] at h'
    obtain ⟨rfl, rfl, rfl⟩ := h'
    refine (markInt64S_nil k0 w).mono fun e w' hq => ?_
    obtain ⟨rfl, rfl⟩ := hq
    exact ⟨by simp, World.ownsRow_nil _ _ _ _, grownBy_refl _ _⟩
  · simp only [Value.slice.injEq] at h'
    obtain ⟨rfl, _, rfl⟩ := h'
    exact markInt64S_any B g n cap zs k0 w h hn hk0 hk1

set_option maxHeartbeats 1000000 in
theorem heldInt64S_any (n cap : Nat) (a : Option Addr) (k0 : Int) (w : World) (h : IRow w a n (imarks k0 n)) (hn : n ≤ 2097152) (hk0 : 0 ≤ k0) (hk1 : k0 ≤ 1099511627776) :
    Calls Try.prog 55 #[.slice a n cap, .int .i64 k0] w fun e w' => e = .returned (.int .i64 (k0 + n)) ∧ w' = w := by
  rcases Nat.eq_zero_or_pos n with h0 | hp
  · subst h0
    clear h
    go_enter Try.func55, Try.ntmps55
    go_wp2
    refine wp_loop_rounds 1 ?_
    rw [rounds_succ]
    go_wp2
    go_ret
    exact ⟨ret_int (by simp), rfl⟩
  · obtain ⟨b, off, rfl, hb, hc⟩ := h.at hp
    have HC := hide hc
    clear h hc
    go_enter Try.func55, Try.ntmps55
    go_wp2
    go_loop [1, 5] (fun q i => ∃ k : Nat, k ≤ n ∧ i = .int .i64 k ∧ q = .int .i64 (k0 + k)) (fun _ i => n - (intOf i).toNat)
    case atStart => exact ⟨0, Nat.zero_le _, rfl, by simp⟩
    case round =>
      obtain ⟨k, hk, rfl, rfl⟩ := hrel
      by_cases hlt : k < n
      · have hck := (unhide HC) k hlt
        rw [imarks_at k0 n k hlt] at hck
        have hne : ((k0 + (k : Int)) != k0 + (k : Int)) = false := by simp
        go_wp2
        go_round
        case rel => exact ⟨k + 1, by omega, by go_num, by go_num⟩
        case measure => simp [intOf]; omega
      · obtain rfl : k = n := by omega
        go_wp2
        go_ret
        exact ⟨rfl, rfl⟩

end Go.Proofs.Ytihdmdbekdadlaa

/- What is proved here: what the model's UnpackPath answers: the code, the path and whether it is an end, in new memory. -/
namespace Go.Proofs.Ytihdmdbekdadlaa
open Go.RowKit
set_option linter.unusedVariables false
set_option maxRecDepth 100000

theorem l13Read_any (a : Option Addr) (n cap : Nat) (d : List Int) (w : World) (h : BRow w a n d) (hl : n ≤ 1048576) :
    Calls Try.prog 43 #[.slice a n cap] w fun e w' => Rd (upP d) (upE d) (upOk1 d) e w' ∧ Below w.heap.size w w' := by
  by_cases hb : n = 0 ∨ 11 < n ∨ 64 ≤ d.getD 0 0
  · refine (l13Read_bad a n cap d w h hb hl).mono ?_
    rintro e w' ⟨rfl, hB⟩
    have hf : upOk1 d = false := by
      unfold upOk1
      rw [h.1]
      rcases hb with q | q | q
      · rw [decide_eq_true q]; rfl
      · rw [decide_eq_true q]; simp
      · rw [decide_eq_true q]; simp
    exact ⟨⟨none, 0, 0, false, by rw [hf], fun e => by rw [hf] at e; cases e⟩, hB⟩
  · exact l13Read_in a n cap d w h (by omega) (by omega) (by omega)

theorem res3_facts {w : World} {b : Nat} {x y z : Value} {t : TypeId} (h : w.heap[b]? = some (.cells #[x, y, z] t (0, 0))) :
    w.cell? ⟨b, 0, none⟩ = some x ∧ w.cell? ⟨b, 1, none⟩ = some y ∧ w.cell? ⟨b, 2, none⟩ = some z ∧ w.frozen? ⟨b, 0, none⟩ = false ∧ w.frozen? ⟨b, 1, none⟩ = false ∧ w.frozen? ⟨b, 2, none⟩ = false :=
  ⟨by simp [World.cell?, h], by simp [World.cell?, h], by simp [World.cell?, h], frozen_of_row w b 0 _ t h, frozen_of_row w b 1 _ t h, frozen_of_row w b 2 _ t h⟩

theorem IRow.max {w : World} {a : Option Addr} {n : Nat} {zs : List Int} (h : IRow w a n zs) : zs.length = n := h.1

set_option maxHeartbeats 2000000 in
theorem specUnpack_any (a : Option Addr) (n cap : Nat) (d : List Int) (w : World) (h : BRow w a n d) (hl : n ≤ 1048576) :
    Calls Try.prog 12 #[.slice a n cap] w fun e w' => ∃ a' c', e = .returned (.agg #[.int .i64 (upCode d), .slice a' (upPath d).length c', .bool (upEnd d)]) ∧
      w'.ownsRow w.heap.size 2 1 (.slice a' (upPath d).length c') (upPath d).length ((upPath d).map (Value.int .i64)) ∧ Below w.heap.size w w' := by
  obtain ⟨i0, hi, hz0, hz1, hz2⟩ := info_parts info2
  have HC := hide (fun o => l13Read_any a n cap d (w.alloc o) (h.below (below_alloc w o) (Nat.le_refl _)) hl)
  have HL := hide (upPath_length d)
  have HC0 : Hid (upOk1 d = true → upCode d = 0 ∧ upPath d = upP d ∧ upEnd d = upE d) := fun hh => ⟨by unfold upCode; rw [hh]; rfl, by unfold upPath; rw [hh]; rfl, by unfold upEnd; rw [hh]; rfl⟩
  have HC3 : Hid (upOk1 d = false → upCode d = 5 ∧ upPath d = [] ∧ upEnd d = false) := fun hh => ⟨by unfold upCode; rw [hh]; rfl, by unfold upPath; rw [hh]; rfl, by unfold upEnd; rw [hh]; rfl⟩
  generalize upCode d = C at HC0 HC3 ⊢
  generalize upPath d = P at HC0 HC3 HL ⊢
  generalize upEnd d = E at HC0 HC3 ⊢
  generalize upOk1 d = ok at HC0 HC3 HC
  generalize upP d = P0 at HC HC0
  generalize upE d = E0 at HC HC0
  clear h
  go_enter Try.func12, Try.ntmps12
  go_wp2_with fail
  refine ((unhide HC) _).mono ?_
  rintro e w1 ⟨⟨s, m, c, E', rfl, hrd⟩, b1⟩
  have hsz : (w.alloc (.cells #[.int .i64 0, .slice none 0 0, .bool false] 27)).heap.size = w.heap.size + 1 := by simp
  have q0 : (w.alloc (.cells #[.int .i64 0, .slice none 0 0, .bool false] 27)).heap[w.heap.size]? = some (.cells #[.int .i64 0, .slice none 0 0, .bool false] 27 (0, 0)) := by
    show (w.heap.push _)[w.heap.size]? = _
    simp
  have B0 := below_alloc w (.cells #[.int .i64 0, .slice none 0 0, .bool false] 27)
  generalize w.alloc (.cells #[.int .i64 0, .slice none 0 0, .bool false] 27) = w0 at *
  have q1 := (b1.block w.heap.size (by omega)).trans q0
  have B1 := B0.trans (b1.mono (by omega))
  have hs1 := b1.size
  have hs2 : w.heap.size + 1 ≤ w1.heap.size := by omega
  obtain ⟨z0, z1, z2, f0, f1, f2⟩ := res3_facts q1
  have HB1 := hide B1
  cases ok
  · obtain ⟨rfl, rfl, rfl⟩ := (unhide HC3) rfl
    clear HC HC0 HC3 hrd b1 B0 B1 q0 q1 hsz
    go_wp2_with fail
    refine bodyPost_ret (v := .agg #[.int .i64 5, .slice none 0 0, .bool false]) (by simp [results, Try.results12, go_sem, z0, z1, z2]) rfl ⟨none, 0, rfl, World.ownsRow_nil _ _ _ _, ?_⟩
    exact (((unhide HB1).setCell (by simp) _).setCell (by simp) _).setCell (by simp) _
  · obtain ⟨rfl, rfl, rfl⟩ := (unhide HC0) rfl
    obtain ⟨hrow, rfl, hcap⟩ := hrd rfl
    have hPm := hrow.1
    have hm : m ≤ 20 := by have := unhide HL; omega
    have HPM := hide hPm
    have HR := hide hrow
    have HCP := hide hcap
    have HQ1 := hide q1
    clear HC HC0 HC3 hrd b1 B0 B1 q0 q1 hsz hrow hcap hPm
    have o0 : (w1.alloc (.cells #[] 2)).ownsRow (w.heap.size + 1) 2 1 (.slice (some ⟨w1.heap.size, 0, none⟩) 0 0) 0 (([] : List Int).map (Value.int .i64)) := World.ownsRow_lit w1 #[] 0 hs2 (by unfold maxLen; omega) rfl
    have HO := hide o0
    clear o0
    go_wp2_with (at_builtin; refine wpList_append_irow _ rfl _ _ 25 rfl (w.heap.size + 1) i0 Try.underlying25 hi hz0 hz1 hz2 _ 0 [] rfl (unhide HO) s m c P rfl ((unhide HR).below (below_alloc w1 _) (Nat.le_refl _)) (unhide HCP) (by omega) (by simp; omega) ?_)
    intro a3 c3 w3 o3 g3
    have B3 : Below w.heap.size w w3 := ((unhide HB1).alloc (unhide HB1).size _).grown g3 (by simp; omega) (fun g e => by simp [Value.ownBlock] at e; omega)
    have q3 := (g3.block w.heap.size (by simp; omega) (fun e => by simp [Value.ownBlock] at e; omega)).trans ((Below.heap_alloc w1 _ _ (by omega)).trans (unhide HQ1))
    obtain ⟨t0, t1, t2, k0, k1, k2⟩ := res3_facts q3
    have HO3 := hide o3
    have HB3 := hide B3
    clear o3 B3 g3 q3 z0 z1 z2 f0 f1 f2 HO
    go_wp2_with fail
    refine bodyPost_ret (v := .agg #[.int .i64 0, .slice a3 m c3, .bool E']) (by simp [results, Try.results12, go_sem, t0, t1, t2]) rfl ⟨a3, c3, by rw [unhide HPM], ?_, ?_⟩
    · rw [unhide HPM]
      exact ownsRow_base (ownsRow_setCell_below (ownsRow_setCell_below (ownsRow_setCell_below (unhide HO3) (by simp) _) (by simp) _) (by simp) _) (by omega)
    · exact (((unhide HB3).setCell (by simp) _).setCell (by simp) _).setCell (by simp) _

end Go.Proofs.Ytihdmdbekdadlaa

/- What is proved here: two lists of bytes are the same as strings just where they are the same. -/
namespace Go.Proofs.Ytihdmdbekdadlaa
open Go.RowKit
set_option linter.unusedVariables false
set_option maxRecDepth 100000

theorem byteList_loop (bs : ByteArray) (i : Nat) (r : List UInt8) : ByteArray.toList.loop bs i r = r.reverse ++ bs.data.toList.drop i := by
  have hsz : bs.size = bs.data.toList.length := by cases bs; rfl
  induction h : bs.size - i generalizing i r with
  | zero =>
    unfold ByteArray.toList.loop
    have : bs.size ≤ i := by omega
    rw [if_neg (by omega), List.drop_eq_nil_of_le (by omega)]
    simp
  | succ n ih =>
    unfold ByteArray.toList.loop
    have hi : i < bs.size := by omega
    rw [if_pos hi, ih (i+1) _ (by omega)]
    have hi' : i < bs.data.toList.length := by omega
    rw [List.drop_eq_getElem_cons hi', List.reverse_cons, List.append_assoc]
    congr 1
    show _ :: _ = _ :: _
    congr 1
    cases bs with
    | mk d =>
      show d[i]! = d.toList[i]
      have hd : i < d.size := by simpa using hi'
      rw [getElem!_pos d i hd, Array.getElem_toList]

theorem byteList_data (bs : ByteArray) : bs.toList = bs.data.toList := by
  unfold ByteArray.toList
  rw [byteList_loop]; rfl

theorem strEq_dec {xs ys : List Int} (hx : ∀ x ∈ xs, 0 ≤ x ∧ x ≤ 255) (hy : ∀ y ∈ ys, 0 ≤ y ∧ y ≤ 255) : strEq xs ys = decide (xs = ys) := by
  unfold strEq
  rw [byteList_data, byteList_data, strOfNums_data, strOfNums_data]
  by_cases e : xs = ys
  · subst e; simp
  · rw [decide_eq_false e, beq_eq_false_iff_ne]
    intro h
    apply e
    have inj : ∀ (a b : List Int), (∀ x ∈ a, 0 ≤ x ∧ x ≤ 255) → (∀ x ∈ b, 0 ≤ x ∧ x ≤ 255) → a.map (fun n => UInt8.ofNat n.toNat) = b.map (fun n => UInt8.ofNat n.toNat) → a = b := by
      intro a
      induction a with
      | nil => intro b _ _ h; cases b with
        | nil => rfl
        | cons y t => simp at h
      | cons x r ih =>
        intro b ha hb h
        cases b with
        | nil => simp at h
        | cons y t =>
          rw [List.map_cons, List.map_cons, List.cons.injEq] at h
          have h1 := ha x (by simp)
          have h2 := hb y (by simp)
          have e1 : x.toNat = y.toNat := by
            have q := congrArg UInt8.toNat h.1
            simp only [UInt8.toNat_ofNat'] at q
            omega
          rw [show x = y by omega, ih t (fun z hz => ha z (by simp [hz])) (fun z hz => hb z (by simp [hz])) h.2]
    exact inj xs ys hx hy h

end Go.Proofs.Ytihdmdbekdadlaa

/- What is proved here: what SameBytes answers, in the program and in the model, for slices of bytes of any length: whether the two are the same as strings. -/
namespace Go.Proofs.Ytihdmdbekdadlaa
open Go.RowKit
set_option linter.unusedVariables false
set_option maxRecDepth 100000

theorem implSame_any (a b : Option Addr) (la ca lb cb : Nat) (xs ys : List Int) (w : World) (ha : BRow w a la xs) (hb : BRow w b lb ys) :
    Calls Try.prog 38 #[.slice a la ca, .slice b lb cb] w fun e w' => e = .returned (.bool (strEq xs ys)) ∧ w' = w := by
  have h1 := conv_any (P := Try.prog) w 22 5 9 Try.underlying22 Try.underlying5 Try.underlying9 a la ca xs ha
  have h2 := conv_any (P := Try.prog) w 22 5 9 Try.underlying22 Try.underlying5 Try.underlying9 b lb cb ys hb
  clear ha hb
  go_enter Try.func38, Try.ntmps38
  go_wp2
  go_ret
  exact ⟨rfl, rfl⟩

end Go.Proofs.Ytihdmdbekdadlaa
