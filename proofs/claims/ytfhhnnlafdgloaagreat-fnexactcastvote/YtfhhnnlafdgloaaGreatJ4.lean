/- What is proved here: plain facts on headers that a call made in memory of their own, told by colours of blocks: what is written in blocks of one colour leaves all else. -/
import Derived.Test.YtfhhnnlafdgloaaGreatJ3
namespace Go.Proofs.YtfhhnnlafdgloaaGreat
open Go.RowKit
set_option linter.unusedVariables false
set_option maxRecDepth 100000

/-- A slice's value. -/
def Sl.v (s : Sl) : Value := .slice s.a s.n s.c

/-- Bytes in memory of their own, at or beyond B; its block has the colour j. -/
structure CB (w : World) (B : Nat) (d : Nat → Nat) (j : Nat) (s : Sl) (z : List Int) : Prop where
  len : s.n = z.length
  rng : ∀ x ∈ z, 0 ≤ x ∧ x ≤ 255
  own : w.ownsRow B 5 1 (.slice s.a s.n s.c) s.n (z.map (Value.int .u8))
  col : ∀ g, (Value.slice s.a s.n s.c).ownBlock = some g → d g = j

/-- Nothing is written below B, nor in blocks whose colour is not in S. -/
def OnlyD (B : Nat) (d : Nat → Nat) (S : Nat → Prop) (w w' : World) : Prop := Below B w w' ∧ ∀ g, g < w.heap.size → ¬ S (d g) → w'.heap[g]? = w.heap[g]?

theorem OnlyD.refl (B : Nat) (d : Nat → Nat) (S : Nat → Prop) (w : World) : OnlyD B d S w w := ⟨Below.refl _ _, fun _ _ _ => rfl⟩

theorem OnlyD.trans {B : Nat} {d : Nat → Nat} {S : Nat → Prop} {a b c : World} (h : OnlyD B d S a b) (k : OnlyD B d S b c) : OnlyD B d S a c :=
  ⟨h.1.trans k.1, fun g hg hs => (k.2 g (Nat.lt_of_lt_of_le hg h.1.size) hs).trans (h.2 g hg hs)⟩

theorem OnlyD.mono {B : Nat} {d : Nat → Nat} {S T : Nat → Prop} {a b : World} (h : OnlyD B d S a b) (hs : ∀ c, S c → T c) : OnlyD B d T a b := ⟨h.1, fun g hg ht => h.2 g hg (fun q => ht (hs _ q))⟩

theorem OnlyD.below {B C : Nat} {d : Nat → Nat} {S : Nat → Prop} {a b : World} (h : Below C a b) (hC : a.heap.size ≤ C) (hB : B ≤ C) : OnlyD B d S a b := ⟨h.mono hB, fun g hg _ => h.block g (Nat.lt_of_lt_of_le hg hC)⟩

theorem OnlyD.grown {B j : Nat} {d : Nat → Nat} {a b : World} {row : Option Nat} (hg : a.grownBy b row) (hB : B ≤ a.heap.size) (hr : ∀ g, row = some g → B ≤ g ∧ d g = j) : OnlyD B d (fun c => c = j) a b :=
  ⟨(Below.refl B a).grown hg hB (fun k e => (hr k e).1), fun g hl hs => hg.block g hl (fun e => hs (hr g e.symm).2)⟩

theorem own_keep {B D : Nat} {d : Nat → Nat} {S : Nat → Prop} {w w' : World} {e : TypeId} {size n j : Nat} {v : Value} {xs : List Value} (ho : w.ownsRow D e size v n xs) (h : OnlyD B d S w w') (hc : ∀ g, v.ownBlock = some g → d g = j) (hj : ¬ S j) : w'.ownsRow D e size v n xs := by
  refine ⟨ho.1, ?_⟩
  rcases ho.2 with h' | ⟨g, cap, cur, h1, h2, h3, h4⟩
  · exact .inl h'
  · have hd := hc g (by rw [h1]; rfl)
    exact .inr ⟨g, cap, cur, h1, h2, (h.2 g (lt_of_block h3) (by rw [hd]; exact hj)).trans h3, h4⟩

theorem own_lt {w : World} {B : Nat} {e : TypeId} {size n : Nat} {v : Value} {xs : List Value} (h : w.ownsRow B e size v n xs) (g : Nat) (hg : v.ownBlock = some g) : B ≤ g ∧ g < w.heap.size := h.lt g hg

theorem CB.only {B D j : Nat} {d : Nat → Nat} {S : Nat → Prop} {w w' : World} {s : Sl} {z : List Int} (h : CB w B d j s z) (o : OnlyD D d S w w') (hj : ¬ S j) : CB w' B d j s z := ⟨h.len, h.rng, own_keep h.own o h.col hj, h.col⟩

theorem CB.below {B C j : Nat} {d : Nat → Nat} {w w' : World} {s : Sl} {z : List Int} (h : CB w B d j s z) (hb : Below C w w') (hC : w.heap.size ≤ C) : CB w' B d j s z := ⟨h.len, h.rng, own_below h.own hb hC, h.col⟩

theorem CB.recol {B j : Nat} {d d' : Nat → Nat} {w : World} {s : Sl} {z : List Int} (h : CB w B d j s z) (hd : ∀ g, g < w.heap.size → d' g = d g) : CB w B d' j s z := ⟨h.len, h.rng, h.own, fun g hg => by rw [hd g (own_lt h.own g hg).2]; exact h.col g hg⟩

theorem CB.base {B B' j : Nat} {d : Nat → Nat} {w : World} {s : Sl} {z : List Int} (h : CB w B d j s z) (hB : B' ≤ B) : CB w B' d j s z := ⟨h.len, h.rng, ownsRow_base h.own hB, h.col⟩

theorem CB.brow {B j : Nat} {d : Nat → Nat} {w : World} {s : Sl} {z : List Int} (h : CB w B d j s z) : BRow w s.a s.n z := BRow.own2 h.own h.rng

theorem CB.nil (w : World) (B : Nat) (d : Nat → Nat) (j : Nat) : CB w B d j ⟨none, 0, 0⟩ [] := ⟨rfl, fun x hx => by simp at hx, World.ownsRow_nil _ _ _ _, fun g hg => by cases hg⟩

/-- What is made anew has any colour that one gives it. -/
theorem CB.new {w w' : World} {B j : Nat} {d : Nat → Nat} {a : Option Addr} {n c : Nat} {z : List Int} (hn : n = z.length) (hr : ∀ x ∈ z, 0 ≤ x ∧ x ≤ 255) (h : w'.ownsRow w.heap.size 5 1 (.slice a n c) n (z.map (Value.int .u8))) (hB : B ≤ w.heap.size) : CB w' B (fun g => if w.heap.size ≤ g then j else d g) j ⟨a, n, c⟩ z :=
  ⟨hn, hr, ownsRow_base h hB, fun g hg => if_pos (own_lt h g hg).1⟩

/-- A list of slices of bytes in memory of its own: its row has the colour r, its slices c, c + 3 and so on. -/
def CS (w : World) (B : Nat) (d : Nat → Nat) (r c : Nat) (s : Sl) (zss : List (List Int)) : Prop :=
  s.n = zss.length ∧ ∃ es : List Sl, es.length = zss.length ∧ w.ownsRow B 27 1 (.slice s.a s.n s.c) s.n (es.map Sl.v) ∧ (∀ g, (Value.slice s.a s.n s.c).ownBlock = some g → d g = r) ∧
    ∀ i e z, es[i]? = some e → zss[i]? = some z → CB w B d (c + 3 * i) e z

theorem CS.only {B D r c : Nat} {d : Nat → Nat} {S : Nat → Prop} {w w' : World} {s : Sl} {zss : List (List Int)} (h : CS w B d r c s zss) (o : OnlyD D d S w w') (hr : ¬ S r) (hc : ∀ i, ¬ S (c + 3 * i)) : CS w' B d r c s zss := by
  obtain ⟨h1, es, h2, h3, h4, h5⟩ := h
  exact ⟨h1, es, h2, own_keep h3 o h4 hr, h4, fun i e z he hz => (h5 i e z he hz).only o (hc i)⟩

theorem CS.below {B C r c : Nat} {d : Nat → Nat} {w w' : World} {s : Sl} {zss : List (List Int)} (h : CS w B d r c s zss) (hb : Below C w w') (hC : w.heap.size ≤ C) : CS w' B d r c s zss := by
  obtain ⟨h1, es, h2, h3, h4, h5⟩ := h
  exact ⟨h1, es, h2, own_below h3 hb hC, h4, fun i e z he hz => (h5 i e z he hz).below hb hC⟩

theorem CS.recol {B r c : Nat} {d d' : Nat → Nat} {w : World} {s : Sl} {zss : List (List Int)} (h : CS w B d r c s zss) (hd : ∀ g, g < w.heap.size → d' g = d g) : CS w B d' r c s zss := by
  obtain ⟨h1, es, h2, h3, h4, h5⟩ := h
  exact ⟨h1, es, h2, h3, fun g hg => by rw [hd g (own_lt h3 g hg).2]; exact h4 g hg, fun i e z he hz => (h5 i e z he hz).recol hd⟩

theorem CS.base {B B' r c : Nat} {d : Nat → Nat} {w : World} {s : Sl} {zss : List (List Int)} (h : CS w B d r c s zss) (hB : B' ≤ B) : CS w B' d r c s zss := by
  obtain ⟨h1, es, h2, h3, h4, h5⟩ := h
  exact ⟨h1, es, h2, ownsRow_base h3 hB, h4, fun i e z he hz => (h5 i e z he hz).base hB⟩

theorem CS.nil (w : World) (B : Nat) (d : Nat → Nat) (r c : Nat) : CS w B d r c ⟨none, 0, 0⟩ [] := ⟨rfl, [], rfl, World.ownsRow_nil _ _ _ _, (fun g hg => by cases hg), fun i e z he => by simp at he⟩

/-- The slice at a place, and what becomes of the list when it alone is written. -/
theorem CS.at {B r c : Nat} {d : Nat → Nat} {w : World} {s : Sl} {zss : List (List Int)} (h : CS w B d r c s zss) {k : Nat} {z : List Int} (hz : zss[k]? = some z) (hr : r ≠ c + 3 * k) :
    ∃ (g : Nat) (e : Sl), s.a = some ⟨g, 0, none⟩ ∧ w.cell? ⟨g, k, none⟩ = some (.slice e.a e.n e.c) ∧ CB w B d (c + 3 * k) e z ∧
      ∀ w' z', OnlyD B d (fun q => q = c + 3 * k) w w' → CB w' B d (c + 3 * k) e z' → CS w' B d r c s (zss.set k z') := by
  obtain ⟨h1, es, h2, h3, h4, h5⟩ := h
  have hk := (List.getElem?_eq_some_iff.1 hz).1
  obtain ⟨e, he⟩ : ∃ e, es[k]? = some e := ⟨_, List.getElem?_eq_getElem (by omega)⟩
  obtain ⟨g, cap, hv⟩ := own_some h3 (by omega)
  have hv2 := hv
  simp only [Value.slice.injEq] at hv2
  refine ⟨g, e, hv2.1, ?_, h5 k e z he hz, fun w' z' ho hc => ⟨by rw [List.length_set]; exact h1, es, by rw [List.length_set]; exact h2, own_keep h3 ho h4 hr, h4, fun i e' z'' he' hz'' => ?_⟩⟩
  · rw [hv] at h3
    rw [h3.cellAt k (by omega), List.getElem?_map, he]
    rfl
  · rw [List.getElem?_set] at hz''
    by_cases hik : k = i
    · subst hik
      rw [if_pos rfl, if_pos hk] at hz''
      obtain rfl := Option.some.inj hz''
      obtain rfl := Option.some.inj (he.symm.trans he')
      exact hc
    · rw [if_neg hik] at hz''
      exact (h5 i e' z'' he' hz'').only ho (fun q => hik (by omega))

theorem CS.bsrow {B r c : Nat} {d : Nat → Nat} {w : World} {s : Sl} {zss : List (List Int)} (h : CS w B d r c s zss) (hl : ∀ z ∈ zss, z.length ≤ maxLen) : BsRow w s.a s.n zss := by
  obtain ⟨h1, es, h2, h3, h4, h5⟩ := h
  refine ⟨h1.symm, hl, fun hp => ?_⟩
  obtain ⟨g, cap, hv⟩ := own_some h3 hp
  have hv2 := hv
  simp only [Value.slice.injEq] at hv2
  refine ⟨g, 0, hv2.1, fun i z hz => ?_⟩
  have hi := (List.getElem?_eq_some_iff.1 hz).1
  obtain ⟨e, he⟩ : ∃ e, es[i]? = some e := ⟨_, List.getElem?_eq_getElem (by omega)⟩
  rw [hv] at h3
  exact ⟨e.a, e.n, e.c, by rw [Nat.zero_add, h3.cellAt i (by omega), List.getElem?_map, he]; rfl, (h5 i e z he hz).brow⟩

/-- A header in memory of its own. -/
structure CH (w : World) (B : Nat) (d : Nat → Nat) (x : HS) (h : Hd) : Prop where
  p : CB w B d 0 x.p h.p
  t : CB w B d 1 x.t h.t
  s : CS w B d 5 7 x.s h.s
  r : CB w B d 2 x.r h.r
  g : CB w B d 3 x.g h.g
  e : CB w B d 4 x.e h.e
  k : CS w B d 6 8 x.k h.k

theorem CH.below {B C : Nat} {d : Nat → Nat} {w w' : World} {x : HS} {h : Hd} (o : CH w B d x h) (hb : Below C w w') (hC : w.heap.size ≤ C) : CH w' B d x h :=
  ⟨o.p.below hb hC, o.t.below hb hC, o.s.below hb hC, o.r.below hb hC, o.g.below hb hC, o.e.below hb hC, o.k.below hb hC⟩

theorem CH.base {B B' : Nat} {d : Nat → Nat} {w : World} {x : HS} {h : Hd} (o : CH w B d x h) (hB : B' ≤ B) : CH w B' d x h :=
  ⟨o.p.base hB, o.t.base hB, o.s.base hB, o.r.base hB, o.g.base hB, o.e.base hB, o.k.base hB⟩

theorem CH.recol {B : Nat} {d d' : Nat → Nat} {w : World} {x : HS} {h : Hd} (o : CH w B d x h) (hd : ∀ g, g < w.heap.size → d' g = d g) : CH w B d' x h :=
  ⟨o.p.recol hd, o.t.recol hd, o.s.recol hd, o.r.recol hd, o.g.recol hd, o.e.recol hd, o.k.recol hd⟩

theorem OnlyD.sblk {B : Nat} {d : Nat → Nat} {S : Nat → Prop} {w w' : World} (h : OnlyD B d S w w') {g : Nat} {vs : List Value} {T : TypeId} (hs : SBlk w g vs T) (hg : ¬ S (d g)) : SBlk w' g vs T := (h.2 g hs.lt hg).trans hs

theorem CH.hok {B : Nat} {d : Nat → Nat} {w : World} {x : HS} {h : Hd} (o : CH w B d x h) (m : HSm h) : HOk w x h :=
  ⟨o.p.brow, o.t.brow, o.s.bsrow (fun z hz => by have := m.sz z hz; unfold maxLen; omega), o.r.brow, o.g.brow, o.e.brow, o.k.bsrow (fun z hz => by have := m.kz z hz; unfold maxLen; omega)⟩

/-- The marks of a list of slices. -/
def mkss : Int → List (List Int) → List (List Int)
  | _, [] => []
  | k, z :: r => marks k z.length :: mkss (k + (z.length : Nat)) r

theorem mkss_length : ∀ (zss : List (List Int)) (k : Int), (mkss k zss).length = zss.length
  | [], k => rfl
  | z :: r, k => by rw [mkss, List.length_cons, List.length_cons, mkss_length r]

theorem mkss_at : ∀ (zss : List (List Int)) (k : Int) (i : Nat) (z : List Int), zss[i]? = some z → (mkss k zss)[i]? = some (marks (k + (bsum (zss.take i) : Nat)) z.length)
  | [], k, i, z, h => by simp at h
  | a :: r, k, 0, z, h => by
    simp at h
    subst h
    simp [mkss, bsum]
  | a :: r, k, i + 1, z, h => by
    rw [List.getElem?_cons_succ] at h
    rw [mkss, List.getElem?_cons_succ, mkss_at r _ i z h]
    have e : bsum ((a :: r).take (i + 1)) = a.length + bsum (r.take i) := by simp [bsum]
    rw [e]
    congr 2
    omega

/-- The marks of a header. -/
def mkH (k : Int) (h : Hd) : Hd :=
  { h with
    p := marks k h.p.length
    t := marks (k + (h.p.length : Nat)) h.t.length
    s := mkss (k + (h.p.length : Nat) + (h.t.length : Nat)) h.s
    r := marks (k + (h.p.length : Nat) + (h.t.length : Nat) + (bsum h.s : Nat)) h.r.length
    g := marks (k + (h.p.length : Nat) + (h.t.length : Nat) + (bsum h.s : Nat) + (h.r.length : Nat)) h.g.length
    e := marks (k + (h.p.length : Nat) + (h.t.length : Nat) + (bsum h.s : Nat) + (h.r.length : Nat) + (h.g.length : Nat)) h.e.length
    k := mkss (k + (h.p.length : Nat) + (h.t.length : Nat) + (bsum h.s : Nat) + (h.r.length : Nat) + (h.g.length : Nat) + (h.e.length : Nat)) h.k }

end Go.Proofs.YtfhhnnlafdgloaaGreat

/- What is proved here: plain facts on data in memory, told by kinds: a kind says which cells a thing of it has, when its slices read as it, and when they lie in memory of their own, each block with a path of its own; they hold for every program. -/
namespace Go.Proofs.YtfhhnnlafdgloaaGreat
open Go.RowKit
set_option linter.unusedVariables false
set_option maxRecDepth 100000

abbrev Path := List Nat

/-- The cells us from a place on. -/
def setL : List Value → Nat → List Value → List Value
  | vs, _, [] => vs
  | vs, j, u :: r => setL (vs.set j u) (j + 1) r

theorem setL_length : ∀ (us vs : List Value) (j : Nat), (setL vs j us).length = vs.length
  | [], vs, j => rfl
  | u :: r, vs, j => by rw [setL, setL_length r]; simp

theorem setL_other : ∀ (us vs : List Value) (j i : Nat), (i < j ∨ j + us.length ≤ i) → (setL vs j us)[i]? = vs[i]?
  | [], vs, j, i, _ => rfl
  | u :: r, vs, j, i, h => by
    rw [setL, setL_other r _ _ i (by simp at h ⊢; omega), List.getElem?_set_ne (by simp at h; omega)]

theorem setL_at : ∀ (us vs : List Value) (j i : Nat) (v : Value), us[i]? = some v → j + i < vs.length → (setL vs j us)[j + i]? = some v
  | [], vs, j, i, v, h, _ => by simp at h
  | u :: r, vs, j, 0, v, h, hl => by
    simp at h
    subst h
    rw [setL, setL_other r _ _ _ (by omega), Nat.add_zero, List.getElem?_set_self (by simpa using hl)]
  | u :: r, vs, j, i + 1, v, h, hl => by
    rw [List.getElem?_cons_succ] at h
    rw [setL, show j + (i + 1) = (j + 1) + i by omega]
    exact setL_at r _ _ i v h (by simp; omega)

def putRow : World → Nat → Nat → List Value → World
  | w, _, _, [] => w
  | w, g, o, u :: r => putRow (w.setCell ⟨g, o, none⟩ u) g (o + 1) r

theorem putRow_size : ∀ (us : List Value) (w : World) (g o : Nat), (putRow w g o us).heap.size = w.heap.size
  | [], w, g, o => rfl
  | u :: r, w, g, o => by rw [putRow, putRow_size r]; simp [World.setCell]

theorem putRow_other : ∀ (us : List Value) (w : World) (g o k : Nat), k ≠ g → (putRow w g o us).heap[k]? = w.heap[k]?
  | [], w, g, o, k, _ => rfl
  | u :: r, w, g, o, k, h => by rw [putRow, putRow_other r _ _ _ k h, heap_setCell_other w ⟨g, o, none⟩ k u (fun e => h e)]

theorem putRow_below : ∀ (us : List Value) (w0 w : World) (B g o : Nat), Below B w0 w → B ≤ g → Below B w0 (putRow w g o us)
  | [], w0, w, B, g, o, h, _ => h
  | u :: r, w0, w, B, g, o, h, hg => by rw [putRow]; exact putRow_below r w0 _ B g _ (h.setCell hg _) hg

/-- The slice s holds the cells vs in a block of its own, at or beyond B. -/
structure OwnS (w : World) (B : Nat) (T : TypeId) (m : Nat) (s : Sl) (vs : List Value) : Prop where
  len : vs.length = s.n * m
  max : s.c ≤ maxLen
  room : s.n ≤ s.c
  nil : s.a = none → s.c = 0
  at' : ∀ x, s.a = some x → ∃ g off cur, x = ⟨g, off, none⟩ ∧ B ≤ g ∧ w.heap[g]? = some (.cells cur T (0, 0)) ∧ off + s.n * m ≤ cur.size ∧ (cur.toList.drop off).take (s.n * m) = vs

theorem OwnS.of {w : World} {B : Nat} {T : TypeId} {m n c : Nat} {a : Option Addr} {xs : List Value} (h : w.ownsRow B T m (.slice a n c) n xs) : OwnS w B T m ⟨a, n, c⟩ xs := by
  rcases h.2 with ⟨h1, h2⟩ | ⟨g, cap, cur, h1, h2, h3, h4, h5, h6, h7⟩
  · simp only [Value.slice.injEq] at h1
    obtain ⟨rfl, rfl, rfl⟩ := h1
    exact ⟨h.1, Nat.zero_le _, Nat.le_refl _, fun _ => rfl, fun x hx => by cases hx⟩
  · simp only [Value.slice.injEq] at h1
    obtain ⟨rfl, _, rfl⟩ := h1
    refine ⟨h.1, h5, h4, (fun e => by cases e), fun x hx => ?_⟩
    cases hx
    refine ⟨g, 0, cur, rfl, h2, h3, ?_, by simpa using h7⟩
    rw [Nat.zero_add, h6]
    exact Nat.mul_le_mul_right m h4

theorem OwnS.blk {w : World} {B : Nat} {T : TypeId} {m : Nat} {s : Sl} {vs : List Value} (h : OwnS w B T m s vs) {x : Addr} (hx : s.a = some x) : B ≤ x.block ∧ x.block < w.heap.size := by
  obtain ⟨g, off, cur, rfl, hb, hg, _⟩ := h.at' x hx
  exact ⟨hb, lt_of_block hg⟩

theorem OwnS.pos {w : World} {B : Nat} {T : TypeId} {m : Nat} {s : Sl} {vs : List Value} (h : OwnS w B T m s vs) (hp : 0 < s.n) : ∃ g off, s.a = some ⟨g, off, none⟩ ∧ B ≤ g ∧ g < w.heap.size := by
  cases ha : s.a with
  | none => have := h.nil ha; have := h.room; omega
  | some x =>
    obtain ⟨g, off, cur, rfl, hb, hg, _⟩ := h.at' x ha
    exact ⟨g, off, rfl, hb, lt_of_block hg⟩

theorem OwnS.cell {w : World} {B : Nat} {T : TypeId} {m : Nat} {s : Sl} {vs : List Value} (h : OwnS w B T m s vs) {g off : Nat} (ha : s.a = some ⟨g, off, none⟩) {j : Nat} (hj : j < s.n * m) : w.cell? ⟨g, off + j, none⟩ = vs[j]? := by
  obtain ⟨g', off', cur, e, hb, hg, hl, ht⟩ := h.at' _ ha
  simp only [Addr.mk.injEq, and_true] at e
  obtain ⟨rfl, rfl⟩ := e
  rw [cell_of_row w g (off + j) cur T (0, 0) hg, ← ht, List.getElem?_take, if_pos hj, List.getElem?_drop]
  simp

theorem OwnS.free {w : World} {B : Nat} {T : TypeId} {m : Nat} {s : Sl} {vs : List Value} (h : OwnS w B T m s vs) {g off : Nat} (ha : s.a = some ⟨g, off, none⟩) (j : Nat) : w.frozen? ⟨g, j, none⟩ = false := by
  obtain ⟨g', off', cur, e, hb, hg, hl, ht⟩ := h.at' _ ha
  simp only [Addr.mk.injEq, and_true] at e
  obtain ⟨rfl, rfl⟩ := e
  exact frozen_of_row w g j cur T hg

theorem OwnS.set {w : World} {B : Nat} {T : TypeId} {m : Nat} {s : Sl} {vs : List Value} (h : OwnS w B T m s vs) {g off : Nat} (ha : s.a = some ⟨g, off, none⟩) (j : Nat) (u : Value) : OwnS (w.setCell ⟨g, off + j, none⟩ u) B T m s (vs.set j u) := by
  refine ⟨by rw [List.length_set]; exact h.len, h.max, h.room, h.nil, fun x hx => ?_⟩
  obtain ⟨g', off', cur, e, hb, hg, hl, ht⟩ := h.at' _ ha
  simp only [Addr.mk.injEq, and_true] at e
  obtain ⟨rfl, rfl⟩ := e
  obtain rfl : (⟨g, off, none⟩ : Addr) = x := Option.some.inj (ha.symm.trans hx)
  refine ⟨g, off, cur.setIfInBounds (off + j) u, rfl, hb, heap_setCell_same w g (off + j) cur T u hg, by simpa using hl, ?_⟩
  rw [Array.toList_setIfInBounds, ← ht, List.drop_set, if_neg (by omega), show off + j - off = j by omega, List.take_set]

theorem OwnS.putRow : ∀ (us : List Value) {w : World} {B : Nat} {T : TypeId} {m : Nat} {s : Sl} {vs : List Value} (_ : OwnS w B T m s vs) {g off : Nat} (_ : s.a = some ⟨g, off, none⟩) (j : Nat), OwnS (putRow w g (off + j) us) B T m s (setL vs j us)
  | [], w, B, T, m, s, vs, h, g, off, ha, j => h
  | u :: r, w, B, T, m, s, vs, h, g, off, ha, j => by
    rw [Go.Proofs.YtfhhnnlafdgloaaGreat.putRow, setL, Nat.add_assoc]
    exact OwnS.putRow r (h.set ha j u) ha (j + 1)

theorem OwnS.keep {w w' : World} {B : Nat} {T : TypeId} {m : Nat} {s : Sl} {vs : List Value} (h : OwnS w B T m s vs) (hk : ∀ x, s.a = some x → w'.heap[x.block]? = w.heap[x.block]?) : OwnS w' B T m s vs := by
  refine ⟨h.len, h.max, h.room, h.nil, fun x hx => ?_⟩
  obtain ⟨g, off, cur, rfl, hb, hg, hl, ht⟩ := h.at' x hx
  exact ⟨g, off, cur, rfl, hb, (hk _ hx).trans hg, hl, ht⟩

theorem OwnS.base {w : World} {B B' : Nat} {T : TypeId} {m : Nat} {s : Sl} {vs : List Value} (h : OwnS w B T m s vs) (hB : B' ≤ B) : OwnS w B' T m s vs := by
  refine ⟨h.len, h.max, h.room, h.nil, fun x hx => ?_⟩
  obtain ⟨g, off, cur, e, hb, r⟩ := h.at' x hx
  exact ⟨g, off, cur, e, Nat.le_trans hB hb, r⟩

/-- A kind of thing: its cells, when its slices lie in memory of their own (path by path), and when they read as it. -/
structure Kd (α β : Type) where
  m : Nat
  vals : β → α → List Value
  len : ∀ e x, (vals e x).length = m
  Own : World → Nat → (Nat → Path) → Path → β → α → Prop
  Ok : World → β → α → Prop
  frame : ∀ {w w' : World} {B : Nat} {d : Nat → Path} {p : Path} {e : β} {x : α}, Own w B d p e x → (∀ g, g < w.heap.size → B ≤ g → p <+: d g → w'.heap[g]? = w.heap[g]?) → Own w' B d p e x
  recol : ∀ {w : World} {B : Nat} {d d' : Nat → Path} {p : Path} {e : β} {x : α}, Own w B d p e x → (∀ g, g < w.heap.size → B ≤ g → p <+: d g → d' g = d g) → Own w B d' p e x
  base : ∀ {w : World} {B B' : Nat} {d : Nat → Path} {p : Path} {e : β} {x : α}, Own w B d p e x → B' ≤ B → Own w B' d p e x
  ok : ∀ {w : World} {B : Nat} {d : Nat → Path} {p : Path} {e : β} {x : α}, Own w B d p e x → Ok w e x
  below : ∀ {w w' : World} {B : Nat} {e : β} {x : α}, Ok w e x → Below B w w' → w.heap.size ≤ B → Ok w' e x

theorem Kd.ownBelow {α β : Type} (K : Kd α β) {w w' : World} {B C : Nat} {d : Nat → Path} {p : Path} {e : β} {x : α} (h : K.Own w B d p e x) (hb : Below C w w') (hC : w.heap.size ≤ C) : K.Own w' B d p e x :=
  K.frame h (fun g hg _ _ => hb.block g (Nat.lt_of_lt_of_le hg hC))

theorem Kd.recolNew {α β : Type} (K : Kd α β) {w : World} {B : Nat} {d d' : Nat → Path} {p : Path} {e : β} {x : α} (h : K.Own w B d p e x) (hd : ∀ g, g < w.heap.size → d' g = d g) : K.Own w B d' p e x := K.recol h (fun g hg _ _ => hd g hg)

/-- A number. -/
def intK : Kd Int Unit where
  m := 1
  vals _ n := [.int .i64 n]
  len _ _ := rfl
  Own _ _ _ _ _ n := in64 n
  Ok _ _ n := in64 n
  frame h _ := h
  recol h _ := h
  base h _ := h
  ok h := h
  below h _ _ := h

def boolK : Kd Bool Unit where
  m := 1
  vals _ b := [.bool b]
  len _ _ := rfl
  Own _ _ _ _ _ _ := True
  Ok _ _ _ := True
  frame h _ := h
  recol h _ := h
  base h _ := h
  ok h := h
  below h _ _ := h

/-- Bytes that read. -/
structure BOk (w : World) (s : Sl) (z : List Int) : Prop where
  row : BRow w s.a s.n z
  room : s.n ≤ s.c
  max : s.c ≤ maxLen
  nil : s.a = none → s.c = 0

structure BOwn (w : World) (B : Nat) (d : Nat → Path) (p : Path) (s : Sl) (z : List Int) : Prop where
  rng : ∀ x ∈ z, 0 ≤ x ∧ x ≤ 255
  own : w.ownsRow B 5 1 (.slice s.a s.n s.c) s.n (z.map (Value.int .u8))
  col : ∀ x, s.a = some x → d x.block = p

theorem own_frame {w w' : World} {B : Nat} {e : TypeId} {m n c : Nat} {a : Option Addr} {xs : List Value} (h : w.ownsRow B e m (.slice a n c) n xs) (hk : ∀ x, a = some x → w'.heap[x.block]? = w.heap[x.block]?) : w'.ownsRow B e m (.slice a n c) n xs := by
  refine ⟨h.1, ?_⟩
  rcases h.2 with h' | ⟨g, cap, cur, h1, h2, h3, h4⟩
  · exact .inl h'
  · have ha : a = some ⟨g, 0, none⟩ := by simp only [Value.slice.injEq] at h1; exact h1.1
    exact .inr ⟨g, cap, cur, h1, h2, (hk _ ha).trans h3, h4⟩

theorem BOwn.blk {w : World} {B : Nat} {d : Nat → Path} {p : Path} {s : Sl} {z : List Int} (h : BOwn w B d p s z) {x : Addr} (hx : s.a = some x) : B ≤ x.block ∧ x.block < w.heap.size := (OwnS.of h.own).blk hx

theorem BOwn.ok {w : World} {B : Nat} {d : Nat → Path} {p : Path} {s : Sl} {z : List Int} (h : BOwn w B d p s z) : BOk w s z :=
  ⟨BRow.own2 h.own h.rng, (OwnS.of h.own).room, (OwnS.of h.own).max, (OwnS.of h.own).nil⟩

def bytesK : Kd (List Int) Sl where
  m := 1
  vals s _ := [.slice s.a s.n s.c]
  len _ _ := rfl
  Own := BOwn
  Ok := BOk
  frame h hk := ⟨h.rng, own_frame h.own (fun x hx => hk _ (h.blk hx).2 (h.blk hx).1 (by rw [h.col x hx]; exact List.prefix_rfl)), h.col⟩
  recol h hk := ⟨h.rng, h.own, fun x hx => by rw [hk _ (h.blk hx).2 (h.blk hx).1 (by rw [h.col x hx]; exact List.prefix_rfl)]; exact h.col x hx⟩
  base h hB := ⟨h.rng, ownsRow_base h.own hB, h.col⟩
  ok h := h.ok
  below h hb hB := ⟨h.row.below hb hB, h.room, h.max, h.nil⟩

/-- One thing and another one behind it. -/
def pairK {α β α' β' : Type} (K : Kd α β) (L : Kd α' β') : Kd (α × α') (β × β') where
  m := K.m + L.m
  vals e x := K.vals e.1 x.1 ++ L.vals e.2 x.2
  len e x := by rw [List.length_append, K.len, L.len]
  Own w B d p e x := K.Own w B d (p ++ [0]) e.1 x.1 ∧ L.Own w B d (p ++ [1]) e.2 x.2
  Ok w e x := K.Ok w e.1 x.1 ∧ L.Ok w e.2 x.2
  frame h hk := ⟨K.frame h.1 (fun g h1 h2 h3 => hk g h1 h2 ((List.prefix_append _ _).trans h3)), L.frame h.2 (fun g h1 h2 h3 => hk g h1 h2 ((List.prefix_append _ _).trans h3))⟩
  recol h hk := ⟨K.recol h.1 (fun g h1 h2 h3 => hk g h1 h2 ((List.prefix_append _ _).trans h3)), L.recol h.2 (fun g h1 h2 h3 => hk g h1 h2 ((List.prefix_append _ _).trans h3))⟩
  base h hB := ⟨K.base h.1 hB, L.base h.2 hB⟩
  ok h := ⟨K.ok h.1, L.ok h.2⟩
  below h hb hB := ⟨K.below h.1 hb hB, L.below h.2 hb hB⟩

/-- Rows of a kind. -/
structure RowOk {α β : Type} (K : Kd α β) (w : World) (s : Sl) (xs : List α) : Prop where
  len : s.n = xs.length
  room : s.n ≤ s.c
  max : s.c ≤ maxLen
  nil : s.a = none → s.c = 0
  pos : 0 < s.n → ∃ b off, s.a = some ⟨b, off, none⟩ ∧ b < w.heap.size ∧ ∀ i x, xs[i]? = some x → ∃ e, (∀ j v, (K.vals e x)[j]? = some v → w.cell? ⟨b, off + i * K.m + j, none⟩ = some v) ∧ K.Ok w e x

/-- The first k of them lie there. -/
structure RowPart {α β : Type} (K : Kd α β) (T : TypeId) (w : World) (B : Nat) (d : Nat → Path) (p : Path) (s : Sl) (xs : List α) (k : Nat) : Prop where
  len : s.n = xs.length
  all : ∃ (es : List β) (vs : List Value), es.length = k ∧ OwnS w B T K.m s vs ∧ (∀ x, s.a = some x → d x.block = p) ∧
    ∀ i e x, es[i]? = some e → xs[i]? = some x → (∀ j v, (K.vals e x)[j]? = some v → vs[i * K.m + j]? = some v) ∧ K.Own w B d (p ++ [i]) e x

def RowOwn {α β : Type} (K : Kd α β) (T : TypeId) (w : World) (B : Nat) (d : Nat → Path) (p : Path) (s : Sl) (xs : List α) : Prop := RowPart K T w B d p s xs xs.length

theorem not_pre_self (p : Path) (i : Nat) : ¬ (p ++ [i]) <+: p := fun h => by have := h.length_le; simp at this; omega

theorem pre_snoc (p q : Path) (i j : Nat) (h : i ≠ j) : (p ++ [i]) <+: q → ¬ (p ++ [j]) <+: q := by
  intro h1 h2
  have e : p ++ [i] = p ++ [j] := by
    have a := List.prefix_of_prefix_length_le h1 h2 (by simp)
    exact a.eq_of_length (by simp)
  simp at e
  exact h e

theorem row_index {m i j n : Nat} (hi : i < n) (hj : j < m) : i * m + j < n * m := by
  have : i * m + m ≤ n * m := by
    rw [← Nat.succ_mul]
    exact Nat.mul_le_mul_right m hi
  omega

theorem RowPart.frame {α β : Type} {K : Kd α β} {T : TypeId} {w w' : World} {B : Nat} {d : Nat → Path} {p : Path} {s : Sl} {xs : List α} {k : Nat} (h : RowPart K T w B d p s xs k) (hk : ∀ g, g < w.heap.size → B ≤ g → p <+: d g → w'.heap[g]? = w.heap[g]?) : RowPart K T w' B d p s xs k := by
  obtain ⟨h1, es, vs, h2, h3, h4, h5⟩ := h
  refine ⟨h1, es, vs, h2, h3.keep (fun x hx => hk _ (h3.blk hx).2 (h3.blk hx).1 (by rw [h4 x hx]; exact List.prefix_rfl)), h4, fun i e x he hx => ?_⟩
  obtain ⟨q1, q2⟩ := h5 i e x he hx
  exact ⟨q1, K.frame q2 (fun g a b c => hk g a b ((List.prefix_append _ _).trans c))⟩

theorem RowPart.recol {α β : Type} {K : Kd α β} {T : TypeId} {w : World} {B : Nat} {d d' : Nat → Path} {p : Path} {s : Sl} {xs : List α} {k : Nat} (h : RowPart K T w B d p s xs k) (hk : ∀ g, g < w.heap.size → B ≤ g → p <+: d g → d' g = d g) : RowPart K T w B d' p s xs k := by
  obtain ⟨h1, es, vs, h2, h3, h4, h5⟩ := h
  refine ⟨h1, es, vs, h2, h3, fun x hx => by rw [hk _ (h3.blk hx).2 (h3.blk hx).1 (by rw [h4 x hx]; exact List.prefix_rfl)]; exact h4 x hx, fun i e x he hx => ?_⟩
  obtain ⟨q1, q2⟩ := h5 i e x he hx
  exact ⟨q1, K.recol q2 (fun g a b c => hk g a b ((List.prefix_append _ _).trans c))⟩

theorem RowPart.base {α β : Type} {K : Kd α β} {T : TypeId} {w : World} {B B' : Nat} {d : Nat → Path} {p : Path} {s : Sl} {xs : List α} {k : Nat} (h : RowPart K T w B d p s xs k) (hB : B' ≤ B) : RowPart K T w B' d p s xs k := by
  obtain ⟨h1, es, vs, h2, h3, h4, h5⟩ := h
  refine ⟨h1, es, vs, h2, h3.base hB, h4, fun i e x he hx => ?_⟩
  obtain ⟨q1, q2⟩ := h5 i e x he hx
  exact ⟨q1, K.base q2 hB⟩

theorem RowOwn.ok {α β : Type} {K : Kd α β} {T : TypeId} {w : World} {B : Nat} {d : Nat → Path} {p : Path} {s : Sl} {xs : List α} (h : RowOwn K T w B d p s xs) : RowOk K w s xs := by
  obtain ⟨h1, es, vs, h2, h3, h4, h5⟩ := h
  refine ⟨h1, h3.room, h3.max, h3.nil, fun hp => ?_⟩
  obtain ⟨g, off, ha, hb, hl⟩ := h3.pos hp
  refine ⟨g, off, ha, hl, fun i x hx => ?_⟩
  have hi := (List.getElem?_eq_some_iff.1 hx).1
  obtain ⟨e, he⟩ : ∃ e, es[i]? = some e := ⟨_, List.getElem?_eq_getElem (by omega)⟩
  obtain ⟨q1, q2⟩ := h5 i e x he hx
  refine ⟨e, fun j v hv => ?_, K.ok q2⟩
  have hj : j < K.m := by have := (List.getElem?_eq_some_iff.1 hv).1; rw [K.len] at this; exact this
  rw [Nat.add_assoc, h3.cell ha (row_index (by omega) hj)]
  exact q1 j v hv

theorem RowOk.below {α β : Type} {K : Kd α β} {w w' : World} {B : Nat} {s : Sl} {xs : List α} (h : RowOk K w s xs) (hb : Below B w w') (hB : w.heap.size ≤ B) : RowOk K w' s xs := by
  refine ⟨h.len, h.room, h.max, h.nil, fun hp => ?_⟩
  obtain ⟨b, off, ha, hl, hx⟩ := h.pos hp
  refine ⟨b, off, ha, Nat.lt_of_lt_of_le hl hb.size, fun i x hi => ?_⟩
  obtain ⟨e, q1, q2⟩ := hx i x hi
  exact ⟨e, fun j v hv => (hb.cell (Nat.lt_of_lt_of_le hl hB)).trans (q1 j v hv), K.below q2 hb hB⟩

/-- A slice of a kind is a kind. -/
def rowK {α β : Type} (K : Kd α β) (T : TypeId) : Kd (List α) Sl where
  m := 1
  vals s _ := [.slice s.a s.n s.c]
  len _ _ := rfl
  Own := RowOwn K T
  Ok := RowOk K
  frame h hk := RowPart.frame h hk
  recol h hk := RowPart.recol h hk
  base h hB := RowPart.base h hB
  ok h := h.ok
  below h hb hB := h.below hb hB

theorem RowOwn.nil {α β : Type} (K : Kd α β) (T : TypeId) (w : World) (B : Nat) (d : Nat → Path) (p : Path) : RowOwn K T w B d p ⟨none, 0, 0⟩ [] :=
  ⟨rfl, [], [], rfl, ⟨by simp, Nat.zero_le _, Nat.le_refl _, fun _ => rfl, fun x hx => by cases hx⟩, (fun x hx => by cases hx), fun i e x he => by simp at he⟩

theorem RowPart.zero {α β : Type} {K : Kd α β} {T : TypeId} {w : World} {B : Nat} {d : Nat → Path} {p : Path} {s : Sl} {xs : List α} {vs : List Value} (h : OwnS w B T K.m s vs) (hn : s.n = xs.length) (hc : ∀ x, s.a = some x → d x.block = p) : RowPart K T w B d p s xs 0 :=
  ⟨hn, [], vs, rfl, h, hc, fun i e x he => by simp at he⟩

/-- What is there at the place of the next one. -/
theorem RowPart.slot {α β : Type} {K : Kd α β} {T : TypeId} {w : World} {B : Nat} {d : Nat → Path} {p : Path} {s : Sl} {xs : List α} {k : Nat} (h : RowPart K T w B d p s xs k) {g off : Nat} (ha : s.a = some ⟨g, off, none⟩) {i : Nat} (hk : i < xs.length) :
    (∀ j, j < K.m → ∃ u, w.cell? ⟨g, off + i * K.m + j, none⟩ = some u) ∧ ∀ j, w.frozen? ⟨g, j, none⟩ = false := by
  obtain ⟨h1, es, vs, h2, h3, h4, h5⟩ := h
  refine ⟨fun j hj => ?_, fun j => h3.free ha j⟩
  have hx := row_index (n := s.n) (m := K.m) (i := i) (j := j) (by omega) hj
  rw [Nat.add_assoc, h3.cell ha hx]
  exact ⟨_, List.getElem?_eq_getElem (by rw [h3.len]; exact hx)⟩

/-- One more. -/
theorem RowPart.step {α β : Type} {K : Kd α β} {T : TypeId} {w w2 : World} {B : Nat} {d d2 : Nat → Path} {p : Path} {s : Sl} {xs : List α} {k : Nat} {e : β} {x : α} (h : RowPart K T w B d p s xs k) (hx : xs[k]? = some x)
    (hw : ∀ g, g < w.heap.size → w2.heap[g]? = w.heap[g]?) (hd : ∀ g, g < w.heap.size → d2 g = d g) (o : K.Own w2 B d2 (p ++ [k]) e x) {g off : Nat} (ha : s.a = some ⟨g, off, none⟩) :
    RowPart K T (putRow w2 g (off + k * K.m) (K.vals e x)) B d2 p s xs (k + 1) := by
  obtain ⟨h1, es, vs, h2, h3, h4, h5⟩ := h
  have hk := (List.getElem?_eq_some_iff.1 hx).1
  have hgs := (h3.blk ha).2
  have hdg : d2 g = p := by rw [hd g hgs]; exact h4 _ ha
  have h3' := h3.keep (w' := w2) (fun y hy => by rw [ha] at hy; obtain rfl := Option.some.inj hy; exact hw _ hgs)
  have keep : ∀ {i e' x'}, K.Own w2 B d2 (p ++ [i]) e' x' → K.Own (putRow w2 g (off + k * K.m) (K.vals e x)) B d2 (p ++ [i]) e' x' := fun {i e' x'} q => K.frame q (fun g' a b c => putRow_other _ _ _ _ _ (fun ee => by subst ee; rw [hdg] at c; exact not_pre_self p i c))
  refine ⟨h1, es ++ [e], setL vs (k * K.m) (K.vals e x), by simp [h2], h3'.putRow _ ha _, fun y hy => by rw [ha] at hy; obtain rfl := Option.some.inj hy; exact hdg, fun i e' x' he hx' => ?_⟩
  by_cases hik : i < k
  · rw [List.getElem?_append_left (by omega)] at he
    obtain ⟨q1, q2⟩ := h5 i e' x' he hx'
    refine ⟨fun j v hv => ?_, keep (K.frame (K.recolNew q2 hd) (fun g' a b c => hw g' a))⟩
    have hj : j < K.m := by have := (List.getElem?_eq_some_iff.1 hv).1; rw [K.len] at this; exact this
    rw [setL_other _ _ _ _ (.inl (row_index hik hj))]
    exact q1 j v hv
  · have hi : i < (es ++ [e]).length := (List.getElem?_eq_some_iff.1 he).1
    simp [h2] at hi
    obtain rfl : i = k := by omega
    rw [List.getElem?_append_right (by omega), h2, Nat.sub_self] at he
    simp at he
    subst he
    obtain rfl : x = x' := Option.some.inj (hx.symm.trans hx')
    refine ⟨fun j v hv => ?_, keep o⟩
    have hj : j < K.m := by have := (List.getElem?_eq_some_iff.1 hv).1; rw [K.len] at this; exact this
    exact setL_at _ _ _ _ _ hv (by rw [h3.len]; exact row_index (by omega) hj)

/-- Two colourings, one below n and one from there on. -/
def joinD (n : Nat) (d1 d2 : Nat → Path) : Nat → Path := fun g => if g < n then d1 g else d2 g

theorem joinD_lt {n g : Nat} {d1 d2 : Nat → Path} (h : g < n) : joinD n d1 d2 g = d1 g := if_pos h
theorem joinD_ge {n g : Nat} {d1 d2 : Nat → Path} (h : n ≤ g) : joinD n d1 d2 g = d2 g := if_neg (by omega)

theorem Kd.left {α β : Type} (K : Kd α β) {w : World} {B : Nat} {d1 d2 : Nat → Path} {p : Path} {e : β} {x : α} (h : K.Own w B d1 p e x) {n : Nat} (hn : w.heap.size ≤ n) : K.Own w B (joinD n d1 d2) p e x :=
  K.recol h (fun g hg _ _ => joinD_lt (by omega))

theorem Kd.right {α β : Type} (K : Kd α β) {w : World} {B : Nat} {d1 d2 : Nat → Path} {p : Path} {e : β} {x : α} (h : K.Own w B d2 p e x) {n : Nat} (hn : n ≤ B) : K.Own w B (joinD n d1 d2) p e x :=
  K.recol h (fun g hg hb _ => joinD_ge (by omega))

/-- Nothing is written below B, nor in blocks that are not under the path p. -/
def OnlyP (B : Nat) (d : Nat → Path) (p : Path) (w w' : World) : Prop := Below B w w' ∧ ∀ g, g < w.heap.size → ¬ p <+: d g → w'.heap[g]? = w.heap[g]?

theorem OnlyP.refl (B : Nat) (d : Nat → Path) (p : Path) (w : World) : OnlyP B d p w w := ⟨Below.refl _ _, fun _ _ _ => rfl⟩

theorem OnlyP.trans {B : Nat} {d : Nat → Path} {p : Path} {a b c : World} (h : OnlyP B d p a b) (k : OnlyP B d p b c) : OnlyP B d p a c :=
  ⟨h.1.trans k.1, fun g hg hs => (k.2 g (Nat.lt_of_lt_of_le hg h.1.size) hs).trans (h.2 g hg hs)⟩

theorem OnlyP.up {B : Nat} {d : Nat → Path} {p q : Path} {a b : World} (h : OnlyP B d (p ++ q) a b) : OnlyP B d p a b := ⟨h.1, fun g hg hp => h.2 g hg (fun k => hp ((List.prefix_append _ _).trans k))⟩

theorem OnlyP.below {B C : Nat} {d : Nat → Path} {p : Path} {a b : World} (h : Below C a b) (hC : a.heap.size ≤ C) (hB : B ≤ C) : OnlyP B d p a b := ⟨h.mono hB, fun g hg _ => h.block g (Nat.lt_of_lt_of_le hg hC)⟩

theorem OnlyP.sblk {B : Nat} {d : Nat → Path} {p : Path} {w w' : World} (h : OnlyP B d p w w') {g : Nat} {vs : List Value} {T : TypeId} (hs : SBlk w g vs T) (hg : ¬ p <+: d g) : SBlk w' g vs T := (h.2 g hs.lt hg).trans hs

/-- What lies under another path stays. -/
theorem Kd.apart {α β : Type} (K : Kd α β) {w w' : World} {B B' : Nat} {d : Nat → Path} {p q : Path} {e : β} {x : α} (h : K.Own w B d p e x) (o : OnlyP B' d q w w') (hpq : ∀ c, p <+: c → ¬ q <+: c) : K.Own w' B d p e x :=
  K.frame h (fun g hg _ hp => o.2 g hg (hpq _ hp))

end Go.Proofs.YtfhhnnlafdgloaaGreat

/- What is proved here: how an argument of a kind reads, by its walk; it holds for every program. -/
namespace Go.Proofs.YtfhhnnlafdgloaaGreat
open Go.RowKit
set_option linter.unusedVariables false
set_option maxRecDepth 100000

section
variable {H : Type} {enc : TypeId × Value → H} {P : Program} {w : World} {sp : Nat → Bool} {held : Bool}

/-- Cells of the type t read as a thing of the kind. -/
def Opens {α β : Type} (enc : TypeId × Value → H) (P : Program) (w : World) (sp : Nat → Bool) (held : Bool) (K : Kd α β) (t : TypeId) : Prop :=
  ∀ (fuel : Nat) (cs : List Value) (y : DataW H × List MemPlace), cs.length = K.m → DataW.trod enc P w 0 sp held fuel t cs = some y → ∃ e x, cs = K.vals e x ∧ K.Ok w e x

theorem one_cell {cs : List Value} (h : cs.length = 1) : ∃ v, cs = [v] := by
  match cs, h with
  | [v], _ => exact ⟨v, rfl⟩

theorem opens_int {t : TypeId} (ut : P.underlying t = some (.int .i64)) : Opens enc P w sp held intK t := by
  intro fuel cs y hl h
  obtain ⟨v, rfl⟩ := one_cell hl
  obtain ⟨n, rfl, hn⟩ := field_int ut h
  exact ⟨(), n, rfl, hn⟩

theorem opens_bool {t : TypeId} (ut : P.underlying t = some .bool) : Opens enc P w sp held boolK t := by
  intro fuel cs y hl h
  obtain ⟨v, rfl⟩ := one_cell hl
  obtain ⟨b, e, _⟩ := DataW.trod_bool ut h
  simp only [List.cons.injEq, and_true] at e
  subst e
  exact ⟨(), b, rfl, trivial⟩

theorem opens_bytes {t tu : TypeId} (us : P.underlying t = some (.slice tu)) (uu : P.underlying tu = some (.int .u8)) (cu : P.cellsOf tu = 1) : Opens enc P w sp held bytesK t := by
  intro fuel cs y hl h
  obtain ⟨v, rfl⟩ := one_cell hl
  rcases ChangeShapes.open_ints us uu cu h with ⟨e2, _⟩ | ⟨sa, sl, sc, zs, e2, _, hsl, hsm, hzl, _, hzc, hzw⟩
  · simp only [List.cons.injEq, and_true] at e2
    subst e2
    exact ⟨⟨none, 0, 0⟩, [], rfl, ⟨rfl, fun n hn => by simp at hn, fun _ => rfl, fun y hy => by cases hy⟩, Nat.le_refl _, Nat.zero_le _, fun _ => rfl⟩
  · simp only [List.cons.injEq, and_true] at e2
    subst e2
    have hzl' : sl ≤ zs.length := by rw [hzl]; split <;> omega
    refine ⟨⟨some sa, sl, sc⟩, zs.take sl, rfl, ⟨by simp; omega, fun n hn => ?_, (fun e => (by cases e)), fun y hy j hj => ?_⟩, hsl, hsm, fun e => by cases e⟩
    · exact bounds_u8 (hzw n (List.mem_of_mem_take hn))
    · cases hy
      have hj' : j < sl := hj
      rw [hzc j (by omega), getD_at _ j (by omega), getD_at _ j (by simp; omega), List.getElem_take]

/-- A slice of a kind. -/
theorem opens_row {α β : Type} {K : Kd α β} {t e T : TypeId} (ht : P.underlying t = some (.slice e)) (hc : P.cellsOf e = K.m) (hm : 0 < K.m) (each : Opens enc P w sp held K e) : Opens enc P w sp held (rowK K T) t := by
  intro fuel cs y hl h
  obtain ⟨v, rfl⟩ := one_cell hl
  obtain ⟨d, ps⟩ := y
  rcases DataW.trod_slice ht h with ⟨hn, _⟩ | ⟨x, len, cap, elems, rest, n, _, hcs, _, _, hlc, hm', hlen, hel, _⟩
  · simp only [List.cons.injEq, and_true] at hn
    subst hn
    exact ⟨⟨none, 0, 0⟩, [], rfl, rfl, Nat.le_refl _, Nat.zero_le _, fun _ => rfl, fun hp => absurd hp (Nat.lt_irrefl _)⟩
  · simp only [List.cons.injEq, and_true] at hcs
    subst hcs
    have each' : ∀ i, i < len → ∃ (el : β) (a : α), x.spot = none ∧ x.block < w.heap.size ∧ (∀ j v, (K.vals el a)[j]? = some v → w.cell? ⟨x.block, x.off + i * K.m + j, none⟩ = some v) ∧ K.Ok w el a := by
      intro i hi
      have cellsAt : ∀ i, i < len → ∃ cs : List Value, cs.length = K.m ∧ (∀ (j : Nat) (hj : j < cs.length), w.cell? ((x.add (i * K.m)).add j) = some cs[j]) ∧ DataW.trod enc P w 0 sp held n e cs = elems[i]? := by
        intro i hi
        have hE := hel i hi
        rw [List.getElem?_eq_getElem (by omega), Option.bind_eq_some_iff, hc] at hE
        obtain ⟨cs, hcells, htr⟩ := hE
        obtain ⟨_, hcl, hcell⟩ := World.cells?_some hcells
        refine ⟨cs, hcl, fun j hj => ?_, by rw [htr, List.getElem?_eq_getElem (by omega)]⟩
        have := hcell j (by omega)
        rw [List.getElem?_eq_getElem hj] at this
        exact this
      have hsp : x.spot = none := by
        obtain ⟨cs0, hl0, hc0, _⟩ := cellsAt 0 (by omega)
        have q := hc0 0 (by omega)
        simpa [Addr.add] using World.cell?_spot q
      obtain ⟨cs, hl1, hc1, ht1⟩ := cellsAt i hi
      obtain ⟨xb, xo, xs⟩ := x
      simp only at hsp
      subst hsp
      rw [List.getElem?_eq_getElem (by omega)] at ht1
      obtain ⟨el, a, rfl, ho⟩ := each _ _ _ hl1 ht1
      refine ⟨el, a, rfl, ?_, fun j v hv => ?_, ho⟩
      · have q := hc1 0 (by omega)
        rw [add_none, add_none] at q
        have := lt_of_cell q
        exact this
      · obtain ⟨hj, rfl⟩ := List.getElem?_eq_some_iff.1 hv
        have := hc1 j hj
        rw [add_none, add_none] at this
        exact this
    have build : ∀ k, k ≤ len → ∃ al : List α, al.length = k ∧ ∀ i a, al[i]? = some a → ∃ el, (∀ j v, (K.vals el a)[j]? = some v → w.cell? ⟨x.block, x.off + i * K.m + j, none⟩ = some v) ∧ K.Ok w el a := by
      intro k
      induction k with
      | zero => exact fun _ => ⟨[], rfl, fun i a ha => by simp at ha⟩
      | succ k ih =>
        intro hk
        obtain ⟨al, q1, q2⟩ := ih (by omega)
        obtain ⟨el, a, _, _, r1, r2⟩ := each' k (by omega)
        refine ⟨al ++ [a], by simp [q1], fun i b hb => ?_⟩
        rcases Nat.lt_or_ge i k with h' | h'
        · rw [List.getElem?_append_left (by omega)] at hb
          exact q2 i b hb
        · have hi : i < (al ++ [a]).length := (List.getElem?_eq_some_iff.1 hb).1
          simp at hi
          obtain rfl : i = k := by omega
          rw [List.getElem?_append_right (by omega), q1, Nat.sub_self] at hb
          simp at hb
          subst hb
          exact ⟨el, r1, r2⟩
    obtain ⟨al, q1, q2⟩ := build len (Nat.le_refl _)
    refine ⟨⟨some x, len, cap⟩, al, rfl, q1.symm, hlc, hm', (fun e => by cases e), fun hp => ?_⟩
    obtain ⟨_, _, hsp, hlt, _⟩ := each' 0 hp
    refine ⟨x.block, x.off, ?_, hlt, q2⟩
    obtain ⟨b, o, s⟩ := x
    simp only at hsp
    subst hsp
    rfl

/-- The fields of a struct, one behind the other: the first cells, and the rest. -/
theorem opens_pair {α β α' β' : Type} {K : Kd α β} {L : Kd α' β'} {cs : List Value} (hl : cs.length = K.m + L.m)
    (h1 : ∃ e x, cs.take K.m = K.vals e x ∧ K.Ok w e x) (h2 : ∃ e x, cs.drop K.m = L.vals e x ∧ L.Ok w e x) : ∃ e x, cs = (pairK K L).vals e x ∧ (pairK K L).Ok w e x := by
  obtain ⟨e, x, q1, q2⟩ := h1
  obtain ⟨e', x', r1, r2⟩ := h2
  refine ⟨(e, e'), (x, x'), ?_, q2, r2⟩
  show cs = K.vals e x ++ L.vals e' x'
  rw [← q1, ← r1, List.take_append_drop]

/-- A field of a struct. -/
theorem opens_field {α β : Type} {K : Kd α β} {t : TypeId} {fs : Array Field} {fuel : Nat} {cs : List Value} {y : DataW H × List MemPlace} (ht : P.underlying t = some (.struct fs)) (h : DataW.trod enc P w 0 sp held fuel t cs = some y)
    (i : Nat) (f : Field) (hf : fs[i]? = some f) {u : TypeId} {o : Nat} (hu : f.type = u) (ho : f.offset = o) (hc : P.cellsOf u = K.m) (hk : Opens enc P w sp held K u) (hl : o + K.m ≤ cs.length) :
    ∃ e x, (cs.drop o).take K.m = K.vals e x ∧ K.Ok w e x := by
  obtain ⟨d, ps⟩ := y
  obtain ⟨xs, m, _, _, _, hxl, hfs⟩ := DataW.trod_struct ht h
  have g := hfs i f hf
  have hi : i < xs.length := by rw [hxl]; exact (Array.getElem?_eq_some_iff.1 hf).1
  rw [List.getElem?_eq_getElem hi, hu, ho, hc] at g
  exact hk _ _ _ (by rw [List.length_take, List.length_drop]; omega) g

/-- An argument. -/
theorem opens_arg {α β : Type} {K : Kd α β} {t : TypeId} {v : Value} {d : DataW H} {ps : List MemPlace} (hk : Opens enc P w sp held K t) (hv : ∃ cs, v = .agg cs ∧ cs.size = P.cellsOf t) (hc : P.cellsOf t = K.m) (h : DataW.Trod enc P w 0 sp held t v d ps) :
    ∃ e x, v = .agg (K.vals e x).toArray ∧ K.Ok w e x := by
  obtain ⟨cs, rfl, hs⟩ := hv
  obtain ⟨fuel, h⟩ := h
  have h' : DataW.trod enc P w 0 sp held fuel t cs.toList = some (d, ps) := h
  obtain ⟨e, x, q1, q2⟩ := hk _ _ _ (by rw [Array.length_toList, hs, hc]) h'
  exact ⟨e, x, by rw [← q1], q2⟩
end

end Go.Proofs.YtfhhnnlafdgloaaGreat

/- What is proved here: plain facts on snapshots: their kinds, and how great they are; no program is named. -/
namespace Go.Proofs.YtfhhnnlafdgloaaGreat
open Go.RowKit
set_option linter.unusedVariables false
set_option maxRecDepth 100000

/-- A recent signer: a number, an address. A vote: signer, target, whether to add. A snapshot: a number, signers, recents, votes. -/
abbrev Rc := Int × List Int
abbrev Vt := List Int × List Int × Bool
abbrev Sn := Int × List (List Int) × List Rc × List Vt
abbrev RcS := Unit × Sl
abbrev VtS := Sl × Sl × Unit
abbrev SnS := Unit × Sl × Sl × Sl

def rcK : Kd Rc RcS := pairK intK bytesK
def vtK : Kd Vt VtS := pairK bytesK (pairK bytesK boolK)
def snK (TB TR TV : TypeId) : Kd Sn SnS := pairK intK (pairK (rowK bytesK TB) (pairK (rowK rcK TR) (rowK vtK TV)))

/-- The four cells of a snapshot. -/
def snvals (e : SnS) (x : Sn) : Array Value := #[.int .i64 x.1, .slice e.2.1.a e.2.1.n e.2.1.c, .slice e.2.2.1.a e.2.2.1.n e.2.2.1.c, .slice e.2.2.2.a e.2.2.2.n e.2.2.2.c]

theorem snvals_eq (TB TR TV : TypeId) (e : SnS) (x : Sn) : ((snK TB TR TV).vals e x).toArray = snvals e x := rfl

/-- What is left of a number behind so many: below 0: -1. -/
def szOf (left : Int) (n : Nat) : Int := if left - n < 0 then -1 else left - n

def rcSz (x : Rc) : Nat := x.2.length
def vtSz (x : Vt) : Nat := x.1.length + x.2.1.length
/-- The sum over a list. -/
def lsum {α : Type} (f : α → Nat) (xs : List α) : Nat := (xs.map f).sum
def snSz (x : Sn) : Nat := (x.2.1.length + lsum List.length x.2.1) + (x.2.2.1.length + lsum rcSz x.2.2.1) + (x.2.2.2.length + lsum vtSz x.2.2.2)

theorem lsum_succ {α : Type} (f : α → Nat) (xs : List α) (k : Nat) (x : α) (h : xs[k]? = some x) : lsum f (xs.take (k + 1)) = lsum f (xs.take k) + f x := by
  obtain ⟨hk, e⟩ := List.getElem?_eq_some_iff.1 h
  unfold lsum
  rw [List.take_succ_eq_append_getElem hk, List.map_append, List.sum_append, e]
  simp

theorem lsum_take {α : Type} (f : α → Nat) (xs : List α) (k : Nat) : lsum f (xs.take k) ≤ lsum f xs := by
  induction xs generalizing k with
  | nil => simp [lsum]
  | cons x r ih =>
    cases k with
    | zero => simp [lsum]
    | succ k => have := ih k; simp [lsum] at this ⊢; omega

theorem lsum_mem {α : Type} (f : α → Nat) (xs : List α) (x : α) (h : x ∈ xs) : f x ≤ lsum f xs := by
  induction xs with
  | nil => simp at h
  | cons y r ih =>
    rcases List.mem_cons.1 h with e | e
    · subst e; simp [lsum]
    · have := ih e; simp [lsum] at this ⊢; omega

theorem szBs_lsum (zss : List (List Int)) : ∀ left : Int, 0 ≤ left → szBs left zss = szOf left (lsum List.length zss) := by
  induction zss with
  | nil => intro left h; unfold szBs szOf lsum; simp; omega
  | cons z r ih =>
    intro left h
    have e : lsum List.length (z :: r) = z.length + lsum List.length r := by simp [lsum]
    unfold szBs
    rw [e]
    split
    · rename_i hn
      unfold szOf
      rw [if_pos (by omega)]
    · rename_i hn
      rw [ih _ (by omega)]
      unfold szOf
      split <;> split <;> omega

theorem szBss_lsum (zss : List (List Int)) (left : Int) (h : 0 ≤ left) : szBss left zss = szOf left (zss.length + lsum List.length zss) := by
  unfold szBss
  split
  · unfold szOf
    rw [if_pos (by omega)]
  · rw [szBs_lsum _ _ (by omega)]
    unfold szOf
    split <;> split <;> omega

theorem szOf_szOf {left : Int} {a b : Nat} (h : 0 ≤ szOf left a) : szOf (szOf left a) b = szOf left (a + b) := by
  unfold szOf at h ⊢
  split at h
  · omega
  · rename_i hn
    rw [if_neg hn]
    split <;> split <;> omega

theorem szOf_neg {left : Int} {a b : Nat} (h : szOf left a < 0) (hab : a ≤ b) : szOf left b = -1 := by
  unfold szOf at h ⊢
  split at h
  · rw [if_pos (by omega)]
  · omega

theorem szOf_ok {left : Int} {a : Nat} (h : 0 ≤ szOf left a) : (a : Int) ≤ left := by
  unfold szOf at h
  split at h <;> omega

/-- The bytes of rows of bytes. -/
theorem bs_of_row {w : World} {s : Sl} {zss : List (List Int)} (h : RowOk bytesK w s zss) : BsRow w s.a s.n zss := by
  refine ⟨h.len.symm, fun z hz => ?_, fun hp => ?_⟩
  · obtain ⟨i, hi⟩ := List.getElem?_of_mem hz
    have hil := (List.getElem?_eq_some_iff.1 hi).1
    obtain ⟨b, off, _, _, k⟩ := h.pos (by rw [h.len]; omega)
    obtain ⟨e, _, ho⟩ := k i z hi
    have ho' : BOk w e z := ho
    have := ho'.row.1
    have := ho'.room
    have := ho'.max
    omega
  · obtain ⟨b, off, ha, _, k⟩ := h.pos hp
    refine ⟨b, off, ha, fun i z hi => ?_⟩
    obtain ⟨e, q, ho⟩ := k i z hi
    have ho' : BOk w e z := ho
    have q0 := q 0 _ rfl
    refine ⟨e.a, e.n, e.c, ?_, ho'.row⟩
    have e1 : bytesK.m = 1 := rfl
    rw [e1, Nat.mul_one, Nat.add_zero] at q0
    exact q0

theorem bsnil_of_row {w : World} {s : Sl} {zss : List (List Int)} (h : RowOk bytesK w s zss) : BsNil w s.a s.n := by
  intro b off e i hi
  obtain ⟨b', off', ha, _, k⟩ := h.pos (by omega)
  rw [e] at ha
  simp only [Option.some.injEq, Addr.mk.injEq, and_true] at ha
  obtain ⟨rfl, rfl⟩ := ha
  obtain ⟨z, hz⟩ : ∃ z, zss[i]? = some z := ⟨_, List.getElem?_eq_getElem (by have := h.len; omega)⟩
  obtain ⟨el, q, ho⟩ := k i z hz
  have ho' : BOk w el z := ho
  have q0 := q 0 _ rfl
  have e1 : bytesK.m = 1 := rfl
  rw [e1, Nat.mul_one, Nat.add_zero] at q0
  exact ⟨el.a, el.n, el.c, q0, ho'.nil⟩

/-- Rows of bytes in memory of their own, told by colours before, told by paths. -/
theorem row_of_cs {w : World} {B r c : Nat} {d : Nat → Nat} {s : Sl} {zss : List (List Int)} (h : CS w B d r c s zss) (hr : ∀ i, r ≠ c + 3 * i) (p : Path) : ∃ d' : Nat → Path, RowOwn bytesK 27 w B d' p s zss := by
  obtain ⟨h1, es, h2, h3, h4, h5⟩ := h
  refine ⟨fun g => if d g = r then p else p ++ [(d g - c) / 3], h1, es, es.map Sl.v, h2, OwnS.of h3, fun x hx => ?_, fun i e z he hz => ?_⟩
  · have := h4 x.block (by rw [hx]; rfl)
    exact if_pos this
  · obtain ⟨q1, q2, q3, q4⟩ := h5 i e z he hz
    refine ⟨fun j v hv => ?_, q2, q3, fun x hx => ?_⟩
    · match j, hv with
      | 0, hv =>
        simp only [bytesK, List.getElem?_cons_zero, Option.some.injEq] at hv
        subst hv
        have e1 : bytesK.m = 1 := rfl
        rw [e1, Nat.mul_one, Nat.add_zero, List.getElem?_map, he]
        rfl
    · have hc := q4 x.block (by rw [hx]; rfl)
      show (if d x.block = r then p else p ++ [(d x.block - c) / 3]) = p ++ [i]
      rw [hc, if_neg (fun e => hr i e.symm), show c + 3 * i - c = 3 * i by omega, Nat.mul_div_cancel_left _ (by omega)]

end Go.Proofs.YtfhhnnlafdgloaaGreat

/- What is proved here: plain facts on what a call made, path by path, and the contracts of the laws' helper functions that copy bytes and lists of them, told by kinds. -/
namespace Go.Proofs.YtfhhnnlafdgloaaGreat
open Go.RowKit
set_option linter.unusedVariables false
set_option maxRecDepth 100000

/-- What was made, with whatever colours stand elsewhere. -/
def Kd.Made {α β : Type} (K : Kd α β) (w : World) (n B : Nat) (d : Nat → Path) (p : Path) (e : β) (x : α) : Prop := ∀ d' : Nat → Path, (∀ g, B ≤ g → g < n → d' g = d g) → K.Own w B d' p e x

theorem Kd.made {α β : Type} (K : Kd α β) {w : World} {B : Nat} {d : Nat → Path} {p : Path} {e : β} {x : α} (h : K.Own w B d p e x) : K.Made w w.heap.size B d p e x := fun d' hd => K.recol h (fun g h1 h2 _ => hd g h2 h1)

theorem Kd.Made.below {α β : Type} {K : Kd α β} {w w' : World} {n B C : Nat} {d : Nat → Path} {p : Path} {e : β} {x : α} (h : K.Made w n B d p e x) (hb : Below C w w') (hC : w.heap.size ≤ C) : K.Made w' n B d p e x := fun d' hd => K.ownBelow (h d' hd) hb hC

theorem Kd.ownSet {α β : Type} (K : Kd α β) {w : World} {B : Nat} {d : Nat → Path} {p : Path} {e : β} {x : α} (h : K.Own w B d p e x) {q : Addr} (hq : q.block < B) (v : Value) : K.Own (w.setCell q v) B d p e x :=
  K.frame h (fun g _ hg _ => heap_setCell_other w q g v (fun e => by omega))

theorem Kd.Made.set {α β : Type} {K : Kd α β} {w : World} {n B : Nat} {d : Nat → Path} {p : Path} {e : β} {x : α} (h : K.Made w n B d p e x) {q : Addr} (hq : q.block < B) (v : Value) : K.Made (w.setCell q v) n B d p e x := fun d' hd => K.ownSet (h d' hd) hq v

theorem Kd.Made.get {α β : Type} {K : Kd α β} {w : World} {n B : Nat} {d : Nat → Path} {p : Path} {e : β} {x : α} (h : K.Made w n B d p e x) : K.Own w B d p e x := h d (fun _ _ _ => rfl)

theorem toB_kd (p : Path) (s : Sl) (z : List Int) (w : World) (o : BOk w s z) (hl : z.length ≤ 1048576) :
    Calls Tryz.prog 7 #[.slice s.a s.n s.c] w fun e w' => ∃ (t : Sl) (d : Nat → Path), e = .returned (.slice t.a t.n t.c) ∧ bytesK.Own w' w.heap.size d p t z ∧ Below w.heap.size w w' := by
  refine (toByteS_any s.a s.n s.c z w o.row (by have := o.row.1; omega)).mono ?_
  rintro e w' ⟨rfl, h1, h2⟩
  exact ⟨⟨some ⟨w.heap.size, 0, none⟩, s.n, s.n⟩, fun _ => p, rfl, ⟨o.row.2.1, h1, fun x hx => rfl⟩, h2⟩

theorem strict_inj {f : Nat → Nat} {k : Nat} (h : ∀ i j, i < j → j < k → f i < f j) {i j : Nat} (hi : i < k) (hj : j < k) (e : f i = f j) : i = j := by
  rcases Nat.lt_trichotomy i j with h' | h' | h'
  · have := h i j h' hj; omega
  · exact h'
  · have := h j i h' hi; omega

open Classical in
theorem row_of_obss {w : World} {g B : Nat} {zss : List (List Int)} {C : Nat} (h : OBss w g zss 27 C) (hB : B ≤ g) (hr : ∀ z ∈ zss, ∀ x ∈ z, 0 ≤ x ∧ x ≤ 255) (hl : zss.length ≤ 1048576) (p : Path) : ∃ d : Nat → Path, RowOwn bytesK 27 w B d p ⟨some ⟨g, 0, none⟩, zss.length, zss.length⟩ zss := by
  obtain ⟨vs, f, h1, h2, h3, h4, h5⟩ := h
  obtain ⟨d, hd⟩ : ∃ d : Nat → Path, d = fun q => if hq : ∃ i, i < zss.length ∧ f i = q then p ++ [hq.choose] else p := ⟨_, rfl⟩
  have dg : d g = p := by
    rw [hd]
    refine dif_neg ?_
    rintro ⟨i, hi, e⟩
    have := (h3 i hi).1
    omega
  have df : ∀ i, i < zss.length → d (f i) = p ++ [i] := by
    intro i hi
    have hq : ∃ j, j < zss.length ∧ f j = f i := ⟨i, hi, rfl⟩
    rw [hd]
    show (if hq : ∃ j, j < zss.length ∧ f j = f i then p ++ [hq.choose] else p) = _
    rw [dif_pos hq, strict_inj h4 hq.choose_spec.1 hi hq.choose_spec.2]
  obtain ⟨es, he1, he2⟩ : ∃ es : List Sl, es.length = zss.length ∧ ∀ (i : Nat) (e : Sl), es[i]? = some e → ∃ z, zss[i]? = some z ∧ e = ⟨some ⟨f i, 0, none⟩, z.length, z.length⟩ := by
    refine ⟨zss.zipIdx.map (fun q => ⟨some ⟨f q.2, 0, none⟩, q.1.length, q.1.length⟩), by simp, fun i e he => ?_⟩
    rw [List.getElem?_map, List.getElem?_zipIdx] at he
    cases hz : zss[i]? with
    | none => rw [hz] at he; simp at he
    | some z =>
      rw [hz] at he
      simp at he
      exact ⟨z, rfl, he.symm⟩
  refine ⟨d, rfl, es, vs, he1, ⟨h2.trans (Nat.mul_one _).symm, by show zss.length ≤ maxLen; unfold maxLen; omega, Nat.le_refl _, (fun e => by cases e), fun x hx => ?_⟩, fun x hx => by cases hx; exact dg, fun i e z he hz => ?_⟩
  · cases hx
    refine ⟨g, 0, vs.toArray, rfl, hB, h1, by simp [h2, bytesK], ?_⟩
    show (vs.drop 0).take (zss.length * 1) = vs
    rw [List.drop_zero, Nat.mul_one, ← h2, List.take_length]
  · have hi := (List.getElem?_eq_some_iff.1 hz).1
    obtain ⟨z', hz', rfl⟩ := he2 i e he
    obtain rfl : z = z' := Option.some.inj (hz.symm.trans hz')
    obtain ⟨q1, q2⟩ := h5 i z hi hz
    refine ⟨fun j v hv => ?_, hr z (List.mem_of_getElem? hz), ownsRow_base q2 (by omega), fun x hx => by cases hx; exact df i hi⟩
    match j, hv with
    | 0, hv =>
      simp only [bytesK, List.getElem?_cons_zero, Option.some.injEq] at hv
      subst hv
      have e1 : bytesK.m = 1 := rfl
      rw [e1, Nat.mul_one, Nat.add_zero]
      exact q1

theorem toBs_kd (p : Path) (s : Sl) (zss : List (List Int)) (w : World) (o : RowOk bytesK w s zss) (hl : zss.length ≤ 1048576) (hz : ∀ z ∈ zss, z.length ≤ 1048576) :
    Calls Tryz.prog 23 #[.slice s.a s.n s.c] w fun e w' => ∃ (t : Sl) (d : Nat → Path), e = .returned (.slice t.a t.n t.c) ∧ (rowK bytesK 27).Own w' w.heap.size d p t zss ∧ Below w.heap.size w w' := by
  have hb := bs_of_row o
  refine (toByteSS_any s.a s.n s.c zss w hb (by have := o.len; omega) hz).mono ?_
  rintro e w' ⟨rfl, h1, h2⟩
  obtain ⟨d, hd⟩ := row_of_obss h1 (Nat.le_refl _) hb.bytes hl p
  have e1 : s.n = zss.length := o.len
  refine ⟨⟨some ⟨w.heap.size, 0, none⟩, zss.length, zss.length⟩, d, by rw [e1], hd, h2⟩

end Go.Proofs.YtfhhnnlafdgloaaGreat
