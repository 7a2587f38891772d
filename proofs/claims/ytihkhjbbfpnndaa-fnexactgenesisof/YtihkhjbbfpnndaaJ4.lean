/- What is proved here: plain facts on headers that a call made in memory of their own, told by colours of blocks: what is written in blocks of one colour leaves all else. -/
import Derived.Test.YtihkhjbbfpnndaaJ3
import Derived.Test.YtihkhjbbfpnndaaChecked
import Derived.Test.YtihkhjbbfpnndaaJ1
import Derived.WalkKit
import Derived.WalkLawsBesides
import Derived.Lib.BytesEntry
import Derived.KernelRfl
import Derived.Test.YtihkhjbbfpnndaaJ2
import Derived.Deep.MidRow
import Derived.WalkSmall
import Derived.Deep.RegionWith
import Derived.WalkSpells
import Derived.Deep.DeepCutAuto
namespace Go.Proofs.Ytihkhjbbfpnndaa
open Go.RowKit
set_option linter.unusedVariables false
set_option maxRecDepth 100000

/-- A slice's value. -/
def Sl.v (s : Sl) : Value := .slice s.a s.n s.c

/-- Bytes in memory of their own, at or beyond B; its block has the colour j. -/
structure CB (w : World) (B : Nat) (d : Nat → Nat) (j : Nat) (s : Sl) (z : List Int) : Prop where
  len : s.n = z.length
  rng : ∀ x ∈ z, 0 ≤ x ∧ x ≤ 255
  own : w.ownsRow B 5 1 (.slice s.a s.n s.c) s.n (z.map (Value.int .u8))
  col : ∀ g, (Value.slice s.a s.n s.c).ownBlock = some g → d g = j

/-- Nothing is written below B, nor in blocks whose colour is not in S. -/
def OnlyD (B : Nat) (d : Nat → Nat) (S : Nat → Prop) (w w' : World) : Prop := Below B w w' ∧ ∀ g, g < w.heap.size → ¬ S (d g) → w'.heap[g]? = w.heap[g]?

theorem OnlyD.refl (B : Nat) (d : Nat → Nat) (S : Nat → Prop) (w : World) : OnlyD B d S w w := ⟨Below.refl _ _, fun _ _ _ => rfl⟩

theorem OnlyD.trans {B : Nat} {d : Nat → Nat} {S : Nat → Prop} {a b c : World} (h : OnlyD B d S a b) (k : OnlyD B d S b c) : OnlyD B d S a c :=
  ⟨h.1.trans k.1, fun g hg hs => (k.2 g (Nat.lt_of_lt_of_le hg h.1.size) hs).trans (h.2 g hg hs)⟩

theorem OnlyD.mono {B : Nat} {d : Nat → Nat} {S T : Nat → Prop} {a b : World} (h : OnlyD B d S a b) (hs : ∀ c, S c → T c) : OnlyD B d T a b := ⟨h.1, fun g hg ht => h.2 g hg (fun q => ht (hs _ q))⟩

theorem OnlyD.below {B C : Nat} {d : Nat → Nat} {S : Nat → Prop} {a b : World} (h : Below C a b) (hC : a.heap.size ≤ C) (hB : B ≤ C) : OnlyD B d S a b := ⟨h.mono hB, fun g hg _ => h.block g (Nat.lt_of_lt_of_le hg hC)⟩

theorem OnlyD.grown {B j : Nat} {d : Nat → Nat} {a b : World} {row : Option Nat} (hg : a.grownBy b row) (hB : B ≤ a.heap.size) (hr : ∀ g, row = some g → B ≤ g ∧ d g = j) : OnlyD B d (fun c => c = j) a b :=
  ⟨(Below.refl B a).grown hg hB (fun k e => (hr k e).1), fun g hl hs => hg.block g hl (fun e => hs (hr g e.symm).2)⟩

theorem own_keep {B D : Nat} {d : Nat → Nat} {S : Nat → Prop} {w w' : World} {e : TypeId} {size n j : Nat} {v : Value} {xs : List Value} (ho : w.ownsRow D e size v n xs) (h : OnlyD B d S w w') (hc : ∀ g, v.ownBlock = some g → d g = j) (hj : ¬ S j) : w'.ownsRow D e size v n xs := by
  refine ⟨ho.1, ?_⟩
  rcases ho.2 with h' | ⟨g, cap, cur, h1, h2, h3, h4⟩
  · exact .inl h'
  · have hd := hc g (by rw [h1]; rfl)
    exact .inr ⟨g, cap, cur, h1, h2, (h.2 g (lt_of_block h3) (by rw [hd]; exact hj)).trans h3, h4⟩

theorem own_lt {w : World} {B : Nat} {e : TypeId} {size n : Nat} {v : Value} {xs : List Value} (h : w.ownsRow B e size v n xs) (g : Nat) (hg : v.ownBlock = some g) : B ≤ g ∧ g < w.heap.size := h.lt g hg

theorem CB.only {B D j : Nat} {d : Nat → Nat} {S : Nat → Prop} {w w' : World} {s : Sl} {z : List Int} (h : CB w B d j s z) (o : OnlyD D d S w w') (hj : ¬ S j) : CB w' B d j s z := ⟨h.len, h.rng, own_keep h.own o h.col hj, h.col⟩

theorem CB.below {B C j : Nat} {d : Nat → Nat} {w w' : World} {s : Sl} {z : List Int} (h : CB w B d j s z) (hb : Below C w w') (hC : w.heap.size ≤ C) : CB w' B d j s z := ⟨h.len, h.rng, own_below h.own hb hC, h.col⟩

theorem CB.recol {B j : Nat} {d d' : Nat → Nat} {w : World} {s : Sl} {z : List Int} (h : CB w B d j s z) (hd : ∀ g, g < w.heap.size → d' g = d g) : CB w B d' j s z := ⟨h.len, h.rng, h.own, fun g hg => by rw [hd g (own_lt h.own g hg).2]; exact h.col g hg⟩

theorem CB.base {B B' j : Nat} {d : Nat → Nat} {w : World} {s : Sl} {z : List Int} (h : CB w B d j s z) (hB : B' ≤ B) : CB w B' d j s z := ⟨h.len, h.rng, ownsRow_base h.own hB, h.col⟩

theorem CB.brow {B j : Nat} {d : Nat → Nat} {w : World} {s : Sl} {z : List Int} (h : CB w B d j s z) : BRow w s.a s.n z := BRow.own2 h.own h.rng

theorem CB.nil (w : World) (B : Nat) (d : Nat → Nat) (j : Nat) : CB w B d j ⟨none, 0, 0⟩ [] := ⟨rfl, fun x hx => by simp at hx, World.ownsRow_nil _ _ _ _, fun g hg => by cases hg⟩

/-- What is made anew has any colour that one gives it. -/
theorem CB.new {w w' : World} {B j : Nat} {d : Nat → Nat} {a : Option Addr} {n c : Nat} {z : List Int} (hn : n = z.length) (hr : ∀ x ∈ z, 0 ≤ x ∧ x ≤ 255) (h : w'.ownsRow w.heap.size 5 1 (.slice a n c) n (z.map (Value.int .u8))) (hB : B ≤ w.heap.size) : CB w' B (fun g => if w.heap.size ≤ g then j else d g) j ⟨a, n, c⟩ z :=
  ⟨hn, hr, ownsRow_base h hB, fun g hg => if_pos (own_lt h g hg).1⟩

/-- A list of slices of bytes in memory of its own: its row has the colour r, its slices c, c + 3 and so on. -/
def CS (w : World) (B : Nat) (d : Nat → Nat) (r c : Nat) (s : Sl) (zss : List (List Int)) : Prop :=
  s.n = zss.length ∧ ∃ es : List Sl, es.length = zss.length ∧ w.ownsRow B 23 1 (.slice s.a s.n s.c) s.n (es.map Sl.v) ∧ (∀ g, (Value.slice s.a s.n s.c).ownBlock = some g → d g = r) ∧
    ∀ i e z, es[i]? = some e → zss[i]? = some z → CB w B d (c + 3 * i) e z

theorem CS.only {B D r c : Nat} {d : Nat → Nat} {S : Nat → Prop} {w w' : World} {s : Sl} {zss : List (List Int)} (h : CS w B d r c s zss) (o : OnlyD D d S w w') (hr : ¬ S r) (hc : ∀ i, ¬ S (c + 3 * i)) : CS w' B d r c s zss := by
  obtain ⟨h1, es, h2, h3, h4, h5⟩ := h
  exact ⟨h1, es, h2, own_keep h3 o h4 hr, h4, fun i e z he hz => (h5 i e z he hz).only o (hc i)⟩

theorem CS.below {B C r c : Nat} {d : Nat → Nat} {w w' : World} {s : Sl} {zss : List (List Int)} (h : CS w B d r c s zss) (hb : Below C w w') (hC : w.heap.size ≤ C) : CS w' B d r c s zss := by
  obtain ⟨h1, es, h2, h3, h4, h5⟩ := h
  exact ⟨h1, es, h2, own_below h3 hb hC, h4, fun i e z he hz => (h5 i e z he hz).below hb hC⟩

theorem CS.recol {B r c : Nat} {d d' : Nat → Nat} {w : World} {s : Sl} {zss : List (List Int)} (h : CS w B d r c s zss) (hd : ∀ g, g < w.heap.size → d' g = d g) : CS w B d' r c s zss := by
  obtain ⟨h1, es, h2, h3, h4, h5⟩ := h
  exact ⟨h1, es, h2, h3, fun g hg => by rw [hd g (own_lt h3 g hg).2]; exact h4 g hg, fun i e z he hz => (h5 i e z he hz).recol hd⟩

theorem CS.base {B B' r c : Nat} {d : Nat → Nat} {w : World} {s : Sl} {zss : List (List Int)} (h : CS w B d r c s zss) (hB : B' ≤ B) : CS w B' d r c s zss := by
  obtain ⟨h1, es, h2, h3, h4, h5⟩ := h
  exact ⟨h1, es, h2, ownsRow_base h3 hB, h4, fun i e z he hz => (h5 i e z he hz).base hB⟩

theorem CS.nil (w : World) (B : Nat) (d : Nat → Nat) (r c : Nat) : CS w B d r c ⟨none, 0, 0⟩ [] := ⟨rfl, [], rfl, World.ownsRow_nil _ _ _ _, (fun g hg => by cases hg), fun i e z he => by simp at he⟩

/-- The slice at a place, and what becomes of the list when it alone is written. -/
theorem CS.at {B r c : Nat} {d : Nat → Nat} {w : World} {s : Sl} {zss : List (List Int)} (h : CS w B d r c s zss) {k : Nat} {z : List Int} (hz : zss[k]? = some z) (hr : r ≠ c + 3 * k) :
    ∃ (g : Nat) (e : Sl), s.a = some ⟨g, 0, none⟩ ∧ w.cell? ⟨g, k, none⟩ = some (.slice e.a e.n e.c) ∧ CB w B d (c + 3 * k) e z ∧
      ∀ w' z', OnlyD B d (fun q => q = c + 3 * k) w w' → CB w' B d (c + 3 * k) e z' → CS w' B d r c s (zss.set k z') := by
  obtain ⟨h1, es, h2, h3, h4, h5⟩ := h
  have hk := (List.getElem?_eq_some_iff.1 hz).1
  obtain ⟨e, he⟩ : ∃ e, es[k]? = some e := ⟨_, List.getElem?_eq_getElem (by omega)⟩
  obtain ⟨g, cap, hv⟩ := own_some h3 (by omega)
  have hv2 := hv
  simp only [Value.slice.injEq] at hv2
  refine ⟨g, e, hv2.1, ?_, h5 k e z he hz, fun w' z' ho hc => ⟨by rw [List.length_set]; exact h1, es, by rw [List.length_set]; exact h2, own_keep h3 ho h4 hr, h4, fun i e' z'' he' hz'' => ?_⟩⟩
  · rw [hv] at h3
    rw [h3.cellAt k (by omega), List.getElem?_map, he]
    rfl
  · rw [List.getElem?_set] at hz''
    by_cases hik : k = i
    · subst hik
      rw [if_pos rfl, if_pos hk] at hz''
      obtain rfl := Option.some.inj hz''
      obtain rfl := Option.some.inj (he.symm.trans he')
      exact hc
    · rw [if_neg hik] at hz''
      exact (h5 i e' z'' he' hz'').only ho (fun q => hik (by omega))

theorem CS.bsrow {B r c : Nat} {d : Nat → Nat} {w : World} {s : Sl} {zss : List (List Int)} (h : CS w B d r c s zss) (hl : ∀ z ∈ zss, z.length ≤ maxLen) : BsRow w s.a s.n zss := by
  obtain ⟨h1, es, h2, h3, h4, h5⟩ := h
  refine ⟨h1.symm, hl, fun hp => ?_⟩
  obtain ⟨g, cap, hv⟩ := own_some h3 hp
  have hv2 := hv
  simp only [Value.slice.injEq] at hv2
  refine ⟨g, 0, hv2.1, fun i z hz => ?_⟩
  have hi := (List.getElem?_eq_some_iff.1 hz).1
  obtain ⟨e, he⟩ : ∃ e, es[i]? = some e := ⟨_, List.getElem?_eq_getElem (by omega)⟩
  rw [hv] at h3
  exact ⟨e.a, e.n, e.c, by rw [Nat.zero_add, h3.cellAt i (by omega), List.getElem?_map, he]; rfl, (h5 i e z he hz).brow⟩

/-- A header in memory of its own. -/
structure CH (w : World) (B : Nat) (d : Nat → Nat) (x : HS) (h : Hd) : Prop where
  p : CB w B d 0 x.p h.p
  t : CB w B d 1 x.t h.t
  s : CS w B d 5 7 x.s h.s
  r : CB w B d 2 x.r h.r
  g : CB w B d 3 x.g h.g
  e : CB w B d 4 x.e h.e
  k : CS w B d 6 8 x.k h.k

theorem CH.below {B C : Nat} {d : Nat → Nat} {w w' : World} {x : HS} {h : Hd} (o : CH w B d x h) (hb : Below C w w') (hC : w.heap.size ≤ C) : CH w' B d x h :=
  ⟨o.p.below hb hC, o.t.below hb hC, o.s.below hb hC, o.r.below hb hC, o.g.below hb hC, o.e.below hb hC, o.k.below hb hC⟩

theorem CH.base {B B' : Nat} {d : Nat → Nat} {w : World} {x : HS} {h : Hd} (o : CH w B d x h) (hB : B' ≤ B) : CH w B' d x h :=
  ⟨o.p.base hB, o.t.base hB, o.s.base hB, o.r.base hB, o.g.base hB, o.e.base hB, o.k.base hB⟩

theorem CH.recol {B : Nat} {d d' : Nat → Nat} {w : World} {x : HS} {h : Hd} (o : CH w B d x h) (hd : ∀ g, g < w.heap.size → d' g = d g) : CH w B d' x h :=
  ⟨o.p.recol hd, o.t.recol hd, o.s.recol hd, o.r.recol hd, o.g.recol hd, o.e.recol hd, o.k.recol hd⟩

theorem OnlyD.sblk {B : Nat} {d : Nat → Nat} {S : Nat → Prop} {w w' : World} (h : OnlyD B d S w w') {g : Nat} {vs : List Value} {T : TypeId} (hs : SBlk w g vs T) (hg : ¬ S (d g)) : SBlk w' g vs T := (h.2 g hs.lt hg).trans hs

theorem CH.hok {B : Nat} {d : Nat → Nat} {w : World} {x : HS} {h : Hd} (o : CH w B d x h) (m : HSm h) : HOk w x h :=
  ⟨o.p.brow, o.t.brow, o.s.bsrow (fun z hz => by have := m.sz z hz; unfold maxLen; omega), o.r.brow, o.g.brow, o.e.brow, o.k.bsrow (fun z hz => by have := m.kz z hz; unfold maxLen; omega)⟩

/-- The marks of a list of slices. -/
def mkss : Int → List (List Int) → List (List Int)
  | _, [] => []
  | k, z :: r => marks k z.length :: mkss (k + (z.length : Nat)) r

theorem mkss_length : ∀ (zss : List (List Int)) (k : Int), (mkss k zss).length = zss.length
  | [], k => rfl
  | z :: r, k => by rw [mkss, List.length_cons, List.length_cons, mkss_length r]

theorem mkss_at : ∀ (zss : List (List Int)) (k : Int) (i : Nat) (z : List Int), zss[i]? = some z → (mkss k zss)[i]? = some (marks (k + (bsum (zss.take i) : Nat)) z.length)
  | [], k, i, z, h => by simp at h
  | a :: r, k, 0, z, h => by
    simp at h
    subst h
    simp [mkss, bsum]
  | a :: r, k, i + 1, z, h => by
    rw [List.getElem?_cons_succ] at h
    rw [mkss, List.getElem?_cons_succ, mkss_at r _ i z h]
    have e : bsum ((a :: r).take (i + 1)) = a.length + bsum (r.take i) := by simp [bsum]
    rw [e]
    congr 2
    omega

/-- The marks of a header. -/
def mkH (k : Int) (h : Hd) : Hd :=
  { h with
    p := marks k h.p.length
    t := marks (k + (h.p.length : Nat)) h.t.length
    s := mkss (k + (h.p.length : Nat) + (h.t.length : Nat)) h.s
    r := marks (k + (h.p.length : Nat) + (h.t.length : Nat) + (bsum h.s : Nat)) h.r.length
    g := marks (k + (h.p.length : Nat) + (h.t.length : Nat) + (bsum h.s : Nat) + (h.r.length : Nat)) h.g.length
    e := marks (k + (h.p.length : Nat) + (h.t.length : Nat) + (bsum h.s : Nat) + (h.r.length : Nat) + (h.g.length : Nat)) h.e.length
    k := mkss (k + (h.p.length : Nat) + (h.t.length : Nat) + (bsum h.s : Nat) + (h.r.length : Nat) + (h.g.length : Nat) + (h.e.length : Nat)) h.k }

end Go.Proofs.Ytihkhjbbfpnndaa

/- What is proved here: the contracts of the laws' helper functions that mark a list or a header that a call made, and look for the marks later (markByteSS, markHeader, heldByteSS, heldHeader). -/
namespace Go.Proofs.Ytihkhjbbfpnndaa
open Go.RowKit
set_option linter.unusedVariables false
set_option maxRecDepth 100000

theorem take_drop_at (m l : List (List Int)) (k : Nat) (h : m.length = l.length) : (m.take k ++ l.drop k)[k]? = l[k]? := by
  by_cases hk : k ≤ m.length
  · rw [List.getElem?_append_right (by rw [List.length_take]; omega), List.length_take, Nat.min_eq_left hk, Nat.sub_self, List.getElem?_drop, Nat.add_zero]
  · rw [List.getElem?_eq_none (by rw [List.length_append, List.length_take, List.length_drop]; omega), List.getElem?_eq_none (by omega)]

theorem take_drop_set (m l : List (List Int)) (k : Nat) (x : List Int) (h : m.length = l.length) (hx : m[k]? = some x) : (m.take k ++ l.drop k).set k x = m.take (k + 1) ++ l.drop (k + 1) := by
  obtain ⟨hk, e⟩ := List.getElem?_eq_some_iff.1 hx
  have hl : (m.take k).length = k := by rw [List.length_take]; omega
  rw [List.set_append, if_neg (by omega), hl, Nat.sub_self, List.drop_eq_getElem_cons (by omega), List.set_cons_zero, List.take_succ_eq_append_getElem hk, e, List.append_assoc]
  rfl

theorem markB_col (B j : Nat) (d : Nat → Nat) (s : Sl) (z : List Int) (k0 : Int) (w : World) (h : CB w B d j s z) (hB : B ≤ w.heap.size) (hn : z.length ≤ 1048576) (hk0 : 0 ≤ k0) (hk1 : k0 ≤ 1099511627776) :
    Calls Try.prog 13 #[.slice s.a s.n s.c, .int .i64 k0] w fun e w' => e = .returned (.int .i64 (k0 + (z.length : Nat))) ∧ CB w' B d j s (marks k0 z.length) ∧ OnlyD B d (fun c => c = j) w w' := by
  have hl := h.len
  refine (markByteS_own B s.n s.c s.a z k0 w h.own (by omega) hk0 hk1).mono ?_
  rintro e w' ⟨rfl, ho, hg⟩
  rw [hl] at ho
  refine ⟨by rw [hl], ⟨by rw [marks_length]; exact hl, marks_range _ _, by rw [hl]; exact ho, h.col⟩, OnlyD.grown hg hB (fun g e => ⟨(own_lt h.own g e).1, h.col g e⟩)⟩

set_option maxHeartbeats 4000000 in
theorem markSS_col (B r c : Nat) (d : Nat → Nat) (s : Sl) (zss : List (List Int)) (k0 : Int) (w : World) (h : CS w B d r c s zss) (hr : ∀ i, r ≠ c + 3 * i) (hB : B ≤ w.heap.size) (hl : zss.length ≤ 1048576) (hs : bsum zss ≤ 1048576) (hk0 : 0 ≤ k0) (hk1 : k0 ≤ 16777216) :
    Calls Try.prog 12 #[.slice s.a s.n s.c, .int .i64 k0] w fun e w' => e = .returned (.int .i64 (k0 + (bsum zss : Nat))) ∧ CS w' B d r c s (mkss k0 zss) ∧ OnlyD B d (fun q => ∃ i, q = c + 3 * i) w w' := by
  have hsn := h.1
  have HSN := hide (bsum_snoc zss)
  have HLE := hide (bsum_le zss)
  have HMA := hide (mkss_at zss k0)
  have HML := hide (mkss_length zss k0)
  have HM := hide h
  have HR := hide hr
  obtain ⟨len, hlen⟩ : ∃ len, len = zss.length := ⟨_, rfl⟩
  have HLEN := hide hlen
  rw [hsn]
  rw [← hlen] at hl hsn ⊢
  clear h hr hlen
  have HSL := hide hsn
  clear hsn
  generalize hsc : s.c = sc
  have HSC := hide hsc
  clear hsc
  generalize hsa : s.a = sa
  have HSA := hide hsa
  clear hsa
  go_enter Try.func12, Try.ntmps12
  go_wp2_with fail
  go_loopw [1, 5] (fun q i wr => ∃ k : Nat, k ≤ len ∧ i = .int .i64 k ∧ q = .int .i64 (k0 + (bsum (zss.take k) : Nat)) ∧ CS wr B d r c s ((mkss k0 zss).take k ++ zss.drop k) ∧ OnlyD B d (fun q => ∃ i, q = c + 3 * i) w wr) (fun _ i _ => len - (intOf i).toNat)
  case atStart => exact ⟨0, Nat.zero_le _, rfl, by simp [bsum], by simpa using unhide HM, OnlyD.refl _ _ _ _⟩
  case round =>
    obtain ⟨k, hk, rfl, rfl, hm, ho⟩ := hrel
    clear HM
    by_cases hlt : k < len
    · obtain ⟨z, hit⟩ : ∃ z, zss[k]? = some z := ⟨_, List.getElem?_eq_getElem (by rw [← unhide HLEN]; exact hlt)⟩
      have hat := (take_drop_at (mkss k0 zss) zss k (unhide HML)).trans hit
      obtain ⟨g, e, ha, hc, hcb, hst⟩ := hm.at hat ((unhide HR) k)
      have hma := (unhide HMA) k z hit
      have hsn := (unhide HSN) k z hit
      have hle1 := (unhide HLE) (k + 1)
      have hzl : z.length ≤ 1048576 := by omega
      obtain ⟨ks, hks⟩ : ∃ ks, ks = bsum (zss.take k) := ⟨_, rfl⟩
      rw [← hks] at hsn hma ⊢
      have hksl : ks ≤ 1048576 := by omega
      have hBr : B ≤ wr.heap.size := Nat.le_trans hB ho.1.size
      have HC := hide (markB_col B (c + 3 * k) d e z (k0 + ks) wr hcb hBr hzl (by omega) (by omega))
      have HST : Hid (∀ w', CB w' B d (c + 3 * k) e (marks (k0 + ks) z.length) → OnlyD B d (fun q => q = c + 3 * k) wr w' → CS w' B d r c s ((mkss k0 zss).take (k + 1) ++ zss.drop (k + 1)) ∧ OnlyD B d (fun q => ∃ i, q = c + 3 * i) w w') := fun w' hb hw => by
        have := hst w' _ hw hb
        rw [take_drop_set _ _ k _ (unhide HML) hma] at this
        exact ⟨this, ho.trans (hw.mono (fun q e => ⟨k, e⟩))⟩
      have HSN2 : Hid (bsum (zss.take (k + 1)) = ks + z.length) := hsn
      have k1 : (0 : Int) ≤ (k : Int) := by omega
      have k2 : (k : Int) < (len : Int) := by omega
      rw [unhide HSA] at ha
      subst ha
      generalize z.length = zl at HC HST HSN2 hzl
      clear hsn hle1 hit ho hks hm hat hcb hst hma
      go_wp2_with fail
      refine (unhide HC).mono ?_
      rintro e w2 ⟨rfl, b2, g2⟩
      obtain ⟨m2, o2⟩ := (unhide HST) w2 b2 g2
      have HM2 := hide m2
      have HO2 := hide o2
      clear m2 o2 g2 b2
      go_wp2_with fail
      go_roundw
      case rel => exact ⟨k + 1, by omega, by go_num, by rw [unhide HSN2]; congr 1; omega, unhide HM2, unhide HO2⟩
      case measure => simp [intOf]; omega
    · obtain rfl : k = len := by omega
      have et : zss.take k = zss := List.take_of_length_le (by rw [← unhide HLEN]; exact Nat.le_refl _)
      have em : (mkss k0 zss).take k ++ zss.drop k = mkss k0 zss := by rw [List.take_of_length_le (by rw [unhide HML, ← unhide HLEN]; exact Nat.le_refl _), List.drop_eq_nil_of_le (by rw [← unhide HLEN]; exact Nat.le_refl _), List.append_nil]
      rw [et]
      rw [em] at hm
      have HO := hide ho
      have HM := hide hm
      clear hm ho et em
      go_wp2_with fail
      go_ret
      exact ⟨rfl, unhide HM, unhide HO⟩

set_option maxHeartbeats 4000000 in
theorem heldSS_any (a : Option Addr) (len cap : Nat) (zss : List (List Int)) (k0 : Int) (w : World) (h : BsRow w a len (mkss k0 zss)) (hl : zss.length ≤ 1048576) (hs : bsum zss ≤ 1048576) (hk0 : 0 ≤ k0) (hk1 : k0 ≤ 16777216) :
    Calls Try.prog 31 #[.slice a len cap, .int .i64 k0] w fun e w' => e = .returned (.int .i64 (k0 + (bsum zss : Nat))) ∧ w' = w := by
  have hlen : zss.length = len := by rw [← mkss_length zss k0]; exact h.1
  have HSN := hide (bsum_snoc zss)
  have HLE := hide (bsum_le zss)
  have HMA := hide (mkss_at zss k0)
  have HLEN := hide hlen
  have HROW := hide h
  rw [hlen] at hl
  clear h hlen
  go_enter Try.func31, Try.ntmps31
  go_wp2_with fail
  go_loopw [1, 5] (fun q i wr => ∃ k : Nat, k ≤ len ∧ i = .int .i64 k ∧ q = .int .i64 (k0 + (bsum (zss.take k) : Nat)) ∧ wr = w) (fun _ i _ => len - (intOf i).toNat)
  case atStart => exact ⟨0, Nat.zero_le _, rfl, by simp [bsum], rfl⟩
  case round =>
    obtain ⟨k, hk, rfl, rfl, rfl⟩ := hrel
    by_cases hlt : k < len
    · obtain ⟨z, hit⟩ : ∃ z, zss[k]? = some z := ⟨_, List.getElem?_eq_getElem (by rw [unhide HLEN]; exact hlt)⟩
      obtain ⟨b, off, rfl, _, hat⟩ := (unhide HROW).at (by omega)
      obtain ⟨s1, n1, d1, c0, r1⟩ := hat k _ ((unhide HMA) k z hit)
      have hn1 : z.length = n1 := by have := r1.1; rw [marks_length] at this; exact this
      subst hn1
      have hsn := (unhide HSN) k z hit
      have hle1 := (unhide HLE) (k + 1)
      have hzl : z.length ≤ 1048576 := by omega
      obtain ⟨ks, hks⟩ : ∃ ks, ks = bsum (zss.take k) := ⟨_, rfl⟩
      rw [← hks] at hsn r1 ⊢
      have hksl : ks ≤ 1048576 := by omega
      have HC := hide (heldByteS_any z.length d1 s1 (k0 + ks) wr r1 (by omega) (by omega) (by omega))
      have HSN2 : Hid (bsum (zss.take (k + 1)) = ks + z.length) := hsn
      have k1 : (0 : Int) ≤ (k : Int) := by omega
      have k2 : (k : Int) < (len : Int) := by omega
      generalize z.length = zl at c0 HC HSN2 hzl
      have k3 : decide (k0 + (ks : Int) + (zl : Int) < 0) = false := decide_eq_false (by omega)
      clear hsn hle1 hit hks hat r1
      go_wp2_with fail
      refine (unhide HC).mono ?_
      rintro e w2 ⟨rfl, rfl⟩
      go_wp2_with fail
      go_roundw
      case rel => exact ⟨k + 1, by omega, by go_num, by rw [unhide HSN2]; congr 1; omega, by first | exact rfl | trivial⟩
      case measure => simp [intOf]; omega
    · obtain rfl : k = len := by omega
      have et : zss.take k = zss := List.take_of_length_le (by rw [unhide HLEN]; exact Nat.le_refl _)
      rw [et]
      clear et
      go_wp2_with fail
      go_ret
      exact ⟨rfl, rfl⟩

end Go.Proofs.Ytihkhjbbfpnndaa

/- What is proved here: what the program's IsAhead and the model's l1Ahead answer, for slices of bytes of any length: whether the first is less than the second, byte by byte. -/
namespace Go.Proofs.Ytihkhjbbfpnndaa
open Go.RowKit
set_option linter.unusedVariables false
set_option maxRecDepth 100000

/-- Whether the first list of bytes is less than the second. -/
def aheadB (xs ys : List Int) : Bool := Op.bytesLess (strOfNums xs).toList (strOfNums ys).toList

theorem less_of_compare : ∀ (l m : List UInt8), decide (Lib.compareBytes l m < 0) = Op.bytesLess l m
  | [], [] => by simp [Lib.compareBytes, Op.bytesLess]
  | [], _ :: _ => by simp [Lib.compareBytes, Op.bytesLess]
  | _ :: _, [] => by simp [Lib.compareBytes, Op.bytesLess]
  | x :: a, y :: b => by
    have ih := less_of_compare a b
    unfold Lib.compareBytes Op.bytesLess
    by_cases h1 : x < y
    · simp [h1]
    · by_cases h2 : y < x
      · have hne : (x == y) = false := by
          rw [beq_eq_false_iff_ne]; intro e; subst e; exact h1 h2
        simp [h1, h2, hne]
      · have e : x = y := UInt8.le_antisymm (UInt8.not_lt.1 h2) (UInt8.not_lt.1 h1)
        subst e
        simp [h1, ih]

theorem run_bytesOf {P : Program} (w : World) (a : Option Addr) (len cap : Nat) (xs : List Int) (h : BRow w a len xs) :
    (Extern.Bytes.bytesOf (.slice a len cap)).run P w = .ok ⟨(Lib.bytesOf xs).toArray⟩ w := by
  cases a with
  | none =>
    have h0 := h.2.2.1 rfl
    have hx : xs = [] := List.length_eq_zero_iff.1 (by rw [h.1]; exact h0)
    subst hx
    rfl
  | some x =>
    have hl := Lib.run_loadBytesX (P := P) w xs x .empty (fun j y hj => by
      have hjl : j < xs.length := (List.getElem?_eq_some_iff.1 hj).1
      rw [h.2.2.2 x rfl j (by rw [← h.1]; exact hjl), List.getD_eq_getElem?_getD, hj]
      rfl)
    rw [h.1] at hl
    show (Extern.Bytes.loadBytes x len .empty).run P w = _
    rw [hl]
    congr 1
    apply ByteArray.ext
    show (#[] : Array UInt8) ++ (Lib.bytesOf xs).toArray = (Lib.bytesOf xs).toArray
    simp

theorem run_compare {P : Program} (w : World) (a b : Option Addr) (la ca lb cb : Nat) (xs ys : List Int) (ha : BRow w a la xs) (hb : BRow w b lb ys) :
    (Extern.BytealgCompare.compare #[.slice a la ca, .slice b lb cb]).run P w = .ok (.int .i64 (Lib.compareBytes (Lib.bytesOf xs) (Lib.bytesOf ys))) w := by
  change Sem.run P (do pure (goInt (Extern.BytealgCompare.cmp (← Extern.Bytes.bytesOf (.slice a la ca)) (← Extern.Bytes.bytesOf (.slice b lb cb))))) w = _
  simp only [Sem.run_bind, run_bytesOf w a la ca xs ha, run_bytesOf w b lb cb ys hb, Sem.run_pure, Result.andThen]
  rw [Lib.cmp_eq]
  rfl

theorem l1Ahead_any (a b : Option Addr) (la ca lb cb : Nat) (xs ys : List Int) (w : World) (ha : BRow w a la xs) (hb : BRow w b lb ys) :
    Calls Try.prog 32 #[.slice a la ca, .slice b lb cb] w fun e w' => e = .returned (.bool (aheadB xs ys)) ∧ w' = w := by
  have h1 := conv_any (P := Try.prog) w 23 5 9 Try.underlying23 Try.underlying5 Try.underlying9 a la ca xs ha
  have h2 := conv_any (P := Try.prog) w 23 5 9 Try.underlying23 Try.underlying5 Try.underlying9 b lb cb ys hb
  clear ha hb
  go_enter Try.func32, Try.ntmps32
  go_wp2
  go_ret
  exact ⟨rfl, rfl⟩

theorem implAhead_any (a b : Option Addr) (la ca lb cb : Nat) (xs ys : List Int) (w : World) (ha : BRow w a la xs) (hb : BRow w b lb ys) :
    Calls Try.prog 34 #[.slice a la ca, .slice b lb cb] w fun e w' => e = .returned (.bool (aheadB xs ys)) ∧ w' = w := by
  have hr : (callFunc 37 #[.slice a la ca, .slice b lb cb]).run Try.prog w = .ok (.value (.int .i64 (Lib.compareBytes (Lib.bytesOf xs) (Lib.bytesOf ys)))) w := by
    rw [run_callFunc_extern (P := Try.prog) Try.func37 (by kernel_rfl) (by kernel_rfl) (by kernel_rfl) (e := Extern.BytealgCompare.compare) (by kernel_rfl), run_compare w a b la ca lb cb xs ys ha hb]
    rfl
  have e := less_of_compare (Lib.bytesOf xs) (Lib.bytesOf ys)
  rw [← Lib.strOfNums_toList, ← Lib.strOfNums_toList] at e
  rw [← Lib.strOfNums_toList, ← Lib.strOfNums_toList] at hr
  have HE := hide e
  clear ha hb e
  generalize Lib.compareBytes (strOfNums xs).toList (strOfNums ys).toList = c at hr HE
  go_enter Try.func34, Try.ntmps34
  go_wp2
  go_ret
  exact ⟨ret_bool (unhide HE), rfl⟩

end Go.Proofs.Ytihkhjbbfpnndaa

/- What is proved here: plain facts on the fault of a list of signers; no program is named. -/
namespace Go.Proofs.Ytihkhjbbfpnndaa
open Go.RowKit
set_option linter.unusedVariables false
set_option maxRecDepth 100000

/-- Whether the signer at a place has a fault: no address, or not behind the one ahead. -/
def sgBad (zss : List (List Int)) (k : Nat) (z : List Int) : Bool := z.length != 4 || (decide (0 < k) && !aheadB (zss.getD (k - 1) []) z)

/-- The first fault among the signers from a place on. -/
def sgFrom (zss : List (List Int)) : Nat → List (List Int) → Int
  | _, [] => 0
  | k, z :: r => if sgBad zss k z = true then 1 else sgFrom zss (k + 1) r

def sgFlt (zss : List (List Int)) : Int := if 7 < zss.length then 2 else sgFrom zss 0 zss

theorem sgFrom_step (zss : List (List Int)) (k : Nat) (z : List Int) (h : zss[k]? = some z) : sgFrom zss k (zss.drop k) = if sgBad zss k z = true then 1 else sgFrom zss (k + 1) (zss.drop (k + 1)) := by
  obtain ⟨hk, e⟩ := List.getElem?_eq_some_iff.1 h
  rw [List.drop_eq_getElem_cons hk, e]
  rfl

theorem sgFrom_end (zss : List (List Int)) (k : Nat) (h : zss.length ≤ k) : sgFrom zss k (zss.drop k) = 0 := by
  rw [List.drop_eq_nil_of_le h]; rfl

theorem sgFrom_cases (zss : List (List Int)) : ∀ (r : List (List Int)) (k : Nat), sgFrom zss k r = 0 ∨ sgFrom zss k r = 1
  | [], k => .inl rfl
  | z :: r, k => by
    unfold sgFrom
    split
    · exact .inr rfl
    · exact sgFrom_cases zss r (k + 1)

theorem sgFlt_cases (zss : List (List Int)) : sgFlt zss = 0 ∨ sgFlt zss = 1 ∨ sgFlt zss = 2 := by
  unfold sgFlt
  split
  · omega
  · rcases sgFrom_cases zss zss 0 with h | h <;> omega

end Go.Proofs.Ytihkhjbbfpnndaa

/- What is proved here: plain facts on the fault of a header, and the eleven cells of one; no program is named. -/
namespace Go.Proofs.Ytihkhjbbfpnndaa
open Go.RowKit
set_option linter.unusedVariables false
set_option maxRecDepth 100000

theorem hcells {W : World} {g : Nat} {x : HS} {h : Hd} {T : TypeId} (b : SBlk W g (hvals x h).toList T) : W.cell? ⟨g, 0, none⟩ = some (.slice x.p.a x.p.n x.p.c) ∧ W.cell? ⟨g, 1, none⟩ = some (.int .i64 h.n1) ∧ W.cell? ⟨g, 2, none⟩ = some (.int .i64 h.n2) ∧ W.cell? ⟨g, 3, none⟩ = some (.int .i64 h.n3) ∧ W.cell? ⟨g, 4, none⟩ = some (.slice x.t.a x.t.n x.t.c) ∧ W.cell? ⟨g, 5, none⟩ = some (.int .i64 h.n5) ∧ W.cell? ⟨g, 6, none⟩ = some (.slice x.s.a x.s.n x.s.c) ∧ W.cell? ⟨g, 7, none⟩ = some (.slice x.r.a x.r.n x.r.c) ∧ W.cell? ⟨g, 8, none⟩ = some (.slice x.g.a x.g.n x.g.c) ∧ W.cell? ⟨g, 9, none⟩ = some (.slice x.e.a x.e.n x.e.c) ∧ W.cell? ⟨g, 10, none⟩ = some (.slice x.k.a x.k.n x.k.c) :=
  ⟨b.cell 0, b.cell 1, b.cell 2, b.cell 3, b.cell 4, b.cell 5, b.cell 6, b.cell 7, b.cell 8, b.cell 9, b.cell 10⟩

theorem srange {W : World} {g : Nat} {vs : List Value} {T : TypeId} (b : SBlk W g vs T) : W.rangeAt g 0 vs := fun j v hj => by
  rw [Nat.zero_add, b.cell j]; exact hj

/-- Whether a field has a wrong number of bytes. -/
def hdLen (h : Hd) : Bool := ((h.p.length : Int) != 32) || (((h.t.length : Int) != 0) && ((h.t.length : Int) != 4)) || ((h.r.length : Int) != 32) || ((h.g.length : Int) != 4) || (((h.e.length : Int) != 0) && ((h.e.length : Int) != 4))

def within (n lo hi : Int) : Bool := decide (lo ≤ n ∧ n ≤ hi)

/-- Whether all numbers lie within their bounds. -/
def hdNum (h : Hd) : Bool := within h.n1 0 1099511627776 && within h.n2 0 1099511627776 && within h.n3 0 9 && within h.n5 0 2

/-- The fault of the commits from a place on. -/
def coFrom : List (List Int) → Int
  | [] => 0
  | z :: r => if z.length = 8 then coFrom r else 1

def coFlt (zss : List (List Int)) : Int := if 7 < zss.length then 2 else coFrom zss

/-- The fault of a header. -/
def hdFlt (h : Hd) : Int := if hdLen h = true then 1 else if hdNum h = false then 3 else if sgFlt h.s = 0 then coFlt h.k else sgFlt h.s

theorem coFrom_step (zss : List (List Int)) (k : Nat) (z : List Int) (h : zss[k]? = some z) : coFrom (zss.drop k) = if z.length = 8 then coFrom (zss.drop (k + 1)) else 1 := by
  obtain ⟨hk, e⟩ := List.getElem?_eq_some_iff.1 h
  rw [List.drop_eq_getElem_cons hk, e]
  rfl

theorem coFrom_end (zss : List (List Int)) (k : Nat) (h : zss.length ≤ k) : coFrom (zss.drop k) = 0 := by
  rw [List.drop_eq_nil_of_le h]; rfl

end Go.Proofs.Ytihkhjbbfpnndaa

/- What is proved here: the contracts of the laws' helper functions that mark a header that a call made, and look for the marks later (markHeader, heldHeader). -/
namespace Go.Proofs.Ytihkhjbbfpnndaa
open Go.RowKit
set_option linter.unusedVariables false
set_option maxRecDepth 100000

set_option maxHeartbeats 4000000 in
theorem markHeader_col (x : HS) (h : Hd) (B : Nat) (d : Nat → Nat) (k0 : Int) (w : World) (o : CH w B d x h) (hB : B ≤ w.heap.size) (hd : ∀ g, w.heap.size ≤ g → d g = 9) (m : HSm h) (ht : hTot h ≤ 1048576) (hk0 : 0 ≤ k0) (hk1 : k0 ≤ 1048576) :
    Calls Try.prog 24 #[.agg (hvals x h), .int .i64 k0] w fun e w' => e = .returned (.int .i64 (k0 + (hTot h : Nat))) ∧ CH w' B d x (mkH k0 h) ∧ OnlyD B d (fun q => q ≠ 9) w w' := by
  have kb := SBlk.new w (hvals x h) 26
  have bb := below_alloc w (.cells (hvals x h) 26)
  have d9 : d w.heap.size = 9 := hd _ (Nat.le_refl _)
  obtain ⟨W0, eb⟩ : ∃ W0, w.alloc (.cells (hvals x h) 26) = W0 := ⟨_, rfl⟩
  rw [eb] at kb bb
  obtain ⟨op, ot, os, or', og, oe, ok⟩ := o.below bb (Nat.le_refl _)
  have on : OnlyD B d (fun q => q ≠ 9) w W0 := OnlyD.below bb (Nat.le_refl _) hB
  have hB0 : B ≤ W0.heap.size := Nat.le_trans hB bb.size
  have HMK : Hid (∀ W', CB W' B d 0 x.p (mkH k0 h).p → CB W' B d 1 x.t (mkH k0 h).t → CS W' B d 5 7 x.s (mkH k0 h).s → CB W' B d 2 x.r (mkH k0 h).r → CB W' B d 3 x.g (mkH k0 h).g → CB W' B d 4 x.e (mkH k0 h).e → CS W' B d 6 8 x.k (mkH k0 h).k → CH W' B d x (mkH k0 h)) := fun W' a b c e f g i => ⟨a, b, c, e, f, g, i⟩
  unfold hTot at ht
  have HTOT : Hid ((hTot h : Nat) = h.p.length + h.t.length + bsum h.s + h.r.length + h.g.length + h.e.length + bsum h.k) := rfl
  generalize hTot h = tot at HTOT ⊢
  unfold hvals at kb eb ⊢
  have HM := hide m
  have EB := hide eb
  clear o m eb hd
  go_enter Try.func24, Try.ntmps24
  go_upto_region 1 with fail
  rw [unhide EB]
  clear EB bb
  have c1 := kb.cell 0
  simp only [List.getElem?_cons_zero] at c1
  have D1 := hide (markB_col B 0 d x.p h.p k0 W0 op hB0 (by omega) (by omega) (by omega))
  go_wp2_with fail
  refine (unhide D1).mono ?_
  rintro e w1 ⟨rfl, m1, n1⟩
  have ot := ot.only n1 (by omega)
  have os := os.only n1 (by omega) (by intro j; omega)
  have or' := or'.only n1 (by omega)
  have og := og.only n1 (by omega)
  have oe := oe.only n1 (by omega)
  have ok := ok.only n1 (by omega) (by intro j; omega)
  have kb := n1.sblk kb (by rw [d9]; omega)
  have on := on.trans (n1.mono (T := fun q => q ≠ 9) (by intro q e; omega))
  have hB1 : B ≤ w1.heap.size := Nat.le_trans hB0 n1.1.size
  clear n1 c1 D1
  obtain ⟨K1, eK1⟩ : ∃ K : Int, K = k0 + (h.p.length : Nat) := ⟨_, rfl⟩
  have bK1 : 0 ≤ K1 ∧ K1 ≤ 2097152 := by omega
  have EK1 := hide eK1
  clear eK1
  have c2 := kb.cell 4
  simp only [List.getElem?_cons_zero, List.getElem?_cons_succ] at c2
  have D2 := hide (markB_col B 1 d x.t h.t K1 w1 ot hB1 (by omega) (by omega) (by omega))
  go_wp2_with fail
  rw [← unhide EK1]
  refine (unhide D2).mono ?_
  rintro e w2 ⟨rfl, m2, n2⟩
  have m1 := m1.only n2 (by omega)
  have os := os.only n2 (by omega) (by intro j; omega)
  have or' := or'.only n2 (by omega)
  have og := og.only n2 (by omega)
  have oe := oe.only n2 (by omega)
  have ok := ok.only n2 (by omega) (by intro j; omega)
  have kb := n2.sblk kb (by rw [d9]; omega)
  have on := on.trans (n2.mono (T := fun q => q ≠ 9) (by intro q e; omega))
  have hB2 : B ≤ w2.heap.size := Nat.le_trans hB1 n2.1.size
  clear n2 c2 D2
  obtain ⟨K2, eK2⟩ : ∃ K : Int, K = K1 + (h.t.length : Nat) := ⟨_, rfl⟩
  have bK2 : 0 ≤ K2 ∧ K2 ≤ 2097152 := by have q1 := unhide EK1; omega
  have EK2 := hide eK2
  clear eK2
  have c3 := kb.cell 6
  simp only [List.getElem?_cons_zero, List.getElem?_cons_succ] at c3
  have D3 := hide (markSS_col B 5 7 d x.s h.s K2 w2 os (by omega) hB2 (unhide HM).s (by omega) (by omega) (by omega))
  go_wp2_with fail
  rw [← unhide EK2]
  refine (unhide D3).mono ?_
  rintro e w3 ⟨rfl, m3, n3⟩
  have m1 := m1.only n3 (by rintro ⟨i, hi⟩; omega)
  have m2 := m2.only n3 (by rintro ⟨i, hi⟩; omega)
  have or' := or'.only n3 (by rintro ⟨i, hi⟩; omega)
  have og := og.only n3 (by rintro ⟨i, hi⟩; omega)
  have oe := oe.only n3 (by rintro ⟨i, hi⟩; omega)
  have ok := ok.only n3 (by rintro ⟨i, hi⟩; omega) (by intro j; rintro ⟨i, hi⟩; omega)
  have kb := n3.sblk kb (by rw [d9]; rintro ⟨i, hi⟩; omega)
  have on := on.trans (n3.mono (T := fun q => q ≠ 9) (by rintro q ⟨i, hi⟩; omega))
  have hB3 : B ≤ w3.heap.size := Nat.le_trans hB2 n3.1.size
  clear n3 c3 D3
  obtain ⟨K3, eK3⟩ : ∃ K : Int, K = K2 + (bsum h.s : Nat) := ⟨_, rfl⟩
  have bK3 : 0 ≤ K3 ∧ K3 ≤ 2097152 := by have q1 := unhide EK1; have q2 := unhide EK2; omega
  have EK3 := hide eK3
  clear eK3
  have c4 := kb.cell 7
  simp only [List.getElem?_cons_zero, List.getElem?_cons_succ] at c4
  have D4 := hide (markB_col B 2 d x.r h.r K3 w3 or' hB3 (by omega) (by omega) (by omega))
  go_wp2_with fail
  rw [← unhide EK3]
  refine (unhide D4).mono ?_
  rintro e w4 ⟨rfl, m4, n4⟩
  have m1 := m1.only n4 (by omega)
  have m2 := m2.only n4 (by omega)
  have m3 := m3.only n4 (by omega) (by intro j; omega)
  have og := og.only n4 (by omega)
  have oe := oe.only n4 (by omega)
  have ok := ok.only n4 (by omega) (by intro j; omega)
  have kb := n4.sblk kb (by rw [d9]; omega)
  have on := on.trans (n4.mono (T := fun q => q ≠ 9) (by intro q e; omega))
  have hB4 : B ≤ w4.heap.size := Nat.le_trans hB3 n4.1.size
  clear n4 c4 D4
  obtain ⟨K4, eK4⟩ : ∃ K : Int, K = K3 + (h.r.length : Nat) := ⟨_, rfl⟩
  have bK4 : 0 ≤ K4 ∧ K4 ≤ 2097152 := by have q1 := unhide EK1; have q2 := unhide EK2; have q3 := unhide EK3; omega
  have EK4 := hide eK4
  clear eK4
  have c5 := kb.cell 8
  simp only [List.getElem?_cons_zero, List.getElem?_cons_succ] at c5
  have D5 := hide (markB_col B 3 d x.g h.g K4 w4 og hB4 (by omega) (by omega) (by omega))
  go_wp2_with fail
  rw [← unhide EK4]
  refine (unhide D5).mono ?_
  rintro e w5 ⟨rfl, m5, n5⟩
  have m1 := m1.only n5 (by omega)
  have m2 := m2.only n5 (by omega)
  have m3 := m3.only n5 (by omega) (by intro j; omega)
  have m4 := m4.only n5 (by omega)
  have oe := oe.only n5 (by omega)
  have ok := ok.only n5 (by omega) (by intro j; omega)
  have kb := n5.sblk kb (by rw [d9]; omega)
  have on := on.trans (n5.mono (T := fun q => q ≠ 9) (by intro q e; omega))
  have hB5 : B ≤ w5.heap.size := Nat.le_trans hB4 n5.1.size
  clear n5 c5 D5
  obtain ⟨K5, eK5⟩ : ∃ K : Int, K = K4 + (h.g.length : Nat) := ⟨_, rfl⟩
  have bK5 : 0 ≤ K5 ∧ K5 ≤ 2097152 := by have q1 := unhide EK1; have q2 := unhide EK2; have q3 := unhide EK3; have q4 := unhide EK4; omega
  have EK5 := hide eK5
  clear eK5
  have c6 := kb.cell 9
  simp only [List.getElem?_cons_zero, List.getElem?_cons_succ] at c6
  have D6 := hide (markB_col B 4 d x.e h.e K5 w5 oe hB5 (by omega) (by omega) (by omega))
  go_wp2_with fail
  rw [← unhide EK5]
  refine (unhide D6).mono ?_
  rintro e w6 ⟨rfl, m6, n6⟩
  have m1 := m1.only n6 (by omega)
  have m2 := m2.only n6 (by omega)
  have m3 := m3.only n6 (by omega) (by intro j; omega)
  have m4 := m4.only n6 (by omega)
  have m5 := m5.only n6 (by omega)
  have ok := ok.only n6 (by omega) (by intro j; omega)
  have kb := n6.sblk kb (by rw [d9]; omega)
  have on := on.trans (n6.mono (T := fun q => q ≠ 9) (by intro q e; omega))
  have hB6 : B ≤ w6.heap.size := Nat.le_trans hB5 n6.1.size
  clear n6 c6 D6
  obtain ⟨K6, eK6⟩ : ∃ K : Int, K = K5 + (h.e.length : Nat) := ⟨_, rfl⟩
  have bK6 : 0 ≤ K6 ∧ K6 ≤ 2097152 := by have q1 := unhide EK1; have q2 := unhide EK2; have q3 := unhide EK3; have q4 := unhide EK4; have q5 := unhide EK5; omega
  have EK6 := hide eK6
  clear eK6
  have c7 := kb.cell 10
  simp only [List.getElem?_cons_zero, List.getElem?_cons_succ] at c7
  have D7 := hide (markSS_col B 6 8 d x.k h.k K6 w6 ok (by omega) hB6 (unhide HM).k (by omega) (by omega) (by omega))
  go_wp2_with fail
  rw [← unhide EK6]
  refine (unhide D7).mono ?_
  rintro e w7 ⟨rfl, m7, n7⟩
  have m1 := m1.only n7 (by rintro ⟨i, hi⟩; omega)
  have m2 := m2.only n7 (by rintro ⟨i, hi⟩; omega)
  have m3 := m3.only n7 (by rintro ⟨i, hi⟩; omega) (by intro j; rintro ⟨i, hi⟩; omega)
  have m4 := m4.only n7 (by rintro ⟨i, hi⟩; omega)
  have m5 := m5.only n7 (by rintro ⟨i, hi⟩; omega)
  have m6 := m6.only n7 (by rintro ⟨i, hi⟩; omega)
  have kb := n7.sblk kb (by rw [d9]; rintro ⟨i, hi⟩; omega)
  have on := on.trans (n7.mono (T := fun q => q ≠ 9) (by rintro q ⟨i, hi⟩; omega))
  have hB7 : B ≤ w7.heap.size := Nat.le_trans hB6 n7.1.size
  clear n7 c7 D7
  go_wp2_with fail
  go_ret
  have t := unhide HTOT
  have t1 := unhide EK1
  have t2 := unhide EK2
  have t3 := unhide EK3
  have t4 := unhide EK4
  have t5 := unhide EK5
  have t6 := unhide EK6
  refine ⟨ret_int (by omega), (unhide HMK) _ m1 ?_ ?_ ?_ ?_ ?_ ?_, on⟩
  · have e : K1 = k0 + (h.p.length : Nat) := by omega
    show CB w7 B d 1 x.t (marks (k0 + (h.p.length : Nat)) h.t.length)
    rw [← e]
    exact m2
  · have e : K2 = k0 + (h.p.length : Nat) + (h.t.length : Nat) := by omega
    show CS w7 B d 5 7 x.s (mkss (k0 + (h.p.length : Nat) + (h.t.length : Nat)) h.s)
    rw [← e]
    exact m3
  · have e : K3 = k0 + (h.p.length : Nat) + (h.t.length : Nat) + (bsum h.s : Nat) := by omega
    show CB w7 B d 2 x.r (marks (k0 + (h.p.length : Nat) + (h.t.length : Nat) + (bsum h.s : Nat)) h.r.length)
    rw [← e]
    exact m4
  · have e : K4 = k0 + (h.p.length : Nat) + (h.t.length : Nat) + (bsum h.s : Nat) + (h.r.length : Nat) := by omega
    show CB w7 B d 3 x.g (marks (k0 + (h.p.length : Nat) + (h.t.length : Nat) + (bsum h.s : Nat) + (h.r.length : Nat)) h.g.length)
    rw [← e]
    exact m5
  · have e : K5 = k0 + (h.p.length : Nat) + (h.t.length : Nat) + (bsum h.s : Nat) + (h.r.length : Nat) + (h.g.length : Nat) := by omega
    show CB w7 B d 4 x.e (marks (k0 + (h.p.length : Nat) + (h.t.length : Nat) + (bsum h.s : Nat) + (h.r.length : Nat) + (h.g.length : Nat)) h.e.length)
    rw [← e]
    exact m6
  · have e : K6 = k0 + (h.p.length : Nat) + (h.t.length : Nat) + (bsum h.s : Nat) + (h.r.length : Nat) + (h.g.length : Nat) + (h.e.length : Nat) := by omega
    show CS w7 B d 6 8 x.k (mkss (k0 + (h.p.length : Nat) + (h.t.length : Nat) + (bsum h.s : Nat) + (h.r.length : Nat) + (h.g.length : Nat) + (h.e.length : Nat)) h.k)
    rw [← e]
    exact m7

set_option maxHeartbeats 4000000 in
theorem heldHeader_any (x : HS) (h : Hd) (k0 : Int) (w : World) (o : HOk w x (mkH k0 h)) (m : HSm h) (ht : hTot h ≤ 1048576) (hk0 : 0 ≤ k0) (hk1 : k0 ≤ 1048576) :
    Calls Try.prog 25 #[.agg (hvals x h), .int .i64 k0] w fun e w' => e = .returned (.int .i64 (k0 + (hTot h : Nat))) ∧ Below w.heap.size w w' := by
  have kb := SBlk.new w (hvals x h) 26
  have bb := below_alloc w (.cells (hvals x h) 26)
  obtain ⟨W0, eb⟩ : ∃ W0, w.alloc (.cells (hvals x h) 26) = W0 := ⟨_, rfl⟩
  rw [eb] at kb bb
  obtain ⟨op, ot, os, or', og, oe, ok⟩ := o.below bb (Nat.le_refl _)
  have lp : x.p.n = h.p.length := by have := o.p.1; simp only [mkH, marks_length] at this; omega
  have lt : x.t.n = h.t.length := by have := o.t.1; simp only [mkH, marks_length] at this; omega
  have lr : x.r.n = h.r.length := by have := o.r.1; simp only [mkH, marks_length] at this; omega
  have lg : x.g.n = h.g.length := by have := o.g.1; simp only [mkH, marks_length] at this; omega
  have le : x.e.n = h.e.length := by have := o.e.1; simp only [mkH, marks_length] at this; omega
  unfold hTot at ht
  have HTOT : Hid ((hTot h : Nat) = h.p.length + h.t.length + bsum h.s + h.r.length + h.g.length + h.e.length + bsum h.k) := rfl
  generalize hTot h = tot at HTOT ⊢
  obtain ⟨x0, x1, x2, x3, x4, x5, x6, x7, x8, x9, x10⟩ := hcells kb
  unfold hvals at eb ⊢
  have HM := hide m
  have EB := hide eb
  have HBB := hide bb
  clear o m eb kb bb
  have D1 : Hid (Calls Try.prog 30 #[.slice x.p.a x.p.n x.p.c, .int .i64 k0] W0 fun e w' => e = .returned (.int .i64 (k0 + (h.p.length : Nat))) ∧ w' = W0) := by
    have q : BRow W0 x.p.a h.p.length (marks k0 h.p.length) := by rw [← lp]; exact (by have q := op; simp only [mkH] at q; rw [lp] at q ⊢; exact q)
    rw [lp]
    exact heldByteS_any h.p.length x.p.c x.p.a k0 W0 q (by omega) (by omega) (by omega)
  obtain ⟨K1, eK1⟩ : ∃ K : Int, K = k0 + (h.p.length : Nat) := ⟨_, rfl⟩
  have bK1 : 0 ≤ K1 ∧ K1 ≤ 2097152 := by omega
  have dK1 : decide (K1 < 0) = false := decide_eq_false (by omega)
  have fK1 : K1 = k0 + (h.p.length : Nat) := by omega
  have D2 : Hid (Calls Try.prog 30 #[.slice x.t.a x.t.n x.t.c, .int .i64 K1] W0 fun e w' => e = .returned (.int .i64 (K1 + (h.t.length : Nat))) ∧ w' = W0) := by
    have q : BRow W0 x.t.a h.t.length (marks K1 h.t.length) := by rw [fK1]; rw [← lt]; exact (by have q := ot; simp only [mkH] at q; rw [lt] at q ⊢; exact q)
    rw [lt]
    exact heldByteS_any h.t.length x.t.c x.t.a K1 W0 q (by omega) (by omega) (by omega)
  obtain ⟨K2, eK2⟩ : ∃ K : Int, K = K1 + (h.t.length : Nat) := ⟨_, rfl⟩
  have bK2 : 0 ≤ K2 ∧ K2 ≤ 2097152 := by omega
  have dK2 : decide (K2 < 0) = false := decide_eq_false (by omega)
  have fK2 : K2 = k0 + (h.p.length : Nat) + (h.t.length : Nat) := by omega
  have D3 : Hid (Calls Try.prog 31 #[.slice x.s.a x.s.n x.s.c, .int .i64 K2] W0 fun e w' => e = .returned (.int .i64 (K2 + (bsum h.s : Nat))) ∧ w' = W0) := heldSS_any x.s.a x.s.n x.s.c h.s K2 W0 (by rw [fK2]; exact os) (unhide HM).s (by omega) (by omega) (by omega)
  obtain ⟨K3, eK3⟩ : ∃ K : Int, K = K2 + (bsum h.s : Nat) := ⟨_, rfl⟩
  have bK3 : 0 ≤ K3 ∧ K3 ≤ 2097152 := by omega
  have dK3 : decide (K3 < 0) = false := decide_eq_false (by omega)
  have fK3 : K3 = k0 + (h.p.length : Nat) + (h.t.length : Nat) + (bsum h.s : Nat) := by omega
  have D4 : Hid (Calls Try.prog 30 #[.slice x.r.a x.r.n x.r.c, .int .i64 K3] W0 fun e w' => e = .returned (.int .i64 (K3 + (h.r.length : Nat))) ∧ w' = W0) := by
    have q : BRow W0 x.r.a h.r.length (marks K3 h.r.length) := by rw [fK3]; rw [← lr]; exact (by have q := or'; simp only [mkH] at q; rw [lr] at q ⊢; exact q)
    rw [lr]
    exact heldByteS_any h.r.length x.r.c x.r.a K3 W0 q (by omega) (by omega) (by omega)
  obtain ⟨K4, eK4⟩ : ∃ K : Int, K = K3 + (h.r.length : Nat) := ⟨_, rfl⟩
  have bK4 : 0 ≤ K4 ∧ K4 ≤ 2097152 := by omega
  have dK4 : decide (K4 < 0) = false := decide_eq_false (by omega)
  have fK4 : K4 = k0 + (h.p.length : Nat) + (h.t.length : Nat) + (bsum h.s : Nat) + (h.r.length : Nat) := by omega
  have D5 : Hid (Calls Try.prog 30 #[.slice x.g.a x.g.n x.g.c, .int .i64 K4] W0 fun e w' => e = .returned (.int .i64 (K4 + (h.g.length : Nat))) ∧ w' = W0) := by
    have q : BRow W0 x.g.a h.g.length (marks K4 h.g.length) := by rw [fK4]; rw [← lg]; exact (by have q := og; simp only [mkH] at q; rw [lg] at q ⊢; exact q)
    rw [lg]
    exact heldByteS_any h.g.length x.g.c x.g.a K4 W0 q (by omega) (by omega) (by omega)
  obtain ⟨K5, eK5⟩ : ∃ K : Int, K = K4 + (h.g.length : Nat) := ⟨_, rfl⟩
  have bK5 : 0 ≤ K5 ∧ K5 ≤ 2097152 := by omega
  have dK5 : decide (K5 < 0) = false := decide_eq_false (by omega)
  have fK5 : K5 = k0 + (h.p.length : Nat) + (h.t.length : Nat) + (bsum h.s : Nat) + (h.r.length : Nat) + (h.g.length : Nat) := by omega
  have D6 : Hid (Calls Try.prog 30 #[.slice x.e.a x.e.n x.e.c, .int .i64 K5] W0 fun e w' => e = .returned (.int .i64 (K5 + (h.e.length : Nat))) ∧ w' = W0) := by
    have q : BRow W0 x.e.a h.e.length (marks K5 h.e.length) := by rw [fK5]; rw [← le]; exact (by have q := oe; simp only [mkH] at q; rw [le] at q ⊢; exact q)
    rw [le]
    exact heldByteS_any h.e.length x.e.c x.e.a K5 W0 q (by omega) (by omega) (by omega)
  obtain ⟨K6, eK6⟩ : ∃ K : Int, K = K5 + (h.e.length : Nat) := ⟨_, rfl⟩
  have bK6 : 0 ≤ K6 ∧ K6 ≤ 2097152 := by omega
  have dK6 : decide (K6 < 0) = false := decide_eq_false (by omega)
  have fK6 : K6 = k0 + (h.p.length : Nat) + (h.t.length : Nat) + (bsum h.s : Nat) + (h.r.length : Nat) + (h.g.length : Nat) + (h.e.length : Nat) := by omega
  have D7 : Hid (Calls Try.prog 31 #[.slice x.k.a x.k.n x.k.c, .int .i64 K6] W0 fun e w' => e = .returned (.int .i64 (K6 + (bsum h.k : Nat))) ∧ w' = W0) := heldSS_any x.k.a x.k.n x.k.c h.k K6 W0 (by rw [fK6]; exact ok) (unhide HM).k (by omega) (by omega) (by omega)
  obtain ⟨K7, eK7⟩ : ∃ K : Int, K = K6 + (bsum h.k : Nat) := ⟨_, rfl⟩
  have dK7 : decide (K7 < 0) = false := decide_eq_false (by omega)
  have HE7 : Hid (K7 = k0 + (tot : Nat)) := by have t := unhide HTOT; show _ = _; omega
  rw [← eK1] at D1
  rw [← eK2] at D2
  rw [← eK3] at D3
  rw [← eK4] at D4
  rw [← eK5] at D5
  rw [← eK6] at D6
  rw [← eK7] at D7
  clear eK1 eK2 eK3 eK4 eK5 eK6 eK7 op ot os or' og oe ok lp lt lr lg le HM ht hk0 hk1 bK1 fK1 bK2 fK2 bK3 fK3 bK4 fK4 bK5 fK5 bK6 fK6
  go_enter Try.func25, Try.ntmps25
  go_upto_region 1 with fail
  rw [unhide EB]
  clear EB
  go_wp2_with fail
  refine (unhide D1).mono ?_
  rintro e w' ⟨rfl, rfl⟩
  go_wp2_with fail
  refine (unhide D2).mono ?_
  rintro e w' ⟨rfl, rfl⟩
  go_wp2_with fail
  refine (unhide D3).mono ?_
  rintro e w' ⟨rfl, rfl⟩
  go_wp2_with fail
  refine (unhide D4).mono ?_
  rintro e w' ⟨rfl, rfl⟩
  go_wp2_with fail
  refine (unhide D5).mono ?_
  rintro e w' ⟨rfl, rfl⟩
  go_wp2_with fail
  refine (unhide D6).mono ?_
  rintro e w' ⟨rfl, rfl⟩
  go_wp2_with fail
  refine (unhide D7).mono ?_
  rintro e w' ⟨rfl, rfl⟩
  go_wp2_with fail
  go_ret
  exact ⟨by rw [← unhide HE7]; rfl, unhide HBB⟩

end Go.Proofs.Ytihkhjbbfpnndaa

/- What is proved here: the contract of the laws' helper function that compares slices of slices of bytes (eqByteSS). -/
namespace Go.Proofs.Ytihkhjbbfpnndaa
open Go.RowKit
set_option linter.unusedVariables false
set_option maxRecDepth 100000

set_option maxHeartbeats 2000000 in
theorem eqByteSS_any (a b : Option Addr) (la ca lb cb : Nat) (xs ys : List (List Int)) (w : World) (ha : BsRow w a la xs) (hb : BsRow w b lb ys) (hl : la ≤ 1048576) (hl2 : lb ≤ 1048576) (hx : ∀ z ∈ xs, z.length ≤ 1048576) (hy : ∀ z ∈ ys, z.length ≤ 1048576) :
    Calls Try.prog 10 #[.slice a la ca, .slice b lb cb] w fun e w' => e = .returned (.bool (sameBs xs ys)) ∧ ∃ n, w' = w.drewN n := by
  have hxl := ha.1
  have hyl := hb.1
  by_cases hne : la = lb
  · subst hne
    have hlen : (((la : Nat) : Int) != ((la : Nat) : Int)) = false := by simp
    rcases Nat.eq_zero_or_pos la with h0 | hp
    · subst h0
      have hx : xs = [] := List.length_eq_zero_iff.1 hxl
      have hy : ys = [] := List.length_eq_zero_iff.1 hyl
      subst hx hy
      clear ha hb
      go_enter Try.func10, Try.ntmps10
      go_wp2_with fail
      refine wp_loop_rounds 1 ?_
      rw [rounds_succ]
      go_wp2_with fail
      go_ret
      exact ⟨rfl, 0, rfl⟩
    · obtain ⟨ba, oa, rfl, hba, hca⟩ := ha.at hp
      obtain ⟨bb, ob, rfl, hbb, hcb⟩ := hb.at hp
      have HCA := hide hca
      have HCB := hide hcb
      have HX := hide hx
      have HY := hide hy
      have HXL := hide hxl
      have HYL := hide hyl
      clear ha hb hca hcb hx hy hxl hyl
      go_enter Try.func10, Try.ntmps10
      go_wp2_with fail
      go_loopw [5] (fun i wr => ∃ k n : Nat, k ≤ la ∧ i = .int .i64 k ∧ sameBs xs ys = sameBs (xs.drop k) (ys.drop k) ∧ wr = w.drewN n) (fun i _ => la - (intOf i).toNat)
      case atStart => exact ⟨0, 0, Nat.zero_le _, rfl, by simp, rfl⟩
      case round =>
        obtain ⟨k, n, hk, rfl, hpre, rfl⟩ := hrel
        by_cases hlt : k < la
        · obtain ⟨x, hix⟩ : ∃ z, xs[k]? = some z := ⟨_, List.getElem?_eq_getElem (by rw [unhide HXL]; exact hlt)⟩
          obtain ⟨y, hiy⟩ : ∃ z, ys[k]? = some z := ⟨_, List.getElem?_eq_getElem (by rw [unhide HYL]; exact hlt)⟩
          have hst := sameBs_step xs ys k x y hix hiy
          rw [← hpre] at hst
          obtain ⟨s1, n1, d1, p0, r1⟩ := (unhide HCA) k x hix
          obtain ⟨s2, n2, d2, q0, r2⟩ := (unhide HCB) k y hiy
          have m1 : n1 ≤ 1048576 := by rw [← r1.1]; exact (unhide HX) x (List.mem_of_getElem? hix)
          have m2 : n2 ≤ 1048576 := by rw [← r2.1]; exact (unhide HY) y (List.mem_of_getElem? hiy)
          have HEQ := hide (fun (m : Nat) => eqByteS_any s1 s2 n1 d1 n2 d2 x y (w.drewN m) (r1.below (B := w.heap.size) (below_drewN (Below.refl _ _) m) (Nat.le_refl _)) (r2.below (B := w.heap.size) (below_drewN (Below.refl _ _) m) (Nat.le_refl _)) m1 m2)
          have HP := hide hpre
          have HS := hide hst
          have i1 : (0 : Int) ≤ (k : Int) := by omega
          have i2 : (k : Int) < (la : Int) := by omega
          clear r1 r2 hst hpre hix hiy m1 m2
          generalize sameB x y = sb at HEQ HS
          go_wp2_with fail
          go_region_with (first | (go_at_call 11; refine ((unhide HEQ) (n + 1)).mono ?_; rintro e w1 ⟨rfl, m, rfl⟩))
          all_goals
            cases sb
            · go_wp2_with fail
              go_ret
              exact ⟨ret_bool (by rw [unhide HS]; rfl), _, by first | rfl | exact World.drewN_drewN ..⟩
            · go_wp2_with fail
              go_roundw
              case rel => exact ⟨k + 1, _, by omega, by go_num, by rw [unhide HS]; simp, by first | rfl | exact World.drewN_drewN ..⟩
              case measure => simp [intOf]; omega
        · obtain rfl : k = la := by omega
          have e := sameBs_end xs ys k (unhide HXL) (unhide HYL)
          rw [e] at hpre
          have HE := hide hpre
          clear e hpre
          go_wp2_with fail
          go_ret
          exact ⟨ret_bool (unhide HE).symm, n, rfl⟩
  · have hlen : (((la : Nat) : Int) != ((lb : Nat) : Int)) = true := by simp; omega
    have HE := hide (sameBs_len xs ys (by rw [hxl, hyl]; exact hne))
    clear ha hb hxl hyl
    go_enter Try.func10, Try.ntmps10
    go_wp2_with fail
    go_ret
    exact ⟨ret_bool (unhide HE).symm, 0, rfl⟩

end Go.Proofs.Ytihkhjbbfpnndaa

/- What is proved here: the contract of the laws' helper function eqHeader, for two that are the same: it answers true. -/
namespace Go.Proofs.Ytihkhjbbfpnndaa
open Go.RowKit
set_option linter.unusedVariables false
set_option maxRecDepth 100000

theorem ne64 (n : Int) : (n != n) = false := by simp

theorem eqB_yes (a b : Option Addr) (la ca lb cb : Nat) (xs : List Int) (w : World) (ha : BRow w a la xs) (hb : BRow w b lb xs) (hl : xs.length ≤ 1048576) :
    Calls Try.prog 11 #[.slice a la ca, .slice b lb cb] w fun e w' => e = .returned (.bool true) ∧ Below w.heap.size w w' :=
  (eqByteS_any a b la ca lb cb xs xs w ha hb (by rw [← ha.1]; exact hl) (by rw [← hb.1]; exact hl)).mono fun e w' ⟨he, n, hw⟩ => ⟨by rw [he, sameB_self], by rw [hw]; exact below_drewN (Below.refl _ _) n⟩

theorem eqBs_yes (a b : Option Addr) (la ca lb cb : Nat) (xs : List (List Int)) (w : World) (ha : BsRow w a la xs) (hb : BsRow w b lb xs) (hl : xs.length ≤ 1048576) (hz : ∀ z ∈ xs, z.length ≤ 1048576) :
    Calls Try.prog 10 #[.slice a la ca, .slice b lb cb] w fun e w' => e = .returned (.bool true) ∧ Below w.heap.size w w' :=
  (eqByteSS_any a b la ca lb cb xs xs w ha hb (by rw [← ha.1]; exact hl) (by rw [← hb.1]; exact hl) hz hz).mono fun e w' ⟨he, n, hw⟩ => ⟨by rw [he, sameBs_self], by rw [hw]; exact below_drewN (Below.refl _ _) n⟩

theorem two_blk (w : World) (vs us : Array Value) (T S : TypeId) : SBlk ((w.alloc (.cells vs T)).alloc (.cells us S)) w.heap.size vs.toList T ∧ SBlk ((w.alloc (.cells vs T)).alloc (.cells us S)) (w.heap.size + 1) us.toList S ∧ Below w.heap.size w ((w.alloc (.cells vs T)).alloc (.cells us S)) ∧ ((w.alloc (.cells vs T)).alloc (.cells us S)).heap.size = w.heap.size + 2 := by
  refine ⟨?_, ?_, ((Below.refl _ _).alloc (Nat.le_refl _) _).alloc (by simp) _, by simp⟩
  · exact (SBlk.new w vs T).next _
  · have h := SBlk.new (w.alloc (.cells vs T)) us S
    rwa [show (w.alloc (.cells vs T)).heap.size = w.heap.size + 1 by simp] at h

set_option maxHeartbeats 8000000 in
theorem eqHeader_same (x y : HS) (h : Hd) (w : World) (o : HOk w x h) (q : HOk w y h) (m : HSm h) :
    Calls Try.prog 23 #[.agg (hvals x h), .agg (hvals y h)] w fun e w' => e = .returned (.bool true) ∧ Below w.heap.size w w' := by
  have HO := hide (fun (W : World) (hb : Below w.heap.size w W) => o.below hb (Nat.le_refl _))
  have HQ := hide (fun (W : World) (hb : Below w.heap.size w W) => q.below hb (Nat.le_refl _))
  have HM := hide m
  obtain ⟨k0, k1, k2, k3⟩ := two_blk w (hvals x h) (hvals y h) 26 26
  clear o q m
  have hn1 := ne64 h.n1
  have hn2 := ne64 h.n2
  have hn3 := ne64 h.n3
  have hn5 := ne64 h.n5
  unfold hvals at k0 k1 k2 k3 ⊢
  obtain ⟨W0, e0⟩ : ∃ W0, (w.alloc (.cells #[.slice x.p.a x.p.n x.p.c, .int .i64 h.n1, .int .i64 h.n2, .int .i64 h.n3, .slice x.t.a x.t.n x.t.c, .int .i64 h.n5, .slice x.s.a x.s.n x.s.c, .slice x.r.a x.r.n x.r.c, .slice x.g.a x.g.n x.g.c, .slice x.e.a x.e.n x.e.c, .slice x.k.a x.k.n x.k.c] 26)).alloc (.cells #[.slice y.p.a y.p.n y.p.c, .int .i64 h.n1, .int .i64 h.n2, .int .i64 h.n3, .slice y.t.a y.t.n y.t.c, .int .i64 h.n5, .slice y.s.a y.s.n y.s.c, .slice y.r.a y.r.n y.r.c, .slice y.g.a y.g.n y.g.c, .slice y.e.a y.e.n y.e.c, .slice y.k.a y.k.n y.k.c] 26) = W0 := ⟨_, rfl⟩
  rw [e0] at k0 k1 k2 k3
  have hg : w.heap.size + 1 < W0.heap.size := by omega
  go_enter Try.func23, Try.ntmps23
  have x0 := k0.cell 0
  have y0 := k1.cell 0
  simp only [List.getElem?_cons_zero] at x0 y0
  go_wp2_with (rw [e0])
  clear e0
  refine (eqB_yes _ _ _ _ _ _ h.p _ ((unhide HO) _ k2).p ((unhide HQ) _ k2).p (unhide HM).p).mono ?_
  rintro e w1 ⟨rfl, b1⟩
  have k0 := k0.below b1 k0.lt
  have k1 := k1.below b1 k1.lt
  have k2 := k2.trans (b1.mono k2.size)
  clear b1
  have x1 := k0.cell 1
  have y1 := k1.cell 1
  have x2 := k0.cell 2
  have y2 := k1.cell 2
  have x3 := k0.cell 3
  have y3 := k1.cell 3
  have x4 := k0.cell 4
  have y4 := k1.cell 4
  simp only [List.getElem?_cons_zero, List.getElem?_cons_succ] at x1 y1 x2 y2 x3 y3 x4 y4
  go_wp2_with fail
  refine (eqB_yes _ _ _ _ _ _ h.t _ ((unhide HO) _ k2).t ((unhide HQ) _ k2).t (unhide HM).t).mono ?_
  rintro e w2 ⟨rfl, b2⟩
  have k0 := k0.below b2 k0.lt
  have k1 := k1.below b2 k1.lt
  have k2 := k2.trans (b2.mono k2.size)
  clear b2
  have x5 := k0.cell 5
  have y5 := k1.cell 5
  have x6 := k0.cell 6
  have y6 := k1.cell 6
  simp only [List.getElem?_cons_zero, List.getElem?_cons_succ] at x5 y5 x6 y6
  go_wp2_with fail
  refine (eqBs_yes _ _ _ _ _ _ h.s _ ((unhide HO) _ k2).s ((unhide HQ) _ k2).s (unhide HM).s (unhide HM).sz).mono ?_
  rintro e w3 ⟨rfl, b3⟩
  have k0 := k0.below b3 k0.lt
  have k1 := k1.below b3 k1.lt
  have k2 := k2.trans (b3.mono k2.size)
  clear b3
  have x7 := k0.cell 7
  have y7 := k1.cell 7
  simp only [List.getElem?_cons_zero, List.getElem?_cons_succ] at x7 y7
  go_wp2_with fail
  refine (eqB_yes _ _ _ _ _ _ h.r _ ((unhide HO) _ k2).r ((unhide HQ) _ k2).r (unhide HM).r).mono ?_
  rintro e w4 ⟨rfl, b4⟩
  have k0 := k0.below b4 k0.lt
  have k1 := k1.below b4 k1.lt
  have k2 := k2.trans (b4.mono k2.size)
  clear b4
  have x8 := k0.cell 8
  have y8 := k1.cell 8
  simp only [List.getElem?_cons_zero, List.getElem?_cons_succ] at x8 y8
  go_wp2_with fail
  refine (eqB_yes _ _ _ _ _ _ h.g _ ((unhide HO) _ k2).g ((unhide HQ) _ k2).g (unhide HM).g).mono ?_
  rintro e w5 ⟨rfl, b5⟩
  have k0 := k0.below b5 k0.lt
  have k1 := k1.below b5 k1.lt
  have k2 := k2.trans (b5.mono k2.size)
  clear b5
  have x9 := k0.cell 9
  have y9 := k1.cell 9
  simp only [List.getElem?_cons_zero, List.getElem?_cons_succ] at x9 y9
  go_wp2_with fail
  refine (eqB_yes _ _ _ _ _ _ h.e _ ((unhide HO) _ k2).e ((unhide HQ) _ k2).e (unhide HM).e).mono ?_
  rintro e w6 ⟨rfl, b6⟩
  have k0 := k0.below b6 k0.lt
  have k1 := k1.below b6 k1.lt
  have k2 := k2.trans (b6.mono k2.size)
  clear b6
  have x10 := k0.cell 10
  have y10 := k1.cell 10
  simp only [List.getElem?_cons_zero, List.getElem?_cons_succ] at x10 y10
  go_wp2_with fail
  refine (eqBs_yes _ _ _ _ _ _ h.k _ ((unhide HO) _ k2).k ((unhide HQ) _ k2).k (unhide HM).k (unhide HM).kz).mono ?_
  rintro e w7 ⟨rfl, b7⟩
  have k0 := k0.below b7 k0.lt
  have k1 := k1.below b7 k1.lt
  have k2 := k2.trans (b7.mono k2.size)
  clear b7
  go_wp2_with fail
  go_ret
  exact ⟨rfl, k2⟩

end Go.Proofs.Ytihkhjbbfpnndaa
