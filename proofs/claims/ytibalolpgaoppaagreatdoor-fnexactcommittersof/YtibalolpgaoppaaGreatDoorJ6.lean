/- What is proved here: plain facts on headers that a call made in memory of their own, told by colours of blocks: what is written in blocks of one colour leaves all else. -/
import Derived.Test.YtibalolpgaoppaaGreatDoorJ5
import Derived.Deep.DeepCutAuto
import Derived.Test.YtibalolpgaoppaaGreatDoorJ1
import Derived.OpenShut
import Derived.Laws.OwnMore
namespace Go.Proofs.YtibalolpgaoppaaGreatDoor
open Go.RowKit
set_option linter.unusedVariables false
set_option maxRecDepth 100000

/-- A slice's value. -/
def Sl.v (s : Sl) : Value := .slice s.a s.n s.c

/-- Bytes in memory of their own, at or beyond B; its block has the colour j. -/
structure CB (w : World) (B : Nat) (d : Nat → Nat) (j : Nat) (s : Sl) (z : List Int) : Prop where
  len : s.n = z.length
  rng : ∀ x ∈ z, 0 ≤ x ∧ x ≤ 255
  own : w.ownsRow B 5 1 (.slice s.a s.n s.c) s.n (z.map (Value.int .u8))
  col : ∀ g, (Value.slice s.a s.n s.c).ownBlock = some g → d g = j

/-- Nothing is written below B, nor in blocks whose colour is not in S. -/
def OnlyD (B : Nat) (d : Nat → Nat) (S : Nat → Prop) (w w' : World) : Prop := Below B w w' ∧ ∀ g, g < w.heap.size → ¬ S (d g) → w'.heap[g]? = w.heap[g]?

theorem OnlyD.refl (B : Nat) (d : Nat → Nat) (S : Nat → Prop) (w : World) : OnlyD B d S w w := ⟨Below.refl _ _, fun _ _ _ => rfl⟩

theorem OnlyD.trans {B : Nat} {d : Nat → Nat} {S : Nat → Prop} {a b c : World} (h : OnlyD B d S a b) (k : OnlyD B d S b c) : OnlyD B d S a c :=
  ⟨h.1.trans k.1, fun g hg hs => (k.2 g (Nat.lt_of_lt_of_le hg h.1.size) hs).trans (h.2 g hg hs)⟩

theorem OnlyD.mono {B : Nat} {d : Nat → Nat} {S T : Nat → Prop} {a b : World} (h : OnlyD B d S a b) (hs : ∀ c, S c → T c) : OnlyD B d T a b := ⟨h.1, fun g hg ht => h.2 g hg (fun q => ht (hs _ q))⟩

theorem OnlyD.below {B C : Nat} {d : Nat → Nat} {S : Nat → Prop} {a b : World} (h : Below C a b) (hC : a.heap.size ≤ C) (hB : B ≤ C) : OnlyD B d S a b := ⟨h.mono hB, fun g hg _ => h.block g (Nat.lt_of_lt_of_le hg hC)⟩

theorem OnlyD.grown {B j : Nat} {d : Nat → Nat} {a b : World} {row : Option Nat} (hg : a.grownBy b row) (hB : B ≤ a.heap.size) (hr : ∀ g, row = some g → B ≤ g ∧ d g = j) : OnlyD B d (fun c => c = j) a b :=
  ⟨(Below.refl B a).grown hg hB (fun k e => (hr k e).1), fun g hl hs => hg.block g hl (fun e => hs (hr g e.symm).2)⟩

theorem own_keep {B D : Nat} {d : Nat → Nat} {S : Nat → Prop} {w w' : World} {e : TypeId} {size n j : Nat} {v : Value} {xs : List Value} (ho : w.ownsRow D e size v n xs) (h : OnlyD B d S w w') (hc : ∀ g, v.ownBlock = some g → d g = j) (hj : ¬ S j) : w'.ownsRow D e size v n xs := by
  refine ⟨ho.1, ?_⟩
  rcases ho.2 with h' | ⟨g, cap, cur, h1, h2, h3, h4⟩
  · exact .inl h'
  · have hd := hc g (by rw [h1]; rfl)
    exact .inr ⟨g, cap, cur, h1, h2, (h.2 g (lt_of_block h3) (by rw [hd]; exact hj)).trans h3, h4⟩

theorem own_lt {w : World} {B : Nat} {e : TypeId} {size n : Nat} {v : Value} {xs : List Value} (h : w.ownsRow B e size v n xs) (g : Nat) (hg : v.ownBlock = some g) : B ≤ g ∧ g < w.heap.size := h.lt g hg

theorem CB.only {B D j : Nat} {d : Nat → Nat} {S : Nat → Prop} {w w' : World} {s : Sl} {z : List Int} (h : CB w B d j s z) (o : OnlyD D d S w w') (hj : ¬ S j) : CB w' B d j s z := ⟨h.len, h.rng, own_keep h.own o h.col hj, h.col⟩

theorem CB.below {B C j : Nat} {d : Nat → Nat} {w w' : World} {s : Sl} {z : List Int} (h : CB w B d j s z) (hb : Below C w w') (hC : w.heap.size ≤ C) : CB w' B d j s z := ⟨h.len, h.rng, own_below h.own hb hC, h.col⟩

theorem CB.recol {B j : Nat} {d d' : Nat → Nat} {w : World} {s : Sl} {z : List Int} (h : CB w B d j s z) (hd : ∀ g, g < w.heap.size → d' g = d g) : CB w B d' j s z := ⟨h.len, h.rng, h.own, fun g hg => by rw [hd g (own_lt h.own g hg).2]; exact h.col g hg⟩

theorem CB.base {B B' j : Nat} {d : Nat → Nat} {w : World} {s : Sl} {z : List Int} (h : CB w B d j s z) (hB : B' ≤ B) : CB w B' d j s z := ⟨h.len, h.rng, ownsRow_base h.own hB, h.col⟩

theorem CB.brow {B j : Nat} {d : Nat → Nat} {w : World} {s : Sl} {z : List Int} (h : CB w B d j s z) : BRow w s.a s.n z := BRow.own2 h.own h.rng

theorem CB.nil (w : World) (B : Nat) (d : Nat → Nat) (j : Nat) : CB w B d j ⟨none, 0, 0⟩ [] := ⟨rfl, fun x hx => by simp at hx, World.ownsRow_nil _ _ _ _, fun g hg => by cases hg⟩

/-- What is made anew has any colour that one gives it. -/
theorem CB.new {w w' : World} {B j : Nat} {d : Nat → Nat} {a : Option Addr} {n c : Nat} {z : List Int} (hn : n = z.length) (hr : ∀ x ∈ z, 0 ≤ x ∧ x ≤ 255) (h : w'.ownsRow w.heap.size 5 1 (.slice a n c) n (z.map (Value.int .u8))) (hB : B ≤ w.heap.size) : CB w' B (fun g => if w.heap.size ≤ g then j else d g) j ⟨a, n, c⟩ z :=
  ⟨hn, hr, ownsRow_base h hB, fun g hg => if_pos (own_lt h g hg).1⟩

/-- A list of slices of bytes in memory of its own: its row has the colour r, its slices c, c + 3 and so on. -/
def CS (w : World) (B : Nat) (d : Nat → Nat) (r c : Nat) (s : Sl) (zss : List (List Int)) : Prop :=
  s.n = zss.length ∧ ∃ es : List Sl, es.length = zss.length ∧ w.ownsRow B 22 1 (.slice s.a s.n s.c) s.n (es.map Sl.v) ∧ (∀ g, (Value.slice s.a s.n s.c).ownBlock = some g → d g = r) ∧
    ∀ i e z, es[i]? = some e → zss[i]? = some z → CB w B d (c + 3 * i) e z

theorem CS.only {B D r c : Nat} {d : Nat → Nat} {S : Nat → Prop} {w w' : World} {s : Sl} {zss : List (List Int)} (h : CS w B d r c s zss) (o : OnlyD D d S w w') (hr : ¬ S r) (hc : ∀ i, ¬ S (c + 3 * i)) : CS w' B d r c s zss := by
  obtain ⟨h1, es, h2, h3, h4, h5⟩ := h
  exact ⟨h1, es, h2, own_keep h3 o h4 hr, h4, fun i e z he hz => (h5 i e z he hz).only o (hc i)⟩

theorem CS.below {B C r c : Nat} {d : Nat → Nat} {w w' : World} {s : Sl} {zss : List (List Int)} (h : CS w B d r c s zss) (hb : Below C w w') (hC : w.heap.size ≤ C) : CS w' B d r c s zss := by
  obtain ⟨h1, es, h2, h3, h4, h5⟩ := h
  exact ⟨h1, es, h2, own_below h3 hb hC, h4, fun i e z he hz => (h5 i e z he hz).below hb hC⟩

theorem CS.recol {B r c : Nat} {d d' : Nat → Nat} {w : World} {s : Sl} {zss : List (List Int)} (h : CS w B d r c s zss) (hd : ∀ g, g < w.heap.size → d' g = d g) : CS w B d' r c s zss := by
  obtain ⟨h1, es, h2, h3, h4, h5⟩ := h
  exact ⟨h1, es, h2, h3, fun g hg => by rw [hd g (own_lt h3 g hg).2]; exact h4 g hg, fun i e z he hz => (h5 i e z he hz).recol hd⟩

theorem CS.base {B B' r c : Nat} {d : Nat → Nat} {w : World} {s : Sl} {zss : List (List Int)} (h : CS w B d r c s zss) (hB : B' ≤ B) : CS w B' d r c s zss := by
  obtain ⟨h1, es, h2, h3, h4, h5⟩ := h
  exact ⟨h1, es, h2, ownsRow_base h3 hB, h4, fun i e z he hz => (h5 i e z he hz).base hB⟩

theorem CS.nil (w : World) (B : Nat) (d : Nat → Nat) (r c : Nat) : CS w B d r c ⟨none, 0, 0⟩ [] := ⟨rfl, [], rfl, World.ownsRow_nil _ _ _ _, (fun g hg => by cases hg), fun i e z he => by simp at he⟩

/-- The slice at a place, and what becomes of the list when it alone is written. -/
theorem CS.at {B r c : Nat} {d : Nat → Nat} {w : World} {s : Sl} {zss : List (List Int)} (h : CS w B d r c s zss) {k : Nat} {z : List Int} (hz : zss[k]? = some z) (hr : r ≠ c + 3 * k) :
    ∃ (g : Nat) (e : Sl), s.a = some ⟨g, 0, none⟩ ∧ w.cell? ⟨g, k, none⟩ = some (.slice e.a e.n e.c) ∧ CB w B d (c + 3 * k) e z ∧
      ∀ w' z', OnlyD B d (fun q => q = c + 3 * k) w w' → CB w' B d (c + 3 * k) e z' → CS w' B d r c s (zss.set k z') := by
  obtain ⟨h1, es, h2, h3, h4, h5⟩ := h
  have hk := (List.getElem?_eq_some_iff.1 hz).1
  obtain ⟨e, he⟩ : ∃ e, es[k]? = some e := ⟨_, List.getElem?_eq_getElem (by omega)⟩
  obtain ⟨g, cap, hv⟩ := own_some h3 (by omega)
  have hv2 := hv
  simp only [Value.slice.injEq] at hv2
  refine ⟨g, e, hv2.1, ?_, h5 k e z he hz, fun w' z' ho hc => ⟨by rw [List.length_set]; exact h1, es, by rw [List.length_set]; exact h2, own_keep h3 ho h4 hr, h4, fun i e' z'' he' hz'' => ?_⟩⟩
  · rw [hv] at h3
    rw [h3.cellAt k (by omega), List.getElem?_map, he]
    rfl
  · rw [List.getElem?_set] at hz''
    by_cases hik : k = i
    · subst hik
      rw [if_pos rfl, if_pos hk] at hz''
      obtain rfl := Option.some.inj hz''
      obtain rfl := Option.some.inj (he.symm.trans he')
      exact hc
    · rw [if_neg hik] at hz''
      exact (h5 i e' z'' he' hz'').only ho (fun q => hik (by omega))

theorem CS.bsrow {B r c : Nat} {d : Nat → Nat} {w : World} {s : Sl} {zss : List (List Int)} (h : CS w B d r c s zss) (hl : ∀ z ∈ zss, z.length ≤ maxLen) : BsRow w s.a s.n zss := by
  obtain ⟨h1, es, h2, h3, h4, h5⟩ := h
  refine ⟨h1.symm, hl, fun hp => ?_⟩
  obtain ⟨g, cap, hv⟩ := own_some h3 hp
  have hv2 := hv
  simp only [Value.slice.injEq] at hv2
  refine ⟨g, 0, hv2.1, fun i z hz => ?_⟩
  have hi := (List.getElem?_eq_some_iff.1 hz).1
  obtain ⟨e, he⟩ : ∃ e, es[i]? = some e := ⟨_, List.getElem?_eq_getElem (by omega)⟩
  rw [hv] at h3
  exact ⟨e.a, e.n, e.c, by rw [Nat.zero_add, h3.cellAt i (by omega), List.getElem?_map, he]; rfl, (h5 i e z he hz).brow⟩

/-- A header in memory of its own. -/
structure CH (w : World) (B : Nat) (d : Nat → Nat) (x : HS) (h : Hd) : Prop where
  p : CB w B d 0 x.p h.p
  t : CB w B d 1 x.t h.t
  s : CS w B d 5 7 x.s h.s
  r : CB w B d 2 x.r h.r
  g : CB w B d 3 x.g h.g
  e : CB w B d 4 x.e h.e
  k : CS w B d 6 8 x.k h.k

theorem CH.below {B C : Nat} {d : Nat → Nat} {w w' : World} {x : HS} {h : Hd} (o : CH w B d x h) (hb : Below C w w') (hC : w.heap.size ≤ C) : CH w' B d x h :=
  ⟨o.p.below hb hC, o.t.below hb hC, o.s.below hb hC, o.r.below hb hC, o.g.below hb hC, o.e.below hb hC, o.k.below hb hC⟩

theorem CH.base {B B' : Nat} {d : Nat → Nat} {w : World} {x : HS} {h : Hd} (o : CH w B d x h) (hB : B' ≤ B) : CH w B' d x h :=
  ⟨o.p.base hB, o.t.base hB, o.s.base hB, o.r.base hB, o.g.base hB, o.e.base hB, o.k.base hB⟩

theorem CH.recol {B : Nat} {d d' : Nat → Nat} {w : World} {x : HS} {h : Hd} (o : CH w B d x h) (hd : ∀ g, g < w.heap.size → d' g = d g) : CH w B d' x h :=
  ⟨o.p.recol hd, o.t.recol hd, o.s.recol hd, o.r.recol hd, o.g.recol hd, o.e.recol hd, o.k.recol hd⟩

theorem OnlyD.sblk {B : Nat} {d : Nat → Nat} {S : Nat → Prop} {w w' : World} (h : OnlyD B d S w w') {g : Nat} {vs : List Value} {T : TypeId} (hs : SBlk w g vs T) (hg : ¬ S (d g)) : SBlk w' g vs T := (h.2 g hs.lt hg).trans hs

theorem CH.hok {B : Nat} {d : Nat → Nat} {w : World} {x : HS} {h : Hd} (o : CH w B d x h) (m : HSm h) : HOk w x h :=
  ⟨o.p.brow, o.t.brow, o.s.bsrow (fun z hz => by have := m.sz z hz; unfold maxLen; omega), o.r.brow, o.g.brow, o.e.brow, o.k.bsrow (fun z hz => by have := m.kz z hz; unfold maxLen; omega)⟩

/-- The marks of a list of slices. -/
def mkss : Int → List (List Int) → List (List Int)
  | _, [] => []
  | k, z :: r => marks k z.length :: mkss (k + (z.length : Nat)) r

theorem mkss_length : ∀ (zss : List (List Int)) (k : Int), (mkss k zss).length = zss.length
  | [], k => rfl
  | z :: r, k => by rw [mkss, List.length_cons, List.length_cons, mkss_length r]

theorem mkss_at : ∀ (zss : List (List Int)) (k : Int) (i : Nat) (z : List Int), zss[i]? = some z → (mkss k zss)[i]? = some (marks (k + (bsum (zss.take i) : Nat)) z.length)
  | [], k, i, z, h => by simp at h
  | a :: r, k, 0, z, h => by
    simp at h
    subst h
    simp [mkss, bsum]
  | a :: r, k, i + 1, z, h => by
    rw [List.getElem?_cons_succ] at h
    rw [mkss, List.getElem?_cons_succ, mkss_at r _ i z h]
    have e : bsum ((a :: r).take (i + 1)) = a.length + bsum (r.take i) := by simp [bsum]
    rw [e]
    congr 2
    omega

/-- The marks of a header. -/
def mkH (k : Int) (h : Hd) : Hd :=
  { h with
    p := marks k h.p.length
    t := marks (k + (h.p.length : Nat)) h.t.length
    s := mkss (k + (h.p.length : Nat) + (h.t.length : Nat)) h.s
    r := marks (k + (h.p.length : Nat) + (h.t.length : Nat) + (bsum h.s : Nat)) h.r.length
    g := marks (k + (h.p.length : Nat) + (h.t.length : Nat) + (bsum h.s : Nat) + (h.r.length : Nat)) h.g.length
    e := marks (k + (h.p.length : Nat) + (h.t.length : Nat) + (bsum h.s : Nat) + (h.r.length : Nat) + (h.g.length : Nat)) h.e.length
    k := mkss (k + (h.p.length : Nat) + (h.t.length : Nat) + (bsum h.s : Nat) + (h.r.length : Nat) + (h.g.length : Nat) + (h.e.length : Nat)) h.k }

end Go.Proofs.YtibalolpgaoppaaGreatDoor

/- What is proved here: the contracts of the laws' helper functions that mark a list or a header that a call made, and look for the marks later (markByteSS, markHeader, heldByteSS, heldHeader). -/
namespace Go.Proofs.YtibalolpgaoppaaGreatDoor
open Go.RowKit
set_option linter.unusedVariables false
set_option maxRecDepth 100000

theorem take_drop_at (m l : List (List Int)) (k : Nat) (h : m.length = l.length) : (m.take k ++ l.drop k)[k]? = l[k]? := by
  by_cases hk : k ≤ m.length
  · rw [List.getElem?_append_right (by rw [List.length_take]; omega), List.length_take, Nat.min_eq_left hk, Nat.sub_self, List.getElem?_drop, Nat.add_zero]
  · rw [List.getElem?_eq_none (by rw [List.length_append, List.length_take, List.length_drop]; omega), List.getElem?_eq_none (by omega)]

theorem take_drop_set (m l : List (List Int)) (k : Nat) (x : List Int) (h : m.length = l.length) (hx : m[k]? = some x) : (m.take k ++ l.drop k).set k x = m.take (k + 1) ++ l.drop (k + 1) := by
  obtain ⟨hk, e⟩ := List.getElem?_eq_some_iff.1 hx
  have hl : (m.take k).length = k := by rw [List.length_take]; omega
  rw [List.set_append, if_neg (by omega), hl, Nat.sub_self, List.drop_eq_getElem_cons (by omega), List.set_cons_zero, List.take_succ_eq_append_getElem hk, e, List.append_assoc]
  rfl

theorem markB_col (B j : Nat) (d : Nat → Nat) (s : Sl) (z : List Int) (k0 : Int) (w : World) (h : CB w B d j s z) (hB : B ≤ w.heap.size) (hn : z.length ≤ 1048576) (hk0 : 0 ≤ k0) (hk1 : k0 ≤ 1099511627776) :
    Calls Tryz.prog 73 #[.slice s.a s.n s.c, .int .i64 k0] w fun e w' => e = .returned (.int .i64 (k0 + (z.length : Nat))) ∧ CB w' B d j s (marks k0 z.length) ∧ OnlyD B d (fun c => c = j) w w' := by
  have hl := h.len
  refine (markByteS_own B s.n s.c s.a z k0 w h.own (by omega) hk0 hk1).mono ?_
  rintro e w' ⟨rfl, ho, hg⟩
  rw [hl] at ho
  refine ⟨by rw [hl], ⟨by rw [marks_length]; exact hl, marks_range _ _, by rw [hl]; exact ho, h.col⟩, OnlyD.grown hg hB (fun g e => ⟨(own_lt h.own g e).1, h.col g e⟩)⟩

set_option maxHeartbeats 4000000 in
theorem markSS_col (B r c : Nat) (d : Nat → Nat) (s : Sl) (zss : List (List Int)) (k0 : Int) (w : World) (h : CS w B d r c s zss) (hr : ∀ i, r ≠ c + 3 * i) (hB : B ≤ w.heap.size) (hl : zss.length ≤ 1048576) (hs : bsum zss ≤ 1048576) (hk0 : 0 ≤ k0) (hk1 : k0 ≤ 16777216) :
    Calls Tryz.prog 74 #[.slice s.a s.n s.c, .int .i64 k0] w fun e w' => e = .returned (.int .i64 (k0 + (bsum zss : Nat))) ∧ CS w' B d r c s (mkss k0 zss) ∧ OnlyD B d (fun q => ∃ i, q = c + 3 * i) w w' := by
  have hsn := h.1
  have HSN := hide (bsum_snoc zss)
  have HLE := hide (bsum_le zss)
  have HMA := hide (mkss_at zss k0)
  have HML := hide (mkss_length zss k0)
  have HM := hide h
  have HR := hide hr
  obtain ⟨len, hlen⟩ : ∃ len, len = zss.length := ⟨_, rfl⟩
  have HLEN := hide hlen
  rw [hsn]
  rw [← hlen] at hl hsn ⊢
  clear h hr hlen
  have HSL := hide hsn
  clear hsn
  generalize hsc : s.c = sc
  have HSC := hide hsc
  clear hsc
  generalize hsa : s.a = sa
  have HSA := hide hsa
  clear hsa
  go_enter Tryz.func74, Tryz.ntmps74
  go_wp2_with fail
  go_loopw [1, 5] (fun q i wr => ∃ k : Nat, k ≤ len ∧ i = .int .i64 k ∧ q = .int .i64 (k0 + (bsum (zss.take k) : Nat)) ∧ CS wr B d r c s ((mkss k0 zss).take k ++ zss.drop k) ∧ OnlyD B d (fun q => ∃ i, q = c + 3 * i) w wr) (fun _ i _ => len - (intOf i).toNat)
  case atStart => exact ⟨0, Nat.zero_le _, rfl, by simp [bsum], by simpa using unhide HM, OnlyD.refl _ _ _ _⟩
  case round =>
    obtain ⟨k, hk, rfl, rfl, hm, ho⟩ := hrel
    clear HM
    by_cases hlt : k < len
    · obtain ⟨z, hit⟩ : ∃ z, zss[k]? = some z := ⟨_, List.getElem?_eq_getElem (by rw [← unhide HLEN]; exact hlt)⟩
      have hat := (take_drop_at (mkss k0 zss) zss k (unhide HML)).trans hit
      obtain ⟨g, e, ha, hc, hcb, hst⟩ := hm.at hat ((unhide HR) k)
      have hma := (unhide HMA) k z hit
      have hsn := (unhide HSN) k z hit
      have hle1 := (unhide HLE) (k + 1)
      have hzl : z.length ≤ 1048576 := by omega
      obtain ⟨ks, hks⟩ : ∃ ks, ks = bsum (zss.take k) := ⟨_, rfl⟩
      rw [← hks] at hsn hma ⊢
      have hksl : ks ≤ 1048576 := by omega
      have hBr : B ≤ wr.heap.size := Nat.le_trans hB ho.1.size
      have HC := hide (markB_col B (c + 3 * k) d e z (k0 + ks) wr hcb hBr hzl (by omega) (by omega))
      have HST : Hid (∀ w', CB w' B d (c + 3 * k) e (marks (k0 + ks) z.length) → OnlyD B d (fun q => q = c + 3 * k) wr w' → CS w' B d r c s ((mkss k0 zss).take (k + 1) ++ zss.drop (k + 1)) ∧ OnlyD B d (fun q => ∃ i, q = c + 3 * i) w w') := fun w' hb hw => by
        have := hst w' _ hw hb
        rw [take_drop_set _ _ k _ (unhide HML) hma] at this
        exact ⟨this, ho.trans (hw.mono (fun q e => ⟨k, e⟩))⟩
      have HSN2 : Hid (bsum (zss.take (k + 1)) = ks + z.length) := hsn
      have k1 : (0 : Int) ≤ (k : Int) := by omega
      have k2 : (k : Int) < (len : Int) := by omega
      rw [unhide HSA] at ha
      subst ha
      generalize z.length = zl at HC HST HSN2 hzl
      clear hsn hle1 hit ho hks hm hat hcb hst hma
      go_wp2_with fail
      refine (unhide HC).mono ?_
      rintro e w2 ⟨rfl, b2, g2⟩
      obtain ⟨m2, o2⟩ := (unhide HST) w2 b2 g2
      have HM2 := hide m2
      have HO2 := hide o2
      clear m2 o2 g2 b2
      go_wp2_with fail
      go_roundw
      case rel => exact ⟨k + 1, by omega, by go_num, by rw [unhide HSN2]; congr 1; omega, unhide HM2, unhide HO2⟩
      case measure => simp [intOf]; omega
    · obtain rfl : k = len := by omega
      have et : zss.take k = zss := List.take_of_length_le (by rw [← unhide HLEN]; exact Nat.le_refl _)
      have em : (mkss k0 zss).take k ++ zss.drop k = mkss k0 zss := by rw [List.take_of_length_le (by rw [unhide HML, ← unhide HLEN]; exact Nat.le_refl _), List.drop_eq_nil_of_le (by rw [← unhide HLEN]; exact Nat.le_refl _), List.append_nil]
      rw [et]
      rw [em] at hm
      have HO := hide ho
      have HM := hide hm
      clear hm ho et em
      go_wp2_with fail
      go_ret
      exact ⟨rfl, unhide HM, unhide HO⟩

set_option maxHeartbeats 4000000 in
theorem heldSS_any (a : Option Addr) (len cap : Nat) (zss : List (List Int)) (k0 : Int) (w : World) (h : BsRow w a len (mkss k0 zss)) (hl : zss.length ≤ 1048576) (hs : bsum zss ≤ 1048576) (hk0 : 0 ≤ k0) (hk1 : k0 ≤ 16777216) :
    Calls Tryz.prog 75 #[.slice a len cap, .int .i64 k0] w fun e w' => e = .returned (.int .i64 (k0 + (bsum zss : Nat))) ∧ w' = w := by
  have hlen : zss.length = len := by rw [← mkss_length zss k0]; exact h.1
  have HSN := hide (bsum_snoc zss)
  have HLE := hide (bsum_le zss)
  have HMA := hide (mkss_at zss k0)
  have HLEN := hide hlen
  have HROW := hide h
  rw [hlen] at hl
  clear h hlen
  go_enter Tryz.func75, Tryz.ntmps75
  go_wp2_with fail
  go_loopw [1, 5] (fun q i wr => ∃ k : Nat, k ≤ len ∧ i = .int .i64 k ∧ q = .int .i64 (k0 + (bsum (zss.take k) : Nat)) ∧ wr = w) (fun _ i _ => len - (intOf i).toNat)
  case atStart => exact ⟨0, Nat.zero_le _, rfl, by simp [bsum], rfl⟩
  case round =>
    obtain ⟨k, hk, rfl, rfl, rfl⟩ := hrel
    by_cases hlt : k < len
    · obtain ⟨z, hit⟩ : ∃ z, zss[k]? = some z := ⟨_, List.getElem?_eq_getElem (by rw [unhide HLEN]; exact hlt)⟩
      obtain ⟨b, off, rfl, _, hat⟩ := (unhide HROW).at (by omega)
      obtain ⟨s1, n1, d1, c0, r1⟩ := hat k _ ((unhide HMA) k z hit)
      have hn1 : z.length = n1 := by have := r1.1; rw [marks_length] at this; exact this
      subst hn1
      have hsn := (unhide HSN) k z hit
      have hle1 := (unhide HLE) (k + 1)
      have hzl : z.length ≤ 1048576 := by omega
      obtain ⟨ks, hks⟩ : ∃ ks, ks = bsum (zss.take k) := ⟨_, rfl⟩
      rw [← hks] at hsn r1 ⊢
      have hksl : ks ≤ 1048576 := by omega
      have HC := hide (heldByteS_any z.length d1 s1 (k0 + ks) wr r1 (by omega) (by omega) (by omega))
      have HSN2 : Hid (bsum (zss.take (k + 1)) = ks + z.length) := hsn
      have k1 : (0 : Int) ≤ (k : Int) := by omega
      have k2 : (k : Int) < (len : Int) := by omega
      generalize z.length = zl at c0 HC HSN2 hzl
      have k3 : decide (k0 + (ks : Int) + (zl : Int) < 0) = false := decide_eq_false (by omega)
      clear hsn hle1 hit hks hat r1
      go_wp2_with fail
      refine (unhide HC).mono ?_
      rintro e w2 ⟨rfl, rfl⟩
      go_wp2_with fail
      go_roundw
      case rel => exact ⟨k + 1, by omega, by go_num, by rw [unhide HSN2]; congr 1; omega, by first | exact rfl | trivial⟩
      case measure => simp [intOf]; omega
    · obtain rfl : k = len := by omega
      have et : zss.take k = zss := List.take_of_length_le (by rw [unhide HLEN]; exact Nat.le_refl _)
      rw [et]
      clear et
      go_wp2_with fail
      go_ret
      exact ⟨rfl, rfl⟩

end Go.Proofs.YtibalolpgaoppaaGreatDoor

/- What is proved here: the two cells of a SignersResult, and the contracts of the laws' helper functions over one (eqSignersResult, markSignersResult, heldSignersResult). -/
namespace Go.Proofs.YtibalolpgaoppaaGreatDoor
open Go.RowKit
set_option linter.unusedVariables false
set_option maxRecDepth 100000

/-- The two cells of a SignersResult. -/
def srvals (c : Int) (s : Sl) : Array Value := #[.int .i64 c, .slice s.a s.n s.c]

theorem srcells {W : World} {g : Nat} {c : Int} {s : Sl} {T : TypeId} (b : SBlk W g (srvals c s).toList T) : W.cell? ⟨g, 0, none⟩ = some (.int .i64 c) ∧ W.cell? ⟨g, 1, none⟩ = some (.slice s.a s.n s.c) := ⟨b.cell 0, b.cell 1⟩

set_option maxHeartbeats 4000000 in
theorem markSR_col (q : Int) (B : Nat) (d : Nat → Nat) (s : Sl) (zss : List (List Int)) (k0 : Int) (w : World) (h : CS w B d 6 8 s zss) (hB : B ≤ w.heap.size) (hl : zss.length ≤ 1048576) (hs : bsum zss ≤ 1048576) (hk0 : 0 ≤ k0) (hk1 : k0 ≤ 1048576) (hd : ∀ g, w.heap.size ≤ g → d g = 9) :
    Calls Tryz.prog 31 #[.agg (srvals q s), .int .i64 k0] w fun e w' => e = .returned (.int .i64 (k0 + (bsum zss : Nat))) ∧ CS w' B d 6 8 s (mkss k0 zss) ∧ OnlyD B d (fun q => ∃ i, q = 8 + 3 * i) w w' := by
  have kb := SBlk.new w (srvals q s) 42
  have bb := below_alloc w (.cells (srvals q s) 42)
  obtain ⟨W0, eb⟩ : ∃ W0, w.alloc (.cells (srvals q s) 42) = W0 := ⟨_, rfl⟩
  rw [eb] at kb bb
  have D1 := hide (markSS_col B 6 8 d s zss k0 W0 (h.below bb (Nat.le_refl _)) (fun i => by omega) (Nat.le_trans hB bb.size) hl hs hk0 (by omega))
  have on := hide (OnlyD.below (B := B) (d := d) (S := fun q => ∃ i, q = 8 + 3 * i) bb (Nat.le_refl _) hB)
  obtain ⟨u0, u1⟩ := srcells kb
  have EB := hide eb
  clear eb kb bb h hd
  unfold srvals at EB ⊢
  generalize bsum zss = tot at D1 hs ⊢
  go_enter Tryz.func31, Tryz.ntmps31
  go_upto_region 1 with fail
  rw [unhide EB]
  clear EB
  go_wp2_with fail
  refine (unhide D1).mono ?_
  rintro e w2 ⟨rfl, c2, o2⟩
  have HO := hide ((unhide on).trans o2)
  have HC := hide c2
  clear o2 c2
  go_wp2_with fail
  go_ret
  exact ⟨rfl, unhide HC, unhide HO⟩

set_option maxHeartbeats 4000000 in
theorem heldSR_any (q : Int) (s : Sl) (zss : List (List Int)) (k0 : Int) (w : World) (h : BsRow w s.a s.n (mkss k0 zss)) (hl : zss.length ≤ 1048576) (hs : bsum zss ≤ 1048576) (hk0 : 0 ≤ k0) (hk1 : k0 ≤ 1048576) :
    Calls Tryz.prog 32 #[.agg (srvals q s), .int .i64 k0] w fun e w' => e = .returned (.int .i64 (k0 + (bsum zss : Nat))) ∧ Below w.heap.size w w' := by
  have kb := SBlk.new w (srvals q s) 42
  have bb := below_alloc w (.cells (srvals q s) 42)
  obtain ⟨W0, eb⟩ : ∃ W0, w.alloc (.cells (srvals q s) 42) = W0 := ⟨_, rfl⟩
  rw [eb] at kb bb
  have D1 := hide (heldSS_any s.a s.n s.c zss k0 W0 (h.below bb (Nat.le_refl _)) hl hs hk0 (by omega))
  have HBB := hide bb
  obtain ⟨u0, u1⟩ := srcells kb
  have EB := hide eb
  clear eb kb bb h
  unfold srvals at EB ⊢
  generalize bsum zss = tot at D1 hs ⊢
  obtain ⟨K, eK⟩ : ∃ K : Int, K = k0 + (tot : Nat) := ⟨_, rfl⟩
  have dK : decide (K < 0) = false := decide_eq_false (by omega)
  rw [← eK] at D1 ⊢
  clear eK hs
  go_enter Tryz.func32, Tryz.ntmps32
  go_upto_region 1 with fail
  rw [unhide EB]
  clear EB
  go_wp2_with fail
  refine (unhide D1).mono ?_
  rintro e w2 ⟨rfl, rfl⟩
  go_wp2_with fail
  go_ret
  exact ⟨rfl, unhide HBB⟩

set_option maxHeartbeats 4000000 in
theorem eqSR_same (c : Int) (s t : Sl) (zss : List (List Int)) (w : World) (o : BsRow w s.a s.n zss) (q : BsRow w t.a t.n zss) (hl : zss.length ≤ 1048576) (hz : ∀ z ∈ zss, z.length ≤ 1048576) :
    Calls Tryz.prog 29 #[.agg (srvals c s), .agg (srvals c t)] w fun e w' => e = .returned (.bool true) ∧ Below w.heap.size w w' := by
  have ka := SBlk.new w (srvals c s) 42
  have ba := below_alloc w (.cells (srvals c s) 42)
  have za : (w.alloc (.cells (srvals c s) 42)).heap.size = w.heap.size + 1 := by simp
  obtain ⟨W0, ea⟩ : ∃ W0, w.alloc (.cells (srvals c s) 42) = W0 := ⟨_, rfl⟩
  rw [ea] at ka ba za
  have kb := SBlk.new W0 (srvals c t) 42
  have k1 := ka.next (.cells (srvals c t) 42)
  have bb := ba.trans ((below_alloc W0 (.cells (srvals c t) 42)).mono ba.size)
  obtain ⟨W1, eb⟩ : ∃ W1, W0.alloc (.cells (srvals c t) 42) = W1 := ⟨_, rfl⟩
  rw [za] at kb
  rw [eb] at kb k1 bb
  have hsl := o.1
  have htl := q.1
  have D0 := eqByteSS_any s.a t.a s.n s.c t.n t.c zss zss W1 (o.below bb (Nat.le_refl _)) (q.below bb (Nat.le_refl _)) (by omega) (by omega) hz hz
  have D1 : Hid (Calls Tryz.prog 72 #[.slice s.a s.n s.c, .slice t.a t.n t.c] W1 fun e w' => e = .returned (.bool true) ∧ Below W1.heap.size W1 w') := D0.mono (by rintro e w' ⟨rfl, n, rfl⟩; exact ⟨by rw [show sameBs zss zss = true from by first | exact sameBs_self _ | exact sameBs_refl _ | simp [sameBs]], below_drewN (Below.refl _ _) n⟩)
  have HBB := hide bb
  have h1 : (c != c) = false := by simp
  obtain ⟨u0, u1⟩ := srcells k1
  obtain ⟨v0, v1⟩ := srcells kb
  have EA := hide ea
  have EB := hide eb
  clear ea eb ka kb k1 ba bb o q za D0 hsl htl
  unfold srvals at EA EB ⊢
  go_enter Tryz.func29, Tryz.ntmps29
  go_upto_region 1 with fail
  rw [unhide EA, unhide EB]
  clear EA EB
  go_wp2_with fail
  refine (unhide D1).mono ?_
  rintro e w2 ⟨rfl, b2⟩
  have HB2 := hide ((unhide HBB).trans (b2.mono (unhide HBB).size))
  clear b2
  go_wp2_with fail
  go_ret
  exact ⟨rfl, unhide HB2⟩

end Go.Proofs.YtibalolpgaoppaaGreatDoor

/- What is proved here: the contract of the laws' helper function markHeader: it writes into the header's own blocks alone. -/
namespace Go.Proofs.YtibalolpgaoppaaGreatDoor
open Go.RowKit
set_option linter.unusedVariables false
set_option maxRecDepth 100000

theorem BUpto.only {B C D : Nat} {w w' : World} (h : OnlyH B C w w') {g : Nat} {zss : List (List Int)} {k len : Nat} {T : TypeId} (hs : BUpto w g zss k len T D) (hg : C ≤ g) : BUpto w' g zss k len T D := by
  obtain ⟨vs, f, h1, h2, h3, h4, h5⟩ := hs
  refine ⟨vs, f, h.sblk h1 hg, h2, h3, h4, fun i z hi hz => ?_⟩
  obtain ⟨q1, q2⟩ := h5 i z hi hz
  exact ⟨q1, h.own q2 (by omega)⟩

/-- As HOwn, all below C. -/
def HOwnC (w : World) (B C : Nat) (x : HS) (h : Hd) : Prop :=
  ∃ g1 g2 g3 g4 g5 g6 g7 : Nat, x = ⟨⟨some ⟨g1, 0, none⟩, h.p.length, h.p.length⟩, ⟨some ⟨g2, 0, none⟩, h.t.length, h.t.length⟩, ⟨some ⟨g3, 0, none⟩, h.s.length, h.s.length⟩, ⟨some ⟨g4, 0, none⟩, h.r.length, h.r.length⟩, ⟨some ⟨g5, 0, none⟩, h.g.length, h.g.length⟩, ⟨some ⟨g6, 0, none⟩, h.e.length, h.e.length⟩, ⟨some ⟨g7, 0, none⟩, h.k.length, h.k.length⟩⟩ ∧
    (B ≤ g1 ∧ g1 < g2 ∧ g2 < g3 ∧ g3 < g4 ∧ g4 < g5 ∧ g5 < g6 ∧ g6 < g7 ∧ g7 < C) ∧
    w.ownsRow g1 5 1 (.slice (some ⟨g1, 0, none⟩) h.p.length h.p.length) h.p.length (h.p.map (Value.int .u8)) ∧
    w.ownsRow g2 5 1 (.slice (some ⟨g2, 0, none⟩) h.t.length h.t.length) h.t.length (h.t.map (Value.int .u8)) ∧
    OBss w g3 h.s 22 g4 ∧
    w.ownsRow g4 5 1 (.slice (some ⟨g4, 0, none⟩) h.r.length h.r.length) h.r.length (h.r.map (Value.int .u8)) ∧
    w.ownsRow g5 5 1 (.slice (some ⟨g5, 0, none⟩) h.g.length h.g.length) h.g.length (h.g.map (Value.int .u8)) ∧
    w.ownsRow g6 5 1 (.slice (some ⟨g6, 0, none⟩) h.e.length h.e.length) h.e.length (h.e.map (Value.int .u8)) ∧
    OBss w g7 h.k 22 C

theorem HOwn.c {w : World} {B : Nat} {x : HS} {h : Hd} (o : HOwn w B x h) : HOwnC w B w.heap.size x h := by
  obtain ⟨g1, g2, g3, g4, g5, g6, g7, e, ⟨a1, a2, a3, a4, a5, a6, a7⟩, o1, o2, o3, o4, o5, o6, o7⟩ := o
  exact ⟨g1, g2, g3, g4, g5, g6, g7, e, ⟨a1, a2, a3, a4, a5, a6, a7, BUpto.lt o7⟩, o1, o2, o3, o4, o5, o6, o7⟩

theorem HOwnC.below {w w' : World} {B C D : Nat} {x : HS} {h : Hd} (o : HOwnC w B C x h) (hb : Below D w w') (hD : w.heap.size ≤ D) : HOwnC w' B C x h := by
  obtain ⟨g1, g2, g3, g4, g5, g6, g7, e, a, o1, o2, o3, o4, o5, o6, o7⟩ := o
  exact ⟨g1, g2, g3, g4, g5, g6, g7, e, a, own_below o1 hb hD, own_below o2 hb hD, BUpto.below o3 hb hD, own_below o4 hb hD, own_below o5 hb hD, own_below o6 hb hD, BUpto.below o7 hb hD⟩

set_option maxRecDepth 100000 in
set_option maxHeartbeats 4000000 in
theorem markHeader_any (x : HS) (h : Hd) (B C : Nat) (w : World) (o : HOwnC w B C x h) (hC : C ≤ w.heap.size) (m : HSm h) (ht : hTot h ≤ 1048576) :
    Calls Tryz.prog 30 #[.agg (hvals x h), .int .i64 1] w fun e w' => e = .returned (.int .i64 (1 + (hTot h : Nat))) ∧ OnlyH B C w w' := by
  have kb := SBlk.new w (hvals x h) 26
  have bb := below_alloc w (.cells (hvals x h) 26)
  obtain ⟨W0, eb⟩ : ∃ W0, w.alloc (.cells (hvals x h) 26) = W0 := ⟨_, rfl⟩
  rw [eb] at kb bb
  obtain ⟨g1, g2, g3, g4, g5, g6, g7, rfl, ⟨a1, a2, a3, a4, a5, a6, a7, a8⟩, o1, o2, o3, o4, o5, o6, o7⟩ := o.below bb (Nat.le_refl _)
  have on : OnlyH B C w W0 := ⟨bb.mono (by omega), fun q hq hl => bb.block q hl⟩
  have tp : h.p.length ≤ 1048576 := m.p
  unfold hTot at ht
  have HTOT : Hid ((hTot h : Nat) = h.p.length + h.t.length + bsum h.s + h.r.length + h.g.length + h.e.length + bsum h.k) := rfl
  generalize hTot h = tot at HTOT ⊢
  have hgb : C ≤ w.heap.size := hC
  unfold hvals at kb eb ⊢
  have HM := hide m
  clear o m
  go_enter Tryz.func30, Tryz.ntmps30
  go_upto_region 1 with (rw [eb])
  try rw [eb]
  clear eb bb
  have c1 := kb.cell 0
  simp only [List.getElem?_cons_zero] at c1
  have D1 := hide (markB_only g1 h.p.length h.p 1 W0 o1 (by omega) (by omega) (by omega))
  go_wp2_with fail
  refine (unhide D1).mono ?_
  rintro e w1 ⟨rfl, n1⟩
  have o2 := n1.own o2 (by omega)
  have o3 := BUpto.only n1 o3 (by omega)
  have o4 := n1.own o4 (by omega)
  have o5 := n1.own o5 (by omega)
  have o6 := n1.own o6 (by omega)
  have o7 := BUpto.only n1 o7 (by omega)
  have kb := n1.sblk kb (by omega)
  have on := on.trans (n1.mono (B' := B) (C' := C) (by omega) (by omega))
  clear n1 c1 D1
  have c2 := kb.cell 4
  simp only [List.getElem?_cons_zero, List.getElem?_cons_succ] at c2
  obtain ⟨K1, eK1⟩ : ∃ K : Int, K = 1 + (h.p.length : Nat) := ⟨_, rfl⟩
  have bK1 : 0 ≤ K1 ∧ K1 ≤ 1048577 := by omega
  have D2 := hide (markB_only g2 h.t.length h.t K1 w1 o2 (by omega) (by omega) (by omega))
  have EK1 := hide eK1
  clear eK1
  go_wp2_with fail
  rw [← unhide EK1]
  refine (unhide D2).mono ?_
  rintro e w2 ⟨rfl, n2⟩
  have o3 := BUpto.only n2 o3 (by omega)
  have o4 := n2.own o4 (by omega)
  have o5 := n2.own o5 (by omega)
  have o6 := n2.own o6 (by omega)
  have o7 := BUpto.only n2 o7 (by omega)
  have kb := n2.sblk kb (by omega)
  have on := on.trans (n2.mono (B' := B) (C' := C) (by omega) (by omega))
  clear n2 c2 D2
  have c3 := kb.cell 6
  simp only [List.getElem?_cons_zero, List.getElem?_cons_succ] at c3
  obtain ⟨K2, eK2⟩ : ∃ K : Int, K = K1 + (h.t.length : Nat) := ⟨_, rfl⟩
  have bK2 : 0 ≤ K2 ∧ K2 ≤ 1048577 := by have q1 := unhide EK1; omega
  have D3 := hide (markSS_any g3 h.s 22 g4 K2 w2 o3 (by omega) (unhide HM).s (by omega) (by omega) (by omega))
  have EK2 := hide eK2
  clear eK2
  go_wp2_with fail
  rw [← unhide EK2]
  refine (unhide D3).mono ?_
  rintro e w3 ⟨rfl, n3⟩
  have o4 := n3.own o4 (by omega)
  have o5 := n3.own o5 (by omega)
  have o6 := n3.own o6 (by omega)
  have o7 := BUpto.only n3 o7 (by omega)
  have kb := n3.sblk kb (by omega)
  have on := on.trans (n3.mono (B' := B) (C' := C) (by omega) (by omega))
  clear n3 c3 D3
  have c4 := kb.cell 7
  simp only [List.getElem?_cons_zero, List.getElem?_cons_succ] at c4
  obtain ⟨K3, eK3⟩ : ∃ K : Int, K = K2 + (bsum h.s : Nat) := ⟨_, rfl⟩
  have bK3 : 0 ≤ K3 ∧ K3 ≤ 1048577 := by have q1 := unhide EK1; have q2 := unhide EK2; omega
  have D4 := hide (markB_only g4 h.r.length h.r K3 w3 o4 (by omega) (by omega) (by omega))
  have EK3 := hide eK3
  clear eK3
  go_wp2_with fail
  rw [← unhide EK3]
  refine (unhide D4).mono ?_
  rintro e w4 ⟨rfl, n4⟩
  have o5 := n4.own o5 (by omega)
  have o6 := n4.own o6 (by omega)
  have o7 := BUpto.only n4 o7 (by omega)
  have kb := n4.sblk kb (by omega)
  have on := on.trans (n4.mono (B' := B) (C' := C) (by omega) (by omega))
  clear n4 c4 D4
  have c5 := kb.cell 8
  simp only [List.getElem?_cons_zero, List.getElem?_cons_succ] at c5
  obtain ⟨K4, eK4⟩ : ∃ K : Int, K = K3 + (h.r.length : Nat) := ⟨_, rfl⟩
  have bK4 : 0 ≤ K4 ∧ K4 ≤ 1048577 := by have q1 := unhide EK1; have q2 := unhide EK2; have q3 := unhide EK3; omega
  have D5 := hide (markB_only g5 h.g.length h.g K4 w4 o5 (by omega) (by omega) (by omega))
  have EK4 := hide eK4
  clear eK4
  go_wp2_with fail
  rw [← unhide EK4]
  refine (unhide D5).mono ?_
  rintro e w5 ⟨rfl, n5⟩
  have o6 := n5.own o6 (by omega)
  have o7 := BUpto.only n5 o7 (by omega)
  have kb := n5.sblk kb (by omega)
  have on := on.trans (n5.mono (B' := B) (C' := C) (by omega) (by omega))
  clear n5 c5 D5
  have c6 := kb.cell 9
  simp only [List.getElem?_cons_zero, List.getElem?_cons_succ] at c6
  obtain ⟨K5, eK5⟩ : ∃ K : Int, K = K4 + (h.g.length : Nat) := ⟨_, rfl⟩
  have bK5 : 0 ≤ K5 ∧ K5 ≤ 1048577 := by have q1 := unhide EK1; have q2 := unhide EK2; have q3 := unhide EK3; have q4 := unhide EK4; omega
  have D6 := hide (markB_only g6 h.e.length h.e K5 w5 o6 (by omega) (by omega) (by omega))
  have EK5 := hide eK5
  clear eK5
  go_wp2_with fail
  rw [← unhide EK5]
  refine (unhide D6).mono ?_
  rintro e w6 ⟨rfl, n6⟩
  have o7 := BUpto.only n6 o7 (by omega)
  have kb := n6.sblk kb (by omega)
  have on := on.trans (n6.mono (B' := B) (C' := C) (by omega) (by omega))
  clear n6 c6 D6
  have c7 := kb.cell 10
  simp only [List.getElem?_cons_zero, List.getElem?_cons_succ] at c7
  obtain ⟨K6, eK6⟩ : ∃ K : Int, K = K5 + (h.e.length : Nat) := ⟨_, rfl⟩
  have bK6 : 0 ≤ K6 ∧ K6 ≤ 1048577 := by have q1 := unhide EK1; have q2 := unhide EK2; have q3 := unhide EK3; have q4 := unhide EK4; have q5 := unhide EK5; omega
  have D7 := hide (markSS_any g7 h.k 22 C K6 w6 o7 (by omega) (unhide HM).k (by omega) (by omega) (by omega))
  have EK6 := hide eK6
  clear eK6
  go_wp2_with fail
  rw [← unhide EK6]
  refine (unhide D7).mono ?_
  rintro e w7 ⟨rfl, n7⟩
  have kb := n7.sblk kb (by omega)
  have on := on.trans (n7.mono (B' := B) (C' := C) (by omega) (by omega))
  clear n7 c7 D7
  go_wp2_with fail
  go_ret
  refine ⟨ret_int ?_, on⟩
  have t := unhide HTOT
  have t1 := unhide EK1
  have t2 := unhide EK2
  have t3 := unhide EK3
  have t4 := unhide EK4
  have t5 := unhide EK5
  have t6 := unhide EK6
  omega

end Go.Proofs.YtibalolpgaoppaaGreatDoor

/- What is proved here: plain facts on slices of items in a world, and how an argument that is such a slice reads; they hold for every program. -/
namespace Go.Proofs.YtibalolpgaoppaaGreatDoor
open Go.RowKit
set_option linter.unusedVariables false
set_option maxRecDepth 100000

/-- An item: whether it is a list, its parent, its bytes. -/
structure It where
  l : Bool
  p : Int
  z : List Int

/-- The item 'it' lies at three cells. -/
def ItAt (w : World) (b o : Nat) (it : It) : Prop :=
  ∃ sa sl sc, w.cell? ⟨b, o, none⟩ = some (.bool it.l) ∧ w.cell? ⟨b, o + 1, none⟩ = some (.int .i64 it.p) ∧ w.cell? ⟨b, o + 2, none⟩ = some (.slice sa sl sc) ∧ BRow w sa sl it.z

/-- What the numbers of an item keep to. -/
def ItOk (it : It) : Prop := -9223372036854775808 ≤ it.p ∧ it.p ≤ 9223372036854775807 ∧ it.z.length ≤ maxLen

/-- The slice 'a', of 'len' items, reads as 'its'. -/
def ItRow (w : World) (a : Option Addr) (len : Nat) (its : List It) : Prop :=
  its.length = len ∧ (∀ it ∈ its, ItOk it) ∧ (0 < len → ∃ b off, a = some ⟨b, off, none⟩ ∧ ∀ i it, its[i]? = some it → ItAt w b (off + i * 3) it)

theorem ItAt.lt {w : World} {b o : Nat} {it : It} (h : ItAt w b o it) : b < w.heap.size := by
  obtain ⟨_, _, _, h, _⟩ := h
  exact lt_of_cell h

theorem ItAt.below {w w' : World} {b o : Nat} {it : It} (h : ItAt w b o it) {B : Nat} (hb : Below B w w') (hB : w.heap.size ≤ B) : ItAt w' b o it := by
  have hl := Nat.lt_of_lt_of_le h.lt hB
  obtain ⟨sa, sl, sc, h1, h2, h3, h4⟩ := h
  exact ⟨sa, sl, sc, (hb.cell hl).trans h1, (hb.cell hl).trans h2, (hb.cell hl).trans h3, h4.below hb hB⟩

theorem ItRow.below {w w' : World} {a : Option Addr} {len : Nat} {its : List It} (h : ItRow w a len its) {B : Nat} (hb : Below B w w') (hB : w.heap.size ≤ B) : ItRow w' a len its := by
  refine ⟨h.1, h.2.1, fun hp => ?_⟩
  obtain ⟨b, off, e, k⟩ := h.2.2 hp
  exact ⟨b, off, e, fun i it hi => (k i it hi).below hb hB⟩

theorem ItRow.at {w : World} {a : Option Addr} {len : Nat} {its : List It} (h : ItRow w a len its) (hp : 0 < len) :
    ∃ b off, a = some ⟨b, off, none⟩ ∧ b < w.heap.size ∧ ∀ i it, its[i]? = some it → ItAt w b (off + i * 3) it := by
  obtain ⟨b, off, e, k⟩ := h.2.2 hp
  refine ⟨b, off, e, ?_, k⟩
  have hl : 0 < its.length := by rw [h.1]; exact hp
  exact (k 0 its[0] (List.getElem?_eq_getElem hl)).lt

theorem ItRow.bytes {w : World} {a : Option Addr} {len : Nat} {its : List It} (h : ItRow w a len its) : ∀ it ∈ its, ∀ x ∈ it.z, 0 ≤ x ∧ x ≤ 255 := by
  intro it hit
  obtain ⟨i, hi⟩ := List.getElem?_of_mem hit
  have hl := (List.getElem?_eq_some_iff.1 hi).1
  obtain ⟨b, off, _, k⟩ := h.2.2 (by rw [← h.1]; omega)
  obtain ⟨_, _, _, _, _, _, hb⟩ := k i it hi
  exact hb.2.1

theorem add_add (x : Addr) (hx : x.spot = none) (i j : Nat) : (x.add i).add j = ⟨x.block, x.off + i + j, none⟩ := by
  obtain ⟨b, o, s⟩ := x
  simp only at hx
  subst hx
  rw [add_none, add_none]

/-- How an argument that is a slice of items reads. -/
theorem open_items {H : Type} {enc : TypeId × Value → H} {P : Program} {w : World} {sp : Nat → Bool} {held : Bool} {t e tb ti ts tu : TypeId} {fs : Array Field} {f0 f1 f2 : Field} {v : Value} {d : DataW H} {ps : List MemPlace}
    (ht : P.underlying t = some (.slice e)) (he : P.underlying e = some (.struct fs)) (hc : P.cellsOf e = 3)
    (h0 : fs[0]? = some f0) (h1 : fs[1]? = some f1) (h2 : fs[2]? = some f2)
    (o0 : f0.offset = 0) (o1 : f1.offset = 1) (o2 : f2.offset = 2) (t0 : f0.type = tb) (t1 : f1.type = ti) (t2 : f2.type = ts)
    (c0 : P.cellsOf tb = 1) (c1 : P.cellsOf ti = 1) (c2 : P.cellsOf ts = 1) (cu : P.cellsOf tu = 1)
    (ub : P.underlying tb = some .bool) (ui : P.underlying ti = some (.int .i64)) (us : P.underlying ts = some (.slice tu)) (uu : P.underlying tu = some (.int .u8))
    (hv : ∃ a len cap, v = .slice a len cap) (h : DataW.Trod enc P w 0 sp held t v d ps) : ∃ a len cap its, v = .slice a len cap ∧ len ≤ maxLen ∧ ItRow w a len its := by
  obtain ⟨a, len, cap, rfl⟩ := hv
  obtain ⟨fuel, h⟩ := h
  rcases DataW.trod_slice ht h with ⟨hn, _⟩ | ⟨x, len', cap', elems, rest, n, _, hcs, _, _, hl, hm, hlen, hel, _⟩
  · have hn' : [Value.slice a len cap] = [Value.slice none 0 0] := hn
    simp only [List.cons.injEq, Value.slice.injEq, and_true] at hn'
    obtain ⟨rfl, rfl, rfl⟩ := hn'
    exact ⟨none, 0, 0, [], rfl, Nat.zero_le _, rfl, fun it hi => by simp at hi, fun hp => absurd hp (Nat.lt_irrefl _)⟩
  · have hcs' : [Value.slice a len cap] = [Value.slice (some x) len' cap'] := hcs
    simp only [List.cons.injEq, Value.slice.injEq, and_true] at hcs'
    obtain ⟨rfl, rfl, rfl⟩ := hcs'
    have each : ∀ i, i < len → ∃ it : It, ItOk it ∧ x.spot = none ∧ ItAt w x.block (x.off + i * 3) it := by
      intro i hi
      have hE := hel i hi
      have hi' : i < elems.length := by omega
      rw [List.getElem?_eq_getElem hi', Option.bind_eq_some_iff, hc] at hE
      obtain ⟨cs, hcells, htr⟩ := hE
      obtain ⟨_, hcl, hcell⟩ := World.cells?_some hcells
      obtain ⟨xs, m, _, _, _, hxl, hf⟩ := DataW.trod_struct he htr
      have hs3 : 3 ≤ xs.length := by
        rw [hxl]
        have := (Array.getElem?_eq_some_iff.1 h2).1
        omega
      have g0 := hf 0 f0 h0
      have g1 := hf 1 f1 h1
      have g2 := hf 2 f2 h2
      rw [List.getElem?_eq_getElem (by omega)] at g0 g1 g2
      rw [t0, o0, c0] at g0
      rw [t1, o1, c1] at g1
      rw [t2, o2, c2] at g2
      obtain ⟨bl, e0, _⟩ := DataW.trod_bool ub g0
      obtain ⟨pn, e1, _, hwf⟩ := DataW.trod_int ui g1
      match cs, hcl with
      | [x0, x1, x2], _ =>
        simp only [List.drop_zero, List.drop_succ_cons, List.take_succ_cons, List.take_zero, List.cons.injEq, and_true] at e0 e1 g2
        subst e0 e1
        have k0 : w.cell? ((x.add (i * 3)).add 0) = some (.bool bl) := hcell 0 (by omega)
        have k1 : w.cell? ((x.add (i * 3)).add 1) = some (.int .i64 pn) := hcell 1 (by omega)
        have k2 : w.cell? ((x.add (i * 3)).add 2) = some x2 := hcell 2 (by omega)
        have hsp : x.spot = none := by
          have hk := World.cell?_spot k0
          by_cases hi0 : i * 3 = 0
          · simpa [Addr.add, hi0] using hk
          · cases i with
            | zero => simp at hi0
            | succ j =>
              have hE0 := hel 0 (by omega)
              rw [List.getElem?_eq_getElem (by omega), Option.bind_eq_some_iff, hc] at hE0
              obtain ⟨cs0, hcells0, _⟩ := hE0
              obtain ⟨_, hcl0, hcell0⟩ := World.cells?_some hcells0
              have q := hcell0 0 (by omega)
              rw [List.getElem?_eq_getElem (by omega)] at q
              simpa [Addr.add] using World.cell?_spot q
        rw [add_add x hsp] at k0 k1 k2
        have hb := bounds_i64 hwf
        rcases ChangeShapes.open_ints us uu cu g2 with ⟨e2, _⟩ | ⟨sa, sl, sc, zs, e2, _, hsl, hsm, hzl, _, hzc, hzw⟩
        · simp only [List.cons.injEq, and_true] at e2
          subst e2
          exact ⟨⟨bl, pn, []⟩, ⟨hb.1, hb.2, Nat.zero_le _⟩, hsp, none, 0, 0, k0, k1, k2, rfl, fun n hn => by simp at hn, fun _ => rfl, fun y hy => by cases hy⟩
        · simp only [List.cons.injEq, and_true] at e2
          subst e2
          have hzl' : sl ≤ zs.length := by rw [hzl]; split <;> omega
          refine ⟨⟨bl, pn, zs.take sl⟩, ⟨hb.1, hb.2, by simp; omega⟩, hsp, some sa, sl, sc, k0, k1, k2, by simp; omega, fun n hn => ?_, (fun e => (by cases e)), fun y hy j hj => ?_⟩
          · exact bounds_u8 (hzw n (List.mem_of_mem_take hn))
          · cases hy
            rw [hzc j (by omega), getD_at _ j (by omega), getD_at _ j (by simp; omega), List.getElem_take]
    have build : ∀ m, m ≤ len → ∃ its : List It, its.length = m ∧ (∀ it ∈ its, ItOk it) ∧ ∀ i it, its[i]? = some it → ItAt w x.block (x.off + i * 3) it := by
      intro m
      induction m with
      | zero => intro _; exact ⟨[], rfl, fun it hi => by simp at hi, fun i it hi => by simp at hi⟩
      | succ m ih =>
        intro hm'
        obtain ⟨its, q1, q2, q3⟩ := ih (by omega)
        obtain ⟨it, r1, _, r2⟩ := each m (by omega)
        refine ⟨its ++ [it], by simp [q1], fun y hy => ?_, fun i y hy => ?_⟩
        · rcases List.mem_append.1 hy with h' | h'
          · exact q2 y h'
          · simp at h'; subst h'; exact r1
        · rcases Nat.lt_or_ge i m with h' | h'
          · rw [List.getElem?_append_left (by omega)] at hy
            exact q3 i y hy
          · have hi : i < (its ++ [it]).length := (List.getElem?_eq_some_iff.1 hy).1
            simp at hi
            obtain rfl : i = m := by omega
            rw [List.getElem?_append_right (by omega), q1, Nat.sub_self] at hy
            simp at hy
            subst hy
            exact r2
    obtain ⟨its, q1, q2, q3⟩ := build len (Nat.le_refl _)
    refine ⟨some x, len, cap, its, rfl, Nat.le_trans hl hm, q1, q2, fun hp => ⟨x.block, x.off, ?_, q3⟩⟩
    obtain ⟨_, _, hsp, _⟩ := each 0 hp
    obtain ⟨b, o, s⟩ := x
    simp only at hsp
    subst hsp
    rfl

end Go.Proofs.YtibalolpgaoppaaGreatDoor

/- What is proved here: plain facts on lists of items: how great they are, and whether two are the same; no program is named. -/
namespace Go.Proofs.YtibalolpgaoppaaGreatDoor
open Go.RowKit
set_option linter.unusedVariables false
set_option maxRecDepth 100000

/-- What is left of a number behind the bytes of items: below 0 at the first time: -1. -/
def szIts : Int → List It → Int
  | left, [] => left
  | left, it :: r => if left - it.z.length < 0 then -1 else szIts (left - it.z.length) r

def szAll (left : Int) (its : List It) : Int := if left - its.length < 0 then -1 else szIts (left - its.length) its

/-- All bytes of items. -/
def bytesOf (its : List It) : Nat := (its.map fun it => it.z.length).sum

theorem szIts_bd (its : List It) : ∀ left, 0 ≤ left → szIts left its ≤ left := by
  induction its with
  | nil => intro left _; exact Int.le_refl _
  | cons it r ih =>
    intro left h
    unfold szIts
    split
    · omega
    · exact Int.le_trans (ih _ (by omega)) (by omega)

theorem szIts_ge (its : List It) : ∀ left, 0 ≤ left → -1 ≤ szIts left its := by
  induction its with
  | nil => intro left h; unfold szIts; omega
  | cons it r ih =>
    intro left h
    unfold szIts
    split
    · omega
    · exact ih _ (by omega)

theorem szIts_sum (its : List It) : ∀ left, 0 ≤ szIts left its → (bytesOf its : Int) ≤ left := by
  induction its with
  | nil => intro left h; simpa [szIts, bytesOf] using h
  | cons it r ih =>
    intro left h
    unfold szIts at h
    split at h
    · omega
    · have := ih _ h
      simp [bytesOf] at this ⊢
      omega

theorem bytesOf_mem {its : List It} {it : It} (h : it ∈ its) : it.z.length ≤ bytesOf its := by
  induction its with
  | nil => simp at h
  | cons a r ih =>
    rcases List.mem_cons.1 h with e | e
    · subst e; simp [bytesOf]
    · have := ih e; simp [bytesOf] at this ⊢; omega

theorem szAll_ok {left : Int} {its : List It} (h : 0 ≤ szAll left its) : (its.length : Int) + bytesOf its ≤ left := by
  unfold szAll at h
  split at h
  · omega
  · have := szIts_sum its _ h
    omega

theorem szAll_le (left : Int) (its : List It) (h : 0 ≤ left) : szAll left its ≤ left := by
  unfold szAll
  split
  · omega
  · exact Int.le_trans (szIts_bd its _ (by omega)) (by omega)

/-- One item more. -/
theorem szIts_step (its : List It) (k : Nat) (it : It) (left : Int) (h : its[k]? = some it) : szIts left (its.drop k) = if left - it.z.length < 0 then -1 else szIts (left - it.z.length) (its.drop (k + 1)) := by
  obtain ⟨hk, e⟩ := List.getElem?_eq_some_iff.1 h
  rw [List.drop_eq_getElem_cons hk, e]
  rfl

/-- Whether two items, two lists of them, are the same. -/
def sameIt (a b : It) : Bool := a.l == b.l && a.p == b.p && sameB a.z b.z
def sameIts : List It → List It → Bool
  | [], [] => true
  | a :: ar, b :: bs => sameIt a b && sameIts ar bs
  | _, _ => false

theorem sameIt_self (a : It) : sameIt a a = true := by simp [sameIt, sameB]

theorem sameIts_self (a : List It) : sameIts a a = true := by
  induction a with
  | nil => rfl
  | cons a r ih => simp [sameIts, sameIt_self, ih]

theorem sameIts_length : ∀ (a b : List It), sameIts a b = true → a.length = b.length
  | [], [], _ => rfl
  | [], _ :: _, h => by simp [sameIts] at h
  | _ :: _, [], h => by simp [sameIts] at h
  | a :: ar, b :: bs, h => by
    simp [sameIts] at h
    simp [sameIts_length ar bs h.2]

theorem sameIts_step (a b : List It) (k : Nat) (x y : It) (hx : a[k]? = some x) (hy : b[k]? = some y) : sameIts (a.drop k) (b.drop k) = (sameIt x y && sameIts (a.drop (k + 1)) (b.drop (k + 1))) := by
  obtain ⟨h1, e1⟩ := List.getElem?_eq_some_iff.1 hx
  obtain ⟨h2, e2⟩ := List.getElem?_eq_some_iff.1 hy
  rw [List.drop_eq_getElem_cons h1, List.drop_eq_getElem_cons h2, e1, e2]
  rfl

theorem sameIts_end (a b : List It) (k : Nat) (h1 : a.length = k) (h2 : b.length = k) : sameIts (a.drop k) (b.drop k) = true := by
  rw [List.drop_eq_nil_of_le (by omega), List.drop_eq_nil_of_le (by omega)]
  rfl

theorem sameIts_len (a b : List It) (h : a.length ≠ b.length) : sameIts a b = false := by
  rw [Bool.eq_false_iff]
  intro e
  exact h (sameIts_length a b e)

end Go.Proofs.YtibalolpgaoppaaGreatDoor

/- What is proved here: plain facts on slices of items that a call made itself: the block of the items, and a block of bytes for each; they hold for every program. -/
namespace Go.Proofs.YtibalolpgaoppaaGreatDoor
open Go.RowKit
set_option linter.unusedVariables false
set_option maxRecDepth 100000

/-- A block that holds these values, none of it frozen. -/
def VBlk (w : World) (g : Nat) (vs : List Value) (T : TypeId) : Prop := w.heap[g]? = some (.cells vs.toArray T (0, 0))

theorem VBlk.cell {w : World} {g : Nat} {vs : List Value} {T : TypeId} (h : VBlk w g vs T) (i : Nat) : w.cell? ⟨g, i, none⟩ = vs[i]? := by
  simp [World.cell?, show w.heap[g]? = _ from h]

theorem VBlk.free {w : World} {g : Nat} {vs : List Value} {T : TypeId} (h : VBlk w g vs T) (i : Nat) : w.frozen? ⟨g, i, none⟩ = false := frozen_of_row w g i _ T h

theorem VBlk.set {w : World} {g : Nat} {vs : List Value} {T : TypeId} (h : VBlk w g vs T) (i : Nat) (x : Value) : VBlk (w.setCell ⟨g, i, none⟩ x) g (vs.set i x) T := by
  have := heap_setCell_same w g i _ T x h
  unfold VBlk
  rw [this]
  simp

theorem VBlk.lt {w : World} {g : Nat} {vs : List Value} {T : TypeId} (h : VBlk w g vs T) : g < w.heap.size := lt_of_block h

theorem VBlk.below {w w' : World} {g C : Nat} {vs : List Value} {T : TypeId} (h : VBlk w g vs T) (hb : Below C w w') (hC : g < C) : VBlk w' g vs T := by
  unfold VBlk
  rw [hb.block g hC]
  exact h

theorem size_set (w : World) (a : Addr) (v : Value) : (w.setCell a v).heap.size = w.heap.size := by simp [World.setCell]

/-- Of the items 'its' the first k lie in the block g, each with its bytes in a block of its own, all these blocks rising. -/
def OUpto (w : World) (g : Nat) (its : List It) (k len : Nat) (T : TypeId) (C : Nat) : Prop :=
  ∃ (vs : List Value) (f : Nat → Nat), VBlk w g vs T ∧ vs.length = len * 3 ∧ (∀ i, i < k → g < f i ∧ f i < C) ∧ (∀ i j, i < j → j < k → f i < f j) ∧
    ∀ i it, i < k → its[i]? = some it → vs[i * 3]? = some (.bool it.l) ∧ vs[i * 3 + 1]? = some (.int .i64 it.p) ∧ vs[i * 3 + 2]? = some (.slice (some ⟨f i, 0, none⟩) it.z.length it.z.length) ∧
      w.ownsRow (g + 1) 5 1 (.slice (some ⟨f i, 0, none⟩) it.z.length it.z.length) it.z.length (it.z.map (Value.int .u8))

/-- All of them. -/
def OIts (w : World) (g : Nat) (its : List It) (T : TypeId) (C : Nat) : Prop := OUpto w g its its.length its.length T C

theorem OUpto.lt {w : World} {g : Nat} {its : List It} {k len : Nat} {T : TypeId} {C : Nat} (h : OUpto w g its k len T C) : g < w.heap.size := by
  obtain ⟨_, _, h, _⟩ := h
  exact h.lt

theorem OUpto.below {w w' : World} {g : Nat} {its : List It} {k len : Nat} {T : TypeId} {C : Nat} (h : OUpto w g its k len T C) {B : Nat} (hb : Below B w w') (hB : w.heap.size ≤ B) : OUpto w' g its k len T C := by
  obtain ⟨vs, f, h1, h2, h3, h4, h5⟩ := h
  refine ⟨vs, f, h1.below hb (Nat.lt_of_lt_of_le h1.lt hB), h2, h3, h4, fun i it hi hit => ?_⟩
  obtain ⟨q1, q2, q3, q4⟩ := h5 i it hi hit
  exact ⟨q1, q2, q3, own_below q4 hb hB⟩

theorem OUpto.zero {w : World} {g : Nat} {its : List It} {len : Nat} {T : TypeId} {vs : List Value} {C : Nat} (h : VBlk w g vs T) (hl : vs.length = len * 3) : OUpto w g its 0 len T C :=
  ⟨vs, fun _ => 0, h, hl, fun i hi => absurd hi (Nat.not_lt_zero _), fun i j _ hj => absurd hj (Nat.not_lt_zero _), fun i it hi => absurd hi (Nat.not_lt_zero _)⟩

/-- What is there at the place of the next one. -/
theorem OUpto.slot {w : World} {g : Nat} {its : List It} {k len : Nat} {T : TypeId} {C : Nat} (h : OUpto w g its k len T C) (hk : k < len) :
    (∃ u, w.cell? ⟨g, k * 3, none⟩ = some u) ∧ (∃ u, w.cell? ⟨g, k * 3 + 1, none⟩ = some u) ∧ (∃ u, w.cell? ⟨g, k * 3 + 2, none⟩ = some u) ∧ ∀ i, w.frozen? ⟨g, i, none⟩ = false := by
  obtain ⟨vs, f, h1, h2, _⟩ := h
  refine ⟨?_, ?_, ?_, fun i => h1.free i⟩
  all_goals
    rw [h1.cell]
    exact ⟨_, List.getElem?_eq_getElem (by omega)⟩

/-- One item more. -/
theorem OUpto.step {w w2 : World} {g m : Nat} {its : List It} {k len : Nat} {T : TypeId} {it : It} (h : OUpto w g its k len T w.heap.size) (hk : k < len) (hit : its[k]? = some it) (hb : Below w.heap.size w w2) (hm : w.heap.size ≤ m) (hm2 : m < w2.heap.size)
    (ho : w2.ownsRow (g + 1) 5 1 (.slice (some ⟨m, 0, none⟩) it.z.length it.z.length) it.z.length (it.z.map (Value.int .u8))) :
    OUpto (((w2.setCell ⟨g, k * 3, none⟩ (.bool it.l)).setCell ⟨g, k * 3 + 1, none⟩ (.int .i64 it.p)).setCell ⟨g, k * 3 + 2, none⟩ (.slice (some ⟨m, 0, none⟩) it.z.length it.z.length)) g its (k + 1) len T w2.heap.size := by
  have h' := h.below hb (Nat.le_refl _)
  have hgl := h.lt
  obtain ⟨vs, f, h1, h2, h3, h4, h5⟩ := h
  obtain ⟨q1, q2, q3⟩ : VBlk w2 g vs T ∧ (∀ i, i < k → f i < w.heap.size) ∧ True := ⟨h1.below hb h1.lt, fun i hi => (h3 i hi).2, trivial⟩
  have hlt : ∀ {B : Nat} {v : Value} {n : Nat} {xs : List Value} {W : World}, W.ownsRow (g + 1) 5 1 v n xs → ∀ i u, (W.setCell ⟨g, i, none⟩ u).ownsRow (g + 1) 5 1 v n xs := fun h i u => ownsRow_setCell_below h (Nat.lt_succ_self g) u
  refine ⟨((vs.set (k * 3) (.bool it.l)).set (k * 3 + 1) (.int .i64 it.p)).set (k * 3 + 2) (.slice (some ⟨m, 0, none⟩) it.z.length it.z.length), fun i => if i = k then m else f i, ((q1.set _ _).set _ _).set _ _, by simp [h2], fun i hi => ?_, fun i j hij hj => ?_, fun i jt hi hjt => ?_⟩
  · dsimp only
    split
    · exact ⟨by omega, hm2⟩
    · have := h3 i (by omega)
      exact ⟨this.1, Nat.lt_of_lt_of_le this.2 hb.size⟩
  · dsimp only
    rw [if_neg (by omega)]
    split
    · have := q2 i (by omega); omega
    · exact h4 i j hij (by omega)
  · dsimp only
    by_cases e : i = k
    · subst e
      rw [if_pos rfl]
      obtain rfl : jt = it := by rw [hit] at hjt; exact (Option.some.inj hjt).symm
      refine ⟨?_, ?_, ?_, hlt (B := 0) (hlt (B := 0) (hlt (B := 0) ho _ _) _ _) _ _⟩
      · rw [List.getElem?_set_ne (by omega), List.getElem?_set_ne (by omega), List.getElem?_set_self (by omega)]
      · rw [List.getElem?_set_ne (by omega), List.getElem?_set_self (by simp; omega)]
      · rw [List.getElem?_set_self (by simp; omega)]
    · rw [if_neg e]
      obtain ⟨p1, p2, p3, p4⟩ := h5 i jt (by omega) hjt
      refine ⟨?_, ?_, ?_, hlt (B := 0) (hlt (B := 0) (hlt (B := 0) (own_below p4 hb (Nat.le_refl _)) _ _) _ _) _ _⟩
      · rw [List.getElem?_set_ne (by omega), List.getElem?_set_ne (by omega), List.getElem?_set_ne (by omega)]; exact p1
      · rw [List.getElem?_set_ne (by omega), List.getElem?_set_ne (by omega), List.getElem?_set_ne (by omega)]; exact p2
      · rw [List.getElem?_set_ne (by omega), List.getElem?_set_ne (by omega), List.getElem?_set_ne (by omega)]; exact p3

/-- What is owned reads as items. -/
theorem OIts.row {w : World} {g : Nat} {its : List It} {T : TypeId} {C : Nat} (h : OIts w g its T C) (hok : ∀ it ∈ its, ItOk it) (hz : ∀ it ∈ its, ∀ x ∈ it.z, 0 ≤ x ∧ x ≤ 255) : ItRow w (some ⟨g, 0, none⟩) its.length its := by
  obtain ⟨vs, f, h1, h2, h3, h4, h5⟩ := h
  refine ⟨rfl, hok, fun _ => ⟨g, 0, rfl, fun i it hi => ?_⟩⟩
  have hil := (List.getElem?_eq_some_iff.1 hi).1
  obtain ⟨q1, q2, q3, q4⟩ := h5 i it hil hi
  refine ⟨some ⟨f i, 0, none⟩, it.z.length, it.z.length, ?_, ?_, ?_, BRow.own q4 (hz it (List.mem_of_getElem? hi))⟩
  all_goals
    rw [h1.cell]
    simpa using by assumption

end Go.Proofs.YtibalolpgaoppaaGreatDoor
