/- What is proved here: what is left owned of a snapshot when a signer is put in or taken out of its row, or its first recents are dropped; no program is named but for its types. -/
import Derived.Test.YtdmcmlcmgbbclaaGreatK0
import Derived.Test.YtdmcmlcmgbbclaaGreatJ22
import Derived.Test.YtdmcmlcmgbbclaaGreatJ7
import Derived.Test.YtdmcmlcmgbbclaaGreatJ6
import Derived.Test.YtdmcmlcmgbbclaaGreatJ13
import Derived.Test.YtdmcmlcmgbbclaaGreatJ19
import Derived.Test.YtdmcmlcmgbbclaaGreatJ21
import Derived.Test.YtdmcmlcmgbbclaaGreatJ14
import Derived.Deep.RegionHeld3
namespace Go.Proofs.YtdmcmlcmgbbclaaGreat
set_option linter.unusedVariables false
set_option linter.unusedSimpArgs false
open Go.RowKit
set_option maxRecDepth 100000

/-- Each path under p is turned by f at its next step. -/
def turnP (p : Path) (f : Nat → Option Nat) (c : Path) : Path :=
 if p <+: c then (match c.drop p.length with | i :: r => (match f i with | some j => p ++ [j] ++ r | none => []) | [] => c) else c

theorem turnP_at (p : Path) (f : Nat → Option Nat) (i j : Nat) (r : Path) (h : f i = some j) : turnP p f (p ++ [i] ++ r) = p ++ [j] ++ r := by
 unfold turnP
 rw [if_pos (by rw [List.append_assoc]; exact List.prefix_append _ _)]
 have e : (p ++ [i] ++ r).drop p.length = i :: r := by simp [List.append_assoc]
 rw [e]
 simp only [h]

theorem turnP_self (p : Path) (f : Nat → Option Nat) : turnP p f p = p := by
 unfold turnP
 rw [if_pos List.prefix_rfl]
 have e : p.drop p.length = [] := by simp
 rw [e]

theorem turnP_other (p : Path) (f : Nat → Option Nat) (c : Path) (h : ¬ p <+: c) : turnP p f c = c := by
 unfold turnP
 rw [if_neg h]

/-- A row of slices of bytes that is owned, from its first cell on. -/
structure SgOwn (w : World) (B : Nat) (d : Nat → Path) (p : Path) (s : Sl) (zss : List (List Int)) (es : List Sl) : Prop where
 len : s.n = zss.length
 els : es.length = zss.length
 own : w.ownsRow B 29 1 (.slice s.a s.n s.c) s.n (es.map Sl.v)
 col : ∀ x, s.a = some x → d x.block = p
 all : ∀ i e z, es[i]? = some e → zss[i]? = some z → BOwn w B d (p ++ [i]) e z

theorem SgOwn.row {w : World} {B : Nat} {d : Nat → Path} {p : Path} {s : Sl} {zss : List (List Int)} {es : List Sl} (h : SgOwn w B d p s zss es) : RowOwn bytesK 29 w B d p s zss := by
 refine ⟨h.len, es, es.map Sl.v, h.els, OwnS.of h.own, h.col, fun i e z he hz => ⟨fun j v hv => ?_, h.all i e z he hz⟩⟩
 match j, hv with
 | 0, hv =>
  simp only [bytesK, List.getElem?_cons_zero, Option.some.injEq] at hv
  subst hv
  have e1 : bytesK.m = 1 := rfl
  rw [e1, Nat.mul_one, Nat.add_zero, List.getElem?_map, he]
  rfl

theorem sg_of_cs {w : World} {B r c : Nat} {d : Nat → Nat} {s : Sl} {zss : List (List Int)} (h : CS w B d r c s zss) (hr : ∀ i, r ≠ c + 3 * i) (p : Path) : ∃ (d' : Nat → Path) (es : List Sl), SgOwn w B d' p s zss es := by
 obtain ⟨h1, es, h2, h3, h4, h5⟩ := h
 refine ⟨fun g => if d g = r then p else p ++ [(d g - c) / 3], es, h1, h2, h3, fun x hx => if_pos (h4 x.block (by rw [hx]; rfl)), fun i e z he hz => ?_⟩
 obtain ⟨q1, q2, q3, q4⟩ := h5 i e z he hz
 refine ⟨q2, q3, fun x hx => ?_⟩
 have hc := q4 x.block (by rw [hx]; rfl)
 show (if d x.block = r then p else p ++ [(d x.block - c) / 3]) = p ++ [i]
 rw [hc, if_neg (fun e => hr i e.symm), show c + 3 * i - c = 3 * i by omega, Nat.mul_div_cancel_left _ (by omega)]

theorem SgOwn.frame {w w' : World} {B : Nat} {d : Nat → Path} {p : Path} {s : Sl} {zss : List (List Int)} {es : List Sl} (h : SgOwn w B d p s zss es) (hk : ∀ g, g < w.heap.size → B ≤ g → p <+: d g → w'.heap[g]? = w.heap[g]?) : SgOwn w' B d p s zss es :=
 ⟨h.len, h.els, own_frame h.own (fun x hx => hk _ ((OwnS.of h.own).blk hx).2 ((OwnS.of h.own).blk hx).1 (by rw [h.col x hx]; exact List.prefix_rfl)), h.col, fun i e z he hz => bytesK.frame (h.all i e z he hz) (fun g a b c => hk g a b ((List.prefix_append _ _).trans c))⟩

theorem SgOwn.recol {w : World} {B : Nat} {d d' : Nat → Path} {p : Path} {s : Sl} {zss : List (List Int)} {es : List Sl} (h : SgOwn w B d p s zss es) (hk : ∀ g, g < w.heap.size → B ≤ g → p <+: d g → d' g = d g) : SgOwn w B d' p s zss es :=
 ⟨h.len, h.els, h.own, fun x hx => by rw [hk _ ((OwnS.of h.own).blk hx).2 ((OwnS.of h.own).blk hx).1 (by rw [h.col x hx]; exact List.prefix_rfl)]; exact h.col x hx, fun i e z he hz => bytesK.recol (h.all i e z he hz) (fun g a b c => hk g a b ((List.prefix_append _ _).trans c))⟩

theorem SgOwn.base {w : World} {B B' : Nat} {d : Nat → Path} {p : Path} {s : Sl} {zss : List (List Int)} {es : List Sl} (h : SgOwn w B d p s zss es) (hB : B' ≤ B) : SgOwn w B' d p s zss es :=
 ⟨h.len, h.els, ownsRow_base h.own hB, h.col, fun i e z he hz => bytesK.base (h.all i e z he hz) hB⟩

theorem under_ne {p : Path} {i : Nat} {c : Path} (h : (p ++ [1] ++ [1] ++ [i]) <+: c) : ¬ (p ++ [1] ++ [0]) <+: c := by
 have h1 : (p ++ [1] ++ [1]) <+: c := (List.prefix_append _ _).trans h
 exact pre_snoc (p ++ [1]) c 1 0 (by decide) h1

/-- What is written elsewhere leaves a snapshot as it is, part by part. -/
theorem sn_frame {w w' : World} {B : Nat} {d : Nat → Path} {p : Path} {e : SnS} {x : Sn} (o : SNK.Own w B d p e x) (h : ∀ g, g < w.heap.size → B ≤ g → d g ≠ [] → w'.heap[g]? = w.heap[g]?) : SNK.Own w' B d p e x := by
 have ne : ∀ (a : Path) (i : Nat) (c : Path), (a ++ [i]) <+: c → c ≠ [] := fun a i c hc e => by subst e; simp at hc
 exact ⟨o.1, (rowK bytesK 29).frame o.2.1 (fun g a b c => h g a b (ne _ _ _ c)), (rowK rcK 93).frame o.2.2.1 (fun g a b c => h g a b (ne _ _ _ c)), (rowK vtK 97).frame o.2.2.2 (fun g a b c => h g a b (ne _ _ _ c))⟩

/-- A signer put into the row of a snapshot that is owned. -/
theorem voted_put {w0 w w' : World} {B : Nat} {d : Nat → Path} {p : Path} {e : SnS} {x : Sn} {es : List Sl} {k g g' n c c' : Nat} {t : Sl} {z : List Int}
    (o : SNK.Own w0 B d p e x) (sg : SgOwn w0 B d (p ++ [1] ++ [0]) ⟨some ⟨g, 0, none⟩, n, c⟩ x.2.1 es)
    (b : Below w0.heap.size w0 w) (hz : ∀ y ∈ z, 0 ≤ y ∧ y ≤ 255) (ht : w.ownsRow w0.heap.size 5 1 (.slice t.a t.n t.c) t.n (z.map (Value.int .u8))) (hB : B ≤ w0.heap.size) (hk : k ≤ n)
    (ow : w'.ownsRow B 29 1 (.slice (some ⟨g', 0, none⟩) (n + 1) c') (n + 1) ((putAt es k t).map Sl.v)) (hgr : w.grownBy w' (some g)) (hg' : g' = g ∨ w.heap.size ≤ g') :
    ∃ d', SNK.Own w' B d' p ((), ⟨some ⟨g', 0, none⟩, n + 1, c'⟩, e.2.2.1, e.2.2.2) (x.1, putAt x.2.1 k z, x.2.2.1, x.2.2.2) ∧ ∀ q, q < w0.heap.size → q ≠ g' → d q = [] → d' q = [] := by
 obtain ⟨d0, e0, l0⟩ : ∃ d0 : Nat → Path, (∀ q, q < w0.heap.size → d0 q = d q) ∧ ∀ q, w0.heap.size ≤ q → d0 q = [] := ⟨fun q => if q < w0.heap.size then d q else [], fun q h => if_pos h, fun q h => if_neg (by omega)⟩
 replace o := SNK.recolNew (d' := d0) o e0
 replace sg := sg.recol (d' := d0) (fun q hq _ _ => e0 q hq)
 have lowq : ∀ i q, (p ++ [1] ++ [1] ++ [i]) <+: d0 q → q < w0.heap.size := fun i q hc => by
  by_cases hq : q < w0.heap.size
  · exact hq
  · rw [l0 q (by omega)] at hc
    simp at hc
 have hn : n = x.2.1.length := sg.len
 have hel := sg.els
 have hgl : g < w0.heap.size := ((OwnS.of sg.own).blk (x := ⟨g, 0, none⟩) rfl).2
 have hcg : d0 g = p ++ [1] ++ [0] := sg.col _ rfl
 have hbs := b.size
 obtain ⟨P, hP⟩ : ∃ P, P = p ++ [1] ++ [0] := ⟨_, rfl⟩
 obtain ⟨d', hd'⟩ : ∃ d' : Nat → Path, d' = fun q => if q = g' then P else if w0.heap.size ≤ q then P ++ [k] else turnP P (downF k) (d0 q) := ⟨_, rfl⟩
 have keep : ∀ q, q < w0.heap.size → q ≠ g → w'.heap[q]? = w0.heap[q]? := fun q hq hne => (hgr.block q (by omega) (fun e => hne (Option.some.inj e))).trans (b.block q hq)
 have dlow : ∀ q, q < w0.heap.size → q ≠ g → d' q = turnP P (downF k) (d0 q) := fun q hq hne => by
  rw [hd']
  show (if q = g' then P else if w0.heap.size ≤ q then P ++ [k] else turnP P (downF k) (d0 q)) = _
  rw [if_neg (by omega), if_neg (by omega)]
 have other : ∀ i q, q < w0.heap.size → (p ++ [1] ++ [1] ++ [i]) <+: d0 q → w'.heap[q]? = w0.heap[q]? ∧ d' q = d0 q := fun i q hq hc => by
  have hne : q ≠ g := fun e => by
   subst e
   rw [hcg] at hc
   exact under_ne hc List.prefix_rfl
  refine ⟨keep q hq hne, ?_⟩
  rw [dlow q hq hne, turnP_other _ _ _ (by rw [hP]; exact under_ne hc)]
 refine ⟨d', ⟨o.1, ?_, ?_, ?_⟩, fun q hq hne hq0 => by
  rw [hd']
  show (if q = g' then P else if w0.heap.size ≤ q then P ++ [k] else turnP P (downF k) (d0 q)) = []
  rw [if_neg hne, if_neg (by omega), e0 q hq, hq0, hP]
  exact turnP_other _ _ _ (by intro h; simp at h)⟩
 · refine SgOwn.row (es := putAt es k t) ⟨?_, ?_, ow, ?_, ?_⟩
   · show n + 1 = (putAt x.2.1 k z).length
     rw [putAt_length _ _ _ (by omega)]; omega
   · rw [putAt_length _ _ _ (by omega), putAt_length _ _ _ (by omega), hel]
   · intro y hy
     cases hy
     rw [hd', ← hP]
     exact if_pos rfl
   · intro i e1 z1 he hz1
     rw [putAt_get _ _ _ _ (by omega)] at he hz1
     rw [← hP]
     have old : ∀ i0, es[i0]? = some e1 → x.2.1[i0]? = some z1 → downF k i0 = some i → BOwn w' B d' (P ++ [i]) e1 z1 := fun i0 h1 h2 h3 => by
      have hb := sg.all i0 e1 z1 h1 h2
      refine ⟨hb.rng, own_frame hb.own (fun y hy => ?_), fun y hy => ?_⟩
      · refine keep y.block (hb.blk hy).2 (fun e => ?_)
        have := hb.col y hy
        rw [e, hcg] at this
        simp at this
      · have hne : y.block ≠ g := fun e => by
          have := hb.col y hy
          rw [e, hcg] at this
          simp at this
        rw [dlow _ (hb.blk hy).2 hne, hb.col y hy, ← hP]
        have := turnP_at P (downF k) i0 i [] h3
        simpa using this
     by_cases h1 : i < k
     · rw [if_pos h1] at he hz1
       exact old i he hz1 (by unfold downF; rw [if_pos h1])
     · by_cases h2 : i = k
       · rw [if_neg h1, if_pos h2] at he hz1
         obtain rfl := Option.some.inj he
         obtain rfl := Option.some.inj hz1
         refine ⟨hz, ?_, fun y hy => ?_⟩
         · refine ownsRow_base (own_frame ht (fun y hy => ?_)) hB
           have hb := (OwnS.of ht).blk (x := y) hy
           exact hgr.block y.block hb.2 (fun e => by have := Option.some.inj e; omega)
         · have hb := (OwnS.of ht).blk (x := y) hy
           rw [hd']
           show (if y.block = g' then P else if w0.heap.size ≤ y.block then P ++ [k] else turnP P (downF k) (d0 y.block)) = _
           rw [if_neg (by omega), if_pos hb.1, h2]
       · rw [if_neg h1, if_neg h2] at he hz1
         exact old (i - 1) he hz1 (by unfold downF; rw [if_neg (by omega)]; congr 1; omega)
 · exact (rowK rcK 93).recol ((rowK rcK 93).frame o.2.2.1 (fun q hq _ hc => (other 0 q hq hc).1)) (fun q _ _ hc => (other 0 q (lowq 0 q hc) hc).2)
 · exact (rowK vtK 97).recol ((rowK vtK 97).frame o.2.2.2 (fun q hq _ hc => (other 1 q hq hc).1)) (fun q _ _ hc => (other 1 q (lowq 1 q hc) hc).2)

set_option maxRecDepth 100000

/-- A signer taken out of the row of a snapshot that is owned. -/
theorem voted_cut {w0 w' : World} {B : Nat} {d : Nat → Path} {p : Path} {e : SnS} {x : Sn} {es : List Sl} {k g n c : Nat}
    (o : SNK.Own w0 B d p e x) (sg : SgOwn w0 B d (p ++ [1] ++ [0]) ⟨some ⟨g, 0, none⟩, n, c⟩ x.2.1 es) (hk : k < n)
    (ow : w'.ownsRow B 29 1 (.slice (some ⟨g, 0, none⟩) (n - 1) c) (n - 1) ((es.take k ++ es.drop (k + 1)).map Sl.v)) (hgr : w0.grownBy w' (some g)) :
    ∃ d', SNK.Own w' B d' p ((), ⟨some ⟨g, 0, none⟩, n - 1, c⟩, e.2.2.1, e.2.2.2) (x.1, outL x.2.1 k, x.2.2.1, x.2.2.2) ∧ ∀ q, q < w0.heap.size → d q = [] → d' q = [] := by
 obtain ⟨d0, e0, l0⟩ : ∃ d0 : Nat → Path, (∀ q, q < w0.heap.size → d0 q = d q) ∧ ∀ q, w0.heap.size ≤ q → d0 q = [] := ⟨fun q => if q < w0.heap.size then d q else [], fun q h => if_pos h, fun q h => if_neg (by omega)⟩
 replace o := SNK.recolNew (d' := d0) o e0
 replace sg := sg.recol (d' := d0) (fun q hq _ _ => e0 q hq)
 have lowq : ∀ i q, (p ++ [1] ++ [1] ++ [i]) <+: d0 q → q < w0.heap.size := fun i q hc => by
  by_cases hq : q < w0.heap.size
  · exact hq
  · rw [l0 q (by omega)] at hc
    simp at hc
 have hn : n = x.2.1.length := sg.len
 have hel := sg.els
 have hgl : g < w0.heap.size := ((OwnS.of sg.own).blk (x := ⟨g, 0, none⟩) rfl).2
 have hcg : d0 g = p ++ [1] ++ [0] := sg.col _ rfl
 obtain ⟨P, hP⟩ : ∃ P, P = p ++ [1] ++ [0] := ⟨_, rfl⟩
 obtain ⟨d', hd'⟩ : ∃ d' : Nat → Path, d' = fun q => turnP P (upF k) (d0 q) := ⟨_, rfl⟩
 have keep : ∀ q, q < w0.heap.size → q ≠ g → w'.heap[q]? = w0.heap[q]? := fun q hq hne => hgr.block q hq (fun e => hne (Option.some.inj e))
 have other : ∀ i q, (p ++ [1] ++ [1] ++ [i]) <+: d0 q → w'.heap[q]? = w0.heap[q]? ∧ d' q = d0 q := fun i q hc => by
  have hne : q ≠ g := fun e => by
   subst e
   rw [hcg] at hc
   exact under_ne hc List.prefix_rfl
  refine ⟨keep q (lowq i q hc) hne, ?_⟩
  rw [hd']
  exact turnP_other _ _ _ (by rw [hP]; exact under_ne hc)
 refine ⟨d', ⟨o.1, ?_, ?_, ?_⟩, fun q hq hq0 => by
  rw [hd']
  show turnP P (upF k) (d0 q) = []
  rw [e0 q hq, hq0, hP]
  exact turnP_other _ _ _ (by intro h; simp at h)⟩
 · refine SgOwn.row (es := es.take k ++ es.drop (k + 1)) ⟨?_, ?_, ow, ?_, ?_⟩
   · show n - 1 = (outL x.2.1 k).length
     unfold outL
     simp
     omega
   · unfold outL
     simp
     omega
   · intro y hy
     cases hy
     rw [hd', ← hP]
     show turnP P (upF k) (d0 g) = P
     rw [hcg, ← hP]
     exact turnP_self _ _
   · intro i e1 z1 he hz1
     unfold outL at hz1
     rw [cutAt_get _ _ _ (by omega)] at he hz1
     rw [← hP]
     have old : ∀ i0, es[i0]? = some e1 → x.2.1[i0]? = some z1 → upF k i0 = some i → BOwn w' B d' (P ++ [i]) e1 z1 := fun i0 h1 h2 h3 => by
      have hb := sg.all i0 e1 z1 h1 h2
      refine ⟨hb.rng, own_frame hb.own (fun y hy => ?_), fun y hy => ?_⟩
      · refine keep y.block (hb.blk hy).2 (fun e => ?_)
        have := hb.col y hy
        rw [e, hcg] at this
        simp at this
      · rw [hd']
        show turnP P (upF k) (d0 y.block) = _
        rw [hb.col y hy, ← hP]
        have := turnP_at P (upF k) i0 i [] h3
        simpa using this
     by_cases h1 : i < k
     · rw [if_pos h1] at he hz1
       exact old i he hz1 (by unfold upF; rw [if_pos h1])
     · rw [if_neg h1] at he hz1
       exact old (i + 1) he hz1 (by unfold upF; rw [if_neg (by omega), if_neg (by omega)]; rfl)
 · exact (rowK rcK 93).recol ((rowK rcK 93).frame o.2.2.1 (fun q hq _ hc => (other 0 q hc).1)) (fun q _ _ hc => (other 0 q hc).2)
 · exact (rowK vtK 97).recol ((rowK vtK 97).frame o.2.2.2 (fun q hq _ hc => (other 1 q hc).1)) (fun q _ _ hc => (other 1 q hc).2)

def lessF (k i : Nat) : Option Nat := if i < k then none else some (i - k)

/-- Recents that are owned without the first ones. -/
theorem rc_drop {w : World} {B : Nat} {d : Nat → Path} {P : Path} {T : TypeId} {s : Sl} {xs : List Rc} {b off k : Nat} (h : RowOwn rcK T w B d P s xs) (ha : s.a = some ⟨b, off, none⟩) (hk : k ≤ s.n) (f : Nat → Path) (hf : ∀ q, P <+: d q → f q = turnP P (lessF k) (d q)) :
    RowOwn rcK T w B f P ⟨if s.c = k then some ⟨b, off, none⟩ else some ⟨b, off + k * 2, none⟩, s.n - k, s.c - k⟩ (xs.drop k) := by
 obtain ⟨h1, es, vs, h2, h3, h4, h5⟩ := h
 have hm : rcK.m = 2 := rfl
 obtain ⟨g, off', cur, e, hb, hg, hl, ht⟩ := h3.at' _ ha
 simp only [Addr.mk.injEq, and_true] at e
 obtain ⟨rfl, rfl⟩ := e
 rw [hm] at hl ht
 have hroom := h3.room
 have hmax := h3.max
 have hvl := h3.len
 rw [hm] at hvl
 have hcb : d b = P := h4 _ ha
 have hfb : f b = P := by rw [hf b (by rw [hcb]; exact List.prefix_rfl), hcb]; exact turnP_self _ _
 refine ⟨by show s.n - k = (xs.drop k).length; rw [List.length_drop]; omega, es.drop k, vs.drop (k * 2), by rw [List.length_drop, List.length_drop]; omega, ⟨by rw [List.length_drop, hvl, hm]; show s.n * 2 - k * 2 = (s.n - k) * 2; omega, by show s.c - k ≤ maxLen; omega, by show s.n - k ≤ s.c - k; omega, ?_, ?_⟩, ?_, ?_⟩
 · show (if s.c = k then some (⟨b, off, none⟩ : Addr) else some ⟨b, off + k * 2, none⟩) = none → _
   split <;> intro h <;> cases h
 · intro x hx
   by_cases hc : s.c = k
   · have hx' : (if s.c = k then some (⟨b, off, none⟩ : Addr) else some ⟨b, off + k * 2, none⟩) = some x := hx
     rw [if_pos hc] at hx'
     cases hx'
     have hz : s.n - k = 0 := by omega
     refine ⟨b, off, cur, rfl, hb, hg, by show off + (s.n - k) * rcK.m ≤ _; rw [hz]; omega, ?_⟩
     show (cur.toList.drop off).take ((s.n - k) * rcK.m) = vs.drop (k * 2)
     rw [hz, Nat.zero_mul, List.take_zero, List.drop_of_length_le (by omega)]
   · have hx' : (if s.c = k then some (⟨b, off, none⟩ : Addr) else some ⟨b, off + k * 2, none⟩) = some x := hx
     rw [if_neg hc] at hx'
     cases hx'
     refine ⟨b, off + k * 2, cur, rfl, hb, hg, by show off + k * 2 + (s.n - k) * rcK.m ≤ _; rw [hm]; omega, ?_⟩
     show (cur.toList.drop (off + k * 2)).take ((s.n - k) * rcK.m) = vs.drop (k * 2)
     rw [hm, ← ht, List.drop_take, List.drop_drop]
     congr 1
     omega
 · intro x hx
   have hx' : (if s.c = k then some (⟨b, off, none⟩ : Addr) else some ⟨b, off + k * 2, none⟩) = some x := hx
   split at hx' <;> cases hx' <;> exact hfb
 · intro i e x he hx
   rw [List.getElem?_drop] at he hx
   obtain ⟨q1, q2⟩ := h5 (k + i) e x he hx
   refine ⟨fun j v hv => ?_, q2.1, ?_⟩
   · have := q1 j v hv
     rw [hm] at this ⊢
     rw [List.getElem?_drop, ← this]
     congr 1
     omega
   · have hb2 : BOwn w B d (P ++ [k + i] ++ [1]) e.2 x.2 := q2.2
     refine ⟨hb2.rng, hb2.own, fun y hy => ?_⟩
     have hc := hb2.col y hy
     rw [hf y.block (by rw [hc, List.append_assoc]; exact List.prefix_append _ _), hc]
     exact turnP_at P (lessF k) (k + i) i [1] (by unfold lessF; rw [if_neg (by omega)]; congr 1; omega)

theorem sig_ne {p c : Path} (h : (p ++ [1] ++ [0]) <+: c) : ¬ (p ++ [1] ++ [1] ++ [0]) <+: c := fun h2 => under_ne h2 h

theorem vot_ne {p c : Path} (h : (p ++ [1] ++ [1] ++ [1]) <+: c) : ¬ (p ++ [1] ++ [1] ++ [0]) <+: c := pre_snoc (p ++ [1] ++ [1]) c 1 0 (by decide) h

/-- A snapshot that is owned without its first recents. -/
theorem sn_drop {w : World} {B : Nat} {d : Nat → Path} {p : Path} {e : SnS} {x : Sn} {b off k : Nat} (o : SNK.Own w B d p e x) (ha : e.2.2.1.a = some ⟨b, off, none⟩) (hk : k ≤ e.2.2.1.n) :
    ∃ d', SNK.Own w B d' p ((), e.2.1, ⟨if e.2.2.1.c = k then some ⟨b, off, none⟩ else some ⟨b, off + k * 2, none⟩, e.2.2.1.n - k, e.2.2.1.c - k⟩, e.2.2.2) (x.1, x.2.1, x.2.2.1.drop k, x.2.2.2) ∧ ∀ q, d q = [] → d' q = [] := by
 refine ⟨fun q => turnP (p ++ [1] ++ [1] ++ [0]) (lessF k) (d q), ⟨o.1, ?_, ?_, ?_⟩, fun q hq0 => by
  show turnP (p ++ [1] ++ [1] ++ [0]) (lessF k) (d q) = []
  rw [hq0]
  exact turnP_other _ _ _ (by intro h; simp at h)⟩
 · exact (rowK bytesK 29).recol o.2.1 (fun q _ _ hc => turnP_other _ _ _ (sig_ne hc))
 · exact rc_drop o.2.2.1 ha hk _ (fun q _ => rfl)
 · exact (rowK vtK 97).recol o.2.2.2 (fun q _ _ hc => turnP_other _ _ _ (vot_ne hc))

set_option maxRecDepth 100000

/-- Three parts that were made one behind another are a snapshot. -/
theorem sn_join {w1 w2 w3 W : World} {B : Nat} {d1 d2 d3 : Nat → Path} {p : Path} {n : Int} {t1 t2 t3 : Sl} {z1 : List (List Int)} {z2 : List Rc} {z3 : List Vt} (i0 : in64 n)
    (h1 : RowOwn bytesK 29 w1 B d1 (p ++ [1] ++ [0]) t1 z1) (h2 : RowOwn rcK 93 w2 w1.heap.size d2 (p ++ [1] ++ [1] ++ [0]) t2 z2) (h3 : RowOwn vtK 97 w3 w2.heap.size d3 (p ++ [1] ++ [1] ++ [1]) t3 z3)
    (k1 : ∀ g, B ≤ g → g < w1.heap.size → W.heap[g]? = w1.heap[g]?) (k2 : ∀ g, w1.heap.size ≤ g → g < w2.heap.size → W.heap[g]? = w2.heap[g]?) (k3 : ∀ g, w2.heap.size ≤ g → g < w3.heap.size → W.heap[g]? = w3.heap[g]?) (hB : B ≤ w1.heap.size) (h12 : w1.heap.size ≤ w2.heap.size) :
    SNK.Own W B (joinD w1.heap.size d1 (joinD w2.heap.size d2 d3)) p ((), t1, t2, t3) (n, z1, z2, z3) := by
 refine ⟨i0, ?_, ?_, ?_⟩
 · exact (rowK bytesK 29).frame ((rowK bytesK 29).recol h1 (fun g hg _ _ => joinD_lt hg)) (fun g hg hb _ => k1 g hb hg)
 · exact (rowK rcK 93).base ((rowK rcK 93).frame ((rowK rcK 93).recol h2 (fun g hg hb _ => by rw [joinD_ge hb, joinD_lt hg])) (fun g hg hb _ => k2 g hb hg)) hB
 · exact (rowK vtK 97).base ((rowK vtK 97).frame ((rowK vtK 97).recol h3 (fun g hg hb _ => by rw [joinD_ge (by omega), joinD_ge hb])) (fun g hg hb _ => k3 g hb hg)) (by omega)

/-- A snapshot in memory of its own, the row of its signers from its first cell on. -/
def VOwn (w : World) (B : Nat) (p : Path) (e : SnS) (x : Sn) : Prop := ∃ (d : Nat → Path) (es : List Sl), SNK.Own w B d p e x ∧ SgOwn w B d (p ++ [1] ++ [0]) e.2.1 x.2.1 es
/-- The same, its recents' row from its first cell on, too. -/
def VOwnG (w : World) (B : Nat) (p : Path) (e : SnS) (x : Sn) : Prop := ∃ (d : Nat → Path) (es : List Sl), SNK.Own w B d p e x ∧ SgOwn w B d (p ++ [1] ++ [0]) e.2.1 x.2.1 es ∧ RowG rcK 93 w B d (p ++ [1] ++ [1] ++ [0]) e.2.2.1 x.2.2.1

set_option maxHeartbeats 4000000 in
theorem withVotesG_any (p : Path) (e : SnS) (x : Sn) (g k : Nat) (L : Pv) (w : World) (o : SNK.Ok w e x) (m : SnSm x) (hp : PollV w g k L) (hr : Rise L) (hl : L.length ≤ 31) :
    Calls Tryz.prog 70 #[.agg (snvals e x), .map (some g)] w fun r w' => ∃ e' : SnS, r = .returned (.agg (snvals e' (x.1, x.2.1, x.2.2.1, L.map Prod.snd))) ∧ VOwnG w' w.heap.size p e' (x.1, x.2.1, x.2.2.1, L.map Prod.snd) ∧ Below w.heap.size w w' := by
 have bb := (below_alloc w (.cells (snvals e x) 37)).trans ((below_alloc (w.alloc (.cells (snvals e x) 37)) (.cells #[.int .i64 0, .slice none 0 0, .slice none 0 0, .slice none 0 0] 37)).mono (by simp))
 have kx := (SBlk.new w (snvals e x) 37).next (.cells #[.int .i64 0, .slice none 0 0, .slice none 0 0, .slice none 0 0] 37)
 have kr := SBlk.new (w.alloc (.cells (snvals e x) 37)) #[.int .i64 0, .slice none 0 0, .slice none 0 0, .slice none 0 0] 37
 have hz1 : (w.alloc (.cells (snvals e x) 37)).heap.size = w.heap.size + 1 := by simp
 rw [hz1] at kr
 obtain ⟨W0, e0⟩ : ∃ W, (w.alloc (.cells (snvals e x) 37)).alloc (.cells #[.int .i64 0, .slice none 0 0, .slice none 0 0, .slice none 0 0] 37) = W := ⟨_, rfl⟩
 have hz2 : W0.heap.size = w.heap.size + 2 := by rw [← e0]; simp
 rw [e0] at bb kx kr
 have HC1 := hide (fun (W : World) (hb : Below W0.heap.size W0 W) => (copyLists_any 0 1 (by omega) e.2.1.a e.2.1.n e.2.1.c x.2.1 W ((bs_of_row o.2.1).below (bb.trans (hb.mono bb.size)) (Nat.le_refl _)) (by have := o.2.1.len; have := m.s; omega) m.sz).mono (fun r w' (h : ∃ (s : Sl) (d : Nat → Nat), r = .returned (.slice s.a s.n s.c) ∧ CS w' W.heap.size d 0 1 s x.2.1 ∧ Below W.heap.size W w') => (by
  obtain ⟨s, d, h1, h2, h3⟩ := h
  obtain ⟨d', es, h4⟩ := sg_of_cs h2 (by omega) (p ++ [1] ++ [0])
  exact ⟨s, d', es, h1, h4, h3⟩ : ∃ (s : Sl) (d : Nat → Path) (es : List Sl), r = .returned (.slice s.a s.n s.c) ∧ SgOwn w' W.heap.size d (p ++ [1] ++ [0]) s x.2.1 es ∧ Below W.heap.size W w')))
 have HC2 := hide (fun (W : World) (hb : Below W0.heap.size W0 W) => copyRecentsG_any (p ++ [1] ++ [1] ++ [0]) e.2.2.1 x.2.2.1 W (o.2.2.1.below (bb.trans (hb.mono bb.size)) (Nat.le_refl _)) (by have := o.2.2.1.len; have := m.r; omega) (fun r hr => by have := m.rz r hr; unfold rcSz at this; omega))
 have HC3 := hide (fun (W : World) (hb : Below W0.heap.size W0 W) => (list_any g k L (p ++ [1] ++ [1] ++ [1]) W (hp.below (bb.trans (hb.mono bb.size)) (Nat.le_refl _)) hr hl).mono (fun r w' (h : (∃ (t : Sl) (d : Nat → Path), r = .returned (.slice t.a t.n t.c) ∧ RowOwn vtK 97 w' W.heap.size d (p ++ [1] ++ [1] ++ [1]) t (L.map Prod.snd)) ∧ Below W.heap.size W w') => (by
  obtain ⟨⟨t, d, h1, h2⟩, h3⟩ := h
  exact ⟨t, d, h1, h2, h3⟩ : ∃ (t : Sl) (d : Nat → Path), r = .returned (.slice t.a t.n t.c) ∧ RowOwn vtK 97 w' W.heap.size d (p ++ [1] ++ [1] ++ [1]) t (L.map Prod.snd) ∧ Below W.heap.size W w')))
 have HI0 := hide o.1
 have HS : Hid (∀ W, Below W0.heap.size W0 W → (fun W => W.cell? ⟨w.heap.size, 0, none⟩ = some (.int .i64 x.1) ∧ W.cell? ⟨w.heap.size, 1, none⟩ = some (.slice e.2.1.a e.2.1.n e.2.1.c) ∧ W.cell? ⟨w.heap.size, 2, none⟩ = some (.slice e.2.2.1.a e.2.2.1.n e.2.2.1.c) ∧ W.cell? ⟨w.heap.size, 3, none⟩ = some (.slice e.2.2.2.a e.2.2.2.n e.2.2.2.c)) W) := fun W hb => by
  have kw := kx.below hb kx.lt
  exact ⟨kw.cell 0, kw.cell 1, kw.cell 2, kw.cell 3⟩
 have HS4 : Hid (∀ W, Below W0.heap.size W0 W → ∀ a b c d, (fun W => W.cell? ⟨w.heap.size, 0, none⟩ = some (.int .i64 x.1) ∧ W.cell? ⟨w.heap.size, 1, none⟩ = some (.slice e.2.1.a e.2.1.n e.2.1.c) ∧ W.cell? ⟨w.heap.size, 2, none⟩ = some (.slice e.2.2.1.a e.2.2.1.n e.2.2.1.c) ∧ W.cell? ⟨w.heap.size, 3, none⟩ = some (.slice e.2.2.2.a e.2.2.2.n e.2.2.2.c)) ((((W.setCell ⟨w.heap.size + 1, 0, none⟩ a).setCell ⟨w.heap.size + 1, 1, none⟩ b).setCell ⟨w.heap.size + 1, 2, none⟩ c).setCell ⟨w.heap.size + 1, 3, none⟩ d)) := fun W hb a b c d => by
  have kw : SBlk ((((W.setCell ⟨w.heap.size + 1, 0, none⟩ a).setCell ⟨w.heap.size + 1, 1, none⟩ b).setCell ⟨w.heap.size + 1, 2, none⟩ c).setCell ⟨w.heap.size + 1, 3, none⟩ d) w.heap.size (snvals e x).toList 37 := (other4 (by omega) a b c d).trans (kx.below hb kx.lt)
  exact ⟨kw.cell 0, kw.cell 1, kw.cell 2, kw.cell 3⟩
 have HR := hide (fun (W : World) (hb : Below W0.heap.size W0 W) => four_blk (kr.below hb kr.lt))
 have HB0 := hide bb
 have E0 := hide e0
 clear bb kx kr hz1 e0 o m hp hr hl
 go_enter Tryz.func70, Tryz.ntmps70
 go_upto_region 1 with fail
 rw [unhide E0]
 clear E0
 refine wp_region_held_drew (S := (fun W => W.cell? ⟨w.heap.size, 0, none⟩ = some (.int .i64 x.1) ∧ W.cell? ⟨w.heap.size, 1, none⟩ = some (.slice e.2.1.a e.2.1.n e.2.1.c) ∧ W.cell? ⟨w.heap.size, 2, none⟩ = some (.slice e.2.2.1.a e.2.2.1.n e.2.2.1.c) ∧ W.cell? ⟨w.heap.size, 3, none⟩ = some (.slice e.2.2.2.a e.2.2.2.n e.2.2.2.c))) (by kernel_rfl) ((unhide HS) _ (Below.refl W0.heap.size W0).drew) (fun hHeld => ?_)
 refine wpAnyH_take (i := 0) (oi := _) (v := ?_) rfl (by kernel_rfl) (by kernel_rfl) (by kernel_rfl) (fun _ _ _ h => h) (Or.inl ⟨by kernel_rfl, ?_⟩) (by assumption) ?_
 rotate_left
 · ((intro wq hSw; (try dsimp only at hSw); go_simp) <;> with_reducible rfl)
 (try simp only [List.getElem_toArray, List.getElem_cons_zero, List.getElem_cons_succ, Act.put, List.setIfInBounds_toArray, List.set_cons_zero, List.set_cons_succ]); (try dsimp only)
 refine wpAnyH_take (i := 1) (oi := _) (v := ?_) rfl (by kernel_rfl) (by kernel_rfl) (by kernel_rfl) (fun _ _ _ h => h) (Or.inl ⟨by kernel_rfl, ?_⟩) (by assumption) ?_
 rotate_left
 · ((intro wq hSw; (try dsimp only at hSw); go_simp) <;> with_reducible rfl)
 (try simp only [List.getElem_toArray, List.getElem_cons_zero, List.getElem_cons_succ, Act.put, List.setIfInBounds_toArray, List.set_cons_zero, List.set_cons_succ]); (try dsimp only)
 refine wpAnyH_take (i := 2) (oi := _) (v := ?_) rfl (by kernel_rfl) (by kernel_rfl) (by kernel_rfl) (fun _ _ _ h => h) (Or.inl ⟨by kernel_rfl, ?_⟩) (by assumption) ?_
 rotate_left
 · ((intro wq hSw; (try dsimp only at hSw); go_simp) <;> with_reducible rfl)
 (try simp only [List.getElem_toArray, List.getElem_cons_zero, List.getElem_cons_succ, Act.put, List.setIfInBounds_toArray, List.set_cons_zero, List.set_cons_succ]); (try dsimp only)
 refine wpAnyH_take (i := 3) (oi := _) (v := ?_) rfl (by kernel_rfl) (by kernel_rfl) (by kernel_rfl) (fun _ _ _ h => h) (Or.inl ⟨by kernel_rfl, ?_⟩) (by assumption) ?_
 rotate_left
 · ((intro wq hSw; (try dsimp only at hSw); go_simp) <;> with_reducible rfl)
 (try simp only [List.getElem_toArray, List.getElem_cons_zero, List.getElem_cons_succ, Act.put, List.setIfInBounds_toArray, List.set_cons_zero, List.set_cons_succ]); (try dsimp only)
 refine wpAnyH_take (i := 5) (oi := _) (v := ?_) rfl (by kernel_rfl) (by kernel_rfl) (by kernel_rfl) (fun _ _ _ h => h) (Or.inl ⟨by kernel_rfl, ?_⟩) (by assumption) ?_
 rotate_left
 · ((intro wq hSw; (try dsimp only at hSw); go_simp) <;> with_reducible rfl)
 (try simp only [List.getElem_toArray, List.getElem_cons_zero, List.getElem_cons_succ, Act.put, List.setIfInBounds_toArray, List.set_cons_zero, List.set_cons_succ]); (try dsimp only)
 refine wpAnyH_take (i := 6) (oi := _) (v := ?_) rfl (by kernel_rfl) (by kernel_rfl) (by kernel_rfl) (fun _ _ _ h => h) (Or.inl ⟨by kernel_rfl, ?_⟩) (by assumption) ?_
 rotate_left
 · ((intro wq hSw; (try dsimp only at hSw); go_simp) <;> with_reducible rfl)
 (try simp only [List.getElem_toArray, List.getElem_cons_zero, List.getElem_cons_succ, Act.put, List.setIfInBounds_toArray, List.set_cons_zero, List.set_cons_succ]); (try dsimp only)
 refine wpAnyH_take (i := 8) (oi := _) (v := ?_) rfl (by kernel_rfl) (by kernel_rfl) (by kernel_rfl) (fun _ _ _ h => h) (Or.inl ⟨by kernel_rfl, ?_⟩) (by assumption) ?_
 rotate_left
 · ((intro wq hSw; (try dsimp only at hSw); go_simp) <;> with_reducible rfl)
 (try simp only [List.getElem_toArray, List.getElem_cons_zero, List.getElem_cons_succ, Act.put, List.setIfInBounds_toArray, List.set_cons_zero, List.set_cons_succ]); (try dsimp only)
 refine rdA 4 (fun K hK => ?_)
 go_simp
 go_at_call 104
 refine ((unhide HC1) _ (Below.refl W0.heap.size W0).drew).mono ?_
 rintro r w1 ⟨t1, d1, es1, rfl, o1, b1⟩
 have J1 : Below W0.heap.size W0 w1 := (Below.refl W0.heap.size W0).drew.trans (b1.mono (Nat.le_refl _))
 replace o1 : SgOwn w1 W0.heap.size d1 (p ++ [1] ++ [0]) t1 x.2.1 es1 := o1
 have O1 := hide (And.intro o1 b1)
 clear o1 b1
 refine hK.out _ _ ((unhide HS) _ J1) (fun hHeld => ?_)
 clear hK K
 (try simp only [List.getElem_toArray, List.getElem_cons_zero, List.getElem_cons_succ, Act.put, List.setIfInBounds_toArray, List.set_cons_zero, List.set_cons_succ]); (try dsimp only)
 refine rdA 7 (fun K hK => ?_)
 go_simp
 go_at_call 105
 refine ((unhide HC2) _ J1).mono ?_
 rintro r w2 ⟨t2, d2, rfl, o2, b2⟩
 have J2 : Below W0.heap.size W0 w2 := J1.trans (b2.mono J1.size)
 have O2 := hide (And.intro o2 b2)
 clear o2 b2
 refine hK.out _ _ ((unhide HS) _ J2) (fun hHeld => ?_)
 clear hK K
 (try simp only [List.getElem_toArray, List.getElem_cons_zero, List.getElem_cons_succ, Act.put, List.setIfInBounds_toArray, List.set_cons_zero, List.set_cons_succ]); (try dsimp only)
 refine rdA 9 (fun K hK => ?_)
 go_simp
 go_at_call 106
 refine ((unhide HC3) _ J2).mono ?_
 rintro r w3 ⟨t3, d3, rfl, o3, b3⟩
 have J3 : Below W0.heap.size W0 w3 := J2.trans (b3.mono J2.size)
 have O3 := hide (And.intro o3 b3)
 obtain ⟨⟨r0, r1, r2, r3⟩, f0, f1, f2, f3⟩ := (unhide HR) _ J3
 clear o3 b3
 refine hK.out _ _ ((unhide HS) _ J3) (fun hHeld => ?_)
 clear hK K
 (try simp only [List.getElem_toArray, List.getElem_cons_zero, List.getElem_cons_succ, Act.put, List.setIfInBounds_toArray, List.set_cons_zero, List.set_cons_succ]); (try dsimp only)
 refine wpAnyH_take (i := 10) (oi := _) (v := ?_) rfl (by kernel_rfl) (by kernel_rfl) (by kernel_rfl) (fun _ _ _ h => h) (Or.inl ⟨by kernel_rfl, ?_⟩) (by assumption) ?_
 rotate_left
 · ((intro wq hSw; (try dsimp only at hSw); go_simp) <;> with_reducible rfl)
 (try simp only [List.getElem_toArray, List.getElem_cons_zero, List.getElem_cons_succ, Act.put, List.setIfInBounds_toArray, List.set_cons_zero, List.set_cons_succ]); (try dsimp only)
 refine rdA 11 (fun K hK => ?_)
 go_simp
 refine hK.out _ _ ((unhide HS4) _ J3 _ _ _ _) (fun hHeld => ?_)
 clear hK K
 (try simp only [List.getElem_toArray, List.getElem_cons_zero, List.getElem_cons_succ, Act.put, List.setIfInBounds_toArray, List.set_cons_zero, List.set_cons_succ]); (try dsimp only)
 refine wpAnyH_done (by kernel_rfl) ?_ _
 go_wp2_with fail
 have s1 := J1.size
 have s2 := J2.size
 have s3 := J3.size
 have b2' := (unhide O2).2
 have b3' := (unhide O3).2
 have g2 := b2'.size
 have g3 := b3'.size
 refine bodyPost_ret (v := .agg #[.int .i64 x.1, .slice t1.a t1.n t1.c, .slice t2.a t2.n t2.c, .slice t3.a t3.n t3.c]) (by simp [results, Tryz.results70, go_sem, r0, r1, r2, r3]) rfl ⟨(), t1, t2, t3, rfl, ⟨joinD w1.heap.size d1 (joinD w2.heap.size d2 d3), es1, ?_, ?_, ?_⟩, ?_⟩
 · refine SNK.base (sn_join (unhide HI0) (unhide O1).1.row (unhide O2).1.own (unhide O3).1 (fun q h1 h2 => ?_) (fun q h1 h2 => ?_) (fun q h1 h2 => ?_) (by omega) g2) (by omega : w.heap.size ≤ W0.heap.size)
   · rw [other4 (by omega)]; exact (b3'.block q (by omega)).trans (b2'.block q h2)
   · rw [other4 (by omega)]; exact b3'.block q h2
   · rw [other4 (by omega)]
 · refine SgOwn.base (SgOwn.frame (SgOwn.recol (unhide O1).1 (fun q hq _ _ => joinD_lt hq)) (fun q h1 h2 _ => ?_)) (by omega : w.heap.size ≤ W0.heap.size)
   rw [other4 (by omega)]; exact (b3'.block q (by omega)).trans (b2'.block q h1)
 · refine RowG.base (RowG.frame (RowG.recolB (unhide O2).1 (fun q hq hB => by rw [joinD_ge hB, joinD_lt hq])) (fun q h1 h2 _ => ?_)) (by omega : w.heap.size ≤ w1.heap.size)
   rw [other4 (by omega)]; exact b3'.block q h1
 · exact set4 ((unhide HB0).trans (J3.mono (unhide HB0).size)) (by omega) _ _ _ _

theorem withVotes_any (p : Path) (e : SnS) (x : Sn) (g k : Nat) (L : Pv) (w : World) (o : SNK.Ok w e x) (m : SnSm x) (hp : PollV w g k L) (hr : Rise L) (hl : L.length ≤ 31) :
    Calls Tryz.prog 70 #[.agg (snvals e x), .map (some g)] w fun r w' => ∃ e' : SnS, r = .returned (.agg (snvals e' (x.1, x.2.1, x.2.2.1, L.map Prod.snd))) ∧ VOwn w' w.heap.size p e' (x.1, x.2.1, x.2.2.1, L.map Prod.snd) ∧ Below w.heap.size w w' :=
 (withVotesG_any p e x g k L w o m hp hr hl).mono (by rintro r w' ⟨e', rfl, ⟨d, es, h1, h2, _⟩, h3⟩; exact ⟨e', rfl, ⟨d, es, h1, h2⟩, h3⟩)

end Go.Proofs.YtdmcmlcmgbbclaaGreat
