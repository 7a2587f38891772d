/- What is proved here: plain facts on slices of slices of bytes that a call made itself: the block of the slices, and a block of bytes for each; they hold for every program. -/
import Derived.Test.YtpkfgffgldjceaaDoorJ2
import Derived.Laws.OwnMore
import Derived.Test.YtpkfgffgldjceaaDoorChecked
import Derived.Test.YtpkfgffgldjceaaDoorJ1
import Derived.WalkKit
import Derived.WalkLawsBesides
import Derived.WalkSmall
import Derived.KernelRfl
import Derived.WalkSpells
import Derived.OpenShut
import Derived.WideShapes
import Derived.Deep.DeepCutAuto
namespace Go.Proofs.YtpkfgffgldjceaaDoor
open Go.RowKit
set_option linter.unusedVariables false
set_option maxRecDepth 100000

/-- A block that holds these values, none of it frozen. -/
def SBlk (w : World) (g : Nat) (vs : List Value) (T : TypeId) : Prop := w.heap[g]? = some (.cells vs.toArray T (0, 0))

theorem SBlk.cell {w : World} {g : Nat} {vs : List Value} {T : TypeId} (h : SBlk w g vs T) (i : Nat) : w.cell? ⟨g, i, none⟩ = vs[i]? := by
  simp [World.cell?, show w.heap[g]? = _ from h]

theorem SBlk.free {w : World} {g : Nat} {vs : List Value} {T : TypeId} (h : SBlk w g vs T) (i : Nat) : w.frozen? ⟨g, i, none⟩ = false := frozen_of_row w g i _ T h

theorem SBlk.set {w : World} {g : Nat} {vs : List Value} {T : TypeId} (h : SBlk w g vs T) (i : Nat) (x : Value) : SBlk (w.setCell ⟨g, i, none⟩ x) g (vs.set i x) T := by
  have := heap_setCell_same w g i _ T x h
  unfold SBlk
  rw [this]
  simp

theorem SBlk.lt {w : World} {g : Nat} {vs : List Value} {T : TypeId} (h : SBlk w g vs T) : g < w.heap.size := lt_of_block h

theorem SBlk.below {w w' : World} {g C : Nat} {vs : List Value} {T : TypeId} (h : SBlk w g vs T) (hb : Below C w w') (hC : g < C) : SBlk w' g vs T := by
  unfold SBlk
  rw [hb.block g hC]
  exact h

theorem SBlk.new (w : World) (vs : Array Value) (T : TypeId) : SBlk (w.alloc (.cells vs T)) w.heap.size vs.toList T := by
  unfold SBlk World.alloc
  simp

theorem SBlk.next {w : World} {g : Nat} {vs : List Value} {T : TypeId} (h : SBlk w g vs T) (o : Obj) : SBlk (w.alloc o) g vs T := h.below (below_alloc w o) h.lt

theorem SBlk.other {w : World} {g g' i : Nat} {vs : List Value} {T : TypeId} {v : Value} (h : SBlk w g vs T) (hne : g ≠ g') : SBlk (w.setCell ⟨g', i, none⟩ v) g vs T := by
  unfold SBlk
  rw [heap_setCell_other w ⟨g', i, none⟩ g v hne]
  exact h

theorem size_set' (w : World) (a : Addr) (v : Value) : (w.setCell a v).heap.size = w.heap.size := by simp [World.setCell]

theorem own_sblk {w : World} {B g n : Nat} {e : TypeId} {size : Nat} {xs : List Value} (h : w.ownsRow B e size (.slice (some ⟨g, 0, none⟩) n n) n xs) : ∃ vs, SBlk w g vs e ∧ vs.length = n * size := by
  rcases h.2 with ⟨h', _⟩ | ⟨g', cap', cur, h', hb, hg, hnc, hcm, hcs, htake⟩
  · simp at h'
  · simp only [Value.slice.injEq, Option.some.injEq, Addr.mk.injEq, and_true, true_and] at h'
    obtain ⟨rfl, rfl⟩ := h'
    exact ⟨cur.toList, by unfold SBlk; simpa using hg, by simpa using hcs⟩

/-- Of the slices 'zss' the first k lie in the block g, each with its bytes in a block of its own, all these blocks rising. -/
def BUpto (w : World) (g : Nat) (zss : List (List Int)) (k len : Nat) (T : TypeId) (C : Nat) : Prop :=
  ∃ (vs : List Value) (f : Nat → Nat), SBlk w g vs T ∧ vs.length = len ∧ (∀ i, i < k → g < f i ∧ f i < C) ∧ (∀ i j, i < j → j < k → f i < f j) ∧
    ∀ i z, i < k → zss[i]? = some z → vs[i]? = some (.slice (some ⟨f i, 0, none⟩) z.length z.length) ∧
      w.ownsRow (g + 1) 5 1 (.slice (some ⟨f i, 0, none⟩) z.length z.length) z.length (z.map (Value.int .u8))

/-- All of them. -/
def OBss (w : World) (g : Nat) (zss : List (List Int)) (T : TypeId) (C : Nat) : Prop := BUpto w g zss zss.length zss.length T C

theorem BUpto.lt {w : World} {g : Nat} {zss : List (List Int)} {k len : Nat} {T : TypeId} {C : Nat} (h : BUpto w g zss k len T C) : g < w.heap.size := by
  obtain ⟨_, _, h, _⟩ := h
  exact h.lt

theorem BUpto.below {w w' : World} {g : Nat} {zss : List (List Int)} {k len : Nat} {T : TypeId} {C : Nat} (h : BUpto w g zss k len T C) {B : Nat} (hb : Below B w w') (hB : w.heap.size ≤ B) : BUpto w' g zss k len T C := by
  obtain ⟨vs, f, h1, h2, h3, h4, h5⟩ := h
  refine ⟨vs, f, h1.below hb (Nat.lt_of_lt_of_le h1.lt hB), h2, h3, h4, fun i z hi hit => ?_⟩
  obtain ⟨q3, q4⟩ := h5 i z hi hit
  exact ⟨q3, own_below q4 hb hB⟩

theorem BUpto.zero {w : World} {g : Nat} {zss : List (List Int)} {len : Nat} {T : TypeId} {vs : List Value} {C : Nat} (h : SBlk w g vs T) (hl : vs.length = len) : BUpto w g zss 0 len T C :=
  ⟨vs, fun _ => 0, h, hl, fun i hi => absurd hi (Nat.not_lt_zero _), fun i j _ hj => absurd hj (Nat.not_lt_zero _), fun i it hi => absurd hi (Nat.not_lt_zero _)⟩

/-- What is there at the place of the next one. -/
theorem BUpto.slot {w : World} {g : Nat} {zss : List (List Int)} {k len : Nat} {T : TypeId} {C : Nat} (h : BUpto w g zss k len T C) (hk : k < len) :
    (∃ u, w.cell? ⟨g, k, none⟩ = some u) ∧ ∀ i, w.frozen? ⟨g, i, none⟩ = false := by
  obtain ⟨vs, f, h1, h2, _⟩ := h
  refine ⟨?_, fun i => h1.free i⟩
  rw [h1.cell]
  exact ⟨_, List.getElem?_eq_getElem (by omega)⟩

/-- One more. -/
theorem BUpto.step {w w2 : World} {g m : Nat} {zss : List (List Int)} {k len : Nat} {T : TypeId} {z : List Int} (h : BUpto w g zss k len T w.heap.size) (hk : k < len) (hit : zss[k]? = some z) (hb : Below w.heap.size w w2) (hm : w.heap.size ≤ m) (hm2 : m < w2.heap.size)
    (ho : w2.ownsRow (g + 1) 5 1 (.slice (some ⟨m, 0, none⟩) z.length z.length) z.length (z.map (Value.int .u8))) :
    BUpto (w2.setCell ⟨g, k, none⟩ (.slice (some ⟨m, 0, none⟩) z.length z.length)) g zss (k + 1) len T w2.heap.size := by
  have hgl := h.lt
  obtain ⟨vs, f, h1, h2, h3, h4, h5⟩ := h
  obtain ⟨q1, q2⟩ : SBlk w2 g vs T ∧ (∀ i, i < k → f i < w.heap.size) := ⟨h1.below hb h1.lt, fun i hi => (h3 i hi).2⟩
  have hlt : ∀ {v : Value} {n : Nat} {xs : List Value} {W : World}, W.ownsRow (g + 1) 5 1 v n xs → ∀ i u, (W.setCell ⟨g, i, none⟩ u).ownsRow (g + 1) 5 1 v n xs := fun h i u => ownsRow_setCell_below h (Nat.lt_succ_self g) u
  refine ⟨vs.set k (.slice (some ⟨m, 0, none⟩) z.length z.length), fun i => if i = k then m else f i, q1.set _ _, by simp [h2], fun i hi => ?_, fun i j hij hj => ?_, fun i jt hi hjt => ?_⟩
  · dsimp only
    split
    · exact ⟨by omega, hm2⟩
    · have := h3 i (by omega)
      exact ⟨this.1, Nat.lt_of_lt_of_le this.2 hb.size⟩
  · dsimp only
    rw [if_neg (by omega)]
    split
    · have := q2 i (by omega); omega
    · exact h4 i j hij (by omega)
  · dsimp only
    by_cases e : i = k
    · subst e
      rw [if_pos rfl]
      obtain rfl : jt = z := by rw [hit] at hjt; exact (Option.some.inj hjt).symm
      refine ⟨?_, hlt ho _ _⟩
      rw [List.getElem?_set_self (by omega)]
    · rw [if_neg e]
      obtain ⟨p3, p4⟩ := h5 i jt (by omega) hjt
      refine ⟨?_, hlt (own_below p4 hb (Nat.le_refl _)) _ _⟩
      rw [List.getElem?_set_ne (by omega)]; exact p3

theorem BUpto.stored {w : World} {g g' j : Nat} {zss : List (List Int)} {k len : Nat} {T : TypeId} {C : Nat} {v : Value} (h : BUpto w g zss k len T C) (hg : g' < g) : BUpto (w.setCell ⟨g', j, none⟩ v) g zss k len T C := by
  obtain ⟨vs, f, h1, h2, h3, h4, h5⟩ := h
  refine ⟨vs, f, h1.other (by omega), h2, h3, h4, fun i z hi hit => ?_⟩
  obtain ⟨q3, q4⟩ := h5 i z hi hit
  exact ⟨q3, ownsRow_setCell_below q4 (by show g' < g + 1; omega) _⟩

/-- What is owned reads so. -/
theorem OBss.row {w : World} {g : Nat} {zss : List (List Int)} {T : TypeId} {C : Nat} (h : OBss w g zss T C) (hok : ∀ z ∈ zss, z.length ≤ maxLen) (hz : ∀ z ∈ zss, ∀ x ∈ z, 0 ≤ x ∧ x ≤ 255) : BsRow w (some ⟨g, 0, none⟩) zss.length zss := by
  obtain ⟨vs, f, h1, h2, h3, h4, h5⟩ := h
  refine ⟨rfl, hok, fun _ => ⟨g, 0, rfl, fun i z hi => ?_⟩⟩
  have hil := (List.getElem?_eq_some_iff.1 hi).1
  obtain ⟨q3, q4⟩ := h5 i z hil hi
  refine ⟨some ⟨f i, 0, none⟩, z.length, z.length, ?_, BRow.own q4 (hz z (List.mem_of_getElem? hi))⟩
  rw [h1.cell]
  simpa using q3

end Go.Proofs.YtpkfgffgldjceaaDoor

/- What is proved here: the contract of the laws' helper function that copies slices of slices of bytes (toByteSS). -/
namespace Go.Proofs.YtpkfgffgldjceaaDoor
open Go.RowKit
set_option linter.unusedVariables false
set_option maxRecDepth 100000

theorem infoSB : (Tryd.prog.info? 57).map (fun i => (i.zero, i.size, i.bytes)) = some (some (.slice none 0 0), 1, 24) := by kernel_rfl

set_option maxHeartbeats 2000000 in
theorem toByteSS_any (a : Option Addr) (len cap : Nat) (zss : List (List Int)) (w : World) (h : BsRow w a len zss) (hl : len ≤ 1048576) (hz : ∀ z ∈ zss, z.length ≤ 1048576) :
    Calls Tryd.prog 21 #[.slice a len cap] w fun e w' => e = .returned (.slice (some ⟨w.heap.size, 0, none⟩) len len) ∧ OBss w' w.heap.size zss 57 w'.heap.size ∧ Below w.heap.size w w' := by
  obtain ⟨i0, hi, hz0, hz1, hz2⟩ := info_parts infoSB
  have hil := h.1
  rcases Nat.eq_zero_or_pos len with h0 | hp
  · subst h0
    have hn : zss = [] := List.length_eq_zero_iff.1 hil
    subst hn
    clear h hl hz
    go_enter Tryd.func21, Tryd.ntmps21
    go_wp2_with (at_make; refine wpList_make_full _ rfl _ _ 22 rfl w.heap.size 57 i0 (.slice none 0 0) 1 Tryd.underlying22 hi hz0 hz1 _ _ _ _ 0 rfl rfl rfl rfl ?c1 ?c2 ?c3 ?_)
    case c1 => omega
    case c2 => unfold maxLen; omega
    case c3 => omega
    intro w1 hown hgrow
    go_wp2
    refine wp_loop_rounds 1 ?_
    rw [rounds_succ]
    go_wp2
    go_ret
    refine ⟨rfl, ?_, (Below.refl _ _).grown hgrow (Nat.le_refl _) (fun k e => by cases e)⟩
    obtain ⟨vs, hv, hvl⟩ := own_sblk hown
    exact BUpto.zero hv (by simpa using hvl)
  · obtain ⟨b, off, rfl, hb, hc⟩ := h.at hp
    have HC := hide hc
    have HL := hide hil
    have HZ := hide hz
    clear h hc hil hz
    go_enter Tryd.func21, Tryd.ntmps21
    go_wp2_with (at_make; refine wpList_make_full _ rfl _ _ 22 rfl w.heap.size 57 i0 (.slice none 0 0) 1 Tryd.underlying22 hi hz0 hz1 _ _ _ _ len rfl rfl rfl rfl ?c1 ?c2 ?c3 ?_)
    case c1 => rw [hz2]; omega
    case c2 => unfold maxLen; omega
    case c3 => omega
    intro w1 hown hgrow
    obtain ⟨vs, hv, hvl⟩ := own_sblk hown
    have hst : BUpto w1 w.heap.size zss 0 len 57 w1.heap.size := BUpto.zero hv (by simpa using hvl)
    have hbel : Below w.heap.size w w1 := (Below.refl _ _).grown hgrow (Nat.le_refl _) (fun k e => by cases e)
    clear hown hgrow hv hvl
    go_wp2_with fail
    go_loopw [4] (fun i wr => ∃ k : Nat, k ≤ len ∧ i = .int .i64 k ∧ BUpto wr w.heap.size zss k len 57 wr.heap.size ∧ Below w.heap.size w wr) (fun i _ => len - (intOf i).toNat)
    case atStart => exact ⟨0, Nat.zero_le _, rfl, hst, hbel⟩
    case round =>
      obtain ⟨k, hk, rfl, hup, hbr⟩ := hrel
      clear hst hbel
      by_cases hlt : k < len
      · obtain ⟨z, hit⟩ : ∃ z, zss[k]? = some z := ⟨_, List.getElem?_eq_getElem (by rw [unhide HL]; exact hlt)⟩
        have hat := (unhide HC k z hit).below hbr (Nat.le_refl _)
        have hio := (unhide HZ) z (List.mem_of_getElem? hit)
        obtain ⟨sa, sl, sc, c0, hbrow⟩ := hat
        have hsl : z.length = sl := hbrow.1
        rw [hsl] at hio
        have HT := hide (fun W hb => toByteS_any sa sl sc z W (hbrow.below (w' := W) (B := wr.heap.size) hb (Nat.le_refl _)) hio)
        have HB := hide hbr
        have hs : w.heap.size < wr.heap.size := hup.lt
        have hstep : Hid (∀ w2 : World, Below wr.heap.size wr w2 → wr.heap.size < w2.heap.size → w2.ownsRow wr.heap.size 5 1 (.slice (some ⟨wr.heap.size, 0, none⟩) sl sl) sl (z.map (Value.int .u8)) →
            BUpto (w2.setCell ⟨w.heap.size, k, none⟩ (.slice (some ⟨wr.heap.size, 0, none⟩) sl sl)) w.heap.size zss (k + 1) len 57 w2.heap.size) := fun w2 hb hm ho => by
          subst hsl
          exact hup.step hlt hit hb (by omega) hm (ownsRow_base ho (by omega))
        have hslot := hide (fun (w2 : World) (hb : Below wr.heap.size wr w2) => (hup.below hb (Nat.le_refl _)).slot hlt)
        generalize z = bz at HT hstep
        have i1 : (0 : Int) ≤ (k : Int) := by omega
        have i2 : (k : Int) < (len : Int) := by omega
        clear hup hbr hbrow hsl hit
        go_wp2_with fail
        refine ((unhide HT) _ (Below.refl _ _)).mono ?_
        rintro e w2 ⟨rfl, o2, b2⟩
        obtain ⟨⟨u0, g0⟩, gf⟩ := (unhide hslot) w2 b2
        have hm : wr.heap.size < w2.heap.size := (o2.lt wr.heap.size rfl).2
        have HN := hide ((unhide hstep) w2 b2 hm o2)
        have HB2 := hide ((unhide HB).trans (b2.mono (unhide HB).size))
        clear o2 b2 hslot hstep
        go_wp2_with fail
        go_roundw
        case rel => exact ⟨k + 1, by omega, by go_num, by rw [size_set']; exact unhide HN, (unhide HB2).setCell (Nat.le_refl _) _⟩
        case measure => simp [intOf]; omega
      · obtain rfl : k = len := by omega
        have HU := hide hup
        have HB := hide hbr
        clear hup hbr
        go_wp2_with fail
        go_ret
        refine ⟨rfl, ?_, unhide HB⟩
        unfold OBss
        rw [unhide HL]
        exact unhide HU

end Go.Proofs.YtpkfgffgldjceaaDoor

/- What is proved here: plain facts on headers in a world: how an argument that is a header reads; they hold for every program. -/
namespace Go.Proofs.YtpkfgffgldjceaaDoor
open Go.RowKit
set_option linter.unusedVariables false
set_option maxRecDepth 100000

/-- A slice's three parts. -/
structure Sl where
  a : Option Addr
  n : Nat
  c : Nat

/-- The slices of a header: Parent, Target, Signers, Receipts, Signer, Seal, Commits. -/
structure HS where
  p : Sl
  t : Sl
  s : Sl
  r : Sl
  g : Sl
  e : Sl
  k : Sl

/-- A header: its bytes and numbers. -/
structure Hd where
  p : List Int
  n1 : Int
  n2 : Int
  n3 : Int
  t : List Int
  n5 : Int
  s : List (List Int)
  r : List Int
  g : List Int
  e : List Int
  k : List (List Int)

/-- The slices read as the header's bytes. -/
structure HOk (w : World) (x : HS) (h : Hd) : Prop where
  p : BRow w x.p.a x.p.n h.p
  t : BRow w x.t.a x.t.n h.t
  s : BsRow w x.s.a x.s.n h.s
  r : BRow w x.r.a x.r.n h.r
  g : BRow w x.g.a x.g.n h.g
  e : BRow w x.e.a x.e.n h.e
  k : BsRow w x.k.a x.k.n h.k

theorem HOk.below {w w' : World} {x : HS} {h : Hd} (o : HOk w x h) {B : Nat} (hb : Below B w w') (hB : w.heap.size ≤ B) : HOk w' x h :=
  ⟨o.p.below hb hB, o.t.below hb hB, o.s.below hb hB, o.r.below hb hB, o.g.below hb hB, o.e.below hb hB, o.k.below hb hB⟩

/-- None is longer than M. -/
structure HMax (x : HS) (M : Nat) : Prop where
  p : x.p.n ≤ M
  t : x.t.n ≤ M
  s : x.s.n ≤ M
  r : x.r.n ≤ M
  g : x.g.n ≤ M
  e : x.e.n ≤ M
  k : x.k.n ≤ M

def in64 (n : Int) : Prop := -9223372036854775808 ≤ n ∧ n ≤ 9223372036854775807

/-- The numbers fit. -/
structure HIn (h : Hd) : Prop where
  n1 : in64 h.n1
  n2 : in64 h.n2
  n3 : in64 h.n3
  n5 : in64 h.n5

/-- All bytes, and how many slices there are, are at most 2^20. -/
structure HSm (h : Hd) : Prop where
  p : h.p.length ≤ 1048576
  t : h.t.length ≤ 1048576
  s : h.s.length ≤ 1048576
  sz : ∀ z ∈ h.s, z.length ≤ 1048576
  r : h.r.length ≤ 1048576
  g : h.g.length ≤ 1048576
  e : h.e.length ≤ 1048576
  k : h.k.length ≤ 1048576
  kz : ∀ z ∈ h.k, z.length ≤ 1048576

/-- The eleven cells of a header. -/
def hvals (x : HS) (h : Hd) : Array Value := #[.slice x.p.a x.p.n x.p.c, .int .i64 h.n1, .int .i64 h.n2, .int .i64 h.n3, .slice x.t.a x.t.n x.t.c, .int .i64 h.n5, .slice x.s.a x.s.n x.s.c, .slice x.r.a x.r.n x.r.c, .slice x.g.a x.g.n x.g.c, .slice x.e.a x.e.n x.e.c, .slice x.k.a x.k.n x.k.c]

section
variable {H : Type} {enc : TypeId × Value → H} {P : Program} {w : World} {sp : Nat → Bool} {held : Bool}

/-- A field that is a slice of bytes. -/
theorem field_bytes {ts tu : TypeId} {fuel : Nat} {v : Value} {y : DataW H × List MemPlace} (us : P.underlying ts = some (.slice tu)) (uu : P.underlying tu = some (.int .u8)) (cu : P.cellsOf tu = 1)
    (h : DataW.trod enc P w 0 sp held fuel ts [v] = some y) : ∃ (x : Sl) (z : List Int), v = .slice x.a x.n x.c ∧ x.n ≤ maxLen ∧ BRow w x.a x.n z := by
  rcases ChangeShapes.open_ints us uu cu h with ⟨e2, _⟩ | ⟨sa, sl, sc, zs, e2, _, hsl, hsm, hzl, _, hzc, hzw⟩
  · simp only [List.cons.injEq, and_true] at e2
    subst e2
    exact ⟨⟨none, 0, 0⟩, [], rfl, Nat.zero_le _, rfl, fun n hn => by simp at hn, fun _ => rfl, fun y hy => by cases hy⟩
  · simp only [List.cons.injEq, and_true] at e2
    subst e2
    have hzl' : sl ≤ zs.length := by rw [hzl]; split <;> omega
    refine ⟨⟨some sa, sl, sc⟩, zs.take sl, rfl, Nat.le_trans hsl hsm, by simp; omega, fun n hn => ?_, (fun e => (by cases e)), fun y hy j hj => ?_⟩
    · exact bounds_u8 (hzw n (List.mem_of_mem_take hn))
    · cases hy
      have hj' : j < sl := hj
      rw [hzc j (by omega), getD_at _ j (by omega), getD_at _ j (by simp; omega), List.getElem_take]

/-- A field that is a slice of slices of bytes. -/
theorem field_bss {t ts tu : TypeId} {fuel : Nat} {v : Value} {y : DataW H × List MemPlace} (ut : P.underlying t = some (.slice ts)) (us : P.underlying ts = some (.slice tu)) (cs : P.cellsOf ts = 1) (uu : P.underlying tu = some (.int .u8)) (cu : P.cellsOf tu = 1)
    (h : DataW.trod enc P w 0 sp held fuel t [v] = some y) : ∃ (x : Sl) (z : List (List Int)), v = .slice x.a x.n x.c ∧ x.n ≤ maxLen ∧ BsRow w x.a x.n z := by
  have hv : ∃ a len cap, v = .slice a len cap := by
    rcases DataW.trod_slice ut h with ⟨hn, _⟩ | ⟨x, len', cap', elems, rest, n, _, hcs, _⟩
    · simp only [List.cons.injEq, and_true] at hn; exact ⟨_, _, _, hn⟩
    · simp only [List.cons.injEq, and_true] at hcs; exact ⟨_, _, _, hcs⟩
  obtain ⟨a, len, cap, rfl⟩ := hv
  obtain ⟨d, ps⟩ := y
  obtain ⟨zss, h1, h2⟩ := read_bss ut us cs cu uu h
  exact ⟨⟨a, len, cap⟩, zss, rfl, h1, h2⟩

theorem field_int {t : TypeId} {fuel : Nat} {v : Value} {y : DataW H × List MemPlace} (ut : P.underlying t = some (.int .i64)) (h : DataW.trod enc P w 0 sp held fuel t [v] = some y) : ∃ n, v = .int .i64 n ∧ in64 n := by
  obtain ⟨n, e, _, hwf⟩ := DataW.trod_int ut h
  simp only [List.cons.injEq, and_true] at e
  exact ⟨n, e, bounds_i64 hwf⟩

/-- How an argument that is a header reads. -/
theorem open_header {t tb ti tl tu : TypeId} {fs : Array Field} {f0 f1 f2 f3 f4 f5 f6 f7 f8 f9 f10 : Field} {v : Value} {d : DataW H} {ps : List MemPlace}
    (ht : P.underlying t = some (.struct fs)) (hfs : fs = #[f0, f1, f2, f3, f4, f5, f6, f7, f8, f9, f10]) (hc : P.cellsOf t = 11)
    (ho : f0.offset = 0 ∧ f1.offset = 1 ∧ f2.offset = 2 ∧ f3.offset = 3 ∧ f4.offset = 4 ∧ f5.offset = 5 ∧ f6.offset = 6 ∧ f7.offset = 7 ∧ f8.offset = 8 ∧ f9.offset = 9 ∧ f10.offset = 10)
    (hty : f0.type = tb ∧ f1.type = ti ∧ f2.type = ti ∧ f3.type = ti ∧ f4.type = tb ∧ f5.type = ti ∧ f6.type = tl ∧ f7.type = tb ∧ f8.type = tb ∧ f9.type = tb ∧ f10.type = tl)
    (ub : P.underlying tb = some (.slice tu)) (uu : P.underlying tu = some (.int .u8)) (ui : P.underlying ti = some (.int .i64)) (ul : P.underlying tl = some (.slice tb))
    (cb : P.cellsOf tb = 1) (ci : P.cellsOf ti = 1) (cl : P.cellsOf tl = 1) (cu : P.cellsOf tu = 1)
    (hv : ∃ cs, v = .agg cs ∧ cs.size = P.cellsOf t) (h : DataW.Trod enc P w 0 sp held t v d ps) :
    ∃ (x : HS) (y : Hd), v = .agg (hvals x y) ∧ HOk w x y ∧ HMax x maxLen ∧ HIn y := by
  obtain ⟨cs, rfl, hsz⟩ := hv
  obtain ⟨fuel, h⟩ := h
  have h' : DataW.trod enc P w 0 sp held fuel t cs.toList = some (d, ps) := h
  obtain ⟨l⟩ := cs
  rw [hc] at hsz
  have hl : l.length = 11 := by simpa using hsz
  match l, hl with
  | [v0, v1, v2, v3, v4, v5, v6, v7, v8, v9, v10], _ =>
    subst hfs
    obtain ⟨xs, m, _, _, _, hxl, hf⟩ := DataW.trod_struct ht h'
    have hs : xs.length = 11 := by rw [hxl]; rfl
    obtain ⟨o0, o1, o2, o3, o4, o5, o6, o7, o8, o9, o10⟩ := ho
    obtain ⟨y0, y1, y2, y3, y4, y5, y6, y7, y8, y9, y10⟩ := hty
    have g0 := hf 0 f0 rfl
    have g1 := hf 1 f1 rfl
    have g2 := hf 2 f2 rfl
    have g3 := hf 3 f3 rfl
    have g4 := hf 4 f4 rfl
    have g5 := hf 5 f5 rfl
    have g6 := hf 6 f6 rfl
    have g7 := hf 7 f7 rfl
    have g8 := hf 8 f8 rfl
    have g9 := hf 9 f9 rfl
    have g10 := hf 10 f10 rfl
    rw [List.getElem?_eq_getElem (by omega)] at g0 g1 g2 g3 g4 g5 g6 g7 g8 g9 g10
    rw [y0, o0, cb] at g0
    rw [y1, o1, ci] at g1
    rw [y2, o2, ci] at g2
    rw [y3, o3, ci] at g3
    rw [y4, o4, cb] at g4
    rw [y5, o5, ci] at g5
    rw [y6, o6, cl] at g6
    rw [y7, o7, cb] at g7
    rw [y8, o8, cb] at g8
    rw [y9, o9, cb] at g9
    rw [y10, o10, cl] at g10
    simp only [List.drop_zero, List.drop_succ_cons, List.take_succ_cons, List.take_zero] at g0 g1 g2 g3 g4 g5 g6 g7 g8 g9 g10
    obtain ⟨x0, z0, e0, l0, r0⟩ := field_bytes ub uu cu g0
    obtain ⟨n1, e1, i1⟩ := field_int ui g1
    obtain ⟨n2, e2, i2⟩ := field_int ui g2
    obtain ⟨n3, e3, i3⟩ := field_int ui g3
    obtain ⟨x4, z4, e4, l4, r4⟩ := field_bytes ub uu cu g4
    obtain ⟨n5, e5, i5⟩ := field_int ui g5
    obtain ⟨x6, z6, e6, l6, r6⟩ := field_bss ul ub cb uu cu g6
    obtain ⟨x7, z7, e7, l7, r7⟩ := field_bytes ub uu cu g7
    obtain ⟨x8, z8, e8, l8, r8⟩ := field_bytes ub uu cu g8
    obtain ⟨x9, z9, e9, l9, r9⟩ := field_bytes ub uu cu g9
    obtain ⟨x10, z10, e10, l10, r10⟩ := field_bss ul ub cb uu cu g10
    subst e0 e1 e2 e3 e4 e5 e6 e7 e8 e9 e10
    exact ⟨⟨x0, x4, x6, x7, x8, x9, x10⟩, ⟨z0, n1, n2, n3, z4, n5, z6, z7, z8, z9, z10⟩, rfl, ⟨r0, r4, r6, r7, r8, r9, r10⟩, ⟨l0, l4, l6, l7, l8, l9, l10⟩, ⟨i1, i2, i3, i5⟩⟩
end

end Go.Proofs.YtpkfgffgldjceaaDoor

/- What is proved here: the contract of the laws' helper function toHeader: the header's copy, in new memory of its own. -/
namespace Go.Proofs.YtpkfgffgldjceaaDoor
open Go.RowKit
set_option linter.unusedVariables false
set_option maxRecDepth 100000

theorem three_blk (w : World) (vs us ts : Array Value) (T S R : TypeId) : SBlk (((w.alloc (.cells vs T)).alloc (.cells us S)).alloc (.cells ts R)) w.heap.size vs.toList T ∧ SBlk (((w.alloc (.cells vs T)).alloc (.cells us S)).alloc (.cells ts R)) (w.heap.size + 1) us.toList S ∧
    SBlk (((w.alloc (.cells vs T)).alloc (.cells us S)).alloc (.cells ts R)) (w.heap.size + 2) ts.toList R ∧ Below w.heap.size w (((w.alloc (.cells vs T)).alloc (.cells us S)).alloc (.cells ts R)) ∧ (((w.alloc (.cells vs T)).alloc (.cells us S)).alloc (.cells ts R)).heap.size = w.heap.size + 3 := by
  refine ⟨((SBlk.new w vs T).next _).next _, ?_, ?_, (((Below.refl _ _).alloc (Nat.le_refl _) _).alloc (by simp) _).alloc (by simp; omega) _, by simp⟩
  · have h := (SBlk.new (w.alloc (.cells vs T)) us S).next (.cells ts R)
    rwa [show (w.alloc (.cells vs T)).heap.size = w.heap.size + 1 by simp] at h
  · have h := SBlk.new ((w.alloc (.cells vs T)).alloc (.cells us S)) ts R
    rwa [show ((w.alloc (.cells vs T)).alloc (.cells us S)).heap.size = w.heap.size + 2 by simp] at h

theorem toB_to (a : Option Addr) (n cap : Nat) (z : List Int) (W : World) (g : Nat) (hg : W.heap.size = g) (h : BRow W a n z) (hl : z.length ≤ 1048576) :
    Calls Tryd.prog 47 #[.slice a n cap] W fun e w' => e = .returned (.slice (some ⟨g, 0, none⟩) z.length z.length) ∧ w'.ownsRow g 5 1 (.slice (some ⟨g, 0, none⟩) z.length z.length) z.length (z.map (Value.int .u8)) ∧ Below g W w' := by
  subst hg
  obtain rfl : z.length = n := h.1
  exact toByteS_any a _ cap z W h hl

theorem toBs_to (a : Option Addr) (n cap : Nat) (z : List (List Int)) (W : World) (g : Nat) (hg : W.heap.size = g) (h : BsRow W a n z) (hl : z.length ≤ 1048576) (hz : ∀ y ∈ z, y.length ≤ 1048576) :
    Calls Tryd.prog 21 #[.slice a n cap] W fun e w' => e = .returned (.slice (some ⟨g, 0, none⟩) z.length z.length) ∧ OBss w' g z 57 w'.heap.size ∧ Below g W w' := by
  subst hg
  obtain rfl : z.length = n := h.1
  exact toByteSS_any a _ cap z W h hl hz

/-- The header's slices lie in blocks of their own, all from B on. -/
def HOwn (w : World) (B : Nat) (x : HS) (h : Hd) : Prop :=
  ∃ g1 g2 g3 g4 g5 g6 g7 : Nat, x = ⟨⟨some ⟨g1, 0, none⟩, h.p.length, h.p.length⟩, ⟨some ⟨g2, 0, none⟩, h.t.length, h.t.length⟩, ⟨some ⟨g3, 0, none⟩, h.s.length, h.s.length⟩, ⟨some ⟨g4, 0, none⟩, h.r.length, h.r.length⟩, ⟨some ⟨g5, 0, none⟩, h.g.length, h.g.length⟩, ⟨some ⟨g6, 0, none⟩, h.e.length, h.e.length⟩, ⟨some ⟨g7, 0, none⟩, h.k.length, h.k.length⟩⟩ ∧
    (B ≤ g1 ∧ g1 < g2 ∧ g2 < g3 ∧ g3 < g4 ∧ g4 < g5 ∧ g5 < g6 ∧ g6 < g7) ∧
    w.ownsRow g1 5 1 (.slice (some ⟨g1, 0, none⟩) h.p.length h.p.length) h.p.length (h.p.map (Value.int .u8)) ∧
    w.ownsRow g2 5 1 (.slice (some ⟨g2, 0, none⟩) h.t.length h.t.length) h.t.length (h.t.map (Value.int .u8)) ∧
    OBss w g3 h.s 57 g4 ∧
    w.ownsRow g4 5 1 (.slice (some ⟨g4, 0, none⟩) h.r.length h.r.length) h.r.length (h.r.map (Value.int .u8)) ∧
    w.ownsRow g5 5 1 (.slice (some ⟨g5, 0, none⟩) h.g.length h.g.length) h.g.length (h.g.map (Value.int .u8)) ∧
    w.ownsRow g6 5 1 (.slice (some ⟨g6, 0, none⟩) h.e.length h.e.length) h.e.length (h.e.map (Value.int .u8)) ∧
    OBss w g7 h.k 57 w.heap.size

/-- What is owned reads so. -/
theorem HOwn.ok {w v : World} {B : Nat} {x y : HS} {h : Hd} (o : HOwn w B x h) (q : HOk v y h) : HOk w x h := by
  obtain ⟨g1, g2, g3, g4, g5, g6, g7, rfl, _, o1, o2, o3, o4, o5, o6, o7⟩ := o
  exact ⟨BRow.own2 o1 q.p.2.1, BRow.own2 o2 q.t.2.1, o3.row q.s.2.1 q.s.bytes, BRow.own2 o4 q.r.2.1, BRow.own2 o5 q.g.2.1, BRow.own2 o6 q.e.2.1, o7.row q.k.2.1 q.k.bytes⟩

end Go.Proofs.YtpkfgffgldjceaaDoor

/- What is proved here: the contracts of the laws' helper functions that count the bytes of slices of slices of bytes (szByteS, szByteSS). -/
namespace Go.Proofs.YtpkfgffgldjceaaDoor
open Go.RowKit
set_option linter.unusedVariables false
set_option maxRecDepth 100000

theorem szB1_any (a : Option Addr) (n cap : Nat) (left : Int) (w : World) (h0 : 0 ≤ left) (h1 : left ≤ 1099511627776) (hn : n ≤ maxLen) :
    Calls Tryd.prog 38 #[.slice a n cap, .int .i64 left] w fun e w' => e = .returned (.int .i64 (if left - n < 0 then -1 else left - n)) ∧ w' = w := by
  unfold maxLen at hn
  by_cases h : left - n < 0
  · rw [if_pos h]
    have hd : decide (left - (n : Int) < 0) = true := decide_eq_true h
    go_enter Tryd.func38, Tryd.ntmps38
    go_wp2
    go_ret
    exact ⟨rfl, rfl⟩
  · rw [if_neg h]
    have hd : decide (left - (n : Int) < 0) = false := decide_eq_false h
    go_enter Tryd.func38, Tryd.ntmps38
    go_wp2
    go_ret
    exact ⟨rfl, rfl⟩

set_option maxHeartbeats 1000000 in
theorem szByteSS_any (a : Option Addr) (len cap : Nat) (zss : List (List Int)) (left : Int) (w : World) (h : BsRow w a len zss) (hl : len ≤ maxLen) (h0 : 0 ≤ left) (h1 : left ≤ 1099511627776) :
    Calls Tryd.prog 16 #[.slice a len cap, .int .i64 left] w fun e w' => e = .returned (.int .i64 (szBss left zss)) ∧ w' = w := by
  unfold maxLen at hl
  have hil := h.1
  by_cases hs : left - len < 0
  · have e : szBss left zss = -1 := if_pos (by rw [hil]; exact hs)
    rw [e]
    have hd : decide (left - (len : Int) < 0) = true := decide_eq_true hs
    go_enter Tryd.func16, Tryd.ntmps16
    go_wp2_with fail
    go_ret
    exact ⟨rfl, rfl⟩
  · have e : szBss left zss = szBs (left - len) zss := by rw [← hil]; exact if_neg (by rw [hil]; exact hs)
    have HE := hide e
    have hd : decide (left - (len : Int) < 0) = false := decide_eq_false hs
    clear e
    rcases Nat.eq_zero_or_pos len with hz | hp
    · subst hz
      have hn : zss = [] := List.length_eq_zero_iff.1 hil
      subst hn
      clear h
      go_enter Tryd.func16, Tryd.ntmps16
      go_wp2_with fail
      refine wp_loop_rounds 1 ?_
      rw [rounds_succ]
      go_wp2_with fail
      go_ret
      exact ⟨ret_int (by rw [unhide HE]; simp [szBs]), rfl⟩
    · obtain ⟨b, off, rfl, hb, hc⟩ := h.at hp
      have hok := h.2.1
      have HC := hide hc
      have HK := hide hok
      have HL := hide hil
      clear h hc hok hil
      go_enter Tryd.func16, Tryd.ntmps16
      go_wp2_with fail
      go_loop [1, 5] (fun q i => ∃ (k : Nat) (L : Int), k ≤ len ∧ i = .int .i64 k ∧ q = .int .i64 L ∧ 0 ≤ L ∧ L ≤ left ∧ szBs (left - len) zss = szBs L (zss.drop k)) (fun _ i => len - (intOf i).toNat)
      case atStart => exact ⟨0, _, Nat.zero_le _, rfl, rfl, by omega, by omega, by simp⟩
      case round =>
        obtain ⟨k, L, hk, rfl, rfl, hL0, hL1, hrest⟩ := hrel
        by_cases hlt : k < len
        · obtain ⟨z, hit⟩ : ∃ z, zss[k]? = some z := ⟨_, List.getElem?_eq_getElem (by rw [unhide HL]; exact hlt)⟩
          have hat := unhide HC k z hit
          have hio := unhide HK z (List.mem_of_getElem? hit)
          have hst := szBs_step zss k z L hit
          obtain ⟨sa, sl, sc, c0, hbrow⟩ := hat
          have hsl : z.length = sl := hbrow.1
          rw [hsl] at hst hio
          have HR := hide hrest
          have HS := hide hst
          have i1 : (0 : Int) ≤ (k : Int) := by omega
          have i2 : (k : Int) < (len : Int) := by omega
          clear hbrow hsl hrest hst hit
          by_cases hneg : L - sl < 0
          · have HZ := hide (fun W => szB1_any sa sl sc L W hL0 (by omega) hio)
            rw [if_pos hneg] at HS
            simp only [if_pos hneg] at HZ
            go_wp2_with fail
            refine ((unhide HZ) _).mono ?_
            rintro e w1 ⟨rfl, rfl⟩
            go_wp2_with fail
            go_ret
            exact ⟨ret_int (by rw [unhide HE, unhide HR, unhide HS]), rfl⟩
          · have HZ := hide (fun W => szB1_any sa sl sc L W hL0 (by omega) hio)
            rw [if_neg hneg] at HS
            simp only [if_neg hneg] at HZ
            have hd2 : decide (L - (sl : Int) < 0) = false := decide_eq_false hneg
            go_wp2_with fail
            refine ((unhide HZ) _).mono ?_
            rintro e w1 ⟨rfl, rfl⟩
            go_wp2_with fail
            go_round
            case rel => exact ⟨k + 1, L - sl, by omega, by go_num, rfl, by omega, by omega, by rw [unhide HR, unhide HS]⟩
            case measure => simp [intOf]; omega
        · obtain rfl : k = len := by omega
          have hend : zss.drop k = [] := List.drop_eq_nil_of_le (by rw [unhide HL]; exact Nat.le_refl _)
          rw [hend] at hrest
          have HR := hide hrest
          clear hrest hend
          go_wp2_with fail
          go_ret
          exact ⟨ret_int (by rw [unhide HE, unhide HR]; rfl), rfl⟩

end Go.Proofs.YtpkfgffgldjceaaDoor

/- What is proved here: the contract of the laws' helper function szHeader: what it leaves is below 0, or the header is small. -/
namespace Go.Proofs.YtpkfgffgldjceaaDoor
open Go.RowKit
set_option linter.unusedVariables false
set_option maxRecDepth 100000

theorem szB1_to (a : Option Addr) (n cap : Nat) (left L : Int) (w : World) (h0 : 0 ≤ left) (h1 : left ≤ 1099511627776) (hn : n ≤ maxLen) (e : L = if left - n < 0 then -1 else left - n) :
    Calls Tryd.prog 38 #[.slice a n cap, .int .i64 left] w fun e w' => e = .returned (.int .i64 L) ∧ w' = w := by
  subst e; exact szB1_any a n cap left w h0 h1 hn

theorem szBss_to (a : Option Addr) (len cap : Nat) (zss : List (List Int)) (left L : Int) (w : World) (h : BsRow w a len zss) (hl : len ≤ maxLen) (h0 : 0 ≤ left) (h1 : left ≤ 1099511627776) (e : L = szBss left zss) :
    Calls Tryd.prog 16 #[.slice a len cap, .int .i64 left] w fun e w' => e = .returned (.int .i64 L) ∧ w' = w := by
  subst e; exact szByteSS_any a len cap zss left w h hl h0 h1

/-- All bytes of some slices, and of a header. -/
def bsum (zss : List (List Int)) : Nat := (zss.map List.length).sum

theorem szBs_eq (zss : List (List Int)) : ∀ left, 0 ≤ szBs left zss → szBs left zss = left - bsum zss := by
  induction zss with
  | nil => intro left _; simp [szBs, bsum]
  | cons z r ih =>
    intro left h
    unfold szBs at h ⊢
    split at h
    · omega
    · rename_i hn
      rw [if_neg hn, ih _ h]
      simp [bsum]
      omega

theorem szBss_eq {left : Int} {zss : List (List Int)} (h : 0 ≤ szBss left zss) : szBss left zss = left - zss.length - bsum zss := by
  unfold szBss at h ⊢
  split at h
  · omega
  · rename_i hn
    rw [if_neg hn]
    exact szBs_eq zss _ h

def hTot (h : Hd) : Nat := h.p.length + h.t.length + bsum h.s + h.r.length + h.g.length + h.e.length + bsum h.k

end Go.Proofs.YtpkfgffgldjceaaDoor

/- What is proved here: the contracts of the laws' helper functions that write marks into an answer's bytes and look for them later (markByteS, heldByteS and those over BytesResult), for slices that the call itself made. -/
namespace Go.Proofs.YtpkfgffgldjceaaDoor
open Go.RowKit
set_option linter.unusedVariables false
set_option maxRecDepth 100000

end Go.Proofs.YtpkfgffgldjceaaDoor

/- What is proved here: a row that the call owns stays when another block is written; it holds for every program. -/
namespace Go.Proofs.YtpkfgffgldjceaaDoor
open Go.RowKit
set_option linter.unusedVariables false
set_option maxRecDepth 100000

theorem own_grown {w w' : World} {B : Nat} {e : TypeId} {size n : Nat} {v : Value} {xs : List Value} {row : Option Nat} (h : w.ownsRow B e size v n xs) (hg : w.grownBy w' row) (hne : ∀ g, v.ownBlock = some g → some g ≠ row) : w'.ownsRow B e size v n xs := by
  refine ⟨h.1, ?_⟩
  rcases h.2 with h' | ⟨g, cap, cur, h1, h2, h3, h4⟩
  · exact .inl h'
  · refine .inr ⟨g, cap, cur, h1, h2, ?_, h4⟩
    rw [hg.block g (lt_of_block h3) (hne g (by rw [h1]; rfl))]
    exact h3

end Go.Proofs.YtpkfgffgldjceaaDoor

/- What is proved here: the contracts of the laws' helper functions that mark a header's bytes (markByteSS, markHeader): they write into its own blocks alone. -/
namespace Go.Proofs.YtpkfgffgldjceaaDoor
open Go.RowKit
set_option linter.unusedVariables false
set_option maxRecDepth 100000

/-- Nothing is written below B, nor from C on. -/
def OnlyH (B C : Nat) (w w' : World) : Prop := Below B w w' ∧ ∀ k, C ≤ k → k < w.heap.size → w'.heap[k]? = w.heap[k]?

theorem OnlyH.refl (B C : Nat) (w : World) : OnlyH B C w w := ⟨Below.refl _ _, fun _ _ _ => rfl⟩

theorem OnlyH.trans {B C : Nat} {a b c : World} (h : OnlyH B C a b) (k : OnlyH B C b c) : OnlyH B C a c :=
  ⟨h.1.trans k.1, fun q hq hl => (k.2 q hq (Nat.lt_of_lt_of_le hl h.1.size)).trans (h.2 q hq hl)⟩

theorem OnlyH.mono {B B' C C' : Nat} {a b : World} (h : OnlyH B C a b) (hB : B' ≤ B) (hC : C ≤ C') : OnlyH B' C' a b := ⟨h.1.mono hB, fun q hq hl => h.2 q (by omega) hl⟩

theorem OnlyH.grown {a b : World} {g : Nat} (B : Nat) (hg : a.grownBy b (some g)) (h : Below B a b) : OnlyH B (g + 1) a b := ⟨h, fun q hq hl => hg.block q hl (fun e => by have := Option.some.inj e; omega)⟩

theorem OnlyH.cell {B C : Nat} {w w' : World} (h : OnlyH B C w w') {p : Addr} (hp : C ≤ p.block) (hl : p.block < w.heap.size) : w'.cell? p = w.cell? p := World.cell?_of_block (w := w) (h.2 p.block hp hl)

theorem OnlyH.own {B C D : Nat} {w w' : World} (h : OnlyH B C w w') {e : TypeId} {size n : Nat} {v : Value} {xs : List Value} (ho : w.ownsRow D e size v n xs) (hD : C ≤ D) : w'.ownsRow D e size v n xs := by
  refine ⟨ho.1, ?_⟩
  rcases ho.2 with h' | ⟨g, cap, cur, h1, h2, h3, h4⟩
  · exact .inl h'
  · exact .inr ⟨g, cap, cur, h1, h2, (h.2 g (by omega) (lt_of_block h3)).trans h3, h4⟩

theorem OnlyH.sblk {B C : Nat} {w w' : World} (h : OnlyH B C w w') {g : Nat} {vs : List Value} {T : TypeId} (hs : SBlk w g vs T) (hg : C ≤ g) : SBlk w' g vs T := (h.2 g hg hs.lt).trans hs

/-- Slices of slices of bytes: those from k on are as they were. -/
def MBs (w : World) (g : Nat) (zss : List (List Int)) (k : Nat) (T : TypeId) (C : Nat) : Prop :=
  ∃ (vs : List Value) (f : Nat → Nat), SBlk w g vs T ∧ vs.length = zss.length ∧ (∀ i, i < zss.length → g < f i ∧ f i < C) ∧ (∀ i j, i < j → j < zss.length → f i < f j) ∧
    ∀ i z, k ≤ i → zss[i]? = some z → vs[i]? = some (.slice (some ⟨f i, 0, none⟩) z.length z.length) ∧ w.ownsRow (g + 1) 5 1 (.slice (some ⟨f i, 0, none⟩) z.length z.length) z.length (z.map (Value.int .u8))

theorem OBss.mbs {w : World} {g : Nat} {zss : List (List Int)} {T : TypeId} {C : Nat} (h : OBss w g zss T C) : MBs w g zss 0 T C := by
  obtain ⟨vs, f, h1, h2, h3, h4, h5⟩ := h
  exact ⟨vs, f, h1, h2, h3, h4, fun i z _ hz => h5 i z (List.getElem?_eq_some_iff.1 hz).1 hz⟩

theorem bsum_snoc (zss : List (List Int)) (k : Nat) (z : List Int) (h : zss[k]? = some z) : bsum (zss.take (k + 1)) = bsum (zss.take k) + z.length := by
  obtain ⟨hk, e⟩ := List.getElem?_eq_some_iff.1 h
  unfold bsum
  rw [List.take_succ_eq_append_getElem hk, e]
  simp

theorem bsum_le (zss : List (List Int)) (k : Nat) : bsum (zss.take k) ≤ bsum zss := by
  have : zss = zss.take k ++ zss.drop k := (List.take_append_drop k zss).symm
  have e : bsum zss = bsum (zss.take k) + bsum (zss.drop k) := by
    unfold bsum
    rw [← List.sum_append, ← List.map_append, List.take_append_drop]
  omega

end Go.Proofs.YtpkfgffgldjceaaDoor

/- What is proved here: plain facts on slices of slices of bytes: none is a bare nil with some room. -/
namespace Go.Proofs.YtpkfgffgldjceaaDoor
open Go.RowKit
set_option linter.unusedVariables false
set_option maxRecDepth 100000

/-- None of the slices is a bare nil with some room. -/
def BsNil (w : World) (a : Option Addr) (len : Nat) : Prop := ∀ b off, a = some ⟨b, off, none⟩ → ∀ i, i < len → ∃ sa sl sc, w.cell? ⟨b, off + i, none⟩ = some (.slice sa sl sc) ∧ (sa = none → sc = 0)

theorem BsNil.below {w w' : World} {a : Option Addr} {len : Nat} (h : BsNil w a len) {B : Nat} (hb : Below B w w') (hB : w.heap.size ≤ B) : BsNil w' a len := by
  intro b off e i hi
  obtain ⟨sa, sl, sc, hc, hn⟩ := h b off e i hi
  exact ⟨sa, sl, sc, (hb.cell (Nat.lt_of_lt_of_le (lt_of_cell hc) hB)).trans hc, hn⟩

theorem OBss.nilOk {w : World} {g : Nat} {zss : List (List Int)} {T : TypeId} {C : Nat} (h : OBss w g zss T C) : BsNil w (some ⟨g, 0, none⟩) zss.length := by
  obtain ⟨vs, f, h1, h2, h3, h4, h5⟩ := h
  intro b off e i hi
  simp only [Option.some.injEq, Addr.mk.injEq, and_true] at e
  obtain ⟨rfl, rfl⟩ := e
  obtain ⟨z, hz⟩ : ∃ z, zss[i]? = some z := ⟨_, List.getElem?_eq_getElem hi⟩
  obtain ⟨q1, _⟩ := h5 i z hi hz
  exact ⟨_, _, _, by rw [Nat.zero_add, h1.cell]; exact q1, fun e => by cases e⟩

end Go.Proofs.YtpkfgffgldjceaaDoor

/- What is proved here: plain facts on headers that a call made in memory of their own, told by colours of blocks: what is written in blocks of one colour leaves all else. -/
namespace Go.Proofs.YtpkfgffgldjceaaDoor
open Go.RowKit
set_option linter.unusedVariables false
set_option maxRecDepth 100000

/-- A slice's value. -/
def Sl.v (s : Sl) : Value := .slice s.a s.n s.c

/-- Bytes in memory of their own, at or beyond B; its block has the colour j. -/
structure CB (w : World) (B : Nat) (d : Nat → Nat) (j : Nat) (s : Sl) (z : List Int) : Prop where
  len : s.n = z.length
  rng : ∀ x ∈ z, 0 ≤ x ∧ x ≤ 255
  own : w.ownsRow B 5 1 (.slice s.a s.n s.c) s.n (z.map (Value.int .u8))
  col : ∀ g, (Value.slice s.a s.n s.c).ownBlock = some g → d g = j

/-- Nothing is written below B, nor in blocks whose colour is not in S. -/
def OnlyD (B : Nat) (d : Nat → Nat) (S : Nat → Prop) (w w' : World) : Prop := Below B w w' ∧ ∀ g, g < w.heap.size → ¬ S (d g) → w'.heap[g]? = w.heap[g]?

theorem OnlyD.refl (B : Nat) (d : Nat → Nat) (S : Nat → Prop) (w : World) : OnlyD B d S w w := ⟨Below.refl _ _, fun _ _ _ => rfl⟩

theorem OnlyD.trans {B : Nat} {d : Nat → Nat} {S : Nat → Prop} {a b c : World} (h : OnlyD B d S a b) (k : OnlyD B d S b c) : OnlyD B d S a c :=
  ⟨h.1.trans k.1, fun g hg hs => (k.2 g (Nat.lt_of_lt_of_le hg h.1.size) hs).trans (h.2 g hg hs)⟩

theorem OnlyD.mono {B : Nat} {d : Nat → Nat} {S T : Nat → Prop} {a b : World} (h : OnlyD B d S a b) (hs : ∀ c, S c → T c) : OnlyD B d T a b := ⟨h.1, fun g hg ht => h.2 g hg (fun q => ht (hs _ q))⟩

theorem OnlyD.below {B C : Nat} {d : Nat → Nat} {S : Nat → Prop} {a b : World} (h : Below C a b) (hC : a.heap.size ≤ C) (hB : B ≤ C) : OnlyD B d S a b := ⟨h.mono hB, fun g hg _ => h.block g (Nat.lt_of_lt_of_le hg hC)⟩

theorem OnlyD.grown {B j : Nat} {d : Nat → Nat} {a b : World} {row : Option Nat} (hg : a.grownBy b row) (hB : B ≤ a.heap.size) (hr : ∀ g, row = some g → B ≤ g ∧ d g = j) : OnlyD B d (fun c => c = j) a b :=
  ⟨(Below.refl B a).grown hg hB (fun k e => (hr k e).1), fun g hl hs => hg.block g hl (fun e => hs (hr g e.symm).2)⟩

theorem own_keep {B D : Nat} {d : Nat → Nat} {S : Nat → Prop} {w w' : World} {e : TypeId} {size n j : Nat} {v : Value} {xs : List Value} (ho : w.ownsRow D e size v n xs) (h : OnlyD B d S w w') (hc : ∀ g, v.ownBlock = some g → d g = j) (hj : ¬ S j) : w'.ownsRow D e size v n xs := by
  refine ⟨ho.1, ?_⟩
  rcases ho.2 with h' | ⟨g, cap, cur, h1, h2, h3, h4⟩
  · exact .inl h'
  · have hd := hc g (by rw [h1]; rfl)
    exact .inr ⟨g, cap, cur, h1, h2, (h.2 g (lt_of_block h3) (by rw [hd]; exact hj)).trans h3, h4⟩

theorem own_lt {w : World} {B : Nat} {e : TypeId} {size n : Nat} {v : Value} {xs : List Value} (h : w.ownsRow B e size v n xs) (g : Nat) (hg : v.ownBlock = some g) : B ≤ g ∧ g < w.heap.size := h.lt g hg

theorem CB.only {B D j : Nat} {d : Nat → Nat} {S : Nat → Prop} {w w' : World} {s : Sl} {z : List Int} (h : CB w B d j s z) (o : OnlyD D d S w w') (hj : ¬ S j) : CB w' B d j s z := ⟨h.len, h.rng, own_keep h.own o h.col hj, h.col⟩

theorem CB.below {B C j : Nat} {d : Nat → Nat} {w w' : World} {s : Sl} {z : List Int} (h : CB w B d j s z) (hb : Below C w w') (hC : w.heap.size ≤ C) : CB w' B d j s z := ⟨h.len, h.rng, own_below h.own hb hC, h.col⟩

theorem CB.recol {B j : Nat} {d d' : Nat → Nat} {w : World} {s : Sl} {z : List Int} (h : CB w B d j s z) (hd : ∀ g, g < w.heap.size → d' g = d g) : CB w B d' j s z := ⟨h.len, h.rng, h.own, fun g hg => by rw [hd g (own_lt h.own g hg).2]; exact h.col g hg⟩

theorem CB.base {B B' j : Nat} {d : Nat → Nat} {w : World} {s : Sl} {z : List Int} (h : CB w B d j s z) (hB : B' ≤ B) : CB w B' d j s z := ⟨h.len, h.rng, ownsRow_base h.own hB, h.col⟩

theorem CB.brow {B j : Nat} {d : Nat → Nat} {w : World} {s : Sl} {z : List Int} (h : CB w B d j s z) : BRow w s.a s.n z := BRow.own2 h.own h.rng

theorem CB.nil (w : World) (B : Nat) (d : Nat → Nat) (j : Nat) : CB w B d j ⟨none, 0, 0⟩ [] := ⟨rfl, fun x hx => by simp at hx, World.ownsRow_nil _ _ _ _, fun g hg => by cases hg⟩

/-- What is made anew has any colour that one gives it. -/
theorem CB.new {w w' : World} {B j : Nat} {d : Nat → Nat} {a : Option Addr} {n c : Nat} {z : List Int} (hn : n = z.length) (hr : ∀ x ∈ z, 0 ≤ x ∧ x ≤ 255) (h : w'.ownsRow w.heap.size 5 1 (.slice a n c) n (z.map (Value.int .u8))) (hB : B ≤ w.heap.size) : CB w' B (fun g => if w.heap.size ≤ g then j else d g) j ⟨a, n, c⟩ z :=
  ⟨hn, hr, ownsRow_base h hB, fun g hg => if_pos (own_lt h g hg).1⟩

/-- A list of slices of bytes in memory of its own: its row has the colour r, its slices c, c + 3 and so on. -/
def CS (w : World) (B : Nat) (d : Nat → Nat) (r c : Nat) (s : Sl) (zss : List (List Int)) : Prop :=
  s.n = zss.length ∧ ∃ es : List Sl, es.length = zss.length ∧ w.ownsRow B 57 1 (.slice s.a s.n s.c) s.n (es.map Sl.v) ∧ (∀ g, (Value.slice s.a s.n s.c).ownBlock = some g → d g = r) ∧
    ∀ i e z, es[i]? = some e → zss[i]? = some z → CB w B d (c + 3 * i) e z

theorem CS.only {B D r c : Nat} {d : Nat → Nat} {S : Nat → Prop} {w w' : World} {s : Sl} {zss : List (List Int)} (h : CS w B d r c s zss) (o : OnlyD D d S w w') (hr : ¬ S r) (hc : ∀ i, ¬ S (c + 3 * i)) : CS w' B d r c s zss := by
  obtain ⟨h1, es, h2, h3, h4, h5⟩ := h
  exact ⟨h1, es, h2, own_keep h3 o h4 hr, h4, fun i e z he hz => (h5 i e z he hz).only o (hc i)⟩

theorem CS.below {B C r c : Nat} {d : Nat → Nat} {w w' : World} {s : Sl} {zss : List (List Int)} (h : CS w B d r c s zss) (hb : Below C w w') (hC : w.heap.size ≤ C) : CS w' B d r c s zss := by
  obtain ⟨h1, es, h2, h3, h4, h5⟩ := h
  exact ⟨h1, es, h2, own_below h3 hb hC, h4, fun i e z he hz => (h5 i e z he hz).below hb hC⟩

theorem CS.recol {B r c : Nat} {d d' : Nat → Nat} {w : World} {s : Sl} {zss : List (List Int)} (h : CS w B d r c s zss) (hd : ∀ g, g < w.heap.size → d' g = d g) : CS w B d' r c s zss := by
  obtain ⟨h1, es, h2, h3, h4, h5⟩ := h
  exact ⟨h1, es, h2, h3, fun g hg => by rw [hd g (own_lt h3 g hg).2]; exact h4 g hg, fun i e z he hz => (h5 i e z he hz).recol hd⟩

theorem CS.base {B B' r c : Nat} {d : Nat → Nat} {w : World} {s : Sl} {zss : List (List Int)} (h : CS w B d r c s zss) (hB : B' ≤ B) : CS w B' d r c s zss := by
  obtain ⟨h1, es, h2, h3, h4, h5⟩ := h
  exact ⟨h1, es, h2, ownsRow_base h3 hB, h4, fun i e z he hz => (h5 i e z he hz).base hB⟩

theorem CS.nil (w : World) (B : Nat) (d : Nat → Nat) (r c : Nat) : CS w B d r c ⟨none, 0, 0⟩ [] := ⟨rfl, [], rfl, World.ownsRow_nil _ _ _ _, (fun g hg => by cases hg), fun i e z he => by simp at he⟩

/-- The slice at a place, and what becomes of the list when it alone is written. -/
theorem CS.at {B r c : Nat} {d : Nat → Nat} {w : World} {s : Sl} {zss : List (List Int)} (h : CS w B d r c s zss) {k : Nat} {z : List Int} (hz : zss[k]? = some z) (hr : r ≠ c + 3 * k) :
    ∃ (g : Nat) (e : Sl), s.a = some ⟨g, 0, none⟩ ∧ w.cell? ⟨g, k, none⟩ = some (.slice e.a e.n e.c) ∧ CB w B d (c + 3 * k) e z ∧
      ∀ w' z', OnlyD B d (fun q => q = c + 3 * k) w w' → CB w' B d (c + 3 * k) e z' → CS w' B d r c s (zss.set k z') := by
  obtain ⟨h1, es, h2, h3, h4, h5⟩ := h
  have hk := (List.getElem?_eq_some_iff.1 hz).1
  obtain ⟨e, he⟩ : ∃ e, es[k]? = some e := ⟨_, List.getElem?_eq_getElem (by omega)⟩
  obtain ⟨g, cap, hv⟩ := own_some h3 (by omega)
  have hv2 := hv
  simp only [Value.slice.injEq] at hv2
  refine ⟨g, e, hv2.1, ?_, h5 k e z he hz, fun w' z' ho hc => ⟨by rw [List.length_set]; exact h1, es, by rw [List.length_set]; exact h2, own_keep h3 ho h4 hr, h4, fun i e' z'' he' hz'' => ?_⟩⟩
  · rw [hv] at h3
    rw [h3.cellAt k (by omega), List.getElem?_map, he]
    rfl
  · rw [List.getElem?_set] at hz''
    by_cases hik : k = i
    · subst hik
      rw [if_pos rfl, if_pos hk] at hz''
      obtain rfl := Option.some.inj hz''
      obtain rfl := Option.some.inj (he.symm.trans he')
      exact hc
    · rw [if_neg hik] at hz''
      exact (h5 i e' z'' he' hz'').only ho (fun q => hik (by omega))

theorem CS.bsrow {B r c : Nat} {d : Nat → Nat} {w : World} {s : Sl} {zss : List (List Int)} (h : CS w B d r c s zss) (hl : ∀ z ∈ zss, z.length ≤ maxLen) : BsRow w s.a s.n zss := by
  obtain ⟨h1, es, h2, h3, h4, h5⟩ := h
  refine ⟨h1.symm, hl, fun hp => ?_⟩
  obtain ⟨g, cap, hv⟩ := own_some h3 hp
  have hv2 := hv
  simp only [Value.slice.injEq] at hv2
  refine ⟨g, 0, hv2.1, fun i z hz => ?_⟩
  have hi := (List.getElem?_eq_some_iff.1 hz).1
  obtain ⟨e, he⟩ : ∃ e, es[i]? = some e := ⟨_, List.getElem?_eq_getElem (by omega)⟩
  rw [hv] at h3
  exact ⟨e.a, e.n, e.c, by rw [Nat.zero_add, h3.cellAt i (by omega), List.getElem?_map, he]; rfl, (h5 i e z he hz).brow⟩

/-- A header in memory of its own. -/
structure CH (w : World) (B : Nat) (d : Nat → Nat) (x : HS) (h : Hd) : Prop where
  p : CB w B d 0 x.p h.p
  t : CB w B d 1 x.t h.t
  s : CS w B d 5 7 x.s h.s
  r : CB w B d 2 x.r h.r
  g : CB w B d 3 x.g h.g
  e : CB w B d 4 x.e h.e
  k : CS w B d 6 8 x.k h.k

theorem CH.below {B C : Nat} {d : Nat → Nat} {w w' : World} {x : HS} {h : Hd} (o : CH w B d x h) (hb : Below C w w') (hC : w.heap.size ≤ C) : CH w' B d x h :=
  ⟨o.p.below hb hC, o.t.below hb hC, o.s.below hb hC, o.r.below hb hC, o.g.below hb hC, o.e.below hb hC, o.k.below hb hC⟩

theorem CH.base {B B' : Nat} {d : Nat → Nat} {w : World} {x : HS} {h : Hd} (o : CH w B d x h) (hB : B' ≤ B) : CH w B' d x h :=
  ⟨o.p.base hB, o.t.base hB, o.s.base hB, o.r.base hB, o.g.base hB, o.e.base hB, o.k.base hB⟩

theorem CH.recol {B : Nat} {d d' : Nat → Nat} {w : World} {x : HS} {h : Hd} (o : CH w B d x h) (hd : ∀ g, g < w.heap.size → d' g = d g) : CH w B d' x h :=
  ⟨o.p.recol hd, o.t.recol hd, o.s.recol hd, o.r.recol hd, o.g.recol hd, o.e.recol hd, o.k.recol hd⟩

theorem OnlyD.sblk {B : Nat} {d : Nat → Nat} {S : Nat → Prop} {w w' : World} (h : OnlyD B d S w w') {g : Nat} {vs : List Value} {T : TypeId} (hs : SBlk w g vs T) (hg : ¬ S (d g)) : SBlk w' g vs T := (h.2 g hs.lt hg).trans hs

theorem CH.hok {B : Nat} {d : Nat → Nat} {w : World} {x : HS} {h : Hd} (o : CH w B d x h) (m : HSm h) : HOk w x h :=
  ⟨o.p.brow, o.t.brow, o.s.bsrow (fun z hz => by have := m.sz z hz; unfold maxLen; omega), o.r.brow, o.g.brow, o.e.brow, o.k.bsrow (fun z hz => by have := m.kz z hz; unfold maxLen; omega)⟩

/-- The marks of a list of slices. -/
def mkss : Int → List (List Int) → List (List Int)
  | _, [] => []
  | k, z :: r => marks k z.length :: mkss (k + (z.length : Nat)) r

theorem mkss_length : ∀ (zss : List (List Int)) (k : Int), (mkss k zss).length = zss.length
  | [], k => rfl
  | z :: r, k => by rw [mkss, List.length_cons, List.length_cons, mkss_length r]

theorem mkss_at : ∀ (zss : List (List Int)) (k : Int) (i : Nat) (z : List Int), zss[i]? = some z → (mkss k zss)[i]? = some (marks (k + (bsum (zss.take i) : Nat)) z.length)
  | [], k, i, z, h => by simp at h
  | a :: r, k, 0, z, h => by
    simp at h
    subst h
    simp [mkss, bsum]
  | a :: r, k, i + 1, z, h => by
    rw [List.getElem?_cons_succ] at h
    rw [mkss, List.getElem?_cons_succ, mkss_at r _ i z h]
    have e : bsum ((a :: r).take (i + 1)) = a.length + bsum (r.take i) := by simp [bsum]
    rw [e]
    congr 2
    omega

/-- The marks of a header. -/
def mkH (k : Int) (h : Hd) : Hd :=
  { h with
    p := marks k h.p.length
    t := marks (k + (h.p.length : Nat)) h.t.length
    s := mkss (k + (h.p.length : Nat) + (h.t.length : Nat)) h.s
    r := marks (k + (h.p.length : Nat) + (h.t.length : Nat) + (bsum h.s : Nat)) h.r.length
    g := marks (k + (h.p.length : Nat) + (h.t.length : Nat) + (bsum h.s : Nat) + (h.r.length : Nat)) h.g.length
    e := marks (k + (h.p.length : Nat) + (h.t.length : Nat) + (bsum h.s : Nat) + (h.r.length : Nat) + (h.g.length : Nat)) h.e.length
    k := mkss (k + (h.p.length : Nat) + (h.t.length : Nat) + (bsum h.s : Nat) + (h.r.length : Nat) + (h.g.length : Nat) + (h.e.length : Nat)) h.k }

end Go.Proofs.YtpkfgffgldjceaaDoor
