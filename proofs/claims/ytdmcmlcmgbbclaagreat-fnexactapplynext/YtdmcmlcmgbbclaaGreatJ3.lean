/- What is proved here: plain facts on slices of slices of bytes that a call made itself: the block of the slices, and a block of bytes for each; they hold for every program. -/
import Derived.Test.YtdmcmlcmgbbclaaGreatJ2
import Derived.Laws.OwnMore
import Derived.Test.YtdmcmlcmgbbclaaGreatChecked
import Derived.Test.YtdmcmlcmgbbclaaGreatJ1
import Derived.WalkKit
import Derived.WalkLawsBesides
import Derived.WalkSmall
import Derived.KernelRfl
import Derived.WalkSpells
import Derived.OpenShut
import Derived.WideShapes
import Derived.Deep.DeepCutAuto
namespace Go.Proofs.YtdmcmlcmgbbclaaGreat
set_option linter.unusedVariables false
set_option linter.unusedSimpArgs false
open Go.RowKit
set_option maxRecDepth 100000

/-- A block that holds these values, none of it frozen. -/
def SBlk (w : World) (g : Nat) (vs : List Value) (T : TypeId) : Prop := w.heap[g]? = some (.cells vs.toArray T (0, 0))

theorem SBlk.cell {w : World} {g : Nat} {vs : List Value} {T : TypeId} (h : SBlk w g vs T) (i : Nat) : w.cell? ⟨g, i, none⟩ = vs[i]? := by
 simp [World.cell?, show w.heap[g]? = _ from h]

theorem SBlk.free {w : World} {g : Nat} {vs : List Value} {T : TypeId} (h : SBlk w g vs T) (i : Nat) : w.frozen? ⟨g, i, none⟩ = false := frozen_of_row w g i _ T h

theorem SBlk.set {w : World} {g : Nat} {vs : List Value} {T : TypeId} (h : SBlk w g vs T) (i : Nat) (x : Value) : SBlk (w.setCell ⟨g, i, none⟩ x) g (vs.set i x) T := by
 have := heap_setCell_same w g i _ T x h
 unfold SBlk
 rw [this]
 simp

theorem SBlk.lt {w : World} {g : Nat} {vs : List Value} {T : TypeId} (h : SBlk w g vs T) : g < w.heap.size := lt_of_block h

theorem SBlk.below {w w' : World} {g C : Nat} {vs : List Value} {T : TypeId} (h : SBlk w g vs T) (hb : Below C w w') (hC : g < C) : SBlk w' g vs T := by
 unfold SBlk
 rw [hb.block g hC]
 exact h

theorem SBlk.new (w : World) (vs : Array Value) (T : TypeId) : SBlk (w.alloc (.cells vs T)) w.heap.size vs.toList T := by
 unfold SBlk World.alloc
 simp

theorem SBlk.next {w : World} {g : Nat} {vs : List Value} {T : TypeId} (h : SBlk w g vs T) (o : Obj) : SBlk (w.alloc o) g vs T := h.below (below_alloc w o) h.lt

theorem SBlk.other {w : World} {g g' i : Nat} {vs : List Value} {T : TypeId} {v : Value} (h : SBlk w g vs T) (hne : g ≠ g') : SBlk (w.setCell ⟨g', i, none⟩ v) g vs T := by
 unfold SBlk
 rw [heap_setCell_other w ⟨g', i, none⟩ g v hne]
 exact h

theorem size_set' (w : World) (a : Addr) (v : Value) : (w.setCell a v).heap.size = w.heap.size := by simp [World.setCell]

theorem own_sblk {w : World} {B g n : Nat} {e : TypeId} {size : Nat} {xs : List Value} (h : w.ownsRow B e size (.slice (some ⟨g, 0, none⟩) n n) n xs) : ∃ vs, SBlk w g vs e ∧ vs.length = n * size := by
 rcases h.2 with ⟨h', _⟩ | ⟨g', cap', cur, h', hb, hg, hnc, hcm, hcs, htake⟩
 · simp at h'
 · simp only [Value.slice.injEq, Option.some.injEq, Addr.mk.injEq, and_true, true_and] at h'
   obtain ⟨rfl, rfl⟩ := h'
   exact ⟨cur.toList, by unfold SBlk; simpa using hg, by simpa using hcs⟩

/-- Of the slices 'zss' the first k lie in the block g, each with its bytes in a block of its own, all these blocks rising. -/
def BUpto (w : World) (g : Nat) (zss : List (List Int)) (k len : Nat) (T : TypeId) (C : Nat) : Prop :=
 ∃ (vs : List Value) (f : Nat → Nat), SBlk w g vs T ∧ vs.length = len ∧ (∀ i, i < k → g < f i ∧ f i < C) ∧ (∀ i j, i < j → j < k → f i < f j) ∧
  ∀ i z, i < k → zss[i]? = some z → vs[i]? = some (.slice (some ⟨f i, 0, none⟩) z.length z.length) ∧
   w.ownsRow (g + 1) 5 1 (.slice (some ⟨f i, 0, none⟩) z.length z.length) z.length (z.map (Value.int .u8))

/-- All of them. -/
def OBss (w : World) (g : Nat) (zss : List (List Int)) (T : TypeId) (C : Nat) : Prop := BUpto w g zss zss.length zss.length T C

theorem BUpto.lt {w : World} {g : Nat} {zss : List (List Int)} {k len : Nat} {T : TypeId} {C : Nat} (h : BUpto w g zss k len T C) : g < w.heap.size := by
 obtain ⟨_, _, h, _⟩ := h
 exact h.lt

theorem BUpto.below {w w' : World} {g : Nat} {zss : List (List Int)} {k len : Nat} {T : TypeId} {C : Nat} (h : BUpto w g zss k len T C) {B : Nat} (hb : Below B w w') (hB : w.heap.size ≤ B) : BUpto w' g zss k len T C := by
 obtain ⟨vs, f, h1, h2, h3, h4, h5⟩ := h
 refine ⟨vs, f, h1.below hb (Nat.lt_of_lt_of_le h1.lt hB), h2, h3, h4, fun i z hi hit => ?_⟩
 obtain ⟨q3, q4⟩ := h5 i z hi hit
 exact ⟨q3, own_below q4 hb hB⟩

theorem BUpto.zero {w : World} {g : Nat} {zss : List (List Int)} {len : Nat} {T : TypeId} {vs : List Value} {C : Nat} (h : SBlk w g vs T) (hl : vs.length = len) : BUpto w g zss 0 len T C :=
 ⟨vs, fun _ => 0, h, hl, fun i hi => absurd hi (Nat.not_lt_zero _), fun i j _ hj => absurd hj (Nat.not_lt_zero _), fun i it hi => absurd hi (Nat.not_lt_zero _)⟩

/-- What is there at the place of the next one. -/
theorem BUpto.slot {w : World} {g : Nat} {zss : List (List Int)} {k len : Nat} {T : TypeId} {C : Nat} (h : BUpto w g zss k len T C) (hk : k < len) :
    (∃ u, w.cell? ⟨g, k, none⟩ = some u) ∧ ∀ i, w.frozen? ⟨g, i, none⟩ = false := by
 obtain ⟨vs, f, h1, h2, _⟩ := h
 refine ⟨?_, fun i => h1.free i⟩
 rw [h1.cell]
 exact ⟨_, List.getElem?_eq_getElem (by omega)⟩

/-- One more. -/
theorem BUpto.step {w w2 : World} {g m : Nat} {zss : List (List Int)} {k len : Nat} {T : TypeId} {z : List Int} (h : BUpto w g zss k len T w.heap.size) (hk : k < len) (hit : zss[k]? = some z) (hb : Below w.heap.size w w2) (hm : w.heap.size ≤ m) (hm2 : m < w2.heap.size)
    (ho : w2.ownsRow (g + 1) 5 1 (.slice (some ⟨m, 0, none⟩) z.length z.length) z.length (z.map (Value.int .u8))) :
    BUpto (w2.setCell ⟨g, k, none⟩ (.slice (some ⟨m, 0, none⟩) z.length z.length)) g zss (k + 1) len T w2.heap.size := by
 have hgl := h.lt
 obtain ⟨vs, f, h1, h2, h3, h4, h5⟩ := h
 obtain ⟨q1, q2⟩ : SBlk w2 g vs T ∧ (∀ i, i < k → f i < w.heap.size) := ⟨h1.below hb h1.lt, fun i hi => (h3 i hi).2⟩
 have hlt : ∀ {v : Value} {n : Nat} {xs : List Value} {W : World}, W.ownsRow (g + 1) 5 1 v n xs → ∀ i u, (W.setCell ⟨g, i, none⟩ u).ownsRow (g + 1) 5 1 v n xs := fun h i u => ownsRow_setCell_below h (Nat.lt_succ_self g) u
 refine ⟨vs.set k (.slice (some ⟨m, 0, none⟩) z.length z.length), fun i => if i = k then m else f i, q1.set _ _, by simp [h2], fun i hi => ?_, fun i j hij hj => ?_, fun i jt hi hjt => ?_⟩
 · dsimp only
   split
   · exact ⟨by omega, hm2⟩
   · have := h3 i (by omega)
     exact ⟨this.1, Nat.lt_of_lt_of_le this.2 hb.size⟩
 · dsimp only
   rw [if_neg (by omega)]
   split
   · have := q2 i (by omega); omega
   · exact h4 i j hij (by omega)
 · dsimp only
   by_cases e : i = k
   · subst e
     rw [if_pos rfl]
     obtain rfl : jt = z := by rw [hit] at hjt; exact (Option.some.inj hjt).symm
     refine ⟨?_, hlt ho _ _⟩
     rw [List.getElem?_set_self (by omega)]
   · rw [if_neg e]
     obtain ⟨p3, p4⟩ := h5 i jt (by omega) hjt
     refine ⟨?_, hlt (own_below p4 hb (Nat.le_refl _)) _ _⟩
     rw [List.getElem?_set_ne (by omega)]; exact p3

theorem BUpto.stored {w : World} {g g' j : Nat} {zss : List (List Int)} {k len : Nat} {T : TypeId} {C : Nat} {v : Value} (h : BUpto w g zss k len T C) (hg : g' < g) : BUpto (w.setCell ⟨g', j, none⟩ v) g zss k len T C := by
 obtain ⟨vs, f, h1, h2, h3, h4, h5⟩ := h
 refine ⟨vs, f, h1.other (by omega), h2, h3, h4, fun i z hi hit => ?_⟩
 obtain ⟨q3, q4⟩ := h5 i z hi hit
 exact ⟨q3, ownsRow_setCell_below q4 (by show g' < g + 1; omega) _⟩

/-- What is owned reads so. -/
theorem OBss.row {w : World} {g : Nat} {zss : List (List Int)} {T : TypeId} {C : Nat} (h : OBss w g zss T C) (hok : ∀ z ∈ zss, z.length ≤ maxLen) (hz : ∀ z ∈ zss, ∀ x ∈ z, 0 ≤ x ∧ x ≤ 255) : BsRow w (some ⟨g, 0, none⟩) zss.length zss := by
 obtain ⟨vs, f, h1, h2, h3, h4, h5⟩ := h
 refine ⟨rfl, hok, fun _ => ⟨g, 0, rfl, fun i z hi => ?_⟩⟩
 have hil := (List.getElem?_eq_some_iff.1 hi).1
 obtain ⟨q3, q4⟩ := h5 i z hil hi
 refine ⟨some ⟨f i, 0, none⟩, z.length, z.length, ?_, BRow.own q4 (hz z (List.mem_of_getElem? hi))⟩
 rw [h1.cell]
 simpa using q3

set_option maxRecDepth 100000

theorem infoSB : (Tryz.prog.info? 29).map (fun i => (i.zero, i.size, i.bytes)) = some (some (.slice none 0 0), 1, 24) := by kernel_rfl

set_option maxHeartbeats 2000000 in
theorem toByteSS_any (a : Option Addr) (len cap : Nat) (zss : List (List Int)) (w : World) (h : BsRow w a len zss) (hl : len ≤ 1048576) (hz : ∀ z ∈ zss, z.length ≤ 1048576) :
    Calls Tryz.prog 27 #[.slice a len cap] w fun e w' => e = .returned (.slice (some ⟨w.heap.size, 0, none⟩) len len) ∧ OBss w' w.heap.size zss 29 w'.heap.size ∧ Below w.heap.size w w' := by
 obtain ⟨i0, hi, hz0, hz1, hz2⟩ := info_parts infoSB
 have hil := h.1
 rcases Nat.eq_zero_or_pos len with h0 | hp
 · subst h0
   have hn : zss = [] := List.length_eq_zero_iff.1 hil
   subst hn
   clear h hl hz
   go_enter Tryz.func27, Tryz.ntmps27
   go_wp2_with (at_make; refine wpList_make_full _ rfl _ _ 24 rfl w.heap.size 29 i0 (.slice none 0 0) 1 Tryz.underlying24 hi hz0 hz1 _ _ _ _ 0 rfl rfl rfl rfl ?c1 ?c2 ?c3 ?_)
   case c1 => omega
   case c2 => unfold maxLen; omega
   case c3 => omega
   intro w1 hown hgrow
   go_wp2
   refine wp_loop_rounds 1 ?_
   rw [rounds_succ]
   go_wp2
   go_ret
   refine ⟨rfl, ?_, (Below.refl _ _).grown hgrow (Nat.le_refl _) (fun k e => by cases e)⟩
   obtain ⟨vs, hv, hvl⟩ := own_sblk hown
   exact BUpto.zero hv (by simpa using hvl)
 · obtain ⟨b, off, rfl, hb, hc⟩ := h.at hp
   have HC := hide hc
   have HL := hide hil
   have HZ := hide hz
   clear h hc hil hz
   go_enter Tryz.func27, Tryz.ntmps27
   go_wp2_with (at_make; refine wpList_make_full _ rfl _ _ 24 rfl w.heap.size 29 i0 (.slice none 0 0) 1 Tryz.underlying24 hi hz0 hz1 _ _ _ _ len rfl rfl rfl rfl ?c1 ?c2 ?c3 ?_)
   case c1 => rw [hz2]; omega
   case c2 => unfold maxLen; omega
   case c3 => omega
   intro w1 hown hgrow
   obtain ⟨vs, hv, hvl⟩ := own_sblk hown
   have hst : BUpto w1 w.heap.size zss 0 len 29 w1.heap.size := BUpto.zero hv (by simpa using hvl)
   have hbel : Below w.heap.size w w1 := (Below.refl _ _).grown hgrow (Nat.le_refl _) (fun k e => by cases e)
   clear hown hgrow hv hvl
   go_wp2_with fail
   go_loopw [4] (fun i wr => ∃ k : Nat, k ≤ len ∧ i = .int .i64 k ∧ BUpto wr w.heap.size zss k len 29 wr.heap.size ∧ Below w.heap.size w wr) (fun i _ => len - (intOf i).toNat)
   case atStart => exact ⟨0, Nat.zero_le _, rfl, hst, hbel⟩
   case round =>
    obtain ⟨k, hk, rfl, hup, hbr⟩ := hrel
    clear hst hbel
    by_cases hlt : k < len
    · obtain ⟨z, hit⟩ : ∃ z, zss[k]? = some z := ⟨_, List.getElem?_eq_getElem (by rw [unhide HL]; exact hlt)⟩
      have hat := (unhide HC k z hit).below hbr (Nat.le_refl _)
      have hio := (unhide HZ) z (List.mem_of_getElem? hit)
      obtain ⟨sa, sl, sc, c0, hbrow⟩ := hat
      have hsl : z.length = sl := hbrow.1
      rw [hsl] at hio
      have HT := hide (fun W hb => toByteS_any sa sl sc z W (hbrow.below (w' := W) (B := wr.heap.size) hb (Nat.le_refl _)) hio)
      have HB := hide hbr
      have hs : w.heap.size < wr.heap.size := hup.lt
      have hstep : Hid (∀ w2 : World, Below wr.heap.size wr w2 → wr.heap.size < w2.heap.size → w2.ownsRow wr.heap.size 5 1 (.slice (some ⟨wr.heap.size, 0, none⟩) sl sl) sl (z.map (Value.int .u8)) →
          BUpto (w2.setCell ⟨w.heap.size, k, none⟩ (.slice (some ⟨wr.heap.size, 0, none⟩) sl sl)) w.heap.size zss (k + 1) len 29 w2.heap.size) := fun w2 hb hm ho => by
       subst hsl
       exact hup.step hlt hit hb (by omega) hm (ownsRow_base ho (by omega))
      have hslot := hide (fun (w2 : World) (hb : Below wr.heap.size wr w2) => (hup.below hb (Nat.le_refl _)).slot hlt)
      generalize z = bz at HT hstep
      have i1 : (0 : Int) ≤ (k : Int) := by omega
      have i2 : (k : Int) < (len : Int) := by omega
      clear hup hbr hbrow hsl hit
      go_wp2_with fail
      refine ((unhide HT) _ (Below.refl _ _)).mono ?_
      rintro e w2 ⟨rfl, o2, b2⟩
      obtain ⟨⟨u0, g0⟩, gf⟩ := (unhide hslot) w2 b2
      have hm : wr.heap.size < w2.heap.size := (o2.lt wr.heap.size rfl).2
      have HN := hide ((unhide hstep) w2 b2 hm o2)
      have HB2 := hide ((unhide HB).trans (b2.mono (unhide HB).size))
      clear o2 b2 hslot hstep
      go_wp2_with fail
      go_roundw
      case rel => exact ⟨k + 1, by omega, by go_num, by rw [size_set']; exact unhide HN, (unhide HB2).setCell (Nat.le_refl _) _⟩
      case measure => simp [intOf]; omega
    · obtain rfl : k = len := by omega
      have HU := hide hup
      have HB := hide hbr
      clear hup hbr
      go_wp2_with fail
      go_ret
      refine ⟨rfl, ?_, unhide HB⟩
      unfold OBss
      rw [unhide HL]
      exact unhide HU

set_option maxRecDepth 100000

/-- A slice's three parts. -/
structure Sl where
 a : Option Addr
 n : Nat
 c : Nat

/-- The slices of a header: Parent, Target, Signers, Receipts, Signer, Seal, Commits. -/
structure HS where
 p : Sl
 t : Sl
 s : Sl
 r : Sl
 g : Sl
 e : Sl
 k : Sl

/-- A header: its bytes and numbers. -/
structure Hd where
 p : List Int
 n1 : Int
 n2 : Int
 n3 : Int
 t : List Int
 n5 : Int
 s : List (List Int)
 r : List Int
 g : List Int
 e : List Int
 k : List (List Int)

/-- The slices read as the header's bytes. -/
structure HOk (w : World) (x : HS) (h : Hd) : Prop where
 p : BRow w x.p.a x.p.n h.p
 t : BRow w x.t.a x.t.n h.t
 s : BsRow w x.s.a x.s.n h.s
 r : BRow w x.r.a x.r.n h.r
 g : BRow w x.g.a x.g.n h.g
 e : BRow w x.e.a x.e.n h.e
 k : BsRow w x.k.a x.k.n h.k

theorem HOk.below {w w' : World} {x : HS} {h : Hd} (o : HOk w x h) {B : Nat} (hb : Below B w w') (hB : w.heap.size ≤ B) : HOk w' x h :=
 ⟨o.p.below hb hB, o.t.below hb hB, o.s.below hb hB, o.r.below hb hB, o.g.below hb hB, o.e.below hb hB, o.k.below hb hB⟩

/-- None is longer than M. -/
structure HMax (x : HS) (M : Nat) : Prop where
 p : x.p.n ≤ M
 t : x.t.n ≤ M
 s : x.s.n ≤ M
 r : x.r.n ≤ M
 g : x.g.n ≤ M
 e : x.e.n ≤ M
 k : x.k.n ≤ M

def in64 (n : Int) : Prop := -9223372036854775808 ≤ n ∧ n ≤ 9223372036854775807

/-- The numbers fit. -/
structure HIn (h : Hd) : Prop where
 n1 : in64 h.n1
 n2 : in64 h.n2
 n3 : in64 h.n3
 n5 : in64 h.n5

/-- All bytes, and how many slices there are, are at most 2^20. -/
structure HSm (h : Hd) : Prop where
 p : h.p.length ≤ 1048576
 t : h.t.length ≤ 1048576
 s : h.s.length ≤ 1048576
 sz : ∀ z ∈ h.s, z.length ≤ 1048576
 r : h.r.length ≤ 1048576
 g : h.g.length ≤ 1048576
 e : h.e.length ≤ 1048576
 k : h.k.length ≤ 1048576
 kz : ∀ z ∈ h.k, z.length ≤ 1048576

/-- The eleven cells of a header. -/
def hvals (x : HS) (h : Hd) : Array Value := #[.slice x.p.a x.p.n x.p.c, .int .i64 h.n1, .int .i64 h.n2, .int .i64 h.n3, .slice x.t.a x.t.n x.t.c, .int .i64 h.n5, .slice x.s.a x.s.n x.s.c, .slice x.r.a x.r.n x.r.c, .slice x.g.a x.g.n x.g.c, .slice x.e.a x.e.n x.e.c, .slice x.k.a x.k.n x.k.c]

section
variable {H : Type} {enc : TypeId × Value → H} {P : Program} {w : World} {sp : Nat → Bool} {held : Bool}

/-- A field that is a slice of bytes. -/
theorem field_bytes {ts tu : TypeId} {fuel : Nat} {v : Value} {y : DataW H × List MemPlace} (us : P.underlying ts = some (.slice tu)) (uu : P.underlying tu = some (.int .u8)) (cu : P.cellsOf tu = 1)
    (h : DataW.trod enc P w 0 sp held fuel ts [v] = some y) : ∃ (x : Sl) (z : List Int), v = .slice x.a x.n x.c ∧ x.n ≤ maxLen ∧ BRow w x.a x.n z := by
 rcases ChangeShapes.open_ints us uu cu h with ⟨e2, _⟩ | ⟨sa, sl, sc, zs, e2, _, hsl, hsm, hzl, _, hzc, hzw⟩
 · simp only [List.cons.injEq, and_true] at e2
   subst e2
   exact ⟨⟨none, 0, 0⟩, [], rfl, Nat.zero_le _, rfl, fun n hn => by simp at hn, fun _ => rfl, fun y hy => by cases hy⟩
 · simp only [List.cons.injEq, and_true] at e2
   subst e2
   have hzl' : sl ≤ zs.length := by rw [hzl]; split <;> omega
   refine ⟨⟨some sa, sl, sc⟩, zs.take sl, rfl, Nat.le_trans hsl hsm, by simp; omega, fun n hn => ?_, (fun e => (by cases e)), fun y hy j hj => ?_⟩
   · exact bounds_u8 (hzw n (List.mem_of_mem_take hn))
   · cases hy
     have hj' : j < sl := hj
     rw [hzc j (by omega), getD_at _ j (by omega), getD_at _ j (by simp; omega), List.getElem_take]

/-- A field that is a slice of slices of bytes. -/
theorem field_bss {t ts tu : TypeId} {fuel : Nat} {v : Value} {y : DataW H × List MemPlace} (ut : P.underlying t = some (.slice ts)) (us : P.underlying ts = some (.slice tu)) (cs : P.cellsOf ts = 1) (uu : P.underlying tu = some (.int .u8)) (cu : P.cellsOf tu = 1)
    (h : DataW.trod enc P w 0 sp held fuel t [v] = some y) : ∃ (x : Sl) (z : List (List Int)), v = .slice x.a x.n x.c ∧ x.n ≤ maxLen ∧ BsRow w x.a x.n z := by
 have hv : ∃ a len cap, v = .slice a len cap := by
  rcases DataW.trod_slice ut h with ⟨hn, _⟩ | ⟨x, len', cap', elems, rest, n, _, hcs, _⟩
  · simp only [List.cons.injEq, and_true] at hn; exact ⟨_, _, _, hn⟩
  · simp only [List.cons.injEq, and_true] at hcs; exact ⟨_, _, _, hcs⟩
 obtain ⟨a, len, cap, rfl⟩ := hv
 obtain ⟨d, ps⟩ := y
 obtain ⟨zss, h1, h2⟩ := read_bss ut us cs cu uu h
 exact ⟨⟨a, len, cap⟩, zss, rfl, h1, h2⟩

theorem field_int {t : TypeId} {fuel : Nat} {v : Value} {y : DataW H × List MemPlace} (ut : P.underlying t = some (.int .i64)) (h : DataW.trod enc P w 0 sp held fuel t [v] = some y) : ∃ n, v = .int .i64 n ∧ in64 n := by
 obtain ⟨n, e, _, hwf⟩ := DataW.trod_int ut h
 simp only [List.cons.injEq, and_true] at e
 exact ⟨n, e, bounds_i64 hwf⟩

/-- How an argument that is a header reads. -/
theorem open_header {t tb ti tl tu : TypeId} {fs : Array Field} {f0 f1 f2 f3 f4 f5 f6 f7 f8 f9 f10 : Field} {v : Value} {d : DataW H} {ps : List MemPlace}
    (ht : P.underlying t = some (.struct fs)) (hfs : fs = #[f0, f1, f2, f3, f4, f5, f6, f7, f8, f9, f10]) (hc : P.cellsOf t = 11)
    (ho : f0.offset = 0 ∧ f1.offset = 1 ∧ f2.offset = 2 ∧ f3.offset = 3 ∧ f4.offset = 4 ∧ f5.offset = 5 ∧ f6.offset = 6 ∧ f7.offset = 7 ∧ f8.offset = 8 ∧ f9.offset = 9 ∧ f10.offset = 10)
    (hty : f0.type = tb ∧ f1.type = ti ∧ f2.type = ti ∧ f3.type = ti ∧ f4.type = tb ∧ f5.type = ti ∧ f6.type = tl ∧ f7.type = tb ∧ f8.type = tb ∧ f9.type = tb ∧ f10.type = tl)
    (ub : P.underlying tb = some (.slice tu)) (uu : P.underlying tu = some (.int .u8)) (ui : P.underlying ti = some (.int .i64)) (ul : P.underlying tl = some (.slice tb))
    (cb : P.cellsOf tb = 1) (ci : P.cellsOf ti = 1) (cl : P.cellsOf tl = 1) (cu : P.cellsOf tu = 1)
    (hv : ∃ cs, v = .agg cs ∧ cs.size = P.cellsOf t) (h : DataW.Trod enc P w 0 sp held t v d ps) :
    ∃ (x : HS) (y : Hd), v = .agg (hvals x y) ∧ HOk w x y ∧ HMax x maxLen ∧ HIn y := by
 obtain ⟨cs, rfl, hsz⟩ := hv
 obtain ⟨fuel, h⟩ := h
 have h' : DataW.trod enc P w 0 sp held fuel t cs.toList = some (d, ps) := h
 obtain ⟨l⟩ := cs
 rw [hc] at hsz
 have hl : l.length = 11 := by simpa using hsz
 match l, hl with
 | [v0, v1, v2, v3, v4, v5, v6, v7, v8, v9, v10], _ =>
  subst hfs
  obtain ⟨xs, m, _, _, _, hxl, hf⟩ := DataW.trod_struct ht h'
  have hs : xs.length = 11 := by rw [hxl]; rfl
  obtain ⟨o0, o1, o2, o3, o4, o5, o6, o7, o8, o9, o10⟩ := ho
  obtain ⟨y0, y1, y2, y3, y4, y5, y6, y7, y8, y9, y10⟩ := hty
  have g0 := hf 0 f0 rfl
  have g1 := hf 1 f1 rfl
  have g2 := hf 2 f2 rfl
  have g3 := hf 3 f3 rfl
  have g4 := hf 4 f4 rfl
  have g5 := hf 5 f5 rfl
  have g6 := hf 6 f6 rfl
  have g7 := hf 7 f7 rfl
  have g8 := hf 8 f8 rfl
  have g9 := hf 9 f9 rfl
  have g10 := hf 10 f10 rfl
  rw [List.getElem?_eq_getElem (by omega)] at g0 g1 g2 g3 g4 g5 g6 g7 g8 g9 g10
  rw [y0, o0, cb] at g0
  rw [y1, o1, ci] at g1
  rw [y2, o2, ci] at g2
  rw [y3, o3, ci] at g3
  rw [y4, o4, cb] at g4
  rw [y5, o5, ci] at g5
  rw [y6, o6, cl] at g6
  rw [y7, o7, cb] at g7
  rw [y8, o8, cb] at g8
  rw [y9, o9, cb] at g9
  rw [y10, o10, cl] at g10
  simp only [List.drop_zero, List.drop_succ_cons, List.take_succ_cons, List.take_zero] at g0 g1 g2 g3 g4 g5 g6 g7 g8 g9 g10
  obtain ⟨x0, z0, e0, l0, r0⟩ := field_bytes ub uu cu g0
  obtain ⟨n1, e1, i1⟩ := field_int ui g1
  obtain ⟨n2, e2, i2⟩ := field_int ui g2
  obtain ⟨n3, e3, i3⟩ := field_int ui g3
  obtain ⟨x4, z4, e4, l4, r4⟩ := field_bytes ub uu cu g4
  obtain ⟨n5, e5, i5⟩ := field_int ui g5
  obtain ⟨x6, z6, e6, l6, r6⟩ := field_bss ul ub cb uu cu g6
  obtain ⟨x7, z7, e7, l7, r7⟩ := field_bytes ub uu cu g7
  obtain ⟨x8, z8, e8, l8, r8⟩ := field_bytes ub uu cu g8
  obtain ⟨x9, z9, e9, l9, r9⟩ := field_bytes ub uu cu g9
  obtain ⟨x10, z10, e10, l10, r10⟩ := field_bss ul ub cb uu cu g10
  subst e0 e1 e2 e3 e4 e5 e6 e7 e8 e9 e10
  exact ⟨⟨x0, x4, x6, x7, x8, x9, x10⟩, ⟨z0, n1, n2, n3, z4, n5, z6, z7, z8, z9, z10⟩, rfl, ⟨r0, r4, r6, r7, r8, r9, r10⟩, ⟨l0, l4, l6, l7, l8, l9, l10⟩, ⟨i1, i2, i3, i5⟩⟩
end

set_option maxRecDepth 100000

theorem three_blk (w : World) (vs us ts : Array Value) (T S R : TypeId) : SBlk (((w.alloc (.cells vs T)).alloc (.cells us S)).alloc (.cells ts R)) w.heap.size vs.toList T ∧ SBlk (((w.alloc (.cells vs T)).alloc (.cells us S)).alloc (.cells ts R)) (w.heap.size + 1) us.toList S ∧
    SBlk (((w.alloc (.cells vs T)).alloc (.cells us S)).alloc (.cells ts R)) (w.heap.size + 2) ts.toList R ∧ Below w.heap.size w (((w.alloc (.cells vs T)).alloc (.cells us S)).alloc (.cells ts R)) ∧ (((w.alloc (.cells vs T)).alloc (.cells us S)).alloc (.cells ts R)).heap.size = w.heap.size + 3 := by
 refine ⟨((SBlk.new w vs T).next _).next _, ?_, ?_, (((Below.refl _ _).alloc (Nat.le_refl _) _).alloc (by simp) _).alloc (by simp; omega) _, by simp⟩
 · have h := (SBlk.new (w.alloc (.cells vs T)) us S).next (.cells ts R)
   rwa [show (w.alloc (.cells vs T)).heap.size = w.heap.size + 1 by simp] at h
 · have h := SBlk.new ((w.alloc (.cells vs T)).alloc (.cells us S)) ts R
   rwa [show ((w.alloc (.cells vs T)).alloc (.cells us S)).heap.size = w.heap.size + 2 by simp] at h

theorem toB_to (a : Option Addr) (n cap : Nat) (z : List Int) (W : World) (g : Nat) (hg : W.heap.size = g) (h : BRow W a n z) (hl : z.length ≤ 1048576) :
    Calls Tryz.prog 30 #[.slice a n cap] W fun e w' => e = .returned (.slice (some ⟨g, 0, none⟩) z.length z.length) ∧ w'.ownsRow g 5 1 (.slice (some ⟨g, 0, none⟩) z.length z.length) z.length (z.map (Value.int .u8)) ∧ Below g W w' := by
 subst hg
 obtain rfl : z.length = n := h.1
 exact toByteS_any a _ cap z W h hl

theorem toBs_to (a : Option Addr) (n cap : Nat) (z : List (List Int)) (W : World) (g : Nat) (hg : W.heap.size = g) (h : BsRow W a n z) (hl : z.length ≤ 1048576) (hz : ∀ y ∈ z, y.length ≤ 1048576) :
    Calls Tryz.prog 27 #[.slice a n cap] W fun e w' => e = .returned (.slice (some ⟨g, 0, none⟩) z.length z.length) ∧ OBss w' g z 29 w'.heap.size ∧ Below g W w' := by
 subst hg
 obtain rfl : z.length = n := h.1
 exact toByteSS_any a _ cap z W h hl hz

/-- The header's slices lie in blocks of their own, all from B on. -/
def HOwn (w : World) (B : Nat) (x : HS) (h : Hd) : Prop :=
 ∃ g1 g2 g3 g4 g5 g6 g7 : Nat, x = ⟨⟨some ⟨g1, 0, none⟩, h.p.length, h.p.length⟩, ⟨some ⟨g2, 0, none⟩, h.t.length, h.t.length⟩, ⟨some ⟨g3, 0, none⟩, h.s.length, h.s.length⟩, ⟨some ⟨g4, 0, none⟩, h.r.length, h.r.length⟩, ⟨some ⟨g5, 0, none⟩, h.g.length, h.g.length⟩, ⟨some ⟨g6, 0, none⟩, h.e.length, h.e.length⟩, ⟨some ⟨g7, 0, none⟩, h.k.length, h.k.length⟩⟩ ∧
  (B ≤ g1 ∧ g1 < g2 ∧ g2 < g3 ∧ g3 < g4 ∧ g4 < g5 ∧ g5 < g6 ∧ g6 < g7) ∧
  w.ownsRow g1 5 1 (.slice (some ⟨g1, 0, none⟩) h.p.length h.p.length) h.p.length (h.p.map (Value.int .u8)) ∧
  w.ownsRow g2 5 1 (.slice (some ⟨g2, 0, none⟩) h.t.length h.t.length) h.t.length (h.t.map (Value.int .u8)) ∧
  OBss w g3 h.s 29 g4 ∧
  w.ownsRow g4 5 1 (.slice (some ⟨g4, 0, none⟩) h.r.length h.r.length) h.r.length (h.r.map (Value.int .u8)) ∧
  w.ownsRow g5 5 1 (.slice (some ⟨g5, 0, none⟩) h.g.length h.g.length) h.g.length (h.g.map (Value.int .u8)) ∧
  w.ownsRow g6 5 1 (.slice (some ⟨g6, 0, none⟩) h.e.length h.e.length) h.e.length (h.e.map (Value.int .u8)) ∧
  OBss w g7 h.k 29 w.heap.size

/-- What is owned reads so. -/
theorem HOwn.ok {w v : World} {B : Nat} {x y : HS} {h : Hd} (o : HOwn w B x h) (q : HOk v y h) : HOk w x h := by
 obtain ⟨g1, g2, g3, g4, g5, g6, g7, rfl, _, o1, o2, o3, o4, o5, o6, o7⟩ := o
 exact ⟨BRow.own2 o1 q.p.2.1, BRow.own2 o2 q.t.2.1, o3.row q.s.2.1 q.s.bytes, BRow.own2 o4 q.r.2.1, BRow.own2 o5 q.g.2.1, BRow.own2 o6 q.e.2.1, o7.row q.k.2.1 q.k.bytes⟩

set_option maxHeartbeats 16000000 in
theorem toHeader_any (x : HS) (h : Hd) (w : World) (o : HOk w x h) (m : HSm h) :
    Calls Tryz.prog 9 #[.agg (hvals x h)] w fun e w' => ∃ y, e = .returned (.agg (hvals y h)) ∧ HOwn w' (w.heap.size + 3) y h ∧ Below w.heap.size w w' := by
 have HO := hide (fun (W : World) (hb : Below w.heap.size w W) => o.below hb (Nat.le_refl _))
 have HM := hide m
 obtain ⟨k0, k1, k2, K0, hsz⟩ := three_blk w (hvals x h) #[.slice none 0 0, .int .i64 0, .int .i64 0, .int .i64 0, .slice none 0 0, .int .i64 0, .slice none 0 0, .slice none 0 0, .slice none 0 0, .slice none 0 0, .slice none 0 0] #[.slice none 0 0, .int .i64 0, .int .i64 0, .int .i64 0, .slice none 0 0, .int .i64 0, .slice none 0 0, .slice none 0 0, .slice none 0 0, .slice none 0 0, .slice none 0 0] 31 44 44
 clear o m
 unfold hvals at k0 k1 k2 K0 hsz ⊢
 obtain ⟨W0, e0⟩ : ∃ W0, ((w.alloc (.cells #[.slice x.p.a x.p.n x.p.c, .int .i64 h.n1, .int .i64 h.n2, .int .i64 h.n3, .slice x.t.a x.t.n x.t.c, .int .i64 h.n5, .slice x.s.a x.s.n x.s.c, .slice x.r.a x.r.n x.r.c, .slice x.g.a x.g.n x.g.c, .slice x.e.a x.e.n x.e.c, .slice x.k.a x.k.n x.k.c] 31)).alloc (.cells #[.slice none 0 0, .int .i64 0, .int .i64 0, .int .i64 0, .slice none 0 0, .int .i64 0, .slice none 0 0, .slice none 0 0, .slice none 0 0, .slice none 0 0, .slice none 0 0] 44)).alloc (.cells #[.slice none 0 0, .int .i64 0, .int .i64 0, .int .i64 0, .slice none 0 0, .int .i64 0, .slice none 0 0, .slice none 0 0, .slice none 0 0, .slice none 0 0, .slice none 0 0] 44) = W0 := ⟨_, rfl⟩
 rw [e0] at k0 k1 k2 K0 hsz
 go_enter Tryz.func9, Tryz.ntmps9
 have x0 := k0.cell 0
 simp only [List.getElem?_cons_zero] at x0
 go_wp2_with (rw [e0])
 clear e0 x0
 have hg1 : w.heap.size + 2 < W0.heap.size := by omega
 obtain ⟨g1, eg1⟩ : ∃ g, g = W0.heap.size := ⟨_, rfl⟩
 have cg1 : w.heap.size + 3 ≤ g1 := by omega
 clear hsz hg1
 have EG1 := hide eg1
 clear eg1
 refine (toB_to x.p.a x.p.n x.p.c h.p _ g1 ((unhide EG1).symm) ((unhide HO) _ K0).p (unhide HM).p).mono ?_
 rintro e w1 ⟨rfl, o1, b1⟩
 have k0 := k0.below b1 (by omega)
 have k1 := k1.below b1 (by omega)
 have k2 := k2.below b1 (by omega)
 have K1 := K0.trans (b1.mono (by omega))
 have lt1 : g1 < w1.heap.size := (o1.lt g1 rfl).2
 have x1 := k0.cell 1
 have x2 := k0.cell 2
 have x3 := k0.cell 3
 have x4 := k0.cell 4
 have u0 := k2.cell 0
 have v0 := k2.free 0
 have u1 := k2.cell 1
 have v1 := k2.free 1
 have u2 := k2.cell 2
 have v2 := k2.free 2
 have u3 := k2.cell 3
 have v3 := k2.free 3
 simp only [List.getElem?_cons_zero, List.getElem?_cons_succ] at x1 x2 x3 x4 u0 u1 u2 u3
 have Q := hide (And.intro k1 (And.intro b1 (And.intro K1 trivial)))
 go_wp2_with fail
 clear Q x1 x2 x3 x4 u0 u1 u2 u3 v0 v1 v2 v3
 obtain ⟨g2, eg2⟩ : ∃ g, g = w1.heap.size := ⟨_, rfl⟩
 have cg2 : g1 < g2 := by omega
 clear lt1
 have EG2 := hide eg2
 clear eg2
 refine (toB_to x.t.a x.t.n x.t.c h.t _ g2 (by simp only [size_set']; exact (unhide EG2).symm) ((unhide HO) _ ((((K1.setCell (p := ⟨w.heap.size + 2, _, none⟩) (by show w.heap.size ≤ w.heap.size + 2; omega) _).setCell (p := ⟨w.heap.size + 2, _, none⟩) (by show w.heap.size ≤ w.heap.size + 2; omega) _).setCell (p := ⟨w.heap.size + 2, _, none⟩) (by show w.heap.size ≤ w.heap.size + 2; omega) _).setCell (p := ⟨w.heap.size + 2, _, none⟩) (by show w.heap.size ≤ w.heap.size + 2; omega) _)).t (unhide HM).t).mono ?_
 rintro e w2 ⟨rfl, o2, b2⟩
 have k0 := ((((k0.other (g' := w.heap.size + 2) (by omega)).other (g' := w.heap.size + 2) (by omega)).other (g' := w.heap.size + 2) (by omega)).other (g' := w.heap.size + 2) (by omega)).below b2 (by omega)
 have k1 := ((((k1.other (g' := w.heap.size + 2) (by omega)).other (g' := w.heap.size + 2) (by omega)).other (g' := w.heap.size + 2) (by omega)).other (g' := w.heap.size + 2) (by omega)).below b2 (by omega)
 have k2 := ((((k2.set 0 (.slice (some ⟨g1, 0, none⟩) h.p.length h.p.length)).set 1 (.int .i64 h.n1)).set 2 (.int .i64 h.n2)).set 3 (.int .i64 h.n3)).below b2 (by omega)
 simp only [List.set_cons_zero, List.set_cons_succ] at k2
 have K2 := ((((K1.setCell (p := ⟨w.heap.size + 2, _, none⟩) (by show w.heap.size ≤ w.heap.size + 2; omega) _).setCell (p := ⟨w.heap.size + 2, _, none⟩) (by show w.heap.size ≤ w.heap.size + 2; omega) _).setCell (p := ⟨w.heap.size + 2, _, none⟩) (by show w.heap.size ≤ w.heap.size + 2; omega) _).setCell (p := ⟨w.heap.size + 2, _, none⟩) (by show w.heap.size ≤ w.heap.size + 2; omega) _).trans (b2.mono (by omega))
 have o1 := own_below (ownsRow_setCell_below (ownsRow_setCell_below (ownsRow_setCell_below (ownsRow_setCell_below o1 (by show w.heap.size + 2 < g1; omega) _) (by show w.heap.size + 2 < g1; omega) _) (by show w.heap.size + 2 < g1; omega) _) (by show w.heap.size + 2 < g1; omega) _) b2 (by simp only [size_set']; exact Nat.le_of_eq (unhide EG2).symm)
 have lt2 : g2 < w2.heap.size := (o2.lt g2 rfl).2
 have x5 := k0.cell 5
 have x6 := k0.cell 6
 have u4 := k2.cell 4
 have v4 := k2.free 4
 have u5 := k2.cell 5
 have v5 := k2.free 5
 simp only [List.getElem?_cons_zero, List.getElem?_cons_succ] at x5 x6 u4 u5
 have Q := hide (And.intro k1 (And.intro b2 (And.intro K2 trivial)))
 go_wp2_with fail
 clear Q x5 x6 u4 u5 v4 v5
 obtain ⟨g3, eg3⟩ : ∃ g, g = w2.heap.size := ⟨_, rfl⟩
 have cg3 : g2 < g3 := by omega
 clear lt2
 have EG3 := hide eg3
 clear eg3
 refine (toBs_to x.s.a x.s.n x.s.c h.s _ g3 (by simp only [size_set']; exact (unhide EG3).symm) ((unhide HO) _ ((K2.setCell (p := ⟨w.heap.size + 2, _, none⟩) (by show w.heap.size ≤ w.heap.size + 2; omega) _).setCell (p := ⟨w.heap.size + 2, _, none⟩) (by show w.heap.size ≤ w.heap.size + 2; omega) _)).s (unhide HM).s (unhide HM).sz).mono ?_
 rintro e w3 ⟨rfl, o3, b3⟩
 have k0 := ((k0.other (g' := w.heap.size + 2) (by omega)).other (g' := w.heap.size + 2) (by omega)).below b3 (by omega)
 have k1 := ((k1.other (g' := w.heap.size + 2) (by omega)).other (g' := w.heap.size + 2) (by omega)).below b3 (by omega)
 have k2 := ((k2.set 4 (.slice (some ⟨g2, 0, none⟩) h.t.length h.t.length)).set 5 (.int .i64 h.n5)).below b3 (by omega)
 simp only [List.set_cons_zero, List.set_cons_succ] at k2
 have K3 := ((K2.setCell (p := ⟨w.heap.size + 2, _, none⟩) (by show w.heap.size ≤ w.heap.size + 2; omega) _).setCell (p := ⟨w.heap.size + 2, _, none⟩) (by show w.heap.size ≤ w.heap.size + 2; omega) _).trans (b3.mono (by omega))
 have o1 := own_below (ownsRow_setCell_below (ownsRow_setCell_below o1 (by show w.heap.size + 2 < g1; omega) _) (by show w.heap.size + 2 < g1; omega) _) b3 (by simp only [size_set']; exact Nat.le_of_eq (unhide EG3).symm)
 have o2 := own_below (ownsRow_setCell_below (ownsRow_setCell_below o2 (by show w.heap.size + 2 < g2; omega) _) (by show w.heap.size + 2 < g2; omega) _) b3 (by simp only [size_set']; exact Nat.le_of_eq (unhide EG3).symm)
 have lt3 : g3 < w3.heap.size := BUpto.lt o3
 have x7 := k0.cell 7
 have u6 := k2.cell 6
 have v6 := k2.free 6
 simp only [List.getElem?_cons_zero, List.getElem?_cons_succ] at x7 u6
 have Q := hide (And.intro k1 (And.intro b3 (And.intro K3 trivial)))
 go_wp2_with fail
 clear Q x7 u6 v6
 obtain ⟨g4, eg4⟩ : ∃ g, g = w3.heap.size := ⟨_, rfl⟩
 have cg4 : g3 < g4 := by omega
 clear lt3
 have EG4 := hide eg4
 clear eg4
 refine (toB_to x.r.a x.r.n x.r.c h.r _ g4 (by simp only [size_set']; exact (unhide EG4).symm) ((unhide HO) _ (K3.setCell (p := ⟨w.heap.size + 2, _, none⟩) (by show w.heap.size ≤ w.heap.size + 2; omega) _)).r (unhide HM).r).mono ?_
 rintro e w4 ⟨rfl, o4, b4⟩
 have k0 := (k0.other (g' := w.heap.size + 2) (by omega)).below b4 (by omega)
 have k1 := (k1.other (g' := w.heap.size + 2) (by omega)).below b4 (by omega)
 have k2 := (k2.set 6 (.slice (some ⟨g3, 0, none⟩) h.s.length h.s.length)).below b4 (by omega)
 simp only [List.set_cons_zero, List.set_cons_succ] at k2
 have K4 := (K3.setCell (p := ⟨w.heap.size + 2, _, none⟩) (by show w.heap.size ≤ w.heap.size + 2; omega) _).trans (b4.mono (by omega))
 have o1 := own_below (ownsRow_setCell_below o1 (by show w.heap.size + 2 < g1; omega) _) b4 (by simp only [size_set']; exact Nat.le_of_eq (unhide EG4).symm)
 have o2 := own_below (ownsRow_setCell_below o2 (by show w.heap.size + 2 < g2; omega) _) b4 (by simp only [size_set']; exact Nat.le_of_eq (unhide EG4).symm)
 have o3 := BUpto.below (BUpto.stored (g' := w.heap.size + 2) o3 (by omega)) b4 (by simp only [size_set']; exact Nat.le_of_eq (unhide EG4).symm)
 have lt4 : g4 < w4.heap.size := (o4.lt g4 rfl).2
 have x8 := k0.cell 8
 have u7 := k2.cell 7
 have v7 := k2.free 7
 simp only [List.getElem?_cons_zero, List.getElem?_cons_succ] at x8 u7
 have Q := hide (And.intro k1 (And.intro b4 (And.intro K4 trivial)))
 go_wp2_with fail
 clear Q x8 u7 v7
 obtain ⟨g5, eg5⟩ : ∃ g, g = w4.heap.size := ⟨_, rfl⟩
 have cg5 : g4 < g5 := by omega
 clear lt4
 have EG5 := hide eg5
 clear eg5
 refine (toB_to x.g.a x.g.n x.g.c h.g _ g5 (by simp only [size_set']; exact (unhide EG5).symm) ((unhide HO) _ (K4.setCell (p := ⟨w.heap.size + 2, _, none⟩) (by show w.heap.size ≤ w.heap.size + 2; omega) _)).g (unhide HM).g).mono ?_
 rintro e w5 ⟨rfl, o5, b5⟩
 have k0 := (k0.other (g' := w.heap.size + 2) (by omega)).below b5 (by omega)
 have k1 := (k1.other (g' := w.heap.size + 2) (by omega)).below b5 (by omega)
 have k2 := (k2.set 7 (.slice (some ⟨g4, 0, none⟩) h.r.length h.r.length)).below b5 (by omega)
 simp only [List.set_cons_zero, List.set_cons_succ] at k2
 have K5 := (K4.setCell (p := ⟨w.heap.size + 2, _, none⟩) (by show w.heap.size ≤ w.heap.size + 2; omega) _).trans (b5.mono (by omega))
 have o1 := own_below (ownsRow_setCell_below o1 (by show w.heap.size + 2 < g1; omega) _) b5 (by simp only [size_set']; exact Nat.le_of_eq (unhide EG5).symm)
 have o2 := own_below (ownsRow_setCell_below o2 (by show w.heap.size + 2 < g2; omega) _) b5 (by simp only [size_set']; exact Nat.le_of_eq (unhide EG5).symm)
 have o3 := BUpto.below (BUpto.stored (g' := w.heap.size + 2) o3 (by omega)) b5 (by simp only [size_set']; exact Nat.le_of_eq (unhide EG5).symm)
 have o4 := own_below (ownsRow_setCell_below o4 (by show w.heap.size + 2 < g4; omega) _) b5 (by simp only [size_set']; exact Nat.le_of_eq (unhide EG5).symm)
 have lt5 : g5 < w5.heap.size := (o5.lt g5 rfl).2
 have x9 := k0.cell 9
 have u8 := k2.cell 8
 have v8 := k2.free 8
 simp only [List.getElem?_cons_zero, List.getElem?_cons_succ] at x9 u8
 have Q := hide (And.intro k1 (And.intro b5 (And.intro K5 trivial)))
 go_wp2_with fail
 clear Q x9 u8 v8
 obtain ⟨g6, eg6⟩ : ∃ g, g = w5.heap.size := ⟨_, rfl⟩
 have cg6 : g5 < g6 := by omega
 clear lt5
 have EG6 := hide eg6
 clear eg6
 refine (toB_to x.e.a x.e.n x.e.c h.e _ g6 (by simp only [size_set']; exact (unhide EG6).symm) ((unhide HO) _ (K5.setCell (p := ⟨w.heap.size + 2, _, none⟩) (by show w.heap.size ≤ w.heap.size + 2; omega) _)).e (unhide HM).e).mono ?_
 rintro e w6 ⟨rfl, o6, b6⟩
 have k0 := (k0.other (g' := w.heap.size + 2) (by omega)).below b6 (by omega)
 have k1 := (k1.other (g' := w.heap.size + 2) (by omega)).below b6 (by omega)
 have k2 := (k2.set 8 (.slice (some ⟨g5, 0, none⟩) h.g.length h.g.length)).below b6 (by omega)
 simp only [List.set_cons_zero, List.set_cons_succ] at k2
 have K6 := (K5.setCell (p := ⟨w.heap.size + 2, _, none⟩) (by show w.heap.size ≤ w.heap.size + 2; omega) _).trans (b6.mono (by omega))
 have o1 := own_below (ownsRow_setCell_below o1 (by show w.heap.size + 2 < g1; omega) _) b6 (by simp only [size_set']; exact Nat.le_of_eq (unhide EG6).symm)
 have o2 := own_below (ownsRow_setCell_below o2 (by show w.heap.size + 2 < g2; omega) _) b6 (by simp only [size_set']; exact Nat.le_of_eq (unhide EG6).symm)
 have o3 := BUpto.below (BUpto.stored (g' := w.heap.size + 2) o3 (by omega)) b6 (by simp only [size_set']; exact Nat.le_of_eq (unhide EG6).symm)
 have o4 := own_below (ownsRow_setCell_below o4 (by show w.heap.size + 2 < g4; omega) _) b6 (by simp only [size_set']; exact Nat.le_of_eq (unhide EG6).symm)
 have o5 := own_below (ownsRow_setCell_below o5 (by show w.heap.size + 2 < g5; omega) _) b6 (by simp only [size_set']; exact Nat.le_of_eq (unhide EG6).symm)
 have lt6 : g6 < w6.heap.size := (o6.lt g6 rfl).2
 have x10 := k0.cell 10
 have u9 := k2.cell 9
 have v9 := k2.free 9
 simp only [List.getElem?_cons_zero, List.getElem?_cons_succ] at x10 u9
 have Q := hide (And.intro k1 (And.intro b6 (And.intro K6 trivial)))
 go_wp2_with fail
 clear Q x10 u9 v9
 obtain ⟨g7, eg7⟩ : ∃ g, g = w6.heap.size := ⟨_, rfl⟩
 have cg7 : g6 < g7 := by omega
 clear lt6
 have EG7 := hide eg7
 clear eg7
 refine (toBs_to x.k.a x.k.n x.k.c h.k _ g7 (by simp only [size_set']; exact (unhide EG7).symm) ((unhide HO) _ (K6.setCell (p := ⟨w.heap.size + 2, _, none⟩) (by show w.heap.size ≤ w.heap.size + 2; omega) _)).k (unhide HM).k (unhide HM).kz).mono ?_
 rintro e w7 ⟨rfl, o7, b7⟩
 have k0 := (k0.other (g' := w.heap.size + 2) (by omega)).below b7 (by omega)
 have k1 := (k1.other (g' := w.heap.size + 2) (by omega)).below b7 (by omega)
 have k2 := (k2.set 9 (.slice (some ⟨g6, 0, none⟩) h.e.length h.e.length)).below b7 (by omega)
 simp only [List.set_cons_zero, List.set_cons_succ] at k2
 have K7 := (K6.setCell (p := ⟨w.heap.size + 2, _, none⟩) (by show w.heap.size ≤ w.heap.size + 2; omega) _).trans (b7.mono (by omega))
 have o1 := own_below (ownsRow_setCell_below o1 (by show w.heap.size + 2 < g1; omega) _) b7 (by simp only [size_set']; exact Nat.le_of_eq (unhide EG7).symm)
 have o2 := own_below (ownsRow_setCell_below o2 (by show w.heap.size + 2 < g2; omega) _) b7 (by simp only [size_set']; exact Nat.le_of_eq (unhide EG7).symm)
 have o3 := BUpto.below (BUpto.stored (g' := w.heap.size + 2) o3 (by omega)) b7 (by simp only [size_set']; exact Nat.le_of_eq (unhide EG7).symm)
 have o4 := own_below (ownsRow_setCell_below o4 (by show w.heap.size + 2 < g4; omega) _) b7 (by simp only [size_set']; exact Nat.le_of_eq (unhide EG7).symm)
 have o5 := own_below (ownsRow_setCell_below o5 (by show w.heap.size + 2 < g5; omega) _) b7 (by simp only [size_set']; exact Nat.le_of_eq (unhide EG7).symm)
 have o6 := own_below (ownsRow_setCell_below o6 (by show w.heap.size + 2 < g6; omega) _) b7 (by simp only [size_set']; exact Nat.le_of_eq (unhide EG7).symm)
 have lt7 : g7 < w7.heap.size := BUpto.lt o7
 have u0 := k2.cell 0
 have u1 := k2.cell 1
 have u2 := k2.cell 2
 have u3 := k2.cell 3
 have u4 := k2.cell 4
 have u5 := k2.cell 5
 have u6 := k2.cell 6
 have u7 := k2.cell 7
 have u8 := k2.cell 8
 have u9 := k2.cell 9
 have u10 := k2.cell 10
 have v10 := k2.free 10
 have r0 := k1.cell 0
 have q0 := k1.free 0
 have r1 := k1.cell 1
 have q1 := k1.free 1
 have r2 := k1.cell 2
 have q2 := k1.free 2
 have r3 := k1.cell 3
 have q3 := k1.free 3
 have r4 := k1.cell 4
 have q4 := k1.free 4
 have r5 := k1.cell 5
 have q5 := k1.free 5
 have r6 := k1.cell 6
 have q6 := k1.free 6
 have r7 := k1.cell 7
 have q7 := k1.free 7
 have r8 := k1.cell 8
 have q8 := k1.free 8
 have r9 := k1.cell 9
 have q9 := k1.free 9
 have r10 := k1.cell 10
 have q10 := k1.free 10
 simp only [List.getElem?_cons_zero, List.getElem?_cons_succ] at u0 r0 u1 r1 u2 r2 u3 r3 u4 r4 u5 r5 u6 r6 u7 r7 u8 r8 u9 r9 u10 r10
 go_wp2_with fail
 refine bodyPost_ret (v := .agg #[.slice (some ⟨g1, 0, none⟩) h.p.length h.p.length, .int .i64 h.n1, .int .i64 h.n2, .int .i64 h.n3, .slice (some ⟨g2, 0, none⟩) h.t.length h.t.length, .int .i64 h.n5, .slice (some ⟨g3, 0, none⟩) h.s.length h.s.length, .slice (some ⟨g4, 0, none⟩) h.r.length h.r.length, .slice (some ⟨g5, 0, none⟩) h.g.length h.g.length, .slice (some ⟨g6, 0, none⟩) h.e.length h.e.length, .slice (some ⟨g7, 0, none⟩) h.k.length h.k.length]) (by simp [results, Tryz.results9, go_sem, r0, r1, r2, r3, r4, r5, r6, r7, r8, r9, r10]) rfl ⟨⟨⟨some ⟨g1, 0, none⟩, h.p.length, h.p.length⟩, ⟨some ⟨g2, 0, none⟩, h.t.length, h.t.length⟩, ⟨some ⟨g3, 0, none⟩, h.s.length, h.s.length⟩, ⟨some ⟨g4, 0, none⟩, h.r.length, h.r.length⟩, ⟨some ⟨g5, 0, none⟩, h.g.length, h.g.length⟩, ⟨some ⟨g6, 0, none⟩, h.e.length, h.e.length⟩, ⟨some ⟨g7, 0, none⟩, h.k.length, h.k.length⟩⟩, rfl, ⟨g1, g2, g3, g4, g5, g6, g7, rfl, ?_, ?_, ?_, ?_, ?_, ?_, ?_, ?_⟩, ?_⟩
 · refine ⟨?_, ?_, ?_, ?_, ?_, ?_, ?_⟩ <;> omega
 · exact (ownsRow_setCell_below (ownsRow_setCell_below (ownsRow_setCell_below (ownsRow_setCell_below (ownsRow_setCell_below (ownsRow_setCell_below (ownsRow_setCell_below (ownsRow_setCell_below (ownsRow_setCell_below (ownsRow_setCell_below (ownsRow_setCell_below (ownsRow_setCell_below o1 (by show w.heap.size + 2 < g1; omega) _) (by show w.heap.size + 1 < g1; omega) _) (by show w.heap.size + 1 < g1; omega) _) (by show w.heap.size + 1 < g1; omega) _) (by show w.heap.size + 1 < g1; omega) _) (by show w.heap.size + 1 < g1; omega) _) (by show w.heap.size + 1 < g1; omega) _) (by show w.heap.size + 1 < g1; omega) _) (by show w.heap.size + 1 < g1; omega) _) (by show w.heap.size + 1 < g1; omega) _) (by show w.heap.size + 1 < g1; omega) _) (by show w.heap.size + 1 < g1; omega) _)
 · exact (ownsRow_setCell_below (ownsRow_setCell_below (ownsRow_setCell_below (ownsRow_setCell_below (ownsRow_setCell_below (ownsRow_setCell_below (ownsRow_setCell_below (ownsRow_setCell_below (ownsRow_setCell_below (ownsRow_setCell_below (ownsRow_setCell_below (ownsRow_setCell_below o2 (by show w.heap.size + 2 < g2; omega) _) (by show w.heap.size + 1 < g2; omega) _) (by show w.heap.size + 1 < g2; omega) _) (by show w.heap.size + 1 < g2; omega) _) (by show w.heap.size + 1 < g2; omega) _) (by show w.heap.size + 1 < g2; omega) _) (by show w.heap.size + 1 < g2; omega) _) (by show w.heap.size + 1 < g2; omega) _) (by show w.heap.size + 1 < g2; omega) _) (by show w.heap.size + 1 < g2; omega) _) (by show w.heap.size + 1 < g2; omega) _) (by show w.heap.size + 1 < g2; omega) _)
 · rw [unhide EG4]
   exact (BUpto.stored (g' := w.heap.size + 1) (BUpto.stored (g' := w.heap.size + 1) (BUpto.stored (g' := w.heap.size + 1) (BUpto.stored (g' := w.heap.size + 1) (BUpto.stored (g' := w.heap.size + 1) (BUpto.stored (g' := w.heap.size + 1) (BUpto.stored (g' := w.heap.size + 1) (BUpto.stored (g' := w.heap.size + 1) (BUpto.stored (g' := w.heap.size + 1) (BUpto.stored (g' := w.heap.size + 1) (BUpto.stored (g' := w.heap.size + 1) (BUpto.stored (g' := w.heap.size + 2) o3 (by omega)) (by omega)) (by omega)) (by omega)) (by omega)) (by omega)) (by omega)) (by omega)) (by omega)) (by omega)) (by omega)) (by omega))
 · exact (ownsRow_setCell_below (ownsRow_setCell_below (ownsRow_setCell_below (ownsRow_setCell_below (ownsRow_setCell_below (ownsRow_setCell_below (ownsRow_setCell_below (ownsRow_setCell_below (ownsRow_setCell_below (ownsRow_setCell_below (ownsRow_setCell_below (ownsRow_setCell_below o4 (by show w.heap.size + 2 < g4; omega) _) (by show w.heap.size + 1 < g4; omega) _) (by show w.heap.size + 1 < g4; omega) _) (by show w.heap.size + 1 < g4; omega) _) (by show w.heap.size + 1 < g4; omega) _) (by show w.heap.size + 1 < g4; omega) _) (by show w.heap.size + 1 < g4; omega) _) (by show w.heap.size + 1 < g4; omega) _) (by show w.heap.size + 1 < g4; omega) _) (by show w.heap.size + 1 < g4; omega) _) (by show w.heap.size + 1 < g4; omega) _) (by show w.heap.size + 1 < g4; omega) _)
 · exact (ownsRow_setCell_below (ownsRow_setCell_below (ownsRow_setCell_below (ownsRow_setCell_below (ownsRow_setCell_below (ownsRow_setCell_below (ownsRow_setCell_below (ownsRow_setCell_below (ownsRow_setCell_below (ownsRow_setCell_below (ownsRow_setCell_below (ownsRow_setCell_below o5 (by show w.heap.size + 2 < g5; omega) _) (by show w.heap.size + 1 < g5; omega) _) (by show w.heap.size + 1 < g5; omega) _) (by show w.heap.size + 1 < g5; omega) _) (by show w.heap.size + 1 < g5; omega) _) (by show w.heap.size + 1 < g5; omega) _) (by show w.heap.size + 1 < g5; omega) _) (by show w.heap.size + 1 < g5; omega) _) (by show w.heap.size + 1 < g5; omega) _) (by show w.heap.size + 1 < g5; omega) _) (by show w.heap.size + 1 < g5; omega) _) (by show w.heap.size + 1 < g5; omega) _)
 · exact (ownsRow_setCell_below (ownsRow_setCell_below (ownsRow_setCell_below (ownsRow_setCell_below (ownsRow_setCell_below (ownsRow_setCell_below (ownsRow_setCell_below (ownsRow_setCell_below (ownsRow_setCell_below (ownsRow_setCell_below (ownsRow_setCell_below (ownsRow_setCell_below o6 (by show w.heap.size + 2 < g6; omega) _) (by show w.heap.size + 1 < g6; omega) _) (by show w.heap.size + 1 < g6; omega) _) (by show w.heap.size + 1 < g6; omega) _) (by show w.heap.size + 1 < g6; omega) _) (by show w.heap.size + 1 < g6; omega) _) (by show w.heap.size + 1 < g6; omega) _) (by show w.heap.size + 1 < g6; omega) _) (by show w.heap.size + 1 < g6; omega) _) (by show w.heap.size + 1 < g6; omega) _) (by show w.heap.size + 1 < g6; omega) _) (by show w.heap.size + 1 < g6; omega) _)
 · simp only [size_set']
   exact (BUpto.stored (g' := w.heap.size + 1) (BUpto.stored (g' := w.heap.size + 1) (BUpto.stored (g' := w.heap.size + 1) (BUpto.stored (g' := w.heap.size + 1) (BUpto.stored (g' := w.heap.size + 1) (BUpto.stored (g' := w.heap.size + 1) (BUpto.stored (g' := w.heap.size + 1) (BUpto.stored (g' := w.heap.size + 1) (BUpto.stored (g' := w.heap.size + 1) (BUpto.stored (g' := w.heap.size + 1) (BUpto.stored (g' := w.heap.size + 1) (BUpto.stored (g' := w.heap.size + 2) o7 (by omega)) (by omega)) (by omega)) (by omega)) (by omega)) (by omega)) (by omega)) (by omega)) (by omega)) (by omega)) (by omega)) (by omega))
 · exact ((((((((((((K7.setCell (p := ⟨w.heap.size + 2, _, none⟩) (by show w.heap.size ≤ w.heap.size + 2; omega) _).setCell (p := ⟨w.heap.size + 1, _, none⟩) (by show w.heap.size ≤ w.heap.size + 1; omega) _).setCell (p := ⟨w.heap.size + 1, _, none⟩) (by show w.heap.size ≤ w.heap.size + 1; omega) _).setCell (p := ⟨w.heap.size + 1, _, none⟩) (by show w.heap.size ≤ w.heap.size + 1; omega) _).setCell (p := ⟨w.heap.size + 1, _, none⟩) (by show w.heap.size ≤ w.heap.size + 1; omega) _).setCell (p := ⟨w.heap.size + 1, _, none⟩) (by show w.heap.size ≤ w.heap.size + 1; omega) _).setCell (p := ⟨w.heap.size + 1, _, none⟩) (by show w.heap.size ≤ w.heap.size + 1; omega) _).setCell (p := ⟨w.heap.size + 1, _, none⟩) (by show w.heap.size ≤ w.heap.size + 1; omega) _).setCell (p := ⟨w.heap.size + 1, _, none⟩) (by show w.heap.size ≤ w.heap.size + 1; omega) _).setCell (p := ⟨w.heap.size + 1, _, none⟩) (by show w.heap.size ≤ w.heap.size + 1; omega) _).setCell (p := ⟨w.heap.size + 1, _, none⟩) (by show w.heap.size ≤ w.heap.size + 1; omega) _).setCell (p := ⟨w.heap.size + 1, _, none⟩) (by show w.heap.size ≤ w.heap.size + 1; omega) _)

set_option maxRecDepth 100000

theorem szB1_any (a : Option Addr) (n cap : Nat) (left : Int) (w : World) (h0 : 0 ≤ left) (h1 : left ≤ 1099511627776) (hn : n ≤ maxLen) :
    Calls Tryz.prog 21 #[.slice a n cap, .int .i64 left] w fun e w' => e = .returned (.int .i64 (if left - n < 0 then -1 else left - n)) ∧ w' = w := by
 unfold maxLen at hn
 by_cases h : left - n < 0
 · rw [if_pos h]
   have hd : decide (left - (n : Int) < 0) = true := decide_eq_true h
   go_enter Tryz.func21, Tryz.ntmps21
   go_wp2
   go_ret
   exact ⟨rfl, rfl⟩
 · rw [if_neg h]
   have hd : decide (left - (n : Int) < 0) = false := decide_eq_false h
   go_enter Tryz.func21, Tryz.ntmps21
   go_wp2
   go_ret
   exact ⟨rfl, rfl⟩

set_option maxHeartbeats 1000000 in
theorem szByteSS_any (a : Option Addr) (len cap : Nat) (zss : List (List Int)) (left : Int) (w : World) (h : BsRow w a len zss) (hl : len ≤ maxLen) (h0 : 0 ≤ left) (h1 : left ≤ 1099511627776) :
    Calls Tryz.prog 18 #[.slice a len cap, .int .i64 left] w fun e w' => e = .returned (.int .i64 (szBss left zss)) ∧ w' = w := by
 unfold maxLen at hl
 have hil := h.1
 by_cases hs : left - len < 0
 · have e : szBss left zss = -1 := if_pos (by rw [hil]; exact hs)
   rw [e]
   have hd : decide (left - (len : Int) < 0) = true := decide_eq_true hs
   go_enter Tryz.func18, Tryz.ntmps18
   go_wp2_with fail
   go_ret
   exact ⟨rfl, rfl⟩
 · have e : szBss left zss = szBs (left - len) zss := by rw [← hil]; exact if_neg (by rw [hil]; exact hs)
   have HE := hide e
   have hd : decide (left - (len : Int) < 0) = false := decide_eq_false hs
   clear e
   rcases Nat.eq_zero_or_pos len with hz | hp
   · subst hz
     have hn : zss = [] := List.length_eq_zero_iff.1 hil
     subst hn
     clear h
     go_enter Tryz.func18, Tryz.ntmps18
     go_wp2_with fail
     refine wp_loop_rounds 1 ?_
     rw [rounds_succ]
     go_wp2_with fail
     go_ret
     exact ⟨ret_int (by rw [unhide HE]; simp [szBs]), rfl⟩
   · obtain ⟨b, off, rfl, hb, hc⟩ := h.at hp
     have hok := h.2.1
     have HC := hide hc
     have HK := hide hok
     have HL := hide hil
     clear h hc hok hil
     go_enter Tryz.func18, Tryz.ntmps18
     go_wp2_with fail
     go_loop [1, 5] (fun q i => ∃ (k : Nat) (L : Int), k ≤ len ∧ i = .int .i64 k ∧ q = .int .i64 L ∧ 0 ≤ L ∧ L ≤ left ∧ szBs (left - len) zss = szBs L (zss.drop k)) (fun _ i => len - (intOf i).toNat)
     case atStart => exact ⟨0, _, Nat.zero_le _, rfl, rfl, by omega, by omega, by simp⟩
     case round =>
      obtain ⟨k, L, hk, rfl, rfl, hL0, hL1, hrest⟩ := hrel
      by_cases hlt : k < len
      · obtain ⟨z, hit⟩ : ∃ z, zss[k]? = some z := ⟨_, List.getElem?_eq_getElem (by rw [unhide HL]; exact hlt)⟩
        have hat := unhide HC k z hit
        have hio := unhide HK z (List.mem_of_getElem? hit)
        have hst := szBs_step zss k z L hit
        obtain ⟨sa, sl, sc, c0, hbrow⟩ := hat
        have hsl : z.length = sl := hbrow.1
        rw [hsl] at hst hio
        have HR := hide hrest
        have HS := hide hst
        have i1 : (0 : Int) ≤ (k : Int) := by omega
        have i2 : (k : Int) < (len : Int) := by omega
        clear hbrow hsl hrest hst hit
        by_cases hneg : L - sl < 0
        · have HZ := hide (fun W => szB1_any sa sl sc L W hL0 (by omega) hio)
          rw [if_pos hneg] at HS
          simp only [if_pos hneg] at HZ
          go_wp2_with fail
          refine ((unhide HZ) _).mono ?_
          rintro e w1 ⟨rfl, rfl⟩
          go_wp2_with fail
          go_ret
          exact ⟨ret_int (by rw [unhide HE, unhide HR, unhide HS]), rfl⟩
        · have HZ := hide (fun W => szB1_any sa sl sc L W hL0 (by omega) hio)
          rw [if_neg hneg] at HS
          simp only [if_neg hneg] at HZ
          have hd2 : decide (L - (sl : Int) < 0) = false := decide_eq_false hneg
          go_wp2_with fail
          refine ((unhide HZ) _).mono ?_
          rintro e w1 ⟨rfl, rfl⟩
          go_wp2_with fail
          go_round
          case rel => exact ⟨k + 1, L - sl, by omega, by go_num, rfl, by omega, by omega, by rw [unhide HR, unhide HS]⟩
          case measure => simp [intOf]; omega
      · obtain rfl : k = len := by omega
        have hend : zss.drop k = [] := List.drop_eq_nil_of_le (by rw [unhide HL]; exact Nat.le_refl _)
        rw [hend] at hrest
        have HR := hide hrest
        clear hrest hend
        go_wp2_with fail
        go_ret
        exact ⟨ret_int (by rw [unhide HE, unhide HR]; rfl), rfl⟩

end Go.Proofs.YtdmcmlcmgbbclaaGreat
