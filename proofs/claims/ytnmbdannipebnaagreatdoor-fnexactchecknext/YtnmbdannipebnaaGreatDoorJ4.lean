/- What is proved here: the contracts of the laws' helper functions that count the bytes of slices of slices of bytes (szByteS, szByteSS). -/
import Derived.Test.YtnmbdannipebnaaGreatDoorChecked
import Derived.Test.YtnmbdannipebnaaGreatDoorJ1
import Derived.Test.YtnmbdannipebnaaGreatDoorJ3
import Derived.WalkKit
import Derived.WalkLawsBesides
import Derived.WalkSmall
import Derived.KernelRfl
import Derived.WalkSpells
import Derived.Laws.OwnMore
import Derived.OpenShut
import Derived.WideShapes
import Derived.Deep.DeepCutAuto
import Derived.BigQuiet
import Derived.Deep.QuietTactic
import Derived.Deep.RegionWith
import Derived.Lib.BytesEntry
namespace Go.Proofs.YtnmbdannipebnaaGreatDoor
open Go.RowKit
set_option linter.unusedVariables false
set_option maxRecDepth 100000

theorem szB1_any (a : Option Addr) (n cap : Nat) (left : Int) (w : World) (h0 : 0 ≤ left) (h1 : left ≤ 1099511627776) (hn : n ≤ maxLen) :
    Calls Tryz.prog 27 #[.slice a n cap, .int .i64 left] w fun e w' => e = .returned (.int .i64 (if left - n < 0 then -1 else left - n)) ∧ w' = w := by
  unfold maxLen at hn
  by_cases h : left - n < 0
  · rw [if_pos h]
    have hd : decide (left - (n : Int) < 0) = true := decide_eq_true h
    go_enter Tryz.func27, Tryz.ntmps27
    go_wp2
    go_ret
    exact ⟨rfl, rfl⟩
  · rw [if_neg h]
    have hd : decide (left - (n : Int) < 0) = false := decide_eq_false h
    go_enter Tryz.func27, Tryz.ntmps27
    go_wp2
    go_ret
    exact ⟨rfl, rfl⟩

set_option maxHeartbeats 1000000 in
theorem szByteSS_any (a : Option Addr) (len cap : Nat) (zss : List (List Int)) (left : Int) (w : World) (h : BsRow w a len zss) (hl : len ≤ maxLen) (h0 : 0 ≤ left) (h1 : left ≤ 1099511627776) :
    Calls Tryz.prog 24 #[.slice a len cap, .int .i64 left] w fun e w' => e = .returned (.int .i64 (szBss left zss)) ∧ w' = w := by
  unfold maxLen at hl
  have hil := h.1
  by_cases hs : left - len < 0
  · have e : szBss left zss = -1 := if_pos (by rw [hil]; exact hs)
    rw [e]
    have hd : decide (left - (len : Int) < 0) = true := decide_eq_true hs
    go_enter Tryz.func24, Tryz.ntmps24
    go_wp2_with fail
    go_ret
    exact ⟨rfl, rfl⟩
  · have e : szBss left zss = szBs (left - len) zss := by rw [← hil]; exact if_neg (by rw [hil]; exact hs)
    have HE := hide e
    have hd : decide (left - (len : Int) < 0) = false := decide_eq_false hs
    clear e
    rcases Nat.eq_zero_or_pos len with hz | hp
    · subst hz
      have hn : zss = [] := List.length_eq_zero_iff.1 hil
      subst hn
      clear h
      go_enter Tryz.func24, Tryz.ntmps24
      go_wp2_with fail
      refine wp_loop_rounds 1 ?_
      rw [rounds_succ]
      go_wp2_with fail
      go_ret
      exact ⟨ret_int (by rw [unhide HE]; simp [szBs]), rfl⟩
    · obtain ⟨b, off, rfl, hb, hc⟩ := h.at hp
      have hok := h.2.1
      have HC := hide hc
      have HK := hide hok
      have HL := hide hil
      clear h hc hok hil
      go_enter Tryz.func24, Tryz.ntmps24
      go_wp2_with fail
      go_loop [1, 5] (fun q i => ∃ (k : Nat) (L : Int), k ≤ len ∧ i = .int .i64 k ∧ q = .int .i64 L ∧ 0 ≤ L ∧ L ≤ left ∧ szBs (left - len) zss = szBs L (zss.drop k)) (fun _ i => len - (intOf i).toNat)
      case atStart => exact ⟨0, _, Nat.zero_le _, rfl, rfl, by omega, by omega, by simp⟩
      case round =>
        obtain ⟨k, L, hk, rfl, rfl, hL0, hL1, hrest⟩ := hrel
        by_cases hlt : k < len
        · obtain ⟨z, hit⟩ : ∃ z, zss[k]? = some z := ⟨_, List.getElem?_eq_getElem (by rw [unhide HL]; exact hlt)⟩
          have hat := unhide HC k z hit
          have hio := unhide HK z (List.mem_of_getElem? hit)
          have hst := szBs_step zss k z L hit
          obtain ⟨sa, sl, sc, c0, hbrow⟩ := hat
          have hsl : z.length = sl := hbrow.1
          rw [hsl] at hst hio
          have HR := hide hrest
          have HS := hide hst
          have i1 : (0 : Int) ≤ (k : Int) := by omega
          have i2 : (k : Int) < (len : Int) := by omega
          clear hbrow hsl hrest hst hit
          by_cases hneg : L - sl < 0
          · have HZ := hide (fun W => szB1_any sa sl sc L W hL0 (by omega) hio)
            rw [if_pos hneg] at HS
            simp only [if_pos hneg] at HZ
            go_wp2_with fail
            refine ((unhide HZ) _).mono ?_
            rintro e w1 ⟨rfl, rfl⟩
            go_wp2_with fail
            go_ret
            exact ⟨ret_int (by rw [unhide HE, unhide HR, unhide HS]), rfl⟩
          · have HZ := hide (fun W => szB1_any sa sl sc L W hL0 (by omega) hio)
            rw [if_neg hneg] at HS
            simp only [if_neg hneg] at HZ
            have hd2 : decide (L - (sl : Int) < 0) = false := decide_eq_false hneg
            go_wp2_with fail
            refine ((unhide HZ) _).mono ?_
            rintro e w1 ⟨rfl, rfl⟩
            go_wp2_with fail
            go_round
            case rel => exact ⟨k + 1, L - sl, by omega, by go_num, rfl, by omega, by omega, by rw [unhide HR, unhide HS]⟩
            case measure => simp [intOf]; omega
        · obtain rfl : k = len := by omega
          have hend : zss.drop k = [] := List.drop_eq_nil_of_le (by rw [unhide HL]; exact Nat.le_refl _)
          rw [hend] at hrest
          have HR := hide hrest
          clear hrest hend
          go_wp2_with fail
          go_ret
          exact ⟨ret_int (by rw [unhide HE, unhide HR]; rfl), rfl⟩

end Go.Proofs.YtnmbdannipebnaaGreatDoor

/- What is proved here: plain facts on slices of slices of bytes that a call made itself: the block of the slices, and a block of bytes for each; they hold for every program. -/
namespace Go.Proofs.YtnmbdannipebnaaGreatDoor
open Go.RowKit
set_option linter.unusedVariables false
set_option maxRecDepth 100000

/-- A block that holds these values, none of it frozen. -/
def SBlk (w : World) (g : Nat) (vs : List Value) (T : TypeId) : Prop := w.heap[g]? = some (.cells vs.toArray T (0, 0))

theorem SBlk.cell {w : World} {g : Nat} {vs : List Value} {T : TypeId} (h : SBlk w g vs T) (i : Nat) : w.cell? ⟨g, i, none⟩ = vs[i]? := by
  simp [World.cell?, show w.heap[g]? = _ from h]

theorem SBlk.free {w : World} {g : Nat} {vs : List Value} {T : TypeId} (h : SBlk w g vs T) (i : Nat) : w.frozen? ⟨g, i, none⟩ = false := frozen_of_row w g i _ T h

theorem SBlk.set {w : World} {g : Nat} {vs : List Value} {T : TypeId} (h : SBlk w g vs T) (i : Nat) (x : Value) : SBlk (w.setCell ⟨g, i, none⟩ x) g (vs.set i x) T := by
  have := heap_setCell_same w g i _ T x h
  unfold SBlk
  rw [this]
  simp

theorem SBlk.lt {w : World} {g : Nat} {vs : List Value} {T : TypeId} (h : SBlk w g vs T) : g < w.heap.size := lt_of_block h

theorem SBlk.below {w w' : World} {g C : Nat} {vs : List Value} {T : TypeId} (h : SBlk w g vs T) (hb : Below C w w') (hC : g < C) : SBlk w' g vs T := by
  unfold SBlk
  rw [hb.block g hC]
  exact h

theorem SBlk.new (w : World) (vs : Array Value) (T : TypeId) : SBlk (w.alloc (.cells vs T)) w.heap.size vs.toList T := by
  unfold SBlk World.alloc
  simp

theorem SBlk.next {w : World} {g : Nat} {vs : List Value} {T : TypeId} (h : SBlk w g vs T) (o : Obj) : SBlk (w.alloc o) g vs T := h.below (below_alloc w o) h.lt

theorem SBlk.other {w : World} {g g' i : Nat} {vs : List Value} {T : TypeId} {v : Value} (h : SBlk w g vs T) (hne : g ≠ g') : SBlk (w.setCell ⟨g', i, none⟩ v) g vs T := by
  unfold SBlk
  rw [heap_setCell_other w ⟨g', i, none⟩ g v hne]
  exact h

theorem size_set' (w : World) (a : Addr) (v : Value) : (w.setCell a v).heap.size = w.heap.size := by simp [World.setCell]

theorem own_sblk {w : World} {B g n : Nat} {e : TypeId} {size : Nat} {xs : List Value} (h : w.ownsRow B e size (.slice (some ⟨g, 0, none⟩) n n) n xs) : ∃ vs, SBlk w g vs e ∧ vs.length = n * size := by
  rcases h.2 with ⟨h', _⟩ | ⟨g', cap', cur, h', hb, hg, hnc, hcm, hcs, htake⟩
  · simp at h'
  · simp only [Value.slice.injEq, Option.some.injEq, Addr.mk.injEq, and_true, true_and] at h'
    obtain ⟨rfl, rfl⟩ := h'
    exact ⟨cur.toList, by unfold SBlk; simpa using hg, by simpa using hcs⟩

/-- Of the slices 'zss' the first k lie in the block g, each with its bytes in a block of its own, all these blocks rising. -/
def BUpto (w : World) (g : Nat) (zss : List (List Int)) (k len : Nat) (T : TypeId) (C : Nat) : Prop :=
  ∃ (vs : List Value) (f : Nat → Nat), SBlk w g vs T ∧ vs.length = len ∧ (∀ i, i < k → g < f i ∧ f i < C) ∧ (∀ i j, i < j → j < k → f i < f j) ∧
    ∀ i z, i < k → zss[i]? = some z → vs[i]? = some (.slice (some ⟨f i, 0, none⟩) z.length z.length) ∧
      w.ownsRow (g + 1) 5 1 (.slice (some ⟨f i, 0, none⟩) z.length z.length) z.length (z.map (Value.int .u8))

/-- All of them. -/
def OBss (w : World) (g : Nat) (zss : List (List Int)) (T : TypeId) (C : Nat) : Prop := BUpto w g zss zss.length zss.length T C

theorem BUpto.lt {w : World} {g : Nat} {zss : List (List Int)} {k len : Nat} {T : TypeId} {C : Nat} (h : BUpto w g zss k len T C) : g < w.heap.size := by
  obtain ⟨_, _, h, _⟩ := h
  exact h.lt

theorem BUpto.below {w w' : World} {g : Nat} {zss : List (List Int)} {k len : Nat} {T : TypeId} {C : Nat} (h : BUpto w g zss k len T C) {B : Nat} (hb : Below B w w') (hB : w.heap.size ≤ B) : BUpto w' g zss k len T C := by
  obtain ⟨vs, f, h1, h2, h3, h4, h5⟩ := h
  refine ⟨vs, f, h1.below hb (Nat.lt_of_lt_of_le h1.lt hB), h2, h3, h4, fun i z hi hit => ?_⟩
  obtain ⟨q3, q4⟩ := h5 i z hi hit
  exact ⟨q3, own_below q4 hb hB⟩

theorem BUpto.zero {w : World} {g : Nat} {zss : List (List Int)} {len : Nat} {T : TypeId} {vs : List Value} {C : Nat} (h : SBlk w g vs T) (hl : vs.length = len) : BUpto w g zss 0 len T C :=
  ⟨vs, fun _ => 0, h, hl, fun i hi => absurd hi (Nat.not_lt_zero _), fun i j _ hj => absurd hj (Nat.not_lt_zero _), fun i it hi => absurd hi (Nat.not_lt_zero _)⟩

/-- What is there at the place of the next one. -/
theorem BUpto.slot {w : World} {g : Nat} {zss : List (List Int)} {k len : Nat} {T : TypeId} {C : Nat} (h : BUpto w g zss k len T C) (hk : k < len) :
    (∃ u, w.cell? ⟨g, k, none⟩ = some u) ∧ ∀ i, w.frozen? ⟨g, i, none⟩ = false := by
  obtain ⟨vs, f, h1, h2, _⟩ := h
  refine ⟨?_, fun i => h1.free i⟩
  rw [h1.cell]
  exact ⟨_, List.getElem?_eq_getElem (by omega)⟩

/-- One more. -/
theorem BUpto.step {w w2 : World} {g m : Nat} {zss : List (List Int)} {k len : Nat} {T : TypeId} {z : List Int} (h : BUpto w g zss k len T w.heap.size) (hk : k < len) (hit : zss[k]? = some z) (hb : Below w.heap.size w w2) (hm : w.heap.size ≤ m) (hm2 : m < w2.heap.size)
    (ho : w2.ownsRow (g + 1) 5 1 (.slice (some ⟨m, 0, none⟩) z.length z.length) z.length (z.map (Value.int .u8))) :
    BUpto (w2.setCell ⟨g, k, none⟩ (.slice (some ⟨m, 0, none⟩) z.length z.length)) g zss (k + 1) len T w2.heap.size := by
  have hgl := h.lt
  obtain ⟨vs, f, h1, h2, h3, h4, h5⟩ := h
  obtain ⟨q1, q2⟩ : SBlk w2 g vs T ∧ (∀ i, i < k → f i < w.heap.size) := ⟨h1.below hb h1.lt, fun i hi => (h3 i hi).2⟩
  have hlt : ∀ {v : Value} {n : Nat} {xs : List Value} {W : World}, W.ownsRow (g + 1) 5 1 v n xs → ∀ i u, (W.setCell ⟨g, i, none⟩ u).ownsRow (g + 1) 5 1 v n xs := fun h i u => ownsRow_setCell_below h (Nat.lt_succ_self g) u
  refine ⟨vs.set k (.slice (some ⟨m, 0, none⟩) z.length z.length), fun i => if i = k then m else f i, q1.set _ _, by simp [h2], fun i hi => ?_, fun i j hij hj => ?_, fun i jt hi hjt => ?_⟩
  · dsimp only
    split
    · exact ⟨by omega, hm2⟩
    · have := h3 i (by omega)
      exact ⟨this.1, Nat.lt_of_lt_of_le this.2 hb.size⟩
  · dsimp only
    rw [if_neg (by omega)]
    split
    · have := q2 i (by omega); omega
    · exact h4 i j hij (by omega)
  · dsimp only
    by_cases e : i = k
    · subst e
      rw [if_pos rfl]
      obtain rfl : jt = z := by rw [hit] at hjt; exact (Option.some.inj hjt).symm
      refine ⟨?_, hlt ho _ _⟩
      rw [List.getElem?_set_self (by omega)]
    · rw [if_neg e]
      obtain ⟨p3, p4⟩ := h5 i jt (by omega) hjt
      refine ⟨?_, hlt (own_below p4 hb (Nat.le_refl _)) _ _⟩
      rw [List.getElem?_set_ne (by omega)]; exact p3

theorem BUpto.stored {w : World} {g g' j : Nat} {zss : List (List Int)} {k len : Nat} {T : TypeId} {C : Nat} {v : Value} (h : BUpto w g zss k len T C) (hg : g' < g) : BUpto (w.setCell ⟨g', j, none⟩ v) g zss k len T C := by
  obtain ⟨vs, f, h1, h2, h3, h4, h5⟩ := h
  refine ⟨vs, f, h1.other (by omega), h2, h3, h4, fun i z hi hit => ?_⟩
  obtain ⟨q3, q4⟩ := h5 i z hi hit
  exact ⟨q3, ownsRow_setCell_below q4 (by show g' < g + 1; omega) _⟩

/-- What is owned reads so. -/
theorem OBss.row {w : World} {g : Nat} {zss : List (List Int)} {T : TypeId} {C : Nat} (h : OBss w g zss T C) (hok : ∀ z ∈ zss, z.length ≤ maxLen) (hz : ∀ z ∈ zss, ∀ x ∈ z, 0 ≤ x ∧ x ≤ 255) : BsRow w (some ⟨g, 0, none⟩) zss.length zss := by
  obtain ⟨vs, f, h1, h2, h3, h4, h5⟩ := h
  refine ⟨rfl, hok, fun _ => ⟨g, 0, rfl, fun i z hi => ?_⟩⟩
  have hil := (List.getElem?_eq_some_iff.1 hi).1
  obtain ⟨q3, q4⟩ := h5 i z hil hi
  refine ⟨some ⟨f i, 0, none⟩, z.length, z.length, ?_, BRow.own q4 (hz z (List.mem_of_getElem? hi))⟩
  rw [h1.cell]
  simpa using q3

end Go.Proofs.YtnmbdannipebnaaGreatDoor

/- What is proved here: plain facts on headers in a world: how an argument that is a header reads; they hold for every program. -/
namespace Go.Proofs.YtnmbdannipebnaaGreatDoor
open Go.RowKit
set_option linter.unusedVariables false
set_option maxRecDepth 100000

/-- A slice's three parts. -/
structure Sl where
  a : Option Addr
  n : Nat
  c : Nat

/-- The slices of a header: Parent, Target, Signers, Receipts, Signer, Seal, Commits. -/
structure HS where
  p : Sl
  t : Sl
  s : Sl
  r : Sl
  g : Sl
  e : Sl
  k : Sl

/-- A header: its bytes and numbers. -/
structure Hd where
  p : List Int
  n1 : Int
  n2 : Int
  n3 : Int
  t : List Int
  n5 : Int
  s : List (List Int)
  r : List Int
  g : List Int
  e : List Int
  k : List (List Int)

/-- The slices read as the header's bytes. -/
structure HOk (w : World) (x : HS) (h : Hd) : Prop where
  p : BRow w x.p.a x.p.n h.p
  t : BRow w x.t.a x.t.n h.t
  s : BsRow w x.s.a x.s.n h.s
  r : BRow w x.r.a x.r.n h.r
  g : BRow w x.g.a x.g.n h.g
  e : BRow w x.e.a x.e.n h.e
  k : BsRow w x.k.a x.k.n h.k

theorem HOk.below {w w' : World} {x : HS} {h : Hd} (o : HOk w x h) {B : Nat} (hb : Below B w w') (hB : w.heap.size ≤ B) : HOk w' x h :=
  ⟨o.p.below hb hB, o.t.below hb hB, o.s.below hb hB, o.r.below hb hB, o.g.below hb hB, o.e.below hb hB, o.k.below hb hB⟩

/-- None is longer than M. -/
structure HMax (x : HS) (M : Nat) : Prop where
  p : x.p.n ≤ M
  t : x.t.n ≤ M
  s : x.s.n ≤ M
  r : x.r.n ≤ M
  g : x.g.n ≤ M
  e : x.e.n ≤ M
  k : x.k.n ≤ M

def in64 (n : Int) : Prop := -9223372036854775808 ≤ n ∧ n ≤ 9223372036854775807

/-- The numbers fit. -/
structure HIn (h : Hd) : Prop where
  n1 : in64 h.n1
  n2 : in64 h.n2
  n3 : in64 h.n3
  n5 : in64 h.n5

/-- All bytes, and how many slices there are, are at most 2^20. -/
structure HSm (h : Hd) : Prop where
  p : h.p.length ≤ 1048576
  t : h.t.length ≤ 1048576
  s : h.s.length ≤ 1048576
  sz : ∀ z ∈ h.s, z.length ≤ 1048576
  r : h.r.length ≤ 1048576
  g : h.g.length ≤ 1048576
  e : h.e.length ≤ 1048576
  k : h.k.length ≤ 1048576
  kz : ∀ z ∈ h.k, z.length ≤ 1048576

/-- The eleven cells of a header. -/
def hvals (x : HS) (h : Hd) : Array Value := #[.slice x.p.a x.p.n x.p.c, .int .i64 h.n1, .int .i64 h.n2, .int .i64 h.n3, .slice x.t.a x.t.n x.t.c, .int .i64 h.n5, .slice x.s.a x.s.n x.s.c, .slice x.r.a x.r.n x.r.c, .slice x.g.a x.g.n x.g.c, .slice x.e.a x.e.n x.e.c, .slice x.k.a x.k.n x.k.c]

section
variable {H : Type} {enc : TypeId × Value → H} {P : Program} {w : World} {sp : Nat → Bool} {held : Bool}

/-- A field that is a slice of bytes. -/
theorem field_bytes {ts tu : TypeId} {fuel : Nat} {v : Value} {y : DataW H × List MemPlace} (us : P.underlying ts = some (.slice tu)) (uu : P.underlying tu = some (.int .u8)) (cu : P.cellsOf tu = 1)
    (h : DataW.trod enc P w 0 sp held fuel ts [v] = some y) : ∃ (x : Sl) (z : List Int), v = .slice x.a x.n x.c ∧ x.n ≤ maxLen ∧ BRow w x.a x.n z := by
  rcases ChangeShapes.open_ints us uu cu h with ⟨e2, _⟩ | ⟨sa, sl, sc, zs, e2, _, hsl, hsm, hzl, _, hzc, hzw⟩
  · simp only [List.cons.injEq, and_true] at e2
    subst e2
    exact ⟨⟨none, 0, 0⟩, [], rfl, Nat.zero_le _, rfl, fun n hn => by simp at hn, fun _ => rfl, fun y hy => by cases hy⟩
  · simp only [List.cons.injEq, and_true] at e2
    subst e2
    have hzl' : sl ≤ zs.length := by rw [hzl]; split <;> omega
    refine ⟨⟨some sa, sl, sc⟩, zs.take sl, rfl, Nat.le_trans hsl hsm, by simp; omega, fun n hn => ?_, (fun e => (by cases e)), fun y hy j hj => ?_⟩
    · exact bounds_u8 (hzw n (List.mem_of_mem_take hn))
    · cases hy
      have hj' : j < sl := hj
      rw [hzc j (by omega), getD_at _ j (by omega), getD_at _ j (by simp; omega), List.getElem_take]

/-- A field that is a slice of slices of bytes. -/
theorem field_bss {t ts tu : TypeId} {fuel : Nat} {v : Value} {y : DataW H × List MemPlace} (ut : P.underlying t = some (.slice ts)) (us : P.underlying ts = some (.slice tu)) (cs : P.cellsOf ts = 1) (uu : P.underlying tu = some (.int .u8)) (cu : P.cellsOf tu = 1)
    (h : DataW.trod enc P w 0 sp held fuel t [v] = some y) : ∃ (x : Sl) (z : List (List Int)), v = .slice x.a x.n x.c ∧ x.n ≤ maxLen ∧ BsRow w x.a x.n z := by
  have hv : ∃ a len cap, v = .slice a len cap := by
    rcases DataW.trod_slice ut h with ⟨hn, _⟩ | ⟨x, len', cap', elems, rest, n, _, hcs, _⟩
    · simp only [List.cons.injEq, and_true] at hn; exact ⟨_, _, _, hn⟩
    · simp only [List.cons.injEq, and_true] at hcs; exact ⟨_, _, _, hcs⟩
  obtain ⟨a, len, cap, rfl⟩ := hv
  obtain ⟨d, ps⟩ := y
  obtain ⟨zss, h1, h2⟩ := read_bss ut us cs cu uu h
  exact ⟨⟨a, len, cap⟩, zss, rfl, h1, h2⟩

theorem field_int {t : TypeId} {fuel : Nat} {v : Value} {y : DataW H × List MemPlace} (ut : P.underlying t = some (.int .i64)) (h : DataW.trod enc P w 0 sp held fuel t [v] = some y) : ∃ n, v = .int .i64 n ∧ in64 n := by
  obtain ⟨n, e, _, hwf⟩ := DataW.trod_int ut h
  simp only [List.cons.injEq, and_true] at e
  exact ⟨n, e, bounds_i64 hwf⟩

/-- How an argument that is a header reads. -/
theorem open_header {t tb ti tl tu : TypeId} {fs : Array Field} {f0 f1 f2 f3 f4 f5 f6 f7 f8 f9 f10 : Field} {v : Value} {d : DataW H} {ps : List MemPlace}
    (ht : P.underlying t = some (.struct fs)) (hfs : fs = #[f0, f1, f2, f3, f4, f5, f6, f7, f8, f9, f10]) (hc : P.cellsOf t = 11)
    (ho : f0.offset = 0 ∧ f1.offset = 1 ∧ f2.offset = 2 ∧ f3.offset = 3 ∧ f4.offset = 4 ∧ f5.offset = 5 ∧ f6.offset = 6 ∧ f7.offset = 7 ∧ f8.offset = 8 ∧ f9.offset = 9 ∧ f10.offset = 10)
    (hty : f0.type = tb ∧ f1.type = ti ∧ f2.type = ti ∧ f3.type = ti ∧ f4.type = tb ∧ f5.type = ti ∧ f6.type = tl ∧ f7.type = tb ∧ f8.type = tb ∧ f9.type = tb ∧ f10.type = tl)
    (ub : P.underlying tb = some (.slice tu)) (uu : P.underlying tu = some (.int .u8)) (ui : P.underlying ti = some (.int .i64)) (ul : P.underlying tl = some (.slice tb))
    (cb : P.cellsOf tb = 1) (ci : P.cellsOf ti = 1) (cl : P.cellsOf tl = 1) (cu : P.cellsOf tu = 1)
    (hv : ∃ cs, v = .agg cs ∧ cs.size = P.cellsOf t) (h : DataW.Trod enc P w 0 sp held t v d ps) :
    ∃ (x : HS) (y : Hd), v = .agg (hvals x y) ∧ HOk w x y ∧ HMax x maxLen ∧ HIn y := by
  obtain ⟨cs, rfl, hsz⟩ := hv
  obtain ⟨fuel, h⟩ := h
  have h' : DataW.trod enc P w 0 sp held fuel t cs.toList = some (d, ps) := h
  obtain ⟨l⟩ := cs
  rw [hc] at hsz
  have hl : l.length = 11 := by simpa using hsz
  match l, hl with
  | [v0, v1, v2, v3, v4, v5, v6, v7, v8, v9, v10], _ =>
    subst hfs
    obtain ⟨xs, m, _, _, _, hxl, hf⟩ := DataW.trod_struct ht h'
    have hs : xs.length = 11 := by rw [hxl]; rfl
    obtain ⟨o0, o1, o2, o3, o4, o5, o6, o7, o8, o9, o10⟩ := ho
    obtain ⟨y0, y1, y2, y3, y4, y5, y6, y7, y8, y9, y10⟩ := hty
    have g0 := hf 0 f0 rfl
    have g1 := hf 1 f1 rfl
    have g2 := hf 2 f2 rfl
    have g3 := hf 3 f3 rfl
    have g4 := hf 4 f4 rfl
    have g5 := hf 5 f5 rfl
    have g6 := hf 6 f6 rfl
    have g7 := hf 7 f7 rfl
    have g8 := hf 8 f8 rfl
    have g9 := hf 9 f9 rfl
    have g10 := hf 10 f10 rfl
    rw [List.getElem?_eq_getElem (by omega)] at g0 g1 g2 g3 g4 g5 g6 g7 g8 g9 g10
    rw [y0, o0, cb] at g0
    rw [y1, o1, ci] at g1
    rw [y2, o2, ci] at g2
    rw [y3, o3, ci] at g3
    rw [y4, o4, cb] at g4
    rw [y5, o5, ci] at g5
    rw [y6, o6, cl] at g6
    rw [y7, o7, cb] at g7
    rw [y8, o8, cb] at g8
    rw [y9, o9, cb] at g9
    rw [y10, o10, cl] at g10
    simp only [List.drop_zero, List.drop_succ_cons, List.take_succ_cons, List.take_zero] at g0 g1 g2 g3 g4 g5 g6 g7 g8 g9 g10
    obtain ⟨x0, z0, e0, l0, r0⟩ := field_bytes ub uu cu g0
    obtain ⟨n1, e1, i1⟩ := field_int ui g1
    obtain ⟨n2, e2, i2⟩ := field_int ui g2
    obtain ⟨n3, e3, i3⟩ := field_int ui g3
    obtain ⟨x4, z4, e4, l4, r4⟩ := field_bytes ub uu cu g4
    obtain ⟨n5, e5, i5⟩ := field_int ui g5
    obtain ⟨x6, z6, e6, l6, r6⟩ := field_bss ul ub cb uu cu g6
    obtain ⟨x7, z7, e7, l7, r7⟩ := field_bytes ub uu cu g7
    obtain ⟨x8, z8, e8, l8, r8⟩ := field_bytes ub uu cu g8
    obtain ⟨x9, z9, e9, l9, r9⟩ := field_bytes ub uu cu g9
    obtain ⟨x10, z10, e10, l10, r10⟩ := field_bss ul ub cb uu cu g10
    subst e0 e1 e2 e3 e4 e5 e6 e7 e8 e9 e10
    exact ⟨⟨x0, x4, x6, x7, x8, x9, x10⟩, ⟨z0, n1, n2, n3, z4, n5, z6, z7, z8, z9, z10⟩, rfl, ⟨r0, r4, r6, r7, r8, r9, r10⟩, ⟨l0, l4, l6, l7, l8, l9, l10⟩, ⟨i1, i2, i3, i5⟩⟩
end

end Go.Proofs.YtnmbdannipebnaaGreatDoor

/- What is proved here: the contract of the laws' helper function szHeader: what it leaves is below 0, or the header is small. -/
namespace Go.Proofs.YtnmbdannipebnaaGreatDoor
open Go.RowKit
set_option linter.unusedVariables false
set_option maxRecDepth 100000

theorem szB1_to (a : Option Addr) (n cap : Nat) (left L : Int) (w : World) (h0 : 0 ≤ left) (h1 : left ≤ 1099511627776) (hn : n ≤ maxLen) (e : L = if left - n < 0 then -1 else left - n) :
    Calls Tryz.prog 27 #[.slice a n cap, .int .i64 left] w fun e w' => e = .returned (.int .i64 L) ∧ w' = w := by
  subst e; exact szB1_any a n cap left w h0 h1 hn

theorem szBss_to (a : Option Addr) (len cap : Nat) (zss : List (List Int)) (left L : Int) (w : World) (h : BsRow w a len zss) (hl : len ≤ maxLen) (h0 : 0 ≤ left) (h1 : left ≤ 1099511627776) (e : L = szBss left zss) :
    Calls Tryz.prog 24 #[.slice a len cap, .int .i64 left] w fun e w' => e = .returned (.int .i64 L) ∧ w' = w := by
  subst e; exact szByteSS_any a len cap zss left w h hl h0 h1

/-- All bytes of some slices, and of a header. -/
def bsum (zss : List (List Int)) : Nat := (zss.map List.length).sum

theorem szBs_eq (zss : List (List Int)) : ∀ left, 0 ≤ szBs left zss → szBs left zss = left - bsum zss := by
  induction zss with
  | nil => intro left _; simp [szBs, bsum]
  | cons z r ih =>
    intro left h
    unfold szBs at h ⊢
    split at h
    · omega
    · rename_i hn
      rw [if_neg hn, ih _ h]
      simp [bsum]
      omega

theorem szBss_eq {left : Int} {zss : List (List Int)} (h : 0 ≤ szBss left zss) : szBss left zss = left - zss.length - bsum zss := by
  unfold szBss at h ⊢
  split at h
  · omega
  · rename_i hn
    rw [if_neg hn]
    exact szBs_eq zss _ h

def hTot (h : Hd) : Nat := h.p.length + h.t.length + bsum h.s + h.r.length + h.g.length + h.e.length + bsum h.k

set_option maxHeartbeats 4000000 in
theorem szHeader_tot (x : HS) (h : Hd) (L0 : Int) (w : World) (o : HOk w x h) (m : HMax x maxLen) (h0 : 0 ≤ L0) (h1 : L0 ≤ 1048576) :
    Calls Tryz.prog 6 #[.agg (hvals x h), .int .i64 L0] w fun e w' => (∃ r : Int, e = .returned (.int .i64 r) ∧ -1 ≤ r ∧ r ≤ L0 ∧ (0 ≤ r → HSm h ∧ (hTot h : Int) ≤ L0)) ∧ Below w.heap.size w w' := by
  have HB := hide (below_alloc w (.cells (hvals x h) 31))
  have HO := hide (fun (W : World) (hb : Below w.heap.size w W) => o.below hb (Nat.le_refl _))
  have HN := hide o
  unfold hvals at HB ⊢
  clear o
  go_enter Tryz.func6, Tryz.ntmps6
  obtain ⟨L1, e1⟩ : ∃ L : Int, L = if L0 - x.p.n < 0 then -1 else L0 - x.p.n := ⟨_, rfl⟩
  have C1 := hide (fun (W : World) (hb : Below w.heap.size w W) => szB1_to x.p.a x.p.n x.p.c L0 L1 W (by omega) (by omega) m.p e1)
  have E1 := hide e1
  clear e1
  go_wp2_with fail
  refine ((unhide C1) _ (unhide HB)).mono ?_
  rintro e w' ⟨rfl, rfl⟩
  clear C1
  by_cases t1 : L1 < 0
  · have d : decide (L1 < 0) = true := decide_eq_true t1
    go_wp2_with fail
    go_ret
    exact ⟨⟨-1, rfl, by omega, by omega, fun hh => by omega⟩, unhide HB⟩
  have d1 : decide (L1 < 0) = false := decide_eq_false t1
  have G1 : Hid (L1 = L0 - x.p.n) := by
    show _ = _
    have := unhide E1
    split at this <;> omega
  have f1 : (x.p.n : Int) ≤ 1048576 ∧ L1 ≤ L0 := by
    have := unhide E1
    split at this <;> omega
  clear E1
  obtain ⟨L2, e2⟩ : ∃ L : Int, L = if L1 - x.t.n < 0 then -1 else L1 - x.t.n := ⟨_, rfl⟩
  have C2 := hide (fun (W : World) (hb : Below w.heap.size w W) => szB1_to x.t.a x.t.n x.t.c L1 L2 W (by omega) (by omega) m.t e2)
  have E2 := hide e2
  clear e2
  go_wp2_with fail
  refine ((unhide C2) _ (unhide HB)).mono ?_
  rintro e w' ⟨rfl, rfl⟩
  clear C2
  by_cases t2 : L2 < 0
  · have d : decide (L2 < 0) = true := decide_eq_true t2
    go_wp2_with fail
    go_ret
    exact ⟨⟨-1, rfl, by omega, by omega, fun hh => by omega⟩, unhide HB⟩
  have d2 : decide (L2 < 0) = false := decide_eq_false t2
  have G2 : Hid (L2 = L1 - x.t.n) := by
    show _ = _
    have := unhide E2
    split at this <;> omega
  have f2 : (x.t.n : Int) ≤ 1048576 ∧ L2 ≤ L1 := by
    have := unhide E2
    split at this <;> omega
  clear E2
  obtain ⟨L3, e3⟩ : ∃ L : Int, L = szBss L2 h.s := ⟨_, rfl⟩
  have C3 := hide (fun (W : World) (hb : Below w.heap.size w W) => szBss_to x.s.a x.s.n x.s.c h.s L2 L3 W ((unhide HO) W hb).s m.s (by omega) (by omega) e3)
  have E3 := hide e3
  clear e3
  go_wp2_with fail
  refine ((unhide C3) _ (unhide HB)).mono ?_
  rintro e w' ⟨rfl, rfl⟩
  clear C3
  by_cases t3 : L3 < 0
  · have d : decide (L3 < 0) = true := decide_eq_true t3
    go_wp2_with fail
    go_ret
    exact ⟨⟨-1, rfl, by omega, by omega, fun hh => by omega⟩, unhide HB⟩
  have d3 : decide (L3 < 0) = false := decide_eq_false t3
  have f3 : L3 ≤ L2 := by rw [unhide E3]; exact szBss_le _ (by omega)
  have F3 := hide (szBss_ok (left := L2) (zss := h.s) (by rw [← unhide E3]; omega))
  have G3 : Hid (L3 = L2 - h.s.length - bsum h.s) := by show _ = _; rw [unhide E3]; exact szBss_eq (by rw [← unhide E3]; omega)
  clear E3
  obtain ⟨L4, e4⟩ : ∃ L : Int, L = if L3 - x.r.n < 0 then -1 else L3 - x.r.n := ⟨_, rfl⟩
  have C4 := hide (fun (W : World) (hb : Below w.heap.size w W) => szB1_to x.r.a x.r.n x.r.c L3 L4 W (by omega) (by omega) m.r e4)
  have E4 := hide e4
  clear e4
  go_wp2_with fail
  refine ((unhide C4) _ (unhide HB)).mono ?_
  rintro e w' ⟨rfl, rfl⟩
  clear C4
  by_cases t4 : L4 < 0
  · have d : decide (L4 < 0) = true := decide_eq_true t4
    go_wp2_with fail
    go_ret
    exact ⟨⟨-1, rfl, by omega, by omega, fun hh => by omega⟩, unhide HB⟩
  have d4 : decide (L4 < 0) = false := decide_eq_false t4
  have G4 : Hid (L4 = L3 - x.r.n) := by
    show _ = _
    have := unhide E4
    split at this <;> omega
  have f4 : (x.r.n : Int) ≤ 1048576 ∧ L4 ≤ L3 := by
    have := unhide E4
    split at this <;> omega
  clear E4
  obtain ⟨L5, e5⟩ : ∃ L : Int, L = if L4 - x.g.n < 0 then -1 else L4 - x.g.n := ⟨_, rfl⟩
  have C5 := hide (fun (W : World) (hb : Below w.heap.size w W) => szB1_to x.g.a x.g.n x.g.c L4 L5 W (by omega) (by omega) m.g e5)
  have E5 := hide e5
  clear e5
  go_wp2_with fail
  refine ((unhide C5) _ (unhide HB)).mono ?_
  rintro e w' ⟨rfl, rfl⟩
  clear C5
  by_cases t5 : L5 < 0
  · have d : decide (L5 < 0) = true := decide_eq_true t5
    go_wp2_with fail
    go_ret
    exact ⟨⟨-1, rfl, by omega, by omega, fun hh => by omega⟩, unhide HB⟩
  have d5 : decide (L5 < 0) = false := decide_eq_false t5
  have G5 : Hid (L5 = L4 - x.g.n) := by
    show _ = _
    have := unhide E5
    split at this <;> omega
  have f5 : (x.g.n : Int) ≤ 1048576 ∧ L5 ≤ L4 := by
    have := unhide E5
    split at this <;> omega
  clear E5
  obtain ⟨L6, e6⟩ : ∃ L : Int, L = if L5 - x.e.n < 0 then -1 else L5 - x.e.n := ⟨_, rfl⟩
  have C6 := hide (fun (W : World) (hb : Below w.heap.size w W) => szB1_to x.e.a x.e.n x.e.c L5 L6 W (by omega) (by omega) m.e e6)
  have E6 := hide e6
  clear e6
  go_wp2_with fail
  refine ((unhide C6) _ (unhide HB)).mono ?_
  rintro e w' ⟨rfl, rfl⟩
  clear C6
  by_cases t6 : L6 < 0
  · have d : decide (L6 < 0) = true := decide_eq_true t6
    go_wp2_with fail
    go_ret
    exact ⟨⟨-1, rfl, by omega, by omega, fun hh => by omega⟩, unhide HB⟩
  have d6 : decide (L6 < 0) = false := decide_eq_false t6
  have G6 : Hid (L6 = L5 - x.e.n) := by
    show _ = _
    have := unhide E6
    split at this <;> omega
  have f6 : (x.e.n : Int) ≤ 1048576 ∧ L6 ≤ L5 := by
    have := unhide E6
    split at this <;> omega
  clear E6
  obtain ⟨L7, e7⟩ : ∃ L : Int, L = szBss L6 h.k := ⟨_, rfl⟩
  have C7 := hide (fun (W : World) (hb : Below w.heap.size w W) => szBss_to x.k.a x.k.n x.k.c h.k L6 L7 W ((unhide HO) W hb).k m.k (by omega) (by omega) e7)
  have E7 := hide e7
  clear e7
  go_wp2_with fail
  refine ((unhide C7) _ (unhide HB)).mono ?_
  rintro e w' ⟨rfl, rfl⟩
  clear C7
  by_cases t7 : L7 < 0
  · have d : decide (L7 < 0) = true := decide_eq_true t7
    go_wp2_with fail
    go_ret
    exact ⟨⟨-1, rfl, by omega, by omega, fun hh => by omega⟩, unhide HB⟩
  have d7 : decide (L7 < 0) = false := decide_eq_false t7
  have f7 : L7 ≤ L6 := by rw [unhide E7]; exact szBss_le _ (by omega)
  have F7 := hide (szBss_ok (left := L6) (zss := h.k) (by rw [← unhide E7]; omega))
  have G7 : Hid (L7 = L6 - h.k.length - bsum h.k) := by show _ = _; rw [unhide E7]; exact szBss_eq (by rw [← unhide E7]; omega)
  clear E7
  go_wp2_with fail
  go_ret
  refine ⟨⟨L7, rfl, by omega, by omega, fun _ => ?_⟩, unhide HB⟩
  have o := unhide HN
  obtain ⟨u3, v3⟩ := unhide F3
  obtain ⟨u7, v7⟩ := unhide F7
  refine ⟨?_, by have q1 := o.p.1; have e1 := unhide G1; have e2 := unhide G2; have e3 := unhide G3; have e4 := unhide G4; have e5 := unhide G5; have e6 := unhide G6; have e7 := unhide G7; have q2 := o.t.1; have q3 := o.r.1; have q4 := o.g.1; have q5 := o.e.1; unfold hTot; omega⟩
  exact ⟨by rw [o.p.1]; omega, by rw [o.t.1]; omega, by omega, fun z hz => by have := v3 z hz; omega, by rw [o.r.1]; omega, by rw [o.g.1]; omega, by rw [o.e.1]; omega, by omega, fun z hz => by have := v7 z hz; omega⟩

end Go.Proofs.YtnmbdannipebnaaGreatDoor

/- What is proved here: the contracts of the laws' helper functions on byte slices (toByteS, eqByteS), for slices of at most 2^20 bytes. -/
namespace Go.Proofs.YtnmbdannipebnaaGreatDoor
open Go.RowKit
set_option linter.unusedVariables false
set_option maxRecDepth 100000

set_option maxHeartbeats 400000 in
theorem toByteS_any (a : Option Addr) (len cap : Nat) (zs : List Int) (w : World) (h : BRow w a len zs) (hl : len ≤ 1048576) :
    Calls Tryz.prog 15 #[.slice a len cap] w fun e w' => e = .returned (.slice (some ⟨w.heap.size, 0, none⟩) len len) ∧
      w'.ownsRow w.heap.size 5 1 (.slice (some ⟨w.heap.size, 0, none⟩) len len) len (zs.map (Value.int .u8)) ∧ Below w.heap.size w w' := by
  obtain ⟨i0, hi, hz0, hz1, hz2⟩ := info_parts info5
  rcases Nat.eq_zero_or_pos len with h0 | hp
  · subst h0
    have hzs : zs = [] := List.length_eq_zero_iff.1 h.1
    subst hzs
    clear h hl
    go_enter Tryz.func15, Tryz.ntmps15
    go_wp2_with (at_make; refine wpList_make_full _ rfl _ _ 29 rfl w.heap.size 5 i0 (.int .u8 0) 1 Tryz.underlying29 hi hz0 hz1 _ _ _ _ 0 rfl rfl rfl rfl ?c1 ?c2 ?c3 ?_)
    case c1 => omega
    case c2 => unfold maxLen; omega
    case c3 => omega
    intro w1 hown hgrow
    go_wp2
    refine wp_loop_rounds 1 ?_
    rw [rounds_succ]
    go_wp2
    go_ret
    exact ⟨rfl, by simpa [toList_madeCells_one] using hown, (Below.refl _ _).grown hgrow (Nat.le_refl _) (fun k e => by cases e)⟩
  · obtain ⟨b, off, rfl, hb, hc⟩ := h.at hp
    have hzl := h.1
    clear h
    go_enter Tryz.func15, Tryz.ntmps15
    go_wp2_with (at_make; refine wpList_make_full _ rfl _ _ 29 rfl w.heap.size 5 i0 (.int .u8 0) 1 Tryz.underlying29 hi hz0 hz1 _ _ _ _ len rfl rfl rfl rfl ?c1 ?c2 ?c3 ?_)
    case c1 => rw [hz2]; omega
    case c2 => unfold maxLen; omega
    case c3 => omega
    intro w1 hown hgrow
    have hown0 : w1.ownsRow w.heap.size 5 1 (.slice (some ⟨w.heap.size, 0, none⟩) len len) len ((zs.take 0 ++ List.replicate (len - 0) 0).map (Value.int .u8)) := by
      have e : (madeCells #[Value.int .u8 0] len).toList = (zs.take 0 ++ List.replicate (len - 0) 0).map (Value.int .u8) := by
        rw [toList_madeCells_one]; simp
      rw [← e]; exact hown
    have hbel : Below w.heap.size w w1 := (Below.refl _ _).grown hgrow (Nat.le_refl _) (fun k e => by cases e)
    clear hown hgrow
    go_wp2
    go_loopw [4] (fun i wr => ∃ k : Nat, k ≤ len ∧ i = .int .i64 k ∧ wr.ownsRow w.heap.size 5 1 (.slice (some ⟨w.heap.size, 0, none⟩) len len) len ((zs.take k ++ List.replicate (len - k) 0).map (Value.int .u8)) ∧ Below w.heap.size w wr)
      (fun i _ => len - (intOf i).toNat)
    case atStart => exact ⟨0, Nat.zero_le _, rfl, hown0, hbel⟩
    case round =>
      obtain ⟨k, hk, rfl, hown, hbr⟩ := hrel
      clear hown0 hbel
      by_cases hlt : k < len
      · have hst := fill_step zs len k hzl hlt
        have hcx : wr.cell? ⟨b, off + k, none⟩ = some (.int .u8 (zs.getD k 0)) := (hbr.cell (by exact hb)).trans (hc k hlt)
        generalize zs.getD k 0 = z at hcx hst
        have hfz := hown.frozenAt k
        obtain ⟨u, hu⟩ : ∃ u, wr.cell? ⟨w.heap.size, k, none⟩ = some u := by
          rw [hown.cellAt k (by omega)]
          exact ⟨_, List.getElem?_eq_getElem (by rw [hown.1]; omega)⟩
        have R := hown.stored k (.int .u8 z)
        rw [hst] at R
        have HR := R.1
        have HB : Below w.heap.size w (wr.setCell ⟨w.heap.size, k, none⟩ (.int .u8 z)) := hbr.setCell (Nat.le_refl _) _
        clear R hown hst
        go_wp2
        go_roundw
        case rel => exact ⟨k + 1, by omega, by go_num, HR, HB⟩
        case measure => simp [intOf]; omega
      · obtain rfl : k = len := by omega
        go_wp2
        go_ret
        refine ⟨rfl, ?_, hbr⟩
        simpa [← hzl] using hown


set_option maxHeartbeats 400000 in
theorem eqByteS_any (a b : Option Addr) (la ca lb cb : Nat) (xs ys : List Int) (w : World) (ha : BRow w a la xs) (hb : BRow w b lb ys) (hl : la ≤ 1048576) (hl2 : lb ≤ 1048576) :
    Calls Tryz.prog 18 #[.slice a la ca, .slice b lb cb] w fun e w' => e = .returned (.bool (sameB xs ys)) ∧ ∃ n, w' = w.drewN n := by
  have hxl := ha.1
  have hyl := hb.1
  by_cases hne : la = lb
  · subst hne
    have hlen : (((la : Nat) : Int) != ((la : Nat) : Int)) = false := by simp
    rcases Nat.eq_zero_or_pos la with h0 | hp
    · subst h0
      have hx : xs = [] := List.length_eq_zero_iff.1 hxl
      have hy : ys = [] := List.length_eq_zero_iff.1 hyl
      subst hx hy
      clear ha hb
      go_enter Tryz.func18, Tryz.ntmps18
      go_wp2
      refine wp_loop_rounds 1 ?_
      rw [rounds_succ]
      go_wp2
      go_ret
      exact ⟨rfl, 0, rfl⟩
    · obtain ⟨ba, oa, rfl, hba, hca⟩ := ha.at hp
      obtain ⟨bb, ob, rfl, hbb, hcb⟩ := hb.at hp
      have HCA := hide hca
      have HCB := hide hcb
      clear ha hb hca hcb
      go_enter Tryz.func18, Tryz.ntmps18
      go_wp2
      go_loopw [5] (fun i wr => ∃ k n : Nat, k ≤ la ∧ i = .int .i64 k ∧ xs.take k = ys.take k ∧ wr = w.drewN n)
        (fun i _ => la - (intOf i).toNat)
      case atStart => exact ⟨0, 0, Nat.zero_le _, rfl, rfl, rfl⟩
      case round =>
        obtain ⟨k, n, hk, rfl, hpre, rfl⟩ := hrel
        by_cases hlt : k < la
        · have h1 : w.cell? ⟨ba, oa + k, none⟩ = some (.int .u8 (xs.getD k 0)) := (unhide HCA) k hlt
          have h2 : w.cell? ⟨bb, ob + k, none⟩ = some (.int .u8 (ys.getD k 0)) := (unhide HCB) k hlt
          have Hs := take_same xs ys k (by omega) (by omega) hpre
          have Hd := take_other xs ys k (by omega) (by omega)
          generalize xs.getD k 0 = x at h1 Hs Hd
          generalize ys.getD k 0 = y at h2 Hs Hd
          have HS := hide Hs
          have HD := hide Hd
          have HP := hide hpre
          have i1 : (0 : Int) ≤ (k : Int) := by omega
          have i2 : (k : Int) < (la : Int) := by omega
          clear Hs Hd hpre hxl hyl
          by_cases hxy : x = y
          · subst hxy
            have HT := hide ((unhide HS) rfl)
            clear HS HD HP
            have ht : (x != x) = false := by simp
            go_wp2
            go_quiet (fail)
            go_wp2
            go_roundw
            case rel => exact ⟨k + 1, _, by omega, by go_num, unhide HT, rfl⟩
            case measure => simp [intOf]; omega
          · have ht : (x != y) = true := by simp [hxy]
            go_wp2
            go_quiet (fail)
            go_wp2
            go_ret
            exact ⟨ret_bool ((unhide HD) hxy).symm, _, World.drewN_drewN ..⟩
        · obtain rfl : k = la := by omega
          have e := take_whole xs ys k hxl hyl hpre
          have HE := hide e
          clear e hpre hxl hyl
          go_wp2
          go_ret
          exact ⟨ret_bool (unhide HE).symm, n, rfl⟩
  · have hlen : (((la : Nat) : Int) != ((lb : Nat) : Int)) = true := by simp; omega
    have e : sameB xs ys = false := by
      unfold sameB
      rw [beq_eq_false_iff_ne]
      intro e; rw [e] at hxl; omega
    have HE := hide e
    clear e
    go_enter Tryz.func18, Tryz.ntmps18
    go_wp2
    go_ret
    exact ⟨ret_bool (unhide HE).symm, 0, rfl⟩

end Go.Proofs.YtnmbdannipebnaaGreatDoor

/- What is proved here: the contract of the laws' helper function that compares slices of slices of bytes (eqByteSS). -/
namespace Go.Proofs.YtnmbdannipebnaaGreatDoor
open Go.RowKit
set_option linter.unusedVariables false
set_option maxRecDepth 100000

set_option maxHeartbeats 2000000 in
theorem eqByteSS_any (a b : Option Addr) (la ca lb cb : Nat) (xs ys : List (List Int)) (w : World) (ha : BsRow w a la xs) (hb : BsRow w b lb ys) (hl : la ≤ 1048576) (hl2 : lb ≤ 1048576) (hx : ∀ z ∈ xs, z.length ≤ 1048576) (hy : ∀ z ∈ ys, z.length ≤ 1048576) :
    Calls Tryz.prog 51 #[.slice a la ca, .slice b lb cb] w fun e w' => e = .returned (.bool (sameBs xs ys)) ∧ ∃ n, w' = w.drewN n := by
  have hxl := ha.1
  have hyl := hb.1
  by_cases hne : la = lb
  · subst hne
    have hlen : (((la : Nat) : Int) != ((la : Nat) : Int)) = false := by simp
    rcases Nat.eq_zero_or_pos la with h0 | hp
    · subst h0
      have hx : xs = [] := List.length_eq_zero_iff.1 hxl
      have hy : ys = [] := List.length_eq_zero_iff.1 hyl
      subst hx hy
      clear ha hb
      go_enter Tryz.func51, Tryz.ntmps51
      go_wp2_with fail
      refine wp_loop_rounds 1 ?_
      rw [rounds_succ]
      go_wp2_with fail
      go_ret
      exact ⟨rfl, 0, rfl⟩
    · obtain ⟨ba, oa, rfl, hba, hca⟩ := ha.at hp
      obtain ⟨bb, ob, rfl, hbb, hcb⟩ := hb.at hp
      have HCA := hide hca
      have HCB := hide hcb
      have HX := hide hx
      have HY := hide hy
      have HXL := hide hxl
      have HYL := hide hyl
      clear ha hb hca hcb hx hy hxl hyl
      go_enter Tryz.func51, Tryz.ntmps51
      go_wp2_with fail
      go_loopw [5] (fun i wr => ∃ k n : Nat, k ≤ la ∧ i = .int .i64 k ∧ sameBs xs ys = sameBs (xs.drop k) (ys.drop k) ∧ wr = w.drewN n) (fun i _ => la - (intOf i).toNat)
      case atStart => exact ⟨0, 0, Nat.zero_le _, rfl, by simp, rfl⟩
      case round =>
        obtain ⟨k, n, hk, rfl, hpre, rfl⟩ := hrel
        by_cases hlt : k < la
        · obtain ⟨x, hix⟩ : ∃ z, xs[k]? = some z := ⟨_, List.getElem?_eq_getElem (by rw [unhide HXL]; exact hlt)⟩
          obtain ⟨y, hiy⟩ : ∃ z, ys[k]? = some z := ⟨_, List.getElem?_eq_getElem (by rw [unhide HYL]; exact hlt)⟩
          have hst := sameBs_step xs ys k x y hix hiy
          rw [← hpre] at hst
          obtain ⟨s1, n1, d1, p0, r1⟩ := (unhide HCA) k x hix
          obtain ⟨s2, n2, d2, q0, r2⟩ := (unhide HCB) k y hiy
          have m1 : n1 ≤ 1048576 := by rw [← r1.1]; exact (unhide HX) x (List.mem_of_getElem? hix)
          have m2 : n2 ≤ 1048576 := by rw [← r2.1]; exact (unhide HY) y (List.mem_of_getElem? hiy)
          have HEQ := hide (fun (m : Nat) => eqByteS_any s1 s2 n1 d1 n2 d2 x y (w.drewN m) (r1.below (B := w.heap.size) (below_drewN (Below.refl _ _) m) (Nat.le_refl _)) (r2.below (B := w.heap.size) (below_drewN (Below.refl _ _) m) (Nat.le_refl _)) m1 m2)
          have HP := hide hpre
          have HS := hide hst
          have i1 : (0 : Int) ≤ (k : Int) := by omega
          have i2 : (k : Int) < (la : Int) := by omega
          clear r1 r2 hst hpre hix hiy m1 m2
          generalize sameB x y = sb at HEQ HS
          go_wp2_with fail
          go_region_with (first | (go_at_call 18; refine ((unhide HEQ) (n + 1)).mono ?_; rintro e w1 ⟨rfl, m, rfl⟩))
          all_goals
            cases sb
            · go_wp2_with fail
              go_ret
              exact ⟨ret_bool (by rw [unhide HS]; rfl), _, by first | rfl | exact World.drewN_drewN ..⟩
            · go_wp2_with fail
              go_roundw
              case rel => exact ⟨k + 1, _, by omega, by go_num, by rw [unhide HS]; simp, by first | rfl | exact World.drewN_drewN ..⟩
              case measure => simp [intOf]; omega
        · obtain rfl : k = la := by omega
          have e := sameBs_end xs ys k (unhide HXL) (unhide HYL)
          rw [e] at hpre
          have HE := hide hpre
          clear e hpre
          go_wp2_with fail
          go_ret
          exact ⟨ret_bool (unhide HE).symm, n, rfl⟩
  · have hlen : (((la : Nat) : Int) != ((lb : Nat) : Int)) = true := by simp; omega
    have HE := hide (sameBs_len xs ys (by rw [hxl, hyl]; exact hne))
    clear ha hb hxl hyl
    go_enter Tryz.func51, Tryz.ntmps51
    go_wp2_with fail
    go_ret
    exact ⟨ret_bool (unhide HE).symm, 0, rfl⟩

end Go.Proofs.YtnmbdannipebnaaGreatDoor

/- What is proved here: the contract of the laws' helper function eqHeader, for two that are the same: it answers true. -/
namespace Go.Proofs.YtnmbdannipebnaaGreatDoor
open Go.RowKit
set_option linter.unusedVariables false
set_option maxRecDepth 100000

theorem ne64 (n : Int) : (n != n) = false := by simp

theorem eqB_yes (a b : Option Addr) (la ca lb cb : Nat) (xs : List Int) (w : World) (ha : BRow w a la xs) (hb : BRow w b lb xs) (hl : xs.length ≤ 1048576) :
    Calls Tryz.prog 18 #[.slice a la ca, .slice b lb cb] w fun e w' => e = .returned (.bool true) ∧ Below w.heap.size w w' :=
  (eqByteS_any a b la ca lb cb xs xs w ha hb (by rw [← ha.1]; exact hl) (by rw [← hb.1]; exact hl)).mono fun e w' ⟨he, n, hw⟩ => ⟨by rw [he, sameB_self], by rw [hw]; exact below_drewN (Below.refl _ _) n⟩

theorem eqBs_yes (a b : Option Addr) (la ca lb cb : Nat) (xs : List (List Int)) (w : World) (ha : BsRow w a la xs) (hb : BsRow w b lb xs) (hl : xs.length ≤ 1048576) (hz : ∀ z ∈ xs, z.length ≤ 1048576) :
    Calls Tryz.prog 51 #[.slice a la ca, .slice b lb cb] w fun e w' => e = .returned (.bool true) ∧ Below w.heap.size w w' :=
  (eqByteSS_any a b la ca lb cb xs xs w ha hb (by rw [← ha.1]; exact hl) (by rw [← hb.1]; exact hl) hz hz).mono fun e w' ⟨he, n, hw⟩ => ⟨by rw [he, sameBs_self], by rw [hw]; exact below_drewN (Below.refl _ _) n⟩

theorem two_blk (w : World) (vs us : Array Value) (T S : TypeId) : SBlk ((w.alloc (.cells vs T)).alloc (.cells us S)) w.heap.size vs.toList T ∧ SBlk ((w.alloc (.cells vs T)).alloc (.cells us S)) (w.heap.size + 1) us.toList S ∧ Below w.heap.size w ((w.alloc (.cells vs T)).alloc (.cells us S)) ∧ ((w.alloc (.cells vs T)).alloc (.cells us S)).heap.size = w.heap.size + 2 := by
  refine ⟨?_, ?_, ((Below.refl _ _).alloc (Nat.le_refl _) _).alloc (by simp) _, by simp⟩
  · exact (SBlk.new w vs T).next _
  · have h := SBlk.new (w.alloc (.cells vs T)) us S
    rwa [show (w.alloc (.cells vs T)).heap.size = w.heap.size + 1 by simp] at h

set_option maxHeartbeats 8000000 in
theorem eqHeader_same (x y : HS) (h : Hd) (w : World) (o : HOk w x h) (q : HOk w y h) (m : HSm h) :
    Calls Tryz.prog 13 #[.agg (hvals x h), .agg (hvals y h)] w fun e w' => e = .returned (.bool true) ∧ Below w.heap.size w w' := by
  have HO := hide (fun (W : World) (hb : Below w.heap.size w W) => o.below hb (Nat.le_refl _))
  have HQ := hide (fun (W : World) (hb : Below w.heap.size w W) => q.below hb (Nat.le_refl _))
  have HM := hide m
  obtain ⟨k0, k1, k2, k3⟩ := two_blk w (hvals x h) (hvals y h) 42 42
  clear o q m
  have hn1 := ne64 h.n1
  have hn2 := ne64 h.n2
  have hn3 := ne64 h.n3
  have hn5 := ne64 h.n5
  unfold hvals at k0 k1 k2 k3 ⊢
  obtain ⟨W0, e0⟩ : ∃ W0, (w.alloc (.cells #[.slice x.p.a x.p.n x.p.c, .int .i64 h.n1, .int .i64 h.n2, .int .i64 h.n3, .slice x.t.a x.t.n x.t.c, .int .i64 h.n5, .slice x.s.a x.s.n x.s.c, .slice x.r.a x.r.n x.r.c, .slice x.g.a x.g.n x.g.c, .slice x.e.a x.e.n x.e.c, .slice x.k.a x.k.n x.k.c] 42)).alloc (.cells #[.slice y.p.a y.p.n y.p.c, .int .i64 h.n1, .int .i64 h.n2, .int .i64 h.n3, .slice y.t.a y.t.n y.t.c, .int .i64 h.n5, .slice y.s.a y.s.n y.s.c, .slice y.r.a y.r.n y.r.c, .slice y.g.a y.g.n y.g.c, .slice y.e.a y.e.n y.e.c, .slice y.k.a y.k.n y.k.c] 42) = W0 := ⟨_, rfl⟩
  rw [e0] at k0 k1 k2 k3
  have hg : w.heap.size + 1 < W0.heap.size := by omega
  go_enter Tryz.func13, Tryz.ntmps13
  have x0 := k0.cell 0
  have y0 := k1.cell 0
  simp only [List.getElem?_cons_zero] at x0 y0
  go_wp2_with (rw [e0])
  clear e0
  refine (eqB_yes _ _ _ _ _ _ h.p _ ((unhide HO) _ k2).p ((unhide HQ) _ k2).p (unhide HM).p).mono ?_
  rintro e w1 ⟨rfl, b1⟩
  have k0 := k0.below b1 k0.lt
  have k1 := k1.below b1 k1.lt
  have k2 := k2.trans (b1.mono k2.size)
  clear b1
  have x1 := k0.cell 1
  have y1 := k1.cell 1
  have x2 := k0.cell 2
  have y2 := k1.cell 2
  have x3 := k0.cell 3
  have y3 := k1.cell 3
  have x4 := k0.cell 4
  have y4 := k1.cell 4
  simp only [List.getElem?_cons_zero, List.getElem?_cons_succ] at x1 y1 x2 y2 x3 y3 x4 y4
  go_wp2_with fail
  refine (eqB_yes _ _ _ _ _ _ h.t _ ((unhide HO) _ k2).t ((unhide HQ) _ k2).t (unhide HM).t).mono ?_
  rintro e w2 ⟨rfl, b2⟩
  have k0 := k0.below b2 k0.lt
  have k1 := k1.below b2 k1.lt
  have k2 := k2.trans (b2.mono k2.size)
  clear b2
  have x5 := k0.cell 5
  have y5 := k1.cell 5
  have x6 := k0.cell 6
  have y6 := k1.cell 6
  simp only [List.getElem?_cons_zero, List.getElem?_cons_succ] at x5 y5 x6 y6
  go_wp2_with fail
  refine (eqBs_yes _ _ _ _ _ _ h.s _ ((unhide HO) _ k2).s ((unhide HQ) _ k2).s (unhide HM).s (unhide HM).sz).mono ?_
  rintro e w3 ⟨rfl, b3⟩
  have k0 := k0.below b3 k0.lt
  have k1 := k1.below b3 k1.lt
  have k2 := k2.trans (b3.mono k2.size)
  clear b3
  have x7 := k0.cell 7
  have y7 := k1.cell 7
  simp only [List.getElem?_cons_zero, List.getElem?_cons_succ] at x7 y7
  go_wp2_with fail
  refine (eqB_yes _ _ _ _ _ _ h.r _ ((unhide HO) _ k2).r ((unhide HQ) _ k2).r (unhide HM).r).mono ?_
  rintro e w4 ⟨rfl, b4⟩
  have k0 := k0.below b4 k0.lt
  have k1 := k1.below b4 k1.lt
  have k2 := k2.trans (b4.mono k2.size)
  clear b4
  have x8 := k0.cell 8
  have y8 := k1.cell 8
  simp only [List.getElem?_cons_zero, List.getElem?_cons_succ] at x8 y8
  go_wp2_with fail
  refine (eqB_yes _ _ _ _ _ _ h.g _ ((unhide HO) _ k2).g ((unhide HQ) _ k2).g (unhide HM).g).mono ?_
  rintro e w5 ⟨rfl, b5⟩
  have k0 := k0.below b5 k0.lt
  have k1 := k1.below b5 k1.lt
  have k2 := k2.trans (b5.mono k2.size)
  clear b5
  have x9 := k0.cell 9
  have y9 := k1.cell 9
  simp only [List.getElem?_cons_zero, List.getElem?_cons_succ] at x9 y9
  go_wp2_with fail
  refine (eqB_yes _ _ _ _ _ _ h.e _ ((unhide HO) _ k2).e ((unhide HQ) _ k2).e (unhide HM).e).mono ?_
  rintro e w6 ⟨rfl, b6⟩
  have k0 := k0.below b6 k0.lt
  have k1 := k1.below b6 k1.lt
  have k2 := k2.trans (b6.mono k2.size)
  clear b6
  have x10 := k0.cell 10
  have y10 := k1.cell 10
  simp only [List.getElem?_cons_zero, List.getElem?_cons_succ] at x10 y10
  go_wp2_with fail
  refine (eqBs_yes _ _ _ _ _ _ h.k _ ((unhide HO) _ k2).k ((unhide HQ) _ k2).k (unhide HM).k (unhide HM).kz).mono ?_
  rintro e w7 ⟨rfl, b7⟩
  have k0 := k0.below b7 k0.lt
  have k1 := k1.below b7 k1.lt
  have k2 := k2.trans (b7.mono k2.size)
  clear b7
  go_wp2_with fail
  go_ret
  exact ⟨rfl, k2⟩

end Go.Proofs.YtnmbdannipebnaaGreatDoor

/- What is proved here: what the program's IsAhead and the model's l1Ahead answer, for slices of bytes of any length: whether the first is less than the second, byte by byte. -/
namespace Go.Proofs.YtnmbdannipebnaaGreatDoor
open Go.RowKit
set_option linter.unusedVariables false
set_option maxRecDepth 100000

/-- Whether the first list of bytes is less than the second. -/
def aheadB (xs ys : List Int) : Bool := Op.bytesLess (strOfNums xs).toList (strOfNums ys).toList

theorem less_of_compare : ∀ (l m : List UInt8), decide (Lib.compareBytes l m < 0) = Op.bytesLess l m
  | [], [] => by simp [Lib.compareBytes, Op.bytesLess]
  | [], _ :: _ => by simp [Lib.compareBytes, Op.bytesLess]
  | _ :: _, [] => by simp [Lib.compareBytes, Op.bytesLess]
  | x :: a, y :: b => by
    have ih := less_of_compare a b
    unfold Lib.compareBytes Op.bytesLess
    by_cases h1 : x < y
    · simp [h1]
    · by_cases h2 : y < x
      · have hne : (x == y) = false := by
          rw [beq_eq_false_iff_ne]; intro e; subst e; exact h1 h2
        simp [h1, h2, hne]
      · have e : x = y := UInt8.le_antisymm (UInt8.not_lt.1 h2) (UInt8.not_lt.1 h1)
        subst e
        simp [h1, ih]

theorem run_bytesOf {P : Program} (w : World) (a : Option Addr) (len cap : Nat) (xs : List Int) (h : BRow w a len xs) :
    (Extern.Bytes.bytesOf (.slice a len cap)).run P w = .ok ⟨(Lib.bytesOf xs).toArray⟩ w := by
  cases a with
  | none =>
    have h0 := h.2.2.1 rfl
    have hx : xs = [] := List.length_eq_zero_iff.1 (by rw [h.1]; exact h0)
    subst hx
    rfl
  | some x =>
    have hl := Lib.run_loadBytesX (P := P) w xs x .empty (fun j y hj => by
      have hjl : j < xs.length := (List.getElem?_eq_some_iff.1 hj).1
      rw [h.2.2.2 x rfl j (by rw [← h.1]; exact hjl), List.getD_eq_getElem?_getD, hj]
      rfl)
    rw [h.1] at hl
    show (Extern.Bytes.loadBytes x len .empty).run P w = _
    rw [hl]
    congr 1
    apply ByteArray.ext
    show (#[] : Array UInt8) ++ (Lib.bytesOf xs).toArray = (Lib.bytesOf xs).toArray
    simp

theorem run_compare {P : Program} (w : World) (a b : Option Addr) (la ca lb cb : Nat) (xs ys : List Int) (ha : BRow w a la xs) (hb : BRow w b lb ys) :
    (Extern.BytealgCompare.compare #[.slice a la ca, .slice b lb cb]).run P w = .ok (.int .i64 (Lib.compareBytes (Lib.bytesOf xs) (Lib.bytesOf ys))) w := by
  change Sem.run P (do pure (goInt (Extern.BytealgCompare.cmp (← Extern.Bytes.bytesOf (.slice a la ca)) (← Extern.Bytes.bytesOf (.slice b lb cb))))) w = _
  simp only [Sem.run_bind, run_bytesOf w a la ca xs ha, run_bytesOf w b lb cb ys hb, Sem.run_pure, Result.andThen]
  rw [Lib.cmp_eq]
  rfl

theorem l1Ahead_any (a b : Option Addr) (la ca lb cb : Nat) (xs ys : List Int) (w : World) (ha : BRow w a la xs) (hb : BRow w b lb ys) :
    Calls Tryz.prog 116 #[.slice a la ca, .slice b lb cb] w fun e w' => e = .returned (.bool (aheadB xs ys)) ∧ w' = w := by
  have h1 := conv_any (P := Tryz.prog) w 29 5 9 Tryz.underlying29 Tryz.underlying5 Tryz.underlying9 a la ca xs ha
  have h2 := conv_any (P := Tryz.prog) w 29 5 9 Tryz.underlying29 Tryz.underlying5 Tryz.underlying9 b lb cb ys hb
  clear ha hb
  go_enter Tryz.func116, Tryz.ntmps116
  go_wp2
  go_ret
  exact ⟨rfl, rfl⟩

theorem implAhead_any (a b : Option Addr) (la ca lb cb : Nat) (xs ys : List Int) (w : World) (ha : BRow w a la xs) (hb : BRow w b lb ys) :
    Calls Tryz.prog 188 #[.slice a la ca, .slice b lb cb] w fun e w' => e = .returned (.bool (aheadB xs ys)) ∧ w' = w := by
  have hr : (callFunc 210 #[.slice a la ca, .slice b lb cb]).run Tryz.prog w = .ok (.value (.int .i64 (Lib.compareBytes (Lib.bytesOf xs) (Lib.bytesOf ys)))) w := by
    rw [run_callFunc_extern (P := Tryz.prog) Tryz.func210 (by kernel_rfl) (by kernel_rfl) (by kernel_rfl) (e := Extern.BytealgCompare.compare) (by kernel_rfl), run_compare w a b la ca lb cb xs ys ha hb]
    rfl
  have e := less_of_compare (Lib.bytesOf xs) (Lib.bytesOf ys)
  rw [← Lib.strOfNums_toList, ← Lib.strOfNums_toList] at e
  rw [← Lib.strOfNums_toList, ← Lib.strOfNums_toList] at hr
  have HE := hide e
  clear ha hb e
  generalize Lib.compareBytes (strOfNums xs).toList (strOfNums ys).toList = c at hr HE
  go_enter Tryz.func188, Tryz.ntmps188
  go_wp2
  go_ret
  exact ⟨ret_bool (unhide HE), rfl⟩

end Go.Proofs.YtnmbdannipebnaaGreatDoor

/- What is proved here: plain facts on the fault of a list of signers; no program is named. -/
namespace Go.Proofs.YtnmbdannipebnaaGreatDoor
open Go.RowKit
set_option linter.unusedVariables false
set_option maxRecDepth 100000

/-- Whether the signer at a place has a fault: no address, or not behind the one ahead. -/
def sgBad (zss : List (List Int)) (k : Nat) (z : List Int) : Bool := z.length != 4 || (decide (0 < k) && !aheadB (zss.getD (k - 1) []) z)

/-- The first fault among the signers from a place on. -/
def sgFrom (zss : List (List Int)) : Nat → List (List Int) → Int
  | _, [] => 0
  | k, z :: r => if sgBad zss k z = true then 1 else sgFrom zss (k + 1) r

def sgFlt (zss : List (List Int)) : Int := if 7 < zss.length then 2 else sgFrom zss 0 zss

theorem sgFrom_step (zss : List (List Int)) (k : Nat) (z : List Int) (h : zss[k]? = some z) : sgFrom zss k (zss.drop k) = if sgBad zss k z = true then 1 else sgFrom zss (k + 1) (zss.drop (k + 1)) := by
  obtain ⟨hk, e⟩ := List.getElem?_eq_some_iff.1 h
  rw [List.drop_eq_getElem_cons hk, e]
  rfl

theorem sgFrom_end (zss : List (List Int)) (k : Nat) (h : zss.length ≤ k) : sgFrom zss k (zss.drop k) = 0 := by
  rw [List.drop_eq_nil_of_le h]; rfl

end Go.Proofs.YtnmbdannipebnaaGreatDoor
