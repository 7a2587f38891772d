/- What is proved here: what ConfigFault and IsCheckpoint answer, in the program and in the model; the laws' copy of a setting; how an argument that is a setting reads. -/
import Derived.Test.YtldiilmpmcbjkaaGreatDoorJ6
import Derived.Test.YtldiilmpmcbjkaaGreatDoorJ2
import Derived.WalkSmall
import Derived.Test.YtldiilmpmcbjkaaGreatDoorJ5
import Derived.Deep.DeepCutAuto
import Derived.Test.YtldiilmpmcbjkaaGreatDoorJ1
import Derived.OpenShut
import Derived.Laws.OwnMore
namespace Go.Proofs.YtldiilmpmcbjkaaGreatDoor
open Go.RowKit
set_option linter.unusedVariables false
set_option maxRecDepth 100000

/-- A setting: mode, period, epoch. -/
abbrev Cf := Int × Int × Int
def cfvals (x : Cf) : Array Value := #[.int .i64 x.1, .int .i64 x.2.1, .int .i64 x.2.2]

/-- The fault of a setting. -/
def cfFlt (x : Cf) : Int := if within x.1 1 2 = true ∧ within x.2.1 1 100 = true ∧ within x.2.2 1 100 = true then 0 else 3

/-- Whether a block is a checkpoint. -/
def cfCk (x : Cf) (n : Int) : Bool := decide (cfFlt x = 0) && within n 0 1099511627776 && decide (n % x.2.2 = 0)

theorem cf_field {H : Type} {enc : TypeId × Value → H} {w : World} {sp : Nat → Bool} {held : Bool} {t u : TypeId} {fs : Array Field} {fuel : Nat} {cs : List Value} {y : DataW H × List MemPlace} (ht : Tryz.prog.underlying t = some (.struct fs)) (h : DataW.trod enc Tryz.prog w 0 sp held fuel t cs = some y) (i : Nat) (f : Field) (hf : fs[i]? = some f) (hu : f.type = u) {o : Nat} (ho : f.offset = o) (ut : Tryz.prog.underlying u = some (.int .i64)) (hc : Tryz.prog.cellsOf u = 1) (hl : o + 1 ≤ cs.length) :
    ∃ n, (cs.drop o).take 1 = [.int .i64 n] := by
  obtain ⟨d, ps⟩ := y
  obtain ⟨xs, m, _, _, _, hxl, hfs⟩ := DataW.trod_struct ht h
  have g := hfs i f hf
  have hi : i < xs.length := by rw [hxl]; exact (Array.getElem?_eq_some_iff.1 hf).1
  rw [List.getElem?_eq_getElem hi, hu, ho, hc] at g
  have hl1 : ((cs.drop o).take 1).length = 1 := by rw [List.length_take, List.length_drop]; omega
  generalize (cs.drop o).take 1 = l at g hl1
  match l, hl1 with
  | [v], _ =>
    obtain ⟨n, rfl, hn⟩ := field_int ut g
    exact ⟨n, rfl⟩

theorem open_config {H : Type} {enc : TypeId × Value → H} {w : World} {sp : Nat → Bool} {held : Bool} {v : Value} {d : DataW H} {ps : List MemPlace} (hv : ∃ cs, v = .agg cs ∧ cs.size = Tryz.prog.cellsOf 23) (h : DataW.Trod enc Tryz.prog w 0 sp held 23 v d ps) :
    ∃ x, v = .agg (cfvals x) := by
  obtain ⟨cs, rfl, hs⟩ := hv
  obtain ⟨fuel, h⟩ := h
  have h' : DataW.trod enc Tryz.prog w 0 sp held fuel 23 cs.toList = some (d, ps) := h
  have h3 : Tryz.prog.cellsOf 23 = 3 := by kernel_rfl
  have hl : cs.toList.length = 3 := by rw [Array.length_toList, hs, h3]
  obtain ⟨m, q0⟩ := cf_field Tryz.underlying23 h' 0 _ rfl rfl (o := 0) rfl Tryz.underlying2 (by kernel_rfl) (by omega)
  obtain ⟨p, q1⟩ := cf_field Tryz.underlying23 h' 1 _ rfl rfl (o := 1) rfl Tryz.underlying2 (by kernel_rfl) (by omega)
  obtain ⟨e, q2⟩ := cf_field Tryz.underlying23 h' 2 _ rfl rfl (o := 2) rfl Tryz.underlying2 (by kernel_rfl) (by omega)
  refine ⟨(m, p, e), ?_⟩
  obtain ⟨l⟩ := cs
  match l, hl with
  | [a, b, c], _ =>
    simp at q0 q1 q2
    subst q0 q1 q2
    rfl

set_option maxHeartbeats 4000000 in
theorem toConfig_any (x : Cf) (w : World) : Calls Tryz.prog 17 #[.agg (cfvals x)] w fun r w' => r = .returned (.agg (cfvals x)) ∧ Below w.heap.size w w' := by
  obtain ⟨m, p, e⟩ := x
  unfold cfvals
  go_enter Tryz.func17, Tryz.ntmps17
  go_wp2
  refine bodyPost_ret (v := .agg #[.int .i64 m, .int .i64 p, .int .i64 e]) (by simp [results, Tryz.results17, go_sem]) rfl ⟨rfl, ?_⟩
  exact (((Below.refl _ _).alloc (Nat.le_refl _) _).alloc (by simp) _).alloc (by simp; omega) _

theorem isSpan_to (v : Int) (c : Bool) (w : World) (e : within v 1 100 = c) : Calls Tryz.prog 70 #[.int .i64 v] w fun e w' => e = .returned (.bool c) ∧ w' = w := by
  have HI := hide (isWithin_to v 1 100 c w e)
  clear e
  go_enter Tryz.func70, Tryz.ntmps70
  go_wp2_with fail
  refine (unhide HI).mono ?_
  rintro e w' ⟨rfl, rfl⟩
  go_wp2_with fail
  go_ret
  exact ⟨rfl, rfl⟩

theorem within_two {m : Int} : within m 1 2 = (m == 1 || m == 2) := by
  unfold within
  by_cases h : 1 ≤ m ∧ m ≤ 2
  · rw [decide_eq_true h]
    have : m = 1 ∨ m = 2 := by omega
    rcases this with rfl | rfl <;> rfl
  · rw [decide_eq_false h]
    have h1 : (m == 1) = false := by rw [beq_eq_false_iff_ne]; omega
    have h2 : (m == 2) = false := by rw [beq_eq_false_iff_ne]; omega
    rw [h1, h2]; rfl

set_option maxHeartbeats 4000000 in
theorem implConfigFault_any (x : Cf) (w : World) : Calls Tryz.prog 54 #[.agg (cfvals x)] w fun r w' => r = .returned (.int .i64 (cfFlt x)) ∧ Below w.heap.size w w' := by
  obtain ⟨m, p, e⟩ := x
  unfold cfvals cfFlt
  simp only
  rw [within_two]
  have HP := hide (fun W => isSpan_to p _ W rfl)
  have HE := hide (fun W => isSpan_to e _ W rfl)
  generalize within p 1 100 = bp at HP ⊢
  generalize within e 1 100 = be at HE ⊢
  obtain ⟨f, hf⟩ : ∃ f : Int, f = (if (m == 1 || m == 2) = true ∧ bp = true ∧ be = true then 0 else 3) := ⟨_, rfl⟩
  rw [← hf]
  have HF := hide hf
  clear hf
  have kr := SBlk.new w #[.int .i64 m, .int .i64 p, .int .i64 e] 32
  have bb := hide (below_alloc w (.cells #[.int .i64 m, .int .i64 p, .int .i64 e] 32))
  obtain ⟨W0, e0⟩ : ∃ W, w.alloc (.cells #[.int .i64 m, .int .i64 p, .int .i64 e] 32) = W := ⟨_, rfl⟩
  rw [e0] at kr bb
  have r0 := kr.cell 0
  have r1 := kr.cell 1
  have r2 := kr.cell 2
  simp only [List.getElem?_cons_zero, List.getElem?_cons_succ] at r0 r1 r2
  clear kr
  cases h1 : (m == 1) <;> cases h2 : (m == 2)
  · go_enter Tryz.func54, Tryz.ntmps54
    go_wp2_with (rw [e0])
    go_ret
    exact ⟨by rw [unhide HF]; simp [h1, h2], unhide bb⟩
  all_goals
    cases bp
    · go_enter Tryz.func54, Tryz.ntmps54
      go_wp2_with (rw [e0])
      refine ((unhide HP) _).mono ?_
      rintro r w1 ⟨rfl, rfl⟩
      go_wp2_with fail
      go_ret
      exact ⟨by rw [unhide HF]; simp [h1, h2], unhide bb⟩
    cases be
    all_goals
      go_enter Tryz.func54, Tryz.ntmps54
      go_wp2_with (rw [e0])
      refine ((unhide HP) _).mono ?_
      rintro r w1 ⟨rfl, rfl⟩
      go_wp2_with fail
      refine ((unhide HE) _).mono ?_
      rintro r w1 ⟨rfl, rfl⟩
      go_wp2_with fail
      go_ret
      exact ⟨by rw [unhide HF]; simp [h1, h2], unhide bb⟩

set_option maxHeartbeats 4000000 in
theorem l8Fault_any (g : Nat) (x : Cf) (T : TypeId) (w : World) (sb : SBlk w g (cfvals x).toList T) : Calls Tryz.prog 48 #[.pointer (some ⟨g, 0, none⟩)] w fun r w' => r = .returned (.int .i64 (cfFlt x)) ∧ w' = w := by
  obtain ⟨m, p, e⟩ := x
  have r0 := sb.cell 0
  have r1 := sb.cell 1
  have r2 := sb.cell 2
  simp only [cfvals, List.getElem?_cons_zero, List.getElem?_cons_succ] at r0 r1 r2
  clear sb
  unfold cfFlt
  simp only
  have HM := hide (fun W => in_any m 1 2 W)
  have HP := hide (fun W => in_any p 1 100 W)
  have HE := hide (fun W => in_any e 1 100 W)
  rw [show decide (1 ≤ m ∧ m ≤ 2) = within m 1 2 from rfl] at HM
  rw [show decide (1 ≤ p ∧ p ≤ 100) = within p 1 100 from rfl] at HP
  rw [show decide (1 ≤ e ∧ e ≤ 100) = within e 1 100 from rfl] at HE
  generalize within m 1 2 = bm at HM ⊢
  generalize within p 1 100 = bp at HP ⊢
  generalize within e 1 100 = be at HE ⊢
  obtain ⟨f, hf⟩ : ∃ f : Int, f = (if bm = true ∧ bp = true ∧ be = true then 0 else 3) := ⟨_, rfl⟩
  rw [← hf]
  have HF := hide hf
  clear hf
  cases bm
  · go_enter Tryz.func48, Tryz.ntmps48
    go_wp2_with fail
    refine ((unhide HM) _).mono ?_
    rintro r w1 ⟨rfl, rfl⟩
    go_wp2_with fail
    go_ret
    exact ⟨by rw [unhide HF]; simp, rfl⟩
  cases bp
  · go_enter Tryz.func48, Tryz.ntmps48
    go_wp2_with fail
    refine ((unhide HM) _).mono ?_
    rintro r w1 ⟨rfl, rfl⟩
    go_wp2_with fail
    refine ((unhide HP) _).mono ?_
    rintro r w1 ⟨rfl, rfl⟩
    go_wp2_with fail
    go_ret
    exact ⟨by rw [unhide HF]; simp, rfl⟩
  cases be
  all_goals
    go_enter Tryz.func48, Tryz.ntmps48
    go_wp2_with fail
    refine ((unhide HM) _).mono ?_
    rintro r w1 ⟨rfl, rfl⟩
    go_wp2_with fail
    refine ((unhide HP) _).mono ?_
    rintro r w1 ⟨rfl, rfl⟩
    go_wp2_with fail
    refine ((unhide HE) _).mono ?_
    rintro r w1 ⟨rfl, rfl⟩
    go_wp2_with fail
    go_ret
    exact ⟨by rw [unhide HF]; simp, rfl⟩

/-- What is known of a setting without a fault. -/
theorem cf_ok {x : Cf} (h : cfFlt x = 0) : (x.1 = 1 ∨ x.1 = 2) ∧ (1 ≤ x.2.1 ∧ x.2.1 ≤ 100) ∧ (1 ≤ x.2.2 ∧ x.2.2 ≤ 100) := by
  unfold cfFlt at h
  split at h
  · rename_i q
    obtain ⟨q1, q2, q3⟩ := q
    unfold within at q1 q2 q3
    have := of_decide_eq_true q1
    have := of_decide_eq_true q2
    have := of_decide_eq_true q3
    omega
  · omega

end Go.Proofs.YtldiilmpmcbjkaaGreatDoor

/- What is proved here: the contract of the laws' helper function markHeader: it writes into the header's own blocks alone. -/
namespace Go.Proofs.YtldiilmpmcbjkaaGreatDoor
open Go.RowKit
set_option linter.unusedVariables false
set_option maxRecDepth 100000

theorem BUpto.only {B C D : Nat} {w w' : World} (h : OnlyH B C w w') {g : Nat} {zss : List (List Int)} {k len : Nat} {T : TypeId} (hs : BUpto w g zss k len T D) (hg : C ≤ g) : BUpto w' g zss k len T D := by
  obtain ⟨vs, f, h1, h2, h3, h4, h5⟩ := hs
  refine ⟨vs, f, h.sblk h1 hg, h2, h3, h4, fun i z hi hz => ?_⟩
  obtain ⟨q1, q2⟩ := h5 i z hi hz
  exact ⟨q1, h.own q2 (by omega)⟩

/-- As HOwn, all below C. -/
def HOwnC (w : World) (B C : Nat) (x : HS) (h : Hd) : Prop :=
  ∃ g1 g2 g3 g4 g5 g6 g7 : Nat, x = ⟨⟨some ⟨g1, 0, none⟩, h.p.length, h.p.length⟩, ⟨some ⟨g2, 0, none⟩, h.t.length, h.t.length⟩, ⟨some ⟨g3, 0, none⟩, h.s.length, h.s.length⟩, ⟨some ⟨g4, 0, none⟩, h.r.length, h.r.length⟩, ⟨some ⟨g5, 0, none⟩, h.g.length, h.g.length⟩, ⟨some ⟨g6, 0, none⟩, h.e.length, h.e.length⟩, ⟨some ⟨g7, 0, none⟩, h.k.length, h.k.length⟩⟩ ∧
    (B ≤ g1 ∧ g1 < g2 ∧ g2 < g3 ∧ g3 < g4 ∧ g4 < g5 ∧ g5 < g6 ∧ g6 < g7 ∧ g7 < C) ∧
    w.ownsRow g1 5 1 (.slice (some ⟨g1, 0, none⟩) h.p.length h.p.length) h.p.length (h.p.map (Value.int .u8)) ∧
    w.ownsRow g2 5 1 (.slice (some ⟨g2, 0, none⟩) h.t.length h.t.length) h.t.length (h.t.map (Value.int .u8)) ∧
    OBss w g3 h.s 60 g4 ∧
    w.ownsRow g4 5 1 (.slice (some ⟨g4, 0, none⟩) h.r.length h.r.length) h.r.length (h.r.map (Value.int .u8)) ∧
    w.ownsRow g5 5 1 (.slice (some ⟨g5, 0, none⟩) h.g.length h.g.length) h.g.length (h.g.map (Value.int .u8)) ∧
    w.ownsRow g6 5 1 (.slice (some ⟨g6, 0, none⟩) h.e.length h.e.length) h.e.length (h.e.map (Value.int .u8)) ∧
    OBss w g7 h.k 60 C

theorem HOwn.c {w : World} {B : Nat} {x : HS} {h : Hd} (o : HOwn w B x h) : HOwnC w B w.heap.size x h := by
  obtain ⟨g1, g2, g3, g4, g5, g6, g7, e, ⟨a1, a2, a3, a4, a5, a6, a7⟩, o1, o2, o3, o4, o5, o6, o7⟩ := o
  exact ⟨g1, g2, g3, g4, g5, g6, g7, e, ⟨a1, a2, a3, a4, a5, a6, a7, BUpto.lt o7⟩, o1, o2, o3, o4, o5, o6, o7⟩

theorem HOwnC.below {w w' : World} {B C D : Nat} {x : HS} {h : Hd} (o : HOwnC w B C x h) (hb : Below D w w') (hD : w.heap.size ≤ D) : HOwnC w' B C x h := by
  obtain ⟨g1, g2, g3, g4, g5, g6, g7, e, a, o1, o2, o3, o4, o5, o6, o7⟩ := o
  exact ⟨g1, g2, g3, g4, g5, g6, g7, e, a, own_below o1 hb hD, own_below o2 hb hD, BUpto.below o3 hb hD, own_below o4 hb hD, own_below o5 hb hD, own_below o6 hb hD, BUpto.below o7 hb hD⟩

end Go.Proofs.YtldiilmpmcbjkaaGreatDoor

/- What is proved here: plain facts on slices of items in a world, and how an argument that is such a slice reads; they hold for every program. -/
namespace Go.Proofs.YtldiilmpmcbjkaaGreatDoor
open Go.RowKit
set_option linter.unusedVariables false
set_option maxRecDepth 100000

/-- An item: whether it is a list, its parent, its bytes. -/
structure It where
  l : Bool
  p : Int
  z : List Int

/-- The item 'it' lies at three cells. -/
def ItAt (w : World) (b o : Nat) (it : It) : Prop :=
  ∃ sa sl sc, w.cell? ⟨b, o, none⟩ = some (.bool it.l) ∧ w.cell? ⟨b, o + 1, none⟩ = some (.int .i64 it.p) ∧ w.cell? ⟨b, o + 2, none⟩ = some (.slice sa sl sc) ∧ BRow w sa sl it.z

/-- What the numbers of an item keep to. -/
def ItOk (it : It) : Prop := -9223372036854775808 ≤ it.p ∧ it.p ≤ 9223372036854775807 ∧ it.z.length ≤ maxLen

/-- The slice 'a', of 'len' items, reads as 'its'. -/
def ItRow (w : World) (a : Option Addr) (len : Nat) (its : List It) : Prop :=
  its.length = len ∧ (∀ it ∈ its, ItOk it) ∧ (0 < len → ∃ b off, a = some ⟨b, off, none⟩ ∧ ∀ i it, its[i]? = some it → ItAt w b (off + i * 3) it)

theorem ItAt.lt {w : World} {b o : Nat} {it : It} (h : ItAt w b o it) : b < w.heap.size := by
  obtain ⟨_, _, _, h, _⟩ := h
  exact lt_of_cell h

theorem ItAt.below {w w' : World} {b o : Nat} {it : It} (h : ItAt w b o it) {B : Nat} (hb : Below B w w') (hB : w.heap.size ≤ B) : ItAt w' b o it := by
  have hl := Nat.lt_of_lt_of_le h.lt hB
  obtain ⟨sa, sl, sc, h1, h2, h3, h4⟩ := h
  exact ⟨sa, sl, sc, (hb.cell hl).trans h1, (hb.cell hl).trans h2, (hb.cell hl).trans h3, h4.below hb hB⟩

theorem ItRow.below {w w' : World} {a : Option Addr} {len : Nat} {its : List It} (h : ItRow w a len its) {B : Nat} (hb : Below B w w') (hB : w.heap.size ≤ B) : ItRow w' a len its := by
  refine ⟨h.1, h.2.1, fun hp => ?_⟩
  obtain ⟨b, off, e, k⟩ := h.2.2 hp
  exact ⟨b, off, e, fun i it hi => (k i it hi).below hb hB⟩

theorem ItRow.at {w : World} {a : Option Addr} {len : Nat} {its : List It} (h : ItRow w a len its) (hp : 0 < len) :
    ∃ b off, a = some ⟨b, off, none⟩ ∧ b < w.heap.size ∧ ∀ i it, its[i]? = some it → ItAt w b (off + i * 3) it := by
  obtain ⟨b, off, e, k⟩ := h.2.2 hp
  refine ⟨b, off, e, ?_, k⟩
  have hl : 0 < its.length := by rw [h.1]; exact hp
  exact (k 0 its[0] (List.getElem?_eq_getElem hl)).lt

theorem ItRow.bytes {w : World} {a : Option Addr} {len : Nat} {its : List It} (h : ItRow w a len its) : ∀ it ∈ its, ∀ x ∈ it.z, 0 ≤ x ∧ x ≤ 255 := by
  intro it hit
  obtain ⟨i, hi⟩ := List.getElem?_of_mem hit
  have hl := (List.getElem?_eq_some_iff.1 hi).1
  obtain ⟨b, off, _, k⟩ := h.2.2 (by rw [← h.1]; omega)
  obtain ⟨_, _, _, _, _, _, hb⟩ := k i it hi
  exact hb.2.1

theorem add_add (x : Addr) (hx : x.spot = none) (i j : Nat) : (x.add i).add j = ⟨x.block, x.off + i + j, none⟩ := by
  obtain ⟨b, o, s⟩ := x
  simp only at hx
  subst hx
  rw [add_none, add_none]

/-- How an argument that is a slice of items reads. -/
theorem open_items {H : Type} {enc : TypeId × Value → H} {P : Program} {w : World} {sp : Nat → Bool} {held : Bool} {t e tb ti ts tu : TypeId} {fs : Array Field} {f0 f1 f2 : Field} {v : Value} {d : DataW H} {ps : List MemPlace}
    (ht : P.underlying t = some (.slice e)) (he : P.underlying e = some (.struct fs)) (hc : P.cellsOf e = 3)
    (h0 : fs[0]? = some f0) (h1 : fs[1]? = some f1) (h2 : fs[2]? = some f2)
    (o0 : f0.offset = 0) (o1 : f1.offset = 1) (o2 : f2.offset = 2) (t0 : f0.type = tb) (t1 : f1.type = ti) (t2 : f2.type = ts)
    (c0 : P.cellsOf tb = 1) (c1 : P.cellsOf ti = 1) (c2 : P.cellsOf ts = 1) (cu : P.cellsOf tu = 1)
    (ub : P.underlying tb = some .bool) (ui : P.underlying ti = some (.int .i64)) (us : P.underlying ts = some (.slice tu)) (uu : P.underlying tu = some (.int .u8))
    (hv : ∃ a len cap, v = .slice a len cap) (h : DataW.Trod enc P w 0 sp held t v d ps) : ∃ a len cap its, v = .slice a len cap ∧ len ≤ maxLen ∧ ItRow w a len its := by
  obtain ⟨a, len, cap, rfl⟩ := hv
  obtain ⟨fuel, h⟩ := h
  rcases DataW.trod_slice ht h with ⟨hn, _⟩ | ⟨x, len', cap', elems, rest, n, _, hcs, _, _, hl, hm, hlen, hel, _⟩
  · have hn' : [Value.slice a len cap] = [Value.slice none 0 0] := hn
    simp only [List.cons.injEq, Value.slice.injEq, and_true] at hn'
    obtain ⟨rfl, rfl, rfl⟩ := hn'
    exact ⟨none, 0, 0, [], rfl, Nat.zero_le _, rfl, fun it hi => by simp at hi, fun hp => absurd hp (Nat.lt_irrefl _)⟩
  · have hcs' : [Value.slice a len cap] = [Value.slice (some x) len' cap'] := hcs
    simp only [List.cons.injEq, Value.slice.injEq, and_true] at hcs'
    obtain ⟨rfl, rfl, rfl⟩ := hcs'
    have each : ∀ i, i < len → ∃ it : It, ItOk it ∧ x.spot = none ∧ ItAt w x.block (x.off + i * 3) it := by
      intro i hi
      have hE := hel i hi
      have hi' : i < elems.length := by omega
      rw [List.getElem?_eq_getElem hi', Option.bind_eq_some_iff, hc] at hE
      obtain ⟨cs, hcells, htr⟩ := hE
      obtain ⟨_, hcl, hcell⟩ := World.cells?_some hcells
      obtain ⟨xs, m, _, _, _, hxl, hf⟩ := DataW.trod_struct he htr
      have hs3 : 3 ≤ xs.length := by
        rw [hxl]
        have := (Array.getElem?_eq_some_iff.1 h2).1
        omega
      have g0 := hf 0 f0 h0
      have g1 := hf 1 f1 h1
      have g2 := hf 2 f2 h2
      rw [List.getElem?_eq_getElem (by omega)] at g0 g1 g2
      rw [t0, o0, c0] at g0
      rw [t1, o1, c1] at g1
      rw [t2, o2, c2] at g2
      obtain ⟨bl, e0, _⟩ := DataW.trod_bool ub g0
      obtain ⟨pn, e1, _, hwf⟩ := DataW.trod_int ui g1
      match cs, hcl with
      | [x0, x1, x2], _ =>
        simp only [List.drop_zero, List.drop_succ_cons, List.take_succ_cons, List.take_zero, List.cons.injEq, and_true] at e0 e1 g2
        subst e0 e1
        have k0 : w.cell? ((x.add (i * 3)).add 0) = some (.bool bl) := hcell 0 (by omega)
        have k1 : w.cell? ((x.add (i * 3)).add 1) = some (.int .i64 pn) := hcell 1 (by omega)
        have k2 : w.cell? ((x.add (i * 3)).add 2) = some x2 := hcell 2 (by omega)
        have hsp : x.spot = none := by
          have hk := World.cell?_spot k0
          by_cases hi0 : i * 3 = 0
          · simpa [Addr.add, hi0] using hk
          · cases i with
            | zero => simp at hi0
            | succ j =>
              have hE0 := hel 0 (by omega)
              rw [List.getElem?_eq_getElem (by omega), Option.bind_eq_some_iff, hc] at hE0
              obtain ⟨cs0, hcells0, _⟩ := hE0
              obtain ⟨_, hcl0, hcell0⟩ := World.cells?_some hcells0
              have q := hcell0 0 (by omega)
              rw [List.getElem?_eq_getElem (by omega)] at q
              simpa [Addr.add] using World.cell?_spot q
        rw [add_add x hsp] at k0 k1 k2
        have hb := bounds_i64 hwf
        rcases ChangeShapes.open_ints us uu cu g2 with ⟨e2, _⟩ | ⟨sa, sl, sc, zs, e2, _, hsl, hsm, hzl, _, hzc, hzw⟩
        · simp only [List.cons.injEq, and_true] at e2
          subst e2
          exact ⟨⟨bl, pn, []⟩, ⟨hb.1, hb.2, Nat.zero_le _⟩, hsp, none, 0, 0, k0, k1, k2, rfl, fun n hn => by simp at hn, fun _ => rfl, fun y hy => by cases hy⟩
        · simp only [List.cons.injEq, and_true] at e2
          subst e2
          have hzl' : sl ≤ zs.length := by rw [hzl]; split <;> omega
          refine ⟨⟨bl, pn, zs.take sl⟩, ⟨hb.1, hb.2, by simp; omega⟩, hsp, some sa, sl, sc, k0, k1, k2, by simp; omega, fun n hn => ?_, (fun e => (by cases e)), fun y hy j hj => ?_⟩
          · exact bounds_u8 (hzw n (List.mem_of_mem_take hn))
          · cases hy
            rw [hzc j (by omega), getD_at _ j (by omega), getD_at _ j (by simp; omega), List.getElem_take]
    have build : ∀ m, m ≤ len → ∃ its : List It, its.length = m ∧ (∀ it ∈ its, ItOk it) ∧ ∀ i it, its[i]? = some it → ItAt w x.block (x.off + i * 3) it := by
      intro m
      induction m with
      | zero => intro _; exact ⟨[], rfl, fun it hi => by simp at hi, fun i it hi => by simp at hi⟩
      | succ m ih =>
        intro hm'
        obtain ⟨its, q1, q2, q3⟩ := ih (by omega)
        obtain ⟨it, r1, _, r2⟩ := each m (by omega)
        refine ⟨its ++ [it], by simp [q1], fun y hy => ?_, fun i y hy => ?_⟩
        · rcases List.mem_append.1 hy with h' | h'
          · exact q2 y h'
          · simp at h'; subst h'; exact r1
        · rcases Nat.lt_or_ge i m with h' | h'
          · rw [List.getElem?_append_left (by omega)] at hy
            exact q3 i y hy
          · have hi : i < (its ++ [it]).length := (List.getElem?_eq_some_iff.1 hy).1
            simp at hi
            obtain rfl : i = m := by omega
            rw [List.getElem?_append_right (by omega), q1, Nat.sub_self] at hy
            simp at hy
            subst hy
            exact r2
    obtain ⟨its, q1, q2, q3⟩ := build len (Nat.le_refl _)
    refine ⟨some x, len, cap, its, rfl, Nat.le_trans hl hm, q1, q2, fun hp => ⟨x.block, x.off, ?_, q3⟩⟩
    obtain ⟨_, _, hsp, _⟩ := each 0 hp
    obtain ⟨b, o, s⟩ := x
    simp only at hsp
    subst hsp
    rfl

end Go.Proofs.YtldiilmpmcbjkaaGreatDoor

/- What is proved here: plain facts on lists of items: how great they are, and whether two are the same; no program is named. -/
namespace Go.Proofs.YtldiilmpmcbjkaaGreatDoor
open Go.RowKit
set_option linter.unusedVariables false
set_option maxRecDepth 100000

/-- What is left of a number behind the bytes of items: below 0 at the first time: -1. -/
def szIts : Int → List It → Int
  | left, [] => left
  | left, it :: r => if left - it.z.length < 0 then -1 else szIts (left - it.z.length) r

def szAll (left : Int) (its : List It) : Int := if left - its.length < 0 then -1 else szIts (left - its.length) its

/-- All bytes of items. -/
def bytesOf (its : List It) : Nat := (its.map fun it => it.z.length).sum

theorem szIts_bd (its : List It) : ∀ left, 0 ≤ left → szIts left its ≤ left := by
  induction its with
  | nil => intro left _; exact Int.le_refl _
  | cons it r ih =>
    intro left h
    unfold szIts
    split
    · omega
    · exact Int.le_trans (ih _ (by omega)) (by omega)

theorem szIts_ge (its : List It) : ∀ left, 0 ≤ left → -1 ≤ szIts left its := by
  induction its with
  | nil => intro left h; unfold szIts; omega
  | cons it r ih =>
    intro left h
    unfold szIts
    split
    · omega
    · exact ih _ (by omega)

theorem szIts_sum (its : List It) : ∀ left, 0 ≤ szIts left its → (bytesOf its : Int) ≤ left := by
  induction its with
  | nil => intro left h; simpa [szIts, bytesOf] using h
  | cons it r ih =>
    intro left h
    unfold szIts at h
    split at h
    · omega
    · have := ih _ h
      simp [bytesOf] at this ⊢
      omega

theorem bytesOf_mem {its : List It} {it : It} (h : it ∈ its) : it.z.length ≤ bytesOf its := by
  induction its with
  | nil => simp at h
  | cons a r ih =>
    rcases List.mem_cons.1 h with e | e
    · subst e; simp [bytesOf]
    · have := ih e; simp [bytesOf] at this ⊢; omega

theorem szAll_ok {left : Int} {its : List It} (h : 0 ≤ szAll left its) : (its.length : Int) + bytesOf its ≤ left := by
  unfold szAll at h
  split at h
  · omega
  · have := szIts_sum its _ h
    omega

theorem szAll_le (left : Int) (its : List It) (h : 0 ≤ left) : szAll left its ≤ left := by
  unfold szAll
  split
  · omega
  · exact Int.le_trans (szIts_bd its _ (by omega)) (by omega)

/-- One item more. -/
theorem szIts_step (its : List It) (k : Nat) (it : It) (left : Int) (h : its[k]? = some it) : szIts left (its.drop k) = if left - it.z.length < 0 then -1 else szIts (left - it.z.length) (its.drop (k + 1)) := by
  obtain ⟨hk, e⟩ := List.getElem?_eq_some_iff.1 h
  rw [List.drop_eq_getElem_cons hk, e]
  rfl

/-- Whether two items, two lists of them, are the same. -/
def sameIt (a b : It) : Bool := a.l == b.l && a.p == b.p && sameB a.z b.z
def sameIts : List It → List It → Bool
  | [], [] => true
  | a :: ar, b :: bs => sameIt a b && sameIts ar bs
  | _, _ => false

theorem sameIt_self (a : It) : sameIt a a = true := by simp [sameIt, sameB]

theorem sameIts_self (a : List It) : sameIts a a = true := by
  induction a with
  | nil => rfl
  | cons a r ih => simp [sameIts, sameIt_self, ih]

theorem sameIts_length : ∀ (a b : List It), sameIts a b = true → a.length = b.length
  | [], [], _ => rfl
  | [], _ :: _, h => by simp [sameIts] at h
  | _ :: _, [], h => by simp [sameIts] at h
  | a :: ar, b :: bs, h => by
    simp [sameIts] at h
    simp [sameIts_length ar bs h.2]

theorem sameIts_step (a b : List It) (k : Nat) (x y : It) (hx : a[k]? = some x) (hy : b[k]? = some y) : sameIts (a.drop k) (b.drop k) = (sameIt x y && sameIts (a.drop (k + 1)) (b.drop (k + 1))) := by
  obtain ⟨h1, e1⟩ := List.getElem?_eq_some_iff.1 hx
  obtain ⟨h2, e2⟩ := List.getElem?_eq_some_iff.1 hy
  rw [List.drop_eq_getElem_cons h1, List.drop_eq_getElem_cons h2, e1, e2]
  rfl

theorem sameIts_end (a b : List It) (k : Nat) (h1 : a.length = k) (h2 : b.length = k) : sameIts (a.drop k) (b.drop k) = true := by
  rw [List.drop_eq_nil_of_le (by omega), List.drop_eq_nil_of_le (by omega)]
  rfl

theorem sameIts_len (a b : List It) (h : a.length ≠ b.length) : sameIts a b = false := by
  rw [Bool.eq_false_iff]
  intro e
  exact h (sameIts_length a b e)

end Go.Proofs.YtldiilmpmcbjkaaGreatDoor

/- What is proved here: plain facts on slices of items that a call made itself: the block of the items, and a block of bytes for each; they hold for every program. -/
namespace Go.Proofs.YtldiilmpmcbjkaaGreatDoor
open Go.RowKit
set_option linter.unusedVariables false
set_option maxRecDepth 100000

/-- A block that holds these values, none of it frozen. -/
def VBlk (w : World) (g : Nat) (vs : List Value) (T : TypeId) : Prop := w.heap[g]? = some (.cells vs.toArray T (0, 0))

theorem VBlk.cell {w : World} {g : Nat} {vs : List Value} {T : TypeId} (h : VBlk w g vs T) (i : Nat) : w.cell? ⟨g, i, none⟩ = vs[i]? := by
  simp [World.cell?, show w.heap[g]? = _ from h]

theorem VBlk.free {w : World} {g : Nat} {vs : List Value} {T : TypeId} (h : VBlk w g vs T) (i : Nat) : w.frozen? ⟨g, i, none⟩ = false := frozen_of_row w g i _ T h

theorem VBlk.set {w : World} {g : Nat} {vs : List Value} {T : TypeId} (h : VBlk w g vs T) (i : Nat) (x : Value) : VBlk (w.setCell ⟨g, i, none⟩ x) g (vs.set i x) T := by
  have := heap_setCell_same w g i _ T x h
  unfold VBlk
  rw [this]
  simp

theorem VBlk.lt {w : World} {g : Nat} {vs : List Value} {T : TypeId} (h : VBlk w g vs T) : g < w.heap.size := lt_of_block h

theorem VBlk.below {w w' : World} {g C : Nat} {vs : List Value} {T : TypeId} (h : VBlk w g vs T) (hb : Below C w w') (hC : g < C) : VBlk w' g vs T := by
  unfold VBlk
  rw [hb.block g hC]
  exact h

theorem size_set (w : World) (a : Addr) (v : Value) : (w.setCell a v).heap.size = w.heap.size := by simp [World.setCell]

/-- Of the items 'its' the first k lie in the block g, each with its bytes in a block of its own, all these blocks rising. -/
def OUpto (w : World) (g : Nat) (its : List It) (k len : Nat) (T : TypeId) (C : Nat) : Prop :=
  ∃ (vs : List Value) (f : Nat → Nat), VBlk w g vs T ∧ vs.length = len * 3 ∧ (∀ i, i < k → g < f i ∧ f i < C) ∧ (∀ i j, i < j → j < k → f i < f j) ∧
    ∀ i it, i < k → its[i]? = some it → vs[i * 3]? = some (.bool it.l) ∧ vs[i * 3 + 1]? = some (.int .i64 it.p) ∧ vs[i * 3 + 2]? = some (.slice (some ⟨f i, 0, none⟩) it.z.length it.z.length) ∧
      w.ownsRow (g + 1) 5 1 (.slice (some ⟨f i, 0, none⟩) it.z.length it.z.length) it.z.length (it.z.map (Value.int .u8))

/-- All of them. -/
def OIts (w : World) (g : Nat) (its : List It) (T : TypeId) (C : Nat) : Prop := OUpto w g its its.length its.length T C

theorem OUpto.lt {w : World} {g : Nat} {its : List It} {k len : Nat} {T : TypeId} {C : Nat} (h : OUpto w g its k len T C) : g < w.heap.size := by
  obtain ⟨_, _, h, _⟩ := h
  exact h.lt

theorem OUpto.below {w w' : World} {g : Nat} {its : List It} {k len : Nat} {T : TypeId} {C : Nat} (h : OUpto w g its k len T C) {B : Nat} (hb : Below B w w') (hB : w.heap.size ≤ B) : OUpto w' g its k len T C := by
  obtain ⟨vs, f, h1, h2, h3, h4, h5⟩ := h
  refine ⟨vs, f, h1.below hb (Nat.lt_of_lt_of_le h1.lt hB), h2, h3, h4, fun i it hi hit => ?_⟩
  obtain ⟨q1, q2, q3, q4⟩ := h5 i it hi hit
  exact ⟨q1, q2, q3, own_below q4 hb hB⟩

theorem OUpto.zero {w : World} {g : Nat} {its : List It} {len : Nat} {T : TypeId} {vs : List Value} {C : Nat} (h : VBlk w g vs T) (hl : vs.length = len * 3) : OUpto w g its 0 len T C :=
  ⟨vs, fun _ => 0, h, hl, fun i hi => absurd hi (Nat.not_lt_zero _), fun i j _ hj => absurd hj (Nat.not_lt_zero _), fun i it hi => absurd hi (Nat.not_lt_zero _)⟩

/-- What is there at the place of the next one. -/
theorem OUpto.slot {w : World} {g : Nat} {its : List It} {k len : Nat} {T : TypeId} {C : Nat} (h : OUpto w g its k len T C) (hk : k < len) :
    (∃ u, w.cell? ⟨g, k * 3, none⟩ = some u) ∧ (∃ u, w.cell? ⟨g, k * 3 + 1, none⟩ = some u) ∧ (∃ u, w.cell? ⟨g, k * 3 + 2, none⟩ = some u) ∧ ∀ i, w.frozen? ⟨g, i, none⟩ = false := by
  obtain ⟨vs, f, h1, h2, _⟩ := h
  refine ⟨?_, ?_, ?_, fun i => h1.free i⟩
  all_goals
    rw [h1.cell]
    exact ⟨_, List.getElem?_eq_getElem (by omega)⟩

/-- One item more. -/
theorem OUpto.step {w w2 : World} {g m : Nat} {its : List It} {k len : Nat} {T : TypeId} {it : It} (h : OUpto w g its k len T w.heap.size) (hk : k < len) (hit : its[k]? = some it) (hb : Below w.heap.size w w2) (hm : w.heap.size ≤ m) (hm2 : m < w2.heap.size)
    (ho : w2.ownsRow (g + 1) 5 1 (.slice (some ⟨m, 0, none⟩) it.z.length it.z.length) it.z.length (it.z.map (Value.int .u8))) :
    OUpto (((w2.setCell ⟨g, k * 3, none⟩ (.bool it.l)).setCell ⟨g, k * 3 + 1, none⟩ (.int .i64 it.p)).setCell ⟨g, k * 3 + 2, none⟩ (.slice (some ⟨m, 0, none⟩) it.z.length it.z.length)) g its (k + 1) len T w2.heap.size := by
  have h' := h.below hb (Nat.le_refl _)
  have hgl := h.lt
  obtain ⟨vs, f, h1, h2, h3, h4, h5⟩ := h
  obtain ⟨q1, q2, q3⟩ : VBlk w2 g vs T ∧ (∀ i, i < k → f i < w.heap.size) ∧ True := ⟨h1.below hb h1.lt, fun i hi => (h3 i hi).2, trivial⟩
  have hlt : ∀ {B : Nat} {v : Value} {n : Nat} {xs : List Value} {W : World}, W.ownsRow (g + 1) 5 1 v n xs → ∀ i u, (W.setCell ⟨g, i, none⟩ u).ownsRow (g + 1) 5 1 v n xs := fun h i u => ownsRow_setCell_below h (Nat.lt_succ_self g) u
  refine ⟨((vs.set (k * 3) (.bool it.l)).set (k * 3 + 1) (.int .i64 it.p)).set (k * 3 + 2) (.slice (some ⟨m, 0, none⟩) it.z.length it.z.length), fun i => if i = k then m else f i, ((q1.set _ _).set _ _).set _ _, by simp [h2], fun i hi => ?_, fun i j hij hj => ?_, fun i jt hi hjt => ?_⟩
  · dsimp only
    split
    · exact ⟨by omega, hm2⟩
    · have := h3 i (by omega)
      exact ⟨this.1, Nat.lt_of_lt_of_le this.2 hb.size⟩
  · dsimp only
    rw [if_neg (by omega)]
    split
    · have := q2 i (by omega); omega
    · exact h4 i j hij (by omega)
  · dsimp only
    by_cases e : i = k
    · subst e
      rw [if_pos rfl]
      obtain rfl : jt = it := by rw [hit] at hjt; exact (Option.some.inj hjt).symm
      refine ⟨?_, ?_, ?_, hlt (B := 0) (hlt (B := 0) (hlt (B := 0) ho _ _) _ _) _ _⟩
      · rw [List.getElem?_set_ne (by omega), List.getElem?_set_ne (by omega), List.getElem?_set_self (by omega)]
      · rw [List.getElem?_set_ne (by omega), List.getElem?_set_self (by simp; omega)]
      · rw [List.getElem?_set_self (by simp; omega)]
    · rw [if_neg e]
      obtain ⟨p1, p2, p3, p4⟩ := h5 i jt (by omega) hjt
      refine ⟨?_, ?_, ?_, hlt (B := 0) (hlt (B := 0) (hlt (B := 0) (own_below p4 hb (Nat.le_refl _)) _ _) _ _) _ _⟩
      · rw [List.getElem?_set_ne (by omega), List.getElem?_set_ne (by omega), List.getElem?_set_ne (by omega)]; exact p1
      · rw [List.getElem?_set_ne (by omega), List.getElem?_set_ne (by omega), List.getElem?_set_ne (by omega)]; exact p2
      · rw [List.getElem?_set_ne (by omega), List.getElem?_set_ne (by omega), List.getElem?_set_ne (by omega)]; exact p3

/-- What is owned reads as items. -/
theorem OIts.row {w : World} {g : Nat} {its : List It} {T : TypeId} {C : Nat} (h : OIts w g its T C) (hok : ∀ it ∈ its, ItOk it) (hz : ∀ it ∈ its, ∀ x ∈ it.z, 0 ≤ x ∧ x ≤ 255) : ItRow w (some ⟨g, 0, none⟩) its.length its := by
  obtain ⟨vs, f, h1, h2, h3, h4, h5⟩ := h
  refine ⟨rfl, hok, fun _ => ⟨g, 0, rfl, fun i it hi => ?_⟩⟩
  have hil := (List.getElem?_eq_some_iff.1 hi).1
  obtain ⟨q1, q2, q3, q4⟩ := h5 i it hil hi
  refine ⟨some ⟨f i, 0, none⟩, it.z.length, it.z.length, ?_, ?_, ?_, BRow.own q4 (hz it (List.mem_of_getElem? hi))⟩
  all_goals
    rw [h1.cell]
    simpa using by assumption

end Go.Proofs.YtldiilmpmcbjkaaGreatDoor

/- What is proved here: slices of items whose empty bytes have no room: plain facts. -/
namespace Go.Proofs.YtldiilmpmcbjkaaGreatDoor
open Go.RowKit
set_option linter.unusedVariables false
set_option maxRecDepth 100000

/-- No item's bytes are a bare nil with some room. -/
def ItNil (w : World) (a : Option Addr) (len : Nat) : Prop := ∀ b off, a = some ⟨b, off, none⟩ → ∀ i, i < len → ∃ sa sl sc, w.cell? ⟨b, off + i * 3 + 2, none⟩ = some (.slice sa sl sc) ∧ (sa = none → sc = 0)

theorem ItNil.below {w w' : World} {a : Option Addr} {len : Nat} (h : ItNil w a len) {B : Nat} (hb : Below B w w') (hB : w.heap.size ≤ B) : ItNil w' a len := by
  intro b off e i hi
  obtain ⟨sa, sl, sc, hc, hn⟩ := h b off e i hi
  exact ⟨sa, sl, sc, (hb.cell (Nat.lt_of_lt_of_le (lt_of_cell hc) hB)).trans hc, hn⟩

def ItRowN (w : World) (a : Option Addr) (len : Nat) (its : List It) : Prop := ItRow w a len its ∧ ItNil w a len

theorem ItRowN.below {w w' : World} {a : Option Addr} {len : Nat} {its : List It} (h : ItRowN w a len its) {B : Nat} (hb : Below B w w') (hB : w.heap.size ≤ B) : ItRowN w' a len its := ⟨h.1.below hb hB, h.2.below hb hB⟩

theorem OIts.nilOk {w : World} {g : Nat} {its : List It} {T : TypeId} {C : Nat} (h : OIts w g its T C) : ItNil w (some ⟨g, 0, none⟩) its.length := by
  obtain ⟨vs, f, h1, h2, h3, h4, h5⟩ := h
  intro b off e i hi
  simp only [Option.some.injEq, Addr.mk.injEq, and_true] at e
  obtain ⟨rfl, rfl⟩ := e
  obtain ⟨_, _, q3, _⟩ := h5 i _ hi (List.getElem?_eq_getElem hi)
  exact ⟨_, _, _, by rw [h1.cell, Nat.zero_add]; exact q3, fun e => by cases e⟩

/-- One item of a row, its bytes no bare nil with some room. -/
theorem ItRowN.at {w : World} {a : Option Addr} {len : Nat} {its : List It} (h : ItRowN w a len its) (hp : 0 < len) :
    ∃ b off, a = some ⟨b, off, none⟩ ∧ b < w.heap.size ∧ ∀ i it, its[i]? = some it → ∃ sa sc, w.cell? ⟨b, off + i * 3, none⟩ = some (.bool it.l) ∧ w.cell? ⟨b, off + i * 3 + 1, none⟩ = some (.int .i64 it.p) ∧ w.cell? ⟨b, off + i * 3 + 2, none⟩ = some (.slice sa it.z.length sc) ∧ BRow w sa it.z.length it.z ∧ (sa = none → sc = 0) := by
  obtain ⟨b, off, e, hb, k⟩ := h.1.at hp
  refine ⟨b, off, e, hb, fun i it hi => ?_⟩
  obtain ⟨sa, sl, sc, c0, c1, c2, hr⟩ := k i it hi
  have hil : i < len := by rw [← h.1.1]; exact (List.getElem?_eq_some_iff.1 hi).1
  obtain ⟨sa', sl', sc', hc, hn⟩ := h.2 b off e i hil
  rw [c2] at hc
  simp only [Option.some.injEq, Value.slice.injEq] at hc
  obtain ⟨rfl, rfl, rfl⟩ := hc
  have := hr.1
  subst this
  exact ⟨sa, sc, c0, c1, c2, hr, hn⟩

/-- Rows of other elements lie in other blocks. -/
theorem own_apart {w : World} {B B' s s' n n' : Nat} {e e' : TypeId} {v v' : Value} {xs xs' : List Value} (h : w.ownsRow B e s v n xs) (h' : w.ownsRow B' e' s' v' n' xs') (he : e ≠ e') : ∀ g, v'.ownBlock = some g → some g ≠ v.ownBlock := by
  intro g hg heq
  rcases h.2 with ⟨q, _⟩ | ⟨b, cap, cur, q, _, hb, _⟩
  · rw [q] at heq; simp [Value.ownBlock] at heq
  · rcases h'.2 with ⟨q', _⟩ | ⟨b', cap', cur', q', _, hb', _⟩
    · rw [q'] at hg; simp [Value.ownBlock] at hg
    · rw [q] at heq; rw [q'] at hg
      simp [Value.ownBlock] at heq hg
      subst hg
      subst heq
      rw [hb] at hb'
      simp at hb'
      exact he hb'.2

end Go.Proofs.YtldiilmpmcbjkaaGreatDoor

/- What is proved here: items that a call makes one by one: a row of three cells an item, each with bytes of its own, kept while the row grows and other memory is written. -/
namespace Go.Proofs.YtldiilmpmcbjkaaGreatDoor
open Go.RowKit
set_option linter.unusedVariables false
set_option maxRecDepth 100000

/-- The cells of items whose bytes lie in the given slices. -/
def cellsOf : List It → List Value → List Value
  | [], _ => []
  | it :: its, v :: vs => .bool it.l :: .int .i64 it.p :: v :: cellsOf its vs
  | _ :: _, [] => []

theorem cellsOf_length : ∀ (its : List It) (vs : List Value), vs.length = its.length → (cellsOf its vs).length = its.length * 3
  | [], _, _ => rfl
  | it :: its, v :: vs, h => by
    have := cellsOf_length its vs (by simpa using h)
    simp [cellsOf, this]
    omega
  | _ :: _, [], h => by simp at h

theorem cellsOf_snoc : ∀ (its : List It) (vs : List Value) (it : It) (v : Value), vs.length = its.length → cellsOf (its ++ [it]) (vs ++ [v]) = cellsOf its vs ++ [.bool it.l, .int .i64 it.p, v]
  | [], [], it, v, _ => rfl
  | x :: its, u :: vs, it, v, h => by
    have := cellsOf_snoc its vs it v (by simpa using h)
    simp [cellsOf, this]
  | [], _ :: _, _, _, h => by simp at h
  | _ :: _, [], _, _, h => by simp at h

theorem cellsOf_at : ∀ (its : List It) (vs : List Value) (i : Nat) (it : It) (v : Value), vs.length = its.length → its[i]? = some it → vs[i]? = some v →
    (cellsOf its vs)[i * 3]? = some (.bool it.l) ∧ (cellsOf its vs)[i * 3 + 1]? = some (.int .i64 it.p) ∧ (cellsOf its vs)[i * 3 + 2]? = some v
  | [], _, i, it, v, _, h, _ => by simp at h
  | _ :: _, [], _, _, _, h, _, _ => by simp at h
  | x :: its, u :: vs, 0, it, v, h, h1, h2 => by
    simp at h1 h2
    subst h1 h2
    exact ⟨rfl, rfl, rfl⟩
  | x :: its, u :: vs, i + 1, it, v, h, h1, h2 => by
    have := cellsOf_at its vs i it v (by simpa using h) (by simpa using h1) (by simpa using h2)
    rw [show (i + 1) * 3 = i * 3 + 1 + 1 + 1 by omega, show i * 3 + 1 + 1 + 1 + 1 = i * 3 + 1 + 1 + 1 + 1 from rfl]
    simpa [cellsOf] using this

/-- Items that were made: their row, and the bytes of each, all behind a block B. -/
def MkR (W : World) (B : Nat) (v : Value) (n : Nat) (its : List It) : Prop :=
  its.length = n ∧ (∀ it ∈ its, ItOk it ∧ it.z.length ≤ 1000 ∧ ∀ x ∈ it.z, 0 ≤ x ∧ x ≤ 255) ∧ ∃ vs : List Value, vs.length = its.length ∧ W.ownsRow B 160 3 v n (cellsOf its vs) ∧
    ∀ (i : Nat) (it : It) (u : Value), its[i]? = some it → vs[i]? = some u → W.ownsRow B 5 1 u it.z.length (it.z.map (Value.int .u8))

theorem MkR.nil (W : World) (B : Nat) : MkR W B (.slice none 0 0) 0 [] :=
  ⟨rfl, fun it h => by simp at h, [], rfl, World.ownsRow_nil _ _ _ _, fun i it u h _ => by simp at h⟩

theorem MkR.below {W W' : World} {B C n : Nat} {v : Value} {its : List It} (h : MkR W B v n its) (hb : Below C W W') (hC : W.heap.size ≤ C) : MkR W' B v n its := by
  obtain ⟨h1, h2, vs, h3, h4, h5⟩ := h
  exact ⟨h1, h2, vs, h3, own_below h4 hb hC, fun i it u hi hu => own_below (h5 i it u hi hu) hb hC⟩

/-- The source is written: nothing of it lies there. -/
theorem MkR.source {W W' : World} {B b n : Nat} {v : Value} {its : List It} (h : MkR W B v n its) (hg : W.grownBy W' (some b)) (hb : b < B) : MkR W' B v n its := by
  obtain ⟨h1, h2, vs, h3, h4, h5⟩ := h
  exact ⟨h1, h2, vs, h3, own_grown h4 hg (fun g e e2 => by have := (h4.lt g e).1; have := Option.some.inj e2; omega), fun i it u hi hu => own_grown (h5 i it u hi hu) hg (fun g e e2 => by have := ((h5 i it u hi hu).lt g e).1; have := Option.some.inj e2; omega)⟩

/-- One item more. -/
theorem MkR.snoc {W W' : World} {B n : Nat} {v v' u : Value} {its : List It} {vs : List Value} {it : It} (h1 : its.length = n) (h2 : ∀ it ∈ its, ItOk it ∧ it.z.length ≤ 1000 ∧ ∀ x ∈ it.z, 0 ≤ x ∧ x ≤ 255) (h3 : vs.length = its.length) (h4 : W.ownsRow B 160 3 v n (cellsOf its vs))
    (h5 : ∀ (i : Nat) (it : It) (u : Value), its[i]? = some it → vs[i]? = some u → W.ownsRow B 5 1 u it.z.length (it.z.map (Value.int .u8))) (hu : W.ownsRow B 5 1 u it.z.length (it.z.map (Value.int .u8))) (hok : ItOk it ∧ it.z.length ≤ 1000 ∧ ∀ x ∈ it.z, 0 ≤ x ∧ x ≤ 255)
    (hown : W'.ownsRow B 160 3 v' (n + 1) (cellsOf its vs ++ [.bool it.l, .int .i64 it.p, u])) (hg : W.grownBy W' v.ownBlock) : MkR W' B v' (n + 1) (its ++ [it]) := by
  have keep : ∀ {q : Value} {m : Nat} {xs : List Value}, W.ownsRow B 5 1 q m xs → W'.ownsRow B 5 1 q m xs := fun hq => own_grown hq hg (own_apart h4 hq (by decide))
  refine ⟨by simp [h1], fun x hx => ?_, vs ++ [u], by simp [h3], by rw [cellsOf_snoc its vs it u h3]; exact hown, fun i x q hi hq => ?_⟩
  · rcases List.mem_append.1 hx with hx | hx
    · exact h2 x hx
    · rw [List.mem_singleton.1 hx]; exact hok
  · by_cases hlt : i < its.length
    · rw [List.getElem?_append_left hlt] at hi
      rw [List.getElem?_append_left (by omega)] at hq
      exact keep (h5 i x q hi hq)
    · rw [List.getElem?_append_right (by omega)] at hi
      rw [List.getElem?_append_right (by omega)] at hq
      rw [h3] at hq
      cases hk : i - its.length with
      | zero =>
        rw [hk] at hi hq
        simp at hi hq
        subst hi hq
        exact keep hu
      | succ m => rw [hk] at hi; simp at hi

end Go.Proofs.YtldiilmpmcbjkaaGreatDoor

/- What is proved here: items that a call makes one by one, their bytes in slices that were there or in new ones: kept while the row grows. -/
namespace Go.Proofs.YtldiilmpmcbjkaaGreatDoor
open Go.RowKit
set_option linter.unusedVariables false
set_option maxRecDepth 100000

/-- The bytes z lie behind a slice that was there at w0, or in a row that the call owns. -/
def Src (w0 : World) (B : Nat) (W : World) (u : Value) (z : List Int) : Prop :=
  (∃ sa sl sc, u = .slice sa sl sc ∧ BRow w0 sa sl z ∧ (sa = none → sc = 0)) ∨ (W.ownsRow B 5 1 u z.length (z.map (Value.int .u8)) ∧ ∀ x ∈ z, 0 ≤ x ∧ x ≤ 255)

theorem Src.below {w0 W W' : World} {B C : Nat} {u : Value} {z : List Int} (h : Src w0 B W u z) (hb : Below C W W') (hC : W.heap.size ≤ C) : Src w0 B W' u z := by
  rcases h with h | ⟨h, hz⟩
  · exact .inl h
  · exact .inr ⟨own_below h hb hC, hz⟩

theorem Src.grown {w0 W W' : World} {B B' s n : Nat} {e : TypeId} {u v : Value} {z : List Int} {xs : List Value} (h : Src w0 B W u z) (hv : W.ownsRow B' e s v n xs) (he : e ≠ 5) (hg : W.grownBy W' v.ownBlock) : Src w0 B W' u z := by
  rcases h with h | ⟨h, hz⟩
  · exact .inl h
  · exact .inr ⟨own_grown h hg (own_apart hv h he), hz⟩

/-- What a source reads as. -/
theorem Src.reads {w0 W : World} {B : Nat} {u : Value} {z : List Int} (h : Src w0 B W u z) (hb : Below B w0 W) (hB : w0.heap.size ≤ B) : ∃ sa sl sc, u = .slice sa sl sc ∧ BRow W sa sl z ∧ (sa = none → sc = 0) := by
  rcases h with ⟨sa, sl, sc, rfl, hr, hn⟩ | ⟨h, hz⟩
  · exact ⟨sa, sl, sc, rfl, hr.below hb hB, hn⟩
  · obtain ⟨sa, sc, rfl⟩ := own_shape h
    refine ⟨sa, z.length, sc, rfl, BRow.own2 h hz, fun e => ?_⟩
    subst e
    rcases h.2 with ⟨q, _⟩ | ⟨g, cap, cur, q, _⟩
    · simp only [Value.slice.injEq] at q; exact q.2.2
    · simp at q

/-- Items that were made. -/
def HkR (w0 : World) (B : Nat) (W : World) (v : Value) (n : Nat) (its : List It) : Prop :=
  its.length = n ∧ (∀ it ∈ its, ItOk it) ∧ Below B w0 W ∧ ∃ vs : List Value, vs.length = its.length ∧ W.ownsRow B 160 3 v n (cellsOf its vs) ∧ ∀ (i : Nat) (it : It) (u : Value), its[i]? = some it → vs[i]? = some u → Src w0 B W u it.z

theorem HkR.below {w0 W W' : World} {B C n : Nat} {v : Value} {its : List It} (h : HkR w0 B W v n its) (hb : Below C W W') (hC : W.heap.size ≤ C) (hB : B ≤ W.heap.size) : HkR w0 B W' v n its := by
  obtain ⟨h1, h2, hb0, vs, h3, h4, h5⟩ := h
  exact ⟨h1, h2, hb0.trans (hb.mono (by omega)), vs, h3, own_below h4 hb hC, fun i it u hi hu => (h5 i it u hi hu).below hb hC⟩

/-- One item more. -/
theorem HkR.snoc {w0 W W' : World} {B n : Nat} {v v' u : Value} {its : List It} {it : It} {vs : List Value} (h1 : its.length = n) (h2 : ∀ it ∈ its, ItOk it) (hb0 : Below B w0 W) (h3 : vs.length = its.length) (h4 : W.ownsRow B 160 3 v n (cellsOf its vs)) (h5 : ∀ (i : Nat) (it : It) (u : Value), its[i]? = some it → vs[i]? = some u → Src w0 B W u it.z)
    (hB : B ≤ W.heap.size) (hu : Src w0 B W u it.z) (hok : ItOk it) (hown : W'.ownsRow B 160 3 v' (n + 1) (cellsOf its vs ++ [.bool it.l, .int .i64 it.p, u])) (hg : W.grownBy W' v.ownBlock) : HkR w0 B W' v' (n + 1) (its ++ [it]) := by
  refine ⟨by simp [h1], fun x hx => ?_, hb0.grown hg hB (fun q e => (h4.lt q e).1), vs ++ [u], by simp [h3], by rw [cellsOf_snoc its vs it u h3]; exact hown, fun i x q hi hq => ?_⟩
  · rcases List.mem_append.1 hx with hx | hx
    · exact h2 x hx
    · rw [List.mem_singleton.1 hx]; exact hok
  · by_cases hlt : i < its.length
    · rw [List.getElem?_append_left hlt] at hi
      rw [List.getElem?_append_left (by omega)] at hq
      exact (h5 i x q hi hq).grown h4 (by decide) hg
    · rw [List.getElem?_append_right (by omega)] at hi
      rw [List.getElem?_append_right (by omega)] at hq
      rw [h3] at hq
      cases hk : i - its.length with
      | zero =>
        rw [hk] at hi hq
        simp at hi hq
        subst hi hq
        exact hu.grown h4 (by decide) hg
      | succ m => rw [hk] at hi; simp at hi

/-- What was made reads as items. -/
theorem HkR.row {w0 W : World} {B n cap : Nat} {a : Option Addr} {its : List It} (h : HkR w0 B W (.slice a n cap) n its) (hB : w0.heap.size ≤ B) : ItRowN W a n its := by
  obtain ⟨h1, h2, hb0, vs, h3, h4, h5⟩ := h
  have key0 : ∀ (i : Nat) (it : It), its[i]? = some it → ∃ u, vs[i]? = some u := fun i it hi => ⟨_, List.getElem?_eq_getElem (by have := (List.getElem?_eq_some_iff.1 hi).1; omega)⟩
  refine ⟨⟨h1, h2, fun hp => ?_⟩, fun b off e i hi => ?_⟩
  · obtain ⟨g, c, e⟩ := own_some h4 hp
    cases e
    refine ⟨g, 0, rfl, fun i it hi => ?_⟩
    have hlt : i < its.length := (List.getElem?_eq_some_iff.1 hi).1
    obtain ⟨u, hu⟩ := key0 i it hi
    obtain ⟨c0, c1, c2⟩ := cellsOf_at its vs i it u h3 hi hu
    obtain ⟨sa, sl, sc, rfl, hr, _⟩ := (h5 i it u hi hu).reads hb0 hB
    rw [Nat.zero_add]
    have key : ∀ k v, k < n * 3 → (cellsOf its vs)[k]? = some v → W.cell? ⟨g, k, none⟩ = some v := fun k v hk hv => by rw [h4.cellAt k hk]; exact hv
    exact ⟨sa, sl, sc, key _ _ (by omega) c0, key _ _ (by omega) c1, key _ _ (by omega) c2, hr⟩
  · have hp : 0 < n := by omega
    obtain ⟨g, c, e'⟩ := own_some h4 hp
    cases e'
    simp only [Option.some.injEq, Addr.mk.injEq, and_true] at e
    obtain ⟨rfl, rfl⟩ := e
    obtain ⟨it, hit⟩ : ∃ it, its[i]? = some it := ⟨_, List.getElem?_eq_getElem (by omega)⟩
    obtain ⟨u, hu⟩ := key0 i it hit
    obtain ⟨_, _, c2⟩ := cellsOf_at its vs i it u h3 hit hu
    obtain ⟨sa, sl, sc, rfl, _, hn⟩ := (h5 i it u hit hu).reads hb0 hB
    refine ⟨sa, sl, sc, ?_, hn⟩
    rw [Nat.zero_add, h4.cellAt _ (by omega)]
    exact c2

/-- The parts that are handed over: in a slice that was there, or in a row that the call owns. -/
def PRow (w0 : World) (B : Nat) (W : World) (pa : Option Addr) (pn : Nat) (zss : List (List Int)) : Prop :=
  zss.length = pn ∧ (∀ z ∈ zss, z.length ≤ maxLen) ∧ ∃ us : List Value, us.length = pn ∧ (∀ (i : Nat) (z : List Int) (u : Value), zss[i]? = some z → us[i]? = some u → Src w0 B W u z) ∧
    ((∃ b off, pa = some ⟨b, off, none⟩ ∧ ∀ (i : Nat) (u : Value), us[i]? = some u → w0.cell? ⟨b, off + i, none⟩ = some u) ∨ (∃ pc, W.ownsRow B 60 1 (.slice pa pn pc) pn us) ∨ pn = 0)

theorem PRow.below {w0 W W' : World} {B C pn : Nat} {pa : Option Addr} {zss : List (List Int)} (h : PRow w0 B W pa pn zss) (hb : Below C W W') (hC : W.heap.size ≤ C) : PRow w0 B W' pa pn zss := by
  obtain ⟨h1, h2, us, h3, h4, h5⟩ := h
  refine ⟨h1, h2, us, h3, fun i z u hz hu => (h4 i z u hz hu).below hb hC, ?_⟩
  rcases h5 with h5 | ⟨pc, h5⟩ | h5
  · exact .inl h5
  · exact .inr (.inl ⟨pc, own_below h5 hb hC⟩)
  · exact .inr (.inr h5)

theorem PRow.grown {w0 W W' : World} {B pn n : Nat} {pa : Option Addr} {zss : List (List Int)} {v : Value} {xs : List Value} (h : PRow w0 B W pa pn zss) (hv : W.ownsRow B 160 3 v n xs) (hg : W.grownBy W' v.ownBlock) : PRow w0 B W' pa pn zss := by
  obtain ⟨h1, h2, us, h3, h4, h5⟩ := h
  refine ⟨h1, h2, us, h3, fun i z u hz hu => (h4 i z u hz hu).grown hv (by decide) hg, ?_⟩
  rcases h5 with h5 | ⟨pc, h5⟩ | h5
  · exact .inl h5
  · exact .inr (.inl ⟨pc, own_grown h5 hg (own_apart hv h5 (by decide))⟩)
  · exact .inr (.inr h5)

/-- The part at a place. -/
theorem PRow.at {w0 W : World} {B pn : Nat} {pa : Option Addr} {zss : List (List Int)} (h : PRow w0 B W pa pn zss) (hb : Below B w0 W) (hB : w0.heap.size ≤ B) {k : Nat} {z : List Int} (hk : zss[k]? = some z) :
    ∃ b off sa sl sc, pa = some ⟨b, off, none⟩ ∧ W.cell? ⟨b, off + k, none⟩ = some (.slice sa sl sc) ∧ Src w0 B W (.slice sa sl sc) z := by
  obtain ⟨h1, h2, us, h3, h4, h5⟩ := h
  have hkl : k < pn := by have := (List.getElem?_eq_some_iff.1 hk).1; omega
  obtain ⟨u, hu⟩ : ∃ u, us[k]? = some u := ⟨_, List.getElem?_eq_getElem (by omega)⟩
  have hs := h4 k z u hk hu
  obtain ⟨sa, sl, sc, rfl, _, _⟩ := hs.reads hb hB
  rcases h5 with ⟨b, off, e, hc⟩ | ⟨pc, h5⟩ | h5
  · have c := hc k _ hu
    exact ⟨b, off, sa, sl, sc, e, (hb.cell (Nat.lt_of_lt_of_le (lt_of_cell c) hB)).trans c, hs⟩
  · obtain ⟨g, c, e⟩ := own_some h5 (by omega)
    cases e
    exact ⟨g, 0, sa, sl, sc, rfl, by rw [Nat.zero_add, h5.cellAt k (by omega)]; exact hu, hs⟩
  · omega

end Go.Proofs.YtldiilmpmcbjkaaGreatDoor

/- What is proved here: plain facts on the short bytes of a number, the highest first; no program is named. -/
namespace Go.Proofs.YtldiilmpmcbjkaaGreatDoor
set_option linter.unusedVariables false
set_option maxRecDepth 100000

/-- The bytes of a number, the highest first, no zero ahead; the first argument bounds how many. -/
def shortF : Nat → Int → List Int
  | 0, _ => []
  | k + 1, n => if n = 0 then [] else shortF k (n / 256) ++ [n % 256]

theorem shortF_zero (k : Nat) : shortF k 0 = [] := by cases k <;> simp [shortF]

theorem shortF_succ (k : Nat) (n : Int) (h : 0 < n) : shortF (k + 1) n = shortF k (n / 256) ++ [n % 256] := by
  rw [shortF, if_neg (by omega)]

theorem shortF_range : ∀ (k : Nat) (n : Int), ∀ x ∈ shortF k n, 0 ≤ x ∧ x ≤ 255
  | 0, _, x, hx => by simp [shortF] at hx
  | k + 1, n, x, hx => by
    unfold shortF at hx
    split at hx
    · simp at hx
    · rcases List.mem_append.1 hx with h | h
      · exact shortF_range k (n / 256) x h
      · simp at h; omega

theorem shortF_length : ∀ (k : Nat) (n : Int), (shortF k n).length ≤ k
  | 0, _ => by simp [shortF]
  | k + 1, n => by
    have := shortF_length k (n / 256)
    unfold shortF
    split <;> simp <;> omega

theorem shortF_pos (n : Int) (h : 0 < n) : 0 < (shortF 7 n).length := by
  rw [shortF_succ 6 n h]
  simp

theorem pow_step (rest : Int) (m : Nat) (h0 : 0 < rest) (h : rest < 256 ^ m) : ∃ k, m = k + 1 ∧ rest / 256 < 256 ^ k := by
  cases m with
  | zero => simp at h; omega
  | succ k =>
    refine ⟨k, rfl, ?_⟩
    rw [Int.pow_succ] at h
    generalize (256 : Int) ^ k = p at h
    omega

theorem room_step (room : List Int) (k : Nat) (z : Int) (h : k < room.length) : (room.set k z).drop k = z :: room.drop (k + 1) := by
  rw [List.drop_eq_getElem_cons (by simpa using h)]
  simp [List.drop_set_of_lt]

theorem room_range (room : List Int) (k : Nat) (z : Int) (hz : 0 ≤ z ∧ z ≤ 255) (h : ∀ x ∈ room, 0 ≤ x ∧ x ≤ 255) : ∀ x ∈ room.set k z, 0 ≤ x ∧ x ≤ 255 := by
  intro x hx
  rcases List.mem_or_eq_of_mem_set hx with h' | h'
  · exact h x h'
  · subst h'; exact hz

/-- What holds of the room while the bytes of n are written into it from its end. -/
def Room (n : Int) (m : Nat) (rest : Int) (room : List Int) : Prop :=
  m ≤ 7 ∧ 0 ≤ rest ∧ rest < 256 ^ m ∧ room.length = 7 ∧ (∀ x ∈ room, 0 ≤ x ∧ x ≤ 255) ∧ shortF 7 n = shortF m rest ++ room.drop m

theorem Room.start (n : Int) (h0 : 0 ≤ n) (h1 : n ≤ 1125899906842624) : Room n 7 n [0, 0, 0, 0, 0, 0, 0] := by
  refine ⟨Nat.le_refl _, h0, ?_, rfl, by intro x hx; simp at hx; omega, by simp⟩
  have e : (256 : Int) ^ 7 = 72057594037927936 := by decide
  rw [e]; omega

theorem Room.step {n rest : Int} {m : Nat} {room : List Int} (h : Room n m rest room) (hr : 0 < rest) :
    ∃ k, m = k + 1 ∧ Room n k (rest / 256) (room.set k (rest % 256)) := by
  obtain ⟨h1, h2, h3, h4, h5, h6⟩ := h
  obtain ⟨k, rfl, hk⟩ := pow_step rest m hr h3
  refine ⟨k, rfl, by omega, by omega, hk, by simpa using h4, room_range room k _ (by omega) h5, ?_⟩
  rw [room_step room k _ (by omega), h6, shortF_succ k rest hr]
  simp

theorem Room.done {n rest : Int} {m : Nat} {room : List Int} (h : Room n m rest room) (hr : rest = 0) : shortF 7 n = room.drop m := by
  subst hr
  rw [h.2.2.2.2.2, shortF_zero, List.nil_append]

theorem Room.bd {n rest : Int} {m : Nat} {room : List Int} (h : Room n m rest room) : rest < 72057594037927936 := by
  have e : (256 : Int) ^ 7 = 72057594037927936 := by decide
  have hm : (256 : Int) ^ m ≤ 256 ^ 7 := by
    have := h.1
    rcases (by omega : m = 0 ∨ m = 1 ∨ m = 2 ∨ m = 3 ∨ m = 4 ∨ m = 5 ∨ m = 6 ∨ m = 7) with r | r | r | r | r | r | r | r <;> subst r <;> decide
  rw [e] at hm
  exact Int.lt_of_lt_of_le h.2.2.1 hm

end Go.Proofs.YtldiilmpmcbjkaaGreatDoor

/- What is proved here: plain facts on the bytes that stand ahead of an item; no program is named. -/
namespace Go.Proofs.YtldiilmpmcbjkaaGreatDoor
set_option linter.unusedVariables false
set_option maxRecDepth 100000

/-- The first number of a head. -/
def headB (l : Bool) : Int := if l then 192 else 128

theorem headB_in (l : Bool) : 128 ≤ headB l ∧ headB l ≤ 192 := by cases l <;> decide

/-- The bytes ahead of n bytes. -/
def headL (l : Bool) (n : Int) : List Int := if n ≤ 55 then [headB l + n] else (headB l + 55 + (shortF 7 n).length) :: shortF 7 n

theorem shortF_small (n : Int) (h0 : 0 ≤ n) (h : n < 16777216) : (shortF 7 n).length ≤ 3 := by
  by_cases a : n = 0
  · subst a; rw [shortF_zero]; simp
  by_cases b : n / 256 = 0
  · rw [shortF_succ 6 n (by omega), b, shortF_zero]; simp
  by_cases c : n / 256 / 256 = 0
  · rw [shortF_succ 6 n (by omega), shortF_succ 5 (n / 256) (by omega), c, shortF_zero]; simp
  have d : n / 256 / 256 / 256 = 0 := by omega
  rw [shortF_succ 6 n (by omega), shortF_succ 5 (n / 256) (by omega), shortF_succ 4 (n / 256 / 256) (by omega), d, shortF_zero]; simp

theorem headL_range (l : Bool) (n : Int) (h0 : 0 ≤ n) (h : n < 16777216) : ∀ x ∈ headL l n, 0 ≤ x ∧ x ≤ 255 := by
  have hb := headB_in l
  have hs := shortF_small n h0 h
  unfold headL
  split
  · intro x hx; simp at hx; omega
  · intro x hx
    rcases List.mem_cons.1 hx with e | e
    · omega
    · exact shortF_range 7 n x e

theorem headL_length (l : Bool) (n : Int) : (headL l n).length ≤ 8 := by
  have := shortF_length 7 n
  unfold headL
  split
  · simp
  · simp; omega

/-- What HeadBytes answers: its code and its bytes. -/
def hdCode (n : Int) : Int := if 0 ≤ n ∧ n ≤ 1200 then 0 else 3
def hdBytes (l : Bool) (n : Int) : List Int := if 0 ≤ n ∧ n ≤ 1200 then headL l n else []

theorem hdBytes_range (l : Bool) (n : Int) : ∀ x ∈ hdBytes l n, 0 ≤ x ∧ x ≤ 255 := by
  unfold hdBytes
  split
  · exact headL_range l n (by omega) (by omega)
  · intro x hx; simp at hx

theorem hdBytes_length (l : Bool) (n : Int) : (hdBytes l n).length ≤ 8 := by
  unfold hdBytes
  split
  · exact headL_length l n
  · simp

theorem shortF_some (n : Int) (h : 0 < n) : 0 < (shortF 7 n).length := shortF_pos n h

end Go.Proofs.YtldiilmpmcbjkaaGreatDoor
