/- What is proved here: plain facts on headers in a world: how an argument that is a header reads; they hold for every program. -/
import Derived.Test.YtlenpjbkbjdbeaaBsO
import Derived.OpenShut
import Derived.WideShapes
namespace Go.Proofs.Ytlenpjbkbjdbeaa
open Go.RowKit
set_option linter.unusedVariables false

/-- A slice's three parts. -/
structure Sl where
  a : Option Addr
  n : Nat
  c : Nat

/-- The slices of a header: Parent, Target, Signers, Receipts, Signer, Seal, Commits. -/
structure HS where
  p : Sl
  t : Sl
  s : Sl
  r : Sl
  g : Sl
  e : Sl
  k : Sl

/-- A header: its bytes and numbers. -/
structure Hd where
  p : List Int
  n1 : Int
  n2 : Int
  n3 : Int
  t : List Int
  n5 : Int
  s : List (List Int)
  r : List Int
  g : List Int
  e : List Int
  k : List (List Int)

/-- The slices read as the header's bytes. -/
structure HOk (w : World) (x : HS) (h : Hd) : Prop where
  p : BRow w x.p.a x.p.n h.p
  t : BRow w x.t.a x.t.n h.t
  s : BsRow w x.s.a x.s.n h.s
  r : BRow w x.r.a x.r.n h.r
  g : BRow w x.g.a x.g.n h.g
  e : BRow w x.e.a x.e.n h.e
  k : BsRow w x.k.a x.k.n h.k

theorem HOk.below {w w' : World} {x : HS} {h : Hd} (o : HOk w x h) {B : Nat} (hb : Below B w w') (hB : w.heap.size ≤ B) : HOk w' x h :=
  ⟨o.p.below hb hB, o.t.below hb hB, o.s.below hb hB, o.r.below hb hB, o.g.below hb hB, o.e.below hb hB, o.k.below hb hB⟩

/-- None is longer than M. -/
structure HMax (x : HS) (M : Nat) : Prop where
  p : x.p.n ≤ M
  t : x.t.n ≤ M
  s : x.s.n ≤ M
  r : x.r.n ≤ M
  g : x.g.n ≤ M
  e : x.e.n ≤ M
  k : x.k.n ≤ M

def in64 (n : Int) : Prop := -9223372036854775808 ≤ n ∧ n ≤ 9223372036854775807

/-- The numbers fit. -/
structure HIn (h : Hd) : Prop where
  n1 : in64 h.n1
  n2 : in64 h.n2
  n3 : in64 h.n3
  n5 : in64 h.n5

/-- All bytes, and how many slices there are, are at most 2^20. -/
structure HSm (h : Hd) : Prop where
  p : h.p.length ≤ 1048576
  t : h.t.length ≤ 1048576
  s : h.s.length ≤ 1048576
  sz : ∀ z ∈ h.s, z.length ≤ 1048576
  r : h.r.length ≤ 1048576
  g : h.g.length ≤ 1048576
  e : h.e.length ≤ 1048576
  k : h.k.length ≤ 1048576
  kz : ∀ z ∈ h.k, z.length ≤ 1048576

/-- The eleven cells of a header. -/
def hvals (x : HS) (h : Hd) : Array Value := #[.slice x.p.a x.p.n x.p.c, .int .i64 h.n1, .int .i64 h.n2, .int .i64 h.n3, .slice x.t.a x.t.n x.t.c, .int .i64 h.n5, .slice x.s.a x.s.n x.s.c, .slice x.r.a x.r.n x.r.c, .slice x.g.a x.g.n x.g.c, .slice x.e.a x.e.n x.e.c, .slice x.k.a x.k.n x.k.c]

section
variable {H : Type} {enc : TypeId × Value → H} {P : Program} {w : World} {sp : Nat → Bool} {held : Bool}

/-- A field that is a slice of bytes. -/
theorem field_bytes {ts tu : TypeId} {fuel : Nat} {v : Value} {y : DataW H × List MemPlace} (us : P.underlying ts = some (.slice tu)) (uu : P.underlying tu = some (.int .u8)) (cu : P.cellsOf tu = 1)
    (h : DataW.trod enc P w 0 sp held fuel ts [v] = some y) : ∃ (x : Sl) (z : List Int), v = .slice x.a x.n x.c ∧ x.n ≤ maxLen ∧ BRow w x.a x.n z := by
  rcases ChangeShapes.open_ints us uu cu h with ⟨e2, _⟩ | ⟨sa, sl, sc, zs, e2, _, hsl, hsm, hzl, _, hzc, hzw⟩
  · simp only [List.cons.injEq, and_true] at e2
    subst e2
    exact ⟨⟨none, 0, 0⟩, [], rfl, Nat.zero_le _, rfl, fun n hn => by simp at hn, fun _ => rfl, fun y hy => by cases hy⟩
  · simp only [List.cons.injEq, and_true] at e2
    subst e2
    have hzl' : sl ≤ zs.length := by rw [hzl]; split <;> omega
    refine ⟨⟨some sa, sl, sc⟩, zs.take sl, rfl, Nat.le_trans hsl hsm, by simp; omega, fun n hn => ?_, (fun e => (by cases e)), fun y hy j hj => ?_⟩
    · exact bounds_u8 (hzw n (List.mem_of_mem_take hn))
    · cases hy
      have hj' : j < sl := hj
      rw [hzc j (by omega), getD_at _ j (by omega), getD_at _ j (by simp; omega), List.getElem_take]

/-- A field that is a slice of slices of bytes. -/
theorem field_bss {t ts tu : TypeId} {fuel : Nat} {v : Value} {y : DataW H × List MemPlace} (ut : P.underlying t = some (.slice ts)) (us : P.underlying ts = some (.slice tu)) (cs : P.cellsOf ts = 1) (uu : P.underlying tu = some (.int .u8)) (cu : P.cellsOf tu = 1)
    (h : DataW.trod enc P w 0 sp held fuel t [v] = some y) : ∃ (x : Sl) (z : List (List Int)), v = .slice x.a x.n x.c ∧ x.n ≤ maxLen ∧ BsRow w x.a x.n z := by
  have hv : ∃ a len cap, v = .slice a len cap := by
    rcases DataW.trod_slice ut h with ⟨hn, _⟩ | ⟨x, len', cap', elems, rest, n, _, hcs, _⟩
    · simp only [List.cons.injEq, and_true] at hn; exact ⟨_, _, _, hn⟩
    · simp only [List.cons.injEq, and_true] at hcs; exact ⟨_, _, _, hcs⟩
  obtain ⟨a, len, cap, rfl⟩ := hv
  obtain ⟨d, ps⟩ := y
  obtain ⟨zss, h1, h2⟩ := read_bss ut us cs cu uu h
  exact ⟨⟨a, len, cap⟩, zss, rfl, h1, h2⟩

theorem field_int {t : TypeId} {fuel : Nat} {v : Value} {y : DataW H × List MemPlace} (ut : P.underlying t = some (.int .i64)) (h : DataW.trod enc P w 0 sp held fuel t [v] = some y) : ∃ n, v = .int .i64 n ∧ in64 n := by
  obtain ⟨n, e, _, hwf⟩ := DataW.trod_int ut h
  simp only [List.cons.injEq, and_true] at e
  exact ⟨n, e, bounds_i64 hwf⟩

/-- How an argument that is a header reads. -/
theorem open_header {t tb ti tl tu : TypeId} {fs : Array Field} {f0 f1 f2 f3 f4 f5 f6 f7 f8 f9 f10 : Field} {v : Value} {d : DataW H} {ps : List MemPlace}
    (ht : P.underlying t = some (.struct fs)) (hfs : fs = #[f0, f1, f2, f3, f4, f5, f6, f7, f8, f9, f10]) (hc : P.cellsOf t = 11)
    (ho : f0.offset = 0 ∧ f1.offset = 1 ∧ f2.offset = 2 ∧ f3.offset = 3 ∧ f4.offset = 4 ∧ f5.offset = 5 ∧ f6.offset = 6 ∧ f7.offset = 7 ∧ f8.offset = 8 ∧ f9.offset = 9 ∧ f10.offset = 10)
    (hty : f0.type = tb ∧ f1.type = ti ∧ f2.type = ti ∧ f3.type = ti ∧ f4.type = tb ∧ f5.type = ti ∧ f6.type = tl ∧ f7.type = tb ∧ f8.type = tb ∧ f9.type = tb ∧ f10.type = tl)
    (ub : P.underlying tb = some (.slice tu)) (uu : P.underlying tu = some (.int .u8)) (ui : P.underlying ti = some (.int .i64)) (ul : P.underlying tl = some (.slice tb))
    (cb : P.cellsOf tb = 1) (ci : P.cellsOf ti = 1) (cl : P.cellsOf tl = 1) (cu : P.cellsOf tu = 1)
    (hv : ∃ cs, v = .agg cs ∧ cs.size = P.cellsOf t) (h : DataW.Trod enc P w 0 sp held t v d ps) :
    ∃ (x : HS) (y : Hd), v = .agg (hvals x y) ∧ HOk w x y ∧ HMax x maxLen ∧ HIn y := by
  obtain ⟨cs, rfl, hsz⟩ := hv
  obtain ⟨fuel, h⟩ := h
  have h' : DataW.trod enc P w 0 sp held fuel t cs.toList = some (d, ps) := h
  obtain ⟨l⟩ := cs
  rw [hc] at hsz
  have hl : l.length = 11 := by simpa using hsz
  match l, hl with
  | [v0, v1, v2, v3, v4, v5, v6, v7, v8, v9, v10], _ =>
    subst hfs
    obtain ⟨xs, m, _, _, _, hxl, hf⟩ := DataW.trod_struct ht h'
    have hs : xs.length = 11 := by rw [hxl]; rfl
    obtain ⟨o0, o1, o2, o3, o4, o5, o6, o7, o8, o9, o10⟩ := ho
    obtain ⟨y0, y1, y2, y3, y4, y5, y6, y7, y8, y9, y10⟩ := hty
    have g0 := hf 0 f0 rfl
    have g1 := hf 1 f1 rfl
    have g2 := hf 2 f2 rfl
    have g3 := hf 3 f3 rfl
    have g4 := hf 4 f4 rfl
    have g5 := hf 5 f5 rfl
    have g6 := hf 6 f6 rfl
    have g7 := hf 7 f7 rfl
    have g8 := hf 8 f8 rfl
    have g9 := hf 9 f9 rfl
    have g10 := hf 10 f10 rfl
    rw [List.getElem?_eq_getElem (by omega)] at g0 g1 g2 g3 g4 g5 g6 g7 g8 g9 g10
    rw [y0, o0, cb] at g0
    rw [y1, o1, ci] at g1
    rw [y2, o2, ci] at g2
    rw [y3, o3, ci] at g3
    rw [y4, o4, cb] at g4
    rw [y5, o5, ci] at g5
    rw [y6, o6, cl] at g6
    rw [y7, o7, cb] at g7
    rw [y8, o8, cb] at g8
    rw [y9, o9, cb] at g9
    rw [y10, o10, cl] at g10
    simp only [List.drop_zero, List.drop_succ_cons, List.take_succ_cons, List.take_zero] at g0 g1 g2 g3 g4 g5 g6 g7 g8 g9 g10
    obtain ⟨x0, z0, e0, l0, r0⟩ := field_bytes ub uu cu g0
    obtain ⟨n1, e1, i1⟩ := field_int ui g1
    obtain ⟨n2, e2, i2⟩ := field_int ui g2
    obtain ⟨n3, e3, i3⟩ := field_int ui g3
    obtain ⟨x4, z4, e4, l4, r4⟩ := field_bytes ub uu cu g4
    obtain ⟨n5, e5, i5⟩ := field_int ui g5
    obtain ⟨x6, z6, e6, l6, r6⟩ := field_bss ul ub cb uu cu g6
    obtain ⟨x7, z7, e7, l7, r7⟩ := field_bytes ub uu cu g7
    obtain ⟨x8, z8, e8, l8, r8⟩ := field_bytes ub uu cu g8
    obtain ⟨x9, z9, e9, l9, r9⟩ := field_bytes ub uu cu g9
    obtain ⟨x10, z10, e10, l10, r10⟩ := field_bss ul ub cb uu cu g10
    subst e0 e1 e2 e3 e4 e5 e6 e7 e8 e9 e10
    exact ⟨⟨x0, x4, x6, x7, x8, x9, x10⟩, ⟨z0, n1, n2, n3, z4, n5, z6, z7, z8, z9, z10⟩, rfl, ⟨r0, r4, r6, r7, r8, r9, r10⟩, ⟨l0, l4, l6, l7, l8, l9, l10⟩, ⟨i1, i2, i3, i5⟩⟩
end

end Go.Proofs.Ytlenpjbkbjdbeaa
