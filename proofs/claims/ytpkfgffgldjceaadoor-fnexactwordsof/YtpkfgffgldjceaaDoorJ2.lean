/- What is proved here: plain facts on slices of slices of bytes in a world, how an argument that is such a slice reads, how great they are and whether two are the same; they hold for every program. -/
import Derived.Test.YtpkfgffgldjceaaDoorJ1
import Derived.OpenShut
namespace Go.Proofs.YtpkfgffgldjceaaDoor
open Go.RowKit
set_option linter.unusedVariables false
set_option maxRecDepth 100000

/-- The bytes 'z' lie behind a cell. -/
def BsAt (w : World) (b o : Nat) (z : List Int) : Prop := ∃ sa sl sc, w.cell? ⟨b, o, none⟩ = some (.slice sa sl sc) ∧ BRow w sa sl z

/-- The slice 'a', of 'len' slices of bytes, reads as 'zss'. -/
def BsRow (w : World) (a : Option Addr) (len : Nat) (zss : List (List Int)) : Prop :=
  zss.length = len ∧ (∀ z ∈ zss, z.length ≤ maxLen) ∧ (0 < len → ∃ b off, a = some ⟨b, off, none⟩ ∧ ∀ i z, zss[i]? = some z → BsAt w b (off + i) z)

theorem BsAt.lt {w : World} {b o : Nat} {z : List Int} (h : BsAt w b o z) : b < w.heap.size := by
  obtain ⟨_, _, _, h, _⟩ := h
  exact lt_of_cell h

theorem BsAt.below {w w' : World} {b o : Nat} {z : List Int} (h : BsAt w b o z) {B : Nat} (hb : Below B w w') (hB : w.heap.size ≤ B) : BsAt w' b o z := by
  have hl := Nat.lt_of_lt_of_le h.lt hB
  obtain ⟨sa, sl, sc, h1, h4⟩ := h
  exact ⟨sa, sl, sc, (hb.cell hl).trans h1, h4.below hb hB⟩

theorem BsRow.below {w w' : World} {a : Option Addr} {len : Nat} {zss : List (List Int)} (h : BsRow w a len zss) {B : Nat} (hb : Below B w w') (hB : w.heap.size ≤ B) : BsRow w' a len zss := by
  refine ⟨h.1, h.2.1, fun hp => ?_⟩
  obtain ⟨b, off, e, k⟩ := h.2.2 hp
  exact ⟨b, off, e, fun i z hi => (k i z hi).below hb hB⟩

theorem BsRow.at {w : World} {a : Option Addr} {len : Nat} {zss : List (List Int)} (h : BsRow w a len zss) (hp : 0 < len) :
    ∃ b off, a = some ⟨b, off, none⟩ ∧ b < w.heap.size ∧ ∀ i z, zss[i]? = some z → BsAt w b (off + i) z := by
  obtain ⟨b, off, e, k⟩ := h.2.2 hp
  refine ⟨b, off, e, ?_, k⟩
  have hl : 0 < zss.length := by rw [h.1]; exact hp
  exact (k 0 zss[0] (List.getElem?_eq_getElem hl)).lt

theorem BsRow.bytes {w : World} {a : Option Addr} {len : Nat} {zss : List (List Int)} (h : BsRow w a len zss) : ∀ z ∈ zss, ∀ x ∈ z, 0 ≤ x ∧ x ≤ 255 := by
  intro z hz
  obtain ⟨i, hi⟩ := List.getElem?_of_mem hz
  have hl := (List.getElem?_eq_some_iff.1 hi).1
  obtain ⟨b, off, _, k⟩ := h.2.2 (by rw [← h.1]; omega)
  obtain ⟨_, _, _, _, hb⟩ := k i z hi
  exact hb.2.1

/-- How an argument that is a slice of slices of bytes reads, from its walk. -/
theorem read_bss {H : Type} {enc : TypeId × Value → H} {P : Program} {w : World} {sp : Nat → Bool} {held : Bool} {t e tu : TypeId} {a : Option Addr} {len cap fuel : Nat} {d : DataW H} {ps : List MemPlace}
    (ht : P.underlying t = some (.slice e)) (he : P.underlying e = some (.slice tu)) (hc : P.cellsOf e = 1) (cu : P.cellsOf tu = 1) (uu : P.underlying tu = some (.int .u8))
    (h : DataW.trod enc P w 0 sp held fuel t [Value.slice a len cap] = some (d, ps)) : ∃ zss, len ≤ maxLen ∧ BsRow w a len zss := by
  rcases DataW.trod_slice ht h with ⟨hn, _⟩ | ⟨x, len', cap', elems, rest, n, _, hcs, _, _, hl, hm, hlen, hel, _⟩
  · simp only [List.cons.injEq, Value.slice.injEq, and_true] at hn
    obtain ⟨rfl, rfl, rfl⟩ := hn
    exact ⟨[], Nat.zero_le _, rfl, fun it hi => by simp at hi, fun hp => absurd hp (Nat.lt_irrefl _)⟩
  · simp only [List.cons.injEq, Value.slice.injEq, and_true] at hcs
    obtain ⟨rfl, rfl, rfl⟩ := hcs
    have each : ∀ i, i < len → ∃ z : List Int, z.length ≤ maxLen ∧ x.spot = none ∧ BsAt w x.block (x.off + i) z := by
      intro i hi
      have hE := hel i hi
      have hi' : i < elems.length := by omega
      rw [List.getElem?_eq_getElem hi', Option.bind_eq_some_iff, hc] at hE
      obtain ⟨cs, hcells, htr⟩ := hE
      obtain ⟨_, hcl, hcell⟩ := World.cells?_some hcells
      have hsp : x.spot = none := by
        have hE0 := hel 0 (by omega)
        rw [List.getElem?_eq_getElem (by omega), Option.bind_eq_some_iff, hc] at hE0
        obtain ⟨cs0, hcells0, _⟩ := hE0
        obtain ⟨_, hcl0, hcell0⟩ := World.cells?_some hcells0
        have q := hcell0 0 (by omega)
        rw [List.getElem?_eq_getElem (by omega)] at q
        simpa [Addr.add] using World.cell?_spot q
      match cs, hcl with
      | [x0], _ =>
        have k0 : w.cell? ((x.add (i * 1)).add 0) = some x0 := hcell 0 (by omega)
        obtain ⟨xb, xo, xs⟩ := x
        simp only at hsp
        subst hsp
        rw [add_none, add_none, Nat.mul_one, Nat.add_zero] at k0
        rcases ChangeShapes.open_ints he uu cu htr with ⟨e2, _⟩ | ⟨sa, sl, sc, zs, e2, _, hsl, hsm, hzl, _, hzc, hzw⟩
        · simp only [List.cons.injEq, and_true] at e2
          subst e2
          exact ⟨[], Nat.zero_le _, rfl, none, 0, 0, k0, rfl, fun n hn => by simp at hn, fun _ => rfl, fun y hy => by cases hy⟩
        · simp only [List.cons.injEq, and_true] at e2
          subst e2
          have hzl' : sl ≤ zs.length := by rw [hzl]; split <;> omega
          refine ⟨zs.take sl, by simp; omega, rfl, some sa, sl, sc, k0, by simp; omega, fun n hn => ?_, (fun e => (by cases e)), fun y hy j hj => ?_⟩
          · exact bounds_u8 (hzw n (List.mem_of_mem_take hn))
          · cases hy
            rw [hzc j (by omega), getD_at _ j (by omega), getD_at _ j (by simp; omega), List.getElem_take]
    have build : ∀ m, m ≤ len → ∃ zss : List (List Int), zss.length = m ∧ (∀ z ∈ zss, z.length ≤ maxLen) ∧ ∀ i z, zss[i]? = some z → BsAt w x.block (x.off + i) z := by
      intro m
      induction m with
      | zero => intro _; exact ⟨[], rfl, fun it hi => by simp at hi, fun i it hi => by simp at hi⟩
      | succ m ih =>
        intro hm'
        obtain ⟨zss, q1, q2, q3⟩ := ih (by omega)
        obtain ⟨z, r1, _, r2⟩ := each m (by omega)
        refine ⟨zss ++ [z], by simp [q1], fun y hy => ?_, fun i y hy => ?_⟩
        · rcases List.mem_append.1 hy with h' | h'
          · exact q2 y h'
          · simp at h'; subst h'; exact r1
        · rcases Nat.lt_or_ge i m with h' | h'
          · rw [List.getElem?_append_left (by omega)] at hy
            exact q3 i y hy
          · have hi : i < (zss ++ [z]).length := (List.getElem?_eq_some_iff.1 hy).1
            simp at hi
            obtain rfl : i = m := by omega
            rw [List.getElem?_append_right (by omega), q1, Nat.sub_self] at hy
            simp at hy
            subst hy
            exact r2
    obtain ⟨zss, q1, q2, q3⟩ := build len (Nat.le_refl _)
    refine ⟨zss, Nat.le_trans hl hm, q1, q2, fun hp => ⟨x.block, x.off, ?_, q3⟩⟩
    obtain ⟨_, _, hsp, _⟩ := each 0 hp
    obtain ⟨b, o, s⟩ := x
    simp only at hsp
    subst hsp
    rfl

/-- How an argument that is a slice of slices of bytes reads. -/
theorem open_bss {H : Type} {enc : TypeId × Value → H} {P : Program} {w : World} {sp : Nat → Bool} {held : Bool} {t e tu : TypeId} {v : Value} {d : DataW H} {ps : List MemPlace}
    (ht : P.underlying t = some (.slice e)) (he : P.underlying e = some (.slice tu)) (hc : P.cellsOf e = 1) (cu : P.cellsOf tu = 1) (uu : P.underlying tu = some (.int .u8))
    (hv : ∃ a len cap, v = .slice a len cap) (h : DataW.Trod enc P w 0 sp held t v d ps) : ∃ a len cap zss, v = .slice a len cap ∧ len ≤ maxLen ∧ BsRow w a len zss := by
  obtain ⟨a, len, cap, rfl⟩ := hv
  obtain ⟨fuel, h⟩ := h
  obtain ⟨zss, h1, h2⟩ := read_bss ht he hc cu uu h
  exact ⟨a, len, cap, zss, rfl, h1, h2⟩

/-! How great they are. -/

/-- What is left of a number behind some bytes: below 0: -1. -/
def szB (left : Int) (z : List Int) : Int := if left - z.length < 0 then -1 else left - z.length

def szBs : Int → List (List Int) → Int
  | left, [] => left
  | left, z :: r => if left - z.length < 0 then -1 else szBs (left - z.length) r

def szBss (left : Int) (zss : List (List Int)) : Int := if left - zss.length < 0 then -1 else szBs (left - zss.length) zss

theorem szBs_bd (zss : List (List Int)) : ∀ left, 0 ≤ left → szBs left zss ≤ left := by
  induction zss with
  | nil => intro left _; exact Int.le_refl _
  | cons z r ih =>
    intro left h
    unfold szBs
    split
    · omega
    · exact Int.le_trans (ih _ (by omega)) (by omega)

theorem szBs_mem (zss : List (List Int)) : ∀ left, 0 ≤ szBs left zss → 0 ≤ left ∧ ∀ z ∈ zss, (z.length : Int) ≤ left := by
  induction zss with
  | nil => intro left h; exact ⟨h, fun z hz => by simp at hz⟩
  | cons z r ih =>
    intro left h
    unfold szBs at h
    split at h
    · omega
    · obtain ⟨h0, h1⟩ := ih _ h
      refine ⟨by omega, fun y hy => ?_⟩
      rcases List.mem_cons.1 hy with e | e
      · subst e; omega
      · have := h1 y e; omega

theorem szBss_ok {left : Int} {zss : List (List Int)} (h : 0 ≤ szBss left zss) : (zss.length : Int) ≤ left ∧ ∀ z ∈ zss, (z.length : Int) ≤ left := by
  unfold szBss at h
  split at h
  · omega
  · obtain ⟨h0, h1⟩ := szBs_mem zss _ h
    exact ⟨by omega, fun z hz => by have := h1 z hz; omega⟩

theorem szBss_le {left : Int} (zss : List (List Int)) (h : 0 ≤ left) : szBss left zss ≤ left := by
  unfold szBss
  split
  · omega
  · exact Int.le_trans (szBs_bd zss _ (by omega)) (by omega)

theorem szBs_step (zss : List (List Int)) (k : Nat) (z : List Int) (left : Int) (h : zss[k]? = some z) : szBs left (zss.drop k) = if left - z.length < 0 then -1 else szBs (left - z.length) (zss.drop (k + 1)) := by
  obtain ⟨hk, e⟩ := List.getElem?_eq_some_iff.1 h
  rw [List.drop_eq_getElem_cons hk, e]
  rfl

/-! Whether two are the same. -/

def sameBs : List (List Int) → List (List Int) → Bool
  | [], [] => true
  | a :: ar, b :: bs => sameB a b && sameBs ar bs
  | _, _ => false

theorem sameB_self (a : List Int) : sameB a a = true := by simp [sameB]

theorem sameBs_self (a : List (List Int)) : sameBs a a = true := by
  induction a with
  | nil => rfl
  | cons a r ih => simp [sameBs, sameB_self, ih]

theorem sameBs_length : ∀ (a b : List (List Int)), sameBs a b = true → a.length = b.length
  | [], [], _ => rfl
  | [], _ :: _, h => by simp [sameBs] at h
  | _ :: _, [], h => by simp [sameBs] at h
  | a :: ar, b :: bs, h => by
    simp [sameBs] at h
    simp [sameBs_length ar bs h.2]

theorem sameBs_step (a b : List (List Int)) (k : Nat) (x y : List Int) (hx : a[k]? = some x) (hy : b[k]? = some y) : sameBs (a.drop k) (b.drop k) = (sameB x y && sameBs (a.drop (k + 1)) (b.drop (k + 1))) := by
  obtain ⟨h1, e1⟩ := List.getElem?_eq_some_iff.1 hx
  obtain ⟨h2, e2⟩ := List.getElem?_eq_some_iff.1 hy
  rw [List.drop_eq_getElem_cons h1, List.drop_eq_getElem_cons h2, e1, e2]
  rfl

theorem sameBs_end (a b : List (List Int)) (k : Nat) (h1 : a.length = k) (h2 : b.length = k) : sameBs (a.drop k) (b.drop k) = true := by
  rw [List.drop_eq_nil_of_le (by omega), List.drop_eq_nil_of_le (by omega)]
  rfl

theorem sameBs_len (a b : List (List Int)) (h : a.length ≠ b.length) : sameBs a b = false := by
  rw [Bool.eq_false_iff]
  intro e
  exact h (sameBs_length a b e)

end Go.Proofs.YtpkfgffgldjceaaDoor
