/- What is proved here: plain facts on byte slices in a world, used by the walks of this seat; they hold for every program. No condition beyond those written in each theorem. -/
import Derived.WalkKit
import Derived.Laws.OwnMore
import Derived.Laws.BytesArg
import Derived.OpenShut
import Derived.Laws.BitsAllLaws
import Derived.Laws.Bits64b
import Derived.Test.YtbncoiljklagkaaDoorChecked
import Derived.WalkLawsBesides
import Derived.KernelRfl
import Derived.WalkSmall
import Derived.WalkSpells
import Derived.RegionTactic
import Derived.BigRegion
import Derived.Laws.BitsLemmas
import Derived.Deep.RegionWith
import Derived.Deep.RegionHeld3
import Derived.Deep.DrawnRows
import Derived.Deep.MidRow
import Derived.Deep.DeepCutAuto
import Derived.Deep.CutBlock
import Derived.Test.YtbncoiljklagkaaDoorRows
import Derived.ProofKit
import Derived.LaidMore
import Derived.FnData
import Derived.WideShapes
import Derived.BigQuiet
import Derived.Deep.QuietTactic
namespace Go.Proofs.YtbncoiljklagkaaDoor
open Go.RowKit
set_option linter.unusedVariables false

theorem hide {p : Prop} (h : p) : Hid p := h
theorem unhide {p : Prop} (h : Hid p) : p := h

/-- The slice 'a', of 'len' elements, reads as the bytes 'zs' in the world 'w'. -/
def BRow (w : World) (a : Option Addr) (len : Nat) (zs : List Int) : Prop :=
  zs.length = len ∧ (∀ n ∈ zs, 0 ≤ n ∧ n ≤ 255) ∧ (a = none → len = 0) ∧ ∀ x, a = some x → ∀ i, i < len → w.cell? (x.add i) = some (.int .u8 (zs.getD i 0))

theorem lt_of_cell {w : World} {p : Addr} {v : Value} (h : w.cell? p = some v) : p.block < w.heap.size := by
  unfold World.cell? at h
  rcases Nat.lt_or_ge p.block w.heap.size with g | g
  · exact g
  · have : w.heap[p.block]? = none := Array.getElem?_eq_none g
    simp [this] at h

theorem add_none (b off i : Nat) : (⟨b, off, none⟩ : Addr).add i = ⟨b, off + i, none⟩ := by
  unfold Addr.add
  split <;> simp_all

theorem BRow.at {w : World} {a : Option Addr} {len : Nat} {zs : List Int} (h : BRow w a len zs) (hp : 0 < len) :
    ∃ b off, a = some ⟨b, off, none⟩ ∧ b < w.heap.size ∧ ∀ i, i < len → w.cell? ⟨b, off + i, none⟩ = some (.int .u8 (zs.getD i 0)) := by
  obtain ⟨h1, h2, h3, h4⟩ := h
  match a, h3, h4 with
  | none, h3, _ => have := h3 rfl; omega
  | some x, _, h4 =>
    obtain ⟨b, off, spot⟩ := x
    have hc := h4 _ rfl 0 hp
    have hspot : spot = none := by simpa [Addr.add] using World.cell?_spot hc
    subst hspot
    refine ⟨b, off, rfl, lt_of_cell (p := _) hc, fun i hi => ?_⟩
    have := h4 _ rfl i hi
    rwa [add_none] at this

theorem BRow.below {w w' : World} {a : Option Addr} {len : Nat} {zs : List Int} (h : BRow w a len zs) {B : Nat} (hb : Below B w w') (hB : w.heap.size ≤ B) : BRow w' a len zs := by
  refine ⟨h.1, h.2.1, h.2.2.1, fun x hx i hi => ?_⟩
  have hc := h.2.2.2 x hx i hi
  rw [hb.cell (Nat.lt_of_lt_of_le (lt_of_cell hc) hB)]
  exact hc

/-- What the call owns reads as bytes. -/
theorem BRow.own {w : World} {B g cap n : Nat} {e : TypeId} {zs : List Int} (h : w.ownsRow B e 1 (.slice (some ⟨g, 0, none⟩) n cap) n (zs.map (Value.int .u8))) (hz : ∀ x ∈ zs, 0 ≤ x ∧ x ≤ 255) :
    BRow w (some ⟨g, 0, none⟩) n zs := by
  have hl : zs.length = n := by simpa using h.1
  refine ⟨hl, hz, fun e => (by cases e), fun x hx i hi => ?_⟩
  cases hx
  have := h.cellAt i (by omega)
  rw [add_none, Nat.zero_add, this]
  simp [List.getElem?_map, List.getD_eq_getElem?_getD, List.getElem?_eq_getElem (by omega : i < zs.length)]

/-- One byte more of a row that is being filled. -/
theorem fill_step (zs : List Int) (len k : Nat) (hl : zs.length = len) (hk : k < len) :
    ((zs.take k ++ List.replicate (len - k) 0).map (Value.int .u8)).set k (.int .u8 (zs.getD k 0)) = (zs.take (k + 1) ++ List.replicate (len - (k + 1)) 0).map (Value.int .u8) := by
  rw [← List.map_set]
  congr 1
  have e : len - k = (len - (k + 1)) + 1 := by omega
  have hk' : (zs.take k).length = k := by simp; omega
  rw [e, List.replicate_succ, List.set_append, if_neg (by omega), hk', Nat.sub_self, List.set_cons_zero]
  rw [List.take_succ_eq_append_getElem (by omega), List.getD_eq_getElem?_getD, List.getElem?_eq_getElem (by omega : k < zs.length), List.append_assoc]
  rfl

theorem ret_tup {a b : Int} {c d : Bool} (h : a = b) (h2 : c = d) : Ending.returned (.tuple #[.int .i64 a, .bool c]) = .returned (.tuple #[.int .i64 b, .bool d]) := by rw [h, h2]
theorem ret_int {k : IntKind} {a b : Int} (h : a = b) : Ending.returned (.int k a) = .returned (.int k b) := by rw [h]
theorem ret_bool {a b : Bool} (h : a = b) : Ending.returned (.bool a) = .returned (.bool b) := by rw [h]

/-- Whether two lists of bytes are the same. -/
def sameB (xs ys : List Int) : Bool := xs == ys

theorem getD_at (xs : List Int) (k : Nat) (h : k < xs.length) : xs.getD k 0 = xs[k] := by
  rw [List.getD_eq_getElem?_getD, List.getElem?_eq_getElem h]; rfl

theorem take_same (xs ys : List Int) (k : Nat) (h1 : k < xs.length) (h2 : k < ys.length) (hp : xs.take k = ys.take k) (h : xs.getD k 0 = ys.getD k 0) : xs.take (k + 1) = ys.take (k + 1) := by
  rw [getD_at xs k h1, getD_at ys k h2] at h
  rw [List.take_succ_eq_append_getElem h1, List.take_succ_eq_append_getElem h2, hp, h]

theorem take_other (xs ys : List Int) (k : Nat) (h1 : k < xs.length) (h2 : k < ys.length) (h : xs.getD k 0 ≠ ys.getD k 0) : sameB xs ys = false := by
  unfold sameB
  rw [beq_eq_false_iff_ne]
  intro e
  subst e
  exact h rfl

theorem take_whole (xs ys : List Int) (k : Nat) (h1 : xs.length = k) (h2 : ys.length = k) (hp : xs.take k = ys.take k) : sameB xs ys = true := by
  unfold sameB
  rw [List.take_of_length_le (by omega), List.take_of_length_le (by omega)] at hp
  simp [hp]

/-- The marks k0, k0 + 1, .. that are written into n bytes. -/
def marks (k0 : Int) (n : Nat) : List Int := (List.range n).map fun (i : Nat) => (k0 + (i : Int)) % 256

theorem marks_length (k0 : Int) (n : Nat) : (marks k0 n).length = n := by simp [marks]

theorem marks_succ (k0 : Int) (n : Nat) : marks k0 (n + 1) = marks k0 n ++ [(k0 + (n : Int)) % 256] := by simp [marks, List.range_succ]

theorem mark_step (k0 : Int) (zs : List Int) (n k : Nat) (hl : zs.length = n) (hk : k < n) :
    ((marks k0 k ++ zs.drop k).map (Value.int .u8)).set k (.int .u8 ((k0 + (k : Int)) % 256)) = (marks k0 (k + 1) ++ zs.drop (k + 1)).map (Value.int .u8) := by
  rw [← List.map_set]
  congr 1
  rw [List.drop_eq_getElem_cons (by omega), List.set_append, if_neg (by rw [marks_length]; omega), marks_length, Nat.sub_self, List.set_cons_zero, marks_succ, List.append_assoc]
  rfl

theorem marks_range (k0 : Int) (n : Nat) : ∀ x ∈ marks k0 n, 0 ≤ x ∧ x ≤ 255 := by
  intro x hx
  obtain ⟨i, _, rfl⟩ := List.mem_map.1 hx
  omega

theorem marks_at (k0 : Int) (n k : Nat) (h : k < n) : (marks k0 n).getD k 0 = (k0 + (k : Int)) % 256 := by
  rw [getD_at _ _ (by rw [marks_length]; exact h)]
  simp [marks]

theorem grownBy_refl (w : World) (row : Option Nat) : w.grownBy w row := ⟨rfl, rfl, rfl, Nat.le_refl _, fun _ _ _ => rfl⟩

theorem grownBy_trans {a b c : World} {row : Option Nat} (h : a.grownBy b row) (k : b.grownBy c row) : a.grownBy c row :=
  ⟨k.os.trans h.os, k.tape.trans h.tape, k.output.trans h.output, Nat.le_trans h.size k.size, fun i hi hne => (k.block i (Nat.lt_of_lt_of_le hi h.size) hne).trans (h.block i hi hne)⟩

theorem ownsRow_base {w : World} {B B' : Nat} {e : TypeId} {size n : Nat} {v : Value} {xs : List Value} (h : w.ownsRow B e size v n xs) (hB : B' ≤ B) : w.ownsRow B' e size v n xs := by
  refine ⟨h.1, ?_⟩
  rcases h.2 with h' | ⟨g, cap, cur, h1, h2, h3⟩
  · exact .inl h'
  · exact .inr ⟨g, cap, cur, h1, Nat.le_trans hB h2, h3⟩

theorem own_shape {w : World} {B : Nat} {e : TypeId} {size n : Nat} {v : Value} {xs : List Value} (h : w.ownsRow B e size v n xs) : ∃ a cap, v = .slice a n cap := by
  rcases h.2 with ⟨h1, h2⟩ | ⟨g, cap, cur, h1, _⟩
  · exact ⟨none, 0, by rw [h1, h2]⟩
  · exact ⟨_, cap, h1⟩

theorem BRow.own2 {w : World} {B n cap : Nat} {a : Option Addr} {e : TypeId} {zs : List Int} (h : w.ownsRow B e 1 (.slice a n cap) n (zs.map (Value.int .u8))) (hz : ∀ x ∈ zs, 0 ≤ x ∧ x ≤ 255) : BRow w a n zs := by
  rcases h.2 with ⟨h1, h2⟩ | ⟨g, cap', cur, h1, _⟩
  · simp only [Value.slice.injEq] at h1
    obtain ⟨rfl, rfl, rfl⟩ := h1
    have hl : zs.length = 0 := by simpa using h.1
    exact ⟨hl, hz, fun _ => rfl, fun x hx => by cases hx⟩
  · simp only [Value.slice.injEq] at h1
    obtain ⟨rfl, _, rfl⟩ := h1
    exact BRow.own h hz

theorem own_below {w w' : World} {B C : Nat} {e : TypeId} {size n : Nat} {v : Value} {xs : List Value} (h : w.ownsRow B e size v n xs) (hb : Below C w w') (hC : w.heap.size ≤ C) : w'.ownsRow B e size v n xs := by
  refine ⟨h.1, ?_⟩
  rcases h.2 with h' | ⟨g, cap, cur, h1, h2, h3, h4⟩
  · exact .inl h'
  · refine .inr ⟨g, cap, cur, h1, h2, ?_, h4⟩
    rw [hb.block g (Nat.lt_of_lt_of_le (lt_of_block h3) hC)]
    exact h3

theorem below_alloc (w : World) (o : Obj) : Below w.heap.size w (w.alloc o) := (Below.refl _ _).alloc (Nat.le_refl _) o

theorem new2 (w : World) (x y : Value) (t : TypeId) : Below w.heap.size w (w.alloc (Obj.cells #[x, y] t)) ∧ w.heap.size < (w.alloc (Obj.cells #[x, y] t)).heap.size ∧
    (w.alloc (Obj.cells #[x, y] t)).cell? ⟨w.heap.size, 0, none⟩ = some x ∧ (w.alloc (Obj.cells #[x, y] t)).cell? ⟨w.heap.size, 1, none⟩ = some y :=
  ⟨below_alloc w _, by simp, by simp, by simp⟩

theorem res_facts {w : World} {b : Nat} {x y : Value} {t : TypeId} (h : w.heap[b]? = some (.cells #[x, y] t (0, 0))) :
    w.cell? ⟨b, 0, none⟩ = some x ∧ w.cell? ⟨b, 1, none⟩ = some y ∧ w.frozen? ⟨b, 0, none⟩ = false ∧ w.frozen? ⟨b, 1, none⟩ = false :=
  ⟨by simp [World.cell?, h], by simp [World.cell?, h], frozen_of_row w b 0 _ t h, frozen_of_row w b 1 _ t h⟩

theorem own_some {w : World} {B : Nat} {e : TypeId} {size n : Nat} {v : Value} {xs : List Value} (h : w.ownsRow B e size v n xs) (hn : 0 < n) : ∃ g cap, v = .slice (some ⟨g, 0, none⟩) n cap := by
  rcases h.2 with ⟨h1, h2⟩ | ⟨g, cap, cur, h1, _⟩
  · omega
  · exact ⟨g, cap, h1⟩

/-- The length of a slice value, for a loop's measure. -/
def lenOf : Value → Nat | .slice _ n _ => n | _ => 0

/-- A slice of bytes, made a string. -/
theorem conv_any {P : Program} (w : World) (src e dst : TypeId) (hs : P.underlying src = some (.slice e)) (he : P.underlying e = some (.int .u8)) (hd : P.underlying dst = some .string)
    (a : Option Addr) (len cap : Nat) (xs : List Int) (h : BRow w a len xs) : (convert src dst (.slice a len cap)).run P w = .ok (.string (strOfNums xs)) w := by
  rcases Nat.eq_zero_or_pos len with h0 | hp
  · subst h0
    have hx : xs = [] := List.length_eq_zero_iff.1 h.1
    subst hx
    cases a with
    | none => exact run_convert_bytes_nil w src e hs he 0 cap dst hd
    | some x =>
      rw [run_convert_bytes_string w src dst e _ 0 cap hs he hd]
      exact run_bytesToString w x 0 cap [] (by simp [loadCells, loadCellsFrom])
  · obtain ⟨b, off, rfl, _, hc⟩ := h.at hp
    exact run_convert_bytes_arg w src e hs he b off len cap xs h.1 hc dst hd

/-- Whether two lists of bytes are the same as strings. -/
def strEq (xs ys : List Int) : Bool := (strOfNums xs).toList == (strOfNums ys).toList

/-- What the shell's reading of an argument gives. -/
theorem brow_of {w : World} {a : Option Addr} {len cap : Nat} {zs : List Int}
    (h : (a = none ∧ len = 0 ∧ cap = 0 ∧ zs = []) ∨ ∃ x, a = some x ∧ len ≤ cap ∧ cap ≤ maxLen ∧ zs.length = cap ∧ (∀ i, i < zs.length → w.cell? (x.add i) = some (.int .u8 (zs.getD i 0))) ∧ ∀ n ∈ zs, (Lit.int .u8 n).wf = true) :
    BRow w a len (zs.take len) := by
  rcases h with ⟨rfl, rfl, rfl, rfl⟩ | ⟨x, rfl, hl, _, hz, hc, hw⟩
  · exact ⟨rfl, fun n hn => by simp at hn, fun _ => rfl, fun x hx => by cases hx⟩
  · refine ⟨by simp; omega, fun n hn => ?_, fun e => (by cases e), fun y hy i hi => ?_⟩
    · have := hw n (List.mem_of_mem_take hn)
      have b := Go.bounds_u8 this
      omega
    · cases hy
      rw [hc i (by omega)]
      rw [getD_at _ i (by omega), getD_at _ i (by simp; omega), List.getElem_take]

end Go.Proofs.YtbncoiljklagkaaDoor

/- What is proved here: plain facts on lanes of 64 bits and their two words: xor, and, the complement, turning. They hold for every program. No condition beyond those written in each theorem. -/
namespace Go.Proofs.YtbncoiljklagkaaDoor
open Go.RowKit
set_option linter.unusedVariables false

/-- The two words of a lane. -/
def hiW (z : Nat) : Nat := z / 4294967296
def loW (z : Nat) : Nat := z % 4294967296

theorem hi_xor (a b : Nat) : hiW (a ^^^ b) = hiW a ^^^ hiW b := Nat.xor_div_two_pow (n := 32)
theorem lo_xor (a b : Nat) : loW (a ^^^ b) = loW a ^^^ loW b := Nat.xor_mod_two_pow (n := 32)
theorem hi_and (a b : Nat) : hiW (a &&& b) = hiW a &&& hiW b := Nat.and_div_two_pow (n := 32)
theorem lo_and (a b : Nat) : loW (a &&& b) = loW a &&& loW b := Nat.and_mod_two_pow (n := 32)

theorem hi_lt (a : Nat) (h : a < 18446744073709551616) : hiW a < 4294967296 := by unfold hiW; omega
theorem lo_lt (a : Nat) : loW a < 4294967296 := by unfold loW; omega
theorem hi_not (a : Nat) (h : a < 18446744073709551616) : hiW (18446744073709551615 - a) = 4294967295 - hiW a := by unfold hiW; omega
theorem lo_not (a : Nat) (h : a < 18446744073709551616) : loW (18446744073709551615 - a) = 4294967295 - loW a := by unfold loW; omega

theorem lane_eq (a : Nat) : hiW a * 4294967296 + loW a = a := by unfold hiW loW; omega

/-- A lane turned by n bits. -/
def rotL (a n : Nat) : Nat := a * 2 ^ n % 18446744073709551616 + a / 2 ^ (64 - n)

theorem pow_split (n m : Nat) : 2 ^ (n + m) = 2 ^ n * 2 ^ m := Nat.pow_add 2 n m

theorem rot_words (h l P Q : Nat) (hP : P * Q = 4294967296) (hP0 : 0 < P) (hQ0 : 0 < Q) (hh : h < 4294967296) (hl : l < 4294967296) :
    (h * 4294967296 + l) * P % 18446744073709551616 + (h * 4294967296 + l) / (4294967296 * Q) = (h * P % 4294967296 + l / Q) * 4294967296 + (l * P % 4294967296 + h / Q) := by
  have e1 : h * P / 4294967296 = h / Q := by rw [← hP, Nat.mul_comm h P]; exact Nat.mul_div_mul_left h Q hP0
  have e2 : l * P / 4294967296 = l / Q := by rw [← hP, Nat.mul_comm l P]; exact Nat.mul_div_mul_left l Q hP0
  have e3 : (h * 4294967296 + l) / (4294967296 * Q) = h / Q := by
    rw [← Nat.div_div_eq_div_mul]
    congr 1
    omega
  have e4 : (h * 4294967296 + l) * P = h * P * 4294967296 + l * P := by rw [Nat.add_mul]; congr 1; rw [Nat.mul_right_comm]
  rw [e3, e4]
  have d1 := Nat.div_add_mod (h * P) 4294967296
  have d2 := Nat.div_add_mod (l * P) 4294967296
  rw [e1] at d1
  rw [e2] at d2
  have q1 : l / Q < P := by
    rw [Nat.div_lt_iff_lt_mul hQ0, hP]; exact hl
  -- r of h is a multiple of P
  have r1 : h * P % 4294967296 = P * (h % Q) := by rw [← hP, Nat.mul_comm h P, Nat.mul_mod_mul_left]
  have r2 : P * (h % Q) + P ≤ 4294967296 := by
    have hm : h % Q + 1 ≤ Q := Nat.mod_lt h hQ0
    have := Nat.mul_le_mul_left P hm
    rw [hP, Nat.mul_add] at this
    omega
  rw [r1] at d1 ⊢
  generalize P * (h % Q) = R at *
  generalize l * P % 4294967296 = R' at *
  have hR' : R' < 4294967296 := by
    rw [show R' = l * P - 4294967296 * (l / Q) by omega]
    have := Nat.mod_lt (l * P) (show 0 < 4294967296 by decide)
    omega
  generalize h * P = HP at *
  generalize l * P = LP at *
  generalize h / Q = A at *
  generalize l / Q = B at *
  omega

theorem rot_parts (a n : Nat) (ha : a < 18446744073709551616) (hn : n ≤ 31) (hn1 : 1 ≤ n) :
    rotL a n = (hiW a * 2 ^ n % 4294967296 + loW a / 2 ^ (32 - n)) * 4294967296 + (loW a * 2 ^ n % 4294967296 + hiW a / 2 ^ (32 - n)) := by
  have hP : 2 ^ n * 2 ^ (32 - n) = 4294967296 := by rw [← pow_split, show n + (32 - n) = 32 by omega]
  have := rot_words (hiW a) (loW a) (2 ^ n) (2 ^ (32 - n)) hP (Nat.two_pow_pos _) (Nat.two_pow_pos _) (hi_lt a ha) (lo_lt a)
  rw [lane_eq] at this
  unfold rotL
  rw [show 64 - n = 32 + (32 - n) by omega, pow_split]
  exact this

theorem word_sum (h l P Q : Nat) (hP : P * Q = 4294967296) (hP0 : 0 < P) (hQ0 : 0 < Q) (hl : l < 4294967296) : h * P % 4294967296 + l / Q < 4294967296 := by
  have q1 : l / Q < P := by rw [Nat.div_lt_iff_lt_mul hQ0, hP]; exact hl
  have r1 : h * P % 4294967296 = P * (h % Q) := by rw [← hP, Nat.mul_comm h P, Nat.mul_mod_mul_left]
  have r2 : P * (h % Q) + P ≤ 4294967296 := by
    have hm : h % Q + 1 ≤ Q := Nat.mod_lt h hQ0
    have := Nat.mul_le_mul_left P hm
    rw [hP, Nat.mul_add] at this
    omega
  omega

theorem rot_small (a n : Nat) (ha : a < 18446744073709551616) (hn : n ≤ 31) (hn1 : 1 ≤ n) :
    hiW (rotL a n) = hiW a * 2 ^ n % 4294967296 + loW a / 2 ^ (32 - n) ∧ loW (rotL a n) = loW a * 2 ^ n % 4294967296 + hiW a / 2 ^ (32 - n) := by
  have hP : 2 ^ n * 2 ^ (32 - n) = 4294967296 := by rw [← pow_split, show n + (32 - n) = 32 by omega]
  rw [rot_parts a n ha hn hn1]
  have w1 := word_sum (hiW a) (loW a) _ _ hP (Nat.two_pow_pos _) (Nat.two_pow_pos _) (lo_lt a)
  have w2 := word_sum (loW a) (hiW a) _ _ hP (Nat.two_pow_pos _) (Nat.two_pow_pos _) (hi_lt a ha)
  generalize hiW a * 2 ^ n % 4294967296 + loW a / 2 ^ (32 - n) = A at *
  generalize loW a * 2 ^ n % 4294967296 + hiW a / 2 ^ (32 - n) = B at *
  unfold hiW loW
  omega

theorem rot_lt (a n : Nat) (ha : a < 18446744073709551616) (hn : n ≤ 63) : rotL a n < 18446744073709551616 := by
  have hP : 2 ^ (64 - n) * 2 ^ n = 18446744073709551616 := by rw [← pow_split, show (64 - n) + n = 64 by omega]
  have q : a / 2 ^ (64 - n) < 2 ^ n := by rw [Nat.div_lt_iff_lt_mul (Nat.two_pow_pos _), Nat.mul_comm, hP]; exact ha
  have r1 : a * 2 ^ n % 18446744073709551616 = 2 ^ n * (a % 2 ^ (64 - n)) := by rw [← hP, Nat.mul_comm (2 ^ (64 - n)), Nat.mul_comm a, Nat.mul_mod_mul_left]
  have r2 : 2 ^ n * (a % 2 ^ (64 - n)) + 2 ^ n ≤ 18446744073709551616 := by
    have hm : a % 2 ^ (64 - n) + 1 ≤ 2 ^ (64 - n) := Nat.mod_lt a (Nat.two_pow_pos _)
    have := Nat.mul_le_mul_left (2 ^ n) hm
    rw [Nat.mul_comm (2 ^ n) (2 ^ (64 - n)), hP, Nat.mul_add] at this
    omega
  unfold rotL
  omega

theorem rot_zero (a : Nat) (ha : a < 18446744073709551616) : rotL a 0 = a := by
  unfold rotL
  have : a / 2 ^ (64 - 0) = 0 := Nat.div_eq_of_lt (by simpa using ha)
  omega

theorem rot_half (a : Nat) (ha : a < 18446744073709551616) : hiW (rotL a 32) = loW a ∧ loW (rotL a 32) = hiW a := by
  unfold rotL hiW loW
  simp only [show (2 : Nat) ^ 32 = 4294967296 by decide]
  omega

theorem rot_swap (h l : Nat) (hh : h < 4294967296) (hl : l < 4294967296) : rotL (h * 4294967296 + l) 32 = l * 4294967296 + h := by
  unfold rotL
  simp only [show (2 : Nat) ^ 32 = 4294967296 by decide]
  omega

theorem rot_big (a n : Nat) (ha : a < 18446744073709551616) (hn : n ≤ 31) (hn1 : 1 ≤ n) : rotL a (n + 32) = rotL (rotL a 32) n := by
  have hP : 2 ^ n * 2 ^ (32 - n) = 4294967296 := by rw [← pow_split, show n + (32 - n) = 32 by omega]
  have hh := hi_lt a ha
  have hl := lo_lt a
  have hs : rotL a 32 = loW a * 4294967296 + hiW a := by
    have := rot_swap (hiW a) (loW a) hh hl
    rwa [lane_eq] at this
  rw [hs]
  have h1 : hiW (loW a * 4294967296 + hiW a) = loW a := by unfold hiW loW at *; omega
  have h2 : loW (loW a * 4294967296 + hiW a) = hiW a := by unfold hiW loW at *; omega
  rw [rot_parts _ n (by omega) hn hn1, h1, h2]
  unfold rotL
  rw [show 64 - (n + 32) = 32 - n by omega, pow_split]
  have e : a * (2 ^ n * 2 ^ 32) % 18446744073709551616 = (loW a * 2 ^ n % 4294967296) * 4294967296 := by
    have : a * (2 ^ n * 2 ^ 32) = (a * 2 ^ n) * 4294967296 := by rw [← Nat.mul_assoc]
    rw [this]
    have e2 : a * 2 ^ n % 4294967296 = loW a * 2 ^ n % 4294967296 := by unfold loW; rw [Nat.mod_mul_mod]
    generalize a * 2 ^ n = X at *
    omega
  rw [e]
  have e3 : a / 2 ^ (32 - n) = hiW a * 2 ^ n + loW a / 2 ^ (32 - n) := by
    conv => lhs; rw [← lane_eq a]
    rw [← hP, ← Nat.mul_assoc, Nat.mul_comm (hiW a * 2 ^ n), Nat.mul_add_div (Nat.two_pow_pos _)]
  rw [e3]
  have d := Nat.div_add_mod (hiW a * 2 ^ n) 4294967296
  have e5 : hiW a * 2 ^ n / 4294967296 = hiW a / 2 ^ (32 - n) := by rw [← hP, Nat.mul_comm (hiW a)]; exact Nat.mul_div_mul_left _ _ (Nat.two_pow_pos _)
  rw [e5] at d
  generalize hiW a * 2 ^ n % 4294967296 = R at *
  generalize hiW a * 2 ^ n = X at *
  generalize hiW a / 2 ^ (32 - n) = A at *
  generalize loW a / 2 ^ (32 - n) = B at *
  generalize loW a * 2 ^ n % 4294967296 = R' at *
  omega

end Go.Proofs.YtbncoiljklagkaaDoor

/- What is proved here: plain facts on a state of 25 lanes and on one round of its mixing; no program is named. -/
namespace Go.Proofs.YtbncoiljklagkaaDoor
open Go.RowKit
set_option linter.unusedVariables false

/-- 25 lanes of 64 bits. -/
def Lanes (Z : List Nat) : Prop := Z.length = 25 ∧ ∀ x ∈ Z, x < 18446744073709551616

theorem getD_lt {Z : List Nat} {M : Nat} (h : ∀ x ∈ Z, x < M) (hM : 0 < M) (i : Nat) : Z.getD i 0 < M := by
  rw [List.getD_eq_getElem?_getD]
  rcases Nat.lt_or_ge i Z.length with hi | hi
  · rw [List.getElem?_eq_getElem hi]
    exact h _ (List.getElem_mem hi)
  · rw [List.getElem?_eq_none hi]
    exact hM

theorem set_all {Z : List Nat} {M : Nat} (h : ∀ x ∈ Z, x < M) (i : Nat) (v : Nat) (hv : v < M) : ∀ x ∈ Z.set i v, x < M := by
  intro x hx
  rcases List.mem_or_eq_of_mem_set hx with h' | h'
  · exact h x h'
  · rw [h']; exact hv

theorem xor_lt {a b : Nat} (ha : a < 18446744073709551616) (hb : b < 18446744073709551616) : a ^^^ b < 18446744073709551616 := Nat.xor_lt_two_pow (n := 64) ha hb
theorem and_lt {a b : Nat} (hb : b < 18446744073709551616) : a &&& b < 18446744073709551616 := Nat.and_lt_two_pow (n := 64) a hb

theorem getDn_at (xs : List Nat) (k : Nat) (h : k < xs.length) : xs.getD k 0 = xs[k] := by
  rw [List.getD_eq_getElem?_getD, List.getElem?_eq_getElem h]; rfl

theorem getDn_set (xs : List Nat) (k i v : Nat) (h : k < xs.length) : (xs.set k v).getD i 0 = if i = k then v else xs.getD i 0 := by
  simp only [List.getD_eq_getElem?_getD, List.getElem?_set]
  by_cases e : k = i
  · subst e; simp [h]
  · rw [if_neg e, if_neg (fun h => e h.symm)]

theorem getDn_map (f : Nat → Nat) (n i : Nat) (h : i < n) : ((List.range n).map f).getD i 0 = f i := by
  rw [getDn_at _ _ (by simpa using h)]
  simp

theorem map_getD (Z : List Nat) (n : Nat) (h : Z.length = n) : (List.range n).map (fun i => Z.getD i 0) = Z := by
  apply List.ext_getElem (by simp [h])
  intro i h1 h2
  simp [h2]

/-- The columns' sums behind k lanes. -/
def colAt (Z : List Nat) (k : Nat) : List Nat := (List.range k).foldl (fun C j => C.set (j % 5) (C.getD (j % 5) 0 ^^^ Z.getD j 0)) (List.replicate 5 0)

theorem colAt_succ (Z : List Nat) (k j : Nat) (hj : j = k % 5) : colAt Z (k + 1) = (colAt Z k).set j ((colAt Z k).getD j 0 ^^^ Z.getD k 0) := by
  unfold colAt
  rw [List.range_succ, List.foldl_append]
  subst hj
  rfl

theorem colAt_props (Z : List Nat) (h : ∀ x ∈ Z, x < 18446744073709551616) (k : Nat) : (colAt Z k).length = 5 ∧ ∀ x ∈ colAt Z k, x < 18446744073709551616 := by
  induction k with
  | zero => exact ⟨rfl, fun x hx => by rw [List.eq_of_mem_replicate hx]; decide⟩
  | succ k ih =>
    rw [colAt_succ Z k _ rfl]
    exact ⟨by rw [List.length_set]; exact ih.1, set_all ih.2 _ _ (xor_lt (getD_lt ih.2 (by decide) _) (getD_lt h (by decide) _))⟩

/-- What a column's lanes are xored with. -/
def dOf (C : List Nat) (x : Nat) : Nat := C.getD ((x + 4) % 5) 0 ^^^ rotL (C.getD ((x + 1) % 5) 0) 1

theorem dOf_lt {C : List Nat} (h : ∀ x ∈ C, x < 18446744073709551616) (x : Nat) : dOf C x < 18446744073709551616 :=
  xor_lt (getD_lt h (by decide) _) (rot_lt _ 1 (getD_lt h (by decide) _) (by decide))

/-- The step with C and D. -/
def theta (Z : List Nat) : List Nat := (List.range 25).map fun i => Z.getD i 0 ^^^ dOf (colAt Z 25) (i % 5)

theorem theta_lanes {Z : List Nat} (h : Lanes Z) : Lanes (theta Z) := by
  refine ⟨by simp [theta], fun x hx => ?_⟩
  obtain ⟨i, _, rfl⟩ := List.mem_map.1 hx
  exact xor_lt (getD_lt h.2 (by decide) _) (dOf_lt (colAt_props Z h.2 25).2 _)

/-- The offsets of the lanes. -/
def offN : List Nat := [0, 1, 62, 28, 27, 36, 44, 6, 55, 20, 3, 10, 43, 25, 39, 41, 45, 15, 21, 8, 18, 2, 61, 56, 14]

theorem offN_le (i : Nat) : offN.getD i 0 ≤ 63 := by
  have : offN.getD i 0 < 64 := getD_lt (Z := offN) (by decide) (by decide) i
  omega

/-- Where a lane goes. -/
def posOf (k : Nat) : Nat := k / 5 + 5 * ((2 * (k % 5) + 3 * (k / 5)) % 5)

/-- The lanes that were moved, behind k of them. -/
def bAt (T : List Nat) (k : Nat) : List Nat := (List.range k).foldl (fun B j => B.set (posOf j) (rotL (T.getD j 0) (offN.getD j 0))) (List.replicate 25 0)

theorem bAt_succ (T : List Nat) (k : Nat) : bAt T (k + 1) = (bAt T k).set (posOf k) (rotL (T.getD k 0) (offN.getD k 0)) := by
  unfold bAt
  rw [List.range_succ, List.foldl_append]
  rfl

theorem bAt_lanes {T : List Nat} (h : Lanes T) (k : Nat) : Lanes (bAt T k) := by
  induction k with
  | zero => exact ⟨rfl, fun x hx => by rw [List.eq_of_mem_replicate hx]; decide⟩
  | succ k ih =>
    rw [bAt_succ]
    exact ⟨by rw [List.length_set]; exact ih.1, set_all ih.2 _ _ (rot_lt _ _ (getD_lt h.2 (by decide) _) (offN_le _))⟩

/-- One lane of the last step. -/
def chiOf (B : List Nat) (i : Nat) : Nat := B.getD i 0 ^^^ ((18446744073709551615 - B.getD (i - i % 5 + (i % 5 + 1) % 5) 0) &&& B.getD (i - i % 5 + (i % 5 + 2) % 5) 0)

def chi (B : List Nat) : List Nat := (List.range 25).map (chiOf B)

theorem chiOf_lt {B : List Nat} (h : ∀ x ∈ B, x < 18446744073709551616) (i : Nat) : chiOf B i < 18446744073709551616 :=
  xor_lt (getD_lt h (by decide) _) (and_lt (getD_lt h (by decide) _))

theorem chi_lanes {B : List Nat} (h : Lanes B) : Lanes (chi B) := by
  refine ⟨by simp [chi], fun x hx => ?_⟩
  obtain ⟨i, _, rfl⟩ := List.mem_map.1 hx
  exact chiOf_lt h.2 i

/-- One round but for its constant. -/
def roundF (Z : List Nat) : List Nat := chi (bAt (theta Z) 25)

theorem roundF_lanes {Z : List Nat} (h : Lanes Z) : Lanes (roundF Z) := chi_lanes (bAt_lanes (theta_lanes h) 25)

/-- The constants of the rounds. -/
def rcs : List Nat := [1, 32898, 9223372036854808714, 9223372039002292224, 32907, 2147483649, 9223372039002292353, 9223372036854808585, 138, 136, 2147516425, 2147483658, 2147516555, 9223372036854775947, 9223372036854808713, 9223372036854808579, 9223372036854808578, 9223372036854775936, 32778, 9223372039002259466, 9223372039002292353, 9223372036854808704, 2147483649, 9223372039002292232]

theorem rcs_lt (i : Nat) : rcs.getD i 0 < 18446744073709551616 := getD_lt (Z := rcs) (by decide) (by decide) i

def roundC (Z : List Nat) (c : Nat) : List Nat := (roundF Z).set 0 ((roundF Z).getD 0 0 ^^^ c)

theorem roundC_lanes {Z : List Nat} (h : Lanes Z) {c : Nat} (hc : c < 18446744073709551616) : Lanes (roundC Z c) := by
  have hr := roundF_lanes h
  exact ⟨by unfold roundC; rw [List.length_set]; exact hr.1, set_all hr.2 _ _ (xor_lt (getD_lt hr.2 (by decide) _) hc)⟩

/-- The state behind k rounds. -/
def mixAt (Z : List Nat) (k : Nat) : List Nat := (List.range k).foldl (fun S j => roundC S (rcs.getD j 0)) Z

theorem mixAt_succ (Z : List Nat) (k : Nat) : mixAt Z (k + 1) = roundC (mixAt Z k) (rcs.getD k 0) := by
  unfold mixAt
  rw [List.range_succ, List.foldl_append]
  rfl

theorem mixAt_lanes {Z : List Nat} (h : Lanes Z) (k : Nat) : Lanes (mixAt Z k) := by
  induction k with
  | zero => exact h
  | succ k ih => rw [mixAt_succ]; exact roundC_lanes ih (rcs_lt k)

/-- A state as words. -/
def wordsL (Z : List Nat) : List Int := Z.flatMap fun a => [(hiW a : Int), (loW a : Int)]

theorem wordsL_nil : wordsL [] = [] := rfl
theorem wordsL_cons (a : Nat) (Z : List Nat) : wordsL (a :: Z) = (hiW a : Int) :: (loW a : Int) :: wordsL Z := rfl

theorem wordsL_append (Y Z : List Nat) : wordsL (Y ++ Z) = wordsL Y ++ wordsL Z := by simp [wordsL]

theorem wordsL_length (Z : List Nat) : (wordsL Z).length = Z.length * 2 := by
  induction Z with
  | nil => rfl
  | cons a Z ih => rw [wordsL_cons]; simp [ih]; omega

theorem wordsL_hi (Z : List Nat) : ∀ i, i < Z.length → (wordsL Z).getD (i * 2) 0 = (hiW (Z.getD i 0) : Int) := by
  induction Z with
  | nil => intro i h; simp at h
  | cons a Z ih =>
    intro i h
    rw [wordsL_cons]
    cases i with
    | zero => rfl
    | succ i =>
      rw [show (i + 1) * 2 = i * 2 + 1 + 1 by omega, List.getD_cons_succ, List.getD_cons_succ, List.getD_cons_succ]
      exact ih i (by simpa using h)

theorem wordsL_lo (Z : List Nat) : ∀ i, i < Z.length → (wordsL Z).getD (i * 2 + 1) 0 = (loW (Z.getD i 0) : Int) := by
  induction Z with
  | nil => intro i h; simp at h
  | cons a Z ih =>
    intro i h
    rw [wordsL_cons]
    cases i with
    | zero => rfl
    | succ i =>
      rw [show (i + 1) * 2 + 1 = i * 2 + 1 + 1 + 1 by omega, List.getD_cons_succ, List.getD_cons_succ, List.getD_cons_succ]
      exact ih i (by simpa using h)

theorem wordsL_set (Z : List Nat) : ∀ (i v : Nat), ((wordsL Z).set (i * 2) (hiW v : Int)).set (i * 2 + 1) (loW v : Int) = wordsL (Z.set i v) := by
  induction Z with
  | nil => intro i v; simp [wordsL]
  | cons a Z ih =>
    intro i v
    cases i with
    | zero => simp [wordsL_cons]
    | succ i =>
      rw [wordsL_cons, List.set_cons_succ, wordsL_cons, ← ih i v, show (i + 1) * 2 = i * 2 + 1 + 1 by omega]
      rfl

theorem wordsL_zero (n : Nat) : wordsL (List.replicate n 0) = List.replicate (n * 2) 0 := by
  induction n with
  | zero => rfl
  | succ n ih =>
    rw [List.replicate_succ, wordsL_cons, ih, show (n + 1) * 2 = n * 2 + 1 + 1 by omega, List.replicate_succ, List.replicate_succ]
    rfl

/-- One lane more of those that are filled in order. -/
theorem fill_at (X Y : List Nat) (n k : Nat) (hX : X.length = n) (hY : Y.length = n) (hk : k < n) : (X.take k ++ Y.drop k).set k (X.getD k 0) = X.take (k + 1) ++ Y.drop (k + 1) := by
  have hl : (X.take k).length = k := by simp; omega
  rw [List.set_append, if_neg (by omega), hl, Nat.sub_self, List.drop_eq_getElem_cons (by omega), List.set_cons_zero, List.take_succ_eq_append_getElem (by omega), getDn_at X k (by omega), List.append_assoc]
  rfl

theorem fill_later (X Y : List Nat) (n k : Nat) (hX : X.length = n) (hY : Y.length = n) (hk : k < n) : (X.take k ++ Y.drop k).getD k 0 = Y.getD k 0 := by
  have hl : (X.take k).length = k := by simp; omega
  rw [getDn_at _ _ (by simp; omega), getDn_at _ _ (by omega), List.getElem_append_right (by omega)]
  simp [hl]

end Go.Proofs.YtbncoiljklagkaaDoor

/- What is proved here: closed facts of the program's table of types. -/
namespace Go.Proofs.YtbncoiljklagkaaDoor
open Go.RowKit
set_option linter.unusedVariables false

theorem info5 : (Tryd.prog.info? 5).map (fun i => (i.zero, i.size, i.bytes)) = some (some (.int .u8 0), 1, 1) := by kernel_rfl

end Go.Proofs.YtbncoiljklagkaaDoor

/- What is proved here: what the model's TurnLane answers for every three numbers: the code and the two words, in new memory. -/
namespace Go.Proofs.YtbncoiljklagkaaDoor
open Go.RowKit
set_option linter.unusedVariables false

theorem i64_fits (n : Int) (h0 : 0 ≤ n) (h1 : n ≤ 9223372036854775807) : IntKind.i64.wrap n = n := by
  rw [IntKind.wrap_i64]; omega

theorem pow_up (k : Nat) (h : k ≤ 32) : wrap64 (2 ^ k) = 2 ^ k ∧ 1 ≤ (2 : Int) ^ k ∧ (2 : Int) ^ k ≤ 4294967296 ∧ (k ≤ 31 → (2 : Int) ^ k ≤ 2147483648) := by
  rcases (by omega : k = 0 ∨ k = 1 ∨ k = 2 ∨ k = 3 ∨ k = 4 ∨ k = 5 ∨ k = 6 ∨ k = 7 ∨ k = 8 ∨ k = 9 ∨ k = 10 ∨ k = 11 ∨ k = 12 ∨ k = 13 ∨ k = 14 ∨ k = 15 ∨ k = 16 ∨ k = 17 ∨ k = 18 ∨ k = 19 ∨ k = 20 ∨ k = 21 ∨ k = 22 ∨ k = 23 ∨ k = 24 ∨ k = 25 ∨ k = 26 ∨ k = 27 ∨ k = 28 ∨ k = 29 ∨ k = 30 ∨ k = 31 ∨ k = 32) with r | r | r | r | r | r | r | r | r | r | r | r | r | r | r | r | r | r | r | r | r | r | r | r | r | r | r | r | r | r | r | r | r <;> subst r <;> exact ⟨IntWalk.wrap64_in _ (by decide), by decide, by decide, fun h => by first | decide | omega⟩

theorem mul_fits (h up : Int) (hh : 0 ≤ h ∧ h ≤ 4294967295) (h1 : 1 ≤ up) (h2 : up ≤ 2147483648) : 0 ≤ h * up ∧ h * up ≤ 9223372034707292160 := by
  refine ⟨Int.mul_nonneg hh.1 (by omega), ?_⟩
  exact Int.le_trans (Int.mul_le_mul_of_nonneg_right hh.2 (by omega)) (by omega)

/-- One word of a lane that is turned by less than a word. -/
def turnW (h l up down : Int) : Int := h * up % 4294967296 + l / down

theorem turn_facts (h l up down : Int) (hh : 0 ≤ h ∧ h ≤ 4294967295) (hl : 0 ≤ l ∧ l ≤ 4294967295) (h1 : 1 ≤ up) (h2 : up ≤ 2147483648) (h3 : 1 ≤ down) :
    IntKind.i64.wrap (h * up) = h * up ∧ (h * up).tmod 4294967296 = h * up % 4294967296 ∧ IntKind.i64.wrap (l.tdiv down) = l / down ∧ IntKind.i64.wrap (h * up % 4294967296 + l / down) = turnW h l up down := by
  have hm := mul_fits h up hh h1 h2
  have hq0 : 0 ≤ l / down := Int.ediv_nonneg hl.1 (by omega)
  have hq1 : l / down ≤ l := Int.ediv_le_self _ hl.1
  refine ⟨i64_fits _ hm.1 (by omega), Int.tmod_eq_emod_of_nonneg hm.1, ?_, ?_⟩
  · rw [Int.tdiv_eq_ediv_of_nonneg hl.1]
    exact i64_fits _ hq0 (by omega)
  · unfold turnW
    exact i64_fits _ (by omega) (by omega)

set_option maxHeartbeats 1000000 in
theorem l2Turn_small (h l n : Int) (w : World) (hh : 0 ≤ h ∧ h ≤ 4294967295) (hl : 0 ≤ l ∧ l ≤ 4294967295) (hn : 1 ≤ n) (hn2 : n ≤ 31) :
    Calls Tryd.prog 110 #[.agg #[.int .i64 h, .int .i64 l], .int .i64 n] w fun e w' => e = .returned (.agg #[.int .i64 (turnW h l (2 ^ n.toNat) (2 ^ (32 - n).toNat)), .int .i64 (turnW l h (2 ^ n.toNat) (2 ^ (32 - n).toNat))]) ∧ Below w.heap.size w w' := by
  have hne : (n == 0) = false := by rw [beq_eq_false_iff_ne]; omega
  have hu := pow_up n.toNat (by omega)
  have hd := pow_up (32 - n).toNat (by omega)
  have hu4 := hu.2.2.2 (by omega)
  have HU := hide hu
  have HD := hide hd
  clear hu hd
  go_enter Tryd.func110, Tryd.ntmps110
  go_wp2_with fail
  rw [(unhide HU).1, (unhide HD).1]
  have hu1 := (unhide HU).2.1
  have hd1 := (unhide HD).2.1
  generalize hgu : (2 : Int) ^ n.toNat = up at hu1 hu4
  generalize hgd : (2 : Int) ^ (32 - n).toNat = down at hd1
  have HGU := hide hgu
  have HGD := hide hgd
  clear hgu hgd HU HD
  obtain ⟨e1, e2, e3, e4⟩ := turn_facts h l up down hh hl hu1 hu4 hd1
  obtain ⟨f1, f2, f3, f4⟩ := turn_facts l h up down hl hh hu1 hu4 hd1
  have hdz : (down == 0) = false := by rw [beq_eq_false_iff_ne]; omega
  have HB : Hid (∀ o p, Below w.heap.size w ((w.alloc o).alloc p)) := fun o p => ((Below.refl _ _).alloc (Nat.le_refl _) o).alloc (by simp) p
  go_region
  all_goals
    go_wp2_with fail
    exact bodyPost_ret (v := .agg #[.int .i64 (turnW h l up down), .int .i64 (turnW l h up down)]) (by simp [results, Tryd.results110, go_sem]) rfl ⟨by rw [unhide HGU, unhide HGD], ((unhide HB) _ _).drew⟩

set_option maxHeartbeats 1000000 in
theorem l2Turn_zero (h l : Int) (w : World) :
    Calls Tryd.prog 110 #[.agg #[.int .i64 h, .int .i64 l], .int .i64 0] w fun e w' => e = .returned (.agg #[.int .i64 h, .int .i64 l]) ∧ Below w.heap.size w w' := by
  have HB : Hid (∀ o p, Below w.heap.size w ((w.alloc o).alloc p)) := fun o p => ((Below.refl _ _).alloc (Nat.le_refl _) o).alloc (by simp) p
  go_enter Tryd.func110, Tryd.ntmps110
  go_wp2_with fail
  exact bodyPost_ret (v := .agg #[.int .i64 h, .int .i64 l]) (by simp [results, Tryd.results110, go_sem]) rfl ⟨rfl, (unhide HB) _ _⟩

set_option maxHeartbeats 1000000 in
theorem l2Turn_big (h l n : Int) (w : World) (hh : 0 ≤ h ∧ h ≤ 4294967295) (hl : 0 ≤ l ∧ l ≤ 4294967295) (hn : 33 ≤ n) (hn2 : n ≤ 63) :
    Calls Tryd.prog 110 #[.agg #[.int .i64 h, .int .i64 l], .int .i64 n] w fun e w' => e = .returned (.agg #[.int .i64 (turnW l h (2 ^ (n - 32).toNat) (2 ^ (32 - (n - 32)).toNat)), .int .i64 (turnW h l (2 ^ (n - 32).toNat) (2 ^ (32 - (n - 32)).toNat))]) ∧ Below w.heap.size w w' := by
  have hne : (n - 32 == 0) = false := by rw [beq_eq_false_iff_ne]; omega
  have hu := pow_up (n - 32).toNat (by omega)
  have hd := pow_up (32 - (n - 32)).toNat (by omega)
  have hu4 := hu.2.2.2 (by omega)
  have HU := hide hu
  have HD := hide hd
  clear hu hd
  go_enter Tryd.func110, Tryd.ntmps110
  go_wp2_with fail
  rw [(unhide HU).1, (unhide HD).1]
  have hu1 := (unhide HU).2.1
  have hd1 := (unhide HD).2.1
  generalize hgu : (2 : Int) ^ (n - 32).toNat = up at hu1 hu4
  generalize hgd : (2 : Int) ^ (32 - (n - 32)).toNat = down at hd1
  have HGU := hide hgu
  have HGD := hide hgd
  clear hgu hgd HU HD
  obtain ⟨e1, e2, e3, e4⟩ := turn_facts h l up down hh hl hu1 hu4 hd1
  obtain ⟨f1, f2, f3, f4⟩ := turn_facts l h up down hl hh hu1 hu4 hd1
  have hdz : (down == 0) = false := by rw [beq_eq_false_iff_ne]; omega
  have HB : Hid (∀ o p, Below w.heap.size w ((w.alloc o).alloc p)) := fun o p => ((Below.refl _ _).alloc (Nat.le_refl _) o).alloc (by simp) p
  go_region
  all_goals
    go_wp2_with fail
    exact bodyPost_ret (v := .agg #[.int .i64 (turnW l h up down), .int .i64 (turnW h l up down)]) (by simp [results, Tryd.results110, go_sem]) rfl ⟨by rw [unhide HGU, unhide HGD], ((unhide HB) _ _).drew⟩

set_option maxHeartbeats 1000000 in
theorem l2Turn_half (h l : Int) (w : World) :
    Calls Tryd.prog 110 #[.agg #[.int .i64 h, .int .i64 l], .int .i64 32] w fun e w' => e = .returned (.agg #[.int .i64 l, .int .i64 h]) ∧ Below w.heap.size w w' := by
  have HB : Hid (∀ o p, Below w.heap.size w ((w.alloc o).alloc p)) := fun o p => ((Below.refl _ _).alloc (Nat.le_refl _) o).alloc (by simp) p
  go_enter Tryd.func110, Tryd.ntmps110
  go_wp2_with fail
  exact bodyPost_ret (v := .agg #[.int .i64 l, .int .i64 h]) (by simp [results, Tryd.results110, go_sem]) rfl ⟨rfl, (unhide HB) _ _⟩


/-- A lane turned by n bits: its two words. -/
def laneTurn (h l n : Int) : Int × Int :=
  if n = 0 then (h, l) else if n < 32 then (turnW h l (2 ^ n.toNat) (2 ^ (32 - n).toNat), turnW l h (2 ^ n.toNat) (2 ^ (32 - n).toNat))
  else if n = 32 then (l, h) else (turnW l h (2 ^ (n - 32).toNat) (2 ^ (32 - (n - 32)).toNat), turnW h l (2 ^ (n - 32).toNat) (2 ^ (32 - (n - 32)).toNat))

theorem l2Turn_any (h l n : Int) (w : World) (hh : 0 ≤ h ∧ h ≤ 4294967295) (hl : 0 ≤ l ∧ l ≤ 4294967295) (hn : 0 ≤ n) (hn2 : n ≤ 63) :
    Calls Tryd.prog 110 #[.agg #[.int .i64 h, .int .i64 l], .int .i64 n] w fun e w' => e = .returned (.agg #[.int .i64 (laneTurn h l n).1, .int .i64 (laneTurn h l n).2]) ∧ Below w.heap.size w w' := by
  unfold laneTurn
  by_cases h0 : n = 0
  · subst h0
    rw [if_pos rfl]
    exact l2Turn_zero h l w
  · rw [if_neg h0]
    by_cases h1 : n < 32
    · rw [if_pos h1]
      exact l2Turn_small h l n w hh hl (by omega) (by omega)
    · rw [if_neg h1]
      by_cases h2 : n = 32
      · subst h2
        rw [if_pos rfl]
        exact l2Turn_half h l w
      · rw [if_neg h2]
        exact l2Turn_big h l n w hh hl (by omega) hn2

end Go.Proofs.YtbncoiljklagkaaDoor

/- What is proved here: the model's xor of two lanes gives the xor of their words, and writes into no memory that was there. -/
namespace Go.Proofs.YtbncoiljklagkaaDoor
open Go.RowKit
set_option linter.unusedVariables false

/-- The xor of two words. -/
def xorW (a b : Int) : Int := bits .xor .i64 a b

set_option maxHeartbeats 1000000 in
theorem l2Xor_any (a b c d : Int) (w : World) :
    Calls Tryd.prog 77 #[.agg #[.int .i64 a, .int .i64 b], .agg #[.int .i64 c, .int .i64 d]] w fun e w' => e = .returned (.agg #[.int .i64 (xorW a c), .int .i64 (xorW b d)]) ∧ Below w.heap.size w w' := by
  have HB : Hid (∀ o p q, Below w.heap.size w (((w.alloc o).alloc p).alloc q)) := fun o p q => (((Below.refl _ _).alloc (Nat.le_refl _) o).alloc (by simp) p).alloc (by simp; omega) q
  go_enter Tryd.func77, Tryd.ntmps77
  go_wp2_with fail
  exact bodyPost_ret (v := .agg #[.int .i64 (xorW a c), .int .i64 (xorW b d)]) (by simp [results, Tryd.results77, go_sem, xorW]) rfl ⟨rfl, (unhide HB) _ _ _⟩

end Go.Proofs.YtbncoiljklagkaaDoor

/- What is proved here: one round of the model's mixing of a state. -/
namespace Go.Proofs.YtbncoiljklagkaaDoor
open Go.RowKit
set_option linter.unusedVariables false
attribute [local go_sem ↓] Go.wp_at_zero Go.wp_at_succ

/-- A block of numbers. -/
def Blk (w : World) (b : Nat) (L : List Int) (t : TypeId) : Prop := w.heap[b]? = some (.cells (L.map (Value.int .i64)).toArray t (0, 0))

theorem Blk.cell {w : World} {b : Nat} {L : List Int} {t : TypeId} (h : Blk w b L t) (i : Nat) (hi : i < L.length) : w.cell? ⟨b, i, none⟩ = some (.int .i64 (L.getD i 0)) := by
  simp [World.cell?, show w.heap[b]? = _ from h, hi]

theorem Blk.free {w : World} {b : Nat} {L : List Int} {t : TypeId} (h : Blk w b L t) (i : Nat) : w.frozen? ⟨b, i, none⟩ = false := frozen_of_row w b i _ t h

theorem Blk.set {w : World} {b : Nat} {L : List Int} {t : TypeId} (h : Blk w b L t) (i : Nat) (x : Int) : Blk (w.setCell ⟨b, i, none⟩ (.int .i64 x)) b (L.set i x) t := by
  have := heap_setCell_same w b i _ t (.int .i64 x) h
  unfold Blk
  rw [this]
  simp [List.map_set]

theorem Blk.other {w : World} {b b' : Nat} {L : List Int} {t : TypeId} (h : Blk w b L t) (i : Nat) (v : Value) (hb : b ≠ b') : Blk (w.setCell ⟨b', i, none⟩ v) b L t := by
  unfold Blk
  rw [heap_setCell_other w ⟨b', i, none⟩ b v hb]
  exact h

theorem Blk.lt {w : World} {b : Nat} {L : List Int} {t : TypeId} (h : Blk w b L t) : b < w.heap.size := lt_of_block h

theorem Blk.below {w w' : World} {b C : Nat} {L : List Int} {t : TypeId} (h : Blk w b L t) (hb : Below C w w') (hC : b < C) : Blk w' b L t := by
  unfold Blk
  rw [hb.block b hC]
  exact h

/-- The offsets of the lanes. -/
def offs : List Int := [0, 1, 62, 28, 27, 36, 44, 6, 55, 20, 3, 10, 43, 25, 39, 41, 45, 15, 21, 8, 18, 2, 61, 56, 14]

theorem there_blk {w : World} {b : Nat} {C : Array Value} {t : TypeId} (h : w.heap[b]? = some (.cells C t (0, 0))) (n : Nat) (hn : n = C.size) : w.there b 0 n := by
  intro j hj
  refine ⟨?_, frozen_of_row w b _ C t h⟩
  rw [Nat.zero_add, cell_of_row w b j C t _ h, Array.getElem?_eq_getElem (by omega)]
  rfl

/-- A whole row stored over a block is that row. -/
theorem setCells_all {b : Nat} {t : TypeId} : ∀ (vs pre post : List Value) (w : World), w.heap[b]? = some (.cells (pre ++ post).toArray t (0, 0)) → post.length = vs.length →
    (w.setCells b pre.length vs).heap[b]? = some (.cells (pre ++ vs).toArray t (0, 0))
  | [], pre, post, w, h, hl => by
    obtain rfl : post = [] := List.eq_nil_of_length_eq_zero (by simpa using hl)
    exact h
  | v :: r, pre, [], w, h, hl => by simp at hl
  | v :: r, pre, p :: post, w, h, hl => by
    have h1 := heap_setCell_same w b pre.length _ t v h
    have e : ((pre ++ p :: post).toArray.setIfInBounds pre.length v) = ((pre ++ [v]) ++ post).toArray := by
      rw [List.setIfInBounds_toArray]
      simp
    rw [e] at h1
    have ih := setCells_all r (pre ++ [v]) post (w.setCell ⟨b, pre.length, none⟩ v) h1 (by simpa using hl)
    have e2 : (pre ++ [v]).length = pre.length + 1 := by simp
    rw [e2] at ih
    show ((w.setCell ⟨b, pre.length, none⟩ v).setCells b (pre.length + 1) r).heap[b]? = _
    rw [ih]
    simp

theorem below_setCells {B : Nat} {w0 : World} (b : Nat) (hb : B ≤ b) : ∀ (vs : List Value) (o : Nat) (w : World), Below B w0 w → Below B w0 (w.setCells b o vs)
  | [], _, _, h => h
  | v :: r, o, w, h => below_setCells b hb r (o + 1) _ (h.setCell hb v)

theorem all_int (L : List Int) : (L.map (Value.int .i64)).toArray.all (·.oneCell') = true :=
  all_oneCell_toArray (fun v hv => by obtain ⟨x, _, rfl⟩ := List.mem_map.1 hv; rfl)

/-- A row of numbers stored whole over a block. -/
theorem Blk.store {w : World} {b : Nat} {L M : List Int} {t : TypeId} (h : Blk w b L t) (hl : L.length = M.length) : Blk (w.setCells b 0 (M.map (Value.int .i64))) b M t := by
  have := setCells_all (M.map (Value.int .i64)) [] (L.map (Value.int .i64)) w h (by simpa using hl)
  unfold Blk
  simpa using this

/-- A store by its run's equation. -/
theorem wpList_store_eq {P : Program} {ops : Array Oper} {rest : List Oper} {op : Oper} {a : Act} {w : World} {Q : Exit → Act → World → Prop} (hgd : op.guard = none) (ty : TypeId) (x y : Operand) (ho : op.op = .store ty x y)
    (p v : Value) (hx : a.eval x = p) (hy : a.eval y = v) (w2 : World) (hrun : (Instr.storeAt ty p v).run P w = .ok () w2) (h : wpList P ops Q rest (a.put op.dst undef) w2) : wpList P ops Q (op :: rest) a w :=
  wpList_plain hgd fun _ hK => by
    unfold Oper.wp execOp
    simp only [ho, hx, hy, Sem.run_bind, hrun, Sem.run_pure, Result.andThen_ok]
    exact hK _ _ h

set_option maxRecDepth 100000 in
set_option maxHeartbeats 2000000 in
theorem offs_any (w : World) : Calls Tryd.prog 109 #[] w fun e w' => e = .returned (.agg (offs.map (Value.int .i64)).toArray) ∧ Below w.heap.size w w' := by
  obtain ⟨w1, hw1⟩ : ∃ w1, w1 = w.alloc (.cells ((List.replicate 25 (0 : Int)).map (Value.int .i64)).toArray 104) := ⟨_, rfl⟩
  have hb0 : Blk w1 w.heap.size (List.replicate 25 (0 : Int)) 104 := by
    rw [hw1]
    show (w.heap.push _)[w.heap.size]? = _
    simp
  have hbel : Below w.heap.size w w1 := by rw [hw1]; exact below_alloc w _
  obtain ⟨w2, hw2⟩ : ∃ w2, w2 = w1.setCells w.heap.size 0 (offs.map (Value.int .i64)) := ⟨_, rfl⟩
  have hb2 : Blk w2 w.heap.size offs 104 := by rw [hw2]; exact hb0.store rfl
  have hbel2 : Below w.heap.size w w2 := by rw [hw2]; exact below_setCells _ (Nat.le_refl _) _ _ _ hbel
  have hst : (Instr.storeAt 104 (.pointer (some ⟨w.heap.size, 0, none⟩)) (.agg (offs.map (Value.int .i64)).toArray)).run Tryd.prog w1 = .ok () w2 := by
    rw [run_storeAt_mid w1 w.heap.size 0 104 (offs.map (Value.int .i64)).toArray (there_blk hb0 _ rfl) (by kernel_rfl) (all_int offs), hw2]
  have hst2 : (Instr.storeAt 104 (.pointer (some ⟨w.heap.size, 0, none⟩)) (.agg #[.int .i64 0, .int .i64 1, .int .i64 62, .int .i64 28, .int .i64 27, .int .i64 36, .int .i64 44, .int .i64 6, .int .i64 55, .int .i64 20, .int .i64 3, .int .i64 10, .int .i64 43, .int .i64 25, .int .i64 39, .int .i64 41, .int .i64 45, .int .i64 15, .int .i64 21, .int .i64 8, .int .i64 18, .int .i64 2, .int .i64 61, .int .i64 56, .int .i64 14])).run Tryd.prog w1 = .ok () w2 := hst
  have hfold : w.alloc (.cells #[.int .i64 0, .int .i64 0, .int .i64 0, .int .i64 0, .int .i64 0, .int .i64 0, .int .i64 0, .int .i64 0, .int .i64 0, .int .i64 0, .int .i64 0, .int .i64 0, .int .i64 0, .int .i64 0, .int .i64 0, .int .i64 0, .int .i64 0, .int .i64 0, .int .i64 0, .int .i64 0, .int .i64 0, .int .i64 0, .int .i64 0, .int .i64 0, .int .i64 0] 104) = w1 := by rw [hw1]; rfl
  have HST := hide hst2
  have HFO := hide hfold
  have HB2 := hide hb2
  have HBE := hide hbel2
  have HW1 := hide hw1
  clear hst hst2 hfold hb2 hbel2 hb0 hbel hw2 hw1
  go_enter Tryd.func109, Tryd.ntmps109
  go_upto_region 1 with fail
  rw [unhide HFO]
  go_wp2_with (refine wpList_store_eq rfl 104 (.tmp 0) (.tmp 1) rfl _ _ rfl rfl w2 (unhide HST) ?_)
  exact bodyPost_ret (results_cell_row rfl _ _ w.heap.size 104 _ (0, 0) _ rfl (unhide HB2) Tryd.underlying104 rfl (by kernel_rfl)) rfl ⟨rfl, unhide HBE⟩

theorem Blk.new (w : World) (L : List Int) (t : TypeId) : Blk (w.alloc (.cells (L.map (Value.int .i64)).toArray t)) w.heap.size L t := by
  show (w.heap.push _)[w.heap.size]? = _
  simp

end Go.Proofs.YtbncoiljklagkaaDoor

/- What is proved here: blocks of lanes in a world (64 unsigned bits each), read and written; they hold for every program. -/
namespace Go.Proofs.YtbncoiljklagkaaDoor
open Go.RowKit
set_option linter.unusedVariables false

/-- Lanes as values. -/
def vals (Z : List Nat) : List Value := Z.map fun (a : Nat) => Value.int .u64 (a : Int)

/-- A block of lanes. -/
def UBlk (w : World) (b : Nat) (Z : List Nat) (t : TypeId) : Prop := w.heap[b]? = some (.cells (vals Z).toArray t (0, 0))

theorem UBlk.cell {w : World} {b : Nat} {Z : List Nat} {t : TypeId} (h : UBlk w b Z t) (i : Nat) (hi : i < Z.length) : w.cell? ⟨b, i, none⟩ = some (.int .u64 (Z.getD i 0 : Int)) := by
  simp [World.cell?, show w.heap[b]? = _ from h, hi, vals]

theorem UBlk.free {w : World} {b : Nat} {Z : List Nat} {t : TypeId} (h : UBlk w b Z t) (i : Nat) : w.frozen? ⟨b, i, none⟩ = false := frozen_of_row w b i _ t h

theorem UBlk.set {w : World} {b : Nat} {Z : List Nat} {t : TypeId} (h : UBlk w b Z t) (i v : Nat) : UBlk (w.setCell ⟨b, i, none⟩ (.int .u64 (v : Int))) b (Z.set i v) t := by
  have := heap_setCell_same w b i _ t (.int .u64 (v : Int)) h
  unfold UBlk
  rw [this]
  simp [vals, List.map_set]

theorem UBlk.other {w : World} {b b' : Nat} {Z : List Nat} {t : TypeId} (h : UBlk w b Z t) (i : Nat) (v : Value) (hb : b ≠ b') : UBlk (w.setCell ⟨b', i, none⟩ v) b Z t := by
  unfold UBlk
  rw [heap_setCell_other w ⟨b', i, none⟩ b v hb]
  exact h

theorem UBlk.lt {w : World} {b : Nat} {Z : List Nat} {t : TypeId} (h : UBlk w b Z t) : b < w.heap.size := lt_of_block h

theorem UBlk.below {w w' : World} {b C : Nat} {Z : List Nat} {t : TypeId} (h : UBlk w b Z t) (hb : Below C w w') (hC : b < C) : UBlk w' b Z t := by
  unfold UBlk
  rw [hb.block b hC]
  exact h

theorem UBlk.new (w : World) (Z : List Nat) (t : TypeId) : UBlk (w.alloc (.cells (vals Z).toArray t)) w.heap.size Z t := by
  show (w.heap.push _)[w.heap.size]? = _
  simp

theorem UBlk.next {w : World} {b : Nat} {Z : List Nat} {t : TypeId} (h : UBlk w b Z t) (o : Obj) : UBlk (w.alloc o) b Z t := h.below (below_alloc w o) h.lt

theorem all_u (Z : List Nat) : (vals Z).toArray.all (·.oneCell') = true :=
  all_oneCell_toArray (fun v hv => by obtain ⟨x, _, rfl⟩ := List.mem_map.1 hv; rfl)

end Go.Proofs.YtbncoiljklagkaaDoor

/- What is proved here: a row of lanes loaded and stored whole, by its run's equation. -/
namespace Go.Proofs.YtbncoiljklagkaaDoor
open Go.RowKit
set_option linter.unusedVariables false

/-- A load by its run's equation. -/
theorem wpList_load_eq {P : Program} {ops : Array Oper} {rest : List Oper} {op : Oper} {a : Act} {w : World} {Q : Exit → Act → World → Prop} (hgd : op.guard = none) (ty : TypeId) (x : Operand) (ho : op.op = .load ty x)
    (p v : Value) (hx : a.eval x = p) (hrun : (Instr.loadAt ty p).run P w = .ok v w) (h : wpList P ops Q rest (a.put op.dst v) w) : wpList P ops Q (op :: rest) a w :=
  wpList_plain hgd fun _ hK => by
    unfold Oper.wp execOp
    simp only [ho, hx, Sem.run_bind, hrun, Sem.run_pure, Result.andThen_ok]
    exact hK _ _ h

theorem vals_length (Z : List Nat) : (vals Z).length = Z.length := by simp [vals]

theorem UBlk.range {w : World} {b : Nat} {Z : List Nat} {t : TypeId} (h : UBlk w b Z t) : w.rangeAt b 0 (vals Z) := by
  intro j v hj
  rw [Nat.zero_add, cell_of_row w b j _ t _ h]
  simpa using hj

/-- A whole state loaded. -/
theorem load25 {w : World} {b : Nat} {Z : List Nat} (h : UBlk w b Z 72) (hz : Z.length = 25) : (Instr.loadAt 72 (.pointer (some ⟨b, 0, none⟩))).run Tryd.prog w = .ok (.agg (vals Z).toArray) w :=
  run_loadAt_mid (P := Tryd.prog) w b 0 72 (vals Z) _ h.range Tryd.underlying72 rfl (by rw [vals_length, hz]; kernel_rfl)

/-- A whole state stored over another one. -/
theorem store25 {w : World} {b : Nat} {Y Z : List Nat} (h : UBlk w b Y 72) (hy : Y.length = 25) (hz : Z.length = 25) :
    ∃ W, (Instr.storeAt 72 (.pointer (some ⟨b, 0, none⟩)) (.agg (vals Z).toArray)).run Tryd.prog w = .ok () W ∧ UBlk W b Z 72 ∧ (∀ C, C ≤ b → Below C w W) ∧ (∀ c, c ≠ b → W.heap[c]? = w.heap[c]?) := by
  have hsz : (vals Z).toArray.size = 25 := by simp [vals, hz]
  refine ⟨w.setCells b 0 (vals Z), run_storeAt_mid (P := Tryd.prog) w b 0 72 (vals Z).toArray (there_blk h _ (by simp [vals, hz, hy])) (by rw [hsz]; kernel_rfl) (all_u Z), ?_, ?_, ?_⟩
  · have := setCells_all (vals Z) [] (vals Y) w h (by rw [vals_length, vals_length, hy, hz])
    unfold UBlk
    simpa using this
  · intro C hC
    exact below_setCells b hC _ _ _ (Below.refl _ _)
  · intro c hc
    have : ∀ (vs : List Value) (o : Nat) (W : World), (W.setCells b o vs).heap[c]? = W.heap[c]? := by
      intro vs
      induction vs with
      | nil => intro o W; rfl
      | cons v r ih => intro o W; exact (ih (o + 1) _).trans (heap_setCell_other W ⟨b, o, none⟩ c v hc)
    exact this _ _ _

end Go.Proofs.YtbncoiljklagkaaDoor

/- What is proved here: plain facts on slices of int64 in a world, used by the walks of this seat; they hold for every program. -/
namespace Go.Proofs.YtbncoiljklagkaaDoor
open Go.RowKit
set_option linter.unusedVariables false

/-- The slice 'a', of 'len' elements, reads as the numbers 'zs' in the world 'w'. -/
def IRow (w : World) (a : Option Addr) (len : Nat) (zs : List Int) : Prop :=
  zs.length = len ∧ True ∧ (a = none → len = 0) ∧ ∀ x, a = some x → ∀ i, i < len → w.cell? (x.add i) = some (.int .i64 (zs.getD i 0))

theorem IRow.at {w : World} {a : Option Addr} {len : Nat} {zs : List Int} (h : IRow w a len zs) (hp : 0 < len) :
    ∃ b off, a = some ⟨b, off, none⟩ ∧ b < w.heap.size ∧ ∀ i, i < len → w.cell? ⟨b, off + i, none⟩ = some (.int .i64 (zs.getD i 0)) := by
  obtain ⟨h1, h2, h3, h4⟩ := h
  match a, h3, h4 with
  | none, h3, _ => have := h3 rfl; omega
  | some x, _, h4 =>
    obtain ⟨b, off, spot⟩ := x
    have hc := h4 _ rfl 0 hp
    have hspot : spot = none := by simpa [Addr.add] using World.cell?_spot hc
    subst hspot
    refine ⟨b, off, rfl, lt_of_cell (p := _) hc, fun i hi => ?_⟩
    have := h4 _ rfl i hi
    rwa [add_none] at this

theorem IRow.below {w w' : World} {a : Option Addr} {len : Nat} {zs : List Int} (h : IRow w a len zs) {B : Nat} (hb : Below B w w') (hB : w.heap.size ≤ B) : IRow w' a len zs := by
  refine ⟨h.1, h.2.1, h.2.2.1, fun x hx i hi => ?_⟩
  have hc := h.2.2.2 x hx i hi
  rw [hb.cell (Nat.lt_of_lt_of_le (lt_of_cell hc) hB)]
  exact hc

/-- What the call owns reads as numbers. -/
theorem IRow.own {w : World} {B g cap n : Nat} {e : TypeId} {zs : List Int} (h : w.ownsRow B e 1 (.slice (some ⟨g, 0, none⟩) n cap) n (zs.map (Value.int .i64))) :
    IRow w (some ⟨g, 0, none⟩) n zs := by
  have hl : zs.length = n := by simpa using h.1
  refine ⟨hl, trivial, fun e => (by cases e), fun x hx i hi => ?_⟩
  cases hx
  have := h.cellAt i (by omega)
  rw [add_none, Nat.zero_add, this]
  simp [List.getElem?_map, List.getD_eq_getElem?_getD, List.getElem?_eq_getElem (by omega : i < zs.length)]

/-- One number more of a row that is being filled. -/
theorem ifill_step (zs : List Int) (len k : Nat) (hl : zs.length = len) (hk : k < len) :
    ((zs.take k ++ List.replicate (len - k) 0).map (Value.int .i64)).set k (.int .i64 (zs.getD k 0)) = (zs.take (k + 1) ++ List.replicate (len - (k + 1)) 0).map (Value.int .i64) := by
  rw [← List.map_set]
  congr 1
  have e : len - k = (len - (k + 1)) + 1 := by omega
  have hk' : (zs.take k).length = k := by simp; omega
  rw [e, List.replicate_succ, List.set_append, if_neg (by omega), hk', Nat.sub_self, List.set_cons_zero]
  rw [List.take_succ_eq_append_getElem (by omega), List.getD_eq_getElem?_getD, List.getElem?_eq_getElem (by omega : k < zs.length), List.append_assoc]
  rfl

theorem IRow.own2 {w : World} {B n cap : Nat} {a : Option Addr} {e : TypeId} {zs : List Int} (h : w.ownsRow B e 1 (.slice a n cap) n (zs.map (Value.int .i64))) : IRow w a n zs := by
  rcases h.2 with ⟨h1, h2⟩ | ⟨g, cap', cur, h1, _⟩
  · simp only [Value.slice.injEq] at h1
    obtain ⟨rfl, rfl, rfl⟩ := h1
    have hl : zs.length = 0 := by simpa using h.1
    exact ⟨hl, trivial, fun _ => rfl, fun x hx => by cases hx⟩
  · simp only [Value.slice.injEq] at h1
    obtain ⟨rfl, _, rfl⟩ := h1
    exact IRow.own h

/-- The imarks k0, k0 + 1, .. that are written into n numbers. -/
def imarks (k0 : Int) (n : Nat) : List Int := (List.range n).map fun (i : Nat) => k0 + (i : Int)

theorem imarks_length (k0 : Int) (n : Nat) : (imarks k0 n).length = n := by simp [imarks]

theorem imarks_succ (k0 : Int) (n : Nat) : imarks k0 (n + 1) = imarks k0 n ++ [k0 + (n : Int)] := by simp [imarks, List.range_succ]

theorem imark_step (k0 : Int) (zs : List Int) (n k : Nat) (hl : zs.length = n) (hk : k < n) :
    ((imarks k0 k ++ zs.drop k).map (Value.int .i64)).set k (.int .i64 (k0 + (k : Int))) = (imarks k0 (k + 1) ++ zs.drop (k + 1)).map (Value.int .i64) := by
  rw [← List.map_set]
  congr 1
  rw [List.drop_eq_getElem_cons (by omega), List.set_append, if_neg (by rw [imarks_length]; omega), imarks_length, Nat.sub_self, List.set_cons_zero, imarks_succ, List.append_assoc]
  rfl

theorem imarks_at (k0 : Int) (n k : Nat) (h : k < n) : (imarks k0 n).getD k 0 = k0 + (k : Int) := by
  rw [getD_at _ _ (by rw [imarks_length]; exact h)]
  simp [imarks]

/-- What the shell's reading of an argument gives. -/
theorem irow_of {w : World} {a : Option Addr} {len cap : Nat} {zs : List Int}
    (h : (a = none ∧ len = 0 ∧ cap = 0 ∧ zs = []) ∨ ∃ x, a = some x ∧ len ≤ cap ∧ cap ≤ maxLen ∧ zs.length = cap ∧ (∀ i, i < zs.length → w.cell? (x.add i) = some (.int .i64 (zs.getD i 0))) ∧ ∀ n ∈ zs, (Lit.int .i64 n).wf = true) :
    IRow w a len (zs.take len) := by
  rcases h with ⟨rfl, rfl, rfl, rfl⟩ | ⟨x, rfl, hl, _, hz, hc, hw⟩
  · exact ⟨rfl, trivial, fun _ => rfl, fun x hx => by cases hx⟩
  · refine ⟨by simp; omega, trivial, fun e => (by cases e), fun y hy i hi => ?_⟩
    cases hy
    rw [hc i (by omega)]
    rw [getD_at _ i (by omega), getD_at _ i (by simp; omega), List.getElem_take]

end Go.Proofs.YtbncoiljklagkaaDoor

/- What is proved here: what the model's l1In answers: whether a number lies within two bounds. -/
namespace Go.Proofs.YtbncoiljklagkaaDoor
open Go.RowKit
set_option linter.unusedVariables false

theorem in_yes (v lo hi : Int) (w : World) (h0 : lo ≤ v) (h1 : v ≤ hi) : Calls Tryd.prog 56 #[.int .i64 v, .int .i64 lo, .int .i64 hi] w fun e w' => e = .returned (.bool true) ∧ w' = w := by
  have e0 : decide (lo ≤ v) = true := decide_eq_true h0
  have e1 : decide (v ≤ hi) = true := decide_eq_true h1
  go_enter Tryd.func56, Tryd.ntmps56
  go_wp2
  go_ret
  exact ⟨ret_bool (by simp), rfl⟩

set_option maxHeartbeats 1000000 in
theorem in_no (v lo hi : Int) (w : World) (h : v < lo ∨ hi < v) : Calls Tryd.prog 56 #[.int .i64 v, .int .i64 lo, .int .i64 hi] w fun e w' => e = .returned (.bool false) ∧ w' = w := by
  by_cases h0 : lo ≤ v
  · have e0 : decide (lo ≤ v) = true := decide_eq_true h0
    have e1 : decide (v ≤ hi) = false := decide_eq_false (by omega)
    go_enter Tryd.func56, Tryd.ntmps56
    go_wp2
    go_ret
    exact ⟨ret_bool (by simp), rfl⟩
  · have e0 : decide (lo ≤ v) = false := decide_eq_false h0
    go_enter Tryd.func56, Tryd.ntmps56
    go_wp2
    go_ret
    exact ⟨ret_bool (by simp), rfl⟩

/-- Whether a number is a word. -/
def isWord (v : Int) : Bool := decide (0 ≤ v ∧ v ≤ 4294967295)

theorem in_any (v lo hi : Int) (w : World) : Calls Tryd.prog 56 #[.int .i64 v, .int .i64 lo, .int .i64 hi] w fun e w' => e = .returned (.bool (decide (lo ≤ v ∧ v ≤ hi))) ∧ w' = w := by
  by_cases h : lo ≤ v ∧ v ≤ hi
  · rw [decide_eq_true h]; exact in_yes v lo hi w h.1 h.2
  · rw [decide_eq_false h]; exact in_no v lo hi w (by omega)

end Go.Proofs.YtbncoiljklagkaaDoor

/- What is proved here: what the model's TurnLane answers for every three numbers: the code and the two words, in new memory. -/
namespace Go.Proofs.YtbncoiljklagkaaDoor
open Go.RowKit
set_option linter.unusedVariables false

/-- The code and the words of TurnLane. -/
def tlOk (h l n : Int) : Bool := isWord h && isWord l && decide (0 ≤ n ∧ n ≤ 63)
def tlCode (h l n : Int) : Int := if tlOk h l n then 0 else 3
def tlList (h l n : Int) : List Int := if tlOk h l n then [(laneTurn h l n).1, (laneTurn h l n).2] else []

theorem tlList_length (h l n : Int) : (tlList h l n).length ≤ 2 := by unfold tlList; split <;> simp

end Go.Proofs.YtbncoiljklagkaaDoor

/- What is proved here: the program's small functions on lanes: whether a number is a word, a lane of two words, its two words, a lane turned. -/
namespace Go.Proofs.YtbncoiljklagkaaDoor
open Go.RowKit
set_option linter.unusedVariables false

theorem wraps_u64 (n : Int) (h₀ : 0 ≤ n) (h₁ : n < 2 ^ 64) : IntKind.u64.wrap n = n := by rw [IntKind.wrap_u64]; omega

theorem or_join (x y : Nat) (i : Nat) (hx : x % 2 ^ i = 0) (hy : y < 2 ^ i) (hs : x < 18446744073709551616) (hy2 : y < 18446744073709551616) : bits .or .u64 (x : Int) (y : Int) = ((x + y : Nat) : Int) := by
  have := bits_join .u64 64 (by decide) wraps_u64 i (x : Int) (y : Int) (by omega) (by exact_mod_cast hx) (by omega) (by omega) (by exact_mod_cast hy) (by omega)
  rw [this]; simp

set_option maxHeartbeats 1000000 in
theorem rotl_any (a n : Nat) (ha : a < 18446744073709551616) (hn : n ≤ 63) (w : World) :
    Calls Tryd.prog 111 #[.int .u64 (a : Int), .int .i64 (n : Int)] w fun e w' => e = .returned (.int .u64 (rotL a n : Int)) ∧ w' = w := by
  have hm : bits .and .u64 (n : Int) 63 = (n : Int) := by
    have := bits_mask .u64 64 (by decide) wraps_u64 6 (by decide) (n : Int) (by omega) (by omega)
    rw [show (2 : Int) ^ 6 - 1 = 63 by decide] at this
    rw [this, show (2 : Int) ^ 6 = 64 by decide]
    omega
  go_enter Tryd.func111, Tryd.ntmps111
  go_wp2_with fail
  go_ret
  refine ⟨ret_int ?_, rfl⟩
  have hP : 2 ^ (64 - n) * 2 ^ n = 18446744073709551616 := by rw [← pow_split, show (64 - n) + n = 64 by omega]
  have q : a / 2 ^ (64 - n) < 2 ^ n := by rw [Nat.div_lt_iff_lt_mul (Nat.two_pow_pos _), Nat.mul_comm, hP]; exact ha
  have r1 : a * 2 ^ n % 18446744073709551616 % 2 ^ n = 0 := by
    rw [← hP, Nat.mod_mul_left_mod]; exact Nat.mul_mod_left _ _
  have := or_join (a * 2 ^ n % 18446744073709551616) (a / 2 ^ (64 - n)) n r1 q (by omega) (Nat.lt_of_le_of_lt (Nat.div_le_self _ _) ha)
  rw [IntKind.wrap_u64]
  unfold rotL
  rw [← this]
  simp

end Go.Proofs.YtbncoiljklagkaaDoor

/- What is proved here: the program's step that moves and turns the lanes, told by lanes; the variable of the offsets reads as the program's text lays it. -/
namespace Go.Proofs.YtbncoiljklagkaaDoor
open Go.RowKit
set_option linter.unusedVariables false
attribute [local go_sem ↓] Go.wp_at_zero Go.wp_at_succ

/-- The two variables read as the program's text lays them (the blocks 0 and 1 are theirs). -/
def Laid (w : World) : Prop := (2 ≤ w.heap.size) ∧ (∀ i, i < 24 → w.cell? ⟨0, i, none⟩ = some (.int .u64 (rcs.getD i 0 : Int))) ∧ ∀ i, i < 25 → w.cell? ⟨1, i, none⟩ = some (.int .i64 (offN.getD i 0 : Int))

theorem Laid.below {w w' : World} (h : Laid w) {B : Nat} (hb : Below B w w') (hB : w.heap.size ≤ B) : Laid w' := by
  have hsz := hb.size
  have h2 := h.1
  refine ⟨by omega, fun i hi => ?_, fun i hi => ?_⟩
  · rw [hb.cell (p := ⟨0, i, none⟩) (by show 0 < B; omega)]; exact h.2.1 i hi
  · rw [hb.cell (p := ⟨1, i, none⟩) (by show 1 < B; omega)]; exact h.2.2 i hi

set_option maxRecDepth 100000 in
set_option maxHeartbeats 1000000 in
theorem move_any (T : List Nat) (hT : Lanes T) (w : World) (hv : Laid w) :
    Calls Tryd.prog 103 #[.agg (vals T).toArray] w fun e w' => e = .returned (.agg (vals (bAt T 25)).toArray) ∧ Below w.heap.size w w' := by
  have HTL := hide hT
  have HVV := hide hv
  have tlen := hT.1
  have w2s := hv.1
  clear hT hv
  generalize hM : bAt T 25 = M
  have HM := hide hM
  clear hM
  generalize hV : vals T = V
  have HV := hide hV
  clear hV
  go_enter Tryd.func103, Tryd.ntmps103
  go_upto_block 0 with fail
  obtain ⟨w1, hw1⟩ : ∃ w1, w1 = ((w.alloc (.cells V.toArray 72)).alloc (.cells (vals (List.replicate 25 0)).toArray 72)).alloc (.cells (vals (List.replicate 25 0)).toArray 72) := ⟨_, rfl⟩
  have e1 : ((w.alloc (.cells V.toArray 72)).alloc (.cells #[.int .u64 0, .int .u64 0, .int .u64 0, .int .u64 0, .int .u64 0, .int .u64 0, .int .u64 0, .int .u64 0, .int .u64 0, .int .u64 0, .int .u64 0, .int .u64 0, .int .u64 0, .int .u64 0, .int .u64 0, .int .u64 0, .int .u64 0, .int .u64 0, .int .u64 0, .int .u64 0, .int .u64 0, .int .u64 0, .int .u64 0, .int .u64 0, .int .u64 0] 72)).alloc (.cells #[.int .u64 0, .int .u64 0, .int .u64 0, .int .u64 0, .int .u64 0, .int .u64 0, .int .u64 0, .int .u64 0, .int .u64 0, .int .u64 0, .int .u64 0, .int .u64 0, .int .u64 0, .int .u64 0, .int .u64 0, .int .u64 0, .int .u64 0, .int .u64 0, .int .u64 0, .int .u64 0, .int .u64 0, .int .u64 0, .int .u64 0, .int .u64 0, .int .u64 0] 72) = w1 := by rw [hw1]; rfl
  rw [e1]
  have G1 : Below w.heap.size w w1 := by rw [hw1]; exact ((below_alloc w _).alloc (by simp) _).alloc (by simp; omega) _
  have S1 : UBlk w1 w.heap.size T 72 := by
    rw [hw1, ← unhide HV]
    exact ((UBlk.new w T _).next _).next _
  have R1 : UBlk w1 (w.heap.size + 1) (List.replicate 25 0) 72 := by
    have := (UBlk.new (w.alloc (.cells V.toArray 72)) (List.replicate 25 0) 72).next (.cells (vals (List.replicate 25 0)).toArray 72)
    rw [hw1]
    simpa using this
  have O1 : UBlk w1 (w.heap.size + 1 + 1) (bAt T 0) 72 := by
    have := UBlk.new ((w.alloc (.cells V.toArray 72)).alloc (.cells (vals (List.replicate 25 0)).toArray 72)) (List.replicate 25 0) 72
    have hs : ((w.alloc (.cells V.toArray 72)).alloc (.cells (vals (List.replicate 25 0)).toArray 72)).heap.size = w.heap.size + 1 + 1 := by simp
    rw [hs, ← hw1] at this
    exact this
  obtain ⟨q, hq⟩ : ∃ q, q = w.heap.size + 1 + 1 := ⟨_, rfl⟩
  rw [← hq] at O1 ⊢
  have D1 : w.heap.size + 1 < q := by omega
  clear hq
  have HS := hide S1
  have HR := hide R1
  have HO := hide O1
  have HG := hide G1
  clear e1 hw1 S1 R1 O1 G1
  go_wp2_with fail
  go_loopw [8] (fun c wr => ∃ Y : Nat, Y ≤ 5 ∧ c = .int .i64 Y ∧ UBlk wr w.heap.size T 72 ∧ UBlk wr (w.heap.size + 1) (List.replicate 25 0) 72 ∧ UBlk wr (q) (bAt T (5 * Y)) 72 ∧ Below w.heap.size w wr)
    (fun c _ => 5 - (intOf c).toNat)
  case atStart => exact ⟨0, by omega, rfl, unhide HS, unhide HR, unhide HO, unhide HG⟩
  case round =>
    obtain ⟨Y, hY, rfl, hS, hR, hO, hG⟩ := hrel
    clear HS HR HO HG
    have HS := hide hS
    have HR := hide hR
    have HO := hide hO
    have HG := hide hG
    clear hS hR hO hG
    by_cases hlt : Y < 5
    · have hdk : decide ((Y : Int) < 5) = true := decide_eq_true (by omega)
      go_wp2_with fail
      go_loopw [11] (fun c wr => ∃ X : Nat, X ≤ 5 ∧ c = .int .i64 X ∧ UBlk wr w.heap.size T 72 ∧ UBlk wr (w.heap.size + 1) (List.replicate 25 0) 72 ∧ UBlk wr (q) (bAt T (5 * Y + X)) 72 ∧ Below w.heap.size w wr)
        (fun c _ => 5 - (intOf c).toNat)
      case atStart => exact ⟨0, by omega, rfl, unhide HS, unhide HR, unhide HO, unhide HG⟩
      case round =>
        obtain ⟨X, hX, rfl, hS, hR, hO, hG⟩ := hrel
        clear HS HR HO HG
        by_cases hx5 : X < 5
        · have hdx : decide ((X : Int) < 5) = true := decide_eq_true (by omega)
          obtain ⟨k, hk⟩ : ∃ k, k = 5 * Y + X := ⟨_, rfl⟩
          rw [← hk] at hO
          obtain ⟨r, hr⟩ : ∃ r, r = (2 * X + 3 * Y) % 5 := ⟨_, rfl⟩
          obtain ⟨p, hp⟩ : ∃ p, p = Y + 5 * r := ⟨_, rfl⟩
          have hpos : posOf k = p := by
            unfold posOf
            rw [show k % 5 = X by omega, show k / 5 = Y by omega, ← hr, ← hp]
          have hbl := bAt_lanes (unhide HTL) k
          have c0 := hS.cell k (by omega)
          have n0 := hO.cell p (by rw [hbl.1]; omega)
          have f0 := hO.free p
          have hl0 := (((unhide HVV).below hG (Nat.le_refl _)).2.2) k (by omega)
          have hoff := offN_le k
          have lt0 : T.getD k 0 < 18446744073709551616 := getD_lt (unhide HTL).2 (by decide) _
          have hsucc := bAt_succ T k
          rw [hpos] at hsucc
          generalize T.getD k 0 = v at c0 hsucc lt0
          generalize offN.getD k 0 = n at hl0 hsucc hoff
          generalize (bAt T k).getD p 0 = u at n0
          have HO5 := hide (hO.set p (rotL v n))
          rw [← hsucc] at HO5
          have HS5 := hide (hS.other (b' := q) p (.int .u64 (rotL v n : Int)) (by omega))
          have HR5 := hide (hR.other (b' := q) p (.int .u64 (rotL v n : Int)) (by omega))
          have HG5 := hide (hG.setCell (p := ⟨q, p, none⟩) (by show w.heap.size ≤ q; omega) (.int .u64 (rotL v n : Int)))
          have HRT := hide (rotl_any v n lt0 hoff)
          have ek : (X : Int) + 5 * (Y : Int) = (k : Int) := by omega
          have er : (2 * (X : Int) + 3 * (Y : Int)).tmod 5 = (r : Int) := by rw [Int.tmod_eq_emod_of_nonneg (by omega)]; omega
          have er' : (2 * (X : Int) + 3 * (Y : Int)) % 5 = (r : Int) := by omega
          have ep : (Y : Int) + 5 * (r : Int) = (p : Int) := by omega
          have i0 : (k : Int) < 25 := by omega
          have i1 : (p : Int) < 25 := by omega
          have hk' : 5 * Y + (X + 1) = k + 1 := by omega
          have HK' := hide hk'
          clear hS hR hO hG hsucc hk hr hp hk' hpos hbl hoff lt0
          go_wp2_with fail
          go_region_with (go_at_call 111; refine ((unhide HRT) _).mono ?_; rintro e w' ⟨rfl, rfl⟩)
          all_goals
            go_wp2_with fail
            go_roundw
            case rel => exact ⟨X + 1, by omega, by go_num, unhide HS5, unhide HR5, by rw [unhide HK']; exact unhide HO5, (unhide HG5).drew⟩
            case measure => simp [intOf]; omega
        · obtain rfl : X = 5 := by omega
          have hdx : decide (((5 : Nat) : Int) < 5) = false := rfl
          have hO' : UBlk wr (q) (bAt T (5 * (Y + 1))) 72 := hO
          go_wp2_with fail
          go_roundw
          case rel => exact ⟨Y + 1, by omega, by go_num, hS, hR, hO', hG⟩
          case measure => simp [intOf]; omega
    · obtain rfl : Y = 5 := by omega
      have hdk : decide (((5 : Nat) : Int) < 5) = false := rfl
      have clen := (bAt_lanes (unhide HTL) 25).1
      have hO : UBlk wr q (bAt T 25) 72 := unhide HO
      rw [unhide HM] at clen hO
      have HLD := hide (load25 hO clen)
      obtain ⟨w3, hst, R3, K3, _⟩ := store25 (unhide HR) (by simp) clen
      have HST := hide hst
      have HR3 := hide R3
      have HG3 := hide ((unhide HG).trans (K3 w.heap.size (by omega)))
      clear hO hst R3 K3 HS HO HG HR
      go_wp2_with (first | refine wpList_load_eq rfl 72 _ rfl _ _ rfl (unhide HLD) ?_ | refine wpList_store_eq rfl 72 _ _ rfl _ _ rfl rfl w3 (unhide HST) ?_)
      exact bodyPost_ret (results_cell_row rfl _ _ (w.heap.size + 1) 72 _ (0, 0) _ rfl (unhide HR3) Tryd.underlying72 rfl (by rw [List.size_toArray, vals_length, clen]; kernel_rfl)) rfl ⟨rfl, unhide HG3⟩

end Go.Proofs.YtbncoiljklagkaaDoor

/- What is proved here: what the row's condition on its two listed variables gives the walks: their cells. -/
namespace Go.Proofs.YtbncoiljklagkaaDoor
open Go.ChangeShapes Go.WideShapes Go.ChangeAt Go.WideElems Go.RowKit
set_option linter.unusedVariables false

/-- The two listed variables, as the rows list them. -/
def laid2 : List (String × DataW Unit) := [("loop.example/g00383/impl.laneOffsets", Rows.laid_loop_example_g00383_impl_laneOffsets), ("loop.example/g00383/impl.roundConstants", Rows.laid_loop_example_g00383_impl_roundConstants)]

theorem gOff : Tryd.prog.globalNamed "loop.example/g00383/impl.laneOffsets" = some 1 := by kernel_rfl
theorem gRc : Tryd.prog.globalNamed "loop.example/g00383/impl.roundConstants" = some 0 := by kernel_rfl
theorem tOff : (Tryd.prog.globals[1]?).map (·.type) = some 109 := by kernel_rfl
theorem tRc : (Tryd.prog.globals[0]?).map (·.type) = some 99 := by kernel_rfl

/-- A table of integers that reads as a list: its cells. -/
theorem tab_cells {H : Type} {enc : TypeId × Value → H} {P : Program} {w : World} {base : Nat} {sp : Nat → Bool} {held : Bool} {fuel n : Nat} {t e : TypeId} {k : IntKind} {cs : List Value} {L : List Int} {p : List MemPlace}
    (ht : P.underlying t = some (.array n e)) (he : P.underlying e = some (.int k)) (c1 : P.cellsOf e = 1)
    (h : DataW.trod enc P w base sp held fuel t cs = some (.agg (L.map fun x => .lit (.int k x)), p)) (i : Nat) (hi : i < n) : cs[i]? = some (.int k (L.getD i 0)) := by
  obtain ⟨xs, m, rfl, hx, hlen, hn, hel⟩ := DataW.trod_array ht h
  simp only [Prod.mk.injEq, DataW.agg.injEq] at hx
  have h1 := hel i hi
  rw [c1, Nat.mul_one] at h1
  rw [List.getElem?_eq_getElem (by omega : i < xs.length)] at h1
  obtain ⟨z, e1, e2, _⟩ := DataW.trod_int he h1
  have h2 : (L.map fun x => (DataW.lit (.int k x) : DataW H))[i]? = (xs.map (·.1))[i]? := by rw [hx.1]
  rw [List.getElem?_map, List.getElem?_map, List.getElem?_eq_getElem (by omega : i < xs.length), e2] at h2
  have h3 : L.getD i 0 = z := by
    rw [List.getD_eq_getElem?_getD]
    cases hL : L[i]? with
    | none => rw [hL] at h2; simp at h2
    | some y => rw [hL] at h2; simp at h2; simpa using h2
  have h4 : cs[i]? = ((cs.drop i).take 1)[0]? := by
    rw [List.getElem?_take_of_lt (by omega), List.getElem?_drop]
    simp
  rw [h4, e1, h3]
  rfl

theorem of_laid {W : World} (h : laidMetH Tryd.prog laid2 W) : Laid W := by
  rw [MakeChecks.laidMetH_plain _ _ _ (by kernel_rfl)] at h
  obtain ⟨ps, ⟨g0, t0, cs0, f0, p0, q0, hg0, ht0, hv0, hd0, ⟨g1, t1, cs1, f1, p1, q1, hg1, ht1, hv1, hd1, _, _⟩, _⟩, _, _⟩ := h
  obtain rfl := Option.some.inj (gOff.symm.trans hg0)
  obtain rfl := Option.some.inj (gRc.symm.trans hg1)
  obtain rfl := Option.some.inj (tOff.symm.trans ht0)
  obtain rfl := Option.some.inj (tRc.symm.trans ht1)
  have r0 := tab_cells (L := offN.map fun (x : Nat) => (x : Int)) Tryd.underlying109 Tryd.underlying3 (by kernel_rfl) hd0
  have r1 := tab_cells (L := rcs.map fun (x : Nat) => (x : Int)) Tryd.underlying99 Tryd.underlying70 (by kernel_rfl) hd1
  have c0 : ∀ i, i < 25 → W.cell? ⟨1, i, none⟩ = some (.int .i64 (offN.getD i 0 : Int)) := by
    intro i hi
    rw [World.var?_cell hg0 hv0 i]
    have := r0 i hi
    rw [Array.getElem?_toList] at this
    rw [this]
    have hl : offN.length = 25 := rfl
    rw [getD_at _ i (by simp [hl]; exact hi), getDn_at _ i (by omega)]
    simp
  have c1 : ∀ i, i < 24 → W.cell? ⟨0, i, none⟩ = some (.int .u64 (rcs.getD i 0 : Int)) := by
    intro i hi
    rw [World.var?_cell hg1 hv1 i]
    have := r1 i hi
    rw [Array.getElem?_toList] at this
    rw [this]
    have hl : rcs.length = 24 := rfl
    rw [getD_at _ i (by simp [hl]; exact hi), getDn_at _ i (by omega)]
    simp
  have hlt : 1 < W.heap.size := lt_of_cell (c0 0 (by omega))
  exact ⟨hlt, c1, c0⟩

/-- The heap that the door's own run leaves meets the condition. -/
theorem door_met (os : Os) (args : Array Value) : laidMetH Tryd.prog laid2 ((World.doorLaid Tryd.prog 400 os).forCall (fun _ _ => 0) ⟨#[], args, []⟩).memory :=
  laidMetH_of_parts3 (fuel := 8) (laidMet_of_run' 8 (by kernel_rfl) (by kernel_rfl)) (by kernel_rfl) (by kernel_rfl)

end Go.Proofs.YtbncoiljklagkaaDoor

/- What is proved here: plain facts on slices of slices of bytes in a world, how an argument that is such a slice reads, how great they are and whether two are the same; they hold for every program. -/
namespace Go.Proofs.YtbncoiljklagkaaDoor
open Go.RowKit
set_option linter.unusedVariables false

/-- The bytes 'z' lie behind a cell. -/
def BsAt (w : World) (b o : Nat) (z : List Int) : Prop := ∃ sa sl sc, w.cell? ⟨b, o, none⟩ = some (.slice sa sl sc) ∧ BRow w sa sl z

/-- The slice 'a', of 'len' slices of bytes, reads as 'zss'. -/
def BsRow (w : World) (a : Option Addr) (len : Nat) (zss : List (List Int)) : Prop :=
  zss.length = len ∧ (∀ z ∈ zss, z.length ≤ maxLen) ∧ (0 < len → ∃ b off, a = some ⟨b, off, none⟩ ∧ ∀ i z, zss[i]? = some z → BsAt w b (off + i) z)

theorem BsAt.lt {w : World} {b o : Nat} {z : List Int} (h : BsAt w b o z) : b < w.heap.size := by
  obtain ⟨_, _, _, h, _⟩ := h
  exact lt_of_cell h

theorem BsAt.below {w w' : World} {b o : Nat} {z : List Int} (h : BsAt w b o z) {B : Nat} (hb : Below B w w') (hB : w.heap.size ≤ B) : BsAt w' b o z := by
  have hl := Nat.lt_of_lt_of_le h.lt hB
  obtain ⟨sa, sl, sc, h1, h4⟩ := h
  exact ⟨sa, sl, sc, (hb.cell hl).trans h1, h4.below hb hB⟩

theorem BsRow.below {w w' : World} {a : Option Addr} {len : Nat} {zss : List (List Int)} (h : BsRow w a len zss) {B : Nat} (hb : Below B w w') (hB : w.heap.size ≤ B) : BsRow w' a len zss := by
  refine ⟨h.1, h.2.1, fun hp => ?_⟩
  obtain ⟨b, off, e, k⟩ := h.2.2 hp
  exact ⟨b, off, e, fun i z hi => (k i z hi).below hb hB⟩

theorem BsRow.at {w : World} {a : Option Addr} {len : Nat} {zss : List (List Int)} (h : BsRow w a len zss) (hp : 0 < len) :
    ∃ b off, a = some ⟨b, off, none⟩ ∧ b < w.heap.size ∧ ∀ i z, zss[i]? = some z → BsAt w b (off + i) z := by
  obtain ⟨b, off, e, k⟩ := h.2.2 hp
  refine ⟨b, off, e, ?_, k⟩
  have hl : 0 < zss.length := by rw [h.1]; exact hp
  exact (k 0 zss[0] (List.getElem?_eq_getElem hl)).lt

theorem BsRow.bytes {w : World} {a : Option Addr} {len : Nat} {zss : List (List Int)} (h : BsRow w a len zss) : ∀ z ∈ zss, ∀ x ∈ z, 0 ≤ x ∧ x ≤ 255 := by
  intro z hz
  obtain ⟨i, hi⟩ := List.getElem?_of_mem hz
  have hl := (List.getElem?_eq_some_iff.1 hi).1
  obtain ⟨b, off, _, k⟩ := h.2.2 (by rw [← h.1]; omega)
  obtain ⟨_, _, _, _, hb⟩ := k i z hi
  exact hb.2.1

/-- How an argument that is a slice of slices of bytes reads, from its walk. -/
theorem read_bss {H : Type} {enc : TypeId × Value → H} {P : Program} {w : World} {sp : Nat → Bool} {held : Bool} {t e tu : TypeId} {a : Option Addr} {len cap fuel : Nat} {d : DataW H} {ps : List MemPlace}
    (ht : P.underlying t = some (.slice e)) (he : P.underlying e = some (.slice tu)) (hc : P.cellsOf e = 1) (cu : P.cellsOf tu = 1) (uu : P.underlying tu = some (.int .u8))
    (h : DataW.trod enc P w 0 sp held fuel t [Value.slice a len cap] = some (d, ps)) : ∃ zss, len ≤ maxLen ∧ BsRow w a len zss := by
  rcases DataW.trod_slice ht h with ⟨hn, _⟩ | ⟨x, len', cap', elems, rest, n, _, hcs, _, _, hl, hm, hlen, hel, _⟩
  · simp only [List.cons.injEq, Value.slice.injEq, and_true] at hn
    obtain ⟨rfl, rfl, rfl⟩ := hn
    exact ⟨[], Nat.zero_le _, rfl, fun it hi => by simp at hi, fun hp => absurd hp (Nat.lt_irrefl _)⟩
  · simp only [List.cons.injEq, Value.slice.injEq, and_true] at hcs
    obtain ⟨rfl, rfl, rfl⟩ := hcs
    have each : ∀ i, i < len → ∃ z : List Int, z.length ≤ maxLen ∧ x.spot = none ∧ BsAt w x.block (x.off + i) z := by
      intro i hi
      have hE := hel i hi
      have hi' : i < elems.length := by omega
      rw [List.getElem?_eq_getElem hi', Option.bind_eq_some_iff, hc] at hE
      obtain ⟨cs, hcells, htr⟩ := hE
      obtain ⟨_, hcl, hcell⟩ := World.cells?_some hcells
      have hsp : x.spot = none := by
        have hE0 := hel 0 (by omega)
        rw [List.getElem?_eq_getElem (by omega), Option.bind_eq_some_iff, hc] at hE0
        obtain ⟨cs0, hcells0, _⟩ := hE0
        obtain ⟨_, hcl0, hcell0⟩ := World.cells?_some hcells0
        have q := hcell0 0 (by omega)
        rw [List.getElem?_eq_getElem (by omega)] at q
        simpa [Addr.add] using World.cell?_spot q
      match cs, hcl with
      | [x0], _ =>
        have k0 : w.cell? ((x.add (i * 1)).add 0) = some x0 := hcell 0 (by omega)
        obtain ⟨xb, xo, xs⟩ := x
        simp only at hsp
        subst hsp
        rw [add_none, add_none, Nat.mul_one, Nat.add_zero] at k0
        rcases ChangeShapes.open_ints he uu cu htr with ⟨e2, _⟩ | ⟨sa, sl, sc, zs, e2, _, hsl, hsm, hzl, _, hzc, hzw⟩
        · simp only [List.cons.injEq, and_true] at e2
          subst e2
          exact ⟨[], Nat.zero_le _, rfl, none, 0, 0, k0, rfl, fun n hn => by simp at hn, fun _ => rfl, fun y hy => by cases hy⟩
        · simp only [List.cons.injEq, and_true] at e2
          subst e2
          have hzl' : sl ≤ zs.length := by rw [hzl]; split <;> omega
          refine ⟨zs.take sl, by simp; omega, rfl, some sa, sl, sc, k0, by simp; omega, fun n hn => ?_, (fun e => (by cases e)), fun y hy j hj => ?_⟩
          · exact bounds_u8 (hzw n (List.mem_of_mem_take hn))
          · cases hy
            rw [hzc j (by omega), getD_at _ j (by omega), getD_at _ j (by simp; omega), List.getElem_take]
    have build : ∀ m, m ≤ len → ∃ zss : List (List Int), zss.length = m ∧ (∀ z ∈ zss, z.length ≤ maxLen) ∧ ∀ i z, zss[i]? = some z → BsAt w x.block (x.off + i) z := by
      intro m
      induction m with
      | zero => intro _; exact ⟨[], rfl, fun it hi => by simp at hi, fun i it hi => by simp at hi⟩
      | succ m ih =>
        intro hm'
        obtain ⟨zss, q1, q2, q3⟩ := ih (by omega)
        obtain ⟨z, r1, _, r2⟩ := each m (by omega)
        refine ⟨zss ++ [z], by simp [q1], fun y hy => ?_, fun i y hy => ?_⟩
        · rcases List.mem_append.1 hy with h' | h'
          · exact q2 y h'
          · simp at h'; subst h'; exact r1
        · rcases Nat.lt_or_ge i m with h' | h'
          · rw [List.getElem?_append_left (by omega)] at hy
            exact q3 i y hy
          · have hi : i < (zss ++ [z]).length := (List.getElem?_eq_some_iff.1 hy).1
            simp at hi
            obtain rfl : i = m := by omega
            rw [List.getElem?_append_right (by omega), q1, Nat.sub_self] at hy
            simp at hy
            subst hy
            exact r2
    obtain ⟨zss, q1, q2, q3⟩ := build len (Nat.le_refl _)
    refine ⟨zss, Nat.le_trans hl hm, q1, q2, fun hp => ⟨x.block, x.off, ?_, q3⟩⟩
    obtain ⟨_, _, hsp, _⟩ := each 0 hp
    obtain ⟨b, o, s⟩ := x
    simp only at hsp
    subst hsp
    rfl

/-- How an argument that is a slice of slices of bytes reads. -/
theorem open_bss {H : Type} {enc : TypeId × Value → H} {P : Program} {w : World} {sp : Nat → Bool} {held : Bool} {t e tu : TypeId} {v : Value} {d : DataW H} {ps : List MemPlace}
    (ht : P.underlying t = some (.slice e)) (he : P.underlying e = some (.slice tu)) (hc : P.cellsOf e = 1) (cu : P.cellsOf tu = 1) (uu : P.underlying tu = some (.int .u8))
    (hv : ∃ a len cap, v = .slice a len cap) (h : DataW.Trod enc P w 0 sp held t v d ps) : ∃ a len cap zss, v = .slice a len cap ∧ len ≤ maxLen ∧ BsRow w a len zss := by
  obtain ⟨a, len, cap, rfl⟩ := hv
  obtain ⟨fuel, h⟩ := h
  obtain ⟨zss, h1, h2⟩ := read_bss ht he hc cu uu h
  exact ⟨a, len, cap, zss, rfl, h1, h2⟩

/-! How great they are. -/

/-- What is left of a number behind some bytes: below 0: -1. -/
def szB (left : Int) (z : List Int) : Int := if left - z.length < 0 then -1 else left - z.length

def szBs : Int → List (List Int) → Int
  | left, [] => left
  | left, z :: r => if left - z.length < 0 then -1 else szBs (left - z.length) r

def szBss (left : Int) (zss : List (List Int)) : Int := if left - zss.length < 0 then -1 else szBs (left - zss.length) zss

theorem szBs_bd (zss : List (List Int)) : ∀ left, 0 ≤ left → szBs left zss ≤ left := by
  induction zss with
  | nil => intro left _; exact Int.le_refl _
  | cons z r ih =>
    intro left h
    unfold szBs
    split
    · omega
    · exact Int.le_trans (ih _ (by omega)) (by omega)

theorem szBs_mem (zss : List (List Int)) : ∀ left, 0 ≤ szBs left zss → 0 ≤ left ∧ ∀ z ∈ zss, (z.length : Int) ≤ left := by
  induction zss with
  | nil => intro left h; exact ⟨h, fun z hz => by simp at hz⟩
  | cons z r ih =>
    intro left h
    unfold szBs at h
    split at h
    · omega
    · obtain ⟨h0, h1⟩ := ih _ h
      refine ⟨by omega, fun y hy => ?_⟩
      rcases List.mem_cons.1 hy with e | e
      · subst e; omega
      · have := h1 y e; omega

theorem szBss_ok {left : Int} {zss : List (List Int)} (h : 0 ≤ szBss left zss) : (zss.length : Int) ≤ left ∧ ∀ z ∈ zss, (z.length : Int) ≤ left := by
  unfold szBss at h
  split at h
  · omega
  · obtain ⟨h0, h1⟩ := szBs_mem zss _ h
    exact ⟨by omega, fun z hz => by have := h1 z hz; omega⟩

theorem szBss_le {left : Int} (zss : List (List Int)) (h : 0 ≤ left) : szBss left zss ≤ left := by
  unfold szBss
  split
  · omega
  · exact Int.le_trans (szBs_bd zss _ (by omega)) (by omega)

theorem szBs_step (zss : List (List Int)) (k : Nat) (z : List Int) (left : Int) (h : zss[k]? = some z) : szBs left (zss.drop k) = if left - z.length < 0 then -1 else szBs (left - z.length) (zss.drop (k + 1)) := by
  obtain ⟨hk, e⟩ := List.getElem?_eq_some_iff.1 h
  rw [List.drop_eq_getElem_cons hk, e]
  rfl

/-! Whether two are the same. -/

def sameBs : List (List Int) → List (List Int) → Bool
  | [], [] => true
  | a :: as, b :: bs => sameB a b && sameBs as bs
  | _, _ => false

theorem sameB_self (a : List Int) : sameB a a = true := by simp [sameB]

theorem sameBs_self (a : List (List Int)) : sameBs a a = true := by
  induction a with
  | nil => rfl
  | cons a r ih => simp [sameBs, sameB_self, ih]

theorem sameBs_length : ∀ (a b : List (List Int)), sameBs a b = true → a.length = b.length
  | [], [], _ => rfl
  | [], _ :: _, h => by simp [sameBs] at h
  | _ :: _, [], h => by simp [sameBs] at h
  | a :: as, b :: bs, h => by
    simp [sameBs] at h
    simp [sameBs_length as bs h.2]

theorem sameBs_step (a b : List (List Int)) (k : Nat) (x y : List Int) (hx : a[k]? = some x) (hy : b[k]? = some y) : sameBs (a.drop k) (b.drop k) = (sameB x y && sameBs (a.drop (k + 1)) (b.drop (k + 1))) := by
  obtain ⟨h1, e1⟩ := List.getElem?_eq_some_iff.1 hx
  obtain ⟨h2, e2⟩ := List.getElem?_eq_some_iff.1 hy
  rw [List.drop_eq_getElem_cons h1, List.drop_eq_getElem_cons h2, e1, e2]
  rfl

theorem sameBs_end (a b : List (List Int)) (k : Nat) (h1 : a.length = k) (h2 : b.length = k) : sameBs (a.drop k) (b.drop k) = true := by
  rw [List.drop_eq_nil_of_le (by omega), List.drop_eq_nil_of_le (by omega)]
  rfl

theorem sameBs_len (a b : List (List Int)) (h : a.length ≠ b.length) : sameBs a b = false := by
  rw [Bool.eq_false_iff]
  intro e
  exact h (sameBs_length a b e)

end Go.Proofs.YtbncoiljklagkaaDoor

/- What is proved here: the contracts of the laws' helper functions that count the bytes of slices of slices of bytes (szByteS, szByteSS). -/
namespace Go.Proofs.YtbncoiljklagkaaDoor
open Go.RowKit
set_option linter.unusedVariables false

theorem szB1_any (a : Option Addr) (n cap : Nat) (left : Int) (w : World) (h0 : 0 ≤ left) (h1 : left ≤ 1099511627776) (hn : n ≤ maxLen) :
    Calls Tryd.prog 35 #[.slice a n cap, .int .i64 left] w fun e w' => e = .returned (.int .i64 (if left - n < 0 then -1 else left - n)) ∧ w' = w := by
  unfold maxLen at hn
  by_cases h : left - n < 0
  · rw [if_pos h]
    have hd : decide (left - (n : Int) < 0) = true := decide_eq_true h
    go_enter Tryd.func35, Tryd.ntmps35
    go_wp2
    go_ret
    exact ⟨rfl, rfl⟩
  · rw [if_neg h]
    have hd : decide (left - (n : Int) < 0) = false := decide_eq_false h
    go_enter Tryd.func35, Tryd.ntmps35
    go_wp2
    go_ret
    exact ⟨rfl, rfl⟩

set_option maxHeartbeats 1000000 in
theorem szByteSS_any (a : Option Addr) (len cap : Nat) (zss : List (List Int)) (left : Int) (w : World) (h : BsRow w a len zss) (hl : len ≤ maxLen) (h0 : 0 ≤ left) (h1 : left ≤ 1099511627776) :
    Calls Tryd.prog 26 #[.slice a len cap, .int .i64 left] w fun e w' => e = .returned (.int .i64 (szBss left zss)) ∧ w' = w := by
  unfold maxLen at hl
  have hil := h.1
  by_cases hs : left - len < 0
  · have e : szBss left zss = -1 := if_pos (by rw [hil]; exact hs)
    rw [e]
    have hd : decide (left - (len : Int) < 0) = true := decide_eq_true hs
    go_enter Tryd.func26, Tryd.ntmps26
    go_wp2_with fail
    go_ret
    exact ⟨rfl, rfl⟩
  · have e : szBss left zss = szBs (left - len) zss := by rw [← hil]; exact if_neg (by rw [hil]; exact hs)
    have HE := hide e
    have hd : decide (left - (len : Int) < 0) = false := decide_eq_false hs
    clear e
    rcases Nat.eq_zero_or_pos len with hz | hp
    · subst hz
      have hn : zss = [] := List.length_eq_zero_iff.1 hil
      subst hn
      clear h
      go_enter Tryd.func26, Tryd.ntmps26
      go_wp2_with fail
      refine wp_loop_rounds 1 ?_
      rw [rounds_succ]
      go_wp2_with fail
      go_ret
      exact ⟨ret_int (by rw [unhide HE]; simp [szBs]), rfl⟩
    · obtain ⟨b, off, rfl, hb, hc⟩ := h.at hp
      have hok := h.2.1
      have HC := hide hc
      have HK := hide hok
      have HL := hide hil
      clear h hc hok hil
      go_enter Tryd.func26, Tryd.ntmps26
      go_wp2_with fail
      go_loop [1, 5] (fun q i => ∃ (k : Nat) (L : Int), k ≤ len ∧ i = .int .i64 k ∧ q = .int .i64 L ∧ 0 ≤ L ∧ L ≤ left ∧ szBs (left - len) zss = szBs L (zss.drop k)) (fun _ i => len - (intOf i).toNat)
      case atStart => exact ⟨0, _, Nat.zero_le _, rfl, rfl, by omega, by omega, by simp⟩
      case round =>
        obtain ⟨k, L, hk, rfl, rfl, hL0, hL1, hrest⟩ := hrel
        by_cases hlt : k < len
        · obtain ⟨z, hit⟩ : ∃ z, zss[k]? = some z := ⟨_, List.getElem?_eq_getElem (by rw [unhide HL]; exact hlt)⟩
          have hat := unhide HC k z hit
          have hio := unhide HK z (List.mem_of_getElem? hit)
          have hst := szBs_step zss k z L hit
          obtain ⟨sa, sl, sc, c0, hbrow⟩ := hat
          have hsl : z.length = sl := hbrow.1
          rw [hsl] at hst hio
          have HR := hide hrest
          have HS := hide hst
          have i1 : (0 : Int) ≤ (k : Int) := by omega
          have i2 : (k : Int) < (len : Int) := by omega
          clear hbrow hsl hrest hst hit
          by_cases hneg : L - sl < 0
          · have HZ := hide (fun W => szB1_any sa sl sc L W hL0 (by omega) hio)
            rw [if_pos hneg] at HS
            simp only [if_pos hneg] at HZ
            go_wp2_with fail
            refine ((unhide HZ) _).mono ?_
            rintro e w1 ⟨rfl, rfl⟩
            go_wp2_with fail
            go_ret
            exact ⟨ret_int (by rw [unhide HE, unhide HR, unhide HS]), rfl⟩
          · have HZ := hide (fun W => szB1_any sa sl sc L W hL0 (by omega) hio)
            rw [if_neg hneg] at HS
            simp only [if_neg hneg] at HZ
            have hd2 : decide (L - (sl : Int) < 0) = false := decide_eq_false hneg
            go_wp2_with fail
            refine ((unhide HZ) _).mono ?_
            rintro e w1 ⟨rfl, rfl⟩
            go_wp2_with fail
            go_round
            case rel => exact ⟨k + 1, L - sl, by omega, by go_num, rfl, by omega, by omega, by rw [unhide HR, unhide HS]⟩
            case measure => simp [intOf]; omega
        · obtain rfl : k = len := by omega
          have hend : zss.drop k = [] := List.drop_eq_nil_of_le (by rw [unhide HL]; exact Nat.le_refl _)
          rw [hend] at hrest
          have HR := hide hrest
          clear hrest hend
          go_wp2_with fail
          go_ret
          exact ⟨ret_int (by rw [unhide HE, unhide HR]; rfl), rfl⟩

end Go.Proofs.YtbncoiljklagkaaDoor

/- What is proved here: plain facts on slices of slices of bytes that a call made itself: the block of the slices, and a block of bytes for each; they hold for every program. -/
namespace Go.Proofs.YtbncoiljklagkaaDoor
open Go.RowKit
set_option linter.unusedVariables false

/-- A block that holds these values, none of it frozen. -/
def SBlk (w : World) (g : Nat) (vs : List Value) (T : TypeId) : Prop := w.heap[g]? = some (.cells vs.toArray T (0, 0))

theorem SBlk.cell {w : World} {g : Nat} {vs : List Value} {T : TypeId} (h : SBlk w g vs T) (i : Nat) : w.cell? ⟨g, i, none⟩ = vs[i]? := by
  simp [World.cell?, show w.heap[g]? = _ from h]

theorem SBlk.free {w : World} {g : Nat} {vs : List Value} {T : TypeId} (h : SBlk w g vs T) (i : Nat) : w.frozen? ⟨g, i, none⟩ = false := frozen_of_row w g i _ T h

theorem SBlk.set {w : World} {g : Nat} {vs : List Value} {T : TypeId} (h : SBlk w g vs T) (i : Nat) (x : Value) : SBlk (w.setCell ⟨g, i, none⟩ x) g (vs.set i x) T := by
  have := heap_setCell_same w g i _ T x h
  unfold SBlk
  rw [this]
  simp

theorem SBlk.lt {w : World} {g : Nat} {vs : List Value} {T : TypeId} (h : SBlk w g vs T) : g < w.heap.size := lt_of_block h

theorem SBlk.below {w w' : World} {g C : Nat} {vs : List Value} {T : TypeId} (h : SBlk w g vs T) (hb : Below C w w') (hC : g < C) : SBlk w' g vs T := by
  unfold SBlk
  rw [hb.block g hC]
  exact h

theorem SBlk.new (w : World) (vs : Array Value) (T : TypeId) : SBlk (w.alloc (.cells vs T)) w.heap.size vs.toList T := by
  unfold SBlk World.alloc
  simp

theorem SBlk.next {w : World} {g : Nat} {vs : List Value} {T : TypeId} (h : SBlk w g vs T) (o : Obj) : SBlk (w.alloc o) g vs T := h.below (below_alloc w o) h.lt

theorem SBlk.other {w : World} {g g' i : Nat} {vs : List Value} {T : TypeId} {v : Value} (h : SBlk w g vs T) (hne : g ≠ g') : SBlk (w.setCell ⟨g', i, none⟩ v) g vs T := by
  unfold SBlk
  rw [heap_setCell_other w ⟨g', i, none⟩ g v hne]
  exact h

theorem size_set' (w : World) (a : Addr) (v : Value) : (w.setCell a v).heap.size = w.heap.size := by simp [World.setCell]

theorem own_sblk {w : World} {B g n : Nat} {e : TypeId} {size : Nat} {xs : List Value} (h : w.ownsRow B e size (.slice (some ⟨g, 0, none⟩) n n) n xs) : ∃ vs, SBlk w g vs e ∧ vs.length = n * size := by
  rcases h.2 with ⟨h', _⟩ | ⟨g', cap', cur, h', hb, hg, hnc, hcm, hcs, htake⟩
  · simp at h'
  · simp only [Value.slice.injEq, Option.some.injEq, Addr.mk.injEq, and_true, true_and] at h'
    obtain ⟨rfl, rfl⟩ := h'
    exact ⟨cur.toList, by unfold SBlk; simpa using hg, by simpa using hcs⟩

/-- Of the slices 'zss' the first k lie in the block g, each with its bytes in a block of its own, all these blocks rising. -/
def BUpto (w : World) (g : Nat) (zss : List (List Int)) (k len : Nat) (T : TypeId) (C : Nat) : Prop :=
  ∃ (vs : List Value) (f : Nat → Nat), SBlk w g vs T ∧ vs.length = len ∧ (∀ i, i < k → g < f i ∧ f i < C) ∧ (∀ i j, i < j → j < k → f i < f j) ∧
    ∀ i z, i < k → zss[i]? = some z → vs[i]? = some (.slice (some ⟨f i, 0, none⟩) z.length z.length) ∧
      w.ownsRow (g + 1) 5 1 (.slice (some ⟨f i, 0, none⟩) z.length z.length) z.length (z.map (Value.int .u8))

/-- All of them. -/
def OBss (w : World) (g : Nat) (zss : List (List Int)) (T : TypeId) (C : Nat) : Prop := BUpto w g zss zss.length zss.length T C

theorem BUpto.lt {w : World} {g : Nat} {zss : List (List Int)} {k len : Nat} {T : TypeId} {C : Nat} (h : BUpto w g zss k len T C) : g < w.heap.size := by
  obtain ⟨_, _, h, _⟩ := h
  exact h.lt

theorem BUpto.below {w w' : World} {g : Nat} {zss : List (List Int)} {k len : Nat} {T : TypeId} {C : Nat} (h : BUpto w g zss k len T C) {B : Nat} (hb : Below B w w') (hB : w.heap.size ≤ B) : BUpto w' g zss k len T C := by
  obtain ⟨vs, f, h1, h2, h3, h4, h5⟩ := h
  refine ⟨vs, f, h1.below hb (Nat.lt_of_lt_of_le h1.lt hB), h2, h3, h4, fun i z hi hit => ?_⟩
  obtain ⟨q3, q4⟩ := h5 i z hi hit
  exact ⟨q3, own_below q4 hb hB⟩

theorem BUpto.zero {w : World} {g : Nat} {zss : List (List Int)} {len : Nat} {T : TypeId} {vs : List Value} {C : Nat} (h : SBlk w g vs T) (hl : vs.length = len) : BUpto w g zss 0 len T C :=
  ⟨vs, fun _ => 0, h, hl, fun i hi => absurd hi (Nat.not_lt_zero _), fun i j _ hj => absurd hj (Nat.not_lt_zero _), fun i it hi => absurd hi (Nat.not_lt_zero _)⟩

/-- What is there at the place of the next one. -/
theorem BUpto.slot {w : World} {g : Nat} {zss : List (List Int)} {k len : Nat} {T : TypeId} {C : Nat} (h : BUpto w g zss k len T C) (hk : k < len) :
    (∃ u, w.cell? ⟨g, k, none⟩ = some u) ∧ ∀ i, w.frozen? ⟨g, i, none⟩ = false := by
  obtain ⟨vs, f, h1, h2, _⟩ := h
  refine ⟨?_, fun i => h1.free i⟩
  rw [h1.cell]
  exact ⟨_, List.getElem?_eq_getElem (by omega)⟩

/-- One more. -/
theorem BUpto.step {w w2 : World} {g m : Nat} {zss : List (List Int)} {k len : Nat} {T : TypeId} {z : List Int} (h : BUpto w g zss k len T w.heap.size) (hk : k < len) (hit : zss[k]? = some z) (hb : Below w.heap.size w w2) (hm : w.heap.size ≤ m) (hm2 : m < w2.heap.size)
    (ho : w2.ownsRow (g + 1) 5 1 (.slice (some ⟨m, 0, none⟩) z.length z.length) z.length (z.map (Value.int .u8))) :
    BUpto (w2.setCell ⟨g, k, none⟩ (.slice (some ⟨m, 0, none⟩) z.length z.length)) g zss (k + 1) len T w2.heap.size := by
  have hgl := h.lt
  obtain ⟨vs, f, h1, h2, h3, h4, h5⟩ := h
  obtain ⟨q1, q2⟩ : SBlk w2 g vs T ∧ (∀ i, i < k → f i < w.heap.size) := ⟨h1.below hb h1.lt, fun i hi => (h3 i hi).2⟩
  have hlt : ∀ {v : Value} {n : Nat} {xs : List Value} {W : World}, W.ownsRow (g + 1) 5 1 v n xs → ∀ i u, (W.setCell ⟨g, i, none⟩ u).ownsRow (g + 1) 5 1 v n xs := fun h i u => ownsRow_setCell_below h (Nat.lt_succ_self g) u
  refine ⟨vs.set k (.slice (some ⟨m, 0, none⟩) z.length z.length), fun i => if i = k then m else f i, q1.set _ _, by simp [h2], fun i hi => ?_, fun i j hij hj => ?_, fun i jt hi hjt => ?_⟩
  · dsimp only
    split
    · exact ⟨by omega, hm2⟩
    · have := h3 i (by omega)
      exact ⟨this.1, Nat.lt_of_lt_of_le this.2 hb.size⟩
  · dsimp only
    rw [if_neg (by omega)]
    split
    · have := q2 i (by omega); omega
    · exact h4 i j hij (by omega)
  · dsimp only
    by_cases e : i = k
    · subst e
      rw [if_pos rfl]
      obtain rfl : jt = z := by rw [hit] at hjt; exact (Option.some.inj hjt).symm
      refine ⟨?_, hlt ho _ _⟩
      rw [List.getElem?_set_self (by omega)]
    · rw [if_neg e]
      obtain ⟨p3, p4⟩ := h5 i jt (by omega) hjt
      refine ⟨?_, hlt (own_below p4 hb (Nat.le_refl _)) _ _⟩
      rw [List.getElem?_set_ne (by omega)]; exact p3

theorem BUpto.stored {w : World} {g g' j : Nat} {zss : List (List Int)} {k len : Nat} {T : TypeId} {C : Nat} {v : Value} (h : BUpto w g zss k len T C) (hg : g' < g) : BUpto (w.setCell ⟨g', j, none⟩ v) g zss k len T C := by
  obtain ⟨vs, f, h1, h2, h3, h4, h5⟩ := h
  refine ⟨vs, f, h1.other (by omega), h2, h3, h4, fun i z hi hit => ?_⟩
  obtain ⟨q3, q4⟩ := h5 i z hi hit
  exact ⟨q3, ownsRow_setCell_below q4 (by show g' < g + 1; omega) _⟩

/-- What is owned reads so. -/
theorem OBss.row {w : World} {g : Nat} {zss : List (List Int)} {T : TypeId} {C : Nat} (h : OBss w g zss T C) (hok : ∀ z ∈ zss, z.length ≤ maxLen) (hz : ∀ z ∈ zss, ∀ x ∈ z, 0 ≤ x ∧ x ≤ 255) : BsRow w (some ⟨g, 0, none⟩) zss.length zss := by
  obtain ⟨vs, f, h1, h2, h3, h4, h5⟩ := h
  refine ⟨rfl, hok, fun _ => ⟨g, 0, rfl, fun i z hi => ?_⟩⟩
  have hil := (List.getElem?_eq_some_iff.1 hi).1
  obtain ⟨q3, q4⟩ := h5 i z hil hi
  refine ⟨some ⟨f i, 0, none⟩, z.length, z.length, ?_, BRow.own q4 (hz z (List.mem_of_getElem? hi))⟩
  rw [h1.cell]
  simpa using q3

end Go.Proofs.YtbncoiljklagkaaDoor

/- What is proved here: plain facts on headers in a world: how an argument that is a header reads; they hold for every program. -/
namespace Go.Proofs.YtbncoiljklagkaaDoor
open Go.RowKit
set_option linter.unusedVariables false

/-- A slice's three parts. -/
structure Sl where
  a : Option Addr
  n : Nat
  c : Nat

/-- The slices of a header: Parent, Target, Signers, Receipts, Signer, Seal, Commits. -/
structure HS where
  p : Sl
  t : Sl
  s : Sl
  r : Sl
  g : Sl
  e : Sl
  k : Sl

/-- A header: its bytes and numbers. -/
structure Hd where
  p : List Int
  n1 : Int
  n2 : Int
  n3 : Int
  t : List Int
  n5 : Int
  s : List (List Int)
  r : List Int
  g : List Int
  e : List Int
  k : List (List Int)

/-- The slices read as the header's bytes. -/
structure HOk (w : World) (x : HS) (h : Hd) : Prop where
  p : BRow w x.p.a x.p.n h.p
  t : BRow w x.t.a x.t.n h.t
  s : BsRow w x.s.a x.s.n h.s
  r : BRow w x.r.a x.r.n h.r
  g : BRow w x.g.a x.g.n h.g
  e : BRow w x.e.a x.e.n h.e
  k : BsRow w x.k.a x.k.n h.k

theorem HOk.below {w w' : World} {x : HS} {h : Hd} (o : HOk w x h) {B : Nat} (hb : Below B w w') (hB : w.heap.size ≤ B) : HOk w' x h :=
  ⟨o.p.below hb hB, o.t.below hb hB, o.s.below hb hB, o.r.below hb hB, o.g.below hb hB, o.e.below hb hB, o.k.below hb hB⟩

/-- None is longer than M. -/
structure HMax (x : HS) (M : Nat) : Prop where
  p : x.p.n ≤ M
  t : x.t.n ≤ M
  s : x.s.n ≤ M
  r : x.r.n ≤ M
  g : x.g.n ≤ M
  e : x.e.n ≤ M
  k : x.k.n ≤ M

def in64 (n : Int) : Prop := -9223372036854775808 ≤ n ∧ n ≤ 9223372036854775807

/-- The numbers fit. -/
structure HIn (h : Hd) : Prop where
  n1 : in64 h.n1
  n2 : in64 h.n2
  n3 : in64 h.n3
  n5 : in64 h.n5

/-- All bytes, and how many slices there are, are at most 2^20. -/
structure HSm (h : Hd) : Prop where
  p : h.p.length ≤ 1048576
  t : h.t.length ≤ 1048576
  s : h.s.length ≤ 1048576
  sz : ∀ z ∈ h.s, z.length ≤ 1048576
  r : h.r.length ≤ 1048576
  g : h.g.length ≤ 1048576
  e : h.e.length ≤ 1048576
  k : h.k.length ≤ 1048576
  kz : ∀ z ∈ h.k, z.length ≤ 1048576

/-- The eleven cells of a header. -/
def hvals (x : HS) (h : Hd) : Array Value := #[.slice x.p.a x.p.n x.p.c, .int .i64 h.n1, .int .i64 h.n2, .int .i64 h.n3, .slice x.t.a x.t.n x.t.c, .int .i64 h.n5, .slice x.s.a x.s.n x.s.c, .slice x.r.a x.r.n x.r.c, .slice x.g.a x.g.n x.g.c, .slice x.e.a x.e.n x.e.c, .slice x.k.a x.k.n x.k.c]

section
variable {H : Type} {enc : TypeId × Value → H} {P : Program} {w : World} {sp : Nat → Bool} {held : Bool}

/-- A field that is a slice of bytes. -/
theorem field_bytes {ts tu : TypeId} {fuel : Nat} {v : Value} {y : DataW H × List MemPlace} (us : P.underlying ts = some (.slice tu)) (uu : P.underlying tu = some (.int .u8)) (cu : P.cellsOf tu = 1)
    (h : DataW.trod enc P w 0 sp held fuel ts [v] = some y) : ∃ (x : Sl) (z : List Int), v = .slice x.a x.n x.c ∧ x.n ≤ maxLen ∧ BRow w x.a x.n z := by
  rcases ChangeShapes.open_ints us uu cu h with ⟨e2, _⟩ | ⟨sa, sl, sc, zs, e2, _, hsl, hsm, hzl, _, hzc, hzw⟩
  · simp only [List.cons.injEq, and_true] at e2
    subst e2
    exact ⟨⟨none, 0, 0⟩, [], rfl, Nat.zero_le _, rfl, fun n hn => by simp at hn, fun _ => rfl, fun y hy => by cases hy⟩
  · simp only [List.cons.injEq, and_true] at e2
    subst e2
    have hzl' : sl ≤ zs.length := by rw [hzl]; split <;> omega
    refine ⟨⟨some sa, sl, sc⟩, zs.take sl, rfl, Nat.le_trans hsl hsm, by simp; omega, fun n hn => ?_, (fun e => (by cases e)), fun y hy j hj => ?_⟩
    · exact bounds_u8 (hzw n (List.mem_of_mem_take hn))
    · cases hy
      have hj' : j < sl := hj
      rw [hzc j (by omega), getD_at _ j (by omega), getD_at _ j (by simp; omega), List.getElem_take]

/-- A field that is a slice of slices of bytes. -/
theorem field_bss {t ts tu : TypeId} {fuel : Nat} {v : Value} {y : DataW H × List MemPlace} (ut : P.underlying t = some (.slice ts)) (us : P.underlying ts = some (.slice tu)) (cs : P.cellsOf ts = 1) (uu : P.underlying tu = some (.int .u8)) (cu : P.cellsOf tu = 1)
    (h : DataW.trod enc P w 0 sp held fuel t [v] = some y) : ∃ (x : Sl) (z : List (List Int)), v = .slice x.a x.n x.c ∧ x.n ≤ maxLen ∧ BsRow w x.a x.n z := by
  have hv : ∃ a len cap, v = .slice a len cap := by
    rcases DataW.trod_slice ut h with ⟨hn, _⟩ | ⟨x, len', cap', elems, rest, n, _, hcs, _⟩
    · simp only [List.cons.injEq, and_true] at hn; exact ⟨_, _, _, hn⟩
    · simp only [List.cons.injEq, and_true] at hcs; exact ⟨_, _, _, hcs⟩
  obtain ⟨a, len, cap, rfl⟩ := hv
  obtain ⟨d, ps⟩ := y
  obtain ⟨zss, h1, h2⟩ := read_bss ut us cs cu uu h
  exact ⟨⟨a, len, cap⟩, zss, rfl, h1, h2⟩

theorem field_int {t : TypeId} {fuel : Nat} {v : Value} {y : DataW H × List MemPlace} (ut : P.underlying t = some (.int .i64)) (h : DataW.trod enc P w 0 sp held fuel t [v] = some y) : ∃ n, v = .int .i64 n ∧ in64 n := by
  obtain ⟨n, e, _, hwf⟩ := DataW.trod_int ut h
  simp only [List.cons.injEq, and_true] at e
  exact ⟨n, e, bounds_i64 hwf⟩

/-- How an argument that is a header reads. -/
theorem open_header {t tb ti tl tu : TypeId} {fs : Array Field} {f0 f1 f2 f3 f4 f5 f6 f7 f8 f9 f10 : Field} {v : Value} {d : DataW H} {ps : List MemPlace}
    (ht : P.underlying t = some (.struct fs)) (hfs : fs = #[f0, f1, f2, f3, f4, f5, f6, f7, f8, f9, f10]) (hc : P.cellsOf t = 11)
    (ho : f0.offset = 0 ∧ f1.offset = 1 ∧ f2.offset = 2 ∧ f3.offset = 3 ∧ f4.offset = 4 ∧ f5.offset = 5 ∧ f6.offset = 6 ∧ f7.offset = 7 ∧ f8.offset = 8 ∧ f9.offset = 9 ∧ f10.offset = 10)
    (hty : f0.type = tb ∧ f1.type = ti ∧ f2.type = ti ∧ f3.type = ti ∧ f4.type = tb ∧ f5.type = ti ∧ f6.type = tl ∧ f7.type = tb ∧ f8.type = tb ∧ f9.type = tb ∧ f10.type = tl)
    (ub : P.underlying tb = some (.slice tu)) (uu : P.underlying tu = some (.int .u8)) (ui : P.underlying ti = some (.int .i64)) (ul : P.underlying tl = some (.slice tb))
    (cb : P.cellsOf tb = 1) (ci : P.cellsOf ti = 1) (cl : P.cellsOf tl = 1) (cu : P.cellsOf tu = 1)
    (hv : ∃ cs, v = .agg cs ∧ cs.size = P.cellsOf t) (h : DataW.Trod enc P w 0 sp held t v d ps) :
    ∃ (x : HS) (y : Hd), v = .agg (hvals x y) ∧ HOk w x y ∧ HMax x maxLen ∧ HIn y := by
  obtain ⟨cs, rfl, hsz⟩ := hv
  obtain ⟨fuel, h⟩ := h
  have h' : DataW.trod enc P w 0 sp held fuel t cs.toList = some (d, ps) := h
  obtain ⟨l⟩ := cs
  rw [hc] at hsz
  have hl : l.length = 11 := by simpa using hsz
  match l, hl with
  | [v0, v1, v2, v3, v4, v5, v6, v7, v8, v9, v10], _ =>
    subst hfs
    obtain ⟨xs, m, _, _, _, hxl, hf⟩ := DataW.trod_struct ht h'
    have hs : xs.length = 11 := by rw [hxl]; rfl
    obtain ⟨o0, o1, o2, o3, o4, o5, o6, o7, o8, o9, o10⟩ := ho
    obtain ⟨y0, y1, y2, y3, y4, y5, y6, y7, y8, y9, y10⟩ := hty
    have g0 := hf 0 f0 rfl
    have g1 := hf 1 f1 rfl
    have g2 := hf 2 f2 rfl
    have g3 := hf 3 f3 rfl
    have g4 := hf 4 f4 rfl
    have g5 := hf 5 f5 rfl
    have g6 := hf 6 f6 rfl
    have g7 := hf 7 f7 rfl
    have g8 := hf 8 f8 rfl
    have g9 := hf 9 f9 rfl
    have g10 := hf 10 f10 rfl
    rw [List.getElem?_eq_getElem (by omega)] at g0 g1 g2 g3 g4 g5 g6 g7 g8 g9 g10
    rw [y0, o0, cb] at g0
    rw [y1, o1, ci] at g1
    rw [y2, o2, ci] at g2
    rw [y3, o3, ci] at g3
    rw [y4, o4, cb] at g4
    rw [y5, o5, ci] at g5
    rw [y6, o6, cl] at g6
    rw [y7, o7, cb] at g7
    rw [y8, o8, cb] at g8
    rw [y9, o9, cb] at g9
    rw [y10, o10, cl] at g10
    simp only [List.drop_zero, List.drop_succ_cons, List.take_succ_cons, List.take_zero] at g0 g1 g2 g3 g4 g5 g6 g7 g8 g9 g10
    obtain ⟨x0, z0, e0, l0, r0⟩ := field_bytes ub uu cu g0
    obtain ⟨n1, e1, i1⟩ := field_int ui g1
    obtain ⟨n2, e2, i2⟩ := field_int ui g2
    obtain ⟨n3, e3, i3⟩ := field_int ui g3
    obtain ⟨x4, z4, e4, l4, r4⟩ := field_bytes ub uu cu g4
    obtain ⟨n5, e5, i5⟩ := field_int ui g5
    obtain ⟨x6, z6, e6, l6, r6⟩ := field_bss ul ub cb uu cu g6
    obtain ⟨x7, z7, e7, l7, r7⟩ := field_bytes ub uu cu g7
    obtain ⟨x8, z8, e8, l8, r8⟩ := field_bytes ub uu cu g8
    obtain ⟨x9, z9, e9, l9, r9⟩ := field_bytes ub uu cu g9
    obtain ⟨x10, z10, e10, l10, r10⟩ := field_bss ul ub cb uu cu g10
    subst e0 e1 e2 e3 e4 e5 e6 e7 e8 e9 e10
    exact ⟨⟨x0, x4, x6, x7, x8, x9, x10⟩, ⟨z0, n1, n2, n3, z4, n5, z6, z7, z8, z9, z10⟩, rfl, ⟨r0, r4, r6, r7, r8, r9, r10⟩, ⟨l0, l4, l6, l7, l8, l9, l10⟩, ⟨i1, i2, i3, i5⟩⟩
end

end Go.Proofs.YtbncoiljklagkaaDoor

/- What is proved here: the contract of the laws' helper function szHeader: what it leaves is below 0, or the header is small. -/
namespace Go.Proofs.YtbncoiljklagkaaDoor
open Go.RowKit
set_option linter.unusedVariables false

theorem szB1_to (a : Option Addr) (n cap : Nat) (left L : Int) (w : World) (h0 : 0 ≤ left) (h1 : left ≤ 1099511627776) (hn : n ≤ maxLen) (e : L = if left - n < 0 then -1 else left - n) :
    Calls Tryd.prog 35 #[.slice a n cap, .int .i64 left] w fun e w' => e = .returned (.int .i64 L) ∧ w' = w := by
  subst e; exact szB1_any a n cap left w h0 h1 hn

theorem szBss_to (a : Option Addr) (len cap : Nat) (zss : List (List Int)) (left L : Int) (w : World) (h : BsRow w a len zss) (hl : len ≤ maxLen) (h0 : 0 ≤ left) (h1 : left ≤ 1099511627776) (e : L = szBss left zss) :
    Calls Tryd.prog 26 #[.slice a len cap, .int .i64 left] w fun e w' => e = .returned (.int .i64 L) ∧ w' = w := by
  subst e; exact szByteSS_any a len cap zss left w h hl h0 h1

/-- All bytes of some slices, and of a header. -/
def bsum (zss : List (List Int)) : Nat := (zss.map List.length).sum

theorem szBs_eq (zss : List (List Int)) : ∀ left, 0 ≤ szBs left zss → szBs left zss = left - bsum zss := by
  induction zss with
  | nil => intro left _; simp [szBs, bsum]
  | cons z r ih =>
    intro left h
    unfold szBs at h ⊢
    split at h
    · omega
    · rename_i hn
      rw [if_neg hn, ih _ h]
      simp [bsum]
      omega

theorem szBss_eq {left : Int} {zss : List (List Int)} (h : 0 ≤ szBss left zss) : szBss left zss = left - zss.length - bsum zss := by
  unfold szBss at h ⊢
  split at h
  · omega
  · rename_i hn
    rw [if_neg hn]
    exact szBs_eq zss _ h

def hTot (h : Hd) : Nat := h.p.length + h.t.length + bsum h.s + h.r.length + h.g.length + h.e.length + bsum h.k

set_option maxHeartbeats 4000000 in
theorem szHeader_tot (x : HS) (h : Hd) (L0 : Int) (w : World) (o : HOk w x h) (m : HMax x maxLen) (h0 : 0 ≤ L0) (h1 : L0 ≤ 1048576) :
    Calls Tryd.prog 8 #[.agg (hvals x h), .int .i64 L0] w fun e w' => (∃ r : Int, e = .returned (.int .i64 r) ∧ -1 ≤ r ∧ r ≤ L0 ∧ (0 ≤ r → HSm h ∧ (hTot h : Int) ≤ L0)) ∧ Below w.heap.size w w' := by
  have HB := hide (below_alloc w (.cells (hvals x h) 25))
  have HO := hide (fun (W : World) (hb : Below w.heap.size w W) => o.below hb (Nat.le_refl _))
  have HN := hide o
  unfold hvals at HB ⊢
  clear o
  go_enter Tryd.func8, Tryd.ntmps8
  obtain ⟨L1, e1⟩ : ∃ L : Int, L = if L0 - x.p.n < 0 then -1 else L0 - x.p.n := ⟨_, rfl⟩
  have C1 := hide (fun (W : World) (hb : Below w.heap.size w W) => szB1_to x.p.a x.p.n x.p.c L0 L1 W (by omega) (by omega) m.p e1)
  have E1 := hide e1
  clear e1
  go_wp2_with fail
  refine ((unhide C1) _ (unhide HB)).mono ?_
  rintro e w' ⟨rfl, rfl⟩
  clear C1
  by_cases t1 : L1 < 0
  · have d : decide (L1 < 0) = true := decide_eq_true t1
    go_wp2_with fail
    go_ret
    exact ⟨⟨-1, rfl, by omega, by omega, fun hh => by omega⟩, unhide HB⟩
  have d1 : decide (L1 < 0) = false := decide_eq_false t1
  have G1 : Hid (L1 = L0 - x.p.n) := by
    show _ = _
    have := unhide E1
    split at this <;> omega
  have f1 : (x.p.n : Int) ≤ 1048576 ∧ L1 ≤ L0 := by
    have := unhide E1
    split at this <;> omega
  clear E1
  obtain ⟨L2, e2⟩ : ∃ L : Int, L = if L1 - x.t.n < 0 then -1 else L1 - x.t.n := ⟨_, rfl⟩
  have C2 := hide (fun (W : World) (hb : Below w.heap.size w W) => szB1_to x.t.a x.t.n x.t.c L1 L2 W (by omega) (by omega) m.t e2)
  have E2 := hide e2
  clear e2
  go_wp2_with fail
  refine ((unhide C2) _ (unhide HB)).mono ?_
  rintro e w' ⟨rfl, rfl⟩
  clear C2
  by_cases t2 : L2 < 0
  · have d : decide (L2 < 0) = true := decide_eq_true t2
    go_wp2_with fail
    go_ret
    exact ⟨⟨-1, rfl, by omega, by omega, fun hh => by omega⟩, unhide HB⟩
  have d2 : decide (L2 < 0) = false := decide_eq_false t2
  have G2 : Hid (L2 = L1 - x.t.n) := by
    show _ = _
    have := unhide E2
    split at this <;> omega
  have f2 : (x.t.n : Int) ≤ 1048576 ∧ L2 ≤ L1 := by
    have := unhide E2
    split at this <;> omega
  clear E2
  obtain ⟨L3, e3⟩ : ∃ L : Int, L = szBss L2 h.s := ⟨_, rfl⟩
  have C3 := hide (fun (W : World) (hb : Below w.heap.size w W) => szBss_to x.s.a x.s.n x.s.c h.s L2 L3 W ((unhide HO) W hb).s m.s (by omega) (by omega) e3)
  have E3 := hide e3
  clear e3
  go_wp2_with fail
  refine ((unhide C3) _ (unhide HB)).mono ?_
  rintro e w' ⟨rfl, rfl⟩
  clear C3
  by_cases t3 : L3 < 0
  · have d : decide (L3 < 0) = true := decide_eq_true t3
    go_wp2_with fail
    go_ret
    exact ⟨⟨-1, rfl, by omega, by omega, fun hh => by omega⟩, unhide HB⟩
  have d3 : decide (L3 < 0) = false := decide_eq_false t3
  have f3 : L3 ≤ L2 := by rw [unhide E3]; exact szBss_le _ (by omega)
  have F3 := hide (szBss_ok (left := L2) (zss := h.s) (by rw [← unhide E3]; omega))
  have G3 : Hid (L3 = L2 - h.s.length - bsum h.s) := by show _ = _; rw [unhide E3]; exact szBss_eq (by rw [← unhide E3]; omega)
  clear E3
  obtain ⟨L4, e4⟩ : ∃ L : Int, L = if L3 - x.r.n < 0 then -1 else L3 - x.r.n := ⟨_, rfl⟩
  have C4 := hide (fun (W : World) (hb : Below w.heap.size w W) => szB1_to x.r.a x.r.n x.r.c L3 L4 W (by omega) (by omega) m.r e4)
  have E4 := hide e4
  clear e4
  go_wp2_with fail
  refine ((unhide C4) _ (unhide HB)).mono ?_
  rintro e w' ⟨rfl, rfl⟩
  clear C4
  by_cases t4 : L4 < 0
  · have d : decide (L4 < 0) = true := decide_eq_true t4
    go_wp2_with fail
    go_ret
    exact ⟨⟨-1, rfl, by omega, by omega, fun hh => by omega⟩, unhide HB⟩
  have d4 : decide (L4 < 0) = false := decide_eq_false t4
  have G4 : Hid (L4 = L3 - x.r.n) := by
    show _ = _
    have := unhide E4
    split at this <;> omega
  have f4 : (x.r.n : Int) ≤ 1048576 ∧ L4 ≤ L3 := by
    have := unhide E4
    split at this <;> omega
  clear E4
  obtain ⟨L5, e5⟩ : ∃ L : Int, L = if L4 - x.g.n < 0 then -1 else L4 - x.g.n := ⟨_, rfl⟩
  have C5 := hide (fun (W : World) (hb : Below w.heap.size w W) => szB1_to x.g.a x.g.n x.g.c L4 L5 W (by omega) (by omega) m.g e5)
  have E5 := hide e5
  clear e5
  go_wp2_with fail
  refine ((unhide C5) _ (unhide HB)).mono ?_
  rintro e w' ⟨rfl, rfl⟩
  clear C5
  by_cases t5 : L5 < 0
  · have d : decide (L5 < 0) = true := decide_eq_true t5
    go_wp2_with fail
    go_ret
    exact ⟨⟨-1, rfl, by omega, by omega, fun hh => by omega⟩, unhide HB⟩
  have d5 : decide (L5 < 0) = false := decide_eq_false t5
  have G5 : Hid (L5 = L4 - x.g.n) := by
    show _ = _
    have := unhide E5
    split at this <;> omega
  have f5 : (x.g.n : Int) ≤ 1048576 ∧ L5 ≤ L4 := by
    have := unhide E5
    split at this <;> omega
  clear E5
  obtain ⟨L6, e6⟩ : ∃ L : Int, L = if L5 - x.e.n < 0 then -1 else L5 - x.e.n := ⟨_, rfl⟩
  have C6 := hide (fun (W : World) (hb : Below w.heap.size w W) => szB1_to x.e.a x.e.n x.e.c L5 L6 W (by omega) (by omega) m.e e6)
  have E6 := hide e6
  clear e6
  go_wp2_with fail
  refine ((unhide C6) _ (unhide HB)).mono ?_
  rintro e w' ⟨rfl, rfl⟩
  clear C6
  by_cases t6 : L6 < 0
  · have d : decide (L6 < 0) = true := decide_eq_true t6
    go_wp2_with fail
    go_ret
    exact ⟨⟨-1, rfl, by omega, by omega, fun hh => by omega⟩, unhide HB⟩
  have d6 : decide (L6 < 0) = false := decide_eq_false t6
  have G6 : Hid (L6 = L5 - x.e.n) := by
    show _ = _
    have := unhide E6
    split at this <;> omega
  have f6 : (x.e.n : Int) ≤ 1048576 ∧ L6 ≤ L5 := by
    have := unhide E6
    split at this <;> omega
  clear E6
  obtain ⟨L7, e7⟩ : ∃ L : Int, L = szBss L6 h.k := ⟨_, rfl⟩
  have C7 := hide (fun (W : World) (hb : Below w.heap.size w W) => szBss_to x.k.a x.k.n x.k.c h.k L6 L7 W ((unhide HO) W hb).k m.k (by omega) (by omega) e7)
  have E7 := hide e7
  clear e7
  go_wp2_with fail
  refine ((unhide C7) _ (unhide HB)).mono ?_
  rintro e w' ⟨rfl, rfl⟩
  clear C7
  by_cases t7 : L7 < 0
  · have d : decide (L7 < 0) = true := decide_eq_true t7
    go_wp2_with fail
    go_ret
    exact ⟨⟨-1, rfl, by omega, by omega, fun hh => by omega⟩, unhide HB⟩
  have d7 : decide (L7 < 0) = false := decide_eq_false t7
  have f7 : L7 ≤ L6 := by rw [unhide E7]; exact szBss_le _ (by omega)
  have F7 := hide (szBss_ok (left := L6) (zss := h.k) (by rw [← unhide E7]; omega))
  have G7 : Hid (L7 = L6 - h.k.length - bsum h.k) := by show _ = _; rw [unhide E7]; exact szBss_eq (by rw [← unhide E7]; omega)
  clear E7
  go_wp2_with fail
  go_ret
  refine ⟨⟨L7, rfl, by omega, by omega, fun _ => ?_⟩, unhide HB⟩
  have o := unhide HN
  obtain ⟨u3, v3⟩ := unhide F3
  obtain ⟨u7, v7⟩ := unhide F7
  refine ⟨?_, by have q1 := o.p.1; have e1 := unhide G1; have e2 := unhide G2; have e3 := unhide G3; have e4 := unhide G4; have e5 := unhide G5; have e6 := unhide G6; have e7 := unhide G7; have q2 := o.t.1; have q3 := o.r.1; have q4 := o.g.1; have q5 := o.e.1; unfold hTot; omega⟩
  exact ⟨by rw [o.p.1]; omega, by rw [o.t.1]; omega, by omega, fun z hz => by have := v3 z hz; omega, by rw [o.r.1]; omega, by rw [o.g.1]; omega, by rw [o.e.1]; omega, by omega, fun z hz => by have := v7 z hz; omega⟩

theorem szHeader_any (x : HS) (h : Hd) (L0 : Int) (w : World) (o : HOk w x h) (m : HMax x maxLen) (h0 : 0 ≤ L0) (h1 : L0 ≤ 1048576) :
    Calls Tryd.prog 8 #[.agg (hvals x h), .int .i64 L0] w fun e w' => (∃ r : Int, e = .returned (.int .i64 r) ∧ -1 ≤ r ∧ r ≤ L0 ∧ (0 ≤ r → HSm h)) ∧ Below w.heap.size w w' :=
  (szHeader_tot x h L0 w o m h0 h1).mono fun e w' ⟨⟨r, a, b, c, d⟩, k⟩ => ⟨⟨r, a, b, c, fun z => (d z).1⟩, k⟩

end Go.Proofs.YtbncoiljklagkaaDoor

/- What is proved here: the contracts of the laws' helper functions on byte slices (toByteS, eqByteS), for slices of at most 2^20 bytes. -/
namespace Go.Proofs.YtbncoiljklagkaaDoor
open Go.RowKit
set_option linter.unusedVariables false

set_option maxHeartbeats 400000 in
theorem toByteS_any (a : Option Addr) (len cap : Nat) (zs : List Int) (w : World) (h : BRow w a len zs) (hl : len ≤ 1048576) :
    Calls Tryd.prog 20 #[.slice a len cap] w fun e w' => e = .returned (.slice (some ⟨w.heap.size, 0, none⟩) len len) ∧
      w'.ownsRow w.heap.size 5 1 (.slice (some ⟨w.heap.size, 0, none⟩) len len) len (zs.map (Value.int .u8)) ∧ Below w.heap.size w w' := by
  obtain ⟨i0, hi, hz0, hz1, hz2⟩ := info_parts info5
  rcases Nat.eq_zero_or_pos len with h0 | hp
  · subst h0
    have hzs : zs = [] := List.length_eq_zero_iff.1 h.1
    subst hzs
    clear h hl
    go_enter Tryd.func20, Tryd.ntmps20
    go_wp2_with (at_make; refine wpList_make_full _ rfl _ _ 22 rfl w.heap.size 5 i0 (.int .u8 0) 1 Tryd.underlying22 hi hz0 hz1 _ _ _ _ 0 rfl rfl rfl rfl ?c1 ?c2 ?c3 ?_)
    case c1 => omega
    case c2 => unfold maxLen; omega
    case c3 => omega
    intro w1 hown hgrow
    go_wp2
    refine wp_loop_rounds 1 ?_
    rw [rounds_succ]
    go_wp2
    go_ret
    exact ⟨rfl, by simpa [toList_madeCells_one] using hown, (Below.refl _ _).grown hgrow (Nat.le_refl _) (fun k e => by cases e)⟩
  · obtain ⟨b, off, rfl, hb, hc⟩ := h.at hp
    have hzl := h.1
    clear h
    go_enter Tryd.func20, Tryd.ntmps20
    go_wp2_with (at_make; refine wpList_make_full _ rfl _ _ 22 rfl w.heap.size 5 i0 (.int .u8 0) 1 Tryd.underlying22 hi hz0 hz1 _ _ _ _ len rfl rfl rfl rfl ?c1 ?c2 ?c3 ?_)
    case c1 => rw [hz2]; omega
    case c2 => unfold maxLen; omega
    case c3 => omega
    intro w1 hown hgrow
    have hown0 : w1.ownsRow w.heap.size 5 1 (.slice (some ⟨w.heap.size, 0, none⟩) len len) len ((zs.take 0 ++ List.replicate (len - 0) 0).map (Value.int .u8)) := by
      have e : (madeCells #[Value.int .u8 0] len).toList = (zs.take 0 ++ List.replicate (len - 0) 0).map (Value.int .u8) := by
        rw [toList_madeCells_one]; simp
      rw [← e]; exact hown
    have hbel : Below w.heap.size w w1 := (Below.refl _ _).grown hgrow (Nat.le_refl _) (fun k e => by cases e)
    clear hown hgrow
    go_wp2
    go_loopw [4] (fun i wr => ∃ k : Nat, k ≤ len ∧ i = .int .i64 k ∧ wr.ownsRow w.heap.size 5 1 (.slice (some ⟨w.heap.size, 0, none⟩) len len) len ((zs.take k ++ List.replicate (len - k) 0).map (Value.int .u8)) ∧ Below w.heap.size w wr)
      (fun i _ => len - (intOf i).toNat)
    case atStart => exact ⟨0, Nat.zero_le _, rfl, hown0, hbel⟩
    case round =>
      obtain ⟨k, hk, rfl, hown, hbr⟩ := hrel
      clear hown0 hbel
      by_cases hlt : k < len
      · have hst := fill_step zs len k hzl hlt
        have hcx : wr.cell? ⟨b, off + k, none⟩ = some (.int .u8 (zs.getD k 0)) := (hbr.cell (by exact hb)).trans (hc k hlt)
        generalize zs.getD k 0 = z at hcx hst
        have hfz := hown.frozenAt k
        obtain ⟨u, hu⟩ : ∃ u, wr.cell? ⟨w.heap.size, k, none⟩ = some u := by
          rw [hown.cellAt k (by omega)]
          exact ⟨_, List.getElem?_eq_getElem (by rw [hown.1]; omega)⟩
        have R := hown.stored k (.int .u8 z)
        rw [hst] at R
        have HR := R.1
        have HB : Below w.heap.size w (wr.setCell ⟨w.heap.size, k, none⟩ (.int .u8 z)) := hbr.setCell (Nat.le_refl _) _
        clear R hown hst
        go_wp2
        go_roundw
        case rel => exact ⟨k + 1, by omega, by go_num, HR, HB⟩
        case measure => simp [intOf]; omega
      · obtain rfl : k = len := by omega
        go_wp2
        go_ret
        refine ⟨rfl, ?_, hbr⟩
        simpa [← hzl] using hown


set_option maxHeartbeats 400000 in
theorem eqByteS_any (a b : Option Addr) (la ca lb cb : Nat) (xs ys : List Int) (w : World) (ha : BRow w a la xs) (hb : BRow w b lb ys) (hl : la ≤ 1048576) (hl2 : lb ≤ 1048576) :
    Calls Tryd.prog 22 #[.slice a la ca, .slice b lb cb] w fun e w' => e = .returned (.bool (sameB xs ys)) ∧ ∃ n, w' = w.drewN n := by
  have hxl := ha.1
  have hyl := hb.1
  by_cases hne : la = lb
  · subst hne
    have hlen : (((la : Nat) : Int) != ((la : Nat) : Int)) = false := by simp
    rcases Nat.eq_zero_or_pos la with h0 | hp
    · subst h0
      have hx : xs = [] := List.length_eq_zero_iff.1 hxl
      have hy : ys = [] := List.length_eq_zero_iff.1 hyl
      subst hx hy
      clear ha hb
      go_enter Tryd.func22, Tryd.ntmps22
      go_wp2
      refine wp_loop_rounds 1 ?_
      rw [rounds_succ]
      go_wp2
      go_ret
      exact ⟨rfl, 0, rfl⟩
    · obtain ⟨ba, oa, rfl, hba, hca⟩ := ha.at hp
      obtain ⟨bb, ob, rfl, hbb, hcb⟩ := hb.at hp
      have HCA := hide hca
      have HCB := hide hcb
      clear ha hb hca hcb
      go_enter Tryd.func22, Tryd.ntmps22
      go_wp2
      go_loopw [5] (fun i wr => ∃ k n : Nat, k ≤ la ∧ i = .int .i64 k ∧ xs.take k = ys.take k ∧ wr = w.drewN n)
        (fun i _ => la - (intOf i).toNat)
      case atStart => exact ⟨0, 0, Nat.zero_le _, rfl, rfl, rfl⟩
      case round =>
        obtain ⟨k, n, hk, rfl, hpre, rfl⟩ := hrel
        by_cases hlt : k < la
        · have h1 : w.cell? ⟨ba, oa + k, none⟩ = some (.int .u8 (xs.getD k 0)) := (unhide HCA) k hlt
          have h2 : w.cell? ⟨bb, ob + k, none⟩ = some (.int .u8 (ys.getD k 0)) := (unhide HCB) k hlt
          have Hs := take_same xs ys k (by omega) (by omega) hpre
          have Hd := take_other xs ys k (by omega) (by omega)
          generalize xs.getD k 0 = x at h1 Hs Hd
          generalize ys.getD k 0 = y at h2 Hs Hd
          have HS := hide Hs
          have HD := hide Hd
          have HP := hide hpre
          have i1 : (0 : Int) ≤ (k : Int) := by omega
          have i2 : (k : Int) < (la : Int) := by omega
          clear Hs Hd hpre hxl hyl
          by_cases hxy : x = y
          · subst hxy
            have HT := hide ((unhide HS) rfl)
            clear HS HD HP
            have ht : (x != x) = false := by simp
            go_wp2
            go_quiet (fail)
            go_wp2
            go_roundw
            case rel => exact ⟨k + 1, _, by omega, by go_num, unhide HT, rfl⟩
            case measure => simp [intOf]; omega
          · have ht : (x != y) = true := by simp [hxy]
            go_wp2
            go_quiet (fail)
            go_wp2
            go_ret
            exact ⟨ret_bool ((unhide HD) hxy).symm, _, World.drewN_drewN ..⟩
        · obtain rfl : k = la := by omega
          have e := take_whole xs ys k hxl hyl hpre
          have HE := hide e
          clear e hpre hxl hyl
          go_wp2
          go_ret
          exact ⟨ret_bool (unhide HE).symm, n, rfl⟩
  · have hlen : (((la : Nat) : Int) != ((lb : Nat) : Int)) = true := by simp; omega
    have e : sameB xs ys = false := by
      unfold sameB
      rw [beq_eq_false_iff_ne]
      intro e; rw [e] at hxl; omega
    have HE := hide e
    clear e
    go_enter Tryd.func22, Tryd.ntmps22
    go_wp2
    go_ret
    exact ⟨ret_bool (unhide HE).symm, 0, rfl⟩

end Go.Proofs.YtbncoiljklagkaaDoor

/- What is proved here: the contract of the laws' helper function that copies slices of slices of bytes (toByteSS). -/
namespace Go.Proofs.YtbncoiljklagkaaDoor
open Go.RowKit
set_option linter.unusedVariables false

theorem infoSB : (Tryd.prog.info? 22).map (fun i => (i.zero, i.size, i.bytes)) = some (some (.slice none 0 0), 1, 24) := by kernel_rfl

set_option maxHeartbeats 2000000 in
theorem toByteSS_any (a : Option Addr) (len cap : Nat) (zss : List (List Int)) (w : World) (h : BsRow w a len zss) (hl : len ≤ 1048576) (hz : ∀ z ∈ zss, z.length ≤ 1048576) :
    Calls Tryd.prog 28 #[.slice a len cap] w fun e w' => e = .returned (.slice (some ⟨w.heap.size, 0, none⟩) len len) ∧ OBss w' w.heap.size zss 22 w'.heap.size ∧ Below w.heap.size w w' := by
  obtain ⟨i0, hi, hz0, hz1, hz2⟩ := info_parts infoSB
  have hil := h.1
  rcases Nat.eq_zero_or_pos len with h0 | hp
  · subst h0
    have hn : zss = [] := List.length_eq_zero_iff.1 hil
    subst hn
    clear h hl hz
    go_enter Tryd.func28, Tryd.ntmps28
    go_wp2_with (at_make; refine wpList_make_full _ rfl _ _ 23 rfl w.heap.size 22 i0 (.slice none 0 0) 1 Tryd.underlying23 hi hz0 hz1 _ _ _ _ 0 rfl rfl rfl rfl ?c1 ?c2 ?c3 ?_)
    case c1 => omega
    case c2 => unfold maxLen; omega
    case c3 => omega
    intro w1 hown hgrow
    go_wp2
    refine wp_loop_rounds 1 ?_
    rw [rounds_succ]
    go_wp2
    go_ret
    refine ⟨rfl, ?_, (Below.refl _ _).grown hgrow (Nat.le_refl _) (fun k e => by cases e)⟩
    obtain ⟨vs, hv, hvl⟩ := own_sblk hown
    exact BUpto.zero hv (by simpa using hvl)
  · obtain ⟨b, off, rfl, hb, hc⟩ := h.at hp
    have HC := hide hc
    have HL := hide hil
    have HZ := hide hz
    clear h hc hil hz
    go_enter Tryd.func28, Tryd.ntmps28
    go_wp2_with (at_make; refine wpList_make_full _ rfl _ _ 23 rfl w.heap.size 22 i0 (.slice none 0 0) 1 Tryd.underlying23 hi hz0 hz1 _ _ _ _ len rfl rfl rfl rfl ?c1 ?c2 ?c3 ?_)
    case c1 => rw [hz2]; omega
    case c2 => unfold maxLen; omega
    case c3 => omega
    intro w1 hown hgrow
    obtain ⟨vs, hv, hvl⟩ := own_sblk hown
    have hst : BUpto w1 w.heap.size zss 0 len 22 w1.heap.size := BUpto.zero hv (by simpa using hvl)
    have hbel : Below w.heap.size w w1 := (Below.refl _ _).grown hgrow (Nat.le_refl _) (fun k e => by cases e)
    clear hown hgrow hv hvl
    go_wp2_with fail
    go_loopw [4] (fun i wr => ∃ k : Nat, k ≤ len ∧ i = .int .i64 k ∧ BUpto wr w.heap.size zss k len 22 wr.heap.size ∧ Below w.heap.size w wr) (fun i _ => len - (intOf i).toNat)
    case atStart => exact ⟨0, Nat.zero_le _, rfl, hst, hbel⟩
    case round =>
      obtain ⟨k, hk, rfl, hup, hbr⟩ := hrel
      clear hst hbel
      by_cases hlt : k < len
      · obtain ⟨z, hit⟩ : ∃ z, zss[k]? = some z := ⟨_, List.getElem?_eq_getElem (by rw [unhide HL]; exact hlt)⟩
        have hat := (unhide HC k z hit).below hbr (Nat.le_refl _)
        have hio := (unhide HZ) z (List.mem_of_getElem? hit)
        obtain ⟨sa, sl, sc, c0, hbrow⟩ := hat
        have hsl : z.length = sl := hbrow.1
        rw [hsl] at hio
        have HT := hide (fun W hb => toByteS_any sa sl sc z W (hbrow.below (w' := W) (B := wr.heap.size) hb (Nat.le_refl _)) hio)
        have HB := hide hbr
        have hs : w.heap.size < wr.heap.size := hup.lt
        have hstep : Hid (∀ w2 : World, Below wr.heap.size wr w2 → wr.heap.size < w2.heap.size → w2.ownsRow wr.heap.size 5 1 (.slice (some ⟨wr.heap.size, 0, none⟩) sl sl) sl (z.map (Value.int .u8)) →
            BUpto (w2.setCell ⟨w.heap.size, k, none⟩ (.slice (some ⟨wr.heap.size, 0, none⟩) sl sl)) w.heap.size zss (k + 1) len 22 w2.heap.size) := fun w2 hb hm ho => by
          subst hsl
          exact hup.step hlt hit hb (by omega) hm (ownsRow_base ho (by omega))
        have hslot := hide (fun (w2 : World) (hb : Below wr.heap.size wr w2) => (hup.below hb (Nat.le_refl _)).slot hlt)
        generalize z = bz at HT hstep
        have i1 : (0 : Int) ≤ (k : Int) := by omega
        have i2 : (k : Int) < (len : Int) := by omega
        clear hup hbr hbrow hsl hit
        go_wp2_with fail
        refine ((unhide HT) _ (Below.refl _ _)).mono ?_
        rintro e w2 ⟨rfl, o2, b2⟩
        obtain ⟨⟨u0, g0⟩, gf⟩ := (unhide hslot) w2 b2
        have hm : wr.heap.size < w2.heap.size := (o2.lt wr.heap.size rfl).2
        have HN := hide ((unhide hstep) w2 b2 hm o2)
        have HB2 := hide ((unhide HB).trans (b2.mono (unhide HB).size))
        clear o2 b2 hslot hstep
        go_wp2_with fail
        go_roundw
        case rel => exact ⟨k + 1, by omega, by go_num, by rw [size_set']; exact unhide HN, (unhide HB2).setCell (Nat.le_refl _) _⟩
        case measure => simp [intOf]; omega
      · obtain rfl : k = len := by omega
        have HU := hide hup
        have HB := hide hbr
        clear hup hbr
        go_wp2_with fail
        go_ret
        refine ⟨rfl, ?_, unhide HB⟩
        unfold OBss
        rw [unhide HL]
        exact unhide HU

end Go.Proofs.YtbncoiljklagkaaDoor

/- What is proved here: the contract of the laws' helper function toHeader: the header's copy, in new memory of its own. -/
namespace Go.Proofs.YtbncoiljklagkaaDoor
open Go.RowKit
set_option linter.unusedVariables false

theorem three_blk (w : World) (vs us ts : Array Value) (T S R : TypeId) : SBlk (((w.alloc (.cells vs T)).alloc (.cells us S)).alloc (.cells ts R)) w.heap.size vs.toList T ∧ SBlk (((w.alloc (.cells vs T)).alloc (.cells us S)).alloc (.cells ts R)) (w.heap.size + 1) us.toList S ∧
    SBlk (((w.alloc (.cells vs T)).alloc (.cells us S)).alloc (.cells ts R)) (w.heap.size + 2) ts.toList R ∧ Below w.heap.size w (((w.alloc (.cells vs T)).alloc (.cells us S)).alloc (.cells ts R)) ∧ (((w.alloc (.cells vs T)).alloc (.cells us S)).alloc (.cells ts R)).heap.size = w.heap.size + 3 := by
  refine ⟨((SBlk.new w vs T).next _).next _, ?_, ?_, (((Below.refl _ _).alloc (Nat.le_refl _) _).alloc (by simp) _).alloc (by simp; omega) _, by simp⟩
  · have h := (SBlk.new (w.alloc (.cells vs T)) us S).next (.cells ts R)
    rwa [show (w.alloc (.cells vs T)).heap.size = w.heap.size + 1 by simp] at h
  · have h := SBlk.new ((w.alloc (.cells vs T)).alloc (.cells us S)) ts R
    rwa [show ((w.alloc (.cells vs T)).alloc (.cells us S)).heap.size = w.heap.size + 2 by simp] at h

theorem toB_to (a : Option Addr) (n cap : Nat) (z : List Int) (W : World) (g : Nat) (hg : W.heap.size = g) (h : BRow W a n z) (hl : z.length ≤ 1048576) :
    Calls Tryd.prog 20 #[.slice a n cap] W fun e w' => e = .returned (.slice (some ⟨g, 0, none⟩) z.length z.length) ∧ w'.ownsRow g 5 1 (.slice (some ⟨g, 0, none⟩) z.length z.length) z.length (z.map (Value.int .u8)) ∧ Below g W w' := by
  subst hg
  obtain rfl : z.length = n := h.1
  exact toByteS_any a _ cap z W h hl

theorem toBs_to (a : Option Addr) (n cap : Nat) (z : List (List Int)) (W : World) (g : Nat) (hg : W.heap.size = g) (h : BsRow W a n z) (hl : z.length ≤ 1048576) (hz : ∀ y ∈ z, y.length ≤ 1048576) :
    Calls Tryd.prog 28 #[.slice a n cap] W fun e w' => e = .returned (.slice (some ⟨g, 0, none⟩) z.length z.length) ∧ OBss w' g z 22 w'.heap.size ∧ Below g W w' := by
  subst hg
  obtain rfl : z.length = n := h.1
  exact toByteSS_any a _ cap z W h hl hz

/-- The header's slices lie in blocks of their own, all from B on. -/
def HOwn (w : World) (B : Nat) (x : HS) (h : Hd) : Prop :=
  ∃ g1 g2 g3 g4 g5 g6 g7 : Nat, x = ⟨⟨some ⟨g1, 0, none⟩, h.p.length, h.p.length⟩, ⟨some ⟨g2, 0, none⟩, h.t.length, h.t.length⟩, ⟨some ⟨g3, 0, none⟩, h.s.length, h.s.length⟩, ⟨some ⟨g4, 0, none⟩, h.r.length, h.r.length⟩, ⟨some ⟨g5, 0, none⟩, h.g.length, h.g.length⟩, ⟨some ⟨g6, 0, none⟩, h.e.length, h.e.length⟩, ⟨some ⟨g7, 0, none⟩, h.k.length, h.k.length⟩⟩ ∧
    (B ≤ g1 ∧ g1 < g2 ∧ g2 < g3 ∧ g3 < g4 ∧ g4 < g5 ∧ g5 < g6 ∧ g6 < g7) ∧
    w.ownsRow g1 5 1 (.slice (some ⟨g1, 0, none⟩) h.p.length h.p.length) h.p.length (h.p.map (Value.int .u8)) ∧
    w.ownsRow g2 5 1 (.slice (some ⟨g2, 0, none⟩) h.t.length h.t.length) h.t.length (h.t.map (Value.int .u8)) ∧
    OBss w g3 h.s 22 g4 ∧
    w.ownsRow g4 5 1 (.slice (some ⟨g4, 0, none⟩) h.r.length h.r.length) h.r.length (h.r.map (Value.int .u8)) ∧
    w.ownsRow g5 5 1 (.slice (some ⟨g5, 0, none⟩) h.g.length h.g.length) h.g.length (h.g.map (Value.int .u8)) ∧
    w.ownsRow g6 5 1 (.slice (some ⟨g6, 0, none⟩) h.e.length h.e.length) h.e.length (h.e.map (Value.int .u8)) ∧
    OBss w g7 h.k 22 w.heap.size

/-- What is owned reads so. -/
theorem HOwn.ok {w v : World} {B : Nat} {x y : HS} {h : Hd} (o : HOwn w B x h) (q : HOk v y h) : HOk w x h := by
  obtain ⟨g1, g2, g3, g4, g5, g6, g7, rfl, _, o1, o2, o3, o4, o5, o6, o7⟩ := o
  exact ⟨BRow.own2 o1 q.p.2.1, BRow.own2 o2 q.t.2.1, o3.row q.s.2.1 q.s.bytes, BRow.own2 o4 q.r.2.1, BRow.own2 o5 q.g.2.1, BRow.own2 o6 q.e.2.1, o7.row q.k.2.1 q.k.bytes⟩

set_option maxHeartbeats 16000000 in
theorem toHeader_any (x : HS) (h : Hd) (w : World) (o : HOk w x h) (m : HSm h) :
    Calls Tryd.prog 10 #[.agg (hvals x h)] w fun e w' => ∃ y, e = .returned (.agg (hvals y h)) ∧ HOwn w' (w.heap.size + 3) y h ∧ Below w.heap.size w w' := by
  have HO := hide (fun (W : World) (hb : Below w.heap.size w W) => o.below hb (Nat.le_refl _))
  have HM := hide m
  obtain ⟨k0, k1, k2, K0, hsz⟩ := three_blk w (hvals x h) #[.slice none 0 0, .int .i64 0, .int .i64 0, .int .i64 0, .slice none 0 0, .int .i64 0, .slice none 0 0, .slice none 0 0, .slice none 0 0, .slice none 0 0, .slice none 0 0] #[.slice none 0 0, .int .i64 0, .int .i64 0, .int .i64 0, .slice none 0 0, .int .i64 0, .slice none 0 0, .slice none 0 0, .slice none 0 0, .slice none 0 0, .slice none 0 0] 25 30 30
  clear o m
  unfold hvals at k0 k1 k2 K0 hsz ⊢
  obtain ⟨W0, e0⟩ : ∃ W0, ((w.alloc (.cells #[.slice x.p.a x.p.n x.p.c, .int .i64 h.n1, .int .i64 h.n2, .int .i64 h.n3, .slice x.t.a x.t.n x.t.c, .int .i64 h.n5, .slice x.s.a x.s.n x.s.c, .slice x.r.a x.r.n x.r.c, .slice x.g.a x.g.n x.g.c, .slice x.e.a x.e.n x.e.c, .slice x.k.a x.k.n x.k.c] 25)).alloc (.cells #[.slice none 0 0, .int .i64 0, .int .i64 0, .int .i64 0, .slice none 0 0, .int .i64 0, .slice none 0 0, .slice none 0 0, .slice none 0 0, .slice none 0 0, .slice none 0 0] 30)).alloc (.cells #[.slice none 0 0, .int .i64 0, .int .i64 0, .int .i64 0, .slice none 0 0, .int .i64 0, .slice none 0 0, .slice none 0 0, .slice none 0 0, .slice none 0 0, .slice none 0 0] 30) = W0 := ⟨_, rfl⟩
  rw [e0] at k0 k1 k2 K0 hsz
  go_enter Tryd.func10, Tryd.ntmps10
  have x0 := k0.cell 0
  simp only [List.getElem?_cons_zero] at x0
  go_wp2_with (rw [e0])
  clear e0 x0
  have hg1 : w.heap.size + 2 < W0.heap.size := by omega
  obtain ⟨g1, eg1⟩ : ∃ g, g = W0.heap.size := ⟨_, rfl⟩
  have cg1 : w.heap.size + 3 ≤ g1 := by omega
  clear hsz hg1
  have EG1 := hide eg1
  clear eg1
  refine (toB_to x.p.a x.p.n x.p.c h.p _ g1 ((unhide EG1).symm) ((unhide HO) _ K0).p (unhide HM).p).mono ?_
  rintro e w1 ⟨rfl, o1, b1⟩
  have k0 := k0.below b1 (by omega)
  have k1 := k1.below b1 (by omega)
  have k2 := k2.below b1 (by omega)
  have K1 := K0.trans (b1.mono (by omega))
  have lt1 : g1 < w1.heap.size := (o1.lt g1 rfl).2
  have x1 := k0.cell 1
  have x2 := k0.cell 2
  have x3 := k0.cell 3
  have x4 := k0.cell 4
  have u0 := k2.cell 0
  have v0 := k2.free 0
  have u1 := k2.cell 1
  have v1 := k2.free 1
  have u2 := k2.cell 2
  have v2 := k2.free 2
  have u3 := k2.cell 3
  have v3 := k2.free 3
  simp only [List.getElem?_cons_zero, List.getElem?_cons_succ] at x1 x2 x3 x4 u0 u1 u2 u3
  have Q := hide (And.intro k1 (And.intro b1 (And.intro K1 trivial)))
  go_wp2_with fail
  clear Q x1 x2 x3 x4 u0 u1 u2 u3 v0 v1 v2 v3
  obtain ⟨g2, eg2⟩ : ∃ g, g = w1.heap.size := ⟨_, rfl⟩
  have cg2 : g1 < g2 := by omega
  clear lt1
  have EG2 := hide eg2
  clear eg2
  refine (toB_to x.t.a x.t.n x.t.c h.t _ g2 (by simp only [size_set']; exact (unhide EG2).symm) ((unhide HO) _ ((((K1.setCell (p := ⟨w.heap.size + 2, _, none⟩) (by show w.heap.size ≤ w.heap.size + 2; omega) _).setCell (p := ⟨w.heap.size + 2, _, none⟩) (by show w.heap.size ≤ w.heap.size + 2; omega) _).setCell (p := ⟨w.heap.size + 2, _, none⟩) (by show w.heap.size ≤ w.heap.size + 2; omega) _).setCell (p := ⟨w.heap.size + 2, _, none⟩) (by show w.heap.size ≤ w.heap.size + 2; omega) _)).t (unhide HM).t).mono ?_
  rintro e w2 ⟨rfl, o2, b2⟩
  have k0 := ((((k0.other (g' := w.heap.size + 2) (by omega)).other (g' := w.heap.size + 2) (by omega)).other (g' := w.heap.size + 2) (by omega)).other (g' := w.heap.size + 2) (by omega)).below b2 (by omega)
  have k1 := ((((k1.other (g' := w.heap.size + 2) (by omega)).other (g' := w.heap.size + 2) (by omega)).other (g' := w.heap.size + 2) (by omega)).other (g' := w.heap.size + 2) (by omega)).below b2 (by omega)
  have k2 := ((((k2.set 0 (.slice (some ⟨g1, 0, none⟩) h.p.length h.p.length)).set 1 (.int .i64 h.n1)).set 2 (.int .i64 h.n2)).set 3 (.int .i64 h.n3)).below b2 (by omega)
  simp only [List.set_cons_zero, List.set_cons_succ] at k2
  have K2 := ((((K1.setCell (p := ⟨w.heap.size + 2, _, none⟩) (by show w.heap.size ≤ w.heap.size + 2; omega) _).setCell (p := ⟨w.heap.size + 2, _, none⟩) (by show w.heap.size ≤ w.heap.size + 2; omega) _).setCell (p := ⟨w.heap.size + 2, _, none⟩) (by show w.heap.size ≤ w.heap.size + 2; omega) _).setCell (p := ⟨w.heap.size + 2, _, none⟩) (by show w.heap.size ≤ w.heap.size + 2; omega) _).trans (b2.mono (by omega))
  have o1 := own_below (ownsRow_setCell_below (ownsRow_setCell_below (ownsRow_setCell_below (ownsRow_setCell_below o1 (by show w.heap.size + 2 < g1; omega) _) (by show w.heap.size + 2 < g1; omega) _) (by show w.heap.size + 2 < g1; omega) _) (by show w.heap.size + 2 < g1; omega) _) b2 (by simp only [size_set']; exact Nat.le_of_eq (unhide EG2).symm)
  have lt2 : g2 < w2.heap.size := (o2.lt g2 rfl).2
  have x5 := k0.cell 5
  have x6 := k0.cell 6
  have u4 := k2.cell 4
  have v4 := k2.free 4
  have u5 := k2.cell 5
  have v5 := k2.free 5
  simp only [List.getElem?_cons_zero, List.getElem?_cons_succ] at x5 x6 u4 u5
  have Q := hide (And.intro k1 (And.intro b2 (And.intro K2 trivial)))
  go_wp2_with fail
  clear Q x5 x6 u4 u5 v4 v5
  obtain ⟨g3, eg3⟩ : ∃ g, g = w2.heap.size := ⟨_, rfl⟩
  have cg3 : g2 < g3 := by omega
  clear lt2
  have EG3 := hide eg3
  clear eg3
  refine (toBs_to x.s.a x.s.n x.s.c h.s _ g3 (by simp only [size_set']; exact (unhide EG3).symm) ((unhide HO) _ ((K2.setCell (p := ⟨w.heap.size + 2, _, none⟩) (by show w.heap.size ≤ w.heap.size + 2; omega) _).setCell (p := ⟨w.heap.size + 2, _, none⟩) (by show w.heap.size ≤ w.heap.size + 2; omega) _)).s (unhide HM).s (unhide HM).sz).mono ?_
  rintro e w3 ⟨rfl, o3, b3⟩
  have k0 := ((k0.other (g' := w.heap.size + 2) (by omega)).other (g' := w.heap.size + 2) (by omega)).below b3 (by omega)
  have k1 := ((k1.other (g' := w.heap.size + 2) (by omega)).other (g' := w.heap.size + 2) (by omega)).below b3 (by omega)
  have k2 := ((k2.set 4 (.slice (some ⟨g2, 0, none⟩) h.t.length h.t.length)).set 5 (.int .i64 h.n5)).below b3 (by omega)
  simp only [List.set_cons_zero, List.set_cons_succ] at k2
  have K3 := ((K2.setCell (p := ⟨w.heap.size + 2, _, none⟩) (by show w.heap.size ≤ w.heap.size + 2; omega) _).setCell (p := ⟨w.heap.size + 2, _, none⟩) (by show w.heap.size ≤ w.heap.size + 2; omega) _).trans (b3.mono (by omega))
  have o1 := own_below (ownsRow_setCell_below (ownsRow_setCell_below o1 (by show w.heap.size + 2 < g1; omega) _) (by show w.heap.size + 2 < g1; omega) _) b3 (by simp only [size_set']; exact Nat.le_of_eq (unhide EG3).symm)
  have o2 := own_below (ownsRow_setCell_below (ownsRow_setCell_below o2 (by show w.heap.size + 2 < g2; omega) _) (by show w.heap.size + 2 < g2; omega) _) b3 (by simp only [size_set']; exact Nat.le_of_eq (unhide EG3).symm)
  have lt3 : g3 < w3.heap.size := BUpto.lt o3
  have x7 := k0.cell 7
  have u6 := k2.cell 6
  have v6 := k2.free 6
  simp only [List.getElem?_cons_zero, List.getElem?_cons_succ] at x7 u6
  have Q := hide (And.intro k1 (And.intro b3 (And.intro K3 trivial)))
  go_wp2_with fail
  clear Q x7 u6 v6
  obtain ⟨g4, eg4⟩ : ∃ g, g = w3.heap.size := ⟨_, rfl⟩
  have cg4 : g3 < g4 := by omega
  clear lt3
  have EG4 := hide eg4
  clear eg4
  refine (toB_to x.r.a x.r.n x.r.c h.r _ g4 (by simp only [size_set']; exact (unhide EG4).symm) ((unhide HO) _ (K3.setCell (p := ⟨w.heap.size + 2, _, none⟩) (by show w.heap.size ≤ w.heap.size + 2; omega) _)).r (unhide HM).r).mono ?_
  rintro e w4 ⟨rfl, o4, b4⟩
  have k0 := (k0.other (g' := w.heap.size + 2) (by omega)).below b4 (by omega)
  have k1 := (k1.other (g' := w.heap.size + 2) (by omega)).below b4 (by omega)
  have k2 := (k2.set 6 (.slice (some ⟨g3, 0, none⟩) h.s.length h.s.length)).below b4 (by omega)
  simp only [List.set_cons_zero, List.set_cons_succ] at k2
  have K4 := (K3.setCell (p := ⟨w.heap.size + 2, _, none⟩) (by show w.heap.size ≤ w.heap.size + 2; omega) _).trans (b4.mono (by omega))
  have o1 := own_below (ownsRow_setCell_below o1 (by show w.heap.size + 2 < g1; omega) _) b4 (by simp only [size_set']; exact Nat.le_of_eq (unhide EG4).symm)
  have o2 := own_below (ownsRow_setCell_below o2 (by show w.heap.size + 2 < g2; omega) _) b4 (by simp only [size_set']; exact Nat.le_of_eq (unhide EG4).symm)
  have o3 := BUpto.below (BUpto.stored (g' := w.heap.size + 2) o3 (by omega)) b4 (by simp only [size_set']; exact Nat.le_of_eq (unhide EG4).symm)
  have lt4 : g4 < w4.heap.size := (o4.lt g4 rfl).2
  have x8 := k0.cell 8
  have u7 := k2.cell 7
  have v7 := k2.free 7
  simp only [List.getElem?_cons_zero, List.getElem?_cons_succ] at x8 u7
  have Q := hide (And.intro k1 (And.intro b4 (And.intro K4 trivial)))
  go_wp2_with fail
  clear Q x8 u7 v7
  obtain ⟨g5, eg5⟩ : ∃ g, g = w4.heap.size := ⟨_, rfl⟩
  have cg5 : g4 < g5 := by omega
  clear lt4
  have EG5 := hide eg5
  clear eg5
  refine (toB_to x.g.a x.g.n x.g.c h.g _ g5 (by simp only [size_set']; exact (unhide EG5).symm) ((unhide HO) _ (K4.setCell (p := ⟨w.heap.size + 2, _, none⟩) (by show w.heap.size ≤ w.heap.size + 2; omega) _)).g (unhide HM).g).mono ?_
  rintro e w5 ⟨rfl, o5, b5⟩
  have k0 := (k0.other (g' := w.heap.size + 2) (by omega)).below b5 (by omega)
  have k1 := (k1.other (g' := w.heap.size + 2) (by omega)).below b5 (by omega)
  have k2 := (k2.set 7 (.slice (some ⟨g4, 0, none⟩) h.r.length h.r.length)).below b5 (by omega)
  simp only [List.set_cons_zero, List.set_cons_succ] at k2
  have K5 := (K4.setCell (p := ⟨w.heap.size + 2, _, none⟩) (by show w.heap.size ≤ w.heap.size + 2; omega) _).trans (b5.mono (by omega))
  have o1 := own_below (ownsRow_setCell_below o1 (by show w.heap.size + 2 < g1; omega) _) b5 (by simp only [size_set']; exact Nat.le_of_eq (unhide EG5).symm)
  have o2 := own_below (ownsRow_setCell_below o2 (by show w.heap.size + 2 < g2; omega) _) b5 (by simp only [size_set']; exact Nat.le_of_eq (unhide EG5).symm)
  have o3 := BUpto.below (BUpto.stored (g' := w.heap.size + 2) o3 (by omega)) b5 (by simp only [size_set']; exact Nat.le_of_eq (unhide EG5).symm)
  have o4 := own_below (ownsRow_setCell_below o4 (by show w.heap.size + 2 < g4; omega) _) b5 (by simp only [size_set']; exact Nat.le_of_eq (unhide EG5).symm)
  have lt5 : g5 < w5.heap.size := (o5.lt g5 rfl).2
  have x9 := k0.cell 9
  have u8 := k2.cell 8
  have v8 := k2.free 8
  simp only [List.getElem?_cons_zero, List.getElem?_cons_succ] at x9 u8
  have Q := hide (And.intro k1 (And.intro b5 (And.intro K5 trivial)))
  go_wp2_with fail
  clear Q x9 u8 v8
  obtain ⟨g6, eg6⟩ : ∃ g, g = w5.heap.size := ⟨_, rfl⟩
  have cg6 : g5 < g6 := by omega
  clear lt5
  have EG6 := hide eg6
  clear eg6
  refine (toB_to x.e.a x.e.n x.e.c h.e _ g6 (by simp only [size_set']; exact (unhide EG6).symm) ((unhide HO) _ (K5.setCell (p := ⟨w.heap.size + 2, _, none⟩) (by show w.heap.size ≤ w.heap.size + 2; omega) _)).e (unhide HM).e).mono ?_
  rintro e w6 ⟨rfl, o6, b6⟩
  have k0 := (k0.other (g' := w.heap.size + 2) (by omega)).below b6 (by omega)
  have k1 := (k1.other (g' := w.heap.size + 2) (by omega)).below b6 (by omega)
  have k2 := (k2.set 8 (.slice (some ⟨g5, 0, none⟩) h.g.length h.g.length)).below b6 (by omega)
  simp only [List.set_cons_zero, List.set_cons_succ] at k2
  have K6 := (K5.setCell (p := ⟨w.heap.size + 2, _, none⟩) (by show w.heap.size ≤ w.heap.size + 2; omega) _).trans (b6.mono (by omega))
  have o1 := own_below (ownsRow_setCell_below o1 (by show w.heap.size + 2 < g1; omega) _) b6 (by simp only [size_set']; exact Nat.le_of_eq (unhide EG6).symm)
  have o2 := own_below (ownsRow_setCell_below o2 (by show w.heap.size + 2 < g2; omega) _) b6 (by simp only [size_set']; exact Nat.le_of_eq (unhide EG6).symm)
  have o3 := BUpto.below (BUpto.stored (g' := w.heap.size + 2) o3 (by omega)) b6 (by simp only [size_set']; exact Nat.le_of_eq (unhide EG6).symm)
  have o4 := own_below (ownsRow_setCell_below o4 (by show w.heap.size + 2 < g4; omega) _) b6 (by simp only [size_set']; exact Nat.le_of_eq (unhide EG6).symm)
  have o5 := own_below (ownsRow_setCell_below o5 (by show w.heap.size + 2 < g5; omega) _) b6 (by simp only [size_set']; exact Nat.le_of_eq (unhide EG6).symm)
  have lt6 : g6 < w6.heap.size := (o6.lt g6 rfl).2
  have x10 := k0.cell 10
  have u9 := k2.cell 9
  have v9 := k2.free 9
  simp only [List.getElem?_cons_zero, List.getElem?_cons_succ] at x10 u9
  have Q := hide (And.intro k1 (And.intro b6 (And.intro K6 trivial)))
  go_wp2_with fail
  clear Q x10 u9 v9
  obtain ⟨g7, eg7⟩ : ∃ g, g = w6.heap.size := ⟨_, rfl⟩
  have cg7 : g6 < g7 := by omega
  clear lt6
  have EG7 := hide eg7
  clear eg7
  refine (toBs_to x.k.a x.k.n x.k.c h.k _ g7 (by simp only [size_set']; exact (unhide EG7).symm) ((unhide HO) _ (K6.setCell (p := ⟨w.heap.size + 2, _, none⟩) (by show w.heap.size ≤ w.heap.size + 2; omega) _)).k (unhide HM).k (unhide HM).kz).mono ?_
  rintro e w7 ⟨rfl, o7, b7⟩
  have k0 := (k0.other (g' := w.heap.size + 2) (by omega)).below b7 (by omega)
  have k1 := (k1.other (g' := w.heap.size + 2) (by omega)).below b7 (by omega)
  have k2 := (k2.set 9 (.slice (some ⟨g6, 0, none⟩) h.e.length h.e.length)).below b7 (by omega)
  simp only [List.set_cons_zero, List.set_cons_succ] at k2
  have K7 := (K6.setCell (p := ⟨w.heap.size + 2, _, none⟩) (by show w.heap.size ≤ w.heap.size + 2; omega) _).trans (b7.mono (by omega))
  have o1 := own_below (ownsRow_setCell_below o1 (by show w.heap.size + 2 < g1; omega) _) b7 (by simp only [size_set']; exact Nat.le_of_eq (unhide EG7).symm)
  have o2 := own_below (ownsRow_setCell_below o2 (by show w.heap.size + 2 < g2; omega) _) b7 (by simp only [size_set']; exact Nat.le_of_eq (unhide EG7).symm)
  have o3 := BUpto.below (BUpto.stored (g' := w.heap.size + 2) o3 (by omega)) b7 (by simp only [size_set']; exact Nat.le_of_eq (unhide EG7).symm)
  have o4 := own_below (ownsRow_setCell_below o4 (by show w.heap.size + 2 < g4; omega) _) b7 (by simp only [size_set']; exact Nat.le_of_eq (unhide EG7).symm)
  have o5 := own_below (ownsRow_setCell_below o5 (by show w.heap.size + 2 < g5; omega) _) b7 (by simp only [size_set']; exact Nat.le_of_eq (unhide EG7).symm)
  have o6 := own_below (ownsRow_setCell_below o6 (by show w.heap.size + 2 < g6; omega) _) b7 (by simp only [size_set']; exact Nat.le_of_eq (unhide EG7).symm)
  have lt7 : g7 < w7.heap.size := BUpto.lt o7
  have u0 := k2.cell 0
  have u1 := k2.cell 1
  have u2 := k2.cell 2
  have u3 := k2.cell 3
  have u4 := k2.cell 4
  have u5 := k2.cell 5
  have u6 := k2.cell 6
  have u7 := k2.cell 7
  have u8 := k2.cell 8
  have u9 := k2.cell 9
  have u10 := k2.cell 10
  have v10 := k2.free 10
  have r0 := k1.cell 0
  have q0 := k1.free 0
  have r1 := k1.cell 1
  have q1 := k1.free 1
  have r2 := k1.cell 2
  have q2 := k1.free 2
  have r3 := k1.cell 3
  have q3 := k1.free 3
  have r4 := k1.cell 4
  have q4 := k1.free 4
  have r5 := k1.cell 5
  have q5 := k1.free 5
  have r6 := k1.cell 6
  have q6 := k1.free 6
  have r7 := k1.cell 7
  have q7 := k1.free 7
  have r8 := k1.cell 8
  have q8 := k1.free 8
  have r9 := k1.cell 9
  have q9 := k1.free 9
  have r10 := k1.cell 10
  have q10 := k1.free 10
  simp only [List.getElem?_cons_zero, List.getElem?_cons_succ] at u0 r0 u1 r1 u2 r2 u3 r3 u4 r4 u5 r5 u6 r6 u7 r7 u8 r8 u9 r9 u10 r10
  go_wp2_with fail
  refine bodyPost_ret (v := .agg #[.slice (some ⟨g1, 0, none⟩) h.p.length h.p.length, .int .i64 h.n1, .int .i64 h.n2, .int .i64 h.n3, .slice (some ⟨g2, 0, none⟩) h.t.length h.t.length, .int .i64 h.n5, .slice (some ⟨g3, 0, none⟩) h.s.length h.s.length, .slice (some ⟨g4, 0, none⟩) h.r.length h.r.length, .slice (some ⟨g5, 0, none⟩) h.g.length h.g.length, .slice (some ⟨g6, 0, none⟩) h.e.length h.e.length, .slice (some ⟨g7, 0, none⟩) h.k.length h.k.length]) (by simp [results, Tryd.results10, go_sem, r0, r1, r2, r3, r4, r5, r6, r7, r8, r9, r10]) rfl ⟨⟨⟨some ⟨g1, 0, none⟩, h.p.length, h.p.length⟩, ⟨some ⟨g2, 0, none⟩, h.t.length, h.t.length⟩, ⟨some ⟨g3, 0, none⟩, h.s.length, h.s.length⟩, ⟨some ⟨g4, 0, none⟩, h.r.length, h.r.length⟩, ⟨some ⟨g5, 0, none⟩, h.g.length, h.g.length⟩, ⟨some ⟨g6, 0, none⟩, h.e.length, h.e.length⟩, ⟨some ⟨g7, 0, none⟩, h.k.length, h.k.length⟩⟩, rfl, ⟨g1, g2, g3, g4, g5, g6, g7, rfl, ?_, ?_, ?_, ?_, ?_, ?_, ?_, ?_⟩, ?_⟩
  · refine ⟨?_, ?_, ?_, ?_, ?_, ?_, ?_⟩ <;> omega
  · exact (ownsRow_setCell_below (ownsRow_setCell_below (ownsRow_setCell_below (ownsRow_setCell_below (ownsRow_setCell_below (ownsRow_setCell_below (ownsRow_setCell_below (ownsRow_setCell_below (ownsRow_setCell_below (ownsRow_setCell_below (ownsRow_setCell_below (ownsRow_setCell_below o1 (by show w.heap.size + 2 < g1; omega) _) (by show w.heap.size + 1 < g1; omega) _) (by show w.heap.size + 1 < g1; omega) _) (by show w.heap.size + 1 < g1; omega) _) (by show w.heap.size + 1 < g1; omega) _) (by show w.heap.size + 1 < g1; omega) _) (by show w.heap.size + 1 < g1; omega) _) (by show w.heap.size + 1 < g1; omega) _) (by show w.heap.size + 1 < g1; omega) _) (by show w.heap.size + 1 < g1; omega) _) (by show w.heap.size + 1 < g1; omega) _) (by show w.heap.size + 1 < g1; omega) _)
  · exact (ownsRow_setCell_below (ownsRow_setCell_below (ownsRow_setCell_below (ownsRow_setCell_below (ownsRow_setCell_below (ownsRow_setCell_below (ownsRow_setCell_below (ownsRow_setCell_below (ownsRow_setCell_below (ownsRow_setCell_below (ownsRow_setCell_below (ownsRow_setCell_below o2 (by show w.heap.size + 2 < g2; omega) _) (by show w.heap.size + 1 < g2; omega) _) (by show w.heap.size + 1 < g2; omega) _) (by show w.heap.size + 1 < g2; omega) _) (by show w.heap.size + 1 < g2; omega) _) (by show w.heap.size + 1 < g2; omega) _) (by show w.heap.size + 1 < g2; omega) _) (by show w.heap.size + 1 < g2; omega) _) (by show w.heap.size + 1 < g2; omega) _) (by show w.heap.size + 1 < g2; omega) _) (by show w.heap.size + 1 < g2; omega) _) (by show w.heap.size + 1 < g2; omega) _)
  · rw [unhide EG4]
    exact (BUpto.stored (g' := w.heap.size + 1) (BUpto.stored (g' := w.heap.size + 1) (BUpto.stored (g' := w.heap.size + 1) (BUpto.stored (g' := w.heap.size + 1) (BUpto.stored (g' := w.heap.size + 1) (BUpto.stored (g' := w.heap.size + 1) (BUpto.stored (g' := w.heap.size + 1) (BUpto.stored (g' := w.heap.size + 1) (BUpto.stored (g' := w.heap.size + 1) (BUpto.stored (g' := w.heap.size + 1) (BUpto.stored (g' := w.heap.size + 1) (BUpto.stored (g' := w.heap.size + 2) o3 (by omega)) (by omega)) (by omega)) (by omega)) (by omega)) (by omega)) (by omega)) (by omega)) (by omega)) (by omega)) (by omega)) (by omega))
  · exact (ownsRow_setCell_below (ownsRow_setCell_below (ownsRow_setCell_below (ownsRow_setCell_below (ownsRow_setCell_below (ownsRow_setCell_below (ownsRow_setCell_below (ownsRow_setCell_below (ownsRow_setCell_below (ownsRow_setCell_below (ownsRow_setCell_below (ownsRow_setCell_below o4 (by show w.heap.size + 2 < g4; omega) _) (by show w.heap.size + 1 < g4; omega) _) (by show w.heap.size + 1 < g4; omega) _) (by show w.heap.size + 1 < g4; omega) _) (by show w.heap.size + 1 < g4; omega) _) (by show w.heap.size + 1 < g4; omega) _) (by show w.heap.size + 1 < g4; omega) _) (by show w.heap.size + 1 < g4; omega) _) (by show w.heap.size + 1 < g4; omega) _) (by show w.heap.size + 1 < g4; omega) _) (by show w.heap.size + 1 < g4; omega) _) (by show w.heap.size + 1 < g4; omega) _)
  · exact (ownsRow_setCell_below (ownsRow_setCell_below (ownsRow_setCell_below (ownsRow_setCell_below (ownsRow_setCell_below (ownsRow_setCell_below (ownsRow_setCell_below (ownsRow_setCell_below (ownsRow_setCell_below (ownsRow_setCell_below (ownsRow_setCell_below (ownsRow_setCell_below o5 (by show w.heap.size + 2 < g5; omega) _) (by show w.heap.size + 1 < g5; omega) _) (by show w.heap.size + 1 < g5; omega) _) (by show w.heap.size + 1 < g5; omega) _) (by show w.heap.size + 1 < g5; omega) _) (by show w.heap.size + 1 < g5; omega) _) (by show w.heap.size + 1 < g5; omega) _) (by show w.heap.size + 1 < g5; omega) _) (by show w.heap.size + 1 < g5; omega) _) (by show w.heap.size + 1 < g5; omega) _) (by show w.heap.size + 1 < g5; omega) _) (by show w.heap.size + 1 < g5; omega) _)
  · exact (ownsRow_setCell_below (ownsRow_setCell_below (ownsRow_setCell_below (ownsRow_setCell_below (ownsRow_setCell_below (ownsRow_setCell_below (ownsRow_setCell_below (ownsRow_setCell_below (ownsRow_setCell_below (ownsRow_setCell_below (ownsRow_setCell_below (ownsRow_setCell_below o6 (by show w.heap.size + 2 < g6; omega) _) (by show w.heap.size + 1 < g6; omega) _) (by show w.heap.size + 1 < g6; omega) _) (by show w.heap.size + 1 < g6; omega) _) (by show w.heap.size + 1 < g6; omega) _) (by show w.heap.size + 1 < g6; omega) _) (by show w.heap.size + 1 < g6; omega) _) (by show w.heap.size + 1 < g6; omega) _) (by show w.heap.size + 1 < g6; omega) _) (by show w.heap.size + 1 < g6; omega) _) (by show w.heap.size + 1 < g6; omega) _) (by show w.heap.size + 1 < g6; omega) _)
  · simp only [size_set']
    exact (BUpto.stored (g' := w.heap.size + 1) (BUpto.stored (g' := w.heap.size + 1) (BUpto.stored (g' := w.heap.size + 1) (BUpto.stored (g' := w.heap.size + 1) (BUpto.stored (g' := w.heap.size + 1) (BUpto.stored (g' := w.heap.size + 1) (BUpto.stored (g' := w.heap.size + 1) (BUpto.stored (g' := w.heap.size + 1) (BUpto.stored (g' := w.heap.size + 1) (BUpto.stored (g' := w.heap.size + 1) (BUpto.stored (g' := w.heap.size + 1) (BUpto.stored (g' := w.heap.size + 2) o7 (by omega)) (by omega)) (by omega)) (by omega)) (by omega)) (by omega)) (by omega)) (by omega)) (by omega)) (by omega)) (by omega)) (by omega))
  · exact ((((((((((((K7.setCell (p := ⟨w.heap.size + 2, _, none⟩) (by show w.heap.size ≤ w.heap.size + 2; omega) _).setCell (p := ⟨w.heap.size + 1, _, none⟩) (by show w.heap.size ≤ w.heap.size + 1; omega) _).setCell (p := ⟨w.heap.size + 1, _, none⟩) (by show w.heap.size ≤ w.heap.size + 1; omega) _).setCell (p := ⟨w.heap.size + 1, _, none⟩) (by show w.heap.size ≤ w.heap.size + 1; omega) _).setCell (p := ⟨w.heap.size + 1, _, none⟩) (by show w.heap.size ≤ w.heap.size + 1; omega) _).setCell (p := ⟨w.heap.size + 1, _, none⟩) (by show w.heap.size ≤ w.heap.size + 1; omega) _).setCell (p := ⟨w.heap.size + 1, _, none⟩) (by show w.heap.size ≤ w.heap.size + 1; omega) _).setCell (p := ⟨w.heap.size + 1, _, none⟩) (by show w.heap.size ≤ w.heap.size + 1; omega) _).setCell (p := ⟨w.heap.size + 1, _, none⟩) (by show w.heap.size ≤ w.heap.size + 1; omega) _).setCell (p := ⟨w.heap.size + 1, _, none⟩) (by show w.heap.size ≤ w.heap.size + 1; omega) _).setCell (p := ⟨w.heap.size + 1, _, none⟩) (by show w.heap.size ≤ w.heap.size + 1; omega) _).setCell (p := ⟨w.heap.size + 1, _, none⟩) (by show w.heap.size ≤ w.heap.size + 1; omega) _)

end Go.Proofs.YtbncoiljklagkaaDoor

/- What is proved here: the contract of the laws' helper function that compares slices of slices of bytes (eqByteSS). -/
namespace Go.Proofs.YtbncoiljklagkaaDoor
open Go.RowKit
set_option linter.unusedVariables false

set_option maxHeartbeats 2000000 in
theorem eqByteSS_any (a b : Option Addr) (la ca lb cb : Nat) (xs ys : List (List Int)) (w : World) (ha : BsRow w a la xs) (hb : BsRow w b lb ys) (hl : la ≤ 1048576) (hl2 : lb ≤ 1048576) (hx : ∀ z ∈ xs, z.length ≤ 1048576) (hy : ∀ z ∈ ys, z.length ≤ 1048576) :
    Calls Tryd.prog 31 #[.slice a la ca, .slice b lb cb] w fun e w' => e = .returned (.bool (sameBs xs ys)) ∧ ∃ n, w' = w.drewN n := by
  have hxl := ha.1
  have hyl := hb.1
  by_cases hne : la = lb
  · subst hne
    have hlen : (((la : Nat) : Int) != ((la : Nat) : Int)) = false := by simp
    rcases Nat.eq_zero_or_pos la with h0 | hp
    · subst h0
      have hx : xs = [] := List.length_eq_zero_iff.1 hxl
      have hy : ys = [] := List.length_eq_zero_iff.1 hyl
      subst hx hy
      clear ha hb
      go_enter Tryd.func31, Tryd.ntmps31
      go_wp2_with fail
      refine wp_loop_rounds 1 ?_
      rw [rounds_succ]
      go_wp2_with fail
      go_ret
      exact ⟨rfl, 0, rfl⟩
    · obtain ⟨ba, oa, rfl, hba, hca⟩ := ha.at hp
      obtain ⟨bb, ob, rfl, hbb, hcb⟩ := hb.at hp
      have HCA := hide hca
      have HCB := hide hcb
      have HX := hide hx
      have HY := hide hy
      have HXL := hide hxl
      have HYL := hide hyl
      clear ha hb hca hcb hx hy hxl hyl
      go_enter Tryd.func31, Tryd.ntmps31
      go_wp2_with fail
      go_loopw [5] (fun i wr => ∃ k n : Nat, k ≤ la ∧ i = .int .i64 k ∧ sameBs xs ys = sameBs (xs.drop k) (ys.drop k) ∧ wr = w.drewN n) (fun i _ => la - (intOf i).toNat)
      case atStart => exact ⟨0, 0, Nat.zero_le _, rfl, by simp, rfl⟩
      case round =>
        obtain ⟨k, n, hk, rfl, hpre, rfl⟩ := hrel
        by_cases hlt : k < la
        · obtain ⟨x, hix⟩ : ∃ z, xs[k]? = some z := ⟨_, List.getElem?_eq_getElem (by rw [unhide HXL]; exact hlt)⟩
          obtain ⟨y, hiy⟩ : ∃ z, ys[k]? = some z := ⟨_, List.getElem?_eq_getElem (by rw [unhide HYL]; exact hlt)⟩
          have hst := sameBs_step xs ys k x y hix hiy
          rw [← hpre] at hst
          obtain ⟨s1, n1, d1, p0, r1⟩ := (unhide HCA) k x hix
          obtain ⟨s2, n2, d2, q0, r2⟩ := (unhide HCB) k y hiy
          have m1 : n1 ≤ 1048576 := by rw [← r1.1]; exact (unhide HX) x (List.mem_of_getElem? hix)
          have m2 : n2 ≤ 1048576 := by rw [← r2.1]; exact (unhide HY) y (List.mem_of_getElem? hiy)
          have HEQ := hide (fun (m : Nat) => eqByteS_any s1 s2 n1 d1 n2 d2 x y (w.drewN m) (r1.below (B := w.heap.size) (below_drewN (Below.refl _ _) m) (Nat.le_refl _)) (r2.below (B := w.heap.size) (below_drewN (Below.refl _ _) m) (Nat.le_refl _)) m1 m2)
          have HP := hide hpre
          have HS := hide hst
          have i1 : (0 : Int) ≤ (k : Int) := by omega
          have i2 : (k : Int) < (la : Int) := by omega
          clear r1 r2 hst hpre hix hiy m1 m2
          generalize sameB x y = sb at HEQ HS
          go_wp2_with fail
          go_region_with (first | (go_at_call 22; refine ((unhide HEQ) (n + 1)).mono ?_; rintro e w1 ⟨rfl, m, rfl⟩))
          all_goals
            cases sb
            · go_wp2_with fail
              go_ret
              exact ⟨ret_bool (by rw [unhide HS]; rfl), _, by first | rfl | exact World.drewN_drewN ..⟩
            · go_wp2_with fail
              go_roundw
              case rel => exact ⟨k + 1, _, by omega, by go_num, by rw [unhide HS]; simp, by first | rfl | exact World.drewN_drewN ..⟩
              case measure => simp [intOf]; omega
        · obtain rfl : k = la := by omega
          have e := sameBs_end xs ys k (unhide HXL) (unhide HYL)
          rw [e] at hpre
          have HE := hide hpre
          clear e hpre
          go_wp2_with fail
          go_ret
          exact ⟨ret_bool (unhide HE).symm, n, rfl⟩
  · have hlen : (((la : Nat) : Int) != ((lb : Nat) : Int)) = true := by simp; omega
    have HE := hide (sameBs_len xs ys (by rw [hxl, hyl]; exact hne))
    clear ha hb hxl hyl
    go_enter Tryd.func31, Tryd.ntmps31
    go_wp2_with fail
    go_ret
    exact ⟨ret_bool (unhide HE).symm, 0, rfl⟩

end Go.Proofs.YtbncoiljklagkaaDoor

/- What is proved here: the contract of the laws' helper function eqHeader, for two that are the same: it answers true. -/
namespace Go.Proofs.YtbncoiljklagkaaDoor
open Go.RowKit
set_option linter.unusedVariables false

theorem ne64 (n : Int) : (n != n) = false := by simp

theorem eqB_yes (a b : Option Addr) (la ca lb cb : Nat) (xs : List Int) (w : World) (ha : BRow w a la xs) (hb : BRow w b lb xs) (hl : xs.length ≤ 1048576) :
    Calls Tryd.prog 22 #[.slice a la ca, .slice b lb cb] w fun e w' => e = .returned (.bool true) ∧ Below w.heap.size w w' :=
  (eqByteS_any a b la ca lb cb xs xs w ha hb (by rw [← ha.1]; exact hl) (by rw [← hb.1]; exact hl)).mono fun e w' ⟨he, n, hw⟩ => ⟨by rw [he, sameB_self], by rw [hw]; exact below_drewN (Below.refl _ _) n⟩

theorem eqBs_yes (a b : Option Addr) (la ca lb cb : Nat) (xs : List (List Int)) (w : World) (ha : BsRow w a la xs) (hb : BsRow w b lb xs) (hl : xs.length ≤ 1048576) (hz : ∀ z ∈ xs, z.length ≤ 1048576) :
    Calls Tryd.prog 31 #[.slice a la ca, .slice b lb cb] w fun e w' => e = .returned (.bool true) ∧ Below w.heap.size w w' :=
  (eqByteSS_any a b la ca lb cb xs xs w ha hb (by rw [← ha.1]; exact hl) (by rw [← hb.1]; exact hl) hz hz).mono fun e w' ⟨he, n, hw⟩ => ⟨by rw [he, sameBs_self], by rw [hw]; exact below_drewN (Below.refl _ _) n⟩

theorem two_blk (w : World) (vs us : Array Value) (T S : TypeId) : SBlk ((w.alloc (.cells vs T)).alloc (.cells us S)) w.heap.size vs.toList T ∧ SBlk ((w.alloc (.cells vs T)).alloc (.cells us S)) (w.heap.size + 1) us.toList S ∧ Below w.heap.size w ((w.alloc (.cells vs T)).alloc (.cells us S)) ∧ ((w.alloc (.cells vs T)).alloc (.cells us S)).heap.size = w.heap.size + 2 := by
  refine ⟨?_, ?_, ((Below.refl _ _).alloc (Nat.le_refl _) _).alloc (by simp) _, by simp⟩
  · exact (SBlk.new w vs T).next _
  · have h := SBlk.new (w.alloc (.cells vs T)) us S
    rwa [show (w.alloc (.cells vs T)).heap.size = w.heap.size + 1 by simp] at h

set_option maxHeartbeats 8000000 in
theorem eqHeader_same (x y : HS) (h : Hd) (w : World) (o : HOk w x h) (q : HOk w y h) (m : HSm h) :
    Calls Tryd.prog 13 #[.agg (hvals x h), .agg (hvals y h)] w fun e w' => e = .returned (.bool true) ∧ Below w.heap.size w w' := by
  have HO := hide (fun (W : World) (hb : Below w.heap.size w W) => o.below hb (Nat.le_refl _))
  have HQ := hide (fun (W : World) (hb : Below w.heap.size w W) => q.below hb (Nat.le_refl _))
  have HM := hide m
  obtain ⟨k0, k1, k2, k3⟩ := two_blk w (hvals x h) (hvals y h) 30 30
  clear o q m
  have hn1 := ne64 h.n1
  have hn2 := ne64 h.n2
  have hn3 := ne64 h.n3
  have hn5 := ne64 h.n5
  unfold hvals at k0 k1 k2 k3 ⊢
  obtain ⟨W0, e0⟩ : ∃ W0, (w.alloc (.cells #[.slice x.p.a x.p.n x.p.c, .int .i64 h.n1, .int .i64 h.n2, .int .i64 h.n3, .slice x.t.a x.t.n x.t.c, .int .i64 h.n5, .slice x.s.a x.s.n x.s.c, .slice x.r.a x.r.n x.r.c, .slice x.g.a x.g.n x.g.c, .slice x.e.a x.e.n x.e.c, .slice x.k.a x.k.n x.k.c] 30)).alloc (.cells #[.slice y.p.a y.p.n y.p.c, .int .i64 h.n1, .int .i64 h.n2, .int .i64 h.n3, .slice y.t.a y.t.n y.t.c, .int .i64 h.n5, .slice y.s.a y.s.n y.s.c, .slice y.r.a y.r.n y.r.c, .slice y.g.a y.g.n y.g.c, .slice y.e.a y.e.n y.e.c, .slice y.k.a y.k.n y.k.c] 30) = W0 := ⟨_, rfl⟩
  rw [e0] at k0 k1 k2 k3
  have hg : w.heap.size + 1 < W0.heap.size := by omega
  go_enter Tryd.func13, Tryd.ntmps13
  have x0 := k0.cell 0
  have y0 := k1.cell 0
  simp only [List.getElem?_cons_zero] at x0 y0
  go_wp2_with (rw [e0])
  clear e0
  refine (eqB_yes _ _ _ _ _ _ h.p _ ((unhide HO) _ k2).p ((unhide HQ) _ k2).p (unhide HM).p).mono ?_
  rintro e w1 ⟨rfl, b1⟩
  have k0 := k0.below b1 k0.lt
  have k1 := k1.below b1 k1.lt
  have k2 := k2.trans (b1.mono k2.size)
  clear b1
  have x1 := k0.cell 1
  have y1 := k1.cell 1
  have x2 := k0.cell 2
  have y2 := k1.cell 2
  have x3 := k0.cell 3
  have y3 := k1.cell 3
  have x4 := k0.cell 4
  have y4 := k1.cell 4
  simp only [List.getElem?_cons_zero, List.getElem?_cons_succ] at x1 y1 x2 y2 x3 y3 x4 y4
  go_wp2_with fail
  refine (eqB_yes _ _ _ _ _ _ h.t _ ((unhide HO) _ k2).t ((unhide HQ) _ k2).t (unhide HM).t).mono ?_
  rintro e w2 ⟨rfl, b2⟩
  have k0 := k0.below b2 k0.lt
  have k1 := k1.below b2 k1.lt
  have k2 := k2.trans (b2.mono k2.size)
  clear b2
  have x5 := k0.cell 5
  have y5 := k1.cell 5
  have x6 := k0.cell 6
  have y6 := k1.cell 6
  simp only [List.getElem?_cons_zero, List.getElem?_cons_succ] at x5 y5 x6 y6
  go_wp2_with fail
  refine (eqBs_yes _ _ _ _ _ _ h.s _ ((unhide HO) _ k2).s ((unhide HQ) _ k2).s (unhide HM).s (unhide HM).sz).mono ?_
  rintro e w3 ⟨rfl, b3⟩
  have k0 := k0.below b3 k0.lt
  have k1 := k1.below b3 k1.lt
  have k2 := k2.trans (b3.mono k2.size)
  clear b3
  have x7 := k0.cell 7
  have y7 := k1.cell 7
  simp only [List.getElem?_cons_zero, List.getElem?_cons_succ] at x7 y7
  go_wp2_with fail
  refine (eqB_yes _ _ _ _ _ _ h.r _ ((unhide HO) _ k2).r ((unhide HQ) _ k2).r (unhide HM).r).mono ?_
  rintro e w4 ⟨rfl, b4⟩
  have k0 := k0.below b4 k0.lt
  have k1 := k1.below b4 k1.lt
  have k2 := k2.trans (b4.mono k2.size)
  clear b4
  have x8 := k0.cell 8
  have y8 := k1.cell 8
  simp only [List.getElem?_cons_zero, List.getElem?_cons_succ] at x8 y8
  go_wp2_with fail
  refine (eqB_yes _ _ _ _ _ _ h.g _ ((unhide HO) _ k2).g ((unhide HQ) _ k2).g (unhide HM).g).mono ?_
  rintro e w5 ⟨rfl, b5⟩
  have k0 := k0.below b5 k0.lt
  have k1 := k1.below b5 k1.lt
  have k2 := k2.trans (b5.mono k2.size)
  clear b5
  have x9 := k0.cell 9
  have y9 := k1.cell 9
  simp only [List.getElem?_cons_zero, List.getElem?_cons_succ] at x9 y9
  go_wp2_with fail
  refine (eqB_yes _ _ _ _ _ _ h.e _ ((unhide HO) _ k2).e ((unhide HQ) _ k2).e (unhide HM).e).mono ?_
  rintro e w6 ⟨rfl, b6⟩
  have k0 := k0.below b6 k0.lt
  have k1 := k1.below b6 k1.lt
  have k2 := k2.trans (b6.mono k2.size)
  clear b6
  have x10 := k0.cell 10
  have y10 := k1.cell 10
  simp only [List.getElem?_cons_zero, List.getElem?_cons_succ] at x10 y10
  go_wp2_with fail
  refine (eqBs_yes _ _ _ _ _ _ h.k _ ((unhide HO) _ k2).k ((unhide HQ) _ k2).k (unhide HM).k (unhide HM).kz).mono ?_
  rintro e w7 ⟨rfl, b7⟩
  have k0 := k0.below b7 k0.lt
  have k1 := k1.below b7 k1.lt
  have k2 := k2.trans (b7.mono k2.size)
  clear b7
  go_wp2_with fail
  go_ret
  exact ⟨rfl, k2⟩

end Go.Proofs.YtbncoiljklagkaaDoor

/- What is proved here: the contracts of the laws' helper functions that write marks into an answer's bytes and look for them later (markByteS, heldByteS and those over BytesResult), for slices that the call itself made. -/
namespace Go.Proofs.YtbncoiljklagkaaDoor
open Go.RowKit
set_option linter.unusedVariables false

set_option maxHeartbeats 1000000 in
theorem markByteS_any (B g n cap : Nat) (zs : List Int) (k0 : Int) (w : World) (h : w.ownsRow B 5 1 (.slice (some ⟨g, 0, none⟩) n cap) n (zs.map (Value.int .u8))) (hn : n ≤ 2097152) (hk0 : 0 ≤ k0) (hk1 : k0 ≤ 1099511627776) :
    Calls Tryd.prog 23 #[.slice (some ⟨g, 0, none⟩) n cap, .int .i64 k0] w fun e w' => e = .returned (.int .i64 (k0 + n)) ∧
      w'.ownsRow B 5 1 (.slice (some ⟨g, 0, none⟩) n cap) n ((marks k0 n).map (Value.int .u8)) ∧ w.grownBy w' (some g) := by
  have hzl : zs.length = n := by simpa using h.1
  go_enter Tryd.func23, Tryd.ntmps23
  go_wp2
  go_loopw [1, 5] (fun q i wr => ∃ k : Nat, k ≤ n ∧ i = .int .i64 k ∧ q = .int .i64 (k0 + k) ∧ wr.ownsRow B 5 1 (.slice (some ⟨g, 0, none⟩) n cap) n ((marks k0 k ++ zs.drop k).map (Value.int .u8)) ∧ w.grownBy wr (some g))
    (fun _ i _ => n - (intOf i).toNat)
  case atStart => exact ⟨0, Nat.zero_le _, rfl, by simp, by simpa [marks] using h, grownBy_refl w _⟩
  case round =>
    obtain ⟨k, hk, rfl, rfl, hown, hgr⟩ := hrel
    by_cases hlt : k < n
    · have hfz := hown.frozenAt k
      obtain ⟨u, hu⟩ : ∃ u, wr.cell? ⟨g, k, none⟩ = some u := by
        rw [hown.cellAt k (by omega)]
        exact ⟨_, List.getElem?_eq_getElem (by rw [hown.1]; omega)⟩
      have R := hown.stored k (.int .u8 ((k0 + k) % 256))
      rw [mark_step k0 zs n k hzl hlt] at R
      have HR := R.1
      have HG := grownBy_trans hgr R.2
      clear R hown
      go_wp2
      go_roundw
      case rel => exact ⟨k + 1, by omega, by go_num, by go_num, HR, HG⟩
      case measure => simp [intOf]; omega
    · obtain rfl : k = n := by omega
      rw [List.drop_eq_nil_of_le (by omega), List.append_nil] at hown
      go_wp2
      go_ret
      exact ⟨rfl, hown, hgr⟩

set_option maxHeartbeats 1000000 in
theorem markByteS_nil (k0 : Int) (w : World) :
    Calls Tryd.prog 23 #[.slice none 0 0, .int .i64 k0] w fun e w' => e = .returned (.int .i64 k0) ∧ w' = w := by
  go_enter Tryd.func23, Tryd.ntmps23
  go_wp2
  refine wp_loop_rounds 1 ?_
  rw [rounds_succ]
  go_wp2
  go_ret
  exact ⟨rfl, rfl⟩

theorem markByteS_own (B n cap : Nat) (a : Option Addr) (zs : List Int) (k0 : Int) (w : World) (h : w.ownsRow B 5 1 (.slice a n cap) n (zs.map (Value.int .u8))) (hn : n ≤ 2097152) (hk0 : 0 ≤ k0) (hk1 : k0 ≤ 1099511627776) :
    Calls Tryd.prog 23 #[.slice a n cap, .int .i64 k0] w fun e w' => e = .returned (.int .i64 (k0 + n)) ∧
      w'.ownsRow B 5 1 (.slice a n cap) n ((marks k0 n).map (Value.int .u8)) ∧ w.grownBy w' (Value.slice a n cap).ownBlock := by
  rcases h.2 with ⟨h', h0⟩ | ⟨g, cap', cur, h', _⟩
  · simp only [Value.slice.injEq] at h'
    obtain ⟨rfl, rfl, rfl⟩ := h'
    refine (markByteS_nil k0 w).mono fun e w' hq => ?_
    obtain ⟨rfl, rfl⟩ := hq
    exact ⟨by simp, World.ownsRow_nil _ _ _ _, grownBy_refl _ _⟩
  · simp only [Value.slice.injEq] at h'
    obtain ⟨rfl, _, rfl⟩ := h'
    exact markByteS_any B g n cap zs k0 w h hn hk0 hk1

set_option maxHeartbeats 1000000 in
theorem heldByteS_any (n cap : Nat) (a : Option Addr) (k0 : Int) (w : World) (h : BRow w a n (marks k0 n)) (hn : n ≤ 2097152) (hk0 : 0 ≤ k0) (hk1 : k0 ≤ 1099511627776) :
    Calls Tryd.prog 41 #[.slice a n cap, .int .i64 k0] w fun e w' => e = .returned (.int .i64 (k0 + n)) ∧ w' = w := by
  rcases Nat.eq_zero_or_pos n with h0 | hp
  · subst h0
    clear h
    go_enter Tryd.func41, Tryd.ntmps41
    go_wp2
    refine wp_loop_rounds 1 ?_
    rw [rounds_succ]
    go_wp2
    go_ret
    exact ⟨ret_int (by simp), rfl⟩
  · obtain ⟨b, off, rfl, hb, hc⟩ := h.at hp
    have HC := hide hc
    clear h hc
    go_enter Tryd.func41, Tryd.ntmps41
    go_wp2
    go_loop [1, 5] (fun q i => ∃ k : Nat, k ≤ n ∧ i = .int .i64 k ∧ q = .int .i64 (k0 + k)) (fun _ i => n - (intOf i).toNat)
    case atStart => exact ⟨0, Nat.zero_le _, rfl, by simp⟩
    case round =>
      obtain ⟨k, hk, rfl, rfl⟩ := hrel
      by_cases hlt : k < n
      · have hck := (unhide HC) k hlt
        rw [marks_at k0 n k hlt] at hck
        have hne : ((k0 + (k : Int)) % 256 != (k0 + (k : Int)) % 256) = false := by simp
        go_wp2
        go_round
        case rel => exact ⟨k + 1, by omega, by go_num, by go_num⟩
        case measure => simp [intOf]; omega
      · obtain rfl : k = n := by omega
        go_wp2
        go_ret
        exact ⟨rfl, rfl⟩

set_option maxHeartbeats 1000000 in
theorem markBytesResult_own (B n cap : Nat) (c : Int) (a : Option Addr) (zs : List Int) (k0 : Int) (w : World) (h : w.ownsRow B 5 1 (.slice a n cap) n (zs.map (Value.int .u8))) (hn : n ≤ 2097152) (hk0 : 0 ≤ k0) (hk1 : k0 ≤ 1099511627776) :
    Calls Tryd.prog 15 #[.agg #[.int .i64 c, .slice a n cap], .int .i64 k0] w fun e w' => e = .returned (.int .i64 (k0 + n)) ∧
      w'.ownsRow B 5 1 (.slice a n cap) n ((marks k0 n).map (Value.int .u8)) ∧ w.grownBy w' (Value.slice a n cap).ownBlock := by
  go_enter Tryd.func15, Tryd.ntmps15
  go_wp2_with fail
  refine (markByteS_own B n cap a zs k0 _ (h.alloc _) hn hk0 hk1).mono ?_
  rintro e w1 ⟨rfl, o1, g1⟩
  go_wp2_with fail
  go_ret
  exact ⟨rfl, o1, grownBy_trans (World.grownBy_alloc w _ _) g1⟩

set_option maxHeartbeats 1000000 in
theorem heldBytesResult_any (n cap : Nat) (c : Int) (a : Option Addr) (k0 : Int) (w : World) (h : BRow w a n (marks k0 n)) (hn : n ≤ 2097152) (hk0 : 0 ≤ k0) (hk1 : k0 ≤ 1099511627776) :
    Calls Tryd.prog 16 #[.agg #[.int .i64 c, .slice a n cap], .int .i64 k0] w fun e w' => e = .returned (.int .i64 (k0 + n)) ∧ Below w.heap.size w w' := by
  have hb : ∀ o, Below w.heap.size w (w.alloc o) := fun o => (Below.refl _ _).alloc (Nat.le_refl _) o
  go_enter Tryd.func16, Tryd.ntmps16
  go_wp2_with fail
  refine (heldByteS_any n cap a k0 _ (h.below (hb _) (Nat.le_refl _)) hn hk0 hk1).mono ?_
  rintro e w1 ⟨rfl, rfl⟩
  go_wp2_with fail
  go_ret
  exact ⟨rfl, hb _⟩

set_option maxHeartbeats 1000000 in
theorem eqBytes_same (c : Int) (a b : Option Addr) (n ca cb : Nat) (xs : List Int) (w : World) (ha : BRow w a n xs) (hb : BRow w b n xs) (hn : n ≤ 1048576) :
    Calls Tryd.prog 12 #[.agg #[.int .i64 c, .slice a n ca], .agg #[.int .i64 c, .slice b n cb]] w fun e w' => e = .returned (.bool true) ∧ Below w.heap.size w w' := by
  have h1 : (c != c) = false := by simp
  have sx : sameB xs xs = true := by simp [sameB]
  have hbel : ∀ o p, Below w.heap.size w ((w.alloc o).alloc p) := fun o p => ((Below.refl _ _).alloc (Nat.le_refl _) o).alloc (by simp) p
  go_enter Tryd.func12, Tryd.ntmps12
  go_wp2_with fail
  refine (eqByteS_any _ _ _ _ _ _ xs xs _ (ha.below (hbel _ _) (Nat.le_refl _)) (hb.below (hbel _ _) (Nat.le_refl _)) hn hn).mono ?_
  rintro e w1 ⟨rfl, n1, rfl⟩
  rw [sx]
  go_wp2_with fail
  go_ret
  exact ⟨rfl, below_drewN (hbel _ _) n1⟩

end Go.Proofs.YtbncoiljklagkaaDoor

/- What is proved here: a row that the call owns stays when another block is written; it holds for every program. -/
namespace Go.Proofs.YtbncoiljklagkaaDoor
open Go.RowKit
set_option linter.unusedVariables false

theorem own_grown {w w' : World} {B : Nat} {e : TypeId} {size n : Nat} {v : Value} {xs : List Value} {row : Option Nat} (h : w.ownsRow B e size v n xs) (hg : w.grownBy w' row) (hne : ∀ g, v.ownBlock = some g → some g ≠ row) : w'.ownsRow B e size v n xs := by
  refine ⟨h.1, ?_⟩
  rcases h.2 with h' | ⟨g, cap, cur, h1, h2, h3, h4⟩
  · exact .inl h'
  · refine .inr ⟨g, cap, cur, h1, h2, ?_, h4⟩
    rw [hg.block g (lt_of_block h3) (hne g (by rw [h1]; rfl))]
    exact h3

end Go.Proofs.YtbncoiljklagkaaDoor

/- What is proved here: the contracts of the laws' helper functions that mark a header's bytes (markByteSS, markHeader): they write into its own blocks alone. -/
namespace Go.Proofs.YtbncoiljklagkaaDoor
open Go.RowKit
set_option linter.unusedVariables false

/-- Nothing is written below B, nor from C on. -/
def OnlyH (B C : Nat) (w w' : World) : Prop := Below B w w' ∧ ∀ k, C ≤ k → k < w.heap.size → w'.heap[k]? = w.heap[k]?

theorem OnlyH.refl (B C : Nat) (w : World) : OnlyH B C w w := ⟨Below.refl _ _, fun _ _ _ => rfl⟩

theorem OnlyH.trans {B C : Nat} {a b c : World} (h : OnlyH B C a b) (k : OnlyH B C b c) : OnlyH B C a c :=
  ⟨h.1.trans k.1, fun q hq hl => (k.2 q hq (Nat.lt_of_lt_of_le hl h.1.size)).trans (h.2 q hq hl)⟩

theorem OnlyH.mono {B B' C C' : Nat} {a b : World} (h : OnlyH B C a b) (hB : B' ≤ B) (hC : C ≤ C') : OnlyH B' C' a b := ⟨h.1.mono hB, fun q hq hl => h.2 q (by omega) hl⟩

theorem OnlyH.grown {a b : World} {g : Nat} (B : Nat) (hg : a.grownBy b (some g)) (h : Below B a b) : OnlyH B (g + 1) a b := ⟨h, fun q hq hl => hg.block q hl (fun e => by have := Option.some.inj e; omega)⟩

theorem OnlyH.cell {B C : Nat} {w w' : World} (h : OnlyH B C w w') {p : Addr} (hp : C ≤ p.block) (hl : p.block < w.heap.size) : w'.cell? p = w.cell? p := World.cell?_of_block (w := w) (h.2 p.block hp hl)

theorem OnlyH.own {B C D : Nat} {w w' : World} (h : OnlyH B C w w') {e : TypeId} {size n : Nat} {v : Value} {xs : List Value} (ho : w.ownsRow D e size v n xs) (hD : C ≤ D) : w'.ownsRow D e size v n xs := by
  refine ⟨ho.1, ?_⟩
  rcases ho.2 with h' | ⟨g, cap, cur, h1, h2, h3, h4⟩
  · exact .inl h'
  · exact .inr ⟨g, cap, cur, h1, h2, (h.2 g (by omega) (lt_of_block h3)).trans h3, h4⟩

theorem OnlyH.sblk {B C : Nat} {w w' : World} (h : OnlyH B C w w') {g : Nat} {vs : List Value} {T : TypeId} (hs : SBlk w g vs T) (hg : C ≤ g) : SBlk w' g vs T := (h.2 g hg hs.lt).trans hs

/-- One slice of bytes is marked. -/
theorem markB_only (g n : Nat) (zs : List Int) (k0 : Int) (w : World) (h : w.ownsRow g 5 1 (.slice (some ⟨g, 0, none⟩) n n) n (zs.map (Value.int .u8))) (hn : n ≤ 1048576) (hk0 : 0 ≤ k0) (hk1 : k0 ≤ 1099511627776) :
    Calls Tryd.prog 23 #[.slice (some ⟨g, 0, none⟩) n n, .int .i64 k0] w fun e w' => e = .returned (.int .i64 (k0 + n)) ∧ OnlyH g (g + 1) w w' :=
  (markByteS_any g g n n zs k0 w h (by omega) hk0 hk1).mono fun e w' ⟨he, _, hg⟩ => ⟨he, OnlyH.grown g hg ((Below.refl g w).grown hg (by have := (h.lt g rfl).2; omega) (fun k e => by have := Option.some.inj e; omega))⟩

/-- Slices of slices of bytes: those from k on are as they were. -/
def MBs (w : World) (g : Nat) (zss : List (List Int)) (k : Nat) (T : TypeId) (C : Nat) : Prop :=
  ∃ (vs : List Value) (f : Nat → Nat), SBlk w g vs T ∧ vs.length = zss.length ∧ (∀ i, i < zss.length → g < f i ∧ f i < C) ∧ (∀ i j, i < j → j < zss.length → f i < f j) ∧
    ∀ i z, k ≤ i → zss[i]? = some z → vs[i]? = some (.slice (some ⟨f i, 0, none⟩) z.length z.length) ∧ w.ownsRow (g + 1) 5 1 (.slice (some ⟨f i, 0, none⟩) z.length z.length) z.length (z.map (Value.int .u8))

theorem OBss.mbs {w : World} {g : Nat} {zss : List (List Int)} {T : TypeId} {C : Nat} (h : OBss w g zss T C) : MBs w g zss 0 T C := by
  obtain ⟨vs, f, h1, h2, h3, h4, h5⟩ := h
  exact ⟨vs, f, h1, h2, h3, h4, fun i z _ hz => h5 i z (List.getElem?_eq_some_iff.1 hz).1 hz⟩

theorem bsum_snoc (zss : List (List Int)) (k : Nat) (z : List Int) (h : zss[k]? = some z) : bsum (zss.take (k + 1)) = bsum (zss.take k) + z.length := by
  obtain ⟨hk, e⟩ := List.getElem?_eq_some_iff.1 h
  unfold bsum
  rw [List.take_succ_eq_append_getElem hk, e]
  simp

theorem bsum_le (zss : List (List Int)) (k : Nat) : bsum (zss.take k) ≤ bsum zss := by
  have : zss = zss.take k ++ zss.drop k := (List.take_append_drop k zss).symm
  have e : bsum zss = bsum (zss.take k) + bsum (zss.drop k) := by
    unfold bsum
    rw [← List.sum_append, ← List.map_append, List.take_append_drop]
  omega

set_option maxHeartbeats 4000000 in
theorem markSS_any (g : Nat) (zss : List (List Int)) (T : TypeId) (C : Nat) (k0 : Int) (w : World) (h : OBss w g zss T C) (hC : g < C) (hl : zss.length ≤ 1048576) (hs : bsum zss ≤ 1048576) (hk0 : 0 ≤ k0) (hk1 : k0 ≤ 16777216) :
    Calls Tryd.prog 32 #[.slice (some ⟨g, 0, none⟩) zss.length zss.length, .int .i64 k0] w fun e w' => e = .returned (.int .i64 (k0 + bsum zss)) ∧ OnlyH (g + 1) C w w' := by
  have hm := OBss.mbs h
  have hgl : g < w.heap.size := BUpto.lt h
  clear h
  have HSN := hide (bsum_snoc zss)
  have HLE := hide (bsum_le zss)
  obtain ⟨len, hlen⟩ : ∃ len, len = zss.length := ⟨_, rfl⟩
  have HLEN := hide hlen
  rw [← hlen] at hl ⊢
  clear hlen
  have HM := hide hm
  clear hm
  go_enter Tryd.func32, Tryd.ntmps32
  go_wp2_with fail
  go_loopw [1, 5] (fun q i wr => ∃ k : Nat, k ≤ len ∧ i = .int .i64 k ∧ q = .int .i64 (k0 + (bsum (zss.take k) : Nat)) ∧ MBs wr g zss k T C ∧ OnlyH (g + 1) C w wr) (fun _ i _ => len - (intOf i).toNat)
  case atStart => exact ⟨0, Nat.zero_le _, rfl, by simp [bsum], unhide HM, OnlyH.refl _ _ _⟩
  case round =>
    obtain ⟨k, hk, rfl, rfl, hm, ho⟩ := hrel
    clear HM
    by_cases hlt : k < len
    · obtain ⟨z, hit⟩ : ∃ z, zss[k]? = some z := ⟨_, List.getElem?_eq_getElem (by rw [← unhide HLEN]; exact hlt)⟩
      obtain ⟨vs, f, h1, h2, h3, h4, h5⟩ := hm
      have hkz : k < zss.length := by rw [← unhide HLEN]; exact hlt
      obtain ⟨c0, r0⟩ := h5 k z (Nat.le_refl _) hit
      have hc := (h1.cell k).trans c0
      have hsn := (unhide HSN) k z hit
      have hle1 := (unhide HLE) (k + 1)
      have hzl : z.length ≤ 1048576 := by omega
      obtain ⟨ks, hks⟩ : ∃ ks, ks = bsum (zss.take k) := ⟨_, rfl⟩
      rw [← hks] at hsn ⊢
      have hksl : ks ≤ 1048576 := by omega
      have HC := hide (markByteS_any (g + 1) (f k) z.length z.length z (k0 + ks) wr r0 (by omega) (by omega) (by omega))
      have HST : Hid (∀ w', wr.grownBy w' (some (f k)) → MBs w' g zss (k + 1) T C ∧ OnlyH (g + 1) C w w') := fun w' hg => by
        have hfk := h3 k hkz
        have hb : Below (g + 1) wr w' := (Below.refl (g + 1) wr).grown hg (by have := h1.lt; omega) (fun q e => by have := Option.some.inj e; omega)
        refine ⟨⟨vs, f, h1.below hb (by omega), h2, h3, h4, fun i y hi hy => ?_⟩, ho.trans ⟨hb, fun q hq hl => hg.block q hl (fun e => by have := Option.some.inj e; omega)⟩⟩
        obtain ⟨q1, q2⟩ := h5 i y (by omega) hy
        have hil := (List.getElem?_eq_some_iff.1 hy).1
        have hlt2 := h4 k i (by omega) hil
        exact ⟨q1, own_grown q2 hg (fun b e e2 => by simp [Value.ownBlock] at e; have := Option.some.inj e2; omega)⟩
      have HSN2 : Hid (bsum (zss.take (k + 1)) = ks + z.length) := hsn
      have k1 : (0 : Int) ≤ (k : Int) := by omega
      have k2 : (k : Int) < (len : Int) := by omega
      generalize f k = fk at hc HC HST
      generalize z.length = zl at hc HC HSN2 hzl
      clear h1 h2 h3 h4 h5 c0 r0 hsn hle1 hit ho hks
      go_wp2_with fail
      refine (unhide HC).mono ?_
      rintro e w2 ⟨rfl, _, g2⟩
      obtain ⟨m2, o2⟩ := (unhide HST) w2 g2
      have HM2 := hide m2
      have HO2 := hide o2
      clear m2 o2 g2
      go_wp2_with fail
      go_roundw
      case rel => exact ⟨k + 1, by omega, by go_num, by rw [unhide HSN2]; congr 1; omega, unhide HM2, unhide HO2⟩
      case measure => simp [intOf]; omega
    · obtain rfl : k = len := by omega
      have et : zss.take k = zss := List.take_of_length_le (by rw [← unhide HLEN]; exact Nat.le_refl _)
      rw [et]
      have HO := hide ho
      clear hm ho et
      go_wp2_with fail
      go_ret
      exact ⟨rfl, unhide HO⟩

end Go.Proofs.YtbncoiljklagkaaDoor

/- What is proved here: the contract of the laws' helper function markHeader: it writes into the header's own blocks alone. -/
namespace Go.Proofs.YtbncoiljklagkaaDoor
open Go.RowKit
set_option linter.unusedVariables false

theorem BUpto.only {B C D : Nat} {w w' : World} (h : OnlyH B C w w') {g : Nat} {zss : List (List Int)} {k len : Nat} {T : TypeId} (hs : BUpto w g zss k len T D) (hg : C ≤ g) : BUpto w' g zss k len T D := by
  obtain ⟨vs, f, h1, h2, h3, h4, h5⟩ := hs
  refine ⟨vs, f, h.sblk h1 hg, h2, h3, h4, fun i z hi hz => ?_⟩
  obtain ⟨q1, q2⟩ := h5 i z hi hz
  exact ⟨q1, h.own q2 (by omega)⟩

/-- As HOwn, all below C. -/
def HOwnC (w : World) (B C : Nat) (x : HS) (h : Hd) : Prop :=
  ∃ g1 g2 g3 g4 g5 g6 g7 : Nat, x = ⟨⟨some ⟨g1, 0, none⟩, h.p.length, h.p.length⟩, ⟨some ⟨g2, 0, none⟩, h.t.length, h.t.length⟩, ⟨some ⟨g3, 0, none⟩, h.s.length, h.s.length⟩, ⟨some ⟨g4, 0, none⟩, h.r.length, h.r.length⟩, ⟨some ⟨g5, 0, none⟩, h.g.length, h.g.length⟩, ⟨some ⟨g6, 0, none⟩, h.e.length, h.e.length⟩, ⟨some ⟨g7, 0, none⟩, h.k.length, h.k.length⟩⟩ ∧
    (B ≤ g1 ∧ g1 < g2 ∧ g2 < g3 ∧ g3 < g4 ∧ g4 < g5 ∧ g5 < g6 ∧ g6 < g7 ∧ g7 < C) ∧
    w.ownsRow g1 5 1 (.slice (some ⟨g1, 0, none⟩) h.p.length h.p.length) h.p.length (h.p.map (Value.int .u8)) ∧
    w.ownsRow g2 5 1 (.slice (some ⟨g2, 0, none⟩) h.t.length h.t.length) h.t.length (h.t.map (Value.int .u8)) ∧
    OBss w g3 h.s 22 g4 ∧
    w.ownsRow g4 5 1 (.slice (some ⟨g4, 0, none⟩) h.r.length h.r.length) h.r.length (h.r.map (Value.int .u8)) ∧
    w.ownsRow g5 5 1 (.slice (some ⟨g5, 0, none⟩) h.g.length h.g.length) h.g.length (h.g.map (Value.int .u8)) ∧
    w.ownsRow g6 5 1 (.slice (some ⟨g6, 0, none⟩) h.e.length h.e.length) h.e.length (h.e.map (Value.int .u8)) ∧
    OBss w g7 h.k 22 C

theorem HOwn.c {w : World} {B : Nat} {x : HS} {h : Hd} (o : HOwn w B x h) : HOwnC w B w.heap.size x h := by
  obtain ⟨g1, g2, g3, g4, g5, g6, g7, e, ⟨a1, a2, a3, a4, a5, a6, a7⟩, o1, o2, o3, o4, o5, o6, o7⟩ := o
  exact ⟨g1, g2, g3, g4, g5, g6, g7, e, ⟨a1, a2, a3, a4, a5, a6, a7, BUpto.lt o7⟩, o1, o2, o3, o4, o5, o6, o7⟩

theorem HOwnC.below {w w' : World} {B C D : Nat} {x : HS} {h : Hd} (o : HOwnC w B C x h) (hb : Below D w w') (hD : w.heap.size ≤ D) : HOwnC w' B C x h := by
  obtain ⟨g1, g2, g3, g4, g5, g6, g7, e, a, o1, o2, o3, o4, o5, o6, o7⟩ := o
  exact ⟨g1, g2, g3, g4, g5, g6, g7, e, a, own_below o1 hb hD, own_below o2 hb hD, BUpto.below o3 hb hD, own_below o4 hb hD, own_below o5 hb hD, own_below o6 hb hD, BUpto.below o7 hb hD⟩

set_option maxRecDepth 100000 in
set_option maxHeartbeats 4000000 in
theorem markHeader_any (x : HS) (h : Hd) (B C : Nat) (w : World) (o : HOwnC w B C x h) (hC : C ≤ w.heap.size) (m : HSm h) (ht : hTot h ≤ 1048576) :
    Calls Tryd.prog 14 #[.agg (hvals x h), .int .i64 1] w fun e w' => e = .returned (.int .i64 (1 + (hTot h : Nat))) ∧ OnlyH B C w w' := by
  have kb := SBlk.new w (hvals x h) 30
  have bb := below_alloc w (.cells (hvals x h) 30)
  obtain ⟨W0, eb⟩ : ∃ W0, w.alloc (.cells (hvals x h) 30) = W0 := ⟨_, rfl⟩
  rw [eb] at kb bb
  obtain ⟨g1, g2, g3, g4, g5, g6, g7, rfl, ⟨a1, a2, a3, a4, a5, a6, a7, a8⟩, o1, o2, o3, o4, o5, o6, o7⟩ := o.below bb (Nat.le_refl _)
  have on : OnlyH B C w W0 := ⟨bb.mono (by omega), fun q hq hl => bb.block q hl⟩
  have tp : h.p.length ≤ 1048576 := m.p
  unfold hTot at ht
  have HTOT : Hid ((hTot h : Nat) = h.p.length + h.t.length + bsum h.s + h.r.length + h.g.length + h.e.length + bsum h.k) := rfl
  generalize hTot h = tot at HTOT ⊢
  have hgb : C ≤ w.heap.size := hC
  unfold hvals at kb eb ⊢
  have HM := hide m
  clear o m
  go_enter Tryd.func14, Tryd.ntmps14
  go_upto_region 1 with (rw [eb])
  try rw [eb]
  clear eb bb
  have c1 := kb.cell 0
  simp only [List.getElem?_cons_zero] at c1
  have D1 := hide (markB_only g1 h.p.length h.p 1 W0 o1 (by omega) (by omega) (by omega))
  go_wp2_with fail
  refine (unhide D1).mono ?_
  rintro e w1 ⟨rfl, n1⟩
  have o2 := n1.own o2 (by omega)
  have o3 := BUpto.only n1 o3 (by omega)
  have o4 := n1.own o4 (by omega)
  have o5 := n1.own o5 (by omega)
  have o6 := n1.own o6 (by omega)
  have o7 := BUpto.only n1 o7 (by omega)
  have kb := n1.sblk kb (by omega)
  have on := on.trans (n1.mono (B' := B) (C' := C) (by omega) (by omega))
  clear n1 c1 D1
  have c2 := kb.cell 4
  simp only [List.getElem?_cons_zero, List.getElem?_cons_succ] at c2
  obtain ⟨K1, eK1⟩ : ∃ K : Int, K = 1 + (h.p.length : Nat) := ⟨_, rfl⟩
  have bK1 : 0 ≤ K1 ∧ K1 ≤ 1048577 := by omega
  have D2 := hide (markB_only g2 h.t.length h.t K1 w1 o2 (by omega) (by omega) (by omega))
  have EK1 := hide eK1
  clear eK1
  go_wp2_with fail
  rw [← unhide EK1]
  refine (unhide D2).mono ?_
  rintro e w2 ⟨rfl, n2⟩
  have o3 := BUpto.only n2 o3 (by omega)
  have o4 := n2.own o4 (by omega)
  have o5 := n2.own o5 (by omega)
  have o6 := n2.own o6 (by omega)
  have o7 := BUpto.only n2 o7 (by omega)
  have kb := n2.sblk kb (by omega)
  have on := on.trans (n2.mono (B' := B) (C' := C) (by omega) (by omega))
  clear n2 c2 D2
  have c3 := kb.cell 6
  simp only [List.getElem?_cons_zero, List.getElem?_cons_succ] at c3
  obtain ⟨K2, eK2⟩ : ∃ K : Int, K = K1 + (h.t.length : Nat) := ⟨_, rfl⟩
  have bK2 : 0 ≤ K2 ∧ K2 ≤ 1048577 := by have q1 := unhide EK1; omega
  have D3 := hide (markSS_any g3 h.s 22 g4 K2 w2 o3 (by omega) (unhide HM).s (by omega) (by omega) (by omega))
  have EK2 := hide eK2
  clear eK2
  go_wp2_with fail
  rw [← unhide EK2]
  refine (unhide D3).mono ?_
  rintro e w3 ⟨rfl, n3⟩
  have o4 := n3.own o4 (by omega)
  have o5 := n3.own o5 (by omega)
  have o6 := n3.own o6 (by omega)
  have o7 := BUpto.only n3 o7 (by omega)
  have kb := n3.sblk kb (by omega)
  have on := on.trans (n3.mono (B' := B) (C' := C) (by omega) (by omega))
  clear n3 c3 D3
  have c4 := kb.cell 7
  simp only [List.getElem?_cons_zero, List.getElem?_cons_succ] at c4
  obtain ⟨K3, eK3⟩ : ∃ K : Int, K = K2 + (bsum h.s : Nat) := ⟨_, rfl⟩
  have bK3 : 0 ≤ K3 ∧ K3 ≤ 1048577 := by have q1 := unhide EK1; have q2 := unhide EK2; omega
  have D4 := hide (markB_only g4 h.r.length h.r K3 w3 o4 (by omega) (by omega) (by omega))
  have EK3 := hide eK3
  clear eK3
  go_wp2_with fail
  rw [← unhide EK3]
  refine (unhide D4).mono ?_
  rintro e w4 ⟨rfl, n4⟩
  have o5 := n4.own o5 (by omega)
  have o6 := n4.own o6 (by omega)
  have o7 := BUpto.only n4 o7 (by omega)
  have kb := n4.sblk kb (by omega)
  have on := on.trans (n4.mono (B' := B) (C' := C) (by omega) (by omega))
  clear n4 c4 D4
  have c5 := kb.cell 8
  simp only [List.getElem?_cons_zero, List.getElem?_cons_succ] at c5
  obtain ⟨K4, eK4⟩ : ∃ K : Int, K = K3 + (h.r.length : Nat) := ⟨_, rfl⟩
  have bK4 : 0 ≤ K4 ∧ K4 ≤ 1048577 := by have q1 := unhide EK1; have q2 := unhide EK2; have q3 := unhide EK3; omega
  have D5 := hide (markB_only g5 h.g.length h.g K4 w4 o5 (by omega) (by omega) (by omega))
  have EK4 := hide eK4
  clear eK4
  go_wp2_with fail
  rw [← unhide EK4]
  refine (unhide D5).mono ?_
  rintro e w5 ⟨rfl, n5⟩
  have o6 := n5.own o6 (by omega)
  have o7 := BUpto.only n5 o7 (by omega)
  have kb := n5.sblk kb (by omega)
  have on := on.trans (n5.mono (B' := B) (C' := C) (by omega) (by omega))
  clear n5 c5 D5
  have c6 := kb.cell 9
  simp only [List.getElem?_cons_zero, List.getElem?_cons_succ] at c6
  obtain ⟨K5, eK5⟩ : ∃ K : Int, K = K4 + (h.g.length : Nat) := ⟨_, rfl⟩
  have bK5 : 0 ≤ K5 ∧ K5 ≤ 1048577 := by have q1 := unhide EK1; have q2 := unhide EK2; have q3 := unhide EK3; have q4 := unhide EK4; omega
  have D6 := hide (markB_only g6 h.e.length h.e K5 w5 o6 (by omega) (by omega) (by omega))
  have EK5 := hide eK5
  clear eK5
  go_wp2_with fail
  rw [← unhide EK5]
  refine (unhide D6).mono ?_
  rintro e w6 ⟨rfl, n6⟩
  have o7 := BUpto.only n6 o7 (by omega)
  have kb := n6.sblk kb (by omega)
  have on := on.trans (n6.mono (B' := B) (C' := C) (by omega) (by omega))
  clear n6 c6 D6
  have c7 := kb.cell 10
  simp only [List.getElem?_cons_zero, List.getElem?_cons_succ] at c7
  obtain ⟨K6, eK6⟩ : ∃ K : Int, K = K5 + (h.e.length : Nat) := ⟨_, rfl⟩
  have bK6 : 0 ≤ K6 ∧ K6 ≤ 1048577 := by have q1 := unhide EK1; have q2 := unhide EK2; have q3 := unhide EK3; have q4 := unhide EK4; have q5 := unhide EK5; omega
  have D7 := hide (markSS_any g7 h.k 22 C K6 w6 o7 (by omega) (unhide HM).k (by omega) (by omega) (by omega))
  have EK6 := hide eK6
  clear eK6
  go_wp2_with fail
  rw [← unhide EK6]
  refine (unhide D7).mono ?_
  rintro e w7 ⟨rfl, n7⟩
  have kb := n7.sblk kb (by omega)
  have on := on.trans (n7.mono (B' := B) (C' := C) (by omega) (by omega))
  clear n7 c7 D7
  go_wp2_with fail
  go_ret
  refine ⟨ret_int ?_, on⟩
  have t := unhide HTOT
  have t1 := unhide EK1
  have t2 := unhide EK2
  have t3 := unhide EK3
  have t4 := unhide EK4
  have t5 := unhide EK5
  have t6 := unhide EK6
  omega

end Go.Proofs.YtbncoiljklagkaaDoor
