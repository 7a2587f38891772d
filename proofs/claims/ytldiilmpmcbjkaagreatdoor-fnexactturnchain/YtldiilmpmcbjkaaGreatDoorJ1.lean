/- What is proved here: plain facts on byte slices in a world, used by the walks of this seat; they hold for every program. No condition beyond those written in each theorem. -/
import Derived.WalkKit
import Derived.Laws.OwnMore
import Derived.Laws.BytesArg
import Derived.OpenShut
import Derived.Laws.BitsAllLaws
import Derived.Laws.Bits64b
import Derived.Test.YtldiilmpmcbjkaaGreatDoorChecked
import Derived.WalkLawsBesides
import Derived.KernelRfl
import Derived.WalkSmall
import Derived.WalkSpells
import Derived.RegionTactic
import Derived.BigRegion
import Derived.Laws.BitsLemmas
import Derived.Deep.RegionWith
import Derived.Deep.RegionHeld3
import Derived.Deep.DrawnRows
import Derived.Deep.MidRow
import Derived.Deep.DeepCutAuto
namespace Go.Proofs.YtldiilmpmcbjkaaGreatDoor
open Go.RowKit
set_option linter.unusedVariables false
set_option maxRecDepth 100000

theorem hide {p : Prop} (h : p) : Hid p := h
theorem unhide {p : Prop} (h : Hid p) : p := h

/-- The slice 'a', of 'len' elements, reads as the bytes 'zs' in the world 'w'. -/
def BRow (w : World) (a : Option Addr) (len : Nat) (zs : List Int) : Prop :=
  zs.length = len ∧ (∀ n ∈ zs, 0 ≤ n ∧ n ≤ 255) ∧ (a = none → len = 0) ∧ ∀ x, a = some x → ∀ i, i < len → w.cell? (x.add i) = some (.int .u8 (zs.getD i 0))

theorem lt_of_cell {w : World} {p : Addr} {v : Value} (h : w.cell? p = some v) : p.block < w.heap.size := by
  unfold World.cell? at h
  rcases Nat.lt_or_ge p.block w.heap.size with g | g
  · exact g
  · have : w.heap[p.block]? = none := Array.getElem?_eq_none g
    simp [this] at h

theorem add_none (b off i : Nat) : (⟨b, off, none⟩ : Addr).add i = ⟨b, off + i, none⟩ := by
  unfold Addr.add
  split <;> simp_all

theorem BRow.at {w : World} {a : Option Addr} {len : Nat} {zs : List Int} (h : BRow w a len zs) (hp : 0 < len) :
    ∃ b off, a = some ⟨b, off, none⟩ ∧ b < w.heap.size ∧ ∀ i, i < len → w.cell? ⟨b, off + i, none⟩ = some (.int .u8 (zs.getD i 0)) := by
  obtain ⟨h1, h2, h3, h4⟩ := h
  match a, h3, h4 with
  | none, h3, _ => have := h3 rfl; omega
  | some x, _, h4 =>
    obtain ⟨b, off, spot⟩ := x
    have hc := h4 _ rfl 0 hp
    have hspot : spot = none := by simpa [Addr.add] using World.cell?_spot hc
    subst hspot
    refine ⟨b, off, rfl, lt_of_cell (p := _) hc, fun i hi => ?_⟩
    have := h4 _ rfl i hi
    rwa [add_none] at this

theorem BRow.below {w w' : World} {a : Option Addr} {len : Nat} {zs : List Int} (h : BRow w a len zs) {B : Nat} (hb : Below B w w') (hB : w.heap.size ≤ B) : BRow w' a len zs := by
  refine ⟨h.1, h.2.1, h.2.2.1, fun x hx i hi => ?_⟩
  have hc := h.2.2.2 x hx i hi
  rw [hb.cell (Nat.lt_of_lt_of_le (lt_of_cell hc) hB)]
  exact hc

/-- What the call owns reads as bytes. -/
theorem BRow.own {w : World} {B g cap n : Nat} {e : TypeId} {zs : List Int} (h : w.ownsRow B e 1 (.slice (some ⟨g, 0, none⟩) n cap) n (zs.map (Value.int .u8))) (hz : ∀ x ∈ zs, 0 ≤ x ∧ x ≤ 255) :
    BRow w (some ⟨g, 0, none⟩) n zs := by
  have hl : zs.length = n := by simpa using h.1
  refine ⟨hl, hz, fun e => (by cases e), fun x hx i hi => ?_⟩
  cases hx
  have := h.cellAt i (by omega)
  rw [add_none, Nat.zero_add, this]
  simp [List.getElem?_map, List.getD_eq_getElem?_getD, List.getElem?_eq_getElem (by omega : i < zs.length)]

/-- One byte more of a row that is being filled. -/
theorem fill_step (zs : List Int) (len k : Nat) (hl : zs.length = len) (hk : k < len) :
    ((zs.take k ++ List.replicate (len - k) 0).map (Value.int .u8)).set k (.int .u8 (zs.getD k 0)) = (zs.take (k + 1) ++ List.replicate (len - (k + 1)) 0).map (Value.int .u8) := by
  rw [← List.map_set]
  congr 1
  have e : len - k = (len - (k + 1)) + 1 := by omega
  have hk' : (zs.take k).length = k := by simp; omega
  rw [e, List.replicate_succ, List.set_append, if_neg (by omega), hk', Nat.sub_self, List.set_cons_zero]
  rw [List.take_succ_eq_append_getElem (by omega), List.getD_eq_getElem?_getD, List.getElem?_eq_getElem (by omega : k < zs.length), List.append_assoc]
  rfl

theorem ret_tup {a b : Int} {c d : Bool} (h : a = b) (h2 : c = d) : Ending.returned (.tuple #[.int .i64 a, .bool c]) = .returned (.tuple #[.int .i64 b, .bool d]) := by rw [h, h2]
theorem ret_int {k : IntKind} {a b : Int} (h : a = b) : Ending.returned (.int k a) = .returned (.int k b) := by rw [h]
theorem ret_bool {a b : Bool} (h : a = b) : Ending.returned (.bool a) = .returned (.bool b) := by rw [h]

/-- Whether two lists of bytes are the same. -/
def sameB (xs ys : List Int) : Bool := xs == ys

theorem getD_at (xs : List Int) (k : Nat) (h : k < xs.length) : xs.getD k 0 = xs[k] := by
  rw [List.getD_eq_getElem?_getD, List.getElem?_eq_getElem h]; rfl

theorem take_same (xs ys : List Int) (k : Nat) (h1 : k < xs.length) (h2 : k < ys.length) (hp : xs.take k = ys.take k) (h : xs.getD k 0 = ys.getD k 0) : xs.take (k + 1) = ys.take (k + 1) := by
  rw [getD_at xs k h1, getD_at ys k h2] at h
  rw [List.take_succ_eq_append_getElem h1, List.take_succ_eq_append_getElem h2, hp, h]

theorem take_other (xs ys : List Int) (k : Nat) (h1 : k < xs.length) (h2 : k < ys.length) (h : xs.getD k 0 ≠ ys.getD k 0) : sameB xs ys = false := by
  unfold sameB
  rw [beq_eq_false_iff_ne]
  intro e
  subst e
  exact h rfl

theorem take_whole (xs ys : List Int) (k : Nat) (h1 : xs.length = k) (h2 : ys.length = k) (hp : xs.take k = ys.take k) : sameB xs ys = true := by
  unfold sameB
  rw [List.take_of_length_le (by omega), List.take_of_length_le (by omega)] at hp
  simp [hp]

/-- The marks k0, k0 + 1, .. that are written into n bytes. -/
def marks (k0 : Int) (n : Nat) : List Int := (List.range n).map fun (i : Nat) => (k0 + (i : Int)) % 256

theorem marks_length (k0 : Int) (n : Nat) : (marks k0 n).length = n := by simp [marks]

theorem marks_succ (k0 : Int) (n : Nat) : marks k0 (n + 1) = marks k0 n ++ [(k0 + (n : Int)) % 256] := by simp [marks, List.range_succ]

theorem mark_step (k0 : Int) (zs : List Int) (n k : Nat) (hl : zs.length = n) (hk : k < n) :
    ((marks k0 k ++ zs.drop k).map (Value.int .u8)).set k (.int .u8 ((k0 + (k : Int)) % 256)) = (marks k0 (k + 1) ++ zs.drop (k + 1)).map (Value.int .u8) := by
  rw [← List.map_set]
  congr 1
  rw [List.drop_eq_getElem_cons (by omega), List.set_append, if_neg (by rw [marks_length]; omega), marks_length, Nat.sub_self, List.set_cons_zero, marks_succ, List.append_assoc]
  rfl

theorem marks_range (k0 : Int) (n : Nat) : ∀ x ∈ marks k0 n, 0 ≤ x ∧ x ≤ 255 := by
  intro x hx
  obtain ⟨i, _, rfl⟩ := List.mem_map.1 hx
  omega

theorem marks_at (k0 : Int) (n k : Nat) (h : k < n) : (marks k0 n).getD k 0 = (k0 + (k : Int)) % 256 := by
  rw [getD_at _ _ (by rw [marks_length]; exact h)]
  simp [marks]

theorem grownBy_refl (w : World) (row : Option Nat) : w.grownBy w row := ⟨rfl, rfl, rfl, Nat.le_refl _, fun _ _ _ => rfl⟩

theorem grownBy_trans {a b c : World} {row : Option Nat} (h : a.grownBy b row) (k : b.grownBy c row) : a.grownBy c row :=
  ⟨k.os.trans h.os, k.tape.trans h.tape, k.output.trans h.output, Nat.le_trans h.size k.size, fun i hi hne => (k.block i (Nat.lt_of_lt_of_le hi h.size) hne).trans (h.block i hi hne)⟩

theorem ownsRow_base {w : World} {B B' : Nat} {e : TypeId} {size n : Nat} {v : Value} {xs : List Value} (h : w.ownsRow B e size v n xs) (hB : B' ≤ B) : w.ownsRow B' e size v n xs := by
  refine ⟨h.1, ?_⟩
  rcases h.2 with h' | ⟨g, cap, cur, h1, h2, h3⟩
  · exact .inl h'
  · exact .inr ⟨g, cap, cur, h1, Nat.le_trans hB h2, h3⟩

theorem own_shape {w : World} {B : Nat} {e : TypeId} {size n : Nat} {v : Value} {xs : List Value} (h : w.ownsRow B e size v n xs) : ∃ a cap, v = .slice a n cap := by
  rcases h.2 with ⟨h1, h2⟩ | ⟨g, cap, cur, h1, _⟩
  · exact ⟨none, 0, by rw [h1, h2]⟩
  · exact ⟨_, cap, h1⟩

theorem BRow.own2 {w : World} {B n cap : Nat} {a : Option Addr} {e : TypeId} {zs : List Int} (h : w.ownsRow B e 1 (.slice a n cap) n (zs.map (Value.int .u8))) (hz : ∀ x ∈ zs, 0 ≤ x ∧ x ≤ 255) : BRow w a n zs := by
  rcases h.2 with ⟨h1, h2⟩ | ⟨g, cap', cur, h1, _⟩
  · simp only [Value.slice.injEq] at h1
    obtain ⟨rfl, rfl, rfl⟩ := h1
    have hl : zs.length = 0 := by simpa using h.1
    exact ⟨hl, hz, fun _ => rfl, fun x hx => by cases hx⟩
  · simp only [Value.slice.injEq] at h1
    obtain ⟨rfl, _, rfl⟩ := h1
    exact BRow.own h hz

theorem own_below {w w' : World} {B C : Nat} {e : TypeId} {size n : Nat} {v : Value} {xs : List Value} (h : w.ownsRow B e size v n xs) (hb : Below C w w') (hC : w.heap.size ≤ C) : w'.ownsRow B e size v n xs := by
  refine ⟨h.1, ?_⟩
  rcases h.2 with h' | ⟨g, cap, cur, h1, h2, h3, h4⟩
  · exact .inl h'
  · refine .inr ⟨g, cap, cur, h1, h2, ?_, h4⟩
    rw [hb.block g (Nat.lt_of_lt_of_le (lt_of_block h3) hC)]
    exact h3

theorem below_alloc (w : World) (o : Obj) : Below w.heap.size w (w.alloc o) := (Below.refl _ _).alloc (Nat.le_refl _) o

theorem new2 (w : World) (x y : Value) (t : TypeId) : Below w.heap.size w (w.alloc (Obj.cells #[x, y] t)) ∧ w.heap.size < (w.alloc (Obj.cells #[x, y] t)).heap.size ∧
    (w.alloc (Obj.cells #[x, y] t)).cell? ⟨w.heap.size, 0, none⟩ = some x ∧ (w.alloc (Obj.cells #[x, y] t)).cell? ⟨w.heap.size, 1, none⟩ = some y :=
  ⟨below_alloc w _, by simp, by simp, by simp⟩

theorem res_facts {w : World} {b : Nat} {x y : Value} {t : TypeId} (h : w.heap[b]? = some (.cells #[x, y] t (0, 0))) :
    w.cell? ⟨b, 0, none⟩ = some x ∧ w.cell? ⟨b, 1, none⟩ = some y ∧ w.frozen? ⟨b, 0, none⟩ = false ∧ w.frozen? ⟨b, 1, none⟩ = false :=
  ⟨by simp [World.cell?, h], by simp [World.cell?, h], frozen_of_row w b 0 _ t h, frozen_of_row w b 1 _ t h⟩

theorem own_some {w : World} {B : Nat} {e : TypeId} {size n : Nat} {v : Value} {xs : List Value} (h : w.ownsRow B e size v n xs) (hn : 0 < n) : ∃ g cap, v = .slice (some ⟨g, 0, none⟩) n cap := by
  rcases h.2 with ⟨h1, h2⟩ | ⟨g, cap, cur, h1, _⟩
  · omega
  · exact ⟨g, cap, h1⟩

/-- The length of a slice value, for a loop's measure. -/
def lenOf : Value → Nat | .slice _ n _ => n | _ => 0

/-- A slice of bytes, made a string. -/
theorem conv_any {P : Program} (w : World) (src e dst : TypeId) (hs : P.underlying src = some (.slice e)) (he : P.underlying e = some (.int .u8)) (hd : P.underlying dst = some .string)
    (a : Option Addr) (len cap : Nat) (xs : List Int) (h : BRow w a len xs) : (convert src dst (.slice a len cap)).run P w = .ok (.string (strOfNums xs)) w := by
  rcases Nat.eq_zero_or_pos len with h0 | hp
  · subst h0
    have hx : xs = [] := List.length_eq_zero_iff.1 h.1
    subst hx
    cases a with
    | none => exact run_convert_bytes_nil w src e hs he 0 cap dst hd
    | some x =>
      rw [run_convert_bytes_string w src dst e _ 0 cap hs he hd]
      exact run_bytesToString w x 0 cap [] (by simp [loadCells, loadCellsFrom])
  · obtain ⟨b, off, rfl, _, hc⟩ := h.at hp
    exact run_convert_bytes_arg w src e hs he b off len cap xs h.1 hc dst hd

/-- Whether two lists of bytes are the same as strings. -/
def strEq (xs ys : List Int) : Bool := (strOfNums xs).toList == (strOfNums ys).toList

/-- What the shell's reading of an argument gives. -/
theorem brow_of {w : World} {a : Option Addr} {len cap : Nat} {zs : List Int}
    (h : (a = none ∧ len = 0 ∧ cap = 0 ∧ zs = []) ∨ ∃ x, a = some x ∧ len ≤ cap ∧ cap ≤ maxLen ∧ zs.length = cap ∧ (∀ i, i < zs.length → w.cell? (x.add i) = some (.int .u8 (zs.getD i 0))) ∧ ∀ n ∈ zs, (Lit.int .u8 n).wf = true) :
    BRow w a len (zs.take len) := by
  rcases h with ⟨rfl, rfl, rfl, rfl⟩ | ⟨x, rfl, hl, _, hz, hc, hw⟩
  · exact ⟨rfl, fun n hn => by simp at hn, fun _ => rfl, fun x hx => by cases hx⟩
  · refine ⟨by simp; omega, fun n hn => ?_, fun e => (by cases e), fun y hy i hi => ?_⟩
    · have := hw n (List.mem_of_mem_take hn)
      have b := Go.bounds_u8 this
      omega
    · cases hy
      rw [hc i (by omega)]
      rw [getD_at _ i (by omega), getD_at _ i (by simp; omega), List.getElem_take]

end Go.Proofs.YtldiilmpmcbjkaaGreatDoor

/- What is proved here: plain facts on lanes of 64 bits and their two words: xor, and, the complement, turning. They hold for every program. No condition beyond those written in each theorem. -/
namespace Go.Proofs.YtldiilmpmcbjkaaGreatDoor
open Go.RowKit
set_option linter.unusedVariables false
set_option maxRecDepth 100000

/-- The two words of a lane. -/
def hiW (z : Nat) : Nat := z / 4294967296
def loW (z : Nat) : Nat := z % 4294967296

theorem hi_xor (a b : Nat) : hiW (a ^^^ b) = hiW a ^^^ hiW b := Nat.xor_div_two_pow (n := 32)
theorem lo_xor (a b : Nat) : loW (a ^^^ b) = loW a ^^^ loW b := Nat.xor_mod_two_pow (n := 32)
theorem hi_and (a b : Nat) : hiW (a &&& b) = hiW a &&& hiW b := Nat.and_div_two_pow (n := 32)
theorem lo_and (a b : Nat) : loW (a &&& b) = loW a &&& loW b := Nat.and_mod_two_pow (n := 32)

theorem hi_lt (a : Nat) (h : a < 18446744073709551616) : hiW a < 4294967296 := by unfold hiW; omega
theorem lo_lt (a : Nat) : loW a < 4294967296 := by unfold loW; omega
theorem hi_not (a : Nat) (h : a < 18446744073709551616) : hiW (18446744073709551615 - a) = 4294967295 - hiW a := by unfold hiW; omega
theorem lo_not (a : Nat) (h : a < 18446744073709551616) : loW (18446744073709551615 - a) = 4294967295 - loW a := by unfold loW; omega

theorem lane_eq (a : Nat) : hiW a * 4294967296 + loW a = a := by unfold hiW loW; omega

/-- A lane turned by n bits. -/
def rotL (a n : Nat) : Nat := a * 2 ^ n % 18446744073709551616 + a / 2 ^ (64 - n)

theorem pow_split (n m : Nat) : 2 ^ (n + m) = 2 ^ n * 2 ^ m := Nat.pow_add 2 n m

theorem rot_words (h l P Q : Nat) (hP : P * Q = 4294967296) (hP0 : 0 < P) (hQ0 : 0 < Q) (hh : h < 4294967296) (hl : l < 4294967296) :
    (h * 4294967296 + l) * P % 18446744073709551616 + (h * 4294967296 + l) / (4294967296 * Q) = (h * P % 4294967296 + l / Q) * 4294967296 + (l * P % 4294967296 + h / Q) := by
  have e1 : h * P / 4294967296 = h / Q := by rw [← hP, Nat.mul_comm h P]; exact Nat.mul_div_mul_left h Q hP0
  have e2 : l * P / 4294967296 = l / Q := by rw [← hP, Nat.mul_comm l P]; exact Nat.mul_div_mul_left l Q hP0
  have e3 : (h * 4294967296 + l) / (4294967296 * Q) = h / Q := by
    rw [← Nat.div_div_eq_div_mul]
    congr 1
    omega
  have e4 : (h * 4294967296 + l) * P = h * P * 4294967296 + l * P := by rw [Nat.add_mul]; congr 1; rw [Nat.mul_right_comm]
  rw [e3, e4]
  have d1 := Nat.div_add_mod (h * P) 4294967296
  have d2 := Nat.div_add_mod (l * P) 4294967296
  rw [e1] at d1
  rw [e2] at d2
  have q1 : l / Q < P := by
    rw [Nat.div_lt_iff_lt_mul hQ0, hP]; exact hl
  -- r of h is a multiple of P
  have r1 : h * P % 4294967296 = P * (h % Q) := by rw [← hP, Nat.mul_comm h P, Nat.mul_mod_mul_left]
  have r2 : P * (h % Q) + P ≤ 4294967296 := by
    have hm : h % Q + 1 ≤ Q := Nat.mod_lt h hQ0
    have := Nat.mul_le_mul_left P hm
    rw [hP, Nat.mul_add] at this
    omega
  rw [r1] at d1 ⊢
  generalize P * (h % Q) = R at *
  generalize l * P % 4294967296 = R' at *
  have hR' : R' < 4294967296 := by
    rw [show R' = l * P - 4294967296 * (l / Q) by omega]
    have := Nat.mod_lt (l * P) (show 0 < 4294967296 by decide)
    omega
  generalize h * P = HP at *
  generalize l * P = LP at *
  generalize h / Q = A at *
  generalize l / Q = B at *
  omega

theorem rot_parts (a n : Nat) (ha : a < 18446744073709551616) (hn : n ≤ 31) (hn1 : 1 ≤ n) :
    rotL a n = (hiW a * 2 ^ n % 4294967296 + loW a / 2 ^ (32 - n)) * 4294967296 + (loW a * 2 ^ n % 4294967296 + hiW a / 2 ^ (32 - n)) := by
  have hP : 2 ^ n * 2 ^ (32 - n) = 4294967296 := by rw [← pow_split, show n + (32 - n) = 32 by omega]
  have := rot_words (hiW a) (loW a) (2 ^ n) (2 ^ (32 - n)) hP (Nat.two_pow_pos _) (Nat.two_pow_pos _) (hi_lt a ha) (lo_lt a)
  rw [lane_eq] at this
  unfold rotL
  rw [show 64 - n = 32 + (32 - n) by omega, pow_split]
  exact this

theorem word_sum (h l P Q : Nat) (hP : P * Q = 4294967296) (hP0 : 0 < P) (hQ0 : 0 < Q) (hl : l < 4294967296) : h * P % 4294967296 + l / Q < 4294967296 := by
  have q1 : l / Q < P := by rw [Nat.div_lt_iff_lt_mul hQ0, hP]; exact hl
  have r1 : h * P % 4294967296 = P * (h % Q) := by rw [← hP, Nat.mul_comm h P, Nat.mul_mod_mul_left]
  have r2 : P * (h % Q) + P ≤ 4294967296 := by
    have hm : h % Q + 1 ≤ Q := Nat.mod_lt h hQ0
    have := Nat.mul_le_mul_left P hm
    rw [hP, Nat.mul_add] at this
    omega
  omega

theorem rot_small (a n : Nat) (ha : a < 18446744073709551616) (hn : n ≤ 31) (hn1 : 1 ≤ n) :
    hiW (rotL a n) = hiW a * 2 ^ n % 4294967296 + loW a / 2 ^ (32 - n) ∧ loW (rotL a n) = loW a * 2 ^ n % 4294967296 + hiW a / 2 ^ (32 - n) := by
  have hP : 2 ^ n * 2 ^ (32 - n) = 4294967296 := by rw [← pow_split, show n + (32 - n) = 32 by omega]
  rw [rot_parts a n ha hn hn1]
  have w1 := word_sum (hiW a) (loW a) _ _ hP (Nat.two_pow_pos _) (Nat.two_pow_pos _) (lo_lt a)
  have w2 := word_sum (loW a) (hiW a) _ _ hP (Nat.two_pow_pos _) (Nat.two_pow_pos _) (hi_lt a ha)
  generalize hiW a * 2 ^ n % 4294967296 + loW a / 2 ^ (32 - n) = A at *
  generalize loW a * 2 ^ n % 4294967296 + hiW a / 2 ^ (32 - n) = B at *
  unfold hiW loW
  omega

theorem rot_lt (a n : Nat) (ha : a < 18446744073709551616) (hn : n ≤ 63) : rotL a n < 18446744073709551616 := by
  have hP : 2 ^ (64 - n) * 2 ^ n = 18446744073709551616 := by rw [← pow_split, show (64 - n) + n = 64 by omega]
  have q : a / 2 ^ (64 - n) < 2 ^ n := by rw [Nat.div_lt_iff_lt_mul (Nat.two_pow_pos _), Nat.mul_comm, hP]; exact ha
  have r1 : a * 2 ^ n % 18446744073709551616 = 2 ^ n * (a % 2 ^ (64 - n)) := by rw [← hP, Nat.mul_comm (2 ^ (64 - n)), Nat.mul_comm a, Nat.mul_mod_mul_left]
  have r2 : 2 ^ n * (a % 2 ^ (64 - n)) + 2 ^ n ≤ 18446744073709551616 := by
    have hm : a % 2 ^ (64 - n) + 1 ≤ 2 ^ (64 - n) := Nat.mod_lt a (Nat.two_pow_pos _)
    have := Nat.mul_le_mul_left (2 ^ n) hm
    rw [Nat.mul_comm (2 ^ n) (2 ^ (64 - n)), hP, Nat.mul_add] at this
    omega
  unfold rotL
  omega

theorem rot_zero (a : Nat) (ha : a < 18446744073709551616) : rotL a 0 = a := by
  unfold rotL
  have : a / 2 ^ (64 - 0) = 0 := Nat.div_eq_of_lt (by simpa using ha)
  omega

theorem rot_half (a : Nat) (ha : a < 18446744073709551616) : hiW (rotL a 32) = loW a ∧ loW (rotL a 32) = hiW a := by
  unfold rotL hiW loW
  simp only [show (2 : Nat) ^ 32 = 4294967296 by decide]
  omega

theorem rot_swap (h l : Nat) (hh : h < 4294967296) (hl : l < 4294967296) : rotL (h * 4294967296 + l) 32 = l * 4294967296 + h := by
  unfold rotL
  simp only [show (2 : Nat) ^ 32 = 4294967296 by decide]
  omega

theorem rot_big (a n : Nat) (ha : a < 18446744073709551616) (hn : n ≤ 31) (hn1 : 1 ≤ n) : rotL a (n + 32) = rotL (rotL a 32) n := by
  have hP : 2 ^ n * 2 ^ (32 - n) = 4294967296 := by rw [← pow_split, show n + (32 - n) = 32 by omega]
  have hh := hi_lt a ha
  have hl := lo_lt a
  have hs : rotL a 32 = loW a * 4294967296 + hiW a := by
    have := rot_swap (hiW a) (loW a) hh hl
    rwa [lane_eq] at this
  rw [hs]
  have h1 : hiW (loW a * 4294967296 + hiW a) = loW a := by unfold hiW loW at *; omega
  have h2 : loW (loW a * 4294967296 + hiW a) = hiW a := by unfold hiW loW at *; omega
  rw [rot_parts _ n (by omega) hn hn1, h1, h2]
  unfold rotL
  rw [show 64 - (n + 32) = 32 - n by omega, pow_split]
  have e : a * (2 ^ n * 2 ^ 32) % 18446744073709551616 = (loW a * 2 ^ n % 4294967296) * 4294967296 := by
    have : a * (2 ^ n * 2 ^ 32) = (a * 2 ^ n) * 4294967296 := by rw [← Nat.mul_assoc]
    rw [this]
    have e2 : a * 2 ^ n % 4294967296 = loW a * 2 ^ n % 4294967296 := by unfold loW; rw [Nat.mod_mul_mod]
    generalize a * 2 ^ n = X at *
    omega
  rw [e]
  have e3 : a / 2 ^ (32 - n) = hiW a * 2 ^ n + loW a / 2 ^ (32 - n) := by
    conv => lhs; rw [← lane_eq a]
    rw [← hP, ← Nat.mul_assoc, Nat.mul_comm (hiW a * 2 ^ n), Nat.mul_add_div (Nat.two_pow_pos _)]
  rw [e3]
  have d := Nat.div_add_mod (hiW a * 2 ^ n) 4294967296
  have e5 : hiW a * 2 ^ n / 4294967296 = hiW a / 2 ^ (32 - n) := by rw [← hP, Nat.mul_comm (hiW a)]; exact Nat.mul_div_mul_left _ _ (Nat.two_pow_pos _)
  rw [e5] at d
  generalize hiW a * 2 ^ n % 4294967296 = R at *
  generalize hiW a * 2 ^ n = X at *
  generalize hiW a / 2 ^ (32 - n) = A at *
  generalize loW a / 2 ^ (32 - n) = B at *
  generalize loW a * 2 ^ n % 4294967296 = R' at *
  omega

end Go.Proofs.YtldiilmpmcbjkaaGreatDoor

/- What is proved here: plain facts on a state of 25 lanes and on one round of its mixing; no program is named. -/
namespace Go.Proofs.YtldiilmpmcbjkaaGreatDoor
open Go.RowKit
set_option linter.unusedVariables false
set_option maxRecDepth 100000

/-- 25 lanes of 64 bits. -/
def Lanes (Z : List Nat) : Prop := Z.length = 25 ∧ ∀ x ∈ Z, x < 18446744073709551616

theorem getD_lt {Z : List Nat} {M : Nat} (h : ∀ x ∈ Z, x < M) (hM : 0 < M) (i : Nat) : Z.getD i 0 < M := by
  rw [List.getD_eq_getElem?_getD]
  rcases Nat.lt_or_ge i Z.length with hi | hi
  · rw [List.getElem?_eq_getElem hi]
    exact h _ (List.getElem_mem hi)
  · rw [List.getElem?_eq_none hi]
    exact hM

theorem set_all {Z : List Nat} {M : Nat} (h : ∀ x ∈ Z, x < M) (i : Nat) (v : Nat) (hv : v < M) : ∀ x ∈ Z.set i v, x < M := by
  intro x hx
  rcases List.mem_or_eq_of_mem_set hx with h' | h'
  · exact h x h'
  · rw [h']; exact hv

theorem xor_lt {a b : Nat} (ha : a < 18446744073709551616) (hb : b < 18446744073709551616) : a ^^^ b < 18446744073709551616 := Nat.xor_lt_two_pow (n := 64) ha hb
theorem and_lt {a b : Nat} (hb : b < 18446744073709551616) : a &&& b < 18446744073709551616 := Nat.and_lt_two_pow (n := 64) a hb

theorem getDn_at (xs : List Nat) (k : Nat) (h : k < xs.length) : xs.getD k 0 = xs[k] := by
  rw [List.getD_eq_getElem?_getD, List.getElem?_eq_getElem h]; rfl

theorem getDn_set (xs : List Nat) (k i v : Nat) (h : k < xs.length) : (xs.set k v).getD i 0 = if i = k then v else xs.getD i 0 := by
  simp only [List.getD_eq_getElem?_getD, List.getElem?_set]
  by_cases e : k = i
  · subst e; simp [h]
  · rw [if_neg e, if_neg (fun h => e h.symm)]

theorem getDn_map (f : Nat → Nat) (n i : Nat) (h : i < n) : ((List.range n).map f).getD i 0 = f i := by
  rw [getDn_at _ _ (by simpa using h)]
  simp

theorem map_getD (Z : List Nat) (n : Nat) (h : Z.length = n) : (List.range n).map (fun i => Z.getD i 0) = Z := by
  apply List.ext_getElem (by simp [h])
  intro i h1 h2
  simp [h2]

/-- The columns' sums behind k lanes. -/
def colAt (Z : List Nat) (k : Nat) : List Nat := (List.range k).foldl (fun C j => C.set (j % 5) (C.getD (j % 5) 0 ^^^ Z.getD j 0)) (List.replicate 5 0)

theorem colAt_succ (Z : List Nat) (k j : Nat) (hj : j = k % 5) : colAt Z (k + 1) = (colAt Z k).set j ((colAt Z k).getD j 0 ^^^ Z.getD k 0) := by
  unfold colAt
  rw [List.range_succ, List.foldl_append]
  subst hj
  rfl

theorem colAt_props (Z : List Nat) (h : ∀ x ∈ Z, x < 18446744073709551616) (k : Nat) : (colAt Z k).length = 5 ∧ ∀ x ∈ colAt Z k, x < 18446744073709551616 := by
  induction k with
  | zero => exact ⟨rfl, fun x hx => by rw [List.eq_of_mem_replicate hx]; decide⟩
  | succ k ih =>
    rw [colAt_succ Z k _ rfl]
    exact ⟨by rw [List.length_set]; exact ih.1, set_all ih.2 _ _ (xor_lt (getD_lt ih.2 (by decide) _) (getD_lt h (by decide) _))⟩

/-- What a column's lanes are xored with. -/
def dOf (C : List Nat) (x : Nat) : Nat := C.getD ((x + 4) % 5) 0 ^^^ rotL (C.getD ((x + 1) % 5) 0) 1

theorem dOf_lt {C : List Nat} (h : ∀ x ∈ C, x < 18446744073709551616) (x : Nat) : dOf C x < 18446744073709551616 :=
  xor_lt (getD_lt h (by decide) _) (rot_lt _ 1 (getD_lt h (by decide) _) (by decide))

/-- The step with C and D. -/
def theta (Z : List Nat) : List Nat := (List.range 25).map fun i => Z.getD i 0 ^^^ dOf (colAt Z 25) (i % 5)

theorem theta_lanes {Z : List Nat} (h : Lanes Z) : Lanes (theta Z) := by
  refine ⟨by simp [theta], fun x hx => ?_⟩
  obtain ⟨i, _, rfl⟩ := List.mem_map.1 hx
  exact xor_lt (getD_lt h.2 (by decide) _) (dOf_lt (colAt_props Z h.2 25).2 _)

/-- The offsets of the lanes. -/
def offN : List Nat := [0, 1, 62, 28, 27, 36, 44, 6, 55, 20, 3, 10, 43, 25, 39, 41, 45, 15, 21, 8, 18, 2, 61, 56, 14]

theorem offN_le (i : Nat) : offN.getD i 0 ≤ 63 := by
  have : offN.getD i 0 < 64 := getD_lt (Z := offN) (by decide) (by decide) i
  omega

/-- Where a lane goes. -/
def posOf (k : Nat) : Nat := k / 5 + 5 * ((2 * (k % 5) + 3 * (k / 5)) % 5)

/-- The lanes that were moved, behind k of them. -/
def bAt (T : List Nat) (k : Nat) : List Nat := (List.range k).foldl (fun B j => B.set (posOf j) (rotL (T.getD j 0) (offN.getD j 0))) (List.replicate 25 0)

theorem bAt_succ (T : List Nat) (k : Nat) : bAt T (k + 1) = (bAt T k).set (posOf k) (rotL (T.getD k 0) (offN.getD k 0)) := by
  unfold bAt
  rw [List.range_succ, List.foldl_append]
  rfl

theorem bAt_lanes {T : List Nat} (h : Lanes T) (k : Nat) : Lanes (bAt T k) := by
  induction k with
  | zero => exact ⟨rfl, fun x hx => by rw [List.eq_of_mem_replicate hx]; decide⟩
  | succ k ih =>
    rw [bAt_succ]
    exact ⟨by rw [List.length_set]; exact ih.1, set_all ih.2 _ _ (rot_lt _ _ (getD_lt h.2 (by decide) _) (offN_le _))⟩

/-- One lane of the last step. -/
def chiOf (B : List Nat) (i : Nat) : Nat := B.getD i 0 ^^^ ((18446744073709551615 - B.getD (i - i % 5 + (i % 5 + 1) % 5) 0) &&& B.getD (i - i % 5 + (i % 5 + 2) % 5) 0)

def chi (B : List Nat) : List Nat := (List.range 25).map (chiOf B)

theorem chiOf_lt {B : List Nat} (h : ∀ x ∈ B, x < 18446744073709551616) (i : Nat) : chiOf B i < 18446744073709551616 :=
  xor_lt (getD_lt h (by decide) _) (and_lt (getD_lt h (by decide) _))

theorem chi_lanes {B : List Nat} (h : Lanes B) : Lanes (chi B) := by
  refine ⟨by simp [chi], fun x hx => ?_⟩
  obtain ⟨i, _, rfl⟩ := List.mem_map.1 hx
  exact chiOf_lt h.2 i

/-- One round but for its constant. -/
def roundF (Z : List Nat) : List Nat := chi (bAt (theta Z) 25)

theorem roundF_lanes {Z : List Nat} (h : Lanes Z) : Lanes (roundF Z) := chi_lanes (bAt_lanes (theta_lanes h) 25)

/-- The constants of the rounds. -/
def rcs : List Nat := [1, 32898, 9223372036854808714, 9223372039002292224, 32907, 2147483649, 9223372039002292353, 9223372036854808585, 138, 136, 2147516425, 2147483658, 2147516555, 9223372036854775947, 9223372036854808713, 9223372036854808579, 9223372036854808578, 9223372036854775936, 32778, 9223372039002259466, 9223372039002292353, 9223372036854808704, 2147483649, 9223372039002292232]

theorem rcs_lt (i : Nat) : rcs.getD i 0 < 18446744073709551616 := getD_lt (Z := rcs) (by decide) (by decide) i

def roundC (Z : List Nat) (c : Nat) : List Nat := (roundF Z).set 0 ((roundF Z).getD 0 0 ^^^ c)

theorem roundC_lanes {Z : List Nat} (h : Lanes Z) {c : Nat} (hc : c < 18446744073709551616) : Lanes (roundC Z c) := by
  have hr := roundF_lanes h
  exact ⟨by unfold roundC; rw [List.length_set]; exact hr.1, set_all hr.2 _ _ (xor_lt (getD_lt hr.2 (by decide) _) hc)⟩

/-- The state behind k rounds. -/
def mixAt (Z : List Nat) (k : Nat) : List Nat := (List.range k).foldl (fun S j => roundC S (rcs.getD j 0)) Z

theorem mixAt_succ (Z : List Nat) (k : Nat) : mixAt Z (k + 1) = roundC (mixAt Z k) (rcs.getD k 0) := by
  unfold mixAt
  rw [List.range_succ, List.foldl_append]
  rfl

theorem mixAt_lanes {Z : List Nat} (h : Lanes Z) (k : Nat) : Lanes (mixAt Z k) := by
  induction k with
  | zero => exact h
  | succ k ih => rw [mixAt_succ]; exact roundC_lanes ih (rcs_lt k)

/-- A state as words. -/
def wordsL (Z : List Nat) : List Int := Z.flatMap fun a => [(hiW a : Int), (loW a : Int)]

theorem wordsL_nil : wordsL [] = [] := rfl
theorem wordsL_cons (a : Nat) (Z : List Nat) : wordsL (a :: Z) = (hiW a : Int) :: (loW a : Int) :: wordsL Z := rfl

theorem wordsL_append (Y Z : List Nat) : wordsL (Y ++ Z) = wordsL Y ++ wordsL Z := by simp [wordsL]

theorem wordsL_length (Z : List Nat) : (wordsL Z).length = Z.length * 2 := by
  induction Z with
  | nil => rfl
  | cons a Z ih => rw [wordsL_cons]; simp [ih]; omega

theorem wordsL_hi (Z : List Nat) : ∀ i, i < Z.length → (wordsL Z).getD (i * 2) 0 = (hiW (Z.getD i 0) : Int) := by
  induction Z with
  | nil => intro i h; simp at h
  | cons a Z ih =>
    intro i h
    rw [wordsL_cons]
    cases i with
    | zero => rfl
    | succ i =>
      rw [show (i + 1) * 2 = i * 2 + 1 + 1 by omega, List.getD_cons_succ, List.getD_cons_succ, List.getD_cons_succ]
      exact ih i (by simpa using h)

theorem wordsL_lo (Z : List Nat) : ∀ i, i < Z.length → (wordsL Z).getD (i * 2 + 1) 0 = (loW (Z.getD i 0) : Int) := by
  induction Z with
  | nil => intro i h; simp at h
  | cons a Z ih =>
    intro i h
    rw [wordsL_cons]
    cases i with
    | zero => rfl
    | succ i =>
      rw [show (i + 1) * 2 + 1 = i * 2 + 1 + 1 + 1 by omega, List.getD_cons_succ, List.getD_cons_succ, List.getD_cons_succ]
      exact ih i (by simpa using h)

theorem wordsL_set (Z : List Nat) : ∀ (i v : Nat), ((wordsL Z).set (i * 2) (hiW v : Int)).set (i * 2 + 1) (loW v : Int) = wordsL (Z.set i v) := by
  induction Z with
  | nil => intro i v; simp [wordsL]
  | cons a Z ih =>
    intro i v
    cases i with
    | zero => simp [wordsL_cons]
    | succ i =>
      rw [wordsL_cons, List.set_cons_succ, wordsL_cons, ← ih i v, show (i + 1) * 2 = i * 2 + 1 + 1 by omega]
      rfl

theorem wordsL_zero (n : Nat) : wordsL (List.replicate n 0) = List.replicate (n * 2) 0 := by
  induction n with
  | zero => rfl
  | succ n ih =>
    rw [List.replicate_succ, wordsL_cons, ih, show (n + 1) * 2 = n * 2 + 1 + 1 by omega, List.replicate_succ, List.replicate_succ]
    rfl

/-- One lane more of those that are filled in order. -/
theorem fill_at (X Y : List Nat) (n k : Nat) (hX : X.length = n) (hY : Y.length = n) (hk : k < n) : (X.take k ++ Y.drop k).set k (X.getD k 0) = X.take (k + 1) ++ Y.drop (k + 1) := by
  have hl : (X.take k).length = k := by simp; omega
  rw [List.set_append, if_neg (by omega), hl, Nat.sub_self, List.drop_eq_getElem_cons (by omega), List.set_cons_zero, List.take_succ_eq_append_getElem (by omega), getDn_at X k (by omega), List.append_assoc]
  rfl

theorem fill_later (X Y : List Nat) (n k : Nat) (hX : X.length = n) (hY : Y.length = n) (hk : k < n) : (X.take k ++ Y.drop k).getD k 0 = Y.getD k 0 := by
  have hl : (X.take k).length = k := by simp; omega
  rw [getDn_at _ _ (by simp; omega), getDn_at _ _ (by omega), List.getElem_append_right (by omega)]
  simp [hl]

end Go.Proofs.YtldiilmpmcbjkaaGreatDoor

/- What is proved here: closed facts of the program's table of types. -/
namespace Go.Proofs.YtldiilmpmcbjkaaGreatDoor
open Go.RowKit
set_option linter.unusedVariables false
set_option maxRecDepth 100000

theorem info5 : (Tryz.prog.info? 5).map (fun i => (i.zero, i.size, i.bytes)) = some (some (.int .u8 0), 1, 1) := by kernel_rfl

end Go.Proofs.YtldiilmpmcbjkaaGreatDoor

/- What is proved here: what the model's TurnLane answers for every three numbers: the code and the two words, in new memory. -/
namespace Go.Proofs.YtldiilmpmcbjkaaGreatDoor
open Go.RowKit
set_option linter.unusedVariables false
set_option maxRecDepth 100000

theorem i64_fits (n : Int) (h0 : 0 ≤ n) (h1 : n ≤ 9223372036854775807) : IntKind.i64.wrap n = n := by
  rw [IntKind.wrap_i64]; omega

theorem pow_up (k : Nat) (h : k ≤ 32) : wrap64 (2 ^ k) = 2 ^ k ∧ 1 ≤ (2 : Int) ^ k ∧ (2 : Int) ^ k ≤ 4294967296 ∧ (k ≤ 31 → (2 : Int) ^ k ≤ 2147483648) := by
  rcases (by omega : k = 0 ∨ k = 1 ∨ k = 2 ∨ k = 3 ∨ k = 4 ∨ k = 5 ∨ k = 6 ∨ k = 7 ∨ k = 8 ∨ k = 9 ∨ k = 10 ∨ k = 11 ∨ k = 12 ∨ k = 13 ∨ k = 14 ∨ k = 15 ∨ k = 16 ∨ k = 17 ∨ k = 18 ∨ k = 19 ∨ k = 20 ∨ k = 21 ∨ k = 22 ∨ k = 23 ∨ k = 24 ∨ k = 25 ∨ k = 26 ∨ k = 27 ∨ k = 28 ∨ k = 29 ∨ k = 30 ∨ k = 31 ∨ k = 32) with r | r | r | r | r | r | r | r | r | r | r | r | r | r | r | r | r | r | r | r | r | r | r | r | r | r | r | r | r | r | r | r | r <;> subst r <;> exact ⟨IntWalk.wrap64_in _ (by decide), by decide, by decide, fun h => by first | decide | omega⟩

theorem mul_fits (h up : Int) (hh : 0 ≤ h ∧ h ≤ 4294967295) (h1 : 1 ≤ up) (h2 : up ≤ 2147483648) : 0 ≤ h * up ∧ h * up ≤ 9223372034707292160 := by
  refine ⟨Int.mul_nonneg hh.1 (by omega), ?_⟩
  exact Int.le_trans (Int.mul_le_mul_of_nonneg_right hh.2 (by omega)) (by omega)

/-- One word of a lane that is turned by less than a word. -/
def turnW (h l up down : Int) : Int := h * up % 4294967296 + l / down

theorem turn_facts (h l up down : Int) (hh : 0 ≤ h ∧ h ≤ 4294967295) (hl : 0 ≤ l ∧ l ≤ 4294967295) (h1 : 1 ≤ up) (h2 : up ≤ 2147483648) (h3 : 1 ≤ down) :
    IntKind.i64.wrap (h * up) = h * up ∧ (h * up).tmod 4294967296 = h * up % 4294967296 ∧ IntKind.i64.wrap (l.tdiv down) = l / down ∧ IntKind.i64.wrap (h * up % 4294967296 + l / down) = turnW h l up down := by
  have hm := mul_fits h up hh h1 h2
  have hq0 : 0 ≤ l / down := Int.ediv_nonneg hl.1 (by omega)
  have hq1 : l / down ≤ l := Int.ediv_le_self _ hl.1
  refine ⟨i64_fits _ hm.1 (by omega), Int.tmod_eq_emod_of_nonneg hm.1, ?_, ?_⟩
  · rw [Int.tdiv_eq_ediv_of_nonneg hl.1]
    exact i64_fits _ hq0 (by omega)
  · unfold turnW
    exact i64_fits _ (by omega) (by omega)

set_option maxHeartbeats 1000000 in
theorem l2Turn_small (h l n : Int) (w : World) (hh : 0 ≤ h ∧ h ≤ 4294967295) (hl : 0 ≤ l ∧ l ≤ 4294967295) (hn : 1 ≤ n) (hn2 : n ≤ 31) :
    Calls Tryz.prog 140 #[.agg #[.int .i64 h, .int .i64 l], .int .i64 n] w fun e w' => e = .returned (.agg #[.int .i64 (turnW h l (2 ^ n.toNat) (2 ^ (32 - n).toNat)), .int .i64 (turnW l h (2 ^ n.toNat) (2 ^ (32 - n).toNat))]) ∧ Below w.heap.size w w' := by
  have hne : (n == 0) = false := by rw [beq_eq_false_iff_ne]; omega
  have hu := pow_up n.toNat (by omega)
  have hd := pow_up (32 - n).toNat (by omega)
  have hu4 := hu.2.2.2 (by omega)
  have HU := hide hu
  have HD := hide hd
  clear hu hd
  go_enter Tryz.func140, Tryz.ntmps140
  go_wp2_with fail
  rw [(unhide HU).1, (unhide HD).1]
  have hu1 := (unhide HU).2.1
  have hd1 := (unhide HD).2.1
  generalize hgu : (2 : Int) ^ n.toNat = up at hu1 hu4
  generalize hgd : (2 : Int) ^ (32 - n).toNat = down at hd1
  have HGU := hide hgu
  have HGD := hide hgd
  clear hgu hgd HU HD
  obtain ⟨e1, e2, e3, e4⟩ := turn_facts h l up down hh hl hu1 hu4 hd1
  obtain ⟨f1, f2, f3, f4⟩ := turn_facts l h up down hl hh hu1 hu4 hd1
  have hdz : (down == 0) = false := by rw [beq_eq_false_iff_ne]; omega
  have HB : Hid (∀ o p, Below w.heap.size w ((w.alloc o).alloc p)) := fun o p => ((Below.refl _ _).alloc (Nat.le_refl _) o).alloc (by simp) p
  go_region
  all_goals
    go_wp2_with fail
    exact bodyPost_ret (v := .agg #[.int .i64 (turnW h l up down), .int .i64 (turnW l h up down)]) (by simp [results, Tryz.results140, go_sem]) rfl ⟨by rw [unhide HGU, unhide HGD], ((unhide HB) _ _).drew⟩

set_option maxHeartbeats 1000000 in
theorem l2Turn_zero (h l : Int) (w : World) :
    Calls Tryz.prog 140 #[.agg #[.int .i64 h, .int .i64 l], .int .i64 0] w fun e w' => e = .returned (.agg #[.int .i64 h, .int .i64 l]) ∧ Below w.heap.size w w' := by
  have HB : Hid (∀ o p, Below w.heap.size w ((w.alloc o).alloc p)) := fun o p => ((Below.refl _ _).alloc (Nat.le_refl _) o).alloc (by simp) p
  go_enter Tryz.func140, Tryz.ntmps140
  go_wp2_with fail
  exact bodyPost_ret (v := .agg #[.int .i64 h, .int .i64 l]) (by simp [results, Tryz.results140, go_sem]) rfl ⟨rfl, (unhide HB) _ _⟩

set_option maxHeartbeats 1000000 in
theorem l2Turn_big (h l n : Int) (w : World) (hh : 0 ≤ h ∧ h ≤ 4294967295) (hl : 0 ≤ l ∧ l ≤ 4294967295) (hn : 33 ≤ n) (hn2 : n ≤ 63) :
    Calls Tryz.prog 140 #[.agg #[.int .i64 h, .int .i64 l], .int .i64 n] w fun e w' => e = .returned (.agg #[.int .i64 (turnW l h (2 ^ (n - 32).toNat) (2 ^ (32 - (n - 32)).toNat)), .int .i64 (turnW h l (2 ^ (n - 32).toNat) (2 ^ (32 - (n - 32)).toNat))]) ∧ Below w.heap.size w w' := by
  have hne : (n - 32 == 0) = false := by rw [beq_eq_false_iff_ne]; omega
  have hu := pow_up (n - 32).toNat (by omega)
  have hd := pow_up (32 - (n - 32)).toNat (by omega)
  have hu4 := hu.2.2.2 (by omega)
  have HU := hide hu
  have HD := hide hd
  clear hu hd
  go_enter Tryz.func140, Tryz.ntmps140
  go_wp2_with fail
  rw [(unhide HU).1, (unhide HD).1]
  have hu1 := (unhide HU).2.1
  have hd1 := (unhide HD).2.1
  generalize hgu : (2 : Int) ^ (n - 32).toNat = up at hu1 hu4
  generalize hgd : (2 : Int) ^ (32 - (n - 32)).toNat = down at hd1
  have HGU := hide hgu
  have HGD := hide hgd
  clear hgu hgd HU HD
  obtain ⟨e1, e2, e3, e4⟩ := turn_facts h l up down hh hl hu1 hu4 hd1
  obtain ⟨f1, f2, f3, f4⟩ := turn_facts l h up down hl hh hu1 hu4 hd1
  have hdz : (down == 0) = false := by rw [beq_eq_false_iff_ne]; omega
  have HB : Hid (∀ o p, Below w.heap.size w ((w.alloc o).alloc p)) := fun o p => ((Below.refl _ _).alloc (Nat.le_refl _) o).alloc (by simp) p
  go_region
  all_goals
    go_wp2_with fail
    exact bodyPost_ret (v := .agg #[.int .i64 (turnW l h up down), .int .i64 (turnW h l up down)]) (by simp [results, Tryz.results140, go_sem]) rfl ⟨by rw [unhide HGU, unhide HGD], ((unhide HB) _ _).drew⟩

set_option maxHeartbeats 1000000 in
theorem l2Turn_half (h l : Int) (w : World) :
    Calls Tryz.prog 140 #[.agg #[.int .i64 h, .int .i64 l], .int .i64 32] w fun e w' => e = .returned (.agg #[.int .i64 l, .int .i64 h]) ∧ Below w.heap.size w w' := by
  have HB : Hid (∀ o p, Below w.heap.size w ((w.alloc o).alloc p)) := fun o p => ((Below.refl _ _).alloc (Nat.le_refl _) o).alloc (by simp) p
  go_enter Tryz.func140, Tryz.ntmps140
  go_wp2_with fail
  exact bodyPost_ret (v := .agg #[.int .i64 l, .int .i64 h]) (by simp [results, Tryz.results140, go_sem]) rfl ⟨rfl, (unhide HB) _ _⟩


/-- A lane turned by n bits: its two words. -/
def laneTurn (h l n : Int) : Int × Int :=
  if n = 0 then (h, l) else if n < 32 then (turnW h l (2 ^ n.toNat) (2 ^ (32 - n).toNat), turnW l h (2 ^ n.toNat) (2 ^ (32 - n).toNat))
  else if n = 32 then (l, h) else (turnW l h (2 ^ (n - 32).toNat) (2 ^ (32 - (n - 32)).toNat), turnW h l (2 ^ (n - 32).toNat) (2 ^ (32 - (n - 32)).toNat))

theorem l2Turn_any (h l n : Int) (w : World) (hh : 0 ≤ h ∧ h ≤ 4294967295) (hl : 0 ≤ l ∧ l ≤ 4294967295) (hn : 0 ≤ n) (hn2 : n ≤ 63) :
    Calls Tryz.prog 140 #[.agg #[.int .i64 h, .int .i64 l], .int .i64 n] w fun e w' => e = .returned (.agg #[.int .i64 (laneTurn h l n).1, .int .i64 (laneTurn h l n).2]) ∧ Below w.heap.size w w' := by
  unfold laneTurn
  by_cases h0 : n = 0
  · subst h0
    rw [if_pos rfl]
    exact l2Turn_zero h l w
  · rw [if_neg h0]
    by_cases h1 : n < 32
    · rw [if_pos h1]
      exact l2Turn_small h l n w hh hl (by omega) (by omega)
    · rw [if_neg h1]
      by_cases h2 : n = 32
      · subst h2
        rw [if_pos rfl]
        exact l2Turn_half h l w
      · rw [if_neg h2]
        exact l2Turn_big h l n w hh hl (by omega) hn2

end Go.Proofs.YtldiilmpmcbjkaaGreatDoor

/- What is proved here: the model's xor of two lanes gives the xor of their words, and writes into no memory that was there. -/
namespace Go.Proofs.YtldiilmpmcbjkaaGreatDoor
open Go.RowKit
set_option linter.unusedVariables false
set_option maxRecDepth 100000

/-- The xor of two words. -/
def xorW (a b : Int) : Int := bits .xor .i64 a b

set_option maxHeartbeats 1000000 in
theorem l2Xor_any (a b c d : Int) (w : World) :
    Calls Tryz.prog 101 #[.agg #[.int .i64 a, .int .i64 b], .agg #[.int .i64 c, .int .i64 d]] w fun e w' => e = .returned (.agg #[.int .i64 (xorW a c), .int .i64 (xorW b d)]) ∧ Below w.heap.size w w' := by
  have HB : Hid (∀ o p q, Below w.heap.size w (((w.alloc o).alloc p).alloc q)) := fun o p q => (((Below.refl _ _).alloc (Nat.le_refl _) o).alloc (by simp) p).alloc (by simp; omega) q
  go_enter Tryz.func101, Tryz.ntmps101
  go_wp2_with fail
  exact bodyPost_ret (v := .agg #[.int .i64 (xorW a c), .int .i64 (xorW b d)]) (by simp [results, Tryz.results101, go_sem, xorW]) rfl ⟨rfl, (unhide HB) _ _ _⟩

end Go.Proofs.YtldiilmpmcbjkaaGreatDoor

/- What is proved here: one round of the model's mixing of a state. -/
namespace Go.Proofs.YtldiilmpmcbjkaaGreatDoor
open Go.RowKit
set_option linter.unusedVariables false
set_option maxRecDepth 100000
attribute [local go_sem ↓] Go.wp_at_zero Go.wp_at_succ

/-- A block of numbers. -/
def Blk (w : World) (b : Nat) (L : List Int) (t : TypeId) : Prop := w.heap[b]? = some (.cells (L.map (Value.int .i64)).toArray t (0, 0))

theorem Blk.cell {w : World} {b : Nat} {L : List Int} {t : TypeId} (h : Blk w b L t) (i : Nat) (hi : i < L.length) : w.cell? ⟨b, i, none⟩ = some (.int .i64 (L.getD i 0)) := by
  simp [World.cell?, show w.heap[b]? = _ from h, hi]

theorem Blk.free {w : World} {b : Nat} {L : List Int} {t : TypeId} (h : Blk w b L t) (i : Nat) : w.frozen? ⟨b, i, none⟩ = false := frozen_of_row w b i _ t h

theorem Blk.set {w : World} {b : Nat} {L : List Int} {t : TypeId} (h : Blk w b L t) (i : Nat) (x : Int) : Blk (w.setCell ⟨b, i, none⟩ (.int .i64 x)) b (L.set i x) t := by
  have := heap_setCell_same w b i _ t (.int .i64 x) h
  unfold Blk
  rw [this]
  simp [List.map_set]

theorem Blk.other {w : World} {b b' : Nat} {L : List Int} {t : TypeId} (h : Blk w b L t) (i : Nat) (v : Value) (hb : b ≠ b') : Blk (w.setCell ⟨b', i, none⟩ v) b L t := by
  unfold Blk
  rw [heap_setCell_other w ⟨b', i, none⟩ b v hb]
  exact h

theorem Blk.lt {w : World} {b : Nat} {L : List Int} {t : TypeId} (h : Blk w b L t) : b < w.heap.size := lt_of_block h

theorem Blk.below {w w' : World} {b C : Nat} {L : List Int} {t : TypeId} (h : Blk w b L t) (hb : Below C w w') (hC : b < C) : Blk w' b L t := by
  unfold Blk
  rw [hb.block b hC]
  exact h

/-- The offsets of the lanes. -/
def offs : List Int := [0, 1, 62, 28, 27, 36, 44, 6, 55, 20, 3, 10, 43, 25, 39, 41, 45, 15, 21, 8, 18, 2, 61, 56, 14]

theorem there_blk {w : World} {b : Nat} {C : Array Value} {t : TypeId} (h : w.heap[b]? = some (.cells C t (0, 0))) (n : Nat) (hn : n = C.size) : w.there b 0 n := by
  intro j hj
  refine ⟨?_, frozen_of_row w b _ C t h⟩
  rw [Nat.zero_add, cell_of_row w b j C t _ h, Array.getElem?_eq_getElem (by omega)]
  rfl

/-- A whole row stored over a block is that row. -/
theorem setCells_all {b : Nat} {t : TypeId} : ∀ (vs pre post : List Value) (w : World), w.heap[b]? = some (.cells (pre ++ post).toArray t (0, 0)) → post.length = vs.length →
    (w.setCells b pre.length vs).heap[b]? = some (.cells (pre ++ vs).toArray t (0, 0))
  | [], pre, post, w, h, hl => by
    obtain rfl : post = [] := List.eq_nil_of_length_eq_zero (by simpa using hl)
    exact h
  | v :: r, pre, [], w, h, hl => by simp at hl
  | v :: r, pre, p :: post, w, h, hl => by
    have h1 := heap_setCell_same w b pre.length _ t v h
    have e : ((pre ++ p :: post).toArray.setIfInBounds pre.length v) = ((pre ++ [v]) ++ post).toArray := by
      rw [List.setIfInBounds_toArray]
      simp
    rw [e] at h1
    have ih := setCells_all r (pre ++ [v]) post (w.setCell ⟨b, pre.length, none⟩ v) h1 (by simpa using hl)
    have e2 : (pre ++ [v]).length = pre.length + 1 := by simp
    rw [e2] at ih
    show ((w.setCell ⟨b, pre.length, none⟩ v).setCells b (pre.length + 1) r).heap[b]? = _
    rw [ih]
    simp

theorem below_setCells {B : Nat} {w0 : World} (b : Nat) (hb : B ≤ b) : ∀ (vs : List Value) (o : Nat) (w : World), Below B w0 w → Below B w0 (w.setCells b o vs)
  | [], _, _, h => h
  | v :: r, o, w, h => below_setCells b hb r (o + 1) _ (h.setCell hb v)

theorem all_int (L : List Int) : (L.map (Value.int .i64)).toArray.all (·.oneCell') = true :=
  all_oneCell_toArray (fun v hv => by obtain ⟨x, _, rfl⟩ := List.mem_map.1 hv; rfl)

/-- A row of numbers stored whole over a block. -/
theorem Blk.store {w : World} {b : Nat} {L M : List Int} {t : TypeId} (h : Blk w b L t) (hl : L.length = M.length) : Blk (w.setCells b 0 (M.map (Value.int .i64))) b M t := by
  have := setCells_all (M.map (Value.int .i64)) [] (L.map (Value.int .i64)) w h (by simpa using hl)
  unfold Blk
  simpa using this

/-- A store by its run's equation. -/
theorem wpList_store_eq {P : Program} {ops : Array Oper} {rest : List Oper} {op : Oper} {a : Act} {w : World} {Q : Exit → Act → World → Prop} (hgd : op.guard = none) (ty : TypeId) (x y : Operand) (ho : op.op = .store ty x y)
    (p v : Value) (hx : a.eval x = p) (hy : a.eval y = v) (w2 : World) (hrun : (Instr.storeAt ty p v).run P w = .ok () w2) (h : wpList P ops Q rest (a.put op.dst undef) w2) : wpList P ops Q (op :: rest) a w :=
  wpList_plain hgd fun _ hK => by
    unfold Oper.wp execOp
    simp only [ho, hx, hy, Sem.run_bind, hrun, Sem.run_pure, Result.andThen_ok]
    exact hK _ _ h

set_option maxRecDepth 100000 in
set_option maxHeartbeats 2000000 in
theorem offs_any (w : World) : Calls Tryz.prog 139 #[] w fun e w' => e = .returned (.agg (offs.map (Value.int .i64)).toArray) ∧ Below w.heap.size w w' := by
  obtain ⟨w1, hw1⟩ : ∃ w1, w1 = w.alloc (.cells ((List.replicate 25 (0 : Int)).map (Value.int .i64)).toArray 171) := ⟨_, rfl⟩
  have hb0 : Blk w1 w.heap.size (List.replicate 25 (0 : Int)) 171 := by
    rw [hw1]
    show (w.heap.push _)[w.heap.size]? = _
    simp
  have hbel : Below w.heap.size w w1 := by rw [hw1]; exact below_alloc w _
  obtain ⟨w2, hw2⟩ : ∃ w2, w2 = w1.setCells w.heap.size 0 (offs.map (Value.int .i64)) := ⟨_, rfl⟩
  have hb2 : Blk w2 w.heap.size offs 171 := by rw [hw2]; exact hb0.store rfl
  have hbel2 : Below w.heap.size w w2 := by rw [hw2]; exact below_setCells _ (Nat.le_refl _) _ _ _ hbel
  have hst : (Instr.storeAt 171 (.pointer (some ⟨w.heap.size, 0, none⟩)) (.agg (offs.map (Value.int .i64)).toArray)).run Tryz.prog w1 = .ok () w2 := by
    rw [run_storeAt_mid w1 w.heap.size 0 171 (offs.map (Value.int .i64)).toArray (there_blk hb0 _ rfl) (by kernel_rfl) (all_int offs), hw2]
  have hst2 : (Instr.storeAt 171 (.pointer (some ⟨w.heap.size, 0, none⟩)) (.agg #[.int .i64 0, .int .i64 1, .int .i64 62, .int .i64 28, .int .i64 27, .int .i64 36, .int .i64 44, .int .i64 6, .int .i64 55, .int .i64 20, .int .i64 3, .int .i64 10, .int .i64 43, .int .i64 25, .int .i64 39, .int .i64 41, .int .i64 45, .int .i64 15, .int .i64 21, .int .i64 8, .int .i64 18, .int .i64 2, .int .i64 61, .int .i64 56, .int .i64 14])).run Tryz.prog w1 = .ok () w2 := hst
  have hfold : w.alloc (.cells #[.int .i64 0, .int .i64 0, .int .i64 0, .int .i64 0, .int .i64 0, .int .i64 0, .int .i64 0, .int .i64 0, .int .i64 0, .int .i64 0, .int .i64 0, .int .i64 0, .int .i64 0, .int .i64 0, .int .i64 0, .int .i64 0, .int .i64 0, .int .i64 0, .int .i64 0, .int .i64 0, .int .i64 0, .int .i64 0, .int .i64 0, .int .i64 0, .int .i64 0] 171) = w1 := by rw [hw1]; rfl
  have HST := hide hst2
  have HFO := hide hfold
  have HB2 := hide hb2
  have HBE := hide hbel2
  have HW1 := hide hw1
  clear hst hst2 hfold hb2 hbel2 hb0 hbel hw2 hw1
  go_enter Tryz.func139, Tryz.ntmps139
  go_upto_region 1 with fail
  rw [unhide HFO]
  go_wp2_with (refine wpList_store_eq rfl 171 (.tmp 0) (.tmp 1) rfl _ _ rfl rfl w2 (unhide HST) ?_)
  exact bodyPost_ret (results_cell_row rfl _ _ w.heap.size 171 _ (0, 0) _ rfl (unhide HB2) Tryz.underlying171 rfl (by kernel_rfl)) rfl ⟨rfl, unhide HBE⟩

theorem Blk.new (w : World) (L : List Int) (t : TypeId) : Blk (w.alloc (.cells (L.map (Value.int .i64)).toArray t)) w.heap.size L t := by
  show (w.heap.push _)[w.heap.size]? = _
  simp

end Go.Proofs.YtldiilmpmcbjkaaGreatDoor

/- What is proved here: blocks of lanes in a world (64 unsigned bits each), read and written; they hold for every program. -/
namespace Go.Proofs.YtldiilmpmcbjkaaGreatDoor
open Go.RowKit
set_option linter.unusedVariables false
set_option maxRecDepth 100000

/-- Lanes as values. -/
def vals (Z : List Nat) : List Value := Z.map fun (a : Nat) => Value.int .u64 (a : Int)

/-- A block of lanes. -/
def UBlk (w : World) (b : Nat) (Z : List Nat) (t : TypeId) : Prop := w.heap[b]? = some (.cells (vals Z).toArray t (0, 0))

theorem UBlk.cell {w : World} {b : Nat} {Z : List Nat} {t : TypeId} (h : UBlk w b Z t) (i : Nat) (hi : i < Z.length) : w.cell? ⟨b, i, none⟩ = some (.int .u64 (Z.getD i 0 : Int)) := by
  simp [World.cell?, show w.heap[b]? = _ from h, hi, vals]

theorem UBlk.free {w : World} {b : Nat} {Z : List Nat} {t : TypeId} (h : UBlk w b Z t) (i : Nat) : w.frozen? ⟨b, i, none⟩ = false := frozen_of_row w b i _ t h

theorem UBlk.set {w : World} {b : Nat} {Z : List Nat} {t : TypeId} (h : UBlk w b Z t) (i v : Nat) : UBlk (w.setCell ⟨b, i, none⟩ (.int .u64 (v : Int))) b (Z.set i v) t := by
  have := heap_setCell_same w b i _ t (.int .u64 (v : Int)) h
  unfold UBlk
  rw [this]
  simp [vals, List.map_set]

theorem UBlk.other {w : World} {b b' : Nat} {Z : List Nat} {t : TypeId} (h : UBlk w b Z t) (i : Nat) (v : Value) (hb : b ≠ b') : UBlk (w.setCell ⟨b', i, none⟩ v) b Z t := by
  unfold UBlk
  rw [heap_setCell_other w ⟨b', i, none⟩ b v hb]
  exact h

theorem UBlk.lt {w : World} {b : Nat} {Z : List Nat} {t : TypeId} (h : UBlk w b Z t) : b < w.heap.size := lt_of_block h

theorem UBlk.below {w w' : World} {b C : Nat} {Z : List Nat} {t : TypeId} (h : UBlk w b Z t) (hb : Below C w w') (hC : b < C) : UBlk w' b Z t := by
  unfold UBlk
  rw [hb.block b hC]
  exact h

theorem UBlk.new (w : World) (Z : List Nat) (t : TypeId) : UBlk (w.alloc (.cells (vals Z).toArray t)) w.heap.size Z t := by
  show (w.heap.push _)[w.heap.size]? = _
  simp

theorem UBlk.next {w : World} {b : Nat} {Z : List Nat} {t : TypeId} (h : UBlk w b Z t) (o : Obj) : UBlk (w.alloc o) b Z t := h.below (below_alloc w o) h.lt

theorem all_u (Z : List Nat) : (vals Z).toArray.all (·.oneCell') = true :=
  all_oneCell_toArray (fun v hv => by obtain ⟨x, _, rfl⟩ := List.mem_map.1 hv; rfl)

end Go.Proofs.YtldiilmpmcbjkaaGreatDoor

/- What is proved here: a row of lanes loaded and stored whole, by its run's equation. -/
namespace Go.Proofs.YtldiilmpmcbjkaaGreatDoor
open Go.RowKit
set_option linter.unusedVariables false
set_option maxRecDepth 100000

/-- A load by its run's equation. -/
theorem wpList_load_eq {P : Program} {ops : Array Oper} {rest : List Oper} {op : Oper} {a : Act} {w : World} {Q : Exit → Act → World → Prop} (hgd : op.guard = none) (ty : TypeId) (x : Operand) (ho : op.op = .load ty x)
    (p v : Value) (hx : a.eval x = p) (hrun : (Instr.loadAt ty p).run P w = .ok v w) (h : wpList P ops Q rest (a.put op.dst v) w) : wpList P ops Q (op :: rest) a w :=
  wpList_plain hgd fun _ hK => by
    unfold Oper.wp execOp
    simp only [ho, hx, Sem.run_bind, hrun, Sem.run_pure, Result.andThen_ok]
    exact hK _ _ h

theorem vals_length (Z : List Nat) : (vals Z).length = Z.length := by simp [vals]

theorem UBlk.range {w : World} {b : Nat} {Z : List Nat} {t : TypeId} (h : UBlk w b Z t) : w.rangeAt b 0 (vals Z) := by
  intro j v hj
  rw [Nat.zero_add, cell_of_row w b j _ t _ h]
  simpa using hj

/-- A whole state loaded. -/
theorem load25 {w : World} {b : Nat} {Z : List Nat} (h : UBlk w b Z 145) (hz : Z.length = 25) : (Instr.loadAt 145 (.pointer (some ⟨b, 0, none⟩))).run Tryz.prog w = .ok (.agg (vals Z).toArray) w :=
  run_loadAt_mid (P := Tryz.prog) w b 0 145 (vals Z) _ h.range Tryz.underlying145 rfl (by rw [vals_length, hz]; kernel_rfl)

/-- A whole state stored over another one. -/
theorem store25 {w : World} {b : Nat} {Y Z : List Nat} (h : UBlk w b Y 145) (hy : Y.length = 25) (hz : Z.length = 25) :
    ∃ W, (Instr.storeAt 145 (.pointer (some ⟨b, 0, none⟩)) (.agg (vals Z).toArray)).run Tryz.prog w = .ok () W ∧ UBlk W b Z 145 ∧ (∀ C, C ≤ b → Below C w W) ∧ (∀ c, c ≠ b → W.heap[c]? = w.heap[c]?) := by
  have hsz : (vals Z).toArray.size = 25 := by simp [vals, hz]
  refine ⟨w.setCells b 0 (vals Z), run_storeAt_mid (P := Tryz.prog) w b 0 145 (vals Z).toArray (there_blk h _ (by simp [vals, hz, hy])) (by rw [hsz]; kernel_rfl) (all_u Z), ?_, ?_, ?_⟩
  · have := setCells_all (vals Z) [] (vals Y) w h (by rw [vals_length, vals_length, hy, hz])
    unfold UBlk
    simpa using this
  · intro C hC
    exact below_setCells b hC _ _ _ (Below.refl _ _)
  · intro c hc
    have : ∀ (vs : List Value) (o : Nat) (W : World), (W.setCells b o vs).heap[c]? = W.heap[c]? := by
      intro vs
      induction vs with
      | nil => intro o W; rfl
      | cons v r ih => intro o W; exact (ih (o + 1) _).trans (heap_setCell_other W ⟨b, o, none⟩ c v hc)
    exact this _ _ _

end Go.Proofs.YtldiilmpmcbjkaaGreatDoor

/- What is proved here: plain facts on slices of int64 in a world, used by the walks of this seat; they hold for every program. -/
namespace Go.Proofs.YtldiilmpmcbjkaaGreatDoor
open Go.RowKit
set_option linter.unusedVariables false
set_option maxRecDepth 100000

/-- The slice 'a', of 'len' elements, reads as the numbers 'zs' in the world 'w'. -/
def IRow (w : World) (a : Option Addr) (len : Nat) (zs : List Int) : Prop :=
  zs.length = len ∧ True ∧ (a = none → len = 0) ∧ ∀ x, a = some x → ∀ i, i < len → w.cell? (x.add i) = some (.int .i64 (zs.getD i 0))

theorem IRow.at {w : World} {a : Option Addr} {len : Nat} {zs : List Int} (h : IRow w a len zs) (hp : 0 < len) :
    ∃ b off, a = some ⟨b, off, none⟩ ∧ b < w.heap.size ∧ ∀ i, i < len → w.cell? ⟨b, off + i, none⟩ = some (.int .i64 (zs.getD i 0)) := by
  obtain ⟨h1, h2, h3, h4⟩ := h
  match a, h3, h4 with
  | none, h3, _ => have := h3 rfl; omega
  | some x, _, h4 =>
    obtain ⟨b, off, spot⟩ := x
    have hc := h4 _ rfl 0 hp
    have hspot : spot = none := by simpa [Addr.add] using World.cell?_spot hc
    subst hspot
    refine ⟨b, off, rfl, lt_of_cell (p := _) hc, fun i hi => ?_⟩
    have := h4 _ rfl i hi
    rwa [add_none] at this

theorem IRow.below {w w' : World} {a : Option Addr} {len : Nat} {zs : List Int} (h : IRow w a len zs) {B : Nat} (hb : Below B w w') (hB : w.heap.size ≤ B) : IRow w' a len zs := by
  refine ⟨h.1, h.2.1, h.2.2.1, fun x hx i hi => ?_⟩
  have hc := h.2.2.2 x hx i hi
  rw [hb.cell (Nat.lt_of_lt_of_le (lt_of_cell hc) hB)]
  exact hc

/-- What the call owns reads as numbers. -/
theorem IRow.own {w : World} {B g cap n : Nat} {e : TypeId} {zs : List Int} (h : w.ownsRow B e 1 (.slice (some ⟨g, 0, none⟩) n cap) n (zs.map (Value.int .i64))) :
    IRow w (some ⟨g, 0, none⟩) n zs := by
  have hl : zs.length = n := by simpa using h.1
  refine ⟨hl, trivial, fun e => (by cases e), fun x hx i hi => ?_⟩
  cases hx
  have := h.cellAt i (by omega)
  rw [add_none, Nat.zero_add, this]
  simp [List.getElem?_map, List.getD_eq_getElem?_getD, List.getElem?_eq_getElem (by omega : i < zs.length)]

/-- One number more of a row that is being filled. -/
theorem ifill_step (zs : List Int) (len k : Nat) (hl : zs.length = len) (hk : k < len) :
    ((zs.take k ++ List.replicate (len - k) 0).map (Value.int .i64)).set k (.int .i64 (zs.getD k 0)) = (zs.take (k + 1) ++ List.replicate (len - (k + 1)) 0).map (Value.int .i64) := by
  rw [← List.map_set]
  congr 1
  have e : len - k = (len - (k + 1)) + 1 := by omega
  have hk' : (zs.take k).length = k := by simp; omega
  rw [e, List.replicate_succ, List.set_append, if_neg (by omega), hk', Nat.sub_self, List.set_cons_zero]
  rw [List.take_succ_eq_append_getElem (by omega), List.getD_eq_getElem?_getD, List.getElem?_eq_getElem (by omega : k < zs.length), List.append_assoc]
  rfl

theorem IRow.own2 {w : World} {B n cap : Nat} {a : Option Addr} {e : TypeId} {zs : List Int} (h : w.ownsRow B e 1 (.slice a n cap) n (zs.map (Value.int .i64))) : IRow w a n zs := by
  rcases h.2 with ⟨h1, h2⟩ | ⟨g, cap', cur, h1, _⟩
  · simp only [Value.slice.injEq] at h1
    obtain ⟨rfl, rfl, rfl⟩ := h1
    have hl : zs.length = 0 := by simpa using h.1
    exact ⟨hl, trivial, fun _ => rfl, fun x hx => by cases hx⟩
  · simp only [Value.slice.injEq] at h1
    obtain ⟨rfl, _, rfl⟩ := h1
    exact IRow.own h

/-- The imarks k0, k0 + 1, .. that are written into n numbers. -/
def imarks (k0 : Int) (n : Nat) : List Int := (List.range n).map fun (i : Nat) => k0 + (i : Int)

theorem imarks_length (k0 : Int) (n : Nat) : (imarks k0 n).length = n := by simp [imarks]

theorem imarks_succ (k0 : Int) (n : Nat) : imarks k0 (n + 1) = imarks k0 n ++ [k0 + (n : Int)] := by simp [imarks, List.range_succ]

theorem imark_step (k0 : Int) (zs : List Int) (n k : Nat) (hl : zs.length = n) (hk : k < n) :
    ((imarks k0 k ++ zs.drop k).map (Value.int .i64)).set k (.int .i64 (k0 + (k : Int))) = (imarks k0 (k + 1) ++ zs.drop (k + 1)).map (Value.int .i64) := by
  rw [← List.map_set]
  congr 1
  rw [List.drop_eq_getElem_cons (by omega), List.set_append, if_neg (by rw [imarks_length]; omega), imarks_length, Nat.sub_self, List.set_cons_zero, imarks_succ, List.append_assoc]
  rfl

theorem imarks_at (k0 : Int) (n k : Nat) (h : k < n) : (imarks k0 n).getD k 0 = k0 + (k : Int) := by
  rw [getD_at _ _ (by rw [imarks_length]; exact h)]
  simp [imarks]

/-- What the shell's reading of an argument gives. -/
theorem irow_of {w : World} {a : Option Addr} {len cap : Nat} {zs : List Int}
    (h : (a = none ∧ len = 0 ∧ cap = 0 ∧ zs = []) ∨ ∃ x, a = some x ∧ len ≤ cap ∧ cap ≤ maxLen ∧ zs.length = cap ∧ (∀ i, i < zs.length → w.cell? (x.add i) = some (.int .i64 (zs.getD i 0))) ∧ ∀ n ∈ zs, (Lit.int .i64 n).wf = true) :
    IRow w a len (zs.take len) := by
  rcases h with ⟨rfl, rfl, rfl, rfl⟩ | ⟨x, rfl, hl, _, hz, hc, hw⟩
  · exact ⟨rfl, trivial, fun _ => rfl, fun x hx => by cases hx⟩
  · refine ⟨by simp; omega, trivial, fun e => (by cases e), fun y hy i hi => ?_⟩
    cases hy
    rw [hc i (by omega)]
    rw [getD_at _ i (by omega), getD_at _ i (by simp; omega), List.getElem_take]

end Go.Proofs.YtldiilmpmcbjkaaGreatDoor
