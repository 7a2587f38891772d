/- What is proved here: plain facts on byte slices in a world, used by the walks of this seat; they hold for every program. No condition beyond those written in each theorem. -/
import Derived.WalkKit
import Derived.Laws.OwnMore
import Derived.Laws.BytesArg
import Derived.OpenShut
import Derived.Test.YtihdmdbekdadlaaChecked
import Derived.WalkLawsBesides
import Derived.KernelRfl
import Derived.BigQuiet
import Derived.Deep.QuietTactic
import Derived.WalkSpells
import Derived.WalkSmall
import Derived.Laws.AppendOwnNone
import Derived.Lib.AppendZeros
namespace Go.Proofs.Ytihdmdbekdadlaa
open Go.RowKit
set_option linter.unusedVariables false
set_option maxRecDepth 100000

theorem hide {p : Prop} (h : p) : Hid p := h
theorem unhide {p : Prop} (h : Hid p) : p := h

/-- The slice 'a', of 'len' elements, reads as the bytes 'zs' in the world 'w'. -/
def BRow (w : World) (a : Option Addr) (len : Nat) (zs : List Int) : Prop :=
  zs.length = len ∧ (∀ n ∈ zs, 0 ≤ n ∧ n ≤ 255) ∧ (a = none → len = 0) ∧ ∀ x, a = some x → ∀ i, i < len → w.cell? (x.add i) = some (.int .u8 (zs.getD i 0))

theorem lt_of_cell {w : World} {p : Addr} {v : Value} (h : w.cell? p = some v) : p.block < w.heap.size := by
  unfold World.cell? at h
  rcases Nat.lt_or_ge p.block w.heap.size with g | g
  · exact g
  · have : w.heap[p.block]? = none := Array.getElem?_eq_none g
    simp [this] at h

theorem add_none (b off i : Nat) : (⟨b, off, none⟩ : Addr).add i = ⟨b, off + i, none⟩ := by
  unfold Addr.add
  split <;> simp_all

theorem BRow.at {w : World} {a : Option Addr} {len : Nat} {zs : List Int} (h : BRow w a len zs) (hp : 0 < len) :
    ∃ b off, a = some ⟨b, off, none⟩ ∧ b < w.heap.size ∧ ∀ i, i < len → w.cell? ⟨b, off + i, none⟩ = some (.int .u8 (zs.getD i 0)) := by
  obtain ⟨h1, h2, h3, h4⟩ := h
  match a, h3, h4 with
  | none, h3, _ => have := h3 rfl; omega
  | some x, _, h4 =>
    obtain ⟨b, off, spot⟩ := x
    have hc := h4 _ rfl 0 hp
    have hspot : spot = none := by simpa [Addr.add] using World.cell?_spot hc
    subst hspot
    refine ⟨b, off, rfl, lt_of_cell (p := _) hc, fun i hi => ?_⟩
    have := h4 _ rfl i hi
    rwa [add_none] at this

theorem BRow.below {w w' : World} {a : Option Addr} {len : Nat} {zs : List Int} (h : BRow w a len zs) {B : Nat} (hb : Below B w w') (hB : w.heap.size ≤ B) : BRow w' a len zs := by
  refine ⟨h.1, h.2.1, h.2.2.1, fun x hx i hi => ?_⟩
  have hc := h.2.2.2 x hx i hi
  rw [hb.cell (Nat.lt_of_lt_of_le (lt_of_cell hc) hB)]
  exact hc

/-- What the call owns reads as bytes. -/
theorem BRow.own {w : World} {B g cap n : Nat} {e : TypeId} {zs : List Int} (h : w.ownsRow B e 1 (.slice (some ⟨g, 0, none⟩) n cap) n (zs.map (Value.int .u8))) (hz : ∀ x ∈ zs, 0 ≤ x ∧ x ≤ 255) :
    BRow w (some ⟨g, 0, none⟩) n zs := by
  have hl : zs.length = n := by simpa using h.1
  refine ⟨hl, hz, fun e => (by cases e), fun x hx i hi => ?_⟩
  cases hx
  have := h.cellAt i (by omega)
  rw [add_none, Nat.zero_add, this]
  simp [List.getElem?_map, List.getD_eq_getElem?_getD, List.getElem?_eq_getElem (by omega : i < zs.length)]

/-- One byte more of a row that is being filled. -/
theorem fill_step (zs : List Int) (len k : Nat) (hl : zs.length = len) (hk : k < len) :
    ((zs.take k ++ List.replicate (len - k) 0).map (Value.int .u8)).set k (.int .u8 (zs.getD k 0)) = (zs.take (k + 1) ++ List.replicate (len - (k + 1)) 0).map (Value.int .u8) := by
  rw [← List.map_set]
  congr 1
  have e : len - k = (len - (k + 1)) + 1 := by omega
  have hk' : (zs.take k).length = k := by simp; omega
  rw [e, List.replicate_succ, List.set_append, if_neg (by omega), hk', Nat.sub_self, List.set_cons_zero]
  rw [List.take_succ_eq_append_getElem (by omega), List.getD_eq_getElem?_getD, List.getElem?_eq_getElem (by omega : k < zs.length), List.append_assoc]
  rfl

theorem ret_tup {a b : Int} {c d : Bool} (h : a = b) (h2 : c = d) : Ending.returned (.tuple #[.int .i64 a, .bool c]) = .returned (.tuple #[.int .i64 b, .bool d]) := by rw [h, h2]
theorem ret_int {k : IntKind} {a b : Int} (h : a = b) : Ending.returned (.int k a) = .returned (.int k b) := by rw [h]
theorem ret_bool {a b : Bool} (h : a = b) : Ending.returned (.bool a) = .returned (.bool b) := by rw [h]

/-- Whether two lists of bytes are the same. -/
def sameB (xs ys : List Int) : Bool := xs == ys

theorem getD_at (xs : List Int) (k : Nat) (h : k < xs.length) : xs.getD k 0 = xs[k] := by
  rw [List.getD_eq_getElem?_getD, List.getElem?_eq_getElem h]; rfl

theorem take_same (xs ys : List Int) (k : Nat) (h1 : k < xs.length) (h2 : k < ys.length) (hp : xs.take k = ys.take k) (h : xs.getD k 0 = ys.getD k 0) : xs.take (k + 1) = ys.take (k + 1) := by
  rw [getD_at xs k h1, getD_at ys k h2] at h
  rw [List.take_succ_eq_append_getElem h1, List.take_succ_eq_append_getElem h2, hp, h]

theorem take_other (xs ys : List Int) (k : Nat) (h1 : k < xs.length) (h2 : k < ys.length) (h : xs.getD k 0 ≠ ys.getD k 0) : sameB xs ys = false := by
  unfold sameB
  rw [beq_eq_false_iff_ne]
  intro e
  subst e
  exact h rfl

theorem take_whole (xs ys : List Int) (k : Nat) (h1 : xs.length = k) (h2 : ys.length = k) (hp : xs.take k = ys.take k) : sameB xs ys = true := by
  unfold sameB
  rw [List.take_of_length_le (by omega), List.take_of_length_le (by omega)] at hp
  simp [hp]

/-- The marks k0, k0 + 1, .. that are written into n bytes. -/
def marks (k0 : Int) (n : Nat) : List Int := (List.range n).map fun (i : Nat) => (k0 + (i : Int)) % 256

theorem marks_length (k0 : Int) (n : Nat) : (marks k0 n).length = n := by simp [marks]

theorem marks_succ (k0 : Int) (n : Nat) : marks k0 (n + 1) = marks k0 n ++ [(k0 + (n : Int)) % 256] := by simp [marks, List.range_succ]

theorem mark_step (k0 : Int) (zs : List Int) (n k : Nat) (hl : zs.length = n) (hk : k < n) :
    ((marks k0 k ++ zs.drop k).map (Value.int .u8)).set k (.int .u8 ((k0 + (k : Int)) % 256)) = (marks k0 (k + 1) ++ zs.drop (k + 1)).map (Value.int .u8) := by
  rw [← List.map_set]
  congr 1
  rw [List.drop_eq_getElem_cons (by omega), List.set_append, if_neg (by rw [marks_length]; omega), marks_length, Nat.sub_self, List.set_cons_zero, marks_succ, List.append_assoc]
  rfl

theorem marks_range (k0 : Int) (n : Nat) : ∀ x ∈ marks k0 n, 0 ≤ x ∧ x ≤ 255 := by
  intro x hx
  obtain ⟨i, _, rfl⟩ := List.mem_map.1 hx
  omega

theorem marks_at (k0 : Int) (n k : Nat) (h : k < n) : (marks k0 n).getD k 0 = (k0 + (k : Int)) % 256 := by
  rw [getD_at _ _ (by rw [marks_length]; exact h)]
  simp [marks]

theorem grownBy_refl (w : World) (row : Option Nat) : w.grownBy w row := ⟨rfl, rfl, rfl, Nat.le_refl _, fun _ _ _ => rfl⟩

theorem grownBy_trans {a b c : World} {row : Option Nat} (h : a.grownBy b row) (k : b.grownBy c row) : a.grownBy c row :=
  ⟨k.os.trans h.os, k.tape.trans h.tape, k.output.trans h.output, Nat.le_trans h.size k.size, fun i hi hne => (k.block i (Nat.lt_of_lt_of_le hi h.size) hne).trans (h.block i hi hne)⟩

theorem ownsRow_base {w : World} {B B' : Nat} {e : TypeId} {size n : Nat} {v : Value} {xs : List Value} (h : w.ownsRow B e size v n xs) (hB : B' ≤ B) : w.ownsRow B' e size v n xs := by
  refine ⟨h.1, ?_⟩
  rcases h.2 with h' | ⟨g, cap, cur, h1, h2, h3⟩
  · exact .inl h'
  · exact .inr ⟨g, cap, cur, h1, Nat.le_trans hB h2, h3⟩

theorem own_shape {w : World} {B : Nat} {e : TypeId} {size n : Nat} {v : Value} {xs : List Value} (h : w.ownsRow B e size v n xs) : ∃ a cap, v = .slice a n cap := by
  rcases h.2 with ⟨h1, h2⟩ | ⟨g, cap, cur, h1, _⟩
  · exact ⟨none, 0, by rw [h1, h2]⟩
  · exact ⟨_, cap, h1⟩

theorem BRow.own2 {w : World} {B n cap : Nat} {a : Option Addr} {e : TypeId} {zs : List Int} (h : w.ownsRow B e 1 (.slice a n cap) n (zs.map (Value.int .u8))) (hz : ∀ x ∈ zs, 0 ≤ x ∧ x ≤ 255) : BRow w a n zs := by
  rcases h.2 with ⟨h1, h2⟩ | ⟨g, cap', cur, h1, _⟩
  · simp only [Value.slice.injEq] at h1
    obtain ⟨rfl, rfl, rfl⟩ := h1
    have hl : zs.length = 0 := by simpa using h.1
    exact ⟨hl, hz, fun _ => rfl, fun x hx => by cases hx⟩
  · simp only [Value.slice.injEq] at h1
    obtain ⟨rfl, _, rfl⟩ := h1
    exact BRow.own h hz

theorem own_below {w w' : World} {B C : Nat} {e : TypeId} {size n : Nat} {v : Value} {xs : List Value} (h : w.ownsRow B e size v n xs) (hb : Below C w w') (hC : w.heap.size ≤ C) : w'.ownsRow B e size v n xs := by
  refine ⟨h.1, ?_⟩
  rcases h.2 with h' | ⟨g, cap, cur, h1, h2, h3, h4⟩
  · exact .inl h'
  · refine .inr ⟨g, cap, cur, h1, h2, ?_, h4⟩
    rw [hb.block g (Nat.lt_of_lt_of_le (lt_of_block h3) hC)]
    exact h3

theorem below_alloc (w : World) (o : Obj) : Below w.heap.size w (w.alloc o) := (Below.refl _ _).alloc (Nat.le_refl _) o

theorem new2 (w : World) (x y : Value) (t : TypeId) : Below w.heap.size w (w.alloc (Obj.cells #[x, y] t)) ∧ w.heap.size < (w.alloc (Obj.cells #[x, y] t)).heap.size ∧
    (w.alloc (Obj.cells #[x, y] t)).cell? ⟨w.heap.size, 0, none⟩ = some x ∧ (w.alloc (Obj.cells #[x, y] t)).cell? ⟨w.heap.size, 1, none⟩ = some y :=
  ⟨below_alloc w _, by simp, by simp, by simp⟩

theorem res_facts {w : World} {b : Nat} {x y : Value} {t : TypeId} (h : w.heap[b]? = some (.cells #[x, y] t (0, 0))) :
    w.cell? ⟨b, 0, none⟩ = some x ∧ w.cell? ⟨b, 1, none⟩ = some y ∧ w.frozen? ⟨b, 0, none⟩ = false ∧ w.frozen? ⟨b, 1, none⟩ = false :=
  ⟨by simp [World.cell?, h], by simp [World.cell?, h], frozen_of_row w b 0 _ t h, frozen_of_row w b 1 _ t h⟩

theorem own_some {w : World} {B : Nat} {e : TypeId} {size n : Nat} {v : Value} {xs : List Value} (h : w.ownsRow B e size v n xs) (hn : 0 < n) : ∃ g cap, v = .slice (some ⟨g, 0, none⟩) n cap := by
  rcases h.2 with ⟨h1, h2⟩ | ⟨g, cap, cur, h1, _⟩
  · omega
  · exact ⟨g, cap, h1⟩

/-- The length of a slice value, for a loop's measure. -/
def lenOf : Value → Nat | .slice _ n _ => n | _ => 0

/-- A slice of bytes, made a string. -/
theorem conv_any {P : Program} (w : World) (src e dst : TypeId) (hs : P.underlying src = some (.slice e)) (he : P.underlying e = some (.int .u8)) (hd : P.underlying dst = some .string)
    (a : Option Addr) (len cap : Nat) (xs : List Int) (h : BRow w a len xs) : (convert src dst (.slice a len cap)).run P w = .ok (.string (strOfNums xs)) w := by
  rcases Nat.eq_zero_or_pos len with h0 | hp
  · subst h0
    have hx : xs = [] := List.length_eq_zero_iff.1 h.1
    subst hx
    cases a with
    | none => exact run_convert_bytes_nil w src e hs he 0 cap dst hd
    | some x =>
      rw [run_convert_bytes_string w src dst e _ 0 cap hs he hd]
      exact run_bytesToString w x 0 cap [] (by simp [loadCells, loadCellsFrom])
  · obtain ⟨b, off, rfl, _, hc⟩ := h.at hp
    exact run_convert_bytes_arg w src e hs he b off len cap xs h.1 hc dst hd

/-- Whether two lists of bytes are the same as strings. -/
def strEq (xs ys : List Int) : Bool := (strOfNums xs).toList == (strOfNums ys).toList

/-- What the shell's reading of an argument gives. -/
theorem brow_of {w : World} {a : Option Addr} {len cap : Nat} {zs : List Int}
    (h : (a = none ∧ len = 0 ∧ cap = 0 ∧ zs = []) ∨ ∃ x, a = some x ∧ len ≤ cap ∧ cap ≤ maxLen ∧ zs.length = cap ∧ (∀ i, i < zs.length → w.cell? (x.add i) = some (.int .u8 (zs.getD i 0))) ∧ ∀ n ∈ zs, (Lit.int .u8 n).wf = true) :
    BRow w a len (zs.take len) := by
  rcases h with ⟨rfl, rfl, rfl, rfl⟩ | ⟨x, rfl, hl, _, hz, hc, hw⟩
  · exact ⟨rfl, fun n hn => by simp at hn, fun _ => rfl, fun x hx => by cases hx⟩
  · refine ⟨by simp; omega, fun n hn => ?_, fun e => (by cases e), fun y hy i hi => ?_⟩
    · have := hw n (List.mem_of_mem_take hn)
      have b := Go.bounds_u8 this
      omega
    · cases hy
      rw [hc i (by omega)]
      rw [getD_at _ i (by omega), getD_at _ i (by simp; omega), List.getElem_take]

end Go.Proofs.Ytihdmdbekdadlaa

/- What is proved here: closed facts of the program's table of types. -/
namespace Go.Proofs.Ytihdmdbekdadlaa
open Go.RowKit
set_option linter.unusedVariables false
set_option maxRecDepth 100000

theorem info5 : (Try.prog.info? 5).map (fun i => (i.zero, i.size, i.bytes)) = some (some (.int .u8 0), 1, 1) := by kernel_rfl

end Go.Proofs.Ytihdmdbekdadlaa

/- What is proved here: the contracts of the laws' helper functions on byte slices (toByteS, eqByteS), for slices of at most 2^20 bytes. -/
namespace Go.Proofs.Ytihdmdbekdadlaa
open Go.RowKit
set_option linter.unusedVariables false
set_option maxRecDepth 100000

set_option maxHeartbeats 400000 in
theorem toByteS_any (a : Option Addr) (len cap : Nat) (zs : List Int) (w : World) (h : BRow w a len zs) (hl : len ≤ 1048576) :
    Calls Try.prog 27 #[.slice a len cap] w fun e w' => e = .returned (.slice (some ⟨w.heap.size, 0, none⟩) len len) ∧
      w'.ownsRow w.heap.size 5 1 (.slice (some ⟨w.heap.size, 0, none⟩) len len) len (zs.map (Value.int .u8)) ∧ Below w.heap.size w w' := by
  obtain ⟨i0, hi, hz0, hz1, hz2⟩ := info_parts info5
  rcases Nat.eq_zero_or_pos len with h0 | hp
  · subst h0
    have hzs : zs = [] := List.length_eq_zero_iff.1 h.1
    subst hzs
    clear h hl
    go_enter Try.func27, Try.ntmps27
    go_wp2_with (at_make; refine wpList_make_full _ rfl _ _ 22 rfl w.heap.size 5 i0 (.int .u8 0) 1 Try.underlying22 hi hz0 hz1 _ _ _ _ 0 rfl rfl rfl rfl ?c1 ?c2 ?c3 ?_)
    case c1 => omega
    case c2 => unfold maxLen; omega
    case c3 => omega
    intro w1 hown hgrow
    go_wp2
    refine wp_loop_rounds 1 ?_
    rw [rounds_succ]
    go_wp2
    go_ret
    exact ⟨rfl, by simpa [toList_madeCells_one] using hown, (Below.refl _ _).grown hgrow (Nat.le_refl _) (fun k e => by cases e)⟩
  · obtain ⟨b, off, rfl, hb, hc⟩ := h.at hp
    have hzl := h.1
    clear h
    go_enter Try.func27, Try.ntmps27
    go_wp2_with (at_make; refine wpList_make_full _ rfl _ _ 22 rfl w.heap.size 5 i0 (.int .u8 0) 1 Try.underlying22 hi hz0 hz1 _ _ _ _ len rfl rfl rfl rfl ?c1 ?c2 ?c3 ?_)
    case c1 => rw [hz2]; omega
    case c2 => unfold maxLen; omega
    case c3 => omega
    intro w1 hown hgrow
    have hown0 : w1.ownsRow w.heap.size 5 1 (.slice (some ⟨w.heap.size, 0, none⟩) len len) len ((zs.take 0 ++ List.replicate (len - 0) 0).map (Value.int .u8)) := by
      have e : (madeCells #[Value.int .u8 0] len).toList = (zs.take 0 ++ List.replicate (len - 0) 0).map (Value.int .u8) := by
        rw [toList_madeCells_one]; simp
      rw [← e]; exact hown
    have hbel : Below w.heap.size w w1 := (Below.refl _ _).grown hgrow (Nat.le_refl _) (fun k e => by cases e)
    clear hown hgrow
    go_wp2
    go_loopw [4] (fun i wr => ∃ k : Nat, k ≤ len ∧ i = .int .i64 k ∧ wr.ownsRow w.heap.size 5 1 (.slice (some ⟨w.heap.size, 0, none⟩) len len) len ((zs.take k ++ List.replicate (len - k) 0).map (Value.int .u8)) ∧ Below w.heap.size w wr)
      (fun i _ => len - (intOf i).toNat)
    case atStart => exact ⟨0, Nat.zero_le _, rfl, hown0, hbel⟩
    case round =>
      obtain ⟨k, hk, rfl, hown, hbr⟩ := hrel
      clear hown0 hbel
      by_cases hlt : k < len
      · have hst := fill_step zs len k hzl hlt
        have hcx : wr.cell? ⟨b, off + k, none⟩ = some (.int .u8 (zs.getD k 0)) := (hbr.cell (by exact hb)).trans (hc k hlt)
        generalize zs.getD k 0 = z at hcx hst
        have hfz := hown.frozenAt k
        obtain ⟨u, hu⟩ : ∃ u, wr.cell? ⟨w.heap.size, k, none⟩ = some u := by
          rw [hown.cellAt k (by omega)]
          exact ⟨_, List.getElem?_eq_getElem (by rw [hown.1]; omega)⟩
        have R := hown.stored k (.int .u8 z)
        rw [hst] at R
        have HR := R.1
        have HB : Below w.heap.size w (wr.setCell ⟨w.heap.size, k, none⟩ (.int .u8 z)) := hbr.setCell (Nat.le_refl _) _
        clear R hown hst
        go_wp2
        go_roundw
        case rel => exact ⟨k + 1, by omega, by go_num, HR, HB⟩
        case measure => simp [intOf]; omega
      · obtain rfl : k = len := by omega
        go_wp2
        go_ret
        refine ⟨rfl, ?_, hbr⟩
        simpa [← hzl] using hown


set_option maxHeartbeats 400000 in
theorem eqByteS_any (a b : Option Addr) (la ca lb cb : Nat) (xs ys : List Int) (w : World) (ha : BRow w a la xs) (hb : BRow w b lb ys) (hl : la ≤ 1048576) (hl2 : lb ≤ 1048576) :
    Calls Try.prog 29 #[.slice a la ca, .slice b lb cb] w fun e w' => e = .returned (.bool (sameB xs ys)) ∧ ∃ n, w' = w.drewN n := by
  have hxl := ha.1
  have hyl := hb.1
  by_cases hne : la = lb
  · subst hne
    have hlen : (((la : Nat) : Int) != ((la : Nat) : Int)) = false := by simp
    rcases Nat.eq_zero_or_pos la with h0 | hp
    · subst h0
      have hx : xs = [] := List.length_eq_zero_iff.1 hxl
      have hy : ys = [] := List.length_eq_zero_iff.1 hyl
      subst hx hy
      clear ha hb
      go_enter Try.func29, Try.ntmps29
      go_wp2
      refine wp_loop_rounds 1 ?_
      rw [rounds_succ]
      go_wp2
      go_ret
      exact ⟨rfl, 0, rfl⟩
    · obtain ⟨ba, oa, rfl, hba, hca⟩ := ha.at hp
      obtain ⟨bb, ob, rfl, hbb, hcb⟩ := hb.at hp
      have HCA := hide hca
      have HCB := hide hcb
      clear ha hb hca hcb
      go_enter Try.func29, Try.ntmps29
      go_wp2
      go_loopw [5] (fun i wr => ∃ k n : Nat, k ≤ la ∧ i = .int .i64 k ∧ xs.take k = ys.take k ∧ wr = w.drewN n)
        (fun i _ => la - (intOf i).toNat)
      case atStart => exact ⟨0, 0, Nat.zero_le _, rfl, rfl, rfl⟩
      case round =>
        obtain ⟨k, n, hk, rfl, hpre, rfl⟩ := hrel
        by_cases hlt : k < la
        · have h1 : w.cell? ⟨ba, oa + k, none⟩ = some (.int .u8 (xs.getD k 0)) := (unhide HCA) k hlt
          have h2 : w.cell? ⟨bb, ob + k, none⟩ = some (.int .u8 (ys.getD k 0)) := (unhide HCB) k hlt
          have Hs := take_same xs ys k (by omega) (by omega) hpre
          have Hd := take_other xs ys k (by omega) (by omega)
          generalize xs.getD k 0 = x at h1 Hs Hd
          generalize ys.getD k 0 = y at h2 Hs Hd
          have HS := hide Hs
          have HD := hide Hd
          have HP := hide hpre
          have i1 : (0 : Int) ≤ (k : Int) := by omega
          have i2 : (k : Int) < (la : Int) := by omega
          clear Hs Hd hpre hxl hyl
          by_cases hxy : x = y
          · subst hxy
            have HT := hide ((unhide HS) rfl)
            clear HS HD HP
            have ht : (x != x) = false := by simp
            go_wp2
            go_quiet (fail)
            go_wp2
            go_roundw
            case rel => exact ⟨k + 1, _, by omega, by go_num, unhide HT, rfl⟩
            case measure => simp [intOf]; omega
          · have ht : (x != y) = true := by simp [hxy]
            go_wp2
            go_quiet (fail)
            go_wp2
            go_ret
            exact ⟨ret_bool ((unhide HD) hxy).symm, _, World.drewN_drewN ..⟩
        · obtain rfl : k = la := by omega
          have e := take_whole xs ys k hxl hyl hpre
          have HE := hide e
          clear e hpre hxl hyl
          go_wp2
          go_ret
          exact ⟨ret_bool (unhide HE).symm, n, rfl⟩
  · have hlen : (((la : Nat) : Int) != ((lb : Nat) : Int)) = true := by simp; omega
    have e : sameB xs ys = false := by
      unfold sameB
      rw [beq_eq_false_iff_ne]
      intro e; rw [e] at hxl; omega
    have HE := hide e
    clear e
    go_enter Try.func29, Try.ntmps29
    go_wp2
    go_ret
    exact ⟨ret_bool (unhide HE).symm, 0, rfl⟩

end Go.Proofs.Ytihdmdbekdadlaa

/- What is proved here: the contracts of the laws' helper functions that write marks into an answer's bytes and look for them later (markByteS, heldByteS and those over BytesResult), for slices that the call itself made. -/
namespace Go.Proofs.Ytihdmdbekdadlaa
open Go.RowKit
set_option linter.unusedVariables false
set_option maxRecDepth 100000

set_option maxHeartbeats 1000000 in
theorem markByteS_any (B g n cap : Nat) (zs : List Int) (k0 : Int) (w : World) (h : w.ownsRow B 5 1 (.slice (some ⟨g, 0, none⟩) n cap) n (zs.map (Value.int .u8))) (hn : n ≤ 2097152) (hk0 : 0 ≤ k0) (hk1 : k0 ≤ 1099511627776) :
    Calls Try.prog 30 #[.slice (some ⟨g, 0, none⟩) n cap, .int .i64 k0] w fun e w' => e = .returned (.int .i64 (k0 + n)) ∧
      w'.ownsRow B 5 1 (.slice (some ⟨g, 0, none⟩) n cap) n ((marks k0 n).map (Value.int .u8)) ∧ w.grownBy w' (some g) := by
  have hzl : zs.length = n := by simpa using h.1
  go_enter Try.func30, Try.ntmps30
  go_wp2
  go_loopw [1, 5] (fun q i wr => ∃ k : Nat, k ≤ n ∧ i = .int .i64 k ∧ q = .int .i64 (k0 + k) ∧ wr.ownsRow B 5 1 (.slice (some ⟨g, 0, none⟩) n cap) n ((marks k0 k ++ zs.drop k).map (Value.int .u8)) ∧ w.grownBy wr (some g))
    (fun _ i _ => n - (intOf i).toNat)
  case atStart => exact ⟨0, Nat.zero_le _, rfl, by simp, by simpa [marks] using h, grownBy_refl w _⟩
  case round =>
    obtain ⟨k, hk, rfl, rfl, hown, hgr⟩ := hrel
    by_cases hlt : k < n
    · have hfz := hown.frozenAt k
      obtain ⟨u, hu⟩ : ∃ u, wr.cell? ⟨g, k, none⟩ = some u := by
        rw [hown.cellAt k (by omega)]
        exact ⟨_, List.getElem?_eq_getElem (by rw [hown.1]; omega)⟩
      have R := hown.stored k (.int .u8 ((k0 + k) % 256))
      rw [mark_step k0 zs n k hzl hlt] at R
      have HR := R.1
      have HG := grownBy_trans hgr R.2
      clear R hown
      go_wp2
      go_roundw
      case rel => exact ⟨k + 1, by omega, by go_num, by go_num, HR, HG⟩
      case measure => simp [intOf]; omega
    · obtain rfl : k = n := by omega
      rw [List.drop_eq_nil_of_le (by omega), List.append_nil] at hown
      go_wp2
      go_ret
      exact ⟨rfl, hown, hgr⟩

set_option maxHeartbeats 1000000 in
theorem markByteS_nil (k0 : Int) (w : World) :
    Calls Try.prog 30 #[.slice none 0 0, .int .i64 k0] w fun e w' => e = .returned (.int .i64 k0) ∧ w' = w := by
  go_enter Try.func30, Try.ntmps30
  go_wp2
  refine wp_loop_rounds 1 ?_
  rw [rounds_succ]
  go_wp2
  go_ret
  exact ⟨rfl, rfl⟩

theorem markByteS_own (B n cap : Nat) (a : Option Addr) (zs : List Int) (k0 : Int) (w : World) (h : w.ownsRow B 5 1 (.slice a n cap) n (zs.map (Value.int .u8))) (hn : n ≤ 2097152) (hk0 : 0 ≤ k0) (hk1 : k0 ≤ 1099511627776) :
    Calls Try.prog 30 #[.slice a n cap, .int .i64 k0] w fun e w' => e = .returned (.int .i64 (k0 + n)) ∧
      w'.ownsRow B 5 1 (.slice a n cap) n ((marks k0 n).map (Value.int .u8)) ∧ w.grownBy w' (Value.slice a n cap).ownBlock := by
  rcases h.2 with ⟨h', h0⟩ | ⟨g, cap', cur, h', _⟩
  · simp only [Value.slice.injEq] at h'
    obtain ⟨rfl, rfl, rfl⟩ := h'
    refine (markByteS_nil k0 w).mono fun e w' hq => ?_
    obtain ⟨rfl, rfl⟩ := hq
    exact ⟨by simp, World.ownsRow_nil _ _ _ _, grownBy_refl _ _⟩
  · simp only [Value.slice.injEq] at h'
    obtain ⟨rfl, _, rfl⟩ := h'
    exact markByteS_any B g n cap zs k0 w h hn hk0 hk1

set_option maxHeartbeats 1000000 in
theorem heldByteS_any (n cap : Nat) (a : Option Addr) (k0 : Int) (w : World) (h : BRow w a n (marks k0 n)) (hn : n ≤ 2097152) (hk0 : 0 ≤ k0) (hk1 : k0 ≤ 1099511627776) :
    Calls Try.prog 54 #[.slice a n cap, .int .i64 k0] w fun e w' => e = .returned (.int .i64 (k0 + n)) ∧ w' = w := by
  rcases Nat.eq_zero_or_pos n with h0 | hp
  · subst h0
    clear h
    go_enter Try.func54, Try.ntmps54
    go_wp2
    refine wp_loop_rounds 1 ?_
    rw [rounds_succ]
    go_wp2
    go_ret
    exact ⟨ret_int (by simp), rfl⟩
  · obtain ⟨b, off, rfl, hb, hc⟩ := h.at hp
    have HC := hide hc
    clear h hc
    go_enter Try.func54, Try.ntmps54
    go_wp2
    go_loop [1, 5] (fun q i => ∃ k : Nat, k ≤ n ∧ i = .int .i64 k ∧ q = .int .i64 (k0 + k)) (fun _ i => n - (intOf i).toNat)
    case atStart => exact ⟨0, Nat.zero_le _, rfl, by simp⟩
    case round =>
      obtain ⟨k, hk, rfl, rfl⟩ := hrel
      by_cases hlt : k < n
      · have hck := (unhide HC) k hlt
        rw [marks_at k0 n k hlt] at hck
        have hne : ((k0 + (k : Int)) % 256 != (k0 + (k : Int)) % 256) = false := by simp
        go_wp2
        go_round
        case rel => exact ⟨k + 1, by omega, by go_num, by go_num⟩
        case measure => simp [intOf]; omega
      · obtain rfl : k = n := by omega
        go_wp2
        go_ret
        exact ⟨rfl, rfl⟩

set_option maxHeartbeats 1000000 in
theorem markBytesResult_own (B n cap : Nat) (c : Int) (a : Option Addr) (zs : List Int) (k0 : Int) (w : World) (h : w.ownsRow B 5 1 (.slice a n cap) n (zs.map (Value.int .u8))) (hn : n ≤ 2097152) (hk0 : 0 ≤ k0) (hk1 : k0 ≤ 1099511627776) :
    Calls Try.prog 25 #[.agg #[.int .i64 c, .slice a n cap], .int .i64 k0] w fun e w' => e = .returned (.int .i64 (k0 + n)) ∧
      w'.ownsRow B 5 1 (.slice a n cap) n ((marks k0 n).map (Value.int .u8)) ∧ w.grownBy w' (Value.slice a n cap).ownBlock := by
  go_enter Try.func25, Try.ntmps25
  go_wp2_with fail
  refine (markByteS_own B n cap a zs k0 _ (h.alloc _) hn hk0 hk1).mono ?_
  rintro e w1 ⟨rfl, o1, g1⟩
  go_wp2_with fail
  go_ret
  exact ⟨rfl, o1, grownBy_trans (World.grownBy_alloc w _ _) g1⟩

set_option maxHeartbeats 1000000 in
theorem heldBytesResult_any (n cap : Nat) (c : Int) (a : Option Addr) (k0 : Int) (w : World) (h : BRow w a n (marks k0 n)) (hn : n ≤ 2097152) (hk0 : 0 ≤ k0) (hk1 : k0 ≤ 1099511627776) :
    Calls Try.prog 26 #[.agg #[.int .i64 c, .slice a n cap], .int .i64 k0] w fun e w' => e = .returned (.int .i64 (k0 + n)) ∧ Below w.heap.size w w' := by
  have hb : ∀ o, Below w.heap.size w (w.alloc o) := fun o => (Below.refl _ _).alloc (Nat.le_refl _) o
  go_enter Try.func26, Try.ntmps26
  go_wp2_with fail
  refine (heldByteS_any n cap a k0 _ (h.below (hb _) (Nat.le_refl _)) hn hk0 hk1).mono ?_
  rintro e w1 ⟨rfl, rfl⟩
  go_wp2_with fail
  go_ret
  exact ⟨rfl, hb _⟩

set_option maxHeartbeats 1000000 in
theorem eqBytes_same (c : Int) (a b : Option Addr) (n ca cb : Nat) (xs : List Int) (w : World) (ha : BRow w a n xs) (hb : BRow w b n xs) (hn : n ≤ 1048576) :
    Calls Try.prog 22 #[.agg #[.int .i64 c, .slice a n ca], .agg #[.int .i64 c, .slice b n cb]] w fun e w' => e = .returned (.bool true) ∧ Below w.heap.size w w' := by
  have h1 : (c != c) = false := by simp
  have sx : sameB xs xs = true := by simp [sameB]
  have hbel : ∀ o p, Below w.heap.size w ((w.alloc o).alloc p) := fun o p => ((Below.refl _ _).alloc (Nat.le_refl _) o).alloc (by simp) p
  go_enter Try.func22, Try.ntmps22
  go_wp2_with fail
  refine (eqByteS_any _ _ _ _ _ _ xs xs _ (ha.below (hbel _ _) (Nat.le_refl _)) (hb.below (hbel _ _) (Nat.le_refl _)) hn hn).mono ?_
  rintro e w1 ⟨rfl, n1, rfl⟩
  rw [sx]
  go_wp2_with fail
  go_ret
  exact ⟨rfl, below_drewN (hbel _ _) n1⟩

end Go.Proofs.Ytihdmdbekdadlaa

/- What is proved here: a row that the call owns stays when another block is written; it holds for every program. -/
namespace Go.Proofs.Ytihdmdbekdadlaa
open Go.RowKit
set_option linter.unusedVariables false
set_option maxRecDepth 100000

theorem own_grown {w w' : World} {B : Nat} {e : TypeId} {size n : Nat} {v : Value} {xs : List Value} {row : Option Nat} (h : w.ownsRow B e size v n xs) (hg : w.grownBy w' row) (hne : ∀ g, v.ownBlock = some g → some g ≠ row) : w'.ownsRow B e size v n xs := by
  refine ⟨h.1, ?_⟩
  rcases h.2 with h' | ⟨g, cap, cur, h1, h2, h3, h4⟩
  · exact .inl h'
  · refine .inr ⟨g, cap, cur, h1, h2, ?_, h4⟩
    rw [hg.block g (lt_of_block h3) (hne g (by rw [h1]; rfl))]
    exact h3

end Go.Proofs.Ytihdmdbekdadlaa

/- What is proved here: plain facts on slices of int64 in a world, used by the walks of this seat; they hold for every program. -/
namespace Go.Proofs.Ytihdmdbekdadlaa
open Go.RowKit
set_option linter.unusedVariables false
set_option maxRecDepth 100000

/-- The slice 'a', of 'len' elements, reads as the numbers 'zs' in the world 'w'. -/
def IRow (w : World) (a : Option Addr) (len : Nat) (zs : List Int) : Prop :=
  zs.length = len ∧ True ∧ (a = none → len = 0) ∧ ∀ x, a = some x → ∀ i, i < len → w.cell? (x.add i) = some (.int .i64 (zs.getD i 0))

theorem IRow.at {w : World} {a : Option Addr} {len : Nat} {zs : List Int} (h : IRow w a len zs) (hp : 0 < len) :
    ∃ b off, a = some ⟨b, off, none⟩ ∧ b < w.heap.size ∧ ∀ i, i < len → w.cell? ⟨b, off + i, none⟩ = some (.int .i64 (zs.getD i 0)) := by
  obtain ⟨h1, h2, h3, h4⟩ := h
  match a, h3, h4 with
  | none, h3, _ => have := h3 rfl; omega
  | some x, _, h4 =>
    obtain ⟨b, off, spot⟩ := x
    have hc := h4 _ rfl 0 hp
    have hspot : spot = none := by simpa [Addr.add] using World.cell?_spot hc
    subst hspot
    refine ⟨b, off, rfl, lt_of_cell (p := _) hc, fun i hi => ?_⟩
    have := h4 _ rfl i hi
    rwa [add_none] at this

theorem IRow.below {w w' : World} {a : Option Addr} {len : Nat} {zs : List Int} (h : IRow w a len zs) {B : Nat} (hb : Below B w w') (hB : w.heap.size ≤ B) : IRow w' a len zs := by
  refine ⟨h.1, h.2.1, h.2.2.1, fun x hx i hi => ?_⟩
  have hc := h.2.2.2 x hx i hi
  rw [hb.cell (Nat.lt_of_lt_of_le (lt_of_cell hc) hB)]
  exact hc

/-- What the call owns reads as numbers. -/
theorem IRow.own {w : World} {B g cap n : Nat} {e : TypeId} {zs : List Int} (h : w.ownsRow B e 1 (.slice (some ⟨g, 0, none⟩) n cap) n (zs.map (Value.int .i64))) :
    IRow w (some ⟨g, 0, none⟩) n zs := by
  have hl : zs.length = n := by simpa using h.1
  refine ⟨hl, trivial, fun e => (by cases e), fun x hx i hi => ?_⟩
  cases hx
  have := h.cellAt i (by omega)
  rw [add_none, Nat.zero_add, this]
  simp [List.getElem?_map, List.getD_eq_getElem?_getD, List.getElem?_eq_getElem (by omega : i < zs.length)]

/-- One number more of a row that is being filled. -/
theorem ifill_step (zs : List Int) (len k : Nat) (hl : zs.length = len) (hk : k < len) :
    ((zs.take k ++ List.replicate (len - k) 0).map (Value.int .i64)).set k (.int .i64 (zs.getD k 0)) = (zs.take (k + 1) ++ List.replicate (len - (k + 1)) 0).map (Value.int .i64) := by
  rw [← List.map_set]
  congr 1
  have e : len - k = (len - (k + 1)) + 1 := by omega
  have hk' : (zs.take k).length = k := by simp; omega
  rw [e, List.replicate_succ, List.set_append, if_neg (by omega), hk', Nat.sub_self, List.set_cons_zero]
  rw [List.take_succ_eq_append_getElem (by omega), List.getD_eq_getElem?_getD, List.getElem?_eq_getElem (by omega : k < zs.length), List.append_assoc]
  rfl

theorem IRow.own2 {w : World} {B n cap : Nat} {a : Option Addr} {e : TypeId} {zs : List Int} (h : w.ownsRow B e 1 (.slice a n cap) n (zs.map (Value.int .i64))) : IRow w a n zs := by
  rcases h.2 with ⟨h1, h2⟩ | ⟨g, cap', cur, h1, _⟩
  · simp only [Value.slice.injEq] at h1
    obtain ⟨rfl, rfl, rfl⟩ := h1
    have hl : zs.length = 0 := by simpa using h.1
    exact ⟨hl, trivial, fun _ => rfl, fun x hx => by cases hx⟩
  · simp only [Value.slice.injEq] at h1
    obtain ⟨rfl, _, rfl⟩ := h1
    exact IRow.own h

/-- The imarks k0, k0 + 1, .. that are written into n numbers. -/
def imarks (k0 : Int) (n : Nat) : List Int := (List.range n).map fun (i : Nat) => k0 + (i : Int)

theorem imarks_length (k0 : Int) (n : Nat) : (imarks k0 n).length = n := by simp [imarks]

theorem imarks_succ (k0 : Int) (n : Nat) : imarks k0 (n + 1) = imarks k0 n ++ [k0 + (n : Int)] := by simp [imarks, List.range_succ]

theorem imark_step (k0 : Int) (zs : List Int) (n k : Nat) (hl : zs.length = n) (hk : k < n) :
    ((imarks k0 k ++ zs.drop k).map (Value.int .i64)).set k (.int .i64 (k0 + (k : Int))) = (imarks k0 (k + 1) ++ zs.drop (k + 1)).map (Value.int .i64) := by
  rw [← List.map_set]
  congr 1
  rw [List.drop_eq_getElem_cons (by omega), List.set_append, if_neg (by rw [imarks_length]; omega), imarks_length, Nat.sub_self, List.set_cons_zero, imarks_succ, List.append_assoc]
  rfl

theorem imarks_at (k0 : Int) (n k : Nat) (h : k < n) : (imarks k0 n).getD k 0 = k0 + (k : Int) := by
  rw [getD_at _ _ (by rw [imarks_length]; exact h)]
  simp [imarks]

/-- What the shell's reading of an argument gives. -/
theorem irow_of {w : World} {a : Option Addr} {len cap : Nat} {zs : List Int}
    (h : (a = none ∧ len = 0 ∧ cap = 0 ∧ zs = []) ∨ ∃ x, a = some x ∧ len ≤ cap ∧ cap ≤ maxLen ∧ zs.length = cap ∧ (∀ i, i < zs.length → w.cell? (x.add i) = some (.int .i64 (zs.getD i 0))) ∧ ∀ n ∈ zs, (Lit.int .i64 n).wf = true) :
    IRow w a len (zs.take len) := by
  rcases h with ⟨rfl, rfl, rfl, rfl⟩ | ⟨x, rfl, hl, _, hz, hc, hw⟩
  · exact ⟨rfl, trivial, fun _ => rfl, fun x hx => by cases hx⟩
  · refine ⟨by simp; omega, trivial, fun e => (by cases e), fun y hy i hi => ?_⟩
    cases hy
    rw [hc i (by omega)]
    rw [getD_at _ i (by omega), getD_at _ i (by simp; omega), List.getElem_take]

end Go.Proofs.Ytihdmdbekdadlaa

/- What is proved here: what the program says of the type int64. -/
namespace Go.Proofs.Ytihdmdbekdadlaa

theorem info2 : (Try.prog.info? 2).map (fun i => (i.zero, i.size, i.bytes)) = some (some (.int .i64 0), 1, 8) := by kernel_rfl

end Go.Proofs.Ytihdmdbekdadlaa

/- What is proved here: bytes appended to a row that the call owns, whatever slice they come from, told in one law for the walk; it holds for every program. -/
namespace Go.Proofs.Ytihdmdbekdadlaa
open Go.RowKit
set_option linter.unusedVariables false
set_option maxRecDepth 100000

theorem wpList_append_brow {P : Program} (w : World) {ops : Array Oper} {rest : List Oper} {o : Oper} {a : Act} {Q : Exit → Act → World → Prop} (hgd : o.guard = none) (s x : Operand) (t : TypeId)
    (ho : o.op = .call { callee := .builtin .append, args := #[s, x], argTypes := #[t, t] }) (base : Nat) (i : TypeInfo) (ht : P.underlying t = some (.slice 5)) (hi : P.info? 5 = some i) (hz : i.zero = some (.int .u8 0)) (hsize : i.size = 1) (hby : i.bytes = 1)
    (v : Value) (n : Nat) (xs : List Int) (hs : a.eval s = v) (hown : w.ownsRow base 5 1 v n (xs.map (Value.int .u8))) (ad : Option Addr) (m c : Nat) (zs : List Int) (hx : a.eval x = .slice ad m c) (hr : BRow w ad m zs) (hc : ad = none → c = 0)
    (h63 : n + m ≤ 1099511627776) (hbase : base ≤ w.heap.size)
    (h : ∀ a' c' w', w'.ownsRow base 5 1 (.slice a' (n + m) c') (n + m) ((xs ++ zs).map (Value.int .u8)) → w.grownBy w' v.ownBlock → wpList P ops Q rest (a.put o.dst (.slice a' (n + m) c')) w') : wpList P ops Q (o :: rest) a w := by
  cases ad with
  | none =>
    obtain rfl : m = 0 := hr.2.2.1 rfl
    obtain rfl : zs = [] := List.length_eq_zero_iff.1 hr.1
    obtain rfl : c = 0 := hc rfl
    refine wpList_append_own_none hgd s x t ho base 5 i 1 ht hi v n _ hs hown hx ?_
    obtain ⟨a', c', hv⟩ := own_shape hown
    have := h a' c' w (by rw [Nat.add_zero, List.append_nil, ← hv]; exact hown) (grownBy_refl w _)
    rw [Nat.add_zero, ← hv] at this
    exact this
  | some ad =>
    refine wpList_append_own w hgd s x t ho base 5 i (.int .u8 0) 1 1 ht hi hz hsize hby rfl (by decide) v n _ hs hown ad m c (zs.map (Value.int .u8)) hx (by simp [hr.1]) ?_ ?_ ?_ ?_ hbase ?_
    · intro j u hj
      have hjl : j < zs.length := by have := (List.getElem?_eq_some_iff.1 hj).1; simpa using this
      rw [hr.2.2.2 ad rfl j (by rw [← hr.1]; exact hjl)]
      rw [List.getElem?_map, List.getElem?_eq_getElem hjl] at hj
      rw [getD_at _ _ hjl]
      exact hj
    · intro u hu; obtain ⟨z, _, rfl⟩ := List.mem_map.1 hu; rfl
    · unfold maxLen; omega
    · omega
    · intro v' w' hown' hg _
      obtain ⟨a', c', hv⟩ := own_shape hown'
      rw [hv] at hown' ⊢
      exact h a' c' w' (by rw [List.map_append]; exact hown') hg

/-- What is owned is no bare nil of some room. -/
theorem own_cap {w : World} {B n cap : Nat} {a : Option Addr} {e : TypeId} {xs : List Value} {size : Nat} (h : w.ownsRow B e size (.slice a n cap) n xs) : a = none → cap = 0 := by
  intro ha
  rcases h.2 with ⟨h', _⟩ | ⟨g, cap', cur, h', _⟩
  · simp only [Value.slice.injEq] at h'; exact h'.2.2
  · simp only [Value.slice.injEq] at h'; rw [ha] at h'; simp at h'

end Go.Proofs.Ytihdmdbekdadlaa

/- What is proved here: what slices.Grow and slices.Concat answer at int64: room, and the numbers of two slices one behind the other; numbers appended to a row that the call owns. -/
namespace Go.Proofs.Ytihdmdbekdadlaa
open Go.RowKit
set_option linter.unusedVariables false
set_option maxRecDepth 100000

theorem i64_up (n : Int) (h0 : 0 ≤ n) (h1 : n ≤ 9223372036854775807) : IntKind.i64.wrap n = n := by rw [IntKind.wrap_i64]; omega

theorem wpList_append_irow {P : Program} (w : World) {ops : Array Oper} {rest : List Oper} {o : Oper} {a : Act} {Q : Exit → Act → World → Prop} (hgd : o.guard = none) (s x : Operand) (t : TypeId)
    (ho : o.op = .call { callee := .builtin .append, args := #[s, x], argTypes := #[t, t] }) (base : Nat) (i : TypeInfo) (ht : P.underlying t = some (.slice 2)) (hi : P.info? 2 = some i) (hz : i.zero = some (.int .i64 0)) (hsize : i.size = 1) (hby : i.bytes = 8)
    (v : Value) (n : Nat) (xs : List Int) (hs : a.eval s = v) (hown : w.ownsRow base 2 1 v n (xs.map (Value.int .i64))) (ad : Option Addr) (m c : Nat) (zs : List Int) (hx : a.eval x = .slice ad m c) (hr : IRow w ad m zs) (hc : ad = none → c = 0)
    (h63 : n + m ≤ 1048576) (hbase : base ≤ w.heap.size)
    (h : ∀ a' c' w', w'.ownsRow base 2 1 (.slice a' (n + m) c') (n + m) ((xs ++ zs).map (Value.int .i64)) → w.grownBy w' v.ownBlock → wpList P ops Q rest (a.put o.dst (.slice a' (n + m) c')) w') : wpList P ops Q (o :: rest) a w := by
  cases ad with
  | none =>
    obtain rfl : m = 0 := hr.2.2.1 rfl
    obtain rfl : zs = [] := List.length_eq_zero_iff.1 hr.1
    obtain rfl : c = 0 := hc rfl
    refine wpList_append_own_none hgd s x t ho base 2 i 1 ht hi v n _ hs hown hx ?_
    obtain ⟨a', c', hv⟩ := own_shape hown
    have := h a' c' w (by rw [Nat.add_zero, List.append_nil, ← hv]; exact hown) (grownBy_refl w _)
    rw [Nat.add_zero, ← hv] at this
    exact this
  | some ad =>
    refine wpList_append_own w hgd s x t ho base 2 i (.int .i64 0) 1 8 ht hi hz hsize hby rfl (by decide) v n _ hs hown ad m c (zs.map (Value.int .i64)) hx (by simp [hr.1]) ?_ ?_ ?_ ?_ hbase ?_
    · intro j u hj
      have hjl : j < zs.length := by have := (List.getElem?_eq_some_iff.1 hj).1; simpa using this
      rw [hr.2.2.2 ad rfl j (by rw [← hr.1]; exact hjl)]
      rw [List.getElem?_map, List.getElem?_eq_getElem hjl] at hj
      rw [getD_at _ _ hjl]
      exact hj
    · intro u hu; obtain ⟨z, _, rfl⟩ := List.mem_map.1 hu; rfl
    · unfold maxLen; omega
    · omega
    · intro v' w' hown' hg _
      obtain ⟨a', c', hv⟩ := own_shape hown'
      rw [hv] at hown' ⊢
      exact h a' c' w' (by rw [List.map_append]; exact hown') hg

set_option maxRecDepth 100000 in
set_option maxHeartbeats 1000000 in
theorem growI_any (n : Nat) (w : World) (hn : n ≤ 1048576) :
    Calls Try.prog 58 #[.slice none 0 0, .int .i64 n] w fun e w' => ∃ (a' : Option Addr) (cap' : Nat), e = .returned (.slice a' 0 cap') ∧ w'.ownsRow w.heap.size 2 1 (.slice a' 0 cap') 0 [] ∧ Below w.heap.size w w' := by
  obtain ⟨i0, hi, hz0, hz1, hz2⟩ := info_parts info2
  have q1 : decide ((n : Int) < 0) = false := decide_eq_false (by omega)
  by_cases h0 : n = 0
  · subst h0
    go_enter Try.func58, Try.ntmps58
    go_wp2_with fail
    go_ret
    exact ⟨none, 0, rfl, World.ownsRow_nil _ _ _ _, Below.refl _ _⟩
  · have q2 : decide ((n : Int) > 0) = true := decide_eq_true (by omega)
    have q3 : decide (0 < (n : Int)) = true := decide_eq_true (by omega)
    have q4 : decide (0 < n) = true := decide_eq_true (by omega)
    obtain ⟨C, W', hrun, hown, hbel⟩ : ∃ C W', (Builtin.append_ #[25, 3] 25 #[.slice none 0 0, .int .i64 n]).run Try.prog w = .ok (.slice (some ⟨w.heap.size, 0, none⟩) n C) W' ∧ W'.ownsRow w.heap.size 2 1 (.slice (some ⟨w.heap.size, 0, none⟩) 0 C) 0 [] ∧ Below w.heap.size w W' := by
      have hr := Lib.run_append_nil_zeros (P := Try.prog) w 25 3 25 2 i0 (.int .i64 0) .i64 .i64 Try.underlying25 Try.underlying3 hi hz0 n (by omega) (by omega) (by omega) (by rw [hz2]; omega)
      have hge := grownCap_ge w n 0 2
      have hle := grownCap_le_maxLen w n 0 2 (by unfold maxLen; omega)
      refine ⟨_, _, hr, ⟨rfl, .inr ⟨w.heap.size, _, _, rfl, Nat.le_refl _, heap_alloc_new w.drew _, Nat.zero_le _, hle, ?_, by simp⟩⟩, ?_⟩
      · rw [Array.size_append, size_zeroCells, size_zeroCells]
        simp [Value.cells]
        omega
      · exact (Below.refl _ _).drew.alloc (Nat.le_refl _) _
    have HR := hide hrun
    have HO := hide hown
    have HB := hide hbel
    clear hrun hown hbel
    go_enter Try.func58, Try.ntmps58
    go_wp2_with (at_builtin; refine Lib.wpList_append_run _ rfl _ _ 25 3 rfl _ _ rfl rfl _ _ (unhide HR) ?_)
    go_wp2_with fail
    go_ret
    exact ⟨_, C, by simp, unhide HO, unhide HB⟩

set_option maxRecDepth 100000 in
set_option maxHeartbeats 4000000 in
theorem concatI_any (b c : Nat) (s1 s2 : Option Addr) (n1 c1 n2 c2 : Nat) (z1 z2 : List Int) (w : World) (hb0 : w.cell? ⟨b, 0, none⟩ = some (.slice s1 n1 c1)) (hb1 : w.cell? ⟨b, 1, none⟩ = some (.slice s2 n2 c2))
    (h1 : IRow w s1 n1 z1) (h2 : IRow w s2 n2 z2) (hc1 : s1 = none → c1 = 0) (hc2 : s2 = none → c2 = 0) (hl1 : n1 ≤ 500000) (hl2 : n2 ≤ 500000) :
    Calls Try.prog 40 #[.slice (some ⟨b, 0, none⟩) 2 c] w fun e w' => ∃ a' c', e = .returned (.slice a' (n1 + n2) c') ∧
      w'.ownsRow w.heap.size 2 1 (.slice a' (n1 + n2) c') (n1 + n2) ((z1 ++ z2).map (Value.int .i64)) ∧ Below w.heap.size w w' := by
  obtain ⟨i0, hi, hz0, hz1, hz2⟩ := info_parts info2
  have HC := hide (growI_any (n1 + n2) w (by omega))
  have HK := hide (fun (W : World) (hb : Below w.heap.size w W) => And.intro ((hb.cell (lt_of_cell hb0)).trans hb0) (And.intro ((hb.cell (lt_of_cell hb1)).trans hb1) (And.intro (h1.below hb (Nat.le_refl _)) (h2.below hb (Nat.le_refl _)))))
  have k3 : decide ((n1 : Int) + (n2 : Int) < 0) = false := decide_eq_false (by omega)
  have k4 : decide ((n1 : Int) < 0) = false := decide_eq_false (by omega)
  clear h1 h2
  go_enter Try.func40, Try.ntmps40
  go_wp2_with fail
  refine wp_loop_rounds 3 ?_
  rw [rounds_succ]
  go_wp2_with fail
  rw [rounds_succ]
  go_wp2_with fail
  rw [rounds_succ]
  go_wp2_with fail
  refine (unhide HC).mono ?_
  rintro e w2 ⟨a2, c2', rfl, o2, b2⟩
  obtain ⟨g0, g1, r1, r2⟩ := (unhide HK) w2 b2
  have O2 : w2.ownsRow w.heap.size 2 1 (.slice a2 0 c2') 0 (([] : List Int).map (Value.int .i64)) := o2
  have HO2 := hide O2
  have HB2 := hide b2
  have HR1 := hide r1
  have b2s := b2.size
  clear o2 O2 b2 HC r1 r2
  go_wp2_with fail
  refine wp_loop_rounds 3 ?_
  rw [rounds_succ]
  go_wp2_with (at_builtin; refine wpList_append_irow _ rfl _ _ 25 rfl w.heap.size i0 Try.underlying25 hi hz0 hz1 hz2 _ 0 [] rfl (unhide HO2) s1 n1 c1 z1 rfl (unhide HR1) hc1 (by omega) b2s ?_)
  intro a3 c3 w3 o3 g3
  have B3 : Below w.heap.size w w3 := (unhide HB2).grown g3 (unhide HB2).size (fun g e => ((unhide HO2).lt g e).1)
  obtain ⟨g0', g1', r1', r2'⟩ := (unhide HK) w3 B3
  have HO3 := hide o3
  have HB3 := hide B3
  have HR2 := hide r2'
  have b3s := B3.size
  clear o3 B3 HO2 HB2 HR1 g3 r1' r2' g0 g1
  go_wp2_with fail
  rw [rounds_succ]
  go_wp2_with (at_builtin; refine wpList_append_irow _ rfl _ _ 25 rfl w.heap.size i0 Try.underlying25 hi hz0 hz1 hz2 _ n1 z1 rfl (unhide HO3) s2 n2 c2 z2 rfl (unhide HR2) hc2 (by omega) b3s ?_)
  intro a4 c4 w4 o4 g4
  have B4 : Below w.heap.size w w4 := (unhide HB3).grown g4 (unhide HB3).size (fun g e => ((unhide HO3).lt g e).1)
  have HO4 := hide o4
  have HB4 := hide B4
  clear o4 B4 HO3 HB3 HR2 g4 g0' g1' HK
  go_wp2_with fail
  rw [rounds_succ]
  go_wp2_with fail
  go_ret
  exact ⟨a4, c4, rfl, by rw [List.map_append]; exact unhide HO4, unhide HB4⟩

end Go.Proofs.Ytihdmdbekdadlaa

/- What is proved here: plain facts on half bytes: bytes as half bytes, half bytes as bytes, what a path is packed to and read back from; no program is named. -/
namespace Go.Proofs.Ytihdmdbekdadlaa
open Go.RowKit
set_option linter.unusedVariables false
set_option maxRecDepth 100000

/-- The half bytes of bytes. -/
def hbs : List Int → List Int
  | [] => []
  | b :: r => b / 16 :: b % 16 :: hbs r

/-- The bytes of half bytes. -/
def pkB : List Int → List Int
  | a :: b :: r => (16 * a + b) :: pkB r
  | _ => []

def isH (v : Int) : Bool := decide (0 ≤ v ∧ v ≤ 15)

/-- What an end adds to the first half byte. -/
def pmk (e : Bool) : Int := if e then 2 else 0

/-- What stands ahead of a path. -/
def phd (n : Nat) (e : Bool) : List Int := if n % 2 = 0 then [pmk e, 0] else [pmk e + 1]

def ppCode (p : List Int) : Int := if 20 < p.length then 2 else if p.all isH then 0 else 3
def ppB (p : List Int) (e : Bool) : List Int := if ppCode p = 0 then pkB (phd p.length e ++ p) else []

theorem hbs_length : ∀ l : List Int, (hbs l).length = 2 * l.length
  | [] => rfl
  | b :: r => by simp [hbs, hbs_length r]; omega

theorem hbs_append : ∀ l m : List Int, hbs (l ++ m) = hbs l ++ hbs m
  | [], m => rfl
  | b :: r, m => by simp [hbs, hbs_append r m]

theorem hbs_snoc (l : List Int) (k : Nat) (h : k < l.length) : hbs (l.take (k + 1)) = hbs (l.take k) ++ [l.getD k 0 / 16, l.getD k 0 % 16] := by
  rw [List.take_succ_eq_append_getElem h, hbs_append, getD_at _ _ h]
  rfl

theorem pkB_length : ∀ l : List Int, (pkB l).length = l.length / 2
  | [] => rfl
  | [a] => by simp [pkB]
  | a :: b :: r => by simp only [pkB, List.length_cons, pkB_length r]; omega

theorem pkB_at : ∀ (l : List Int) (k : Nat), 2 * k + 1 < l.length → (pkB l).getD k 0 = 16 * l.getD (2 * k) 0 + l.getD (2 * k + 1) 0
  | [], k, h => by simp at h
  | [a], k, h => by simp at h
  | a :: b :: r, 0, h => by simp [pkB]
  | a :: b :: r, k + 1, h => by
    have := pkB_at r k (by simp at h; omega)
    rw [show 2 * (k + 1) = (2 * k + 1) + 1 by omega]
    simpa [pkB] using this

theorem pkB_snoc (l : List Int) (k : Nat) (h : 2 * k + 1 < l.length) : (pkB l).take (k + 1) = (pkB l).take k ++ [16 * l.getD (2 * k) 0 + l.getD (2 * k + 1) 0] := by
  have hl := pkB_length l
  rw [List.take_succ_eq_append_getElem (by omega), ← pkB_at l k h, getD_at _ _ (by omega)]

theorem isH_iff {v : Int} : isH v = true ↔ 0 ≤ v ∧ v ≤ 15 := by simp [isH]

theorem all_at {l : List Int} (h : l.all isH = true) {k : Nat} (hk : k < l.length) : 0 ≤ l.getD k 0 ∧ l.getD k 0 ≤ 15 := by
  rw [getD_at _ _ hk]
  exact isH_iff.1 (List.all_eq_true.1 h _ (List.getElem_mem hk))

theorem pkB_range : ∀ l : List Int, l.all isH = true → ∀ x ∈ pkB l, 0 ≤ x ∧ x ≤ 255
  | [], _, x, hx => by simp [pkB] at hx
  | [a], _, x, hx => by simp [pkB] at hx
  | a :: b :: r, h, x, hx => by
    simp only [List.all_cons, Bool.and_eq_true] at h
    obtain ⟨h1, h2, h3⟩ := h
    have q1 := isH_iff.1 h1
    have q2 := isH_iff.1 h2
    rcases List.mem_cons.1 hx with e | e
    · subst e; omega
    · exact pkB_range r h3 x e

theorem phd_all (n : Nat) (e : Bool) : (phd n e).all isH = true := by
  unfold phd pmk
  cases e <;> split <;> decide

theorem phd_length (n : Nat) (e : Bool) : (phd n e).length = 2 - n % 2 := by
  unfold phd
  split
  · simp; omega
  · simp; omega

theorem ppB_range (p : List Int) (e : Bool) : ∀ x ∈ ppB p e, 0 ≤ x ∧ x ≤ 255 := by
  unfold ppB
  split
  · rename_i h
    have : p.all isH = true := by
      unfold ppCode at h
      split at h
      · omega
      · split at h
        · assumption
        · omega
    exact pkB_range _ (by rw [List.all_append, phd_all, this]; rfl)
  · intro x hx; simp at hx

theorem ppB_length (p : List Int) (e : Bool) : (ppB p e).length ≤ 11 := by
  unfold ppB
  split
  · rename_i h
    have : p.length ≤ 20 := by
      unfold ppCode at h
      split at h
      · omega
      · omega
    rw [pkB_length, List.length_append, phd_length]
    omega
  · simp

theorem pkB_hbs : ∀ l : List Int, pkB (hbs l) = l
  | [] => rfl
  | b :: r => by
    rw [hbs, pkB, pkB_hbs r]
    congr 1
    omega

theorem hbs_pkB : ∀ l : List Int, l.length % 2 = 0 → l.all isH = true → hbs (pkB l) = l
  | [], _, _ => rfl
  | [a], h, _ => by simp at h
  | a :: b :: r, h, ha => by
    simp only [List.all_cons, Bool.and_eq_true] at ha
    obtain ⟨h1, h2, h3⟩ := ha
    have q1 := isH_iff.1 h1
    have q2 := isH_iff.1 h2
    rw [pkB, hbs, hbs_pkB r (by simp at h; omega) h3]
    congr 1
    · omega
    · congr 1; omega

theorem hbs_all : ∀ l : List Int, (∀ x ∈ l, 0 ≤ x ∧ x ≤ 255) → (hbs l).all isH = true
  | [], _ => rfl
  | b :: r, h => by
    have q := h b List.mem_cons_self
    have := hbs_all r (fun x hx => h x (List.mem_cons_of_mem _ hx))
    simp only [hbs, List.all_cons, this, Bool.and_true, Bool.and_eq_true]
    exact ⟨isH_iff.2 (by omega), isH_iff.2 (by omega)⟩

/-- What is left of half bytes behind the head. -/
def upP (d : List Int) : List Int := if (hbs d).getD 0 0 % 2 = 0 then (hbs d).drop 2 else (hbs d).drop 1
def upE (d : List Int) : Bool := decide (2 ≤ (hbs d).getD 0 0)

/-- Whether bytes are those of a path. -/
def upOk1 (d : List Int) : Bool :=
  !decide (d.length = 0) && !decide (11 < d.length) && !decide (64 ≤ d.getD 0 0) && !(decide ((hbs d).getD 0 0 % 2 = 0) && !decide ((hbs d).getD 1 0 = 0)) && decide ((upP d).length ≤ 20)

theorem take_all {l : List Int} {p : Int → Bool} (h : l.all p = true) (n : Nat) : (l.drop n).all p = true := by
  rw [List.all_eq_true] at h ⊢
  intro x hx
  exact h x (List.mem_of_mem_drop hx)

theorem upP_all (d : List Int) (hr : ∀ x ∈ d, 0 ≤ x ∧ x ≤ 255) : (upP d).all isH = true := by
  unfold upP
  split <;> exact take_all (hbs_all d hr) _

/-- What is packed again is the same just where the bytes are those of a path. -/
theorem up_again (d : List Int) (hr : ∀ x ∈ d, 0 ≤ x ∧ x ≤ 255) (h1 : 0 < d.length) (h2 : d.length ≤ 11) : (decide (ppCode (upP d) = 0) && (ppB (upP d) (upE d) == d)) = upOk1 d := by
  match d, h1 with
  | b :: r, _ =>
    have hb := hr b List.mem_cons_self
    have ha := upP_all (b :: r) hr
    have hl : (hbs (b :: r)).length = 2 * r.length + 2 := by rw [hbs_length]; simp; omega
    have e0 : (hbs (b :: r)).getD 0 0 = b / 16 := rfl
    have e1 : (hbs (b :: r)).getD 1 0 = b % 16 := rfl
    have e2 : (b :: r).getD 0 0 = b := rfl
    have hh := hbs_length r
    have d1 : (hbs (b :: r)).drop 1 = b % 16 :: hbs r := rfl
    have d2 : (hbs (b :: r)).drop 2 = hbs r := rfl
    have hc : ppCode (upP (b :: r)) = if 20 < (upP (b :: r)).length then 2 else 0 := by
      unfold ppCode
      rw [ha]
      simp
    unfold upOk1
    rw [e0, e1, e2, hc]
    by_cases h20 : 20 < (upP (b :: r)).length
    · simp [h20]
    · have l0 : decide ((b :: r).length = 0) = false := by simp
      have l1 : decide (11 < (b :: r).length) = false := by simp at h2 ⊢; omega
      have l2 : decide ((upP (b :: r)).length ≤ 20) = true := by simp; omega
      rw [if_neg h20, l0, l1, l2]
      have hp : ppB (upP (b :: r)) (upE (b :: r)) = pkB (phd (upP (b :: r)).length (upE (b :: r)) ++ upP (b :: r)) := by
        unfold ppB
        rw [if_pos (by rw [hc, if_neg h20])]
      rw [hp]
      have hE : upE (b :: r) = decide (2 ≤ b / 16) := by unfold upE; rw [e0]
      rw [hE]
      unfold upP
      rw [e0, d1, d2]
      by_cases hev : b / 16 % 2 = 0
      · rw [if_pos hev]
        have hphd : phd (hbs r).length (decide (2 ≤ b / 16)) = [pmk (decide (2 ≤ b / 16)), 0] := by unfold phd; rw [if_pos (by omega)]
        rw [hphd]
        show (decide ((0 : Int) = 0) && (pkB (pmk (decide (2 ≤ b / 16)) :: 0 :: hbs r) == b :: r)) = _
        rw [pkB, pkB_hbs]
        by_cases hg : 2 ≤ b / 16
        · have : pmk (decide (2 ≤ b / 16)) = 2 := by simp [pmk, hg]
          rw [this]
          by_cases hb32 : b = 32
          · subst hb32; simp
          · have x1 : ((16 * 2 + 0 : Int) :: r == b :: r) = false := by simp; omega
            rw [x1]
            have : ¬ (b < 64 ∧ b % 16 = 0) := by omega
            simp [hev]
            omega
        · have : pmk (decide (2 ≤ b / 16)) = 0 := by simp [pmk, hg]
          rw [this]
          by_cases hb0 : b = 0
          · subst hb0; simp
          · have x1 : ((16 * 0 + 0 : Int) :: r == b :: r) = false := by simp; omega
            rw [x1]
            simp [hev]
            omega
      · rw [if_neg hev]
        have hphd : phd (b % 16 :: hbs r).length (decide (2 ≤ b / 16)) = [pmk (decide (2 ≤ b / 16)) + 1] := by unfold phd; rw [if_neg (by simp; omega)]
        rw [hphd]
        show (decide ((0 : Int) = 0) && (pkB ((pmk (decide (2 ≤ b / 16)) + 1) :: b % 16 :: hbs r) == b :: r)) = _
        rw [pkB, pkB_hbs]
        by_cases hg : 2 ≤ b / 16
        · have : pmk (decide (2 ≤ b / 16)) = 2 := by simp [pmk, hg]
          rw [this]
          by_cases hb64 : b < 64
          · have x1 : ((16 * (2 + 1) + b % 16 : Int) :: r == b :: r) = true := by simp; omega
            rw [x1]
            simp [hev]
            omega
          · have x1 : ((16 * (2 + 1) + b % 16 : Int) :: r == b :: r) = false := by simp; omega
            rw [x1]
            simp [hev]
            omega
        · have : pmk (decide (2 ≤ b / 16)) = 0 := by simp [pmk, hg]
          rw [this]
          have x1 : ((16 * (0 + 1) + b % 16 : Int) :: r == b :: r) = true := by simp; omega
          rw [x1]
          simp [hev]
          omega

/-- A path is read back. -/
theorem pp_back (p : List Int) (e : Bool) (hc : ppCode p = 0) : upOk1 (ppB p e) = true ∧ upP (ppB p e) = p ∧ upE (ppB p e) = e ∧ (ppB p e).length = p.length / 2 + 1 := by
  have hp : p.all isH = true ∧ p.length ≤ 20 := by
    unfold ppCode at hc
    split at hc
    · omega
    · split at hc
      · rename_i h1 h2; exact ⟨h2, by omega⟩
      · omega
  obtain ⟨ha, hl⟩ := hp
  have hB : ppB p e = pkB (phd p.length e ++ p) := by unfold ppB; rw [if_pos hc]
  have hall : (phd p.length e ++ p).all isH = true := by rw [List.all_append, phd_all, ha]; rfl
  have hpl := phd_length p.length e
  have hh : hbs (ppB p e) = phd p.length e ++ p := by rw [hB]; exact hbs_pkB _ (by rw [List.length_append, hpl]; omega) hall
  have hlen : (ppB p e).length = p.length / 2 + 1 := by rw [hB, pkB_length, List.length_append, hpl]; omega
  have h0 : (ppB p e).getD 0 0 / 16 = (phd p.length e ++ p).getD 0 0 := by
    rw [← hh]
    match hq : ppB p e with
    | [] => rw [hq] at hlen; simp at hlen
    | b :: r => rfl
  have hP : upP (ppB p e) = p ∧ upE (ppB p e) = e ∧ (ppB p e).getD 0 0 < 64 ∧ ((phd p.length e ++ p).getD 0 0 % 2 = 0 → (phd p.length e ++ p).getD 1 0 = 0) := by
    unfold upP upE
    rw [hh]
    by_cases hev : p.length % 2 = 0
    · have : phd p.length e = [pmk e, 0] := by unfold phd; rw [if_pos hev]
      rw [this] at h0 ⊢
      cases e <;> simp [pmk] at h0 ⊢ <;> omega
    · have : phd p.length e = [pmk e + 1] := by unfold phd; rw [if_neg hev]
      rw [this] at h0 ⊢
      cases e <;> simp [pmk] at h0 ⊢ <;> omega
  obtain ⟨q1, q2, q3, q4⟩ := hP
  refine ⟨?_, q1, q2, hlen⟩
  unfold upOk1
  rw [q1, hh]
  have l0 : decide ((ppB p e).length = 0) = false := by rw [hlen]; simp
  have l1 : decide (11 < (ppB p e).length) = false := by rw [hlen]; simp; omega
  have l2 : decide (64 ≤ (ppB p e).getD 0 0) = false := by simp only [decide_eq_false_iff_not]; omega
  have l3 : decide (p.length ≤ 20) = true := by simp; omega
  rw [l0, l1, l2, l3]
  by_cases hev : (phd p.length e ++ p).getD 0 0 % 2 = 0
  · rw [q4 hev]; simp
  · rw [decide_eq_false hev]; rfl

def upCode (d : List Int) : Int := if upOk1 d then 0 else 5
def upPath (d : List Int) : List Int := if upOk1 d then upP d else []
def upEnd (d : List Int) : Bool := upOk1 d && upE d

theorem upPath_length (d : List Int) : (upPath d).length ≤ 20 := by
  unfold upPath
  split
  · rename_i h
    unfold upOk1 at h
    simp only [Bool.and_eq_true, decide_eq_true_eq] at h
    exact h.2
  · simp

end Go.Proofs.Ytihdmdbekdadlaa

/- What is proved here: what the model's l1In answers: whether a number lies within two bounds. -/
namespace Go.Proofs.Ytihdmdbekdadlaa
open Go.RowKit
set_option linter.unusedVariables false
set_option maxRecDepth 100000

theorem in_yes (v lo hi : Int) (w : World) (h0 : lo ≤ v) (h1 : v ≤ hi) : Calls Try.prog 45 #[.int .i64 v, .int .i64 lo, .int .i64 hi] w fun e w' => e = .returned (.bool true) ∧ w' = w := by
  have e0 : decide (lo ≤ v) = true := decide_eq_true h0
  have e1 : decide (v ≤ hi) = true := decide_eq_true h1
  go_enter Try.func45, Try.ntmps45
  go_wp2
  go_ret
  exact ⟨ret_bool (by simp), rfl⟩

set_option maxHeartbeats 1000000 in
theorem in_no (v lo hi : Int) (w : World) (h : v < lo ∨ hi < v) : Calls Try.prog 45 #[.int .i64 v, .int .i64 lo, .int .i64 hi] w fun e w' => e = .returned (.bool false) ∧ w' = w := by
  by_cases h0 : lo ≤ v
  · have e0 : decide (lo ≤ v) = true := decide_eq_true h0
    have e1 : decide (v ≤ hi) = false := decide_eq_false (by omega)
    go_enter Try.func45, Try.ntmps45
    go_wp2
    go_ret
    exact ⟨ret_bool (by simp), rfl⟩
  · have e0 : decide (lo ≤ v) = false := decide_eq_false h0
    go_enter Try.func45, Try.ntmps45
    go_wp2
    go_ret
    exact ⟨ret_bool (by simp), rfl⟩

/-- Whether a number is a word. -/
def isWord (v : Int) : Bool := decide (0 ≤ v ∧ v ≤ 4294967295)

theorem in_any (v lo hi : Int) (w : World) : Calls Try.prog 45 #[.int .i64 v, .int .i64 lo, .int .i64 hi] w fun e w' => e = .returned (.bool (decide (lo ≤ v ∧ v ≤ hi))) ∧ w' = w := by
  by_cases h : lo ≤ v ∧ v ≤ hi
  · rw [decide_eq_true h]; exact in_yes v lo hi w h.1 h.2
  · rw [decide_eq_false h]; exact in_no v lo hi w (by omega)

end Go.Proofs.Ytihdmdbekdadlaa
