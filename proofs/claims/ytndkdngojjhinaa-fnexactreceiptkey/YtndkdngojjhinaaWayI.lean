/- What is proved here: the program's iterator over the way up from an item (wayUp), and its two callers (isUpFrom, deepOf): what they answer, and that nothing that lay before has turned. -/
import Derived.RangeFuncFrom
import Derived.RangeFuncLeaves
import Derived.Shelf.Abstract
import Derived.WalkKit
import Derived.OwnWalkIn
import Derived.TacticsInMore
import Derived.LoopNIn
import Derived.LoopIn
import Derived.Test.YtndkdngojjhinaaChecked
import Derived.Test.YtndkdngojjhinaaItW
namespace Go.Proofs.Ytndkdngojjhinaa
open Go.RowKit Go.Shelf
set_option linter.unusedVariables false
set_option maxRecDepth 100000

attribute [local go_sem] Oper.semAt_some

/-- What a round of a loop over the way keeps: what lay below n0, and the cell of one block. -/
def KpW (n0 Bi : Nat) (W W' : World) : Prop := Below n0 W W' ∧ ∀ v, W.cell? ⟨Bi, 0, none⟩ = some v → W'.cell? ⟨Bi, 0, none⟩ = some v

theorem kpW_t {n0 Bi : Nat} {A B C : World} (h : KpW n0 Bi A B) (k : KpW n0 Bi B C) : KpW n0 Bi A C := ⟨h.1.trans k.1, fun v hv => k.2 v (h.2 v hv)⟩

theorem kpW_b {n0 Bi : Nat} {w : World} (hn : n0 ≤ w.heap.size) (W : World) (l : Nat) (o o' : Obj) (hl : w.heap.size ≤ l) (h : W.heap[l]? = some o) (hc : o.isCells = false) (hw : o.isWalk = false) : KpW n0 Bi W (W.putObj l o') :=
  ⟨belowK_b hn W l o o' hl h hc hw, fun v hv => cell_kept hv (grownBy_putObj' W l o') (fun r e => by cases e; exact ⟨_, h, hc⟩)⟩

theorem new_cell (W : World) (v : Value) (t : TypeId) : (W.alloc (.cells #[v] t)).cell? ⟨W.heap.size, 0, none⟩ = some v ∧ (W.alloc (.cells #[v] t)).frozen? ⟨W.heap.size, 0, none⟩ = false := by
  constructor <;> simp

theorem old_cell {W : World} {a : Addr} {v : Value} (o : Obj) (h : W.cell? a = some v) : (W.alloc o).cell? a = some v := cell_kept h (World.grownBy_alloc W o none) (fun r e => by cases e)
theorem old_free {W : World} {a : Addr} {v : Value} (o : Obj) (h : W.cell? a = some v) (hf : W.frozen? a = false) : (W.alloc o).frozen? a = false := (frozen_kept h (World.grownBy_alloc W o none) (fun r e => by cases e)).trans hf

set_option maxRecDepth 100000 in
set_option maxHeartbeats 2000000 in
theorem way1_in (F : Fence) (n : Nat) (hfn : F.fn 43) (hro : F.round = none) (hn : 1 ≤ n) (l Bf Bi : Nat) (from_ : Int) (a : Option Addr) (len cap : Nat) (its : List It) (xs : List Nat) (w0 : World) (hI : ItRow w0 a len its) (hl : len ≤ 1048576)
    (J Jx : List Nat → World → Prop)
    (hY : ∀ pre (x : Nat) W, J pre W → pre.length < xs.length → YieldAt F (n - 1) Try.prog l #[.int .i64 (x : Int)] W fun e W' =>
      (e = .returned (.bool true) ∧ J (pre ++ [x]) W' ∧ KpW w0.heap.size Bi W W') ∨ (e = .returned (.bool false) ∧ Jx (pre ++ [x]) W'))
    (W : World) (hB0 : Below w0.heap.size w0 W) (hBf : W.cell? ⟨Bf, 0, none⟩ = some (.int .i64 from_)) (hBi : W.cell? ⟨Bi, 0, none⟩ = some (.slice a len cap)) (hL : IsWay its from_ xs) (h0 : J [] W) :
    CallsIn F n Try.prog 43 #[.func (.yield l) #[] #[], .pointer (some ⟨Bf, 0, none⟩), .pointer (some ⟨Bi, 0, none⟩)] W fun e W' => (∃ v, e = .returned v) ∧
      ((∃ ys, ys = xs ∧ J ys W') ∨ (∃ pre, pre <+: xs ∧ Jx pre W')) := by
  have HI := hide hI
  have HL := hide hL
  clear hI hL
  refine callsIn_of_wp Try.func43 rfl hfn ?_ hro
  simp only [Try.ntmps43, List.size_toArray, List.length_cons, List.length_nil, Nat.reduceAdd, Nat.reduceSub, Array.replicate_succ, Array.replicate_zero, List.push_toArray, List.append_toArray, List.nil_append, List.cons_append]
  gi_wp2
  gi_loopw [4] (fun p wr => ∃ (pre rest : List Nat) (q : Int), p = .int .i64 q ∧ xs = pre ++ rest ∧ IsWay its q rest ∧ Below w0.heap.size w0 wr ∧ wr.cell? ⟨Bi, 0, none⟩ = some (.slice a len cap) ∧ J pre wr)
    (fun p wr => (intOf p + 1).toNat)
  case atStart =>
    exact ⟨[], xs, from_, rfl, rfl, unhide HL, hB0, hBi, h0⟩
  case round =>
    obtain ⟨pre, rest, q, rfl, hx, hw, hb, hbi, hJs⟩ := hrel
    clear hB0 hBf hBi h0 HL
    cases rest with
    | nil =>
      obtain rfl : q = -1 := hw
      gi_wp2
      go_end0
      exact ⟨⟨_, rfl⟩, .inl ⟨pre, by simp [hx], hJs⟩⟩
    | cons k rest =>
      obtain ⟨rfl, it, hit, hge, hlt, hr⟩ := hw
      have hkl : k < len := by rw [← (unhide HI).1]; exact (List.getElem?_eq_some_iff.1 hit).1
      obtain ⟨b, off, rfl, hbl, hat⟩ := (unhide HI).at (by omega)
      obtain ⟨sa, sl, sc, c0, c1, c2, _⟩ := hat k it hit
      obtain ⟨fn, tmps, assign, body, hy, hR⟩ := hY pre k wr hJs (by rw [hx]; simp)
      have hne : (((k : Nat) : Int) != -1) = true := by simp
      have HX := hide hx
      have HR := hide hr
      have HJ := hide hJs
      clear hx hr hJs hat
      gi_wp2
      refine hR.mono ?_
      rintro e W3 (⟨rfl, hJ3, hk3⟩ | ⟨rfl, hJx3⟩)
      · have hb3 : Below w0.heap.size w0 W3 := hb.trans hk3.1
        have hbi3 := hk3.2 _ hbi
        have hp3 : W3.cell? ⟨b, off + k * 3 + 1, none⟩ = some (.int .i64 it.p) := (hb3.cell (p := ⟨b, off + k * 3 + 1, none⟩) hbl).trans c1
        have i1 : (0 : Int) ≤ (k : Int) := by omega
        have i2 : (k : Int) < (len : Int) := by omega
        have HJ3 := hide hJ3
        have HB3 := hide hb3
        generalize it.p = pp at hp3 hge hlt HR
        clear hJ3 hb3 hk3 c0 c1 c2 hbi hb
        gi_wp2
        go_roundw
        case rel => exact ⟨pre ++ [k], rest, pp, rfl, by rw [unhide HX]; simp, unhide HR, unhide HB3, hbi3, unhide HJ3⟩
        case measure => simp [intOf]; omega
      · gi_wp2
        refine bodyPost_ret (results_none rfl _ _ _) rfl ?_
        exact ⟨⟨_, rfl⟩, .inr ⟨pre ++ [k], ⟨rest, by rw [unhide HX]; simp⟩, hJx3⟩⟩

set_option maxHeartbeats 1000000 in
theorem wayUp_in (F : Fence) (n : Nat) (hfn : F.fn 41) (hro : F.round = none) (a : Option Addr) (len cap : Nat) (from_ : Int) (w : World) :
    CallsIn F n Try.prog 41 #[.slice a len cap, .int .i64 from_] w fun e w' => e = .returned (.func (.func 43) #[] #[.pointer (some ⟨w.heap.size + 1, 0, none⟩), .pointer (some ⟨w.heap.size, 0, none⟩)]) ∧ w' = (w.alloc (.cells #[.slice a len cap] 48)).alloc (.cells #[.int .i64 from_] 2) := by
  refine callsIn_of_wp Try.func41 rfl hfn ?_ hro
  simp only [Try.ntmps41, List.size_toArray, List.length_cons, List.length_nil, Nat.reduceAdd, Nat.reduceSub, Array.replicate_succ, Array.replicate_zero, List.push_toArray, List.append_toArray, List.nil_append, List.cons_append]
  gi_wp2
  go_ret
  exact ⟨rfl, rfl⟩

theorem way_stops (F : Fence) (n : Nat) (hfn : F.fn 43) (hro : F.round = none) (hn : 1 ≤ n) (Bf Bi : Nat) (from_ : Int) (a : Option Addr) (len cap : Nat) (its : List It) (xs : List Nat) (w0 w : World) (hI : ItRow w0 a len its) (hl : len ≤ 1048576)
    (hb : Below w0.heap.size w0 w) (hBf : Bf < w.heap.size) (hBi : Bi < w.heap.size) (cf : w.cell? ⟨Bf, 0, none⟩ = some (.int .i64 from_)) (ci : w.cell? ⟨Bi, 0, none⟩ = some (.slice a len cap)) (hL : IsWay its from_ xs) :
    SeqStopsK F n Try.prog 43 #[.pointer (some ⟨Bf, 0, none⟩), .pointer (some ⟨Bi, 0, none⟩)] (fun x : Nat => #[Value.int .i64 (x : Int)]) (KpW w0.heap.size Bi) (fun ys => ys = xs) (fun pre => pre <+: xs) xs.length w := fun l J Jx W hW _ _ hY h0 =>
  way1_in F n hfn hro hn l Bf Bi from_ a len cap its xs w0 hI hl J Jx hY W (hb.trans (hW.mono hb.size)) ((hW.cell (p := ⟨Bf, 0, none⟩) hBf).trans cf) ((hW.cell (p := ⟨Bi, 0, none⟩) hBi).trans ci) hL h0

set_option maxRecDepth 100000 in
set_option maxHeartbeats 2000000 in
theorem deepOf_in (F : Fence) (n : Nat) (hf1 : F.fn 39) (hf2 : F.fn 41) (hf3 : F.fn 43) (hro : F.round = none) (hn : 3 ≤ n) (a : Option Addr) (len cap : Nat) (its : List It) (from_ : Int) (xs : List Nat) (w : World)
    (hI : ItRow w a len its) (hl : len ≤ 1048576) (hL : IsWay its from_ xs) (hxl : xs.length ≤ 2097152) :
    CallsIn F n Try.prog 39 #[.slice a len cap, .int .i64 from_] w fun e W' => e = .returned (.int .i64 (xs.length : Int)) ∧ Below w.heap.size w W' := by
  have h1 : 1 ≤ n := by omega
  refine callsIn_of_wp_marks Try.func39 rfl hf1 ?_ hro
  simp only [Try.ntmps39, List.size_toArray, List.length_cons, List.length_nil, Nat.reduceAdd, Nat.reduceSub, Array.replicate_succ, Array.replicate_zero, List.push_toArray, List.append_toArray, List.nil_append, List.cons_append]
  gi_wp2_with (gi_at_call 41; refine (wayUp_in F (n - 1) hf2 hro _ _ _ _ _).mono ?_; rintro e w' ⟨rfl, rfl⟩)
  have c0 := new_cell w (.int .i64 0) 2
  have c1 := new_cell (w.alloc (.cells #[.int .i64 0] 2)) (.slice a len cap) 48
  have c2 := new_cell ((w.alloc (.cells #[.int .i64 0] 2)).alloc (.cells #[.slice a len cap] 48)) (.int .i64 from_) 2
  simp only [World.size_alloc] at c1 c2
  have hB0 : Below w.heap.size w (((w.alloc (.cells #[.int .i64 0] 2)).alloc (.cells #[.slice a len cap] 48)).alloc (.cells #[.int .i64 from_] 2)) := (((Below.refl _ w).alloc (Nat.le_refl _) _).alloc (by simp) _).alloc (by simp; omega) _
  refine wpIn_rangeFunc_ownF hro h1 (gf := 43) (lb := #[.pointer (some ⟨w.heap.size + 1 + 1, 0, none⟩), .pointer (some ⟨w.heap.size + 1, 0, none⟩)]) rfl hf3 (enters_of Try.func43 (by kernel_rfl) rfl)
    (way_stops F (n - 1) hf3 hro (by omega) (w.heap.size + 1 + 1) (w.heap.size + 1) from_ a len cap its xs w _ hI hl hB0 (by simp) (by simp) c2.1 (old_cell _ c1.1) hL) kpW_t (kpW_b (by simp; omega)) (Below.refl _ _) (fun _ => rfl)
    (fun pre W => (W.cell? ⟨w.heap.size, 0, none⟩ = some (.int .i64 (pre.length : Int)) ∧ W.frozen? ⟨w.heap.size, 0, none⟩ = false) ∧ Below w.heap.size w W)
    (fun _ _ _ => False)
    (OwnFrom.and (Own.from (fun s A B row hs hg hr => ⟨cell_kept hs.1 hg hr, (frozen_kept hs.1 hg hr).trans hs.2⟩) _) (ownFrom_below (Nat.le_refl _) (by simp; omega)))
    (fun _ _ _ _ _ hs _ _ => hs)
    ⟨⟨old_cell _ (old_cell _ c0.1), old_free _ (old_cell _ c0.1) (old_free _ c0.1 c0.2)⟩, hB0⟩
    (fun x => { tmps := #[.slice a len cap, .int .i64 from_, undef, undef, .int .i64 0, .pointer (some ⟨w.heap.size, 0, none⟩), .slice a len cap, .int .i64 from_, .func (.func 43) #[] #[.pointer (some ⟨w.heap.size + 1 + 1, 0, none⟩), .pointer (some ⟨w.heap.size + 1, 0, none⟩)], .int .i64 (x : Int), undef, undef, undef], defers := [] }) ?assign ?body ?done ?stop
  case assign =>
    intro l x W K hK
    gi_wp2
    simpa using hK
  case body =>
    rintro l pre x W ⟨⟨hc, hf⟩, hB⟩ hlt
    have hp : ((pre.length : Nat) : Int) + 1 ≤ 2097152 := by omega
    have hp0 : (0 : Int) ≤ ((pre.length : Nat) : Int) := by omega
    have he : (((pre ++ [x]).length : Nat) : Int) = ((pre.length : Nat) : Int) + 1 := by simp
    have HE := hide he
    clear he
    generalize ((pre.length : Nat) : Int) = m at hc hp hp0 HE
    gi_wp2
    refine ⟨KeepsOthers.setCell _ _ _, ⟨(Below.refl w.heap.size W).setCell (p := ⟨w.heap.size, 0, none⟩) (Nat.le_refl _) _, fun v hv => ?_⟩, ⟨?_, by rw [World.frozen?_setCell]; exact hf⟩, hB.setCell (p := ⟨w.heap.size, 0, none⟩) (Nat.le_refl _) _⟩
    · rw [← hv]; exact World.cell?_of_block (Below.heap_setCell W ⟨w.heap.size, 0, none⟩ _ (w.heap.size + 1) (by simp))
    · rw [unhide HE]; exact World.cell?_setCell_same' _ _ _ (by rw [hc]; rfl)
  case done =>
    rintro D ys W hD rfl ⟨⟨hc, _⟩, hB⟩ hK
    gi_wp2
    refine ⟨by simp, .inl ⟨_, _, rfl, run_takeDeferred hK, ?_⟩⟩
    exact ⟨_, results_tmp rfl _ _ _, rfl, hB.trans (belowK_b (w := w) (Nat.le_refl _) W D _ _ (by simp at hD; omega) hK rfl rfl)⟩
  case stop =>
    rintro D c pre W _ _ h _
    exact h.elim

set_option maxRecDepth 100000 in
set_option maxHeartbeats 2000000 in
theorem isUpFrom_in (F : Fence) (n : Nat) (hf1 : F.fn 38) (hf2 : F.fn 41) (hf3 : F.fn 43) (hro : F.round = none) (hn : 3 ≤ n) (a : Option Addr) (len cap : Nat) (its : List It) (from_ : Int) (q : Nat) (xs : List Nat) (w : World)
    (hI : ItRow w a len its) (hl : len ≤ 1048576) (hL : IsWay its from_ xs) :
    CallsIn F n Try.prog 38 #[.slice a len cap, .int .i64 from_, .int .i64 (q : Int)] w fun e W' => e = .returned (.bool (decide (q ∈ xs))) ∧ Below w.heap.size w W' := by
  have h1 : 1 ≤ n := by omega
  refine callsIn_of_wp_marks Try.func38 rfl hf1 ?_ hro
  simp only [Try.ntmps38, List.size_toArray, List.length_cons, List.length_nil, Nat.reduceAdd, Nat.reduceSub, Array.replicate_succ, Array.replicate_zero, List.push_toArray, List.append_toArray, List.nil_append, List.cons_append]
  gi_wp2_with (gi_at_call 41; refine (wayUp_in F (n - 1) hf2 hro _ _ _ _ _).mono ?_; rintro e w' ⟨rfl, rfl⟩)
  have c0 := new_cell w (.int .i64 (q : Int)) 2
  have c1 := new_cell (w.alloc (.cells #[.int .i64 (q : Int)] 2)) (.bool false) 4
  have c2 := new_cell ((w.alloc (.cells #[.int .i64 (q : Int)] 2)).alloc (.cells #[.bool false] 4)) (.slice a len cap) 48
  have c3 := new_cell (((w.alloc (.cells #[.int .i64 (q : Int)] 2)).alloc (.cells #[.bool false] 4)).alloc (.cells #[.slice a len cap] 48)) (.int .i64 from_) 2
  simp only [World.size_alloc] at c1 c2 c3
  have hB0 : Below w.heap.size w ((((w.alloc (.cells #[.int .i64 (q : Int)] 2)).alloc (.cells #[.bool false] 4)).alloc (.cells #[.slice a len cap] 48)).alloc (.cells #[.int .i64 from_] 2)) := ((((Below.refl _ w).alloc (Nat.le_refl _) _).alloc (by simp) _).alloc (by simp; omega) _).alloc (by simp; omega) _
  refine wpIn_rangeFunc_ownF hro h1 (gf := 43) (lb := #[.pointer (some ⟨w.heap.size + 1 + 1 + 1, 0, none⟩), .pointer (some ⟨w.heap.size + 1 + 1, 0, none⟩)]) rfl hf3 (enters_of Try.func43 (by kernel_rfl) rfl)
    (way_stops F (n - 1) hf3 hro (by omega) (w.heap.size + 1 + 1 + 1) (w.heap.size + 1 + 1) from_ a len cap its xs w _ hI hl hB0 (by simp) (by simp) c3.1 (old_cell _ c2.1) hL) kpW_t (kpW_b (by simp; omega)) (Below.refl _ _) (fun _ => rfl)
    (fun pre W => ((∀ y ∈ pre, y ≠ q) ∧ W.cell? ⟨w.heap.size, 0, none⟩ = some (.int .i64 (q : Int)) ∧ W.cell? ⟨w.heap.size + 1, 0, none⟩ = some (.bool false) ∧ W.frozen? ⟨w.heap.size + 1, 0, none⟩ = false) ∧ Below w.heap.size w W)
    (fun c pre W => (c = .ret ∧ q ∈ pre ∧ W.cell? ⟨w.heap.size + 1, 0, none⟩ = some (.bool true)) ∧ Below w.heap.size w W)
    (OwnFrom.and (Own.from (fun s A B row hs hg hr => ⟨hs.1, cell_kept hs.2.1 hg hr, cell_kept hs.2.2.1 hg hr, (frozen_kept hs.2.2.1 hg hr).trans hs.2.2.2⟩) _) (ownFrom_below (Nat.le_refl _) (by simp; omega)))
    (fun c => OwnFrom.and (Own.from (fun s A B row hs hg hr => ⟨hs.1, hs.2.1, cell_kept hs.2.2 hg hr⟩) _) (ownFrom_below (Nat.le_refl _) (by simp; omega)))
    ⟨⟨by simp, old_cell _ (old_cell _ (old_cell _ c0.1)), old_cell _ (old_cell _ c1.1), old_free _ (old_cell _ c1.1) (old_free _ c1.1 c1.2)⟩, hB0⟩
    (fun x => { tmps := #[.slice a len cap, .int .i64 from_, .int .i64 (q : Int), undef, undef, .pointer (some ⟨w.heap.size, 0, none⟩), .pointer (some ⟨w.heap.size + 1, 0, none⟩), .int .i64 (x : Int), .slice a len cap, .int .i64 from_, .func (.func 43) #[] #[.pointer (some ⟨w.heap.size + 1 + 1 + 1, 0, none⟩), .pointer (some ⟨w.heap.size + 1 + 1, 0, none⟩)], .int .i64 (x : Int), undef, undef, undef], defers := [] }) ?assign ?body ?done ?stop
  case assign =>
    intro l x W K hK
    gi_wp2
    exact hK
  case body =>
    rintro l pre x W ⟨⟨hp, hcw, hcr, hfr⟩, hB⟩ _
    by_cases hx : x = q
    · subst hx
      gi_wp2
      exact ⟨KeepsOthers.setCell _ _ _, ⟨rfl, List.mem_append.2 (.inr (by simp)), World.cell?_setCell_same' _ _ _ (by rw [hcr]; rfl)⟩, hB.setCell (p := ⟨w.heap.size + 1, 0, none⟩) (by simp) _⟩
    · have hne : (((x : Nat) : Int) == ((q : Nat) : Int)) = false := by simp; omega
      gi_wp2
      exact ⟨KeepsOthers.refl _, ⟨Below.refl _ _, fun v hv => hv⟩, ⟨fun y hy => (List.mem_append.1 hy).elim (hp y) (fun e e' => by simp at e; subst e; exact hx e'), hcw, hcr, hfr⟩, hB⟩
  case done =>
    rintro D ys W hD rfl ⟨⟨hne, _, hcr, hfr⟩, hB⟩ hK
    gi_wp2
    have hK' := (KeepsOthers.setCell W ⟨w.heap.size + 1, 0, none⟩ (.bool false)).same D _ hK rfl
    refine ⟨by simp, .inl ⟨_, _, rfl, run_takeDeferred hK', ?_⟩⟩
    have hc5 := cell_kept (World.cell?_setCell_same' W ⟨w.heap.size + 1, 0, none⟩ (.bool false) (by rw [hcr]; rfl)) (grownBy_putObj' _ D (.deferred none)) (fun r e => by cases e; exact ⟨_, hK', rfl⟩)
    refine ⟨.bool false, ?_, by rw [decide_eq_false (fun h => hne q h rfl)], (hB.setCell (p := ⟨w.heap.size + 1, 0, none⟩) (by simp) _).trans (belowK_b (w := w) (Nat.le_refl _) _ D _ _ (by simp at hD; omega) hK' rfl rfl)⟩
    simp [results, Try.results38, go_sem, hc5]
  case stop =>
    rintro D c pre W hD hpre ⟨⟨rfl, hin, hcr⟩, hB⟩ hK
    gi_wp2
    refine ⟨by simp, .inl ⟨_, _, rfl, run_takeDeferred hK, ?_⟩⟩
    have hc5 := cell_kept hcr (grownBy_putObj' _ D (.deferred none)) (fun r e => by cases e; exact ⟨_, hK, rfl⟩)
    refine ⟨.bool true, ?_, by rw [decide_eq_true (hpre.subset hin)], hB.trans (belowK_b (w := w) (Nat.le_refl _) W D _ _ (by simp at hD; omega) hK rfl rfl)⟩
    simp [results, Try.results38, go_sem, hc5]

theorem deepOf_any (a : Option Addr) (len cap : Nat) (its : List It) (from_ : Int) (xs : List Nat) (w : World) (hI : ItRow w a len its) (hl : len ≤ 1048576) (hL : IsWay its from_ xs) (hxl : xs.length ≤ 2097152) :
    Calls Try.prog 39 #[.slice a len cap, .int .i64 from_] w fun e W' => e = .returned (.int .i64 (xs.length : Int)) ∧ Below w.heap.size w W' :=
  (callsIn_wide (n := 3)).1 (deepOf_in _ 3 trivial trivial trivial rfl (Nat.le_refl _) a len cap its from_ xs w hI hl hL hxl)

theorem isUpFrom_any (a : Option Addr) (len cap : Nat) (its : List It) (from_ : Int) (q : Nat) (xs : List Nat) (w : World) (hI : ItRow w a len its) (hl : len ≤ 1048576) (hL : IsWay its from_ xs) :
    Calls Try.prog 38 #[.slice a len cap, .int .i64 from_, .int .i64 (q : Int)] w fun e W' => e = .returned (.bool (decide (q ∈ xs))) ∧ Below w.heap.size w W' :=
  (callsIn_wide (n := 3)).1 (isUpFrom_in _ 3 trivial trivial trivial rfl (Nat.le_refl _) a len cap its from_ q xs w hI hl hL)

end Go.Proofs.Ytndkdngojjhinaa
