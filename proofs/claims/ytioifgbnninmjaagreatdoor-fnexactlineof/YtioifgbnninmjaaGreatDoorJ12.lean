/- What is proved here: the program's iterator over the way up from an item (wayUp), and its two callers (isUpFrom, deepOf): what they answer, and that nothing that lay before has turned. -/
import Derived.RangeFuncFrom
import Derived.RangeFuncLeaves
import Derived.Shelf.Abstract
import Derived.WalkKit
import Derived.OwnWalkIn
import Derived.TacticsInMore
import Derived.LoopNIn
import Derived.LoopIn
import Derived.Test.YtioifgbnninmjaaGreatDoorChecked
import Derived.Test.YtioifgbnninmjaaGreatDoorJ8
import Derived.WalkLawsBesides
import Derived.WalkSmall
import Derived.KernelRfl
import Derived.WalkSpells
import Derived.Test.YtioifgbnninmjaaGreatDoorJ1
import Derived.Test.YtioifgbnninmjaaGreatDoorJ11
import Derived.Test.YtioifgbnninmjaaGreatDoorJ10
import Derived.Test.YtioifgbnninmjaaGreatDoorJ4
import Derived.Test.YtioifgbnninmjaaGreatDoorJ7
namespace Go.Proofs.YtioifgbnninmjaaGreatDoor
open Go.RowKit Go.Shelf
set_option linter.unusedVariables false
set_option maxRecDepth 100000

attribute [local go_sem] Oper.semAt_some

/-- What a round of a loop over the way keeps: what lay below n0, and the cell of one block. -/
def KpW (n0 Bi : Nat) (W W' : World) : Prop := Below n0 W W' ∧ ∀ v, W.cell? ⟨Bi, 0, none⟩ = some v → W'.cell? ⟨Bi, 0, none⟩ = some v

theorem kpW_t {n0 Bi : Nat} {A B C : World} (h : KpW n0 Bi A B) (k : KpW n0 Bi B C) : KpW n0 Bi A C := ⟨h.1.trans k.1, fun v hv => k.2 v (h.2 v hv)⟩

theorem kpW_b {n0 Bi : Nat} {w : World} (hn : n0 ≤ w.heap.size) (W : World) (l : Nat) (o o' : Obj) (hl : w.heap.size ≤ l) (h : W.heap[l]? = some o) (hc : o.isCells = false) (hw : o.isWalk = false) : KpW n0 Bi W (W.putObj l o') :=
  ⟨belowK_b hn W l o o' hl h hc hw, fun v hv => cell_kept hv (grownBy_putObj' W l o') (fun r e => by cases e; exact ⟨_, h, hc⟩)⟩

theorem new_cell (W : World) (v : Value) (t : TypeId) : (W.alloc (.cells #[v] t)).cell? ⟨W.heap.size, 0, none⟩ = some v ∧ (W.alloc (.cells #[v] t)).frozen? ⟨W.heap.size, 0, none⟩ = false := by
  constructor <;> simp

theorem old_cell {W : World} {a : Addr} {v : Value} (o : Obj) (h : W.cell? a = some v) : (W.alloc o).cell? a = some v := cell_kept h (World.grownBy_alloc W o none) (fun r e => by cases e)
theorem old_free {W : World} {a : Addr} {v : Value} (o : Obj) (h : W.cell? a = some v) (hf : W.frozen? a = false) : (W.alloc o).frozen? a = false := (frozen_kept h (World.grownBy_alloc W o none) (fun r e => by cases e)).trans hf

set_option maxRecDepth 100000 in
set_option maxHeartbeats 2000000 in
theorem way1_in (F : Fence) (n : Nat) (hfn : F.fn 174) (hro : F.round = none) (hn : 1 ≤ n) (l Bf Bi : Nat) (from_ : Int) (a : Option Addr) (len cap : Nat) (its : List It) (xs : List Nat) (w0 : World) (hI : ItRow w0 a len its) (hl : len ≤ 1048576)
    (J Jx : List Nat → World → Prop)
    (hY : ∀ pre (x : Nat) W, J pre W → pre.length < xs.length → YieldAt F (n - 1) Tryz.prog l #[.int .i64 (x : Int)] W fun e W' =>
      (e = .returned (.bool true) ∧ J (pre ++ [x]) W' ∧ KpW w0.heap.size Bi W W') ∨ (e = .returned (.bool false) ∧ Jx (pre ++ [x]) W'))
    (W : World) (hB0 : Below w0.heap.size w0 W) (hBf : W.cell? ⟨Bf, 0, none⟩ = some (.int .i64 from_)) (hBi : W.cell? ⟨Bi, 0, none⟩ = some (.slice a len cap)) (hL : IsWay its from_ xs) (h0 : J [] W) :
    CallsIn F n Tryz.prog 174 #[.func (.yield l) #[] #[], .pointer (some ⟨Bf, 0, none⟩), .pointer (some ⟨Bi, 0, none⟩)] W fun e W' => (∃ v, e = .returned v) ∧
      ((∃ ys, ys = xs ∧ J ys W') ∨ (∃ pre, pre <+: xs ∧ Jx pre W')) := by
  have HI := hide hI
  have HL := hide hL
  clear hI hL
  refine callsIn_of_wp Tryz.func174 rfl hfn ?_ hro
  simp only [Tryz.ntmps174, List.size_toArray, List.length_cons, List.length_nil, Nat.reduceAdd, Nat.reduceSub, Array.replicate_succ, Array.replicate_zero, List.push_toArray, List.append_toArray, List.nil_append, List.cons_append]
  gi_wp2
  gi_loopw [4] (fun p wr => ∃ (pre rest : List Nat) (q : Int), p = .int .i64 q ∧ xs = pre ++ rest ∧ IsWay its q rest ∧ Below w0.heap.size w0 wr ∧ wr.cell? ⟨Bi, 0, none⟩ = some (.slice a len cap) ∧ J pre wr)
    (fun p wr => (intOf p + 1).toNat)
  case atStart =>
    exact ⟨[], xs, from_, rfl, rfl, unhide HL, hB0, hBi, h0⟩
  case round =>
    obtain ⟨pre, rest, q, rfl, hx, hw, hb, hbi, hJs⟩ := hrel
    clear hB0 hBf hBi h0 HL
    cases rest with
    | nil =>
      obtain rfl : q = -1 := hw
      gi_wp2
      go_end0
      exact ⟨⟨_, rfl⟩, .inl ⟨pre, by simp [hx], hJs⟩⟩
    | cons k rest =>
      obtain ⟨rfl, it, hit, hge, hlt, hr⟩ := hw
      have hkl : k < len := by rw [← (unhide HI).1]; exact (List.getElem?_eq_some_iff.1 hit).1
      obtain ⟨b, off, rfl, hbl, hat⟩ := (unhide HI).at (by omega)
      obtain ⟨sa, sl, sc, c0, c1, c2, _⟩ := hat k it hit
      obtain ⟨fn, tmps, assign, body, hy, hR⟩ := hY pre k wr hJs (by rw [hx]; simp)
      have hne : (((k : Nat) : Int) != -1) = true := by simp
      have HX := hide hx
      have HR := hide hr
      have HJ := hide hJs
      clear hx hr hJs hat
      gi_wp2
      refine hR.mono ?_
      rintro e W3 (⟨rfl, hJ3, hk3⟩ | ⟨rfl, hJx3⟩)
      · have hb3 : Below w0.heap.size w0 W3 := hb.trans hk3.1
        have hbi3 := hk3.2 _ hbi
        have hp3 : W3.cell? ⟨b, off + k * 3 + 1, none⟩ = some (.int .i64 it.p) := (hb3.cell (p := ⟨b, off + k * 3 + 1, none⟩) hbl).trans c1
        have i1 : (0 : Int) ≤ (k : Int) := by omega
        have i2 : (k : Int) < (len : Int) := by omega
        have HJ3 := hide hJ3
        have HB3 := hide hb3
        generalize it.p = pp at hp3 hge hlt HR
        clear hJ3 hb3 hk3 c0 c1 c2 hbi hb
        gi_wp2
        go_roundw
        case rel => exact ⟨pre ++ [k], rest, pp, rfl, by rw [unhide HX]; simp, unhide HR, unhide HB3, hbi3, unhide HJ3⟩
        case measure => simp [intOf]; omega
      · gi_wp2
        refine bodyPost_ret (results_none rfl _ _ _) rfl ?_
        exact ⟨⟨_, rfl⟩, .inr ⟨pre ++ [k], ⟨rest, by rw [unhide HX]; simp⟩, hJx3⟩⟩

set_option maxHeartbeats 1000000 in
theorem wayUp_in (F : Fence) (n : Nat) (hfn : F.fn 172) (hro : F.round = none) (a : Option Addr) (len cap : Nat) (from_ : Int) (w : World) :
    CallsIn F n Tryz.prog 172 #[.slice a len cap, .int .i64 from_] w fun e w' => e = .returned (.func (.func 174) #[] #[.pointer (some ⟨w.heap.size + 1, 0, none⟩), .pointer (some ⟨w.heap.size, 0, none⟩)]) ∧ w' = (w.alloc (.cells #[.slice a len cap] 172)).alloc (.cells #[.int .i64 from_] 2) := by
  refine callsIn_of_wp Tryz.func172 rfl hfn ?_ hro
  simp only [Tryz.ntmps172, List.size_toArray, List.length_cons, List.length_nil, Nat.reduceAdd, Nat.reduceSub, Array.replicate_succ, Array.replicate_zero, List.push_toArray, List.append_toArray, List.nil_append, List.cons_append]
  gi_wp2
  go_ret
  exact ⟨rfl, rfl⟩

theorem way_stops (F : Fence) (n : Nat) (hfn : F.fn 174) (hro : F.round = none) (hn : 1 ≤ n) (Bf Bi : Nat) (from_ : Int) (a : Option Addr) (len cap : Nat) (its : List It) (xs : List Nat) (w0 w : World) (hI : ItRow w0 a len its) (hl : len ≤ 1048576)
    (hb : Below w0.heap.size w0 w) (hBf : Bf < w.heap.size) (hBi : Bi < w.heap.size) (cf : w.cell? ⟨Bf, 0, none⟩ = some (.int .i64 from_)) (ci : w.cell? ⟨Bi, 0, none⟩ = some (.slice a len cap)) (hL : IsWay its from_ xs) :
    SeqStopsK F n Tryz.prog 174 #[.pointer (some ⟨Bf, 0, none⟩), .pointer (some ⟨Bi, 0, none⟩)] (fun x : Nat => #[Value.int .i64 (x : Int)]) (KpW w0.heap.size Bi) (fun ys => ys = xs) (fun pre => pre <+: xs) xs.length w := fun l J Jx W hW _ _ hY h0 =>
  way1_in F n hfn hro hn l Bf Bi from_ a len cap its xs w0 hI hl J Jx hY W (hb.trans (hW.mono hb.size)) ((hW.cell (p := ⟨Bf, 0, none⟩) hBf).trans cf) ((hW.cell (p := ⟨Bi, 0, none⟩) hBi).trans ci) hL h0

set_option maxRecDepth 100000 in
set_option maxHeartbeats 2000000 in
theorem deepOf_in (F : Fence) (n : Nat) (hf1 : F.fn 170) (hf2 : F.fn 172) (hf3 : F.fn 174) (hro : F.round = none) (hn : 3 ≤ n) (a : Option Addr) (len cap : Nat) (its : List It) (from_ : Int) (xs : List Nat) (w : World)
    (hI : ItRow w a len its) (hl : len ≤ 1048576) (hL : IsWay its from_ xs) (hxl : xs.length ≤ 2097152) :
    CallsIn F n Tryz.prog 170 #[.slice a len cap, .int .i64 from_] w fun e W' => e = .returned (.int .i64 (xs.length : Int)) ∧ Below w.heap.size w W' := by
  have h1 : 1 ≤ n := by omega
  refine callsIn_of_wp_marks Tryz.func170 rfl hf1 ?_ hro
  simp only [Tryz.ntmps170, List.size_toArray, List.length_cons, List.length_nil, Nat.reduceAdd, Nat.reduceSub, Array.replicate_succ, Array.replicate_zero, List.push_toArray, List.append_toArray, List.nil_append, List.cons_append]
  gi_wp2_with (gi_at_call 172; refine (wayUp_in F (n - 1) hf2 hro _ _ _ _ _).mono ?_; rintro e w' ⟨rfl, rfl⟩)
  have c0 := new_cell w (.int .i64 0) 2
  have c1 := new_cell (w.alloc (.cells #[.int .i64 0] 2)) (.slice a len cap) 172
  have c2 := new_cell ((w.alloc (.cells #[.int .i64 0] 2)).alloc (.cells #[.slice a len cap] 172)) (.int .i64 from_) 2
  simp only [World.size_alloc] at c1 c2
  have hB0 : Below w.heap.size w (((w.alloc (.cells #[.int .i64 0] 2)).alloc (.cells #[.slice a len cap] 172)).alloc (.cells #[.int .i64 from_] 2)) := (((Below.refl _ w).alloc (Nat.le_refl _) _).alloc (by simp) _).alloc (by simp; omega) _
  refine wpIn_rangeFunc_ownF hro h1 (gf := 174) (lb := #[.pointer (some ⟨w.heap.size + 1 + 1, 0, none⟩), .pointer (some ⟨w.heap.size + 1, 0, none⟩)]) rfl hf3 (enters_of Tryz.func174 (by kernel_rfl) rfl)
    (way_stops F (n - 1) hf3 hro (by omega) (w.heap.size + 1 + 1) (w.heap.size + 1) from_ a len cap its xs w _ hI hl hB0 (by simp) (by simp) c2.1 (old_cell _ c1.1) hL) kpW_t (kpW_b (by simp; omega)) (Below.refl _ _) (fun _ => rfl)
    (fun pre W => (W.cell? ⟨w.heap.size, 0, none⟩ = some (.int .i64 (pre.length : Int)) ∧ W.frozen? ⟨w.heap.size, 0, none⟩ = false) ∧ Below w.heap.size w W)
    (fun _ _ _ => False)
    (OwnFrom.and (Own.from (fun s A B row hs hg hr => ⟨cell_kept hs.1 hg hr, (frozen_kept hs.1 hg hr).trans hs.2⟩) _) (ownFrom_below (Nat.le_refl _) (by simp; omega)))
    (fun _ _ _ _ _ hs _ _ => hs)
    ⟨⟨old_cell _ (old_cell _ c0.1), old_free _ (old_cell _ c0.1) (old_free _ c0.1 c0.2)⟩, hB0⟩
    (fun x => { tmps := #[.slice a len cap, .int .i64 from_, undef, undef, .int .i64 0, .pointer (some ⟨w.heap.size, 0, none⟩), .slice a len cap, .int .i64 from_, .func (.func 174) #[] #[.pointer (some ⟨w.heap.size + 1 + 1, 0, none⟩), .pointer (some ⟨w.heap.size + 1, 0, none⟩)], .int .i64 (x : Int), undef, undef, undef], defers := [] }) ?assign ?body ?done ?stop
  case assign =>
    intro l x W K hK
    gi_wp2
    simpa using hK
  case body =>
    rintro l pre x W ⟨⟨hc, hf⟩, hB⟩ hlt
    have hp : ((pre.length : Nat) : Int) + 1 ≤ 2097152 := by omega
    have hp0 : (0 : Int) ≤ ((pre.length : Nat) : Int) := by omega
    have he : (((pre ++ [x]).length : Nat) : Int) = ((pre.length : Nat) : Int) + 1 := by simp
    have HE := hide he
    clear he
    generalize ((pre.length : Nat) : Int) = m at hc hp hp0 HE
    gi_wp2
    refine ⟨KeepsOthers.setCell _ _ _, ⟨(Below.refl w.heap.size W).setCell (p := ⟨w.heap.size, 0, none⟩) (Nat.le_refl _) _, fun v hv => ?_⟩, ⟨?_, by rw [World.frozen?_setCell]; exact hf⟩, hB.setCell (p := ⟨w.heap.size, 0, none⟩) (Nat.le_refl _) _⟩
    · rw [← hv]; exact World.cell?_of_block (Below.heap_setCell W ⟨w.heap.size, 0, none⟩ _ (w.heap.size + 1) (by simp))
    · rw [unhide HE]; exact World.cell?_setCell_same' _ _ _ (by rw [hc]; rfl)
  case done =>
    rintro D ys W hD rfl ⟨⟨hc, _⟩, hB⟩ hK
    gi_wp2
    refine ⟨by simp, .inl ⟨_, _, rfl, run_takeDeferred hK, ?_⟩⟩
    exact ⟨_, results_tmp rfl _ _ _, rfl, hB.trans (belowK_b (w := w) (Nat.le_refl _) W D _ _ (by simp at hD; omega) hK rfl rfl)⟩
  case stop =>
    rintro D c pre W _ _ h _
    exact h.elim

set_option maxRecDepth 100000 in
set_option maxHeartbeats 2000000 in
theorem isUpFrom_in (F : Fence) (n : Nat) (hf1 : F.fn 169) (hf2 : F.fn 172) (hf3 : F.fn 174) (hro : F.round = none) (hn : 3 ≤ n) (a : Option Addr) (len cap : Nat) (its : List It) (from_ : Int) (q : Nat) (xs : List Nat) (w : World)
    (hI : ItRow w a len its) (hl : len ≤ 1048576) (hL : IsWay its from_ xs) :
    CallsIn F n Tryz.prog 169 #[.slice a len cap, .int .i64 from_, .int .i64 (q : Int)] w fun e W' => e = .returned (.bool (decide (q ∈ xs))) ∧ Below w.heap.size w W' := by
  have h1 : 1 ≤ n := by omega
  refine callsIn_of_wp_marks Tryz.func169 rfl hf1 ?_ hro
  simp only [Tryz.ntmps169, List.size_toArray, List.length_cons, List.length_nil, Nat.reduceAdd, Nat.reduceSub, Array.replicate_succ, Array.replicate_zero, List.push_toArray, List.append_toArray, List.nil_append, List.cons_append]
  gi_wp2_with (gi_at_call 172; refine (wayUp_in F (n - 1) hf2 hro _ _ _ _ _).mono ?_; rintro e w' ⟨rfl, rfl⟩)
  have c0 := new_cell w (.int .i64 (q : Int)) 2
  have c1 := new_cell (w.alloc (.cells #[.int .i64 (q : Int)] 2)) (.bool false) 4
  have c2 := new_cell ((w.alloc (.cells #[.int .i64 (q : Int)] 2)).alloc (.cells #[.bool false] 4)) (.slice a len cap) 172
  have c3 := new_cell (((w.alloc (.cells #[.int .i64 (q : Int)] 2)).alloc (.cells #[.bool false] 4)).alloc (.cells #[.slice a len cap] 172)) (.int .i64 from_) 2
  simp only [World.size_alloc] at c1 c2 c3
  have hB0 : Below w.heap.size w ((((w.alloc (.cells #[.int .i64 (q : Int)] 2)).alloc (.cells #[.bool false] 4)).alloc (.cells #[.slice a len cap] 172)).alloc (.cells #[.int .i64 from_] 2)) := ((((Below.refl _ w).alloc (Nat.le_refl _) _).alloc (by simp) _).alloc (by simp; omega) _).alloc (by simp; omega) _
  refine wpIn_rangeFunc_ownF hro h1 (gf := 174) (lb := #[.pointer (some ⟨w.heap.size + 1 + 1 + 1, 0, none⟩), .pointer (some ⟨w.heap.size + 1 + 1, 0, none⟩)]) rfl hf3 (enters_of Tryz.func174 (by kernel_rfl) rfl)
    (way_stops F (n - 1) hf3 hro (by omega) (w.heap.size + 1 + 1 + 1) (w.heap.size + 1 + 1) from_ a len cap its xs w _ hI hl hB0 (by simp) (by simp) c3.1 (old_cell _ c2.1) hL) kpW_t (kpW_b (by simp; omega)) (Below.refl _ _) (fun _ => rfl)
    (fun pre W => ((∀ y ∈ pre, y ≠ q) ∧ W.cell? ⟨w.heap.size, 0, none⟩ = some (.int .i64 (q : Int)) ∧ W.cell? ⟨w.heap.size + 1, 0, none⟩ = some (.bool false) ∧ W.frozen? ⟨w.heap.size + 1, 0, none⟩ = false) ∧ Below w.heap.size w W)
    (fun c pre W => (c = .ret ∧ q ∈ pre ∧ W.cell? ⟨w.heap.size + 1, 0, none⟩ = some (.bool true)) ∧ Below w.heap.size w W)
    (OwnFrom.and (Own.from (fun s A B row hs hg hr => ⟨hs.1, cell_kept hs.2.1 hg hr, cell_kept hs.2.2.1 hg hr, (frozen_kept hs.2.2.1 hg hr).trans hs.2.2.2⟩) _) (ownFrom_below (Nat.le_refl _) (by simp; omega)))
    (fun c => OwnFrom.and (Own.from (fun s A B row hs hg hr => ⟨hs.1, hs.2.1, cell_kept hs.2.2 hg hr⟩) _) (ownFrom_below (Nat.le_refl _) (by simp; omega)))
    ⟨⟨by simp, old_cell _ (old_cell _ (old_cell _ c0.1)), old_cell _ (old_cell _ c1.1), old_free _ (old_cell _ c1.1) (old_free _ c1.1 c1.2)⟩, hB0⟩
    (fun x => { tmps := #[.slice a len cap, .int .i64 from_, .int .i64 (q : Int), undef, undef, .pointer (some ⟨w.heap.size, 0, none⟩), .pointer (some ⟨w.heap.size + 1, 0, none⟩), .int .i64 (x : Int), .slice a len cap, .int .i64 from_, .func (.func 174) #[] #[.pointer (some ⟨w.heap.size + 1 + 1 + 1, 0, none⟩), .pointer (some ⟨w.heap.size + 1 + 1, 0, none⟩)], .int .i64 (x : Int), undef, undef, undef], defers := [] }) ?assign ?body ?done ?stop
  case assign =>
    intro l x W K hK
    gi_wp2
    exact hK
  case body =>
    rintro l pre x W ⟨⟨hp, hcw, hcr, hfr⟩, hB⟩ _
    by_cases hx : x = q
    · subst hx
      gi_wp2
      exact ⟨KeepsOthers.setCell _ _ _, ⟨rfl, List.mem_append.2 (.inr (by simp)), World.cell?_setCell_same' _ _ _ (by rw [hcr]; rfl)⟩, hB.setCell (p := ⟨w.heap.size + 1, 0, none⟩) (by simp) _⟩
    · have hne : (((x : Nat) : Int) == ((q : Nat) : Int)) = false := by simp; omega
      gi_wp2
      exact ⟨KeepsOthers.refl _, ⟨Below.refl _ _, fun v hv => hv⟩, ⟨fun y hy => (List.mem_append.1 hy).elim (hp y) (fun e e' => by simp at e; subst e; exact hx e'), hcw, hcr, hfr⟩, hB⟩
  case done =>
    rintro D ys W hD rfl ⟨⟨hne, _, hcr, hfr⟩, hB⟩ hK
    gi_wp2
    have hK' := (KeepsOthers.setCell W ⟨w.heap.size + 1, 0, none⟩ (.bool false)).same D _ hK rfl
    refine ⟨by simp, .inl ⟨_, _, rfl, run_takeDeferred hK', ?_⟩⟩
    have hc5 := cell_kept (World.cell?_setCell_same' W ⟨w.heap.size + 1, 0, none⟩ (.bool false) (by rw [hcr]; rfl)) (grownBy_putObj' _ D (.deferred none)) (fun r e => by cases e; exact ⟨_, hK', rfl⟩)
    refine ⟨.bool false, ?_, by rw [decide_eq_false (fun h => hne q h rfl)], (hB.setCell (p := ⟨w.heap.size + 1, 0, none⟩) (by simp) _).trans (belowK_b (w := w) (Nat.le_refl _) _ D _ _ (by simp at hD; omega) hK' rfl rfl)⟩
    simp [results, Tryz.results169, go_sem, hc5]
  case stop =>
    rintro D c pre W hD hpre ⟨⟨rfl, hin, hcr⟩, hB⟩ hK
    gi_wp2
    refine ⟨by simp, .inl ⟨_, _, rfl, run_takeDeferred hK, ?_⟩⟩
    have hc5 := cell_kept hcr (grownBy_putObj' _ D (.deferred none)) (fun r e => by cases e; exact ⟨_, hK, rfl⟩)
    refine ⟨.bool true, ?_, by rw [decide_eq_true (hpre.subset hin)], hB.trans (belowK_b (w := w) (Nat.le_refl _) W D _ _ (by simp at hD; omega) hK rfl rfl)⟩
    simp [results, Tryz.results169, go_sem, hc5]

theorem deepOf_any (a : Option Addr) (len cap : Nat) (its : List It) (from_ : Int) (xs : List Nat) (w : World) (hI : ItRow w a len its) (hl : len ≤ 1048576) (hL : IsWay its from_ xs) (hxl : xs.length ≤ 2097152) :
    Calls Tryz.prog 170 #[.slice a len cap, .int .i64 from_] w fun e W' => e = .returned (.int .i64 (xs.length : Int)) ∧ Below w.heap.size w W' :=
  (callsIn_wide (n := 3)).1 (deepOf_in _ 3 trivial trivial trivial rfl (Nat.le_refl _) a len cap its from_ xs w hI hl hL hxl)

theorem isUpFrom_any (a : Option Addr) (len cap : Nat) (its : List It) (from_ : Int) (q : Nat) (xs : List Nat) (w : World) (hI : ItRow w a len its) (hl : len ≤ 1048576) (hL : IsWay its from_ xs) :
    Calls Tryz.prog 169 #[.slice a len cap, .int .i64 from_, .int .i64 (q : Int)] w fun e W' => e = .returned (.bool (decide (q ∈ xs))) ∧ Below w.heap.size w W' :=
  (callsIn_wide (n := 3)).1 (isUpFrom_in _ 3 trivial trivial trivial rfl (Nat.le_refl _) a len cap its from_ q xs w hI hl hL)

end Go.Proofs.YtioifgbnninmjaaGreatDoor

/- What is proved here: what the program's itemFault and ItemsFault answer: the fault of an item whose forerunners have none, and the first fault of items. -/
namespace Go.Proofs.YtioifgbnninmjaaGreatDoor
open Go.RowKit
set_option linter.unusedVariables false
set_option maxRecDepth 100000

theorem below_set3 (w : World) (x y z u v t : Value) (T : TypeId) : Below w.heap.size w (((((w.alloc (.cells #[x, y, z] T)).setCell ⟨w.heap.size, 0, none⟩ u).setCell ⟨w.heap.size, 1, none⟩ v).setCell ⟨w.heap.size, 2, none⟩ t)) :=
  (((below_alloc w _).setCell (Nat.le_refl _) _).setCell (Nat.le_refl _) _).setCell (Nat.le_refl _) _

set_option maxHeartbeats 4000000 in
theorem itemFault_any (a : Option Addr) (len cap : Nat) (its : List It) (k : Nat) (it : It) (w : World) (h : ItRow w a len its) (hl : len ≤ 1048576) (hit : its[k]? = some it) (hup : UpOk its k) :
    Calls Tryz.prog 164 #[.slice a len cap, .int .i64 (k : Int)] w fun e w' => e = .returned (.int .i64 (fltAt its k it)) ∧ Below w.heap.size w w' := by
  have hkl : k < its.length := (List.getElem?_eq_some_iff.1 hit).1
  have hkn : k < len := by rw [← h.1]; exact hkl
  have HW1 := hide (fun (W : World) (hb : Below w.heap.size w W) => h.below hb (Nat.le_refl _))
  obtain ⟨b, off, rfl, hb, hat⟩ := h.at (by omega)
  obtain ⟨sa, sl, sc, c0, c1, c2, hbr⟩ := hat k it hit
  have hsl : it.z.length = sl := hbr.1
  have HAT := hide hat
  have hio := (h.2.1 it (List.mem_of_getElem? hit)).2.2
  rw [hsl] at hio
  unfold maxLen at hio
  have i1 : (0 : Int) ≤ (k : Int) := by omega
  have i2 : (k : Int) < (len : Int) := by omega
  have hz0 : (0 : Int) ≤ (sl : Int) := by omega
  have hlen := h.1
  clear hat hbr h
  obtain ⟨il, ip, iz⟩ := it
  simp only at c0 c1 hsl
  by_cases t1 : il = true ∧ 0 < sl
  · obtain ⟨rfl, hpos⟩ := t1
    have HE : Hid (fltAt its k ⟨true, ip, iz⟩ = 1) := by show _ = _; unfold fltAt; rw [if_pos ⟨rfl, by simpa [hsl] using hpos⟩]
    have hd : decide ((0 : Int) < (sl : Int)) = true := decide_eq_true (by omega)
    go_enter Tryz.func164, Tryz.ntmps164
    go_wp2_with fail
    go_ret
    refine ⟨ret_int (unhide HE).symm, ?_⟩
    exact below_alloc w _
  · have n1 : ¬ (il = true ∧ 0 < iz.length) := by rw [hsl]; exact t1
    have t1' : il = false ∨ (il = true ∧ sl = 0) := by
      cases il
      · exact .inl rfl
      · refine .inr ⟨rfl, ?_⟩
        have : ¬ 0 < sl := fun hh => t1 ⟨rfl, hh⟩
        omega
    clear t1
    by_cases t2 : 300 < sl
    · have HE : Hid (fltAt its k ⟨il, ip, iz⟩ = 2) := by show _ = _; unfold fltAt; rw [if_neg n1, if_pos (by simpa [hsl] using t2)]
      obtain rfl : il = false := by rcases t1' with e | ⟨_, e⟩; exact e; omega
      have hd : decide ((300 : Int) < (sl : Int)) = true := decide_eq_true (by omega)
      clear n1 t1'
      go_enter Tryz.func164, Tryz.ntmps164
      go_wp2_with fail
      go_ret
      exact ⟨ret_int (unhide HE).symm, below_alloc w _⟩
    · have n2 : ¬ 300 < iz.length := by rw [hsl]; exact t2
      have d2 : decide ((300 : Int) < (sl : Int)) = false := decide_eq_false (by omega)
      by_cases k0 : k = 0
      · have dk : (((k : Nat) : Int) == 0) = true := by simp [k0]
        by_cases hp : ip = -1
        · subst hp
          have HE : Hid (fltAt its k ⟨il, -1, iz⟩ = 0) := by show _ = _; unfold fltAt; rw [if_neg n1, if_neg n2, if_pos k0, if_pos rfl]
          clear n1 n2 t2 k0
          rcases t1' with rfl | ⟨rfl, rfl⟩
          all_goals
            go_enter Tryz.func164, Tryz.ntmps164
            go_wp2_with fail
            go_ret
            exact ⟨ret_int (unhide HE).symm, below_alloc w _⟩
        · have HE : Hid (fltAt its k ⟨il, ip, iz⟩ = 3) := by show _ = _; unfold fltAt; rw [if_neg n1, if_neg n2, if_pos k0, if_neg hp]
          have hd : (ip != -1) = true := by simp [hp]
          clear n1 n2 t2 k0
          rcases t1' with rfl | ⟨rfl, rfl⟩
          all_goals
            go_enter Tryz.func164, Tryz.ntmps164
            go_wp2_with fail
            go_ret
            exact ⟨ret_int (unhide HE).symm, below_alloc w _⟩
      · have dk : (((k : Nat) : Int) == 0) = false := by simp; omega
        by_cases t3 : ip < 0 ∨ (k : Int) ≤ ip
        · have HE : Hid (fltAt its k ⟨il, ip, iz⟩ = 3) := by show _ = _; unfold fltAt; rw [if_neg n1, if_neg n2, if_neg k0, if_pos t3]
          clear n1 n2 t2
          by_cases t3a : ip < 0
          · have d3 : decide (ip < 0) = true := decide_eq_true t3a
            rcases t1' with rfl | ⟨rfl, rfl⟩
            all_goals
              go_enter Tryz.func164, Tryz.ntmps164
              go_wp2_with fail
              go_ret
              exact ⟨ret_int (unhide HE).symm, below_alloc w _⟩
          · have d3 : decide (ip < 0) = false := decide_eq_false t3a
            have d4 : decide ((k : Int) ≤ ip) = true := decide_eq_true (by omega)
            rcases t1' with rfl | ⟨rfl, rfl⟩
            all_goals
              go_enter Tryz.func164, Tryz.ntmps164
              go_wp2_with fail
              go_ret
              exact ⟨ret_int (unhide HE).symm, below_alloc w _⟩
        · have d3 : decide (ip < 0) = false := decide_eq_false (by omega)
          have d4 : decide ((k : Int) ≤ ip) = false := decide_eq_false (by omega)
          obtain ⟨q, rfl⟩ : ∃ q : Nat, ip = (q : Int) := ⟨ip.toNat, by omega⟩
          have hqk : q < k := by omega
          obtain ⟨jt, hjt⟩ : ∃ jt, its[q]? = some jt := ⟨_, List.getElem?_eq_getElem (by omega)⟩
          obtain ⟨ja, jl, jc, g0, g1, g2, _⟩ := (unhide HAT) q jt hjt
          have hla : lAt its q = jt.l := by unfold lAt; rw [hjt]
          obtain ⟨xs1, hx1⟩ := hup.way (by omega) (k - 1) (by omega)
          have e1 : ((k - 1 : Nat) : Int) = (k : Int) - 1 := by omega
          rw [e1] at hx1
          have hu1 := hx1.up (by omega)
          have hx2 : IsWay its (k : Int) (k :: upL its (q : Int)) := by
            obtain ⟨xq, hxq⟩ := hup.way (by omega) q hqk
            rw [hxq.up (by omega)]
            exact ⟨rfl, _, hit, by simp, by show (q : Int) < k; omega, hxq⟩
          have hu2 := hx2.up (by omega)
          have j1 : (0 : Int) ≤ (q : Int) := by omega
          have j2 : (q : Int) < (len : Int) := by omega
          have hxl : (k :: upL its (q : Int)).length ≤ 2097152 := by
            have : (upL its (q : Int)).length ≤ its.length + 1 := wayF_len _ _ _
            simp; omega
          generalize k :: upL its (q : Int) = xs2 at hx2 hu2 hxl
          have HF : Hid (fltAt its k ⟨il, (q : Int), iz⟩ = if jt.l = true ∧ q ∈ xs1 then (if 5 < xs2.length then 2 else 0) else 1) := by
            show _ = _
            unfold fltAt
            rw [if_neg n1, if_neg n2, if_neg k0, if_neg t3, Int.toNat_natCast, hla, hu1, hu2]
          have HX1 := hide hx1
          have HX2 := hide hx2
          have HUP := hide (fun (W : World) (hb : Below w.heap.size w W) => isUpFrom_any (some ⟨b, off, none⟩) len cap its ((k : Int) - 1) q xs1 W ((unhide HW1) W hb) hl hx1)
          have HDP := hide (fun (W : World) (hb : Below w.heap.size w W) => deepOf_any (some ⟨b, off, none⟩) len cap its (k : Int) xs2 W ((unhide HW1) W hb) hl hx2 hxl)
          generalize jt.l = jb at g0 HF
          clear n1 n2 t2 t3 hu1 hu2 hx1 hx2 hla e1 g1 g2 HX1 HX2 hjt
          cases jb
          · have HE : Hid (fltAt its k ⟨il, (q : Int), iz⟩ = 1) := by show _ = _; rw [unhide HF]; simp
            clear HF
            rcases t1' with rfl | ⟨rfl, rfl⟩
            all_goals
              go_enter Tryz.func164, Tryz.ntmps164
              go_wp2_with fail
              go_ret
              exact ⟨ret_int (unhide HE).symm, below_alloc w _⟩
          · by_cases hm : q ∈ xs1
            · have HM := hide hm
              have hdm : decide (q ∈ xs1) = true := decide_eq_true hm
              rw [hdm] at HUP
              by_cases h5 : 5 < xs2.length
              · have HE : Hid (fltAt its k ⟨il, (q : Int), iz⟩ = 2) := by show _ = _; rw [unhide HF]; simp [hm, h5]
                have d5 : decide ((5 : Int) < ((xs2.length : Nat) : Int)) = true := decide_eq_true (by omega)
                clear HF hdm hm
                rcases t1' with rfl | ⟨rfl, rfl⟩
                all_goals
                  go_enter Tryz.func164, Tryz.ntmps164
                  go_wp2_with fail
                  refine ((unhide HUP) _ (below_alloc w _)).mono ?_
                  rintro e w1 ⟨rfl, b1⟩
                  have B1 := (below_alloc w _).trans (b1.mono (below_alloc w _).size)
                  go_wp2_with fail
                  refine ((unhide HDP) _ B1).mono ?_
                  rintro e w2 ⟨rfl, b2⟩
                  have B2 := B1.trans (b2.mono B1.size)
                  go_wp2_with fail
                  go_ret
                  exact ⟨ret_int (unhide HE).symm, B2⟩
              · have HE : Hid (fltAt its k ⟨il, (q : Int), iz⟩ = 0) := by show _ = _; rw [unhide HF]; simp [hm, h5]
                have d5 : decide ((5 : Int) < ((xs2.length : Nat) : Int)) = false := decide_eq_false (by omega)
                clear HF hdm hm
                rcases t1' with rfl | ⟨rfl, rfl⟩
                all_goals
                  go_enter Tryz.func164, Tryz.ntmps164
                  go_wp2_with fail
                  refine ((unhide HUP) _ (below_alloc w _)).mono ?_
                  rintro e w1 ⟨rfl, b1⟩
                  have B1 := (below_alloc w _).trans (b1.mono (below_alloc w _).size)
                  go_wp2_with fail
                  refine ((unhide HDP) _ B1).mono ?_
                  rintro e w2 ⟨rfl, b2⟩
                  have B2 := B1.trans (b2.mono B1.size)
                  go_wp2_with fail
                  go_ret
                  exact ⟨ret_int (unhide HE).symm, B2⟩
            · have hdm : decide (q ∈ xs1) = false := decide_eq_false hm
              rw [hdm] at HUP
              have HE : Hid (fltAt its k ⟨il, (q : Int), iz⟩ = 1) := by show _ = _; rw [unhide HF]; simp [hm]
              clear HF hdm hm
              rcases t1' with rfl | ⟨rfl, rfl⟩
              all_goals
                go_enter Tryz.func164, Tryz.ntmps164
                go_wp2_with fail
                refine ((unhide HUP) _ (below_alloc w _)).mono ?_
                rintro e w1 ⟨rfl, b1⟩
                have B1 := (below_alloc w _).trans (b1.mono (below_alloc w _).size)
                go_wp2_with fail
                go_ret
                exact ⟨ret_int (unhide HE).symm, B1⟩

end Go.Proofs.YtioifgbnninmjaaGreatDoor

/- What is proved here: what the program's ItemsFault answers: the first fault of items. -/
namespace Go.Proofs.YtioifgbnninmjaaGreatDoor
open Go.RowKit
set_option linter.unusedVariables false
set_option maxRecDepth 100000

set_option maxHeartbeats 2000000 in
theorem implFault_any (a : Option Addr) (len cap : Nat) (its : List It) (w : World) (h : ItRow w a len its) (hl : len ≤ 1048576) :
    Calls Tryz.prog 151 #[.slice a len cap] w fun e w' => e = .returned (.int .i64 (itemsFlt its)) ∧ Below w.heap.size w w' := by
  have hil := h.1
  by_cases h1 : len < 1
  · have HE : Hid (itemsFlt its = 2) := by show _ = _; unfold itemsFlt; rw [if_pos (.inl (by rw [hil]; exact h1))]
    have hd : decide ((len : Int) < 1) = true := decide_eq_true (by omega)
    clear h hil
    go_enter Tryz.func151, Tryz.ntmps151
    go_wp2_with fail
    go_ret
    exact ⟨ret_int (unhide HE).symm, Below.refl _ _⟩
  · have d1 : decide ((len : Int) < 1) = false := decide_eq_false (by omega)
    by_cases h2 : 200 < len
    · have HE : Hid (itemsFlt its = 2) := by show _ = _; unfold itemsFlt; rw [if_pos (.inr (by rw [hil]; exact h2))]
      have hd : decide ((200 : Int) < (len : Int)) = true := decide_eq_true (by omega)
      clear h hil
      go_enter Tryz.func151, Tryz.ntmps151
      go_wp2_with fail
      go_ret
      exact ⟨ret_int (unhide HE).symm, Below.refl _ _⟩
    · have d2 : decide ((200 : Int) < (len : Int)) = false := decide_eq_false (by omega)
      have HE : Hid (itemsFlt its = fltFrom its 0 its) := by show _ = _; unfold itemsFlt; rw [if_neg (by omega)]
      have HW := hide (fun (W : World) (hb : Below w.heap.size w W) => h.below hb (Nat.le_refl _))
      have HL := hide hil
      clear h hil
      go_enter Tryz.func151, Tryz.ntmps151
      go_wp2_with fail
      go_loopw [15] (fun i wr => ∃ k : Nat, k ≤ len ∧ i = .int .i64 k ∧ UpOk its k ∧ fltFrom its 0 its = fltFrom its k (its.drop k) ∧ Below w.heap.size w wr) (fun i _ => len - (intOf i).toNat)
      case atStart => exact ⟨0, Nat.zero_le _, rfl, fun j it hj => absurd hj (Nat.not_lt_zero _), by simp, Below.refl _ _⟩
      case round =>
        obtain ⟨k, hk, rfl, hup, hpre, hbr⟩ := hrel
        by_cases hlt : k < len
        · obtain ⟨it, hit⟩ : ∃ it, its[k]? = some it := ⟨_, List.getElem?_eq_getElem (by rw [unhide HL]; exact hlt)⟩
          have hst := fltFrom_step its k it hit
          rw [← hpre] at hst
          have HF := hide (itemFault_any a len cap its k it wr ((unhide HW) wr hbr) hl hit hup)
          have HN : Hid (fltAt its k it = 0 → UpOk its (k + 1)) := fun e => upOk_step hup hit (fltAt_up e).1 (fltAt_up e).2
          have HS := hide hst
          have HB := hide hbr
          generalize fltAt its k it = c at HF HN HS
          have i2 : decide ((k : Int) < (len : Int)) = true := decide_eq_true (by omega)
          clear hst hpre hbr hup hit
          by_cases hc : c = 0
          · have HN1 := hide ((unhide HN) hc)
            have HS1 : Hid (fltFrom its 0 its = fltFrom its (k + 1) (its.drop (k + 1))) := by show _ = _; rw [unhide HS, if_pos hc]
            clear HN HS
            subst hc
            go_wp2_with fail
            refine (unhide HF).mono ?_
            rintro e w1 ⟨rfl, b1⟩
            go_wp2_with fail
            go_roundw
            case rel => exact ⟨k + 1, by omega, by go_num, unhide HN1, unhide HS1, (unhide HB).trans (b1.mono (unhide HB).size)⟩
            case measure => simp [intOf]; omega
          · have hne : (c != 0) = true := by simp [hc]
            go_wp2_with fail
            refine (unhide HF).mono ?_
            rintro e w1 ⟨rfl, b1⟩
            go_wp2_with fail
            go_ret
            exact ⟨ret_int (by rw [unhide HE, unhide HS, if_neg hc]), (unhide HB).trans (b1.mono (unhide HB).size)⟩
        · obtain rfl : k = len := by omega
          have e := fltFrom_end its k (by rw [unhide HL]; exact Nat.le_refl _)
          rw [e] at hpre
          have HP := hide hpre
          have i2 : decide ((k : Int) < (k : Int)) = false := decide_eq_false (by omega)
          clear e hpre hup
          go_wp2_with fail
          go_ret
          exact ⟨ret_int (by rw [unhide HE, unhide HP]), hbr⟩

end Go.Proofs.YtioifgbnninmjaaGreatDoor

/- What is proved here: what is known behind the block of an answer that was laid first; it holds for every program. -/
namespace Go.Proofs.YtioifgbnninmjaaGreatDoor
open Go.RowKit
set_option linter.unusedVariables false
set_option maxRecDepth 100000

/-- What is known behind the block of the answer. -/
theorem behind_res {w w2 : World} {T : TypeId} (hbel : Below (w.heap.size + 1) (w.alloc (.cells #[.int .i64 0, .slice none 0 0] T)) w2) :
    w2.cell? ⟨w.heap.size, 0, none⟩ = some (.int .i64 0) ∧ w2.cell? ⟨w.heap.size, 1, none⟩ = some (.slice none 0 0) ∧ w2.frozen? ⟨w.heap.size, 0, none⟩ = false ∧ w2.frozen? ⟨w.heap.size, 1, none⟩ = false ∧ Below w.heap.size w w2 ∧ w.heap.size + 1 ≤ w2.heap.size :=
  ⟨(hbel.cell (by simp)).trans (by simp), (hbel.cell (by simp)).trans (by simp), (hbel.frozen (by simp)).trans (by simp), (hbel.frozen (by simp)).trans (by simp), (below_alloc w _).trans (hbel.mono (by omega)), by have := hbel.size; simp at this; omega⟩

end Go.Proofs.YtioifgbnninmjaaGreatDoor

/- What is proved here: what the program's EncodeItems answers: the code and the bytes, in new memory. -/
namespace Go.Proofs.YtioifgbnninmjaaGreatDoor
open Go.RowKit
set_option linter.unusedVariables false
set_option maxRecDepth 100000

theorem hdI_range (it : It) (n : Nat) : ∀ x ∈ hdI it n, 0 ≤ x ∧ x ≤ 255 := by
  unfold hdI; split
  · intro x hx; simp at hx
  · exact hdBytes_range _ _

set_option maxHeartbeats 8000000 in
theorem implEnc_any (a : Option Addr) (len cap : Nat) (its : List It) (w : World) (h : ItRowN w a len its) (hl : len ≤ 1048576) :
    Calls Tryz.prog 140 #[.slice a len cap] w fun e w' => ∃ a' cap', e = .returned (.agg #[.int .i64 (enCode its), .slice a' (enBytes its).length cap']) ∧
      w'.ownsRow w.heap.size 5 1 (.slice a' (enBytes its).length cap') (enBytes its).length ((enBytes its).map (Value.int .u8)) ∧ Below w.heap.size w w' := by
  obtain ⟨i0, hi, hz0, hz1, hz2⟩ := info_parts info5
  have HF : Hid (∀ W g, W.heap.size = g → Below w.heap.size w W → Calls Tryz.prog 151 #[.slice a len cap] W fun e w' => e = .returned (.int .i64 (itemsFlt its)) ∧ Below g W w') := fun W g hg hb => by
    subst hg; exact implFault_any a len cap its W (h.1.below hb (Nat.le_refl _)) hl
  by_cases hf : itemsFlt its = 0
  · have N := noFault_of hf
    rw [hf] at HF
    have hlen := h.1.1
    have hl200 : len ≤ 200 := by rw [← hlen]; exact N.few
    have hl0 : 0 < len := by rw [← hlen]; exact N.some
    have HHD := hide (fun (W : World) (hb : Below w.heap.size w W) => headsOf_any a len cap its N W (h.below hb (Nat.le_refl _)))
    have htie := enc_tie N
    have hdl : (dFrom hdI its 0).length ≤ 61600 := by
      have := dN_le hdI hdI_length N.small its.length 0
      have h5 := N.few
      have : (dFrom hdI its 0).length ≤ 308 * its.length := this
      omega
    have hbytes := h.1.bytes
    obtain ⟨b, off, rfl, hb, hat⟩ := h.at hl0
    have HAT := hide hat
    have HBY := hide hbytes
    have HL := hide hlen
    have HT := hide htie
    clear hat h hbytes hlen htie
    go_enter Tryz.func140, Tryz.ntmps140
    go_wp2_with fail
    refine ((unhide HF) _ (w.heap.size + 1) (by simp) (below_alloc w _)).mono ?_
    rintro e w1 ⟨rfl, b1⟩
    have B1 : Below w.heap.size w w1 := (behind_res b1).2.2.2.2.1
    go_wp2_with fail
    refine ((unhide HHD) _ B1).mono ?_
    rintro e w3 ⟨rfl, hh3, b3⟩
    have s1 := (behind_res b1).2.2.2.2.2
    have B3 : Below (w.heap.size + 1) (w.alloc (.cells #[.int .i64 0, .slice none 0 0] 120)) w3 := b1.trans (b3.mono s1)
    have s3 := (behind_res B3).2.2.2.2.2
    have gh3 : w1.heap.size < w3.heap.size := by obtain ⟨hv, q1, _⟩ := hh3; exact q1.lt
    have HH3 := hide hh3
    have HB3 := hide B3
    generalize w1.heap.size = gh at HH3 gh3
    clear hh3 b3 b1 B1 B3 s1
    go_wp2_with fail
    go_loopw [5, 18] (fun s i wr => ∃ (k m : Nat) (L : List Int) (ab : Option Addr) (cb : Nat), k ≤ len ∧ i = .int .i64 k ∧ L.length = m ∧ L ++ dFrom hdI its k = dFrom hdI its 0 ∧ s = .slice ab m cb ∧ wr.ownsRow w3.heap.size 5 1 (.slice ab m cb) m (L.map (Value.int .u8)) ∧ Below w3.heap.size w3 wr) (fun _ i _ => len - (intOf i).toNat)
    case atStart => exact ⟨0, 0, [], none, 0, Nat.zero_le _, rfl, rfl, rfl, rfl, World.ownsRow_nil _ _ _ _, Below.refl _ _⟩
    case round =>
      obtain ⟨k, m, L, ab, cb, hk, rfl, hLm, hsplit, rfl, hown, hbr⟩ := hrel
      have BW : Below (w.heap.size + 1) (w.alloc (.cells #[.int .i64 0, .slice none 0 0] 120)) wr := (unhide HB3).trans (hbr.mono s3)
      obtain ⟨r0, r1, g0, g1, hbw, hsz⟩ := behind_res BW
      by_cases hlt : k < len
      · clear r0 r1 g0 g1
        obtain ⟨it, hit⟩ : ∃ it, its[k]? = some it := ⟨_, List.getElem?_eq_getElem (by rw [unhide HL]; exact hlt)⟩
        obtain ⟨sa, sc, c0, c1, c2, hrow, hnil⟩ := (unhide HAT) k it hit
        have c0r := (hbw.cell (p := ⟨b, off + k * 3, none⟩) hb).trans c0
        have c1r := (hbw.cell (p := ⟨b, off + k * 3 + 1, none⟩) hb).trans c1
        have c2r := (hbw.cell (p := ⟨b, off + k * 3 + 2, none⟩) hb).trans c2
        obtain ⟨hv, q1, q2, q3⟩ := (unhide HH3).below hbr (Nat.le_refl _)
        obtain ⟨ah, ch, p1, p2⟩ := q3 k it (Nat.zero_le _) hit
        have hd0 : wr.cell? ⟨gh, k, none⟩ = some (.slice ah (hdAt its k it).length ch) := by rw [q1.cell]; exact p1
        have hst := dFrom_step hdI hit
        have hhr := BRow.own2 p2 (hdI_range _ _)
        have hhc := own_cap p2
        have hh8 : (hdAt its k it).length ≤ 8 := hdI_length _ _
        have hz3 := N.small it (List.mem_of_getElem? hit)
        have HHR := hide (fun (W : World) (hb' : Below wr.heap.size wr W) => hhr.below hb' (Nat.le_refl _))
        have HZR := hide (fun (W : World) (hb' : Below w.heap.size w W) => hrow.below hb' (Nat.le_refl _))
        have hmb : m ≤ 61600 := by
          have : (L ++ dFrom hdI its k).length ≤ 61600 := by rw [hsplit]; exact hdl
          rw [List.length_append, hLm] at this
          omega
        have HNX : Hid (L ++ hdAt its k it ++ it.z ++ dFrom hdI its (k + 1) = dFrom hdI its 0) := by
          show _ = _
          rw [← hsplit, hst]
          simp [hdAt, List.append_assoc]
        have hzl : it.z.length = it.z.length := rfl
        generalize hdAt its k it = HK at hd0 hh8 HHR HNX p2 hhc
        obtain ⟨zl, hzl⟩ : ∃ zl, zl = it.z.length := ⟨_, rfl⟩
        rw [← hzl] at c2r hz3 HZR
        generalize it.z = zz at HZR HNX hzl
        generalize it.l = il at c0r
        have HZL := hide hzl
        have HLM := hide hLm
        have i1 : (0 : Int) ≤ (k : Int) := by omega
        have i2 : (k : Int) < (len : Int) := by omega
        have i3 : decide ((k : Int) < (len : Int)) = true := decide_eq_true i2
        have gl : gh < wr.heap.size := q1.lt
        have hd0' : ∀ o, (wr.alloc o).cell? ⟨gh, k, none⟩ = some (.slice ah HK.length ch) := fun o => ((below_alloc wr o).cell (p := ⟨gh, k, none⟩) gl).trans hd0
        have HOA := hide (fun o => hown.alloc o)
        have HLT := hide (fun g e => hown.lt g e)
        have hwr3 := hbr.size
        have HBR := hide hbr
        clear hst hhr hzl hLm hsplit hown hbr BW hbw q1 q2 q3 p1 p2 c0 c1 c2 hrow hit hd0
        have HWA : Hid (∀ o, Below wr.heap.size wr (wr.alloc o)) := fun o => below_alloc wr o
        go_wp2_with (at_builtin; refine wpList_append_brow _ rfl _ _ 36 rfl w3.heap.size i0 Tryz.underlying36 hi hz0 hz1 hz2 _ m L rfl ((unhide HOA) _) ah HK.length ch HK rfl ((unhide HHR) _ ((unhide HWA) _)) hhc (by omega) (by simp; omega) ?_)
        intro a4 c4 w4 o4 g4
        have K4 : Below w3.heap.size w3 w4 := ((unhide HBR).alloc hwr3 _).grown g4 (by simp; omega) (fun g e => ((unhide HLT) g e).1)
        have BW4 : Below w.heap.size w w4 := (behind_res ((unhide HB3).trans (K4.mono s3))).2.2.2.2.1
        have hne : ∀ g, (Value.slice ab m cb).ownBlock = some g → g < wr.heap.size := fun g e => ((unhide HLT) g e).2
        have ci : w4.cell? ⟨wr.heap.size, 2, none⟩ = some (.slice sa zl sc) := g4.cell (a := ⟨wr.heap.size, 2, none⟩) (by simp) (fun e => by have := hne _ e.symm; exact absurd this (Nat.lt_irrefl _))
        have hzr := (unhide HZR) w4 BW4
        have s34 := K4.size
        have HLT4 := hide (fun g e => (o4.lt g e).1)
        rw [← List.map_append] at o4
        have HO4 := hide o4
        have HK4 := hide K4
        clear o4 g4 K4 hd0' c0r c1r c2r BW4
        go_wp2_with (at_builtin; refine wpList_append_brow _ rfl _ _ 36 rfl w3.heap.size i0 Tryz.underlying36 hi hz0 hz1 hz2 _ (m + HK.length) (L ++ HK) rfl (unhide HO4) sa zl sc zz rfl hzr hnil (by omega) s34 ?_)
        intro a5 c5 w5 o5 g5
        have K5 : Below w3.heap.size w3 w5 := (unhide HK4).grown g5 s34 (fun g e => (unhide HLT4) g e)
        rw [← List.map_append] at o5
        have HO5 := hide o5
        have HK5 := hide K5
        clear o5 g5 K5 ci hzr
        go_wp2_with fail
        go_roundw
        case rel => exact ⟨k + 1, m + HK.length + zl, L ++ HK ++ zz, a5, c5, by omega, by go_num, by rw [List.length_append, List.length_append, unhide HLM, ← unhide HZL], unhide HNX, rfl, by simpa [List.append_assoc] using unhide HO5, unhide HK5⟩
        case measure => simp [intOf]; omega
      · obtain rfl : k = len := by omega
        have hde : dFrom hdI its k = [] := dFrom_end hdI its k (by rw [unhide HL]; exact Nat.le_refl _)
        rw [hde, List.append_nil] at hsplit
        have i3 : decide ((k : Int) < (k : Int)) = false := decide_eq_false (by omega)
        by_cases h12 : 1200 < (enc hdS its 0).length
        · have hgt := (unhide HT).1 h12
          rw [← hsplit, hLm] at hgt
          have HE1 : Hid (enCode its = 2) := by show _ = _; unfold enCode; rw [if_pos hf, if_pos h12]
          have HE2 : Hid (enBytes its = []) := by show _ = _; unfold enBytes; rw [if_neg (by omega)]
          have d1 : decide ((1200 : Int) < (m : Int)) = true := decide_eq_true (by omega)
          have HB := hide hbw
          clear hsplit hLm hown hbr BW hde h12 hbw
          go_wp2_with fail
          refine bodyPost_ret (v := .agg #[.int .i64 2, .slice none 0 0]) (by simp [results, Tryz.results140, go_sem, r0, r1]) rfl ⟨none, 0, ?_, ?_, ((unhide HB).setCell (by simp) _).setCell (by simp) _⟩
          · rw [unhide HE1, unhide HE2]; rfl
          · rw [unhide HE2]; exact World.ownsRow_nil _ _ _ _
        · have heq := (unhide HT).2 (by omega)
          rw [← hsplit] at heq
          have hm12 : m ≤ 1200 := by rw [← hLm, heq]; omega
          have HE1 : Hid (enCode its = 0) := by show _ = _; unfold enCode; rw [if_pos hf, if_neg h12]
          have HE2 : Hid (enBytes its = L) := by show _ = _; unfold enBytes; rw [if_pos ⟨hf, by omega⟩, heq]
          have d1 : decide ((1200 : Int) < (m : Int)) = false := decide_eq_false (by omega)
          have HB := hide hbw
          have HO := hide hown
          have HLM := hide hLm
          clear hsplit hLm hown hbr BW hde h12 hbw heq
          go_wp2_with fail
          refine bodyPost_ret (v := .agg #[.int .i64 0, .slice ab m cb]) (by simp [results, Tryz.results140, go_sem, r0, r1]) rfl ⟨ab, cb, ?_, ?_, ((unhide HB).setCell (by simp) _).setCell (by simp) _⟩
          · rw [unhide HE1, unhide HE2, unhide HLM]
          · rw [unhide HE2, unhide HLM]
            exact ownsRow_base (ownsRow_setCell_below (ownsRow_setCell_below (unhide HO) (by simp; omega) _) (by simp; omega) _) (by omega)
  · have e1 : enCode its = itemsFlt its := by unfold enCode; rw [if_neg hf]
    have e2 : enBytes its = [] := by unfold enBytes; rw [if_neg (fun hh => hf hh.1)]
    rw [e1, e2]
    have hne : (itemsFlt its != 0) = true := by simp [hf]
    generalize itemsFlt its = c at HF hne
    clear e1 e2 h hf
    go_enter Tryz.func140, Tryz.ntmps140
    go_wp2_with fail
    refine ((unhide HF) _ (w.heap.size + 1) (by simp) (below_alloc w _)).mono ?_
    rintro e w1 ⟨rfl, b1⟩
    obtain ⟨r0, r1, g0, g1, hbw, hsz⟩ := behind_res b1
    clear b1
    go_wp2_with fail
    exact bodyPost_ret (v := .agg #[.int .i64 c, .slice none 0 0]) (by simp [results, Tryz.results140, go_sem, r0, r1]) rfl ⟨none, 0, rfl, World.ownsRow_nil _ _ _ _, (hbw.setCell (by simp) _).setCell (by simp) _⟩

end Go.Proofs.YtioifgbnninmjaaGreatDoor

/- What is proved here: what the program's blockOf answers: the same eleven cells. -/
namespace Go.Proofs.YtioifgbnninmjaaGreatDoor
open Go.RowKit
set_option linter.unusedVariables false
set_option maxRecDepth 100000

set_option maxHeartbeats 4000000 in
theorem blockOf_any (x : HS) (h : Hd) (w : World) : Calls Tryz.prog 101 #[.agg (hvals x h)] w fun e w' => e = .returned (.agg (hvals x h)) ∧ Below w.heap.size w w' := by
  unfold hvals
  go_enter Tryz.func101, Tryz.ntmps101
  go_wp2_with fail
  refine bodyPost_ret (v := .agg #[.slice x.p.a x.p.n x.p.c, .int .i64 h.n1, .int .i64 h.n2, .int .i64 h.n3, .slice x.t.a x.t.n x.t.c, .int .i64 h.n5, .slice x.s.a x.s.n x.s.c, .slice x.r.a x.r.n x.r.c, .slice x.g.a x.g.n x.g.c, .slice x.e.a x.e.n x.e.c, .slice x.k.a x.k.n x.k.c]) (by simp [results, Tryz.results101, go_sem]) rfl ⟨rfl, ?_⟩
  exact ((Below.refl w.heap.size w).alloc (Nat.le_refl _) _).alloc (by simp) _

end Go.Proofs.YtioifgbnninmjaaGreatDoor

/- What is proved here: what the program's HeaderFault answers: the fault of a header. -/
namespace Go.Proofs.YtioifgbnninmjaaGreatDoor
open Go.RowKit
set_option linter.unusedVariables false
set_option maxRecDepth 100000

set_option maxRecDepth 100000 in
set_option maxHeartbeats 8000000 in
theorem hasLengths_any (x : HS) (h : Hd) (w : World) (o : HOk w x h) :
    Calls Tryz.prog 102 #[.agg (hvals x h)] w fun e w' => e = .returned (.bool (!hdLen h)) ∧ Below w.heap.size w w' := by
  have k0 := SBlk.new w (hvals x h) 143
  have hb := below_alloc w (.cells (hvals x h) 143)
  obtain ⟨W0, e0⟩ : ∃ W0, w.alloc (.cells (hvals x h) 143) = W0 := ⟨_, rfl⟩
  rw [e0] at k0 hb
  obtain ⟨x0, x1, x2, x3, x4, x5, x6, x7, x8, x9, x10⟩ := hcells k0
  have HC := hide (fun (W : World) (hb' : Below W0.heap.size W0 W) => hcells (k0.below hb' k0.lt))
  have HB := hide hb
  obtain ⟨b1, e1⟩ : ∃ b, (((x.p.n : Nat) : Int) != 32) = b := ⟨_, rfl⟩
  obtain ⟨b2, e2⟩ : ∃ b, (((x.t.n : Nat) : Int) != 0) = b := ⟨_, rfl⟩
  obtain ⟨b3, e3⟩ : ∃ b, (((x.t.n : Nat) : Int) != 4) = b := ⟨_, rfl⟩
  obtain ⟨b4, e4⟩ : ∃ b, (((x.r.n : Nat) : Int) != 32) = b := ⟨_, rfl⟩
  obtain ⟨b5, e5⟩ : ∃ b, (((x.g.n : Nat) : Int) != 4) = b := ⟨_, rfl⟩
  obtain ⟨b6, e6⟩ : ∃ b, (((x.e.n : Nat) : Int) != 0) = b := ⟨_, rfl⟩
  obtain ⟨b7, e7⟩ : ∃ b, (((x.e.n : Nat) : Int) != 4) = b := ⟨_, rfl⟩
  have HL : Hid (hdLen h = (b1 || (b2 && b3) || b4 || b5 || (b6 && b7))) := by
    show _ = _
    unfold hdLen
    rw [o.p.1, o.t.1, o.r.1, o.g.1, o.e.1, e1, e2, e3, e4, e5, e6, e7]
  have f1 : (((x.p.n : Nat) : Int) == 32) = !b1 := by rw [← e1]; simp [bne]
  have f4 : (((x.r.n : Nat) : Int) == 32) = !b4 := by rw [← e4]; simp [bne]
  have f5 : (((x.g.n : Nat) : Int) == 4) = !b5 := by rw [← e5]; simp [bne]
  have f6 : (((x.e.n : Nat) : Int) == 0) = !b6 := by rw [← e6]; simp [bne]
  have f7 : (((x.e.n : Nat) : Int) == 4) = !b7 := by rw [← e7]; simp [bne]
  have D1 := hide (fun W => isHash_any x.p.a x.p.n x.p.c W)
  have D2 := hide (fun W => hasAim_to x h b2 b3 W e2 e3)
  have D4 := hide (fun W => isHash_any x.r.a x.r.n x.r.c W)
  have D5 := hide (fun W => isAddr_any x.g.a x.g.n x.g.c W)
  simp only [f1] at D1
  simp only [f4] at D4
  simp only [f5] at D5
  clear o e1 e2 e3 e4 e5 e6 e7 f1 f4 f5 k0 hb
  generalize hdLen h = L at HL
  unfold hvals at e0 ⊢
  go_enter Tryz.func102, Tryz.ntmps102
  go_upto_region 1 with (rw [e0])
  try rw [e0]
  clear e0
  go_cut [3] (fun s wx => s = .bool (!(b6 && b7)) ∧ wx = W0)
  case first =>
    cases b6
    · have f6' : (((x.e.n : Nat) : Int) == 0) = true := f6
      clear f6 f7
      go_wp2_with fail
      go_meet
      exact ⟨rfl, rfl⟩
    · have f6' : (((x.e.n : Nat) : Int) == 0) = false := f6
      clear f6
      go_wp2_with fail
      go_meet
      exact ⟨by simp, rfl⟩
  case rest =>
    obtain ⟨rfl, hwc⟩ := hcut
    rw [hwc]
    clear hwc f6 f7
    generalize hb67 : (b6 && b7) = bs
    rw [hb67] at HL
    clear hb67
    generalize hb23 : (b2 && b3) = bt at D2
    rw [hb23] at HL
    clear hb23
    go_wp2_with fail
    refine ((unhide D1) _).mono ?_
    rintro e w1 ⟨rfl, rfl⟩
    cases b1
    case true =>
      go_wp2_with fail
      go_ret
      exact ⟨ret_bool (by rw [unhide HL]; simp), unhide HB⟩
    go_wp2_with fail
    refine ((unhide D2) _).mono ?_
    rintro e w1 ⟨rfl, b1⟩
    have HB1 := hide ((unhide HB).trans (b1.mono (unhide HB).size))
    cases bt
    case true =>
      go_wp2_with fail
      go_ret
      exact ⟨ret_bool (by rw [unhide HL]; simp), unhide HB1⟩
    obtain ⟨y0, y1, y2, y3, y4, y5, y6, y7, y8, y9, y10⟩ := (unhide HC) _ b1
    clear b1
    go_wp2_with fail
    refine ((unhide D4) _).mono ?_
    rintro e w2 ⟨rfl, rfl⟩
    cases b4
    case true =>
      go_wp2_with fail
      go_ret
      exact ⟨ret_bool (by rw [unhide HL]; simp), unhide HB1⟩
    go_wp2_with fail
    refine ((unhide D5) _).mono ?_
    rintro e w2 ⟨rfl, rfl⟩
    cases b5
    case true =>
      go_wp2_with fail
      go_ret
      exact ⟨ret_bool (by rw [unhide HL]; simp), unhide HB1⟩
    go_wp2_with fail
    go_ret
    exact ⟨ret_bool (by rw [unhide HL]; simp), unhide HB1⟩

set_option maxRecDepth 100000 in
set_option maxHeartbeats 8000000 in
theorem hasNumbers_any (x : HS) (h : Hd) (w : World) :
    Calls Tryz.prog 103 #[.agg (hvals x h)] w fun e w' => e = .returned (.bool (hdNum h)) ∧ Below w.heap.size w w' := by
  have k0 := SBlk.new w (hvals x h) 143
  have hb := below_alloc w (.cells (hvals x h) 143)
  obtain ⟨W0, e0⟩ : ∃ W0, w.alloc (.cells (hvals x h) 143) = W0 := ⟨_, rfl⟩
  rw [e0] at k0 hb
  obtain ⟨x0, x1, x2, x3, x4, x5, x6, x7, x8, x9, x10⟩ := hcells k0
  have HB := hide hb
  obtain ⟨c1, f1⟩ : ∃ c, within h.n1 0 1099511627776 = c := ⟨_, rfl⟩
  obtain ⟨c2, f2⟩ : ∃ c, within h.n2 0 1099511627776 = c := ⟨_, rfl⟩
  obtain ⟨c3, f3⟩ : ∃ c, within h.n3 0 9 = c := ⟨_, rfl⟩
  obtain ⟨c5, f5⟩ : ∃ c, within h.n5 0 2 = c := ⟨_, rfl⟩
  have HN : Hid (hdNum h = (c1 && c2 && c3 && c5)) := by
    show _ = _
    unfold hdNum
    rw [f1, f2, f3, f5]
  have D1 := hide (fun W => isNumber_to h.n1 c1 W f1)
  have D2 := hide (fun W => isNumber_to h.n2 c2 W f2)
  have D3 := hide (fun W => isWithin_to h.n3 0 9 c3 W f3)
  have D5 := hide (fun W => hasNonce_to x h c5 W f5)
  clear f1 f2 f3 f5 k0 hb
  generalize hdNum h = L at HN
  unfold hvals at e0 ⊢
  go_enter Tryz.func103, Tryz.ntmps103
  go_upto_region 1 with (rw [e0])
  try rw [e0]
  clear e0
  go_wp2_with fail
  refine ((unhide D1) _).mono ?_
  rintro e w1 ⟨rfl, rfl⟩
  cases c1
  · go_wp2_with fail
    go_ret
    exact ⟨ret_bool (by rw [unhide HN]; simp), unhide HB⟩
  go_wp2_with fail
  refine ((unhide D2) _).mono ?_
  rintro e w1 ⟨rfl, rfl⟩
  cases c2
  · go_wp2_with fail
    go_ret
    exact ⟨ret_bool (by rw [unhide HN]; simp), unhide HB⟩
  go_wp2_with fail
  refine ((unhide D3) _).mono ?_
  rintro e w1 ⟨rfl, rfl⟩
  cases c3
  · go_wp2_with fail
    go_ret
    exact ⟨ret_bool (by rw [unhide HN]; simp), unhide HB⟩
  go_wp2_with fail
  refine ((unhide D5) _).mono ?_
  rintro e w1 ⟨rfl, b1⟩
  go_wp2_with fail
  go_ret
  exact ⟨ret_bool (by rw [unhide HN]; simp), (unhide HB).trans (b1.mono (unhide HB).size)⟩

set_option maxRecDepth 100000 in
set_option maxHeartbeats 8000000 in
theorem implHeaderFault_any (x : HS) (h : Hd) (w : World) (o : HOk w x h) (m : HSm h) :
    Calls Tryz.prog 72 #[.agg (hvals x h)] w fun e w' => e = .returned (.int .i64 (hdFlt h)) ∧ Below w.heap.size w w' := by
  have k0 := SBlk.new w (hvals x h) 45
  have hb := below_alloc w (.cells (hvals x h) 45)
  obtain ⟨W0, e0⟩ : ∃ W0, w.alloc (.cells (hvals x h) 45) = W0 := ⟨_, rfl⟩
  rw [e0] at k0 hb
  obtain ⟨x0, x1, x2, x3, x4, x5, x6, x7, x8, x9, x10⟩ := hcells k0
  have HO := hide (fun (W : World) (hb : Below w.heap.size w W) => o.below hb (Nat.le_refl _))
  have hsl : x.s.n ≤ 1048576 := by have := o.s.1; have := m.s; omega
  have hkl : x.k.n ≤ 1048576 := by have := o.k.1; have := m.k; omega
  have HE : Hid (hdFlt h = if hdLen h = true then 1 else if hdNum h = false then 3 else if sgFlt h.s = 0 then coFlt h.k else sgFlt h.s) := rfl
  have D1 := hide (fun (W : World) (hb : Below w.heap.size w W) => hasLengths_any x h W ((unhide HO) W hb))
  have D2 := hide (fun (W : World) => hasNumbers_any x h W)
  have D3 := hide (fun (W : World) (hb : Below w.heap.size w W) => votesFault_any x h W ((unhide HO) W hb).s hsl)
  have D4 := hide (fun (W : World) (hb : Below w.heap.size w W) => commitsFault_any x h W ((unhide HO) W hb).k hkl)
  have D0 := hide (blockOf_any x h W0)
  have HB := hide hb
  clear o m hsl hkl HO k0 hb
  generalize hdLen h = L at HE D1
  generalize hdNum h = Nm at HE D2
  generalize sgFlt h.s = q at HE D3
  generalize coFlt h.k = cf at HE D4
  unfold hvals at e0 D0 D1 D2 D4 ⊢
  go_enter Tryz.func72, Tryz.ntmps72
  go_upto_region 1 with (rw [e0])
  try rw [e0]
  clear e0
  go_wp2_with fail
  refine (unhide D0).mono ?_
  rintro e w1 ⟨rfl, b1⟩
  have k1 := SBlk.new w1 (hvals x h) 143
  have hb1 := below_alloc w1 (.cells (hvals x h) 143)
  have hgl : w1.heap.size < (w1.alloc (.cells (hvals x h) 143)).heap.size := by simp
  have HB1 := hide ((unhide HB).trans ((b1.trans (hb1.mono b1.size)).mono (unhide HB).size))
  obtain ⟨W1, e1⟩ : ∃ W1, w1.alloc (.cells (hvals x h) 143) = W1 := ⟨_, rfl⟩
  rw [e1] at k1 HB1 hgl
  obtain ⟨y0, y1, y2, y3, y4, y5, y6, y7, y8, y9, y10⟩ := hcells k1
  have HC := hide (fun (W : World) (hb' : Below W1.heap.size W1 W) => hcells (k1.below hb' k1.lt))
  clear b1 hb1 k1 D0 HB x0 x1 x2 x3 x4 x5 x6 x7 x8 x9 x10
  unfold hvals at e1
  generalize hgb : w1.heap.size = gb at y0 y1 y2 y3 y4 y5 y6 y7 y8 y9 y10 HC hgl ⊢
  go_upto_region 2 with (rw [e1])
  try rw [e1]
  try rw [hgb]
  clear e1 hgb
  go_wp2_with fail
  refine ((unhide D1) _ (unhide HB1)).mono ?_
  rintro e w2 ⟨rfl, b2⟩
  have HB2 := hide ((unhide HB1).trans (b2.mono (unhide HB1).size))
  cases L
  case true =>
    go_wp2_with fail
    go_ret
    exact ⟨ret_int (by rw [unhide HE]; simp), unhide HB2⟩
  have K2 := hide b2
  obtain ⟨z0, z1, z2, z3, z4, z5, z6, z7, z8, z9, z10⟩ := (unhide HC) _ b2
  clear b2 y0 y1 y2 y3 y4 y5 y6 y7 y8 y9 y10
  go_wp2_with fail
  refine ((unhide D2) _).mono ?_
  rintro e w3 ⟨rfl, b3⟩
  have HB3 := hide ((unhide HB2).trans (b3.mono (unhide HB2).size))
  cases Nm
  · go_wp2_with fail
    go_ret
    exact ⟨ret_int (by rw [unhide HE]; simp), unhide HB3⟩
  have K3 := hide ((unhide K2).trans (b3.mono (unhide K2).size))
  obtain ⟨u0, u1, u2, u3, u4, u5, u6, u7, u8, u9, u10⟩ := (unhide HC) _ (unhide K3)
  clear b3 z0 z1 z2 z3 z4 z5 z6 z7 z8 z9 z10 K2 HB2
  go_wp2_with fail
  refine ((unhide D3) _ (unhide HB3)).mono ?_
  rintro e w4 ⟨rfl, b4⟩
  have HB4 := hide ((unhide HB3).trans (b4.mono (unhide HB3).size))
  have K4 := hide ((unhide K3).trans (b4.mono (unhide K3).size))
  clear b4 u0 u1 u2 u3 u4 u5 u6 u7 u8 u9 u10
  by_cases hq : q = 0
  · subst hq
    obtain ⟨v0, v1, v2, v3, v4, v5, v6, v7, v8, v9, v10⟩ := (unhide HC) _ (unhide K4)
    go_wp2_with fail
    refine ((unhide D4) _ (unhide HB4)).mono ?_
    rintro e w5 ⟨rfl, b5⟩
    go_wp2_with fail
    go_ret
    exact ⟨ret_int (by rw [unhide HE]; simp), (unhide HB4).trans (b5.mono (unhide HB4).size)⟩
  · have hne : (q != 0) = true := by simp [hq]
    go_wp2_with fail
    go_ret
    exact ⟨ret_int (by rw [unhide HE]; simp [hq]), unhide HB4⟩

end Go.Proofs.YtioifgbnninmjaaGreatDoor
