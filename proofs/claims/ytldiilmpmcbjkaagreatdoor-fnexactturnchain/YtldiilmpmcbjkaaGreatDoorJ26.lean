/- What is proved here: what AtNumber of the program and of the model answers: the place of a number in the chain that counts. -/
import Derived.Test.YtldiilmpmcbjkaaGreatDoorJ25
import Derived.RangeFuncFrom
import Derived.RangeFuncLeaves
import Derived.Shelf.Abstract
import Derived.WalkKit
import Derived.OwnWalkIn
import Derived.TacticsInMore
import Derived.LoopNIn
import Derived.LoopIn
import Derived.Scope
import Derived.Test.YtldiilmpmcbjkaaGreatDoorChecked
import Derived.Test.YtldiilmpmcbjkaaGreatDoorJ1
import Derived.Test.YtldiilmpmcbjkaaGreatDoorJ15
import Derived.WalkLawsBesides
import Derived.WalkSmall
import Derived.KernelRfl
import Derived.Test.YtldiilmpmcbjkaaGreatDoorJ16
import Derived.Test.YtldiilmpmcbjkaaGreatDoorJ19
namespace Go.Proofs.YtldiilmpmcbjkaaGreatDoor
open Go.RowKit
set_option linter.unusedVariables false
set_option linter.unusedSimpArgs false
set_option maxRecDepth 100000

/-- The number of the entry of a place. -/
def numAt (xs : List En) (p : Int) : Int := match xs[p.toNat]? with
  | some x => x.1.n1
  | none => -1

/-- The first of some places whose entry has that number; -1: there is none. -/
def atL (xs : List En) (n : Int) : List Int → Int
  | [] => -1
  | p :: r => if numAt xs p = n then p else atL xs n r

/-- Code and value of AtNumber. -/
def anCode (x : St) (n : Int) : Int := if stFlt x = 0 then (if atL x.2 n (coList x) = -1 then 4 else 0) else stFlt x
def anVal (x : St) (n : Int) : Int := if stFlt x = 0 then (if atL x.2 n (coList x) = -1 then 0 else atL x.2 n (coList x)) else 0

theorem an_cases (x : St) (n : Int) : (stFlt x ≠ 0 ∧ anCode x n = stFlt x ∧ anVal x n = 0) ∨ (stFlt x = 0 ∧ atL x.2 n (coList x) = -1 ∧ anCode x n = 4 ∧ anVal x n = 0) ∨ (stFlt x = 0 ∧ atL x.2 n (coList x) ≠ -1 ∧ anCode x n = 0 ∧ anVal x n = atL x.2 n (coList x)) := by
  unfold anCode anVal
  by_cases h : stFlt x = 0
  · rw [if_pos h, if_pos h]
    by_cases k : atL x.2 n (coList x) = -1
    · rw [if_pos k, if_pos k]; exact .inr (.inl ⟨h, k, rfl, rfl⟩)
    · rw [if_neg k, if_neg k]; exact .inr (.inr ⟨h, k, rfl, rfl⟩)
  · rw [if_neg h, if_neg h]; exact .inl ⟨h, rfl, rfl⟩

/-- Each place of a line is one of the entries. -/
theorem clL_in {xs : List En} (h : UpsOk xs) : ∀ (n : Nat) (p : Int), -1 ≤ p → p < xs.length → ∀ q ∈ clL xs n p, 0 ≤ q ∧ q < xs.length
  | 0, p, _, _, q, hq => by simp [clL] at hq
  | n + 1, p, h0, h1, q, hq => by
    rw [clL] at hq
    split at hq
    · simp at hq
    · rename_i hp
      rcases List.mem_cons.1 hq with rfl | hq
      · omega
      · have k := up_next h (p := p) (by omega) h1
        exact clL_in h n (upAt xs p) k.1 (by omega) q hq

theorem lineL_in {xs : List En} (h : UpsOk xs) {p : Int} (h0 : -1 ≤ p) (h1 : p < xs.length) : ∀ q ∈ lineL xs p, 0 ≤ q ∧ q < xs.length := fun q hq => by
  unfold lineL at hq
  exact clL_in h _ p h0 h1 q (List.mem_reverse.1 hq)

theorem co_in {x : St} : ∀ q ∈ coList x, 0 ≤ q ∧ q < x.2.length := fun q hq => by
  unfold coList at hq
  split at hq
  · rename_i h0
    have hb := bestL_lt (xs := x.2) (by have := (st_zero h0).2.1; omega)
    exact lineL_in (st_ups h0) (by omega) (by omega) q hq
  · simp at hq

theorem atL_range {xs : List En} {n : Int} : ∀ (l : List Int), (∀ q ∈ l, 0 ≤ q ∧ q < xs.length) → -1 ≤ atL xs n l ∧ atL xs n l < xs.length ∨ l = [] ∧ atL xs n l = -1
  | [], _ => .inr ⟨rfl, rfl⟩
  | p :: r, h => by
    rw [atL]
    have h1 := h p (by simp)
    split
    · exact .inl ⟨by omega, h1.2⟩
    · rcases atL_range r (fun q hq => h q (by simp [hq])) with k | ⟨_, k⟩
      · exact .inl k
      · rw [k]; exact .inl ⟨by omega, by omega⟩

/-- The search from a place of the list on. -/
theorem atL_drop {xs : List En} {n : Int} (l : List Int) (i : Nat) (p : Int) (h : l[i]? = some p) : atL xs n (l.drop i) = if numAt xs p = n then p else atL xs n (l.drop (i + 1)) := by
  obtain ⟨hk, e⟩ := List.getElem?_eq_some_iff.1 h
  rw [List.drop_eq_getElem_cons hk, e]
  rfl

theorem numAt_of {xs : List En} {k : Nat} {x : En} (h : xs[k]? = some x) : numAt xs (k : Int) = x.1.n1 := by
  unfold numAt
  simp only [Int.toNat_natCast, h]

end Go.Proofs.YtldiilmpmcbjkaaGreatDoor

/- What is proved here: plain facts on what two lines have: the last place of both; no program is named. -/
namespace Go.Proofs.YtldiilmpmcbjkaaGreatDoor
open Go.RowKit
set_option linter.unusedVariables false
set_option linter.unusedSimpArgs false
set_option maxRecDepth 100000

/-- How many places two lines have alike from the first one on. -/
def cmn : List Int → List Int → Nat
  | x :: r, y :: t => if x = y then cmn r t + 1 else 0
  | _, _ => 0

/-- The first of some places that a list has; -1: there is none. -/
def lob (b : List Int) : List Int → Int
  | [] => -1
  | p :: r => if p ∈ b then p else lob b r

theorem cmn_le : ∀ (a b : List Int), cmn a b ≤ a.length ∧ cmn a b ≤ b.length
  | [], b => by simp [cmn]
  | x :: r, [] => by simp [cmn]
  | x :: r, y :: t => by
    have := cmn_le r t
    unfold cmn
    split
    · simp; omega
    · simp

theorem cmn_take : ∀ (a b : List Int), a.take (cmn a b) = b.take (cmn a b)
  | [], b => by simp [cmn]
  | x :: r, [] => by simp [cmn]
  | x :: r, y :: t => by
    unfold cmn
    split
    · rename_i h
      rw [List.take_succ_cons, List.take_succ_cons, h, cmn_take r t]
    · simp

theorem cmn_stop : ∀ (a b : List Int) (x y : Int), a[cmn a b]? = some x → b[cmn a b]? = some y → x ≠ y
  | [], b, x, y, h, _ => by simp at h
  | u :: r, [], x, y, _, h => by simp at h
  | u :: r, v :: t, x, y, h1, h2 => by
    unfold cmn at h1 h2
    split at h1
    · rename_i h
      rw [if_pos h] at h2
      rw [List.getElem?_cons_succ] at h1 h2
      exact cmn_stop r t x y h1 h2
    · rename_i h
      rw [if_neg h] at h2
      simp at h1 h2
      subst h1
      subst h2
      exact h

theorem lob_skip (b : List Int) : ∀ (l m : List Int), (∀ p ∈ l, p ∉ b) → lob b (l ++ m) = lob b m
  | [], m, _ => rfl
  | p :: r, m, h => by
    rw [List.cons_append, lob, if_neg (h p (by simp))]
    exact lob_skip b r m (fun q hq => h q (by simp [hq]))

/-- What stands ahead of a place in a line is the line to that place. -/
theorem line_take {xs : List En} (h : UpsOk xs) : ∀ (n : Nat) (p : Int), (p + 1).toNat ≤ n → -1 ≤ p → p < xs.length → ∀ (i : Nat) (q : Int), (lineL xs p)[i]? = some q → (lineL xs p).take (i + 1) = lineL xs q
  | 0, p, h1, h2, h3, i, q, hq => by
    obtain rfl : p = -1 := by omega
    rw [lineL_none] at hq
    simp at hq
  | n + 1, p, h1, h2, h3, i, q, hq => by
    by_cases hp : p = -1
    · subst hp
      rw [lineL_none] at hq
      simp at hq
    · have k := up_next h (p := p) (by omega) h3
      have e := lineL_step h (p := p) (by omega) h3
      rw [e] at hq ⊢
      rcases Nat.lt_trichotomy i (lineL xs (upAt xs p)).length with hi | hi | hi
      · rw [List.getElem?_append_left hi] at hq
        rw [List.take_append_of_le_length (by omega)]
        exact line_take h n (upAt xs p) (by omega) k.1 (by omega) i q hq
      · rw [List.getElem?_append_right (by omega), hi] at hq
        simp at hq
        subst hq
        rw [hi, List.take_of_length_le (by simp), ← e]
      · rw [List.getElem?_append_right (by omega)] at hq
        rw [List.getElem?_eq_none (by simp; omega)] at hq
        cases hq

theorem line_zero {xs : List En} (h : UpsOk xs) : ∀ (n : Nat) (p : Int), (p + 1).toNat ≤ n → 0 ≤ p → p < xs.length → (lineL xs p)[0]? = some 0
  | 0, p, h1, h2, h3 => by omega
  | n + 1, p, h1, h2, h3 => by
    have k := up_next h h2 h3
    rw [lineL_step h h2 h3]
    by_cases hu : upAt xs p = -1
    · rw [hu, lineL_none]
      have : p = 0 := by
        obtain ⟨x, hx⟩ : ∃ x, xs[p.toNat]? = some x := ⟨_, List.getElem?_eq_getElem (by omega)⟩
        have ku := h _ x hx
        unfold upAt at hu
        rw [hx] at hu
        simp only at hu
        unfold upOk at ku
        split at ku
        · omega
        · simp only [within, decide_eq_true_eq] at ku
          omega
      subst this
      rfl
    · have hz := line_zero h n (upAt xs p) (by omega) (by omega) (by omega)
      have hl : 0 < (lineL xs (upAt xs p)).length := (List.getElem?_eq_some_iff.1 hz).1
      rw [List.getElem?_append_left hl]
      exact hz

theorem cmn_pos {a b : List Int} {x : Int} (h1 : a[0]? = some x) (h2 : b[0]? = some x) : 1 ≤ cmn a b := by
  match a, b, h1, h2 with
  | u :: r, v :: t, h1, h2 =>
    simp at h1 h2
    subst h1
    subst h2
    unfold cmn
    rw [if_pos rfl]
    omega

/-- Behind what two lines have alike no place of the one is in the other. -/
theorem line_apart {xs : List En} (h : UpsOk xs) {p q : Int} (hp : 0 ≤ p ∧ p < xs.length) (hq : 0 ≤ q ∧ q < xs.length) (i : Nat) (u : Int) (hi : cmn (lineL xs p) (lineL xs q) ≤ i) (hu : (lineL xs p)[i]? = some u) : u ∉ lineL xs q := fun hm => by
  obtain ⟨j, hj⟩ := List.getElem?_of_mem hm
  have e1 := line_take h _ p (Nat.le_refl _) (by omega) hp.2 i u hu
  have e2 := line_take h _ q (Nat.le_refl _) (by omega) hq.2 j u hj
  have hil := (List.getElem?_eq_some_iff.1 hu).1
  have hjl := (List.getElem?_eq_some_iff.1 hj).1
  have hlen : i = j := by
    have := congrArg List.length (e1.trans e2.symm)
    simp only [List.length_take] at this
    omega
  subst hlen
  have e3 := e1.trans e2.symm
  obtain ⟨x, hx⟩ : ∃ x, (lineL xs p)[cmn (lineL xs p) (lineL xs q)]? = some x := ⟨_, List.getElem?_eq_getElem (by omega)⟩
  obtain ⟨y, hy⟩ : ∃ y, (lineL xs q)[cmn (lineL xs p) (lineL xs q)]? = some y := ⟨_, List.getElem?_eq_getElem (by omega)⟩
  refine cmn_stop _ _ x y hx hy ?_
  have f1 : ((lineL xs p).take (i + 1))[cmn (lineL xs p) (lineL xs q)]? = some x := by rw [List.getElem?_take, if_pos (by omega)]; exact hx
  have f2 : ((lineL xs q).take (i + 1))[cmn (lineL xs p) (lineL xs q)]? = some y := by rw [List.getElem?_take, if_pos (by omega)]; exact hy
  rw [e3] at f1
  exact Option.some.inj (f1.symm.trans f2)

/-- The last place that two lines have. -/
theorem lob_line {xs : List En} (h : UpsOk xs) {p q : Int} (hp : 0 ≤ p ∧ p < xs.length) (hq : 0 ≤ q ∧ q < xs.length) : 1 ≤ cmn (lineL xs p) (lineL xs q) ∧ (lineL xs p)[cmn (lineL xs p) (lineL xs q) - 1]? = some (lob (lineL xs q) (lineL xs p).reverse) := by
  have h1 := cmn_pos (line_zero h _ p (Nat.le_refl _) hp.1 hp.2) (line_zero h _ q (Nat.le_refl _) hq.1 hq.2)
  refine ⟨h1, ?_⟩
  have hle := cmn_le (lineL xs p) (lineL xs q)
  have ht := cmn_take (lineL xs p) (lineL xs q)
  have hap := fun i u => line_apart h hp hq i u
  generalize lineL xs p = A at *
  generalize lineL xs q = B at *
  generalize cmn A B = n at *
  obtain ⟨k, rfl⟩ : ∃ k, n = k + 1 := ⟨n - 1, by omega⟩
  obtain ⟨u, hu⟩ : ∃ u, A[k]? = some u := ⟨_, List.getElem?_eq_getElem (by omega)⟩
  have hub : u ∈ B := by
    have : (A.take (k + 1))[k]? = some u := by rw [List.getElem?_take, if_pos (by omega)]; exact hu
    rw [ht] at this
    exact List.mem_of_mem_take (List.mem_of_getElem? this)
  have e : A.reverse = (A.drop (k + 1)).reverse ++ (u :: (A.take k).reverse) := by
    have e1 : A = A.take (k + 1) ++ A.drop (k + 1) := (List.take_append_drop (k + 1) A).symm
    have e2 : A.take (k + 1) = A.take k ++ [u] := by rw [List.take_add_one, hu]; rfl
    rw [e2] at e1
    conv => lhs; rw [e1]
    simp
  rw [e, lob_skip B _ _ (fun y hy => ?_), lob, if_pos hub]
  · exact hu
  · rw [List.mem_reverse] at hy
    obtain ⟨j, hj⟩ := List.getElem?_of_mem hy
    rw [List.getElem?_drop] at hj
    exact hap (k + 1 + j) y (by omega) hj

end Go.Proofs.YtldiilmpmcbjkaaGreatDoor

/- What is proved here: the last place that two lists have, in the program (slices.Backward, lastOfBoth). -/
namespace Go.Proofs.YtldiilmpmcbjkaaGreatDoor
open Go.RowKit Go.Shelf
set_option linter.unusedVariables false
set_option linter.unusedSimpArgs false
set_option maxRecDepth 100000

attribute [local go_sem] Oper.semAt_some

/-- What a round of a loop keeps: what lay below n0, and the cell of one block. -/
def KpF (n0 Bi : Nat) (W W' : World) : Prop := Below n0 W W' ∧ ∀ v, W.cell? ⟨Bi, 0, none⟩ = some v → W'.cell? ⟨Bi, 0, none⟩ = some v

theorem kpF_t {n0 Bi : Nat} {A B C : World} (h : KpF n0 Bi A B) (k : KpF n0 Bi B C) : KpF n0 Bi A C := ⟨h.1.trans k.1, fun v hv => k.2 v (h.2 v hv)⟩

theorem kpF_b {n0 Bi : Nat} {w : World} (hn : n0 ≤ w.heap.size) (W : World) (l : Nat) (o o' : Obj) (hl : w.heap.size ≤ l) (h : W.heap[l]? = some o) (hc : o.isCells = false) (hw : o.isWalk = false) : KpF n0 Bi W (W.putObj l o') :=
  ⟨belowK_b hn W l o o' hl h hc hw, fun v hv => cell_kept hv (grownBy_putObj' W l o') (fun r e => by cases e; exact ⟨_, h, hc⟩)⟩

theorem newc (W : World) (v : Value) (t : TypeId) : (W.alloc (.cells #[v] t)).cell? ⟨W.heap.size, 0, none⟩ = some v ∧ (W.alloc (.cells #[v] t)).frozen? ⟨W.heap.size, 0, none⟩ = false := by
  constructor <;> simp

theorem oldc {W : World} {a : Addr} {v : Value} (o : Obj) (h : W.cell? a = some v) : (W.alloc o).cell? a = some v := cell_kept h (World.grownBy_alloc W o none) (fun r e => by cases e)
theorem oldf {W : World} {a : Addr} {v : Value} (o : Obj) (h : W.cell? a = some v) (hf : W.frozen? a = false) : (W.alloc o).frozen? a = false := (frozen_kept h (World.grownBy_alloc W o none) (fun r e => by cases e)).trans hf

/-- The places of a list from the last one on. -/
def bk : Nat → List Nat
  | 0 => []
  | m + 1 => m :: bk m

theorem bk_len : ∀ n, (bk n).length = n
  | 0 => rfl
  | n + 1 => by rw [bk, List.length_cons, bk_len n]

set_option maxHeartbeats 2000000 in
theorem back1_in (F : Fence) (n : Nat) (hfn : F.fn 60) (hro : F.round = none) (hn : 1 ≤ n) (l Bi : Nat) (a : Option Addr) (len cap : Nat) (L : List Int) (w0 : World) (hI : IRow w0 a len L) (hl : len ≤ 1048576)
    (J Jx : List Nat → World → Prop)
    (hY : ∀ pre (x : Nat) W, J pre W → pre.length < (bk len).length → YieldAt F (n - 1) Tryz.prog l #[.int .i64 (x : Int), .int .i64 (L.getD x 0)] W fun e W' =>
      (e = .returned (.bool true) ∧ J (pre ++ [x]) W' ∧ KpF w0.heap.size Bi W W') ∨ (e = .returned (.bool false) ∧ Jx (pre ++ [x]) W'))
    (W : World) (hB0 : Below w0.heap.size w0 W) (hBi : W.cell? ⟨Bi, 0, none⟩ = some (.slice a len cap)) (h0 : J [] W) :
    CallsIn F n Tryz.prog 60 #[.func (.yield l) #[] #[], .pointer (some ⟨Bi, 0, none⟩)] W fun e W' => (∃ v, e = .returned v) ∧
      ((∃ ys, ys = bk len ∧ J ys W') ∨ (∃ pre, pre <+: bk len ∧ Jx pre W')) := by
  have HI := hide hI
  clear hI
  refine callsIn_of_wp Tryz.func60 rfl hfn ?_ hro
  simp only [Tryz.ntmps60, List.size_toArray, List.length_cons, List.length_nil, Nat.reduceAdd, Nat.reduceSub, Array.replicate_succ, Array.replicate_zero, List.push_toArray, List.append_toArray, List.nil_append, List.cons_append]
  gi_wp2
  gi_loopw [3] (fun p wr => ∃ (pre : List Nat) (m : Nat), p = .int .i64 ((m : Int) - 1) ∧ bk len = pre ++ bk m ∧ m ≤ len ∧ Below w0.heap.size w0 wr ∧ wr.cell? ⟨Bi, 0, none⟩ = some (.slice a len cap) ∧ J pre wr)
    (fun p wr => (intOf p + 1).toNat)
  case atStart =>
    exact ⟨[], len, rfl, rfl, Nat.le_refl _, hB0, hBi, h0⟩
  case round =>
    obtain ⟨pre, m, rfl, hx, hm, hb, hbi, hJs⟩ := hrel
    clear hB0 hBi h0
    cases m with
    | zero =>
      have d0 : decide (((0 : Nat) : Int) - 1 ≥ 0) = false := rfl
      rw [bk, List.append_nil] at hx
      gi_wp2
      go_end0
      exact ⟨⟨_, rfl⟩, .inl ⟨pre, hx.symm, hJs⟩⟩
    | succ m =>
      have m0 : ((m + 1 : Nat) : Int) - 1 = (m : Int) := by omega
      rw [m0]
      have hd : decide ((m : Int) ≥ 0) = true := decide_eq_true (by omega)
      have hd2 : decide ((0 : Int) ≤ (m : Int)) = true := decide_eq_true (by omega)
      obtain ⟨b, off, rfl, hbl, hat⟩ := (unhide HI).at (by omega)
      have c0 := (hb.cell (p := ⟨b, off + m, none⟩) hbl).trans (hat m (by omega))
      rw [bk] at hx
      have hYm := hY pre m wr hJs (by rw [hx]; simp)
      generalize L.getD m 0 = vv at c0 hYm
      obtain ⟨fn, tmps, assign, body, hy, hR⟩ := hYm
      have i1 : (0 : Int) ≤ (m : Int) := by omega
      have i2 : (m : Int) < (len : Int) := by omega
      have HX := hide hx
      have HB := hide hb
      have HJ := hide hJs
      clear hx hJs hat m0 hb
      gi_wp2
      refine hR.mono ?_
      rintro e W3 (⟨rfl, hJ3, hk3⟩ | ⟨rfl, hJx3⟩)
      · have hb3 : Below w0.heap.size w0 W3 := (unhide HB).trans hk3.1
        have hbi3 := hk3.2 _ hbi
        have HJ3 := hide hJ3
        have HB3 := hide hb3
        clear hJ3 hb3 hk3 c0 hbi
        gi_wp2
        go_roundw
        case rel => exact ⟨pre ++ [m], m, by go_num, by rw [unhide HX]; simp, by omega, unhide HB3, hbi3, unhide HJ3⟩
        case measure => simp [intOf]
      · gi_wp2
        refine bodyPost_ret (results_none rfl _ _ _) rfl ?_
        exact ⟨⟨_, rfl⟩, .inr ⟨pre ++ [m], ⟨bk m, by rw [unhide HX]; simp⟩, hJx3⟩⟩

set_option maxHeartbeats 1000000 in
theorem back_in (F : Fence) (n : Nat) (hfn : F.fn 40) (hro : F.round = none) (a : Option Addr) (len cap : Nat) (w : World) :
    CallsIn F n Tryz.prog 40 #[.slice a len cap] w fun e w' => e = .returned (.func (.func 60) #[] #[.pointer (some ⟨w.heap.size, 0, none⟩)]) ∧ w' = w.alloc (.cells #[.slice a len cap] 28) := by
  refine callsIn_of_wp Tryz.func40 rfl hfn ?_ hro
  simp only [Tryz.ntmps40, List.size_toArray, List.length_cons, List.length_nil, Nat.reduceAdd, Nat.reduceSub, Array.replicate_succ, Array.replicate_zero, List.push_toArray, List.append_toArray, List.nil_append, List.cons_append]
  gi_wp2
  go_ret
  exact ⟨rfl, rfl⟩

theorem back_stops (F : Fence) (n : Nat) (hfn : F.fn 60) (hro : F.round = none) (hn : 1 ≤ n) (Bi : Nat) (a : Option Addr) (len cap : Nat) (L : List Int) (w0 w : World) (hI : IRow w0 a len L) (hl : len ≤ 1048576)
    (hb : Below w0.heap.size w0 w) (hBi : Bi < w.heap.size) (ci : w.cell? ⟨Bi, 0, none⟩ = some (.slice a len cap)) :
    SeqStopsK F n Tryz.prog 60 #[.pointer (some ⟨Bi, 0, none⟩)] (fun x : Nat => #[Value.int .i64 (x : Int), Value.int .i64 (L.getD x 0)]) (KpF w0.heap.size Bi) (fun ys => ys = bk len) (fun pre => pre <+: bk len) (bk len).length w := fun l J Jx W hW _ _ hY h0 =>
  back1_in F n hfn hro hn l Bi a len cap L w0 hI hl J Jx hY W (hb.trans (hW.mono hb.size)) ((hW.cell (p := ⟨Bi, 0, none⟩) hBi).trans ci) h0

theorem rev_bk : ∀ (L : List Int), L.reverse = (bk L.length).map (fun x => L.getD x 0) := fun L => by
  have key : ∀ n, n ≤ L.length → (L.take n).reverse = (bk n).map (fun x => L.getD x 0) := by
    intro n
    induction n with
    | zero => intro _; rfl
    | succ n ih =>
      intro h
      obtain ⟨u, hu⟩ : ∃ u, L[n]? = some u := ⟨_, List.getElem?_eq_getElem (by omega)⟩
      rw [List.take_add_one, hu, bk, List.map_cons, ← ih (by omega), List.getD_eq_getElem?_getD, hu]
      simp
  have := key L.length (Nat.le_refl _)
  rwa [List.take_length] at this

theorem getD_mem' {M : List Int} {k : Nat} (h : k < M.length) : M.getD k 0 ∈ M := by
  rw [List.getD_eq_getElem?_getD, List.getElem?_eq_getElem h]
  exact List.getElem_mem h

theorem not_mem_of {M : List Int} {v : Int} (h : ∀ j, j < M.length → M.getD j 0 ≠ v) : v ∉ M := fun hm => by
  obtain ⟨j, hj⟩ := List.getElem?_of_mem hm
  refine h j (List.getElem?_eq_some_iff.1 hj).1 ?_
  rw [List.getD_eq_getElem?_getD, hj]
  rfl

theorem lob_none {L M : List Int} {n : Nat} (hn : L.length = n) (h : ∀ y ∈ bk n, L.getD y 0 ∉ M) : lob M L.reverse = -1 := by
  rw [rev_bk, hn]
  have := lob_skip M ((bk n).map (fun x => L.getD x 0)) [] (fun p hp => by
    obtain ⟨y, hy, rfl⟩ := List.mem_map.1 hp
    exact h y hy)
  rw [List.append_nil] at this
  exact this

theorem lob_hit {L M : List Int} {n : Nat} (hn : L.length = n) {pre : List Nat} {x : Nat} (hp : (pre ++ [x]) <+: bk n) (h : ∀ y ∈ pre, L.getD y 0 ∉ M) (hx : L.getD x 0 ∈ M) : lob M L.reverse = L.getD x 0 := by
  obtain ⟨rest, e⟩ := hp
  rw [rev_bk, hn, ← e]
  simp only [List.map_append, List.map_cons, List.map_nil, List.append_assoc, List.cons_append, List.nil_append]
  rw [lob_skip M _ _ (fun p hp => by
    obtain ⟨y, hy, rfl⟩ := List.mem_map.1 hp
    exact h y hy), lob, if_pos hx]

set_option maxHeartbeats 2000000 in
theorem lastOf_in (a b : Option Addr) (la ca lb cb : Nat) (L M : List Int) (w : World)
    (hI : IRow w a la L) (hl : la ≤ 1048576) (hJ : IRow w b lb M) (hlb : lb ≤ 1048576) :
    CallsIn Fence.wide 3 Tryz.prog 21 #[.slice a la ca, .slice b lb cb] w fun e W' => e = .returned (.int .i64 (lob M L.reverse)) ∧ Below w.heap.size w W' := by
  refine callsIn_of_wp_marks Tryz.func21 rfl trivial ?_ rfl
  simp only [Tryz.ntmps21, List.size_toArray, List.length_cons, List.length_nil, Nat.reduceAdd, Nat.reduceSub, Array.replicate_succ, Array.replicate_zero, List.push_toArray, List.append_toArray, List.nil_append, List.cons_append]
  gi_wp2
  refine wpIn_wide.2 (wp_scope_straight ((wpIn_wide (n := 3)).1 ?_))
  gi_wp2
  refine wpIn_label ?_
  gi_wp2
  refine ⟨trivial, (back_in Fence.wide 2 trivial rfl _ _ _ _).mono ?_⟩
  rintro e w' ⟨rfl, rfl⟩
  gi_wp2
  have c0 := newc w (.slice b lb cb) 28
  have c1 := newc (w.alloc (.cells #[.slice b lb cb] 28)) (.int .i64 (-1)) 2
  have c2 := newc ((w.alloc (.cells #[.slice b lb cb] 28)).alloc (.cells #[.int .i64 (-1)] 2)) (.slice a la ca) 28
  simp only [World.size_alloc] at c1 c2
  have hB0 : Below w.heap.size w (((w.alloc (.cells #[.slice b lb cb] 28)).alloc (.cells #[.int .i64 (-1)] 2)).alloc (.cells #[.slice a la ca] 28)) := (((Below.refl _ w).alloc (Nat.le_refl _) _).alloc (by simp) _).alloc (by simp; omega) _
  refine wpIn_rangeFunc_ownF (F := Fence.wide) rfl (by decide) (gf := 60) (lb := #[.pointer (some ⟨w.heap.size + 1 + 1, 0, none⟩)]) rfl trivial (enters_of Tryz.func60 (by kernel_rfl) rfl)
    (back_stops Fence.wide (3 - 1) trivial rfl (by decide) (w.heap.size + 1 + 1) a la ca L w _ hI hl hB0 (by simp) c2.1) kpF_t (kpF_b (by simp; omega)) (Below.refl _ _) (fun _ => rfl)
    (fun pre W => ((∀ y ∈ pre, L.getD y 0 ∉ M) ∧ W.cell? ⟨w.heap.size, 0, none⟩ = some (.slice b lb cb) ∧ W.cell? ⟨w.heap.size + 1, 0, none⟩ = some (.int .i64 (-1)) ∧ W.frozen? ⟨w.heap.size + 1, 0, none⟩ = false) ∧ Below w.heap.size w W)
    (fun c pre W => (c = .exit 0 ∧ (∃ pr x, pre = pr ++ [x] ∧ (∀ y ∈ pr, L.getD y 0 ∉ M) ∧ L.getD x 0 ∈ M ∧ W.cell? ⟨w.heap.size + 1, 0, none⟩ = some (.int .i64 (L.getD x 0)))) ∧ Below w.heap.size w W)
    (OwnFrom.and (Own.from (fun s A B row hs hg hr => ⟨hs.1, cell_kept hs.2.1 hg hr, cell_kept hs.2.2.1 hg hr, (frozen_kept hs.2.2.1 hg hr).trans hs.2.2.2⟩) _) (ownFrom_below (Nat.le_refl _) (by simp; omega)))
    (fun c => OwnFrom.and (Own.from (fun s A B row hs hg hr => ⟨hs.1, match hs.2 with | ⟨pr, x, h1, h2, h3, h4⟩ => ⟨pr, x, h1, h2, h3, cell_kept h4 hg hr⟩⟩) _) (ownFrom_below (Nat.le_refl _) (by simp; omega)))
    ⟨⟨by simp, oldc _ (oldc _ c0.1), oldc _ c1.1, oldf _ c1.1 c1.2⟩, hB0⟩
    (fun x => { tmps := #[.slice a la ca, .slice b lb cb, undef, .pointer (some ⟨w.heap.size, 0, none⟩), .int .i64 0, .pointer (some ⟨w.heap.size + 1, 0, none⟩), undef, .int .i64 (L.getD x 0), undef, undef, .slice a la ca, .func (.func 60) #[] #[.pointer (some ⟨w.heap.size + 1 + 1, 0, none⟩)], .int .i64 (x : Int), .int .i64 (L.getD x 0), undef, undef, undef, undef, undef, undef, undef, undef, undef, undef, undef, undef], defers := [] }) ?assign ?body ?done ?stop
  case assign =>
    intro l x W K hK
    gi_wp2
    simpa using hK
  case body =>
    rintro l pre x W ⟨⟨hp, hcb, hcl, hfl⟩, hB⟩ hlt
    obtain ⟨v, hv⟩ : ∃ v, v = L.getD x 0 := ⟨_, rfl⟩
    have HV := hide hv
    rw [← hv]
    have HP := hide hp
    have HB := hide hB
    have HJR := hide hJ
    clear hv hp hlt c0 c1 c2 hB0 hI hB hJ
    gi_wp2
    gi_loopw [16] (fun i wr => ∃ k : Nat, k ≤ lb ∧ i = .int .i64 k ∧ (∀ j, j < k → M.getD j 0 ≠ v) ∧ wr = W) (fun i _ => lb - (intOf i).toNat)
    case atStart => exact ⟨0, Nat.zero_le _, rfl, fun j hj => absurd hj (Nat.not_lt_zero _), rfl⟩
    case round =>
      obtain ⟨k, hk, rfl, hall, hwr⟩ := hrel
      subst hwr
      have HALL := hide hall
      clear hall
      by_cases hlt2 : k < lb
      · obtain ⟨bb, ob, rfl, hbl, hat⟩ := (unhide HJR).at (by omega)
        have ck := ((unhide HB).cell (p := ⟨bb, ob + k, none⟩) hbl).trans (hat k hlt2)
        obtain ⟨u, hu⟩ : ∃ u, u = M.getD k 0 := ⟨_, rfl⟩
        rw [← hu] at ck
        have HU := hide hu
        have i1 : (0 : Int) ≤ (k : Int) := by omega
        have i2 : (k : Int) < (lb : Int) := by omega
        clear hat hu
        by_cases he : v = u
        · have d1 : (v == u) = true := by simp [he]
          have HM : Hid (L.getD x 0 ∈ M) := by
            show _ ∈ M
            rw [← unhide HV, he, unhide HU]
            exact getD_mem' (by rw [(unhide HJR).1]; exact hlt2)
          clear he
          gi_wp2
          exact ⟨KeepsOthers.setCell _ _ _, ⟨rfl, pre, x, rfl, unhide HP, unhide HM, by rw [← unhide HV]; exact World.cell?_setCell_same' _ _ _ (by rw [hcl]; rfl)⟩, (unhide HB).setCell (p := ⟨w.heap.size + 1, 0, none⟩) (by simp) _⟩
        · have d1 : (v == u) = false := by simp [he]
          have HE := hide he
          clear he
          gi_wp2
          go_roundw
          case rel =>
            refine ⟨k + 1, by omega, by go_num, fun j hj => ?_, by first | rfl | trivial⟩
            by_cases e : j = k
            · subst e; rw [← unhide HU]; exact fun h => unhide HE h.symm
            · exact (unhide HALL) j (by omega)
          case measure => simp [intOf]; omega
      · obtain rfl : k = lb := by omega
        have HN : Hid (L.getD x 0 ∉ M) := by
          show ¬ _
          rw [← unhide HV]
          exact not_mem_of (fun j hj => (unhide HALL) j (by rw [← (unhide HJR).1]; exact hj))
        gi_wp2
        exact ⟨KeepsOthers.refl _, ⟨Below.refl _ _, fun v hv => hv⟩, ⟨fun y hy => (List.mem_append.1 hy).elim ((unhide HP) y) (fun e => by simp at e; subst e; exact unhide HN), hcb, hcl, hfl⟩, unhide HB⟩
  case done =>
    rintro D ys W hD rfl ⟨⟨hp, _, hcl, hfl⟩, hB⟩ hK
    gi_wp2
    refine ⟨by simp, .inl ⟨_, _, rfl, run_takeDeferred hK, ?_⟩⟩
    exact ⟨_, results_tmp rfl _ _ _, by rw [lob_none hI.1 hp]; rfl, hB.trans (belowK_b (w := w) (Nat.le_refl _) W D _ _ (by simp at hD; omega) hK rfl rfl)⟩
  case stop =>
    rintro D c pre W hD hpre ⟨⟨rfl, pr, x, rfl, h1, h2, h3⟩, hB⟩ hK
    have HH := hide (lob_hit hI.1 hpre h1 h2)
    obtain ⟨v, hv⟩ : ∃ v, v = L.getD x 0 := ⟨_, rfl⟩
    rw [← hv] at h3 HH
    clear h1 h2 hv
    gi_wp2
    refine ⟨by simp, .inl ⟨_, _, rfl, run_takeDeferred hK, ?_⟩⟩
    exact ⟨_, results_tmp rfl _ _ _, by rw [unhide HH]; rfl, hB.trans (belowK_b (w := w) (Nat.le_refl _) W D _ _ (by simp at hD; omega) hK rfl rfl)⟩

theorem lastOf_any (a b : Option Addr) (la ca lb cb : Nat) (L M : List Int) (w : World) (hI : IRow w a la L) (hl : la ≤ 1048576) (hJ : IRow w b lb M) (hlb : lb ≤ 1048576) :
    Calls Tryz.prog 21 #[.slice a la ca, .slice b lb cb] w fun e W' => e = .returned (.int .i64 (lob M L.reverse)) ∧ Below w.heap.size w W' :=
  (callsIn_wide (n := 3)).1 (lastOf_in a b la ca lb cb L M w hI hl hJ hlb)

end Go.Proofs.YtldiilmpmcbjkaaGreatDoor

/- What is proved here: the contracts of the laws' helper functions that write marks into an answer's numbers and look for them later (markInt64S, heldInt64S and those over IntsResult), for slices that the call itself made. -/
namespace Go.Proofs.YtldiilmpmcbjkaaGreatDoor
open Go.RowKit
set_option linter.unusedVariables false
set_option maxRecDepth 100000

set_option maxHeartbeats 1000000 in
theorem markInt64S_any (B g n cap : Nat) (zs : List Int) (k0 : Int) (w : World) (h : w.ownsRow B 2 1 (.slice (some ⟨g, 0, none⟩) n cap) n (zs.map (Value.int .i64))) (hn : n ≤ 2097152) (hk0 : 0 ≤ k0) (hk1 : k0 ≤ 1099511627776) :
    Calls Tryz.prog 28 #[.slice (some ⟨g, 0, none⟩) n cap, .int .i64 k0] w fun e w' => e = .returned (.int .i64 (k0 + n)) ∧
      w'.ownsRow B 2 1 (.slice (some ⟨g, 0, none⟩) n cap) n ((imarks k0 n).map (Value.int .i64)) ∧ w.grownBy w' (some g) := by
  have hzl : zs.length = n := by simpa using h.1
  go_enter Tryz.func28, Tryz.ntmps28
  go_wp2
  go_loopw [1, 5] (fun q i wr => ∃ k : Nat, k ≤ n ∧ i = .int .i64 k ∧ q = .int .i64 (k0 + k) ∧ wr.ownsRow B 2 1 (.slice (some ⟨g, 0, none⟩) n cap) n ((imarks k0 k ++ zs.drop k).map (Value.int .i64)) ∧ w.grownBy wr (some g))
    (fun _ i _ => n - (intOf i).toNat)
  case atStart => exact ⟨0, Nat.zero_le _, rfl, by simp, by simpa [imarks] using h, grownBy_refl w _⟩
  case round =>
    obtain ⟨k, hk, rfl, rfl, hown, hgr⟩ := hrel
    by_cases hlt : k < n
    · have hfz := hown.frozenAt k
      obtain ⟨u, hu⟩ : ∃ u, wr.cell? ⟨g, k, none⟩ = some u := by
        rw [hown.cellAt k (by omega)]
        exact ⟨_, List.getElem?_eq_getElem (by rw [hown.1]; omega)⟩
      have R := hown.stored k (.int .i64 (k0 + k))
      rw [imark_step k0 zs n k hzl hlt] at R
      have HR := R.1
      have HG := grownBy_trans hgr R.2
      clear R hown
      go_wp2
      go_roundw
      case rel => exact ⟨k + 1, by omega, by go_num, by go_num, HR, HG⟩
      case measure => simp [intOf]; omega
    · obtain rfl : k = n := by omega
      rw [List.drop_eq_nil_of_le (by omega), List.append_nil] at hown
      go_wp2
      go_ret
      exact ⟨rfl, hown, hgr⟩

set_option maxHeartbeats 1000000 in
theorem markInt64S_nil (k0 : Int) (w : World) :
    Calls Tryz.prog 28 #[.slice none 0 0, .int .i64 k0] w fun e w' => e = .returned (.int .i64 k0) ∧ w' = w := by
  go_enter Tryz.func28, Tryz.ntmps28
  go_wp2
  refine wp_loop_rounds 1 ?_
  rw [rounds_succ]
  go_wp2
  go_ret
  exact ⟨rfl, rfl⟩

theorem markInt64S_own (B n cap : Nat) (a : Option Addr) (zs : List Int) (k0 : Int) (w : World) (h : w.ownsRow B 2 1 (.slice a n cap) n (zs.map (Value.int .i64))) (hn : n ≤ 2097152) (hk0 : 0 ≤ k0) (hk1 : k0 ≤ 1099511627776) :
    Calls Tryz.prog 28 #[.slice a n cap, .int .i64 k0] w fun e w' => e = .returned (.int .i64 (k0 + n)) ∧
      w'.ownsRow B 2 1 (.slice a n cap) n ((imarks k0 n).map (Value.int .i64)) ∧ w.grownBy w' (Value.slice a n cap).ownBlock := by
  rcases h.2 with ⟨h', h0⟩ | ⟨g, cap', cur, h', _⟩
  · simp only [Value.slice.injEq] at h'
    obtain ⟨rfl, rfl, rfl⟩ := h'
    refine (markInt64S_nil k0 w).mono fun e w' hq => ?_
    obtain ⟨rfl, rfl⟩ := hq
    exact ⟨by simp, World.ownsRow_nil _ _ _ _, grownBy_refl _ _⟩
  · simp only [Value.slice.injEq] at h'
    obtain ⟨rfl, _, rfl⟩ := h'
    exact markInt64S_any B g n cap zs k0 w h hn hk0 hk1

set_option maxHeartbeats 1000000 in
theorem heldInt64S_any (n cap : Nat) (a : Option Addr) (k0 : Int) (w : World) (h : IRow w a n (imarks k0 n)) (hn : n ≤ 2097152) (hk0 : 0 ≤ k0) (hk1 : k0 ≤ 1099511627776) :
    Calls Tryz.prog 29 #[.slice a n cap, .int .i64 k0] w fun e w' => e = .returned (.int .i64 (k0 + n)) ∧ w' = w := by
  rcases Nat.eq_zero_or_pos n with h0 | hp
  · subst h0
    clear h
    go_enter Tryz.func29, Tryz.ntmps29
    go_wp2
    refine wp_loop_rounds 1 ?_
    rw [rounds_succ]
    go_wp2
    go_ret
    exact ⟨ret_int (by simp), rfl⟩
  · obtain ⟨b, off, rfl, hb, hc⟩ := h.at hp
    have HC := hide hc
    clear h hc
    go_enter Tryz.func29, Tryz.ntmps29
    go_wp2
    go_loop [1, 5] (fun q i => ∃ k : Nat, k ≤ n ∧ i = .int .i64 k ∧ q = .int .i64 (k0 + k)) (fun _ i => n - (intOf i).toNat)
    case atStart => exact ⟨0, Nat.zero_le _, rfl, by simp⟩
    case round =>
      obtain ⟨k, hk, rfl, rfl⟩ := hrel
      by_cases hlt : k < n
      · have hck := (unhide HC) k hlt
        rw [imarks_at k0 n k hlt] at hck
        have hne : ((k0 + (k : Int)) != k0 + (k : Int)) = false := by simp
        go_wp2
        go_round
        case rel => exact ⟨k + 1, by omega, by go_num, by go_num⟩
        case measure => simp [intOf]; omega
      · obtain rfl : k = n := by omega
        go_wp2
        go_ret
        exact ⟨rfl, rfl⟩

end Go.Proofs.YtldiilmpmcbjkaaGreatDoor

/- What is proved here: slices of numbers that begin within a row of their own: read, written, turned round (slices.Reverse), marked (laws.markInt64S); and those of a line that stand behind a place of it (slices.Index, behindPlace). -/
namespace Go.Proofs.YtldiilmpmcbjkaaGreatDoor
open Go.RowKit
set_option linter.unusedVariables false
set_option linter.unusedSimpArgs false
set_option maxRecDepth 100000

/-- The row of a block is owned, and its last elements are T. -/
def Tl (w : World) (B g off c : Nat) (T : List Int) : Prop := ∃ P : List Int, P.length = off ∧ w.ownsRow B 2 1 (.slice (some ⟨g, 0, none⟩) (off + T.length) c) (off + T.length) ((P ++ T).map (Value.int .i64))

theorem Tl.cell {w : World} {B g off c : Nat} {T : List Int} (h : Tl w B g off c T) (k : Nat) (hk : k < T.length) : w.cell? ⟨g, off + k, none⟩ = some (.int .i64 (T.getD k 0)) := by
  obtain ⟨P, rfl, o⟩ := h
  rw [o.cellAt (P.length + k) (by omega), List.getElem?_map, List.getElem?_append_right (by omega), Nat.add_sub_cancel_left, List.getElem?_eq_getElem hk, List.getD_eq_getElem?_getD, List.getElem?_eq_getElem hk]
  rfl

theorem Tl.free {w : World} {B g off c : Nat} {T : List Int} (h : Tl w B g off c T) (k : Nat) : w.frozen? ⟨g, off + k, none⟩ = false := by
  obtain ⟨P, rfl, o⟩ := h
  exact o.frozenAt _

theorem Tl.set {w : World} {B g off c : Nat} {T : List Int} (h : Tl w B g off c T) (k : Nat) (v : Int) : Tl (w.setCell ⟨g, off + k, none⟩ (.int .i64 v)) B g off c (T.set k v) := by
  obtain ⟨P, rfl, o⟩ := h
  have s := (o.stored (P.length + k) (.int .i64 v)).1
  rw [← List.map_set, List.set_append_right _ _ (by omega), Nat.add_sub_cancel_left] at s
  exact ⟨P, rfl, by rw [List.length_set]; exact s⟩

theorem Tl.blk {w : World} {B g off c : Nat} {T : List Int} (h : Tl w B g off c T) : B ≤ g ∧ g < w.heap.size := by
  obtain ⟨P, rfl, o⟩ := h
  exact o.lt g rfl

theorem Tl.row {w : World} {B g off c : Nat} {T : List Int} (h : Tl w B g off c T) : IRow w (some ⟨g, off, none⟩) T.length T :=
  ⟨rfl, True.intro, (fun e => absurd e (by simp)), fun y hy i hi => by
    obtain rfl : (⟨g, off, none⟩ : Addr) = y := Option.some.inj hy
    rw [add_none]
    exact h.cell i hi⟩

theorem Tl.drew {w : World} {B g off c : Nat} {T : List Int} (h : Tl w B g off c T) : Tl w.drew B g off c T := h

theorem Tl.of {w : World} {B g c : Nat} {L : List Int} (h : w.ownsRow B 2 1 (.slice (some ⟨g, 0, none⟩) L.length c) L.length (L.map (Value.int .i64))) (k : Nat) (hk : k ≤ L.length) : Tl w B g k c (L.drop k) := by
  refine ⟨L.take k, by simp; omega, ?_⟩
  rw [List.take_append_drop, List.length_drop, show k + (L.length - k) = L.length by omega]
  exact h

theorem Tl.keep {w w' : World} {B g off c : Nat} {T : List Int} (h : Tl w B g off c T) (hk : w'.heap[g]? = w.heap[g]?) : Tl w' B g off c T := by
  obtain ⟨P, rfl, o⟩ := h
  exact ⟨P, rfl, own_frame o (fun x hx => by
    obtain rfl : (⟨g, 0, none⟩ : Addr) = x := Option.some.inj hx
    exact hk)⟩

/-- What lies in other blocks is as it was. -/
def Els (g : Nat) (w w' : World) : Prop := ∀ g', ¬ g' = g → w'.heap[g']? = w.heap[g']?

theorem Els.refl (g : Nat) (w : World) : Els g w w := fun _ _ => rfl
theorem Els.set {g : Nat} {w w' : World} (h : Els g w w') (i : Nat) (v : Value) : Els g w (w'.setCell ⟨g, i, none⟩ v) := fun g' hg => (heap_setCell_other w' ⟨g, i, none⟩ g' v hg).trans (h g' hg)
theorem Els.drew {g : Nat} {w w' : World} (h : Els g w w') : Els g w w'.drew := h

set_option maxHeartbeats 2000000 in
theorem reverseT_any (B g off c cc : Nat) (L : List Int) (w : World) (h : Tl w B g off c L) (hn : L.length ≤ 1048576) :
    Calls Tryz.prog 23 #[.slice (some ⟨g, off, none⟩) L.length cc] w fun r w' => (∃ v, r = .returned v) ∧ Tl w' B g off c L.reverse ∧ Below B w w' ∧ Els g w w' := by
  obtain ⟨n, hl⟩ : ∃ n, n = L.length := ⟨_, rfl⟩
  have hgB : B ≤ g := h.blk.1
  have HL := hide hl
  rw [← hl] at hn ⊢
  rw [← revK_zero L] at h
  clear hl
  go_enter Tryz.func23, Tryz.ntmps23
  go_wp2_with fail
  go_loopw [2, 3] (fun i j wr => ∃ k : Nat, 2 * k ≤ n + 1 ∧ i = .int .i64 k ∧ j = .int .i64 ((n : Int) - 1 - k) ∧ Tl wr B g off c (revK L k) ∧ Below B w wr ∧ Els g w wr) (fun i _ _ => n - (intOf i).toNat)
  case atStart => exact ⟨0, by omega, rfl, by simp, h, Below.refl _ _, Els.refl g w⟩
  case round =>
    obtain ⟨k, hk, rfl, rfl, hown, hbr, hgr⟩ := hrel
    by_cases hlt : k < n - 1 - k
    · obtain ⟨j, ej⟩ : ∃ j : Nat, n - 1 - k = j := ⟨_, rfl⟩
      have ej' : (n : Int) - 1 - (k : Int) = (j : Int) := by omega
      rw [ej']
      have hrl : (revK L k).length = n := by rw [revK_length]; exact (unhide HL).symm
      have cj := hown.cell j (by omega)
      have ci := hown.cell k (by omega)
      have fi := hown.free k
      have fj := hown.free j
      have R1 := hown.set k ((revK L k).getD j 0)
      have R2 := R1.set j ((revK L k).getD k 0)
      have hst := revK_step L k (by rw [← unhide HL]; exact hlt)
      rw [← unhide HL, ej] at hst
      rw [hst] at R2
      have HR := hide R2
      have HB := hide ((hbr.setCell (p := ⟨g, off + k, none⟩) hgB (.int .i64 ((revK L k).getD j 0))).setCell (p := ⟨g, off + j, none⟩) hgB (.int .i64 ((revK L k).getD k 0)))
      have HG := hide ((hgr.set (off + k) (.int .i64 ((revK L k).getD j 0))).set (off + j) (.int .i64 ((revK L k).getD k 0)))
      generalize (revK L k).getD j 0 = vj at cj HR HB HG
      generalize (revK L k).getD k 0 = vi at ci HR HB HG
      have k1 : (0 : Int) ≤ (k : Int) := by omega
      have k2 : (k : Int) < (n : Int) := by omega
      have j1 : (0 : Int) ≤ (j : Int) := by omega
      have j2 : (j : Int) < (n : Int) := by omega
      have kj : decide ((k : Int) < (j : Int)) = true := decide_eq_true (by omega)
      have nkj : ¬ k = j := by omega
      have njk : ¬ j = k := by omega
      clear R1 R2 hst hown hbr h hgr hrl
      have mixed : Tryz.prog.follows .mixedOrders = true := by kernel_rfl
      go_wp2_with fail
      go_region_o
      all_goals
        go_wp2_with fail
        go_roundw
        case rel => exact ⟨k + 1, by omega, by go_num, by go_num, (unhide HR).drew, (unhide HB).drew, (unhide HG).drew⟩
        case measure => simp [intOf]; omega
    · have hd : decide ((k : Int) < (n : Int) - 1 - (k : Int)) = false := decide_eq_false (by omega)
      rw [revK_end L k (by rw [← unhide HL]; omega)] at hown
      have HO := hide hown
      have HB := hide hbr
      have HG := hide hgr
      obtain ⟨j, ej⟩ : ∃ j : Int, (n : Int) - 1 - (k : Int) = j := ⟨_, rfl⟩
      rw [ej] at hd ⊢
      clear hown hbr h ej hgr
      go_wp2_with fail
      exact bodyPost_end (v := .tuple #[]) (by simp [results, Tryz.results23]) rfl ⟨⟨_, rfl⟩, unhide HO, unhide HB, unhide HG⟩

set_option maxHeartbeats 2000000 in
theorem markT_any (B g off c cc : Nat) (zs : List Int) (k0 : Int) (w : World) (h : Tl w B g off c zs) (hn : zs.length ≤ 2097152) (hk0 : 0 ≤ k0) (hk1 : k0 ≤ 1099511627776) :
    Calls Tryz.prog 28 #[.slice (some ⟨g, off, none⟩) zs.length cc, .int .i64 k0] w fun e w' => e = .returned (.int .i64 (k0 + zs.length)) ∧ Tl w' B g off c (imarks k0 zs.length) ∧ Els g w w' ∧ Below B w w' := by
  obtain ⟨n, hl⟩ : ∃ n, n = zs.length := ⟨_, rfl⟩
  have HL := hide hl
  rw [← hl] at hn ⊢
  have h : Tl w B g off c (imarks k0 0 ++ zs.drop 0) := h
  clear hl
  go_enter Tryz.func28, Tryz.ntmps28
  go_wp2_with fail
  go_loopw [1, 5] (fun q i wr => ∃ k : Nat, k ≤ n ∧ i = .int .i64 k ∧ q = .int .i64 (k0 + k) ∧ Tl wr B g off c (imarks k0 k ++ zs.drop k) ∧ Els g w wr ∧ Below B w wr) (fun _ i _ => n - (intOf i).toNat)
  case atStart => exact ⟨0, Nat.zero_le _, rfl, by simp, h, Els.refl g w, Below.refl B w⟩
  case round =>
    obtain ⟨k, hk, rfl, rfl, hown, hgr, hbl⟩ := hrel
    have hgB : B ≤ g := hown.blk.1
    have hll : (imarks k0 k ++ zs.drop k).length = n := by
      have := unhide HL
      simp [imarks]
      omega
    by_cases hlt : k < n
    · have hfz := hown.free k
      have hu := hown.cell k (by omega)
      have R := hown.set k (k0 + k)
      have G := hgr.set (off + k) (.int .i64 (k0 + k))
      have hst : (imarks k0 k ++ zs.drop k).set k (k0 + (k : Int)) = imarks k0 (k + 1) ++ zs.drop (k + 1) := by
        have e := imark_step k0 zs n k (unhide HL).symm hlt
        rw [← List.map_set] at e
        exact (List.map_inj_right (fun x y h => by cases h; rfl)).1 e
      rw [hst] at R
      have HR := hide R
      have HG := hide G
      have HBL := hide (hbl.setCell (p := ⟨g, off + k, none⟩) hgB (.int .i64 (k0 + k)))
      generalize (imarks k0 k ++ zs.drop k).getD k 0 = uu at hu
      have i1 : (0 : Int) ≤ (k : Int) := by omega
      have i2 : (k : Int) < (n : Int) := by omega
      clear R G hown hst hgr hll h hbl hgB
      go_wp2
      go_roundw
      case rel => exact ⟨k + 1, by omega, by go_num, by go_num, unhide HR, unhide HG, unhide HBL⟩
      case measure => simp [intOf]; omega
    · obtain rfl : k = n := by omega
      rw [List.drop_eq_nil_of_le (by rw [← unhide HL]; exact Nat.le_refl _), List.append_nil] at hown
      have HO := hide hown
      have HG := hide hgr
      have HBL := hide hbl
      clear hown hgr hll h hbl hgB
      go_wp2_with fail
      go_ret
      exact ⟨rfl, unhide HO, unhide HG, unhide HBL⟩

set_option maxHeartbeats 2000000 in
theorem index_any (a : Option Addr) (n c : Nat) (L : List Int) (v : Int) (k : Nat) (w : World) (hI : IRow w a n L) (hn : n ≤ 1048576) (hk : L[k]? = some v) (hf : ∀ (j : Nat) u, j < k → L[j]? = some u → u ≠ v) :
    Calls Tryz.prog 41 #[.slice a n c, .int .i64 v] w fun r w' => r = .returned (.int .i64 (k : Int)) ∧ Below w.heap.size w w' := by
  have hl : L.length = n := hI.1
  have hkl : k < n := by rw [← hl]; exact (List.getElem?_eq_some_iff.1 hk).1
  obtain ⟨b, off, rfl, hb, hcell⟩ := hI.at (by omega)
  have HC := hide (fun (i : Nat) (u : Int) (hu : L[i]? = some u) (W : World) (hbl : Below w.heap.size w W) => by
    have h := (hbl.cell (p := ⟨b, off + i, none⟩) hb).trans (hcell i (by rw [← hl]; exact (List.getElem?_eq_some_iff.1 hu).1))
    rw [List.getD_eq_getElem?_getD, hu] at h
    exact h)
  have HK := hide hk
  have HF := hide hf
  have HL := hide hl
  clear hI hcell hk hf hl
  go_enter Tryz.func41, Tryz.ntmps41
  go_wp2_with fail
  go_loopw [8] (fun i wr => ∃ q : Nat, q ≤ k ∧ i = .int .i64 q ∧ Below w.heap.size w wr) (fun i _ => n - (intOf i).toNat)
  case atStart => exact ⟨0, Nat.zero_le _, rfl, Below.refl _ _⟩
  case round =>
    obtain ⟨q, hq, rfl, hbr⟩ := hrel
    have i1 : (0 : Int) ≤ (q : Int) := by omega
    have i2 : (q : Int) < (n : Int) := by omega
    have HB := hide hbr
    by_cases e : q = k
    · subst e
      have cq := (unhide HC) q v (unhide HK) wr hbr
      simp only [Option.getD_some] at cq
      have d1 : (v == v) = true := by simp
      clear hbr
      go_wp2_with fail
      go_ret
      exact ⟨rfl, unhide HB⟩
    · obtain ⟨u, hu⟩ : ∃ u, L[q]? = some u := ⟨_, List.getElem?_eq_getElem (by rw [unhide HL]; omega)⟩
      have cq := (unhide HC) q u hu wr hbr
      simp only [Option.getD_some] at cq
      have hne := (unhide HF) q u (by omega) hu
      have d1 : (v == u) = false := by simp; exact fun h => hne h.symm
      clear hbr hu hne
      go_wp2_with fail
      go_roundw
      case rel => exact ⟨q + 1, by omega, by go_num, unhide HB⟩
      case measure => simp [intOf]; omega

theorem Tl.empty {w : World} {B g c : Nat} {L : List Int} (h : w.ownsRow B 2 1 (.slice (some ⟨g, 0, none⟩) L.length c) L.length (L.map (Value.int .i64))) : Tl w B g 0 c [] := by
  refine ⟨[], rfl, ?_⟩
  rcases h.2 with ⟨h1, _⟩ | ⟨g', cap, cur, h1, hb, hg, hn, hm, hs, ht⟩
  · simp at h1
  · simp only [Value.slice.injEq, Option.some.injEq, Addr.mk.injEq, and_true, true_and] at h1
    obtain ⟨rfl, rfl⟩ := h1
    exact ⟨rfl, .inr ⟨g, c, cur, rfl, hb, hg, Nat.zero_le _, hm, hs, rfl⟩⟩

set_option maxHeartbeats 2000000 in
theorem behind_any (B g c : Nat) (L : List Int) (v : Int) (k : Nat) (w : World) (h : w.ownsRow B 2 1 (.slice (some ⟨g, 0, none⟩) L.length c) L.length (L.map (Value.int .i64))) (hn : L.length ≤ 1048576) (hk : L[k]? = some v) (hf : ∀ (j : Nat) u, j < k → L[j]? = some u → u ≠ v) :
    Calls Tryz.prog 22 #[.slice (some ⟨g, 0, none⟩) L.length c, .int .i64 v] w fun r w' => ∃ off cc, r = .returned (.slice (some ⟨g, off, none⟩) (L.drop (k + 1)).length cc) ∧
      (∀ (W : World) (B' : Nat), W.ownsRow B' 2 1 (.slice (some ⟨g, 0, none⟩) L.length c) L.length (L.map (Value.int .i64)) → Tl W B' g off c (L.drop (k + 1))) ∧ Below w.heap.size w w' := by
  have D1 := hide (index_any (some ⟨g, 0, none⟩) L.length c L v k w (IRow.own2 h) hn hk hf)
  have hkl : k < L.length := (List.getElem?_eq_some_iff.1 hk).1
  have hcap : L.length ≤ c := (OwnS.of h).room
  have i1 : (0 : Int) ≤ (k : Int) + 1 := by omega
  have i2 : (k : Int) + 1 ≤ (L.length : Int) := by omega
  have HOF : Hid (∀ (W : World) (B' : Nat), W.ownsRow B' 2 1 (.slice (some ⟨g, 0, none⟩) L.length c) L.length (L.map (Value.int .i64)) → Tl W B' g (k + 1) c (L.drop (k + 1))) := fun W B' o => Tl.of o (k + 1) (by omega)
  have HEM : Hid (c = k + 1 → ∀ (W : World) (B' : Nat), W.ownsRow B' 2 1 (.slice (some ⟨g, 0, none⟩) L.length c) L.length (L.map (Value.int .i64)) → Tl W B' g 0 c (L.drop (k + 1))) := fun e W B' o => by
    rw [List.drop_eq_nil_of_le (show L.length ≤ k + 1 by omega)]
    exact Tl.empty o
  have HDL : Hid ((L.drop (k + 1)).length = L.length - (k + 1)) := List.length_drop
  rw [unhide HDL]
  generalize L.drop (k + 1) = T at HOF HEM HDL ⊢
  generalize L.map (Value.int .i64) = vs at h HOF HEM ⊢
  generalize L.length = n at *
  clear h hk hf HDL
  go_enter Tryz.func22, Tryz.ntmps22
  go_wp2_with fail
  refine (unhide D1).mono ?_
  rintro r w1 ⟨rfl, b1⟩
  have B1 := hide b1
  clear b1
  by_cases hc0 : c = k + 1
  · have HE := hide ((unhide HEM) hc0)
    have hz : c - (k + 1) = 0 := by omega
    have HC0 := hide hc0
    clear hc0 hcap HEM HOF
    have i3 : (k : Int) + 1 ≤ (c : Int) := by have := unhide HC0; omega
    go_wp2_with fail
    go_ret
    exact ⟨0, _, rfl, unhide HE, unhide B1⟩
  · have hc1 : ¬ c - (k + 1) = 0 := by omega
    go_wp2_with fail
    all_goals first
      | (go_ret; exact ⟨k + 1, _, rfl, unhide HOF, unhide B1⟩)
      | (exfalso; omega)

end Go.Proofs.YtldiilmpmcbjkaaGreatDoor

/- What is proved here: what IsBetter of the program and of the model answers. -/
namespace Go.Proofs.YtldiilmpmcbjkaaGreatDoor
open Go.RowKit
set_option linter.unusedVariables false
set_option linter.unusedSimpArgs false
set_option maxRecDepth 100000

def ibVal (x : St) (a b : Int) : Bool := if plsCode x [a, b] = 0 then btAt x.2 a.toNat b.toNat else false

theorem ib_cases (x : St) (a b : Int) : ibVal x a b = if stFlt x = 0 then (if within a 0 ((x.2.length : Int) - 1) = true then (if within b 0 ((x.2.length : Int) - 1) = true then btAt x.2 a.toNat b.toNat else false) else false) else false := by
  unfold ibVal plsCode plsOk
  simp only [List.all_cons, List.all_nil, Bool.and_true]
  by_cases h : stFlt x = 0
  · simp only [if_pos h]
    cases within a 0 ((x.2.length : Int) - 1)
    · simp
    · cases within b 0 ((x.2.length : Int) - 1)
      · simp
      · simp
  · simp only [if_neg h]

theorem fkAl {w w' : World} (h : Below w.heap.size w w') (o : Obj) : Below w.heap.size w (w'.alloc o) := h.alloc h.size o

theorem irow2 (w : World) (a b : Int) : IRow (w.alloc (.cells #[.int .i64 a, .int .i64 b] 2)) (some ⟨w.heap.size, 0, none⟩) 2 [a, b] := by
  have k := SBlk.new w #[.int .i64 a, .int .i64 b] 2
  refine ⟨rfl, True.intro, (fun h => absurd h (by simp)), fun y hy i hi => ?_⟩
  obtain rfl : (⟨w.heap.size, 0, none⟩ : Addr) = y := Option.some.inj hy
  have h := k.cell i
  match i, hi with
  | 0, _ => exact h
  | 1, _ => exact h

theorem within_nat {a : Int} {n : Nat} (h : within a 0 ((n : Int) - 1) = true) : ∃ i : Nat, a = (i : Int) ∧ i < n := by
  simp only [within, decide_eq_true_eq] at h
  exact ⟨a.toNat, by omega, by omega⟩

set_option maxHeartbeats 1000000 in
theorem entryAt_nat (b off n c k : Nat) (w : World) (hk : k < n) :
    Calls Tryz.prog 59 #[.slice (some ⟨b, off, none⟩) n c, .int .i64 (k : Int)] w fun r w' => r = .returned (.pointer (some ⟨b, off + k * 14, none⟩)) ∧ w' = w := by
  have d1 : (((k : Nat) : Int) == -1) = false := by simp
  have i1 : (0 : Int) ≤ (k : Int) := by omega
  have i2 : (k : Int) < (n : Int) := by omega
  clear hk
  go_enter Tryz.func59, Tryz.ntmps59
  go_wp2_with fail
  go_ret
  exact ⟨rfl, rfl⟩

set_option maxHeartbeats 1000000 in
theorem l11Place_any (g of' : Nat) (s : Sl) (xs : List En) (p : Int) (w : World) (hc : w.cell? ⟨g, of' + 3, none⟩ = some (.slice s.a s.n s.c)) (o : RowOk enK w s xs) :
    Calls Tryz.prog 32 #[.pointer (some ⟨g, of', none⟩), .int .i64 p] w fun r w' => r = .returned (.bool (within p 0 ((xs.length : Int) - 1))) ∧ w' = w := by
  have hl := o.len
  have hm : s.n ≤ maxLen := Nat.le_trans o.room o.max
  unfold maxLen at hm
  have D1 := hide (in_any p 0 ((s.n : Int) - 1) w)
  rw [show decide (0 ≤ p ∧ p ≤ (s.n : Int) - 1) = within p 0 ((s.n : Int) - 1) from rfl] at D1
  rw [← hl]
  generalize within p 0 ((s.n : Int) - 1) = c at D1 ⊢
  have wn : IntKind.i64.wrap ((s.n : Nat) : Int) = ((s.n : Nat) : Int) := by rw [IntKind.wrap_i64]; omega
  clear o hl
  go_enter Tryz.func32, Tryz.ntmps32
  go_wp2_with fail
  refine (unhide D1).mono ?_
  rintro r w1 ⟨rfl, rfl⟩
  go_wp2_with fail
  go_ret
  exact ⟨rfl, rfl⟩

end Go.Proofs.YtldiilmpmcbjkaaGreatDoor
