/- What is proved here: plain facts on what two lines have: the last place of both; no program is named. -/
import Derived.Test.YtjjbkbinjmfnlaaGreatDoorJ30
import Derived.RangeFuncFrom
import Derived.RangeFuncLeaves
import Derived.Shelf.Abstract
import Derived.WalkKit
import Derived.OwnWalkIn
import Derived.TacticsInMore
import Derived.LoopNIn
import Derived.LoopIn
import Derived.Scope
import Derived.Test.YtjjbkbinjmfnlaaGreatDoorJ31
namespace Go.Proofs.YtjjbkbinjmfnlaaGreatDoor
open Go.RowKit
set_option linter.unusedVariables false
set_option linter.unusedSimpArgs false
set_option maxRecDepth 100000

/-- How many places two lines have alike from the first one on. -/
def cmn : List Int → List Int → Nat
  | x :: r, y :: t => if x = y then cmn r t + 1 else 0
  | _, _ => 0

/-- The first of some places that a list has; -1: there is none. -/
def lob (b : List Int) : List Int → Int
  | [] => -1
  | p :: r => if p ∈ b then p else lob b r

theorem cmn_le : ∀ (a b : List Int), cmn a b ≤ a.length ∧ cmn a b ≤ b.length
  | [], b => by simp [cmn]
  | x :: r, [] => by simp [cmn]
  | x :: r, y :: t => by
    have := cmn_le r t
    unfold cmn
    split
    · simp; omega
    · simp

theorem cmn_take : ∀ (a b : List Int), a.take (cmn a b) = b.take (cmn a b)
  | [], b => by simp [cmn]
  | x :: r, [] => by simp [cmn]
  | x :: r, y :: t => by
    unfold cmn
    split
    · rename_i h
      rw [List.take_succ_cons, List.take_succ_cons, h, cmn_take r t]
    · simp

theorem cmn_stop : ∀ (a b : List Int) (x y : Int), a[cmn a b]? = some x → b[cmn a b]? = some y → x ≠ y
  | [], b, x, y, h, _ => by simp at h
  | u :: r, [], x, y, _, h => by simp at h
  | u :: r, v :: t, x, y, h1, h2 => by
    unfold cmn at h1 h2
    split at h1
    · rename_i h
      rw [if_pos h] at h2
      rw [List.getElem?_cons_succ] at h1 h2
      exact cmn_stop r t x y h1 h2
    · rename_i h
      rw [if_neg h] at h2
      simp at h1 h2
      subst h1
      subst h2
      exact h

theorem lob_skip (b : List Int) : ∀ (l m : List Int), (∀ p ∈ l, p ∉ b) → lob b (l ++ m) = lob b m
  | [], m, _ => rfl
  | p :: r, m, h => by
    rw [List.cons_append, lob, if_neg (h p (by simp))]
    exact lob_skip b r m (fun q hq => h q (by simp [hq]))

/-- What stands ahead of a place in a line is the line to that place. -/
theorem line_take {xs : List En} (h : UpsOk xs) : ∀ (n : Nat) (p : Int), (p + 1).toNat ≤ n → -1 ≤ p → p < xs.length → ∀ (i : Nat) (q : Int), (lineL xs p)[i]? = some q → (lineL xs p).take (i + 1) = lineL xs q
  | 0, p, h1, h2, h3, i, q, hq => by
    obtain rfl : p = -1 := by omega
    rw [lineL_none] at hq
    simp at hq
  | n + 1, p, h1, h2, h3, i, q, hq => by
    by_cases hp : p = -1
    · subst hp
      rw [lineL_none] at hq
      simp at hq
    · have k := up_next h (p := p) (by omega) h3
      have e := lineL_step h (p := p) (by omega) h3
      rw [e] at hq ⊢
      rcases Nat.lt_trichotomy i (lineL xs (upAt xs p)).length with hi | hi | hi
      · rw [List.getElem?_append_left hi] at hq
        rw [List.take_append_of_le_length (by omega)]
        exact line_take h n (upAt xs p) (by omega) k.1 (by omega) i q hq
      · rw [List.getElem?_append_right (by omega), hi] at hq
        simp at hq
        subst hq
        rw [hi, List.take_of_length_le (by simp), ← e]
      · rw [List.getElem?_append_right (by omega)] at hq
        rw [List.getElem?_eq_none (by simp; omega)] at hq
        cases hq

theorem line_zero {xs : List En} (h : UpsOk xs) : ∀ (n : Nat) (p : Int), (p + 1).toNat ≤ n → 0 ≤ p → p < xs.length → (lineL xs p)[0]? = some 0
  | 0, p, h1, h2, h3 => by omega
  | n + 1, p, h1, h2, h3 => by
    have k := up_next h h2 h3
    rw [lineL_step h h2 h3]
    by_cases hu : upAt xs p = -1
    · rw [hu, lineL_none]
      have : p = 0 := by
        obtain ⟨x, hx⟩ : ∃ x, xs[p.toNat]? = some x := ⟨_, List.getElem?_eq_getElem (by omega)⟩
        have ku := h _ x hx
        unfold upAt at hu
        rw [hx] at hu
        simp only at hu
        unfold upOk at ku
        split at ku
        · omega
        · simp only [within, decide_eq_true_eq] at ku
          omega
      subst this
      rfl
    · have hz := line_zero h n (upAt xs p) (by omega) (by omega) (by omega)
      have hl : 0 < (lineL xs (upAt xs p)).length := (List.getElem?_eq_some_iff.1 hz).1
      rw [List.getElem?_append_left hl]
      exact hz

theorem cmn_pos {a b : List Int} {x : Int} (h1 : a[0]? = some x) (h2 : b[0]? = some x) : 1 ≤ cmn a b := by
  match a, b, h1, h2 with
  | u :: r, v :: t, h1, h2 =>
    simp at h1 h2
    subst h1
    subst h2
    unfold cmn
    rw [if_pos rfl]
    omega

/-- Behind what two lines have alike no place of the one is in the other. -/
theorem line_apart {xs : List En} (h : UpsOk xs) {p q : Int} (hp : 0 ≤ p ∧ p < xs.length) (hq : 0 ≤ q ∧ q < xs.length) (i : Nat) (u : Int) (hi : cmn (lineL xs p) (lineL xs q) ≤ i) (hu : (lineL xs p)[i]? = some u) : u ∉ lineL xs q := fun hm => by
  obtain ⟨j, hj⟩ := List.getElem?_of_mem hm
  have e1 := line_take h _ p (Nat.le_refl _) (by omega) hp.2 i u hu
  have e2 := line_take h _ q (Nat.le_refl _) (by omega) hq.2 j u hj
  have hil := (List.getElem?_eq_some_iff.1 hu).1
  have hjl := (List.getElem?_eq_some_iff.1 hj).1
  have hlen : i = j := by
    have := congrArg List.length (e1.trans e2.symm)
    simp only [List.length_take] at this
    omega
  subst hlen
  have e3 := e1.trans e2.symm
  obtain ⟨x, hx⟩ : ∃ x, (lineL xs p)[cmn (lineL xs p) (lineL xs q)]? = some x := ⟨_, List.getElem?_eq_getElem (by omega)⟩
  obtain ⟨y, hy⟩ : ∃ y, (lineL xs q)[cmn (lineL xs p) (lineL xs q)]? = some y := ⟨_, List.getElem?_eq_getElem (by omega)⟩
  refine cmn_stop _ _ x y hx hy ?_
  have f1 : ((lineL xs p).take (i + 1))[cmn (lineL xs p) (lineL xs q)]? = some x := by rw [List.getElem?_take, if_pos (by omega)]; exact hx
  have f2 : ((lineL xs q).take (i + 1))[cmn (lineL xs p) (lineL xs q)]? = some y := by rw [List.getElem?_take, if_pos (by omega)]; exact hy
  rw [e3] at f1
  exact Option.some.inj (f1.symm.trans f2)

/-- The last place that two lines have. -/
theorem lob_line {xs : List En} (h : UpsOk xs) {p q : Int} (hp : 0 ≤ p ∧ p < xs.length) (hq : 0 ≤ q ∧ q < xs.length) : 1 ≤ cmn (lineL xs p) (lineL xs q) ∧ (lineL xs p)[cmn (lineL xs p) (lineL xs q) - 1]? = some (lob (lineL xs q) (lineL xs p).reverse) := by
  have h1 := cmn_pos (line_zero h _ p (Nat.le_refl _) hp.1 hp.2) (line_zero h _ q (Nat.le_refl _) hq.1 hq.2)
  refine ⟨h1, ?_⟩
  have hle := cmn_le (lineL xs p) (lineL xs q)
  have ht := cmn_take (lineL xs p) (lineL xs q)
  have hap := fun i u => line_apart h hp hq i u
  generalize lineL xs p = A at *
  generalize lineL xs q = B at *
  generalize cmn A B = n at *
  obtain ⟨k, rfl⟩ : ∃ k, n = k + 1 := ⟨n - 1, by omega⟩
  obtain ⟨u, hu⟩ : ∃ u, A[k]? = some u := ⟨_, List.getElem?_eq_getElem (by omega)⟩
  have hub : u ∈ B := by
    have : (A.take (k + 1))[k]? = some u := by rw [List.getElem?_take, if_pos (by omega)]; exact hu
    rw [ht] at this
    exact List.mem_of_mem_take (List.mem_of_getElem? this)
  have e : A.reverse = (A.drop (k + 1)).reverse ++ (u :: (A.take k).reverse) := by
    have e1 : A = A.take (k + 1) ++ A.drop (k + 1) := (List.take_append_drop (k + 1) A).symm
    have e2 : A.take (k + 1) = A.take k ++ [u] := by rw [List.take_add_one, hu]; rfl
    rw [e2] at e1
    conv => lhs; rw [e1]
    simp
  rw [e, lob_skip B _ _ (fun y hy => ?_), lob, if_pos hub]
  · exact hu
  · rw [List.mem_reverse] at hy
    obtain ⟨j, hj⟩ := List.getElem?_of_mem hy
    rw [List.getElem?_drop] at hj
    exact hap (k + 1 + j) y (by omega) hj

end Go.Proofs.YtjjbkbinjmfnlaaGreatDoor

/- What is proved here: the last place that two lists have, in the program (slices.Backward, lastOfBoth). -/
namespace Go.Proofs.YtjjbkbinjmfnlaaGreatDoor
open Go.RowKit Go.Shelf
set_option linter.unusedVariables false
set_option linter.unusedSimpArgs false
set_option maxRecDepth 100000

attribute [local go_sem] Oper.semAt_some

/-- What a round of a loop keeps: what lay below n0, and the cell of one block. -/
def KpF (n0 Bi : Nat) (W W' : World) : Prop := Below n0 W W' ∧ ∀ v, W.cell? ⟨Bi, 0, none⟩ = some v → W'.cell? ⟨Bi, 0, none⟩ = some v

theorem kpF_t {n0 Bi : Nat} {A B C : World} (h : KpF n0 Bi A B) (k : KpF n0 Bi B C) : KpF n0 Bi A C := ⟨h.1.trans k.1, fun v hv => k.2 v (h.2 v hv)⟩

theorem kpF_b {n0 Bi : Nat} {w : World} (hn : n0 ≤ w.heap.size) (W : World) (l : Nat) (o o' : Obj) (hl : w.heap.size ≤ l) (h : W.heap[l]? = some o) (hc : o.isCells = false) (hw : o.isWalk = false) : KpF n0 Bi W (W.putObj l o') :=
  ⟨belowK_b hn W l o o' hl h hc hw, fun v hv => cell_kept hv (grownBy_putObj' W l o') (fun r e => by cases e; exact ⟨_, h, hc⟩)⟩

theorem newc (W : World) (v : Value) (t : TypeId) : (W.alloc (.cells #[v] t)).cell? ⟨W.heap.size, 0, none⟩ = some v ∧ (W.alloc (.cells #[v] t)).frozen? ⟨W.heap.size, 0, none⟩ = false := by
  constructor <;> simp

theorem oldc {W : World} {a : Addr} {v : Value} (o : Obj) (h : W.cell? a = some v) : (W.alloc o).cell? a = some v := cell_kept h (World.grownBy_alloc W o none) (fun r e => by cases e)
theorem oldf {W : World} {a : Addr} {v : Value} (o : Obj) (h : W.cell? a = some v) (hf : W.frozen? a = false) : (W.alloc o).frozen? a = false := (frozen_kept h (World.grownBy_alloc W o none) (fun r e => by cases e)).trans hf

/-- The places of a list from the last one on. -/
def bk : Nat → List Nat
  | 0 => []
  | m + 1 => m :: bk m

theorem bk_len : ∀ n, (bk n).length = n
  | 0 => rfl
  | n + 1 => by rw [bk, List.length_cons, bk_len n]

set_option maxHeartbeats 2000000 in
theorem back1_in (F : Fence) (n : Nat) (hfn : F.fn 103) (hro : F.round = none) (hn : 1 ≤ n) (l Bi : Nat) (a : Option Addr) (len cap : Nat) (L : List Int) (w0 : World) (hI : IRow w0 a len L) (hl : len ≤ 1048576)
    (J Jx : List Nat → World → Prop)
    (hY : ∀ pre (x : Nat) W, J pre W → pre.length < (bk len).length → YieldAt F (n - 1) Tryz.prog l #[.int .i64 (x : Int), .int .i64 (L.getD x 0)] W fun e W' =>
      (e = .returned (.bool true) ∧ J (pre ++ [x]) W' ∧ KpF w0.heap.size Bi W W') ∨ (e = .returned (.bool false) ∧ Jx (pre ++ [x]) W'))
    (W : World) (hB0 : Below w0.heap.size w0 W) (hBi : W.cell? ⟨Bi, 0, none⟩ = some (.slice a len cap)) (h0 : J [] W) :
    CallsIn F n Tryz.prog 103 #[.func (.yield l) #[] #[], .pointer (some ⟨Bi, 0, none⟩)] W fun e W' => (∃ v, e = .returned v) ∧
      ((∃ ys, ys = bk len ∧ J ys W') ∨ (∃ pre, pre <+: bk len ∧ Jx pre W')) := by
  have HI := hide hI
  clear hI
  refine callsIn_of_wp Tryz.func103 rfl hfn ?_ hro
  simp only [Tryz.ntmps103, List.size_toArray, List.length_cons, List.length_nil, Nat.reduceAdd, Nat.reduceSub, Array.replicate_succ, Array.replicate_zero, List.push_toArray, List.append_toArray, List.nil_append, List.cons_append]
  gi_wp2
  gi_loopw [3] (fun p wr => ∃ (pre : List Nat) (m : Nat), p = .int .i64 ((m : Int) - 1) ∧ bk len = pre ++ bk m ∧ m ≤ len ∧ Below w0.heap.size w0 wr ∧ wr.cell? ⟨Bi, 0, none⟩ = some (.slice a len cap) ∧ J pre wr)
    (fun p wr => (intOf p + 1).toNat)
  case atStart =>
    exact ⟨[], len, rfl, rfl, Nat.le_refl _, hB0, hBi, h0⟩
  case round =>
    obtain ⟨pre, m, rfl, hx, hm, hb, hbi, hJs⟩ := hrel
    clear hB0 hBi h0
    cases m with
    | zero =>
      have d0 : decide (((0 : Nat) : Int) - 1 ≥ 0) = false := rfl
      rw [bk, List.append_nil] at hx
      gi_wp2
      go_end0
      exact ⟨⟨_, rfl⟩, .inl ⟨pre, hx.symm, hJs⟩⟩
    | succ m =>
      have m0 : ((m + 1 : Nat) : Int) - 1 = (m : Int) := by omega
      rw [m0]
      have hd : decide ((m : Int) ≥ 0) = true := decide_eq_true (by omega)
      have hd2 : decide ((0 : Int) ≤ (m : Int)) = true := decide_eq_true (by omega)
      obtain ⟨b, off, rfl, hbl, hat⟩ := (unhide HI).at (by omega)
      have c0 := (hb.cell (p := ⟨b, off + m, none⟩) hbl).trans (hat m (by omega))
      rw [bk] at hx
      have hYm := hY pre m wr hJs (by rw [hx]; simp)
      generalize L.getD m 0 = vv at c0 hYm
      obtain ⟨fn, tmps, assign, body, hy, hR⟩ := hYm
      have i1 : (0 : Int) ≤ (m : Int) := by omega
      have i2 : (m : Int) < (len : Int) := by omega
      have HX := hide hx
      have HB := hide hb
      have HJ := hide hJs
      clear hx hJs hat m0 hb
      gi_wp2
      refine hR.mono ?_
      rintro e W3 (⟨rfl, hJ3, hk3⟩ | ⟨rfl, hJx3⟩)
      · have hb3 : Below w0.heap.size w0 W3 := (unhide HB).trans hk3.1
        have hbi3 := hk3.2 _ hbi
        have HJ3 := hide hJ3
        have HB3 := hide hb3
        clear hJ3 hb3 hk3 c0 hbi
        gi_wp2
        go_roundw
        case rel => exact ⟨pre ++ [m], m, by go_num, by rw [unhide HX]; simp, by omega, unhide HB3, hbi3, unhide HJ3⟩
        case measure => simp [intOf]
      · gi_wp2
        refine bodyPost_ret (results_none rfl _ _ _) rfl ?_
        exact ⟨⟨_, rfl⟩, .inr ⟨pre ++ [m], ⟨bk m, by rw [unhide HX]; simp⟩, hJx3⟩⟩

set_option maxHeartbeats 1000000 in
theorem back_in (F : Fence) (n : Nat) (hfn : F.fn 77) (hro : F.round = none) (a : Option Addr) (len cap : Nat) (w : World) :
    CallsIn F n Tryz.prog 77 #[.slice a len cap] w fun e w' => e = .returned (.func (.func 103) #[] #[.pointer (some ⟨w.heap.size, 0, none⟩)]) ∧ w' = w.alloc (.cells #[.slice a len cap] 28) := by
  refine callsIn_of_wp Tryz.func77 rfl hfn ?_ hro
  simp only [Tryz.ntmps77, List.size_toArray, List.length_cons, List.length_nil, Nat.reduceAdd, Nat.reduceSub, Array.replicate_succ, Array.replicate_zero, List.push_toArray, List.append_toArray, List.nil_append, List.cons_append]
  gi_wp2
  go_ret
  exact ⟨rfl, rfl⟩

theorem back_stops (F : Fence) (n : Nat) (hfn : F.fn 103) (hro : F.round = none) (hn : 1 ≤ n) (Bi : Nat) (a : Option Addr) (len cap : Nat) (L : List Int) (w0 w : World) (hI : IRow w0 a len L) (hl : len ≤ 1048576)
    (hb : Below w0.heap.size w0 w) (hBi : Bi < w.heap.size) (ci : w.cell? ⟨Bi, 0, none⟩ = some (.slice a len cap)) :
    SeqStopsK F n Tryz.prog 103 #[.pointer (some ⟨Bi, 0, none⟩)] (fun x : Nat => #[Value.int .i64 (x : Int), Value.int .i64 (L.getD x 0)]) (KpF w0.heap.size Bi) (fun ys => ys = bk len) (fun pre => pre <+: bk len) (bk len).length w := fun l J Jx W hW _ _ hY h0 =>
  back1_in F n hfn hro hn l Bi a len cap L w0 hI hl J Jx hY W (hb.trans (hW.mono hb.size)) ((hW.cell (p := ⟨Bi, 0, none⟩) hBi).trans ci) h0

theorem rev_bk : ∀ (L : List Int), L.reverse = (bk L.length).map (fun x => L.getD x 0) := fun L => by
  have key : ∀ n, n ≤ L.length → (L.take n).reverse = (bk n).map (fun x => L.getD x 0) := by
    intro n
    induction n with
    | zero => intro _; rfl
    | succ n ih =>
      intro h
      obtain ⟨u, hu⟩ : ∃ u, L[n]? = some u := ⟨_, List.getElem?_eq_getElem (by omega)⟩
      rw [List.take_add_one, hu, bk, List.map_cons, ← ih (by omega), List.getD_eq_getElem?_getD, hu]
      simp
  have := key L.length (Nat.le_refl _)
  rwa [List.take_length] at this

theorem getD_mem' {M : List Int} {k : Nat} (h : k < M.length) : M.getD k 0 ∈ M := by
  rw [List.getD_eq_getElem?_getD, List.getElem?_eq_getElem h]
  exact List.getElem_mem h

theorem not_mem_of {M : List Int} {v : Int} (h : ∀ j, j < M.length → M.getD j 0 ≠ v) : v ∉ M := fun hm => by
  obtain ⟨j, hj⟩ := List.getElem?_of_mem hm
  refine h j (List.getElem?_eq_some_iff.1 hj).1 ?_
  rw [List.getD_eq_getElem?_getD, hj]
  rfl

theorem lob_none {L M : List Int} {n : Nat} (hn : L.length = n) (h : ∀ y ∈ bk n, L.getD y 0 ∉ M) : lob M L.reverse = -1 := by
  rw [rev_bk, hn]
  have := lob_skip M ((bk n).map (fun x => L.getD x 0)) [] (fun p hp => by
    obtain ⟨y, hy, rfl⟩ := List.mem_map.1 hp
    exact h y hy)
  rw [List.append_nil] at this
  exact this

theorem lob_hit {L M : List Int} {n : Nat} (hn : L.length = n) {pre : List Nat} {x : Nat} (hp : (pre ++ [x]) <+: bk n) (h : ∀ y ∈ pre, L.getD y 0 ∉ M) (hx : L.getD x 0 ∈ M) : lob M L.reverse = L.getD x 0 := by
  obtain ⟨rest, e⟩ := hp
  rw [rev_bk, hn, ← e]
  simp only [List.map_append, List.map_cons, List.map_nil, List.append_assoc, List.cons_append, List.nil_append]
  rw [lob_skip M _ _ (fun p hp => by
    obtain ⟨y, hy, rfl⟩ := List.mem_map.1 hp
    exact h y hy), lob, if_pos hx]

set_option maxHeartbeats 2000000 in
theorem lastOf_in (a b : Option Addr) (la ca lb cb : Nat) (L M : List Int) (w : World)
    (hI : IRow w a la L) (hl : la ≤ 1048576) (hJ : IRow w b lb M) (hlb : lb ≤ 1048576) :
    CallsIn Fence.wide 3 Tryz.prog 53 #[.slice a la ca, .slice b lb cb] w fun e W' => e = .returned (.int .i64 (lob M L.reverse)) ∧ Below w.heap.size w W' := by
  refine callsIn_of_wp_marks Tryz.func53 rfl trivial ?_ rfl
  simp only [Tryz.ntmps53, List.size_toArray, List.length_cons, List.length_nil, Nat.reduceAdd, Nat.reduceSub, Array.replicate_succ, Array.replicate_zero, List.push_toArray, List.append_toArray, List.nil_append, List.cons_append]
  gi_wp2
  refine wpIn_wide.2 (wp_scope_straight ((wpIn_wide (n := 3)).1 ?_))
  gi_wp2
  refine wpIn_label ?_
  gi_wp2
  refine ⟨trivial, (back_in Fence.wide 2 trivial rfl _ _ _ _).mono ?_⟩
  rintro e w' ⟨rfl, rfl⟩
  gi_wp2
  have c0 := newc w (.slice b lb cb) 28
  have c1 := newc (w.alloc (.cells #[.slice b lb cb] 28)) (.int .i64 (-1)) 2
  have c2 := newc ((w.alloc (.cells #[.slice b lb cb] 28)).alloc (.cells #[.int .i64 (-1)] 2)) (.slice a la ca) 28
  simp only [World.size_alloc] at c1 c2
  have hB0 : Below w.heap.size w (((w.alloc (.cells #[.slice b lb cb] 28)).alloc (.cells #[.int .i64 (-1)] 2)).alloc (.cells #[.slice a la ca] 28)) := (((Below.refl _ w).alloc (Nat.le_refl _) _).alloc (by simp) _).alloc (by simp; omega) _
  refine wpIn_rangeFunc_ownF (F := Fence.wide) rfl (by decide) (gf := 103) (lb := #[.pointer (some ⟨w.heap.size + 1 + 1, 0, none⟩)]) rfl trivial (enters_of Tryz.func103 (by kernel_rfl) rfl)
    (back_stops Fence.wide (3 - 1) trivial rfl (by decide) (w.heap.size + 1 + 1) a la ca L w _ hI hl hB0 (by simp) c2.1) kpF_t (kpF_b (by simp; omega)) (Below.refl _ _) (fun _ => rfl)
    (fun pre W => ((∀ y ∈ pre, L.getD y 0 ∉ M) ∧ W.cell? ⟨w.heap.size, 0, none⟩ = some (.slice b lb cb) ∧ W.cell? ⟨w.heap.size + 1, 0, none⟩ = some (.int .i64 (-1)) ∧ W.frozen? ⟨w.heap.size + 1, 0, none⟩ = false) ∧ Below w.heap.size w W)
    (fun c pre W => (c = .exit 0 ∧ (∃ pr x, pre = pr ++ [x] ∧ (∀ y ∈ pr, L.getD y 0 ∉ M) ∧ L.getD x 0 ∈ M ∧ W.cell? ⟨w.heap.size + 1, 0, none⟩ = some (.int .i64 (L.getD x 0)))) ∧ Below w.heap.size w W)
    (OwnFrom.and (Own.from (fun s A B row hs hg hr => ⟨hs.1, cell_kept hs.2.1 hg hr, cell_kept hs.2.2.1 hg hr, (frozen_kept hs.2.2.1 hg hr).trans hs.2.2.2⟩) _) (ownFrom_below (Nat.le_refl _) (by simp; omega)))
    (fun c => OwnFrom.and (Own.from (fun s A B row hs hg hr => ⟨hs.1, match hs.2 with | ⟨pr, x, h1, h2, h3, h4⟩ => ⟨pr, x, h1, h2, h3, cell_kept h4 hg hr⟩⟩) _) (ownFrom_below (Nat.le_refl _) (by simp; omega)))
    ⟨⟨by simp, oldc _ (oldc _ c0.1), oldc _ c1.1, oldf _ c1.1 c1.2⟩, hB0⟩
    (fun x => { tmps := #[.slice a la ca, .slice b lb cb, undef, .pointer (some ⟨w.heap.size, 0, none⟩), .int .i64 0, .pointer (some ⟨w.heap.size + 1, 0, none⟩), undef, .int .i64 (L.getD x 0), undef, undef, .slice a la ca, .func (.func 103) #[] #[.pointer (some ⟨w.heap.size + 1 + 1, 0, none⟩)], .int .i64 (x : Int), .int .i64 (L.getD x 0), undef, undef, undef, undef, undef, undef, undef, undef, undef, undef, undef, undef], defers := [] }) ?assign ?body ?done ?stop
  case assign =>
    intro l x W K hK
    gi_wp2
    simpa using hK
  case body =>
    rintro l pre x W ⟨⟨hp, hcb, hcl, hfl⟩, hB⟩ hlt
    obtain ⟨v, hv⟩ : ∃ v, v = L.getD x 0 := ⟨_, rfl⟩
    have HV := hide hv
    rw [← hv]
    have HP := hide hp
    have HB := hide hB
    have HJR := hide hJ
    clear hv hp hlt c0 c1 c2 hB0 hI hB hJ
    gi_wp2
    gi_loopw [16] (fun i wr => ∃ k : Nat, k ≤ lb ∧ i = .int .i64 k ∧ (∀ j, j < k → M.getD j 0 ≠ v) ∧ wr = W) (fun i _ => lb - (intOf i).toNat)
    case atStart => exact ⟨0, Nat.zero_le _, rfl, fun j hj => absurd hj (Nat.not_lt_zero _), rfl⟩
    case round =>
      obtain ⟨k, hk, rfl, hall, hwr⟩ := hrel
      subst hwr
      have HALL := hide hall
      clear hall
      by_cases hlt2 : k < lb
      · obtain ⟨bb, ob, rfl, hbl, hat⟩ := (unhide HJR).at (by omega)
        have ck := ((unhide HB).cell (p := ⟨bb, ob + k, none⟩) hbl).trans (hat k hlt2)
        obtain ⟨u, hu⟩ : ∃ u, u = M.getD k 0 := ⟨_, rfl⟩
        rw [← hu] at ck
        have HU := hide hu
        have i1 : (0 : Int) ≤ (k : Int) := by omega
        have i2 : (k : Int) < (lb : Int) := by omega
        clear hat hu
        by_cases he : v = u
        · have d1 : (v == u) = true := by simp [he]
          have HM : Hid (L.getD x 0 ∈ M) := by
            show _ ∈ M
            rw [← unhide HV, he, unhide HU]
            exact getD_mem' (by rw [(unhide HJR).1]; exact hlt2)
          clear he
          gi_wp2
          exact ⟨KeepsOthers.setCell _ _ _, ⟨rfl, pre, x, rfl, unhide HP, unhide HM, by rw [← unhide HV]; exact World.cell?_setCell_same' _ _ _ (by rw [hcl]; rfl)⟩, (unhide HB).setCell (p := ⟨w.heap.size + 1, 0, none⟩) (by simp) _⟩
        · have d1 : (v == u) = false := by simp [he]
          have HE := hide he
          clear he
          gi_wp2
          go_roundw
          case rel =>
            refine ⟨k + 1, by omega, by go_num, fun j hj => ?_, by first | rfl | trivial⟩
            by_cases e : j = k
            · subst e; rw [← unhide HU]; exact fun h => unhide HE h.symm
            · exact (unhide HALL) j (by omega)
          case measure => simp [intOf]; omega
      · obtain rfl : k = lb := by omega
        have HN : Hid (L.getD x 0 ∉ M) := by
          show ¬ _
          rw [← unhide HV]
          exact not_mem_of (fun j hj => (unhide HALL) j (by rw [← (unhide HJR).1]; exact hj))
        gi_wp2
        exact ⟨KeepsOthers.refl _, ⟨Below.refl _ _, fun v hv => hv⟩, ⟨fun y hy => (List.mem_append.1 hy).elim ((unhide HP) y) (fun e => by simp at e; subst e; exact unhide HN), hcb, hcl, hfl⟩, unhide HB⟩
  case done =>
    rintro D ys W hD rfl ⟨⟨hp, _, hcl, hfl⟩, hB⟩ hK
    gi_wp2
    refine ⟨by simp, .inl ⟨_, _, rfl, run_takeDeferred hK, ?_⟩⟩
    exact ⟨_, results_tmp rfl _ _ _, by rw [lob_none hI.1 hp]; rfl, hB.trans (belowK_b (w := w) (Nat.le_refl _) W D _ _ (by simp at hD; omega) hK rfl rfl)⟩
  case stop =>
    rintro D c pre W hD hpre ⟨⟨rfl, pr, x, rfl, h1, h2, h3⟩, hB⟩ hK
    have HH := hide (lob_hit hI.1 hpre h1 h2)
    obtain ⟨v, hv⟩ : ∃ v, v = L.getD x 0 := ⟨_, rfl⟩
    rw [← hv] at h3 HH
    clear h1 h2 hv
    gi_wp2
    refine ⟨by simp, .inl ⟨_, _, rfl, run_takeDeferred hK, ?_⟩⟩
    exact ⟨_, results_tmp rfl _ _ _, by rw [unhide HH]; rfl, hB.trans (belowK_b (w := w) (Nat.le_refl _) W D _ _ (by simp at hD; omega) hK rfl rfl)⟩

theorem lastOf_any (a b : Option Addr) (la ca lb cb : Nat) (L M : List Int) (w : World) (hI : IRow w a la L) (hl : la ≤ 1048576) (hJ : IRow w b lb M) (hlb : lb ≤ 1048576) :
    Calls Tryz.prog 53 #[.slice a la ca, .slice b lb cb] w fun e W' => e = .returned (.int .i64 (lob M L.reverse)) ∧ Below w.heap.size w W' :=
  (callsIn_wide (n := 3)).1 (lastOf_in a b la ca lb cb L M w hI hl hJ hlb)

end Go.Proofs.YtjjbkbinjmfnlaaGreatDoor

/- What is proved here: what CommonOf of the program and of the model answers: the last place that two lines have. -/
namespace Go.Proofs.YtjjbkbinjmfnlaaGreatDoor
open Go.RowKit
set_option linter.unusedVariables false
set_option linter.unusedSimpArgs false
set_option maxRecDepth 100000

/-- What CommonOf answers beside the code. -/
def cmVal (x : St) (a b : Int) : Int := if plsCode x [a, b] = 0 then lob (lineL x.2 b) (lineL x.2 a).reverse else 0

theorem cmn_eq {L M : List Int} {k : Nat} {u : Int} (h1 : L[k]? = some u) (h2 : M[k]? = some u) : cmn (L.drop k) (M.drop k) = cmn (L.drop (k + 1)) (M.drop (k + 1)) + 1 := by
  obtain ⟨a1, e1⟩ := List.getElem?_eq_some_iff.1 h1
  obtain ⟨a2, e2⟩ := List.getElem?_eq_some_iff.1 h2
  rw [List.drop_eq_getElem_cons a1, List.drop_eq_getElem_cons a2, e1, e2, cmn, if_pos rfl]

theorem cmn_ne {L M : List Int} {k : Nat} {u v : Int} (h1 : L[k]? = some u) (h2 : M[k]? = some v) (h : u ≠ v) : cmn (L.drop k) (M.drop k) = 0 := by
  obtain ⟨a1, e1⟩ := List.getElem?_eq_some_iff.1 h1
  obtain ⟨a2, e2⟩ := List.getElem?_eq_some_iff.1 h2
  rw [List.drop_eq_getElem_cons a1, List.drop_eq_getElem_cons a2, e1, e2, cmn, if_neg h]

theorem cmn_end {L M : List Int} {k : Nat} (h : L.length ≤ k ∨ M.length ≤ k) : cmn (L.drop k) (M.drop k) = 0 := by
  rcases h with h | h
  · rw [List.drop_eq_nil_of_le h]; unfold cmn; rfl
  · rw [List.drop_eq_nil_of_le h]
    cases L.drop k <;> rfl

set_option maxHeartbeats 4000000 in
theorem l11Common_any (a b : Option Addr) (la ca lb cb : Nat) (L M : List Int) (w : World) (hI : IRow w a la L) (hl : la ≤ 1048576) (hJ : IRow w b lb M) (hlb : lb ≤ 1048576) :
    Calls Tryz.prog 52 #[.slice a la ca, .slice b lb cb] w fun r w' => r = .returned (.int .i64 (cmn L M : Int)) ∧ Below w.heap.size w w' := by
  obtain ⟨R, eR⟩ : ∃ R, R = cmn L M := ⟨_, rfl⟩
  rw [← eR]
  have HF : Hid (R = 0 + cmn (L.drop 0) (M.drop 0)) := by show _ = _; rw [eR, Nat.zero_add]; rfl
  have HIa := hide hI
  have HJb := hide hJ
  clear eR hI hJ
  go_enter Tryz.func52, Tryz.ntmps52
  go_wp2_with fail
  go_loopw [5] (fun i wr => ∃ (k nn : Nat), k ≤ la ∧ k ≤ lb ∧ i = .int .i64 k ∧ R = k + cmn (L.drop k) (M.drop k) ∧ wr = w.drewN nn) (fun i _ => la - (intOf i).toNat)
  case atStart => exact ⟨0, 0, Nat.zero_le _, Nat.zero_le _, rfl, unhide HF, rfl⟩
  case round =>
    obtain ⟨k, nn, hk1, hk2, rfl, hR, hwr⟩ := hrel
    subst hwr
    clear HF
    have hLl := (unhide HIa).1
    have hMl := (unhide HJb).1
    have HFIN : Hid (∀ n2, Below w.heap.size w ((w.drewN nn).drewN n2)) := fun n2 => below_drewN (below_drewN (Below.refl _ _) _) _
    by_cases h1 : k < la
    · by_cases h2 : k < lb
      · obtain ⟨u, hu⟩ : ∃ u, L[k]? = some u := ⟨_, List.getElem?_eq_getElem (by omega)⟩
        obtain ⟨v, hv⟩ : ∃ v, M[k]? = some v := ⟨_, List.getElem?_eq_getElem (by omega)⟩
        obtain ⟨ba, oa, rfl, _, hca⟩ := (unhide HIa).at (by omega)
        obtain ⟨bb, ob, rfl, _, hcb⟩ := (unhide HJb).at (by omega)
        have cu := hca k h1
        have cv := hcb k h2
        rw [List.getD_eq_getElem?_getD, hu] at cu
        rw [List.getD_eq_getElem?_getD, hv] at cv
        simp only [Option.getD_some] at cu cv
        have d1 : decide ((k : Int) < (la : Int)) = true := decide_eq_true (by omega)
        have d2 : decide ((k : Int) < (lb : Int)) = true := decide_eq_true (by omega)
        have i1 : (0 : Int) ≤ (k : Int) := by omega
        have i2 : (k : Int) < (la : Int) := by omega
        have i3 : (k : Int) < (lb : Int) := by omega
        by_cases he : u = v
        · subst he
          have HN : Hid (R = (k + 1) + cmn (L.drop (k + 1)) (M.drop (k + 1))) := by
            show _ = _
            rw [hR, cmn_eq hu hv]
            omega
          have d3 : (u == u) = true := by simp
          clear hca hcb hu hv hR hLl hMl
          go_wp2_with fail
          go_quiet (fail)
          go_wp2_with fail
          go_roundw
          case rel => exact ⟨k + 1, nn + nq, by omega, by omega, by go_num, unhide HN, by first | rfl | simp⟩
          case measure => simp [intOf]; omega
        · have HN : Hid (R = k) := by
            show _ = _
            rw [hR, cmn_ne hu hv he, Nat.add_zero]
          have d3 : (u == v) = false := by simp [he]
          clear hca hcb hu hv hR hLl hMl he
          go_wp2_with fail
          go_quiet (fail)
          go_wp2_with fail
          go_ret
          exact ⟨by rw [unhide HN]; rfl, (unhide HFIN) _⟩
      · have HN : Hid (R = k) := by
          show _ = _
          rw [hR, cmn_end (.inr (by omega)), Nat.add_zero]
        have d1 : decide ((k : Int) < (la : Int)) = true := decide_eq_true (by omega)
        have d2 : decide ((k : Int) < (lb : Int)) = false := decide_eq_false (by omega)
        clear hR hLl hMl
        go_wp2_with fail
        go_quiet (fail)
        go_wp2_with fail
        go_ret
        exact ⟨by rw [unhide HN]; rfl, (unhide HFIN) _⟩
    · have HN : Hid (R = k) := by
        show _ = _
        rw [hR, cmn_end (.inl (by omega)), Nat.add_zero]
      have d1 : decide ((k : Int) < (la : Int)) = false := decide_eq_false (by omega)
      clear hR hLl hMl
      go_wp2_with fail
      go_quiet (fail)
      go_wp2_with fail
      go_ret
      exact ⟨by rw [unhide HN]; rfl, (unhide HFIN) _⟩

set_option maxHeartbeats 4000000 in
theorem l11Two_any (g of' : Nat) (s : Sl) (x : St) (a b : Int) (w : World) (sb : ∀ j v, (tvals s x).toList[j]? = some v → w.cell? ⟨g, of' + j, none⟩ = some v) (o : RowOk enK w s x.2) (m : StSm x) :
    Calls Tryz.prog 51 #[.pointer (some ⟨g, of', none⟩), .int .i64 a, .int .i64 b] w fun r w' => r = .returned (.int .i64 (plsCode x [a, b])) ∧ Below w.heap.size w w' := by
  have D1 := hide (l10Fault_any g of' s x w sb o m)
  have x3 := sb 3 _ rfl
  have D2 := hide (fun (p : Int) (W : World) (hb : Below w.heap.size w W) => l11Place_any g of' s x.2 p W ((hb.cell (p := ⟨g, of' + 3, none⟩) (lt_of_cell x3)).trans x3) (RowOk.below o hb (Nat.le_refl _)))
  have HE : Hid (plsCode x [a, b] = if stFlt x = 0 then (if (within a 0 ((x.2.length : Int) - 1) && within b 0 ((x.2.length : Int) - 1)) = true then 0 else 3) else stFlt x) := by
    show _ = _
    unfold plsCode plsOk
    simp only [List.all_cons, List.all_nil, Bool.and_true]
  have DA := hide ((unhide D2) a)
  have DB := hide ((unhide D2) b)
  generalize plsCode x [a, b] = R at HE ⊢
  generalize stFlt x = q0 at D1 HE
  generalize within a 0 ((x.2.length : Int) - 1) = wa at DA HE
  generalize within b 0 ((x.2.length : Int) - 1) = wb at DB HE
  clear sb o m D2 x3
  go_enter Tryz.func51, Tryz.ntmps51
  go_wp2_with fail
  refine (unhide D1).mono ?_
  rintro r w1 ⟨rfl, b1⟩
  have B1 := hide b1
  clear b1 D1
  by_cases hq : q0 = 0
  · subst hq
    have HE1 := hide ((unhide HE).trans (if_pos rfl))
    cases wa
    · go_wp2_with fail
      refine ((unhide DA) _ (unhide B1)).mono ?_
      rintro r w2 ⟨rfl, rfl⟩
      go_wp2_with fail
      go_ret
      exact ⟨ret_int (unhide HE1).symm, unhide B1⟩
    · cases wb
      all_goals
        go_wp2_with fail
        refine ((unhide DA) _ (unhide B1)).mono ?_
        rintro r w2 ⟨rfl, rfl⟩
        go_wp2_with fail
        refine ((unhide DB) _ (unhide B1)).mono ?_
        rintro r w3 ⟨rfl, rfl⟩
        go_wp2_with fail
        go_ret
        exact ⟨ret_int (unhide HE1).symm, unhide B1⟩
  · have HE1 := hide ((unhide HE).trans (if_neg hq))
    have hne : (q0 != 0) = true := by simp [hq]
    go_wp2_with fail
    go_ret
    exact ⟨ret_int (unhide HE1).symm, unhide B1⟩

theorem cm_cases (x : St) (a b : Int) : (plsCode x [a, b] ≠ 0 ∧ cmVal x a b = 0) ∨ (plsCode x [a, b] = 0 ∧ cmVal x a b = lob (lineL x.2 b) (lineL x.2 a).reverse) := by
  unfold cmVal
  by_cases h : plsCode x [a, b] = 0
  · rw [if_pos h]; exact .inr ⟨h, rfl⟩
  · rw [if_neg h]; exact .inl ⟨h, rfl⟩

set_option maxHeartbeats 4000000 in
theorem specCommon_any (s : Sl) (x : St) (a b : Int) (w : World) (o : RowOk enK w s x.2) (m : StSm x) :
    Calls Tryz.prog 27 #[.agg (tvals s x), .int .i64 a, .int .i64 b] w fun r w' => r = .returned (.agg #[.int .i64 (plsCode x [a, b]), .int .i64 (cmVal x a b)]) ∧ Below w.heap.size w w' := by
  obtain ⟨k0, k1, k2, k3⟩ := two_blk w (tvals s x) #[.int .i64 0, .int .i64 0] 35 45
  obtain ⟨W0, e0⟩ : ∃ W, (w.alloc (.cells (tvals s x) 35)).alloc (.cells #[.int .i64 0, .int .i64 0] 45) = W := ⟨_, rfl⟩
  rw [e0] at k0 k1 k2 k3
  have D1 := hide (l11Two_any w.heap.size 0 s x a b W0 (fun j v hv => by rw [Nat.zero_add, k0.cell]; exact hv) (RowOk.below o k2 (Nat.le_refl _)) m)
  have D2 : Hid (plsCode x [a, b] = 0 → ∀ (p : Int), p ∈ [a, b] → ∀ (W : World), Below W0.heap.size W0 W → Calls Tryz.prog 31 #[.pointer (some ⟨w.heap.size, 0, none⟩), .int .i64 p] W fun r w' => ∃ a c, r = .returned (.slice a (lineL x.2 p).length c) ∧ w'.ownsRow W.heap.size 2 1 (.slice a (lineL x.2 p).length c) (lineL x.2 p).length ((lineL x.2 p).map (Value.int .i64)) ∧ Below W.heap.size W w') := fun hz p hp W hb => by
    obtain ⟨h0, hab⟩ := pls_zero hz
    have hpr := hab p hp
    exact l10Line_any w.heap.size 0 s x.2 (st_ups h0) (st_zero h0).2.1.2 (p + 1).toNat p (Nat.le_refl _) (by omega) hpr.2 W (by rw [Nat.zero_add]; exact (k0.below hb k0.lt).cell 3) (RowOk.below o (k2.trans (hb.mono k2.size)) (Nat.le_refl _))
  have HLL : Hid (plsCode x [a, b] = 0 → (lineL x.2 a).length ≤ 24 ∧ (lineL x.2 b).length ≤ 24 ∧ 1 ≤ cmn (lineL x.2 a) (lineL x.2 b) ∧ cmn (lineL x.2 a) (lineL x.2 b) ≤ (lineL x.2 a).length ∧ (lineL x.2 a)[cmn (lineL x.2 a) (lineL x.2 b) - 1]? = some (lob (lineL x.2 b) (lineL x.2 a).reverse)) := fun hz => by
    obtain ⟨h0, hab⟩ := pls_zero hz
    have ha := hab a (by simp)
    have hb := hab b (by simp)
    have hl := (st_zero h0).2.1.2
    have h := lob_line (st_ups h0) ha hb
    exact ⟨lineL_len _ _ (by omega), lineL_len _ _ (by omega), h.1, (cmn_le _ _).1, h.2⟩
  have HCS := hide (cm_cases x a b)
  have HK := hide (fun (W : World) (hb : Below W0.heap.size W0 W) => And.intro (k0.below hb k0.lt) (k1.below hb k1.lt))
  have HB0 := hide k2
  have E0 := hide e0
  unfold tvals at E0 k0 HK ⊢
  generalize cmVal x a b = vv at HCS ⊢
  generalize plsCode x [a, b] = q0 at D1 D2 HLL HCS ⊢
  have DA := hide (fun h => (unhide D2) h a (by simp))
  have DB := hide (fun h => (unhide D2) h b (by simp))
  generalize lineL x.2 a = LA at DA HLL HCS
  generalize lineL x.2 b = LB at DB HLL HCS
  clear e0 o m k0 k1 k2 k3 D2
  go_enter Tryz.func27, Tryz.ntmps27
  go_upto_region 1 with fail
  rw [unhide E0]
  clear E0
  go_wp2_with fail
  refine (unhide D1).mono ?_
  rintro r w1 ⟨rfl, b1⟩
  obtain ⟨k0, k1⟩ := (unhide HK) w1 b1
  have r0 := k1.cell 0
  have r1 := k1.cell 1
  have f0 := k1.free 0
  have f1 := k1.free 1
  simp only [List.getElem?_cons_zero, List.getElem?_cons_succ] at r0 r1
  have B1 := hide ((unhide HB0).trans (b1.mono (unhide HB0).size))
  have BW := hide b1
  clear b1 k0 k1 D1
  have HFIN : Hid (∀ (W : World), Below w.heap.size w W → ∀ u v, Below w.heap.size w ((W.setCell ⟨w.heap.size + 1, 0, none⟩ u).setCell ⟨w.heap.size + 1, 1, none⟩ v)) := fun W h u v => (h.setCell (by show w.heap.size ≤ w.heap.size + 1; omega) u).setCell (by show w.heap.size ≤ w.heap.size + 1; omega) v
  rcases unhide HCS with ⟨h1, rfl⟩ | ⟨rfl, hv⟩
  · have hne : (q0 != 0) = true := by simp [h1]
    clear h1
    go_wp2_with fail
    exact bodyPost_ret (v := .agg #[.int .i64 q0, .int .i64 0]) (by simp [results, Tryz.results27, go_sem, r0, r1]) rfl ⟨rfl, (unhide HFIN) _ (unhide B1) _ _⟩
  · obtain ⟨l1, l2, c1, c2, hg⟩ := (unhide HLL) rfl
    rw [← hv] at hg
    have D3 := hide ((unhide DA) rfl w1 (unhide BW))
    have D4 := hide ((unhide DB) rfl)
    have HG := hide hg
    clear hv hg DA DB HLL HCS
    go_wp2_with fail
    refine (unhide D3).mono ?_
    rintro r w2 ⟨a2, c2', rfl, o2, b2⟩
    have BW2 := hide ((unhide BW).trans (b2.mono (unhide BW).size))
    have B2 := hide ((unhide B1).trans (b2.mono (unhide B1).size))
    have IA := hide (IRow.own2 o2)
    clear b2 o2
    go_wp2_with fail
    refine ((unhide D4) w2 (unhide BW2)).mono ?_
    rintro r w3 ⟨a3, c3, rfl, o3, b3⟩
    have BW3 := hide ((unhide BW2).trans (b3.mono (unhide BW2).size))
    have B3 := hide ((unhide B2).trans (b3.mono (unhide B2).size))
    have IA3 := (unhide IA).below b3 (Nat.le_refl _)
    have D5 := hide (l11Common_any a2 a3 LA.length c2' LB.length c3 LA LB w3 IA3 (by omega) (IRow.own2 o3) (by omega))
    generalize cmn LA LB = nn at D5 HG c1 c2
    obtain ⟨k, rfl⟩ : ∃ k, nn = k + 1 := ⟨nn - 1, by omega⟩
    have hk : k < LA.length := by omega
    obtain ⟨ba, oa, rfl, hba, hcell⟩ := IA3.at (by omega)
    have HCL : Hid (∀ W, Below w3.heap.size w3 W → W.cell? ⟨ba, oa + k, none⟩ = some (.int .i64 vv)) := fun W hb => by
      have h := (hb.cell (p := ⟨ba, oa + k, none⟩) hba).trans (hcell k hk)
      have hg := unhide HG
      rw [Nat.add_sub_cancel] at hg
      rw [List.getD_eq_getElem?_getD, hg] at h
      exact h
    have i1 : (0 : Int) ≤ (k : Int) := by omega
    have i2 : (k : Int) < (LA.length : Int) := by omega
    have wk : IntKind.i64.wrap (k : Int) = (k : Int) := by rw [IntKind.wrap_i64]; omega
    clear b3 o3 IA IA3 hcell HG hba c1 c2 D3 D4
    go_wp2_with fail
    refine (unhide D5).mono ?_
    rintro r w4 ⟨rfl, b4⟩
    obtain ⟨k0, k1⟩ := (unhide HK) w4 ((unhide BW3).trans (b4.mono (unhide BW3).size))
    have r0 := k1.cell 0
    have r1 := k1.cell 1
    have f0 := k1.free 0
    have f1 := k1.free 1
    simp only [List.getElem?_cons_zero, List.getElem?_cons_succ] at r0 r1
    have cl := (unhide HCL) w4 b4
    have B4 := hide ((unhide B3).trans (b4.mono (unhide B3).size))
    clear b4 k0 k1 HCL D5
    go_wp2_with fail
    exact bodyPost_ret (v := .agg #[.int .i64 0, .int .i64 vv]) (by simp [results, Tryz.results27, go_sem, r0, r1]) rfl ⟨rfl, by first | exact (unhide HFIN) _ (unhide B4) _ _ | exact (unhide B4).setCell (by show w.heap.size ≤ w.heap.size + 1; omega) _⟩

set_option maxHeartbeats 4000000 in
theorem implCommon_any (s : Sl) (x : St) (a b : Int) (w : World) (o : RowOk enK w s x.2) (m : StSm x) (V : Laid w) :
    Calls Tryz.prog 28 #[.agg (tvals s x), .int .i64 a, .int .i64 b] w fun r w' => r = .returned (.agg #[.int .i64 (plsCode x [a, b]), .int .i64 (cmVal x a b)]) ∧ Below w.heap.size w w' := by
  obtain ⟨k0, k1, k2, k3⟩ := two_blk w (tvals s x) #[.int .i64 0, .int .i64 0] 35 45
  obtain ⟨W0, e0⟩ : ∃ W, (w.alloc (.cells (tvals s x) 35)).alloc (.cells #[.int .i64 0, .int .i64 0] 45) = W := ⟨_, rfl⟩
  rw [e0] at k0 k1 k2 k3
  have hal := below_alloc W0 (.cells #[.int .i64 a, .int .i64 b] 2)
  have D1 := hide (placeFaults_any s x (some ⟨W0.heap.size, 0, none⟩) 2 2 [a, b] (W0.alloc (.cells #[.int .i64 a, .int .i64 b] 2)) (RowOk.below o (k2.trans (hal.mono k2.size)) (Nat.le_refl _)) (irow2 W0 a b) (by decide) m (V.below (k2.trans (hal.mono k2.size)) (Nat.le_refl _)))
  have HAL := hide hal
  have D2 : Hid (plsCode x [a, b] = 0 → ∀ (p : Int), p ∈ [a, b] → ∀ (W : World), Below W0.heap.size W0 W → Calls Tryz.prog 35 #[.slice s.a s.n s.c, .int .i64 p] W fun r w' => ∃ a c, r = .returned (.slice a (lineL x.2 p).length c) ∧ w'.ownsRow W.heap.size 2 1 (.slice a (lineL x.2 p).length c) (lineL x.2 p).length ((lineL x.2 p).map (Value.int .i64)) ∧ Below W.heap.size W w') := fun hz p hp W hb => by
    obtain ⟨h0, hab⟩ := pls_zero hz
    have hpr := hab p hp
    have := lineTo_any s x.2 p.toNat W (RowOk.below o (k2.trans (hb.mono k2.size)) (Nat.le_refl _)) (st_ups h0) (st_zero h0).2.1.2 (by omega)
    rw [show ((p.toNat : Nat) : Int) = p by omega] at this
    exact this
  have HLL : Hid (plsCode x [a, b] = 0 → (lineL x.2 a).length ≤ 24 ∧ (lineL x.2 b).length ≤ 24) := fun hz => by
    obtain ⟨h0, hab⟩ := pls_zero hz
    have ha := hab a (by simp)
    have hb := hab b (by simp)
    have hl := (st_zero h0).2.1.2
    exact ⟨lineL_len _ _ (by omega), lineL_len _ _ (by omega)⟩
  have HCS := hide (cm_cases x a b)
  have HK := hide (fun (W : World) (hb : Below W0.heap.size W0 W) => And.intro (k0.below hb k0.lt) (k1.below hb k1.lt))
  have HB0 := hide k2
  have E0 := hide e0
  unfold tvals at E0 k0 HK D1 ⊢
  have x0 := k0.cell 0
  have x1 := k0.cell 1
  have x2 := k0.cell 2
  have x3 := k0.cell 3
  simp only [List.getElem?_cons_zero, List.getElem?_cons_succ] at x0 x1 x2 x3
  generalize cmVal x a b = vv at HCS ⊢
  generalize plsCode x [a, b] = q0 at D1 D2 HLL HCS ⊢
  have DA := hide (fun h => (unhide D2) h a (by simp))
  have DB := hide (fun h => (unhide D2) h b (by simp))
  generalize lineL x.2 a = LA at DA HLL HCS
  generalize lineL x.2 b = LB at DB HLL HCS
  clear e0 o m V k0 k1 k2 k3 D2 hal
  go_enter Tryz.func28, Tryz.ntmps28
  go_upto_region 1 with fail
  rw [unhide E0]
  clear E0
  go_wp2_with fail
  refine (unhide D1).mono ?_
  rintro r w1 ⟨rfl, b1⟩
  have b1 := (unhide HAL).trans (b1.mono (unhide HAL).size)
  obtain ⟨k0, k1⟩ := (unhide HK) w1 b1
  have r0 := k1.cell 0
  have r1 := k1.cell 1
  have f0 := k1.free 0
  have f1 := k1.free 1
  simp only [List.getElem?_cons_zero, List.getElem?_cons_succ] at r0 r1
  have B1 := hide ((unhide HB0).trans (b1.mono (unhide HB0).size))
  have BW := hide b1
  clear b1 k0 k1 x0 x1 x2 x3 D1
  have HFIN : Hid (∀ (W : World), Below w.heap.size w W → ∀ u v, Below w.heap.size w ((W.setCell ⟨w.heap.size + 1, 0, none⟩ u).setCell ⟨w.heap.size + 1, 1, none⟩ v)) := fun W h u v => (h.setCell (by show w.heap.size ≤ w.heap.size + 1; omega) u).setCell (by show w.heap.size ≤ w.heap.size + 1; omega) v
  rcases unhide HCS with ⟨h1, rfl⟩ | ⟨rfl, hv⟩
  · have hne : (q0 != 0) = true := by simp [h1]
    clear h1
    go_wp2_with fail
    exact bodyPost_ret (v := .agg #[.int .i64 q0, .int .i64 0]) (by simp [results, Tryz.results28, go_sem, r0, r1]) rfl ⟨rfl, (unhide HFIN) _ (unhide B1) _ _⟩
  · obtain ⟨l1, l2⟩ := (unhide HLL) rfl
    have HV := hide hv
    have HKP : Hid (∀ W, Below w1.heap.size w1 W → W.cell? ⟨w.heap.size, 3, none⟩ = some (.slice s.a s.n s.c) ∧ W.cell? ⟨w.heap.size + 1, 0, none⟩ = some (.int .i64 0) ∧ W.cell? ⟨w.heap.size + 1, 1, none⟩ = some (.int .i64 0) ∧ W.frozen? ⟨w.heap.size + 1, 0, none⟩ = false ∧ W.frozen? ⟨w.heap.size + 1, 1, none⟩ = false) := fun W hb => by
      obtain ⟨k0, k1⟩ := (unhide HK) W ((unhide BW).trans (hb.mono (unhide BW).size))
      exact ⟨k0.cell 3, k1.cell 0, k1.cell 1, k1.free 0, k1.free 1⟩
    have DAn := hide (fun (W : World) (hb : Below w1.heap.size w1 W) => (unhide DA) rfl W ((unhide BW).trans (hb.mono (unhide BW).size)))
    have DBn := hide (fun (W : World) (hb : Below w1.heap.size w1 W) => (unhide DB) rfl W ((unhide BW).trans (hb.mono (unhide BW).size)))
    have DL := hide (fun (W : World) (aa ab : Option Addr) (ca cb : Nat) (h1 : IRow W aa LA.length LA) (h2 : IRow W ab LB.length LB) => lastOf_any aa ab LA.length ca LB.length cb LA LB W h1 (by omega) h2 (by omega))
    have hne1 : ¬ w.heap.size = w.heap.size + 1 := by omega
    rw [← hv] at DL
    clear DA DB hv HLL HCS l1 l2
    go_wp2_with fail
    go_region_held3 (fun W => W.cell? ⟨w.heap.size, 3, none⟩ = some (.slice s.a s.n s.c))
      (first | exact ((unhide HKP) _ (Below.refl w1.heap.size w1).drew).1 | assumption | exact s1 | exact t1 | exact v1 | exact cell_keep2 v1 hne1 | go_keep)
      (first
        | (go_at_call 53; refine ((unhide DL) _ _ _ _ _ ((IRow.own2 o2).below b3 (Nat.le_refl _)) (IRow.own2 o3)).mono ?_; rintro r w4 ⟨rfl, b4⟩; have J4 : Below w1.heap.size w1 w4 := J3.trans (b4.mono J3.size); obtain ⟨v1, v2, v3, v4, v5⟩ := (unhide HKP) w4 J4; clear b4)
        | (go_at_call 35; refine ((unhide DBn) _ J2).mono ?_; rintro r w3 ⟨a3, c3, rfl, o3, b3⟩; have J3 : Below w1.heap.size w1 w3 := J2.trans (b3.mono J2.size); obtain ⟨t1, t2, t3, t4, t5⟩ := (unhide HKP) w3 J3)
        | (go_at_call 35; refine ((unhide DAn) _ ((Below.refl _ _).drew)).mono ?_; rintro r w2 ⟨a2, c2, rfl, o2, b2⟩; have J2 : Below w1.heap.size w1 w2 := (Below.refl w1.heap.size w1).drew.trans b2; obtain ⟨s1, s2, s3, s4, s5⟩ := (unhide HKP) w2 J2))
    all_goals
      have B4 := hide ((unhide B1).trans (J4.mono (unhide B1).size))
      clear o2 o3 J2 J3 J4 b2 b3 s1 s2 s3 s4 s5 t1 t2 t3 t4 t5 v1 r0 r1 f0 f1
      go_wp2_with fail
      exact bodyPost_ret (v := .agg #[.int .i64 0, .int .i64 vv]) (by simp [results, Tryz.results28, go_sem, v2, v3]) rfl ⟨rfl, (unhide HFIN) _ (unhide B4) _ _⟩

end Go.Proofs.YtjjbkbinjmfnlaaGreatDoor
