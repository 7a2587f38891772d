/- What is proved here: WideFault of the program and of the model, for every slice of numbers, and that of two numbers, one after the other. -/
import Derived.Test.YtldiilmpmcbjkaaGreatDoorChecked
import Derived.Test.YtldiilmpmcbjkaaGreatDoorJ1
import Derived.Test.YtldiilmpmcbjkaaGreatDoorJ2
import Derived.WalkKit
import Derived.WalkLawsBesides
import Derived.WalkSmall
import Derived.WalkSpells
import Derived.KernelRfl
import Derived.Test.YtldiilmpmcbjkaaGreatDoorJ12
import Derived.Laws.CopyOwn
import Derived.Deep.MidRow
import Derived.Deep.DrawnRows
import Derived.BigQuiet
import Derived.Deep.QuietTactic
namespace Go.Proofs.YtldiilmpmcbjkaaGreatDoor
open Go.RowKit
set_option linter.unusedVariables false
set_option maxRecDepth 100000

set_option maxHeartbeats 1000000 in
theorem wdIs_any (n : Int) (w : World) : Calls Tryz.prog 154 #[.int .i64 n] w fun e w' => e = .returned (.bool (isWord n)) ∧ w' = w := by
  by_cases h0 : 0 ≤ n
  · by_cases h1 : n ≤ 4294967295
    · have e0 : decide (0 ≤ n) = true := decide_eq_true h0
      have e1 : decide (n ≤ 4294967295) = true := decide_eq_true h1
      go_enter Tryz.func154, Tryz.ntmps154
      go_wp2
      go_ret
      exact ⟨ret_bool (by simp [isWord, h0, h1]), rfl⟩
    · have e0 : decide (0 ≤ n) = true := decide_eq_true h0
      have e1 : decide (n ≤ 4294967295) = false := decide_eq_false h1
      go_enter Tryz.func154, Tryz.ntmps154
      go_wp2
      go_ret
      exact ⟨ret_bool (by simp [isWord, h0, h1]), rfl⟩
  · have e0 : decide (0 ≤ n) = false := decide_eq_false h0
    go_enter Tryz.func154, Tryz.ntmps154
    go_wp2
    go_ret
    exact ⟨ret_bool (by rw [isWord, decide_eq_false (by omega)]), rfl⟩

set_option maxHeartbeats 1000000 in
theorem wdWord_any (v : Int) (w : World) : Calls Tryz.prog 109 #[.int .i64 v] w fun e w' => e = .returned (.bool (isWord v)) ∧ w' = w := by
  have HI := hide (show ∀ W, Calls Tryz.prog 50 #[.int .i64 v, .int .i64 0, .int .i64 4294967295] W fun e w' => e = .returned (.bool (isWord v)) ∧ w' = W from in_any v 0 4294967295)
  go_enter Tryz.func109, Tryz.ntmps109
  go_wp2_with fail
  refine ((unhide HI) _).mono ?_
  rintro e w' ⟨rfl, rfl⟩
  go_wp2_with fail
  go_ret
  exact ⟨rfl, rfl⟩

/-- The code of a wide number. -/
def wfCode (xs : List Int) : Int := if xs.length = 8 then (if xs.all isWord then 0 else 3) else 1

theorem wf_len (xs : List Int) (h : xs.length ≠ 8) : wfCode xs = 1 := by unfold wfCode; rw [if_neg h]
theorem wf_ok (xs : List Int) (h : xs.length = 8) (hk : (xs.take 8).all isWord = true) : wfCode xs = 0 := by
  rw [List.take_of_length_le (by omega)] at hk
  unfold wfCode; rw [if_pos h, if_pos hk]
theorem wf_bad (xs : List Int) (h : xs.length = 8) (k : Nat) (hk : k < 8) (hb : isWord (xs.getD k 0) = false) : wfCode xs = 3 := by
  unfold wfCode
  rw [if_pos h, if_neg]
  intro ha
  rw [List.all_eq_true] at ha
  have := ha (xs.getD k 0) (by rw [getD_at _ _ (by omega)]; exact List.getElem_mem _)
  rw [hb] at this; cases this
theorem wf_step (xs : List Int) (k : Nat) (hk : k < xs.length) (hp : (xs.take k).all isWord = true) (hb : isWord (xs.getD k 0) = true) : (xs.take (k + 1)).all isWord = true := by
  rw [List.take_succ_eq_append_getElem hk, List.all_append, hp]
  rw [getD_at _ _ hk] at hb
  simp [hb]
/-- What a code of 0 says. -/
theorem wf_zero (xs : List Int) (h : wfCode xs = 0) : xs.length = 8 ∧ ∀ i, 0 ≤ xs.getD i 0 ∧ xs.getD i 0 ≤ 4294967295 := by
  unfold wfCode at h
  split at h
  case isTrue hl =>
    split at h
    case isTrue ha =>
      refine ⟨hl, fun i => ?_⟩
      by_cases hi : i < xs.length
      · rw [List.all_eq_true] at ha
        have := ha (xs.getD i 0) (by rw [getD_at _ _ hi]; exact List.getElem_mem _)
        exact of_decide_eq_true this
      · rw [List.getD_eq_getElem?_getD, List.getElem?_eq_none (by omega)]
        simp
    case isFalse => cases h
  case isFalse => cases h

set_option maxHeartbeats 2000000 in
theorem implWFault_any (a : Option Addr) (n cap : Nat) (xs : List Int) (w : World) (h : IRow w a n xs) (hl : n ≤ 1048576) :
    Calls Tryz.prog 148 #[.slice a n cap] w fun e w' => e = .returned (.int .i64 (wfCode xs)) ∧ w' = w := by
  have hxl := h.1
  by_cases hn : n = 8
  · subst hn
    obtain ⟨b, off, rfl, hb, hc⟩ := h.at (by omega)
    have HC := hide hc
    have WK := hide (wf_ok xs hxl)
    have WB := hide (wf_bad xs hxl)
    have WS := hide (fun k (hk : k < 8) => wf_step xs k (by omega))
    clear h hc
    go_enter Tryz.func148, Tryz.ntmps148
    go_wp2
    go_loop [10] (fun i => ∃ k : Nat, k ≤ 8 ∧ i = .int .i64 k ∧ (xs.take k).all isWord = true) (fun i => 8 - (intOf i).toNat)
    case atStart => exact ⟨0, Nat.zero_le _, rfl, by simp⟩
    case round =>
      obtain ⟨k, hk, rfl, hpre⟩ := hrel
      by_cases hlt : k < 8
      · have hck := (unhide HC) k hlt
        have hs := (unhide WS) k hlt hpre
        have hb' := (unhide WB) k hlt
        have HP := hide hpre
        clear hpre
        generalize xs.getD k 0 = x at hck hs hb'
        have HS := hide hs
        have HB := hide hb'
        clear hs hb'
        have HW := hide (wdIs_any x w)
        by_cases hx : isWord x = true
        · rw [hx] at HW
          have HT := hide ((unhide HS) hx)
          clear hx
          go_wp2_with fail
          refine (unhide HW).mono ?_
          rintro e w' ⟨rfl, rfl⟩
          go_wp2_with fail
          go_round
          case rel => exact ⟨k + 1, by omega, by go_num, unhide HT⟩
          case measure => simp [intOf]; omega
        · have hx' : isWord x = false := by simpa using hx
          rw [hx'] at HW
          have HT := hide ((unhide HB) hx')
          clear hx hx'
          go_wp2_with fail
          refine (unhide HW).mono ?_
          rintro e w' ⟨rfl, rfl⟩
          go_wp2_with fail
          go_ret
          exact ⟨ret_int (unhide HT).symm, rfl⟩
      · obtain rfl : k = 8 := by omega
        have HT := hide ((unhide WK) hpre)
        clear hpre
        go_wp2_with fail
        go_ret
        exact ⟨ret_int (unhide HT).symm, rfl⟩
  · have hlen : (((n : Nat) : Int) != 8) = true := by simp; omega
    have e := wf_len xs (by omega)
    have HE := hide e
    clear e h
    go_enter Tryz.func148, Tryz.ntmps148
    go_wp2
    go_ret
    exact ⟨ret_int (unhide HE).symm, rfl⟩

set_option maxHeartbeats 2000000 in
theorem l4Fault_any (a : Option Addr) (n cap : Nat) (xs : List Int) (w : World) (h : IRow w a n xs) (hl : n ≤ 1048576) :
    Calls Tryz.prog 83 #[.slice a n cap] w fun e w' => e = .returned (.int .i64 (wfCode xs)) ∧ w' = w := by
  have hxl := h.1
  by_cases hn : n = 8
  · subst hn
    obtain ⟨b, off, rfl, hb, hc⟩ := h.at (by omega)
    have HC := hide hc
    have WK := hide (wf_ok xs hxl)
    have WB := hide (wf_bad xs hxl)
    have WS := hide (fun k (hk : k < 8) => wf_step xs k (by omega))
    clear h hc
    go_enter Tryz.func83, Tryz.ntmps83
    go_wp2
    go_loop [3] (fun i => ∃ k : Nat, k ≤ 8 ∧ i = .int .i64 k ∧ (xs.take k).all isWord = true) (fun i => 8 - (intOf i).toNat)
    case atStart => exact ⟨0, Nat.zero_le _, rfl, by simp⟩
    case round =>
      obtain ⟨k, hk, rfl, hpre⟩ := hrel
      by_cases hlt : k < 8
      · have hck := (unhide HC) k hlt
        have hs := (unhide WS) k hlt hpre
        have hb' := (unhide WB) k hlt
        have HP := hide hpre
        clear hpre
        generalize xs.getD k 0 = x at hck hs hb'
        have HS := hide hs
        have HB := hide hb'
        clear hs hb'
        have HW := hide (wdWord_any x w)
        by_cases hx : isWord x = true
        · rw [hx] at HW
          have HT := hide ((unhide HS) hx)
          clear hx
          go_wp2_with fail
          refine (unhide HW).mono ?_
          rintro e w' ⟨rfl, rfl⟩
          go_wp2_with fail
          go_round
          case rel => exact ⟨k + 1, by omega, by go_num, unhide HT⟩
          case measure => simp [intOf]; omega
        · have hx' : isWord x = false := by simpa using hx
          rw [hx'] at HW
          have HT := hide ((unhide HB) hx')
          clear hx hx'
          go_wp2_with fail
          refine (unhide HW).mono ?_
          rintro e w' ⟨rfl, rfl⟩
          go_wp2_with fail
          go_ret
          exact ⟨ret_int (unhide HT).symm, rfl⟩
      · obtain rfl : k = 8 := by omega
        have HT := hide ((unhide WK) hpre)
        clear hpre
        go_wp2_with fail
        go_ret
        exact ⟨ret_int (unhide HT).symm, rfl⟩
  · have hlen : (((n : Nat) : Int) != 8) = true := by simp; omega
    have e := wf_len xs (by omega)
    have HE := hide e
    clear e h
    go_enter Tryz.func83, Tryz.ntmps83
    go_wp2
    go_ret
    exact ⟨ret_int (unhide HE).symm, rfl⟩

end Go.Proofs.YtldiilmpmcbjkaaGreatDoor

/- What is proved here: the faults of two wide numbers, one after the other, of the program and of the model. -/
namespace Go.Proofs.YtldiilmpmcbjkaaGreatDoor
open Go.RowKit
set_option linter.unusedVariables false
set_option maxRecDepth 100000

/-- The code of two wide numbers. -/
def wf2 (xs ys : List Int) : Int := if wfCode xs = 0 then wfCode ys else wfCode xs

set_option maxHeartbeats 2000000 in
theorem bothFault_any (a b : Option Addr) (n m cap cap2 : Nat) (xs ys : List Int) (w : World) (h : IRow w a n xs) (h2 : IRow w b m ys) (hl : n ≤ 1048576) (hl2 : m ≤ 1048576) :
    Calls Tryz.prog 135 #[.slice a n cap, .slice b m cap2] w fun e w' => e = .returned (.int .i64 (wf2 xs ys)) ∧ w' = w := by
  have H1 := hide (implWFault_any a n cap xs w h hl)
  have H2 := hide (implWFault_any b m cap2 ys w h2 hl2)
  clear h h2 hl hl2
  unfold wf2
  generalize wfCode xs = c at H1
  generalize wfCode ys = d at H2
  by_cases hc : c = 0
  · have hd : (c != 0) = false := by simp [hc]
    rw [if_pos hc]
    clear hc
    go_enter Tryz.func135, Tryz.ntmps135
    go_wp2_with fail
    refine (unhide H1).mono ?_
    rintro e w' ⟨rfl, rfl⟩
    go_wp2_with fail
    refine (unhide H2).mono ?_
    rintro e w' ⟨rfl, rfl⟩
    go_wp2_with fail
    go_ret
    exact ⟨rfl, rfl⟩
  · have hd : (c != 0) = true := by simp [hc]
    rw [if_neg hc]
    clear hc
    go_enter Tryz.func135, Tryz.ntmps135
    go_wp2_with fail
    refine (unhide H1).mono ?_
    rintro e w' ⟨rfl, rfl⟩
    go_wp2_with fail
    go_ret
    exact ⟨rfl, rfl⟩

end Go.Proofs.YtldiilmpmcbjkaaGreatDoor

/- What is proved here: blocks of eight numbers, read and written whole; the program's wideIn, which reads limbs into such a block. -/
namespace Go.Proofs.YtldiilmpmcbjkaaGreatDoor
open Go.RowKit
set_option linter.unusedVariables false
set_option maxRecDepth 100000

/-- A load by its run's equation. -/
theorem wpList_load_by {P : Program} {ops : Array Oper} {rest : List Oper} {op : Oper} {a : Act} {w : World} {Q : Exit → Act → World → Prop} (hgd : op.guard = none) (ty : TypeId) (x : Operand) (ho : op.op = .load ty x)
    (p v : Value) (hx : a.eval x = p) (hrun : (Instr.loadAt ty p).run P w = .ok v w) (h : wpList P ops Q rest (a.put op.dst v) w) : wpList P ops Q (op :: rest) a w :=
  wpList_plain hgd fun _ hK => by
    unfold Oper.wp execOp
    simp only [ho, hx, Sem.run_bind, hrun, Sem.run_pure, Result.andThen_ok]
    exact hK _ _ h

/-- A store by its run's equation. -/
theorem wpList_store_by {P : Program} {ops : Array Oper} {rest : List Oper} {op : Oper} {a : Act} {w : World} {Q : Exit → Act → World → Prop} (hgd : op.guard = none) (ty : TypeId) (x y : Operand) (ho : op.op = .store ty x y)
    (p v : Value) (hx : a.eval x = p) (hy : a.eval y = v) (w2 : World) (hrun : (Instr.storeAt ty p v).run P w = .ok () w2) (h : wpList P ops Q rest (a.put op.dst undef) w2) : wpList P ops Q (op :: rest) a w :=
  wpList_plain hgd fun _ hK => by
    unfold Oper.wp execOp
    simp only [ho, hx, hy, Sem.run_bind, hrun, Sem.run_pure, Result.andThen_ok]
    exact hK _ _ h

/-- Numbers as values. -/
def nvals (Z : List Int) : List Value := Z.map (Value.int .i64)
theorem nvals_length (Z : List Int) : (nvals Z).length = Z.length := by simp [nvals]

/-- A block of numbers. -/
def NBlk (w : World) (b : Nat) (Z : List Int) (t : TypeId) : Prop := w.heap[b]? = some (.cells (nvals Z).toArray t (0, 0))

theorem NBlk.cell {w : World} {b : Nat} {Z : List Int} {t : TypeId} (h : NBlk w b Z t) (i : Nat) (hi : i < Z.length) : w.cell? ⟨b, i, none⟩ = some (.int .i64 (Z.getD i 0)) := by
  simp [World.cell?, show w.heap[b]? = _ from h, hi, nvals]

theorem NBlk.free {w : World} {b : Nat} {Z : List Int} {t : TypeId} (h : NBlk w b Z t) (i : Nat) : w.frozen? ⟨b, i, none⟩ = false := frozen_of_row w b i _ t h

theorem NBlk.set {w : World} {b : Nat} {Z : List Int} {t : TypeId} (h : NBlk w b Z t) (i : Nat) (v : Int) : NBlk (w.setCell ⟨b, i, none⟩ (.int .i64 v)) b (Z.set i v) t := by
  have := heap_setCell_same w b i _ t (.int .i64 v) h
  unfold NBlk
  rw [this]
  simp [nvals, List.map_set]

theorem NBlk.other {w : World} {b b' : Nat} {Z : List Int} {t : TypeId} (h : NBlk w b Z t) (i : Nat) (v : Value) (hb : b ≠ b') : NBlk (w.setCell ⟨b', i, none⟩ v) b Z t := by
  unfold NBlk
  rw [heap_setCell_other w ⟨b', i, none⟩ b v hb]
  exact h

theorem NBlk.lt {w : World} {b : Nat} {Z : List Int} {t : TypeId} (h : NBlk w b Z t) : b < w.heap.size := lt_of_block h

theorem NBlk.below {w w' : World} {b C : Nat} {Z : List Int} {t : TypeId} (h : NBlk w b Z t) (hb : Below C w w') (hC : b < C) : NBlk w' b Z t := by
  unfold NBlk
  rw [hb.block b hC]
  exact h

theorem NBlk.new (w : World) (Z : List Int) (t : TypeId) : NBlk (w.alloc (.cells (nvals Z).toArray t)) w.heap.size Z t := by
  show (w.heap.push _)[w.heap.size]? = _
  simp

theorem NBlk.next {w : World} {b : Nat} {Z : List Int} {t : TypeId} (h : NBlk w b Z t) (o : Obj) : NBlk (w.alloc o) b Z t := h.below (below_alloc w o) h.lt

theorem all_n (Z : List Int) : (nvals Z).toArray.all (·.oneCell') = true :=
  all_oneCell_toArray (fun v hv => by obtain ⟨x, _, rfl⟩ := List.mem_map.1 hv; rfl)

theorem NBlk.range {w : World} {b : Nat} {Z : List Int} {t : TypeId} (h : NBlk w b Z t) : w.rangeAt b 0 (nvals Z) := by
  intro j v hj
  rw [Nat.zero_add, cell_of_row w b j _ t _ h]
  simpa using hj

theorem n_there {w : World} {b : Nat} {C : Array Value} {t : TypeId} (h : w.heap[b]? = some (.cells C t (0, 0))) (n : Nat) (hn : n = C.size) : w.there b 0 n := by
  intro j hj
  refine ⟨?_, frozen_of_row w b _ C t h⟩
  rw [Nat.zero_add, cell_of_row w b j C t _ h, Array.getElem?_eq_getElem (by omega)]
  rfl

/-- A whole row stored over a block is that row. -/
theorem n_setAll {b : Nat} {t : TypeId} : ∀ (vs pre post : List Value) (w : World), w.heap[b]? = some (.cells (pre ++ post).toArray t (0, 0)) → post.length = vs.length →
    (w.setCells b pre.length vs).heap[b]? = some (.cells (pre ++ vs).toArray t (0, 0))
  | [], pre, post, w, h, hl => by
    obtain rfl : post = [] := List.eq_nil_of_length_eq_zero (by simpa using hl)
    exact h
  | v :: r, pre, [], w, h, hl => by simp at hl
  | v :: r, pre, p :: post, w, h, hl => by
    have h1 := heap_setCell_same w b pre.length _ t v h
    have e : ((pre ++ p :: post).toArray.setIfInBounds pre.length v) = ((pre ++ [v]) ++ post).toArray := by
      rw [List.setIfInBounds_toArray]
      simp
    rw [e] at h1
    have ih := n_setAll r (pre ++ [v]) post (w.setCell ⟨b, pre.length, none⟩ v) h1 (by simpa using hl)
    have e2 : (pre ++ [v]).length = pre.length + 1 := by simp
    rw [e2] at ih
    show ((w.setCell ⟨b, pre.length, none⟩ v).setCells b (pre.length + 1) r).heap[b]? = _
    rw [ih]
    simp

theorem n_below {B : Nat} {w0 : World} (b : Nat) (hb : B ≤ b) : ∀ (vs : List Value) (o : Nat) (w : World), Below B w0 w → Below B w0 (w.setCells b o vs)
  | [], _, _, h => h
  | v :: r, o, w, h => n_below b hb r (o + 1) _ (h.setCell hb v)

/-- A whole wide number loaded. -/
theorem load8 {w : World} {b : Nat} {Z : List Int} (h : NBlk w b Z 166) (hz : Z.length = 8) : (Instr.loadAt 166 (.pointer (some ⟨b, 0, none⟩))).run Tryz.prog w = .ok (.agg (nvals Z).toArray) w :=
  run_loadAt_mid (P := Tryz.prog) w b 0 166 (nvals Z) _ h.range Tryz.underlying166 rfl (by rw [nvals_length, hz]; kernel_rfl)

/-- A whole wide number stored over another one. -/
theorem store8 {w : World} {b : Nat} {Y Z : List Int} (h : NBlk w b Y 166) (hy : Y.length = 8) (hz : Z.length = 8) :
    ∃ W, (Instr.storeAt 166 (.pointer (some ⟨b, 0, none⟩)) (.agg (nvals Z).toArray)).run Tryz.prog w = .ok () W ∧ NBlk W b Z 166 ∧ (∀ C, C ≤ b → Below C w W) ∧ (∀ c, c ≠ b → W.heap[c]? = w.heap[c]?) := by
  have hsz : (nvals Z).toArray.size = 8 := by simp [nvals, hz]
  refine ⟨w.setCells b 0 (nvals Z), run_storeAt_mid (P := Tryz.prog) w b 0 166 (nvals Z).toArray (n_there h _ (by simp [nvals, hz, hy])) (by rw [hsz]; kernel_rfl) (all_n Z), ?_, ?_, ?_⟩
  · have := n_setAll (nvals Z) [] (nvals Y) w h (by rw [nvals_length, nvals_length, hy, hz])
    unfold NBlk
    simpa using this
  · intro C hC
    exact n_below b hC _ _ _ (Below.refl _ _)
  · intro c hc
    have : ∀ (vs : List Value) (o : Nat) (W : World), (W.setCells b o vs).heap[c]? = W.heap[c]? := by
      intro vs
      induction vs with
      | nil => intro o W; rfl
      | cons v r ih => intro o W; exact (ih (o + 1) _).trans (heap_setCell_other W ⟨b, o, none⟩ c v hc)
    exact this _ _ _

theorem nsize2 : (Tryz.prog.info? 2).map (·.size) = some 1 := by kernel_rfl

/-- Numbers copied over a block of as many. -/
theorem copy8 {w : World} {b b2 off cap n : Nat} {Y xs : List Int} {t : TypeId} (h : NBlk w b Y t) (hy : Y.length = n) (hr : IRow w (some ⟨b2, off, none⟩) n xs) :
    ∃ W, (Builtin.copy_ #[28, 28] 3 #[.slice (some ⟨b, 0, none⟩) n n, .slice (some ⟨b2, off, none⟩) n cap]).run Tryz.prog w = .ok (goInt n) W ∧ NBlk W b xs t ∧ w.grownBy W (some b) := by
  have hxl := hr.1
  have hr2 := run_copy_row (P := Tryz.prog) w 28 28 3 2 b 0 n n ⟨b2, off, none⟩ n cap (nvals Y).toArray t (nvals xs) Tryz.underlying28 nsize2 h (by rw [nvals_length, hxl]; exact (Nat.min_self n).symm) (by
    intro j v hj
    have hjl : j < xs.length := by have := (List.getElem?_eq_some_iff.1 hj).1; rwa [nvals_length] at this
    rw [hr.2.2.2 _ rfl j (by rw [← hr.1]; exact hjl)]
    rw [nvals, List.getElem?_map, List.getElem?_eq_getElem hjl] at hj
    rw [getD_at _ _ hjl]
    exact hj) (by simp [nvals, hy, hxl]) (fun v hv => by obtain ⟨z, _, rfl⟩ := List.mem_map.1 hv; rfl)
  have e1 : ((nvals Y).toArray.toList.take 0 ++ nvals xs ++ (nvals Y).toArray.toList.drop (0 + (nvals xs).length)) = nvals xs := by
    rw [nvals_length, hxl, List.drop_eq_nil_of_le (by simp [nvals, hy])]; simp
  rw [e1, nvals_length, hxl] at hr2
  exact ⟨_, hr2, setRow_heap w b _ _ t _ h, ⟨rfl, rfl, rfl, by simp [World.setRow], fun k _ hk => setRow_other w b k _ (fun e => hk (by simp [e]))⟩⟩

set_option maxHeartbeats 2000000 in
theorem wideIn_any (b off cap : Nat) (xs : List Int) (w : World) (h : IRow w (some ⟨b, off, none⟩) 8 xs) :
    Calls Tryz.prog 136 #[.slice (some ⟨b, off, none⟩) 8 cap] w fun e w' => e = .returned (.agg (nvals xs).toArray) ∧ Below w.heap.size w w' := by
  have hxl := h.1
  have HH := hide h
  clear h
  obtain ⟨w1, hw1⟩ : ∃ w1, w1 = (w.alloc (.cells #[.int .i64 0, .int .i64 0, .int .i64 0, .int .i64 0, .int .i64 0, .int .i64 0, .int .i64 0, .int .i64 0] 166)).alloc (.cells #[.int .i64 0, .int .i64 0, .int .i64 0, .int .i64 0, .int .i64 0, .int .i64 0, .int .i64 0, .int .i64 0] 166) := ⟨_, rfl⟩
  have e1 : (w.alloc (.cells #[.int .i64 0, .int .i64 0, .int .i64 0, .int .i64 0, .int .i64 0, .int .i64 0, .int .i64 0, .int .i64 0] 166)).alloc (.cells #[.int .i64 0, .int .i64 0, .int .i64 0, .int .i64 0, .int .i64 0, .int .i64 0, .int .i64 0, .int .i64 0] 166) = w1 := hw1.symm
  have G1 : Below w.heap.size w w1 := by rw [hw1]; exact (below_alloc w _).alloc (by simp) _
  have S1 : NBlk w1 w.heap.size (List.replicate 8 0) 166 := by
    rw [hw1]
    exact (NBlk.new w (List.replicate 8 0) _).next _
  have R1 : NBlk w1 (w.heap.size + 1) (List.replicate 8 0) 166 := by
    have := NBlk.new (w.alloc (.cells #[.int .i64 0, .int .i64 0, .int .i64 0, .int .i64 0, .int .i64 0, .int .i64 0, .int .i64 0, .int .i64 0] 166)) (List.replicate 8 0) 166
    rw [hw1]
    rw [show (w.alloc (.cells #[.int .i64 0, .int .i64 0, .int .i64 0, .int .i64 0, .int .i64 0, .int .i64 0, .int .i64 0, .int .i64 0] 166)).heap.size = w.heap.size + 1 by simp] at this
    exact this
  obtain ⟨w2, hcp, R2, g2⟩ := copy8 (cap := cap) R1 (by simp) ((unhide HH).below G1 (Nat.le_refl _))
  have hs : w.heap.size < w1.heap.size := S1.lt
  have S2 : NBlk w2 w.heap.size (List.replicate 8 0) 166 := by
    unfold NBlk
    rw [g2.block _ hs (by simp)]
    exact S1
  have G2 : Below w.heap.size w w2 := G1.grown g2 (Nat.le_of_lt hs) (fun k e => by cases e; omega)
  have HLD := hide (load8 R2 hxl)
  obtain ⟨w3, hst, S3, K3, O3⟩ := store8 S2 (by simp) hxl
  have HST := hide hst
  have G3 := G2.trans (K3 _ (Nat.le_refl _))
  have HS3 := hide (show w3.heap[w.heap.size]? = some (.cells (nvals xs).toArray 166 (0, 0)) from S3)
  have vlen : (nvals xs).length = 8 := by rw [nvals_length, hxl]
  have HG := hide G3
  clear hst S3 K3 O3 S2 R2 g2 G2 S1 R1 G1 hw1 hs G3
  generalize nvals xs = V at HLD HST HS3 vlen ⊢
  go_enter Tryz.func136, Tryz.ntmps136
  go_wp2_with (first | rw [e1] | refine wpList_load_by rfl 166 _ rfl _ _ rfl (unhide HLD) ?_ | refine wpList_store_by rfl 166 _ _ rfl _ _ rfl rfl _ (unhide HST) ?_)
  exact bodyPost_ret (results_cell_row rfl _ _ w.heap.size 166 _ (0, 0) _ rfl (unhide HS3) Tryz.underlying166 rfl (by rw [List.size_toArray, vlen]; kernel_rfl)) rfl ⟨rfl, unhide HG⟩

end Go.Proofs.YtldiilmpmcbjkaaGreatDoor

/- What is proved here: the sum of two wide numbers, limb by limb, by the program and by the model. -/
namespace Go.Proofs.YtldiilmpmcbjkaaGreatDoor
open Go.RowKit
set_option linter.unusedVariables false
set_option maxRecDepth 100000

/-- The carry into a place, and the limb there. -/
def caW (xs ys : List Int) : Nat → Int
  | 0 => 0
  | k + 1 => (xs.getD k 0 + ys.getD k 0 + caW xs ys k) / 4294967296
def suW (xs ys : List Int) (k : Nat) : Int := (xs.getD k 0 + ys.getD k 0 + caW xs ys k) % 4294967296
def sumL (xs ys : List Int) : List Int := (List.range 8).map (suW xs ys)

theorem sumL_length (xs ys : List Int) : (sumL xs ys).length = 8 := by simp [sumL]
theorem sumL_at (xs ys : List Int) (k : Nat) (hk : k < 8) : (sumL xs ys).getD k 0 = suW xs ys k := by
  rw [getD_at _ _ (by rw [sumL_length]; exact hk)]
  simp [sumL]
theorem caW_range (xs ys : List Int) (hx : ∀ i, 0 ≤ xs.getD i 0 ∧ xs.getD i 0 ≤ 4294967295) (hy : ∀ i, 0 ≤ ys.getD i 0 ∧ ys.getD i 0 ≤ 4294967295) : ∀ k, 0 ≤ caW xs ys k ∧ caW xs ys k ≤ 1
  | 0 => by simp [caW]
  | k + 1 => by
    have := caW_range xs ys hx hy k
    have h1 := hx k
    have h2 := hy k
    simp only [caW]
    omega

/-- One number more of a list that is being filled. -/
theorem fill8 (zs : List Int) (len k : Nat) (hl : zs.length = len) (hk : k < len) :
    (zs.take k ++ List.replicate (len - k) 0).set k (zs.getD k 0) = zs.take (k + 1) ++ List.replicate (len - (k + 1)) 0 := by
  have e : len - k = (len - (k + 1)) + 1 := by omega
  have hk' : (zs.take k).length = k := by simp; omega
  rw [e, List.replicate_succ, List.set_append, if_neg (by omega), hk', Nat.sub_self, List.set_cons_zero]
  rw [List.take_succ_eq_append_getElem (by omega), List.getD_eq_getElem?_getD, List.getElem?_eq_getElem (by omega : k < zs.length), List.append_assoc]
  rfl

/-- The results of a function that answers a row in a cell, and a value. -/
theorem results_row_tmp {P : Program} {fn : Func} {p u : Tmp} {ty : TypeId} (h : fn.results = #[.cell p ty, .tmp u]) (tmps : Array Value) (w : World) (g : Nat) (t : TypeId) (cs : Array Value) (fr : Nat × Nat) (d : TypeDesc) (x : Value)
    (hp : tmps.getD p undef = .pointer (some ⟨g, 0, none⟩)) (hx : tmps.getD u undef = x) (hg : w.heap[g]? = some (.cells cs t fr))
    (hu : P.underlying ty = some d) (hd : (match d with | .struct _ | .array _ _ => true | _ => false) = true) (hi : (P.info? ty).map (·.size) = some cs.size) :
    (results fn tmps).run P w = .ok (.tuple #[.agg cs, x]) w := by
  have hp' : tmps[p]?.getD undef = .pointer (some ⟨g, 0, none⟩) := by simpa using hp
  have hx' : tmps[u]?.getD undef = x := by simpa using hx
  simp [results, h, hp', hx', asAddr, run_loadVar_row w g t ty cs fr d hg hu hd hi]

set_option maxHeartbeats 4000000 in
theorem plus_any (xs ys : List Int) (hx : xs.length = 8) (hy : ys.length = 8) (hxr : ∀ i, 0 ≤ xs.getD i 0 ∧ xs.getD i 0 ≤ 4294967295) (hyr : ∀ i, 0 ≤ ys.getD i 0 ∧ ys.getD i 0 ≤ 4294967295) (w : World) :
    Calls Tryz.prog 137 #[.agg (nvals xs).toArray, .agg (nvals ys).toArray] w fun e w' => e = .returned (.tuple #[.agg (nvals (sumL xs ys)).toArray, .int .i64 (caW xs ys 8)]) ∧ Below w.heap.size w w' := by
  obtain ⟨w1, hw1⟩ : ∃ w1, w1 = ((w.alloc (.cells (nvals xs).toArray 166)).alloc (.cells (nvals ys).toArray 166)).alloc (.cells #[.int .i64 0, .int .i64 0, .int .i64 0, .int .i64 0, .int .i64 0, .int .i64 0, .int .i64 0, .int .i64 0] 166) := ⟨_, rfl⟩
  have e1 := hw1.symm
  have G1 : Below w.heap.size w w1 := by rw [hw1]; exact ((below_alloc w _).alloc (by simp) _).alloc (by simp; omega) _
  have X1 : NBlk w1 w.heap.size xs 166 := by
    rw [hw1]
    exact ((NBlk.new w xs _).next _).next _
  have Y1 : NBlk w1 (w.heap.size + 1) ys 166 := by
    have := (NBlk.new (w.alloc (.cells (nvals xs).toArray 166)) ys 166).next (.cells #[.int .i64 0, .int .i64 0, .int .i64 0, .int .i64 0, .int .i64 0, .int .i64 0, .int .i64 0, .int .i64 0] 166)
    rw [show (w.alloc (.cells (nvals xs).toArray 166)).heap.size = w.heap.size + 1 by simp] at this
    rw [hw1]
    exact this
  have Z1 : NBlk w1 (w.heap.size + 2) ((sumL xs ys).take 0 ++ List.replicate (8 - 0) 0) 166 := by
    have := NBlk.new ((w.alloc (.cells (nvals xs).toArray 166)).alloc (.cells (nvals ys).toArray 166)) (List.replicate 8 0) 166
    rw [show ((w.alloc (.cells (nvals xs).toArray 166)).alloc (.cells (nvals ys).toArray 166)).heap.size = w.heap.size + 2 by simp] at this
    rw [hw1]
    exact this
  have HX := hide X1
  have HY := hide Y1
  have HZ := hide Z1
  have HG := hide G1
  have CR := hide (caW_range xs ys hxr hyr)
  have HSL := hide (sumL_length xs ys)
  have HSA := hide (sumL_at xs ys)
  have HCA := hide (fun k => show caW xs ys (k + 1) = (xs.getD k 0 + ys.getD k 0 + caW xs ys k) / 4294967296 from rfl)
  have HSU := hide (fun k => show suW xs ys k = (xs.getD k 0 + ys.getD k 0 + caW xs ys k) % 4294967296 from rfl)
  have HXR := hide hxr
  have HYR := hide hyr
  have HC0 := hide (show caW xs ys 0 = 0 from rfl)
  clear X1 Y1 Z1 G1 hw1 hxr hyr
  generalize nvals xs = V at e1 ⊢
  generalize nvals ys = U at e1 ⊢
  generalize sumL xs ys = SL at HZ HSL HSA ⊢
  generalize hSU : suW xs ys = SU at HSA HSU
  generalize hCA : caW xs ys = CA at HCA HSU CR HC0 ⊢
  clear hSU hCA
  go_enter Tryz.func137, Tryz.ntmps137
  go_wp2_with (rw [e1])
  go_loopw [5, 8] (fun c i wr => ∃ k : Nat, k ≤ 8 ∧ i = .int .i64 k ∧ c = .int .i64 (CA k) ∧ NBlk wr w.heap.size xs 166 ∧ NBlk wr (w.heap.size + 1) ys 166 ∧ NBlk wr (w.heap.size + 2) (SL.take k ++ List.replicate (8 - k) 0) 166 ∧ Below w.heap.size w wr) (fun _ i _ => 8 - (intOf i).toNat)
  case atStart => exact ⟨0, Nat.zero_le _, rfl, by rw [unhide HC0], unhide HX, unhide HY, unhide HZ, unhide HG⟩
  case round =>
    obtain ⟨k, hk, rfl, rfl, hX, hY, hZ, hG⟩ := hrel
    clear HX HY HZ HG
    by_cases hlt : k < 8
    · have hdk : decide ((k : Int) < 8) = true := decide_eq_true (by omega)
      have j0 : (0 : Int) ≤ (k : Int) := by omega
      have j1 : (k : Int) < 8 := by omega
      have c1 := hX.cell k (by omega)
      have c2 := hY.cell k (by omega)
      have rx := (unhide HXR) k
      have ry := (unhide HYR) k
      have rc := (unhide CR) k
      have hst := fill8 SL 8 k (unhide HSL) hlt
      rw [(unhide HSA) k hlt, (unhide HSU) k] at hst
      have hca := (unhide HCA) k
      generalize xs.getD k 0 = x at c1 rx hst hca
      generalize ys.getD k 0 = y at c2 ry hst hca
      obtain ⟨c', hc'⟩ : ∃ c', c' = CA (k + 1) := ⟨_, rfl⟩
      rw [← hc'] at hca
      have HC' := hide hc'
      generalize CA k = c at rc hst hca
      obtain ⟨s, hs⟩ : ∃ s, s = x + y + c := ⟨_, rfl⟩
      rw [← hs] at hst hca
      have s0 : 0 ≤ s := by omega
      have s1 : s < 9223372036854775808 := by omega
      have hand := and_word s s0 s1
      obtain ⟨z, hz⟩ : ∃ z, z = s % 4294967296 := ⟨_, rfl⟩
      rw [← hz] at hst hand
      have t0 : x + y + c = s := hs.symm
      obtain ⟨xy, hxy⟩ : ∃ xy, xy = x + y := ⟨_, rfl⟩
      have t1 : x + y = xy := hxy.symm
      have t2 : xy + c = s := by omega
      have y1 : IntKind.i64.wrap xy = xy := wraps_i64 _ (by omega) (by omega)
      have y2 : IntKind.i64.wrap s = s := wraps_i64 _ (by omega) (by omega)
      have f1 := hZ.free k
      obtain ⟨u, hu⟩ : ∃ u, wr.cell? ⟨w.heap.size + 2, k, none⟩ = some u := ⟨_, hZ.cell k (by simp [unhide HSL]; omega)⟩
      have Z2 := hZ.set k z
      rw [hst] at Z2
      have X2 := hX.other (b' := w.heap.size + 2) k (.int .i64 z) (by omega)
      have Y2 := hY.other (b' := w.heap.size + 2) k (.int .i64 z) (by omega)
      have G2 := hG.setCell (p := ⟨w.heap.size + 2, k, none⟩) (by simp) (.int .i64 z)
      have HX := hide X2
      have HY := hide Y2
      have HZ := hide Z2
      have HG := hide G2
      have HW1 := hide hca
      have HG0 := hide hG
      clear hX hY hZ hG X2 Y2 Z2 G2 hst hs hz hxy hc' t0 rx ry rc hca
      go_wp2_with fail
      go_quiet (fail)
      go_wp2_with fail
      refine ⟨⟨k + 1, by omega, by go_num, ?_, unhide HX, unhide HY, unhide HZ, (below_drewN (unhide HG0) _).setCell (by simp; omega) _⟩, by simp [intOf]; omega⟩
      rw [← unhide HC', unhide HW1]
    · obtain rfl : k = 8 := by omega
      have hdk : decide (((8 : Nat) : Int) < 8) = false := rfl
      have e8 : SL.take 8 ++ List.replicate (8 - 8) 0 = SL := by rw [List.take_of_length_le (by rw [unhide HSL]; omega)]; simp
      rw [e8] at hZ
      have HLD := hide (load8 hZ (unhide HSL))
      obtain ⟨w3, hst, S3, K3, O3⟩ := store8 hZ (unhide HSL) (unhide HSL)
      have HST := hide hst
      have HS3 := hide (show w3.heap[w.heap.size + 2]? = some (.cells (nvals SL).toArray 166 (0, 0)) from S3)
      have HL3 := hide (load8 S3 (unhide HSL))
      have HG := hide (hG.trans ((K3 w.heap.size (by omega))))
      clear hst S3 K3 O3 hZ hG hX hY e8
      have vlen : (nvals SL).length = 8 := by rw [nvals_length, unhide HSL]
      go_wp2_with (first | refine wpList_load_by rfl 166 _ rfl _ _ rfl (unhide HLD) ?_ | refine wpList_store_by rfl 166 _ _ rfl _ _ rfl rfl _ (unhide HST) ?_)
      exact bodyPost_ret (results_row_tmp rfl _ _ (w.heap.size + 2) 166 _ (0, 0) _ _ rfl rfl (unhide HS3) Tryz.underlying166 rfl (by rw [List.size_toArray, vlen]; kernel_rfl)) rfl ⟨rfl, unhide HG⟩

end Go.Proofs.YtldiilmpmcbjkaaGreatDoor

/- What is proved here: the program's limbsOf, and the model's sum of two wide numbers. -/
namespace Go.Proofs.YtldiilmpmcbjkaaGreatDoor
open Go.RowKit
set_option linter.unusedVariables false
set_option maxRecDepth 100000

/-- Numbers copied over a row of as many that the call owns. -/
theorem ncopy_own (w : World) (B g d sCap : Nat) (a : Addr) (xs cs : List Value) (h : w.ownsRow B 2 1 (.slice (some ⟨g, 0, none⟩) d d) d xs) (hl : cs.length = d)
    (hsrc : ∀ j v, cs[j]? = some v → w.cell? (a.add j) = some v) (h1 : ∀ v ∈ cs, v.oneCell' = true) :
    ∃ W, (Builtin.copy_ #[28, 28] 3 #[.slice (some ⟨g, 0, none⟩) d d, .slice (some a) d sCap]).run Tryz.prog w = .ok (goInt d) W ∧
      W.ownsRow B 2 1 (.slice (some ⟨g, 0, none⟩) d d) d cs ∧ w.grownBy W (some g) := by
  have hxl := h.1
  rcases h.2 with ⟨h', _⟩ | ⟨g', cap', cur, h', hb, hg, hnc, hcm, hcs, htake⟩
  · simp at h'
  · simp only [Value.slice.injEq, Option.some.injEq, Addr.mk.injEq, and_true, true_and] at h'
    obtain ⟨rfl, rfl⟩ := h'
    have hr := run_copy_row (P := Tryz.prog) w 28 28 3 2 g 0 d d a d sCap cur 2 cs Tryz.underlying28 nsize2 hg (by rw [hl]; exact (Nat.min_self d).symm) hsrc (by omega) h1
    have e1 : cur.toList.take 0 ++ cs ++ cur.toList.drop (0 + cs.length) = cs := by
      rw [hl, List.drop_eq_nil_of_le (by simp; omega)]; simp
    rw [e1, hl] at hr
    exact ⟨_, hr, ⟨by rw [hl, Nat.mul_one], .inr ⟨g, d, cs.toArray, rfl, hb, setRow_heap w g cur _ 2 _ hg, Nat.le_refl _, hcm, by simpa using hl, by
      rw [Nat.mul_one, List.take_of_length_le (by simp; omega)]⟩⟩,
      ⟨rfl, rfl, rfl, by simp [World.setRow], fun k _ hk => setRow_other w g k _ (fun e => hk (by simp [e]))⟩⟩

set_option maxHeartbeats 2000000 in
theorem limbsOf_any (zs : List Int) (hz : zs.length = 8) (w : World) :
    Calls Tryz.prog 138 #[.agg (nvals zs).toArray] w fun e w' => e = .returned (.slice (some ⟨w.heap.size + 1, 0, none⟩) 8 8) ∧
      w'.ownsRow w.heap.size 2 1 (.slice (some ⟨w.heap.size + 1, 0, none⟩) 8 8) 8 (zs.map (Value.int .i64)) ∧ Below w.heap.size w w' := by
  obtain ⟨i0, hi, hz0, hz1, hz2⟩ := info_parts info2
  obtain ⟨w1, hw1⟩ : ∃ w1, w1 = w.alloc (.cells (nvals zs).toArray 166) := ⟨_, rfl⟩
  have e1 := hw1.symm
  have G1 : Below w.heap.size w w1 := by rw [hw1]; exact below_alloc w _
  have X1 : NBlk w1 w.heap.size zs 166 := by
    rw [hw1]
    exact NBlk.new w zs _
  have s1 : w1.heap.size = w.heap.size + 1 := by rw [hw1]; simp
  have HV := hide (show nvals zs = zs.map (Value.int .i64) from rfl)
  clear hw1
  generalize hVV : nvals zs = V at e1 HV ⊢
  have HVV := hide hVV
  clear hVV
  go_enter Tryz.func138, Tryz.ntmps138
  go_wp2_with (first | rw [e1] | (at_make; refine wpList_make_full _ rfl _ _ 28 rfl (w.heap.size + 1) 2 i0 (.int .i64 0) 1 Tryz.underlying28 hi hz0 hz1 _ _ _ _ 8 rfl rfl (by omega) (by omega) ?c1 ?c2 ?c3 ?_))
  case c1 => rw [hz2]; omega
  case c2 => unfold maxLen; omega
  case c3 => rw [s1]; omega
  intro w2 hown hgrow
  have G2 : Below w.heap.size w w2 := G1.grown hgrow (by rw [s1]; omega) (fun k e => by cases e)
  have X2 : NBlk w2 w.heap.size zs 166 := by
    unfold NBlk
    rw [hgrow.block _ X1.lt (by simp)]
    exact X1
  obtain ⟨w3, hcp, o3, g3⟩ := ncopy_own w2 (w.heap.size + 1) (w.heap.size + 1) 8 8 ⟨w.heap.size, 0, none⟩ _ (zs.map (Value.int .i64)) hown (by simpa using hz)
    (by
      intro j v hj
      have hjl : j < zs.length := by have := (List.getElem?_eq_some_iff.1 hj).1; simpa using this
      rw [add_none, Nat.zero_add, X2.cell j hjl]
      rw [List.getElem?_map, List.getElem?_eq_getElem hjl] at hj
      rw [getD_at _ _ hjl]
      exact hj)
    (fun v hv => by obtain ⟨z, _, rfl⟩ := List.mem_map.1 hv; rfl)
  have s2 : w.heap.size + 1 ≤ w2.heap.size := by have := hgrow.size; omega
  have G3 : Below w.heap.size w w3 := G2.grown g3 G2.size (fun k e => by cases e; omega)
  have HO := hide o3
  have HG := hide G3
  clear o3 g3 G3 hown hgrow X1 X2 G1 G2
  go_wp2_with fail
  go_ret
  exact ⟨rfl, ownsRow_base (unhide HO) (by omega), unhide HG⟩

set_option maxHeartbeats 4000000 in
theorem l4Add_any (a b oa ob ca cb : Nat) (xs ys : List Int) (w : World) (hx : IRow w (some ⟨a, oa, none⟩) 8 xs) (hy : IRow w (some ⟨b, ob, none⟩) 8 ys)
    (hxr : ∀ i, 0 ≤ xs.getD i 0 ∧ xs.getD i 0 ≤ 4294967295) (hyr : ∀ i, 0 ≤ ys.getD i 0 ∧ ys.getD i 0 ≤ 4294967295) :
    Calls Tryz.prog 86 #[.slice (some ⟨a, oa, none⟩) 8 ca, .slice (some ⟨b, ob, none⟩) 8 cb] w fun e w' => ∃ a' cap', e = .returned (.tuple #[.slice a' 8 cap', .bool (caW xs ys 8 == 0)]) ∧
      w'.ownsRow w.heap.size 2 1 (.slice a' 8 cap') 8 ((sumL xs ys).map (Value.int .i64)) ∧ Below w.heap.size w w' := by
  obtain ⟨i0, hi, hz0, hz1, hz2⟩ := info_parts info2
  have CX : Hid (∀ W, Below w.heap.size w W → ∀ i, i < 8 → W.cell? ⟨a, oa + i, none⟩ = some (.int .i64 (xs.getD i 0))) := fun W hW i hi => by have := (hx.below hW (Nat.le_refl _)).2.2.2 _ rfl i hi; rwa [add_none] at this
  have CY : Hid (∀ W, Below w.heap.size w W → ∀ i, i < 8 → W.cell? ⟨b, ob + i, none⟩ = some (.int .i64 (ys.getD i 0))) := fun W hW i hi => by have := (hy.below hW (Nat.le_refl _)).2.2.2 _ rfl i hi; rwa [add_none] at this
  have CR := hide (caW_range xs ys hxr hyr)
  have HSL := hide (sumL_length xs ys)
  have HSA := hide (sumL_at xs ys)
  have HCA := hide (fun k => show caW xs ys (k + 1) = (xs.getD k 0 + ys.getD k 0 + caW xs ys k) / 4294967296 from rfl)
  have HSU := hide (fun k => show suW xs ys k = (xs.getD k 0 + ys.getD k 0 + caW xs ys k) % 4294967296 from rfl)
  have HXR := hide hxr
  have HYR := hide hyr
  have HC0 := hide (show caW xs ys 0 = 0 from rfl)
  have o0 : (w.alloc (.cells #[] 2)).ownsRow w.heap.size 2 1 (.slice (some ⟨w.heap.size, 0, none⟩) 0 0) 0 [] := World.ownsRow_lit w #[] 0 (Nat.le_refl _) (by unfold maxLen; omega) rfl
  have HO0 := hide o0
  clear o0 hxr hyr hx hy
  generalize sumL xs ys = SL at HSL HSA ⊢
  generalize hSU : suW xs ys = SU at HSA HSU
  generalize hCA : caW xs ys = CA at HCA HSU CR HC0 ⊢
  clear hSU hCA
  go_enter Tryz.func86, Tryz.ntmps86
  go_wp2_with fail
  go_loopw [6, 7, 8] (fun s c i wr => ∃ (k : Nat) (a' : Option Addr) (cap' : Nat), k ≤ 8 ∧ i = .int .i64 k ∧ c = .int .i64 (CA k) ∧ s = .slice a' k cap' ∧ wr.ownsRow w.heap.size 2 1 (.slice a' k cap') k ((SL.take k).map (Value.int .i64)) ∧ Below w.heap.size w wr) (fun _ _ i _ => 8 - (intOf i).toNat)
  case atStart => exact ⟨0, some ⟨w.heap.size, 0, none⟩, 0, Nat.zero_le _, rfl, by rw [unhide HC0], rfl, unhide HO0, below_alloc w _⟩
  case round =>
    obtain ⟨k, a', cap', hk, rfl, rfl, rfl, hown, hbr⟩ := hrel
    clear HO0
    by_cases hlt : k < 8
    · have hdk : decide ((k : Int) < 8) = true := decide_eq_true (by omega)
      have j0 : (0 : Int) ≤ (k : Int) := by omega
      have j1 : (k : Int) < 8 := by omega
      have c1 := (unhide CX) wr hbr k hlt
      have c2 := (unhide CY) wr hbr k hlt
      have rx := (unhide HXR) k
      have ry := (unhide HYR) k
      have rc := (unhide CR) k
      have hst : SL.take (k + 1) = SL.take k ++ [SL.getD k 0] := by
        rw [List.take_succ_eq_append_getElem (by rw [unhide HSL]; exact hlt), getD_at _ _ (by rw [unhide HSL]; exact hlt)]
      rw [(unhide HSA) k hlt, (unhide HSU) k] at hst
      have hca := (unhide HCA) k
      generalize xs.getD k 0 = x at c1 rx hst hca
      generalize ys.getD k 0 = y at c2 ry hst hca
      obtain ⟨c', hc'⟩ : ∃ c', c' = CA (k + 1) := ⟨_, rfl⟩
      rw [← hc'] at hca
      have HC' := hide hc'
      generalize CA k = c at rc hst hca
      obtain ⟨s, hs⟩ : ∃ s, s = x + y + c := ⟨_, rfl⟩
      rw [← hs] at hst hca
      have s0 : 0 ≤ s := by omega
      have s1 : s < 9223372036854775808 := by omega
      obtain ⟨xy, hxy⟩ : ∃ xy, xy = x + y := ⟨_, rfl⟩
      have t1 : x + y = xy := hxy.symm
      have t2 : xy + c = s := by omega
      have y1 : IntKind.i64.wrap xy = xy := wraps_i64 _ (by omega) (by omega)
      have y2 : IntKind.i64.wrap s = s := wraps_i64 _ (by omega) (by omega)
      have HST := hide hst
      have HW1 := hide hca
      have HS := hide hs
      clear hst hs hxy hc' rx ry rc hca
      generalize SL.take k = L at hown HST
      have o1 : (wr.drewN 0).ownsRow w.heap.size 2 1 (.slice a' k cap') k (L.map (Value.int .i64)) := hown
      have HOW := hide hown
      have HBR := hide hbr
      clear o1 hown hbr
      go_wp2_with fail
      go_quiet (fail)
      have hown := own_below (unhide HOW) (below_drewN (Below.refl wr.heap.size wr) nq) (Nat.le_refl _)
      have hbr := below_drewN (unhide HBR) nq
      generalize wr.drewN nq = w2 at hown hbr ⊢
      go_wp2_with (at_builtin; refine wpList_append_own _ rfl _ _ 28 rfl w.heap.size 2 i0 (.int .i64 0) 1 8 Tryz.underlying28 hi hz0 hz1 hz2 rfl (by decide) _ _ _ rfl (hown.alloc _) ⟨w2.heap.size, 0, none⟩ 1 1 [.int .i64 (s % 4294967296)] rfl rfl ?c1 ?c2 ?c3 ?c4 ?c5 ?_)
      case c1 => exact cell_one_new _ _ _
      case c2 => intro u hu; simp at hu; subst hu; rfl
      case c3 => unfold maxLen; omega
      case c4 => omega
      case c5 => have := hbr.size; simp; omega
      intro v' w3 hown2 hgrow _
      obtain ⟨a2, cap2, hv⟩ := own_shape hown2
      have hb2 : Below w.heap.size w w3 := (hbr.alloc hbr.size _).grown hgrow (by have := hbr.size; simp; omega) (fun g e => (hown.lt g e).1)
      rw [hv] at hown2
      rw [hv]
      have HO := hide hown2
      have HB := hide hb2
      clear hown2 hb2 hgrow hown hbr
      go_wp2_with fail
      refine ⟨⟨k + 1, a2, cap2, by omega, by go_num, by rw [← unhide HC', unhide HW1], rfl, ?_, unhide HB⟩, by simp [intOf]; omega⟩
      rw [unhide HST]
      simpa using unhide HO
    · obtain rfl : k = 8 := by omega
      have hdk : decide (((8 : Nat) : Int) < 8) = false := rfl
      rw [List.take_of_length_le (by rw [unhide HSL]; omega)] at hown
      have HO := hide hown
      have HB := hide hbr
      clear hown hbr
      go_wp2_with fail
      go_ret2
      exact ⟨a', cap', rfl, unhide HO, unhide HB⟩

end Go.Proofs.YtldiilmpmcbjkaaGreatDoor

/- What is proved here: AddWide of the program and of the model, for every two slices of numbers. -/
namespace Go.Proofs.YtldiilmpmcbjkaaGreatDoor
open Go.RowKit
set_option linter.unusedVariables false
set_option maxRecDepth 100000

/-- The code and the limbs of AddWide. -/
def awCode (xs ys : List Int) : Int := if wf2 xs ys = 0 then (if caW xs ys 8 = 0 then 0 else 10) else wf2 xs ys
def awList (xs ys : List Int) : List Int := if wf2 xs ys = 0 ∧ caW xs ys 8 = 0 then sumL xs ys else []

theorem awList_length (xs ys : List Int) : (awList xs ys).length ≤ 8 := by
  unfold awList
  split
  · rw [sumL_length]; omega
  · simp

theorem aw_fault (xs ys : List Int) (h : wf2 xs ys ≠ 0) : awCode xs ys = wf2 xs ys ∧ awList xs ys = [] := ⟨if_neg h, if_neg (fun e => h e.1)⟩
theorem aw_full (xs ys : List Int) (h : wf2 xs ys = 0) (hc : caW xs ys 8 ≠ 0) : awCode xs ys = 10 ∧ awList xs ys = [] := ⟨by unfold awCode; rw [if_pos h, if_neg hc], if_neg (fun e => hc e.2)⟩
theorem aw_ok (xs ys : List Int) (h : wf2 xs ys = 0) (hc : caW xs ys 8 = 0) : awCode xs ys = 0 ∧ awList xs ys = sumL xs ys := ⟨by unfold awCode; rw [if_pos h, if_pos hc], if_pos ⟨h, hc⟩⟩

theorem wf2_both (xs ys : List Int) (h : wf2 xs ys = 0) : wfCode xs = 0 ∧ wfCode ys = 0 := by
  unfold wf2 at h
  split at h
  · exact ⟨by assumption, h⟩
  · contradiction

set_option maxHeartbeats 4000000 in
theorem implAW_any (a b : Option Addr) (n m cap cap2 : Nat) (xs ys : List Int) (w : World) (h : IRow w a n xs) (h2 : IRow w b m ys) (hl : n ≤ 1048576) (hl2 : m ≤ 1048576) :
    Calls Tryz.prog 121 #[.slice a n cap, .slice b m cap2] w fun e w' => ∃ a' cap', e = .returned (.agg #[.int .i64 (awCode xs ys), .slice a' (awList xs ys).length cap']) ∧
      w'.ownsRow w.heap.size 2 1 (.slice a' (awList xs ys).length cap') (awList xs ys).length ((awList xs ys).map (Value.int .i64)) ∧ Below w.heap.size w w' := by
  obtain ⟨w0, hw0⟩ : ∃ w0, w0 = w.alloc (.cells #[.int .i64 0, .slice none 0 0] 132) := ⟨_, rfl⟩
  have e0 := hw0.symm
  have hb0 : Below w.heap.size w w0 := by rw [hw0]; exact below_alloc w _
  have hres : w0.heap[w.heap.size]? = some (.cells #[.int .i64 0, .slice none 0 0] 132 (0, 0)) := by
    rw [hw0]
    show (w.heap.push _)[w.heap.size]? = _
    simp
  have hx0 := h.below hb0 (Nat.le_refl _)
  have hy0 := h2.below hb0 (Nat.le_refl _)
  have HF := hide (bothFault_any a b n m cap cap2 xs ys w0 hx0 hy0 hl hl2)
  have hs0 : w.heap.size < w0.heap.size := lt_of_block hres
  clear hw0
  by_cases hc : wf2 xs ys = 0
  · obtain ⟨hcx, hcy⟩ := wf2_both xs ys hc
    obtain ⟨hxl, hxr⟩ := wf_zero xs hcx
    obtain ⟨hyl, hyr⟩ := wf_zero ys hcy
    have EOK := hide (aw_ok xs ys hc)
    have EFU := hide (aw_full xs ys hc)
    rw [hc] at HF
    obtain rfl : n = 8 := by rw [← h.1]; exact hxl
    obtain rfl : m = 8 := by rw [← h2.1]; exact hyl
    obtain ⟨ba, oa, rfl, hba, hca⟩ := h.at (by omega)
    obtain ⟨bb, ob, rfl, hbb, hcb⟩ := h2.at (by omega)
    have HX := hide hx0
    have HY := hide hy0
    have HPL := hide (plus_any xs ys hxl hyl hxr hyr)
    have HWX := hide (fun W (hW : IRow W (some ⟨ba, oa, none⟩) 8 xs) => wideIn_any ba oa cap xs W hW)
    have HWY := hide (fun W (hW : IRow W (some ⟨bb, ob, none⟩) 8 ys) => wideIn_any bb ob cap2 ys W hW)
    have HSL := hide (sumL_length xs ys)
    have HLO := hide (limbsOf_any (sumL xs ys) (sumL_length xs ys))
    generalize sumL xs ys = SL at HSL HLO HPL EOK
    generalize awCode xs ys = ac at EOK EFU ⊢
    generalize awList xs ys = al at EOK EFU ⊢
    generalize caW xs ys 8 = c at HPL EOK EFU
    have HB := hide hb0
    have HR := hide hres
    clear hc hcx hcy hca hcb h h2 hx0 hy0 hb0 hres hxl hyl hxr hyr
    generalize nvals xs = V at HPL HWX
    generalize nvals ys = U at HPL HWY
    by_cases hc0 : c = 0
    · obtain ⟨rfl, rfl⟩ := (unhide EOK) hc0
      have hd : (c != 0) = false := by simp [hc0]
      rw [unhide HSL]
      clear EOK EFU hc0
      go_enter Tryz.func121, Tryz.ntmps121
      go_wp2_with (rw [e0])
      refine (unhide HF).mono ?_
      rintro e w' ⟨rfl, rfl⟩
      go_wp2_with fail
      refine ((unhide HWX) _ (unhide HX)).mono ?_
      rintro e w2 ⟨rfl, b2⟩
      go_wp2_with fail
      refine ((unhide HWY) _ ((unhide HY).below b2 (Nat.le_refl _))).mono ?_
      rintro e w3 ⟨rfl, b3⟩
      go_wp2_with fail
      refine ((unhide HPL) _).mono ?_
      rintro e w4 ⟨rfl, b4⟩
      have k3 := b2.trans (b3.mono b2.size)
      have k4 := k3.trans (b4.mono k3.size)
      clear b2 b3 b4 k3
      obtain ⟨w5, hw5⟩ : ∃ w5, w5 = w4.alloc (.cells #[.int .i64 0, .int .i64 0, .int .i64 0, .int .i64 0, .int .i64 0, .int .i64 0, .int .i64 0, .int .i64 0] 166) := ⟨_, rfl⟩
      have e5 := hw5.symm
      have S5 : NBlk w5 w4.heap.size (List.replicate 8 0) 166 := by
        rw [hw5]
        exact NBlk.new w4 (List.replicate 8 0) _
      have G5 : Below w4.heap.size w4 w5 := by rw [hw5]; exact below_alloc w4 _
      obtain ⟨w6, hst, S6, K6, O6⟩ := store8 S5 (by simp) (unhide HSL)
      have HST := hide hst
      have HLD := hide (load8 S6 (unhide HSL))
      have k6 := k4.trans ((G5.trans (K6 _ (Nat.le_refl _))).mono k4.size)
      have HK := hide k6
      clear hst S6 K6 O6 S5 G5 hw5 k4 k6
      generalize nvals al = S8 at HST HLD HLO
      go_wp2_with (first | rw [e5] | refine wpList_store_by rfl 166 _ _ rfl _ _ rfl rfl _ (unhide HST) ?_ | refine wpList_load_by rfl 166 _ rfl _ _ rfl (unhide HLD) ?_)
      refine ((unhide HLO) _).mono ?_
      rintro e w7 ⟨rfl, o7, b7⟩
      have k7 := (unhide HK).trans (b7.mono (unhide HK).size)
      have G7 := (unhide HB).trans (k7.mono (unhide HB).size)
      have R7 := (k7.block _ hs0).trans (unhide HR)
      have hs6 : w.heap.size < w6.heap.size := Nat.lt_of_lt_of_le hs0 (unhide HK).size
      obtain ⟨q0, q1, f0, f1⟩ := res_facts R7
      have HO := hide o7
      have HG := hide G7
      clear b7 k7 R7 o7 G7
      go_wp2_with fail
      refine bodyPost_ret (v := .agg #[.int .i64 0, .slice (some ⟨w6.heap.size + 1, 0, none⟩) 8 8]) (by simp [results, Tryz.results121, go_sem, q0, q1]) rfl ⟨_, 8, rfl, ?_, ?_⟩
      · exact ownsRow_base (ownsRow_setCell_below (ownsRow_setCell_below (unhide HO) hs6 _) hs6 _) (Nat.le_of_lt hs6)
      · exact ((unhide HG).setCell (by simp) _).setCell (by simp) _
    · obtain ⟨rfl, rfl⟩ := (unhide EFU) hc0
      have hd : (c != 0) = true := by simp [hc0]
      clear EOK EFU hc0
      go_enter Tryz.func121, Tryz.ntmps121
      go_wp2_with (rw [e0])
      refine (unhide HF).mono ?_
      rintro e w' ⟨rfl, rfl⟩
      go_wp2_with fail
      refine ((unhide HWX) _ (unhide HX)).mono ?_
      rintro e w2 ⟨rfl, b2⟩
      go_wp2_with fail
      refine ((unhide HWY) _ ((unhide HY).below b2 (Nat.le_refl _))).mono ?_
      rintro e w3 ⟨rfl, b3⟩
      go_wp2_with fail
      refine ((unhide HPL) _).mono ?_
      rintro e w4 ⟨rfl, b4⟩
      have k3 := b2.trans (b3.mono b2.size)
      have k4 := k3.trans (b4.mono k3.size)
      clear b2 b3 b4 k3
      obtain ⟨w5, hw5⟩ : ∃ w5, w5 = w4.alloc (.cells #[.int .i64 0, .int .i64 0, .int .i64 0, .int .i64 0, .int .i64 0, .int .i64 0, .int .i64 0, .int .i64 0] 166) := ⟨_, rfl⟩
      have e5 := hw5.symm
      have S5 : NBlk w5 w4.heap.size (List.replicate 8 0) 166 := by
        rw [hw5]
        exact NBlk.new w4 (List.replicate 8 0) _
      have G5 : Below w4.heap.size w4 w5 := by rw [hw5]; exact below_alloc w4 _
      obtain ⟨w6, hst, S6, K6, O6⟩ := store8 S5 (by simp) (unhide HSL)
      have HST := hide hst
      have k6 := k4.trans ((G5.trans (K6 _ (Nat.le_refl _))).mono k4.size)
      have G6 := (unhide HB).trans (k6.mono (unhide HB).size)
      have R6 := (k6.block _ hs0).trans (unhide HR)
      obtain ⟨q0, q1, f0, f1⟩ := res_facts R6
      have HG := hide G6
      clear hst S6 K6 O6 S5 G5 hw5 k4 k6 R6 G6
      generalize nvals SL = S8 at HST HLO
      go_wp2_with (first | rw [e5] | refine wpList_store_by rfl 166 _ _ rfl _ _ rfl rfl _ (unhide HST) ?_)
      exact bodyPost_ret (v := .agg #[.int .i64 10, .slice none 0 0]) (by simp [results, Tryz.results121, go_sem, q0, q1]) rfl ⟨none, 0, rfl, World.ownsRow_nil _ _ _ _, ((unhide HG).setCell (by simp) _).setCell (by simp) _⟩
  · obtain ⟨ea, el⟩ := aw_fault xs ys hc
    rw [ea, el]
    have hd : (wf2 xs ys != 0) = true := by simp [hc]
    generalize wf2 xs ys = c at HF hd
    obtain ⟨q0, q1, f0, f1⟩ := res_facts hres
    clear ea el h h2 hx0 hy0 hc hres
    go_enter Tryz.func121, Tryz.ntmps121
    go_wp2_with (rw [e0])
    refine (unhide HF).mono ?_
    rintro e w' ⟨rfl, rfl⟩
    go_wp2_with fail
    exact bodyPost_ret (v := .agg #[.int .i64 c, .slice none 0 0]) (by simp [results, Tryz.results121, go_sem, q0, q1]) rfl ⟨none, 0, rfl, World.ownsRow_nil _ _ _ _, (hb0.setCell (by simp) _).setCell (by simp) _⟩

end Go.Proofs.YtldiilmpmcbjkaaGreatDoor

/- What is proved here: two wide numbers held against each other, by the program and by the model. -/
namespace Go.Proofs.YtldiilmpmcbjkaaGreatDoor
open Go.RowKit
set_option linter.unusedVariables false
set_option maxRecDepth 100000

/-- Which of two numbers is more. -/
def cmpI (x y : Int) : Int := if x < y then -1 else if y < x then 1 else 0

/-- Which of two lists is more, by its highest places first, below a place. -/
def cmpW (xs ys : List Int) : Nat → Int
  | 0 => 0
  | k + 1 => if cmpI (xs.getD k 0) (ys.getD k 0) = 0 then cmpW xs ys k else cmpI (xs.getD k 0) (ys.getD k 0)

theorem cmpI_same {x y : Int} (h : ¬ x < y) (h2 : ¬ y < x) : cmpI x y = 0 := by unfold cmpI; rw [if_neg h, if_neg h2]
theorem cmpI_less {x y : Int} (h : x < y) : cmpI x y = -1 := by unfold cmpI; rw [if_pos h]
theorem cmpI_more {x y : Int} (h : y < x) : cmpI x y = 1 := by unfold cmpI; rw [if_neg (by omega), if_pos h]
theorem cmpW_same (xs ys : List Int) (k : Nat) (h : cmpI (xs.getD k 0) (ys.getD k 0) = 0) : cmpW xs ys (k + 1) = cmpW xs ys k := by rw [cmpW, if_pos h]
theorem cmpW_other (xs ys : List Int) (k : Nat) (h : cmpI (xs.getD k 0) (ys.getD k 0) ≠ 0) : cmpW xs ys (k + 1) = cmpI (xs.getD k 0) (ys.getD k 0) := by rw [cmpW, if_neg h]

set_option maxHeartbeats 2000000 in
theorem l4Compare_any (a b : Nat) (oa ob ca cb : Nat) (xs ys : List Int) (w : World) (hx : IRow w (some ⟨a, oa, none⟩) 8 xs) (hy : IRow w (some ⟨b, ob, none⟩) 8 ys) :
    Calls Tryz.prog 84 #[.slice (some ⟨a, oa, none⟩) 8 ca, .slice (some ⟨b, ob, none⟩) 8 cb] w fun e w' => e = .returned (.int .i64 (cmpW xs ys 8)) ∧ Below w.heap.size w w' := by
  have CX : Hid (∀ i, i < 8 → w.cell? ⟨a, oa + i, none⟩ = some (.int .i64 (xs.getD i 0))) := fun i hi => by have := hx.2.2.2 _ rfl i hi; rwa [add_none] at this
  have CY : Hid (∀ i, i < 8 → w.cell? ⟨b, ob + i, none⟩ = some (.int .i64 (ys.getD i 0))) := fun i hi => by have := hy.2.2.2 _ rfl i hi; rwa [add_none] at this
  have CS := hide (cmpW_same xs ys)
  have CO := hide (cmpW_other xs ys)
  have CZ := hide (show cmpW xs ys 0 = 0 from rfl)
  clear hx hy
  generalize hR : cmpW xs ys = R at CS CO CZ ⊢
  clear hR
  go_enter Tryz.func84, Tryz.ntmps84
  go_wp2_with fail
  go_loopw [5] (fun i wr => ∃ k nn : Nat, k ≤ 8 ∧ i = .int .i64 ((k : Int) - 1) ∧ R 8 = R k ∧ wr = w.drewN nn) (fun i _ => (intOf i + 1).toNat)
  case atStart => exact ⟨8, 0, Nat.le_refl _, rfl, rfl, rfl⟩
  case round =>
    obtain ⟨k, nn, hk, rfl, hpre, rfl⟩ := hrel
    by_cases hlt : 0 < k
    · obtain ⟨m, rfl⟩ : ∃ m, k = m + 1 := ⟨k - 1, by omega⟩
      have m0 : ((m + 1 : Nat) : Int) - 1 = (m : Int) := by omega
      rw [m0]
      have hdk : decide ((m : Int) ≥ 0) = true := decide_eq_true (by omega)
      have hdk2 : decide ((0 : Int) ≤ (m : Int)) = true := decide_eq_true (by omega)
      have j0 : (0 : Int) ≤ (m : Int) := by omega
      have j1 : (m : Int) < 8 := by omega
      have c1 := (unhide CX) m (by omega)
      have c2 := (unhide CY) m (by omega)
      have hs := (unhide CS) m
      have ho := (unhide CO) m
      generalize xs.getD m 0 = x at c1 hs ho
      generalize ys.getD m 0 = y at c2 hs ho
      have HP := hide hpre
      have HS := hide hs
      have HO := hide ho
      clear hpre hs ho
      by_cases h1 : x < y
      · have d1 : decide (x < y) = true := decide_eq_true h1
        have HT := hide ((unhide HP).trans (((unhide HO) (by rw [cmpI_less h1]; decide)).trans (cmpI_less h1)))
        clear h1 HO HS HP
        go_wp2_with fail
        go_quiet (fail)
        go_wp2_with fail
        go_ret
        exact ⟨ret_int (unhide HT).symm, below_drewN (below_drewN (Below.refl _ _) _) _⟩
      · have d1 : decide (x < y) = false := decide_eq_false h1
        by_cases h2 : y < x
        · have d2 : decide (y < x) = true := decide_eq_true h2
          have HT := hide ((unhide HP).trans (((unhide HO) (by rw [cmpI_more h2]; decide)).trans (cmpI_more h2)))
          clear h1 h2 HO HS HP
          go_wp2_with fail
          go_quiet (fail)
          go_wp2_with fail
          go_quiet (fail)
          go_wp2_with fail
          go_ret
          exact ⟨ret_int (unhide HT).symm, below_drewN (below_drewN (below_drewN (Below.refl _ _) _) _) _⟩
        · have d2 : decide (y < x) = false := decide_eq_false h2
          have HT := hide ((unhide HP).trans ((unhide HS) (cmpI_same h1 h2)))
          clear h1 h2 HO HS HP
          go_wp2_with fail
          go_quiet (fail)
          go_wp2_with fail
          go_quiet (fail)
          go_wp2_with fail
          go_roundw
          case rel => exact ⟨m, _, by omega, by go_num, unhide HT, rfl⟩
          case measure => simp [intOf]
    · obtain rfl : k = 0 := by omega
      have HT := hide (hpre.trans (unhide CZ))
      clear hpre
      have hdk : decide (((0 : Nat) : Int) - 1 ≥ 0) = false := rfl
      go_wp2_with fail
      go_ret
      exact ⟨ret_int (unhide HT).symm, below_drewN (Below.refl _ _) _⟩

end Go.Proofs.YtldiilmpmcbjkaaGreatDoor

/- What is proved here: plain facts on wide numbers: what their limbs are worth, that sums add up, and that the order of limbs is the order of numbers. -/
namespace Go.Proofs.YtldiilmpmcbjkaaGreatDoor
open Go.RowKit
set_option linter.unusedVariables false
set_option maxRecDepth 100000

/-- What the k lowest limbs are worth. -/
def numW (L : List Int) : Nat → Int
  | 0 => 0
  | k + 1 => numW L k + L.getD k 0 * 4294967296 ^ k

/-- Limbs that are words. -/
def Wd (L : List Int) : Prop := ∀ i, 0 ≤ L.getD i 0 ∧ L.getD i 0 ≤ 4294967295

theorem pow_pos (k : Nat) : (0 : Int) < 4294967296 ^ k := Int.pow_pos (by decide)

theorem numW_range {L : List Int} (h : Wd L) : ∀ k, 0 ≤ numW L k ∧ numW L k < 4294967296 ^ k
  | 0 => by simp [numW]
  | k + 1 => by
    have ih := numW_range h k
    have hk := h k
    have hp := pow_pos k
    have m1 : L.getD k 0 * 4294967296 ^ k ≤ 4294967295 * 4294967296 ^ k := Int.mul_le_mul_of_nonneg_right hk.2 (Int.le_of_lt hp)
    have m0 : 0 ≤ L.getD k 0 * 4294967296 ^ k := Int.mul_nonneg hk.1 (Int.le_of_lt hp)
    have e : (4294967296 : Int) ^ (k + 1) = 4294967296 ^ k * 4294967296 := Int.pow_succ _ _
    rw [numW, e]
    generalize L.getD k 0 * 4294967296 ^ k = p at m0 m1
    generalize (4294967296 : Int) ^ k = q at ih m1 hp
    omega

/-- Which of two numbers is more. -/
theorem cmpW_num {A B : List Int} (hA : Wd A) (hB : Wd B) : ∀ k, cmpW A B k = cmpI (numW A k) (numW B k)
  | 0 => by simp [cmpW, numW, cmpI]
  | k + 1 => by
    have ih := cmpW_num hA hB k
    have ra := numW_range hA k
    have rb := numW_range hB k
    have hp := pow_pos k
    rw [numW, numW]
    rcases Int.lt_trichotomy (A.getD k 0) (B.getD k 0) with h | h | h
    · have m : (A.getD k 0 + 1) * 4294967296 ^ k ≤ B.getD k 0 * 4294967296 ^ k := Int.mul_le_mul_of_nonneg_right (by omega) (Int.le_of_lt hp)
      rw [Int.add_mul, Int.one_mul] at m
      rw [cmpW_other A B k (by rw [cmpI_less h]; decide), cmpI_less h, cmpI_less]
      omega
    · rw [cmpW_same A B k (by rw [h]; exact cmpI_same (Int.lt_irrefl _) (Int.lt_irrefl _)), ih, h]
      unfold cmpI
      generalize B.getD k 0 * 4294967296 ^ k = p
      have e1 : (numW A k + p < numW B k + p) ↔ (numW A k < numW B k) := by omega
      have e2 : (numW B k + p < numW A k + p) ↔ (numW B k < numW A k) := by omega
      simp only [e1, e2]
    · have m : (B.getD k 0 + 1) * 4294967296 ^ k ≤ A.getD k 0 * 4294967296 ^ k := Int.mul_le_mul_of_nonneg_right (by omega) (Int.le_of_lt hp)
      rw [Int.add_mul, Int.one_mul] at m
      rw [cmpW_other A B k (by rw [cmpI_more h]; decide), cmpI_more h, cmpI_more]
      omega


end Go.Proofs.YtldiilmpmcbjkaaGreatDoor
