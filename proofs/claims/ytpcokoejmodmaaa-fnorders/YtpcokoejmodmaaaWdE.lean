/- What is proved here: blocks of eight numbers, read and written whole; the program's wideIn, which reads limbs into such a block. -/
import Derived.Test.YtpcokoejmodmaaaChecked
import Derived.Test.YtpcokoejmodmaaaBase
import Derived.Test.YtpcokoejmodmaaaIBase
import Derived.Test.YtpcokoejmodmaaaInfo2
import Derived.WalkKit
import Derived.WalkLawsBesides
import Derived.WalkSmall
import Derived.WalkSpells
import Derived.Laws.CopyOwn
import Derived.Deep.MidRow
import Derived.Deep.DrawnRows
import Derived.KernelRfl
namespace Go.Proofs.Ytpcokoejmodmaaa
open Go.RowKit
set_option linter.unusedVariables false

/-- A load by its run's equation. -/
theorem wpList_load_by {P : Program} {ops : Array Oper} {rest : List Oper} {op : Oper} {a : Act} {w : World} {Q : Exit → Act → World → Prop} (hgd : op.guard = none) (ty : TypeId) (x : Operand) (ho : op.op = .load ty x)
    (p v : Value) (hx : a.eval x = p) (hrun : (Instr.loadAt ty p).run P w = .ok v w) (h : wpList P ops Q rest (a.put op.dst v) w) : wpList P ops Q (op :: rest) a w :=
  wpList_plain hgd fun _ hK => by
    unfold Oper.wp execOp
    simp only [ho, hx, Sem.run_bind, hrun, Sem.run_pure, Result.andThen_ok]
    exact hK _ _ h

/-- A store by its run's equation. -/
theorem wpList_store_by {P : Program} {ops : Array Oper} {rest : List Oper} {op : Oper} {a : Act} {w : World} {Q : Exit → Act → World → Prop} (hgd : op.guard = none) (ty : TypeId) (x y : Operand) (ho : op.op = .store ty x y)
    (p v : Value) (hx : a.eval x = p) (hy : a.eval y = v) (w2 : World) (hrun : (Instr.storeAt ty p v).run P w = .ok () w2) (h : wpList P ops Q rest (a.put op.dst undef) w2) : wpList P ops Q (op :: rest) a w :=
  wpList_plain hgd fun _ hK => by
    unfold Oper.wp execOp
    simp only [ho, hx, hy, Sem.run_bind, hrun, Sem.run_pure, Result.andThen_ok]
    exact hK _ _ h

/-- Numbers as values. -/
def nvals (Z : List Int) : List Value := Z.map (Value.int .i64)
theorem nvals_length (Z : List Int) : (nvals Z).length = Z.length := by simp [nvals]

/-- A block of numbers. -/
def NBlk (w : World) (b : Nat) (Z : List Int) (t : TypeId) : Prop := w.heap[b]? = some (.cells (nvals Z).toArray t (0, 0))

theorem NBlk.cell {w : World} {b : Nat} {Z : List Int} {t : TypeId} (h : NBlk w b Z t) (i : Nat) (hi : i < Z.length) : w.cell? ⟨b, i, none⟩ = some (.int .i64 (Z.getD i 0)) := by
  simp [World.cell?, show w.heap[b]? = _ from h, hi, nvals]

theorem NBlk.free {w : World} {b : Nat} {Z : List Int} {t : TypeId} (h : NBlk w b Z t) (i : Nat) : w.frozen? ⟨b, i, none⟩ = false := frozen_of_row w b i _ t h

theorem NBlk.set {w : World} {b : Nat} {Z : List Int} {t : TypeId} (h : NBlk w b Z t) (i : Nat) (v : Int) : NBlk (w.setCell ⟨b, i, none⟩ (.int .i64 v)) b (Z.set i v) t := by
  have := heap_setCell_same w b i _ t (.int .i64 v) h
  unfold NBlk
  rw [this]
  simp [nvals, List.map_set]

theorem NBlk.other {w : World} {b b' : Nat} {Z : List Int} {t : TypeId} (h : NBlk w b Z t) (i : Nat) (v : Value) (hb : b ≠ b') : NBlk (w.setCell ⟨b', i, none⟩ v) b Z t := by
  unfold NBlk
  rw [heap_setCell_other w ⟨b', i, none⟩ b v hb]
  exact h

theorem NBlk.lt {w : World} {b : Nat} {Z : List Int} {t : TypeId} (h : NBlk w b Z t) : b < w.heap.size := lt_of_block h

theorem NBlk.below {w w' : World} {b C : Nat} {Z : List Int} {t : TypeId} (h : NBlk w b Z t) (hb : Below C w w') (hC : b < C) : NBlk w' b Z t := by
  unfold NBlk
  rw [hb.block b hC]
  exact h

theorem NBlk.new (w : World) (Z : List Int) (t : TypeId) : NBlk (w.alloc (.cells (nvals Z).toArray t)) w.heap.size Z t := by
  show (w.heap.push _)[w.heap.size]? = _
  simp

theorem NBlk.next {w : World} {b : Nat} {Z : List Int} {t : TypeId} (h : NBlk w b Z t) (o : Obj) : NBlk (w.alloc o) b Z t := h.below (below_alloc w o) h.lt

theorem all_n (Z : List Int) : (nvals Z).toArray.all (·.oneCell') = true :=
  all_oneCell_toArray (fun v hv => by obtain ⟨x, _, rfl⟩ := List.mem_map.1 hv; rfl)

theorem NBlk.range {w : World} {b : Nat} {Z : List Int} {t : TypeId} (h : NBlk w b Z t) : w.rangeAt b 0 (nvals Z) := by
  intro j v hj
  rw [Nat.zero_add, cell_of_row w b j _ t _ h]
  simpa using hj

theorem n_there {w : World} {b : Nat} {C : Array Value} {t : TypeId} (h : w.heap[b]? = some (.cells C t (0, 0))) (n : Nat) (hn : n = C.size) : w.there b 0 n := by
  intro j hj
  refine ⟨?_, frozen_of_row w b _ C t h⟩
  rw [Nat.zero_add, cell_of_row w b j C t _ h, Array.getElem?_eq_getElem (by omega)]
  rfl

/-- A whole row stored over a block is that row. -/
theorem n_setAll {b : Nat} {t : TypeId} : ∀ (vs pre post : List Value) (w : World), w.heap[b]? = some (.cells (pre ++ post).toArray t (0, 0)) → post.length = vs.length →
    (w.setCells b pre.length vs).heap[b]? = some (.cells (pre ++ vs).toArray t (0, 0))
  | [], pre, post, w, h, hl => by
    obtain rfl : post = [] := List.eq_nil_of_length_eq_zero (by simpa using hl)
    exact h
  | v :: r, pre, [], w, h, hl => by simp at hl
  | v :: r, pre, p :: post, w, h, hl => by
    have h1 := heap_setCell_same w b pre.length _ t v h
    have e : ((pre ++ p :: post).toArray.setIfInBounds pre.length v) = ((pre ++ [v]) ++ post).toArray := by
      rw [List.setIfInBounds_toArray]
      simp
    rw [e] at h1
    have ih := n_setAll r (pre ++ [v]) post (w.setCell ⟨b, pre.length, none⟩ v) h1 (by simpa using hl)
    have e2 : (pre ++ [v]).length = pre.length + 1 := by simp
    rw [e2] at ih
    show ((w.setCell ⟨b, pre.length, none⟩ v).setCells b (pre.length + 1) r).heap[b]? = _
    rw [ih]
    simp

theorem n_below {B : Nat} {w0 : World} (b : Nat) (hb : B ≤ b) : ∀ (vs : List Value) (o : Nat) (w : World), Below B w0 w → Below B w0 (w.setCells b o vs)
  | [], _, _, h => h
  | v :: r, o, w, h => n_below b hb r (o + 1) _ (h.setCell hb v)

/-- A whole wide number loaded. -/
theorem load8 {w : World} {b : Nat} {Z : List Int} (h : NBlk w b Z 53) (hz : Z.length = 8) : (Instr.loadAt 53 (.pointer (some ⟨b, 0, none⟩))).run Try.prog w = .ok (.agg (nvals Z).toArray) w :=
  run_loadAt_mid (P := Try.prog) w b 0 53 (nvals Z) _ h.range Try.underlying53 rfl (by rw [nvals_length, hz]; kernel_rfl)

/-- A whole wide number stored over another one. -/
theorem store8 {w : World} {b : Nat} {Y Z : List Int} (h : NBlk w b Y 53) (hy : Y.length = 8) (hz : Z.length = 8) :
    ∃ W, (Instr.storeAt 53 (.pointer (some ⟨b, 0, none⟩)) (.agg (nvals Z).toArray)).run Try.prog w = .ok () W ∧ NBlk W b Z 53 ∧ (∀ C, C ≤ b → Below C w W) ∧ (∀ c, c ≠ b → W.heap[c]? = w.heap[c]?) := by
  have hsz : (nvals Z).toArray.size = 8 := by simp [nvals, hz]
  refine ⟨w.setCells b 0 (nvals Z), run_storeAt_mid (P := Try.prog) w b 0 53 (nvals Z).toArray (n_there h _ (by simp [nvals, hz, hy])) (by rw [hsz]; kernel_rfl) (all_n Z), ?_, ?_, ?_⟩
  · have := n_setAll (nvals Z) [] (nvals Y) w h (by rw [nvals_length, nvals_length, hy, hz])
    unfold NBlk
    simpa using this
  · intro C hC
    exact n_below b hC _ _ _ (Below.refl _ _)
  · intro c hc
    have : ∀ (vs : List Value) (o : Nat) (W : World), (W.setCells b o vs).heap[c]? = W.heap[c]? := by
      intro vs
      induction vs with
      | nil => intro o W; rfl
      | cons v r ih => intro o W; exact (ih (o + 1) _).trans (heap_setCell_other W ⟨b, o, none⟩ c v hc)
    exact this _ _ _

theorem nsize2 : (Try.prog.info? 2).map (·.size) = some 1 := by kernel_rfl

/-- Numbers copied over a block of as many. -/
theorem copy8 {w : World} {b b2 off cap n : Nat} {Y xs : List Int} {t : TypeId} (h : NBlk w b Y t) (hy : Y.length = n) (hr : IRow w (some ⟨b2, off, none⟩) n xs) :
    ∃ W, (Builtin.copy_ #[27, 27] 3 #[.slice (some ⟨b, 0, none⟩) n n, .slice (some ⟨b2, off, none⟩) n cap]).run Try.prog w = .ok (goInt n) W ∧ NBlk W b xs t ∧ w.grownBy W (some b) := by
  have hxl := hr.1
  have hr2 := run_copy_row (P := Try.prog) w 27 27 3 2 b 0 n n ⟨b2, off, none⟩ n cap (nvals Y).toArray t (nvals xs) Try.underlying27 nsize2 h (by rw [nvals_length, hxl]; exact (Nat.min_self n).symm) (by
    intro j v hj
    have hjl : j < xs.length := by have := (List.getElem?_eq_some_iff.1 hj).1; rwa [nvals_length] at this
    rw [hr.2.2.2 _ rfl j (by rw [← hr.1]; exact hjl)]
    rw [nvals, List.getElem?_map, List.getElem?_eq_getElem hjl] at hj
    rw [getD_at _ _ hjl]
    exact hj) (by simp [nvals, hy, hxl]) (fun v hv => by obtain ⟨z, _, rfl⟩ := List.mem_map.1 hv; rfl)
  have e1 : ((nvals Y).toArray.toList.take 0 ++ nvals xs ++ (nvals Y).toArray.toList.drop (0 + (nvals xs).length)) = nvals xs := by
    rw [nvals_length, hxl, List.drop_eq_nil_of_le (by simp [nvals, hy])]; simp
  rw [e1, nvals_length, hxl] at hr2
  exact ⟨_, hr2, setRow_heap w b _ _ t _ h, ⟨rfl, rfl, rfl, by simp [World.setRow], fun k _ hk => setRow_other w b k _ (fun e => hk (by simp [e]))⟩⟩

set_option maxHeartbeats 2000000 in
theorem wideIn_any (b off cap : Nat) (xs : List Int) (w : World) (h : IRow w (some ⟨b, off, none⟩) 8 xs) :
    Calls Try.prog 25 #[.slice (some ⟨b, off, none⟩) 8 cap] w fun e w' => e = .returned (.agg (nvals xs).toArray) ∧ Below w.heap.size w w' := by
  have hxl := h.1
  have HH := hide h
  clear h
  obtain ⟨w1, hw1⟩ : ∃ w1, w1 = (w.alloc (.cells #[.int .i64 0, .int .i64 0, .int .i64 0, .int .i64 0, .int .i64 0, .int .i64 0, .int .i64 0, .int .i64 0] 53)).alloc (.cells #[.int .i64 0, .int .i64 0, .int .i64 0, .int .i64 0, .int .i64 0, .int .i64 0, .int .i64 0, .int .i64 0] 53) := ⟨_, rfl⟩
  have e1 : (w.alloc (.cells #[.int .i64 0, .int .i64 0, .int .i64 0, .int .i64 0, .int .i64 0, .int .i64 0, .int .i64 0, .int .i64 0] 53)).alloc (.cells #[.int .i64 0, .int .i64 0, .int .i64 0, .int .i64 0, .int .i64 0, .int .i64 0, .int .i64 0, .int .i64 0] 53) = w1 := hw1.symm
  have G1 : Below w.heap.size w w1 := by rw [hw1]; exact (below_alloc w _).alloc (by simp) _
  have S1 : NBlk w1 w.heap.size (List.replicate 8 0) 53 := by
    rw [hw1]
    exact (NBlk.new w (List.replicate 8 0) _).next _
  have R1 : NBlk w1 (w.heap.size + 1) (List.replicate 8 0) 53 := by
    have := NBlk.new (w.alloc (.cells #[.int .i64 0, .int .i64 0, .int .i64 0, .int .i64 0, .int .i64 0, .int .i64 0, .int .i64 0, .int .i64 0] 53)) (List.replicate 8 0) 53
    rw [hw1]
    rw [show (w.alloc (.cells #[.int .i64 0, .int .i64 0, .int .i64 0, .int .i64 0, .int .i64 0, .int .i64 0, .int .i64 0, .int .i64 0] 53)).heap.size = w.heap.size + 1 by simp] at this
    exact this
  obtain ⟨w2, hcp, R2, g2⟩ := copy8 (cap := cap) R1 (by simp) ((unhide HH).below G1 (Nat.le_refl _))
  have hs : w.heap.size < w1.heap.size := S1.lt
  have S2 : NBlk w2 w.heap.size (List.replicate 8 0) 53 := by
    unfold NBlk
    rw [g2.block _ hs (by simp)]
    exact S1
  have G2 : Below w.heap.size w w2 := G1.grown g2 (Nat.le_of_lt hs) (fun k e => by cases e; omega)
  have HLD := hide (load8 R2 hxl)
  obtain ⟨w3, hst, S3, K3, O3⟩ := store8 S2 (by simp) hxl
  have HST := hide hst
  have G3 := G2.trans (K3 _ (Nat.le_refl _))
  have HS3 := hide (show w3.heap[w.heap.size]? = some (.cells (nvals xs).toArray 53 (0, 0)) from S3)
  have vlen : (nvals xs).length = 8 := by rw [nvals_length, hxl]
  have HG := hide G3
  clear hst S3 K3 O3 S2 R2 g2 G2 S1 R1 G1 hw1 hs G3
  generalize nvals xs = V at HLD HST HS3 vlen ⊢
  go_enter Try.func25, Try.ntmps25
  go_wp2_with (first | rw [e1] | refine wpList_load_by rfl 53 _ rfl _ _ rfl (unhide HLD) ?_ | refine wpList_store_by rfl 53 _ _ rfl _ _ rfl rfl _ (unhide HST) ?_)
  exact bodyPost_ret (results_cell_row rfl _ _ w.heap.size 53 _ (0, 0) _ rfl (unhide HS3) Try.underlying53 rfl (by rw [List.size_toArray, vlen]; kernel_rfl)) rfl ⟨rfl, unhide HG⟩

end Go.Proofs.Ytpcokoejmodmaaa
