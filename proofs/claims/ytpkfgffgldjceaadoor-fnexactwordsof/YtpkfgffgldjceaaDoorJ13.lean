/- What is proved here: the row's condition on its two listed variables. -/
import Derived.Test.YtpkfgffgldjceaaDoorRows
import Derived.ProofKit
import Derived.LaidMore
import Derived.OpenShut
import Derived.FnData
import Derived.Lay
import Derived.RangeFuncFrom
import Derived.RangeFuncLeaves
import Derived.Shelf.Abstract
import Derived.WalkKit
import Derived.OwnWalkIn
import Derived.TacticsInMore
import Derived.Laws.Rows
import Derived.Test.YtpkfgffgldjceaaDoorChecked
import Derived.Lib.Bytealg
import Derived.Shelf.Lays
import Derived.Shelf.LaysM
import Derived.Shelf.Strconv.Clone
import Derived.Shelf.Strings.Search3
import Derived.Test.YtpkfgffgldjceaaDoorProg
import Derived.Test.YtpkfgffgldjceaaDoorJ1
import Derived.LoopNIn
import Derived.LoopIn
import Derived.RangeFuncCalls
import Derived.Deep.RegionHeld3
import Derived.Test.YtpkfgffgldjceaaDoorJ12
import Derived.Test.YtpkfgffgldjceaaDoorJ3
import Derived.Scope
namespace Go.Proofs.YtpkfgffgldjceaaDoor
open Go.ChangeShapes Go.WideShapes Go.ChangeAt Go.WideElems Go.RowKit
set_option linter.unusedVariables false
set_option maxRecDepth 100000

/-- The two listed variables, as the row lists them. -/
def laid2t : List (String × DataW Unit) := [("unicode/utf8.acceptRanges", Rows.laid_unicode_utf8_acceptRanges), ("unicode/utf8.first", Rows.laid_unicode_utf8_first)]

end Go.Proofs.YtpkfgffgldjceaaDoor

/- What is proved here: a range over a function whose iterator keeps state in a cell of its own, and whose body is never left but at its end. -/
namespace Go.Proofs.YtpkfgffgldjceaaDoor
open Go.RowKit Go.Shelf
set_option linter.unusedVariables false
set_option maxRecDepth 100000

theorem heap_other_set (w : World) (g : Nat) (v : Value) (k : Nat) (h : ¬ k = g) : (w.setCell ⟨g, 0, none⟩ v).heap[k]? = w.heap[k]? := heap_setCell_other w ⟨g, 0, none⟩ k v h

/-- What a predicate of the caller's must bear: new memory, the loop's own record, and what the iterator stores into its block Bs. -/
structure Bears (B Bs : Nat) (I : List ByteArray → World → Prop) : Prop where
  grow : ∀ s W W' row, I s W → W.grownBy W' row → (∀ r, row = some r → B ≤ r ∧ ∃ o : Obj, W.heap[r]? = some o ∧ o.isCells = false) → I s W'
  cell : ∀ s W v, I s W → I s (W.setCell ⟨Bs, 0, none⟩ v)

theorem Bears.put {B Bs : Nat} {I : List ByteArray → World → Prop} (h : Bears B Bs I) {s : List ByteArray} {W : World} {l : Nat} {o : Obj} (o' : Obj) (hs : I s W) (hB : B ≤ l) (hl : W.heap[l]? = some o) (ho : o.isCells = false) : I s (W.putObj l o') :=
  h.grow s W _ (some l) hs (grownBy_putObj' W l o') (fun r e => by cases e; exact ⟨hB, o, hl, ho⟩)
theorem Bears.alloc {B Bs : Nat} {I : List ByteArray → World → Prop} (h : Bears B Bs I) {s : List ByteArray} {W : World} (o : Obj) (hs : I s W) : I s (W.alloc o) :=
  h.grow s W _ none hs (World.grownBy_alloc W o none) (fun r e => by cases e)

/-- The iterator's three blocks lie as they lay. -/
def Kept3 (Bs : Nat) (A A' : World) : Prop := ∀ g, Bs ≤ g → g < Bs + 3 → A'.heap[g]? = A.heap[g]?

/-- The iterator's contract: it hands the pieces to each round, one behind another. -/
def Tells (F : Fence) (n : Nat) (P : Program) (gf : Nat) (lb : Array Value) (Bs : Nat) (ps : List ByteArray) (w : World) : Prop :=
  ∀ (l : Nat) (J : List ByteArray → World → Prop) (W : World), Below w.heap.size w W → (∀ s A v, J s A → J s (A.setCell ⟨Bs, 0, none⟩ v)) →
    (∀ pre x A, J pre A → (pre ++ [x]) <+: ps → YieldAt F (n - 1) P l #[.string x] A fun e A' => e = .returned (.bool true) ∧ J (pre ++ [x]) A' ∧ Kept3 Bs A A') →
    J [] W → CallsIn F n P gf (#[.func (.yield l) #[] #[]] ++ lb) W fun e W' => (∃ v, e = .returned v) ∧ J ps W'

theorem range_cell {F : Fence} {n : Nat} {P : Program} {g : Operand} {p : Tmp} {assign body : Code} {Q : Exit → Act → World → Prop} {a : Act} {w : World}
    (hro : F.round = none) (h1 : 1 ≤ n) {gf : Nat} {lb : Array Value} (hg : a.eval g = .func (.func gf) #[] lb) (hFg : F.fn gf) (eg : ∀ args w, (callFunc gf args).run P w = .ok (.enter gf args) w)
    {Bs : Nat} (hBs : Bs + 3 ≤ w.heap.size) {ps : List ByteArray} (hseq : Tells F (n - 1) P gf lb Bs ps w)
    (I : List ByteArray → World → Prop) (hI : Bears w.heap.size Bs I) (h0 : I [] w) (a₁ : ByteArray → Act)
    (hassign : ∀ (l : Nat) (x : ByteArray) (W : World) (K : Act → World → Prop), K (a₁ x) W →
      assign.wpIn (F.inRound l) (n - 1 - 1) P (Exit.then K (fun _ _ _ => False)) { tmps := (#[p].zip #[Value.string x]).foldl (fun t (p, v) => t.setIfInBounds p v) a.tmps, defers := [] } W)
    (hbody : ∀ (l : Nat) (pre : List ByteArray) (x : ByteArray) (W : World), I pre W → (pre ++ [x]) <+: ps → body.wpIn (F.inRound l) (n - 1 - 1) P (fun e _ W' => e = .normal ∧ KeepsOthers W W' ∧ Kept3 Bs W W' ∧ I (pre ++ [x]) W') (a₁ x) W)
    (hdone : ∀ (D : Nat) (W : World), w.heap.size ≤ D → I ps W → W.heap[D]? = some (.deferred (some [])) → Q .normal { a with defers := { target := .collected D, args := #[] } :: a.defers } W) :
    (Code.rangeFunc g #[p] assign body).wpIn F n P Q a w := by
  refine wpIn_rangeFunc fun fn hfn => ?_
  rw [hro]
  obtain ⟨rec, hrec⟩ : ∃ rec : LoopState → Option Code → Loop, rec = fun st pe => { state := st, pending := pe, fn, tmps := a.tmps, params := #[p], assign, body, defers := w.heap.size } := ⟨_, rfl⟩
  obtain ⟨W1, hW1⟩ : ∃ W1, (w.alloc (.deferred (some []))).alloc (.loop (rec .ready none)) = W1 := ⟨_, rfl⟩
  have hz1 : W1.heap.size = w.heap.size + 2 := by rw [← hW1]; simp
  have hL1 : W1.heap[w.heap.size + 1]? = some (.loop (rec .ready none)) := by
    have := World.alloc_heap_new (w.alloc (.deferred (some []))) (.loop (rec .ready none))
    rw [World.size_alloc] at this
    rw [← hW1]
    exact this
  have hK1 : W1.heap[w.heap.size]? = some (.deferred (some [])) := by
    rw [← hW1]
    exact (Below.heap_alloc _ _ _ (by simp)).trans (World.alloc_heap_new w _)
  have hI1 : I [] W1 := by rw [← hW1]; exact hI.alloc _ (hI.alloc _ h0)
  have hb1 : Below w.heap.size w W1 := by
    rw [← hW1]
    exact ((Below.refl _ w).alloc (Nat.le_refl _) _).alloc (by simp) _
  refine ⟨w.heap.size + 1, [{ target := .collected w.heap.size, args := #[] }], W1, { target := .fn (.func gf) lb, args := #[.func (.yield (w.heap.size + 1)) #[] #[]] }, W1, gf, #[.func (.yield (w.heap.size + 1)) #[] #[]] ++ lb, W1, ?_, ?_, ?_, ?_, fun _ => h1, ?_⟩
  · rw [← hW1, hrec]
    exact run_enterLoop_outer _ _ _ _ _
  · simp only [resolve, hg]
    simp [go_sem]
  · intro f' hf'
    simp [Target.leads] at hf'
    subst hf'
    exact hFg
  · simp [invoke, go_sem, eg]
  · refine (hseq (w.heap.size + 1) (fun pre W => I pre W ∧ W.heap[w.heap.size + 1]? = some (.loop (rec .ready none)) ∧ W.heap[w.heap.size]? = some (.deferred (some []))) W1 hb1 ?_ ?_ ⟨hI1, hL1, hK1⟩).mono ?_
    · rintro s A v ⟨i1, i2, i3⟩
      exact ⟨hI.cell s A v i1, (heap_other_set A Bs v (w.heap.size + 1) (by omega)).trans i2, (heap_other_set A Bs v w.heap.size (by omega)).trans i3⟩
    · rintro pre x A ⟨hi, hl, hk⟩ hpf
      have hlt : w.heap.size + 1 < A.heap.size := (Array.getElem?_eq_some_iff.1 hl).1
      have hy := run_yield (P := P) (args := #[Value.string x]) hl (by rw [hrec]; rfl)
      rw [hrec] at hy
      have hl2 : (A.putObj (w.heap.size + 1) (.loop { rec .ready none with state := .busy })).heap[w.heap.size + 1]? = some (.loop { rec .ready none with state := .busy }) := World.putObj_heap_same hlt
      have hk2 : (A.putObj (w.heap.size + 1) (.loop { rec .ready none with state := .busy })).heap[w.heap.size]? = some (.deferred (some [])) := (World.putObj_heap_other (by omega)).trans hk
      have hB2 : Kept3 Bs A (A.putObj (w.heap.size + 1) (.loop { rec .ready none with state := .busy })) := fun g h1 h2 => World.putObj_heap_other (by omega)
      refine ⟨fn, _, assign, body, hy, roundIn_of_wpIn hfn (hassign _ x A _ ⟨_, run_beginRound hl (by rw [hrec]), ?_⟩)⟩
      refine wpIn_mono (hbody _ pre x _ (hI.put _ hi (by omega) hl rfl) hpf) ?_
      rintro e a3 W3 ⟨rfl, hk3, hb3, hi3⟩
      have hl3 := hk3.same _ _ hl2 rfl
      have hr := run_endRound (P := P) none hl3
      have hb4 : Kept3 Bs A (W3.putObj (w.heap.size + 1) (.loop { { rec .ready none with state := .busy } with state := if (none : Option Code).isNone then .ready else .done, pending := none })) := fun g h1 h2 => (World.putObj_heap_other (by omega)).trans ((hb3 g h1 h2).trans (hB2 g h1 h2))
      have hi4 : I (pre ++ [x]) (W3.putObj (w.heap.size + 1) (.loop { { rec .ready none with state := .busy } with state := if (none : Option Code).isNone then .ready else .done, pending := none })) := hI.put _ hi3 (by omega) hl3 rfl
      have hl4 : (W3.putObj (w.heap.size + 1) (.loop { { rec .ready none with state := .busy } with state := if (none : Option Code).isNone then .ready else .done, pending := none })).heap[w.heap.size + 1]? = some (.loop (rec .ready none)) := by
        rw [World.putObj_heap_same (Array.getElem?_eq_some_iff.1 hl3).1, hrec]
        rfl
      have hk4 : (W3.putObj (w.heap.size + 1) (.loop { { rec .ready none with state := .busy } with state := if (none : Option Code).isNone then .ready else .done, pending := none })).heap[w.heap.size]? = some (.deferred (some [])) := (World.putObj_heap_other (by omega)).trans (hk3.same _ _ hk2 rfl)
      exact ⟨_, _, hr, rfl, ⟨hi4, hl4, hk4⟩, hb4⟩
    · rintro e W2 ⟨⟨v, rfl⟩, hi, hl, hk⟩
      have hr := run_endLoop (P := P) hl (by rw [hrec]; simp)
      rw [hrec] at hr hl
      exact ⟨none, _, hr, hdone _ _ (Nat.le_refl _) (hI.put _ hi (by omega) hl rfl) ((World.putObj_heap_other (by omega)).trans hk)⟩

end Go.Proofs.YtpkfgffgldjceaaDoor

/- What is proved here: nothing of the program: a text cut at blanks. -/
namespace Go.Proofs.YtpkfgffgldjceaaDoor
set_option linter.unusedVariables false
set_option maxRecDepth 100000

/-- A text cut at each blank. -/
def cutB : List UInt8 → List (List UInt8)
  | [] => [[]]
  | b :: t => if b = 32 then [] :: cutB t else match cutB t with | [] => [[b]] | h :: r => (b :: h) :: r

theorem cutB_ne : ∀ L, cutB L ≠ []
  | [] => by simp [cutB]
  | b :: t => by
    unfold cutB
    split
    · simp
    · split <;> simp

theorem idx_cut : ∀ L : List UInt8, (Lib.indexByte L 32 = -1 ∧ cutB L = [L]) ∨ ∃ k : Nat, Lib.indexByte L 32 = (k : Int) ∧ k < L.length ∧ cutB L = L.take k :: cutB (L.drop (k + 1))
  | [] => .inl ⟨rfl, rfl⟩
  | b :: t => by
    by_cases hb : b = 32
    · subst hb
      exact .inr ⟨0, by simp [Lib.indexByte], by simp, by simp [cutB]⟩
    · have hq : (b == 32) = false := by simp [hb]
      rcases idx_cut t with ⟨h1, h2⟩ | ⟨k, h1, h2, h3⟩
      · left
        refine ⟨by simp [Lib.indexByte, hq, h1], ?_⟩
        unfold cutB
        rw [if_neg hb, h2]
      · right
        refine ⟨k + 1, ?_, by simp; omega, ?_⟩
        · have hn : ((k : Int) == -1) = false := by rw [beq_eq_false_iff_ne]; omega
          simp [Lib.indexByte, hq, h1, hn]
        · rw [show cutB (b :: t) = (match cutB t with | [] => [[b]] | h :: r => (b :: h) :: r) from by rw [cutB, if_neg hb], h3]
          simp

/-- The pieces as texts. -/
def bt (l : List UInt8) : ByteArray := ⟨l.toArray⟩
def pcs (s : ByteArray) : List ByteArray := (cutB s.data.toList).map bt

theorem bt_data (s : ByteArray) : bt s.data.toList = s := by
  apply ByteArray.ext
  simp [bt]

theorem pcs_cases (s : ByteArray) : (Lib.indexByte s.data.toList 32 = -1 ∧ pcs s = [s]) ∨ ∃ k : Nat, Lib.indexByte s.data.toList 32 = (k : Int) ∧ k < s.size ∧ pcs s = s.extract 0 k :: pcs (s.extract (k + 1) s.size) := by
  rcases idx_cut s.data.toList with ⟨h1, h2⟩ | ⟨k, h1, h2, h3⟩
  · exact .inl ⟨h1, by unfold pcs; rw [h2]; simp [bt_data]⟩
  · refine .inr ⟨k, h1, by simpa using h2, ?_⟩
    unfold pcs
    rw [h3, List.map_cons]
    have e1 : bt (s.data.toList.take k) = s.extract 0 k := by
      apply ByteArray.ext
      apply Array.ext'
      apply List.ext_getElem?
      intro i
      simp only [bt, ByteArray.data_extract]
      rw [List.getElem?_take, Array.getElem?_toList, Array.getElem?_toList, Array.getElem?_extract]
      have hs : s.data.toList.length = s.data.size := Array.length_toList
      by_cases hi : i < k
      · rw [if_pos hi, if_pos (by omega), Nat.zero_add]
      · rw [if_neg hi, if_neg (by omega)]
    have e2 : (s.extract (k + 1) s.size).data.toList = s.data.toList.drop (k + 1) := by
      apply List.ext_getElem?
      intro i
      simp only [ByteArray.data_extract]
      rw [Array.getElem?_toList, Array.getElem?_extract, List.getElem?_drop, Array.getElem?_toList]
      have hs : s.size = s.data.size := rfl
      by_cases hi : i < s.size - (k + 1)
      · rw [if_pos (by omega)]
      · rw [if_neg (by omega), Array.getElem?_eq_none (by omega)]
    rw [e1, e2]

theorem cutB_len : ∀ L, (cutB L).length ≤ L.length + 1
  | [] => by simp [cutB]
  | b :: t => by
    have ih := cutB_len t
    unfold cutB
    split
    · simpa using ih
    · split <;> rename_i h <;> rw [h] at ih <;> simp at ih ⊢ <;> omega

theorem pcs_len (s : ByteArray) : (pcs s).length ≤ s.size + 1 := by
  unfold pcs
  rw [List.length_map]
  have := cutB_len s.data.toList
  simpa using this

/-- No piece is longer than the text. -/
theorem cutB_size : ∀ L, ∀ p ∈ cutB L, p.length ≤ L.length
  | [] => by simp [cutB]
  | b :: t => by
    have ih := cutB_size t
    unfold cutB
    split
    · intro p hp
      rcases List.mem_cons.1 hp with rfl | hp
      · simp
      · have := ih p hp
        simp; omega
    · split
      · intro p hp
        simp at hp
        subst hp
        simp
      · rename_i h r e
        rw [e] at ih
        intro p hp
        rcases List.mem_cons.1 hp with rfl | hp
        · have := ih h (List.mem_cons_self ..)
          simpa using this
        · have := ih p (List.mem_cons_of_mem _ hp)
          simp; omega

theorem pcs_size (s : ByteArray) : ∀ p ∈ pcs s, p.size ≤ s.size := by
  intro p hp
  unfold pcs at hp
  obtain ⟨l, hl, rfl⟩ := List.mem_map.1 hp
  have h1 := cutB_size s.data.toList l hl
  have h2 : (bt l).size = l.length := List.size_toArray ..
  rw [h2]
  simpa using h1

end Go.Proofs.YtpkfgffgldjceaaDoor

/- What is proved here: the bodies of strings.Index and stringslite.Clone in this program are those that the library of proofs knows. -/
namespace Go.Proofs
open Go.Shelf
set_option linter.unusedVariables false
set_option maxRecDepth 100000
def Tryd.lays143_ren : Go.Shelf.Ren := ⟨fun | 143 => 81 | 219 => 95 | 217 => 106 | 225 => 107 | 224 => 108 | 267 => 109 | 266 => 114 | 314 => 115 | n => n, fun | 9 => 9 | 3 => 3 | 4 => 4 | 5 => 5 | 46 => 107 | 146 => 158 | 51 => 144 | n => n, fun | 1 => 3 | n => n⟩
theorem Tryd.lays143 : Go.Proofs.Lays.n143 Tryd.prog Tryd.lays143_ren := {
  mixed := by kernel_rfl
  f143 := Tryd.func81.trans (congrArg some (by kernel_rfl))
  f217 := Tryd.func106.trans (congrArg some (by kernel_rfl))
  f219 := Tryd.func95.trans (congrArg some (by kernel_rfl))
  f224 := Tryd.func108.trans (congrArg some (by kernel_rfl))
  f225 := Tryd.func107.trans (congrArg some (by kernel_rfl))
  f266 := Tryd.func114.trans (congrArg some (by kernel_rfl))
  f267 := Tryd.func109.trans (congrArg some (by kernel_rfl))
  f314 := Tryd.func115.trans (congrArg some (by kernel_rfl))
  t3 := Tryd.underlying3
  a3 := Tryd.isAgg3
  z3 := Tryd.sizeOf3
  v3 := Tryd.zeroValue3
  t4 := Tryd.underlying4
  a4 := Tryd.isAgg4
  z4 := Tryd.sizeOf4
  v4 := Tryd.zeroValue4
  t5 := Tryd.underlying5
  a5 := Tryd.isAgg5
  z5 := Tryd.sizeOf5
  v5 := Tryd.zeroValue5
  t9 := Tryd.underlying9
  a9 := Tryd.isAgg9
  z9 := Tryd.sizeOf9
  v9 := Tryd.zeroValue9
  t46 := Tryd.underlying107
  a46 := Tryd.isAgg107
  z46 := Tryd.sizeOf107
  v46 := Tryd.zeroValue107
  t51 := Tryd.underlying144
  a51 := Tryd.isAgg144
  z51 := Tryd.sizeOf144
  v51 := Tryd.zeroValue144
  t146 := Tryd.underlying158
  a146 := Tryd.isAgg158
  z146 := Tryd.sizeOf158
  v146 := Tryd.zeroValue158
  g1 := by kernel_rfl }
def Tryd.laysM316_ren : Go.Shelf.Ren := ⟨fun | 316 => 62 | n => n, fun | 9 => 9 | 3 => 3 | 4 => 4 | 37 => 57 | 0 => 0 | 127 => 120 | 5 => 5 | n => n, fun | n => n⟩
theorem Tryd.laysM316 : Go.Proofs.LaysM.n316 Tryd.prog Tryd.laysM316_ren := {
  mixed := by kernel_rfl
  f316 := Tryd.func62.trans (congrArg some (by kernel_rfl))
  t0 := Tryd.underlying0
  a0 := Tryd.isAgg0
  z0 := Tryd.sizeOf0
  v0 := Tryd.zeroValue0
  t3 := Tryd.underlying3
  a3 := Tryd.isAgg3
  z3 := Tryd.sizeOf3
  v3 := Tryd.zeroValue3
  t4 := Tryd.underlying4
  a4 := Tryd.isAgg4
  z4 := Tryd.sizeOf4
  v4 := Tryd.zeroValue4
  t9 := Tryd.underlying9
  a9 := Tryd.isAgg9
  z9 := Tryd.sizeOf9
  v9 := Tryd.zeroValue9
  t37 := Tryd.underlying57
  a37 := Tryd.isAgg57
  z37 := Tryd.sizeOf57
  v37 := Tryd.zeroValue57
  t127 := Tryd.underlying120
  a127 := Tryd.isAgg120
  z127 := Tryd.sizeOf120
  v127 := Tryd.zeroValue120
  t5 := Tryd.underlying5
  a5 := Tryd.isAgg5
  z5 := Tryd.sizeOf5
  v5 := Tryd.zeroValue5
  i0 := by kernel_rfl
  i3 := by kernel_rfl
  i4 := by kernel_rfl
  i5 := by kernel_rfl
  i9 := by kernel_rfl
  i37 := by kernel_rfl
  i127 := by kernel_rfl }
end Go.Proofs

/- What is proved here: strings.SplitSeq at a blank hands the pieces of a text to each round, one behind another. -/
namespace Go.Proofs.YtpkfgffgldjceaaDoor
open Go.RowKit Go.Shelf
set_option linter.unusedVariables false
set_option maxRecDepth 100000
attribute [local go_sem] Oper.semAt_some

/-- How much of the text is left, read off the iterator's cell. -/
def leftOf (Bs : Nat) (w : World) : Nat := match w.cell? ⟨Bs, 0, none⟩ with | some (.string s) => s.size | _ => 0

/-- What the iterator keeps in its three blocks. -/
structure ItC (Bs : Nat) (w : World) (cur : ByteArray) : Prop where
  c0 : w.cell? ⟨Bs, 0, none⟩ = some (.string cur)
  f0 : w.frozen? ⟨Bs, 0, none⟩ = false
  c1 : w.cell? ⟨Bs + 1, 0, none⟩ = some (.string ⟨#[32]⟩)
  c2 : w.cell? ⟨Bs + 2, 0, none⟩ = some (.int .i64 0)

theorem ItC.kept {Bs : Nat} {w w' : World} {cur : ByteArray} (h : ItC Bs w cur) (k : Kept3 Bs w w') : ItC Bs w' cur :=
  ⟨(World.cell?_of_block (w := w) (k Bs (by omega) (by omega))).trans h.c0, (World.frozen?_of_block (w := w) (k Bs (by omega) (by omega))).trans h.f0, (World.cell?_of_block (w := w) (k (Bs + 1) (by omega) (by omega))).trans h.c1, (World.cell?_of_block (w := w) (k (Bs + 2) (by omega) (by omega))).trans h.c2⟩

theorem ItC.store {Bs : Nat} {w : World} {cur : ByteArray} (h : ItC Bs w cur) (s : ByteArray) : ItC Bs (w.setCell ⟨Bs, 0, none⟩ (.string s)) s :=
  ⟨World.cell?_setCell_same' _ _ _ (by rw [h.c0]; rfl), by rw [World.frozen?_setCell]; exact h.f0, (World.cell?_of_block (w := w) (heap_other_set w Bs _ (Bs + 1) (by omega))).trans h.c1, (World.cell?_of_block (w := w) (heap_other_set w Bs _ (Bs + 2) (by omega))).trans h.c2⟩

set_option maxRecDepth 100000 in
set_option maxHeartbeats 4000000 in
theorem split1_in (n : Nat) (hn : 3 ≤ n) (Bs : Nat) (s : ByteArray) (w : World) (hB : Bs + 3 ≤ w.heap.size) (h0 : ItC Bs w s) (hs : s.size ≤ 1048576) :
    Tells Fence.wide n Tryd.prog 79 #[.pointer (some ⟨Bs + 1, 0, none⟩), .pointer (some ⟨Bs, 0, none⟩), .pointer (some ⟨Bs + 2, 0, none⟩)] Bs (pcs s) w := by
  intro l J W hW hC hY hJ
  have i0 := h0.kept (fun g h1 h2 => hW.block g (by omega))
  obtain ⟨c0, f0, c1, c2⟩ := i0
  have HC := hide hC
  have HY := hide hY
  clear h0 hW hC hB hY
  refine callsIn_of_wp Tryd.func79 rfl trivial ?_ rfl
  simp only [Tryd.ntmps79, List.size_toArray, List.length_cons, List.length_nil, Nat.reduceAdd, Nat.reduceSub, Array.replicate_succ, Array.replicate_zero, List.push_toArray, List.append_toArray, List.nil_append, List.cons_append]
  gi_wp2
  gi_loopw [7] (fun p wr => ∃ (pre : List ByteArray) (cur : ByteArray), pcs s = pre ++ pcs cur ∧ cur.size ≤ 1048576 ∧ ItC Bs wr cur ∧ J pre wr) (fun p wr => leftOf Bs wr)
  case atStart => exact ⟨[], s, rfl, hs, ⟨c0, f0, c1, c2⟩, hJ⟩
  case round =>
    obtain ⟨pre, cur, hx, hcs, hi, hJs⟩ := hrel
    clear c0 f0 c1 c2 hJ
    obtain ⟨c0, f0, c1, c2⟩ := hi
    have HIX := hide (fun W => Any.strings_Index_one Tryd.lays143 cur 32 W)
    have HX := hide hx
    have HJ := hide hJs
    have hml : leftOf Bs wr = cur.size := by unfold leftOf; rw [c0]
    have HML := hide hml
    clear hx hJs hml
    rcases pcs_cases cur with ⟨q1, q2⟩ | ⟨k, q1, q2, q3⟩
    · rw [q1] at HIX
      have hpf : (pre ++ [cur]) <+: pcs s := ⟨[], by rw [unhide HX, q2]; simp⟩
      obtain ⟨fn, tmps, assign, body, hy, hR⟩ := (unhide HY) pre cur wr (unhide HJ) hpf
      have HR := hide hR
      have HQ := hide q2
      clear hR q2 q1 hpf
      gi_wp2
      · refine ⟨trivial, fun h => ?_, (callsIn_wide.2 ((unhide HIX) wr)).mono ?_⟩
        · omega
        rintro e0 A0 ⟨rfl, rfl⟩
        gi_wp2
        refine ⟨fun h => by omega, (unhide HR).mono ?_⟩
        rintro e1 A1 ⟨rfl, hJ1, hk1⟩
        have HJ1 := hide hJ1
        clear hJ1 hk1
        gi_wp2
        go_end0
        refine ⟨⟨_, rfl⟩, ?_⟩
        have h1 := unhide HX
        rw [unhide HQ] at h1
        rw [h1]
        exact unhide HJ1
    · rw [q1] at HIX
      have hpf : (pre ++ [cur.extract 0 k]) <+: pcs s := ⟨pcs (cur.extract (k + 1) cur.size), by rw [unhide HX, q3]; simp⟩
      obtain ⟨fn, tmps, assign, body, hy, hR⟩ := (unhide HY) pre (cur.extract 0 k) wr (unhide HJ) hpf
      have HR := hide hR
      have HQ := hide q3
      have hk0 : decide ((k : Int) < 0) = false := decide_eq_false (by omega)
      have hk1 : (0 : Int) ≤ (k : Int) := by omega
      have hk2 : (k : Int) ≤ (cur.size : Int) := by omega
      have hk3 : (0 : Int) ≤ (k : Int) + 1 := by omega
      have hk4 : (k : Int) + 1 ≤ (cur.size : Int) := by omega
      have hk5 : ((k : Int) + 1).toNat = k + 1 := by omega
      have hk6 : ((k : Int)).toNat = k := by omega
      clear hR q1 q3 hpf
      gi_wp2
      · refine ⟨trivial, fun h => ?_, (callsIn_wide.2 ((unhide HIX) wr)).mono ?_⟩
        · omega
        rintro e0 A0 ⟨rfl, rfl⟩
        gi_wp2
        refine ⟨fun h => by omega, (unhide HR).mono ?_⟩
        rintro e1 A1 ⟨rfl, hJ1, hk1⟩
        have i1 := (ItC.kept ⟨c0, f0, c1, c2⟩ hk1)
        obtain ⟨c0', f0', c1', c2'⟩ := i1
        have HJ1 := hide hJ1
        clear hJ1 hk1 c0 f0 c1 c2
        gi_wp2
        have hsz : (cur.extract (k + 1) cur.size).size = cur.size - (k + 1) := by rw [ByteArray.size_extract, Nat.min_self]
        have hst := ItC.store ⟨c0', f0', c1', c2'⟩ (cur.extract (k + 1) cur.size)
        go_roundw
        case rel =>
          refine ⟨pre ++ [cur.extract 0 k], cur.extract (k + 1) cur.size, ?_, ?_, hst, (unhide HC) _ _ _ (unhide HJ1)⟩
          · have h1 := unhide HX
            rw [unhide HQ] at h1
            rw [h1]
            simp
          · rw [hsz]
            omega
        case measure =>
          have h1 := unhide HML
          have h2 : leftOf Bs (A1.setCell ⟨Bs, 0, none⟩ (.string (cur.extract (k + 1) cur.size))) = (cur.extract (k + 1) cur.size).size := by
            unfold leftOf
            rw [hst.c0]
          rw [h1, h2, hsz]
          omega

end Go.Proofs.YtpkfgffgldjceaaDoor

/- What is proved here: strings.SplitSeq in the program makes three cells and its iterator; a region that draws, inside a round of a range over a function. -/
namespace Go.Proofs.YtpkfgffgldjceaaDoor
open Go.RowKit Go.Shelf
set_option linter.unusedVariables false
set_option maxRecDepth 100000
attribute [local go_sem] Oper.semAt_some

/-- The world with an iterator's three cells. -/
def w3S (w : World) (s sep : ByteArray) : World := ((w.alloc (.cells #[.string s] 9)).alloc (.cells #[.string sep] 9)).alloc (.cells #[.int .i64 0] 3)
def itS (B : Nat) : Value := .func (.func 79) #[] #[.pointer (some ⟨B + 1, 0, none⟩), .pointer (some ⟨B, 0, none⟩), .pointer (some ⟨B + 2, 0, none⟩)]

set_option maxHeartbeats 1000000 in
theorem splitSeq_in (F : Fence) (n : Nat) (hfn : F.fn 61) (hro : F.round = none) (s sep : ByteArray) (w : World) :
    CallsIn F n Tryd.prog 61 #[.string s, .string sep, .int .i64 0] w fun e w' => e = .returned (itS w.heap.size) ∧ w' = w3S w s sep := by
  refine callsIn_of_wp Tryd.func61 rfl hfn ?_ hro
  simp only [Tryd.ntmps61, List.size_toArray, List.length_cons, List.length_nil, Nat.reduceAdd, Nat.reduceSub, Array.replicate_succ, Array.replicate_zero, List.push_toArray, List.append_toArray, List.nil_append, List.cons_append]
  gi_wp2
  go_ret
  exact ⟨rfl, rfl⟩

set_option maxHeartbeats 1000000 in
theorem SplitSeq_in (s sep : ByteArray) (w : World) :
    CallsIn Fence.wide 3 Tryd.prog 33 #[.string s, .string sep] w fun e w' => e = .returned (itS w.heap.size) ∧ w' = w3S w s sep := by
  have D := hide (splitSeq_in Fence.wide 2 trivial rfl s sep w)
  refine callsIn_of_wp Tryd.func33 rfl trivial ?_ rfl
  simp only [Tryd.ntmps33, List.size_toArray, List.length_cons, List.length_nil, Nat.reduceAdd, Nat.reduceSub, Array.replicate_succ, Array.replicate_zero, List.push_toArray, List.append_toArray, List.nil_append, List.cons_append]
  gi_wp2
  refine ⟨trivial, (unhide D).mono ?_⟩
  rintro e w' ⟨rfl, rfl⟩
  gi_wp2
  go_ret
  exact ⟨rfl, rfl⟩

theorem newc1 (W : World) (v : Value) (t : TypeId) : (W.alloc (.cells #[v] t)).cell? ⟨W.heap.size, 0, none⟩ = some v ∧ (W.alloc (.cells #[v] t)).frozen? ⟨W.heap.size, 0, none⟩ = false := by
  constructor <;> simp

theorem oldc1 {W : World} {a : Addr} {v : Value} (o : Obj) (h : W.cell? a = some v) : (W.alloc o).cell? a = some v := cell_kept h (World.grownBy_alloc W o none) (fun r e => by cases e)
theorem oldf1 {W : World} {a : Addr} {v : Value} (o : Obj) (h : W.cell? a = some v) (hf : W.frozen? a = false) : (W.alloc o).frozen? a = false := (frozen_kept h (World.grownBy_alloc W o none) (fun r e => by cases e)).trans hf

theorem itC_new (w : World) (s : ByteArray) : ItC w.heap.size (w3S w s ⟨#[32]⟩) s := by
  have c0 := newc1 w (.string s) 9
  have c1 := newc1 (w.alloc (.cells #[.string s] 9)) (.string ⟨#[32]⟩) 9
  have c2 := newc1 ((w.alloc (.cells #[.string s] 9)).alloc (.cells #[.string ⟨#[32]⟩] 9)) (.int .i64 0) 3
  simp only [World.size_alloc] at c1 c2
  exact ⟨oldc1 _ (oldc1 _ c0.1), oldf1 _ (oldc1 _ c0.1) (oldf1 _ c0.1 c0.2), oldc1 _ c1.1, c2.1⟩

theorem stepsRows {P : Program} {n : Nat} {row : String} {args : Array Value} {w : World} {R : Value → World → Prop} (h : Rows P row args w R) : RowsIn Fence.wide n P row args w R :=
  fun c cs _ => let ⟨v, w', r, s⟩ := h c cs; ⟨v, w', r, stepsIn_wide.2 s⟩

/-- An operation of a round, by the walk that knows of no round. -/
theorem oper_round {P : Program} {o : Oper} {a : Act} {w : World} {l n : Nat} {K : Act → World → Prop} {Q Q' : Exit → Act → World → Prop} (hd : ∀ c, o.op ≠ .defer c)
    (hQ : ∀ e a w, Q e a w → Q' e a w) (hl : ¬ LetsOut Q) (h : o.wp P a w K Q) : o.wpIn (Fence.wide.inRound l) n P a w K Q' := by
  refine ⟨fun _ _ => trivial, ?_⟩
  unfold Oper.wp at h
  rw [show (Fence.wide.inRound l).round = some l from rfl, Oper.semAt_some l _ _ hd]
  generalize (execOp a.eval o).run P w = r at h ⊢
  cases r with
  | ok x w' =>
    cases x
    case enter f args =>
      show ((Fence.wide.inRound l).depth.isSome = true → 1 ≤ n) ∧ CallsIn (Fence.wide.inRound l) (n - 1) P f args w' _
      refine ⟨fun hh => (by cases hh), CallsIn.inRound l (CallsIn.mono (callsIn_wide.2 h) ?_)⟩
      intro e w'' he
      cases e with
      | returned v => exact he
      | panicked c => exact hQ _ _ _ he
      | outgrown => exact absurd he hl
    case row row args =>
      show ((Fence.wide.inRound l).depth.isSome = true → 1 ≤ n) ∧ RowsIn (Fence.wide.inRound l) (n - 1) P row args w' _
      exact ⟨fun hh => (by cases hh), stepsRows h⟩
    all_goals first | exact h | exact absurd h id
  | halt x w' => cases x <;> first | exact h | exact hQ _ _ _ h | exact absurd h id

theorem wpOp_round {P : Program} {ops : Array Oper} {l n i : Nat} {a : Act} {w : World} {K K' : Act → World → Prop} {Q Q' : Exit → Act → World → Prop} (hd : ∀ (o : Oper), ops[i]? = some o → ∀ c, o.op ≠ .defer c)
    (hQ : ∀ e a w, Q e a w → Q' e a w) (hl : ¬ LetsOut Q) (hK : ∀ a w, K a w → K' a w) (h : wpOp P ops Q i K a w) : wpOpIn (Fence.wide.inRound l) n P ops Q' i K' a w := by
  unfold wpOpIn
  unfold wpOp at h
  split
  · rename_i ho
    rw [ho] at h
    exact hK _ _ h
  · rename_i o ho
    rw [ho] at h
    simp only at h
    split
    · rename_i hw
      rw [if_pos hw] at h
      rcases h with h | h
      · exact Oper.wpIn_mono hK (oper_round (hd o ho) hQ hl h)
      · exact absurd h.2 hl
    · rename_i hw
      rw [if_neg hw] at h
      exact ⟨fun _ _ => trivial, hK _ _ h⟩

theorem any_round {P : Program} {ops : Array Oper} {l n : Nat} {md : Region.Mode} {Q Q' : Exit → Act → World → Prop} (hd : ∀ (i : Nat) (o : Oper), ops[i]? = some o → ∀ c, o.op ≠ .defer c)
    (hQ : ∀ e a w, Q e a w → Q' e a w) (hl : ¬ LetsOut Q) : ∀ (fuel : Nat) (listed : Array Bool) (a : Act) (w : World), wpAny P md ops Q fuel listed a w → wpAnyIn (Fence.wide.inRound l) n P md ops Q' fuel listed a w
  | 0, _, _, _, h => ⟨h.1, hQ _ _ _ h.2⟩
  | fuel + 1, listed, a, w, h => ⟨fun e => hQ _ _ _ (h.1 e), fun i hi => wpOp_round (hd i) hQ hl (fun a w hh => any_round hd hQ hl fuel _ a w hh) (h.2 i hi)⟩

/-- The beginning of a region that draws, in a round. -/
theorem region_round {P : Program} {ops : Array Oper} {l n id : Nat} {S : World → Prop} {Q : Exit → Act → World → Prop} {a : Act} {w : World} (hm : P.follows .mixedOrders = true) (hd : ∀ (i : Nat) (o : Oper), ops[i]? = some o → ∀ c, o.op ≠ .defer c)
    (hS : S w.drew) (h : S w.drew → wpAnyH P .any ops (fun e a w => e = .normal ∧ Q .normal a w) S ops.size (Array.replicate ops.size false) a w.drew) : (Code.region id ops true).wpIn (Fence.wide.inRound l) n P Q a w :=
  wpIn_region_any hm (any_round (Q := fun e a w => e = .normal ∧ Q .normal a w) hd (fun e a w h => h.1 ▸ h.2) (fun h => by obtain ⟨_, _, h, _⟩ := h; cases h) _ _ _ _ (wpAny_of_held _ _ _ _ (h hS)))

end Go.Proofs.YtpkfgffgldjceaaDoor

/- What is proved here: what the program's WordsOf answers: the pieces that are not empty. -/
namespace Go.Proofs.YtpkfgffgldjceaaDoor
open Go.RowKit Go.Shelf
set_option linter.unusedVariables false
set_option linter.unusedSimpArgs false
set_option maxRecDepth 100000
attribute [local go_sem] Oper.semAt_some

/-- The pieces that are words. -/
def wds (L : List ByteArray) : List ByteArray := L.filter (fun p => decide (p.size ≠ 0))

theorem clone_any (s : ByteArray) (w : World) (hs : s.size ≤ 281474976710656) : Calls Tryd.prog 34 #[.string s] w fun e w' => e = .returned (.string s) ∧ Below w.heap.size w w' := by
  have D := hide (Any.stringslite_Clone Tryd.laysM316 s w hs)
  clear hs
  go_enter Tryd.func34, Tryd.ntmps34
  go_wp2_with fail
  refine (unhide D).mono ?_
  rintro r w1 ⟨rfl, b1⟩
  go_wp2_with fail
  go_ret
  exact ⟨rfl, b1⟩

/-- What holds while the words are put together. -/
structure WoC (g : Nat) (w0 : World) (L : List ByteArray) (W : World) : Prop where
  r : SBlk W g [.int .i64 0, .slice none 0 0] 41
  u : ∃ u : Sl, SBlk W (g + 1) [.slice u.a u.n u.c] 39 ∧ WRow (g + 5) W u (wds L)
  b : Below g w0 W
  z : g + 5 ≤ W.heap.size

theorem own_row {w w' : World} {B : Nat} {e : TypeId} {size n : Nat} {v : Value} {xs : List Value} (h : w.ownsRow B e size v n xs) (hk : ∀ k, B ≤ k → (∃ cur t f, w.heap[k]? = some (.cells cur t f)) → w'.heap[k]? = w.heap[k]?) : w'.ownsRow B e size v n xs := by
  refine ⟨h.1, ?_⟩
  rcases h.2 with h' | ⟨g, cap, cur, h1, h2, h3, h4⟩
  · exact .inl h'
  · exact .inr ⟨g, cap, cur, h1, h2, (hk g h2 ⟨_, _, _, h3⟩).trans h3, h4⟩

theorem WoC.bears (g : Nat) (w0 : World) : Bears (g + 5) (g + 2) (WoC g w0) where
  grow := fun s W W' row ⟨r, ⟨u, u1, u2⟩, b, z⟩ hg hr => by
    have hk : ∀ k, k < W.heap.size → (∃ cur t f, W.heap[k]? = some (.cells cur t f)) → W'.heap[k]? = W.heap[k]? := fun k hk ⟨cur, t, f, hc⟩ => hg.block k hk (fun e => by
      obtain ⟨_, o, ho, hq⟩ := hr k e.symm
      rw [hc] at ho
      cases ho
      cases hq)
    refine ⟨(hk g r.lt ⟨_, _, _, r⟩).trans r, ⟨u, (hk (g + 1) u1.lt ⟨_, _, _, u1⟩).trans u1, own_row u2.own (fun k _ ⟨cur, t, f, hc⟩ => hk k (lt_of_block hc) ⟨cur, t, f, hc⟩), u2.len⟩, b.grown hg (by omega) (fun k e => by have := (hr k e).1; omega), Nat.le_trans z hg.size⟩
  cell := fun s W v ⟨r, ⟨u, u1, u2⟩, b, z⟩ =>
    ⟨r.other (by omega), ⟨u, u1.other (by omega), own_row u2.own (fun k hk _ => heap_other_set W (g + 2) v k (by omega)), u2.len⟩, b.setCell (p := ⟨g + 2, 0, none⟩) (by show g ≤ g + 2; omega) v, by simpa [World.setCell] using z⟩

theorem no_defer {ops : Array Oper} (h : ops.toList.all (fun o => match o.op with | .defer _ => false | _ => true) = true) : ∀ (i : Nat) (o : Oper), ops[i]? = some o → ∀ c, o.op ≠ .defer c := fun i o ho c e => by
  have := List.all_eq_true.1 h o (by
    rw [← Array.getElem?_toList] at ho
    exact List.mem_of_getElem? ho)
  rw [e] at this
  cases this

theorem size0 {x : ByteArray} (h : x.size = 0) : x = ⟨#[]⟩ := by
  apply ByteArray.ext
  exact Array.eq_empty_of_size_eq_zero h

theorem wds_snoc (L : List ByteArray) (x : ByteArray) : wds (L ++ [x]) = if x.size = 0 then wds L else wds L ++ [x] := by
  unfold wds
  rw [List.filter_append]
  by_cases h : x.size = 0
  · rw [if_pos h, List.filter_cons_of_neg (by simp only [decide_eq_true_eq]; exact fun q => q h), List.filter_nil, List.append_nil]
  · rw [if_neg h, List.filter_cons_of_pos (by simp only [decide_eq_true_eq]; exact h), List.filter_nil]

theorem wds_len (L : List ByteArray) : (wds L).length ≤ L.length := List.length_filter_le _ _

set_option maxHeartbeats 4000000 in
theorem wordsOf_in (s : ByteArray) (w : World) (hs : s.size ≤ 1048576) :
    CallsIn Fence.wide 6 Tryd.prog 12 #[.string s] w fun e w' => ∃ u : Sl, e = .returned (.agg #[.int .i64 0, .slice u.a u.n u.c]) ∧ WRow w.heap.size w' u (wds (pcs s)) ∧ Below w.heap.size w w' := by
  have HQ := hide (fun W => callsIn_wide.1 (SplitSeq_in s ⟨#[32]⟩ W))
  refine callsIn_of_wp_marks Tryd.func12 rfl trivial ?_ rfl
  simp only [Tryd.ntmps12, List.size_toArray, List.length_cons, List.length_nil, Nat.reduceAdd, Nat.reduceSub, Array.replicate_succ, Array.replicate_zero, List.push_toArray, List.append_toArray, List.nil_append, List.cons_append]
  gi_wp2
  refine ⟨trivial, (callsIn_wide.2 ((unhide HQ) _)).mono ?_⟩
  rintro e w' ⟨rfl, rfl⟩
  gi_wp2
  obtain ⟨wa, ea⟩ : ∃ W, (w.alloc (.cells #[.int .i64 0, .slice none 0 0] 41)).alloc (.cells #[.slice none 0 0] 39) = W := ⟨_, rfl⟩
  obtain ⟨wb, eb⟩ : ∃ W, w3S wa s ⟨#[32]⟩ = W := ⟨_, rfl⟩
  have hza : wa.heap.size = w.heap.size + 2 := by rw [← ea]; simp
  have hzb : wb.heap.size = w.heap.size + 5 := by rw [← eb]; unfold w3S; simp; omega
  have hic : ItC (w.heap.size + 2) wb s := by rw [← eb, ← hza]; exact itC_new wa s
  have hwc : WoC w.heap.size w [] wb := by
    have b1 : Below w.heap.size w wb := by
      rw [← eb, ← ea]
      unfold w3S
      exact (((((Below.refl _ w).alloc (Nat.le_refl _) _).alloc (by simp) _).alloc (by simp; omega) _).alloc (by simp; omega) _).alloc (by simp; omega) _
    refine ⟨?_, ⟨⟨none, 0, 0⟩, ?_, ⟨⟨rfl, .inl ⟨rfl, rfl⟩⟩, rfl⟩⟩, b1, by omega⟩
    · rw [← eb, ← ea]
      unfold w3S
      exact ((((SBlk.new w _ _).next _).next _).next _).next _
    · rw [← eb, ← ea]
      unfold w3S
      have k := ((((SBlk.new (w.alloc (.cells #[.int .i64 0, .slice none 0 0] 41)) #[.slice none 0 0] 39).next (.cells #[.string s] 9)).next (.cells #[.string ⟨#[32]⟩] 9)).next (.cells #[.int .i64 0] 3))
      simpa using k
  rw [ea, show w.heap.size + 1 + 1 = w.heap.size + 2 from rfl, eb]
  obtain ⟨g, hg⟩ : ∃ g, g = w.heap.size := ⟨_, rfl⟩
  rw [← hg] at hic hwc hzb ⊢
  have HWC := hide hwc
  have HIC := hide hic
  have HSQ := hide (fun (n : Nat) (hn : 3 ≤ n) => split1_in n hn (g + 2) s wb (by omega) hic hs)
  have HG := hide hg
  clear ea eb hza hic hwc HQ hg
  refine range_cell (F := Fence.wide) rfl (by decide) (gf := 79) (lb := #[.pointer (some ⟨g + 2 + 1, 0, none⟩), .pointer (some ⟨g + 2, 0, none⟩), .pointer (some ⟨g + 2 + 2, 0, none⟩)]) rfl trivial (enters_of Tryd.func79 (by kernel_rfl) rfl)
    (Bs := g + 2) (by omega) ((unhide HSQ) 5 (by decide)) (WoC g w) (by rw [hzb]; exact WoC.bears g w) (unhide HWC)
    (fun x => { tmps := #[.string s, undef, .pointer (some ⟨g, 0, none⟩), .pointer (some ⟨g + 1, 0, none⟩), .string x, .string s, itS (g + 2), .string x, undef, undef, undef, undef, undef, undef, undef, undef, undef], defers := [] }) ?assign ?body ?done
  case assign =>
    intro l x W K hK
    gi_wp2
    simpa using hK
  case done =>
    rintro D W hD ⟨r, ⟨u, u1, u2⟩, b, z⟩ hK
    have hcl := u1.cell 0
    have q0 := r.cell 0
    have q1 := r.cell 1
    have p0 := r.free 0
    have p1 := r.free 1
    simp only [List.getElem?_cons_zero, List.getElem?_cons_succ] at hcl q0 q1
    gi_wp2
    have k2 : SBlk ((W.setCell ⟨g, 0, none⟩ (.int .i64 0)).setCell ⟨g, 1, none⟩ (.slice u.a u.n u.c)) g [.int .i64 0, .slice u.a u.n u.c] 41 := (r.set 0 _).set 1 _
    have hK2 : ((W.setCell ⟨g, 0, none⟩ (.int .i64 0)).setCell ⟨g, 1, none⟩ (.slice u.a u.n u.c)).heap[D]? = some (.deferred (some [])) := (heap_setCell_other _ ⟨g, 1, none⟩ D _ (by show ¬ D = g; omega)).trans ((heap_setCell_other _ ⟨g, 0, none⟩ D _ (by show ¬ D = g; omega)).trans hK)
    refine ⟨by simp, .inl ⟨_, _, rfl, run_takeDeferred hK2, ?_⟩⟩
    have hDg : g < D := by omega
    have k3 : SBlk (((W.setCell ⟨g, 0, none⟩ (.int .i64 0)).setCell ⟨g, 1, none⟩ (.slice u.a u.n u.c)).putObj D (.deferred none)) g [.int .i64 0, .slice u.a u.n u.c] 41 := (World.putObj_heap_other (by omega)).trans k2
    have r0 := k3.cell 0
    have r1 := k3.cell 1
    simp only [List.getElem?_cons_zero, List.getElem?_cons_succ] at r0 r1
    have b2 : Below g w (((W.setCell ⟨g, 0, none⟩ (.int .i64 0)).setCell ⟨g, 1, none⟩ (.slice u.a u.n u.c)).putObj D (.deferred none)) := ((b.setCell (p := ⟨g, 0, none⟩) (Nat.le_refl _) _).setCell (p := ⟨g, 1, none⟩) (Nat.le_refl _) _).trans ⟨rfl, rfl, rfl, by simp, fun k hk => World.putObj_heap_other (by omega)⟩
    have u3 : WRow g (((W.setCell ⟨g, 0, none⟩ (.int .i64 0)).setCell ⟨g, 1, none⟩ (.slice u.a u.n u.c)).putObj D (.deferred none)) u (wds (pcs s)) := by
      refine ⟨?_, u2.len⟩
      have := own_row (w' := ((W.setCell ⟨g, 0, none⟩ (.int .i64 0)).setCell ⟨g, 1, none⟩ (.slice u.a u.n u.c)).putObj D (.deferred none)) u2.own (fun k hk ⟨cur, t, f, hc⟩ => by
        have hkD : ¬ k = D := fun e => by
          subst e
          rw [hK] at hc
          cases hc
        refine (World.putObj_heap_other (by omega)).trans ((heap_setCell_other _ ⟨g, 1, none⟩ k _ (by show ¬ k = g; omega)).trans (heap_setCell_other _ ⟨g, 0, none⟩ k _ (by show ¬ k = g; omega)))
        )
      refine ⟨this.1, this.2.imp id ?_⟩
      rintro ⟨gq, cap, cur, h1, h2, h3⟩
      exact ⟨gq, cap, cur, h1, by omega, h3⟩
    refine ⟨.agg #[.int .i64 0, .slice u.a u.n u.c], by simp [results, Tryd.results12, go_sem, r0, r1], ?_⟩
    rw [← unhide HG]
    exact ⟨u, rfl, u3, b2⟩
  case body =>
    rintro l pre x W hI hpf
    obtain ⟨hr, ⟨u, u1, u2⟩, hb, hz⟩ := hI
    have hcl := u1.cell 0
    simp only [List.getElem?_cons_zero] at hcl
    have hxs : x.size ≤ s.size := pcs_size s x (by
      obtain ⟨t, e⟩ := hpf
      rw [← e]
      simp)
    have hul : u.n ≤ 1048577 := by
      have h1 := u2.len
      have h2 := wds_len pre
      have h3 := pcs_len s
      have h4 := hpf.length_le
      simp at h4
      omega
    by_cases hx : x = ⟨#[]⟩
    · subst hx
      gi_wp2
      exact ⟨KeepsOthers.refl _, fun _ _ _ => rfl, ⟨hr, ⟨u, u1, by rw [wds_snoc, if_pos (show (⟨#[]⟩ : ByteArray).size = 0 from rfl)]; exact u2⟩, hb, hz⟩⟩
    · obtain ⟨un, hun⟩ : ∃ n, n = u.n := ⟨_, rfl⟩
      have HU : Hid (∀ A, Below W.heap.size W A → A.cell? ⟨g + 1, 0, none⟩ = some (.slice u.a u.n u.c)) := fun A ha => (u1.below ha u1.lt).cell 0
      have HKG : Hid (∀ A W2 : World, Below W.heap.size W A → A.grownBy W2 (Value.slice u.a u.n u.c).ownBlock → ∀ k, k < W.heap.size → k < g + 5 → W2.heap[k]? = W.heap[k]?) := fun A W2 ha hg2 k hk hk5 => by
        refine (hg2.block k (by have := ha.size; omega) (fun e => ?_)).trans (ha.block k hk)
        have := (u2.own.lt k e.symm).1
        omega
      have HV : Hid (∀ A W2 : World, Below W.heap.size W A → A.grownBy W2 (Value.slice u.a u.n u.c).ownBlock → W2.cell? ⟨g + 1, 0, none⟩ = some (.slice u.a u.n u.c) ∧ W2.frozen? ⟨g + 1, 0, none⟩ = false) := fun A W2 ha hg2 =>
        have k : SBlk W2 (g + 1) [.slice u.a u.n u.c] 39 := ((unhide HKG) A W2 ha hg2 (g + 1) u1.lt (by omega)).trans u1
        ⟨k.cell 0, k.free 0⟩
      have HW := hide u2
      have HZ := hide hz
      have HCL := hide (fun (A : World) => clone_any x A (by omega))
      have HEND : Hid (∀ (A W2 : World) (g2 cap2 : Nat), Below W.heap.size W A → W2.ownsRow (g + 5) 9 1 (.slice (some ⟨g2, 0, none⟩) (u.n + 1) cap2) (u.n + 1) ((wds pre).map Value.string ++ [.string x]) → (A.alloc (.cells #[.string x] 9)).grownBy W2 (Value.slice u.a u.n u.c).ownBlock →
          KeepsOthers W (W2.setCell ⟨g + 1, 0, none⟩ (.slice (some ⟨g2, 0, none⟩) (u.n + 1) cap2)) ∧ Kept3 (g + 2) W (W2.setCell ⟨g + 1, 0, none⟩ (.slice (some ⟨g2, 0, none⟩) (u.n + 1) cap2)) ∧ WoC g w (pre ++ [x]) (W2.setCell ⟨g + 1, 0, none⟩ (.slice (some ⟨g2, 0, none⟩) (u.n + 1) cap2))) := by
        show ∀ (A W2 : World) (g2 cap2 : Nat), _
        intro A W2 g2 cap2 ha ho hg2
        have ha2 : Below W.heap.size W (A.alloc (.cells #[.string x] 9)) := ha.alloc ha.size _
        have hk := (unhide HKG) _ W2 ha2 hg2
        have kr : SBlk W2 g [.int .i64 0, .slice none 0 0] 41 := (hk g hr.lt (by omega)).trans hr
        have ku : SBlk W2 (g + 1) [.slice u.a u.n u.c] 39 := (hk (g + 1) u1.lt (by omega)).trans u1
        have hbA : Below g w W2 := (hb.trans (ha2.mono (by omega))).grown hg2 (by have := ha2.size; omega) (fun k e => by have := (u2.own.lt k e).1; omega)
        have h := own_row (w' := W2.setCell ⟨g + 1, 0, none⟩ (.slice (some ⟨g2, 0, none⟩) (u.n + 1) cap2)) ho (fun k hk _ => heap_other_set W2 (g + 1) _ k (by omega))
        refine ⟨?_, fun k h1 h2 => (heap_other_set W2 (g + 1) _ k (by omega)).trans (hk k (by omega) (by omega)), ⟨kr.other (by omega), ⟨⟨some ⟨g2, 0, none⟩, u.n + 1, cap2⟩, ku.set 0 _, ?_, ?_⟩, hbA.setCell (p := ⟨g + 1, 0, none⟩) (by show g ≤ g + 1; omega) _, ?_⟩⟩
        · have k1 : KeepsOthers W (A.alloc (.cells #[.string x] 9)) := ⟨ha2.size, fun k o hk2 _ => (ha2.block k (Array.getElem?_eq_some_iff.1 hk2).1).trans hk2⟩
          refine (k1.trans (KeepsOthers.of_grownBy hg2 (fun j o e ho2 => ?_))).trans (KeepsOthers.setCell _ _ _)
          rcases u2.own.2 with ⟨h1, h2⟩ | ⟨gq, cap, cur, h1, h2, h3, h4⟩
          · simp only [Value.slice.injEq] at h1
            rw [h1.1] at e
            cases e
          · simp only [Value.slice.injEq] at h1
            rw [h1.1] at e
            obtain rfl : gq = j := by simpa [Value.ownBlock] using e
            rw [ha2.block gq (lt_of_block h3), h3] at ho2
            cases ho2
            rfl
        · rw [wds_snoc, if_neg (fun q => hx (size0 q)), List.map_append]
          exact h
        · rw [wds_snoc, if_neg (fun q => hx (size0 q))]
          have := u2.len
          simp
          exact this
        · have := hg2.size
          have := ha2.size
          simp [World.setCell]
          omega
      obtain ⟨i0, hi, hz0, hz1, hz2⟩ := info_parts infoSt
      have hd : x.toList.isEmpty = false := by
        rw [ByteArray.toList_eq]
        cases he : x.data.toList with
        | nil => exact absurd (size0 (by rw [← ByteArray.size_data, ← Array.length_toList, he]; rfl)) hx
        | cons a l => rfl
      clear hr u1 hb hz hpf
      gi_wp2
      refine region_round (S := fun _ => True) (by kernel_rfl) (no_defer (by rfl)) (trivial) (fun hHeld => ?_)
      refine wpAnyH_take (i := 1) (oi := _) (v := ?_) rfl (by kernel_rfl) (by kernel_rfl) (by kernel_rfl) (fun _ _ _ h => h) (Or.inl ⟨by rfl, ?_⟩) (by assumption) ?_
      rotate_left
      · ((intro wq hSw; (try dsimp only at hSw); go_simp) <;> with_reducible rfl)
      try dsimp only
      refine wpAnyH_ready (rs := [0, 2]) (by kernel_rfl) (by simp) ?_
      refine AllReadyH.cons (o := _) rfl (fun K hK => ?_) ?_
      · skip
        go_simp
        refine hK.out _ _ (trivial) (fun hHeld => ?_)
        clear hK K
        try dsimp only
        refine wpAnyH_ready (rs := [2]) (by kernel_rfl) (by simp) ?_
        refine AllReadyH.cons (o := _) rfl (fun K hK => ?_) AllReadyH.nil
        go_simp
        go_at_call 34
        refine ((unhide HCL) _).mono ?_
        rintro r u1 ⟨rfl, b4⟩
        have J8 : Below W.heap.size W u1 := (Below.refl _ W).drew.trans b4
        have q1 := (unhide HU) _ J8
        clear b4
        (try dsimp only)
        refine hK.out _ _ (trivial) (fun hHeld => ?_)
        clear hK K
        try dsimp only
        refine wpAnyH_ready (rs := [3]) (by kernel_rfl) (by simp) ?_
        refine AllReadyH.cons (o := _) rfl (fun K hK => ?_) AllReadyH.nil
        have q2 := (unhide HU) _ (J8.alloc J8.size (.cells #[.string x] 9))
        go_simp
        refine hK.out _ _ (trivial) (fun hHeld => ?_)
        clear hK K
        try dsimp only
        refine wpAnyH_ready (rs := [4]) (by kernel_rfl) (by simp) ?_
        refine AllReadyH.cons (o := _) rfl (fun K hK => ?_) AllReadyH.nil
        refine step_append_lies _ (by rfl) (.tmp 10) (.tmp 13) 39 (by rfl) (g + 5) 9 i0 (.string ⟨#[]⟩) 1 16 Tryd.underlying39 hi hz0 hz1 hz2 rfl (by decide) _ _ _ (by rfl) (by exact (((unhide HW).below J8 (Nat.le_refl _)).below (below_alloc u1 _) (Nat.le_refl _)).own) ⟨u1.heap.size, 0, none⟩ 1 1 [.string x] (by rfl) rfl (by exact one_atS _ _ _) (by simp [Value.oneCell']) (by omega) (by unfold maxLen; omega) (by omega) (by have := J8.size; have := (unhide HZ); simp; omega) _ rfl ?_
        intro g2 cap2 W2 hown2 hgrow2 hat2 hlt2
        obtain ⟨q3, q4⟩ := (unhide HV) _ W2 (J8.alloc J8.size (.cells #[.string x] 9)) hgrow2
        refine hK.out _ _ (trivial) (fun hHeld => ?_)
        clear hK K
        try dsimp only
        refine wpAnyH_ready (rs := [5]) (by kernel_rfl) (by simp) ?_
        refine AllReadyH.cons (o := _) rfl (fun K hK => ?_) AllReadyH.nil
        go_simp
        refine hK.out _ _ (trivial) (fun hHeld => ?_)
        clear hK K
        try dsimp only
        refine wpAnyH_done (by kernel_rfl) ?_ _
        exact ⟨rfl, rfl, (unhide HEND) u1 W2 g2 cap2 J8 hown2 hgrow2⟩
      refine AllReadyH.cons (o := _) rfl (fun K hK => ?_) AllReadyH.nil
      go_simp
      go_at_call 34
      refine ((unhide HCL) _).mono ?_
      rintro r u1 ⟨rfl, b4⟩
      have J8 : Below W.heap.size W u1 := (Below.refl _ W).drew.trans b4
      have q1 := (unhide HU) _ J8
      clear b4
      (try dsimp only)
      refine hK.out _ _ (trivial) (fun hHeld => ?_)
      clear hK K
      try dsimp only
      refine wpAnyH_ready (rs := [0, 3]) (by kernel_rfl) (by simp) ?_
      refine AllReadyH.cons (o := _) rfl (fun K hK => ?_) ?_
      · skip
        go_simp
        refine hK.out _ _ (trivial) (fun hHeld => ?_)
        clear hK K
        try dsimp only
        refine wpAnyH_ready (rs := [3]) (by kernel_rfl) (by simp) ?_
        refine AllReadyH.cons (o := _) rfl (fun K hK => ?_) AllReadyH.nil
        have q2 := (unhide HU) _ (J8.alloc J8.size (.cells #[.string x] 9))
        go_simp
        refine hK.out _ _ (trivial) (fun hHeld => ?_)
        clear hK K
        try dsimp only
        refine wpAnyH_ready (rs := [4]) (by kernel_rfl) (by simp) ?_
        refine AllReadyH.cons (o := _) rfl (fun K hK => ?_) AllReadyH.nil
        refine step_append_lies _ (by rfl) (.tmp 10) (.tmp 13) 39 (by rfl) (g + 5) 9 i0 (.string ⟨#[]⟩) 1 16 Tryd.underlying39 hi hz0 hz1 hz2 rfl (by decide) _ _ _ (by rfl) (by exact (((unhide HW).below J8 (Nat.le_refl _)).below (below_alloc u1 _) (Nat.le_refl _)).own) ⟨u1.heap.size, 0, none⟩ 1 1 [.string x] (by rfl) rfl (by exact one_atS _ _ _) (by simp [Value.oneCell']) (by omega) (by unfold maxLen; omega) (by omega) (by have := J8.size; have := (unhide HZ); simp; omega) _ rfl ?_
        intro g2 cap2 W2 hown2 hgrow2 hat2 hlt2
        obtain ⟨q3, q4⟩ := (unhide HV) _ W2 (J8.alloc J8.size (.cells #[.string x] 9)) hgrow2
        refine hK.out _ _ (trivial) (fun hHeld => ?_)
        clear hK K
        try dsimp only
        refine wpAnyH_ready (rs := [5]) (by kernel_rfl) (by simp) ?_
        refine AllReadyH.cons (o := _) rfl (fun K hK => ?_) AllReadyH.nil
        go_simp
        refine hK.out _ _ (trivial) (fun hHeld => ?_)
        clear hK K
        try dsimp only
        refine wpAnyH_done (by kernel_rfl) ?_ _
        exact ⟨rfl, rfl, (unhide HEND) u1 W2 g2 cap2 J8 hown2 hgrow2⟩
      refine AllReadyH.cons (o := _) rfl (fun K hK => ?_) AllReadyH.nil
      have q2 := (unhide HU) _ (J8.alloc J8.size (.cells #[.string x] 9))
      go_simp
      refine hK.out _ _ (trivial) (fun hHeld => ?_)
      clear hK K
      try dsimp only
      refine wpAnyH_ready (rs := [0]) (by kernel_rfl) (by simp) ?_
      refine AllReadyH.cons (o := _) rfl (fun K hK => ?_) AllReadyH.nil
      go_simp
      refine hK.out _ _ (trivial) (fun hHeld => ?_)
      clear hK K
      try dsimp only
      refine wpAnyH_ready (rs := [4]) (by kernel_rfl) (by simp) ?_
      refine AllReadyH.cons (o := _) rfl (fun K hK => ?_) AllReadyH.nil
      refine step_append_lies _ (by rfl) (.tmp 10) (.tmp 13) 39 (by rfl) (g + 5) 9 i0 (.string ⟨#[]⟩) 1 16 Tryd.underlying39 hi hz0 hz1 hz2 rfl (by decide) _ _ _ (by rfl) (by exact (((unhide HW).below J8 (Nat.le_refl _)).below (below_alloc u1 _) (Nat.le_refl _)).own) ⟨u1.heap.size, 0, none⟩ 1 1 [.string x] (by rfl) rfl (by exact one_atS _ _ _) (by simp [Value.oneCell']) (by omega) (by unfold maxLen; omega) (by omega) (by have := J8.size; have := (unhide HZ); simp; omega) _ rfl ?_
      intro g2 cap2 W2 hown2 hgrow2 hat2 hlt2
      obtain ⟨q3, q4⟩ := (unhide HV) _ W2 (J8.alloc J8.size (.cells #[.string x] 9)) hgrow2
      refine hK.out _ _ (trivial) (fun hHeld => ?_)
      clear hK K
      try dsimp only
      refine wpAnyH_ready (rs := [5]) (by kernel_rfl) (by simp) ?_
      refine AllReadyH.cons (o := _) rfl (fun K hK => ?_) AllReadyH.nil
      go_simp
      refine hK.out _ _ (trivial) (fun hHeld => ?_)
      clear hK K
      try dsimp only
      refine wpAnyH_done (by kernel_rfl) ?_ _
      exact ⟨rfl, rfl, (unhide HEND) u1 W2 g2 cap2 J8 hown2 hgrow2⟩

theorem implWordsOf_any (s : ByteArray) (w : World) (hs : s.size ≤ 1048576) :
    Calls Tryd.prog 12 #[.string s] w fun e w' => ∃ u : Sl, e = .returned (.agg #[.int .i64 0, .slice u.a u.n u.c]) ∧ WRow w.heap.size w' u (wds (pcs s)) ∧ Below w.heap.size w w' :=
  callsIn_wide.1 (wordsOf_in s w hs)

end Go.Proofs.YtpkfgffgldjceaaDoor
