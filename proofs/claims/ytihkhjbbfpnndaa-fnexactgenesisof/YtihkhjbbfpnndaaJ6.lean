/- What is proved here: plain facts on what a call made, path by path, and the contracts of the laws' helper functions that copy bytes and lists of them, told by kinds. -/
import Derived.Test.YtihkhjbbfpnndaaJ5
import Derived.Test.YtihkhjbbfpnndaaJ3
import Derived.Test.YtihkhjbbfpnndaaChecked
import Derived.Test.YtihkhjbbfpnndaaJ1
import Derived.WalkKit
import Derived.WalkLawsBesides
import Derived.WalkSmall
import Derived.KernelRfl
import Derived.WalkSpells
import Derived.Test.YtihkhjbbfpnndaaJ4
import Derived.Deep.RegionWith
import Derived.BigQuiet
import Derived.Deep.QuietTactic
namespace Go.Proofs.Ytihkhjbbfpnndaa
open Go.RowKit
set_option linter.unusedVariables false
set_option maxRecDepth 100000

/-- What was made, with whatever colours stand elsewhere. -/
def Kd.Made {α β : Type} (K : Kd α β) (w : World) (n B : Nat) (d : Nat → Path) (p : Path) (e : β) (x : α) : Prop := ∀ d' : Nat → Path, (∀ g, B ≤ g → g < n → d' g = d g) → K.Own w B d' p e x

theorem Kd.made {α β : Type} (K : Kd α β) {w : World} {B : Nat} {d : Nat → Path} {p : Path} {e : β} {x : α} (h : K.Own w B d p e x) : K.Made w w.heap.size B d p e x := fun d' hd => K.recol h (fun g h1 h2 _ => hd g h2 h1)

theorem Kd.Made.below {α β : Type} {K : Kd α β} {w w' : World} {n B C : Nat} {d : Nat → Path} {p : Path} {e : β} {x : α} (h : K.Made w n B d p e x) (hb : Below C w w') (hC : w.heap.size ≤ C) : K.Made w' n B d p e x := fun d' hd => K.ownBelow (h d' hd) hb hC

theorem Kd.ownSet {α β : Type} (K : Kd α β) {w : World} {B : Nat} {d : Nat → Path} {p : Path} {e : β} {x : α} (h : K.Own w B d p e x) {q : Addr} (hq : q.block < B) (v : Value) : K.Own (w.setCell q v) B d p e x :=
  K.frame h (fun g _ hg _ => heap_setCell_other w q g v (fun e => by omega))

theorem Kd.Made.set {α β : Type} {K : Kd α β} {w : World} {n B : Nat} {d : Nat → Path} {p : Path} {e : β} {x : α} (h : K.Made w n B d p e x) {q : Addr} (hq : q.block < B) (v : Value) : K.Made (w.setCell q v) n B d p e x := fun d' hd => K.ownSet (h d' hd) hq v

theorem Kd.Made.get {α β : Type} {K : Kd α β} {w : World} {n B : Nat} {d : Nat → Path} {p : Path} {e : β} {x : α} (h : K.Made w n B d p e x) : K.Own w B d p e x := h d (fun _ _ _ => rfl)

theorem toB_kd (p : Path) (s : Sl) (z : List Int) (w : World) (o : BOk w s z) (hl : z.length ≤ 1048576) :
    Calls Try.prog 7 #[.slice s.a s.n s.c] w fun e w' => ∃ (t : Sl) (d : Nat → Path), e = .returned (.slice t.a t.n t.c) ∧ bytesK.Own w' w.heap.size d p t z ∧ Below w.heap.size w w' := by
  refine (toByteS_any s.a s.n s.c z w o.row (by have := o.row.1; omega)).mono ?_
  rintro e w' ⟨rfl, h1, h2⟩
  exact ⟨⟨some ⟨w.heap.size, 0, none⟩, s.n, s.n⟩, fun _ => p, rfl, ⟨o.row.2.1, h1, fun x hx => rfl⟩, h2⟩

theorem strict_inj {f : Nat → Nat} {k : Nat} (h : ∀ i j, i < j → j < k → f i < f j) {i j : Nat} (hi : i < k) (hj : j < k) (e : f i = f j) : i = j := by
  rcases Nat.lt_trichotomy i j with h' | h' | h'
  · have := h i j h' hj; omega
  · exact h'
  · have := h j i h' hi; omega

open Classical in
theorem row_of_obss {w : World} {g B : Nat} {zss : List (List Int)} {C : Nat} (h : OBss w g zss 23 C) (hB : B ≤ g) (hr : ∀ z ∈ zss, ∀ x ∈ z, 0 ≤ x ∧ x ≤ 255) (hl : zss.length ≤ 1048576) (p : Path) : ∃ d : Nat → Path, RowOwn bytesK 23 w B d p ⟨some ⟨g, 0, none⟩, zss.length, zss.length⟩ zss := by
  obtain ⟨vs, f, h1, h2, h3, h4, h5⟩ := h
  obtain ⟨d, hd⟩ : ∃ d : Nat → Path, d = fun q => if hq : ∃ i, i < zss.length ∧ f i = q then p ++ [hq.choose] else p := ⟨_, rfl⟩
  have dg : d g = p := by
    rw [hd]
    refine dif_neg ?_
    rintro ⟨i, hi, e⟩
    have := (h3 i hi).1
    omega
  have df : ∀ i, i < zss.length → d (f i) = p ++ [i] := by
    intro i hi
    have hq : ∃ j, j < zss.length ∧ f j = f i := ⟨i, hi, rfl⟩
    rw [hd]
    show (if hq : ∃ j, j < zss.length ∧ f j = f i then p ++ [hq.choose] else p) = _
    rw [dif_pos hq, strict_inj h4 hq.choose_spec.1 hi hq.choose_spec.2]
  obtain ⟨es, he1, he2⟩ : ∃ es : List Sl, es.length = zss.length ∧ ∀ (i : Nat) (e : Sl), es[i]? = some e → ∃ z, zss[i]? = some z ∧ e = ⟨some ⟨f i, 0, none⟩, z.length, z.length⟩ := by
    refine ⟨zss.zipIdx.map (fun q => ⟨some ⟨f q.2, 0, none⟩, q.1.length, q.1.length⟩), by simp, fun i e he => ?_⟩
    rw [List.getElem?_map, List.getElem?_zipIdx] at he
    cases hz : zss[i]? with
    | none => rw [hz] at he; simp at he
    | some z =>
      rw [hz] at he
      simp at he
      exact ⟨z, rfl, he.symm⟩
  refine ⟨d, rfl, es, vs, he1, ⟨h2.trans (Nat.mul_one _).symm, by show zss.length ≤ maxLen; unfold maxLen; omega, Nat.le_refl _, (fun e => by cases e), fun x hx => ?_⟩, fun x hx => by cases hx; exact dg, fun i e z he hz => ?_⟩
  · cases hx
    refine ⟨g, 0, vs.toArray, rfl, hB, h1, by simp [h2, bytesK], ?_⟩
    show (vs.drop 0).take (zss.length * 1) = vs
    rw [List.drop_zero, Nat.mul_one, ← h2, List.take_length]
  · have hi := (List.getElem?_eq_some_iff.1 hz).1
    obtain ⟨z', hz', rfl⟩ := he2 i e he
    obtain rfl : z = z' := Option.some.inj (hz.symm.trans hz')
    obtain ⟨q1, q2⟩ := h5 i z hi hz
    refine ⟨fun j v hv => ?_, hr z (List.mem_of_getElem? hz), ownsRow_base q2 (by omega), fun x hx => by cases hx; exact df i hi⟩
    match j, hv with
    | 0, hv =>
      simp only [bytesK, List.getElem?_cons_zero, Option.some.injEq] at hv
      subst hv
      have e1 : bytesK.m = 1 := rfl
      rw [e1, Nat.mul_one, Nat.add_zero]
      exact q1

theorem toBs_kd (p : Path) (s : Sl) (zss : List (List Int)) (w : World) (o : RowOk bytesK w s zss) (hl : zss.length ≤ 1048576) (hz : ∀ z ∈ zss, z.length ≤ 1048576) :
    Calls Try.prog 6 #[.slice s.a s.n s.c] w fun e w' => ∃ (t : Sl) (d : Nat → Path), e = .returned (.slice t.a t.n t.c) ∧ (rowK bytesK 23).Own w' w.heap.size d p t zss ∧ Below w.heap.size w w' := by
  have hb := bs_of_row o
  refine (toByteSS_any s.a s.n s.c zss w hb (by have := o.len; omega) hz).mono ?_
  rintro e w' ⟨rfl, h1, h2⟩
  obtain ⟨d, hd⟩ := row_of_obss h1 (Nat.le_refl _) hb.bytes hl p
  have e1 : s.n = zss.length := o.len
  refine ⟨⟨some ⟨w.heap.size, 0, none⟩, zss.length, zss.length⟩, d, by rw [e1], hd, h2⟩

end Go.Proofs.Ytihkhjbbfpnndaa

/- What is proved here: the contracts of the laws' helper functions that copy recents and votes (toRecentS, toVoteS). -/
namespace Go.Proofs.Ytihkhjbbfpnndaa
open Go.RowKit
set_option linter.unusedVariables false
set_option maxRecDepth 100000

end Go.Proofs.Ytihkhjbbfpnndaa

/- What is proved here: the contract of the laws' helper function that copies a snapshot (toSnap). -/
namespace Go.Proofs.Ytihkhjbbfpnndaa
open Go.RowKit
set_option linter.unusedVariables false
set_option maxRecDepth 100000

end Go.Proofs.Ytihkhjbbfpnndaa

/- What is proved here: the contracts of the laws' helper functions that count and compare snapshots (szSnap, eqSnap). -/
namespace Go.Proofs.Ytihkhjbbfpnndaa
open Go.RowKit
set_option linter.unusedVariables false
set_option maxRecDepth 100000

theorem sameBs_dec : ∀ (a b : List (List Int)), sameBs a b = decide (a = b)
  | [], [] => rfl
  | [], _ :: _ => by simp [sameBs]
  | _ :: _, [] => by simp [sameBs]
  | a :: r, b :: t => by
    rw [sameBs, sameBs_dec r t]
    by_cases h : a = b
    · subst h; simp [sameB]
    · simp [sameB, h]

/-- Whether two snapshots are the same. -/
def snSame (x y : Sn) : Bool := decide (x.1 = y.1) && (decide (x.2.1 = y.2.1) && (decide (x.2.2.1 = y.2.2.1) && decide (x.2.2.2 = y.2.2.2)))

theorem snSame_self (x : Sn) : snSame x x = true := by simp [snSame]

theorem snSame_iff (x y : Sn) : snSame x y = true ↔ x = y := by
  obtain ⟨x0, x1, x2, x3⟩ := x
  obtain ⟨y0, y1, y2, y3⟩ := y
  simp [snSame]

structure SnSm (x : Sn) : Prop where
  s : x.2.1.length ≤ 1048576
  sz : ∀ z ∈ x.2.1, z.length ≤ 1048576
  r : x.2.2.1.length ≤ 1048576
  rz : ∀ y ∈ x.2.2.1, rcSz y ≤ 1048576
  v : x.2.2.2.length ≤ 1048576
  vz : ∀ y ∈ x.2.2.2, vtSz y ≤ 1048576

theorem snSm_of {x : Sn} (h : snSz x ≤ 1048576) : SnSm x := by
  unfold snSz at h
  exact ⟨by omega, fun z hz => by have := lsum_mem List.length _ z hz; omega, by omega, fun z hz => by have := lsum_mem rcSz _ z hz; omega, by omega, fun z hz => by have := lsum_mem vtSz _ z hz; omega⟩

end Go.Proofs.Ytihkhjbbfpnndaa

/- What is proved here: two lists of bytes are the same as strings just where they are the same. -/
namespace Go.Proofs.Ytihkhjbbfpnndaa
open Go.RowKit
set_option linter.unusedVariables false
set_option maxRecDepth 100000

theorem byteList_loop (bs : ByteArray) (i : Nat) (r : List UInt8) : ByteArray.toList.loop bs i r = r.reverse ++ bs.data.toList.drop i := by
  have hsz : bs.size = bs.data.toList.length := by cases bs; rfl
  induction h : bs.size - i generalizing i r with
  | zero =>
    unfold ByteArray.toList.loop
    have : bs.size ≤ i := by omega
    rw [if_neg (by omega), List.drop_eq_nil_of_le (by omega)]
    simp
  | succ n ih =>
    unfold ByteArray.toList.loop
    have hi : i < bs.size := by omega
    rw [if_pos hi, ih (i+1) _ (by omega)]
    have hi' : i < bs.data.toList.length := by omega
    rw [List.drop_eq_getElem_cons hi', List.reverse_cons, List.append_assoc]
    congr 1
    show _ :: _ = _ :: _
    congr 1
    cases bs with
    | mk d =>
      show d[i]! = d.toList[i]
      have hd : i < d.size := by simpa using hi'
      rw [getElem!_pos d i hd, Array.getElem_toList]

theorem byteList_data (bs : ByteArray) : bs.toList = bs.data.toList := by
  unfold ByteArray.toList
  rw [byteList_loop]; rfl

theorem strEq_dec {xs ys : List Int} (hx : ∀ x ∈ xs, 0 ≤ x ∧ x ≤ 255) (hy : ∀ y ∈ ys, 0 ≤ y ∧ y ≤ 255) : strEq xs ys = decide (xs = ys) := by
  unfold strEq
  rw [byteList_data, byteList_data, strOfNums_data, strOfNums_data]
  by_cases e : xs = ys
  · subst e; simp
  · rw [decide_eq_false e, beq_eq_false_iff_ne]
    intro h
    apply e
    have inj : ∀ (a b : List Int), (∀ x ∈ a, 0 ≤ x ∧ x ≤ 255) → (∀ x ∈ b, 0 ≤ x ∧ x ≤ 255) → a.map (fun n => UInt8.ofNat n.toNat) = b.map (fun n => UInt8.ofNat n.toNat) → a = b := by
      intro a
      induction a with
      | nil => intro b _ _ h; cases b with
        | nil => rfl
        | cons y t => simp at h
      | cons x r ih =>
        intro b ha hb h
        cases b with
        | nil => simp at h
        | cons y t =>
          rw [List.map_cons, List.map_cons, List.cons.injEq] at h
          have h1 := ha x (by simp)
          have h2 := hb y (by simp)
          have e1 : x.toNat = y.toNat := by
            have q := congrArg UInt8.toNat h.1
            simp only [UInt8.toNat_ofNat'] at q
            omega
          rw [show x = y by omega, ih t (fun z hz => ha z (by simp [hz])) (fun z hz => hb z (by simp [hz])) h.2]
    exact inj xs ys hx hy h

end Go.Proofs.Ytihkhjbbfpnndaa

/- What is proved here: plain facts on the order of lists of bytes, and on where one stands among others that rise; no program is named. -/
namespace Go.Proofs.Ytihkhjbbfpnndaa
open Go.RowKit
set_option linter.unusedVariables false
set_option maxRecDepth 100000

/-- How two lists of bytes compare. -/
def cmpB (xs ys : List Int) : Int := Lib.compareBytes (Lib.bytesOf xs) (Lib.bytesOf ys)

theorem cmp_zero : ∀ (a b : List UInt8), Lib.compareBytes a b = 0 ↔ a = b
  | [], [] => by simp [Lib.compareBytes]
  | [], _ :: _ => by simp [Lib.compareBytes]
  | _ :: _, [] => by simp [Lib.compareBytes]
  | x :: a, y :: b => by
    unfold Lib.compareBytes
    by_cases h1 : x < y
    · have hne : x ≠ y := fun e => by subst e; exact UInt8.lt_irrefl _ h1
      simp [h1, hne]
    · by_cases h2 : y < x
      · have hne : x ≠ y := fun e => by subst e; exact h1 h2
        simp [h1, h2, hne]
      · have e : x = y := UInt8.le_antisymm (UInt8.not_lt.1 h2) (UInt8.not_lt.1 h1)
        subst e
        simp [h1, cmp_zero a b]

theorem less_trans : ∀ (a b c : List UInt8), Op.bytesLess a b = true → Op.bytesLess b c = true → Op.bytesLess a c = true
  | _, [], _, h, _ => by simp [Op.bytesLess] at h
  | _, _ :: _, [], _, h => by simp [Op.bytesLess] at h
  | [], _ :: _, _ :: _, _, _ => by simp [Op.bytesLess]
  | x :: a, y :: b, z :: c, h1, h2 => by
    simp only [Op.bytesLess, Bool.or_eq_true, decide_eq_true_eq, Bool.and_eq_true, beq_iff_eq] at h1 h2 ⊢
    rcases h1 with h1 | ⟨rfl, h1⟩
    · rcases h2 with h2 | ⟨rfl, h2⟩
      · exact .inl (UInt8.lt_trans h1 h2)
      · exact .inl h1
    · rcases h2 with h2 | ⟨rfl, h2⟩
      · exact .inl h2
      · exact .inr ⟨rfl, less_trans a b c h1 h2⟩

theorem less_irrefl : ∀ a : List UInt8, Op.bytesLess a a = false
  | [] => rfl
  | x :: a => by simp [Op.bytesLess, less_irrefl a, UInt8.lt_irrefl]

theorem aheadB_def (xs ys : List Int) : aheadB xs ys = Op.bytesLess (Lib.bytesOf xs) (Lib.bytesOf ys) := by
  unfold aheadB
  rw [Lib.strOfNums_toList, Lib.strOfNums_toList]

theorem cmpB_neg (xs ys : List Int) : decide (cmpB xs ys < 0) = aheadB xs ys := by
  rw [aheadB_def]
  exact less_of_compare _ _

theorem aheadB_trans {xs ys zs : List Int} (h1 : aheadB xs ys = true) (h2 : aheadB ys zs = true) : aheadB xs zs = true := by
  rw [aheadB_def] at *
  exact less_trans _ _ _ h1 h2

theorem aheadB_irrefl (xs : List Int) : aheadB xs xs = false := by
  rw [aheadB_def]
  exact less_irrefl _

theorem bytesOf_inj : ∀ (a b : List Int), (∀ x ∈ a, 0 ≤ x ∧ x ≤ 255) → (∀ x ∈ b, 0 ≤ x ∧ x ≤ 255) → Lib.bytesOf a = Lib.bytesOf b → a = b := by
  intro a b ha hb h
  have e := strEq_dec ha hb
  unfold strEq at e
  rw [Lib.strOfNums_toList, Lib.strOfNums_toList, h] at e
  simp at e
  exact e

theorem cmpB_zero {xs ys : List Int} (hx : ∀ x ∈ xs, 0 ≤ x ∧ x ≤ 255) (hy : ∀ x ∈ ys, 0 ≤ x ∧ x ≤ 255) : cmpB xs ys = 0 ↔ xs = ys := by
  unfold cmpB
  rw [cmp_zero]
  exact ⟨bytesOf_inj xs ys hx hy, fun e => by rw [e]⟩

/-- Signers without a fault: each is ahead of the next one. -/
theorem sgFrom_rise (zss : List (List Int)) : ∀ (n k : Nat), n = zss.length - k → sgFrom zss k (zss.drop k) = 0 → ∀ i z, k ≤ i → zss[i]? = some z → z.length = 4 ∧ (0 < i → aheadB (zss.getD (i - 1) []) z = true) := by
  intro n
  induction n with
  | zero =>
    intro k hk h i z hi hz
    have := (List.getElem?_eq_some_iff.1 hz).1
    omega
  | succ n ih =>
    intro k hk h i z hi hz
    obtain ⟨y, hy⟩ : ∃ y, zss[k]? = some y := ⟨_, List.getElem?_eq_getElem (by omega)⟩
    rw [sgFrom_step zss k y hy] at h
    split at h
    · omega
    · rename_i hb
      by_cases e : i = k
      · subst e
        obtain rfl : y = z := Option.some.inj (hy.symm.trans hz)
        unfold sgBad at hb
        simp only [Bool.or_eq_true, bne_iff_ne, ne_eq, Bool.and_eq_true, decide_eq_true_eq, Bool.not_eq_true', not_or, Decidable.not_not, not_and, Bool.not_eq_false] at hb
        exact ⟨hb.1, hb.2⟩
      · exact ih (k + 1) (by omega) h i z (by omega) hz

theorem sg_rise {zss : List (List Int)} (h : sgFlt zss = 0) : zss.length ≤ 7 ∧ (∀ z ∈ zss, z.length = 4) ∧ ∀ (i j : Nat) (x y : List Int), i < j → zss[i]? = some x → zss[j]? = some y → aheadB x y = true := by
  unfold sgFlt at h
  split at h
  · omega
  · rename_i h7
    have key := sgFrom_rise zss _ 0 rfl h
    refine ⟨by omega, fun z hz => ?_, ?_⟩
    · obtain ⟨i, hi⟩ := List.getElem?_of_mem hz
      exact (key i z (Nat.zero_le _) hi).1
    · intro i j
      induction j with
      | zero => intro x y hij; omega
      | succ j ih =>
        intro x y hij hx hy
        have h1 := (key (j + 1) y (Nat.zero_le _) hy).2 (by omega)
        have hjl : j < zss.length := by have := (List.getElem?_eq_some_iff.1 hy).1; omega
        have e1 : zss.getD (j + 1 - 1) [] = zss[j] := by rw [Nat.add_sub_cancel, List.getD_eq_getElem?_getD, List.getElem?_eq_getElem hjl]; rfl
        rw [e1] at h1
        by_cases e : i = j
        · subst e
          obtain rfl : zss[i] = x := Option.some.inj ((List.getElem?_eq_getElem hjl).symm.trans hx)
          exact h1
        · exact aheadB_trans (ih x zss[j] (by omega) hx (List.getElem?_eq_getElem hjl)) h1

/-- How many are ahead of one. -/
def plB (zss : List (List Int)) (t : List Int) : Nat := (zss.takeWhile (fun z => aheadB z t)).length

theorem plB_le (zss : List (List Int)) (t : List Int) : plB zss t ≤ zss.length := by
  unfold plB
  exact (List.takeWhile_prefix _).length_le

theorem plB_lt (zss : List (List Int)) (t : List Int) : ∀ (i : Nat) (z : List Int), zss[i]? = some z → i < plB zss t → aheadB z t = true := by
  unfold plB
  induction zss with
  | nil => intro i z hz; simp at hz
  | cons y r ih =>
    intro i z hz h
    rw [List.takeWhile_cons] at h
    split at h
    · rename_i hb
      cases i with
      | zero => simp at hz; subst hz; exact hb
      | succ i => exact ih i z (by simpa using hz) (by simpa using h)
    · simp at h

theorem plB_at (zss : List (List Int)) (t z : List Int) (h : zss[plB zss t]? = some z) : aheadB z t = false := by
  unfold plB at h
  induction zss with
  | nil => simp at h
  | cons y r ih =>
    rw [List.takeWhile_cons] at h
    split at h
    · rw [List.length_cons, List.getElem?_cons_succ] at h
      exact ih h
    · rename_i hb
      simp at h
      subst h
      simpa using hb

/-- Where all rise, just those below that place are ahead. -/
theorem plB_iff {zss : List (List Int)} (hr : ∀ (i j : Nat) (x y : List Int), i < j → zss[i]? = some x → zss[j]? = some y → aheadB x y = true) (t : List Int) (i : Nat) (z : List Int) (hz : zss[i]? = some z) : aheadB z t = decide (i < plB zss t) := by
  by_cases h : i < plB zss t
  · rw [decide_eq_true h]
    exact plB_lt zss t i z hz h
  · rw [decide_eq_false h]
    by_cases e : i = plB zss t
    · subst e
      exact plB_at zss t z hz
    · have hl : plB zss t < zss.length := by have := (List.getElem?_eq_some_iff.1 hz).1; omega
      have h1 := hr (plB zss t) i zss[plB zss t] z (by omega) (List.getElem?_eq_getElem hl) hz
      have h2 := plB_at zss t _ (List.getElem?_eq_getElem hl)
      cases h3 : aheadB z t with
      | false => rfl
      | true => rw [aheadB_trans h1 h3] at h2; cases h2

/-- One is there just where it stands at that place. -/
theorem plB_mem {zss : List (List Int)} (hr : ∀ (i j : Nat) (x y : List Int), i < j → zss[i]? = some x → zss[j]? = some y → aheadB x y = true) (t : List Int) : zss[plB zss t]? = some t ↔ t ∈ zss := by
  constructor
  · intro h; exact List.mem_of_getElem? h
  · intro h
    obtain ⟨i, hi⟩ := List.getElem?_of_mem h
    have h1 := plB_iff hr t i t hi
    rw [aheadB_irrefl] at h1
    have h2 : ¬ i < plB zss t := by simpa using h1.symm
    by_cases e : i = plB zss t
    · rw [← e]; exact hi
    · have hl : plB zss t < zss.length := by have := (List.getElem?_eq_some_iff.1 hi).1; omega
      have h3 := hr (plB zss t) i zss[plB zss t] t (by omega) (List.getElem?_eq_getElem hl) hi
      have h4 := plB_at zss t _ (List.getElem?_eq_getElem hl)
      rw [h3] at h4
      cases h4

end Go.Proofs.Ytihkhjbbfpnndaa

/- What is proved here: plain facts on the fault of a snapshot; no program is named. -/
namespace Go.Proofs.Ytihkhjbbfpnndaa
open Go.RowKit
set_option linter.unusedVariables false
set_option maxRecDepth 100000

/-- The fault of one vote, where some stand ahead of it. -/
def vtOne (sg : List (List Int)) (seen : List (List Int × List Int)) (v : Vt) : Int :=
  if (v.1.length == 4 && v.2.1.length == 4) = false then 1 else if decide (v.1 ∈ sg) = false then 4 else if (v.2.2 == decide (v.2.1 ∈ sg)) = true then 8 else if decide ((v.1, v.2.1) ∈ seen) = true then 6 else 0

/-- Who votes on whom. -/
def vtKeys (vs : List Vt) : List (List Int × List Int) := vs.map (fun v => (v.1, v.2.1))

/-- The first fault among the votes from a place on. -/
def vtFrom (sg : List (List Int)) (vs : List Vt) : Nat → List Vt → Int
  | _, [] => 0
  | k, v :: r => if vtOne sg (vtKeys (vs.take k)) v = 0 then vtFrom sg vs (k + 1) r else vtOne sg (vtKeys (vs.take k)) v

def rcOne (last least : Int) (r : Rc) : Int := if (r.2.length == 4) = false then 1 else if within r.1 least last = false then 3 else 0

/-- The first fault among recents, the first of which has to be at least so much. -/
def rcFrom (last : Int) : Int → List Rc → Int
  | _, [] => 0
  | least, r :: t => if rcOne last least r = 0 then rcFrom last (r.1 + 1) t else rcOne last least r

def sgSome (zss : List (List Int)) : Int := if zss.length = 0 then 4 else sgFlt zss

def snFlt (x : Sn) : Int :=
  if within x.1 0 1099511627776 = false then 3
  else if sgSome x.2.1 ≠ 0 then sgSome x.2.1
  else if 7 < x.2.2.1.length ∨ 30 < x.2.2.2.length then 2
  else if rcFrom x.1 0 x.2.2.1 ≠ 0 then rcFrom x.1 0 x.2.2.1
  else vtFrom x.2.1 x.2.2.2 0 x.2.2.2

theorem vtFrom_step (sg : List (List Int)) (vs : List Vt) (k : Nat) (v : Vt) (h : vs[k]? = some v) : vtFrom sg vs k (vs.drop k) = if vtOne sg (vtKeys (vs.take k)) v = 0 then vtFrom sg vs (k + 1) (vs.drop (k + 1)) else vtOne sg (vtKeys (vs.take k)) v := by
  obtain ⟨hk, e⟩ := List.getElem?_eq_some_iff.1 h
  rw [List.drop_eq_getElem_cons hk, e]
  rfl

theorem vtKeys_snoc (vs : List Vt) (k : Nat) (v : Vt) (h : vs[k]? = some v) : vtKeys (vs.take (k + 1)) = vtKeys (vs.take k) ++ [(v.1, v.2.1)] := by
  obtain ⟨hk, e⟩ := List.getElem?_eq_some_iff.1 h
  unfold vtKeys
  rw [List.take_succ_eq_append_getElem hk, List.map_append, e]
  rfl

theorem rcFrom_step (last least : Int) (rs : List Rc) (k : Nat) (r : Rc) (h : rs[k]? = some r) : rcFrom last least (rs.drop k) = if rcOne last least r = 0 then rcFrom last (r.1 + 1) (rs.drop (k + 1)) else rcOne last least r := by
  obtain ⟨hk, e⟩ := List.getElem?_eq_some_iff.1 h
  rw [List.drop_eq_getElem_cons hk, e]
  rfl

theorem vtOne_zero {sg : List (List Int)} {seen : List (List Int × List Int)} {v : Vt} (h : vtOne sg seen v = 0) : v.1.length = 4 ∧ v.2.1.length = 4 ∧ v.1 ∈ sg ∧ v.2.2 ≠ decide (v.2.1 ∈ sg) ∧ (v.1, v.2.1) ∉ seen := by
  unfold vtOne at h
  split at h
  · omega
  · rename_i h1
    split at h
    · omega
    · rename_i h2
      split at h
      · omega
      · rename_i h3
        split at h
        · omega
        · rename_i h4
          simp at h1 h2 h3 h4
          exact ⟨h1.1, h1.2, h2, by simpa using h3, h4⟩

end Go.Proofs.Ytihkhjbbfpnndaa

/- What is proved here: what the program's SignersFault answers: the first fault of a list of signers. -/
namespace Go.Proofs.Ytihkhjbbfpnndaa
open Go.RowKit
set_option linter.unusedVariables false
set_option maxRecDepth 100000

theorem isAddr_any (a : Option Addr) (n cap : Nat) (w : World) : Calls Try.prog 33 #[.slice a n cap] w fun e w' => e = .returned (.bool (((n : Nat) : Int) == 4)) ∧ w' = w := by
  go_enter Try.func33, Try.ntmps33
  go_wp2_with fail
  go_ret
  exact ⟨rfl, rfl⟩

set_option maxHeartbeats 2000000 in
theorem implSigners_any (a : Option Addr) (len cap : Nat) (zss : List (List Int)) (w : World) (h : BsRow w a len zss) (hl : len ≤ 1048576) :
    Calls Try.prog 27 #[.slice a len cap] w fun e w' => e = .returned (.int .i64 (sgFlt zss)) ∧ w' = w := by
  have hil := h.1
  by_cases h2 : 7 < len
  · have HE : Hid (sgFlt zss = 2) := by show _ = _; unfold sgFlt; rw [if_pos (by rw [hil]; exact h2)]
    have hd : decide ((7 : Int) < (len : Int)) = true := decide_eq_true (by omega)
    clear h hil
    go_enter Try.func27, Try.ntmps27
    go_wp2_with fail
    go_ret
    exact ⟨ret_int (unhide HE).symm, rfl⟩
  · have d2 : decide ((7 : Int) < (len : Int)) = false := decide_eq_false (by omega)
    have HE : Hid (sgFlt zss = sgFrom zss 0 zss) := by show _ = _; unfold sgFlt; rw [if_neg (by omega)]
    rcases Nat.eq_zero_or_pos len with h0 | hp
    · subst h0
      have hn : zss = [] := List.length_eq_zero_iff.1 hil
      subst hn
      clear h
      go_enter Try.func27, Try.ntmps27
      go_wp2_with fail
      refine wp_loop_rounds 1 ?_
      rw [rounds_succ]
      go_wp2_with fail
      go_ret
      exact ⟨ret_int (by rw [unhide HE]; rfl), rfl⟩
    · obtain ⟨b, off, rfl, hb, hc⟩ := h.at hp
      have HC := hide hc
      have HL := hide hil
      clear h hc hil
      go_enter Try.func27, Try.ntmps27
      go_wp2_with fail
      go_loop [10] (fun i => ∃ k : Nat, k ≤ len ∧ i = .int .i64 k ∧ sgFrom zss 0 zss = sgFrom zss k (zss.drop k)) (fun i => len - (intOf i).toNat)
      case atStart => exact ⟨0, Nat.zero_le _, rfl, by simp⟩
      case round =>
        obtain ⟨k, hk, rfl, hpre⟩ := hrel
        by_cases hlt : k < len
        · obtain ⟨z, hit⟩ : ∃ z, zss[k]? = some z := ⟨_, List.getElem?_eq_getElem (by rw [unhide HL]; exact hlt)⟩
          have hst := sgFrom_step zss k z hit
          rw [← hpre] at hst
          obtain ⟨s1, n1, d1, p0, r1⟩ := (unhide HC) k z hit
          have hzl : z.length = n1 := r1.1
          have HS := hide hst
          have i1 : (0 : Int) ≤ (k : Int) := by omega
          have i2 : (k : Int) < (len : Int) := by omega
          have HI := hide (isAddr_any s1 n1 d1 w)
          by_cases h4 : n1 = 4
          · have d4 : (((n1 : Nat) : Int) == 4) = true := by simp [h4]
            rw [d4] at HI
            by_cases k0 : k = 0
            · have e : sgBad zss k z = false := by unfold sgBad; simp [hzl, h4, k0]
              rw [e, if_neg (by simp)] at HS
              have dk : decide ((0 : Int) < (k : Int)) = false := decide_eq_false (by omega)
              have dk' : decide (0 < k) = false := decide_eq_false (by omega)
              clear r1 hst hpre hit hzl e k0 h4
              go_wp2_with fail
              refine (unhide HI).mono ?_
              rintro e w1 ⟨rfl, rfl⟩
              go_wp2_with fail
              go_round
              case rel => exact ⟨k + 1, by omega, by go_num, unhide HS⟩
              case measure => simp [intOf]; omega
            · obtain ⟨y, hiy⟩ : ∃ y, zss[k - 1]? = some y := ⟨_, List.getElem?_eq_getElem (by rw [unhide HL]; omega)⟩
              obtain ⟨s2, n2, d2', q0, r2⟩ := (unhide HC) (k - 1) y hiy
              have hgd : zss.getD (k - 1) [] = y := by rw [List.getD_eq_getElem?_getD, hiy]; rfl
              have e : sgBad zss k z = !aheadB y z := by unfold sgBad; rw [hgd, hzl, h4]; simp; omega
              rw [e] at HS
              have dk : decide ((0 : Int) < (k : Int)) = true := decide_eq_true (by omega)
              have dk' : decide (0 < k) = true := decide_eq_true (by omega)
              have ek : ((k : Int) - 1).toNat = k - 1 := by omega
              have j1 : (0 : Int) ≤ (k : Int) - 1 := by omega
              have j2 : (k : Int) - 1 < (len : Int) := by omega
              have hwr : IntKind.i64.wrap ((k : Int) - 1) = (k : Int) - 1 := by rw [IntKind.wrap_i64]; omega
              have HA := hide (implAhead_any s2 s1 n2 d2' n1 d1 y z w r2 r1)
              have q1 : w.cell? ⟨b, off + ((k : Int) - 1).toNat, none⟩ = some (.slice s2 n2 d2') := by rw [ek]; exact q0
              clear r1 r2 hst hpre hit hiy hzl hgd e k0 h4 ek
              generalize aheadB y z = sb at HA HS
              cases sb
              · go_wp2_with fail
                refine (unhide HI).mono ?_
                rintro e w1 ⟨rfl, rfl⟩
                go_wp2_with fail
                refine (unhide HA).mono ?_
                rintro e w1 ⟨rfl, rfl⟩
                go_wp2_with fail
                go_ret
                exact ⟨ret_int (by rw [unhide HE, unhide HS]; rfl), rfl⟩
              · go_wp2_with fail
                refine (unhide HI).mono ?_
                rintro e w1 ⟨rfl, rfl⟩
                go_wp2_with fail
                refine (unhide HA).mono ?_
                rintro e w1 ⟨rfl, rfl⟩
                go_wp2_with fail
                go_round
                case rel => exact ⟨k + 1, by omega, by go_num, by rw [unhide HS]; rfl⟩
                case measure => simp [intOf]; omega
          · have d4 : (((n1 : Nat) : Int) == 4) = false := by rw [beq_eq_false_iff_ne]; omega
            rw [d4] at HI
            have e : sgBad zss k z = true := by unfold sgBad; simp [hzl, h4]
            rw [e, if_pos rfl] at HS
            clear r1 hst hpre hit hzl e h4
            go_wp2_with fail
            refine (unhide HI).mono ?_
            rintro e w1 ⟨rfl, rfl⟩
            go_wp2_with fail
            go_ret
            exact ⟨ret_int (by rw [unhide HE, unhide HS]), rfl⟩
        · obtain rfl : k = len := by omega
          have e := sgFrom_end zss k (by rw [unhide HL]; exact Nat.le_refl _)
          rw [e] at hpre
          have HP := hide hpre
          clear e hpre
          go_wp2_with fail
          go_ret
          exact ⟨ret_int (by rw [unhide HE, unhide HP]), rfl⟩

end Go.Proofs.Ytihkhjbbfpnndaa

/- What is proved here: what the model's l5Signers answers: the first fault of a list of signers. -/
namespace Go.Proofs.Ytihkhjbbfpnndaa
open Go.RowKit
set_option linter.unusedVariables false
set_option maxRecDepth 100000

set_option maxHeartbeats 2000000 in
theorem l5Signers_any (a : Option Addr) (len cap : Nat) (zss : List (List Int)) (w : World) (h : BsRow w a len zss) (hl : len ≤ 1048576) :
    Calls Try.prog 26 #[.slice a len cap] w fun e w' => e = .returned (.int .i64 (sgFlt zss)) ∧ ∃ n, w' = w.drewN n := by
  have hil := h.1
  by_cases h2 : 7 < len
  · have HE : Hid (sgFlt zss = 2) := by show _ = _; unfold sgFlt; rw [if_pos (by rw [hil]; exact h2)]
    have hd : decide ((7 : Int) < (len : Int)) = true := decide_eq_true (by omega)
    clear h hil
    go_enter Try.func26, Try.ntmps26
    go_wp2_with fail
    go_ret
    exact ⟨ret_int (unhide HE).symm, 0, rfl⟩
  · have d2 : decide ((7 : Int) < (len : Int)) = false := decide_eq_false (by omega)
    have HE : Hid (sgFlt zss = sgFrom zss 0 zss) := by show _ = _; unfold sgFlt; rw [if_neg (by omega)]
    rcases Nat.eq_zero_or_pos len with h0 | hp
    · subst h0
      have hn : zss = [] := List.length_eq_zero_iff.1 hil
      subst hn
      clear h
      go_enter Try.func26, Try.ntmps26
      go_wp2_with fail
      refine wp_loop_rounds 1 ?_
      rw [rounds_succ]
      go_wp2_with fail
      go_ret
      exact ⟨ret_int (by rw [unhide HE]; rfl), 0, rfl⟩
    · obtain ⟨b, off, rfl, hb, hc⟩ := h.at hp
      have HC := hide hc
      have HL := hide hil
      clear h hc hil
      go_enter Try.func26, Try.ntmps26
      go_wp2_with fail
      go_loopw [3] (fun i wr => ∃ k n : Nat, k ≤ len ∧ i = .int .i64 k ∧ sgFrom zss 0 zss = sgFrom zss k (zss.drop k) ∧ wr = w.drewN n) (fun i _ => len - (intOf i).toNat)
      case atStart => exact ⟨0, 0, Nat.zero_le _, rfl, by simp, rfl⟩
      case round =>
        obtain ⟨k, n, hk, rfl, hpre, hw⟩ := hrel
        have hbw : Below w.heap.size w wr := by rw [hw]; exact below_drewN (Below.refl _ _) n
        have HW := hide hw
        clear hw
        by_cases hlt : k < len
        · obtain ⟨z, hit⟩ : ∃ z, zss[k]? = some z := ⟨_, List.getElem?_eq_getElem (by rw [unhide HL]; exact hlt)⟩
          have hst := sgFrom_step zss k z hit
          rw [← hpre] at hst
          obtain ⟨s1, n1, d1, p0, r1⟩ := ((unhide HC) k z hit).below hbw (Nat.le_refl _)
          have hzl : z.length = n1 := r1.1
          have HS := hide hst
          have i1 : (0 : Int) ≤ (k : Int) := by omega
          have i2 : (k : Int) < (len : Int) := by omega
          by_cases h4 : n1 = 4
          · have d4 : (((n1 : Nat) : Int) != 4) = false := by simp [h4]
            by_cases k0 : k = 0
            · have e : sgBad zss k z = false := by unfold sgBad; simp [hzl, h4, k0]
              rw [e, if_neg (by simp)] at HS
              have dk : decide ((0 : Int) < (k : Int)) = false := decide_eq_false (by omega)
              have dk' : decide (0 < k) = false := decide_eq_false (by omega)
              clear r1 hst hpre hit hzl e k0 h4 hbw
              go_wp2_with fail
              go_quiet (fail)
              all_goals
                go_wp2_with fail
                go_roundw
                case rel => exact ⟨k + 1, _, by omega, by go_num, unhide HS, by rw [unhide HW]; first | rfl | exact World.drewN_drewN ..⟩
                case measure => simp [intOf]; omega
            · obtain ⟨j, hj⟩ : ∃ j : Nat, k - 1 = j := ⟨_, rfl⟩
              obtain ⟨y, hiy⟩ : ∃ y, zss[j]? = some y := ⟨_, List.getElem?_eq_getElem (by rw [unhide HL]; omega)⟩
              obtain ⟨s2, n2, d2', q0, r2⟩ := ((unhide HC) j y hiy).below hbw (Nat.le_refl _)
              have hgd : zss.getD (k - 1) [] = y := by rw [hj, List.getD_eq_getElem?_getD, hiy]; rfl
              have e : sgBad zss k z = !aheadB y z := by unfold sgBad; rw [hgd, hzl, h4]; simp; omega
              rw [e] at HS
              have dk : decide ((0 : Int) < (k : Int)) = true := decide_eq_true (by omega)
              have dk' : decide (0 < k) = true := decide_eq_true (by omega)
              have j1 : (0 : Int) ≤ (j : Int) := by omega
              have j2 : (j : Int) < (len : Int) := by omega
              have hwr : IntKind.i64.wrap ((k : Int) - 1) = (j : Int) := by rw [IntKind.wrap_i64]; omega
              have HA := hide (fun (m : Nat) => l1Ahead_any s2 s1 n2 d2' n1 d1 y z (wr.drewN m) (r2.below (B := wr.heap.size) (below_drewN (Below.refl _ _) m) (Nat.le_refl _)) (r1.below (B := wr.heap.size) (below_drewN (Below.refl _ _) m) (Nat.le_refl _)))
              clear r1 r2 hst hpre hit hiy hzl hgd e k0 h4 hj hbw
              generalize aheadB y z = sb at HA HS
              cases sb
              · go_wp2_with fail
                go_quiet ((go_at_call 32; exact Calls.quiet_of_same ((unhide HA) _)))
                all_goals
                  go_wp2_with fail
                  go_ret
                  exact ⟨ret_int (by rw [unhide HE, unhide HS]; rfl), _, by rw [unhide HW]; first | rfl | exact World.drewN_drewN ..⟩
              · go_wp2_with fail
                go_quiet ((go_at_call 32; exact Calls.quiet_of_same ((unhide HA) _)))
                all_goals
                  go_wp2_with fail
                  go_roundw
                  case rel => exact ⟨k + 1, _, by omega, by go_num, by rw [unhide HS]; rfl, by rw [unhide HW]; first | rfl | exact World.drewN_drewN ..⟩
                  case measure => simp [intOf]; omega
          · have d4 : (((n1 : Nat) : Int) != 4) = true := by simp; omega
            have e : sgBad zss k z = true := by unfold sgBad; simp [hzl, h4]
            rw [e, if_pos rfl] at HS
            clear r1 hst hpre hit hzl e h4 hbw
            go_wp2_with fail
            go_quiet (fail)
            all_goals
              go_wp2_with fail
              go_ret
              exact ⟨ret_int (by rw [unhide HE, unhide HS]), _, by rw [unhide HW]; first | rfl | exact World.drewN_drewN ..⟩
        · obtain rfl : k = len := by omega
          have e := sgFrom_end zss k (by rw [unhide HL]; exact Nat.le_refl _)
          rw [e] at hpre
          have HP := hide hpre
          clear e hpre
          go_wp2_with fail
          go_ret
          exact ⟨ret_int (by rw [unhide HE, unhide HP]), n, unhide HW⟩

end Go.Proofs.Ytihkhjbbfpnndaa

/- What is proved here: what the model's SignersFault answers. -/
namespace Go.Proofs.Ytihkhjbbfpnndaa
open Go.RowKit
set_option linter.unusedVariables false
set_option maxRecDepth 100000

end Go.Proofs.Ytihkhjbbfpnndaa

/- What is proved here: what someSignersFault and l7List answer; rows told by colours, as rows of bytes. -/
namespace Go.Proofs.Ytihkhjbbfpnndaa
open Go.RowKit
set_option linter.unusedVariables false
set_option maxRecDepth 100000

set_option maxHeartbeats 1000000 in
theorem someSigners_any (s : Sl) (zss : List (List Int)) (w : World) (h : RowOk bytesK w s zss) (hl : zss.length ≤ 1048576) :
    Calls Try.prog 20 #[.slice s.a s.n s.c] w fun e w' => e = .returned (.int .i64 (sgSome zss)) ∧ w' = w := by
  have hn : s.n = zss.length := h.len
  have HI := hide (implSigners_any s.a s.n s.c zss w (bs_of_row h) (by omega))
  by_cases h0 : zss.length = 0
  · have HE : Hid (sgSome zss = 4) := if_pos h0
    have hz : (((s.n : Nat) : Int) == 0) = true := by rw [hn, h0]; rfl
    clear hn h h0 HI
    go_enter Try.func20, Try.ntmps20
    go_wp2_with fail
    go_ret
    exact ⟨ret_int (unhide HE).symm, rfl⟩
  · have HE : Hid (sgSome zss = sgFlt zss) := if_neg h0
    have hz : (((s.n : Nat) : Int) == 0) = false := by rw [beq_eq_false_iff_ne]; omega
    clear hn h h0
    go_enter Try.func20, Try.ntmps20
    go_wp2_with fail
    refine (unhide HI).mono ?_
    rintro e w1 ⟨rfl, rfl⟩
    go_wp2_with fail
    go_ret
    exact ⟨ret_int (unhide HE).symm, rfl⟩

set_option maxHeartbeats 1000000 in
theorem l7List_any (s : Sl) (zss : List (List Int)) (w : World) (h : RowOk bytesK w s zss) (hl : zss.length ≤ 1048576) :
    Calls Try.prog 17 #[.slice s.a s.n s.c] w fun e w' => e = .returned (.int .i64 (sgSome zss)) ∧ ∃ n, w' = w.drewN n := by
  have hn : s.n = zss.length := h.len
  have HI := hide (l5Signers_any s.a s.n s.c zss w (bs_of_row h) (by omega))
  by_cases h0 : zss.length = 0
  · have HE : Hid (sgSome zss = 4) := if_pos h0
    have hz : (((s.n : Nat) : Int) == 0) = true := by rw [hn, h0]; rfl
    clear hn h h0 HI
    go_enter Try.func17, Try.ntmps17
    go_wp2_with fail
    go_ret
    exact ⟨ret_int (unhide HE).symm, 0, rfl⟩
  · have HE : Hid (sgSome zss = sgFlt zss) := if_neg h0
    have hz : (((s.n : Nat) : Int) == 0) = false := by rw [beq_eq_false_iff_ne]; omega
    clear hn h h0
    go_enter Try.func17, Try.ntmps17
    go_wp2_with fail
    refine (unhide HI).mono ?_
    rintro e w1 ⟨rfl, n, rfl⟩
    go_wp2_with fail
    go_ret
    exact ⟨ret_int (unhide HE).symm, n, rfl⟩

theorem CS.nrow {B r c : Nat} {d : Nat → Nat} {w : World} {s : Sl} {zss : List (List Int)} (h : CS w B d r c s zss) (hr : ∀ i, r ≠ c + 3 * i) : RowOk bytesK w s zss := by
  obtain ⟨d', h'⟩ := row_of_cs h hr []
  exact (rowK bytesK 23).ok h'

theorem CS.nrowM {B r c : Nat} {d : Nat → Nat} {w : World} {s : Sl} {zss : List (List Int)} (h : CS w B d r c s zss) (hr : ∀ i, r ≠ c + 3 * i) : BsRow w s.a s.n zss := bs_of_row (h.nrow hr)

end Go.Proofs.Ytihkhjbbfpnndaa

/- What is proved here: plain facts on the short bytes of a number, the highest first; no program is named. -/
namespace Go.Proofs.Ytihkhjbbfpnndaa
set_option linter.unusedVariables false
set_option maxRecDepth 100000

/-- The bytes of a number, the highest first, no zero ahead; the first argument bounds how many. -/
def shortF : Nat → Int → List Int
  | 0, _ => []
  | k + 1, n => if n = 0 then [] else shortF k (n / 256) ++ [n % 256]

theorem shortF_zero (k : Nat) : shortF k 0 = [] := by cases k <;> simp [shortF]

theorem shortF_succ (k : Nat) (n : Int) (h : 0 < n) : shortF (k + 1) n = shortF k (n / 256) ++ [n % 256] := by
  rw [shortF, if_neg (by omega)]

theorem shortF_range : ∀ (k : Nat) (n : Int), ∀ x ∈ shortF k n, 0 ≤ x ∧ x ≤ 255
  | 0, _, x, hx => by simp [shortF] at hx
  | k + 1, n, x, hx => by
    unfold shortF at hx
    split at hx
    · simp at hx
    · rcases List.mem_append.1 hx with h | h
      · exact shortF_range k (n / 256) x h
      · simp at h; omega

theorem shortF_length : ∀ (k : Nat) (n : Int), (shortF k n).length ≤ k
  | 0, _ => by simp [shortF]
  | k + 1, n => by
    have := shortF_length k (n / 256)
    unfold shortF
    split <;> simp <;> omega

theorem shortF_pos (n : Int) (h : 0 < n) : 0 < (shortF 7 n).length := by
  rw [shortF_succ 6 n h]
  simp

theorem pow_step (rest : Int) (m : Nat) (h0 : 0 < rest) (h : rest < 256 ^ m) : ∃ k, m = k + 1 ∧ rest / 256 < 256 ^ k := by
  cases m with
  | zero => simp at h; omega
  | succ k =>
    refine ⟨k, rfl, ?_⟩
    rw [Int.pow_succ] at h
    generalize (256 : Int) ^ k = p at h
    omega

theorem room_step (room : List Int) (k : Nat) (z : Int) (h : k < room.length) : (room.set k z).drop k = z :: room.drop (k + 1) := by
  rw [List.drop_eq_getElem_cons (by simpa using h)]
  simp [List.drop_set_of_lt]

theorem room_range (room : List Int) (k : Nat) (z : Int) (hz : 0 ≤ z ∧ z ≤ 255) (h : ∀ x ∈ room, 0 ≤ x ∧ x ≤ 255) : ∀ x ∈ room.set k z, 0 ≤ x ∧ x ≤ 255 := by
  intro x hx
  rcases List.mem_or_eq_of_mem_set hx with h' | h'
  · exact h x h'
  · subst h'; exact hz

/-- What holds of the room while the bytes of n are written into it from its end. -/
def Room (n : Int) (m : Nat) (rest : Int) (room : List Int) : Prop :=
  m ≤ 7 ∧ 0 ≤ rest ∧ rest < 256 ^ m ∧ room.length = 7 ∧ (∀ x ∈ room, 0 ≤ x ∧ x ≤ 255) ∧ shortF 7 n = shortF m rest ++ room.drop m

theorem Room.start (n : Int) (h0 : 0 ≤ n) (h1 : n ≤ 1125899906842624) : Room n 7 n [0, 0, 0, 0, 0, 0, 0] := by
  refine ⟨Nat.le_refl _, h0, ?_, rfl, by intro x hx; simp at hx; omega, by simp⟩
  have e : (256 : Int) ^ 7 = 72057594037927936 := by decide
  rw [e]; omega

theorem Room.step {n rest : Int} {m : Nat} {room : List Int} (h : Room n m rest room) (hr : 0 < rest) :
    ∃ k, m = k + 1 ∧ Room n k (rest / 256) (room.set k (rest % 256)) := by
  obtain ⟨h1, h2, h3, h4, h5, h6⟩ := h
  obtain ⟨k, rfl, hk⟩ := pow_step rest m hr h3
  refine ⟨k, rfl, by omega, by omega, hk, by simpa using h4, room_range room k _ (by omega) h5, ?_⟩
  rw [room_step room k _ (by omega), h6, shortF_succ k rest hr]
  simp

theorem Room.done {n rest : Int} {m : Nat} {room : List Int} (h : Room n m rest room) (hr : rest = 0) : shortF 7 n = room.drop m := by
  subst hr
  rw [h.2.2.2.2.2, shortF_zero, List.nil_append]

theorem Room.bd {n rest : Int} {m : Nat} {room : List Int} (h : Room n m rest room) : rest < 72057594037927936 := by
  have e : (256 : Int) ^ 7 = 72057594037927936 := by decide
  have hm : (256 : Int) ^ m ≤ 256 ^ 7 := by
    have := h.1
    rcases (by omega : m = 0 ∨ m = 1 ∨ m = 2 ∨ m = 3 ∨ m = 4 ∨ m = 5 ∨ m = 6 ∨ m = 7) with r | r | r | r | r | r | r | r <;> subst r <;> decide
  rw [e] at hm
  exact Int.lt_of_lt_of_le h.2.2.1 hm

end Go.Proofs.Ytihkhjbbfpnndaa

/- What is proved here: plain facts on the bytes that stand ahead of an item; no program is named. -/
namespace Go.Proofs.Ytihkhjbbfpnndaa
set_option linter.unusedVariables false
set_option maxRecDepth 100000

/-- The first number of a head. -/
def headB (l : Bool) : Int := if l then 192 else 128

theorem headB_in (l : Bool) : 128 ≤ headB l ∧ headB l ≤ 192 := by cases l <;> decide

/-- The bytes ahead of n bytes. -/
def headL (l : Bool) (n : Int) : List Int := if n ≤ 55 then [headB l + n] else (headB l + 55 + (shortF 7 n).length) :: shortF 7 n

theorem shortF_small (n : Int) (h0 : 0 ≤ n) (h : n < 16777216) : (shortF 7 n).length ≤ 3 := by
  by_cases a : n = 0
  · subst a; rw [shortF_zero]; simp
  by_cases b : n / 256 = 0
  · rw [shortF_succ 6 n (by omega), b, shortF_zero]; simp
  by_cases c : n / 256 / 256 = 0
  · rw [shortF_succ 6 n (by omega), shortF_succ 5 (n / 256) (by omega), c, shortF_zero]; simp
  have d : n / 256 / 256 / 256 = 0 := by omega
  rw [shortF_succ 6 n (by omega), shortF_succ 5 (n / 256) (by omega), shortF_succ 4 (n / 256 / 256) (by omega), d, shortF_zero]; simp

theorem headL_range (l : Bool) (n : Int) (h0 : 0 ≤ n) (h : n < 16777216) : ∀ x ∈ headL l n, 0 ≤ x ∧ x ≤ 255 := by
  have hb := headB_in l
  have hs := shortF_small n h0 h
  unfold headL
  split
  · intro x hx; simp at hx; omega
  · intro x hx
    rcases List.mem_cons.1 hx with e | e
    · omega
    · exact shortF_range 7 n x e

theorem headL_length (l : Bool) (n : Int) : (headL l n).length ≤ 8 := by
  have := shortF_length 7 n
  unfold headL
  split
  · simp
  · simp; omega

/-- What HeadBytes answers: its code and its bytes. -/
def hdCode (n : Int) : Int := if 0 ≤ n ∧ n ≤ 1200 then 0 else 3
def hdBytes (l : Bool) (n : Int) : List Int := if 0 ≤ n ∧ n ≤ 1200 then headL l n else []

theorem hdBytes_range (l : Bool) (n : Int) : ∀ x ∈ hdBytes l n, 0 ≤ x ∧ x ≤ 255 := by
  unfold hdBytes
  split
  · exact headL_range l n (by omega) (by omega)
  · intro x hx; simp at hx

theorem hdBytes_length (l : Bool) (n : Int) : (hdBytes l n).length ≤ 8 := by
  unfold hdBytes
  split
  · exact headL_length l n
  · simp

theorem shortF_some (n : Int) (h : 0 < n) : 0 < (shortF 7 n).length := shortF_pos n h

end Go.Proofs.Ytihkhjbbfpnndaa

/- What is proved here: plain facts on the bytes of a header: what it is packed to, and that a header without a fault is small; no program is named. -/
namespace Go.Proofs.Ytihkhjbbfpnndaa
open Go.RowKit
set_option linter.unusedVariables false
set_option maxRecDepth 100000

/-- The head of bytes as an item: none for one small byte. -/
def pcHd (z : List Int) : List Int := if z.length = 1 ∧ z.getD 0 0 < 128 then [] else headL false z.length

/-- Bytes as an item. -/
def pcL (z : List Int) : List Int := pcHd z ++ z

/-- Slices of bytes, as items one behind the other. -/
def pcsL (zss : List (List Int)) : List Int := zss.flatMap pcL

/-- Items as a list. -/
def wrapL (z : List Int) : List Int := headL true z.length ++ z

def listL (zss : List (List Int)) : List Int := wrapL (pcsL zss)

/-- What is in the list of a header, up to each of its parts. -/
def bd1 (h : Hd) : List Int := pcL h.p ++ pcL (shortF 7 h.n1)
def bd2 (h : Hd) : List Int := bd1 h ++ pcL (shortF 7 h.n2) ++ pcL (shortF 7 h.n3)
def bd3 (h : Hd) : List Int := bd2 h ++ pcL h.t ++ pcL (shortF 7 h.n5)
def bd4 (h : Hd) : List Int := bd3 h ++ listL h.s ++ pcL h.r
def bd5 (h : Hd) : List Int := bd4 h ++ pcL h.g ++ pcL h.e
def bd6 (h : Hd) : List Int := bd5 h ++ listL h.k

def packL (h : Hd) : List Int := wrapL (bd6 h)

/-- What a header without a fault keeps to. -/
structure HGood (h : Hd) : Prop where
  p : h.p.length = 32
  n1 : 0 ≤ h.n1 ∧ h.n1 ≤ 1099511627776
  n2 : 0 ≤ h.n2 ∧ h.n2 ≤ 1099511627776
  n3 : 0 ≤ h.n3 ∧ h.n3 ≤ 9
  t : h.t.length ≤ 4
  n5 : 0 ≤ h.n5 ∧ h.n5 ≤ 2
  s : h.s.length ≤ 7
  sz : ∀ z ∈ h.s, z.length ≤ 8
  r : h.r.length = 32
  g : h.g.length = 4
  e : h.e.length ≤ 4
  k : h.k.length ≤ 7
  kz : ∀ z ∈ h.k, z.length ≤ 8

theorem sgFrom_zero (zss : List (List Int)) : ∀ (r : List (List Int)) (k : Nat), sgFrom zss k r = 0 → ∀ z ∈ r, z.length = 4
  | [], k, _, z, hz => by simp at hz
  | a :: r, k, h, z, hz => by
    unfold sgFrom at h
    split at h
    · omega
    · rename_i hb
      rcases List.mem_cons.1 hz with e | e
      · subst e
        have : sgBad zss k z = false := by simpa using hb
        unfold sgBad at this
        simp at this
        exact this.1
      · exact sgFrom_zero zss r (k + 1) h z e

theorem coFrom_zero : ∀ (r : List (List Int)), coFrom r = 0 → ∀ z ∈ r, z.length = 8
  | [], _, z, hz => by simp at hz
  | a :: r, h, z, hz => by
    unfold coFrom at h
    split at h
    · rename_i ha
      rcases List.mem_cons.1 hz with e | e
      · subst e; exact ha
      · exact coFrom_zero r h z e
    · omega

theorem good_of {h : Hd} (hf : hdFlt h = 0) : HGood h := by
  unfold hdFlt at hf
  split at hf
  · omega
  · rename_i h1
    split at hf
    · omega
    · rename_i h2
      split at hf
      · rename_i h3
        have l1 : hdLen h = false := by simpa using h1
        have n1 : hdNum h = true := by simpa using h2
        unfold hdLen at l1
        simp only [Bool.or_eq_false_iff, Bool.and_eq_false_iff, bne_eq_false_iff_eq] at l1
        obtain ⟨⟨⟨⟨a1, a2⟩, a3⟩, a4⟩, a5⟩ := l1
        unfold hdNum within at n1
        simp only [Bool.and_eq_true, decide_eq_true_eq] at n1
        obtain ⟨⟨⟨c1, c2⟩, c3⟩, c5⟩ := n1
        unfold sgFlt at h3
        split at h3
        · omega
        · rename_i s7
          have hs := sgFrom_zero h.s h.s 0 h3
          unfold coFlt at hf
          split at hf
          · omega
          · rename_i k7
            have hk := coFrom_zero h.k hf
            exact ⟨by omega, c1, c2, c3, by omega, c5, by omega, fun z hz => by have := hs z hz; omega, by omega, by omega, by omega, by omega, fun z hz => by have := hk z hz; omega⟩
      · omega

theorem pcL_length (z : List Int) : (pcL z).length ≤ 8 + z.length := by
  unfold pcL
  rw [List.length_append]
  have : (pcHd z).length ≤ 8 := by
    unfold pcHd
    split
    · simp
    · exact headL_length _ _
  omega

theorem pcsL_length : ∀ (zss : List (List Int)), (∀ z ∈ zss, z.length ≤ 8) → (pcsL zss).length ≤ 16 * zss.length
  | [], _ => by simp [pcsL]
  | z :: r, h => by
    have h1 := pcsL_length r (fun y hy => h y (List.mem_cons_of_mem _ hy))
    have h2 := pcL_length z
    have h3 := h z List.mem_cons_self
    unfold pcsL at h1 ⊢
    rw [List.flatMap_cons, List.length_append, List.length_cons]
    omega

theorem wrapL_length (z : List Int) : (wrapL z).length ≤ 8 + z.length := by
  unfold wrapL
  rw [List.length_append]
  have := headL_length true z.length
  omega

theorem listL_length (zss : List (List Int)) (h : ∀ z ∈ zss, z.length ≤ 8) (hl : zss.length ≤ 7) : (listL zss).length ≤ 120 := by
  have h1 := wrapL_length (pcsL zss)
  have h2 := pcsL_length zss h
  unfold listL
  omega

theorem sh_length (n : Int) : (shortF 7 n).length ≤ 7 := shortF_length 7 n

theorem bd_length {h : Hd} (g : HGood h) : (bd1 h).length ≤ 60 ∧ (bd2 h).length ≤ 100 ∧ (bd3 h).length ≤ 140 ∧ (bd4 h).length ≤ 300 ∧ (bd5 h).length ≤ 340 ∧ (bd6 h).length ≤ 460 := by
  have a1 := pcL_length h.p
  have a2 := pcL_length (shortF 7 h.n1)
  have a3 := pcL_length (shortF 7 h.n2)
  have a4 := pcL_length (shortF 7 h.n3)
  have a5 := pcL_length h.t
  have a6 := pcL_length (shortF 7 h.n5)
  have a7 := listL_length h.s g.sz g.s
  have a8 := pcL_length h.r
  have a9 := pcL_length h.g
  have a10 := pcL_length h.e
  have a11 := listL_length h.k g.kz g.k
  have s1 := sh_length h.n1
  have s2 := sh_length h.n2
  have s3 := sh_length h.n3
  have s5 := sh_length h.n5
  have := g.p
  have := g.t
  have := g.r
  have := g.g
  have := g.e
  unfold bd6 bd5 bd4 bd3 bd2 bd1
  simp only [List.length_append]
  omega

end Go.Proofs.Ytihkhjbbfpnndaa

/- What is proved here: plain facts on what GenesisOf answers; no program is named. -/
namespace Go.Proofs.Ytihkhjbbfpnndaa
open Go.RowKit
set_option linter.unusedVariables false
set_option maxRecDepth 100000

/-- The code of GenesisOf, the first header, and what is answered. -/
def gnCode (zss : List (List Int)) (z : List Int) : Int := if sgSome zss = 0 then (if z.length = 32 then 0 else 1) else sgSome zss
def gnHd (zss : List (List Int)) (z : List Int) : Hd := ⟨List.replicate 32 0, 0, 0, 1, [], 0, zss, z, zss.headD [], [], []⟩
def gnH (zss : List (List Int)) (z : List Int) : Hd := if gnCode zss z = 0 then gnHd zss z else hd0

theorem bAlloc {w W : World} (h : Below w.heap.size w W) (o : Obj) : Below w.heap.size w (W.alloc o) := h.trans ((below_alloc W o).mono h.size)

theorem bStep {w W W' : World} (h : Below w.heap.size w W) (k : Below W.heap.size W W') : Below w.heap.size w W' := h.trans (k.mono h.size)

theorem bSet {w W : World} {n i : Nat} {v : Value} (h : Below n w W) : Below n w (W.setCell ⟨n, i, none⟩ v) := h.setCell (Nat.le_refl _) _

theorem sgSome_pos {zss : List (List Int)} (h : sgSome zss = 0) : 0 < zss.length ∧ zss.length ≤ 7 ∧ ∀ z ∈ zss, z.length = 4 := by
  unfold sgSome at h
  split at h
  · omega
  · rename_i h0
    unfold sgFlt at h
    split at h
    · omega
    · exact ⟨by omega, by omega, sgFrom_zero zss zss 0 h⟩

theorem gn_good {zss : List (List Int)} {z : List Int} (h : gnCode zss z = 0) : sgSome zss = 0 ∧ z.length = 32 := by
  unfold gnCode at h
  split at h
  · rename_i h0
    split at h
    · exact ⟨h0, by assumption⟩
    · omega
  · rename_i h0
    exact absurd h h0

theorem gn_head {zss : List (List Int)} (h : 0 < zss.length) : zss[0]? = some (zss.headD []) := by
  cases zss with
  | nil => simp at h
  | cons a r => rfl

theorem gnsm0 : HSm hd0 := ⟨Nat.zero_le _, Nat.zero_le _, Nat.zero_le _, fun z hz => by simp [hd0] at hz, Nat.zero_le _, Nat.zero_le _, Nat.zero_le _, Nat.zero_le _, fun z hz => by simp [hd0] at hz⟩

theorem gnHd_sm {zss : List (List Int)} {z : List Int} (h : gnCode zss z = 0) : HSm (gnHd zss z) := by
  obtain ⟨h0, h1⟩ := gn_good h
  obtain ⟨p0, p1, p2⟩ := sgSome_pos h0
  have hh : zss.headD [] ∈ zss := List.mem_of_getElem? (gn_head p0)
  refine ⟨?_, Nat.zero_le _, ?_, fun y hy => ?_, ?_, ?_, Nat.zero_le _, Nat.zero_le _, fun y hy => by simp [gnHd] at hy⟩
  · show (List.replicate 32 (0 : Int)).length ≤ _; rw [List.length_replicate]; omega
  · show zss.length ≤ _; omega
  · have := p2 y hy; omega
  · show z.length ≤ _; omega
  · show (zss.headD []).length ≤ _; have := p2 _ hh; omega

theorem gnH_sm (zss : List (List Int)) (z : List Int) : HSm (gnH zss z) := by
  unfold gnH
  split
  · rename_i h
    exact gnHd_sm h
  · exact gnsm0

theorem gnsum (zss : List (List Int)) (hz : ∀ z ∈ zss, z.length ≤ 8) : bsum zss ≤ 8 * zss.length := by
  induction zss with
  | nil => exact Nat.zero_le _
  | cons a r ih =>
    have h1 := hz a (by simp)
    have h2 := ih (fun z hz' => hz z (by simp [hz']))
    have e : bsum (a :: r) = a.length + bsum r := by simp [bsum]
    rw [e, List.length_cons]
    omega

theorem gnH_tot (zss : List (List Int)) (z : List Int) : hTot (gnH zss z) ≤ 1048576 := by
  unfold gnH
  split
  · rename_i h
    obtain ⟨h0, h1⟩ := gn_good h
    obtain ⟨p0, p1, p2⟩ := sgSome_pos h0
    have hh := p2 _ (List.mem_of_getElem? (gn_head p0))
    have hs := gnsum zss (fun y hy => by have := p2 y hy; omega)
    have e : hTot (gnHd zss z) = (List.replicate 32 (0 : Int)).length + 0 + bsum zss + z.length + (zss.headD []).length + 0 + 0 := rfl
    rw [e, List.length_replicate]
    omega
  · exact Nat.zero_le _

end Go.Proofs.Ytihkhjbbfpnndaa

/- What is proved here: plain facts on a header's marks, and that what is written elsewhere leaves a header. -/
namespace Go.Proofs.Ytihkhjbbfpnndaa
open Go.RowKit
set_option linter.unusedVariables false
set_option maxRecDepth 100000

theorem CB.onlyH {B B' C j : Nat} {d : Nat → Nat} {w w' : World} {s : Sl} {z : List Int} (h : CB w B d j s z) (o : OnlyH B' C w w') (hC : C ≤ B) : CB w' B d j s z := ⟨h.len, h.rng, o.own h.own hC, h.col⟩

theorem CS.onlyH {B B' C r c : Nat} {d : Nat → Nat} {w w' : World} {s : Sl} {zss : List (List Int)} (h : CS w B d r c s zss) (o : OnlyH B' C w w') (hC : C ≤ B) : CS w' B d r c s zss := by
  obtain ⟨h1, es, h2, h3, h4, h5⟩ := h
  exact ⟨h1, es, h2, o.own h3 hC, h4, fun i e z he hz => (h5 i e z he hz).onlyH o hC⟩

theorem CH.onlyH {B B' C : Nat} {d : Nat → Nat} {w w' : World} {x : HS} {h : Hd} (q : CH w B d x h) (o : OnlyH B' C w w') (hC : C ≤ B) : CH w' B d x h :=
  ⟨q.p.onlyH o hC, q.t.onlyH o hC, q.s.onlyH o hC, q.r.onlyH o hC, q.g.onlyH o hC, q.e.onlyH o hC, q.k.onlyH o hC⟩

theorem mkss_mem : ∀ (zss : List (List Int)) (k : Int) (z : List Int), z ∈ mkss k zss → ∃ y ∈ zss, z.length = y.length
  | [], k, z, h => by simp [mkss] at h
  | a :: r, k, z, h => by
    rw [mkss] at h
    rcases List.mem_cons.1 h with e | e
    · exact ⟨a, by simp, by rw [e, marks_length]⟩
    · obtain ⟨y, hy, he⟩ := mkss_mem r _ z e
      exact ⟨y, by simp [hy], he⟩

theorem mkH_sm {h : Hd} (k : Int) (m : HSm h) : HSm (mkH k h) := by
  refine ⟨?_, ?_, ?_, fun z hz => ?_, ?_, ?_, ?_, ?_, fun z hz => ?_⟩
  · show (marks _ _).length ≤ _; rw [marks_length]; exact m.p
  · show (marks _ _).length ≤ _; rw [marks_length]; exact m.t
  · show (mkss _ _).length ≤ _; rw [mkss_length]; exact m.s
  · obtain ⟨y, hy, he⟩ := mkss_mem _ _ z hz; rw [he]; exact m.sz y hy
  · show (marks _ _).length ≤ _; rw [marks_length]; exact m.r
  · show (marks _ _).length ≤ _; rw [marks_length]; exact m.g
  · show (marks _ _).length ≤ _; rw [marks_length]; exact m.e
  · show (mkss _ _).length ≤ _; rw [mkss_length]; exact m.k
  · obtain ⟨y, hy, he⟩ := mkss_mem _ _ z hz; rw [he]; exact m.kz y hy

end Go.Proofs.Ytihkhjbbfpnndaa

/- What is proved here: the contracts of the laws' helper functions that make a list of bytes and bytes anew, told by kinds. -/
namespace Go.Proofs.Ytihkhjbbfpnndaa
open Go.RowKit
set_option linter.unusedVariables false
set_option maxRecDepth 100000

theorem toBs_gn (s : Sl) (zss : List (List Int)) (w : World) (o : RowOk bytesK w s zss) (hl : zss.length ≤ 1048576) (hz : ∀ z ∈ zss, z.length ≤ 1048576) :
    Calls Try.prog 6 #[.slice s.a s.n s.c] w fun e w' => e = .returned (.slice (some ⟨w.heap.size, 0, none⟩) zss.length zss.length) ∧ OBss w' w.heap.size zss 23 w'.heap.size ∧ RowOk bytesK w' ⟨some ⟨w.heap.size, 0, none⟩, zss.length, zss.length⟩ zss ∧ Below w.heap.size w w' := by
  have hb := bs_of_row o
  have hn : s.n = zss.length := o.len
  refine (toByteSS_any s.a s.n s.c zss w hb (by omega) hz).mono ?_
  rintro e w' ⟨rfl, h1, h2⟩
  obtain ⟨d, hd⟩ := row_of_obss h1 (Nat.le_refl _) hb.bytes hl []
  exact ⟨by rw [hn], h1, (rowK bytesK 23).ok hd, h2⟩

theorem toB_gn (s : Sl) (z : List Int) (w : World) (o : BOk w s z) (hl : z.length ≤ 1048576) :
    Calls Try.prog 7 #[.slice s.a s.n s.c] w fun e w' => e = .returned (.slice (some ⟨w.heap.size, 0, none⟩) z.length z.length) ∧ w'.ownsRow w.heap.size 5 1 (.slice (some ⟨w.heap.size, 0, none⟩) z.length z.length) z.length (z.map (Value.int .u8)) ∧ BOk w' ⟨some ⟨w.heap.size, 0, none⟩, z.length, z.length⟩ z ∧ Below w.heap.size w w' := by
  have hn : z.length = s.n := o.row.1
  refine (toByteS_any s.a s.n s.c z w o.row (by omega)).mono ?_
  rintro e w' ⟨rfl, h1, h2⟩
  rw [← hn] at h1 ⊢
  exact ⟨rfl, h1, ⟨BRow.own2 h1 o.row.2.1, Nat.le_refl _, by unfold maxLen; show z.length ≤ _; omega, fun e => by cases e⟩, h2⟩

end Go.Proofs.Ytihkhjbbfpnndaa
