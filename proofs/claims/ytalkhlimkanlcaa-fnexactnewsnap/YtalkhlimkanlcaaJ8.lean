/- What is proved here: what the program's IsAhead and the model's l1Ahead answer, for slices of bytes of any length: whether the first is less than the second, byte by byte. -/
import Derived.Test.YtalkhlimkanlcaaChecked
import Derived.Test.YtalkhlimkanlcaaJ1
import Derived.WalkKit
import Derived.WalkLawsBesides
import Derived.Lib.BytesEntry
import Derived.KernelRfl
import Derived.Test.YtalkhlimkanlcaaJ2
import Derived.Test.YtalkhlimkanlcaaJ6
import Derived.Maps.OwnSet
import Derived.DeepKeys4
import Derived.Test.YtalkhlimkanlcaaJ4
import Derived.Laws.CopyRow
import Derived.WalkSmall
import Derived.WalkSpells
import Derived.Maps.Views
import Derived.Deep.RegionLaw
import Derived.Deep.RegionHeld3
import Derived.Deep.RegionWith
import Derived.RegionTactic
import Derived.Test.YtalkhlimkanlcaaJ3
import Derived.Deep.MidRow
namespace Go.Proofs.Ytalkhlimkanlcaa
open Go.RowKit
set_option linter.unusedVariables false
set_option maxRecDepth 100000

/-- Whether the first list of bytes is less than the second. -/
def aheadB (xs ys : List Int) : Bool := Op.bytesLess (strOfNums xs).toList (strOfNums ys).toList

theorem less_of_compare : ∀ (l m : List UInt8), decide (Lib.compareBytes l m < 0) = Op.bytesLess l m
  | [], [] => by simp [Lib.compareBytes, Op.bytesLess]
  | [], _ :: _ => by simp [Lib.compareBytes, Op.bytesLess]
  | _ :: _, [] => by simp [Lib.compareBytes, Op.bytesLess]
  | x :: a, y :: b => by
    have ih := less_of_compare a b
    unfold Lib.compareBytes Op.bytesLess
    by_cases h1 : x < y
    · simp [h1]
    · by_cases h2 : y < x
      · have hne : (x == y) = false := by
          rw [beq_eq_false_iff_ne]; intro e; subst e; exact h1 h2
        simp [h1, h2, hne]
      · have e : x = y := UInt8.le_antisymm (UInt8.not_lt.1 h2) (UInt8.not_lt.1 h1)
        subst e
        simp [h1, ih]

theorem run_bytesOf {P : Program} (w : World) (a : Option Addr) (len cap : Nat) (xs : List Int) (h : BRow w a len xs) :
    (Extern.Bytes.bytesOf (.slice a len cap)).run P w = .ok ⟨(Lib.bytesOf xs).toArray⟩ w := by
  cases a with
  | none =>
    have h0 := h.2.2.1 rfl
    have hx : xs = [] := List.length_eq_zero_iff.1 (by rw [h.1]; exact h0)
    subst hx
    rfl
  | some x =>
    have hl := Lib.run_loadBytesX (P := P) w xs x .empty (fun j y hj => by
      have hjl : j < xs.length := (List.getElem?_eq_some_iff.1 hj).1
      rw [h.2.2.2 x rfl j (by rw [← h.1]; exact hjl), List.getD_eq_getElem?_getD, hj]
      rfl)
    rw [h.1] at hl
    show (Extern.Bytes.loadBytes x len .empty).run P w = _
    rw [hl]
    congr 1
    apply ByteArray.ext
    show (#[] : Array UInt8) ++ (Lib.bytesOf xs).toArray = (Lib.bytesOf xs).toArray
    simp

theorem run_compare {P : Program} (w : World) (a b : Option Addr) (la ca lb cb : Nat) (xs ys : List Int) (ha : BRow w a la xs) (hb : BRow w b lb ys) :
    (Extern.BytealgCompare.compare #[.slice a la ca, .slice b lb cb]).run P w = .ok (.int .i64 (Lib.compareBytes (Lib.bytesOf xs) (Lib.bytesOf ys))) w := by
  change Sem.run P (do pure (goInt (Extern.BytealgCompare.cmp (← Extern.Bytes.bytesOf (.slice a la ca)) (← Extern.Bytes.bytesOf (.slice b lb cb))))) w = _
  simp only [Sem.run_bind, run_bytesOf w a la ca xs ha, run_bytesOf w b lb cb ys hb, Sem.run_pure, Result.andThen]
  rw [Lib.cmp_eq]
  rfl

theorem l1Ahead_any (a b : Option Addr) (la ca lb cb : Nat) (xs ys : List Int) (w : World) (ha : BRow w a la xs) (hb : BRow w b lb ys) :
    Calls Try.prog 103 #[.slice a la ca, .slice b lb cb] w fun e w' => e = .returned (.bool (aheadB xs ys)) ∧ w' = w := by
  have h1 := conv_any (P := Try.prog) w 45 5 9 Try.underlying45 Try.underlying5 Try.underlying9 a la ca xs ha
  have h2 := conv_any (P := Try.prog) w 45 5 9 Try.underlying45 Try.underlying5 Try.underlying9 b lb cb ys hb
  clear ha hb
  go_enter Try.func103, Try.ntmps103
  go_wp2
  go_ret
  exact ⟨rfl, rfl⟩

theorem implAhead_any (a b : Option Addr) (la ca lb cb : Nat) (xs ys : List Int) (w : World) (ha : BRow w a la xs) (hb : BRow w b lb ys) :
    Calls Try.prog 99 #[.slice a la ca, .slice b lb cb] w fun e w' => e = .returned (.bool (aheadB xs ys)) ∧ w' = w := by
  have hr : (callFunc 105 #[.slice a la ca, .slice b lb cb]).run Try.prog w = .ok (.value (.int .i64 (Lib.compareBytes (Lib.bytesOf xs) (Lib.bytesOf ys)))) w := by
    rw [run_callFunc_extern (P := Try.prog) Try.func105 (by kernel_rfl) (by kernel_rfl) (by kernel_rfl) (e := Extern.BytealgCompare.compare) (by kernel_rfl), run_compare w a b la ca lb cb xs ys ha hb]
    rfl
  have e := less_of_compare (Lib.bytesOf xs) (Lib.bytesOf ys)
  rw [← Lib.strOfNums_toList, ← Lib.strOfNums_toList] at e
  rw [← Lib.strOfNums_toList, ← Lib.strOfNums_toList] at hr
  have HE := hide e
  clear ha hb e
  generalize Lib.compareBytes (strOfNums xs).toList (strOfNums ys).toList = c at hr HE
  go_enter Try.func99, Try.ntmps99
  go_wp2
  go_ret
  exact ⟨ret_bool (unhide HE), rfl⟩

end Go.Proofs.Ytalkhlimkanlcaa

/- What is proved here: plain facts on the fault of a list of signers; no program is named. -/
namespace Go.Proofs.Ytalkhlimkanlcaa
open Go.RowKit
set_option linter.unusedVariables false
set_option maxRecDepth 100000

/-- Whether the signer at a place has a fault: no address, or not behind the one ahead. -/
def sgBad (zss : List (List Int)) (k : Nat) (z : List Int) : Bool := z.length != 4 || (decide (0 < k) && !aheadB (zss.getD (k - 1) []) z)

/-- The first fault among the signers from a place on. -/
def sgFrom (zss : List (List Int)) : Nat → List (List Int) → Int
  | _, [] => 0
  | k, z :: r => if sgBad zss k z = true then 1 else sgFrom zss (k + 1) r

def sgFlt (zss : List (List Int)) : Int := if 7 < zss.length then 2 else sgFrom zss 0 zss

theorem sgFrom_step (zss : List (List Int)) (k : Nat) (z : List Int) (h : zss[k]? = some z) : sgFrom zss k (zss.drop k) = if sgBad zss k z = true then 1 else sgFrom zss (k + 1) (zss.drop (k + 1)) := by
  obtain ⟨hk, e⟩ := List.getElem?_eq_some_iff.1 h
  rw [List.drop_eq_getElem_cons hk, e]
  rfl

theorem sgFrom_end (zss : List (List Int)) (k : Nat) (h : zss.length ≤ k) : sgFrom zss k (zss.drop k) = 0 := by
  rw [List.drop_eq_nil_of_le h]; rfl

theorem sgFrom_cases (zss : List (List Int)) : ∀ (r : List (List Int)) (k : Nat), sgFrom zss k r = 0 ∨ sgFrom zss k r = 1
  | [], k => .inl rfl
  | z :: r, k => by
    unfold sgFrom
    split
    · exact .inr rfl
    · exact sgFrom_cases zss r (k + 1)

theorem sgFlt_cases (zss : List (List Int)) : sgFlt zss = 0 ∨ sgFlt zss = 1 ∨ sgFlt zss = 2 := by
  unfold sgFlt
  split
  · omega
  · rcases sgFrom_cases zss zss 0 with h | h <;> omega

end Go.Proofs.Ytalkhlimkanlcaa

/- What is proved here: plain facts on the order of lists of bytes, and on where one stands among others that rise; no program is named. -/
namespace Go.Proofs.Ytalkhlimkanlcaa
open Go.RowKit
set_option linter.unusedVariables false
set_option maxRecDepth 100000

/-- How two lists of bytes compare. -/
def cmpB (xs ys : List Int) : Int := Lib.compareBytes (Lib.bytesOf xs) (Lib.bytesOf ys)

theorem cmp_zero : ∀ (a b : List UInt8), Lib.compareBytes a b = 0 ↔ a = b
  | [], [] => by simp [Lib.compareBytes]
  | [], _ :: _ => by simp [Lib.compareBytes]
  | _ :: _, [] => by simp [Lib.compareBytes]
  | x :: a, y :: b => by
    unfold Lib.compareBytes
    by_cases h1 : x < y
    · have hne : x ≠ y := fun e => by subst e; exact UInt8.lt_irrefl _ h1
      simp [h1, hne]
    · by_cases h2 : y < x
      · have hne : x ≠ y := fun e => by subst e; exact h1 h2
        simp [h1, h2, hne]
      · have e : x = y := UInt8.le_antisymm (UInt8.not_lt.1 h2) (UInt8.not_lt.1 h1)
        subst e
        simp [h1, cmp_zero a b]

theorem less_trans : ∀ (a b c : List UInt8), Op.bytesLess a b = true → Op.bytesLess b c = true → Op.bytesLess a c = true
  | _, [], _, h, _ => by simp [Op.bytesLess] at h
  | _, _ :: _, [], _, h => by simp [Op.bytesLess] at h
  | [], _ :: _, _ :: _, _, _ => by simp [Op.bytesLess]
  | x :: a, y :: b, z :: c, h1, h2 => by
    simp only [Op.bytesLess, Bool.or_eq_true, decide_eq_true_eq, Bool.and_eq_true, beq_iff_eq] at h1 h2 ⊢
    rcases h1 with h1 | ⟨rfl, h1⟩
    · rcases h2 with h2 | ⟨rfl, h2⟩
      · exact .inl (UInt8.lt_trans h1 h2)
      · exact .inl h1
    · rcases h2 with h2 | ⟨rfl, h2⟩
      · exact .inl h2
      · exact .inr ⟨rfl, less_trans a b c h1 h2⟩

theorem less_irrefl : ∀ a : List UInt8, Op.bytesLess a a = false
  | [] => rfl
  | x :: a => by simp [Op.bytesLess, less_irrefl a, UInt8.lt_irrefl]

theorem aheadB_def (xs ys : List Int) : aheadB xs ys = Op.bytesLess (Lib.bytesOf xs) (Lib.bytesOf ys) := by
  unfold aheadB
  rw [Lib.strOfNums_toList, Lib.strOfNums_toList]

theorem cmpB_neg (xs ys : List Int) : decide (cmpB xs ys < 0) = aheadB xs ys := by
  rw [aheadB_def]
  exact less_of_compare _ _

theorem aheadB_trans {xs ys zs : List Int} (h1 : aheadB xs ys = true) (h2 : aheadB ys zs = true) : aheadB xs zs = true := by
  rw [aheadB_def] at *
  exact less_trans _ _ _ h1 h2

theorem aheadB_irrefl (xs : List Int) : aheadB xs xs = false := by
  rw [aheadB_def]
  exact less_irrefl _

theorem bytesOf_inj : ∀ (a b : List Int), (∀ x ∈ a, 0 ≤ x ∧ x ≤ 255) → (∀ x ∈ b, 0 ≤ x ∧ x ≤ 255) → Lib.bytesOf a = Lib.bytesOf b → a = b := by
  intro a b ha hb h
  have e := strEq_dec ha hb
  unfold strEq at e
  rw [Lib.strOfNums_toList, Lib.strOfNums_toList, h] at e
  simp at e
  exact e

theorem cmpB_zero {xs ys : List Int} (hx : ∀ x ∈ xs, 0 ≤ x ∧ x ≤ 255) (hy : ∀ x ∈ ys, 0 ≤ x ∧ x ≤ 255) : cmpB xs ys = 0 ↔ xs = ys := by
  unfold cmpB
  rw [cmp_zero]
  exact ⟨bytesOf_inj xs ys hx hy, fun e => by rw [e]⟩

/-- Signers without a fault: each is ahead of the next one. -/
theorem sgFrom_rise (zss : List (List Int)) : ∀ (n k : Nat), n = zss.length - k → sgFrom zss k (zss.drop k) = 0 → ∀ i z, k ≤ i → zss[i]? = some z → z.length = 4 ∧ (0 < i → aheadB (zss.getD (i - 1) []) z = true) := by
  intro n
  induction n with
  | zero =>
    intro k hk h i z hi hz
    have := (List.getElem?_eq_some_iff.1 hz).1
    omega
  | succ n ih =>
    intro k hk h i z hi hz
    obtain ⟨y, hy⟩ : ∃ y, zss[k]? = some y := ⟨_, List.getElem?_eq_getElem (by omega)⟩
    rw [sgFrom_step zss k y hy] at h
    split at h
    · omega
    · rename_i hb
      by_cases e : i = k
      · subst e
        obtain rfl : y = z := Option.some.inj (hy.symm.trans hz)
        unfold sgBad at hb
        simp only [Bool.or_eq_true, bne_iff_ne, ne_eq, Bool.and_eq_true, decide_eq_true_eq, Bool.not_eq_true', not_or, Decidable.not_not, not_and, Bool.not_eq_false] at hb
        exact ⟨hb.1, hb.2⟩
      · exact ih (k + 1) (by omega) h i z (by omega) hz

theorem sg_rise {zss : List (List Int)} (h : sgFlt zss = 0) : zss.length ≤ 7 ∧ (∀ z ∈ zss, z.length = 4) ∧ ∀ (i j : Nat) (x y : List Int), i < j → zss[i]? = some x → zss[j]? = some y → aheadB x y = true := by
  unfold sgFlt at h
  split at h
  · omega
  · rename_i h7
    have key := sgFrom_rise zss _ 0 rfl h
    refine ⟨by omega, fun z hz => ?_, ?_⟩
    · obtain ⟨i, hi⟩ := List.getElem?_of_mem hz
      exact (key i z (Nat.zero_le _) hi).1
    · intro i j
      induction j with
      | zero => intro x y hij; omega
      | succ j ih =>
        intro x y hij hx hy
        have h1 := (key (j + 1) y (Nat.zero_le _) hy).2 (by omega)
        have hjl : j < zss.length := by have := (List.getElem?_eq_some_iff.1 hy).1; omega
        have e1 : zss.getD (j + 1 - 1) [] = zss[j] := by rw [Nat.add_sub_cancel, List.getD_eq_getElem?_getD, List.getElem?_eq_getElem hjl]; rfl
        rw [e1] at h1
        by_cases e : i = j
        · subst e
          obtain rfl : zss[i] = x := Option.some.inj ((List.getElem?_eq_getElem hjl).symm.trans hx)
          exact h1
        · exact aheadB_trans (ih x zss[j] (by omega) hx (List.getElem?_eq_getElem hjl)) h1

/-- How many are ahead of one. -/
def lowB (zss : List (List Int)) (t : List Int) : Nat := (zss.takeWhile (fun z => aheadB z t)).length

theorem lowB_le (zss : List (List Int)) (t : List Int) : lowB zss t ≤ zss.length := by
  unfold lowB
  exact (List.takeWhile_prefix _).length_le

theorem lowB_lt (zss : List (List Int)) (t : List Int) : ∀ (i : Nat) (z : List Int), zss[i]? = some z → i < lowB zss t → aheadB z t = true := by
  unfold lowB
  induction zss with
  | nil => intro i z hz; simp at hz
  | cons y r ih =>
    intro i z hz h
    rw [List.takeWhile_cons] at h
    split at h
    · rename_i hb
      cases i with
      | zero => simp at hz; subst hz; exact hb
      | succ i => exact ih i z (by simpa using hz) (by simpa using h)
    · simp at h

theorem lowB_at (zss : List (List Int)) (t z : List Int) (h : zss[lowB zss t]? = some z) : aheadB z t = false := by
  unfold lowB at h
  induction zss with
  | nil => simp at h
  | cons y r ih =>
    rw [List.takeWhile_cons] at h
    split at h
    · rw [List.length_cons, List.getElem?_cons_succ] at h
      exact ih h
    · rename_i hb
      simp at h
      subst h
      simpa using hb

/-- Where all rise, just those below that place are ahead. -/
theorem lowB_iff {zss : List (List Int)} (hr : ∀ (i j : Nat) (x y : List Int), i < j → zss[i]? = some x → zss[j]? = some y → aheadB x y = true) (t : List Int) (i : Nat) (z : List Int) (hz : zss[i]? = some z) : aheadB z t = decide (i < lowB zss t) := by
  by_cases h : i < lowB zss t
  · rw [decide_eq_true h]
    exact lowB_lt zss t i z hz h
  · rw [decide_eq_false h]
    by_cases e : i = lowB zss t
    · subst e
      exact lowB_at zss t z hz
    · have hl : lowB zss t < zss.length := by have := (List.getElem?_eq_some_iff.1 hz).1; omega
      have h1 := hr (lowB zss t) i zss[lowB zss t] z (by omega) (List.getElem?_eq_getElem hl) hz
      have h2 := lowB_at zss t _ (List.getElem?_eq_getElem hl)
      cases h3 : aheadB z t with
      | false => rfl
      | true => rw [aheadB_trans h1 h3] at h2; cases h2

/-- One is there just where it stands at that place. -/
theorem lowB_mem {zss : List (List Int)} (hr : ∀ (i j : Nat) (x y : List Int), i < j → zss[i]? = some x → zss[j]? = some y → aheadB x y = true) (t : List Int) : zss[lowB zss t]? = some t ↔ t ∈ zss := by
  constructor
  · intro h; exact List.mem_of_getElem? h
  · intro h
    obtain ⟨i, hi⟩ := List.getElem?_of_mem h
    have h1 := lowB_iff hr t i t hi
    rw [aheadB_irrefl] at h1
    have h2 : ¬ i < lowB zss t := by simpa using h1.symm
    by_cases e : i = lowB zss t
    · rw [← e]; exact hi
    · have hl : lowB zss t < zss.length := by have := (List.getElem?_eq_some_iff.1 hi).1; omega
      have h3 := hr (lowB zss t) i zss[lowB zss t] t (by omega) (List.getElem?_eq_getElem hl) hi
      have h4 := lowB_at zss t _ (List.getElem?_eq_getElem hl)
      rw [h3] at h4
      cases h4

end Go.Proofs.Ytalkhlimkanlcaa

/- What is proved here: how a key of the program's poll reads, and the laws of its map that the walks take. -/
namespace Go.Proofs.Ytalkhlimkanlcaa
open Go.RowKit
set_option linter.unusedVariables false
set_option maxRecDepth 100000

theorem laidOutP : laidOutB Try.prog = true := by kernel_rfl

theorem ballotLaw : Maps.Keyed Try.prog 106 := Maps.Keyed.of_law (deep_law_laid laidOutP (m := 4) (by omega) (of_decide_eq_true (by kernel_rfl)) (by kernel_rfl) (by kernel_rfl))

/-- What a key reads as. -/
def klOf (s t : List Int) : Lit := .string (Lib.bytesOf (s ++ t))

theorem wf_u8 {z : Int} (h : 0 ≤ z ∧ z ≤ 255) : (Lit.int .u8 z).wf = true := by
  have e1 : IntKind.u8.min = 0 := rfl
  have e2 : IntKind.u8.max = 255 := rfl
  simp [Lit.wf, e1, e2]
  omega

theorem keyLits_u8 (d : Nat) {z : Int} (h : 0 ≤ z ∧ z ≤ 255) : Try.prog.keyLits (d + 1) 5 [.int .u8 z] = some [.int .u8 z] := by
  unfold Program.keyLits
  rw [Try.underlying5]
  simp [wf_u8 h]

theorem cellsU8 : Try.prog.cellsOf 5 = 1 := by kernel_rfl
theorem cellsAddr : Try.prog.cellsOf 78 = 4 := by kernel_rfl
theorem cellsBallot : Try.prog.cellsOf 106 = 8 := by kernel_rfl

theorem keyLits_addr (d : Nat) {z0 z1 z2 z3 : Int} (h0 : 0 ≤ z0 ∧ z0 ≤ 255) (h1 : 0 ≤ z1 ∧ z1 ≤ 255) (h2 : 0 ≤ z2 ∧ z2 ≤ 255) (h3 : 0 ≤ z3 ∧ z3 ≤ 255) :
    Try.prog.keyLits (d + 2) 78 [.int .u8 z0, .int .u8 z1, .int .u8 z2, .int .u8 z3] = some [.int .u8 z0, .int .u8 z1, .int .u8 z2, .int .u8 z3] := by
  unfold Program.keyLits
  rw [Try.underlying78]
  simp only [cellsU8, cellsAddr]
  have e : List.range 4 = [0, 1, 2, 3] := rfl
  rw [e]
  simp [keyLits_u8 d h0, keyLits_u8 d h1, keyLits_u8 d h2, keyLits_u8 d h3]

theorem keyLits_ballot (d : Nat) {z0 z1 z2 z3 y0 y1 y2 y3 : Int} (h0 : 0 ≤ z0 ∧ z0 ≤ 255) (h1 : 0 ≤ z1 ∧ z1 ≤ 255) (h2 : 0 ≤ z2 ∧ z2 ≤ 255) (h3 : 0 ≤ z3 ∧ z3 ≤ 255) (h4 : 0 ≤ y0 ∧ y0 ≤ 255) (h5 : 0 ≤ y1 ∧ y1 ≤ 255) (h6 : 0 ≤ y2 ∧ y2 ≤ 255) (h7 : 0 ≤ y3 ∧ y3 ≤ 255) :
    Try.prog.keyLits (d + 3) 106 [.int .u8 z0, .int .u8 z1, .int .u8 z2, .int .u8 z3, .int .u8 y0, .int .u8 y1, .int .u8 y2, .int .u8 y3] = some [.int .u8 z0, .int .u8 z1, .int .u8 z2, .int .u8 z3, .int .u8 y0, .int .u8 y1, .int .u8 y2, .int .u8 y3] := by
  unfold Program.keyLits
  rw [Try.underlying106]
  simp [cellsBallot, cellsAddr, keyLits_addr d h0 h1 h2 h3, keyLits_addr d h4 h5 h6 h7]

theorem keyByte {z : Int} (h : 0 ≤ z ∧ z ≤ 255) : Lit.keyBytes (.int .u8 z) = [UInt8.ofNat z.toNat] := by
  have e : (z % 2 ^ 8).toNat = z.toNat := by omega
  show bytesBE 1 (z % 2 ^ 8).toNat = _
  rw [e]
  simp only [bytesBE, bytesLE, List.reverse_cons, List.reverse_nil, List.nil_append]
  rw [Nat.mod_eq_of_lt (by omega)]

theorem typesSize : Try.prog.types.size = 138 := by kernel_rfl

theorem keyOf_ballot {z0 z1 z2 z3 y0 y1 y2 y3 : Int} (h0 : 0 ≤ z0 ∧ z0 ≤ 255) (h1 : 0 ≤ z1 ∧ z1 ≤ 255) (h2 : 0 ≤ z2 ∧ z2 ≤ 255) (h3 : 0 ≤ z3 ∧ z3 ≤ 255) (h4 : 0 ≤ y0 ∧ y0 ≤ 255) (h5 : 0 ≤ y1 ∧ y1 ≤ 255) (h6 : 0 ≤ y2 ∧ y2 ≤ 255) (h7 : 0 ≤ y3 ∧ y3 ≤ 255) :
    keyOf Try.prog 106 (.agg #[.int .u8 z0, .int .u8 z1, .int .u8 z2, .int .u8 z3, .int .u8 y0, .int .u8 y1, .int .u8 y2, .int .u8 y3]) = some (klOf [z0, z1, z2, z3] [y0, y1, y2, y3]) := by
  have k1 : Try.prog.keyType 106 = true := by kernel_rfl
  unfold keyOf
  rw [Try.underlying106]
  simp only [k1, Value.formed, Try.underlying106, cellsBallot, typesSize]
  have e := keyLits_ballot (138 - 2) h0 h1 h2 h3 h4 h5 h6 h7
  simp only [Nat.reduceSub, Nat.reduceAdd] at e ⊢
  simp only [Value.cells, List.size_toArray, List.length_cons, List.length_nil, Nat.reduceAdd, BEq.rfl, Bool.and_self, if_true]
  rw [e]
  simp only [Option.map_some, keyBytes, List.flatMap_cons, List.flatMap_nil, keyByte h0, keyByte h1, keyByte h2, keyByte h3, keyByte h4, keyByte h5, keyByte h6, keyByte h7]
  rfl

/-- Two keys are the same just where both parts are. -/
theorem klOf_inj {s t s' t' : List Int} (hs : s.length = s'.length) (h1 : ∀ x ∈ s, 0 ≤ x ∧ x ≤ 255) (h2 : ∀ x ∈ t, 0 ≤ x ∧ x ≤ 255) (h3 : ∀ x ∈ s', 0 ≤ x ∧ x ≤ 255) (h4 : ∀ x ∈ t', 0 ≤ x ∧ x ≤ 255) (h : klOf s t = klOf s' t') : s = s' ∧ t = t' := by
  unfold klOf at h
  simp only [Lit.string.injEq] at h
  have e := bytesOf_inj (s ++ t) (s' ++ t') (fun x hx => (List.mem_append.1 hx).elim (h1 x) (h2 x)) (fun x hx => (List.mem_append.1 hx).elim (h3 x) (h4 x)) h
  exact List.append_inj e hs

/-- How an element of the poll reads: a place and what the vote is for. -/
def standR : Value → Option (DataW Unit × List MemPlace)
  | .agg cs => (match cs.toList with | [.int .i64 n, .bool b] => some (.agg [.lit (.int .i64 n), .lit (.bool b)], []) | _ => none)
  | _ => none

theorem standR_mk (n : Int) (b : Bool) : standR (.agg #[.int .i64 n, .bool b]) = some (.agg [.lit (.int .i64 n), .lit (.bool b)], []) := rfl

theorem standR_inv {v : Value} {z : DataW Unit × List MemPlace} (h : standR v = some z) : ∃ n b, v = .agg #[.int .i64 n, .bool b] := by
  unfold standR at h
  split at h
  · rename_i cs
    split at h
    · rename_i n b e
      refine ⟨n, b, ?_⟩
      obtain ⟨l⟩ := cs
      simp only at e
      rw [e]
    · cases h
  · cases h

theorem zeroStand (w : World) : (zeroValue 116).run Try.prog w = .ok (.agg #[.int .i64 0, .bool false]) w := by kernel_rfl

end Go.Proofs.Ytalkhlimkanlcaa

/- What is proved here: what the program's addressOf and ballotOf answer: four bytes as an array, two such as a key. -/
namespace Go.Proofs.Ytalkhlimkanlcaa
open Go.RowKit
set_option linter.unusedVariables false
set_option maxRecDepth 100000

theorem sizeU8 : (Try.prog.info? 5).map (·.size) = some 1 := by kernel_rfl

theorem copy_addr (s : Sl) (z0 z1 z2 z3 : Int) (w : World) (T : TypeId) (o : BOk w s [z0, z1, z2, z3]) :
    ∃ W, (Builtin.copy_ #[45, 45] 3 #[.slice (some ⟨w.heap.size + 1, 0, none⟩) 4 4, .slice s.a s.n s.c]).run Try.prog ((w.alloc (.cells #[.int .u8 0, .int .u8 0, .int .u8 0, .int .u8 0] T)).alloc (.cells #[.int .u8 0, .int .u8 0, .int .u8 0, .int .u8 0] T)) = .ok (.int .i64 4) W ∧
      SBlk W w.heap.size [.int .u8 0, .int .u8 0, .int .u8 0, .int .u8 0] T ∧ SBlk W (w.heap.size + 1) [.int .u8 z0, .int .u8 z1, .int .u8 z2, .int .u8 z3] T ∧ Below w.heap.size w W := by
  obtain ⟨a, n, c⟩ := s
  obtain ⟨hrow, _, _, _⟩ := o
  have hn : n = 4 := hrow.1.symm
  subst hn
  obtain ⟨b, off, ea, hb, hc⟩ := hrow.at (by show 0 < 4; omega)
  simp only at ea
  subst ea
  have k0 := (SBlk.new w #[.int .u8 0, .int .u8 0, .int .u8 0, .int .u8 0] T).next (.cells #[.int .u8 0, .int .u8 0, .int .u8 0, .int .u8 0] T)
  have k1 := SBlk.new (w.alloc (.cells #[.int .u8 0, .int .u8 0, .int .u8 0, .int .u8 0] T)) #[.int .u8 0, .int .u8 0, .int .u8 0, .int .u8 0] T
  have b1 : Below w.heap.size w ((w.alloc (.cells #[.int .u8 0, .int .u8 0, .int .u8 0, .int .u8 0] T)).alloc (.cells #[.int .u8 0, .int .u8 0, .int .u8 0, .int .u8 0] T)) := ((Below.refl _ _).alloc (Nat.le_refl _) _).alloc (by simp) _
  rw [show (w.alloc (.cells #[.int .u8 0, .int .u8 0, .int .u8 0, .int .u8 0] T)).heap.size = w.heap.size + 1 by simp] at k1
  generalize ((w.alloc (.cells #[.int .u8 0, .int .u8 0, .int .u8 0, .int .u8 0] T)).alloc (.cells #[.int .u8 0, .int .u8 0, .int .u8 0, .int .u8 0] T)) = W1 at k0 k1 b1 ⊢
  have hr := run_copy_row (P := Try.prog) W1 45 45 3 5 (w.heap.size + 1) 0 4 4 ⟨b, off, none⟩ 4 c #[.int .u8 0, .int .u8 0, .int .u8 0, .int .u8 0] T [.int .u8 z0, .int .u8 z1, .int .u8 z2, .int .u8 z3] Try.underlying45 sizeU8 k1 rfl
    (fun j v hj => by
      rw [add_none, b1.cell (p := ⟨b, off + j, none⟩) hb]
      match j, hj with
      | 0, hj => rw [hc 0 (by show 0 < 4; omega)]; simpa using hj
      | 1, hj => rw [hc 1 (by show 1 < 4; omega)]; simpa using hj
      | 2, hj => rw [hc 2 (by show 2 < 4; omega)]; simpa using hj
      | 3, hj => rw [hc 3 (by show 3 < 4; omega)]; simpa using hj
      | (j + 4), hj => simp at hj)
    (by simp) (fun v hv => by simp at hv; rcases hv with rfl | rfl | rfl | rfl <;> rfl)
  refine ⟨_, hr, ?_, ?_, ?_⟩
  · exact (_root_.Go.setRow_other W1 _ _ _ (by omega)).trans k0
  · exact setRow_heap W1 _ _ _ T _ k1
  · refine b1.grown (row := some (w.heap.size + 1)) ⟨rfl, rfl, rfl, by simp [World.setRow], fun k _ hk => _root_.Go.setRow_other W1 _ k _ (fun e => hk (by simp [e]))⟩ b1.size (fun k e => by cases e; omega)

set_option maxHeartbeats 1000000 in
theorem addressOf_any (s : Sl) (z0 z1 z2 z3 : Int) (w : World) (o : BOk w s [z0, z1, z2, z3]) :
    Calls Try.prog 57 #[.slice s.a s.n s.c] w fun e w' => e = .returned (.agg #[.int .u8 z0, .int .u8 z1, .int .u8 z2, .int .u8 z3]) ∧ Below w.heap.size w w' := by
  obtain ⟨W2, hr, k0, k1, b2⟩ := copy_addr s z0 z1 z2 z3 w 78 o
  have HB := hide b2
  have c0 := k1.cell 0
  have c1 := k1.cell 1
  have c2 := k1.cell 2
  have c3 := k1.cell 3
  have d0 := k0.cell 0
  have d1 := k0.cell 1
  have d2 := k0.cell 2
  have d3 := k0.cell 3
  have f0 := k0.free 0
  have f1 := k0.free 1
  have f2 := k0.free 2
  have f3 := k0.free 3
  simp only [List.getElem?_cons_zero, List.getElem?_cons_succ] at c0 c1 c2 c3 d0 d1 d2 d3
  clear o k0 k1 b2
  go_enter Try.func57, Try.ntmps57
  go_wp2_with fail
  refine bodyPost_ret (v := .agg #[.int .u8 z0, .int .u8 z1, .int .u8 z2, .int .u8 z3]) (by simp [results, Try.results57, go_sem, d0, d1, d2, d3]) rfl ⟨rfl, ?_⟩
  exact ((((unhide HB).setCell (Nat.le_refl _) _).setCell (Nat.le_refl _) _).setCell (Nat.le_refl _) _).setCell (Nat.le_refl _) _

set_option maxHeartbeats 2000000 in
theorem ballotOf_any (s t : Sl) (z0 z1 z2 z3 y0 y1 y2 y3 : Int) (w : World) (o : BOk w s [z0, z1, z2, z3]) (q : BOk w t [y0, y1, y2, y3]) :
    Calls Try.prog 102 #[.slice s.a s.n s.c, .slice t.a t.n t.c] w fun e w' => e = .returned (.agg #[.int .u8 z0, .int .u8 z1, .int .u8 z2, .int .u8 z3, .int .u8 y0, .int .u8 y1, .int .u8 y2, .int .u8 y3]) ∧ Below w.heap.size w w' := by
  have HA := hide (fun (W : World) (hb : Below w.heap.size w W) => addressOf_any s z0 z1 z2 z3 W (bytesK.below o hb (Nat.le_refl _)))
  have HC := hide (fun (W : World) (hb : Below w.heap.size w W) => addressOf_any t y0 y1 y2 y3 W (bytesK.below q hb (Nat.le_refl _)))
  have kb := SBlk.new w #[.int .u8 0, .int .u8 0, .int .u8 0, .int .u8 0, .int .u8 0, .int .u8 0, .int .u8 0, .int .u8 0] 106
  have bb := below_alloc w (.cells #[.int .u8 0, .int .u8 0, .int .u8 0, .int .u8 0, .int .u8 0, .int .u8 0, .int .u8 0, .int .u8 0] 106)
  obtain ⟨W0, e0⟩ : ∃ W, w.alloc (.cells #[.int .u8 0, .int .u8 0, .int .u8 0, .int .u8 0, .int .u8 0, .int .u8 0, .int .u8 0, .int .u8 0] 106) = W := ⟨_, rfl⟩
  rw [e0] at kb bb
  have HB0 := hide bb
  have HK := hide (fun (W : World) (hb : Below W0.heap.size W0 W) => kb.below hb kb.lt)
  clear o q kb bb
  go_enter Try.func102, Try.ntmps102
  go_wp2_with (rw [e0])
  try rw [e0]
  clear e0
  refine ((unhide HA) _ (unhide HB0)).mono ?_
  rintro e w1 ⟨rfl, b1⟩
  have HB1 := hide ((unhide HB0).trans (b1.mono (unhide HB0).size))
  have K1 := hide b1
  clear b1
  go_wp2_with fail
  refine ((unhide HC) _ (unhide HB1)).mono ?_
  rintro e w2 ⟨rfl, b2⟩
  have HB2 := hide ((unhide HB1).trans (b2.mono (unhide HB1).size))
  have k2 := (unhide HK) w2 ((unhide K1).trans (b2.mono (unhide K1).size))
  have c0 := k2.cell 0
  have c1 := k2.cell 1
  have c2 := k2.cell 2
  have c3 := k2.cell 3
  have c4 := k2.cell 4
  have c5 := k2.cell 5
  have c6 := k2.cell 6
  have c7 := k2.cell 7
  have f0 := k2.free 0
  have f1 := k2.free 1
  have f2 := k2.free 2
  have f3 := k2.free 3
  have f4 := k2.free 4
  have f5 := k2.free 5
  have f6 := k2.free 6
  have f7 := k2.free 7
  simp only [List.getElem?_cons_zero, List.getElem?_cons_succ] at c0 c1 c2 c3 c4 c5 c6 c7
  clear b2 k2 K1 HK
  go_wp2_with fail
  refine bodyPost_ret (v := .agg #[.int .u8 z0, .int .u8 z1, .int .u8 z2, .int .u8 z3, .int .u8 y0, .int .u8 y1, .int .u8 y2, .int .u8 y3]) (by simp [results, Try.results102, go_sem, c0, c1, c2, c3, c4, c5, c6, c7]) rfl ⟨rfl, ?_⟩
  exact ((((((((unhide HB2).setCell (Nat.le_refl _) _).setCell (Nat.le_refl _) _).setCell (Nat.le_refl _) _).setCell (Nat.le_refl _) _).setCell (Nat.le_refl _) _).setCell (Nat.le_refl _) _).setCell (Nat.le_refl _) _).setCell (Nat.le_refl _) _

end Go.Proofs.Ytalkhlimkanlcaa

/- What is proved here: what the program's poll tells and takes: has, put. -/
namespace Go.Proofs.Ytalkhlimkanlcaa
open Go.RowKit
set_option linter.unusedVariables false
set_option maxRecDepth 100000

/-- Bytes of an address. -/
def Adr (z : List Int) : Prop := z.length = 4 ∧ ∀ x ∈ z, 0 ≤ x ∧ x ≤ 255

theorem adr_of {w : World} {s : Sl} {z : List Int} (o : BOk w s z) (h : z.length = 4) : Adr z := ⟨h, o.row.2.1⟩

theorem adr_four {z : List Int} (h : Adr z) : ∃ z0 z1 z2 z3, z = [z0, z1, z2, z3] ∧ (0 ≤ z0 ∧ z0 ≤ 255) ∧ (0 ≤ z1 ∧ z1 ≤ 255) ∧ (0 ≤ z2 ∧ z2 ≤ 255) ∧ (0 ≤ z3 ∧ z3 ≤ 255) := by
  obtain ⟨h1, h2⟩ := h
  match z, h1 with
  | [z0, z1, z2, z3], _ => exact ⟨z0, z1, z2, z3, rfl, h2 z0 (by simp), h2 z1 (by simp), h2 z2 (by simp), h2 z3 (by simp)⟩

/-- The poll in block g: at most k votes; it has just those that are on the list. -/
def PollOk (w : World) (g k : Nat) (seen : List (List Int × List Int)) : Prop :=
  ∃ D : DataW Unit, w.ownsMap Try.prog 106 standR g k D ∧ ∀ s t, Adr s → Adr t → Maps.has D (klOf s t) = decide ((s, t) ∈ seen)

theorem grown_of_below {w w' : World} {B : Nat} (hb : Below B w w') (hB : w.heap.size ≤ B) : w.grownBy w' none := ⟨hb.os, hb.tape, hb.output, hb.size, fun k hk _ => hb.block k (Nat.lt_of_lt_of_le hk hB)⟩

theorem PollOk.below {w w' : World} {g k B : Nat} {seen : List (List Int × List Int)} (h : PollOk w g k seen) (hb : Below B w w') (hB : w.heap.size ≤ B) : PollOk w' g k seen := by
  obtain ⟨D, h1, h2⟩ := h
  exact ⟨D, h1.kept (grown_of_below hb hB) (by simp), h2⟩

theorem PollOk.lt {w : World} {g k : Nat} {seen : List (List Int × List Int)} (h : PollOk w g k seen) : g < w.heap.size := by
  obtain ⟨D, h1, _⟩ := h
  exact h1.lt

theorem PollOk.made (w : World) : PollOk (w.alloc (.map #[] 0)) w.heap.size 0 [] := ⟨.map [], World.ownsMap_made w _ _ _, fun s t _ _ => by simp [Maps.has]⟩

/-- 'm[k] = v' at a step of a region that draws its order. -/
theorem step_mapUpdate_own {H : Type} {P : Program} {ops : Array Oper} {o : Oper} {a : Act} {w : World} {K : Act → World → Prop} {Q : Exit → Act → World → Prop} {E : Prop} (hgd : o.guard = none) (m x v : Operand) (t : TypeId) (hop : o.op = Op.mapUpdate t m x v)
    (k e : TypeId) (L : Maps.Keyed P k) (ht : P.underlying t = some (.map k e)) (R : Value → Option (DataW H × List MemPlace)) (b n : Nat) (D : DataW H)
    (hm : a.eval m = .map (some b)) (hown : w.ownsMap P k R b n D) (hn : n < maxLen) (key val : Value) (kl : Lit) (hx : a.eval x = key) (hv : a.eval v = val) (hkey : keyOf P k key = some kl)
    (d : DataW H) (ps : List MemPlace) (hval : R val = some (d, ps))
    (h : ∀ w', w'.ownsMap P k R b (n + 1) (D.put kl d) → w.grownBy w' (some b) → K (a.put o.dst undef) w') : if Region.wanted o (yielded ops a.tmps) = true then Oper.wp P o a w K Q else E := by
  have hw : Region.wanted o (yielded ops a.tmps) = true := by simp [Region.wanted, hgd]
  rw [if_pos hw]
  obtain ⟨w', hrun, r1, r2⟩ := hown.update L ht hn hkey hval
  unfold Oper.wp execOp
  simp only [hop, hm, hx, hv, Sem.run_bind, hrun, Sem.run_pure, Result.andThen_ok]
  exact h w' r1 r2

set_option maxHeartbeats 2000000 in
theorem has_any (g k : Nat) (s t : Sl) (x y : List Int) (b : Bool) (seen : List (List Int × List Int)) (w : World) (o : BOk w s x) (q : BOk w t y) (hx : x.length = 4) (hy : y.length = 4) (hp : PollOk w g k seen) :
    Calls Try.prog 101 #[.map (some g), .agg #[.slice s.a s.n s.c, .slice t.a t.n t.c, .bool b]] w fun e w' => e = .returned (.bool (decide ((x, y) ∈ seen))) ∧ Below w.heap.size w w' := by
  have ax := adr_of o hx
  have ay := adr_of q hy
  obtain ⟨z0, z1, z2, z3, rfl, r0, r1, r2, r3⟩ := adr_four ax
  obtain ⟨y0, y1, y2, y3, rfl, t0, t1, t2, t3⟩ := adr_four ay
  have hkey := keyOf_ballot r0 r1 r2 r3 t0 t1 t2 t3
  have HB := hide (fun (W : World) (hb : Below w.heap.size w W) => ballotOf_any s t z0 z1 z2 z3 y0 y1 y2 y3 W (bytesK.below o hb (Nat.le_refl _)) (bytesK.below q hb (Nat.le_refl _)))
  have HP := hide (fun (W : World) (hb : Below w.heap.size w W) => hp.below hb (Nat.le_refl _))
  have B0 := hide (below_alloc w (.cells #[.slice s.a s.n s.c, .slice t.a t.n t.c, .bool b] 89))
  clear o q hp r0 r1 r2 r3 t0 t1 t2 t3 hx hy
  go_enter Try.func101, Try.ntmps101
  go_wp2_with fail
  refine ((unhide HB) _ (unhide B0)).mono ?_
  rintro e w1 ⟨rfl, b1⟩
  have HB1 := hide ((unhide B0).trans (b1.mono (unhide B0).size))
  obtain ⟨D, hown, hhas⟩ := (unhide HP) w1 (unhide HB1)
  have hh := hhas _ _ ax ay
  clear b1 hhas HP HB ax ay
  go_wp2_with (at_lookup; refine wpList_lookup_own_ok _ rfl _ _ 74 rfl 106 116 ballotLaw Try.underlying74 standR (zeroStand _) (.agg [.lit (.int .i64 0), .lit (.bool false)]) [] rfl g k D rfl hown _ _ rfl hkey ?_; intro v ps hv; obtain ⟨vn, vb, rfl⟩ := standR_inv hv; clear hv)
  go_ret
  refine ⟨rfl, ?_⟩
  exact (unhide HB1).alloc (unhide HB1).size _

set_option maxHeartbeats 2000000 in
theorem put_any (g k : Nat) (s t : Sl) (x y : List Int) (b : Bool) (pl : Int) (seen : List (List Int × List Int)) (w : World) (o : BOk w s x) (q : BOk w t y) (hx : x.length = 4) (hy : y.length = 4) (hp : PollOk w g k seen) (hk : k < maxLen) :
    Calls Try.prog 81 #[.map (some g), .int .i64 pl, .agg #[.slice s.a s.n s.c, .slice t.a t.n t.c, .bool b]] w fun e w' => e = .returned (.tuple #[]) ∧ PollOk w' g (k + 1) (seen ++ [(x, y)]) ∧ w.grownBy w' (some g) := by
  have ax := adr_of o hx
  have ay := adr_of q hy
  obtain ⟨z0, z1, z2, z3, rfl, r0, r1, r2, r3⟩ := adr_four ax
  obtain ⟨y0, y1, y2, y3, rfl, t0, t1, t2, t3⟩ := adr_four ay
  have hkey := keyOf_ballot r0 r1 r2 r3 t0 t1 t2 t3
  have HB := hide (fun (W : World) (hb : Below w.heap.size w W) => ballotOf_any s t z0 z1 z2 z3 y0 y1 y2 y3 W (bytesK.below o hb (Nat.le_refl _)) (bytesK.below q hb (Nat.le_refl _)))
  have HP := hide (fun (W : World) (hb : Below w.heap.size w W) => hp.below hb (Nat.le_refl _))
  have ka := SBlk.new w #[.slice s.a s.n s.c, .slice t.a t.n t.c, .bool b] 89
  have ba := below_alloc w (.cells #[.slice s.a s.n s.c, .slice t.a t.n t.c, .bool b] 89)
  obtain ⟨W0, e0⟩ : ∃ W, w.alloc (.cells #[.slice s.a s.n s.c, .slice t.a t.n t.c, .bool b] 89) = W := ⟨_, rfl⟩
  rw [e0] at ka ba
  have c0 := ka.cell 0
  have c1 := ka.cell 1
  have c2 := ka.cell 2
  simp only [List.getElem?_cons_zero, List.getElem?_cons_succ] at c0 c1 c2
  have B0 := hide ba
  have HKA := hide (fun (W : World) (hb : Below W0.heap.size W0 W) => ka.below hb ka.lt)
  have hgw : some w.heap.size ≠ some g := fun e => by have := hp.lt; simp at e; omega
  clear o q hp r0 r1 r2 r3 t0 t1 t2 t3 hx hy ka ba
  go_enter Try.func81, Try.ntmps81
  go_wp2_with (rw [e0])
  try rw [e0]
  clear e0
  have HS : Hid (∀ W, Below W0.heap.size W0 W → W.cell? ⟨w.heap.size, 0, none⟩ = some (.slice s.a s.n s.c) ∧ W.cell? ⟨w.heap.size, 1, none⟩ = some (.slice t.a t.n t.c) ∧ W.cell? ⟨w.heap.size, 2, none⟩ = some (.bool b)) := fun W hb => by
    have k := (unhide HKA) W hb
    exact ⟨k.cell 0, k.cell 1, k.cell 2⟩
  go_region_held3 (fun W => W.cell? ⟨w.heap.size, 0, none⟩ = some (.slice s.a s.n s.c) ∧ W.cell? ⟨w.heap.size, 1, none⟩ = some (.slice t.a t.n t.c) ∧ W.cell? ⟨w.heap.size, 2, none⟩ = some (.bool b))
    (first | exact S2 | exact (unhide HS) _ (by first | assumption | exact Below.refl _ _ | exact (Below.refl W0.heap.size W0).drew | exact below_drewN (Below.refl W0.heap.size W0) _))
    (first
    | (go_at_call 102; refine ((unhide HB) _ (by first | exact unhide B0 | exact (unhide B0).drew | exact below_drewN (unhide B0) _)).mono ?_; rintro e w1 ⟨rfl, b1⟩; have HB1 := hide (Below.trans (by first | exact unhide B0 | exact (unhide B0).drew | exact below_drewN (unhide B0) _) (b1.mono (by first | exact (unhide B0).size | exact (below_drewN (unhide B0) _).size)) : Below w.heap.size w w1); obtain ⟨D, hown, hhas⟩ := (unhide HP) w1 (unhide HB1); obtain ⟨w2, hrun, hown2, hgrow2⟩ := hown.update ballotLaw Try.underlying74 hk hkey (standR_mk pl b); have HH := hide (And.intro hhas (And.intro hown (And.intro hown2 hgrow2))); have d2 := ((unhide HKA) w1 (by first | exact b1 | exact Below.trans (below_drewN (Below.refl W0.heap.size W0) _) b1 | exact Below.trans ((Below.refl W0.heap.size W0).drew) b1)).cell 2; simp only [List.getElem?_cons_zero, List.getElem?_cons_succ] at d2; have J1 : Below W0.heap.size W0 w1 := (by first | exact b1 | exact Below.trans (below_drewN (Below.refl W0.heap.size W0) _) b1 | exact Below.trans ((Below.refl W0.heap.size W0).drew) b1); have S1 := (unhide HS) w1 J1; have S2 : w2.cell? ⟨w.heap.size, 0, none⟩ = some (.slice s.a s.n s.c) ∧ w2.cell? ⟨w.heap.size, 1, none⟩ = some (.slice t.a t.n t.c) ∧ w2.cell? ⟨w.heap.size, 2, none⟩ = some (.bool b) := (And.intro (hgrow2.cell S1.1 hgw) (And.intro (hgrow2.cell S1.2.1 hgw) (hgrow2.cell S1.2.2 hgw))); clear hhas hown hown2 hgrow2 b1 S1))
  all_goals
    go_wp2_with fail
    obtain ⟨hhas, hown, hown2, hgrow2⟩ := unhide HH
    refine bodyPost_end (v := .tuple #[]) (by simp [results, Try.results81]) rfl ⟨rfl, ⟨_, hown2, fun a c ha hc => ?_⟩, ?_⟩
    · by_cases e : (a, c) = ([z0, z1, z2, z3], [y0, y1, y2, y3])
      · simp only [Prod.mk.injEq] at e
        obtain ⟨rfl, rfl⟩ := e
        rw [Maps.has_put_same hown.isMap (ballotLaw.key hkey)]
        simp
      · have hne : klOf a c ≠ klOf [z0, z1, z2, z3] [y0, y1, y2, y3] := fun q => e (by
          obtain ⟨e1, e2⟩ := klOf_inj (by rw [ha.1]; rfl) ha.2 hc.2 ax.2 ay.2 q
          rw [e1, e2])
        rw [Maps.has_put_other hne, hhas a c ha hc]
        simp [e]
    · exact ⟨hgrow2.os.trans (unhide HB1).os, hgrow2.tape.trans (unhide HB1).tape, hgrow2.output.trans (unhide HB1).output, Nat.le_trans (unhide HB1).size hgrow2.size, fun q hq hne => (hgrow2.block q (Nat.lt_of_lt_of_le hq (unhide HB1).size) hne).trans ((unhide HB1).block q hq)⟩

end Go.Proofs.Ytalkhlimkanlcaa

/- What is proved here: what bytes.Compare and slices.BinarySearchFunc answer at signers that rise, and so the program's placeAmong and isAmong: where an address stands, and whether it is there. -/
namespace Go.Proofs.Ytalkhlimkanlcaa
open Go.RowKit
set_option linter.unusedVariables false
set_option maxRecDepth 100000

theorem compare_any (a b : Option Addr) (la ca lb cb : Nat) (xs ys : List Int) (w : World) (ha : BRow w a la xs) (hb : BRow w b lb ys) :
    Calls Try.prog 95 #[.slice a la ca, .slice b lb cb] w fun e w' => e = .returned (.int .i64 (cmpB xs ys)) ∧ w' = w := by
  have hr : (callFunc 105 #[.slice a la ca, .slice b lb cb]).run Try.prog w = .ok (.value (.int .i64 (cmpB xs ys))) w := by
    rw [run_callFunc_extern (P := Try.prog) Try.func105 (by kernel_rfl) (by kernel_rfl) (by kernel_rfl) (e := Extern.BytealgCompare.compare) (by kernel_rfl), run_compare w a b la ca lb cb xs ys ha hb]
    rfl
  clear ha hb
  generalize cmpB xs ys = c at hr ⊢
  go_enter Try.func95, Try.ntmps95
  go_wp2
  go_ret
  exact ⟨rfl, rfl⟩

set_option maxHeartbeats 2000000 in
theorem search_any (s t : Sl) (zss : List (List Int)) (z : List Int) (lb : Nat) (fd : Bool) (w : World) (h : BsRow w s.a s.n zss) (ht : BRow w t.a t.n z) (hl : zss.length ≤ 7) (hlb : lb ≤ zss.length)
    (hlow : ∀ (i : Nat) (y : List Int), zss[i]? = some y → decide (cmpB y z < 0) = decide (i < lb)) (hfd : fd = decide (zss[lb]? = some z)) (heq : ∀ y, zss[lb]? = some y → (cmpB y z == 0) = decide (y = z)) :
    Calls Try.prog 94 #[.slice s.a s.n s.c, .slice t.a t.n t.c, .func (.func 95) #[] #[]] w fun e w' => e = .returned (.tuple #[.int .i64 (lb : Nat), .bool fd]) ∧ w' = w := by
  obtain ⟨a, n, c⟩ := s
  have hil : zss.length = n := h.1
  simp only at h
  have hn7 : n ≤ 7 := by omega
  have HAT : Hid (0 < n → ∃ b off, a = some ⟨b, off, none⟩ ∧ b < w.heap.size ∧ ∀ i z, zss[i]? = some z → BsAt w b (off + i) z) := fun hp => h.at hp
  have HL := hide hil
  have HLOW := hide hlow
  have HFD := hide hfd
  have HEQ := hide heq
  have HT := hide ht
  have hlb' : lb ≤ n := by omega
  clear h hil hlow hfd heq ht hl hlb
  go_enter Try.func94, Try.ntmps94
  go_wp2_with fail
  go_loop [9, 10] (fun i j => ∃ p q : Nat, i = .int .i64 p ∧ j = .int .i64 q ∧ p ≤ lb ∧ lb ≤ q ∧ q ≤ n) (fun i j => (intOf j).toNat - (intOf i).toNat)
  case atStart => exact ⟨0, n, rfl, rfl, Nat.zero_le _, hlb', Nat.le_refl _⟩
  case round =>
    obtain ⟨p, q, rfl, rfl, hp, hq, hqn⟩ := hrel
    by_cases hlt : p < q
    · obtain ⟨b, off, rfl, hb, hc⟩ := (unhide HAT) (by omega)
      obtain ⟨hh, ehh⟩ : ∃ m, m = (p + q) / 2 := ⟨_, rfl⟩
      have hpm : p ≤ hh ∧ hh < q := by omega
      obtain ⟨y, hy⟩ : ∃ y, zss[hh]? = some y := ⟨_, List.getElem?_eq_getElem (by rw [unhide HL]; omega)⟩
      obtain ⟨sa, sl, sc, c0, hbr⟩ := hc hh y hy
      have HC := hide (compare_any sa t.a sl sc t.n t.c y z w hbr (unhide HT))
      have hlow := (unhide HLOW) hh y hy
      have d1 : decide ((p : Int) < (q : Int)) = true := decide_eq_true (by omega)
      obtain ⟨mm, emm⟩ : ∃ m : Nat, m = p + q := ⟨_, rfl⟩
      have s1 : (p : Int) + (q : Int) = (mm : Int) := by omega
      have s2 : IntKind.u64.wrap (mm : Int) = (mm : Int) := by rw [IntKind.wrap_u64]; omega
      have s3 : IntKind.i64.wrap (mm : Int) = (mm : Int) := by rw [IntKind.wrap_i64]; omega
      have s4 : (mm : Int) / 2 = (hh : Int) := by omega
      have s5 : IntKind.u64.wrap (hh : Int) = (hh : Int) := by rw [IntKind.wrap_u64]; omega
      have s6 : IntKind.i64.wrap (hh : Int) = (hh : Int) := by rw [IntKind.wrap_i64]; omega
      have HM := hide (And.intro ehh (And.intro hpm emm))
      have i1 : (0 : Int) ≤ (hh : Int) := by omega
      have i2 : (hh : Int) < (n : Int) := by omega
      clear hc hbr hy ehh hpm emm
      go_wp2_with fail
      refine (unhide HC).mono ?_
      rintro e w1 ⟨rfl, rfl⟩
      generalize cmpB y z = cc at hlow
      by_cases hcase : hh < lb
      · rw [decide_eq_true hcase] at hlow
        go_wp2_with fail
        go_round
        case rel => exact ⟨hh + 1, q, by go_num, rfl, by omega, hq, hqn⟩
        case measure => obtain ⟨e1, e2, e3⟩ := unhide HM; simp [intOf]; omega
      · rw [decide_eq_false hcase] at hlow
        go_wp2_with fail
        go_round
        case rel => exact ⟨p, hh, rfl, rfl, hp, by omega, by obtain ⟨e1, e2, e3⟩ := unhide HM; omega⟩
        case measure => obtain ⟨e1, e2, e3⟩ := unhide HM; simp [intOf]; omega
    · obtain rfl : p = lb := by omega
      have d1 : decide ((p : Int) < (q : Int)) = false := decide_eq_false (by omega)
      clear HLOW
      by_cases hpn : p < n
      · obtain ⟨b, off, rfl, hb, hc⟩ := (unhide HAT) (by omega)
        obtain ⟨y, hy⟩ : ∃ y, zss[p]? = some y := ⟨_, List.getElem?_eq_getElem (by rw [unhide HL]; omega)⟩
        obtain ⟨sa, sl, sc, c0, hbr⟩ := hc p y hy
        have HC := hide (compare_any sa t.a sl sc t.n t.c y z w hbr (unhide HT))
        have heq := (unhide HEQ) y hy
        have hfd := unhide HFD
        rw [hy] at hfd
        simp only [Option.some.injEq] at hfd
        rw [← hfd] at heq
        have d2 : decide ((p : Int) < (n : Int)) = true := decide_eq_true (by omega)
        have i1 : (0 : Int) ≤ (p : Int) := by omega
        have i2 : (p : Int) < (n : Int) := by omega
        clear hc hbr hy HFD HEQ hfd HAT
        go_wp2_with fail
        refine (unhide HC).mono ?_
        rintro e w1 ⟨rfl, rfl⟩
        generalize cmpB y z = cc at heq
        go_wp2_with fail
        go_ret2
        exact ⟨rfl, rfl⟩
      · have d2 : decide ((p : Int) < (n : Int)) = false := decide_eq_false (by omega)
        have hfd : fd = false := by
          rw [unhide HFD, List.getElem?_eq_none (by rw [unhide HL]; omega)]
          rfl
        subst hfd
        clear HFD HEQ HAT
        go_wp2_with fail
        go_ret2
        exact ⟨rfl, rfl⟩

set_option maxHeartbeats 1000000 in
/-- Where an address stands among signers without a fault, and whether it is there. -/
theorem placeAmong_any (s t : Sl) (zss : List (List Int)) (z : List Int) (w : World) (h : RowOk bytesK w s zss) (ht : BOk w t z) (hs : sgFlt zss = 0) :
    Calls Try.prog 61 #[.slice s.a s.n s.c, .slice t.a t.n t.c] w fun e w' => e = .returned (.tuple #[.int .i64 (lowB zss z : Nat), .bool (decide (z ∈ zss))]) ∧ w' = w := by
  obtain ⟨h7, h4, hr⟩ := sg_rise hs
  have hb := bs_of_row h
  have HS := hide (search_any s t zss z (lowB zss z) (decide (z ∈ zss)) w hb ht.row h7 (lowB_le _ _) (fun i y hy => by rw [cmpB_neg]; exact lowB_iff hr z i y hy)
    (by by_cases e : z ∈ zss <;> simp [e, lowB_mem hr z]) (fun y hy => by
      have := cmpB_zero (hb.bytes y (List.mem_of_getElem? hy)) ht.row.2.1
      by_cases e : y = z
      · rw [decide_eq_true e]; simp [this.2 e]
      · rw [decide_eq_false e]
        rw [beq_eq_false_iff_ne]
        exact fun q => e (this.1 q)))
  generalize lowB zss z = lb at HS ⊢
  generalize decide (z ∈ zss) = fd at HS ⊢
  clear h ht hs h7 h4 hr hb
  go_enter Try.func61, Try.ntmps61
  go_wp2_with fail
  refine (unhide HS).mono ?_
  rintro e w1 ⟨rfl, rfl⟩
  go_wp2_with fail
  go_ret2
  exact ⟨rfl, rfl⟩

set_option maxHeartbeats 1000000 in
theorem isAmong_any (s t : Sl) (zss : List (List Int)) (z : List Int) (w : World) (h : RowOk bytesK w s zss) (ht : BOk w t z) (hs : sgFlt zss = 0) :
    Calls Try.prog 100 #[.slice s.a s.n s.c, .slice t.a t.n t.c] w fun e w' => e = .returned (.bool (decide (z ∈ zss))) ∧ w' = w := by
  have HS := hide (placeAmong_any s t zss z w h ht hs)
  generalize lowB zss z = lb at HS
  generalize decide (z ∈ zss) = fd at HS ⊢
  clear h ht hs
  go_enter Try.func100, Try.ntmps100
  go_wp2_with fail
  refine (unhide HS).mono ?_
  rintro e w1 ⟨rfl, rfl⟩
  go_wp2_with fail
  go_ret
  exact ⟨rfl, rfl⟩

end Go.Proofs.Ytalkhlimkanlcaa

/- What is proved here: what the program's SignersFault answers: the first fault of a list of signers. -/
namespace Go.Proofs.Ytalkhlimkanlcaa
open Go.RowKit
set_option linter.unusedVariables false
set_option maxRecDepth 100000

theorem isAddr_any (a : Option Addr) (n cap : Nat) (w : World) : Calls Try.prog 54 #[.slice a n cap] w fun e w' => e = .returned (.bool (((n : Nat) : Int) == 4)) ∧ w' = w := by
  go_enter Try.func54, Try.ntmps54
  go_wp2_with fail
  go_ret
  exact ⟨rfl, rfl⟩

set_option maxHeartbeats 2000000 in
theorem implSigners_any (a : Option Addr) (len cap : Nat) (zss : List (List Int)) (w : World) (h : BsRow w a len zss) (hl : len ≤ 1048576) :
    Calls Try.prog 79 #[.slice a len cap] w fun e w' => e = .returned (.int .i64 (sgFlt zss)) ∧ w' = w := by
  have hil := h.1
  by_cases h2 : 7 < len
  · have HE : Hid (sgFlt zss = 2) := by show _ = _; unfold sgFlt; rw [if_pos (by rw [hil]; exact h2)]
    have hd : decide ((7 : Int) < (len : Int)) = true := decide_eq_true (by omega)
    clear h hil
    go_enter Try.func79, Try.ntmps79
    go_wp2_with fail
    go_ret
    exact ⟨ret_int (unhide HE).symm, rfl⟩
  · have d2 : decide ((7 : Int) < (len : Int)) = false := decide_eq_false (by omega)
    have HE : Hid (sgFlt zss = sgFrom zss 0 zss) := by show _ = _; unfold sgFlt; rw [if_neg (by omega)]
    rcases Nat.eq_zero_or_pos len with h0 | hp
    · subst h0
      have hn : zss = [] := List.length_eq_zero_iff.1 hil
      subst hn
      clear h
      go_enter Try.func79, Try.ntmps79
      go_wp2_with fail
      refine wp_loop_rounds 1 ?_
      rw [rounds_succ]
      go_wp2_with fail
      go_ret
      exact ⟨ret_int (by rw [unhide HE]; rfl), rfl⟩
    · obtain ⟨b, off, rfl, hb, hc⟩ := h.at hp
      have HC := hide hc
      have HL := hide hil
      clear h hc hil
      go_enter Try.func79, Try.ntmps79
      go_wp2_with fail
      go_loop [10] (fun i => ∃ k : Nat, k ≤ len ∧ i = .int .i64 k ∧ sgFrom zss 0 zss = sgFrom zss k (zss.drop k)) (fun i => len - (intOf i).toNat)
      case atStart => exact ⟨0, Nat.zero_le _, rfl, by simp⟩
      case round =>
        obtain ⟨k, hk, rfl, hpre⟩ := hrel
        by_cases hlt : k < len
        · obtain ⟨z, hit⟩ : ∃ z, zss[k]? = some z := ⟨_, List.getElem?_eq_getElem (by rw [unhide HL]; exact hlt)⟩
          have hst := sgFrom_step zss k z hit
          rw [← hpre] at hst
          obtain ⟨s1, n1, d1, p0, r1⟩ := (unhide HC) k z hit
          have hzl : z.length = n1 := r1.1
          have HS := hide hst
          have i1 : (0 : Int) ≤ (k : Int) := by omega
          have i2 : (k : Int) < (len : Int) := by omega
          have HI := hide (isAddr_any s1 n1 d1 w)
          by_cases h4 : n1 = 4
          · have d4 : (((n1 : Nat) : Int) == 4) = true := by simp [h4]
            rw [d4] at HI
            by_cases k0 : k = 0
            · have e : sgBad zss k z = false := by unfold sgBad; simp [hzl, h4, k0]
              rw [e, if_neg (by simp)] at HS
              have dk : decide ((0 : Int) < (k : Int)) = false := decide_eq_false (by omega)
              have dk' : decide (0 < k) = false := decide_eq_false (by omega)
              clear r1 hst hpre hit hzl e k0 h4
              go_wp2_with fail
              refine (unhide HI).mono ?_
              rintro e w1 ⟨rfl, rfl⟩
              go_wp2_with fail
              go_round
              case rel => exact ⟨k + 1, by omega, by go_num, unhide HS⟩
              case measure => simp [intOf]; omega
            · obtain ⟨y, hiy⟩ : ∃ y, zss[k - 1]? = some y := ⟨_, List.getElem?_eq_getElem (by rw [unhide HL]; omega)⟩
              obtain ⟨s2, n2, d2', q0, r2⟩ := (unhide HC) (k - 1) y hiy
              have hgd : zss.getD (k - 1) [] = y := by rw [List.getD_eq_getElem?_getD, hiy]; rfl
              have e : sgBad zss k z = !aheadB y z := by unfold sgBad; rw [hgd, hzl, h4]; simp; omega
              rw [e] at HS
              have dk : decide ((0 : Int) < (k : Int)) = true := decide_eq_true (by omega)
              have dk' : decide (0 < k) = true := decide_eq_true (by omega)
              have ek : ((k : Int) - 1).toNat = k - 1 := by omega
              have j1 : (0 : Int) ≤ (k : Int) - 1 := by omega
              have j2 : (k : Int) - 1 < (len : Int) := by omega
              have hwr : IntKind.i64.wrap ((k : Int) - 1) = (k : Int) - 1 := by rw [IntKind.wrap_i64]; omega
              have HA := hide (implAhead_any s2 s1 n2 d2' n1 d1 y z w r2 r1)
              have q1 : w.cell? ⟨b, off + ((k : Int) - 1).toNat, none⟩ = some (.slice s2 n2 d2') := by rw [ek]; exact q0
              clear r1 r2 hst hpre hit hiy hzl hgd e k0 h4 ek
              generalize aheadB y z = sb at HA HS
              cases sb
              · go_wp2_with fail
                refine (unhide HI).mono ?_
                rintro e w1 ⟨rfl, rfl⟩
                go_wp2_with fail
                refine (unhide HA).mono ?_
                rintro e w1 ⟨rfl, rfl⟩
                go_wp2_with fail
                go_ret
                exact ⟨ret_int (by rw [unhide HE, unhide HS]; rfl), rfl⟩
              · go_wp2_with fail
                refine (unhide HI).mono ?_
                rintro e w1 ⟨rfl, rfl⟩
                go_wp2_with fail
                refine (unhide HA).mono ?_
                rintro e w1 ⟨rfl, rfl⟩
                go_wp2_with fail
                go_round
                case rel => exact ⟨k + 1, by omega, by go_num, by rw [unhide HS]; rfl⟩
                case measure => simp [intOf]; omega
          · have d4 : (((n1 : Nat) : Int) == 4) = false := by rw [beq_eq_false_iff_ne]; omega
            rw [d4] at HI
            have e : sgBad zss k z = true := by unfold sgBad; simp [hzl, h4]
            rw [e, if_pos rfl] at HS
            clear r1 hst hpre hit hzl e h4
            go_wp2_with fail
            refine (unhide HI).mono ?_
            rintro e w1 ⟨rfl, rfl⟩
            go_wp2_with fail
            go_ret
            exact ⟨ret_int (by rw [unhide HE, unhide HS]), rfl⟩
        · obtain rfl : k = len := by omega
          have e := sgFrom_end zss k (by rw [unhide HL]; exact Nat.le_refl _)
          rw [e] at hpre
          have HP := hide hpre
          clear e hpre
          go_wp2_with fail
          go_ret
          exact ⟨ret_int (by rw [unhide HE, unhide HP]), rfl⟩

end Go.Proofs.Ytalkhlimkanlcaa

/- What is proved here: plain facts on the fault of a header, and the eleven cells of one; no program is named. -/
namespace Go.Proofs.Ytalkhlimkanlcaa
open Go.RowKit
set_option linter.unusedVariables false
set_option maxRecDepth 100000

theorem hcells {W : World} {g : Nat} {x : HS} {h : Hd} {T : TypeId} (b : SBlk W g (hvals x h).toList T) : W.cell? ⟨g, 0, none⟩ = some (.slice x.p.a x.p.n x.p.c) ∧ W.cell? ⟨g, 1, none⟩ = some (.int .i64 h.n1) ∧ W.cell? ⟨g, 2, none⟩ = some (.int .i64 h.n2) ∧ W.cell? ⟨g, 3, none⟩ = some (.int .i64 h.n3) ∧ W.cell? ⟨g, 4, none⟩ = some (.slice x.t.a x.t.n x.t.c) ∧ W.cell? ⟨g, 5, none⟩ = some (.int .i64 h.n5) ∧ W.cell? ⟨g, 6, none⟩ = some (.slice x.s.a x.s.n x.s.c) ∧ W.cell? ⟨g, 7, none⟩ = some (.slice x.r.a x.r.n x.r.c) ∧ W.cell? ⟨g, 8, none⟩ = some (.slice x.g.a x.g.n x.g.c) ∧ W.cell? ⟨g, 9, none⟩ = some (.slice x.e.a x.e.n x.e.c) ∧ W.cell? ⟨g, 10, none⟩ = some (.slice x.k.a x.k.n x.k.c) :=
  ⟨b.cell 0, b.cell 1, b.cell 2, b.cell 3, b.cell 4, b.cell 5, b.cell 6, b.cell 7, b.cell 8, b.cell 9, b.cell 10⟩

theorem srange {W : World} {g : Nat} {vs : List Value} {T : TypeId} (b : SBlk W g vs T) : W.rangeAt g 0 vs := fun j v hj => by
  rw [Nat.zero_add, b.cell j]; exact hj

/-- Whether a field has a wrong number of bytes. -/
def hdLen (h : Hd) : Bool := ((h.p.length : Int) != 32) || (((h.t.length : Int) != 0) && ((h.t.length : Int) != 4)) || ((h.r.length : Int) != 32) || ((h.g.length : Int) != 4) || (((h.e.length : Int) != 0) && ((h.e.length : Int) != 4))

def within (n lo hi : Int) : Bool := decide (lo ≤ n ∧ n ≤ hi)

/-- Whether all numbers lie within their bounds. -/
def hdNum (h : Hd) : Bool := within h.n1 0 1099511627776 && within h.n2 0 1099511627776 && within h.n3 0 9 && within h.n5 0 2

/-- The fault of the commits from a place on. -/
def coFrom : List (List Int) → Int
  | [] => 0
  | z :: r => if z.length = 8 then coFrom r else 1

def coFlt (zss : List (List Int)) : Int := if 7 < zss.length then 2 else coFrom zss

/-- The fault of a header. -/
def hdFlt (h : Hd) : Int := if hdLen h = true then 1 else if hdNum h = false then 3 else if sgFlt h.s = 0 then coFlt h.k else sgFlt h.s

theorem coFrom_step (zss : List (List Int)) (k : Nat) (z : List Int) (h : zss[k]? = some z) : coFrom (zss.drop k) = if z.length = 8 then coFrom (zss.drop (k + 1)) else 1 := by
  obtain ⟨hk, e⟩ := List.getElem?_eq_some_iff.1 h
  rw [List.drop_eq_getElem_cons hk, e]
  rfl

theorem coFrom_end (zss : List (List Int)) (k : Nat) (h : zss.length ≤ k) : coFrom (zss.drop k) = 0 := by
  rw [List.drop_eq_nil_of_le h]; rfl

end Go.Proofs.Ytalkhlimkanlcaa

/- What is proved here: plain facts on the fault of a snapshot; no program is named. -/
namespace Go.Proofs.Ytalkhlimkanlcaa
open Go.RowKit
set_option linter.unusedVariables false
set_option maxRecDepth 100000

/-- The fault of one vote, where some stand ahead of it. -/
def vtOne (sg : List (List Int)) (seen : List (List Int × List Int)) (v : Vt) : Int :=
  if (v.1.length == 4 && v.2.1.length == 4) = false then 1 else if decide (v.1 ∈ sg) = false then 4 else if (v.2.2 == decide (v.2.1 ∈ sg)) = true then 8 else if decide ((v.1, v.2.1) ∈ seen) = true then 6 else 0

/-- Who votes on whom. -/
def vtKeys (vs : List Vt) : List (List Int × List Int) := vs.map (fun v => (v.1, v.2.1))

/-- The first fault among the votes from a place on. -/
def vtFrom (sg : List (List Int)) (vs : List Vt) : Nat → List Vt → Int
  | _, [] => 0
  | k, v :: r => if vtOne sg (vtKeys (vs.take k)) v = 0 then vtFrom sg vs (k + 1) r else vtOne sg (vtKeys (vs.take k)) v

def rcOne (last least : Int) (r : Rc) : Int := if (r.2.length == 4) = false then 1 else if within r.1 least last = false then 3 else 0

/-- The first fault among recents, the first of which has to be at least so much. -/
def rcFrom (last : Int) : Int → List Rc → Int
  | _, [] => 0
  | least, r :: t => if rcOne last least r = 0 then rcFrom last (r.1 + 1) t else rcOne last least r

def sgSome (zss : List (List Int)) : Int := if zss.length = 0 then 4 else sgFlt zss

def snFlt (x : Sn) : Int :=
  if within x.1 0 1099511627776 = false then 3
  else if sgSome x.2.1 ≠ 0 then sgSome x.2.1
  else if 7 < x.2.2.1.length ∨ 30 < x.2.2.2.length then 2
  else if rcFrom x.1 0 x.2.2.1 ≠ 0 then rcFrom x.1 0 x.2.2.1
  else vtFrom x.2.1 x.2.2.2 0 x.2.2.2

theorem vtFrom_step (sg : List (List Int)) (vs : List Vt) (k : Nat) (v : Vt) (h : vs[k]? = some v) : vtFrom sg vs k (vs.drop k) = if vtOne sg (vtKeys (vs.take k)) v = 0 then vtFrom sg vs (k + 1) (vs.drop (k + 1)) else vtOne sg (vtKeys (vs.take k)) v := by
  obtain ⟨hk, e⟩ := List.getElem?_eq_some_iff.1 h
  rw [List.drop_eq_getElem_cons hk, e]
  rfl

theorem vtKeys_snoc (vs : List Vt) (k : Nat) (v : Vt) (h : vs[k]? = some v) : vtKeys (vs.take (k + 1)) = vtKeys (vs.take k) ++ [(v.1, v.2.1)] := by
  obtain ⟨hk, e⟩ := List.getElem?_eq_some_iff.1 h
  unfold vtKeys
  rw [List.take_succ_eq_append_getElem hk, List.map_append, e]
  rfl

theorem rcFrom_step (last least : Int) (rs : List Rc) (k : Nat) (r : Rc) (h : rs[k]? = some r) : rcFrom last least (rs.drop k) = if rcOne last least r = 0 then rcFrom last (r.1 + 1) (rs.drop (k + 1)) else rcOne last least r := by
  obtain ⟨hk, e⟩ := List.getElem?_eq_some_iff.1 h
  rw [List.drop_eq_getElem_cons hk, e]
  rfl

theorem vtOne_zero {sg : List (List Int)} {seen : List (List Int × List Int)} {v : Vt} (h : vtOne sg seen v = 0) : v.1.length = 4 ∧ v.2.1.length = 4 ∧ v.1 ∈ sg ∧ v.2.2 ≠ decide (v.2.1 ∈ sg) ∧ (v.1, v.2.1) ∉ seen := by
  unfold vtOne at h
  split at h
  · omega
  · rename_i h1
    split at h
    · omega
    · rename_i h2
      split at h
      · omega
      · rename_i h3
        split at h
        · omega
        · rename_i h4
          simp at h1 h2 h3 h4
          exact ⟨h1.1, h1.2, h2, by simpa using h3, h4⟩

end Go.Proofs.Ytalkhlimkanlcaa
