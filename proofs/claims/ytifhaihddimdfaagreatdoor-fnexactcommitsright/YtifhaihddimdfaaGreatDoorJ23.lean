/- What is proved here: plain facts for the law of who committed: rooms of what was copied in, and how long the answer is. -/
import Derived.Test.YtifhaihddimdfaaGreatDoorJ16
import Derived.Test.YtifhaihddimdfaaGreatDoorJ22
import Derived.Test.YtifhaihddimdfaaGreatDoorJ11
import Derived.Test.YtifhaihddimdfaaGreatDoorJ1
import Derived.Test.YtifhaihddimdfaaGreatDoorJ6
import Derived.Test.YtifhaihddimdfaaGreatDoorJ12
import Derived.Test.YtifhaihddimdfaaGreatDoorChecked
import Derived.WalkKit
import Derived.WalkSmall
import Derived.WalkSpells
import Derived.WalkLawsBesides
import Derived.KernelRfl
import Derived.Test.YtifhaihddimdfaaGreatDoorJ4
import Derived.Deep.RegionWith
import Derived.Test.YtifhaihddimdfaaGreatDoorJ5
import Derived.Test.YtifhaihddimdfaaGreatDoorJ10
import Derived.Test.YtifhaihddimdfaaGreatDoorJ2
import Derived.Test.YtifhaihddimdfaaGreatDoorJ13
import Derived.BigRegion
import Derived.BigQuiet
import Derived.Deep.QuietTactic
namespace Go.Proofs.YtifhaihddimdfaaGreatDoor
open Go.RowKit
set_option linter.unusedVariables false
set_option maxRecDepth 100000

theorem OBss.cap {w : World} {g : Nat} {zss : List (List Int)} {T : TypeId} {C : Nat} (o : OBss w g zss T C) : BsCap w (some ⟨g, 0, none⟩) zss.length := by
  obtain ⟨vs, f, h1, h2, h3, h4, h5⟩ := o
  intro b off e i hi
  simp only [Option.some.injEq, Addr.mk.injEq] at e
  obtain ⟨rfl, rfl, _⟩ := e
  obtain ⟨z, hz⟩ : ∃ z, zss[i]? = some z := ⟨_, List.getElem?_eq_getElem hi⟩
  have k := (h5 i z hi hz).1
  exact ⟨some ⟨f i, 0, none⟩, z.length, z.length, by rw [Nat.zero_add, h1.cell i, k], Nat.le_refl _⟩

theorem HOwn.cap {w : World} {B : Nat} {x : HS} {h : Hd} (o : HOwn w B x h) : BsCap w x.k.a x.k.n := by
  obtain ⟨g1, g2, g3, g4, g5, g6, g7, rfl, _, o1, o2, o3, o4, o5, o6, o7⟩ := o
  exact OBss.cap o7

theorem coAns_len (h : Hd) : (coAns h).length ≤ 7 := by
  unfold coAns
  split
  · rename_i hf
    have := (good_of hf.1).k
    rw [coAd_length]
    exact this
  · simp

theorem coAns_z (h : Hd) : ∀ z ∈ coAns h, z.length ≤ 4 := by
  unfold coAns
  split
  · intro z hz
    unfold coAd at hz
    obtain ⟨y, _, rfl⟩ := List.mem_map.1 hz
    rw [List.length_take]
    omega
  · intro z hz
    simp at hz

theorem bsum_le4 (zss : List (List Int)) (b : Nat) (h : ∀ z ∈ zss, z.length ≤ b) : bsum zss ≤ b * zss.length := by
  induction zss with
  | nil => simp [bsum]
  | cons z r ih =>
    have h1 := h z (by simp)
    have h2 := ih (fun y hy => h y (by simp [hy]))
    have e : bsum (z :: r) = z.length + bsum r := by simp [bsum]
    rw [e, List.length_cons, Nat.mul_add]
    omega

theorem coAns_sum (h : Hd) : bsum (coAns h) ≤ 1048576 := by
  have h1 := bsum_le4 (coAns h) 4 (coAns_z h)
  have h2 := coAns_len h
  omega

/-- What is wanted of an answer's lists. -/
structure CoSm (zss : List (List Int)) : Prop where
  l : zss.length ≤ 1048576
  z : ∀ z ∈ zss, z.length ≤ 1048576
  t : bsum zss ≤ 1048576

theorem coAns_sm (h : Hd) : CoSm (coAns h) := ⟨by have := coAns_len h; omega, fun z hz => by have := coAns_z h z hz; omega, coAns_sum h⟩

theorem CS.row {B r c : Nat} {d : Nat → Nat} {w : World} {s : Sl} {zss : List (List Int)} (h : CS w B d r c s zss) (m : CoSm zss) : BsRow w s.a s.n zss := h.bsrow (fun z hz => by have := m.z z hz; unfold maxLen; omega)

theorem CS.rowM {B r c : Nat} {d : Nat → Nat} {w : World} {s : Sl} {zss : List (List Int)} {k : Int} (h : CS w B d r c s (mkss k zss)) (m : CoSm zss) : BsRow w s.a s.n (mkss k zss) := h.bsrow (fun z hz => by obtain ⟨y, hy, he⟩ := mkss_mem _ _ z hz; have := m.z y hy; unfold maxLen; omega)

end Go.Proofs.YtifhaihddimdfaaGreatDoor

/- What is proved here: two lists of bytes are the same as strings just where they are the same. -/
namespace Go.Proofs.YtifhaihddimdfaaGreatDoor
open Go.RowKit
set_option linter.unusedVariables false
set_option maxRecDepth 100000

theorem byteList_loop (bs : ByteArray) (i : Nat) (r : List UInt8) : ByteArray.toList.loop bs i r = r.reverse ++ bs.data.toList.drop i := by
  have hsz : bs.size = bs.data.toList.length := by cases bs; rfl
  induction h : bs.size - i generalizing i r with
  | zero =>
    unfold ByteArray.toList.loop
    have : bs.size ≤ i := by omega
    rw [if_neg (by omega), List.drop_eq_nil_of_le (by omega)]
    simp
  | succ n ih =>
    unfold ByteArray.toList.loop
    have hi : i < bs.size := by omega
    rw [if_pos hi, ih (i+1) _ (by omega)]
    have hi' : i < bs.data.toList.length := by omega
    rw [List.drop_eq_getElem_cons hi', List.reverse_cons, List.append_assoc]
    congr 1
    show _ :: _ = _ :: _
    congr 1
    cases bs with
    | mk d =>
      show d[i]! = d.toList[i]
      have hd : i < d.size := by simpa using hi'
      rw [getElem!_pos d i hd, Array.getElem_toList]

theorem byteList_data (bs : ByteArray) : bs.toList = bs.data.toList := by
  unfold ByteArray.toList
  rw [byteList_loop]; rfl

theorem strEq_dec {xs ys : List Int} (hx : ∀ x ∈ xs, 0 ≤ x ∧ x ≤ 255) (hy : ∀ y ∈ ys, 0 ≤ y ∧ y ≤ 255) : strEq xs ys = decide (xs = ys) := by
  unfold strEq
  rw [byteList_data, byteList_data, strOfNums_data, strOfNums_data]
  by_cases e : xs = ys
  · subst e; simp
  · rw [decide_eq_false e, beq_eq_false_iff_ne]
    intro h
    apply e
    have inj : ∀ (a b : List Int), (∀ x ∈ a, 0 ≤ x ∧ x ≤ 255) → (∀ x ∈ b, 0 ≤ x ∧ x ≤ 255) → a.map (fun n => UInt8.ofNat n.toNat) = b.map (fun n => UInt8.ofNat n.toNat) → a = b := by
      intro a
      induction a with
      | nil => intro b _ _ h; cases b with
        | nil => rfl
        | cons y t => simp at h
      | cons x r ih =>
        intro b ha hb h
        cases b with
        | nil => simp at h
        | cons y t =>
          rw [List.map_cons, List.map_cons, List.cons.injEq] at h
          have h1 := ha x (by simp)
          have h2 := hb y (by simp)
          have e1 : x.toNat = y.toNat := by
            have q := congrArg UInt8.toNat h.1
            simp only [UInt8.toNat_ofNat'] at q
            omega
          rw [show x = y by omega, ih t (fun z hz => ha z (by simp [hz])) (fun z hz => hb z (by simp [hz])) h.2]
    exact inj xs ys hx hy h

end Go.Proofs.YtifhaihddimdfaaGreatDoor

/- What is proved here: plain facts on the order of lists of bytes, and on where one stands among others that rise; no program is named. -/
namespace Go.Proofs.YtifhaihddimdfaaGreatDoor
open Go.RowKit
set_option linter.unusedVariables false
set_option maxRecDepth 100000

/-- How two lists of bytes compare. -/
def cmpB (xs ys : List Int) : Int := Lib.compareBytes (Lib.bytesOf xs) (Lib.bytesOf ys)

theorem cmp_zero : ∀ (a b : List UInt8), Lib.compareBytes a b = 0 ↔ a = b
  | [], [] => by simp [Lib.compareBytes]
  | [], _ :: _ => by simp [Lib.compareBytes]
  | _ :: _, [] => by simp [Lib.compareBytes]
  | x :: a, y :: b => by
    unfold Lib.compareBytes
    by_cases h1 : x < y
    · have hne : x ≠ y := fun e => by subst e; exact UInt8.lt_irrefl _ h1
      simp [h1, hne]
    · by_cases h2 : y < x
      · have hne : x ≠ y := fun e => by subst e; exact h1 h2
        simp [h1, h2, hne]
      · have e : x = y := UInt8.le_antisymm (UInt8.not_lt.1 h2) (UInt8.not_lt.1 h1)
        subst e
        simp [h1, cmp_zero a b]

theorem less_trans : ∀ (a b c : List UInt8), Op.bytesLess a b = true → Op.bytesLess b c = true → Op.bytesLess a c = true
  | _, [], _, h, _ => by simp [Op.bytesLess] at h
  | _, _ :: _, [], _, h => by simp [Op.bytesLess] at h
  | [], _ :: _, _ :: _, _, _ => by simp [Op.bytesLess]
  | x :: a, y :: b, z :: c, h1, h2 => by
    simp only [Op.bytesLess, Bool.or_eq_true, decide_eq_true_eq, Bool.and_eq_true, beq_iff_eq] at h1 h2 ⊢
    rcases h1 with h1 | ⟨rfl, h1⟩
    · rcases h2 with h2 | ⟨rfl, h2⟩
      · exact .inl (UInt8.lt_trans h1 h2)
      · exact .inl h1
    · rcases h2 with h2 | ⟨rfl, h2⟩
      · exact .inl h2
      · exact .inr ⟨rfl, less_trans a b c h1 h2⟩

theorem less_irrefl : ∀ a : List UInt8, Op.bytesLess a a = false
  | [] => rfl
  | x :: a => by simp [Op.bytesLess, less_irrefl a, UInt8.lt_irrefl]

theorem aheadB_def (xs ys : List Int) : aheadB xs ys = Op.bytesLess (Lib.bytesOf xs) (Lib.bytesOf ys) := by
  unfold aheadB
  rw [Lib.strOfNums_toList, Lib.strOfNums_toList]

theorem cmpB_neg (xs ys : List Int) : decide (cmpB xs ys < 0) = aheadB xs ys := by
  rw [aheadB_def]
  exact less_of_compare _ _

theorem aheadB_trans {xs ys zs : List Int} (h1 : aheadB xs ys = true) (h2 : aheadB ys zs = true) : aheadB xs zs = true := by
  rw [aheadB_def] at *
  exact less_trans _ _ _ h1 h2

theorem aheadB_irrefl (xs : List Int) : aheadB xs xs = false := by
  rw [aheadB_def]
  exact less_irrefl _

theorem bytesOf_inj : ∀ (a b : List Int), (∀ x ∈ a, 0 ≤ x ∧ x ≤ 255) → (∀ x ∈ b, 0 ≤ x ∧ x ≤ 255) → Lib.bytesOf a = Lib.bytesOf b → a = b := by
  intro a b ha hb h
  have e := strEq_dec ha hb
  unfold strEq at e
  rw [Lib.strOfNums_toList, Lib.strOfNums_toList, h] at e
  simp at e
  exact e

theorem cmpB_zero {xs ys : List Int} (hx : ∀ x ∈ xs, 0 ≤ x ∧ x ≤ 255) (hy : ∀ x ∈ ys, 0 ≤ x ∧ x ≤ 255) : cmpB xs ys = 0 ↔ xs = ys := by
  unfold cmpB
  rw [cmp_zero]
  exact ⟨bytesOf_inj xs ys hx hy, fun e => by rw [e]⟩

/-- Signers without a fault: each is ahead of the next one. -/
theorem sgFrom_rise (zss : List (List Int)) : ∀ (n k : Nat), n = zss.length - k → sgFrom zss k (zss.drop k) = 0 → ∀ i z, k ≤ i → zss[i]? = some z → z.length = 4 ∧ (0 < i → aheadB (zss.getD (i - 1) []) z = true) := by
  intro n
  induction n with
  | zero =>
    intro k hk h i z hi hz
    have := (List.getElem?_eq_some_iff.1 hz).1
    omega
  | succ n ih =>
    intro k hk h i z hi hz
    obtain ⟨y, hy⟩ : ∃ y, zss[k]? = some y := ⟨_, List.getElem?_eq_getElem (by omega)⟩
    rw [sgFrom_step zss k y hy] at h
    split at h
    · omega
    · rename_i hb
      by_cases e : i = k
      · subst e
        obtain rfl : y = z := Option.some.inj (hy.symm.trans hz)
        unfold sgBad at hb
        simp only [Bool.or_eq_true, bne_iff_ne, ne_eq, Bool.and_eq_true, decide_eq_true_eq, Bool.not_eq_true', not_or, Decidable.not_not, not_and, Bool.not_eq_false] at hb
        exact ⟨hb.1, hb.2⟩
      · exact ih (k + 1) (by omega) h i z (by omega) hz

theorem sg_rise {zss : List (List Int)} (h : sgFlt zss = 0) : zss.length ≤ 7 ∧ (∀ z ∈ zss, z.length = 4) ∧ ∀ (i j : Nat) (x y : List Int), i < j → zss[i]? = some x → zss[j]? = some y → aheadB x y = true := by
  unfold sgFlt at h
  split at h
  · omega
  · rename_i h7
    have key := sgFrom_rise zss _ 0 rfl h
    refine ⟨by omega, fun z hz => ?_, ?_⟩
    · obtain ⟨i, hi⟩ := List.getElem?_of_mem hz
      exact (key i z (Nat.zero_le _) hi).1
    · intro i j
      induction j with
      | zero => intro x y hij; omega
      | succ j ih =>
        intro x y hij hx hy
        have h1 := (key (j + 1) y (Nat.zero_le _) hy).2 (by omega)
        have hjl : j < zss.length := by have := (List.getElem?_eq_some_iff.1 hy).1; omega
        have e1 : zss.getD (j + 1 - 1) [] = zss[j] := by rw [Nat.add_sub_cancel, List.getD_eq_getElem?_getD, List.getElem?_eq_getElem hjl]; rfl
        rw [e1] at h1
        by_cases e : i = j
        · subst e
          obtain rfl : zss[i] = x := Option.some.inj ((List.getElem?_eq_getElem hjl).symm.trans hx)
          exact h1
        · exact aheadB_trans (ih x zss[j] (by omega) hx (List.getElem?_eq_getElem hjl)) h1

/-- How many are ahead of one. -/
def plB (zss : List (List Int)) (t : List Int) : Nat := (zss.takeWhile (fun z => aheadB z t)).length

theorem plB_le (zss : List (List Int)) (t : List Int) : plB zss t ≤ zss.length := by
  unfold plB
  exact (List.takeWhile_prefix _).length_le

theorem plB_lt (zss : List (List Int)) (t : List Int) : ∀ (i : Nat) (z : List Int), zss[i]? = some z → i < plB zss t → aheadB z t = true := by
  unfold plB
  induction zss with
  | nil => intro i z hz; simp at hz
  | cons y r ih =>
    intro i z hz h
    rw [List.takeWhile_cons] at h
    split at h
    · rename_i hb
      cases i with
      | zero => simp at hz; subst hz; exact hb
      | succ i => exact ih i z (by simpa using hz) (by simpa using h)
    · simp at h

theorem plB_at (zss : List (List Int)) (t z : List Int) (h : zss[plB zss t]? = some z) : aheadB z t = false := by
  unfold plB at h
  induction zss with
  | nil => simp at h
  | cons y r ih =>
    rw [List.takeWhile_cons] at h
    split at h
    · rw [List.length_cons, List.getElem?_cons_succ] at h
      exact ih h
    · rename_i hb
      simp at h
      subst h
      simpa using hb

/-- Where all rise, just those below that place are ahead. -/
theorem plB_iff {zss : List (List Int)} (hr : ∀ (i j : Nat) (x y : List Int), i < j → zss[i]? = some x → zss[j]? = some y → aheadB x y = true) (t : List Int) (i : Nat) (z : List Int) (hz : zss[i]? = some z) : aheadB z t = decide (i < plB zss t) := by
  by_cases h : i < plB zss t
  · rw [decide_eq_true h]
    exact plB_lt zss t i z hz h
  · rw [decide_eq_false h]
    by_cases e : i = plB zss t
    · subst e
      exact plB_at zss t z hz
    · have hl : plB zss t < zss.length := by have := (List.getElem?_eq_some_iff.1 hz).1; omega
      have h1 := hr (plB zss t) i zss[plB zss t] z (by omega) (List.getElem?_eq_getElem hl) hz
      have h2 := plB_at zss t _ (List.getElem?_eq_getElem hl)
      cases h3 : aheadB z t with
      | false => rfl
      | true => rw [aheadB_trans h1 h3] at h2; cases h2

/-- One is there just where it stands at that place. -/
theorem plB_mem {zss : List (List Int)} (hr : ∀ (i j : Nat) (x y : List Int), i < j → zss[i]? = some x → zss[j]? = some y → aheadB x y = true) (t : List Int) : zss[plB zss t]? = some t ↔ t ∈ zss := by
  constructor
  · intro h; exact List.mem_of_getElem? h
  · intro h
    obtain ⟨i, hi⟩ := List.getElem?_of_mem h
    have h1 := plB_iff hr t i t hi
    rw [aheadB_irrefl] at h1
    have h2 : ¬ i < plB zss t := by simpa using h1.symm
    by_cases e : i = plB zss t
    · rw [← e]; exact hi
    · have hl : plB zss t < zss.length := by have := (List.getElem?_eq_some_iff.1 hi).1; omega
      have h3 := hr (plB zss t) i zss[plB zss t] t (by omega) (List.getElem?_eq_getElem hl) hi
      have h4 := plB_at zss t _ (List.getElem?_eq_getElem hl)
      rw [h3] at h4
      cases h4

end Go.Proofs.YtifhaihddimdfaaGreatDoor

/- What is proved here: what bytes.Compare and slices.BinarySearchFunc answer at signers that rise, and so the program's placeAmong and isAmong: where an address stands, and whether it is there. -/
namespace Go.Proofs.YtifhaihddimdfaaGreatDoor
open Go.RowKit
set_option linter.unusedVariables false
set_option maxRecDepth 100000

theorem bcompare_any (a b : Option Addr) (la ca lb cb : Nat) (xs ys : List Int) (w : World) (ha : BRow w a la xs) (hb : BRow w b lb ys) :
    Calls Tryz.prog 114 #[.slice a la ca, .slice b lb cb] w fun e w' => e = .returned (.int .i64 (cmpB xs ys)) ∧ w' = w := by
  have hr : (callFunc 136 #[.slice a la ca, .slice b lb cb]).run Tryz.prog w = .ok (.value (.int .i64 (cmpB xs ys))) w := by
    rw [run_callFunc_extern (P := Tryz.prog) Tryz.func136 (by kernel_rfl) (by kernel_rfl) (by kernel_rfl) (e := Extern.BytealgCompare.compare) (by kernel_rfl), run_compare w a b la ca lb cb xs ys ha hb]
    rfl
  clear ha hb
  generalize cmpB xs ys = c at hr ⊢
  go_enter Tryz.func114, Tryz.ntmps114
  go_wp2
  go_ret
  exact ⟨rfl, rfl⟩

set_option maxHeartbeats 2000000 in
theorem search_any (s t : Sl) (zss : List (List Int)) (z : List Int) (lb : Nat) (fd : Bool) (w : World) (h : BsRow w s.a s.n zss) (ht : BRow w t.a t.n z) (hl : zss.length ≤ 7) (hlb : lb ≤ zss.length)
    (hlow : ∀ (i : Nat) (y : List Int), zss[i]? = some y → decide (cmpB y z < 0) = decide (i < lb)) (hfd : fd = decide (zss[lb]? = some z)) (heq : ∀ y, zss[lb]? = some y → (cmpB y z == 0) = decide (y = z)) :
    Calls Tryz.prog 146 #[.slice s.a s.n s.c, .slice t.a t.n t.c, .func (.func 114) #[] #[]] w fun e w' => e = .returned (.tuple #[.int .i64 (lb : Nat), .bool fd]) ∧ w' = w := by
  obtain ⟨a, n, c⟩ := s
  have hil : zss.length = n := h.1
  simp only at h
  have hn7 : n ≤ 7 := by omega
  have HAT : Hid (0 < n → ∃ b off, a = some ⟨b, off, none⟩ ∧ b < w.heap.size ∧ ∀ i z, zss[i]? = some z → BsAt w b (off + i) z) := fun hp => h.at hp
  have HL := hide hil
  have HLOW := hide hlow
  have HFD := hide hfd
  have HEQ := hide heq
  have HT := hide ht
  have hlb' : lb ≤ n := by omega
  clear h hil hlow hfd heq ht hl hlb
  go_enter Tryz.func146, Tryz.ntmps146
  go_wp2_with fail
  go_loop [9, 10] (fun i j => ∃ p q : Nat, i = .int .i64 p ∧ j = .int .i64 q ∧ p ≤ lb ∧ lb ≤ q ∧ q ≤ n) (fun i j => (intOf j).toNat - (intOf i).toNat)
  case atStart => exact ⟨0, n, rfl, rfl, Nat.zero_le _, hlb', Nat.le_refl _⟩
  case round =>
    obtain ⟨p, q, rfl, rfl, hp, hq, hqn⟩ := hrel
    by_cases hlt : p < q
    · obtain ⟨b, off, rfl, hb, hc⟩ := (unhide HAT) (by omega)
      obtain ⟨hh, ehh⟩ : ∃ m, m = (p + q) / 2 := ⟨_, rfl⟩
      have hpm : p ≤ hh ∧ hh < q := by omega
      obtain ⟨y, hy⟩ : ∃ y, zss[hh]? = some y := ⟨_, List.getElem?_eq_getElem (by rw [unhide HL]; omega)⟩
      obtain ⟨sa, sl, sc, c0, hbr⟩ := hc hh y hy
      have HC := hide (bcompare_any sa t.a sl sc t.n t.c y z w hbr (unhide HT))
      have hlow := (unhide HLOW) hh y hy
      have d1 : decide ((p : Int) < (q : Int)) = true := decide_eq_true (by omega)
      obtain ⟨mm, emm⟩ : ∃ m : Nat, m = p + q := ⟨_, rfl⟩
      have s1 : (p : Int) + (q : Int) = (mm : Int) := by omega
      have s2 : IntKind.u64.wrap (mm : Int) = (mm : Int) := by rw [IntKind.wrap_u64]; omega
      have s3 : IntKind.i64.wrap (mm : Int) = (mm : Int) := by rw [IntKind.wrap_i64]; omega
      have s4 : (mm : Int) / 2 = (hh : Int) := by omega
      have s5 : IntKind.u64.wrap (hh : Int) = (hh : Int) := by rw [IntKind.wrap_u64]; omega
      have s6 : IntKind.i64.wrap (hh : Int) = (hh : Int) := by rw [IntKind.wrap_i64]; omega
      have HM := hide (And.intro ehh (And.intro hpm emm))
      have i1 : (0 : Int) ≤ (hh : Int) := by omega
      have i2 : (hh : Int) < (n : Int) := by omega
      clear hc hbr hy ehh hpm emm
      go_wp2_with fail
      refine (unhide HC).mono ?_
      rintro e w1 ⟨rfl, rfl⟩
      generalize cmpB y z = cc at hlow
      by_cases hcase : hh < lb
      · rw [decide_eq_true hcase] at hlow
        go_wp2_with fail
        go_round
        case rel => exact ⟨hh + 1, q, by go_num, rfl, by omega, hq, hqn⟩
        case measure => obtain ⟨e1, e2, e3⟩ := unhide HM; simp [intOf]; omega
      · rw [decide_eq_false hcase] at hlow
        go_wp2_with fail
        go_round
        case rel => exact ⟨p, hh, rfl, rfl, hp, by omega, by obtain ⟨e1, e2, e3⟩ := unhide HM; omega⟩
        case measure => obtain ⟨e1, e2, e3⟩ := unhide HM; simp [intOf]; omega
    · obtain rfl : p = lb := by omega
      have d1 : decide ((p : Int) < (q : Int)) = false := decide_eq_false (by omega)
      clear HLOW
      by_cases hpn : p < n
      · obtain ⟨b, off, rfl, hb, hc⟩ := (unhide HAT) (by omega)
        obtain ⟨y, hy⟩ : ∃ y, zss[p]? = some y := ⟨_, List.getElem?_eq_getElem (by rw [unhide HL]; omega)⟩
        obtain ⟨sa, sl, sc, c0, hbr⟩ := hc p y hy
        have HC := hide (bcompare_any sa t.a sl sc t.n t.c y z w hbr (unhide HT))
        have heq := (unhide HEQ) y hy
        have hfd := unhide HFD
        rw [hy] at hfd
        simp only [Option.some.injEq] at hfd
        rw [← hfd] at heq
        have d2 : decide ((p : Int) < (n : Int)) = true := decide_eq_true (by omega)
        have i1 : (0 : Int) ≤ (p : Int) := by omega
        have i2 : (p : Int) < (n : Int) := by omega
        clear hc hbr hy HFD HEQ hfd HAT
        go_wp2_with fail
        refine (unhide HC).mono ?_
        rintro e w1 ⟨rfl, rfl⟩
        generalize cmpB y z = cc at heq
        go_wp2_with fail
        go_ret2
        exact ⟨rfl, rfl⟩
      · have d2 : decide ((p : Int) < (n : Int)) = false := decide_eq_false (by omega)
        have hfd : fd = false := by
          rw [unhide HFD, List.getElem?_eq_none (by rw [unhide HL]; omega)]
          rfl
        subst hfd
        clear HFD HEQ HAT
        go_wp2_with fail
        go_ret2
        exact ⟨rfl, rfl⟩

set_option maxHeartbeats 1000000 in
/-- Where an address stands among signers without a fault, and whether it is there. -/
theorem placeAmong_any (s t : Sl) (zss : List (List Int)) (z : List Int) (w : World) (h : RowOk bytesK w s zss) (ht : BOk w t z) (hs : sgFlt zss = 0) :
    Calls Tryz.prog 132 #[.slice s.a s.n s.c, .slice t.a t.n t.c] w fun e w' => e = .returned (.tuple #[.int .i64 (plB zss z : Nat), .bool (decide (z ∈ zss))]) ∧ w' = w := by
  obtain ⟨h7, h4, hr⟩ := sg_rise hs
  have hb := bs_of_row h
  have HS := hide (search_any s t zss z (plB zss z) (decide (z ∈ zss)) w hb ht.row h7 (plB_le _ _) (fun i y hy => by rw [cmpB_neg]; exact plB_iff hr z i y hy)
    (by by_cases e : z ∈ zss <;> simp [e, plB_mem hr z]) (fun y hy => by
      have := cmpB_zero (hb.bytes y (List.mem_of_getElem? hy)) ht.row.2.1
      by_cases e : y = z
      · rw [decide_eq_true e]; simp [this.2 e]
      · rw [decide_eq_false e]
        rw [beq_eq_false_iff_ne]
        exact fun q => e (this.1 q)))
  generalize plB zss z = lb at HS ⊢
  generalize decide (z ∈ zss) = fd at HS ⊢
  clear h ht hs h7 h4 hr hb
  go_enter Tryz.func132, Tryz.ntmps132
  go_wp2_with fail
  refine (unhide HS).mono ?_
  rintro e w1 ⟨rfl, rfl⟩
  go_wp2_with fail
  go_ret2
  exact ⟨rfl, rfl⟩

set_option maxHeartbeats 1000000 in
theorem isAmong_any (s t : Sl) (zss : List (List Int)) (z : List Int) (w : World) (h : RowOk bytesK w s zss) (ht : BOk w t z) (hs : sgFlt zss = 0) :
    Calls Tryz.prog 106 #[.slice s.a s.n s.c, .slice t.a t.n t.c] w fun e w' => e = .returned (.bool (decide (z ∈ zss))) ∧ w' = w := by
  have HS := hide (placeAmong_any s t zss z w h ht hs)
  generalize plB zss z = lb at HS
  generalize decide (z ∈ zss) = fd at HS ⊢
  clear h ht hs
  go_enter Tryz.func106, Tryz.ntmps106
  go_wp2_with fail
  refine (unhide HS).mono ?_
  rintro e w1 ⟨rfl, rfl⟩
  go_wp2_with fail
  go_ret
  exact ⟨rfl, rfl⟩

end Go.Proofs.YtifhaihddimdfaaGreatDoor

/- What is proved here: the contract of the laws' helper function that counts bytes (szByteS). -/
namespace Go.Proofs.YtifhaihddimdfaaGreatDoor
open Go.RowKit
set_option linter.unusedVariables false
set_option maxRecDepth 100000

theorem szByteS_any (a : Option Addr) (n cap : Nat) (left : Int) (w : World) (h0 : 0 ≤ left) (h1 : left ≤ 1099511627776) (hn : n ≤ maxLen) :
    Calls Tryz.prog 67 #[.slice a n cap, .int .i64 left] w fun e w' => e = .returned (.int .i64 (if left - n < 0 then -1 else left - n)) ∧ w' = w := by
  unfold maxLen at hn
  by_cases h : left - n < 0
  · rw [if_pos h]
    have hd : decide (left - (n : Int) < 0) = true := decide_eq_true h
    go_enter Tryz.func67, Tryz.ntmps67
    go_wp2
    go_ret
    exact ⟨rfl, rfl⟩
  · rw [if_neg h]
    have hd : decide (left - (n : Int) < 0) = false := decide_eq_false h
    go_enter Tryz.func67, Tryz.ntmps67
    go_wp2
    go_ret
    exact ⟨rfl, rfl⟩

end Go.Proofs.YtifhaihddimdfaaGreatDoor

/- What is proved here: the contracts of the laws' helper functions that count recents and votes (szRecentS, szVoteS). -/
namespace Go.Proofs.YtifhaihddimdfaaGreatDoor
open Go.RowKit
set_option linter.unusedVariables false
set_option maxRecDepth 100000

end Go.Proofs.YtifhaihddimdfaaGreatDoor

/- What is proved here: the contracts of the laws' helper functions that compare recents and votes (eqRecentS, eqVoteS). -/
namespace Go.Proofs.YtifhaihddimdfaaGreatDoor
open Go.RowKit
set_option linter.unusedVariables false
set_option maxRecDepth 100000

theorem below_two' (w : World) (o1 o2 : Obj) : Below w.heap.size w ((w.alloc o1).alloc o2) := ((Below.refl _ _).alloc (Nat.le_refl _) _).alloc (by simp) _

theorem drop_same {α : Type} [DecidableEq α] (a b : List α) (k : Nat) (x y : α) (hx : a[k]? = some x) (hy : b[k]? = some y) : decide (a.drop k = b.drop k) = (decide (x = y) && decide (a.drop (k + 1) = b.drop (k + 1))) := by
  obtain ⟨h1, e1⟩ := List.getElem?_eq_some_iff.1 hx
  obtain ⟨h2, e2⟩ := List.getElem?_eq_some_iff.1 hy
  rw [List.drop_eq_getElem_cons h1, List.drop_eq_getElem_cons h2, e1, e2]
  simp

end Go.Proofs.YtifhaihddimdfaaGreatDoor

/- What is proved here: the contracts of the laws' helper functions that copy recents and votes (toRecentS, toVoteS). -/
namespace Go.Proofs.YtifhaihddimdfaaGreatDoor
open Go.RowKit
set_option linter.unusedVariables false
set_option maxRecDepth 100000

end Go.Proofs.YtifhaihddimdfaaGreatDoor

/- What is proved here: the contract of the laws' helper function that copies a snapshot (toSnap). -/
namespace Go.Proofs.YtifhaihddimdfaaGreatDoor
open Go.RowKit
set_option linter.unusedVariables false
set_option maxRecDepth 100000

end Go.Proofs.YtifhaihddimdfaaGreatDoor

/- What is proved here: the contracts of the laws' helper functions that count and compare snapshots (szSnap, eqSnap). -/
namespace Go.Proofs.YtifhaihddimdfaaGreatDoor
open Go.RowKit
set_option linter.unusedVariables false
set_option maxRecDepth 100000

theorem sameBs_dec : ∀ (a b : List (List Int)), sameBs a b = decide (a = b)
  | [], [] => rfl
  | [], _ :: _ => by simp [sameBs]
  | _ :: _, [] => by simp [sameBs]
  | a :: r, b :: t => by
    rw [sameBs, sameBs_dec r t]
    by_cases h : a = b
    · subst h; simp [sameB]
    · simp [sameB, h]

/-- Whether two snapshots are the same. -/
def snSame (x y : Sn) : Bool := decide (x.1 = y.1) && (decide (x.2.1 = y.2.1) && (decide (x.2.2.1 = y.2.2.1) && decide (x.2.2.2 = y.2.2.2)))

theorem snSame_self (x : Sn) : snSame x x = true := by simp [snSame]

theorem snSame_iff (x y : Sn) : snSame x y = true ↔ x = y := by
  obtain ⟨x0, x1, x2, x3⟩ := x
  obtain ⟨y0, y1, y2, y3⟩ := y
  simp [snSame]

structure SnSm (x : Sn) : Prop where
  s : x.2.1.length ≤ 1048576
  sz : ∀ z ∈ x.2.1, z.length ≤ 1048576
  r : x.2.2.1.length ≤ 1048576
  rz : ∀ y ∈ x.2.2.1, rcSz y ≤ 1048576
  v : x.2.2.2.length ≤ 1048576
  vz : ∀ y ∈ x.2.2.2, vtSz y ≤ 1048576

theorem snSm_of {x : Sn} (h : snSz x ≤ 1048576) : SnSm x := by
  unfold snSz at h
  exact ⟨by omega, fun z hz => by have := lsum_mem List.length _ z hz; omega, by omega, fun z hz => by have := lsum_mem rcSz _ z hz; omega, by omega, fun z hz => by have := lsum_mem vtSz _ z hz; omega⟩

end Go.Proofs.YtifhaihddimdfaaGreatDoor

/- What is proved here: plain facts on the fault of a snapshot; no program is named. -/
namespace Go.Proofs.YtifhaihddimdfaaGreatDoor
open Go.RowKit
set_option linter.unusedVariables false
set_option maxRecDepth 100000

/-- The fault of one vote, where some stand ahead of it. -/
def vtOne (sg : List (List Int)) (seen : List (List Int × List Int)) (v : Vt) : Int :=
  if (v.1.length == 4 && v.2.1.length == 4) = false then 1 else if decide (v.1 ∈ sg) = false then 4 else if (v.2.2 == decide (v.2.1 ∈ sg)) = true then 8 else if decide ((v.1, v.2.1) ∈ seen) = true then 6 else 0

/-- Who votes on whom. -/
def vtKeys (vs : List Vt) : List (List Int × List Int) := vs.map (fun v => (v.1, v.2.1))

/-- The first fault among the votes from a place on. -/
def vtFrom (sg : List (List Int)) (vs : List Vt) : Nat → List Vt → Int
  | _, [] => 0
  | k, v :: r => if vtOne sg (vtKeys (vs.take k)) v = 0 then vtFrom sg vs (k + 1) r else vtOne sg (vtKeys (vs.take k)) v

def rcOne (last least : Int) (r : Rc) : Int := if (r.2.length == 4) = false then 1 else if within r.1 least last = false then 3 else 0

/-- The first fault among recents, the first of which has to be at least so much. -/
def rcFrom (last : Int) : Int → List Rc → Int
  | _, [] => 0
  | least, r :: t => if rcOne last least r = 0 then rcFrom last (r.1 + 1) t else rcOne last least r

def sgSome (zss : List (List Int)) : Int := if zss.length = 0 then 4 else sgFlt zss

def snFlt (x : Sn) : Int :=
  if within x.1 0 1099511627776 = false then 3
  else if sgSome x.2.1 ≠ 0 then sgSome x.2.1
  else if 7 < x.2.2.1.length ∨ 30 < x.2.2.2.length then 2
  else if rcFrom x.1 0 x.2.2.1 ≠ 0 then rcFrom x.1 0 x.2.2.1
  else vtFrom x.2.1 x.2.2.2 0 x.2.2.2

theorem vtFrom_step (sg : List (List Int)) (vs : List Vt) (k : Nat) (v : Vt) (h : vs[k]? = some v) : vtFrom sg vs k (vs.drop k) = if vtOne sg (vtKeys (vs.take k)) v = 0 then vtFrom sg vs (k + 1) (vs.drop (k + 1)) else vtOne sg (vtKeys (vs.take k)) v := by
  obtain ⟨hk, e⟩ := List.getElem?_eq_some_iff.1 h
  rw [List.drop_eq_getElem_cons hk, e]
  rfl

theorem vtKeys_snoc (vs : List Vt) (k : Nat) (v : Vt) (h : vs[k]? = some v) : vtKeys (vs.take (k + 1)) = vtKeys (vs.take k) ++ [(v.1, v.2.1)] := by
  obtain ⟨hk, e⟩ := List.getElem?_eq_some_iff.1 h
  unfold vtKeys
  rw [List.take_succ_eq_append_getElem hk, List.map_append, e]
  rfl

theorem rcFrom_step (last least : Int) (rs : List Rc) (k : Nat) (r : Rc) (h : rs[k]? = some r) : rcFrom last least (rs.drop k) = if rcOne last least r = 0 then rcFrom last (r.1 + 1) (rs.drop (k + 1)) else rcOne last least r := by
  obtain ⟨hk, e⟩ := List.getElem?_eq_some_iff.1 h
  rw [List.drop_eq_getElem_cons hk, e]
  rfl

theorem vtOne_zero {sg : List (List Int)} {seen : List (List Int × List Int)} {v : Vt} (h : vtOne sg seen v = 0) : v.1.length = 4 ∧ v.2.1.length = 4 ∧ v.1 ∈ sg ∧ v.2.2 ≠ decide (v.2.1 ∈ sg) ∧ (v.1, v.2.1) ∉ seen := by
  unfold vtOne at h
  split at h
  · omega
  · rename_i h1
    split at h
    · omega
    · rename_i h2
      split at h
      · omega
      · rename_i h3
        split at h
        · omega
        · rename_i h4
          simp at h1 h2 h3 h4
          exact ⟨h1.1, h1.2, h2, by simpa using h3, h4⟩

end Go.Proofs.YtifhaihddimdfaaGreatDoor

/- What is proved here: what the model's SignersFault answers. -/
namespace Go.Proofs.YtifhaihddimdfaaGreatDoor
open Go.RowKit
set_option linter.unusedVariables false
set_option maxRecDepth 100000

end Go.Proofs.YtifhaihddimdfaaGreatDoor

/- What is proved here: what someSignersFault and l7List answer; rows told by colours, as rows of bytes. -/
namespace Go.Proofs.YtifhaihddimdfaaGreatDoor
open Go.RowKit
set_option linter.unusedVariables false
set_option maxRecDepth 100000

set_option maxHeartbeats 1000000 in
theorem someSigners_any (s : Sl) (zss : List (List Int)) (w : World) (h : RowOk bytesK w s zss) (hl : zss.length ≤ 1048576) :
    Calls Tryz.prog 71 #[.slice s.a s.n s.c] w fun e w' => e = .returned (.int .i64 (sgSome zss)) ∧ w' = w := by
  have hn : s.n = zss.length := h.len
  have HI := hide (implSigners_any s.a s.n s.c zss w (bs_of_row h) (by omega))
  by_cases h0 : zss.length = 0
  · have HE : Hid (sgSome zss = 4) := if_pos h0
    have hz : (((s.n : Nat) : Int) == 0) = true := by rw [hn, h0]; rfl
    clear hn h h0 HI
    go_enter Tryz.func71, Tryz.ntmps71
    go_wp2_with fail
    go_ret
    exact ⟨ret_int (unhide HE).symm, rfl⟩
  · have HE : Hid (sgSome zss = sgFlt zss) := if_neg h0
    have hz : (((s.n : Nat) : Int) == 0) = false := by rw [beq_eq_false_iff_ne]; omega
    clear hn h h0
    go_enter Tryz.func71, Tryz.ntmps71
    go_wp2_with fail
    refine (unhide HI).mono ?_
    rintro e w1 ⟨rfl, rfl⟩
    go_wp2_with fail
    go_ret
    exact ⟨ret_int (unhide HE).symm, rfl⟩

set_option maxHeartbeats 1000000 in
theorem l7List_any (s : Sl) (zss : List (List Int)) (w : World) (h : RowOk bytesK w s zss) (hl : zss.length ≤ 1048576) :
    Calls Tryz.prog 68 #[.slice s.a s.n s.c] w fun e w' => e = .returned (.int .i64 (sgSome zss)) ∧ ∃ n, w' = w.drewN n := by
  have hn : s.n = zss.length := h.len
  have HI := hide (l5Signers_any s.a s.n s.c zss w (bs_of_row h) (by omega))
  by_cases h0 : zss.length = 0
  · have HE : Hid (sgSome zss = 4) := if_pos h0
    have hz : (((s.n : Nat) : Int) == 0) = true := by rw [hn, h0]; rfl
    clear hn h h0 HI
    go_enter Tryz.func68, Tryz.ntmps68
    go_wp2_with fail
    go_ret
    exact ⟨ret_int (unhide HE).symm, 0, rfl⟩
  · have HE : Hid (sgSome zss = sgFlt zss) := if_neg h0
    have hz : (((s.n : Nat) : Int) == 0) = false := by rw [beq_eq_false_iff_ne]; omega
    clear hn h h0
    go_enter Tryz.func68, Tryz.ntmps68
    go_wp2_with fail
    refine (unhide HI).mono ?_
    rintro e w1 ⟨rfl, n, rfl⟩
    go_wp2_with fail
    go_ret
    exact ⟨ret_int (unhide HE).symm, n, rfl⟩

theorem CS.nrow {B r c : Nat} {d : Nat → Nat} {w : World} {s : Sl} {zss : List (List Int)} (h : CS w B d r c s zss) (hr : ∀ i, r ≠ c + 3 * i) : RowOk bytesK w s zss := by
  obtain ⟨d', h'⟩ := row_of_cs h hr []
  exact (rowK bytesK 22).ok h'

theorem CS.nrowM {B r c : Nat} {d : Nat → Nat} {w : World} {s : Sl} {zss : List (List Int)} (h : CS w B d r c s zss) (hr : ∀ i, r ≠ c + 3 * i) : BsRow w s.a s.n zss := bs_of_row (h.nrow hr)

end Go.Proofs.YtifhaihddimdfaaGreatDoor

/- What is proved here: what QuorumOf answers, in the program and in the model. -/
namespace Go.Proofs.YtifhaihddimdfaaGreatDoor
open Go.RowKit
set_option linter.unusedVariables false
set_option maxRecDepth 100000

/-- The code of QuorumOf, and what it tells. -/
def qmCode (n : Int) : Int := if within n 1 7 = true then 0 else 3
def qmVal (n : Int) : Int := if within n 1 7 = true then 2 * ((n - 1) / 3) + 1 else 0

theorem within_seven {n : Int} (h : within n 1 7 = true) : n = 1 ∨ n = 2 ∨ n = 3 ∨ n = 4 ∨ n = 5 ∨ n = 6 ∨ n = 7 := by
  unfold within at h
  have := of_decide_eq_true h
  omega

theorem l8Quorum_any (n : Int) (w : World) (h : within n 1 7 = true) : Calls Tryz.prog 105 #[.int .i64 n] w fun r w' => r = .returned (.int .i64 (qmVal n)) ∧ w' = w := by
  unfold qmVal
  rw [if_pos h]
  rcases within_seven h with rfl | rfl | rfl | rfl | rfl | rfl | rfl
  all_goals
    clear h
    go_enter Tryz.func105, Tryz.ntmps105
    go_wp2_with fail
    go_ret
    exact ⟨rfl, rfl⟩

set_option maxHeartbeats 4000000 in
theorem implQuorum_any (n : Int) (w : World) : Calls Tryz.prog 107 #[.int .i64 n] w fun r w' => r = .returned (.agg #[.int .i64 (qmCode n), .int .i64 (qmVal n)]) ∧ Below w.heap.size w w' := by
  have HI := hide (fun (W : World) (c : Bool) (e : within n 1 7 = c) => isWithin_to n 1 7 c W e)
  have kr := SBlk.new w #[.int .i64 0, .int .i64 0] 115
  have bb := hide (below_alloc w (.cells #[.int .i64 0, .int .i64 0] 115))
  obtain ⟨W0, e0⟩ : ∃ W, w.alloc (.cells #[.int .i64 0, .int .i64 0] 115) = W := ⟨_, rfl⟩
  rw [e0] at kr bb
  have r0 := kr.cell 0
  have r1 := kr.cell 1
  have f0 := kr.free 0
  have f1 := kr.free 1
  simp only [List.getElem?_cons_zero, List.getElem?_cons_succ] at r0 r1
  clear kr
  by_cases h : within n 1 7 = true
  · unfold qmCode qmVal
    rw [if_pos h, if_pos h]
    have HH := hide ((unhide HI) W0 true h)
    clear HI
    rcases within_seven h with rfl | rfl | rfl | rfl | rfl | rfl | rfl
    all_goals
      clear h
      go_enter Tryz.func107, Tryz.ntmps107
      go_wp2_with (rw [e0])
      try rw [e0]
      clear e0
      refine (unhide HH).mono ?_
      rintro r w1 ⟨rfl, rfl⟩
      go_wp2_with fail
      refine bodyPost_ret (v := .agg #[.int .i64 _, .int .i64 _]) (by simp [results, Tryz.results107, go_sem, r0, r1]) rfl ⟨rfl, ?_⟩
      exact ((unhide bb).setCell (p := ⟨w.heap.size, 0, none⟩) (Nat.le_refl _) _).setCell (p := ⟨w.heap.size, 1, none⟩) (Nat.le_refl _) _
  · unfold qmCode qmVal
    rw [if_neg h, if_neg h]
    have HH := hide ((unhide HI) W0 false (by simpa using h))
    clear HI h
    go_enter Tryz.func107, Tryz.ntmps107
    go_wp2_with (rw [e0])
    try rw [e0]
    clear e0
    refine (unhide HH).mono ?_
    rintro r w1 ⟨rfl, rfl⟩
    go_wp2_with fail
    refine bodyPost_ret (v := .agg #[.int .i64 3, .int .i64 0]) (by simp [results, Tryz.results107, go_sem, r0, r1]) rfl ⟨rfl, ?_⟩
    exact ((unhide bb).setCell (p := ⟨w.heap.size, 0, none⟩) (Nat.le_refl _) _).setCell (p := ⟨w.heap.size, 1, none⟩) (Nat.le_refl _) _

end Go.Proofs.YtifhaihddimdfaaGreatDoor

/- What is proved here: what the program's areAmong, isQuorum and CommitsRight answer. -/
namespace Go.Proofs.YtifhaihddimdfaaGreatDoor
open Go.RowKit
set_option linter.unusedVariables false
set_option maxRecDepth 100000

/-- Whether each of a list is one of the signers. -/
def crAll (zss yss : List (List Int)) : Bool := yss.all (fun y => decide (y ∈ zss))
/-- What CommitsRight answers. -/
def crCode (zss : List (List Int)) (h : Hd) : Int := if sgSome zss ≠ 0 then sgSome zss else if coCode h ≠ 0 then coCode h else if (crAll zss (coAns h) && decide (qmVal ((zss.length : Nat) : Int) ≤ (((coAns h).length : Nat) : Int))) = true then 0 else 8

theorem crAll_step (zss yss : List (List Int)) (k : Nat) (y : List Int) (h : yss[k]? = some y) : crAll zss (yss.drop k) = (decide (y ∈ zss) && crAll zss (yss.drop (k + 1))) := by
  obtain ⟨hk, e⟩ := List.getElem?_eq_some_iff.1 h
  rw [List.drop_eq_getElem_cons hk, e]
  rfl

theorem sgSome_ok {zss : List (List Int)} (h : sgSome zss = 0) : sgFlt zss = 0 ∧ 0 < zss.length ∧ zss.length ≤ 7 := by
  unfold sgSome at h
  split at h
  · omega
  · exact ⟨h, by omega, (sg_rise h).1⟩

set_option maxHeartbeats 2000000 in
theorem areAmong_any (s t : Sl) (zss yss : List (List Int)) (w : World) (h : RowOk bytesK w s zss) (ht : RowOk bytesK w t yss) (hs : sgFlt zss = 0) (hl : yss.length ≤ 1048576) :
    Calls Tryz.prog 72 #[.slice s.a s.n s.c, .slice t.a t.n t.c] w fun e w' => e = .returned (.bool (crAll zss yss)) ∧ w' = w := by
  obtain ⟨a, len, cap⟩ := t
  have hil : len = yss.length := ht.len
  have HR := hide (fun hp => RowOk.pos ht hp)
  have HL := hide hil
  have hln : len ≤ 1048576 := by omega
  have HM := hide (fun (el : Sl) (y : List Int) (o : BOk w el y) => isAmong_any s el zss y w h o hs)
  clear h hil hl ht hs
  go_enter Tryz.func72, Tryz.ntmps72
  go_wp2_with fail
  go_loop [9] (fun i => ∃ k : Nat, k ≤ len ∧ i = .int .i64 k ∧ crAll zss yss = crAll zss (yss.drop k)) (fun i => len - (intOf i).toNat)
  case atStart => exact ⟨0, Nat.zero_le _, rfl, by simp⟩
  case round =>
    obtain ⟨k, hk, rfl, hpre⟩ := hrel
    by_cases hlt : k < len
    · obtain ⟨b, off, ea, hb, hc⟩ := (unhide HR) (by show 0 < len; omega)
      subst ea
      obtain ⟨y, hy⟩ : ∃ v, yss[k]? = some v := ⟨_, List.getElem?_eq_getElem (by rw [← unhide HL]; exact hlt)⟩
      obtain ⟨el, c, oo⟩ := hc k y hy
      have hst := crAll_step zss yss k y hy
      have c0 := c 0 _ rfl
      simp only [Nat.add_zero, Nat.mul_one, show bytesK.m = 1 from rfl] at c0
      have HQ := hide ((unhide HM) el y oo)
      have HST := hide (And.intro hpre hst)
      have i1 : (0 : Int) ≤ (k : Int) := by omega
      have i2 : (k : Int) < (len : Int) := by omega
      clear hc c oo hst hpre hy
      go_wp2_with fail
      refine (unhide HQ).mono ?_
      rintro e w1 ⟨rfl, rfl⟩
      by_cases e : y ∈ zss
      · rw [decide_eq_true e]
        go_wp2_with fail
        go_round
        case rel => exact ⟨k + 1, by omega, by go_num, by rw [(unhide HST).1, (unhide HST).2, decide_eq_true e]; rfl⟩
        case measure => simp [intOf]; omega
      · rw [decide_eq_false e]
        have HE : Hid (crAll zss yss = false) := by show _ = _; rw [(unhide HST).1, (unhide HST).2, decide_eq_false e]; rfl
        go_wp2_with fail
        go_ret
        exact ⟨ret_bool (unhide HE).symm, rfl⟩
    · obtain rfl : k = len := by omega
      rw [List.drop_eq_nil_of_le (by rw [← unhide HL]; exact Nat.le_refl _)] at hpre
      have HE : Hid (crAll zss yss = true) := hpre
      clear hpre
      go_wp2_with fail
      go_ret
      exact ⟨ret_bool (unhide HE).symm, rfl⟩

theorem fieldI1q (x y : Value) (w : World) : (Instr.field 115 (.agg #[x, y]) 1).run Tryz.prog w = .ok y w := by kernel_rfl

set_option maxHeartbeats 2000000 in
theorem isQuorum_any (s : Sl) (c : Nat) (w : World) (hl : 0 < s.n ∧ s.n ≤ 7) (hc : c ≤ 1048576) :
    Calls Tryz.prog 73 #[.slice s.a s.n s.c, .int .i64 c] w fun e w' => e = .returned (.bool (decide (qmVal ((s.n : Nat) : Int) ≤ (c : Int)))) ∧ Below w.heap.size w w' := by
  obtain ⟨a, len, cap⟩ := s
  simp only at hl ⊢
  have HQ := hide (fun W => implQuorum_any ((len : Nat) : Int) W)
  have i1 : (len : Int) ≤ 7 := by omega
  have i2 : (c : Int) ≤ 1048576 := by omega
  generalize qmVal ((len : Nat) : Int) = q at HQ ⊢
  generalize qmCode ((len : Nat) : Int) = d at HQ
  clear hl hc
  have hf := fieldI1q
  go_enter Tryz.func73, Tryz.ntmps73
  go_wp2_with fail
  refine ((unhide HQ) _).mono ?_
  rintro e w1 ⟨rfl, b1⟩
  go_wp2_with fail
  go_ret
  exact ⟨rfl, b1⟩

set_option maxHeartbeats 8000000 in
theorem implCommitsRight_any (s : Sl) (zss : List (List Int)) (x : HS) (h : Hd) (w : World) (q : RowOk bytesK w s zss) (hl : zss.length ≤ 1048576) (o : HOk w x h) (nn : HNil w x) (bc : BsCap w x.k.a x.k.n) (m : HSm h) (hv : Laid w) (hE : LaidE w) :
    Calls Tryz.prog 30 #[.slice s.a s.n s.c, .agg (hvals x h)] w fun e w' => e = .returned (.int .i64 (crCode zss h)) ∧ Below w.heap.size w w' := by
  have kb := SBlk.new w (hvals x h) 26
  have bb := below_alloc w (.cells (hvals x h) 26)
  obtain ⟨W1, ea⟩ : ∃ W, w.alloc (.cells (hvals x h) 26) = W := ⟨_, rfl⟩
  rw [ea] at kb bb
  have hn : s.n = zss.length := q.len
  have D1 := hide (someSigners_any s zss W1 (RowOk.below q bb (Nat.le_refl _)) hl)
  have D2 := hide (implCommitters_any x h W1 (o.below bb (Nat.le_refl _)) (nn.below bb (Nat.le_refl _)) (bc.below bb (Nat.le_refl _)) m (hv.below bb (Nat.le_refl _)) (hE.below bb (Nat.le_refl _)))
  have DA := hide (fun (W : World) (hb : Below w.heap.size w W) (t : Sl) (yss : List (List Int)) (ht : RowOk bytesK W t yss) (hs : sgSome zss = 0) (hy : yss.length ≤ 1048576) => areAmong_any s t zss yss W (RowOk.below q hb (Nat.le_refl _)) ht (sgSome_ok hs).1 hy)
  have DQ : Hid (∀ (W : World) (c : Nat), sgSome zss = 0 → c ≤ 1048576 → Calls Tryz.prog 73 #[.slice s.a s.n s.c, .int .i64 c] W fun e w' => e = .returned (.bool (decide (qmVal ((zss.length : Nat) : Int) ≤ (c : Int)))) ∧ Below W.heap.size W w') := fun W c hs hc => by
    have := sgSome_ok hs
    have k := isQuorum_any s c W (by omega) hc
    rw [← hn]
    exact k
  have HAL := hide (coAns_len h)
  have HC : Hid (crCode zss h = if sgSome zss ≠ 0 then sgSome zss else if coCode h ≠ 0 then coCode h else if (crAll zss (coAns h) && decide (qmVal ((zss.length : Nat) : Int) ≤ (((coAns h).length : Nat) : Int))) = true then 0 else 8) := rfl
  have HBB := hide bb
  have EA := hide ea
  obtain ⟨x0, x1, x2, x3, x4, x5, x6, x7, x8, x9, x10⟩ := hcells kb
  clear ea o nn bc m kb bb q hv hE hl hn
  generalize crCode zss h = CR at HC ⊢
  generalize coCode h = CC at D2 HC
  generalize coAns h = AA at D2 HAL HC
  generalize sgSome zss = SG at D1 DA DQ HC
  generalize crAll zss = CA at DA HC
  generalize qmVal ((zss.length : Nat) : Int) = QV at DQ HC
  unfold hvals at EA D2 ⊢
  go_enter Tryz.func30, Tryz.ntmps30
  go_upto_region 1 with fail
  rw [unhide EA]
  clear EA
  go_wp2_with fail
  refine (unhide D1).mono ?_
  rintro e w1 ⟨rfl, rfl⟩
  clear D1
  by_cases h0 : SG = 0
  case neg =>
    have h1 : (SG != 0) = true := by simp [h0]
    have HR : Hid (CR = SG) := by show _ = _; rw [unhide HC, if_pos h0]
    clear h0
    go_wp2_with fail
    go_ret
    exact ⟨ret_int (unhide HR).symm, unhide HBB⟩
  subst h0
  have h1 : ((0 : Int) != 0) = false := rfl
  go_wp2_with fail
  refine (unhide D2).mono ?_
  rintro e w2 ⟨t, d, rfl, hc2, b2⟩
  have rt : RowOk bytesK w2 t AA := hc2.nrow (by omega)
  have B2 := (unhide HBB).trans (b2.mono (unhide HBB).size)
  have tn : t.n = AA.length := rt.len
  have kt := SBlk.new w2 #[.int .i64 CC, .slice t.a t.n t.c] 42
  have bt := below_alloc w2 (.cells #[.int .i64 CC, .slice t.a t.n t.c] 42)
  obtain ⟨w3, e3⟩ : ∃ W, w2.alloc (.cells #[.int .i64 CC, .slice t.a t.n t.c] 42) = W := ⟨_, rfl⟩
  rw [e3] at kt bt
  have B3 := hide (B2.trans (bt.mono B2.size))
  have DA2 := hide ((unhide DA) w3 (unhide B3) t AA (RowOk.below rt bt (Nat.le_refl _)) (by trivial) (by have := unhide HAL; omega))
  have DQ2 := hide ((unhide DQ) w3 t.n (by trivial) (by have := unhide HAL; omega))
  have t0 := kt.cell 0
  have t1 := kt.cell 1
  simp only [List.getElem?_cons_zero, List.getElem?_cons_succ] at t0 t1
  have HC2 : Hid (CR = if CC ≠ 0 then CC else if (CA AA && decide (QV ≤ ((t.n : Nat) : Int))) = true then 0 else 8) := by show _ = _; rw [unhide HC, tn]; simp
  generalize CA AA = ca at DA2 HC2
  generalize decide (QV ≤ ((t.n : Nat) : Int)) = cq at DQ2 HC2
  clear D2 DA DQ HC rt hc2 b2 B2 kt bt tn HAL x0 x1 x2 x3 x4 x5 x6 x7 x8 x9 x10
  by_cases h2 : CC = 0
  case neg =>
    have h3 : (CC != 0) = true := by simp [h2]
    have HR : Hid (CR = CC) := by show _ = _; rw [unhide HC2, if_pos h2]
    clear h2
    go_wp2_with (rw [e3])
    try rw [e3]
    go_ret
    exact ⟨ret_int (unhide HR).symm, unhide B3⟩
  subst h2
  cases ca
  · have HR : Hid (CR = 8) := by show _ = _; rw [unhide HC2]; simp
    go_wp2_with (rw [e3])
    try rw [e3]
    refine (unhide DA2).mono ?_
    rintro e w4 ⟨rfl, rfl⟩
    go_wp2_with fail
    go_ret
    exact ⟨ret_int (unhide HR).symm, unhide B3⟩
  cases cq
  · have HR : Hid (CR = 8) := by show _ = _; rw [unhide HC2]; simp
    go_wp2_with (rw [e3])
    try rw [e3]
    refine (unhide DA2).mono ?_
    rintro e w4 ⟨rfl, rfl⟩
    go_wp2_with fail
    refine (unhide DQ2).mono ?_
    rintro e w5 ⟨rfl, b5⟩
    go_wp2_with fail
    go_ret
    exact ⟨ret_int (unhide HR).symm, (unhide B3).trans (b5.mono (unhide B3).size)⟩
  · have HR : Hid (CR = 0) := by show _ = _; rw [unhide HC2]; simp
    go_wp2_with (rw [e3])
    try rw [e3]
    refine (unhide DA2).mono ?_
    rintro e w4 ⟨rfl, rfl⟩
    go_wp2_with fail
    refine (unhide DQ2).mono ?_
    rintro e w5 ⟨rfl, b5⟩
    go_wp2_with fail
    go_ret
    exact ⟨ret_int (unhide HR).symm, (unhide B3).trans (b5.mono (unhide B3).size)⟩

end Go.Proofs.YtifhaihddimdfaaGreatDoor

/- What is proved here: plain facts on the place of an address among signers, and of a vote among votes; no program is named. -/
namespace Go.Proofs.YtifhaihddimdfaaGreatDoor
open Go.RowKit
set_option linter.unusedVariables false
set_option maxRecDepth 100000

/-- The place of one from a place on; -1: it is not there. -/
def atFrom {α : Type} [DecidableEq α] (z : α) : Nat → List α → Int
  | _, [] => -1
  | k, y :: r => if y = z then (k : Int) else atFrom z (k + 1) r

theorem atFrom_step {α : Type} [DecidableEq α] (z : α) (zs : List α) (k : Nat) (y : α) (h : zs[k]? = some y) : atFrom z k (zs.drop k) = if y = z then (k : Int) else atFrom z (k + 1) (zs.drop (k + 1)) := by
  obtain ⟨hk, e⟩ := List.getElem?_eq_some_iff.1 h
  rw [List.drop_eq_getElem_cons hk, e]
  rfl

theorem atFrom_neg {α : Type} [DecidableEq α] (z : α) : ∀ (zs : List α) (k : Nat), decide (atFrom z k zs < 0) = !decide (z ∈ zs)
  | [], k => by simp [atFrom]
  | y :: r, k => by
    unfold atFrom
    by_cases e : y = z
    · subst e
      have h : ¬ ((k : Int) < 0) := by omega
      simp [h]
    · have e' : ¬ z = y := fun q => e q.symm
      rw [if_neg e, atFrom_neg z r (k + 1)]
      simp [e']

theorem atFrom_bd {α : Type} [DecidableEq α] (z : α) : ∀ (zs : List α) (k : Nat), -1 ≤ atFrom z k zs ∧ atFrom z k zs ≤ (k : Int) + zs.length
  | [], k => by simp [atFrom]
  | y :: r, k => by
    unfold atFrom
    have := atFrom_bd z r (k + 1)
    split
    · simp; omega
    · simp at this ⊢; omega

/-- Where one stands is the first of its places. -/
theorem atFrom_at {α : Type} [DecidableEq α] (z : α) : ∀ (zs : List α) (k i : Nat), zs[i]? = some z → (atFrom z k zs == ((k + i : Nat) : Int)) = !decide (z ∈ zs.take i)
  | [], k, i, h => by simp at h
  | y :: r, k, 0, h => by
    simp at h
    subst h
    simp [atFrom]
  | y :: r, k, i + 1, h => by
    rw [List.getElem?_cons_succ] at h
    unfold atFrom
    by_cases e : y = z
    · subst e
      have h1 : ¬ ((k : Int) = ((k + (i + 1) : Nat) : Int)) := by omega
      simp only [if_true, List.take_succ_cons, List.mem_cons, true_or, decide_true, Bool.not_true]
      rw [beq_eq_false_iff_ne]
      exact h1
    · have e' : ¬ z = y := fun q => e q.symm
      rw [if_neg e, show ((k + (i + 1) : Nat) : Int) = ((k + 1 + i : Nat) : Int) by omega, atFrom_at z r (k + 1) i h]
      simp [e']

/-- Among signers that rise the place is that which a search finds. -/
theorem atFrom_low {zss : List (List Int)} (hr : ∀ (i j : Nat) (x y : List Int), i < j → zss[i]? = some x → zss[j]? = some y → aheadB x y = true) (t : List Int) (h : t ∈ zss) : atFrom t 0 zss = (plB zss t : Nat) := by
  have h1 := (plB_mem hr t).2 h
  have h2 := atFrom_at t zss 0 (plB zss t) h1
  have h3 : t ∉ zss.take (plB zss t) := fun q => by
    obtain ⟨i, hi⟩ := List.getElem?_of_mem q
    have hl := (List.getElem?_eq_some_iff.1 hi).1
    rw [List.length_take] at hl
    rw [List.getElem?_take_of_lt (by omega)] at hi
    have := plB_lt zss t i t hi (by omega)
    rw [aheadB_irrefl] at this
    cases this
  simp [h3] at h2
  exact h2

end Go.Proofs.YtifhaihddimdfaaGreatDoor

/- What is proved here: plain facts on whether two headers are the same; no program is named. -/
namespace Go.Proofs.YtifhaihddimdfaaGreatDoor
open Go.RowKit
set_option linter.unusedVariables false
set_option maxRecDepth 100000

/-- Whether two lists of bytes are the same, as strings. -/
def sameLs : List (List Int) → List (List Int) → Bool
  | [], [] => true
  | a :: ar, b :: bs => strEq a b && sameLs ar bs
  | _, _ => false

theorem sameLs_length : ∀ (a b : List (List Int)), sameLs a b = true → a.length = b.length
  | [], [], _ => rfl
  | [], _ :: _, h => by simp [sameLs] at h
  | _ :: _, [], h => by simp [sameLs] at h
  | a :: ar, b :: bs, h => by
    simp [sameLs] at h
    simp [sameLs_length ar bs h.2]

theorem sameLs_step (a b : List (List Int)) (k : Nat) (x y : List Int) (hx : a[k]? = some x) (hy : b[k]? = some y) : sameLs (a.drop k) (b.drop k) = (strEq x y && sameLs (a.drop (k + 1)) (b.drop (k + 1))) := by
  obtain ⟨h1, e1⟩ := List.getElem?_eq_some_iff.1 hx
  obtain ⟨h2, e2⟩ := List.getElem?_eq_some_iff.1 hy
  rw [List.drop_eq_getElem_cons h1, List.drop_eq_getElem_cons h2, e1, e2]
  rfl

theorem sameLs_end (a b : List (List Int)) (k : Nat) (h1 : a.length = k) (h2 : b.length = k) : sameLs (a.drop k) (b.drop k) = true := by
  rw [List.drop_eq_nil_of_le (by omega), List.drop_eq_nil_of_le (by omega)]
  rfl

theorem sameLs_len (a b : List (List Int)) (h : a.length ≠ b.length) : sameLs a b = false := by
  rw [Bool.eq_false_iff]
  intro e
  exact h (sameLs_length a b e)

/-- Whether two headers are the same. -/
def sameHd (h k : Hd) : Bool := strEq h.p k.p && (h.n1 == k.n1) && (h.n2 == k.n2) && (h.n3 == k.n3) && strEq h.t k.t && (h.n5 == k.n5) && sameLs h.s k.s && strEq h.r k.r && strEq h.g k.g && strEq h.e k.e && sameLs h.k k.k

theorem bool11 (c0 c1 c2 c3 c4 c5 c6 c7 c8 c9 c10 : Bool) : ((c1 && c2 && c3) && (c0 && c7) && (c8 && c9 && c10) && (c4 && c5 && c6)) = (c0 && c1 && c2 && c3 && c4 && c5 && c6 && c7 && c8 && c9 && c10) := by
  ac_rfl

end Go.Proofs.YtifhaihddimdfaaGreatDoor

/- What is proved here: what the program's sameLists (slices.EqualFunc over SameBytes) and the model's l5SameLists answer. -/
namespace Go.Proofs.YtifhaihddimdfaaGreatDoor
open Go.RowKit
set_option linter.unusedVariables false
set_option maxRecDepth 100000

theorem implSame_to (a b : Option Addr) (la ca lb cb : Nat) (xs ys : List Int) (c : Bool) (w : World) (ha : BRow w a la xs) (hb : BRow w b lb ys) (e : strEq xs ys = c) :
    Calls Tryz.prog 85 #[.slice a la ca, .slice b lb cb] w fun e w' => e = .returned (.bool c) ∧ w' = w := by
  subst e; exact implSame_any a b la ca lb cb xs ys w ha hb

end Go.Proofs.YtifhaihddimdfaaGreatDoor

/- What is proved here: what the program's SameSnaps answers, and what it calls. -/
namespace Go.Proofs.YtifhaihddimdfaaGreatDoor
open Go.RowKit
set_option linter.unusedVariables false
set_option maxRecDepth 100000

theorem implSame_kd (s t : Sl) (x y : List Int) (w : World) (o : BOk w s x) (q : BOk w t y) :
    Calls Tryz.prog 85 #[.slice s.a s.n s.c, .slice t.a t.n t.c] w fun e w' => e = .returned (.bool (decide (x = y))) ∧ w' = w := by
  rw [← strEq_dec o.row.2.1 q.row.2.1]
  exact implSame_any s.a t.a s.n s.c t.n t.c x y w o.row q.row

theorem l1Same_kd (s t : Sl) (x y : List Int) (w : World) (o : BOk w s x) (q : BOk w t y) :
    Calls Tryz.prog 87 #[.slice s.a s.n s.c, .slice t.a t.n t.c] w fun e w' => e = .returned (.bool (decide (x = y))) ∧ w' = w := by
  rw [← strEq_dec o.row.2.1 q.row.2.1]
  exact l1Same_any s.a t.a s.n s.c t.n t.c x y w o.row q.row

theorem sameLs_dec : ∀ (a b : List (List Int)), (∀ z ∈ a, ∀ x ∈ z, 0 ≤ x ∧ x ≤ 255) → (∀ z ∈ b, ∀ x ∈ z, 0 ≤ x ∧ x ≤ 255) → sameLs a b = decide (a = b)
  | [], [], _, _ => rfl
  | [], _ :: _, _, _ => by simp [sameLs]
  | _ :: _, [], _, _ => by simp [sameLs]
  | a :: r, b :: t, ha, hb => by
    rw [sameLs, sameLs_dec r t (fun z hz => ha z (by simp [hz])) (fun z hz => hb z (by simp [hz])), strEq_dec (ha a (by simp)) (hb b (by simp))]
    simp [Bool.decide_and]

end Go.Proofs.YtifhaihddimdfaaGreatDoor

/- What is proved here: what the model's l7Addr, l7At and l7Vote answer. -/
namespace Go.Proofs.YtifhaihddimdfaaGreatDoor
open Go.RowKit
set_option linter.unusedVariables false
set_option maxRecDepth 100000

set_option maxHeartbeats 2000000 in
theorem l7At_any (s t : Sl) (zss : List (List Int)) (z : List Int) (w : World) (h : RowOk bytesK w s zss) (ht : BOk w t z) (hl : zss.length ≤ 1048576) :
    Calls Tryz.prog 104 #[.slice s.a s.n s.c, .slice t.a t.n t.c] w fun e w' => e = .returned (.int .i64 (atFrom z 0 zss)) ∧ w' = w := by
  obtain ⟨a, len, cap⟩ := s
  have hil : len = zss.length := h.len
  have HR := hide (fun hp => RowOk.pos h hp)
  have HL := hide hil
  have hln : len ≤ 1048576 := by omega
  have HT := hide ht
  clear h hil hl ht
  go_enter Tryz.func104, Tryz.ntmps104
  go_wp2_with fail
  go_loop [5] (fun i => ∃ k : Nat, k ≤ len ∧ i = .int .i64 k ∧ atFrom z 0 zss = atFrom z k (zss.drop k)) (fun i => len - (intOf i).toNat)
  case atStart => exact ⟨0, Nat.zero_le _, rfl, by simp⟩
  case round =>
    obtain ⟨k, hk, rfl, hpre⟩ := hrel
    by_cases hlt : k < len
    · obtain ⟨b, off, ea, hb, hc⟩ := (unhide HR) (by show 0 < len; omega)
      subst ea
      obtain ⟨y, hy⟩ : ∃ v, zss[k]? = some v := ⟨_, List.getElem?_eq_getElem (by rw [← unhide HL]; exact hlt)⟩
      obtain ⟨el, c, oo⟩ := hc k y hy
      have hst := atFrom_step z zss k y hy
      have c0 := c 0 _ rfl
      simp only [Nat.add_zero, Nat.mul_one, show bytesK.m = 1 from rfl] at c0
      have HQ := hide (l1Same_kd el t y z w oo (unhide HT))
      have HST := hide (And.intro hpre hst)
      have i1 : (0 : Int) ≤ (k : Int) := by omega
      have i2 : (k : Int) < (len : Int) := by omega
      clear hc c oo hst hpre hy
      go_wp2_with fail
      refine (unhide HQ).mono ?_
      rintro e w1 ⟨rfl, rfl⟩
      by_cases e : y = z
      · rw [decide_eq_true e]
        have HE : Hid (atFrom z 0 zss = k) := by show _ = _; rw [(unhide HST).1, (unhide HST).2, if_pos e]
        go_wp2_with fail
        go_ret
        exact ⟨ret_int (unhide HE).symm, rfl⟩
      · rw [decide_eq_false e]
        go_wp2_with fail
        go_round
        case rel => exact ⟨k + 1, by omega, by go_num, by rw [(unhide HST).1, (unhide HST).2, if_neg e]⟩
        case measure => simp [intOf]; omega
    · obtain rfl : k = len := by omega
      rw [List.drop_eq_nil_of_le (by rw [← unhide HL]; exact Nat.le_refl _)] at hpre
      have HE : Hid (atFrom z 0 zss = -1) := hpre
      clear hpre
      go_wp2_with fail
      go_ret
      exact ⟨ret_int (unhide HE).symm, rfl⟩

end Go.Proofs.YtifhaihddimdfaaGreatDoor
