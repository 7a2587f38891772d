/- What is proved here: plain facts on who committed to a header; no program is named. -/
import Derived.Test.YtnmbdannipebnaaGreatDoorJ14
import Derived.Test.YtnmbdannipebnaaGreatDoorChecked
import Derived.Test.YtnmbdannipebnaaGreatDoorJ1
import Derived.Test.YtnmbdannipebnaaGreatDoorJ11
import Derived.Laws.AppendOwnNone
import Derived.Lib.SliceRun
import Derived.WalkKit
import Derived.WalkLawsBesides
import Derived.WalkSmall
import Derived.WalkSpells
import Derived.KernelRfl
import Derived.Test.YtnmbdannipebnaaGreatDoorJ12
import Derived.BigQuiet
import Derived.Deep.QuietTactic
import Derived.BigRegion
import Derived.Deep.RegionHeld3
import Derived.Deep.AppendLies
import Derived.Test.YtnmbdannipebnaaGreatDoorJ2
import Derived.RegionTactic
import Derived.Deep.CutBlock
import Derived.Deep.DeepCutAuto
namespace Go.Proofs.YtnmbdannipebnaaGreatDoor
open Go.RowKit
set_option linter.unusedVariables false
set_option maxRecDepth 100000

def hash1 (h : Hd) : List Int := kcBytes (packL (noK h))
/-- Whether a commit is that of its first four bytes. -/
def coOk (h : Hd) (z : List Int) : Bool := strEq z (z.take 4 ++ markL (z.take 4) (hash1 h))
def coAll (h : Hd) (zss : List (List Int)) : Bool := zss.all (coOk h)
/-- Who committed. -/
def coAd (zss : List (List Int)) : List (List Int) := zss.map (fun z => z.take 4)
/-- Whether one stands among the first n. -/
def hasN (zss : List (List Int)) (z : List Int) (n : Nat) : Bool := (zss.take n).any (fun y => strEq y z)
/-- Whether one of the first n stands twice. -/
def twiceN (zss : List (List Int)) : Nat → Bool
  | 0 => false
  | n + 1 => twiceN zss n || hasN zss (zss.getD n []) n

def coCode (h : Hd) : Int := if hdFlt h = 0 then (if coAll h h.k = true then (if twiceN (coAd h.k) h.k.length = true then 6 else 0) else 7) else hdFlt h
def coAns (h : Hd) : List (List Int) := if hdFlt h = 0 ∧ coAll h h.k = true ∧ twiceN (coAd h.k) h.k.length = false then coAd h.k else []

theorem strEq_comm (a b : List Int) : strEq a b = strEq b a := by
  unfold strEq
  exact Bool.eq_iff_iff.2 ⟨fun h => by rw [beq_iff_eq] at h ⊢; exact h.symm, fun h => by rw [beq_iff_eq] at h ⊢; exact h.symm⟩

theorem hasN_succ (zss : List (List Int)) (z y : List Int) (n : Nat) (h : zss[n]? = some y) : hasN zss z (n + 1) = (hasN zss z n || strEq y z) := by
  obtain ⟨hn, e⟩ := List.getElem?_eq_some_iff.1 h
  unfold hasN
  rw [List.take_succ_eq_append_getElem hn, List.any_append, e]
  simp

theorem coAll_succ (h : Hd) (zss : List (List Int)) (k : Nat) (z : List Int) (hz : zss[k]? = some z) : coAll h (zss.take (k + 1)) = (coAll h (zss.take k) && coOk h z) := by
  obtain ⟨hk, e⟩ := List.getElem?_eq_some_iff.1 hz
  unfold coAll
  rw [List.take_succ_eq_append_getElem hk, List.all_append, e]
  simp

theorem coAll_bad (h : Hd) (zss : List (List Int)) (k : Nat) (z : List Int) (hz : zss[k]? = some z) (hb : coOk h z = false) : coAll h zss = false := by
  unfold coAll
  rw [List.all_eq_false]
  exact ⟨z, List.mem_of_getElem? hz, by rw [hb]; simp⟩

theorem hasN_mono (zss : List (List Int)) (z y : List Int) (j n : Nat) (hj : j < n) (h : zss[j]? = some y) (hs : strEq y z = true) : hasN zss z n = true := by
  unfold hasN
  rw [List.any_eq_true]
  refine ⟨y, ?_, hs⟩
  have := List.getElem?_take_of_lt (l := zss) hj
  exact List.mem_of_getElem? (this.trans h)

theorem twiceN_mono (zss : List (List Int)) (m n : Nat) (h : m ≤ n) (ht : twiceN zss m = true) : twiceN zss n = true := by
  induction n with
  | zero => obtain rfl : m = 0 := by omega
            exact ht
  | succ n ih =>
    by_cases e : m = n + 1
    · subst e; exact ht
    · unfold twiceN; rw [ih (by omega)]; rfl

theorem coAd_length (zss : List (List Int)) : (coAd zss).length = zss.length := by simp [coAd]

theorem coAd_snoc (zss : List (List Int)) (k : Nat) (z : List Int) (hz : zss[k]? = some z) : (coAd zss).take (k + 1) = (coAd zss).take k ++ [z.take 4] := by
  obtain ⟨hk, e⟩ := List.getElem?_eq_some_iff.1 hz
  unfold coAd
  rw [← List.map_take, List.take_succ_eq_append_getElem hk, List.map_append, e, List.map_take]
  rfl

/-- The first bytes of a slice. -/
theorem BRow.take {w : World} {a : Option Addr} {n m : Nat} {z : List Int} (h : BRow w a n z) (hm : m ≤ n) : BRow w a m (z.take m) := by
  refine ⟨by rw [List.length_take, h.1]; omega, fun x hx => h.2.1 x (List.mem_of_mem_take hx), fun e => by have := h.2.2.1 e; omega, fun y hy j hj => ?_⟩
  rw [h.2.2.2 y hy j (by omega), getD_at _ _ (by rw [h.1]; omega), getD_at _ _ (by rw [List.length_take, h.1]; omega), List.getElem_take]

/-- The first slices of a list. -/
theorem BsRow.take {w : World} {a : Option Addr} {n m : Nat} {zss : List (List Int)} (h : BsRow w a n zss) (hm : m ≤ n) : BsRow w a m (zss.take m) := by
  refine ⟨by rw [List.length_take, h.1]; omega, fun z hz => h.2.1 z (List.mem_of_mem_take hz), fun hp => ?_⟩
  obtain ⟨b, off, e, k⟩ := h.2.2 (by omega)
  refine ⟨b, off, e, fun i z hi => k i z ?_⟩
  rw [List.getElem?_take] at hi
  split at hi
  · exact hi
  · cases hi

end Go.Proofs.YtnmbdannipebnaaGreatDoor

/- What is proved here: what bytes.Clone answers: the same bytes in new memory. -/
namespace Go.Proofs.YtnmbdannipebnaaGreatDoor
open Go.RowKit
set_option linter.unusedVariables false
set_option maxRecDepth 100000

set_option maxHeartbeats 1000000 in
theorem clone_any (a : Option Addr) (n cap : Nat) (zs : List Int) (w : World) (h : BRow w a n zs) (hn : n ≤ 1048576) :
    Calls Tryz.prog 186 #[.slice a n cap] w fun e w' => ∃ (a' : Option Addr) (cap' : Nat), e = .returned (.slice a' n cap') ∧ w'.ownsRow w.heap.size 5 1 (.slice a' n cap') n (zs.map (Value.int .u8)) ∧ Below w.heap.size w w' := by
  obtain ⟨i0, hi, hz0, hz1, hz2⟩ := info_parts info5
  have qT : ∀ (w : World) (a : Option Addr) (n c n' c' : Nat), (binOp .eql 29 (.slice a n c) (.slice none n' c')).run Tryz.prog w = .ok (.bool a.isNone) w := fun w a n c n' c' => Lib.run_eql_slice_nil w _ _ a n c n' c' Tryz.underlying29
  have hown0 : (w.alloc (.cells #[] 5)).ownsRow w.heap.size 5 1 (.slice (some ⟨w.heap.size, 0, none⟩) 0 0) 0 (([] : List Int).map (Value.int .u8)) := World.ownsRow_lit w #[] 0 (Nat.le_refl _) (by unfold maxLen; omega) rfl
  have hb := below_alloc w (.cells #[] 5)
  have hr := h.below hb (Nat.le_refl _)
  cases a with
  | none =>
    obtain rfl : n = 0 := h.2.2.1 rfl
    obtain rfl : zs = [] := List.length_eq_zero_iff.1 h.1
    clear h hr hb hown0
    go_enter Tryz.func186, Tryz.ntmps186
    go_wp2_with fail
    go_ret
    exact ⟨none, 0, rfl, World.ownsRow_nil _ _ _ _, Below.refl _ _⟩
  | some x =>
    have HR := hide hr
    have HB := hide hb
    clear h hr hb
    go_enter Tryz.func186, Tryz.ntmps186
    go_wp2_with (at_builtin; refine wpList_append_brow _ rfl _ _ 29 rfl w.heap.size i0 Tryz.underlying29 hi hz0 hz1 hz2 _ 0 [] rfl hown0 (some x) n cap zs rfl (unhide HR) (fun e => by cases e) (by omega) (unhide HB).size ?_)
    intro a3 c3 w3 o3 g3
    have B3 : Below w.heap.size w w3 := (unhide HB).grown g3 (unhide HB).size (fun g e => (hown0.lt g e).1)
    have HO := hide o3
    have HB3 := hide B3
    clear o3 g3 B3 hown0
    go_wp2_with fail
    go_ret
    refine ⟨a3, c3, by simp, ?_, unhide HB3⟩
    simpa using unhide HO

end Go.Proofs.YtnmbdannipebnaaGreatDoor

/- What is proved here: what bytes.Clone, slices.Grow and slices.Concat answer at bytes: the same bytes in new memory, room, and all bytes one behind the other. -/
namespace Go.Proofs.YtnmbdannipebnaaGreatDoor
open Go.RowKit
set_option linter.unusedVariables false
set_option maxRecDepth 100000

end Go.Proofs.YtnmbdannipebnaaGreatDoor

/- What is proved here: what the model's l1Same and the program's SameBytes answer: whether two slices are the same as strings. -/
namespace Go.Proofs.YtnmbdannipebnaaGreatDoor
open Go.RowKit
set_option linter.unusedVariables false
set_option maxRecDepth 100000

theorem l1Same_any (a b : Option Addr) (la ca lb cb : Nat) (xs ys : List Int) (w : World) (ha : BRow w a la xs) (hb : BRow w b lb ys) :
    Calls Tryz.prog 76 #[.slice a la ca, .slice b lb cb] w fun e w' => e = .returned (.bool (strEq xs ys)) ∧ w' = w := by
  have h1 := conv_any (P := Tryz.prog) w 29 5 9 Tryz.underlying29 Tryz.underlying5 Tryz.underlying9 a la ca xs ha
  have h2 := conv_any (P := Tryz.prog) w 29 5 9 Tryz.underlying29 Tryz.underlying5 Tryz.underlying9 b lb cb ys hb
  clear ha hb
  go_enter Tryz.func76, Tryz.ntmps76
  go_wp2
  go_ret
  exact ⟨rfl, rfl⟩

theorem implSame_any (a b : Option Addr) (la ca lb cb : Nat) (xs ys : List Int) (w : World) (ha : BRow w a la xs) (hb : BRow w b lb ys) :
    Calls Tryz.prog 88 #[.slice a la ca, .slice b lb cb] w fun e w' => e = .returned (.bool (strEq xs ys)) ∧ w' = w := by
  have h1 := conv_any (P := Tryz.prog) w 29 5 9 Tryz.underlying29 Tryz.underlying5 Tryz.underlying9 a la ca xs ha
  have h2 := conv_any (P := Tryz.prog) w 29 5 9 Tryz.underlying29 Tryz.underlying5 Tryz.underlying9 b lb cb ys hb
  clear ha hb
  go_enter Tryz.func88, Tryz.ntmps88
  go_wp2
  go_ret
  exact ⟨rfl, rfl⟩

end Go.Proofs.YtnmbdannipebnaaGreatDoor

/- What is proved here: what the program's committerIn and hasTwice answer, and the model's l6Has. -/
namespace Go.Proofs.YtnmbdannipebnaaGreatDoor
open Go.RowKit
set_option linter.unusedVariables false
set_option maxRecDepth 100000

set_option maxHeartbeats 1000000 in
theorem committerIn_any (a : Option Addr) (c : Nat) (z : List Int) (w : World) (h : BRow w a 8 z) (hc : 8 ≤ c) :
    Calls Tryz.prog 201 #[.slice a 8 c] w fun e w' => ∃ (a' : Option Addr) (c' : Nat), e = .returned (.slice a' 4 c') ∧ w'.ownsRow w.heap.size 5 1 (.slice a' 4 c') 4 ((z.take 4).map (Value.int .u8)) ∧ Below w.heap.size w w' := by
  obtain ⟨b, off, rfl, _, _⟩ := h.at (by omega)
  have D := hide (clone_any (some ⟨b, off, none⟩) 4 c (z.take 4) w (h.take (by omega)) (by omega))
  clear h
  go_enter Tryz.func201, Tryz.ntmps201
  go_wp2_with fail
  refine (unhide D).mono ?_
  rintro e w2 ⟨a2, c2, rfl, o2, b2⟩
  go_wp2_with fail
  go_ret
  exact ⟨a2, c2, rfl, o2, b2⟩

set_option maxHeartbeats 4000000 in
theorem l6Has_any (a : Option Addr) (len cap : Nat) (zss : List (List Int)) (b : Option Addr) (m d : Nat) (z : List Int) (w : World) (h : BsRow w a len zss) (k : BRow w b m z) (hl : len ≤ 1048576) :
    Calls Tryz.prog 191 #[.slice a len cap, .slice b m d] w fun e w' => e = .returned (.bool (hasN zss z len)) ∧ w' = w := by
  have HL := hide h.1
  have HROW := hide h
  have HSM := hide (fun (s1 : Option Addr) (n1 d1 : Nat) (y : List Int) (r : BRow w s1 n1 y) => l1Same_any s1 b n1 d1 m d y z w r k)
  have HSC := hide (hasN_succ zss z)
  have HMO := hide (hasN_mono zss z)
  clear h k
  go_enter Tryz.func191, Tryz.ntmps191
  go_wp2_with fail
  go_loopw [5] (fun i wr => ∃ j : Nat, j ≤ len ∧ i = .int .i64 j ∧ hasN zss z j = false ∧ wr = w) (fun i _ => len - (intOf i).toNat)
  case atStart => exact ⟨0, Nat.zero_le _, rfl, rfl, rfl⟩
  case round =>
    obtain ⟨j, hj, rfl, hf, rfl⟩ := hrel
    by_cases hlt : j < len
    · obtain ⟨y, hit⟩ : ∃ y, zss[j]? = some y := ⟨_, List.getElem?_eq_getElem (by rw [unhide HL]; exact hlt)⟩
      obtain ⟨b0, off, rfl, _, hat⟩ := (unhide HROW).at (by omega)
      obtain ⟨s1, n1, d1, c0, r1⟩ := hat j y hit
      have D := hide ((unhide HSM) s1 n1 d1 y r1)
      have hs := (unhide HSC) y j hit
      rw [hf, Bool.false_or] at hs
      have hm := fun (q : strEq y z = true) => (unhide HMO) y j len hlt hit q
      have HS := hide hs
      have HM := hide hm
      have HF := hide hf
      generalize strEq y z = t at D HS HM
      have k1 : (0 : Int) ≤ (j : Int) := by omega
      have k2 : (j : Int) < (len : Int) := by omega
      clear hs hm hat r1 hit hf
      go_wp2_with fail
      refine (unhide D).mono ?_
      rintro e w2 ⟨rfl, rfl⟩
      cases t
      · go_wp2_with fail
        go_roundw
        case rel => exact ⟨j + 1, by omega, by go_num, unhide HS, by first | exact rfl | trivial⟩
        case measure => simp [intOf]; omega
      · have hh := (unhide HM) rfl
        go_wp2_with fail
        go_ret
        exact ⟨by rw [hh]; rfl, rfl⟩
    · obtain rfl : j = len := by omega
      have HF := hide hf
      clear hf
      go_wp2_with fail
      go_ret
      exact ⟨by rw [unhide HF]; rfl, rfl⟩

set_option maxHeartbeats 4000000 in
theorem hasTwice_any (a : Option Addr) (len cap : Nat) (zss : List (List Int)) (w : World) (h : BsRow w a len zss) (hl : len ≤ 1048576) (hc : len ≤ cap) :
    Calls Tryz.prog 202 #[.slice a len cap] w fun e w' => e = .returned (.bool (twiceN zss len)) ∧ w' = w := by
  have HL := hide h.1
  have HROW := hide h
  have HSM := hide (fun (s1 : Option Addr) (n1 d1 : Nat) (y : List Int) (s2 : Option Addr) (n2 d2 : Nat) (z : List Int) (r : BRow w s1 n1 y) (q : BRow w s2 n2 z) => implSame_any s1 s2 n1 d1 n2 d2 y z w r q)
  have HTM := hide (twiceN_mono zss)
  clear h
  go_enter Tryz.func202, Tryz.ntmps202
  go_wp2_with fail
  go_loopw [9] (fun i wr => ∃ j : Nat, j ≤ len ∧ i = .int .i64 j ∧ twiceN zss j = false ∧ wr = w) (fun i _ => len - (intOf i).toNat)
  case atStart => exact ⟨0, Nat.zero_le _, rfl, rfl, rfl⟩
  case round =>
    obtain ⟨j, hj, rfl, hf, rfl⟩ := hrel
    by_cases hlt : j < len
    · obtain ⟨z, hit⟩ : ∃ z, zss[j]? = some z := ⟨_, List.getElem?_eq_getElem (by rw [unhide HL]; exact hlt)⟩
      obtain ⟨b0, off, rfl, _, hat⟩ := (unhide HROW).at (by omega)
      obtain ⟨s1, n1, d1, c0, r1⟩ := hat j z hit
      have hgd : zss.getD j [] = z := by rw [List.getD_eq_getElem?_getD, hit]; rfl
      have HT1 : Hid (twiceN zss (j + 1) = hasN zss z j) := by show _ = _; unfold twiceN; rw [hf, hgd, Bool.false_or]
      have HSC := hide (hasN_succ zss z)
      have HMO := hide (hasN_mono zss z)
      have HAT := hide hat
      have HR1 := hide r1
      have k1 : (0 : Int) ≤ (j : Int) := by omega
      have k2 : (j : Int) < (len : Int) := by omega
      have k3 : (j : Int) ≤ (cap : Int) := by omega
      have k4 : j ≤ cap := by omega
      clear hf hat r1 hit hgd
      go_wp2_with fail
      go_loopw [18] (fun i wr' => ∃ k : Nat, k ≤ j ∧ i = .int .i64 k ∧ hasN zss z k = false ∧ wr' = wr) (fun i _ => j - (intOf i).toNat)
      case atStart => exact ⟨0, Nat.zero_le _, rfl, rfl, rfl⟩
      case round =>
        obtain ⟨k, hk, rfl, hf2, rfl⟩ := hrel
        by_cases hlt2 : k < j
        · obtain ⟨y, hit2⟩ : ∃ y, zss[k]? = some y := ⟨_, List.getElem?_eq_getElem (by rw [unhide HL]; omega)⟩
          obtain ⟨s2, n2, d2, c2, r2⟩ := (unhide HAT) k y hit2
          have D := hide ((unhide HSM) s1 n1 d1 z s2 n2 d2 y (unhide HR1) r2)
          rw [strEq_comm z y] at D
          have hs := (unhide HSC) y k hit2
          rw [hf2, Bool.false_or] at hs
          have hm := fun (q : strEq y z = true) => (unhide HMO) y k j hlt2 hit2 q
          have HS := hide hs
          have HM := hide hm
          generalize strEq y z = t at D HS HM
          have q1 : (0 : Int) ≤ (k : Int) := by omega
          have q2 : (k : Int) < (j : Int) := by omega
          clear hs hm r2 hit2 hf2
          go_wp2_with fail
          refine (unhide D).mono ?_
          rintro e w2 ⟨rfl, rfl⟩
          cases t
          · go_wp2_with fail
            go_roundw
            case rel => exact ⟨k + 1, by omega, by go_num, unhide HS, by first | exact rfl | trivial⟩
            case measure => simp [intOf]; omega
          · have hh : twiceN zss len = true := (unhide HTM) (j + 1) len (by omega) (by rw [unhide HT1]; exact (unhide HM) rfl)
            go_wp2_with fail
            go_ret
            exact ⟨by rw [hh]; rfl, rfl⟩
        · obtain rfl : k = j := by omega
          have HF2 := hide hf2
          clear hf2
          go_wp2_with fail
          go_roundw
          case rel => exact ⟨k + 1, by omega, by go_num, by rw [unhide HT1]; exact unhide HF2, by first | exact rfl | trivial⟩
          case measure => simp [intOf]; omega
    · obtain rfl : j = len := by omega
      have HF := hide hf
      clear hf
      go_wp2_with fail
      go_ret
      exact ⟨by rw [unhide HF]; rfl, rfl⟩

end Go.Proofs.YtnmbdannipebnaaGreatDoor

/- What is proved here: plain facts on writing bytes as hexadecimal texts; no program is named. -/
namespace Go.Proofs.YtnmbdannipebnaaGreatDoor
set_option linter.unusedVariables false
set_option maxRecDepth 100000

/-- The sign of a digit. -/
def hd (v : Int) : Int := if v < 10 then 48 + v else 87 + v

/-- The signs of bytes. -/
def hexEnc : List Int → List Int
  | [] => []
  | x :: r => hd (x / 16) :: hd (x % 16) :: hexEnc r

theorem hexEnc_append : ∀ (a b : List Int), hexEnc (a ++ b) = hexEnc a ++ hexEnc b
  | [], b => rfl
  | x :: a, b => by simp [hexEnc, hexEnc_append a b]

theorem hexEnc_snoc (xs : List Int) (k : Nat) (h : k < xs.length) : hexEnc (xs.take (k + 1)) = hexEnc (xs.take k) ++ [hd (xs.getD k 0 / 16), hd (xs.getD k 0 % 16)] := by
  rw [List.take_succ_eq_append_getElem h, hexEnc_append, getD_at xs k h]
  rfl

theorem hd_range (v : Int) (h0 : 0 ≤ v) (h1 : v < 16) : 0 ≤ hd v ∧ hd v ≤ 255 := by unfold hd; split <;> omega

theorem hexEnc_range : ∀ (a : List Int), (∀ x ∈ a, 0 ≤ x ∧ x ≤ 255) → ∀ y ∈ hexEnc a, 0 ≤ y ∧ y ≤ 255
  | [], _, y, hy => by simp [hexEnc] at hy
  | x :: a, h, y, hy => by
    have hx := h x (List.mem_cons_self ..)
    rcases List.mem_cons.1 hy with rfl | hy
    · exact hd_range _ (by omega) (by omega)
    · rcases List.mem_cons.1 hy with rfl | hy
      · exact hd_range _ (by omega) (by omega)
      · exact hexEnc_range a (fun z hz => h z (List.mem_cons_of_mem _ hz)) y hy

/-- The sixteen digits. -/
def digs : ByteArray := ⟨#[48, 49, 50, 51, 52, 53, 54, 55, 56, 57, 97, 98, 99, 100, 101, 102]⟩

end Go.Proofs.YtnmbdannipebnaaGreatDoor

/- What is proved here: what the model's l1Digit answers. -/
namespace Go.Proofs.YtnmbdannipebnaaGreatDoor
open Go.RowKit
set_option linter.unusedVariables false
set_option maxRecDepth 100000

end Go.Proofs.YtnmbdannipebnaaGreatDoor

/- What is proved here: what the model's l1Hex answers for slices of at most 2^20 bytes. -/
namespace Go.Proofs.YtnmbdannipebnaaGreatDoor
open Go.RowKit
set_option linter.unusedVariables false
set_option maxRecDepth 100000

/-- The code and the text that HexOf gives. -/
def hoCode (xs : List Int) : Int := if 1200 < xs.length then 2 else 0
def hoText (xs : List Int) : ByteArray := if 1200 < xs.length then strOfNums [] else strOfNums (hexEnc xs)

end Go.Proofs.YtnmbdannipebnaaGreatDoor

/- What is proved here: what impl.HexOf answers for slices of at most 2^20 bytes: the code and the text. -/
namespace Go.Proofs.YtnmbdannipebnaaGreatDoor
open Go.RowKit
set_option linter.unusedVariables false
set_option maxRecDepth 100000

theorem idx_dig (n : Nat) (hn : n < 16) (W : World) : (Instr.index 9 (.string { data := #[48, 49, 50, 51, 52, 53, 54, 55, 56, 57, 97, 98, 99, 100, 101, 102] }) (.int .u8 (n : Int))).run Tryz.prog W = .ok (.int .u8 (hd (n : Int))) W := by
  rcases (by omega : n = 0 ∨ n = 1 ∨ n = 2 ∨ n = 3 ∨ n = 4 ∨ n = 5 ∨ n = 6 ∨ n = 7 ∨ n = 8 ∨ n = 9 ∨ n = 10 ∨ n = 11 ∨ n = 12 ∨ n = 13 ∨ n = 14 ∨ n = 15) with r | r | r | r | r | r | r | r | r | r | r | r | r | r | r | r <;> subst r <;> kernel_rfl

theorem idx_int (v : Int) (h0 : 0 ≤ v) (h1 : v < 16) (W : World) : (Instr.index 9 (.string { data := #[48, 49, 50, 51, 52, 53, 54, 55, 56, 57, 97, 98, 99, 100, 101, 102] }) (.int .u8 v)).run Tryz.prog W = .ok (.int .u8 (hd v)) W := by
  obtain ⟨n, rfl⟩ := Int.eq_ofNat_of_zero_le h0
  exact idx_dig n (by omega) W

theorem news2 (w : World) (x y : Value) (t : TypeId) : ∀ (j : Nat) (u : Value), [x, y][j]? = some u → (w.alloc (.cells #[x, y] t)).cell? ((⟨w.heap.size, 0, none⟩ : Addr).add j) = some u := by
  intro j u hj
  rw [add_none, Nat.zero_add, World.cell?_alloc_new]
  match j, hj with
  | 0, hj => simpa using hj
  | 1, hj => simpa using hj

set_option maxHeartbeats 1000000 in
theorem implHexOf_pos (b off len cap : Nat) (xs : List Int) (w : World) (h : BRow w (some ⟨b, off, none⟩) len xs) (hl : len ≤ 1200) (hp : 0 < len) :
    Calls Tryz.prog 168 #[.slice (some ⟨b, off, none⟩) len cap] w fun e w' => e = .returned (.agg #[.int .i64 0, .string (strOfNums (hexEnc xs))]) ∧ Below w.heap.size w w' := by
  obtain ⟨i0, hi, hz0, hz1, hz2⟩ := info_parts info5
  have hxl := h.1
  have HX := hide h
  clear h
  go_enter Tryz.func168, Tryz.ntmps168
  go_wp2_with (at_make; refine wpList_make_own _ rfl _ _ 29 rfl (w.heap.size + 1) 5 i0 (.int .u8 0) 1 Tryz.underlying29 hi hz0 hz1 _ _ _ (2 * len) rfl rfl (by omega) ?c1 ?c2 ?c3 ?_)
  case c1 => rw [hz2]; omega
  case c2 => unfold maxLen; omega
  case c3 => simp
  intro w1 hown hgrow
  have hbel : Below w.heap.size w w1 := ((Below.refl _ _).alloc (Nat.le_refl _) _).grown hgrow (by simp) (fun k e => by cases e)
  have hres : w1.heap[w.heap.size]? = some (.cells #[.int .i64 0, .string (strOfNums [])] 192 (0, 0)) := by
    rw [hgrow.block _ (by simp) (by simp)]
    show (w.heap.push _)[w.heap.size]? = _
    simp [strOfNums]
  have HO := hide hown
  have HB := hide hbel
  have HR := hide hres
  clear hown hgrow hbel hres
  go_wp2_with fail
  go_loopw [3, 16] (fun v i wr => ∃ (k : Nat) (da : Option Addr) (dc : Nat), k ≤ len ∧ i = .int .i64 k ∧ v = .slice da (2 * k) dc ∧ wr.ownsRow (w.heap.size + 1) 5 1 (.slice da (2 * k) dc) (2 * k) ((hexEnc (xs.take k)).map (Value.int .u8)) ∧
      Below w.heap.size w wr ∧ wr.heap[w.heap.size]? = some (.cells #[.int .i64 0, .string (strOfNums [])] 192 (0, 0))) (fun _ i _ => len - (intOf i).toNat)
  case atStart => exact ⟨0, _, _, Nat.zero_le _, rfl, rfl, by simpa [hexEnc] using unhide HO, unhide HB, unhide HR⟩
  case round =>
    obtain ⟨k, da, dc, hk, rfl, rfl, hown, hbel, hres⟩ := hrel
    by_cases hlt : k < len
    · have hcx : wr.cell? ⟨b, off + k, none⟩ = some (.int .u8 (xs.getD k 0)) := by
        have := ((unhide HX).below hbel (Nat.le_refl _)).2.2.2 _ rfl k hlt
        rwa [add_none] at this
      have hxk := (unhide HX).2.1 (xs.getD k 0) (by rw [getD_at _ _ (by omega)]; exact List.getElem_mem _)
      have HS := hide (hexEnc_snoc xs k (by omega))
      generalize xs.getD k 0 = x at hcx hxk HS
      go_wp2_with fail
      clear hcx
      have e2 := u8_and15 (x := x) hxk.1 (by omega)
      have j1 := idx_int (x / 16) (by omega) (by omega)
      have j2 := idx_int (x % 16) (by omega) (by omega)
      have hsz : w.heap.size < wr.heap.size := lt_of_block hres
      have HE1 := hide hbel
      have HE2 := hide hres
      clear hbel hres
      go_region_held3 (fun w' => True) (trivial) ((refine step_append_lies _ (by rfl) (.tmp 20) (.tmp 27) 29 (by rfl) (w.heap.size + 1) 5 i0 (.int .u8 0) 1 1 Tryz.underlying29 hi hz0 hz1 hz2 rfl (by decide) _ _ _ (by rfl) (by first | exact hown.alloc _ | exact (hown.alloc _).drew) ⟨wr.heap.size, 0, none⟩ 2 2 [.int .u8 (hd (x / 16)), .int .u8 (hd (x % 16))] (by rfl) rfl (by exact news2 _ _ _ _) (by simp [Value.oneCell']) (by omega) (by unfold maxLen; omega) (by omega) (by simp; omega) _ rfl ?_; intro g cap2 w2 hown2 hgrow2 hat2 hlt2))
      all_goals
        have hrow : ∀ q, (Value.slice da (2 * k) dc).ownBlock = some q → w.heap.size < q := fun q e => by have := (hown.lt q e).1; omega
        have hb2 : Below w.heap.size w w2 := (((unhide HE1).alloc (by omega) _).drew).grown hgrow2 (by simp; omega) (fun q e => by have := hrow q e; omega)
        have hr2 : w2.heap[w.heap.size]? = some (.cells #[.int .i64 0, .string (strOfNums [])] 192 (0, 0)) := by
          rw [hgrow2.block _ (by simp; omega) (fun e => by have := hrow _ e.symm; omega)]
          exact (Below.heap_alloc wr _ _ hsz).trans (unhide HE2)
        have ho2 : w2.ownsRow (w.heap.size + 1) 5 1 (.slice (some ⟨g, 0, none⟩) (2 * (k + 1)) cap2) (2 * (k + 1)) ((hexEnc (xs.take (k + 1))).map (Value.int .u8)) := by
          rw [unhide HS, List.map_append, show 2 * (k + 1) = 2 * k + 2 from by omega]
          exact hown2
        have HB2 := hide hb2
        have HR2 := hide hr2
        have HO2 := hide ho2
        clear hb2 hr2 ho2 hown2 hgrow2 hown hrow
        go_wp2_with fail
        go_roundw
        case rel => exact ⟨k + 1, some ⟨g, 0, none⟩, cap2, by omega, by go_num, rfl, unhide HO2, unhide HB2, unhide HR2⟩
        case measure => simp [intOf]; omega
    · obtain rfl : k = len := by omega
      rw [List.take_of_length_le (by omega)] at hown
      have hcv := conv_any (P := Tryz.prog) wr 29 5 9 Tryz.underlying29 Tryz.underlying5 Tryz.underlying9 da (2 * k) dc (hexEnc xs) (BRow.own2 hown (hexEnc_range xs (unhide HX).2.1))
      obtain ⟨q0, q1, f0, f1⟩ := res_facts hres
      have HBE := hide hbel
      clear hown hres hbel
      generalize hT : strOfNums (hexEnc xs) = T at hcv
      have HT := hide hT
      clear hT
      go_wp2_with fail
      exact bodyPost_ret (v := .agg #[.int .i64 0, .string T]) (by simp [results, Tryz.results168, go_sem, q0, q1]) rfl ⟨by rw [unhide HT], ((unhide HBE).setCell (by simp) _).setCell (by simp) _⟩

set_option maxHeartbeats 1000000 in
theorem implHexOf_zero (a : Option Addr) (cap : Nat) (w : World) :
    Calls Tryz.prog 168 #[.slice a 0 cap] w fun e w' => e = .returned (.agg #[.int .i64 0, .string (strOfNums [])]) ∧ Below w.heap.size w w' := by
  obtain ⟨i0, hi, hz0, hz1, hz2⟩ := info_parts info5
  go_enter Tryz.func168, Tryz.ntmps168
  go_wp2_with (at_make; refine wpList_make_own _ rfl _ _ 29 rfl (w.heap.size + 1) 5 i0 (.int .u8 0) 1 Tryz.underlying29 hi hz0 hz1 _ _ _ 0 rfl rfl rfl ?c1 ?c2 ?c3 ?_)
  case c1 => omega
  case c2 => unfold maxLen; omega
  case c3 => simp
  intro w1 hown hgrow
  have hbel : Below w.heap.size w w1 := ((Below.refl _ _).alloc (Nat.le_refl _) _).grown hgrow (by simp) (fun k e => by cases e)
  have hres : w1.heap[w.heap.size]? = some (.cells #[.int .i64 0, .string (strOfNums [])] 192 (0, 0)) := by
    rw [hgrow.block _ (by simp) (by simp)]
    show (w.heap.push _)[w.heap.size]? = _
    simp [strOfNums]
  obtain ⟨q0, q1, f0, f1⟩ := res_facts hres
  have hcv := conv_any (P := Tryz.prog) w1 29 5 9 Tryz.underlying29 Tryz.underlying5 Tryz.underlying9 (some ⟨w.heap.size + 1, 0, none⟩) 0 0 [] ⟨rfl, fun x hx => by simp at hx, fun _ => rfl, fun x hx i hi => by omega⟩
  have HB := hide hbel
  clear hown hgrow hbel hres
  generalize hT : strOfNums [] = T at hcv q1
  have HT := hide hT
  clear hT
  go_wp2_with fail
  refine wp_loop_rounds 1 ?_
  rw [rounds_succ]
  go_wp2_with fail
  exact bodyPost_ret (v := .agg #[.int .i64 0, .string T]) (by simp [results, Tryz.results168, go_sem, q0, q1]) rfl ⟨by rw [unhide HT], ((unhide HB).setCell (by simp) _).setCell (by simp) _⟩

set_option maxHeartbeats 1000000 in
theorem implHexOf_any (a : Option Addr) (len cap : Nat) (xs : List Int) (w : World) (h : BRow w a len xs) (hl : len ≤ 1048576) :
    Calls Tryz.prog 168 #[.slice a len cap] w fun e w' => e = .returned (.agg #[.int .i64 (hoCode xs), .string (hoText xs)]) ∧ Below w.heap.size w w' := by
  have hxl := h.1
  by_cases hm : 1200 < len
  · have e1 : hoCode xs = 2 := if_pos (by omega)
    have e2 : hoText xs = strOfNums [] := if_pos (by omega)
    rw [e1, e2]
    clear h e1 e2
    go_enter Tryz.func168, Tryz.ntmps168
    go_wp2_with fail
    exact bodyPost_ret (v := .agg #[.int .i64 2, .string (strOfNums [])]) (by simp [results, Tryz.results168, go_sem, strOfNums]) rfl ⟨rfl, (Below.refl _ _).alloc (Nat.le_refl _) _⟩
  · have e1 : hoCode xs = 0 := if_neg (by omega)
    have e2 : hoText xs = strOfNums (hexEnc xs) := if_neg (by omega)
    rw [e1, e2]
    rcases Nat.eq_zero_or_pos len with h0 | hp
    · subst h0
      have hx : xs = [] := List.length_eq_zero_iff.1 hxl
      subst hx
      exact implHexOf_zero a cap w
    · obtain ⟨b, off, rfl, _, _⟩ := h.at hp
      exact implHexOf_pos b off len cap xs w h (by omega) hp

end Go.Proofs.YtnmbdannipebnaaGreatDoor

/- What is proved here: what the program's bearing answers: nil where two slices of bytes are the same, else a notBorne with the text of an address. -/
namespace Go.Proofs.YtnmbdannipebnaaGreatDoor
open Go.RowKit
set_option linter.unusedVariables false
set_option maxRecDepth 100000

theorem fldT1 (x y : Value) (w : World) : (Instr.field 192 (.agg #[x, y]) 1).run Tryz.prog w = .ok y w := by kernel_rfl

/-- What bearing answers. -/
def brV (xs ys zs : List Int) : Value := if strEq ys zs then .nilIface else .iface 188 (.agg #[.string (hoText xs)])

set_option maxHeartbeats 2000000 in
theorem bearing_any (a : Option Addr) (n c : Nat) (b : Option Addr) (m d : Nat) (e : Option Addr) (k f : Nat) (xs ys zs : List Int) (w : World) (h : BRow w a n xs) (hy : BRow w b m ys) (hz : BRow w e k zs) (hn : n ≤ 1048576) :
    Calls Tryz.prog 141 #[.slice a n c, .slice b m d, .slice e k f] w fun ev w' => ev = .returned (brV xs ys zs) ∧ Below w.heap.size w w' := by
  have hf := fldT1
  have HS := hide (fun (W : World) (hb : Below w.heap.size w W) => implSame_any b e m d k f ys zs W (hy.below hb (Nat.le_refl _)) (hz.below hb (Nat.le_refl _)))
  have HH := hide (fun (W : World) (hb : Below w.heap.size w W) => implHexOf_any a n c xs W (h.below hb (Nat.le_refl _)) hn)
  have HE : Hid (brV xs ys zs = if strEq ys zs then .nilIface else .iface 188 (.agg #[.string (hoText xs)])) := rfl
  generalize brV xs ys zs = R at HE ⊢
  generalize hoText xs = T at HE HH
  generalize hoCode xs = C at HH
  clear h hy hz
  generalize strEq ys zs = q at HE HS
  have D1 := hide ((unhide HS) w (Below.refl _ _))
  clear HS
  go_enter Tryz.func141, Tryz.ntmps141
  go_wp2_with fail
  refine (unhide D1).mono ?_
  rintro ev w' ⟨rfl, rfl⟩
  cases q
  · have HE2 : Hid (R = .iface 188 (.agg #[.string T])) := unhide HE
    have D2 := hide ((unhide HH) w' (Below.refl _ _))
    clear HE HH D1
    go_wp2_with fail
    refine (unhide D2).mono ?_
    rintro ev w2 ⟨rfl, b2⟩
    go_wp2_with fail
    go_ret
    exact ⟨by rw [unhide HE2]; rfl, b2⟩
  · have HE2 : Hid (R = .nilIface) := unhide HE
    clear HE HH D1
    go_wp2_with fail
    go_ret
    exact ⟨by rw [unhide HE2]; rfl, Below.refl _ _⟩

end Go.Proofs.YtnmbdannipebnaaGreatDoor

/- What is proved here: the program's last step of a round, told by lanes. -/
namespace Go.Proofs.YtnmbdannipebnaaGreatDoor
open Go.RowKit
set_option linter.unusedVariables false
set_option maxRecDepth 100000
attribute [local go_sem ↓] Go.wp_at_zero Go.wp_at_succ

theorem ones_xor (v : Nat) (h : v < 18446744073709551616) : 18446744073709551615 ^^^ v = 18446744073709551615 - v := by
  apply Nat.eq_of_testBit_eq
  intro i
  have e1 : Nat.testBit 18446744073709551615 i = decide (i < 64) := Nat.testBit_two_pow_sub_one 64 i
  have e2 : (18446744073709551615 - v).testBit i = (decide (i < 64) && !v.testBit i) := by
    rw [show 18446744073709551615 - v = 2 ^ 64 - (v + 1) by omega]
    exact Nat.testBit_two_pow_sub_succ (by omega) i
  rw [Nat.testBit_xor, e1, e2]
  by_cases hi : i < 64
  · simp [hi]
  · have : v.testBit i = false := Nat.testBit_lt_two_pow (Nat.lt_of_lt_of_le h (Nat.pow_le_pow_right (show 0 < 2 by decide) (by omega : 64 ≤ i)))
    simp [hi, this]

theorem chi_u64 (v0 v1 v2 : Nat) (h0 : v0 < 18446744073709551616) (h1 : v1 < 18446744073709551616) (h2 : v2 < 18446744073709551616) :
    bits .xor .u64 (v0 : Int) (bits .and .u64 (bits .xor .u64 (if IntKind.u64.signed = true then -1 else IntKind.u64.max) (v1 : Int)) (v2 : Int)) = ((v0 ^^^ ((18446744073709551615 - v1) &&& v2) : Nat) : Int) := by
  have e : (if IntKind.u64.signed = true then (-1 : Int) else IntKind.u64.max) = ((18446744073709551615 : Nat) : Int) := by decide
  rw [e, u64_xor_nat _ _ (by decide) h1, ones_xor v1 h1, u64_and_nat _ _ (by omega) h2, u64_xor_nat _ _ h0 (and_lt h2)]

set_option maxRecDepth 100000 in
set_option maxHeartbeats 1000000 in
theorem cross_any (B : List Nat) (hB : Lanes B) (w : World) :
    Calls Tryz.prog 204 #[.agg (vals B).toArray] w fun e w' => e = .returned (.agg (vals (chi B)).toArray) ∧ Below w.heap.size w w' := by
  have HBL := hide hB
  have blen := hB.1
  clear hB
  generalize hV : vals B = V
  have HV := hide hV
  clear hV
  go_enter Tryz.func204, Tryz.ntmps204
  go_upto_region 1 with fail
  obtain ⟨w1, hw1⟩ : ∃ w1, w1 = (w.alloc (.cells V.toArray 169)).alloc (.cells (vals (List.replicate 25 0)).toArray 169) := ⟨_, rfl⟩
  have e1 : (w.alloc (.cells V.toArray 169)).alloc (.cells #[.int .u64 0, .int .u64 0, .int .u64 0, .int .u64 0, .int .u64 0, .int .u64 0, .int .u64 0, .int .u64 0, .int .u64 0, .int .u64 0, .int .u64 0, .int .u64 0, .int .u64 0, .int .u64 0, .int .u64 0, .int .u64 0, .int .u64 0, .int .u64 0, .int .u64 0, .int .u64 0, .int .u64 0, .int .u64 0, .int .u64 0, .int .u64 0, .int .u64 0] 169) = w1 := by rw [hw1]; rfl
  rw [e1]
  have b1 : Below w.heap.size w w1 := by rw [hw1]; exact (below_alloc w _).alloc (by simp) _
  have S1 : UBlk w1 w.heap.size B 169 := by
    rw [hw1, ← unhide HV]
    exact (UBlk.new w B _).below (below_alloc _ _) (by simp)
  have s1 : w1.heap.size = w.heap.size + 2 := by rw [hw1]; simp
  have R1 : UBlk w1 (w.heap.size + 1) (List.replicate 25 0) 169 := by
    have := UBlk.new (w.alloc (.cells V.toArray 169)) (List.replicate 25 0) 169
    rw [hw1]
    simpa using this
  have HLD := hide (load25 S1 blen)
  have N1 := UBlk.new w1 (List.replicate 25 0) 169
  obtain ⟨w2, hst, O2, K2, _⟩ := store25 N1 (by simp) blen
  have HST : Hid ((Instr.storeAt 169 (.pointer (some ⟨w1.heap.size, 0, none⟩)) (.agg (vals B).toArray)).run Tryz.prog (w1.alloc (.cells #[.int .u64 0, .int .u64 0, .int .u64 0, .int .u64 0, .int .u64 0, .int .u64 0, .int .u64 0, .int .u64 0, .int .u64 0, .int .u64 0, .int .u64 0, .int .u64 0, .int .u64 0, .int .u64 0, .int .u64 0, .int .u64 0, .int .u64 0, .int .u64 0, .int .u64 0, .int .u64 0, .int .u64 0, .int .u64 0, .int .u64 0, .int .u64 0, .int .u64 0] 169)) = .ok () w2) := hst
  have B2 : Below w1.heap.size w1 w2 := (below_alloc w1 _).trans (K2 _ (Nat.le_refl _))
  have S2 := S1.below B2 S1.lt
  have R2 := R1.below B2 R1.lt
  have G2 := b1.trans (B2.mono b1.size)
  rw [unhide HV] at HLD HST
  have HS2 := hide S2
  have HR2 := hide R2
  have HO2 := hide O2
  have HG2 := hide G2
  rw [s1] at HST HO2
  clear e1 hw1 b1 S1 R1 N1 hst O2 K2 B2 S2 R2 G2
  go_upto_block 0 with (first | refine wpList_load_eq rfl 169 (.tmp 1) rfl _ _ rfl (unhide HLD) ?_ | refine wpList_store_eq rfl 169 (.tmp 3) (.tmp 6) rfl _ _ rfl rfl w2 (unhide HST) ?_)
  clear HST HLD
  go_wp2_with fail
  go_loopw [4] (fun r wr => ∃ row : Nat, row ≤ 25 ∧ row % 5 = 0 ∧ r = .int .i64 row ∧ UBlk wr w.heap.size B 169 ∧ UBlk wr (w.heap.size + 1) (List.replicate 25 0) 169 ∧ UBlk wr (w.heap.size + 2) ((chi B).take row ++ B.drop row) 169 ∧ Below w.heap.size w wr)
    (fun r _ => 25 - (intOf r).toNat)
  case atStart => exact ⟨0, by omega, by omega, rfl, unhide HS2, unhide HR2, by simpa using unhide HO2, unhide HG2⟩
  case round =>
    obtain ⟨row, hr, hr5, rfl, hS, hR, hO, hG⟩ := hrel
    clear HS2 HR2 HO2 HG2
    have HS := hide hS
    have HR := hide hR
    have HO := hide hO
    have HG := hide hG
    clear hS hR hO hG
    by_cases hlt : row < 25
    · have hdk : decide ((row : Int) < 25) = true := decide_eq_true (by omega)
      go_wp2_with fail
      go_loopw [11] (fun c wr => ∃ X : Nat, X ≤ 5 ∧ c = .int .i64 X ∧ UBlk wr w.heap.size B 169 ∧ UBlk wr (w.heap.size + 1) (List.replicate 25 0) 169 ∧ UBlk wr (w.heap.size + 2) ((chi B).take (row + X) ++ B.drop (row + X)) 169 ∧ Below w.heap.size w wr)
        (fun c _ => 5 - (intOf c).toNat)
      case atStart => exact ⟨0, by omega, rfl, unhide HS, unhide HR, unhide HO, unhide HG⟩
      case round =>
        obtain ⟨X, hX, rfl, hS, hR, hO, hG⟩ := hrel
        clear HS HR HO HG
        by_cases hx5 : X < 5
        · have hdx : decide ((X : Int) < 5) = true := decide_eq_true (by omega)
          obtain ⟨k, hk⟩ : ∃ k, k = row + X := ⟨_, rfl⟩
          obtain ⟨x1, hx1⟩ : ∃ x1, x1 = (X + 1) % 5 := ⟨_, rfl⟩
          obtain ⟨x2, hx2⟩ : ∃ x2, x2 = (X + 2) % 5 := ⟨_, rfl⟩
          obtain ⟨p1, hp1⟩ : ∃ p1, p1 = row + x1 := ⟨_, rfl⟩
          obtain ⟨p2, hp2⟩ : ∃ p2, p2 = row + x2 := ⟨_, rfl⟩
          rw [← hk] at hO
          have clen := (chi_lanes (unhide HBL)).1
          have hlen : ((chi B).take k ++ B.drop k).length = 25 := by simp; omega
          have c0 := hO.cell k (by omega)
          rw [fill_later (chi B) B 25 k clen blen (by omega)] at c0
          have f0 := hO.free k
          have c1 := hS.cell p1 (by omega)
          have c2 := hS.cell p2 (by omega)
          have hfill := fill_at (chi B) B 25 k clen blen (by omega)
          have hchi : (chi B).getD k 0 = chiOf B k := getDn_map _ _ _ (by omega)
          have hm : k % 5 = X := by omega
          have hkk : k - X = row := by omega
          have hchi2 : chiOf B k = B.getD k 0 ^^^ ((18446744073709551615 - B.getD p1 0) &&& B.getD p2 0) := by
            unfold chiOf
            rw [hm, hkk, ← hx1, ← hx2, ← hp1, ← hp2]
          rw [hchi, hchi2] at hfill
          have l0 : B.getD k 0 < 18446744073709551616 := getD_lt (unhide HBL).2 (by decide) _
          have l1 : B.getD p1 0 < 18446744073709551616 := getD_lt (unhide HBL).2 (by decide) _
          have l2 : B.getD p2 0 < 18446744073709551616 := getD_lt (unhide HBL).2 (by decide) _
          generalize B.getD k 0 = v0 at c0 hfill l0
          generalize B.getD p1 0 = v1 at c1 hfill l1
          generalize B.getD p2 0 = v2 at c2 hfill l2
          have HO5 := hide (hO.set k (v0 ^^^ ((18446744073709551615 - v1) &&& v2)))
          rw [hfill] at HO5
          have HS5 := hide (hS.other (b' := w.heap.size + 2) k (.int .u64 ((v0 ^^^ ((18446744073709551615 - v1) &&& v2) : Nat) : Int)) (by omega))
          have HR5 := hide (hR.other (b' := w.heap.size + 2) k (.int .u64 ((v0 ^^^ ((18446744073709551615 - v1) &&& v2) : Nat) : Int)) (by omega))
          have HG5 := hide (hG.setCell (p := ⟨w.heap.size + 2, k, none⟩) (by show w.heap.size ≤ w.heap.size + 2; omega) (.int .u64 ((v0 ^^^ ((18446744073709551615 - v1) &&& v2) : Nat) : Int)))
          have e1 : ((X : Int) + 1).tmod 5 = (x1 : Int) := by rw [Int.tmod_eq_emod_of_nonneg (by omega)]; omega
          have e2 : ((X : Int) + 2).tmod 5 = (x2 : Int) := by rw [Int.tmod_eq_emod_of_nonneg (by omega)]; omega
          have ek : (row : Int) + (X : Int) = (k : Int) := by omega
          have ep1 : (row : Int) + (x1 : Int) = (p1 : Int) := by omega
          have ep2 : (row : Int) + (x2 : Int) = (p2 : Int) := by omega
          have q1 : IntKind.i64.wrap ((X : Int) + 1) = (X : Int) + 1 := by rw [IntKind.wrap_i64]; omega
          have q2 : IntKind.i64.wrap ((X : Int) + 2) = (X : Int) + 2 := by rw [IntKind.wrap_i64]; omega
          have i0 : (k : Int) < 25 := by omega
          have i1 : (p1 : Int) < 25 := by omega
          have i2 : (p2 : Int) < 25 := by omega
          have hk' : row + (X + 1) = k + 1 := by omega
          have HK' := hide hk'
          clear hS hR hO hG hfill hchi hchi2 hm hkk hlen clen hk hx1 hx2 hp1 hp2 hk'
          go_wp2_with fail
          have HCV := hide (chi_u64 v0 v1 v2 l0 l1 l2)
          go_region
          rw [unhide HCV]
          go_wp2_with fail
          go_roundw
          case rel => exact ⟨X + 1, by omega, by go_num, unhide HS5, unhide HR5, by rw [unhide HK']; exact unhide HO5, (unhide HG5).drew⟩
          case measure => simp [intOf]; omega
        · obtain rfl : X = 5 := by omega
          have hdx : decide (((5 : Nat) : Int) < 5) = false := rfl
          go_wp2_with fail
          go_roundw
          case rel => exact ⟨row + 5, by omega, by omega, by go_num, hS, hR, hO, hG⟩
          case measure => simp [intOf]; omega
    · obtain rfl : row = 25 := by omega
      have hdk : decide (((25 : Nat) : Int) < 25) = false := rfl
      have clen := (chi_lanes (unhide HBL)).1
      have hO : UBlk wr (w.heap.size + 2) (chi B) 169 := by
        have := unhide HO
        rw [List.take_of_length_le (by omega), List.drop_eq_nil_of_le (by omega), List.append_nil] at this
        exact this
      have HLD := hide (load25 hO clen)
      obtain ⟨w3, hst, R3, K3, _⟩ := store25 (unhide HR) (by simp) clen
      have HST := hide hst
      have HR3 := hide R3
      have HG3 := hide ((unhide HG).trans (K3 w.heap.size (by omega)))
      clear hO hst R3 K3 HS HO HG HR
      go_wp2_with (first | refine wpList_load_eq rfl 169 (.tmp 3) rfl _ _ rfl (unhide HLD) ?_ | refine wpList_store_eq rfl 169 (.tmp 2) (.tmp 38) rfl _ _ rfl rfl w3 (unhide HST) ?_)
      exact bodyPost_ret (results_cell_row rfl _ _ (w.heap.size + 1) 169 _ (0, 0) _ rfl (unhide HR3) Tryz.underlying169 rfl (by rw [List.size_toArray, vals_length, clen]; kernel_rfl)) rfl ⟨rfl, unhide HG3⟩

end Go.Proofs.YtnmbdannipebnaaGreatDoor
