/- What is proved here: plain facts on seals and commits, as functions of bytes; no program is named. -/
import Derived.Test.YtbncoiljklagkaaDoorJ11
import Derived.Test.YtbncoiljklagkaaDoorJ8
import Derived.Test.YtbncoiljklagkaaDoorChecked
import Derived.Test.YtbncoiljklagkaaDoorJ1
import Derived.Test.YtbncoiljklagkaaDoorJ9
import Derived.Laws.AppendOwnNone
import Derived.Lib.SliceRun
import Derived.WalkKit
import Derived.WalkLawsBesides
import Derived.WalkSmall
import Derived.WalkSpells
import Derived.KernelRfl
import Derived.Lib.AppendZeros
import Derived.Test.YtbncoiljklagkaaDoorJ13
import Derived.Test.YtbncoiljklagkaaDoorJ4
import Derived.Test.YtbncoiljklagkaaDoorJ18
import Derived.Deep.RegionHeld3
namespace Go.Proofs.YtbncoiljklagkaaDoor
open Go.RowKit
set_option linter.unusedVariables false

/-- The first four bytes of a hash. -/
def sealL (a h : List Int) : List Int := (kcBytes (a ++ h)).take 4
def markL (a h : List Int) : List Int := (kcBytes (a ++ 1 :: h)).take 4

/-- The code of SealOf and CommitOf, and what they answer. -/
def slCode (a h : List Int) : Int := if a.length = 4 ∧ h.length = 32 then 0 else 1
def slBytes (a h : List Int) : List Int := if a.length = 4 ∧ h.length = 32 then sealL a h else []
def cmBytes (a h : List Int) : List Int := if a.length = 4 ∧ h.length = 32 then a ++ markL a h else []

theorem kc4 {z : List Int} (h : z.length ≤ 1200) : ((kcBytes z).take 4).length = 4 := by
  have e : (kcBytes z).length = 32 := by unfold kcBytes; rw [if_neg (by omega), hashOf_length]
  rw [List.length_take, e]; rfl

theorem seal4 {a h : List Int} (ha : a.length = 4) (hh : h.length = 32) : (sealL a h).length = 4 := kc4 (by simp; omega)
theorem mark4 {a h : List Int} (ha : a.length = 4) (hh : h.length = 32) : (markL a h).length = 4 := kc4 (by simp; omega)

theorem append_rng {a h : List Int} (ha : ∀ x ∈ a, 0 ≤ x ∧ x ≤ 255) (hh : ∀ x ∈ h, 0 ≤ x ∧ x ≤ 255) : ∀ x ∈ a ++ h, 0 ≤ x ∧ x ≤ 255 := by
  intro x hx
  rcases List.mem_append.1 hx with e | e
  · exact ha x e
  · exact hh x e

theorem sealL_rng {a h : List Int} (ha : ∀ x ∈ a, 0 ≤ x ∧ x ≤ 255) (hh : ∀ x ∈ h, 0 ≤ x ∧ x ≤ 255) : ∀ x ∈ sealL a h, 0 ≤ x ∧ x ≤ 255 :=
  fun x hx => kcBytes_range _ (append_rng ha hh) x (List.mem_of_mem_take hx)

theorem one_rng {h : List Int} (hh : ∀ x ∈ h, 0 ≤ x ∧ x ≤ 255) : ∀ x ∈ (1 : Int) :: h, 0 ≤ x ∧ x ≤ 255 := by
  intro x hx
  rcases List.mem_cons.1 hx with e | e
  · omega
  · exact hh x e

theorem markL_rng {a h : List Int} (ha : ∀ x ∈ a, 0 ≤ x ∧ x ≤ 255) (hh : ∀ x ∈ h, 0 ≤ x ∧ x ≤ 255) : ∀ x ∈ markL a h, 0 ≤ x ∧ x ≤ 255 :=
  fun x hx => kcBytes_range _ (append_rng ha (one_rng hh)) x (List.mem_of_mem_take hx)

theorem sl_range {a h : List Int} (ha : ∀ x ∈ a, 0 ≤ x ∧ x ≤ 255) (hh : ∀ x ∈ h, 0 ≤ x ∧ x ≤ 255) : ∀ x ∈ slBytes a h, 0 ≤ x ∧ x ≤ 255 := by
  unfold slBytes; split
  · exact sealL_rng ha hh
  · intro x hx; simp at hx

theorem cm_range {a h : List Int} (ha : ∀ x ∈ a, 0 ≤ x ∧ x ≤ 255) (hh : ∀ x ∈ h, 0 ≤ x ∧ x ≤ 255) : ∀ x ∈ cmBytes a h, 0 ≤ x ∧ x ≤ 255 := by
  unfold cmBytes; split
  · exact append_rng ha (markL_rng ha hh)
  · intro x hx; simp at hx

theorem sl_length (a h : List Int) : (slBytes a h).length ≤ 4 := by
  unfold slBytes; split
  · rename_i q; rw [seal4 q.1 q.2]; omega
  · simp

theorem cm_length (a h : List Int) : (cmBytes a h).length ≤ 8 := by
  unfold cmBytes; split
  · rename_i q; rw [List.length_append, mark4 q.1 q.2]; omega
  · simp

/-- The first elements of a row that is owned are owned. -/
theorem own_take {w : World} {B n m cap : Nat} {a : Option Addr} {e : TypeId} {xs : List Value} (h : w.ownsRow B e 1 (.slice a n cap) n xs) (hm : m ≤ n) : w.ownsRow B e 1 (.slice a m cap) m (xs.take m) := by
  have hl := h.1
  refine ⟨by rw [List.length_take]; omega, ?_⟩
  rcases h.2 with ⟨h', h''⟩ | ⟨g, cap', cur, h', hb, hg, hnc, hcm, hcs, htake⟩
  · simp only [Value.slice.injEq] at h'
    obtain ⟨rfl, rfl, rfl⟩ := h'
    obtain rfl : m = 0 := by omega
    exact .inl ⟨rfl, rfl⟩
  · simp only [Value.slice.injEq] at h'
    obtain ⟨rfl, -, rfl⟩ := h'
    refine .inr ⟨g, cap, cur, rfl, hb, hg, Nat.le_trans hm hnc, hcm, hcs, ?_⟩
    rw [← htake, List.take_take]
    congr 1
    omega

end Go.Proofs.YtbncoiljklagkaaDoor

/- What is proved here: what bytes.Clone, slices.Grow and slices.Concat answer at bytes: the same bytes in new memory, room, and all bytes one behind the other. -/
namespace Go.Proofs.YtbncoiljklagkaaDoor
open Go.RowKit
set_option linter.unusedVariables false

set_option maxHeartbeats 1000000 in
theorem clone_any (a : Option Addr) (n cap : Nat) (zs : List Int) (w : World) (h : BRow w a n zs) (hn : n ≤ 1048576) :
    Calls Tryd.prog 69 #[.slice a n cap] w fun e w' => ∃ (a' : Option Addr) (cap' : Nat), e = .returned (.slice a' n cap') ∧ w'.ownsRow w.heap.size 5 1 (.slice a' n cap') n (zs.map (Value.int .u8)) ∧ Below w.heap.size w w' := by
  obtain ⟨i0, hi, hz0, hz1, hz2⟩ := info_parts info5
  have qT : ∀ (w : World) (a : Option Addr) (n c n' c' : Nat), (binOp .eql 22 (.slice a n c) (.slice none n' c')).run Tryd.prog w = .ok (.bool a.isNone) w := fun w a n c n' c' => Lib.run_eql_slice_nil w _ _ a n c n' c' Tryd.underlying22
  have hown0 : (w.alloc (.cells #[] 5)).ownsRow w.heap.size 5 1 (.slice (some ⟨w.heap.size, 0, none⟩) 0 0) 0 (([] : List Int).map (Value.int .u8)) := World.ownsRow_lit w #[] 0 (Nat.le_refl _) (by unfold maxLen; omega) rfl
  have hb := below_alloc w (.cells #[] 5)
  have hr := h.below hb (Nat.le_refl _)
  cases a with
  | none =>
    obtain rfl : n = 0 := h.2.2.1 rfl
    obtain rfl : zs = [] := List.length_eq_zero_iff.1 h.1
    clear h hr hb hown0
    go_enter Tryd.func69, Tryd.ntmps69
    go_wp2_with fail
    go_ret
    exact ⟨none, 0, rfl, World.ownsRow_nil _ _ _ _, Below.refl _ _⟩
  | some x =>
    have HR := hide hr
    have HB := hide hb
    clear h hr hb
    go_enter Tryd.func69, Tryd.ntmps69
    go_wp2_with (at_builtin; refine wpList_append_brow _ rfl _ _ 22 rfl w.heap.size i0 Tryd.underlying22 hi hz0 hz1 hz2 _ 0 [] rfl hown0 (some x) n cap zs rfl (unhide HR) (fun e => by cases e) (by omega) (unhide HB).size ?_)
    intro a3 c3 w3 o3 g3
    have B3 : Below w.heap.size w w3 := (unhide HB).grown g3 (unhide HB).size (fun g e => (hown0.lt g e).1)
    have HO := hide o3
    have HB3 := hide B3
    clear o3 g3 B3 hown0
    go_wp2_with fail
    go_ret
    refine ⟨a3, c3, by simp, ?_, unhide HB3⟩
    simpa using unhide HO

end Go.Proofs.YtbncoiljklagkaaDoor

/- What is proved here: what slices.Grow and slices.Concat answer at bytes: room, and all bytes one behind the other. -/
namespace Go.Proofs.YtbncoiljklagkaaDoor
open Go.RowKit
set_option linter.unusedVariables false

set_option maxRecDepth 100000 in
set_option maxHeartbeats 1000000 in
theorem grow_any (n : Nat) (w : World) (hn : n ≤ 1048576) :
    Calls Tryd.prog 70 #[.slice none 0 0, .int .i64 n] w fun e w' => ∃ (a' : Option Addr) (cap' : Nat), e = .returned (.slice a' 0 cap') ∧ w'.ownsRow w.heap.size 5 1 (.slice a' 0 cap') 0 [] ∧ Below w.heap.size w w' := by
  obtain ⟨i0, hi, hz0, hz1, hz2⟩ := info_parts info5
  have q1 : decide ((n : Int) < 0) = false := decide_eq_false (by omega)
  by_cases h0 : n = 0
  · subst h0
    go_enter Tryd.func70, Tryd.ntmps70
    go_wp2_with fail
    go_ret
    exact ⟨none, 0, rfl, World.ownsRow_nil _ _ _ _, Below.refl _ _⟩
  · have q2 : decide ((n : Int) > 0) = true := decide_eq_true (by omega)
    have q3 : decide (0 < (n : Int)) = true := decide_eq_true (by omega)
    have q4 : decide (0 < n) = true := decide_eq_true (by omega)
    obtain ⟨C, W', hrun, hown, hbel⟩ : ∃ C W', (Builtin.append_ #[22, 3] 22 #[.slice none 0 0, .int .i64 n]).run Tryd.prog w = .ok (.slice (some ⟨w.heap.size, 0, none⟩) n C) W' ∧ W'.ownsRow w.heap.size 5 1 (.slice (some ⟨w.heap.size, 0, none⟩) 0 C) 0 [] ∧ Below w.heap.size w W' := by
      have hr := Lib.run_append_nil_zeros (P := Tryd.prog) w 22 3 22 5 i0 (.int .u8 0) .i64 .i64 Tryd.underlying22 Tryd.underlying3 hi hz0 n (by omega) (by omega) (by omega) (by rw [hz2]; omega)
      have hge := grownCap_ge w n 0 5
      have hle := grownCap_le_maxLen w n 0 5 (by unfold maxLen; omega)
      refine ⟨_, _, hr, ⟨rfl, .inr ⟨w.heap.size, _, _, rfl, Nat.le_refl _, heap_alloc_new w.drew _, Nat.zero_le _, hle, ?_, by simp⟩⟩, ?_⟩
      · rw [Array.size_append, size_zeroCells, size_zeroCells]
        simp [Value.cells]
        omega
      · exact (Below.refl _ _).drew.alloc (Nat.le_refl _) _
    have HR := hide hrun
    have HO := hide hown
    have HB := hide hbel
    clear hrun hown hbel
    go_enter Tryd.func70, Tryd.ntmps70
    go_wp2_with (at_builtin; refine Lib.wpList_append_run _ rfl _ _ 22 3 rfl _ _ rfl rfl _ _ (unhide HR) ?_)
    go_wp2_with fail
    go_ret
    exact ⟨_, C, by simp, unhide HO, unhide HB⟩

theorem flat_snoc2 (zss : List (List Int)) (k : Nat) (z : List Int) (h : zss[k]? = some z) : (zss.take (k + 1)).flatten = (zss.take k).flatten ++ z := by
  obtain ⟨hk, e⟩ := List.getElem?_eq_some_iff.1 h
  rw [List.take_succ_eq_append_getElem hk, List.flatten_append, e]
  simp

theorem flat_take (zss : List (List Int)) (k : Nat) : (zss.take k).flatten.length ≤ zss.flatten.length := by
  have : zss.flatten = (zss.take k).flatten ++ (zss.drop k).flatten := by rw [← List.flatten_append, List.take_append_drop]
  rw [this, List.length_append]
  omega

set_option maxRecDepth 100000 in
set_option maxHeartbeats 4000000 in
theorem concat_any (a : Option Addr) (len cap : Nat) (zss : List (List Int)) (w : World) (h : BsRow w a len zss) (hn : BsNil w a len) (hl : len ≤ 1048576) (hz : zss.flatten.length ≤ 1048576) :
    Calls Tryd.prog 49 #[.slice a len cap] w fun e w' => ∃ a' c', e = .returned (.slice a' zss.flatten.length c') ∧
      w'.ownsRow w.heap.size 5 1 (.slice a' zss.flatten.length c') zss.flatten.length (zss.flatten.map (Value.int .u8)) ∧ Below w.heap.size w w' := by
  obtain ⟨i0, hi, hz0, hz1, hz2⟩ := info_parts info5
  have hil := h.1
  have HROW := hide (fun (W : World) (hb : Below w.heap.size w W) => And.intro (h.below hb (Nat.le_refl _)) (hn.below hb (Nat.le_refl _)))
  have HTK := hide (flat_take zss)
  have HFL := hide (flat_snoc2 zss)
  have HL := hide hil
  clear h hn hil
  go_enter Tryd.func49, Tryd.ntmps49
  go_wp2_with fail
  go_loopw [3, 11] (fun q i wr => ∃ (k : Nat), k ≤ len ∧ i = .int .i64 k ∧ q = .int .i64 ((zss.take k).flatten.length : Nat) ∧ Below w.heap.size w wr) (fun _ i _ => len - (intOf i).toNat)
  case atStart => exact ⟨0, Nat.zero_le _, rfl, rfl, Below.refl _ _⟩
  case round =>
    obtain ⟨k, hk, rfl, rfl, hbr⟩ := hrel
    by_cases hlt : k < len
    · obtain ⟨z, hit⟩ : ∃ z, zss[k]? = some z := ⟨_, List.getElem?_eq_getElem (by rw [unhide HL]; exact hlt)⟩
      obtain ⟨hrow, hnil⟩ := (unhide HROW) wr hbr
      obtain ⟨b, off, rfl, _, hat⟩ := hrow.at (by omega)
      obtain ⟨s1, n1, d1, c0, r1⟩ := hat k z hit
      have hs := (unhide HFL) k z hit
      have hzl : z.length = n1 := r1.1
      have h1 := (unhide HTK) (k + 1)
      have hle : (zss.take (k + 1)).flatten.length = (zss.take k).flatten.length + n1 := by rw [hs, List.length_append, hzl]
      obtain ⟨m, hm⟩ : ∃ m, m = (zss.take k).flatten.length := ⟨_, rfl⟩
      rw [← hm] at hle ⊢
      have hmn : m + n1 ≤ 1048576 := by omega
      have HLE := hide hle
      have HB := hide hbr
      have k1 : (0 : Int) ≤ (k : Int) := by omega
      have k2 : (k : Int) < (len : Int) := by omega
      have k3 : decide ((m : Int) + (n1 : Int) < 0) = false := decide_eq_false (by omega)
      clear hs hzl h1 hle hm hbr hrow hnil hat r1 hit
      go_wp2_with fail
      go_roundw
      case rel => exact ⟨k + 1, by omega, by go_num, by rw [unhide HLE]; go_num, unhide HB⟩
      case measure => simp [intOf]; omega
    · obtain rfl : k = len := by omega
      have et : zss.take k = zss := List.take_of_length_le (by rw [unhide HL]; exact Nat.le_refl _)
      rw [et]
      obtain ⟨T, hT⟩ : ∃ T, T = zss.flatten.length := ⟨_, rfl⟩
      rw [← hT] at hz ⊢
      have HC := hide (grow_any T wr hz)
      have HB := hide hbr
      have HT := hide hT
      clear et hbr hT
      go_wp2_with fail
      refine (unhide HC).mono ?_
      rintro e w2 ⟨a2, c2, rfl, o2, b2⟩
      have B2 := (unhide HB).trans (b2.mono (unhide HB).size)
      have O2 : w2.ownsRow w.heap.size 5 1 (.slice a2 0 c2) 0 (([] : List Int).map (Value.int .u8)) := ownsRow_base o2 (unhide HB).size
      have HB2 := hide B2
      have HO2 := hide O2
      clear HC o2 b2 B2 O2 HB
      go_wp2_with fail
      go_loopw [6, 27] (fun s i wr => ∃ (j m : Nat) (ab : Option Addr) (cb : Nat), j ≤ k ∧ i = .int .i64 j ∧ m = (zss.take j).flatten.length ∧ s = .slice ab m cb ∧ wr.ownsRow w.heap.size 5 1 (.slice ab m cb) m ((zss.take j).flatten.map (Value.int .u8)) ∧ Below w.heap.size w wr) (fun _ i _ => k - (intOf i).toNat)
      case atStart => exact ⟨0, 0, _, _, Nat.zero_le _, rfl, rfl, rfl, unhide HO2, unhide HB2⟩
      case round =>
        obtain ⟨j, m, ab, cb, hj, rfl, hm, rfl, ob, hbr⟩ := hrel
        clear HO2 HB2
        by_cases hlt : j < k
        · obtain ⟨z, hit⟩ : ∃ z, zss[j]? = some z := ⟨_, List.getElem?_eq_getElem (by rw [unhide HL]; exact hlt)⟩
          obtain ⟨hrow, hnil⟩ := (unhide HROW) wr hbr
          obtain ⟨b, off, rfl, _, hat⟩ := hrow.at (by omega)
          obtain ⟨s1, n1, d1, c0, r1⟩ := hat j z hit
          obtain ⟨s1', n1', d1', c0', hnn⟩ := hnil b off rfl j hlt
          rw [c0] at c0'
          simp only [Option.some.injEq, Value.slice.injEq] at c0'
          obtain ⟨rfl, rfl, rfl⟩ := c0'
          have hs := (unhide HFL) j z hit
          have hzl : z.length = n1 := r1.1
          have h1 := (unhide HTK) (j + 1)
          have hle : (zss.take (j + 1)).flatten.length = m + n1 := by rw [hs, List.length_append, hzl, hm]
          have hmn : m + n1 ≤ 1048576 := by have := unhide HT; omega
          have HLE := hide hle
          have HS := hide hs
          have HM := hide hm
          have HR := hide r1
          have HNN := hide hnn
          generalize (zss.take j).flatten = L at ob HS HM
          have HOB := hide ob
          have HB := hide hbr
          have k1 : (0 : Int) ≤ (j : Int) := by omega
          have k2 : (j : Int) < (k : Int) := by omega
          clear hs hzl h1 hle hm hbr hrow hnil hat r1 hit hnn ob
          go_wp2_with (at_builtin; refine wpList_append_brow _ rfl _ _ 22 rfl w.heap.size i0 Tryd.underlying22 hi hz0 hz1 hz2 _ m L rfl (unhide HOB) s1 n1 d1 z rfl (unhide HR) (unhide HNN) (by omega) (unhide HB).size ?_)
          intro a3 c3 w3 o3 g3
          have B3 : Below w.heap.size w w3 := (unhide HB).grown g3 (unhide HB).size (fun g e => ((unhide HOB).lt g e).1)
          have HO3 := hide o3
          have HB3 := hide B3
          clear o3 B3 g3 HB HOB
          go_wp2_with fail
          go_roundw
          case rel => exact ⟨j + 1, m + n1, a3, c3, by omega, by go_num, (unhide HLE).symm, rfl, by rw [unhide HS, List.map_append]; exact unhide HO3, unhide HB3⟩
          case measure => simp [intOf]; omega
        · obtain rfl : j = k := by omega
          have et : zss.take j = zss := List.take_of_length_le (by rw [unhide HL]; exact Nat.le_refl _)
          rw [et] at hm ob
          have hTm : T = m := by rw [hm]; exact unhide HT
          subst hTm
          have HB := hide hbr
          have HOB := hide ob
          clear et hm ob hbr
          go_wp2_with fail
          go_ret
          rw [← unhide HT]
          exact ⟨ab, cb, rfl, unhide HOB, unhide HB⟩

end Go.Proofs.YtbncoiljklagkaaDoor

/- What is proved here: what the program's markOf, SealOf and CommitOf answer: the code, and a seal or a commit in new memory. -/
namespace Go.Proofs.YtbncoiljklagkaaDoor
open Go.RowKit
set_option linter.unusedVariables false

set_option maxRecDepth 100000 in
set_option maxHeartbeats 2000000 in
theorem markOf_any (a : Option Addr) (len cap : Nat) (zss : List (List Int)) (w : World) (h : BsRow w a len zss) (hn : BsNil w a len) (hl : len ≤ 8) (hz : zss.flatten.length ≤ 1200) (hp : 0 < zss.flatten.length) (hv : Laid w) :
    Calls Tryd.prog 47 #[.slice a len cap] w fun e w' => ∃ a' c', e = .returned (.slice a' 4 c') ∧
      w'.ownsRow w.heap.size 5 1 (.slice a' 4 c') 4 (((kcBytes zss.flatten).take 4).map (Value.int .u8)) ∧ Below w.heap.size w w' := by
  have hfl := fldB1
  have hby : ∀ x ∈ zss.flatten, 0 ≤ x ∧ x ≤ 255 := fun x hx => by obtain ⟨z, hz, hxz⟩ := List.mem_flatten.1 hx; exact h.bytes z hz x hxz
  have D1 := hide (concat_any a len cap zss w h hn (by omega) (by omega))
  have HKC : Hid (∀ (W' : World) (g c : Nat), Below w.heap.size w W' → BRow W' (some ⟨g, 0, none⟩) zss.flatten.length zss.flatten → Calls Tryd.prog 39 #[.slice (some ⟨g, 0, none⟩) zss.flatten.length c] W' fun e w' => ∃ g' c', e = .returned (.agg #[.int .i64 0, .slice (some ⟨g', 0, none⟩) 32 c']) ∧ w'.ownsRow W'.heap.size 5 1 (.slice (some ⟨g', 0, none⟩) 32 c') 32 ((kcBytes zss.flatten).map (Value.int .u8)) ∧ Below W'.heap.size W' w') := fun W' g c hb hr => by
    have K := implKc_any (some ⟨g, 0, none⟩) zss.flatten.length c zss.flatten W' hr (fun e => by cases e) (by omega) (hv.below hb (Nat.le_refl _))
    have e1 : kcCode zss.flatten = 0 := if_neg (by omega)
    have e2 : (kcBytes zss.flatten).length = 32 := by unfold kcBytes; rw [if_neg (by omega), hashOf_length]
    rw [e1, e2] at K
    refine K.mono ?_
    rintro e w' ⟨a', c', rfl, ho, hb'⟩
    obtain ⟨g', c'', he⟩ := own_some ho (by omega)
    simp only [Value.slice.injEq] at he
    obtain ⟨rfl, -, rfl⟩ := he
    exact ⟨g', c', rfl, ho, hb'⟩
  have HRK := hide (fun x hx => kcBytes_range _ hby x (List.mem_of_mem_take (i := 4) hx))
  have HRG := hide hby
  clear h hn hby hv
  generalize kcBytes zss.flatten = KB at HKC HRK ⊢
  generalize zss.flatten = FL at D1 HKC HRG hz hp
  go_enter Tryd.func47, Tryd.ntmps47
  go_wp2_with fail
  refine (unhide D1).mono ?_
  rintro e w2 ⟨a2, c2, rfl, o2, b2⟩
  obtain ⟨g2, c', he⟩ := own_some o2 hp
  simp only [Value.slice.injEq] at he
  obtain ⟨rfl, -, rfl⟩ := he
  have D2 := hide ((unhide HKC) w2 g2 c2 b2 (BRow.own o2 (unhide HRG)))
  have HB2 := hide b2
  clear D1 o2 b2 HKC
  go_wp2_with fail
  refine (unhide D2).mono ?_
  rintro e w3 ⟨g3, c3, rfl, o3, b3⟩
  have HB3 := hide ((unhide HB2).trans (b3.mono (unhide HB2).size))
  have o4 := own_take o3 (m := 4) (by omega)
  rw [← List.map_take] at o4
  have D3 := hide (clone_any (some ⟨g3, 0, none⟩) 4 c3 (KB.take 4) w3 (BRow.own o4 (unhide HRK)) (by omega))
  have hc3 : 32 ≤ c3 := by
    rcases o3.2 with ⟨h', _⟩ | ⟨g, cap', cur, h', _, _, hnc, _⟩
    · simp at h'
    · simp only [Value.slice.injEq] at h'; rw [h'.2.2]; exact hnc
  clear D2 o3 o4 b3
  go_wp2_with fail
  refine (unhide D3).mono ?_
  rintro e w5 ⟨a5, c5, rfl, o5, b5⟩
  have HB5 := hide ((unhide HB3).trans (b5.mono (unhide HB3).size))
  have HO5 := hide (ownsRow_base o5 (unhide HB3).size)
  clear D3 o5 b5
  go_wp2_with fail
  go_ret
  exact ⟨a5, c5, rfl, unhide HO5, unhide HB5⟩

/-- Two slices of bytes in a block of their own. -/
theorem two_row (w : World) (a : Option Addr) (n c : Nat) (xs : List Int) (b : Option Addr) (m d : Nat) (ys : List Int) (T : TypeId) (h : BRow w a n xs) (k : BRow w b m ys) (hn : n ≤ 1048576) (hm : m ≤ 1048576) (hc : a = none → c = 0) (hd : b = none → d = 0) :
    BsRow (w.alloc (.cells #[.slice a n c, .slice b m d] T)) (some ⟨w.heap.size, 0, none⟩) 2 [xs, ys] ∧ BsNil (w.alloc (.cells #[.slice a n c, .slice b m d] T)) (some ⟨w.heap.size, 0, none⟩) 2 := by
  have ba := below_alloc w (.cells #[.slice a n c, .slice b m d] T)
  have h' := h.below ba (Nat.le_refl _)
  have k' := k.below ba (Nat.le_refl _)
  have c0 : ∀ i v, [Value.slice a n c, .slice b m d][i]? = some v → (w.alloc (.cells #[.slice a n c, .slice b m d] T)).cell? ⟨w.heap.size, i, none⟩ = some v := fun i v hv => by rw [(SBlk.new w #[.slice a n c, .slice b m d] T).cell]; exact hv
  refine ⟨⟨rfl, fun z hz => ?_, fun _ => ⟨_, _, rfl, fun i z hi => ?_⟩⟩, fun b' off' e i hi => ?_⟩
  · have := h.1; have := k.1; unfold maxLen
    simp at hz; rcases hz with rfl | rfl <;> omega
  · match i, hi with
    | 0, hi => simp at hi; subst hi; exact ⟨_, _, _, c0 0 _ rfl, h'⟩
    | 1, hi => simp at hi; subst hi; exact ⟨_, _, _, c0 1 _ rfl, k'⟩
  · simp only [Option.some.injEq, Addr.mk.injEq, and_true] at e
    obtain ⟨rfl, rfl⟩ := e
    match i, hi with
    | 0, _ => exact ⟨_, _, _, c0 0 _ rfl, hc⟩
    | 1, _ => exact ⟨_, _, _, c0 1 _ rfl, hd⟩

theorem three_row (w : World) (a : Option Addr) (n c : Nat) (xs : List Int) (b : Option Addr) (m d : Nat) (ys : List Int) (b3 : Option Addr) (m3 d3 : Nat) (us : List Int) (T : TypeId) (h : BRow w a n xs) (k : BRow w b m ys) (k3 : BRow w b3 m3 us) (hn : n ≤ 1048576) (hm : m ≤ 1048576) (hm3 : m3 ≤ 1048576) (hc : a = none → c = 0) (hd : b = none → d = 0) (hd3 : b3 = none → d3 = 0) :
    BsRow (w.alloc (.cells #[.slice a n c, .slice b m d, .slice b3 m3 d3] T)) (some ⟨w.heap.size, 0, none⟩) 3 [xs, ys, us] ∧ BsNil (w.alloc (.cells #[.slice a n c, .slice b m d, .slice b3 m3 d3] T)) (some ⟨w.heap.size, 0, none⟩) 3 := by
  have ba := below_alloc w (.cells #[.slice a n c, .slice b m d, .slice b3 m3 d3] T)
  have h' := h.below ba (Nat.le_refl _)
  have k' := k.below ba (Nat.le_refl _)
  have k3' := k3.below ba (Nat.le_refl _)
  have c0 : ∀ i v, [Value.slice a n c, .slice b m d, .slice b3 m3 d3][i]? = some v → (w.alloc (.cells #[.slice a n c, .slice b m d, .slice b3 m3 d3] T)).cell? ⟨w.heap.size, i, none⟩ = some v := fun i v hv => by rw [(SBlk.new w #[.slice a n c, .slice b m d, .slice b3 m3 d3] T).cell]; exact hv
  refine ⟨⟨rfl, fun z hz => ?_, fun _ => ⟨_, _, rfl, fun i z hi => ?_⟩⟩, fun b' off' e i hi => ?_⟩
  · have := h.1; have := k.1; have := k3.1; unfold maxLen
    simp at hz; rcases hz with rfl | rfl | rfl <;> omega
  · match i, hi with
    | 0, hi => simp at hi; subst hi; exact ⟨_, _, _, c0 0 _ rfl, h'⟩
    | 1, hi => simp at hi; subst hi; exact ⟨_, _, _, c0 1 _ rfl, k'⟩
    | 2, hi => simp at hi; subst hi; exact ⟨_, _, _, c0 2 _ rfl, k3'⟩
  · simp only [Option.some.injEq, Addr.mk.injEq, and_true] at e
    obtain ⟨rfl, rfl⟩ := e
    match i, hi with
    | 0, _ => exact ⟨_, _, _, c0 0 _ rfl, hc⟩
    | 1, _ => exact ⟨_, _, _, c0 1 _ rfl, hd⟩
    | 2, _ => exact ⟨_, _, _, c0 2 _ rfl, hd3⟩

end Go.Proofs.YtbncoiljklagkaaDoor

/- What is proved here: what the program's SealOf answers: the code, and a seal in new memory. -/
namespace Go.Proofs.YtbncoiljklagkaaDoor
open Go.RowKit
set_option linter.unusedVariables false

set_option maxRecDepth 100000 in
set_option maxHeartbeats 2000000 in
theorem implSeal_any (a : Option Addr) (n c : Nat) (b : Option Addr) (m d : Nat) (xs ys : List Int) (w : World) (h : BRow w a n xs) (k : BRow w b m ys) (hc : a = none → c = 0) (hd : b = none → d = 0) (hn : n ≤ 1048576) (hm : m ≤ 1048576) (hv : Laid w) :
    Calls Tryd.prog 21 #[.slice a n c, .slice b m d] w fun e w' => ∃ a' c', e = .returned (.agg #[.int .i64 (slCode xs ys), .slice a' (slBytes xs ys).length c']) ∧
      w'.ownsRow w.heap.size 5 1 (.slice a' (slBytes xs ys).length c') (slBytes xs ys).length ((slBytes xs ys).map (Value.int .u8)) ∧ Below w.heap.size w w' := by
  have hxl := h.1
  have hyl := k.1
  have HA := hide (fun W => isAddr_any a n c W)
  have HH := hide (fun W => isHash_any b m d W)
  have kr := SBlk.new w #[.int .i64 0, .slice none 0 0] 28
  have b1 := below_alloc w (.cells #[.int .i64 0, .slice none 0 0] 28)
  have z1 : (w.alloc (.cells #[.int .i64 0, .slice none 0 0] 28)).heap.size = w.heap.size + 1 := by simp
  obtain ⟨W1, e1⟩ : ∃ W1, w.alloc (.cells #[.int .i64 0, .slice none 0 0] 28) = W1 := ⟨_, rfl⟩
  rw [e1] at kr b1 z1
  have r0 := kr.cell 0
  have r1 := kr.cell 1
  have f0 := kr.free 0
  have f1 := kr.free 1
  simp only [List.getElem?_cons_zero, List.getElem?_cons_succ] at r0 r1
  have HB1 := hide b1
  have E1 := hide e1
  clear e1
  by_cases h1 : n = 4
  · by_cases h2 : m = 32
    · subst h1 h2
      have e1 : slCode xs ys = 0 := if_pos ⟨hxl, hyl⟩
      have e2 : slBytes xs ys = sealL xs ys := if_pos ⟨hxl, hyl⟩
      have e3 := seal4 hxl hyl
      have hz2 : (W1.alloc (.cells #[.slice a 4 c, .slice b 32 d] 22)).heap.size = w.heap.size + 2 := by simp; omega
      have D : Hid (Calls Tryd.prog 47 #[.slice (some ⟨w.heap.size + 1, 0, none⟩) 2 2] (W1.alloc (.cells #[.slice a 4 c, .slice b 32 d] 22)) fun e w' => ∃ a' c', e = .returned (.slice a' 4 c') ∧ w'.ownsRow (w.heap.size + 2) 5 1 (.slice a' 4 c') 4 ((sealL xs ys).map (Value.int .u8)) ∧ Below (w.heap.size + 1) W1 w') := by
        have b2 := below_alloc W1 (.cells #[.slice a 4 c, .slice b 32 d] 22)
        obtain ⟨R, N⟩ := two_row W1 a 4 c xs b 32 d ys 22 (h.below b1 (Nat.le_refl _)) (k.below b1 (Nat.le_refl _)) hn hm hc hd
        rw [z1] at R N
        have ef : [xs, ys].flatten = xs ++ ys := by simp
        have K := markOf_any _ 2 2 [xs, ys] _ R N (by omega) (by rw [ef]; simp; omega) (by rw [ef]; simp; omega) ((hv.below b1 (Nat.le_refl _)).below b2 (Nat.le_refl _))
        rw [ef] at K
        rw [hz2] at K
        refine K.mono ?_
        rintro e w' ⟨a', c', rfl, ho, hb⟩
        exact ⟨a', c', rfl, ho, by rw [z1] at b2; exact b2.trans (hb.mono (by omega))⟩
      have HK := hide (fun (W' : World) (hb : Below (w.heap.size + 1) W1 W') => kr.below hb (by omega))
      rw [e1, e2, e3]
      clear e1 e2 e3 h k hv hxl hyl hc hd kr r0 r1 f0 f1 b1 hz2
      generalize sealL xs ys = SL at D ⊢
      go_enter Tryd.func21, Tryd.ntmps21
      go_upto_region 1 with fail
      rw [unhide E1]
      clear E1
      go_wp2_with fail
      refine ((unhide HA) _).mono ?_
      rintro e w' ⟨rfl, rfl⟩
      go_wp2_with fail
      refine ((unhide HH) _).mono ?_
      rintro e w' ⟨rfl, rfl⟩
      go_wp2_with fail
      refine (unhide D).mono ?_
      rintro e w3 ⟨a3, c3, rfl, o3, b3⟩
      have kr3 := (unhide HK) w3 b3
      have r0 := kr3.cell 0
      have r1 := kr3.cell 1
      have f0 := kr3.free 0
      have f1 := kr3.free 1
      simp only [List.getElem?_cons_zero, List.getElem?_cons_succ] at r0 r1
      have HB3 := hide ((unhide HB1).trans (b3.mono (by omega)))
      have HO3 := hide o3
      clear kr3 o3 b3 D HK
      go_wp2_with fail
      refine bodyPost_ret (v := .agg #[.int .i64 0, .slice a3 4 c3]) (by simp [results, Tryd.results21, go_sem, r0, r1]) rfl ⟨a3, c3, rfl, ?_, ?_⟩
      · exact ownsRow_base (ownsRow_setCell_below (ownsRow_setCell_below (unhide HO3) (by show w.heap.size < w.heap.size + 2; omega) _) (by show w.heap.size < w.heap.size + 2; omega) _) (by omega)
      · exact ((unhide HB3).setCell (p := ⟨w.heap.size, _, none⟩) (by show w.heap.size ≤ w.heap.size; omega) _).setCell (p := ⟨w.heap.size, _, none⟩) (by show w.heap.size ≤ w.heap.size; omega) _
    · have e1 : slCode xs ys = 1 := if_neg (fun q => h2 (by omega))
      have e2 : slBytes xs ys = [] := if_neg (fun q => h2 (by omega))
      have q1 : (((n : Nat) : Int) == 4) = true := by simp; omega
      have q2 : (((m : Nat) : Int) == 32) = false := by simp; omega
      simp only [q1] at HA
      simp only [q2] at HH
      rw [e1, e2]
      clear e1 e2 h k hv hxl hyl hc hd kr b1 q1 q2 h1 h2
      go_enter Tryd.func21, Tryd.ntmps21
      go_upto_region 1 with fail
      rw [unhide E1]
      clear E1
      go_wp2_with fail
      refine ((unhide HA) _).mono ?_
      rintro e w' ⟨rfl, rfl⟩
      go_wp2_with fail
      refine ((unhide HH) _).mono ?_
      rintro e w' ⟨rfl, rfl⟩
      go_wp2_with fail
      refine bodyPost_ret (v := .agg #[.int .i64 1, .slice none 0 0]) (by simp [results, Tryd.results21, go_sem, r0, r1]) rfl ⟨none, 0, rfl, World.ownsRow_nil _ _ _ _, ?_⟩
      exact ((unhide HB1).setCell (p := ⟨w.heap.size, _, none⟩) (by show w.heap.size ≤ w.heap.size; omega) _).setCell (p := ⟨w.heap.size, _, none⟩) (by show w.heap.size ≤ w.heap.size; omega) _
  · have e1 : slCode xs ys = 1 := if_neg (fun q => h1 (by omega))
    have e2 : slBytes xs ys = [] := if_neg (fun q => h1 (by omega))
    have q1 : (((n : Nat) : Int) == 4) = false := by simp; omega
    simp only [q1] at HA
    rw [e1, e2]
    clear e1 e2 h k hv hxl hyl hc hd kr b1 q1 h1
    go_enter Tryd.func21, Tryd.ntmps21
    go_upto_region 1 with fail
    rw [unhide E1]
    clear E1
    go_wp2_with fail
    refine ((unhide HA) _).mono ?_
    rintro e w' ⟨rfl, rfl⟩
    go_wp2_with fail
    refine bodyPost_ret (v := .agg #[.int .i64 1, .slice none 0 0]) (by simp [results, Tryd.results21, go_sem, r0, r1]) rfl ⟨none, 0, rfl, World.ownsRow_nil _ _ _ _, ?_⟩
    exact ((unhide HB1).setCell (p := ⟨w.heap.size, _, none⟩) (by show w.heap.size ≤ w.heap.size; omega) _).setCell (p := ⟨w.heap.size, _, none⟩) (by show w.heap.size ≤ w.heap.size; omega) _

end Go.Proofs.YtbncoiljklagkaaDoor

/- What is proved here: what the model's l6Seal, l6Commit, SealOf and CommitOf answer: the code, and a seal or a commit in new memory. -/
namespace Go.Proofs.YtbncoiljklagkaaDoor
open Go.RowKit
set_option linter.unusedVariables false
set_option maxRecDepth 100000

theorem l6Asked_any (a : Option Addr) (n c : Nat) (b : Option Addr) (m d : Nat) (w : World) :
    Calls Tryd.prog 43 #[.slice a n c, .slice b m d] w fun e w' => e = .returned (.bool (decide (n = 4 ∧ m = 32))) ∧ w' = w := by
  by_cases h1 : n = 4
  · subst h1
    by_cases h2 : m = 32
    · subst h2
      go_enter Tryd.func43, Tryd.ntmps43
      go_wp2_with fail
      go_ret
      exact ⟨rfl, rfl⟩
    · have q : (((m : Nat) : Int) == 32) = false := by simp; omega
      have e : decide (4 = 4 ∧ m = 32) = false := by simp [h2]
      rw [e]
      go_enter Tryd.func43, Tryd.ntmps43
      go_wp2_with fail
      go_ret
      exact ⟨rfl, rfl⟩
  · have q : (((n : Nat) : Int) == 4) = false := by simp; omega
    have e : decide (n = 4 ∧ m = 32) = false := by simp [h1]
    rw [e]
    go_enter Tryd.func43, Tryd.ntmps43
    go_wp2_with fail
    go_ret
    exact ⟨rfl, rfl⟩

/-- l2Keccak over a row that is owned. -/
theorem l2Kc_own {B : Nat} (a : Option Addr) (n cap : Nat) (zs : List Int) (w : World) (h : w.ownsRow B 5 1 (.slice a n cap) n (zs.map (Value.int .u8))) (hr : ∀ x ∈ zs, 0 ≤ x ∧ x ≤ 255) (hn : n ≤ 1200) :
    Calls Tryd.prog 57 #[.slice a n cap] w fun e w' => ∃ d c', e = .returned (.slice (some ⟨d, 0, none⟩) 32 c') ∧ 32 ≤ c' ∧
      w'.ownsRow w.heap.size 5 1 (.slice (some ⟨d, 0, none⟩) 32 c') 32 ((kcBytes zs).map (Value.int .u8)) ∧ Below w.heap.size w w' := by
  have hl : zs.length = n := by have := h.1; simpa using this
  have e : kcBytes zs = hashOf (spAt (padB zs) (padLen n / 136)) := by unfold kcBytes; rw [if_neg (by omega), hl]
  rw [e]
  refine (l2Keccak_any a n cap zs w (BRow.own2 h hr) (own_cap h) hn).mono ?_
  rintro e w' ⟨d, c', rfl, ho, hb⟩
  refine ⟨d, c', rfl, ?_, ho, hb⟩
  rcases ho.2 with ⟨h', _⟩ | ⟨g, cap', cur, h', _, _, hnc, _⟩
  · simp at h'
  · simp only [Value.slice.injEq] at h'; rw [h'.2.2]; exact hnc

set_option maxHeartbeats 4000000 in
theorem l6Seal_any (a : Option Addr) (n c : Nat) (b : Option Addr) (m d : Nat) (xs ys : List Int) (w : World) (h : BRow w a n xs) (k : BRow w b m ys) (hc : a = none → c = 0) (hd : b = none → d = 0) (hn : n ≤ 600) (hm : m ≤ 600) :
    Calls Tryd.prog 44 #[.slice a n c, .slice b m d] w fun e w' => ∃ g c', e = .returned (.slice (some ⟨g, 0, none⟩) 4 c') ∧
      w'.ownsRow w.heap.size 5 1 (.slice (some ⟨g, 0, none⟩) 4 c') 4 ((sealL xs ys).map (Value.int .u8)) ∧ Below w.heap.size w w' := by
  obtain ⟨i0, hi, hz0, hz1, hz2⟩ := info_parts info5
  have D1 := hide (copy_any a n c xs w h hc (by omega))
  have HR := hide (fun (W : World) (hb : Below w.heap.size w W) => k.below hb (Nat.le_refl _))
  have HRG := hide (append_rng h.2.1 k.2.1)
  have HD := hide hd
  clear h k hc hd
  go_enter Tryd.func44, Tryd.ntmps44
  go_wp2_with fail
  refine (unhide D1).mono ?_
  rintro e w2 ⟨a2, c2, rfl, o2, b2⟩
  have r2 := (unhide HR) w2 b2
  go_wp2_with (at_builtin; refine wpList_append_brow _ rfl _ _ 22 rfl w.heap.size i0 Tryd.underlying22 hi hz0 hz1 hz2 _ n xs rfl o2 b m d ys rfl r2 (unhide HD) (by omega) b2.size ?_)
  intro a3 c3 w3 o3 g3
  have B3 : Below w.heap.size w w3 := b2.grown g3 b2.size (fun g e => (o2.lt g e).1)
  have D3 := hide (l2Kc_own a3 (n + m) c3 (xs ++ ys) w3 (by rw [List.map_append]; exact o3) (unhide HRG) (by omega))
  have HB3 := hide B3
  clear o3 B3 g3 r2 o2 b2 D1
  go_wp2_with fail
  refine (unhide D3).mono ?_
  rintro e w4 ⟨g4, c4, rfl, hc4, o4, b4⟩
  have HB4 := hide ((unhide HB3).trans (b4.mono (unhide HB3).size))
  have o5 := own_take (ownsRow_base o4 (unhide HB3).size) (m := 4) (by omega)
  rw [← List.map_take] at o5
  have HO5 := hide o5
  clear D3 o4 o5 b4
  go_wp2_with fail
  go_ret
  exact ⟨g4, c4, rfl, unhide HO5, unhide HB4⟩

set_option maxHeartbeats 4000000 in
theorem l6Commit_any (a : Option Addr) (n c : Nat) (b : Option Addr) (m d : Nat) (xs ys : List Int) (w : World) (h : BRow w a n xs) (k : BRow w b m ys) (hc : a = none → c = 0) (hd : b = none → d = 0) (hn : n ≤ 400) (hm : m ≤ 600) :
    Calls Tryd.prog 48 #[.slice a n c, .slice b m d] w fun e w' => ∃ a' c', e = .returned (.slice a' (n + 4) c') ∧
      w'.ownsRow w.heap.size 5 1 (.slice a' (n + 4) c') (n + 4) ((xs ++ markL xs ys).map (Value.int .u8)) ∧ Below w.heap.size w w' := by
  obtain ⟨i0, hi, hz0, hz1, hz2⟩ := info_parts info5
  have hxl := h.1
  have hyl := k.1
  have HC := hide (fun (W : World) (hb : Below w.heap.size w W) => copy_any a n c xs W (h.below hb (Nat.le_refl _)) hc (by omega))
  have HR := hide (fun (W : World) (hb : Below w.heap.size w W) => k.below hb (Nat.le_refl _))
  have HRG := hide (append_rng h.2.1 (one_rng k.2.1))
  have HMR := hide (markL_rng h.2.1 k.2.1)
  have HD := hide hd
  have HOne : Hid (∀ (W : World), BRow (W.alloc (.cells #[.int .u8 1] 5)) (some ⟨W.heap.size, 0, none⟩) 1 [1]) := fun W => ⟨rfl, fun x hx => by simp at hx; omega, fun e => (by cases e), fun y hy j hj => by
    cases hy
    obtain rfl : j = 0 := by omega
    rw [add_none, Nat.zero_add, World.cell?_alloc_new]
    rfl⟩
  have hke : xs ++ [1] ++ ys = xs ++ 1 :: ys := by simp
  have HKE := hide hke
  have hmk : markL xs ys = (kcBytes (xs ++ 1 :: ys)).take 4 := rfl
  have HMK := hide hmk
  clear h k hc hd hke hmk
  have D1 := hide ((unhide HC) w (Below.refl _ _))
  go_enter Tryd.func48, Tryd.ntmps48
  go_wp2_with fail
  refine (unhide D1).mono ?_
  rintro e w2 ⟨a2, c2, rfl, o2, b2⟩
  have bo := below_alloc w2 (.cells #[.int .u8 1] 5)
  have o2' := own_below o2 bo (Nat.le_refl _)
  have b2' := b2.trans (bo.mono b2.size)
  have r2 := (unhide HOne) w2
  have e2 : xs.map (Value.int .u8) = xs.map (Value.int .u8) := rfl
  go_wp2_with (at_builtin; refine wpList_append_brow _ rfl _ _ 22 rfl w.heap.size i0 Tryd.underlying22 hi hz0 hz1 hz2 _ n xs rfl o2' (some ⟨w2.heap.size, 0, none⟩) 1 1 [1] rfl r2 (fun e => by cases e) (by omega) b2'.size ?_)
  intro a3 c3 w3 o3 g3
  have B3 : Below w.heap.size w w3 := b2'.grown g3 b2'.size (fun g e => (o2'.lt g e).1)
  have o3 : w3.ownsRow w.heap.size 5 1 (.slice a3 (n + 1) c3) (n + 1) ((xs ++ [1]).map (Value.int .u8)) := by simpa using o3
  have r3 := (unhide HR) w3 B3
  clear e2 r2 o2' o2 b2 bo b2' D1
  go_wp2_with (at_builtin; refine wpList_append_brow _ rfl _ _ 22 rfl w.heap.size i0 Tryd.underlying22 hi hz0 hz1 hz2 _ (n + 1) (xs ++ [1]) rfl o3 b m d ys rfl r3 (unhide HD) (by omega) B3.size ?_)
  intro a4 c4 w4 o4 g4
  have B4 : Below w.heap.size w w4 := B3.grown g4 B3.size (fun g e => (o3.lt g e).1)
  have o4 : w4.ownsRow w.heap.size 5 1 (.slice a4 (n + 1 + m) c4) (n + 1 + m) ((xs ++ 1 :: ys).map (Value.int .u8)) := by simpa using o4
  have HO4 := hide o4
  have HB4 := hide B4
  have D4 := hide ((unhide HC) w4 B4)
  clear o4 g4 B4 r3 o3 B3 g3 HC HR
  go_wp2_with fail
  refine (unhide D4).mono ?_
  rintro e w5 ⟨a5, c5, rfl, o5, b5⟩
  have hz45 : w4.heap.size ≤ w5.heap.size := b5.size
  have o45 := own_below (unhide HO4) b5 (Nat.le_refl _)
  have D5 := hide (l2Kc_own a4 (n + 1 + m) c4 (xs ++ 1 :: ys) w5 o45 (unhide HRG) (by omega))
  have HB5 := hide ((unhide HB4).trans (b5.mono (unhide HB4).size))
  have HO5 := hide (ownsRow_base o5 (unhide HB4).size)
  clear D4 o5 b5 o45 HO4
  go_wp2_with fail
  refine (unhide D5).mono ?_
  rintro e w6 ⟨g6, c6, rfl, hc6, o6, b6⟩
  have B6 := (unhide HB5).trans (b6.mono (unhide HB5).size)
  have o7 := own_take o6 (m := 4) (by omega)
  rw [← List.map_take, ← unhide HMK] at o7
  have r7 := BRow.own o7 (unhide HMR)
  have O6 := own_below (unhide HO5) b6 (Nat.le_refl _)
  clear D5 o6 o7 b6 HO5
  go_wp2_with (at_builtin; refine wpList_append_brow _ rfl _ _ 22 rfl w.heap.size i0 Tryd.underlying22 hi hz0 hz1 hz2 _ n xs rfl O6 (some ⟨g6, 0, none⟩) 4 c6 (markL xs ys) rfl r7 (fun e => by cases e) (by omega) B6.size ?_)
  intro a8 c8 w8 o8 g8
  have B8 : Below w.heap.size w w8 := B6.grown g8 B6.size (fun g e => (O6.lt g e).1)
  have HO8 := hide o8
  have HB8 := hide B8
  clear o8 B8 g8 O6 r7 B6
  go_wp2_with fail
  go_ret
  exact ⟨a8, c8, rfl, by simpa using unhide HO8, unhide HB8⟩

end Go.Proofs.YtbncoiljklagkaaDoor

/- What is proved here: what the model's SealOf and CommitOf answer: the code, and a seal or a commit in new memory. -/
namespace Go.Proofs.YtbncoiljklagkaaDoor
open Go.RowKit
set_option linter.unusedVariables false
set_option maxRecDepth 100000

set_option maxHeartbeats 2000000 in
theorem specSeal_any (a : Option Addr) (n c : Nat) (b : Option Addr) (m d : Nat) (xs ys : List Int) (w : World) (h : BRow w a n xs) (k : BRow w b m ys) (hc : a = none → c = 0) (hd : b = none → d = 0) (hn : n ≤ 1048576) (hm : m ≤ 1048576) :
    Calls Tryd.prog 19 #[.slice a n c, .slice b m d] w fun e w' => ∃ a' c', e = .returned (.agg #[.int .i64 (slCode xs ys), .slice a' (slBytes xs ys).length c']) ∧
      w'.ownsRow w.heap.size 5 1 (.slice a' (slBytes xs ys).length c') (slBytes xs ys).length ((slBytes xs ys).map (Value.int .u8)) ∧ Below w.heap.size w w' := by
  have hxl := h.1
  have hyl := k.1
  have HA := hide (fun W => l6Asked_any a n c b m d W)
  have kr := SBlk.new w #[.int .i64 0, .slice none 0 0] 28
  have b1 := below_alloc w (.cells #[.int .i64 0, .slice none 0 0] 28)
  have z1 : (w.alloc (.cells #[.int .i64 0, .slice none 0 0] 28)).heap.size = w.heap.size + 1 := by simp
  obtain ⟨W1, e1⟩ : ∃ W1, w.alloc (.cells #[.int .i64 0, .slice none 0 0] 28) = W1 := ⟨_, rfl⟩
  rw [e1] at kr b1 z1
  have HB1 := hide b1
  have E1 := hide e1
  clear e1
  by_cases h1 : n = 4 ∧ m = 32
  · obtain ⟨rfl, rfl⟩ := h1
    have e1 : slCode xs ys = 0 := if_pos ⟨hxl, hyl⟩
    have e2 : slBytes xs ys = sealL xs ys := if_pos ⟨hxl, hyl⟩
    have e3 : (sealL xs ys).length = 4 := seal4 hxl hyl
    have D : Hid (Calls Tryd.prog 44 #[.slice a 4 c, .slice b 32 d] W1 fun e w' => ∃ a' c', e = .returned (.slice a' 4 c') ∧ w'.ownsRow (w.heap.size + 1) 5 1 (.slice a' 4 c') 4 ((sealL xs ys).map (Value.int .u8)) ∧ Below (w.heap.size + 1) W1 w') := by
      have K := l6Seal_any a 4 c b 32 d xs ys W1 (h.below b1 (Nat.le_refl _)) (k.below b1 (Nat.le_refl _)) hc hd (by omega) (by omega)
      rw [z1] at K
      refine K.mono ?_
      rintro e w' ⟨a', c', rfl, ho, hb⟩
      exact ⟨_, c', rfl, ho, hb⟩
    have HK := hide (fun (W' : World) (hb : Below (w.heap.size + 1) W1 W') => kr.below hb (by omega))
    rw [e1, e2, e3]
    clear e1 e2 e3 h k hxl hyl hc hd kr b1
    generalize sealL xs ys = SL at D ⊢
    go_enter Tryd.func19, Tryd.ntmps19
    go_upto_region 1 with fail
    rw [unhide E1]
    clear E1
    go_wp2_with fail
    refine ((unhide HA) _).mono ?_
    rintro e w' ⟨rfl, rfl⟩
    go_wp2_with fail
    refine (unhide D).mono ?_
    rintro e w3 ⟨a3, c3, rfl, o3, b3⟩
    have kr3 := (unhide HK) w3 b3
    have r0 := kr3.cell 0
    have r1 := kr3.cell 1
    have f0 := kr3.free 0
    have f1 := kr3.free 1
    simp only [List.getElem?_cons_zero, List.getElem?_cons_succ] at r0 r1
    have HB3 := hide ((unhide HB1).trans (b3.mono (by omega)))
    have HO3 := hide o3
    clear kr3 o3 b3 D HK
    go_wp2_with fail
    refine bodyPost_ret (v := .agg #[.int .i64 0, .slice a3 4 c3]) (by simp [results, Tryd.results19, go_sem, r0, r1]) rfl ⟨a3, c3, rfl, ?_, ?_⟩
    · exact ownsRow_base (ownsRow_setCell_below (ownsRow_setCell_below (unhide HO3) (by show w.heap.size < w.heap.size + 1; omega) _) (by show w.heap.size < w.heap.size + 1; omega) _) (by omega)
    · exact ((unhide HB3).setCell (p := ⟨w.heap.size, _, none⟩) (by show w.heap.size ≤ w.heap.size; omega) _).setCell (p := ⟨w.heap.size, _, none⟩) (by show w.heap.size ≤ w.heap.size; omega) _
  · have e1 : slCode xs ys = 1 := if_neg (fun q => h1 (by omega))
    have e2 : slBytes xs ys = [] := if_neg (fun q => h1 (by omega))
    have q1 : decide (n = 4 ∧ m = 32) = false := decide_eq_false h1
    simp only [q1] at HA
    have r0 := kr.cell 0
    have r1 := kr.cell 1
    have f0 := kr.free 0
    have f1 := kr.free 1
    simp only [List.getElem?_cons_zero, List.getElem?_cons_succ] at r0 r1
    rw [e1, e2]
    clear e1 e2 h k hxl hyl hc hd kr b1 q1 h1
    go_enter Tryd.func19, Tryd.ntmps19
    go_upto_region 1 with fail
    rw [unhide E1]
    clear E1
    go_wp2_with fail
    refine ((unhide HA) _).mono ?_
    rintro e w' ⟨rfl, rfl⟩
    go_wp2_with fail
    refine bodyPost_ret (v := .agg #[.int .i64 1, .slice none 0 0]) (by simp [results, Tryd.results19, go_sem, r0, r1]) rfl ⟨none, 0, rfl, World.ownsRow_nil _ _ _ _, ?_⟩
    exact ((unhide HB1).setCell (p := ⟨w.heap.size, _, none⟩) (by show w.heap.size ≤ w.heap.size; omega) _).setCell (p := ⟨w.heap.size, _, none⟩) (by show w.heap.size ≤ w.heap.size; omega) _

set_option maxHeartbeats 2000000 in
theorem specCommit_any (a : Option Addr) (n c : Nat) (b : Option Addr) (m d : Nat) (xs ys : List Int) (w : World) (h : BRow w a n xs) (k : BRow w b m ys) (hc : a = none → c = 0) (hd : b = none → d = 0) (hn : n ≤ 1048576) (hm : m ≤ 1048576) :
    Calls Tryd.prog 24 #[.slice a n c, .slice b m d] w fun e w' => ∃ a' c', e = .returned (.agg #[.int .i64 (slCode xs ys), .slice a' (cmBytes xs ys).length c']) ∧
      w'.ownsRow w.heap.size 5 1 (.slice a' (cmBytes xs ys).length c') (cmBytes xs ys).length ((cmBytes xs ys).map (Value.int .u8)) ∧ Below w.heap.size w w' := by
  have hxl := h.1
  have hyl := k.1
  have HA := hide (fun W => l6Asked_any a n c b m d W)
  have kr := SBlk.new w #[.int .i64 0, .slice none 0 0] 28
  have b1 := below_alloc w (.cells #[.int .i64 0, .slice none 0 0] 28)
  have z1 : (w.alloc (.cells #[.int .i64 0, .slice none 0 0] 28)).heap.size = w.heap.size + 1 := by simp
  obtain ⟨W1, e1⟩ : ∃ W1, w.alloc (.cells #[.int .i64 0, .slice none 0 0] 28) = W1 := ⟨_, rfl⟩
  rw [e1] at kr b1 z1
  have HB1 := hide b1
  have E1 := hide e1
  clear e1
  by_cases h1 : n = 4 ∧ m = 32
  · obtain ⟨rfl, rfl⟩ := h1
    have e1 : slCode xs ys = 0 := if_pos ⟨hxl, hyl⟩
    have e2 : cmBytes xs ys = xs ++ markL xs ys := if_pos ⟨hxl, hyl⟩
    have e3 : (xs ++ markL xs ys).length = 8 := by rw [List.length_append, mark4 hxl hyl, hxl]
    have D : Hid (Calls Tryd.prog 48 #[.slice a 4 c, .slice b 32 d] W1 fun e w' => ∃ a' c', e = .returned (.slice a' 8 c') ∧ w'.ownsRow (w.heap.size + 1) 5 1 (.slice a' 8 c') 8 ((xs ++ markL xs ys).map (Value.int .u8)) ∧ Below (w.heap.size + 1) W1 w') := by
      have K := l6Commit_any a 4 c b 32 d xs ys W1 (h.below b1 (Nat.le_refl _)) (k.below b1 (Nat.le_refl _)) hc hd (by omega) (by omega)
      rw [z1] at K
      refine K.mono ?_
      rintro e w' ⟨a', c', rfl, ho, hb⟩
      exact ⟨_, c', rfl, ho, hb⟩
    have HK := hide (fun (W' : World) (hb : Below (w.heap.size + 1) W1 W') => kr.below hb (by omega))
    rw [e1, e2, e3]
    clear e1 e2 e3 h k hxl hyl hc hd kr b1
    generalize xs ++ markL xs ys = SL at D ⊢
    go_enter Tryd.func24, Tryd.ntmps24
    go_upto_region 1 with fail
    rw [unhide E1]
    clear E1
    go_wp2_with fail
    refine ((unhide HA) _).mono ?_
    rintro e w' ⟨rfl, rfl⟩
    go_wp2_with fail
    refine (unhide D).mono ?_
    rintro e w3 ⟨a3, c3, rfl, o3, b3⟩
    have kr3 := (unhide HK) w3 b3
    have r0 := kr3.cell 0
    have r1 := kr3.cell 1
    have f0 := kr3.free 0
    have f1 := kr3.free 1
    simp only [List.getElem?_cons_zero, List.getElem?_cons_succ] at r0 r1
    have HB3 := hide ((unhide HB1).trans (b3.mono (by omega)))
    have HO3 := hide o3
    clear kr3 o3 b3 D HK
    go_wp2_with fail
    refine bodyPost_ret (v := .agg #[.int .i64 0, .slice a3 8 c3]) (by simp [results, Tryd.results24, go_sem, r0, r1]) rfl ⟨a3, c3, rfl, ?_, ?_⟩
    · exact ownsRow_base (ownsRow_setCell_below (ownsRow_setCell_below (unhide HO3) (by show w.heap.size < w.heap.size + 1; omega) _) (by show w.heap.size < w.heap.size + 1; omega) _) (by omega)
    · exact ((unhide HB3).setCell (p := ⟨w.heap.size, _, none⟩) (by show w.heap.size ≤ w.heap.size; omega) _).setCell (p := ⟨w.heap.size, _, none⟩) (by show w.heap.size ≤ w.heap.size; omega) _
  · have e1 : slCode xs ys = 1 := if_neg (fun q => h1 (by omega))
    have e2 : cmBytes xs ys = [] := if_neg (fun q => h1 (by omega))
    have q1 : decide (n = 4 ∧ m = 32) = false := decide_eq_false h1
    simp only [q1] at HA
    have r0 := kr.cell 0
    have r1 := kr.cell 1
    have f0 := kr.free 0
    have f1 := kr.free 1
    simp only [List.getElem?_cons_zero, List.getElem?_cons_succ] at r0 r1
    rw [e1, e2]
    clear e1 e2 h k hxl hyl hc hd kr b1 q1 h1
    go_enter Tryd.func24, Tryd.ntmps24
    go_upto_region 1 with fail
    rw [unhide E1]
    clear E1
    go_wp2_with fail
    refine ((unhide HA) _).mono ?_
    rintro e w' ⟨rfl, rfl⟩
    go_wp2_with fail
    refine bodyPost_ret (v := .agg #[.int .i64 1, .slice none 0 0]) (by simp [results, Tryd.results24, go_sem, r0, r1]) rfl ⟨none, 0, rfl, World.ownsRow_nil _ _ _ _, ?_⟩
    exact ((unhide HB1).setCell (p := ⟨w.heap.size, _, none⟩) (by show w.heap.size ≤ w.heap.size; omega) _).setCell (p := ⟨w.heap.size, _, none⟩) (by show w.heap.size ≤ w.heap.size; omega) _

end Go.Proofs.YtbncoiljklagkaaDoor
