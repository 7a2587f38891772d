/- What is proved here: what slices.Grow and slices.Concat answer at bytes: room, and all bytes one behind the other. -/
import Derived.Test.YtbncoiljklagkaaGreatDoorJ13
import Derived.Lib.AppendZeros
import Derived.Test.YtbncoiljklagkaaGreatDoorJ15
import Derived.Test.YtbncoiljklagkaaGreatDoorJ11
import Derived.Test.YtbncoiljklagkaaGreatDoorJ4
import Derived.Test.YtbncoiljklagkaaGreatDoorJ8
import Derived.Deep.RegionHeld3
import Derived.Test.YtbncoiljklagkaaGreatDoorJ12
import Derived.Test.YtbncoiljklagkaaGreatDoorJ9
import Derived.Maps.AppendAt
namespace Go.Proofs.YtbncoiljklagkaaGreatDoor
open Go.RowKit
set_option linter.unusedVariables false
set_option maxRecDepth 100000

set_option maxRecDepth 100000 in
set_option maxHeartbeats 1000000 in
theorem grow_any (n : Nat) (w : World) (hn : n ≤ 1048576) :
    Calls Tryz.prog 78 #[.slice none 0 0, .int .i64 n] w fun e w' => ∃ (a' : Option Addr) (cap' : Nat), e = .returned (.slice a' 0 cap') ∧ w'.ownsRow w.heap.size 5 1 (.slice a' 0 cap') 0 [] ∧ Below w.heap.size w w' := by
  obtain ⟨i0, hi, hz0, hz1, hz2⟩ := info_parts info5
  have q1 : decide ((n : Int) < 0) = false := decide_eq_false (by omega)
  by_cases h0 : n = 0
  · subst h0
    go_enter Tryz.func78, Tryz.ntmps78
    go_wp2_with fail
    go_ret
    exact ⟨none, 0, rfl, World.ownsRow_nil _ _ _ _, Below.refl _ _⟩
  · have q2 : decide ((n : Int) > 0) = true := decide_eq_true (by omega)
    have q3 : decide (0 < (n : Int)) = true := decide_eq_true (by omega)
    have q4 : decide (0 < n) = true := decide_eq_true (by omega)
    obtain ⟨C, W', hrun, hown, hbel⟩ : ∃ C W', (Builtin.append_ #[22, 3] 22 #[.slice none 0 0, .int .i64 n]).run Tryz.prog w = .ok (.slice (some ⟨w.heap.size, 0, none⟩) n C) W' ∧ W'.ownsRow w.heap.size 5 1 (.slice (some ⟨w.heap.size, 0, none⟩) 0 C) 0 [] ∧ Below w.heap.size w W' := by
      have hr := Lib.run_append_nil_zeros (P := Tryz.prog) w 22 3 22 5 i0 (.int .u8 0) .i64 .i64 Tryz.underlying22 Tryz.underlying3 hi hz0 n (by omega) (by omega) (by omega) (by rw [hz2]; omega)
      have hge := grownCap_ge w n 0 5
      have hle := grownCap_le_maxLen w n 0 5 (by unfold maxLen; omega)
      refine ⟨_, _, hr, ⟨rfl, .inr ⟨w.heap.size, _, _, rfl, Nat.le_refl _, heap_alloc_new w.drew _, Nat.zero_le _, hle, ?_, by simp⟩⟩, ?_⟩
      · rw [Array.size_append, size_zeroCells, size_zeroCells]
        simp [Value.cells]
        omega
      · exact (Below.refl _ _).drew.alloc (Nat.le_refl _) _
    have HR := hide hrun
    have HO := hide hown
    have HB := hide hbel
    clear hrun hown hbel
    go_enter Tryz.func78, Tryz.ntmps78
    go_wp2_with (at_builtin; refine Lib.wpList_append_run _ rfl _ _ 22 3 rfl _ _ rfl rfl _ _ (unhide HR) ?_)
    go_wp2_with fail
    go_ret
    exact ⟨_, C, by simp, unhide HO, unhide HB⟩

theorem flat_snoc2 (zss : List (List Int)) (k : Nat) (z : List Int) (h : zss[k]? = some z) : (zss.take (k + 1)).flatten = (zss.take k).flatten ++ z := by
  obtain ⟨hk, e⟩ := List.getElem?_eq_some_iff.1 h
  rw [List.take_succ_eq_append_getElem hk, List.flatten_append, e]
  simp

theorem flat_take (zss : List (List Int)) (k : Nat) : (zss.take k).flatten.length ≤ zss.flatten.length := by
  have : zss.flatten = (zss.take k).flatten ++ (zss.drop k).flatten := by rw [← List.flatten_append, List.take_append_drop]
  rw [this, List.length_append]
  omega

set_option maxRecDepth 100000 in
set_option maxHeartbeats 4000000 in
theorem concat_any (a : Option Addr) (len cap : Nat) (zss : List (List Int)) (w : World) (h : BsRow w a len zss) (hn : BsNil w a len) (hl : len ≤ 1048576) (hz : zss.flatten.length ≤ 1048576) :
    Calls Tryz.prog 67 #[.slice a len cap] w fun e w' => ∃ a' c', e = .returned (.slice a' zss.flatten.length c') ∧
      w'.ownsRow w.heap.size 5 1 (.slice a' zss.flatten.length c') zss.flatten.length (zss.flatten.map (Value.int .u8)) ∧ Below w.heap.size w w' := by
  obtain ⟨i0, hi, hz0, hz1, hz2⟩ := info_parts info5
  have hil := h.1
  have HROW := hide (fun (W : World) (hb : Below w.heap.size w W) => And.intro (h.below hb (Nat.le_refl _)) (hn.below hb (Nat.le_refl _)))
  have HTK := hide (flat_take zss)
  have HFL := hide (flat_snoc2 zss)
  have HL := hide hil
  clear h hn hil
  go_enter Tryz.func67, Tryz.ntmps67
  go_wp2_with fail
  go_loopw [3, 11] (fun q i wr => ∃ (k : Nat), k ≤ len ∧ i = .int .i64 k ∧ q = .int .i64 ((zss.take k).flatten.length : Nat) ∧ Below w.heap.size w wr) (fun _ i _ => len - (intOf i).toNat)
  case atStart => exact ⟨0, Nat.zero_le _, rfl, rfl, Below.refl _ _⟩
  case round =>
    obtain ⟨k, hk, rfl, rfl, hbr⟩ := hrel
    by_cases hlt : k < len
    · obtain ⟨z, hit⟩ : ∃ z, zss[k]? = some z := ⟨_, List.getElem?_eq_getElem (by rw [unhide HL]; exact hlt)⟩
      obtain ⟨hrow, hnil⟩ := (unhide HROW) wr hbr
      obtain ⟨b, off, rfl, _, hat⟩ := hrow.at (by omega)
      obtain ⟨s1, n1, d1, c0, r1⟩ := hat k z hit
      have hs := (unhide HFL) k z hit
      have hzl : z.length = n1 := r1.1
      have h1 := (unhide HTK) (k + 1)
      have hle : (zss.take (k + 1)).flatten.length = (zss.take k).flatten.length + n1 := by rw [hs, List.length_append, hzl]
      obtain ⟨m, hm⟩ : ∃ m, m = (zss.take k).flatten.length := ⟨_, rfl⟩
      rw [← hm] at hle ⊢
      have hmn : m + n1 ≤ 1048576 := by omega
      have HLE := hide hle
      have HB := hide hbr
      have k1 : (0 : Int) ≤ (k : Int) := by omega
      have k2 : (k : Int) < (len : Int) := by omega
      have k3 : decide ((m : Int) + (n1 : Int) < 0) = false := decide_eq_false (by omega)
      clear hs hzl h1 hle hm hbr hrow hnil hat r1 hit
      go_wp2_with fail
      go_roundw
      case rel => exact ⟨k + 1, by omega, by go_num, by rw [unhide HLE]; go_num, unhide HB⟩
      case measure => simp [intOf]; omega
    · obtain rfl : k = len := by omega
      have et : zss.take k = zss := List.take_of_length_le (by rw [unhide HL]; exact Nat.le_refl _)
      rw [et]
      obtain ⟨T, hT⟩ : ∃ T, T = zss.flatten.length := ⟨_, rfl⟩
      rw [← hT] at hz ⊢
      have HC := hide (grow_any T wr hz)
      have HB := hide hbr
      have HT := hide hT
      clear et hbr hT
      go_wp2_with fail
      refine (unhide HC).mono ?_
      rintro e w2 ⟨a2, c2, rfl, o2, b2⟩
      have B2 := (unhide HB).trans (b2.mono (unhide HB).size)
      have O2 : w2.ownsRow w.heap.size 5 1 (.slice a2 0 c2) 0 (([] : List Int).map (Value.int .u8)) := ownsRow_base o2 (unhide HB).size
      have HB2 := hide B2
      have HO2 := hide O2
      clear HC o2 b2 B2 O2 HB
      go_wp2_with fail
      go_loopw [6, 27] (fun s i wr => ∃ (j m : Nat) (ab : Option Addr) (cb : Nat), j ≤ k ∧ i = .int .i64 j ∧ m = (zss.take j).flatten.length ∧ s = .slice ab m cb ∧ wr.ownsRow w.heap.size 5 1 (.slice ab m cb) m ((zss.take j).flatten.map (Value.int .u8)) ∧ Below w.heap.size w wr) (fun _ i _ => k - (intOf i).toNat)
      case atStart => exact ⟨0, 0, _, _, Nat.zero_le _, rfl, rfl, rfl, unhide HO2, unhide HB2⟩
      case round =>
        obtain ⟨j, m, ab, cb, hj, rfl, hm, rfl, ob, hbr⟩ := hrel
        clear HO2 HB2
        by_cases hlt : j < k
        · obtain ⟨z, hit⟩ : ∃ z, zss[j]? = some z := ⟨_, List.getElem?_eq_getElem (by rw [unhide HL]; exact hlt)⟩
          obtain ⟨hrow, hnil⟩ := (unhide HROW) wr hbr
          obtain ⟨b, off, rfl, _, hat⟩ := hrow.at (by omega)
          obtain ⟨s1, n1, d1, c0, r1⟩ := hat j z hit
          obtain ⟨s1', n1', d1', c0', hnn⟩ := hnil b off rfl j hlt
          rw [c0] at c0'
          simp only [Option.some.injEq, Value.slice.injEq] at c0'
          obtain ⟨rfl, rfl, rfl⟩ := c0'
          have hs := (unhide HFL) j z hit
          have hzl : z.length = n1 := r1.1
          have h1 := (unhide HTK) (j + 1)
          have hle : (zss.take (j + 1)).flatten.length = m + n1 := by rw [hs, List.length_append, hzl, hm]
          have hmn : m + n1 ≤ 1048576 := by have := unhide HT; omega
          have HLE := hide hle
          have HS := hide hs
          have HM := hide hm
          have HR := hide r1
          have HNN := hide hnn
          generalize (zss.take j).flatten = L at ob HS HM
          have HOB := hide ob
          have HB := hide hbr
          have k1 : (0 : Int) ≤ (j : Int) := by omega
          have k2 : (j : Int) < (k : Int) := by omega
          clear hs hzl h1 hle hm hbr hrow hnil hat r1 hit hnn ob
          go_wp2_with (at_builtin; refine wpList_append_brow _ rfl _ _ 22 rfl w.heap.size i0 Tryz.underlying22 hi hz0 hz1 hz2 _ m L rfl (unhide HOB) s1 n1 d1 z rfl (unhide HR) (unhide HNN) (by omega) (unhide HB).size ?_)
          intro a3 c3 w3 o3 g3
          have B3 : Below w.heap.size w w3 := (unhide HB).grown g3 (unhide HB).size (fun g e => ((unhide HOB).lt g e).1)
          have HO3 := hide o3
          have HB3 := hide B3
          clear o3 B3 g3 HB HOB
          go_wp2_with fail
          go_roundw
          case rel => exact ⟨j + 1, m + n1, a3, c3, by omega, by go_num, (unhide HLE).symm, rfl, by rw [unhide HS, List.map_append]; exact unhide HO3, unhide HB3⟩
          case measure => simp [intOf]; omega
        · obtain rfl : j = k := by omega
          have et : zss.take j = zss := List.take_of_length_le (by rw [unhide HL]; exact Nat.le_refl _)
          rw [et] at hm ob
          have hTm : T = m := by rw [hm]; exact unhide HT
          subst hTm
          have HB := hide hbr
          have HOB := hide ob
          clear et hm ob hbr
          go_wp2_with fail
          go_ret
          rw [← unhide HT]
          exact ⟨ab, cb, rfl, unhide HOB, unhide HB⟩

end Go.Proofs.YtbncoiljklagkaaGreatDoor

/- What is proved here: what the program's markOf, SealOf and CommitOf answer: the code, and a seal or a commit in new memory. -/
namespace Go.Proofs.YtbncoiljklagkaaGreatDoor
open Go.RowKit
set_option linter.unusedVariables false
set_option maxRecDepth 100000

set_option maxRecDepth 100000 in
set_option maxHeartbeats 2000000 in
theorem markOf_any (a : Option Addr) (len cap : Nat) (zss : List (List Int)) (w : World) (h : BsRow w a len zss) (hn : BsNil w a len) (hl : len ≤ 8) (hz : zss.flatten.length ≤ 1200) (hp : 0 < zss.flatten.length) (hv : Laid w) :
    Calls Tryz.prog 57 #[.slice a len cap] w fun e w' => ∃ a' c', e = .returned (.slice a' 4 c') ∧
      w'.ownsRow w.heap.size 5 1 (.slice a' 4 c') 4 (((kcBytes zss.flatten).take 4).map (Value.int .u8)) ∧ Below w.heap.size w w' := by
  have hfl := fldB1
  have hby : ∀ x ∈ zss.flatten, 0 ≤ x ∧ x ≤ 255 := fun x hx => by obtain ⟨z, hz, hxz⟩ := List.mem_flatten.1 hx; exact h.bytes z hz x hxz
  have D1 := hide (concat_any a len cap zss w h hn (by omega) (by omega))
  have HKC : Hid (∀ (W' : World) (g c : Nat), Below w.heap.size w W' → BRow W' (some ⟨g, 0, none⟩) zss.flatten.length zss.flatten → Calls Tryz.prog 66 #[.slice (some ⟨g, 0, none⟩) zss.flatten.length c] W' fun e w' => ∃ g' c', e = .returned (.agg #[.int .i64 0, .slice (some ⟨g', 0, none⟩) 32 c']) ∧ w'.ownsRow W'.heap.size 5 1 (.slice (some ⟨g', 0, none⟩) 32 c') 32 ((kcBytes zss.flatten).map (Value.int .u8)) ∧ Below W'.heap.size W' w') := fun W' g c hb hr => by
    have K := implKc_any (some ⟨g, 0, none⟩) zss.flatten.length c zss.flatten W' hr (fun e => by cases e) (by omega) (hv.below hb (Nat.le_refl _))
    have e1 : kcCode zss.flatten = 0 := if_neg (by omega)
    have e2 : (kcBytes zss.flatten).length = 32 := by unfold kcBytes; rw [if_neg (by omega), hashOf_length]
    rw [e1, e2] at K
    refine K.mono ?_
    rintro e w' ⟨a', c', rfl, ho, hb'⟩
    obtain ⟨g', c'', he⟩ := own_some ho (by omega)
    simp only [Value.slice.injEq] at he
    obtain ⟨rfl, -, rfl⟩ := he
    exact ⟨g', c', rfl, ho, hb'⟩
  have HRK := hide (fun x hx => kcBytes_range _ hby x (List.mem_of_mem_take (i := 4) hx))
  have HRG := hide hby
  clear h hn hby hv
  generalize kcBytes zss.flatten = KB at HKC HRK ⊢
  generalize zss.flatten = FL at D1 HKC HRG hz hp
  go_enter Tryz.func57, Tryz.ntmps57
  go_wp2_with fail
  refine (unhide D1).mono ?_
  rintro e w2 ⟨a2, c2, rfl, o2, b2⟩
  obtain ⟨g2, c', he⟩ := own_some o2 hp
  simp only [Value.slice.injEq] at he
  obtain ⟨rfl, -, rfl⟩ := he
  have D2 := hide ((unhide HKC) w2 g2 c2 b2 (BRow.own o2 (unhide HRG)))
  have HB2 := hide b2
  clear D1 o2 b2 HKC
  go_wp2_with fail
  refine (unhide D2).mono ?_
  rintro e w3 ⟨g3, c3, rfl, o3, b3⟩
  have HB3 := hide ((unhide HB2).trans (b3.mono (unhide HB2).size))
  have o4 := own_take o3 (m := 4) (by omega)
  rw [← List.map_take] at o4
  have D3 := hide (clone_any (some ⟨g3, 0, none⟩) 4 c3 (KB.take 4) w3 (BRow.own o4 (unhide HRK)) (by omega))
  have hc3 : 32 ≤ c3 := by
    rcases o3.2 with ⟨h', _⟩ | ⟨g, cap', cur, h', _, _, hnc, _⟩
    · simp at h'
    · simp only [Value.slice.injEq] at h'; rw [h'.2.2]; exact hnc
  clear D2 o3 o4 b3
  go_wp2_with fail
  refine (unhide D3).mono ?_
  rintro e w5 ⟨a5, c5, rfl, o5, b5⟩
  have HB5 := hide ((unhide HB3).trans (b5.mono (unhide HB3).size))
  have HO5 := hide (ownsRow_base o5 (unhide HB3).size)
  clear D3 o5 b5
  go_wp2_with fail
  go_ret
  exact ⟨a5, c5, rfl, unhide HO5, unhide HB5⟩

/-- Two slices of bytes in a block of their own. -/
theorem two_row (w : World) (a : Option Addr) (n c : Nat) (xs : List Int) (b : Option Addr) (m d : Nat) (ys : List Int) (T : TypeId) (h : BRow w a n xs) (k : BRow w b m ys) (hn : n ≤ 1048576) (hm : m ≤ 1048576) (hc : a = none → c = 0) (hd : b = none → d = 0) :
    BsRow (w.alloc (.cells #[.slice a n c, .slice b m d] T)) (some ⟨w.heap.size, 0, none⟩) 2 [xs, ys] ∧ BsNil (w.alloc (.cells #[.slice a n c, .slice b m d] T)) (some ⟨w.heap.size, 0, none⟩) 2 := by
  have ba := below_alloc w (.cells #[.slice a n c, .slice b m d] T)
  have h' := h.below ba (Nat.le_refl _)
  have k' := k.below ba (Nat.le_refl _)
  have c0 : ∀ i v, [Value.slice a n c, .slice b m d][i]? = some v → (w.alloc (.cells #[.slice a n c, .slice b m d] T)).cell? ⟨w.heap.size, i, none⟩ = some v := fun i v hv => by rw [(SBlk.new w #[.slice a n c, .slice b m d] T).cell]; exact hv
  refine ⟨⟨rfl, fun z hz => ?_, fun _ => ⟨_, _, rfl, fun i z hi => ?_⟩⟩, fun b' off' e i hi => ?_⟩
  · have := h.1; have := k.1; unfold maxLen
    simp at hz; rcases hz with rfl | rfl <;> omega
  · match i, hi with
    | 0, hi => simp at hi; subst hi; exact ⟨_, _, _, c0 0 _ rfl, h'⟩
    | 1, hi => simp at hi; subst hi; exact ⟨_, _, _, c0 1 _ rfl, k'⟩
  · simp only [Option.some.injEq, Addr.mk.injEq, and_true] at e
    obtain ⟨rfl, rfl⟩ := e
    match i, hi with
    | 0, _ => exact ⟨_, _, _, c0 0 _ rfl, hc⟩
    | 1, _ => exact ⟨_, _, _, c0 1 _ rfl, hd⟩

theorem three_row (w : World) (a : Option Addr) (n c : Nat) (xs : List Int) (b : Option Addr) (m d : Nat) (ys : List Int) (b3 : Option Addr) (m3 d3 : Nat) (us : List Int) (T : TypeId) (h : BRow w a n xs) (k : BRow w b m ys) (k3 : BRow w b3 m3 us) (hn : n ≤ 1048576) (hm : m ≤ 1048576) (hm3 : m3 ≤ 1048576) (hc : a = none → c = 0) (hd : b = none → d = 0) (hd3 : b3 = none → d3 = 0) :
    BsRow (w.alloc (.cells #[.slice a n c, .slice b m d, .slice b3 m3 d3] T)) (some ⟨w.heap.size, 0, none⟩) 3 [xs, ys, us] ∧ BsNil (w.alloc (.cells #[.slice a n c, .slice b m d, .slice b3 m3 d3] T)) (some ⟨w.heap.size, 0, none⟩) 3 := by
  have ba := below_alloc w (.cells #[.slice a n c, .slice b m d, .slice b3 m3 d3] T)
  have h' := h.below ba (Nat.le_refl _)
  have k' := k.below ba (Nat.le_refl _)
  have k3' := k3.below ba (Nat.le_refl _)
  have c0 : ∀ i v, [Value.slice a n c, .slice b m d, .slice b3 m3 d3][i]? = some v → (w.alloc (.cells #[.slice a n c, .slice b m d, .slice b3 m3 d3] T)).cell? ⟨w.heap.size, i, none⟩ = some v := fun i v hv => by rw [(SBlk.new w #[.slice a n c, .slice b m d, .slice b3 m3 d3] T).cell]; exact hv
  refine ⟨⟨rfl, fun z hz => ?_, fun _ => ⟨_, _, rfl, fun i z hi => ?_⟩⟩, fun b' off' e i hi => ?_⟩
  · have := h.1; have := k.1; have := k3.1; unfold maxLen
    simp at hz; rcases hz with rfl | rfl | rfl <;> omega
  · match i, hi with
    | 0, hi => simp at hi; subst hi; exact ⟨_, _, _, c0 0 _ rfl, h'⟩
    | 1, hi => simp at hi; subst hi; exact ⟨_, _, _, c0 1 _ rfl, k'⟩
    | 2, hi => simp at hi; subst hi; exact ⟨_, _, _, c0 2 _ rfl, k3'⟩
  · simp only [Option.some.injEq, Addr.mk.injEq, and_true] at e
    obtain ⟨rfl, rfl⟩ := e
    match i, hi with
    | 0, _ => exact ⟨_, _, _, c0 0 _ rfl, hc⟩
    | 1, _ => exact ⟨_, _, _, c0 1 _ rfl, hd⟩
    | 2, _ => exact ⟨_, _, _, c0 2 _ rfl, hd3⟩

end Go.Proofs.YtbncoiljklagkaaGreatDoor

/- What is proved here: what the program's SealOf answers: the code, and a seal in new memory. -/
namespace Go.Proofs.YtbncoiljklagkaaGreatDoor
open Go.RowKit
set_option linter.unusedVariables false
set_option maxRecDepth 100000

set_option maxRecDepth 100000 in
set_option maxHeartbeats 2000000 in
theorem implSeal_any (a : Option Addr) (n c : Nat) (b : Option Addr) (m d : Nat) (xs ys : List Int) (w : World) (h : BRow w a n xs) (k : BRow w b m ys) (hc : a = none → c = 0) (hd : b = none → d = 0) (hn : n ≤ 1048576) (hm : m ≤ 1048576) (hv : Laid w) :
    Calls Tryz.prog 40 #[.slice a n c, .slice b m d] w fun e w' => ∃ a' c', e = .returned (.agg #[.int .i64 (slCode xs ys), .slice a' (slBytes xs ys).length c']) ∧
      w'.ownsRow w.heap.size 5 1 (.slice a' (slBytes xs ys).length c') (slBytes xs ys).length ((slBytes xs ys).map (Value.int .u8)) ∧ Below w.heap.size w w' := by
  have hxl := h.1
  have hyl := k.1
  have HA := hide (fun W => isAddr_any a n c W)
  have HH := hide (fun W => isHash_any b m d W)
  have kr := SBlk.new w #[.int .i64 0, .slice none 0 0] 60
  have b1 := below_alloc w (.cells #[.int .i64 0, .slice none 0 0] 60)
  have z1 : (w.alloc (.cells #[.int .i64 0, .slice none 0 0] 60)).heap.size = w.heap.size + 1 := by simp
  obtain ⟨W1, e1⟩ : ∃ W1, w.alloc (.cells #[.int .i64 0, .slice none 0 0] 60) = W1 := ⟨_, rfl⟩
  rw [e1] at kr b1 z1
  have r0 := kr.cell 0
  have r1 := kr.cell 1
  have f0 := kr.free 0
  have f1 := kr.free 1
  simp only [List.getElem?_cons_zero, List.getElem?_cons_succ] at r0 r1
  have HB1 := hide b1
  have E1 := hide e1
  clear e1
  by_cases h1 : n = 4
  · by_cases h2 : m = 32
    · subst h1 h2
      have e1 : slCode xs ys = 0 := if_pos ⟨hxl, hyl⟩
      have e2 : slBytes xs ys = sealL xs ys := if_pos ⟨hxl, hyl⟩
      have e3 := seal4 hxl hyl
      have hz2 : (W1.alloc (.cells #[.slice a 4 c, .slice b 32 d] 22)).heap.size = w.heap.size + 2 := by simp; omega
      have D : Hid (Calls Tryz.prog 57 #[.slice (some ⟨w.heap.size + 1, 0, none⟩) 2 2] (W1.alloc (.cells #[.slice a 4 c, .slice b 32 d] 22)) fun e w' => ∃ a' c', e = .returned (.slice a' 4 c') ∧ w'.ownsRow (w.heap.size + 2) 5 1 (.slice a' 4 c') 4 ((sealL xs ys).map (Value.int .u8)) ∧ Below (w.heap.size + 1) W1 w') := by
        have b2 := below_alloc W1 (.cells #[.slice a 4 c, .slice b 32 d] 22)
        obtain ⟨R, N⟩ := two_row W1 a 4 c xs b 32 d ys 22 (h.below b1 (Nat.le_refl _)) (k.below b1 (Nat.le_refl _)) hn hm hc hd
        rw [z1] at R N
        have ef : [xs, ys].flatten = xs ++ ys := by simp
        have K := markOf_any _ 2 2 [xs, ys] _ R N (by omega) (by rw [ef]; simp; omega) (by rw [ef]; simp; omega) ((hv.below b1 (Nat.le_refl _)).below b2 (Nat.le_refl _))
        rw [ef] at K
        rw [hz2] at K
        refine K.mono ?_
        rintro e w' ⟨a', c', rfl, ho, hb⟩
        exact ⟨a', c', rfl, ho, by rw [z1] at b2; exact b2.trans (hb.mono (by omega))⟩
      have HK := hide (fun (W' : World) (hb : Below (w.heap.size + 1) W1 W') => kr.below hb (by omega))
      rw [e1, e2, e3]
      clear e1 e2 e3 h k hv hxl hyl hc hd kr r0 r1 f0 f1 b1 hz2
      generalize sealL xs ys = SL at D ⊢
      go_enter Tryz.func40, Tryz.ntmps40
      go_upto_region 1 with fail
      rw [unhide E1]
      clear E1
      go_wp2_with fail
      refine ((unhide HA) _).mono ?_
      rintro e w' ⟨rfl, rfl⟩
      go_wp2_with fail
      refine ((unhide HH) _).mono ?_
      rintro e w' ⟨rfl, rfl⟩
      go_wp2_with fail
      refine (unhide D).mono ?_
      rintro e w3 ⟨a3, c3, rfl, o3, b3⟩
      have kr3 := (unhide HK) w3 b3
      have r0 := kr3.cell 0
      have r1 := kr3.cell 1
      have f0 := kr3.free 0
      have f1 := kr3.free 1
      simp only [List.getElem?_cons_zero, List.getElem?_cons_succ] at r0 r1
      have HB3 := hide ((unhide HB1).trans (b3.mono (by omega)))
      have HO3 := hide o3
      clear kr3 o3 b3 D HK
      go_wp2_with fail
      refine bodyPost_ret (v := .agg #[.int .i64 0, .slice a3 4 c3]) (by simp [results, Tryz.results40, go_sem, r0, r1]) rfl ⟨a3, c3, rfl, ?_, ?_⟩
      · exact ownsRow_base (ownsRow_setCell_below (ownsRow_setCell_below (unhide HO3) (by show w.heap.size < w.heap.size + 2; omega) _) (by show w.heap.size < w.heap.size + 2; omega) _) (by omega)
      · exact ((unhide HB3).setCell (p := ⟨w.heap.size, _, none⟩) (by show w.heap.size ≤ w.heap.size; omega) _).setCell (p := ⟨w.heap.size, _, none⟩) (by show w.heap.size ≤ w.heap.size; omega) _
    · have e1 : slCode xs ys = 1 := if_neg (fun q => h2 (by omega))
      have e2 : slBytes xs ys = [] := if_neg (fun q => h2 (by omega))
      have q1 : (((n : Nat) : Int) == 4) = true := by simp; omega
      have q2 : (((m : Nat) : Int) == 32) = false := by simp; omega
      simp only [q1] at HA
      simp only [q2] at HH
      rw [e1, e2]
      clear e1 e2 h k hv hxl hyl hc hd kr b1 q1 q2 h1 h2
      go_enter Tryz.func40, Tryz.ntmps40
      go_upto_region 1 with fail
      rw [unhide E1]
      clear E1
      go_wp2_with fail
      refine ((unhide HA) _).mono ?_
      rintro e w' ⟨rfl, rfl⟩
      go_wp2_with fail
      refine ((unhide HH) _).mono ?_
      rintro e w' ⟨rfl, rfl⟩
      go_wp2_with fail
      refine bodyPost_ret (v := .agg #[.int .i64 1, .slice none 0 0]) (by simp [results, Tryz.results40, go_sem, r0, r1]) rfl ⟨none, 0, rfl, World.ownsRow_nil _ _ _ _, ?_⟩
      exact ((unhide HB1).setCell (p := ⟨w.heap.size, _, none⟩) (by show w.heap.size ≤ w.heap.size; omega) _).setCell (p := ⟨w.heap.size, _, none⟩) (by show w.heap.size ≤ w.heap.size; omega) _
  · have e1 : slCode xs ys = 1 := if_neg (fun q => h1 (by omega))
    have e2 : slBytes xs ys = [] := if_neg (fun q => h1 (by omega))
    have q1 : (((n : Nat) : Int) == 4) = false := by simp; omega
    simp only [q1] at HA
    rw [e1, e2]
    clear e1 e2 h k hv hxl hyl hc hd kr b1 q1 h1
    go_enter Tryz.func40, Tryz.ntmps40
    go_upto_region 1 with fail
    rw [unhide E1]
    clear E1
    go_wp2_with fail
    refine ((unhide HA) _).mono ?_
    rintro e w' ⟨rfl, rfl⟩
    go_wp2_with fail
    refine bodyPost_ret (v := .agg #[.int .i64 1, .slice none 0 0]) (by simp [results, Tryz.results40, go_sem, r0, r1]) rfl ⟨none, 0, rfl, World.ownsRow_nil _ _ _ _, ?_⟩
    exact ((unhide HB1).setCell (p := ⟨w.heap.size, _, none⟩) (by show w.heap.size ≤ w.heap.size; omega) _).setCell (p := ⟨w.heap.size, _, none⟩) (by show w.heap.size ≤ w.heap.size; omega) _

end Go.Proofs.YtbncoiljklagkaaGreatDoor

/- What is proved here: what the program's sealFor answers: the seal of a header without a fault. -/
namespace Go.Proofs.YtbncoiljklagkaaGreatDoor
open Go.RowKit
set_option linter.unusedVariables false
set_option maxRecDepth 100000

/-- The seal of a header. -/
def sealH (h : Hd) : List Int := sealL h.g (kcBytes (packL (noK (noE h))))

set_option maxHeartbeats 8000000 in
theorem sealFor_any (x : HS) (h : Hd) (w : World) (o : HOk w x h) (nn : HNil w x) (m : HSm h) (hv : Laid w) (hf : hdFlt h = 0) :
    Calls Tryz.prog 21 #[.agg (hvals x h)] w fun e w' => ∃ a c, e = .returned (.slice a 4 c) ∧
      w'.ownsRow w.heap.size 5 1 (.slice a 4 c) 4 ((sealH h).map (Value.int .u8)) ∧ Below w.heap.size w w' := by
  have hfl := fldB1
  have kb := SBlk.new w (hvals x h) 27
  have bb := below_alloc w (.cells (hvals x h) 27)
  obtain ⟨W0, eb⟩ : ∃ W0, w.alloc (.cells (hvals x h) 27) = W0 := ⟨_, rfl⟩
  rw [eb] at kb bb
  have HRR : Hid (∀ W, Below W0.heap.size W0 W → (W.cell? ⟨w.heap.size, 0, none⟩ = some (.slice x.p.a x.p.n x.p.c) ∧ W.cell? ⟨w.heap.size, 1, none⟩ = some (.int .i64 h.n1) ∧ W.cell? ⟨w.heap.size, 2, none⟩ = some (.int .i64 h.n2) ∧ W.cell? ⟨w.heap.size, 3, none⟩ = some (.int .i64 h.n3) ∧ W.cell? ⟨w.heap.size, 4, none⟩ = some (.slice x.t.a x.t.n x.t.c) ∧ W.cell? ⟨w.heap.size, 5, none⟩ = some (.int .i64 h.n5) ∧ W.cell? ⟨w.heap.size, 6, none⟩ = some (.slice x.s.a x.s.n x.s.c) ∧ W.cell? ⟨w.heap.size, 7, none⟩ = some (.slice x.r.a x.r.n x.r.c) ∧ W.cell? ⟨w.heap.size, 8, none⟩ = some (.slice x.g.a x.g.n x.g.c) ∧ W.cell? ⟨w.heap.size, 9, none⟩ = some (.slice x.e.a x.e.n x.e.c) ∧ W.cell? ⟨w.heap.size, 10, none⟩ = some (.slice x.k.a x.k.n x.k.c))) := fun W hb => hcells (kb.below hb kb.lt)
  have HSH : Hid (∀ W, Below W0.heap.size W0 W → Calls Tryz.prog 41 #[.agg (hvals x h)] W fun e w' => ∃ a c, e = .returned (.agg #[.int .i64 0, .slice a 32 c]) ∧ (a = none → c = 0) ∧ BRow w' a 32 (kcBytes (packL (noK (noE h)))) ∧ Below W0.heap.size W0 w') := fun W hb => by
    have b1 := bb.trans (hb.mono bb.size)
    have K := implSealHash_any x h W (o.below b1 (Nat.le_refl _)) (nn.below b1 (Nat.le_refl _)) m (hv.below b1 (Nat.le_refl _))
    have e1 : shBytes h = kcBytes (packL (noK (noE h))) := if_pos hf
    have e2 : (kcBytes (packL (noK (noE h)))).length = 32 := kcBytes_good (packL_le (hdFlt_noK (hdFlt_noE hf)))
    rw [hf, e1, e2] at K
    refine K.mono ?_
    rintro e w' ⟨a, c, rfl, ho, hb'⟩
    exact ⟨a, c, rfl, own_cap ho, BRow.own2 ho (kcBytes_range _ (packL_rng (hdFlt_noK (hdFlt_noE hf)) o.noE.noK)), hb.trans (hb'.mono hb.size)⟩
  have HSO : Hid (∀ W a c, Below W0.heap.size W0 W → (a = none → c = 0) → BRow W a 32 (kcBytes (packL (noK (noE h)))) → Calls Tryz.prog 40 #[.slice x.g.a x.g.n x.g.c, .slice a 32 c] W fun e w' => ∃ a' c', e = .returned (.agg #[.int .i64 0, .slice a' 4 c']) ∧ w'.ownsRow w.heap.size 5 1 (.slice a' 4 c') 4 ((sealH h).map (Value.int .u8)) ∧ Below W0.heap.size W0 w') := fun W a c hb hc hr => by
    have b1 := bb.trans (hb.mono bb.size)
    have g4 : h.g.length = 4 := (good_of hf).g
    have e2 : (kcBytes (packL (noK (noE h)))).length = 32 := kcBytes_good (packL_le (hdFlt_noK (hdFlt_noE hf)))
    have g5 := o.g.1
    have K := implSeal_any x.g.a x.g.n x.g.c a 32 c h.g (kcBytes (packL (noK (noE h)))) W (o.g.below b1 (Nat.le_refl _)) hr nn.g hc (by omega) (by omega) (hv.below b1 (Nat.le_refl _))
    have e3 : slCode h.g (kcBytes (packL (noK (noE h)))) = 0 := if_pos ⟨g4, e2⟩
    have e4 : slBytes h.g (kcBytes (packL (noK (noE h)))) = sealH h := if_pos ⟨g4, e2⟩
    have e5 : (sealH h).length = 4 := seal4 g4 e2
    rw [e3, e4, e5] at K
    refine K.mono ?_
    rintro e w' ⟨a', c', rfl, ho, hb'⟩
    exact ⟨a', c', rfl, ownsRow_base ho b1.size, hb.trans (hb'.mono hb.size)⟩
  have HBB := hide bb
  have EB := hide eb
  clear eb o nn m hv hf kb bb
  generalize kcBytes (packL (noK (noE h))) = KB at HSH HSO
  generalize sealH h = SL at HSO ⊢
  unfold hvals at EB HSH ⊢
  go_enter Tryz.func21, Tryz.ntmps21
  go_upto_region 1 with fail
  rw [unhide EB]
  clear EB
  go_region_held3 (fun W => (W.cell? ⟨w.heap.size, 0, none⟩ = some (.slice x.p.a x.p.n x.p.c) ∧ W.cell? ⟨w.heap.size, 1, none⟩ = some (.int .i64 h.n1) ∧ W.cell? ⟨w.heap.size, 2, none⟩ = some (.int .i64 h.n2) ∧ W.cell? ⟨w.heap.size, 3, none⟩ = some (.int .i64 h.n3) ∧ W.cell? ⟨w.heap.size, 4, none⟩ = some (.slice x.t.a x.t.n x.t.c) ∧ W.cell? ⟨w.heap.size, 5, none⟩ = some (.int .i64 h.n5) ∧ W.cell? ⟨w.heap.size, 6, none⟩ = some (.slice x.s.a x.s.n x.s.c) ∧ W.cell? ⟨w.heap.size, 7, none⟩ = some (.slice x.r.a x.r.n x.r.c) ∧ W.cell? ⟨w.heap.size, 8, none⟩ = some (.slice x.g.a x.g.n x.g.c) ∧ W.cell? ⟨w.heap.size, 9, none⟩ = some (.slice x.e.a x.e.n x.e.c) ∧ W.cell? ⟨w.heap.size, 10, none⟩ = some (.slice x.k.a x.k.n x.k.c)))
    (exact (unhide HRR) _ (by first | assumption | exact (Below.refl W0.heap.size W0).drew | exact below_drewN (Below.refl W0.heap.size W0) _ | exact below_drewN (by assumption) _))
    (first
      | (go_at_call 41; refine ((unhide HSH) _ (by first | exact (Below.refl W0.heap.size W0).drew | exact below_drewN (Below.refl W0.heap.size W0) _)).mono ?_; rintro e w1 ⟨a1, c1, rfl, hc1, r1, K1⟩)
      | (go_at_call 40; refine ((unhide HSO) _ a1 c1 K1 hc1 r1).mono ?_; rintro e w2 ⟨a2, c2, rfl, o2, K2⟩))
  all_goals
    have HB2 := hide ((unhide HBB).trans (K2.mono (unhide HBB).size))
    have HO2 := hide o2
    clear HRR HSH HSO K1 K2 r1 hc1 o2
    go_wp2_with fail
    go_ret
    exact ⟨a2, c2, rfl, unhide HO2, unhide HB2⟩

end Go.Proofs.YtbncoiljklagkaaGreatDoor

/- What is proved here: what the program's SignHeader answers: the fault of a header, or the header with its seal and without commits, in memory of its own. -/
namespace Go.Proofs.YtbncoiljklagkaaGreatDoor
open Go.RowKit
set_option linter.unusedVariables false
set_option maxRecDepth 100000

set_option maxHeartbeats 8000000 in
theorem implSign_any (x : HS) (h : Hd) (w : World) (o : HOk w x h) (nn : HNil w x) (m : HSm h) (hv : Laid w) :
    Calls Tryz.prog 7 #[.agg (hvals x h)] w fun e w' => ∃ (y : HS) (d : Nat → Nat), e = .returned (.agg (hrvals (hdFlt h) y (snH h))) ∧ CH w' w.heap.size d y (snH h) ∧ Below w.heap.size w w' := by
  have kb := SBlk.new w (hvals x h) 27
  have bb := below_alloc w (.cells (hvals x h) 27)
  have zb : (w.alloc (.cells (hvals x h) 27)).heap.size = w.heap.size + 1 := by simp
  obtain ⟨Wa, ea⟩ : ∃ W, w.alloc (.cells (hvals x h) 27) = W := ⟨_, rfl⟩
  rw [ea] at kb bb zb
  have kr := SBlk.new Wa #[.int .i64 0, .slice none 0 0, .int .i64 0, .int .i64 0, .int .i64 0, .slice none 0 0, .int .i64 0, .slice none 0 0, .slice none 0 0, .slice none 0 0, .slice none 0 0, .slice none 0 0] 29
  replace kb := kb.next (.cells #[.int .i64 0, .slice none 0 0, .int .i64 0, .int .i64 0, .int .i64 0, .slice none 0 0, .int .i64 0, .slice none 0 0, .slice none 0 0, .slice none 0 0, .slice none 0 0, .slice none 0 0] 29)
  replace bb := bb.trans ((below_alloc Wa (.cells #[.int .i64 0, .slice none 0 0, .int .i64 0, .int .i64 0, .int .i64 0, .slice none 0 0, .int .i64 0, .slice none 0 0, .slice none 0 0, .slice none 0 0, .slice none 0 0, .slice none 0 0] 29)).mono bb.size)
  have zc : (Wa.alloc (.cells #[.int .i64 0, .slice none 0 0, .int .i64 0, .int .i64 0, .int .i64 0, .slice none 0 0, .int .i64 0, .slice none 0 0, .slice none 0 0, .slice none 0 0, .slice none 0 0, .slice none 0 0] 29)).heap.size = w.heap.size + 2 := by simp; omega
  rw [zb] at kr
  obtain ⟨Wb, eb⟩ : ∃ W, Wa.alloc (.cells #[.int .i64 0, .slice none 0 0, .int .i64 0, .int .i64 0, .int .i64 0, .slice none 0 0, .int .i64 0, .slice none 0 0, .slice none 0 0, .slice none 0 0, .slice none 0 0, .slice none 0 0] 29) = W := ⟨_, rfl⟩
  rw [eb] at kr kb bb zc
  obtain ⟨W1, e1⟩ : ∃ W, Wb = W := ⟨_, rfl⟩
  rw [e1] at kr kb bb zc
  have z1 := zc
  have D1 := hide (implHeaderFault_any x h W1 (o.below bb (Nat.le_refl _)) m)
  obtain ⟨x0, x1, x2, x3, x4, x5, x6, x7, x8, x9, x10⟩ := hcells kb
  have HCP : Hid (∀ W, Below w.heap.size w W → Calls Tryz.prog 20 #[.agg (hvals x h)] W fun e w' => ∃ (y : HS) (d : Nat → Nat), e = .returned (.agg (hvals y h)) ∧ CH w' (W.heap.size + 2) d y h ∧ Below W.heap.size W w') := fun W hb => copyHeader_any x h W (o.below hb (Nat.le_refl _)) m
  have HSF : Hid (hdFlt h = 0 → ∀ W, Below w.heap.size w W → Calls Tryz.prog 21 #[.agg (hvals x h)] W fun e w' => ∃ a c, e = .returned (.slice a 4 c) ∧ w'.ownsRow W.heap.size 5 1 (.slice a 4 c) 4 ((seal0 h).map (Value.int .u8)) ∧ Below W.heap.size W w') := fun hf W hb => sealFor_any x h W (o.below hb (Nat.le_refl _)) (nn.below hb (Nat.le_refl _)) m (hv.below hb (Nat.le_refl _)) hf
  have HSG : Hid (hdFlt h = 0 → snH h = signH h ∧ (seal0 h).length = 4 ∧ ∀ y ∈ seal0 h, 0 ≤ y ∧ y ≤ 255) := fun hf => ⟨if_pos hf, seal0_len hf, seal0_rng hf o⟩
  have HS0 : Hid (hdFlt h ≠ 0 → snH h = hd0) := fun hf => if_neg hf
  have HB1 := hide bb
  have EA := hide ea
  have EB := hide (eb.trans e1)
  clear ea eb e1 o nn m hv bb zb zc
  generalize hdFlt h = q at D1 HSF HSG HS0 ⊢
  have HVX : Hid (hvals x h = #[.slice x.p.a x.p.n x.p.c, .int .i64 h.n1, .int .i64 h.n2, .int .i64 h.n3, .slice x.t.a x.t.n x.t.c, .int .i64 h.n5, .slice x.s.a x.s.n x.s.c, .slice x.r.a x.r.n x.r.c, .slice x.g.a x.g.n x.g.c, .slice x.e.a x.e.n x.e.c, .slice x.k.a x.k.n x.k.c]) := rfl
  unfold hvals at EA D1 HCP HSF ⊢
  go_enter Tryz.func7, Tryz.ntmps7
  go_upto_region 1 with fail
  rw [unhide EA, unhide EB]
  clear EA EB
  go_wp2_with fail
  refine (unhide D1).mono ?_
  rintro e w2 ⟨rfl, b2⟩
  replace kb := kb.below b2 kb.lt
  replace kr := kr.below b2 kr.lt
  have z2 : w.heap.size + 2 ≤ w2.heap.size := by have := b2.size; omega
  have K2 := (unhide HB1).trans (b2.mono (unhide HB1).size)
  clear b2 x0 x1 x2 x3 x4 x5 x6 x7 x8 x9 x10 D1 HB1
  by_cases hq : q = 0
  · subst hq
    obtain ⟨esn, sl4, slr⟩ := (unhide HSG) (by first | exact rfl | trivial)
    have HSF2 := hide ((unhide HSF) (by first | exact rfl | trivial))
    have HESN := hide esn
    have HSR := hide slr
    have HS4 := hide sl4
    clear HSG HS0 HSF esn slr sl4
    obtain ⟨x0, x1, x2, x3, x4, x5, x6, x7, x8, x9, x10⟩ := hcells kb
    have D3 := hide ((unhide HCP) w2 K2)
    have HK2 := hide K2
    have HKB := hide kb
    have HKR := hide kr
    clear kb kr K2 HCP
    go_wp2_with fail
    refine (unhide D3).mono ?_
    rintro e w3 ⟨y, d, rfl, ch3, b3⟩
    have kb := (unhide HKB).below b3 (unhide HKB).lt
    have kr := (unhide HKR).below b3 (unhide HKR).lt
    have K3 := (unhide HK2).trans (b3.mono (unhide HK2).size)
    have z3 : w.heap.size + 2 ≤ w3.heap.size := Nat.le_trans z2 b3.size
    obtain ⟨d1, hd1⟩ : ∃ d1 : Nat → Nat, d1 = fun g => if w3.heap.size ≤ g then 9 else d g := ⟨_, rfl⟩
    replace ch3 := (ch3.base (B' := w.heap.size + 2) (by omega)).recol (d' := d1) (fun g hg => by rw [hd1]; exact if_neg (by omega))
    have d9 : d1 w3.heap.size = 9 := by rw [hd1]; exact if_pos (Nat.le_refl _)
    have ba := below_alloc w3 (.cells (hvals y h) 27)
    have ks4 := SBlk.new w3 (hvals y h) 27
    have kb4 := kb.below ba kb.lt
    have kr4 := kr.below ba kr.lt
    have ch4 := ch3.below ba (Nat.le_refl _)
    have K4 := K3.trans (ba.mono K3.size)
    obtain ⟨W4, e4⟩ : ∃ W, w3.alloc (.cells (hvals y h) 27) = W := ⟨_, rfl⟩
    rw [e4] at kb4 kr4 ks4 K4 ch4
    have z4 : w.heap.size + 2 ≤ W4.heap.size := Nat.le_trans z3 (Nat.le_of_lt ks4.lt)
    have hgl : w3.heap.size < W4.heap.size := ks4.lt
    have E4 := hide e4
    have HKB := hide kb4
    have HKR := hide kr4
    have HCH := hide ch4
    have HK4 := hide K4
    clear e4 kb kr K3 ch3 kb4 kr4 K4 ch4 hd1 ba b3 D3 x0 x1 x2 x3 x4 x5 x6 x7 x8 x9 x10
    unfold hvals at E4 ks4
    have HKS := hide ks4
    clear ks4

    go_upto_region 5 with fail
    rw [unhide E4]
    clear E4
    obtain ⟨gs, egs⟩ : ∃ g, g = w3.heap.size := ⟨_, rfl⟩
    rw [← egs] at HKS d9 z3 hgl ⊢
    clear egs
    obtain ⟨x0, x1, x2, x3, x4, x5, x6, x7, x8, x9, x10⟩ := hcells (unhide HKB)
    have D5 := hide ((unhide HSF2) W4 (unhide HK4))
    go_wp2_with fail
    refine (unhide D5).mono ?_
    rintro e w5 ⟨a5, c5, rfl, o5, b5⟩
    have kr := (unhide HKR).below b5 (unhide HKR).lt
    have ks := (unhide HKS).below b5 (unhide HKS).lt
    have K5 := (unhide HK4).trans (b5.mono (unhide HK4).size)
    have z5 : w.heap.size + 2 ≤ w5.heap.size := Nat.le_trans z4 b5.size
    obtain ⟨d', hd'⟩ : ∃ d' : Nat → Nat, d' = fun g => if W4.heap.size ≤ g then 4 else d1 g := ⟨_, rfl⟩
    have ce : CB w5 (w.heap.size + 2) d' 4 ⟨a5, 4, c5⟩ (seal0 h) := by rw [hd']; exact CB.new (unhide HS4).symm (unhide HSR) o5 z4
    have ch5 := ((unhide HCH).recol (d' := d') (fun g hg => by rw [hd']; exact if_neg (by omega))).below b5 (Nat.le_refl _)
    have HC5 : Hid (CH w5 (w.heap.size + 2) d' ⟨y.p, y.t, y.s, y.r, y.g, ⟨a5, 4, c5⟩, ⟨none, 0, 0⟩⟩ (signH h)) := ⟨ch5.p, ch5.t, ch5.s, ch5.r, ch5.g, ce, CS.nil _ _ _ _ _⟩
    have s9 := ks.cell 9
    have f9 := ks.free 9
    simp only [List.getElem?_cons_zero, List.getElem?_cons_succ] at s9
    have ks6 := (ks.set 9 (.slice a5 4 c5)).set 10 (.slice none 0 0)
    simp only [List.set_cons_zero, List.set_cons_succ] at ks6
    have kr6 := (kr.other (g' := gs) (i := 9) (v := .slice a5 4 c5) (by omega)).other (g' := gs) (i := 10) (v := .slice none 0 0) (by omega)
    have s10 := (ks.set 9 (.slice a5 4 c5)).cell 10
    have f10 := (ks.set 9 (.slice a5 4 c5)).free 10
    simp only [List.set_cons_zero, List.set_cons_succ, List.getElem?_cons_zero, List.getElem?_cons_succ] at s10
    have K6 := (K5.setCell (p := ⟨gs, 9, none⟩) (by show w.heap.size ≤ gs; omega) (.slice a5 4 c5)).setCell (p := ⟨gs, 10, none⟩) (by show w.heap.size ≤ gs; omega) (.slice none 0 0)
    have d9' : d' gs = 9 := by rw [hd']; show (if W4.heap.size ≤ gs then 4 else d1 gs) = 9; rw [if_neg (by omega)]; exact d9
    have ch6 := ((unhide HC5).set9 (p := ⟨gs, 9, none⟩) (v := .slice a5 4 c5) d9').set9 (p := ⟨gs, 10, none⟩) (v := .slice none 0 0) d9'
    obtain ⟨W6, e6⟩ : ∃ W, ((w5.setCell ⟨gs, 9, none⟩ (.slice a5 4 c5)).setCell ⟨gs, 10, none⟩ (.slice none 0 0)) = W := ⟨_, rfl⟩
    rw [e6] at ks6 kr6 K6 ch6
    have E6 := hide e6
    have HKR := hide kr6
    have HKS := hide ks6
    have HCH := hide ch6
    have HK6 := hide K6
    clear d9' e6 kr ks kr6 ks6 ch6 K6 K5 ce ch5 HC5 hd' b5 o5 D5 x0 x1 x2 x3 x4 x5 x6 x7 x8 x9 x10 HSR
    go_upto_region 7 with fail
    rw [unhide E6]
    clear E6 s9 f9 s10 f10
    obtain ⟨t0, t1, t2, t3, t4, t5, t6, t7, t8, t9, t10⟩ : W6.cell? ⟨gs, 0, none⟩ = _ ∧ W6.cell? ⟨gs, 1, none⟩ = _ ∧ W6.cell? ⟨gs, 2, none⟩ = _ ∧ W6.cell? ⟨gs, 3, none⟩ = _ ∧ W6.cell? ⟨gs, 4, none⟩ = _ ∧ W6.cell? ⟨gs, 5, none⟩ = _ ∧ W6.cell? ⟨gs, 6, none⟩ = _ ∧ W6.cell? ⟨gs, 7, none⟩ = _ ∧ W6.cell? ⟨gs, 8, none⟩ = _ ∧ W6.cell? ⟨gs, 9, none⟩ = _ ∧ W6.cell? ⟨gs, 10, none⟩ = _ := ⟨(unhide HKS).cell 0, (unhide HKS).cell 1, (unhide HKS).cell 2, (unhide HKS).cell 3, (unhide HKS).cell 4, (unhide HKS).cell 5, (unhide HKS).cell 6, (unhide HKS).cell 7, (unhide HKS).cell 8, (unhide HKS).cell 9, (unhide HKS).cell 10⟩
    obtain ⟨r0, r1, r2, r3, r4, r5, r6, r7, r8, r9, r10, r11⟩ : W6.cell? ⟨w.heap.size + 1, 0, none⟩ = _ ∧ W6.cell? ⟨w.heap.size + 1, 1, none⟩ = _ ∧ W6.cell? ⟨w.heap.size + 1, 2, none⟩ = _ ∧ W6.cell? ⟨w.heap.size + 1, 3, none⟩ = _ ∧ W6.cell? ⟨w.heap.size + 1, 4, none⟩ = _ ∧ W6.cell? ⟨w.heap.size + 1, 5, none⟩ = _ ∧ W6.cell? ⟨w.heap.size + 1, 6, none⟩ = _ ∧ W6.cell? ⟨w.heap.size + 1, 7, none⟩ = _ ∧ W6.cell? ⟨w.heap.size + 1, 8, none⟩ = _ ∧ W6.cell? ⟨w.heap.size + 1, 9, none⟩ = _ ∧ W6.cell? ⟨w.heap.size + 1, 10, none⟩ = _ ∧ W6.cell? ⟨w.heap.size + 1, 11, none⟩ = _ := ⟨(unhide HKR).cell 0, (unhide HKR).cell 1, (unhide HKR).cell 2, (unhide HKR).cell 3, (unhide HKR).cell 4, (unhide HKR).cell 5, (unhide HKR).cell 6, (unhide HKR).cell 7, (unhide HKR).cell 8, (unhide HKR).cell 9, (unhide HKR).cell 10, (unhide HKR).cell 11⟩
    obtain ⟨g0, g1, g2, g3, g4, g5, g6, g7, g8, g9, g10, g11⟩ : W6.frozen? ⟨w.heap.size + 1, 0, none⟩ = false ∧ W6.frozen? ⟨w.heap.size + 1, 1, none⟩ = false ∧ W6.frozen? ⟨w.heap.size + 1, 2, none⟩ = false ∧ W6.frozen? ⟨w.heap.size + 1, 3, none⟩ = false ∧ W6.frozen? ⟨w.heap.size + 1, 4, none⟩ = false ∧ W6.frozen? ⟨w.heap.size + 1, 5, none⟩ = false ∧ W6.frozen? ⟨w.heap.size + 1, 6, none⟩ = false ∧ W6.frozen? ⟨w.heap.size + 1, 7, none⟩ = false ∧ W6.frozen? ⟨w.heap.size + 1, 8, none⟩ = false ∧ W6.frozen? ⟨w.heap.size + 1, 9, none⟩ = false ∧ W6.frozen? ⟨w.heap.size + 1, 10, none⟩ = false ∧ W6.frozen? ⟨w.heap.size + 1, 11, none⟩ = false := ⟨(unhide HKR).free 0, (unhide HKR).free 1, (unhide HKR).free 2, (unhide HKR).free 3, (unhide HKR).free 4, (unhide HKR).free 5, (unhide HKR).free 6, (unhide HKR).free 7, (unhide HKR).free 8, (unhide HKR).free 9, (unhide HKR).free 10, (unhide HKR).free 11⟩
    simp only [List.getElem?_cons_zero, List.getElem?_cons_succ] at t0 t1 t2 t3 t4 t5 t6 t7 t8 t9 t10 r0 r1 r2 r3 r4 r5 r6 r7 r8 r9 r10 r11
    go_wp2_with fail
    refine bodyPost_ret (v := .agg #[.int .i64 0, .slice y.p.a y.p.n y.p.c, .int .i64 h.n1, .int .i64 h.n2, .int .i64 h.n3, .slice y.t.a y.t.n y.t.c, .int .i64 h.n5, .slice y.s.a y.s.n y.s.c, .slice y.r.a y.r.n y.r.c, .slice y.g.a y.g.n y.g.c, .slice a5 4 c5, .slice none 0 0]) (by simp [results, Tryz.results7, go_sem, r0, r1, r2, r3, r4, r5, r6, r7, r8, r9, r10, r11]) rfl ⟨⟨y.p, y.t, y.s, y.r, y.g, ⟨a5, 4, c5⟩, ⟨none, 0, 0⟩⟩, d', by rw [unhide HESN]; rfl, ?_, ?_⟩
    · rw [unhide HESN]
      refine CH.base (B := w.heap.size + 2) ?_ (by omega)
      repeat (refine CH.set ?_ (by show w.heap.size + 1 < w.heap.size + 2; omega))
      exact unhide HCH
    · repeat (refine Below.setCell ?_ (by show w.heap.size ≤ w.heap.size + 1; omega) _)
      exact unhide HK6
  · have hne : (q != 0) = true := by simp [hq]
    have HESN : Hid (snH h = hd0) := (unhide HS0) hq
    obtain ⟨r0, r1, r2, r3, r4, r5, r6, r7, r8, r9, r10, r11⟩ : w2.cell? ⟨w.heap.size + 1, 0, none⟩ = _ ∧ w2.cell? ⟨w.heap.size + 1, 1, none⟩ = _ ∧ w2.cell? ⟨w.heap.size + 1, 2, none⟩ = _ ∧ w2.cell? ⟨w.heap.size + 1, 3, none⟩ = _ ∧ w2.cell? ⟨w.heap.size + 1, 4, none⟩ = _ ∧ w2.cell? ⟨w.heap.size + 1, 5, none⟩ = _ ∧ w2.cell? ⟨w.heap.size + 1, 6, none⟩ = _ ∧ w2.cell? ⟨w.heap.size + 1, 7, none⟩ = _ ∧ w2.cell? ⟨w.heap.size + 1, 8, none⟩ = _ ∧ w2.cell? ⟨w.heap.size + 1, 9, none⟩ = _ ∧ w2.cell? ⟨w.heap.size + 1, 10, none⟩ = _ ∧ w2.cell? ⟨w.heap.size + 1, 11, none⟩ = _ := ⟨kr.cell 0, kr.cell 1, kr.cell 2, kr.cell 3, kr.cell 4, kr.cell 5, kr.cell 6, kr.cell 7, kr.cell 8, kr.cell 9, kr.cell 10, kr.cell 11⟩
    obtain ⟨g0, g1, g2, g3, g4, g5, g6, g7, g8, g9, g10, g11⟩ : w2.frozen? ⟨w.heap.size + 1, 0, none⟩ = false ∧ w2.frozen? ⟨w.heap.size + 1, 1, none⟩ = false ∧ w2.frozen? ⟨w.heap.size + 1, 2, none⟩ = false ∧ w2.frozen? ⟨w.heap.size + 1, 3, none⟩ = false ∧ w2.frozen? ⟨w.heap.size + 1, 4, none⟩ = false ∧ w2.frozen? ⟨w.heap.size + 1, 5, none⟩ = false ∧ w2.frozen? ⟨w.heap.size + 1, 6, none⟩ = false ∧ w2.frozen? ⟨w.heap.size + 1, 7, none⟩ = false ∧ w2.frozen? ⟨w.heap.size + 1, 8, none⟩ = false ∧ w2.frozen? ⟨w.heap.size + 1, 9, none⟩ = false ∧ w2.frozen? ⟨w.heap.size + 1, 10, none⟩ = false ∧ w2.frozen? ⟨w.heap.size + 1, 11, none⟩ = false := ⟨kr.free 0, kr.free 1, kr.free 2, kr.free 3, kr.free 4, kr.free 5, kr.free 6, kr.free 7, kr.free 8, kr.free 9, kr.free 10, kr.free 11⟩
    simp only [List.getElem?_cons_zero, List.getElem?_cons_succ] at r0 r1 r2 r3 r4 r5 r6 r7 r8 r9 r10 r11
    have HK2 := hide K2
    clear hq kb kr K2 HSG HS0 HSF HCP
    go_wp2_with fail
    refine bodyPost_ret (v := .agg #[.int .i64 q, .slice none 0 0, .int .i64 0, .int .i64 0, .int .i64 0, .slice none 0 0, .int .i64 0, .slice none 0 0, .slice none 0 0, .slice none 0 0, .slice none 0 0, .slice none 0 0]) (by simp [results, Tryz.results7, go_sem, r0, r1, r2, r3, r4, r5, r6, r7, r8, r9, r10, r11]) rfl ⟨hs0, fun _ => 0, by rw [unhide HESN]; rfl, by rw [unhide HESN]; exact ch0 _ _ _, ?_⟩
    repeat (refine Below.setCell ?_ (by show w.heap.size ≤ w.heap.size + 1; omega) _)
    exact unhide HK2

end Go.Proofs.YtbncoiljklagkaaGreatDoor

/- What is proved here: what the model's l5Lists answers: the same list in memory of its own, down to the bytes. -/
namespace Go.Proofs.YtbncoiljklagkaaGreatDoor
open Go.RowKit
set_option linter.unusedVariables false
set_option maxRecDepth 100000

theorem one_at (w : World) (x : Value) (t : TypeId) : ∀ (j : Nat) (u : Value), [x][j]? = some u → (w.alloc (.cells #[x] t)).cell? ((⟨w.heap.size, 0, none⟩ : Addr).add j) = some u := by
  intro j u hj
  rw [add_none, Nat.zero_add, World.cell?_alloc_new]
  match j, hj with
  | 0, hj => simpa using hj

set_option maxHeartbeats 4000000 in
theorem l5Lists_any (r c : Nat) (hr : ∀ i, r ≠ c + 3 * i) (a : Option Addr) (len cap : Nat) (zss : List (List Int)) (w : World) (h : BsRow w a len zss) (hn : BsNil w a len) (hl : len ≤ 1048576) (hz : ∀ z ∈ zss, z.length ≤ 1048576) :
    Calls Tryz.prog 46 #[.slice a len cap] w fun e w' => ∃ (s : Sl) (d : Nat → Nat), e = .returned (.slice s.a s.n s.c) ∧ CS w' w.heap.size d r c s zss ∧ Below w.heap.size w w' := by
  obtain ⟨i0, hi, hz0, hz1, hz2⟩ := info_parts infoSB
  have hil := h.1
  have o0 : (w.alloc (.cells #[] 22)).ownsRow w.heap.size 22 1 (.slice (some ⟨w.heap.size, 0, none⟩) 0 0) 0 (([] : List Sl).map Sl.v) := World.ownsRow_lit w #[] 0 (Nat.le_refl _) (by unfold maxLen; omega) rfl
  have HC0 : Hid (CS (w.alloc (.cells #[] 22)) w.heap.size (fun _ => r) r c ⟨some ⟨w.heap.size, 0, none⟩, 0, 0⟩ []) := ⟨rfl, [], rfl, o0, (fun _ _ => rfl), fun i e z he => by simp at he⟩
  have HROW := hide (fun (W : World) (hb : Below w.heap.size w W) => And.intro (h.below hb (Nat.le_refl _)) (hn.below hb (Nat.le_refl _)))
  have HBY := hide h.bytes
  have HZ := hide hz
  have HL := hide hil
  have HR := hide hr
  clear h hn hil o0 hz hr
  go_enter Tryz.func46, Tryz.ntmps46
  go_wp2_with fail
  go_loopw [3, 4] (fun s i wr => ∃ (k : Nat) (t : Sl) (d : Nat → Nat), k ≤ len ∧ i = .int .i64 k ∧ s = .slice t.a t.n t.c ∧ CS wr w.heap.size d r c t (zss.take k) ∧ Below w.heap.size w wr) (fun _ i _ => len - (intOf i).toNat)
  case atStart => exact ⟨0, ⟨some ⟨w.heap.size, 0, none⟩, 0, 0⟩, fun _ => r, Nat.zero_le _, rfl, rfl, unhide HC0, below_alloc w _⟩
  case round =>
    obtain ⟨k, t, d, hk, rfl, rfl, hcs, hbr⟩ := hrel
    clear HC0
    by_cases hlt : k < len
    · obtain ⟨z, hit⟩ : ∃ z, zss[k]? = some z := ⟨_, List.getElem?_eq_getElem (by rw [unhide HL]; exact hlt)⟩
      obtain ⟨hrow, hnil⟩ := (unhide HROW) wr hbr
      obtain ⟨b, off, rfl, _, hat⟩ := hrow.at (by omega)
      obtain ⟨s1, n1, d1, c0, r1⟩ := hat k z hit
      obtain ⟨s1', n1', d1', c0', hnn⟩ := hnil b off rfl k hlt
      rw [c0] at c0'
      simp only [Option.some.injEq, Value.slice.injEq] at c0'
      obtain ⟨rfl, rfl, rfl⟩ := c0'
      have hz8 := (unhide HZ) z (List.mem_of_getElem? hit)
      have hzl : z.length = n1 := r1.1
      have hzr := (unhide HBY) z (List.mem_of_getElem? hit)
      have HP := hide (copy_any s1 n1 d1 z wr r1 hnn (by omega))
      have hts : zss.take (k + 1) = zss.take k ++ [z] := by obtain ⟨hk', e'⟩ := List.getElem?_eq_some_iff.1 hit; rw [List.take_succ_eq_append_getElem hk', e']
      have htl : (zss.take k).length = k := by rw [List.length_take]; have := unhide HL; omega
      have htn : t.n = k := by rw [hcs.1]; exact htl
      have k1 : (0 : Int) ≤ (k : Int) := by omega
      have k2 : (k : Int) < (len : Int) := by omega
      have HCS := hide hcs
      have HB := hide hbr
      have HTS := hide hts
      have HTL := hide htl
      have HTN := hide htn
      have HZR := hide hzr
      clear hcs hbr hit hrow hnil hat r1 hnn hz8 hts htl htn hzr
      go_wp2_with fail
      refine (unhide HP).mono ?_
      rintro e w2 ⟨a2, c2, rfl, o2, b2⟩
      have ba := below_alloc w2 (.cells #[.slice a2 n1 c2] 22)
      have hs2 : wr.heap.size ≤ w2.heap.size := b2.size
      have hwr : w.heap.size ≤ wr.heap.size := (unhide HB).size
      obtain ⟨d', hd'⟩ : ∃ d' : Nat → Nat, d' = fun g => if wr.heap.size ≤ g then c + 3 * k else d g := ⟨_, rfl⟩
      have cz : CB w2 w.heap.size d' (c + 3 * k) ⟨a2, n1, c2⟩ z := by rw [hd']; exact CB.new hzl.symm (unhide HZR) o2 hwr
      have cs2 := ((unhide HCS).recol (d' := d') (fun g hg => by rw [hd']; exact if_neg (by omega))).below b2 (Nat.le_refl _)
      have cz := cz.below ba (Nat.le_refl _)
      obtain ⟨h1, es, h2, h3, h4, h5⟩ := cs2.below ba (Nat.le_refl _)
      have H1 := hide h1
      have H2 := hide h2
      have H4 := hide h4
      have H5 := hide h5
      have HCZ := hide cz
      have HCS2 := hide cs2
      clear h1 h2 h4 h5 cz cs2
      have B3 := (unhide HB).trans ((b2.trans (ba.mono b2.size)).mono hwr)
      have hsz3 : w.heap.size ≤ (w2.alloc (.cells #[.slice a2 n1 c2] 22)).heap.size := B3.size
      have hnk : t.n ≤ 1048576 := by have := unhide HTN; omega
      go_wp2_with (at_builtin; refine wpList_append_own_at _ rfl _ _ 23 rfl w.heap.size 22 i0 (.slice none 0 0) 1 24 Tryz.underlying23 hi hz0 hz1 hz2 rfl (by decide) _ _ _ rfl h3 ⟨w2.heap.size, 0, none⟩ 1 1 [.slice a2 n1 c2] rfl rfl ?c1 ?c2 ?c3 ?c4 ?c5 ?_)
      case c1 => exact one_at _ _ _
      case c2 => intro u hu; simp at hu; subst hu; rfl
      case c3 => unfold maxLen; omega
      case c4 => omega
      case c5 => exact hsz3
      intro v' w6 hown2 hgrow _ hblk
      obtain ⟨a6, c6, hv6⟩ := own_shape hown2
      subst hv6
      have SN := CS.mkSnoc (unhide HR) hsz3 (unhide H1) (unhide H2) h3 (unhide H4) (unhide H5) (by rw [unhide HTL]; exact unhide HCZ) hown2 hgrow (by rw [show (w2.alloc (.cells #[.slice a2 n1 c2] 22)).heap.size = w2.heap.size + 1 by simp]; exact hblk)
      rw [← unhide HTS] at SN
      have B6 : Below w.heap.size w w6 := B3.grown hgrow hsz3 (fun g e => (h3.lt g e).1)
      have HS6 := hide SN.1
      have HB6 := hide B6
      clear SN B6 hown2 hgrow hblk H1 H2 h3 H4 H5 HCZ HCS2 B3 ba o2 b2 HP HCS HB hd'
      go_wp2_with fail
      go_roundw
      case rel => exact ⟨k + 1, ⟨a6, t.n + 1, c6⟩, _, by omega, by go_num, rfl, unhide HS6, unhide HB6⟩
      case measure => simp [intOf]; omega
    · obtain rfl : k = len := by omega
      have et : zss.take k = zss := List.take_of_length_le (by rw [unhide HL]; exact Nat.le_refl _)
      rw [et] at hcs
      have HC := hide hcs
      have HB := hide hbr
      clear et hcs hbr
      go_wp2_with fail
      go_ret
      exact ⟨t, d, rfl, unhide HC, unhide HB⟩

end Go.Proofs.YtbncoiljklagkaaGreatDoor
