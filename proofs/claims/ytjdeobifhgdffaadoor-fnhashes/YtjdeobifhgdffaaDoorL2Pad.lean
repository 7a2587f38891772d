/- What is proved here: what the model's l2Pad answers for slices of at most 1200 bytes, in new memory; and what PadBytes is to answer. -/
import Derived.Test.YtjdeobifhgdffaaDoorChecked
import Derived.Test.YtjdeobifhgdffaaDoorBase
import Derived.Test.YtjdeobifhgdffaaDoorInfo
import Derived.Test.YtjdeobifhgdffaaDoorCopy
import Derived.Test.YtjdeobifhgdffaaDoorPadMath
import Derived.WalkKit
import Derived.WalkLawsBesides
import Derived.WalkSmall
import Derived.WalkSpells
import Derived.Laws.BitsLemmas
import Derived.KernelRfl
namespace Go.Proofs.YtjdeobifhgdffaaDoor
open Go.RowKit
set_option linter.unusedVariables false

theorem xor_zero128 : bits .xor .u8 0 128 = 128 := by decide
theorem xor_one128 : bits .xor .u8 1 128 = 129 := by decide

set_option maxHeartbeats 1000000 in
theorem l2Pad_any (a : Option Addr) (n cap : Nat) (zs : List Int) (w : World) (h : BRow w a n zs) (hcap : a = none → cap = 0) (hn : n ≤ 1200) :
    Calls Tryd.prog 52 #[.slice a n cap] w fun e w' => ∃ (g cap' : Nat), e = .returned (.slice (some ⟨g, 0, none⟩) (padLen n) cap') ∧
      w'.ownsRow w.heap.size 5 1 (.slice (some ⟨g, 0, none⟩) (padLen n) cap') (padLen n) ((padB zs).map (Value.int .u8)) ∧ Below w.heap.size w w' := by
  obtain ⟨i0, hi, hz0, hz1, hz2⟩ := info_parts info5
  have hzl := h.1
  have hpl := padLen_lt n
  have HCP := hide (copy_any a n cap zs w h hcap (by omega))
  have HF := hide (padLen_first n)
  have HL := hide (padRaw_last zs)
  clear h
  go_enter Tryd.func52, Tryd.ntmps52
  go_wp2_with fail
  refine (unhide HCP).mono ?_
  rintro e w1 ⟨a1, c1, rfl, o1, b1⟩
  have hs1 := b1.size
  go_wp2_with (at_builtin; refine wpList_append_own _ rfl _ _ 22 rfl w.heap.size 5 i0 (.int .u8 0) 1 1 Tryd.underlying22 hi hz0 hz1 hz2 rfl (by decide) _ _ _ rfl (o1.alloc _) ⟨w1.heap.size, 0, none⟩ 1 1 [.int .u8 1] rfl rfl ?c1 ?c2 ?c3 ?c4 ?c5 ?_)
  case c1 => exact cell_one_new _ _ _
  case c2 => intro u hu; simp at hu; subst hu; rfl
  case c3 => unfold maxLen; omega
  case c4 => omega
  case c5 => simp; omega
  intro v2 w2 o2 hgrow _
  obtain ⟨g2, cap2, hv2⟩ := own_some o2 (by omega)
  have b2 : Below w.heap.size w w2 := (b1.alloc hs1 _).grown hgrow (by simp; omega) (fun q e => (o1.lt q e).1)
  rw [hv2] at o2
  rw [hv2]
  have O2 : Hid (w2.ownsRow w.heap.size 5 1 (.slice (some ⟨g2, 0, none⟩) (n + 1) cap2) (n + 1) ((padRaw zs (n + 1 - n - 1)).map (Value.int .u8))) := by
    show w2.ownsRow _ _ _ _ _ _
    have e : n + 1 - n - 1 = 0 := by omega
    rw [e]
    simpa [padRaw] using o2
  have HB2 := hide b2
  clear o2 b2 hgrow hv2 o1 b1 HCP
  go_wp2_with fail
  go_loopw [3] (fun v wr => ∃ (m g c : Nat), n + 1 ≤ m ∧ m ≤ padLen n ∧ v = .slice (some ⟨g, 0, none⟩) m c ∧ wr.ownsRow w.heap.size 5 1 (.slice (some ⟨g, 0, none⟩) m c) m ((padRaw zs (m - n - 1)).map (Value.int .u8)) ∧ Below w.heap.size w wr)
    (fun v _ => padLen n - lenOf v)
  case atStart => exact ⟨n + 1, g2, cap2, by omega, by omega, rfl, unhide O2, unhide HB2⟩
  case round =>
    obtain ⟨m, g, c, hm1, hm2, rfl, hown, hbel⟩ := hrel
    clear O2 HB2
    by_cases hm : m % 136 = 0
    · have hfin := (unhide HF) m (by omega) hm2 hm
      have hmod : ((m : Int) % 136 != 0) = false := by rw [bne_eq_false_iff_eq]; omega
      have hlast := unhide HL
      rw [hzl, ← hfin] at hlast
      have hcell : wr.cell? ⟨g, m - 1, none⟩ = some (.int .u8 (if n + 1 = m then 1 else 0)) := by
        rw [hown.cellAt (m - 1) (by omega), List.getElem?_map, List.getElem?_eq_getElem (by rw [padRaw_length]; omega)]
        rw [← hlast, getD_at _ _ (by rw [padRaw_length]; omega)]
        rfl
      have hfz := hown.frozenAt (m - 1)
      have hx : bits .xor .u8 (if n + 1 = m then 1 else 0) 128 = padLast n := by
        unfold padLast
        rw [← hfin]
        split
        · exact xor_one128
        · exact xor_zero128
      have R := hown.stored (m - 1) (.int .u8 (padLast n))
      have HR : Hid ((wr.setCell ⟨g, m - 1, none⟩ (.int .u8 (padLast n))).ownsRow w.heap.size 5 1 (.slice (some ⟨g, 0, none⟩) m c) m ((padB zs).map (Value.int .u8))) := by
        show World.ownsRow _ _ _ _ _ _ _
        unfold padB
        rw [hzl, ← hfin, List.map_set]
        exact R.1
      have HBB : Hid (Below w.heap.size w (wr.setCell ⟨g, m - 1, none⟩ (.int .u8 (padLast n)))) := hbel.setCell ((hown.lt g rfl).1) _
      have HFIN := hide hfin
      have i1 : (0 : Int) < (m : Int) := by omega
      generalize (if n + 1 = m then (1 : Int) else 0) = lb at hcell hx
      clear hlast R hown hbel hfin
      go_wp2_with fail
      go_ret
      rw [← unhide HFIN]
      exact ⟨g, c, rfl, unhide HR, unhide HBB⟩
    · have hmod : ((m : Int) % 136 != 0) = true := by rw [bne_iff_ne]; omega
      have hlt : m < padLen n := by
        have := hpl.2.2
        rcases Nat.lt_or_eq_of_le hm2 with h | h
        · exact h
        · rw [← h] at this; omega
      have hsz := hbel.size
      go_wp2_with (at_builtin; refine wpList_append_own _ rfl _ _ 22 rfl w.heap.size 5 i0 (.int .u8 0) 1 1 Tryd.underlying22 hi hz0 hz1 hz2 rfl (by decide) _ _ _ rfl (hown.alloc _) ⟨wr.heap.size, 0, none⟩ 1 1 [.int .u8 0] rfl rfl ?d1 ?d2 ?d3 ?d4 ?d5 ?_)
      case d1 => exact cell_one_new _ _ _
      case d2 => intro u hu; simp at hu; subst hu; rfl
      case d3 => unfold maxLen; omega
      case d4 => omega
      case d5 => simp; omega
      intro v3 w3 o3 hgrow _
      obtain ⟨g3, cap3, hv3⟩ := own_some o3 (by omega)
      have b3 : Below w.heap.size w w3 := (hbel.alloc hsz _).grown hgrow (by simp; omega) (fun q e => (hown.lt q e).1)
      rw [hv3] at o3
      rw [hv3]
      have O3 : Hid (w3.ownsRow w.heap.size 5 1 (.slice (some ⟨g3, 0, none⟩) (m + 1) cap3) (m + 1) ((padRaw zs (m + 1 - n - 1)).map (Value.int .u8))) := by
        show w3.ownsRow _ _ _ _ _ _
        have e : m + 1 - n - 1 = (m - n - 1) + 1 := by omega
        rw [e, padRaw_succ, List.map_append]
        exact o3
      have HB3 := hide b3
      clear o3 b3 hgrow hv3 hown hbel
      go_wp2_with fail
      go_roundw
      case rel => exact ⟨m + 1, g3, cap3, by omega, by omega, rfl, unhide O3, unhide HB3⟩
      case measure => simp [lenOf]; omega

/-- The code and the bytes of PadBytes. -/
def pdCode (zs : List Int) : Int := if 1200 < zs.length then 2 else 0
def pdBytes (zs : List Int) : List Int := if 1200 < zs.length then [] else padB zs

theorem pdBytes_range (zs : List Int) (h : ∀ x ∈ zs, 0 ≤ x ∧ x ≤ 255) : ∀ x ∈ pdBytes zs, 0 ≤ x ∧ x ≤ 255 := by
  unfold pdBytes
  split
  · intro x hx; simp at hx
  · exact padB_range zs h

theorem pdBytes_length (zs : List Int) : (pdBytes zs).length ≤ 1400 := by
  unfold pdBytes
  split
  · simp
  · rw [padB_length]; have := padLen_lt zs.length; omega

end Go.Proofs.YtjdeobifhgdffaaDoor
