/- What is proved here: what the model's BytesOfHex answers for texts of at most 2^20 bytes: the code and the bytes, in new memory. -/
import Derived.Test.YtcgiibifcnefhaaChecked
import Derived.Test.YtcgiibifcnefhaaBase
import Derived.Test.YtcgiibifcnefhaaInfo
import Derived.Test.YtcgiibifcnefhaaDigit
import Derived.WalkKit
import Derived.WalkLawsBesides
import Derived.WalkSmall
import Derived.WalkSpells
import Derived.KernelRfl
namespace Go.Proofs.Ytcgiibifcnefhaa
open Go.RowKit
set_option linter.unusedVariables false

/-- What holds of the world while spec.BytesOfHex reads. -/
def HexV (s : ByteArray) (w wr : World) (j : Nat) (zs : List Int) (da : Option Addr) (dc : Nat) : Prop :=
  wr.ownsRow (w.heap.size + 2) 5 1 (.slice da j dc) j (zs.map (Value.int .u8)) ∧ Below w.heap.size w wr ∧ wr.heap[w.heap.size]? = some (.cells #[.int .i64 0, .slice none 0 0] 26 (0, 0)) ∧
  wr.heap[w.heap.size + 1]? = some (.cells #[.int .i64 0, .slice da j dc] 26 (0, 0)) ∧ HexAt (txt s) j zs

theorem HexV.start (s : ByteArray) (w : World) : HexV s w ((w.alloc (.cells #[.int .i64 0, .slice none 0 0] 26)).alloc (.cells #[.int .i64 0, .slice none 0 0] 26)) 0 [] none 0 := by
  refine ⟨World.ownsRow_nil _ _ _ _, ((Below.refl _ _).alloc (Nat.le_refl _) _).alloc (by simp) _, ?_, ?_, HexAt.start _⟩
  · show ((w.heap.push _).push _)[w.heap.size]? = _
    simp [Array.getElem?_push]
  · show ((w.heap.push _).push _)[w.heap.size + 1]? = _
    rw [Array.getElem?_push, if_pos (by simp)]

set_option maxHeartbeats 2000000 in
theorem specHex_even (s : ByteArray) (w : World) (hs : s.size ≤ 2400) (he : s.size % 2 = 0) :
    Calls Try.prog 8 #[.string s] w fun e w' => ∃ a cap, e = .returned (.agg #[.int .i64 (hxCode (txt s)), .slice a (hxBytes (txt s)).length cap]) ∧
      w'.ownsRow w.heap.size 5 1 (.slice a (hxBytes (txt s)).length cap) (hxBytes (txt s)).length ((hxBytes (txt s)).map (Value.int .u8)) ∧ Below w.heap.size w w' := by
  obtain ⟨i0, hi, hz0, hz1, hz2⟩ := info_parts info5
  have HTL := hide (txt_length s)
  have hmod : (((s.size : Int) % 2) == 1) = false := by rw [beq_eq_false_iff_ne]; omega
  have HST := hide (HexV.start s w)
  go_enter Try.func8, Try.ntmps8
  go_wp2_with fail
  go_loopw [4] (fun i wr => ∃ (j : Nat) (zs : List Int) (da : Option Addr) (dc : Nat), i = .int .i64 (2 * (j : Int)) ∧ HexV s w wr j zs da dc) (fun i _ => s.size - (intOf i).toNat)
  case atStart => exact ⟨0, [], none, 0, rfl, unhide HST⟩
  case round =>
    obtain ⟨j, zs, da, dc, rfl, hW⟩ := hrel
    have HW := hide hW
    have hj := hW.2.2.2.2.1
    rw [unhide HTL] at hj
    obtain ⟨q0, q1, f0, f1⟩ := res_facts hW.2.2.1
    obtain ⟨p0, p1, g0, g1⟩ := res_facts hW.2.2.2.1
    clear hW HST
    by_cases hend : 2 * j = s.size
    · have e := hx_some (by rw [unhide HTL]; omega) ((unhide HW).2.2.2.2.done (by rw [unhide HTL]; exact hend))
      have HE := hide e
      have HZ := hide (unhide HW).2.2.2.2.2.1
      clear e
      go_wp2_with fail
      refine bodyPost_ret (v := .agg #[.int .i64 0, .slice da j dc]) (by simp [results, Try.results8, go_sem, q0, q1]) rfl ⟨da, dc, ?_, ?_, ?_⟩
      · rw [(unhide HE).1, (unhide HE).2, unhide HZ]
      · rw [(unhide HE).2, unhide HZ]
        exact ownsRow_base (ownsRow_setCell_below (ownsRow_setCell_below (unhide HW).1 (by simp) _) (by simp) _) (by omega)
      · exact ((unhide HW).2.1.setCell (by simp) _).setCell (by simp) _
    · have hlt : 2 * j < s.size := by omega
      have hlt2 : 2 * j + 1 < s.size := by omega
      go_wp2_with fail
      have ht := txt_range s (2 * j) hlt
      have hd := txt_at s (2 * j) hlt
      refine (specDigit_any _ _ ht.1 ht.2).mono ?_
      rintro e wr ⟨rfl, rfl⟩
      rw [← hd]
      clear ht hd
      have hdr := dv_range ((txt s).getD (2 * j) 0)
      generalize hv1 : dv ((txt s).getD (2 * j) 0) = h at hdr
      have HV1 := hide hv1
      clear hv1
      go_wp2_with fail
      have ht := txt_range s (2 * j + 1) hlt2
      have hd := txt_at s (2 * j + 1) hlt2
      refine (specDigit_any _ _ ht.1 ht.2).mono ?_
      rintro e wr ⟨rfl, rfl⟩
      rw [← hd]
      clear ht hd
      have hdr2 := dv_range ((txt s).getD (2 * j + 1) 0)
      have HB := hide (fun h' : h < 0 ∨ dv ((txt s).getD (2 * j + 1) 0) < 0 => (unhide HW).2.2.2.2.bad (by rw [unhide HTL]; exact hlt2) (by rw [unhide HV1]; exact h'))
      have HS : Hid (0 ≤ h → 0 ≤ dv ((txt s).getD (2 * j + 1) 0) → HexAt (txt s) (j + 1) (zs ++ [16 * h + dv ((txt s).getD (2 * j + 1) 0)])) := fun h1 h2 => by
        have := (unhide HW).2.2.2.2.step (by rw [unhide HTL]; exact hlt2) (by rw [unhide HV1]; exact h1) h2
        rw [unhide HV1] at this
        exact this
      generalize dv ((txt s).getD (2 * j + 1) 0) = v at hdr2 HB HS
      by_cases hbad : h < 0 ∨ v < 0
      · have e := hx_none (by rw [unhide HTL]; omega) ((unhide HB) hbad)
        have HE := hide e
        clear e HB HS
        rcases hbad with hb | hb
        · have hb1 : decide (h < 0) = true := decide_eq_true hb
          go_wp2_with fail
          refine bodyPost_ret (v := .agg #[.int .i64 5, .slice none 0 0]) (by simp [results, Try.results8, go_sem, q0, q1]) rfl ⟨none, 0, ?_, ?_, ?_⟩
          · rw [(unhide HE).1, (unhide HE).2]; rfl
          · rw [(unhide HE).2]
            exact World.ownsRow_nil _ _ _ _
          · exact ((unhide HW).2.1.setCell (by simp) _).setCell (by simp) _
        · by_cases hb0 : h < 0
          · have hb1 : decide (h < 0) = true := decide_eq_true hb0
            go_wp2_with fail
            refine bodyPost_ret (v := .agg #[.int .i64 5, .slice none 0 0]) (by simp [results, Try.results8, go_sem, q0, q1]) rfl ⟨none, 0, ?_, ?_, ?_⟩
            · rw [(unhide HE).1, (unhide HE).2]; rfl
            · rw [(unhide HE).2]
              exact World.ownsRow_nil _ _ _ _
            · exact ((unhide HW).2.1.setCell (by simp) _).setCell (by simp) _
          · have hb1 : decide (h < 0) = false := decide_eq_false hb0
            have hb2 : decide (v < 0) = true := decide_eq_true hb
            go_wp2_with fail
            refine bodyPost_ret (v := .agg #[.int .i64 5, .slice none 0 0]) (by simp [results, Try.results8, go_sem, q0, q1]) rfl ⟨none, 0, ?_, ?_, ?_⟩
            · rw [(unhide HE).1, (unhide HE).2]; rfl
            · rw [(unhide HE).2]
              exact World.ownsRow_nil _ _ _ _
            · exact ((unhide HW).2.1.setCell (by simp) _).setCell (by simp) _
      · have hh0 : 0 ≤ h := by omega
        have hv0 : 0 ≤ v := by omega
        have hb1 : decide (h < 0) = false := decide_eq_false (by omega)
        have hb2 : decide (v < 0) = false := decide_eq_false (by omega)
        have HX := hide ((unhide HS) hh0 hv0)
        have hsz : w.heap.size + 2 ≤ wr.heap.size := by
          have := lt_of_block (unhide HW).2.2.2.1
          omega
        clear hbad HB HS
        go_wp2_with (at_builtin; refine wpList_append_own _ rfl _ _ 22 rfl (w.heap.size + 2) 5 i0 (.int .u8 0) 1 1 Try.underlying22 hi hz0 hz1 hz2 rfl (by decide) _ _ _ rfl ((unhide HW).1.alloc _) ⟨wr.heap.size, 0, none⟩ 1 1 [.int .u8 (16 * h + v)] rfl rfl ?c1 ?c2 ?c3 ?c4 ?c5 ?_)
        case c1 => exact cell_one_new _ _ _
        case c2 => intro u hu; simp at hu; subst hu; rfl
        case c3 => unfold maxLen; omega
        case c4 => omega
        case c5 => simp; omega
        intro v' w2 hown2 hgrow _
        obtain ⟨a2, cap2, hvv⟩ := own_shape hown2
        have hB2 : Below w.heap.size w w2 := ((unhide HW).2.1.alloc (by omega) _).grown hgrow (by simp; omega) (fun g e => by have := ((unhide HW).1.lt g e).1; omega)
        have hr2 : w2.heap[w.heap.size]? = some (.cells #[.int .i64 0, .slice none 0 0] 26 (0, 0)) := by
          rw [hgrow.block _ (by simp; omega) (fun e => by have := ((unhide HW).1.lt _ e.symm).1; omega), Below.heap_alloc _ _ _ (by omega)]
          exact (unhide HW).2.2.1
        have ho2 : w2.heap[w.heap.size + 1]? = some (.cells #[.int .i64 0, .slice da j dc] 26 (0, 0)) := by
          rw [hgrow.block _ (by simp; omega) (fun e => by have := ((unhide HW).1.lt _ e.symm).1; omega), Below.heap_alloc _ _ _ (by omega)]
          exact (unhide HW).2.2.2.1
        obtain ⟨s0, s1, t0, t1⟩ := res_facts ho2
        have hW2 : HexV s w (w2.setCell ⟨w.heap.size + 1, 1, none⟩ (.slice a2 (j + 1) cap2)) (j + 1) (zs ++ [16 * h + v]) a2 cap2 := by
          rw [hvv] at hown2
          refine ⟨ownsRow_setCell_below (by simpa using hown2) (by simp) _, hB2.setCell (by simp) _, ?_, ?_, unhide HX⟩
          · rw [heap_setCell_other _ _ _ _ (by simp)]; exact hr2
          · exact heap_setCell_same w2 (w.heap.size + 1) 1 _ 26 _ ho2
        rw [hvv]
        have HW2 := hide hW2
        clear hW2 hown2 hgrow hvv hB2 hr2 ho2 q0 q1 f0 f1 p0 p1 g0 g1 s0
        go_wp2_with fail
        go_roundw
        case rel => exact ⟨j + 1, _, a2, cap2, by go_num, unhide HW2⟩
        case measure => simp [intOf]; omega

set_option maxHeartbeats 1000000 in
theorem specHex_any (s : ByteArray) (w : World) (hs : s.size ≤ 1048576) :
    Calls Try.prog 8 #[.string s] w fun e w' => ∃ a cap, e = .returned (.agg #[.int .i64 (hxCode (txt s)), .slice a (hxBytes (txt s)).length cap]) ∧
      w'.ownsRow w.heap.size 5 1 (.slice a (hxBytes (txt s)).length cap) (hxBytes (txt s)).length ((hxBytes (txt s)).map (Value.int .u8)) ∧ Below w.heap.size w w' := by
  by_cases hm : 2400 < s.size
  · have e := hx_many (L := txt s) (by rw [txt_length]; exact hm)
    rw [e.1, e.2]
    clear e
    go_enter Try.func8, Try.ntmps8
    go_wp2_with fail
    exact bodyPost_ret (v := .agg #[.int .i64 2, .slice none 0 0]) (by simp [results, Try.results8, go_sem]) rfl ⟨none, 0, rfl, World.ownsRow_nil _ _ _ _, (Below.refl _ _).alloc (Nat.le_refl _) _⟩
  · by_cases he : s.size % 2 = 0
    · exact specHex_even s w (by omega) he
    · have e := hx_none (L := txt s) (by rw [txt_length]; exact hm) (hexDec_odd (s.size / 2) (txt s) (by rw [txt_length]; omega))
      rw [e.1, e.2]
      have hmod : (((s.size : Int) % 2) == 1) = true := by rw [beq_iff_eq]; omega
      clear e
      go_enter Try.func8, Try.ntmps8
      go_wp2_with fail
      exact bodyPost_ret (v := .agg #[.int .i64 5, .slice none 0 0]) (by simp [results, Try.results8, go_sem]) rfl ⟨none, 0, rfl, World.ownsRow_nil _ _ _ _, (Below.refl _ _).alloc (Nat.le_refl _) _⟩

end Go.Proofs.Ytcgiibifcnefhaa
