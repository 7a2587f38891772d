/- What is proved here: what impl.BytesOfHex answers for texts of at most 2^20 bytes: the code and the bytes, in new memory. -/
import Derived.Test.YtcgiibifcnefhaaChecked
import Derived.Test.YtcgiibifcnefhaaBase
import Derived.Test.YtcgiibifcnefhaaInfo
import Derived.Test.YtcgiibifcnefhaaDigit
import Derived.WalkKit
import Derived.WalkLawsBesides
import Derived.WalkSmall
import Derived.WalkSpells
import Derived.WalkMore
import Derived.KernelRfl
namespace Go.Proofs.Ytcgiibifcnefhaa
open Go.RowKit
set_option linter.unusedVariables false

/-- What holds of the world while impl.BytesOfHex reads. -/
def HexW (s : ByteArray) (w wr : World) (j : Nat) (zs : List Int) (da : Option Addr) (dc : Nat) : Prop :=
  wr.ownsRow (w.heap.size + 1) 5 1 (.slice da j dc) j (zs.map (Value.int .u8)) ∧ Below w.heap.size w wr ∧ wr.heap[w.heap.size]? = some (.cells #[.int .i64 0, .slice none 0 0] 26 (0, 0)) ∧ HexAt (txt s) j zs

/-- What holds at each label of impl.BytesOfHex. -/
def HexJ (s : ByteArray) (w : World) (l : Nat) (a : Act) (wr : World) : Prop :=
  (l = 0 ∧ ∃ (j : Nat) (zs : List Int) (da : Option Addr) (dc : Nat), HexW s w wr j zs da dc ∧ ∃ (u5 u6 u7 u8 u9 u10 u11 u12 u13 u14 u15 u16 u17 u18 u19 u20 u21 u22 u23 u24 u25 u26 u27 u28 u29 u30 u31 u32 u33 u34 u35 u36 u37 u38 u39 u40 u41 u42 u43 u44 u45 u46 u47 u48 u49 : Value), a = { tmps := #[.string s, undef, .pointer (some ⟨w.heap.size, 0, none⟩), .slice da j dc, .int .i64 (2 * (j : Int)), u5, u6, u7, u8, u9, u10, u11, u12, u13, u14, u15, u16, u17, u18, u19, u20, u21, u22, u23, u24, u25, u26, u27, u28, u29, u30, u31, u32, u33, u34, u35, u36, u37, u38, u39, u40, u41, u42, u43, u44, u45, u46, u47, u48, u49], defers := [] }) ∨
  (l = 2 ∧ ∃ (j : Nat) (zs : List Int) (da : Option Addr) (dc : Nat) (h : Int), HexW s w wr j zs da dc ∧ 2 * j < s.size ∧ h = dv ((txt s).getD (2 * j) 0) ∧ 0 ≤ h ∧ ∃ (u6 u7 u8 u9 u10 u11 u12 u13 u14 u15 u16 u17 u18 u19 u20 u21 u22 u23 u24 u25 u26 u27 u28 u29 u30 u31 u32 u33 u34 u35 u36 u37 u38 u39 u40 u41 u42 u43 u44 u45 u46 u47 u48 u49 : Value), a = { tmps := #[.string s, undef, .pointer (some ⟨w.heap.size, 0, none⟩), .slice da j dc, .int .i64 (2 * (j : Int) + 1), .int .i64 h, u6, u7, u8, u9, u10, u11, u12, u13, u14, u15, u16, u17, u18, u19, u20, u21, u22, u23, u24, u25, u26, u27, u28, u29, u30, u31, u32, u33, u34, u35, u36, u37, u38, u39, u40, u41, u42, u43, u44, u45, u46, u47, u48, u49], defers := [] }) ∨
  (l = 1 ∧ hexDec (txt s) = none ∧ Below w.heap.size w wr ∧ wr.heap[w.heap.size]? = some (.cells #[.int .i64 0, .slice none 0 0] 26 (0, 0)) ∧ ∃ (u3 u4 u5 u6 u7 u8 u9 u10 u11 u12 u13 u14 u15 u16 u17 u18 u19 u20 u21 u22 u23 u24 u25 u26 u27 u28 u29 u30 u31 u32 u33 u34 u35 u36 u37 u38 u39 u40 u41 u42 u43 u44 u45 u46 u47 u48 u49 : Value), a = { tmps := #[.string s, undef, .pointer (some ⟨w.heap.size, 0, none⟩), u3, u4, u5, u6, u7, u8, u9, u10, u11, u12, u13, u14, u15, u16, u17, u18, u19, u20, u21, u22, u23, u24, u25, u26, u27, u28, u29, u30, u31, u32, u33, u34, u35, u36, u37, u38, u39, u40, u41, u42, u43, u44, u45, u46, u47, u48, u49], defers := [] })

/-- How much is left to be read. -/
def hexM (s : ByteArray) (l : Nat) (a : Act) (_ : World) : Nat := if l = 1 then 0 else 1 + (s.size - (intOf (a.tmps.getD 4 undef)).toNat)

set_option maxHeartbeats 2000000 in
theorem implHex_in (s : ByteArray) (w : World) (hs : s.size ≤ 2400) :
    Calls Try.prog 6 #[.string s] w fun e w' => ∃ a cap, e = .returned (.agg #[.int .i64 (hxCode (txt s)), .slice a (hxBytes (txt s)).length cap]) ∧
      w'.ownsRow w.heap.size 5 1 (.slice a (hxBytes (txt s)).length cap) (hxBytes (txt s)).length ((hxBytes (txt s)).map (Value.int .u8)) ∧ Below w.heap.size w w' := by
  obtain ⟨i0, hi, hz0, hz1, hz2⟩ := info_parts info5
  have HTL := hide (txt_length s)
  go_enter Try.func6, Try.ntmps6
  go_wp2_with fail
  refine wp_scope_labels (HexJ s w) (hexM s) ?_ ?_
  · intro hp
    have HP := hide hp
    clear hp
    go_wp2_with (at_make; refine wpList_make_own _ rfl _ _ 22 rfl (w.heap.size + 1) 5 i0 (.int .u8 0) 1 Try.underlying22 hi hz0 hz1 _ _ _ (s.size / 2) rfl rfl (by omega) ?c1 ?c2 ?c3 ?_)
    case c1 => rw [hz2]; omega
    case c2 => unfold maxLen; omega
    case c3 => simp
    intro w1 hown hgrow
    have hW : HexW s w w1 0 [] (some ⟨w.heap.size + 1, 0, none⟩) (s.size / 2) := by
      refine ⟨?_, ?_, ?_, HexAt.start _⟩
      · simpa using hown
      · exact ((Below.refl _ _).alloc (Nat.le_refl _) _).grown hgrow (by simp) (fun k e => by cases e)
      · rw [hgrow.block _ (by simp) (by simp)]
        show (w.heap.push _)[w.heap.size]? = _
        simp
    have HW := hide hW
    clear hW hown hgrow
    go_wp2_with fail
    go_step3
    rename_i K hK
    refine hK _ _ ?_
    exact (unhide HP) 0 _ _ (.inl ⟨rfl, 0, [], _, _, unhide HW, _, _, _, _, _, _, _, _, _, _, _, _, _, _, _, _, _, _, _, _, _, _, _, _, _, _, _, _, _, _, _, _, _, _, _, _, _, _, _, _, _, _, _, _, _, rfl⟩) _ rfl
  · intro l a wr hJ
    rcases hJ with ⟨rfl, j, zs, da, dc, hW, u5, u6, u7, u8, u9, u10, u11, u12, u13, u14, u15, u16, u17, u18, u19, u20, u21, u22, u23, u24, u25, u26, u27, u28, u29, u30, u31, u32, u33, u34, u35, u36, u37, u38, u39, u40, u41, u42, u43, u44, u45, u46, u47, u48, u49, rfl⟩ | ⟨rfl, j, zs, da, dc, h, hW, hlt, hdv, h0, u6, u7, u8, u9, u10, u11, u12, u13, u14, u15, u16, u17, u18, u19, u20, u21, u22, u23, u24, u25, u26, u27, u28, u29, u30, u31, u32, u33, u34, u35, u36, u37, u38, u39, u40, u41, u42, u43, u44, u45, u46, u47, u48, u49, rfl⟩ | ⟨rfl, hn, hb, hr, u3, u4, u5, u6, u7, u8, u9, u10, u11, u12, u13, u14, u15, u16, u17, u18, u19, u20, u21, u22, u23, u24, u25, u26, u27, u28, u29, u30, u31, u32, u33, u34, u35, u36, u37, u38, u39, u40, u41, u42, u43, u44, u45, u46, u47, u48, u49, rfl⟩
    · refine ⟨_, rfl, ?_⟩
      have HW := hide hW
      have hj := hW.2.2.2.1
      rw [unhide HTL] at hj
      clear hW
      by_cases hend : 2 * j = s.size
      · have e := hx_some (by rw [unhide HTL]; omega) ((unhide HW).2.2.2.done (by rw [unhide HTL]; exact hend))
        have hzl := (unhide HW).2.2.2.2.1
        have HE := hide e
        have HZ := hide hzl
        obtain ⟨q0, q1, f0, f1⟩ := res_facts (unhide HW).2.2.1
        have hbe : (2 * (j : Int) == (s.size : Int)) = true := by rw [beq_iff_eq]; omega
        clear e hzl
        go_wp2_with fail
        simp only [jumpsTo]
        refine bodyPost_ret (v := .agg #[.int .i64 0, .slice da j dc]) (by simp [results, Try.results6, go_sem, q0, q1]) rfl ⟨da, dc, ?_, ?_, ?_⟩
        · rw [(unhide HE).1, (unhide HE).2, unhide HZ]
        · rw [(unhide HE).2, unhide HZ]
          exact ownsRow_base (ownsRow_setCell_below (ownsRow_setCell_below (unhide HW).1 (by simp) _) (by simp) _) (by omega)
        · exact ((unhide HW).2.1.setCell (by simp) _).setCell (by simp) _
      · have hlt : 2 * j < s.size := by omega
        have hbe : (2 * (j : Int) == (s.size : Int)) = false := by rw [beq_eq_false_iff_ne]; omega
        go_wp2_with fail
        have ht := txt_range s (2 * j) hlt
        have hd := txt_at s (2 * j) hlt
        refine (implDigit_any _ _ ht.1 ht.2).mono ?_
        rintro e wr ⟨rfl, rfl⟩
        rw [← hd]
        clear ht hd
        have hdr := dv_range ((txt s).getD (2 * j) 0)
        have HB := hide (fun h : dv ((txt s).getD (2 * j) 0) < 0 => (unhide HW).2.2.2.bad1 (by rw [unhide HTL]; exact hlt) h)
        generalize hv : dv ((txt s).getD (2 * j) 0) = v at hdr HB
        have HV := hide hv
        clear hv
        by_cases hneg : v = -1
        · have hbn : (v == -1) = true := by rw [beq_iff_eq]; exact hneg
          have HN := hide ((unhide HB) (by omega))
          clear hneg HB
          go_wp2_with fail
          go_step3
          exact ⟨.inr (.inr ⟨rfl, unhide HN, (unhide HW).2.1, (unhide HW).2.2.1, _, _, _, _, _, _, _, _, _, _, _, _, _, _, _, _, _, _, _, _, _, _, _, _, _, _, _, _, _, _, _, _, _, _, _, _, _, _, _, _, _, _, _, _, _, _, _, rfl⟩), by simp [hexM]; omega⟩
        · have hbn : (v == -1) = false := by rw [beq_eq_false_iff_ne]; exact hneg
          have hv0 : 0 ≤ v := by omega
          clear hneg HB
          go_wp2_with fail
          go_step3
          exact ⟨.inr (.inl ⟨rfl, j, zs, da, dc, v, unhide HW, hlt, (unhide HV).symm, hv0, _, _, _, _, _, _, _, _, _, _, _, _, _, _, _, _, _, _, _, _, _, _, _, _, _, _, _, _, _, _, _, _, _, _, _, _, _, _, _, _, _, _, _, _, rfl⟩), by simp [hexM, intOf]; omega⟩
    · refine ⟨_, rfl, ?_⟩
      have HW := hide hW
      have HD := hide hdv
      have hh := dv_range ((txt s).getD (2 * j) 0)
      rw [← hdv] at hh
      have hjs := hW.2.2.2.1
      rw [unhide HTL] at hjs
      clear hW hdv
      by_cases hend : 2 * j + 1 = s.size
      · have HN := hide ((unhide HW).2.2.2.odd (by rw [unhide HTL]; exact hend))
        have hbe : (2 * (j : Int) + 1 == (s.size : Int)) = true := by rw [beq_iff_eq]; omega
        clear hend
        go_wp2_with fail
        go_step3
        exact ⟨.inr (.inr ⟨rfl, unhide HN, (unhide HW).2.1, (unhide HW).2.2.1, _, _, _, _, _, _, _, _, _, _, _, _, _, _, _, _, _, _, _, _, _, _, _, _, _, _, _, _, _, _, _, _, _, _, _, _, _, _, _, _, _, _, _, _, _, _, _, rfl⟩), by simp [hexM]; omega⟩
      · have hlt2 : 2 * j + 1 < s.size := by omega
        have hbe : (2 * (j : Int) + 1 == (s.size : Int)) = false := by rw [beq_eq_false_iff_ne]; omega
        clear hend
        go_wp2_with fail
        have ht := txt_range s (2 * j + 1) hlt2
        have hd := txt_at s (2 * j + 1) hlt2
        refine (implDigit_any _ _ ht.1 ht.2).mono ?_
        rintro e wr ⟨rfl, rfl⟩
        rw [← hd]
        clear ht hd
        have hdr := dv_range ((txt s).getD (2 * j + 1) 0)
        have HB := hide (fun h' : dv ((txt s).getD (2 * j + 1) 0) < 0 => (unhide HW).2.2.2.bad (by rw [unhide HTL]; exact hlt2) (.inr h'))
        have HS := hide (fun h' : 0 ≤ dv ((txt s).getD (2 * j + 1) 0) => (unhide HW).2.2.2.step (by rw [unhide HTL]; exact hlt2) (by rw [← unhide HD]; exact h0) h')
        generalize dv ((txt s).getD (2 * j + 1) 0) = v at hdr HB HS
        by_cases hneg : v = -1
        · have hbn : (v == -1) = true := by rw [beq_iff_eq]; exact hneg
          have HN := hide ((unhide HB) (by omega))
          clear hneg HB HS
          go_wp2_with fail
          go_step3
          exact ⟨.inr (.inr ⟨rfl, unhide HN, (unhide HW).2.1, (unhide HW).2.2.1, _, _, _, _, _, _, _, _, _, _, _, _, _, _, _, _, _, _, _, _, _, _, _, _, _, _, _, _, _, _, _, _, _, _, _, _, _, _, _, _, _, _, _, _, _, _, _, rfl⟩), by simp [hexM]; omega⟩
        · have hbn : (v == -1) = false := by rw [beq_eq_false_iff_ne]; exact hneg
          have hv0 : 0 ≤ v := by omega
          have HX := hide ((unhide HS) hv0)
          have hsz : w.heap.size + 1 ≤ wr.heap.size := by
            have := lt_of_block (unhide HW).2.2.1
            omega
          clear hneg HB HS
          go_wp2_with (at_builtin; refine wpList_append_own _ rfl _ _ 22 rfl (w.heap.size + 1) 5 i0 (.int .u8 0) 1 1 Try.underlying22 hi hz0 hz1 hz2 rfl (by decide) _ _ _ rfl ((unhide HW).1.alloc _) ⟨wr.heap.size, 0, none⟩ 1 1 [.int .u8 (16 * h + v)] rfl rfl ?c1 ?c2 ?c3 ?c4 ?c5 ?_)
          case c1 => exact cell_one_new _ _ _
          case c2 => intro u hu; simp at hu; subst hu; rfl
          case c3 => unfold maxLen; omega
          case c4 => omega
          case c5 => simp; omega
          intro v' w2 hown2 hgrow _
          obtain ⟨a2, cap2, hvv⟩ := own_shape hown2
          have hW2 : HexW s w w2 (j + 1) (zs ++ [16 * h + v]) a2 cap2 := by
            refine ⟨?_, ?_, ?_, ?_⟩
            · rw [hvv] at hown2
              simpa using hown2
            · exact ((unhide HW).2.1.alloc (by omega) _).grown hgrow (by simp; omega) (fun g e => by have := ((unhide HW).1.lt g e).1; omega)
            · rw [hgrow.block _ (by simp; omega) (fun e => by have := ((unhide HW).1.lt _ e.symm).1; omega)]
              rw [Below.heap_alloc _ _ _ (by omega)]
              exact (unhide HW).2.2.1
            · have := unhide HX
              rw [← unhide HD] at this
              exact this
          rw [hvv]
          have HW2 := hide hW2
          clear hW2 hown2 hgrow hvv
          go_wp2_with fail
          go_step3
          rw [show (2 * (j : Int) + 1 + 1) = 2 * ((j + 1 : Nat) : Int) from by omega]
          exact ⟨.inl ⟨rfl, j + 1, _, a2, cap2, unhide HW2, _, _, _, _, _, _, _, _, _, _, _, _, _, _, _, _, _, _, _, _, _, _, _, _, _, _, _, _, _, _, _, _, _, _, _, _, _, _, _, _, _, _, _, _, _, rfl⟩, by simp [hexM, intOf]; omega⟩
    · refine ⟨_, rfl, ?_⟩
      have e := hx_none (by rw [unhide HTL]; omega) hn
      have HE := hide e
      obtain ⟨q0, q1, f0, f1⟩ := res_facts hr
      have HB := hide hb
      clear e hn hb hr
      go_wp2_with fail
      simp only [jumpsTo]
      refine bodyPost_ret (v := .agg #[.int .i64 5, .slice none 0 0]) (by simp [results, Try.results6, go_sem, q0, q1]) rfl ⟨none, 0, ?_, ?_, ?_⟩
      · rw [(unhide HE).1, (unhide HE).2]; rfl
      · rw [(unhide HE).2]
        exact World.ownsRow_nil _ _ _ _
      · exact ((unhide HB).setCell (by simp) _).setCell (by simp) _

set_option maxHeartbeats 1000000 in
theorem implHex_any (s : ByteArray) (w : World) (hs : s.size ≤ 1048576) :
    Calls Try.prog 6 #[.string s] w fun e w' => ∃ a cap, e = .returned (.agg #[.int .i64 (hxCode (txt s)), .slice a (hxBytes (txt s)).length cap]) ∧
      w'.ownsRow w.heap.size 5 1 (.slice a (hxBytes (txt s)).length cap) (hxBytes (txt s)).length ((hxBytes (txt s)).map (Value.int .u8)) ∧ Below w.heap.size w w' := by
  by_cases hm : 2400 < s.size
  · have e := hx_many (L := txt s) (by rw [txt_length]; exact hm)
    rw [e.1, e.2]
    clear e
    go_enter Try.func6, Try.ntmps6
    go_wp2_with fail
    go_step3
    go_wp2_with fail
    rw [Exit.noGoto_ret]
    exact bodyPost_ret (v := .agg #[.int .i64 2, .slice none 0 0]) (by simp [results, Try.results6, go_sem]) rfl ⟨none, 0, rfl, World.ownsRow_nil _ _ _ _, (Below.refl _ _).alloc (Nat.le_refl _) _⟩
  · exact implHex_in s w (by omega)

end Go.Proofs.Ytcgiibifcnefhaa
