/- What is proved here: what the model's WordsOf answers. -/
import Derived.Test.YtpkfgffgldjceaaDoorJ13
import Derived.Test.YtpkfgffgldjceaaDoorJ11
import Derived.Test.YtpkfgffgldjceaaDoorJ3
namespace Go.Proofs.YtpkfgffgldjceaaDoor
open Go.RowKit
set_option linter.unusedVariables false
set_option linter.unusedSimpArgs false
set_option maxRecDepth 100000

theorem cut_end : ∀ M : List UInt8, (∀ b ∈ M, b ≠ 32) → cutB M = [M]
  | [], _ => rfl
  | b :: t, h => by
    unfold cutB
    rw [if_neg (h b (List.mem_cons_self ..)), cut_end t (fun c hc => h c (List.mem_cons_of_mem _ hc))]

theorem cut_at : ∀ (M : List UInt8) (m : Nat), (∀ j, j < m → M[j]? ≠ some 32) → M[m]? = some 32 → cutB M = M.take m :: cutB (M.drop (m + 1))
  | [], m, _, h => by simp at h
  | b :: t, 0, _, h => by
    simp at h
    subst h
    simp [cutB]
  | b :: t, m + 1, h0, h => by
    have hb : b ≠ 32 := fun e => h0 0 (by omega) (by simp [e])
    have ih := cut_at t m (fun j hj => by simpa using h0 (j + 1) (by omega)) (by simpa using h)
    have e : cutB (b :: t) = (match cutB t with | [] => [[b]] | h :: r => (b :: h) :: r) := by
      rw [cutB, if_neg hb]
      cases cutB t <;> rfl
    rw [e, ih]
    simp

/-- A text's bytes from f on. -/
theorem drop_data (s : ByteArray) (f : Nat) (hf : f ≤ s.size) : (s.extract f s.size).data.toList = s.data.toList.drop f := by
  apply List.ext_getElem?
  intro i
  simp only [ByteArray.data_extract]
  rw [Array.getElem?_toList, Array.getElem?_extract, List.getElem?_drop, Array.getElem?_toList]
  have hs : s.size = s.data.size := rfl
  by_cases hi : i < s.size - f
  · rw [if_pos (by omega)]
  · rw [if_neg (by omega), Array.getElem?_eq_none (by omega)]

theorem bt_take (s : ByteArray) (f k : Nat) (hk : f ≤ k) (hn : k ≤ s.size) : bt ((s.data.toList.drop f).take (k - f)) = s.extract f k := by
  apply ByteArray.ext
  apply Array.ext'
  apply List.ext_getElem?
  intro i
  simp only [bt, ByteArray.data_extract]
  rw [List.getElem?_take, List.getElem?_drop, Array.getElem?_toList, Array.getElem?_toList, Array.getElem?_extract]
  have hs : s.size = s.data.size := rfl
  by_cases hi : i < k - f
  · rw [if_pos hi, if_pos (by omega)]
  · rw [if_neg hi, if_neg (by omega)]

theorem pcs_at (s : ByteArray) (f k : Nat) (hk : f ≤ k) (hn : k < s.size) (h0 : ∀ j, f ≤ j → j < k → s.data.toList[j]? ≠ some 32) (h : s.data.toList[k]? = some 32) : pcs (s.extract f s.size) = s.extract f k :: pcs (s.extract (k + 1) s.size) := by
  unfold pcs
  rw [drop_data s f (by omega), drop_data s (k + 1) (by omega), cut_at (s.data.toList.drop f) (k - f) (fun j hj => by rw [List.getElem?_drop]; exact h0 (f + j) (by omega) (by omega)) (by rw [List.getElem?_drop, show f + (k - f) = k from by omega]; exact h),
    List.map_cons, bt_take s f k hk (by omega), List.drop_drop, show f + (k - f + 1) = k + 1 from by omega]

theorem pcs_end (s : ByteArray) (f : Nat) (hk : f ≤ s.size) (h0 : ∀ j, f ≤ j → j < s.size → s.data.toList[j]? ≠ some 32) : pcs (s.extract f s.size) = [s.extract f s.size] := by
  unfold pcs
  rw [drop_data s f hk, cut_end (s.data.toList.drop f) (fun b hb e => by
    obtain ⟨j, hj⟩ := List.getElem?_of_mem hb
    rw [List.getElem?_drop, e] at hj
    have := (List.getElem?_eq_some_iff.1 hj).1
    exact h0 (f + j) (by omega) (by simpa using this) hj), List.map_cons, List.map_nil, ← drop_data s f hk, bt_data]

set_option maxHeartbeats 4000000 in
theorem l16Cut_any (s : ByteArray) (w : World) (hs : s.size ≤ 1048576) :
    Calls Tryd.prog 60 #[.string s, .int .u8 32] w fun e w' => ∃ u : Sl, e = .returned (.slice u.a u.n u.c) ∧ WRow w.heap.size w' u (pcs s) ∧ Below w.heap.size w w' := by
  go_enter Tryd.func60, Tryd.ntmps60
  obtain ⟨i0, hi, hz0, hz1, hz2⟩ := info_parts infoSt
  go_wp2_with fail
  go_loopw [5, 6, 7] (fun q f i wr => ∃ (k a : Nat) (u : Sl) (D : List ByteArray), q = .slice u.a u.n u.c ∧ f = .int .i64 a ∧ i = .int .i64 k ∧ WRow w.heap.size wr u D ∧ Below w.heap.size w wr ∧ D.length ≤ k ∧
    ((k ≤ s.size ∧ a ≤ k ∧ pcs s = D ++ pcs (s.extract a s.size) ∧ ∀ j, a ≤ j → j < k → s.data.toList[j]? ≠ some 32) ∨ (k = s.size + 1 ∧ D = pcs s))) (fun _ _ i _ => s.size + 1 - (intOf i).toNat)
  case atStart =>
    have ho := World.ownsRow_lit (base := w.heap.size) (e := 9) (size := 1) w #[] 0 (Nat.le_refl _) (by unfold maxLen; omega) rfl
    refine ⟨0, 0, ⟨some ⟨w.heap.size, 0, none⟩, 0, 0⟩, [], rfl, rfl, rfl, ⟨ho, rfl⟩, below_alloc w _, Nat.le_refl _, .inl ⟨Nat.zero_le _, Nat.le_refl _, ?_, fun j h1 h2 => absurd h2 (Nat.not_lt_zero _)⟩⟩
    rw [ByteArray.extract_zero_size, List.nil_append]
  case round =>
    obtain ⟨k, a, u, D, rfl, rfl, rfl, hwr, hbr, hdl, hc⟩ := hrel
    rcases hc with ⟨hk, hak, hx, h0⟩ | ⟨rfl, rfl⟩
    · have HH := hide h0
      have HX := hide hx
      have HW := hide hwr
      have HB := hide hbr
      have d1 : decide ((k : Int) ≤ (s.size : Int)) = true := decide_eq_true (by omega)
      have hul : u.n ≤ 1048577 := by have := hwr.len; omega
      clear h0 hx hwr hbr
      by_cases hks : k = s.size
      · subst hks
        have HP := hide (pcs_end s a hak (unhide HH))
        have ba := below_alloc wr (.cells #[.string (s.extract a s.size)] 9)
        have HR5 := hide ((unhide HW).below ba (Nat.le_refl _))
        have J5 := hide ((unhide HB).trans (ba.mono (unhide HB).size))
        have own5 := (unhide HR5).own
        clear ba
        go_wp2_with (at_builtin; refine wpList_append_own_at _ rfl _ _ 39 rfl w.heap.size 9 i0 (.string ⟨#[]⟩) 1 16 Tryd.underlying39 hi hz0 hz1 hz2 rfl (by decide) _ _ _ rfl own5 ⟨wr.heap.size, 0, none⟩ 1 1 [.string (s.extract a s.size)] rfl rfl (one_atS _ _ _) (by intro u hu; simp at hu; subst hu; rfl) (by unfold maxLen; omega) (by omega) (unhide J5).size ?_)
        intro v' w6 hown2 hgrow _ hblk
        obtain ⟨a6, c6, rfl, hw6⟩ := (unhide HR5).step (ns := [s.extract a s.size]) rfl hown2
        have J6 := hide ((unhide J5).grown hgrow (unhide J5).size (fun g e => (own5.lt g e).1))
        have HW6 := hide hw6
        clear hown2 hgrow hblk own5 hw6 J5 HR5
        go_wp2_with fail
        go_roundw
        case rel =>
          refine ⟨s.size + 1, s.size + 1, ⟨a6, u.n + 1, c6⟩, D ++ [s.extract a s.size], rfl, by go_num, by go_num, unhide HW6, unhide J6, by first | omega | (simp; done) | (simp; omega), .inr ⟨rfl, ?_⟩⟩
          rw [unhide HX, unhide HP]
        case measure =>
          simp [intOf] <;> omega
      · have i1 : (0 : Int) ≤ (k : Int) := by omega
        have i2 : (k : Int) < (s.size : Int) := by omega
        have i3 : (a : Int) ≤ (k : Int) := by omega
        have i4 : (k : Int) ≤ (s.size : Int) := by omega
        have d2 : ((k : Int) == (s.size : Int)) = false := by rw [beq_eq_false_iff_ne]; omega
        have hb3 : k < s.size := by omega
        have e3 : s.data.toList[k]? = some s[k] := by
          rw [Array.getElem?_toList]
          exact Array.getElem?_eq_getElem hb3
        by_cases h32 : s.data.toList[k]? = some 32
        · have d3 : ((s[k].toNat : Int) == 32) = true := by
            rw [e3] at h32
            rw [Option.some.inj h32]
            rfl
          clear e3
          have HP := hide (pcs_at s a k hak (by omega) (unhide HH) h32)
          have ba := below_alloc wr (.cells #[.string (s.extract a k)] 9)
          have HR5 := hide ((unhide HW).below ba (Nat.le_refl _))
          have J5 := hide ((unhide HB).trans (ba.mono (unhide HB).size))
          have own5 := (unhide HR5).own
          clear ba
          go_wp2_with (at_builtin; refine wpList_append_own_at _ rfl _ _ 39 rfl w.heap.size 9 i0 (.string ⟨#[]⟩) 1 16 Tryd.underlying39 hi hz0 hz1 hz2 rfl (by decide) _ _ _ rfl own5 ⟨wr.heap.size, 0, none⟩ 1 1 [.string (s.extract a k)] rfl rfl (one_atS _ _ _) (by intro u hu; simp at hu; subst hu; rfl) (by unfold maxLen; omega) (by omega) (unhide J5).size ?_)
          intro v' w6 hown2 hgrow _ hblk
          obtain ⟨a6, c6, rfl, hw6⟩ := (unhide HR5).step (ns := [s.extract a k]) rfl hown2
          have J6 := hide ((unhide J5).grown hgrow (unhide J5).size (fun g e => (own5.lt g e).1))
          have HW6 := hide hw6
          clear hown2 hgrow hblk own5 hw6 J5 HR5
          go_wp2_with fail
          go_roundw
          case rel =>
            refine ⟨k + 1, k + 1, ⟨a6, u.n + 1, c6⟩, D ++ [s.extract a k], rfl, by go_num, by go_num, unhide HW6, unhide J6, by first | omega | (simp; done) | (simp; omega), .inl ⟨by omega, Nat.le_refl _, ?_, fun j h1 h2 => absurd h2 (by omega)⟩⟩
            rw [unhide HX, unhide HP]
            simp
          case measure => simp [intOf]; omega
        · have d3 : ((s[k].toNat : Int) == 32) = false := by
            rw [beq_eq_false_iff_ne]
            intro e
            refine h32 ?_
            rw [e3]
            exact congrArg some (UInt8.toNat_inj.1 (by show s[k].toNat = 32; omega))
          have H32 := hide h32
          clear e3 h32
          go_wp2_with fail
          go_roundw
          case rel =>
            refine ⟨k + 1, a, u, D, rfl, rfl, by go_num, unhide HW, unhide HB, by omega, .inl ⟨by omega, by omega, unhide HX, fun j h1 h2 => ?_⟩⟩
            by_cases e : j = k
            · rw [e]; exact unhide H32
            · exact (unhide HH) j h1 (by omega)
          case measure => simp [intOf]; omega
    · have d1 : ¬ (((s.size + 1 : Nat) : Int) ≤ (s.size : Int)) := by omega
      go_wp2_with fail
      go_ret
      exact ⟨u, rfl, hwr, hbr⟩

set_option maxHeartbeats 4000000 in
theorem l16Words_any (s : ByteArray) (w : World) (hs : s.size ≤ 1048576) :
    Calls Tryd.prog 32 #[.string s] w fun e w' => ∃ u : Sl, e = .returned (.slice u.a u.n u.c) ∧ WRow w.heap.size w' u (wds (pcs s)) ∧ Below w.heap.size w w' := by
  have HC := hide (fun (W : World) => l16Cut_any s W hs)
  have hpl := pcs_len s
  go_enter Tryd.func32, Tryd.ntmps32
  obtain ⟨i0, hi, hz0, hz1, hz2⟩ := info_parts infoSt
  go_wp2_with fail
  refine ((unhide HC) _).mono ?_
  rintro e w2 ⟨⟨ua, un, uc⟩, rfl, hu, b2⟩
  have ho := World.ownsRow_lit (base := w.heap.size) (e := 9) (size := 1) w #[] 0 (Nat.le_refl _) (by unfold maxLen; omega) rfl
  have hw0 : WRow w.heap.size w2 ⟨some ⟨w.heap.size, 0, none⟩, 0, 0⟩ [] := ⟨own_below ho b2 (by simp), rfl⟩
  have hb2 : Below w.heap.size w w2 := (below_alloc w (.cells #[] 9)).trans (b2.mono (by simp))
  have hu1 : WRow (w.heap.size + 1) w2 ⟨ua, un, uc⟩ (pcs s) := by simpa using hu
  have hn0 : ∀ g, (Value.slice ua un uc).ownBlock = some g → (Value.slice (some ⟨w.heap.size, 0, none⟩) 0 0).ownBlock ≠ some g := fun g e e2 => by
    have h1 := (hu1.own.lt g e).1
    have h2 : w.heap.size = g := Option.some.inj e2
    omega
  have HW0 := hide hw0
  have HB2 := hide hb2
  have HU1 := hide hu1
  have HN0 := hide hn0
  have hun : un = (pcs s).length := hu.len
  have HUN := hide hun
  clear ho hw0 hb2 hu1 hn0 hu b2 HC hun
  go_wp2_with fail
  go_loopw [3, 5] (fun q i wr => ∃ (k : Nat) (u2 : Sl), k ≤ un ∧ q = .slice u2.a u2.n u2.c ∧ i = .int .i64 k ∧ WRow w.heap.size wr u2 (wds ((pcs s).take k)) ∧ WRow (w.heap.size + 1) wr ⟨ua, un, uc⟩ (pcs s) ∧ Below w.heap.size w wr ∧
    (∀ g, (Value.slice ua un uc).ownBlock = some g → (Value.slice u2.a u2.n u2.c).ownBlock ≠ some g)) (fun _ i _ => un - (intOf i).toNat)
  case atStart => exact ⟨0, ⟨some ⟨w.heap.size, 0, none⟩, 0, 0⟩, Nat.zero_le _, rfl, rfl, unhide HW0, unhide HU1, unhide HB2, unhide HN0⟩
  case round =>
    obtain ⟨k, u2, hk, rfl, rfl, hwr, hvr, hbr, hne⟩ := hrel
    have hun := unhide HUN
    by_cases hlt : k < un
    · obtain ⟨x, hx⟩ : ∃ x, (pcs s)[k]? = some x := ⟨_, List.getElem?_eq_getElem (by omega)⟩
      have hol : ∀ g, (Value.slice ua un uc).ownBlock = some g → g < wr.heap.size := fun g e => (hvr.own.lt g e).2
      have h2l : u2.n ≤ 1048577 := by
        have h1 := hwr.len
        have h2 := wds_len ((pcs s).take k)
        have h3 := List.length_take_le k (pcs s)
        omega
      have HN : Hid (wds ((pcs s).take (k + 1)) = wds ((pcs s).take k ++ [x])) := by
        show _ = _
        rw [List.take_add_one, hx]
        rfl
      obtain ⟨b, rfl⟩ : ∃ b, ua = some ⟨b, 0, none⟩ := by
        rcases hvr.own.2 with ⟨h1, h2⟩ | ⟨g, cap, cur, h1, _⟩
        · have : un = 0 := h2
          omega
        · simp only [Value.slice.injEq] at h1
          exact ⟨g, h1.1⟩
      have c0 := hvr.own.cells (g := b) rfl k (.string x) (by rw [List.getElem?_map, hx]; rfl)
      rw [add_none, Nat.zero_add] at c0
      have i1 : (0 : Int) ≤ (k : Int) := by omega
      have i2 : (k : Int) < (un : Int) := by omega
      have hpx : un ≤ 1048577 := by omega
      clear hun hx hpl
      by_cases hx0 : x = ⟨#[]⟩
      · subst hx0
        have HW := hide hwr
        have HV := hide hvr
        have HB := hide hbr
        have HNE := hide hne
        clear hwr hvr hbr hne hol
        go_wp2_with fail
        go_roundw
        case rel => exact ⟨k + 1, u2, by omega, rfl, by go_num, by rw [unhide HN, wds_snoc, if_pos (show (⟨#[]⟩ : ByteArray).size = 0 from rfl)]; exact unhide HW, unhide HV, unhide HB, unhide HNE⟩
        case measure => simp [intOf] <;> omega
      · have hd : x.toList.isEmpty = false := by
          rw [ByteArray.toList_eq]
          cases he : x.data.toList with
          | nil => exact absurd (size0 (by rw [← ByteArray.size_data, ← Array.length_toList, he]; rfl)) hx0
          | cons a l => rfl
        have HX0 := hide hx0
        clear hx0
        have ba := below_alloc wr (.cells #[.string (x)] 9)
        have HR5 := hide (hwr.below ba (Nat.le_refl _))
        have HV5 := hide (hvr.below ba (Nat.le_refl _))
        have J5 := hide (hbr.trans (ba.mono hbr.size))
        have own5 := (unhide HR5).own
        have HNE := hide hne
        have HOL := hide hol
        clear ba hwr hbr hvr hne hol
        go_wp2_with (at_builtin; refine wpList_append_own_at _ rfl _ _ 39 rfl w.heap.size 9 i0 (.string ⟨#[]⟩) 1 16 Tryd.underlying39 hi hz0 hz1 hz2 rfl (by decide) _ _ _ rfl own5 ⟨wr.heap.size, 0, none⟩ 1 1 [.string (x)] rfl rfl (one_atS _ _ _) (by intro u hu; simp at hu; subst hu; rfl) (by unfold maxLen; omega) (by omega) (unhide J5).size ?_)
        intro v' w6 hown2 hgrow _ hblk
        obtain ⟨a6, c6, rfl, hw6⟩ := (unhide HR5).step (ns := [x]) rfl hown2
        have J6 := hide ((unhide J5).grown hgrow (unhide J5).size (fun g e => (own5.lt g e).1))
        have HW6 := hide hw6
        have HV6 : Hid (WRow (w.heap.size + 1) w6 ⟨some ⟨b, 0, none⟩, un, uc⟩ (pcs s)) := ⟨own_grown (unhide HV5).own hgrow (fun g e e2 => (unhide HNE) g e (by first | exact e2.symm | exact e2)), (unhide HV5).len⟩
        have HN6 : Hid (∀ g, (Value.slice (some ⟨b, 0, none⟩) un uc).ownBlock = some g → (Value.slice a6 (u2.n + 1) c6).ownBlock ≠ some g) := fun g e e2 => by
          have e3 : (Value.slice a6 (u2.n + [x].length) c6).ownBlock = some g := e2
          rcases hblk with h | h
          · exact (unhide HNE) g e (h.symm.trans e3)
          · have h1 := Option.some.inj (h.symm.trans e3)
            have h2 := (unhide HOL) g e
            omega
        clear hown2 hgrow hblk own5 hw6 J5 HR5 HV5
        go_wp2_with fail
        go_roundw
        case rel => exact ⟨k + 1, ⟨a6, u2.n + 1, c6⟩, by omega, rfl, by go_num, by rw [unhide HN, wds_snoc, if_neg (fun q => (unhide HX0) (size0 q))]; exact unhide HW6, unhide HV6, unhide J6, unhide HN6⟩
        case measure => simp [intOf] <;> omega
    · obtain rfl : k = un := by omega
      have hkn : ¬ ((k : Int) < (k : Int)) := by omega
      have HE : Hid (wds ((pcs s).take k) = wds (pcs s)) := by
        show _ = _
        rw [List.take_of_length_le (by omega)]
      clear hun
      go_wp2_with fail
      go_ret
      exact ⟨u2, rfl, by rw [← unhide HE]; exact hwr, hbr⟩

set_option maxHeartbeats 2000000 in
theorem specWordsOf_any (s : ByteArray) (w : World) (hs : s.size ≤ 1048576) :
    Calls Tryd.prog 11 #[.string s] w fun e w' => ∃ u : Sl, e = .returned (.agg #[.int .i64 0, .slice u.a u.n u.c]) ∧ WRow w.heap.size w' u (wds (pcs s)) ∧ Below w.heap.size w w' := by
  have HC := hide (fun (W : World) => l16Words_any s W hs)
  go_enter Tryd.func11, Tryd.ntmps11
  go_wp2_with fail
  refine ((unhide HC) _).mono ?_
  rintro e w2 ⟨⟨ua, un, uc⟩, rfl, hu, b2⟩
  have kr : SBlk w2 w.heap.size [.int .i64 0, .slice none 0 0] 41 := (SBlk.new w #[.int .i64 0, .slice none 0 0] 41).below b2 (by simp)
  have k2 : SBlk ((w2.setCell ⟨w.heap.size, 0, none⟩ (.int .i64 0)).setCell ⟨w.heap.size, 1, none⟩ (.slice ua un uc)) w.heap.size [.int .i64 0, .slice ua un uc] 41 := (kr.set 0 _).set 1 _
  have hb2 : Below w.heap.size w w2 := (below_alloc w _).trans (b2.mono (by simp))
  have hu2 : WRow w.heap.size ((w2.setCell ⟨w.heap.size, 0, none⟩ (.int .i64 0)).setCell ⟨w.heap.size, 1, none⟩ (.slice ua un uc)) ⟨ua, un, uc⟩ (wds (pcs s)) := by
    refine ⟨ownsRow_base (B' := w.heap.size) (ownsRow_setCell_below (ownsRow_setCell_below hu.own (by simp) _) (by simp) _) (by simp), hu.len⟩
  have r0 := k2.cell 0
  have r1 := k2.cell 1
  have q0 := kr.cell 0
  have q1 := kr.cell 1
  have f0 := kr.free 0
  have f1 := kr.free 1
  simp only [List.getElem?_cons_zero, List.getElem?_cons_succ] at r0 r1 q0 q1
  have HU2 := hide hu2
  have HB2 := hide hb2
  clear hu2 hb2 hu b2 kr k2 HC
  go_wp2_with fail
  refine bodyPost_ret (v := .agg #[.int .i64 0, .slice ua un uc]) (by simp [results, Tryd.results11, go_sem, r0, r1]) rfl ⟨⟨ua, un, uc⟩, rfl, unhide HU2, ?_⟩
  exact ((unhide HB2).setCell (p := ⟨w.heap.size, 0, none⟩) (Nat.le_refl _) _).setCell (p := ⟨w.heap.size, 1, none⟩) (Nat.le_refl _) _

end Go.Proofs.YtpkfgffgldjceaaDoor

/- What is proved here: the laws' helper functions over a list of words: markText, markStringS, heldStringS, eqStringS, and those over a WordsResult. -/
namespace Go.Proofs.YtpkfgffgldjceaaDoor
open Go.RowKit
set_option linter.unusedVariables false
set_option linter.unusedSimpArgs false
set_option maxRecDepth 100000

theorem below_grown {w w' : World} (b : Below w.heap.size w w') (row : Option Nat) : w.grownBy w' row := ⟨b.os, b.tape, b.output, b.size, fun k hk _ => b.block k hk⟩

/-- The digits of a number, put ahead of a text. -/
def dgo (n : Nat) (out : ByteArray) : ByteArray := if h : n = 0 then out else dgo (n / 10) (strOfNums [48 + ((n % 10 : Nat) : Int)] ++ out)
termination_by n
decreasing_by omega

theorem dgo_zero (out : ByteArray) : dgo 0 out = out := by rw [dgo, dif_pos rfl]
theorem dgo_step {n : Nat} (out : ByteArray) (h : n ≠ 0) : dgo n out = dgo (n / 10) (strOfNums [48 + ((n % 10 : Nat) : Int)] ++ out) := by rw [dgo, dif_neg h]

/-- A mark. -/
def mtx (k : Nat) : ByteArray := ⟨#[109]⟩ ++ dgo k ⟨#[]⟩

set_option maxHeartbeats 4000000 in
theorem markText_any (k : Nat) (h1 : 1 ≤ k) (h2 : k ≤ 4194304) (w : World) :
    Calls Tryd.prog 63 #[.int .i64 k] w fun e w' => e = .returned (.string (mtx k)) ∧ Below w.heap.size w w' := by
  have d0 : decide ((k : Int) ≤ 0) = false := decide_eq_false (by omega)
  go_enter Tryd.func63, Tryd.ntmps63
  go_wp2_with fail
  go_loopw [0, 3] (fun q o wr => ∃ (m : Nat) (out : ByteArray), q = .int .i64 m ∧ o = .string out ∧ dgo m out = dgo k ⟨#[]⟩ ∧ out.size + m ≤ k ∧ Below w.heap.size w wr) (fun q _ _ => (intOf q).toNat)
  case atStart => exact ⟨k, ⟨#[]⟩, rfl, rfl, rfl, by show 0 + k ≤ k; omega, Below.refl _ _⟩
  case round =>
    obtain ⟨m, out, rfl, rfl, hd, hs, hb⟩ := hrel
    by_cases h0 : m = 0
    · subst h0
      have hk : ¬ (0 : Int) > 0 := by omega
      have HM : Hid (mtx k = ⟨#[109]⟩ ++ out) := by
        show _ = _
        unfold mtx
        rw [← hd, dgo_zero]
      have hsz : ¬ (9223372036854775807 < 1 + out.size) := by omega
      clear hd
      go_wp2_with fail
      go_ret
      exact ⟨by rw [unhide HM]; rfl, hb⟩
    · obtain ⟨r, hr⟩ : ∃ r, r = m % 10 := ⟨_, rfl⟩
      obtain ⟨q, hq⟩ : ∃ q, q = m / 10 := ⟨_, rfl⟩
      have HD : Hid (dgo q (strOfNums [48 + (r : Int)] ++ out) = dgo k ⟨#[]⟩) := by
        show _ = _
        rw [← hd, dgo_step out h0, hr, hq]
      have hr9 : r < 10 := by omega
      have hqm : q < m := by omega
      have hk : decide ((m : Int) > 0) = true := decide_eq_true (by omega)
      have d1 : (m : Int).tdiv 10 = (q : Int) := by rw [Int.tdiv_eq_ediv_of_nonneg (by omega)]; omega
      have d1' : (m : Int) / 10 = (q : Int) := by omega
      have d2 : IntKind.i64.wrap (q : Int) = (q : Int) := by rw [IntKind.wrap_i64]; omega
      have r1 : (m : Int).tmod 10 = (r : Int) := by rw [Int.tmod_eq_emod_of_nonneg (by omega)]; omega
      have r1' : (m : Int) % 10 = (r : Int) := by omega
      have r2 : IntKind.i64.wrap (r : Int) = (r : Int) := by rw [IntKind.wrap_i64]; omega
      have CV := digit_convW _ wr.heap.size (48 + (r : Int)) (brow_oneW wr (48 + (r : Int)) 5 (by omega) (by omega))
      have wr1 : IntKind.i64.wrap (48 + (r : Int)) = 48 + (r : Int) := by rw [IntKind.wrap_i64]; omega
      have wr2 : IntKind.u8.wrap (48 + (r : Int)) = 48 + (r : Int) := by rw [IntKind.wrap_u8]; omega
      have HB := hide (hb.trans ((below_alloc wr (.cells #[.int .u8 (48 + (r : Int))] 5)).mono hb.size))
      have HZ : Hid ((strOfNums [48 + (r : Int)]).size = 1) := by show _ = _; rw [strOfNums_size]; rfl
      generalize strOfNums [48 + (r : Int)] = ds at CV HD HZ
      have hsz : ¬ (9223372036854775807 < ds.size + out.size) := by have := unhide HZ; omega
      have hss : ds.size + out.size + q ≤ k := by have := unhide HZ; omega
      clear hr hq hd hb
      go_wp2_with fail
      go_roundw
      case rel => exact ⟨q, ds ++ out, by go_num, rfl, unhide HD, by rw [ByteArray.size_append]; exact hss, unhide HB⟩
      case measure => simp [intOf] <;> omega

/-- The marks of a list. -/
def tmarks (k0 n : Nat) : List ByteArray := (List.range n).map (fun i => mtx (k0 + i))
theorem tmarks_len (k0 n : Nat) : (tmarks k0 n).length = n := by simp [tmarks]
theorem tmarks_succ (k0 n : Nat) : tmarks k0 (n + 1) = tmarks k0 n ++ [mtx (k0 + n)] := by simp [tmarks, List.range_succ]
theorem tmarks_at (k0 n k : Nat) (h : k < n) : (tmarks k0 n)[k]? = some (mtx (k0 + k)) := by simp [tmarks, h]
theorem tmark_step (k0 : Nat) (zs : List ByteArray) (n k : Nat) (hl : zs.length = n) (hk : k < n) :
    ((tmarks k0 k ++ zs.drop k).map Value.string).set k (.string (mtx (k0 + k))) = (tmarks k0 (k + 1) ++ zs.drop (k + 1)).map Value.string := by
  rw [← List.map_set]
  congr 1
  rw [List.drop_eq_getElem_cons (by omega), List.set_append, if_neg (by rw [tmarks_len]; omega), tmarks_len, Nat.sub_self, List.set_cons_zero, tmarks_succ, List.append_assoc]
  rfl

set_option maxHeartbeats 2000000 in
theorem markStringS_any (B g n cap : Nat) (zs : List ByteArray) (k0 : Nat) (w : World) (h : w.ownsRow B 9 1 (.slice (some ⟨g, 0, none⟩) n cap) n (zs.map Value.string)) (hn : n ≤ 2097152) (hk0 : 1 ≤ k0) (hk1 : k0 ≤ 2097152) :
    Calls Tryd.prog 36 #[.slice (some ⟨g, 0, none⟩) n cap, .int .i64 k0] w fun e w' => e = .returned (.int .i64 ((k0 + n : Nat) : Int)) ∧
      w'.ownsRow B 9 1 (.slice (some ⟨g, 0, none⟩) n cap) n ((tmarks k0 n).map Value.string) ∧ w.grownBy w' (some g) := by
  have hzl : zs.length = n := by simpa using h.1
  go_enter Tryd.func36, Tryd.ntmps36
  go_wp2_with fail
  go_loopw [1, 5] (fun q i wr => ∃ k : Nat, k ≤ n ∧ i = .int .i64 k ∧ q = .int .i64 ((k0 + k : Nat) : Int) ∧ wr.ownsRow B 9 1 (.slice (some ⟨g, 0, none⟩) n cap) n ((tmarks k0 k ++ zs.drop k).map Value.string) ∧ w.grownBy wr (some g))
    (fun _ i _ => n - (intOf i).toNat)
  case atStart => exact ⟨0, Nat.zero_le _, rfl, by simp, by simpa [tmarks] using h, grownBy_refl w _⟩
  case round =>
    obtain ⟨k, hk, rfl, rfl, hown, hgr⟩ := hrel
    by_cases hlt : k < n
    · have HM := hide (markText_any (k0 + k) (by omega) (by omega) wr)
      have i1 : (0 : Int) ≤ (k : Int) := by omega
      have i2 : (k : Int) < (n : Int) := by omega
      have HO := hide hown
      have HGR := hide hgr
      clear hown hgr
      go_wp2_with fail
      refine (unhide HM).mono ?_
      rintro e w1 ⟨rfl, b1⟩
      have o1 := own_below (unhide HO) b1 (Nat.le_refl _)
      have hfz := o1.frozenAt k
      obtain ⟨u, hu⟩ : ∃ u, w1.cell? ⟨g, k, none⟩ = some u := by
        rw [o1.cellAt k (by omega)]
        exact ⟨_, List.getElem?_eq_getElem (by rw [o1.1]; omega)⟩
      have R := o1.stored k (.string (mtx (k0 + k)))
      rw [tmark_step k0 zs n k hzl hlt] at R
      have HR := hide R.1
      have HG := hide (grownBy_trans (grownBy_trans (unhide HGR) (below_grown b1 (some g))) R.2)
      clear R o1 b1 HM HO HGR
      go_wp2_with fail
      go_roundw
      case rel => exact ⟨k + 1, by omega, by go_num, by go_num, unhide HR, unhide HG⟩
      case measure => simp [intOf] <;> omega
    · obtain rfl : k = n := by omega
      rw [List.drop_eq_nil_of_le (by omega), List.append_nil] at hown
      have hkn : ¬ ((k : Int) < (k : Int)) := by omega
      go_wp2_with fail
      go_ret
      exact ⟨rfl, hown, hgr⟩

set_option maxHeartbeats 1000000 in
theorem markStringS_nil (k0 : Nat) (w : World) :
    Calls Tryd.prog 36 #[.slice none 0 0, .int .i64 k0] w fun e w' => e = .returned (.int .i64 k0) ∧ w' = w := by
  go_enter Tryd.func36, Tryd.ntmps36
  go_wp2_with fail
  refine wp_loop_rounds 1 ?_
  rw [rounds_succ]
  go_wp2_with fail
  go_ret
  exact ⟨rfl, rfl⟩

theorem markStringS_own (B : Nat) (u : Sl) (zs : List ByteArray) (k0 : Nat) (w : World) (h : WRow B w u zs) (hn : u.n ≤ 2097152) (hk0 : 1 ≤ k0) (hk1 : k0 ≤ 2097152) :
    Calls Tryd.prog 36 #[.slice u.a u.n u.c, .int .i64 k0] w fun e w' => e = .returned (.int .i64 ((k0 + u.n : Nat) : Int)) ∧
      WRow B w' u (tmarks k0 u.n) ∧ w.grownBy w' (Value.slice u.a u.n u.c).ownBlock := by
  obtain ⟨a, n, cap⟩ := u
  obtain ⟨h, hl⟩ := h
  simp only at h hl hn ⊢
  rcases h.2 with ⟨h', h0⟩ | ⟨g, cap', cur, h', _⟩
  · simp only [Value.slice.injEq] at h'
    obtain ⟨rfl, rfl, rfl⟩ := h'
    refine (markStringS_nil k0 w).mono fun e w' hq => ?_
    obtain ⟨rfl, rfl⟩ := hq
    exact ⟨by simp, ⟨World.ownsRow_nil _ _ _ _, by simp [tmarks]⟩, grownBy_refl _ _⟩
  · simp only [Value.slice.injEq] at h'
    obtain ⟨rfl, _, rfl⟩ := h'
    refine (markStringS_any B g n cap zs k0 w h hn hk0 hk1).mono fun e w' hq => ?_
    exact ⟨hq.1, ⟨hq.2.1, (tmarks_len _ _).symm⟩, hq.2.2⟩

/-- Where a list of words lies. -/
theorem WRow.at {B : Nat} {w : World} {u : Sl} {ws : List ByteArray} (h : WRow B w u ws) (hp : 0 < u.n) : ∃ b, u.a = some ⟨b, 0, none⟩ ∧ ∀ (k : Nat) (x : ByteArray), ws[k]? = some x → ∀ W, Below w.heap.size w W → W.cell? ⟨b, k, none⟩ = some (.string x) := by
  obtain ⟨a, n, cap⟩ := u
  obtain ⟨h, hl⟩ := h
  simp only at h hl hp ⊢
  rcases h.2 with ⟨h', h0⟩ | ⟨g, cap', cur, h', _⟩
  · omega
  · simp only [Value.slice.injEq] at h'
    obtain ⟨rfl, _, rfl⟩ := h'
    refine ⟨g, rfl, fun k x hx W hW => ?_⟩
    have := (own_below h hW (Nat.le_refl _)).cells (g := g) rfl k (.string x) (by rw [List.getElem?_map, hx]; rfl)
    rw [add_none, Nat.zero_add] at this
    exact this

set_option maxHeartbeats 2000000 in
theorem heldStringS_any (B : Nat) (u : Sl) (k0 : Nat) (w : World) (h : WRow B w u (tmarks k0 u.n)) (hn : u.n ≤ 2097152) (hk0 : 1 ≤ k0) (hk1 : k0 ≤ 2097152) :
    Calls Tryd.prog 37 #[.slice u.a u.n u.c, .int .i64 k0] w fun e w' => e = .returned (.int .i64 ((k0 + u.n : Nat) : Int)) ∧ Below w.heap.size w w' := by
  rcases Nat.eq_zero_or_pos u.n with h0 | hp
  · have ha : u.a = none ∨ u.a ≠ none := by by_cases q : u.a = none <;> simp [q]
    obtain ⟨a, n, c⟩ := u
    simp only at h0 hn ⊢
    subst h0
    clear h
    go_enter Tryd.func37, Tryd.ntmps37
    go_wp2_with fail
    refine wp_loop_rounds 1 ?_
    rw [rounds_succ]
    go_wp2_with fail
    go_ret
    exact ⟨ret_int (by simp), Below.refl _ _⟩
  · obtain ⟨b, ea, hc⟩ := h.at hp
    obtain ⟨a, n, c⟩ := u
    simp only at ea hc hn ⊢
    subst ea
    have HC := hide hc
    clear h hc hp
    go_enter Tryd.func37, Tryd.ntmps37
    go_wp2_with fail
    go_loopw [1, 5] (fun q i wr => ∃ k : Nat, k ≤ n ∧ i = .int .i64 k ∧ q = .int .i64 ((k0 + k : Nat) : Int) ∧ Below w.heap.size w wr) (fun _ i _ => n - (intOf i).toNat)
    case atStart => exact ⟨0, Nat.zero_le _, rfl, rfl, Below.refl _ _⟩
    case round =>
      obtain ⟨k, hk, rfl, rfl, hb⟩ := hrel
      by_cases hlt : k < n
      · have HM := hide (fun (W : World) => markText_any (k0 + k) (by omega) (by omega) W)
        have HCK := hide (fun (W : World) (hW : Below wr.heap.size wr W) => (unhide HC) k (mtx (k0 + k)) (tmarks_at k0 n k hlt) W (hb.trans (hW.mono hb.size)))
        have hne : ((mtx (k0 + k)).toList != (mtx (k0 + k)).toList) = false := by simp
        have c0 := (unhide HCK) wr (Below.refl _ _)
        generalize mtx (k0 + k) = x at HM HCK hne c0
        have i1 : (0 : Int) ≤ (k : Int) := by omega
        have i2 : (k : Int) < (n : Int) := by omega
        have HB := hide hb
        clear hb
        go_wp2_with fail
        go_region_held3 (fun W => W.cell? ⟨b, k, none⟩ = some (.string x))
          (exact (unhide HCK) _ (by first | assumption | exact Below.refl wr.heap.size wr | exact (Below.refl wr.heap.size wr).drew | exact below_drewN (Below.refl wr.heap.size wr) _))
          (first | (go_at_call 63; refine ((unhide HM) _).mono ?_; rintro e w3 ⟨rfl, b3⟩; have K3 : Below wr.heap.size wr w3 := (Below.refl wr.heap.size wr).drew.trans (b3.mono (Nat.le_refl _))))
        all_goals
          have HB3 := hide ((unhide HB).trans (K3.mono (unhide HB).size))
          clear K3 b3 HCK HM HB
          go_wp2_with fail
          go_roundw
          case rel => exact ⟨k + 1, by omega, by go_num, by go_num, unhide HB3⟩
          case measure => simp [intOf] <;> omega
      · obtain rfl : k = n := by omega
        have hkn : ¬ ((k : Int) < (k : Int)) := by omega
        go_wp2_with fail
        go_ret
        exact ⟨rfl, hb⟩

set_option maxHeartbeats 2000000 in
theorem eqStringS_same (B C : Nat) (u v : Sl) (ws : List ByteArray) (w : World) (h : WRow B w u ws) (h' : WRow C w v ws) (hn : u.n ≤ 2097152) :
    Calls Tryd.prog 35 #[.slice u.a u.n u.c, .slice v.a v.n v.c] w fun e w' => e = .returned (.bool true) ∧ Below w.heap.size w w' := by
  have hu := h.len
  have hv := h'.len
  rcases Nat.eq_zero_or_pos u.n with h0 | hp
  · obtain ⟨a, n, c⟩ := u
    obtain ⟨a2, n2, c2⟩ := v
    simp only at h0 hn hu hv ⊢
    subst h0
    obtain rfl : n2 = 0 := by omega
    clear h h' hu hv
    go_enter Tryd.func35, Tryd.ntmps35
    go_wp2_with fail
    refine wp_loop_rounds 1 ?_
    rw [rounds_succ]
    go_wp2_with fail
    go_ret
    exact ⟨rfl, Below.refl _ _⟩
  · obtain ⟨b, ea, hc⟩ := h.at hp
    obtain ⟨b2, ea2, hc2⟩ := h'.at (by omega)
    obtain ⟨a, n, c⟩ := u
    obtain ⟨a2, n2, c2⟩ := v
    simp only at ea ea2 hc hc2 hn hu hv ⊢
    subst ea ea2
    obtain rfl : n2 = n := by omega
    have HC := hide hc
    have HC2 := hide hc2
    have HU := hide hu
    have hnn : ((n2 : Int) != (n2 : Int)) = false := by simp
    clear h h' hc hc2 hp hv hu
    go_enter Tryd.func35, Tryd.ntmps35
    go_wp2_with fail
    go_loopw [5] (fun i wr => ∃ k : Nat, k ≤ n2 ∧ i = .int .i64 k ∧ Below w.heap.size w wr) (fun i _ => n2 - (intOf i).toNat)
    case atStart => exact ⟨0, Nat.zero_le _, rfl, Below.refl _ _⟩
    case round =>
      obtain ⟨k, hk, rfl, hb⟩ := hrel
      by_cases hlt : k < n2
      · obtain ⟨x, hx⟩ : ∃ x, ws[k]? = some x := ⟨_, List.getElem?_eq_getElem (by rw [← unhide HU]; exact hlt)⟩
        have c0 := (unhide HC) k x hx wr hb
        have c1 := (unhide HC2) k x hx wr hb
        have hne : (x.toList != x.toList) = false := by simp
        have i1 : (0 : Int) ≤ (k : Int) := by omega
        have i2 : (k : Int) < (n2 : Int) := by omega
        have HB := hide hb
        clear hb hx
        go_wp2_with fail
        go_quiet (fail)
        go_wp2_with fail
        go_roundw
        case rel => exact ⟨k + 1, by omega, by go_num, below_drewN (unhide HB) _⟩
        case measure => simp [intOf] <;> omega
      · obtain rfl : k = n2 := by omega
        have hkn : ¬ ((k : Int) < (k : Int)) := by omega
        go_wp2_with fail
        go_ret
        exact ⟨rfl, hb⟩

set_option maxHeartbeats 1000000 in
theorem eqWords_same (B C : Nat) (u v : Sl) (ws : List ByteArray) (c : Int) (w : World) (h : WRow B w u ws) (h' : WRow C w v ws) (hn : u.n ≤ 2097152) :
    Calls Tryd.prog 13 #[.agg #[.int .i64 c, .slice u.a u.n u.c], .agg #[.int .i64 c, .slice v.a v.n v.c]] w fun e w' => e = .returned (.bool true) ∧ Below w.heap.size w w' := by
  have hcc : (c != c) = false := by simp
  have hb := fun o p => ((Below.refl w.heap.size w).alloc (Nat.le_refl _) o).alloc (by simp) p
  have D := hide (fun o p => eqStringS_same B C u v ws ((w.alloc o).alloc p) (h.below (hb o p) (Nat.le_refl _)) (h'.below (hb o p) (Nat.le_refl _)) hn)
  have HB := hide hb
  clear h h' hb
  go_enter Tryd.func13, Tryd.ntmps13
  go_wp2_with fail
  refine ((unhide D) _ _).mono ?_
  rintro e w1 ⟨rfl, b1⟩
  go_wp2_with fail
  go_ret
  exact ⟨rfl, ((unhide HB) _ _).trans (b1.mono ((unhide HB) _ _).size)⟩

set_option maxHeartbeats 1000000 in
theorem markWords_own (B : Nat) (u : Sl) (zs : List ByteArray) (c : Int) (k0 : Nat) (w : World) (h : WRow B w u zs) (hn : u.n ≤ 2097152) (hk0 : 1 ≤ k0) (hk1 : k0 ≤ 2097152) :
    Calls Tryd.prog 14 #[.agg #[.int .i64 c, .slice u.a u.n u.c], .int .i64 k0] w fun e w' => e = .returned (.int .i64 ((k0 + u.n : Nat) : Int)) ∧
      WRow B w' u (tmarks k0 u.n) ∧ w.grownBy w' (Value.slice u.a u.n u.c).ownBlock := by
  have D := hide (fun o => markStringS_own B u zs k0 (w.alloc o) (h.below ((Below.refl w.heap.size w).alloc (Nat.le_refl _) o) (Nat.le_refl _)) hn hk0 hk1)
  clear h
  go_enter Tryd.func14, Tryd.ntmps14
  go_wp2_with fail
  refine ((unhide D) _).mono ?_
  rintro e w1 ⟨rfl, o1, g1⟩
  go_wp2_with fail
  go_ret
  exact ⟨rfl, o1, grownBy_trans (World.grownBy_alloc w _ _) g1⟩

set_option maxHeartbeats 1000000 in
theorem heldWords_any (B : Nat) (u : Sl) (c : Int) (k0 : Nat) (w : World) (h : WRow B w u (tmarks k0 u.n)) (hn : u.n ≤ 2097152) (hk0 : 1 ≤ k0) (hk1 : k0 ≤ 2097152) :
    Calls Tryd.prog 15 #[.agg #[.int .i64 c, .slice u.a u.n u.c], .int .i64 k0] w fun e w' => e = .returned (.int .i64 ((k0 + u.n : Nat) : Int)) ∧ Below w.heap.size w w' := by
  have hb := fun o => (Below.refl w.heap.size w).alloc (Nat.le_refl _) o
  have D := hide (fun o => heldStringS_any B u k0 (w.alloc o) (h.below (hb o) (Nat.le_refl _)) hn hk0 hk1)
  have HB := hide hb
  have h0 : decide (((k0 + u.n : Nat) : Int) < 0) = false := decide_eq_false (by omega)
  clear h hb
  go_enter Tryd.func15, Tryd.ntmps15
  go_wp2_with fail
  refine ((unhide D) _).mono ?_
  rintro e w1 ⟨rfl, b1⟩
  go_wp2_with fail
  go_ret
  exact ⟨rfl, ((unhide HB) _).trans (b1.mono ((unhide HB) _).size)⟩

end Go.Proofs.YtpkfgffgldjceaaDoor
