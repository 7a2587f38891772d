/- What is proved here: what the program's WideText answers. -/
import Derived.Test.YtpcokoejmodmaaaWtF
import Derived.Test.YtpcokoejmodmaaaWdE
import Derived.Test.YtpcokoejmodmaaaInfo
import Derived.Laws.Shifts
import Derived.Laws.Bits64
import Derived.Laws.BitsLemmas
import Derived.Laws.BitsAllLaws
import Derived.Deep.DeepCutAuto
import Derived.Deep.CutBlock
namespace Go.Proofs.Ytpcokoejmodmaaa
open Go.RowKit
set_option linter.unusedVariables false

/-- A load under a test that holds, by its run's equation. -/
theorem wpList_load_if {P : Program} {ops : Array Oper} {rest : List Oper} {op : Oper} {a : Act} {w : World} {Q : Exit → Act → World → Prop} (hgd : Region.wanted op (yielded ops a.tmps) = true) (ty : TypeId) (x : Operand) (ho : op.op = .load ty x)
    (p v : Value) (hx : a.eval x = p) (hrun : (Instr.loadAt ty p).run P w = .ok v w) (h : wpList P ops Q rest (a.put op.dst v) w) : wpList P ops Q (op :: rest) a w := by
  unfold wpList
  rw [if_pos hgd]
  left
  unfold Oper.wp execOp
  simp only [ho, hx, Sem.run_bind, hrun, Sem.run_pure, Result.andThen_ok]
  exact h

theorem idx_dig64 (n : Nat) (hn : n < 16) (W : World) : (Instr.index 9 (.string { data := #[48, 49, 50, 51, 52, 53, 54, 55, 56, 57, 97, 98, 99, 100, 101, 102] }) (.int .i64 (n : Int))).run Try.prog W = .ok (.int .u8 (hd (n : Int))) W := by
  rcases (by omega : n = 0 ∨ n = 1 ∨ n = 2 ∨ n = 3 ∨ n = 4 ∨ n = 5 ∨ n = 6 ∨ n = 7 ∨ n = 8 ∨ n = 9 ∨ n = 10 ∨ n = 11 ∨ n = 12 ∨ n = 13 ∨ n = 14 ∨ n = 15) with r | r | r | r | r | r | r | r | r | r | r | r | r | r | r | r <;> subst r <;> kernel_rfl

theorem idx_int64 (v : Int) (h0 : 0 ≤ v) (h1 : v < 16) (W : World) : (Instr.index 9 (.string { data := #[48, 49, 50, 51, 52, 53, 54, 55, 56, 57, 97, 98, 99, 100, 101, 102] }) (.int .i64 v)).run Try.prog W = .ok (.int .u8 (hd v)) W := by
  obtain ⟨n, rfl⟩ := Int.eq_ofNat_of_zero_le h0
  exact idx_dig64 n (by omega) W

theorem tw_i64 (n : Int) (h₀ : 0 ≤ n) (h₁ : n < 2 ^ 63) : IntKind.i64.wrap n = n := by rw [IntKind.wrap_i64]; omega

theorem and_dig (n : Int) (h0 : 0 ≤ n) (h1 : n < 9223372036854775808) : bits .and .i64 n 15 = n % 16 := by
  have := bits_mask .i64 63 (by decide) tw_i64 4 (by decide) n h0 (by omega)
  rw [show (2 : Int) ^ 4 - 1 = 15 by decide] at this
  rw [this, show (2 : Int) ^ 4 = 16 by decide]

set_option maxHeartbeats 2000000 in
theorem digit_any (xs : List Int) (hx : xs.length = 8) (hxr : ∀ i, 0 ≤ xs.getD i 0 ∧ xs.getD i 0 ≤ 4294967295) (p : Nat) (hp : p < 64) (w : World) :
    Calls Try.prog 30 #[.agg (nvals xs).toArray, .int .i64 (p : Int)] w fun e w' => e = .returned (.int .u8 (hd (dig xs p))) ∧ Below w.heap.size w w' := by
  obtain ⟨w1, hw1⟩ : ∃ w1, w1 = w.alloc (.cells (nvals xs).toArray 53) := ⟨_, rfl⟩
  have e1 := hw1.symm
  have G1 : Below w.heap.size w w1 := by rw [hw1]; exact below_alloc w _
  have X1 : NBlk w1 w.heap.size xs 53 := by
    rw [hw1]
    exact NBlk.new w xs _
  have hde : dig xs p = xs.getD (p / 8) 0 / 2 ^ (4 * (p % 8)) % 16 := rfl
  have hdr := dig_range xs p
  obtain ⟨m, hm⟩ : ∃ m, m = p / 8 := ⟨_, rfl⟩
  obtain ⟨q, hq⟩ : ∃ q, q = p % 8 := ⟨_, rfl⟩
  rw [← hm, ← hq] at hde
  have c1 := X1.cell m (by omega)
  have rx := hxr m
  have hIX := idx_int64 (dig xs p) hdr.1 hdr.2
  generalize dig xs p = v at hde hdr hIX ⊢
  generalize xs.getD m 0 = x at c1 rx hde
  obtain ⟨s, hs⟩ : ∃ s : Nat, s = 4 * q := ⟨_, rfl⟩
  rw [← hs] at hde
  have t1 : ((p : Int)).tmod 8 = (q : Int) := by rw [Int.tmod_eq_emod_of_nonneg (by omega)]; omega
  have t2 : ((p : Int)).tdiv 8 = (m : Int) := by rw [Int.tdiv_eq_ediv_of_nonneg (by omega)]; omega
  have t1b : (p : Int) % 8 = (q : Int) := by omega
  have t2b : (p : Int) / 8 = (m : Int) := by omega
  have t3 : 4 * (q : Int) = (s : Int) := by omega
  have y1 : IntKind.i64.wrap (s : Int) = (s : Int) := by rw [IntKind.wrap_i64]; omega
  have y2 : IntKind.i64.wrap (m : Int) = (m : Int) := by rw [IntKind.wrap_i64]; omega
  have s0 : (0 : Int) ≤ (s : Int) := by omega
  have hs64 : s < 64 := by omega
  have j0 : (0 : Int) ≤ (m : Int) := by omega
  have j1 : (m : Int) < 8 := by omega
  have hz0 : 0 ≤ x / 2 ^ s := Int.ediv_nonneg rx.1 (by exact_mod_cast Nat.zero_le (2 ^ s))
  have hz1 : x / 2 ^ s ≤ x := Int.ediv_le_self _ rx.1
  have hand := and_dig (x / 2 ^ s) hz0 (by omega)
  rw [← hde] at hand
  have HG := hide G1
  clear X1 G1 hw1 hm hq hs hde
  generalize nvals xs = V at e1 ⊢
  go_enter Try.func30, Try.ntmps30
  go_wp2_with (rw [e1])
  go_ret
  exact ⟨rfl, unhide HG⟩

/-- One byte more of a row that is being filled. -/
theorem tfill_step (zs : List Int) (len k : Nat) (hl : zs.length = len) (hk : k < len) :
    ((zs.take k ++ List.replicate (len - k) 0).map (Value.int .u8)).set k (.int .u8 (zs.getD k 0)) = (zs.take (k + 1) ++ List.replicate (len - (k + 1)) 0).map (Value.int .u8) := fill_step zs len k hl hk

set_option maxHeartbeats 8000000 in
theorem implWText_any (a : Option Addr) (n cap : Nat) (xs : List Int) (w : World) (h : IRow w a n xs) (hl : n ≤ 1048576) :
    Calls Try.prog 13 #[.slice a n cap] w fun e w' => e = .returned (.agg #[.int .i64 (wfCode xs), .string (wtText xs)]) ∧ Below w.heap.size w w' := by
  obtain ⟨i0, hi, hz0, hz1, hz2⟩ := info_parts info5
  obtain ⟨w0, hw0⟩ : ∃ w0, w0 = w.alloc (.cells #[.int .i64 0, .string (strOfNums [])] 40) := ⟨_, rfl⟩
  have e0 : w.alloc (.cells #[.int .i64 0, .string { data := #[] }] 40) = w0 := hw0.symm
  have hb0 : Below w.heap.size w w0 := by rw [hw0]; exact below_alloc w _
  have hres : w0.heap[w.heap.size]? = some (.cells #[.int .i64 0, .string (strOfNums [])] 40 (0, 0)) := by
    rw [hw0]
    show (w.heap.push _)[w.heap.size]? = _
    simp
  have hx0 := h.below hb0 (Nat.le_refl _)
  have HF := hide (implWFault_any a n cap xs w0 hx0 hl)
  have hs0 : w.heap.size < w0.heap.size := lt_of_block hres
  clear hw0
  by_cases hc : wfCode xs = 0
  · obtain ⟨hxl, hxr⟩ := wf_zero xs hc
    have ev : wtText xs = strOfNums (dn (dig xs) (cnt (dig xs) 64)) := if_pos hc
    rw [ev, hc]
    rw [hc] at HF
    obtain rfl : n = 8 := by rw [← h.1]; exact hxl
    obtain ⟨ba, oa, rfl, hba, _⟩ := h.at (by omega)
    have HWX := hide (wideIn_any ba oa cap xs w0 hx0)
    have HDG := hide (fun p (hp : p < 64) W => digit_any xs hxl hxr p hp W)
    have HDR := hide (dig_range xs)
    have HXL := hide hxl
    have HB := hide hb0
    have HR := hide hres
    clear ev hc h hx0 hb0 hres hxl hxr
    generalize dig xs = d at HDG HDR ⊢
    have hC0 := cnt_pos d 64 (by omega)
    have hC1 := cnt_le d 64
    have HCZ := hide (cnt_zero d)
    have HCS := hide (cnt_stop d)
    have HDA := hide (dn_at d (cnt d 64))
    have HDL := hide (dn_length d (cnt d 64))
    have HDN := hide (dn_range d (unhide HDR) (cnt d 64))
    generalize dn d (cnt d 64) = T at HDA HDL HDN ⊢
    obtain ⟨C, hC⟩ : ∃ C, C = cnt d 64 := ⟨_, rfl⟩
    rw [← hC] at HDA HDL hC0 hC1
    have HCC := hide hC
    clear hC
    generalize cnt d = CN at HCZ HCS HCC
    go_enter Try.func13, Try.ntmps13
    go_wp2_with (rw [e0])
    refine (unhide HF).mono ?_
    rintro e w' ⟨rfl, rfl⟩
    go_wp2_with fail
    refine (unhide HWX).mono ?_
    rintro e w4 ⟨rfl, k4⟩
    obtain ⟨w5, hw5⟩ : ∃ w5, w5 = w4.alloc (.cells #[.int .i64 0, .int .i64 0, .int .i64 0, .int .i64 0, .int .i64 0, .int .i64 0, .int .i64 0, .int .i64 0] 53) := ⟨_, rfl⟩
    have e5 := hw5.symm
    have S5 : NBlk w5 w4.heap.size (List.replicate 8 0) 53 := by
      rw [hw5]
      exact NBlk.new w4 (List.replicate 8 0) _
    have G5 : Below w4.heap.size w4 w5 := by rw [hw5]; exact below_alloc w4 _
    obtain ⟨w6, hst, S6, K6, O6⟩ := store8 S5 (by simp) (unhide HXL)
    have HST := hide hst
    have k6 := k4.trans ((G5.trans (K6 _ (Nat.le_refl _))).mono k4.size)
    have HX6 := hide S6
    have HG6 := hide ((unhide HB).trans (k6.mono (unhide HB).size))
    have HR6 := hide ((k6.block _ hs0).trans (unhide HR))
    have s4 : w.heap.size < w4.heap.size := Nat.lt_of_lt_of_le hs0 k4.size
    clear hst S6 K6 O6 S5 G5 hw5 k4 k6 HB HR
    generalize hV : nvals xs = V at HST HDG
    have HV := hide hV
    clear hV
    go_upto_block 0 with (first | rw [e5] | refine wpList_store_by rfl 53 _ _ rfl _ _ rfl rfl _ (unhide HST) ?_)
    clear HST e5
    generalize w4.heap.size = b4 at HX6 s4 ⊢
    go_cut [5] (fun c wr => c = .int .i64 (C : Int) ∧ NBlk wr b4 xs 53 ∧ wr.heap[w.heap.size]? = some (.cells #[.int .i64 0, .string (strOfNums [])] 40 (0, 0)) ∧ Below w.heap.size w wr)
    case first =>
      go_wp2_with fail
      go_loopw [5] (fun c wr => ∃ k : Nat, 0 < k ∧ k ≤ 64 ∧ c = .int .i64 (k : Int) ∧ C = CN k ∧ NBlk wr b4 xs 53 ∧ wr.heap[w.heap.size]? = some (.cells #[.int .i64 0, .string (strOfNums [])] 40 (0, 0)) ∧ Below w.heap.size w wr) (fun c _ => (intOf c).toNat)
      case atStart => exact ⟨64, by omega, by omega, rfl, unhide HCC, unhide HX6, unhide HR6, unhide HG6⟩
      case round =>
        obtain ⟨k, hk0, hk, rfl, hCk, hX, hR, hG⟩ := hrel
        clear HX6 HR6 HG6
        obtain ⟨j, rfl⟩ : ∃ j, k = j + 1 := ⟨k - 1, by omega⟩
        have m0 : ((j + 1 : Nat) : Int) - 1 = (j : Int) := by omega
        by_cases hj : j = 0
        · subst hj
          have hd1 : decide ((1 : Int) < ((0 + 1 : Nat) : Int)) = false := rfl
          have HCK := hide (hCk.trans ((unhide HCS) 0 (.inl rfl)))
          have HX := hide hX
          have HR := hide hR
          have HG := hide hG
          clear hX hR hG hCk
          go_wp2_with fail
          go_meet
          exact ⟨by rw [unhide HCK], unhide HX, unhide HR, unhide HG⟩
        · obtain ⟨k, hkk⟩ : ∃ k, k = j + 1 := ⟨_, rfl⟩
          rw [← hkk] at m0 ⊢
          have hd1 : decide ((1 : Int) < (k : Int)) = true := decide_eq_true (by omega)
          have hd2 : decide (1 < k) = true := decide_eq_true (by omega)
          have hd3 : (1 : Int) < (k : Int) := by omega
          have hv := (unhide HDR) j
          have hcz := (unhide HCZ) j (by omega)
          have hcs := (unhide HCS) j
          have hdz := hd_zero hv.1 hv.2
          have HD := hide ((unhide HDG) j (by omega))
          have HLD := hide (load8 hX (unhide HXL))
          rw [unhide HV] at HLD
          have HX := hide hX
          have HR := hide hR
          have HG := hide hG
          have HKK := hide hkk
          have HCK := hide hCk
          have hlt4 := hX.lt
          have hlt0 : w.heap.size < wr.heap.size := lt_of_block hR
          clear hX hR hG hkk hCk
          generalize d j = v at hv hcz hcs hdz HD
          by_cases hv0 : v = 0
          · have hq : (hd v == 48) = true := by rw [hdz.2 hv0]; rfl
            have HT := hide ((unhide HCK).trans (hcz hv0))
            generalize hd v = c at HD hq
            clear hcz hcs hdz hv0 hv
            go_wp2_with (refine wpList_load_if (by rfl) 53 _ rfl _ _ rfl (unhide HLD) ?_)
            refine ((unhide HD) _).mono ?_
            rintro e w7 ⟨rfl, b7⟩
            have HX7 := hide ((unhide HX).below b7 hlt4)
            have HR7 := hide ((b7.block _ hlt0).trans (unhide HR))
            have HG7 := hide ((unhide HG).trans (b7.mono (unhide HG).size))
            clear b7
            go_wp2_with fail
            go_roundw
            case rel => exact ⟨j, by omega, by omega, rfl, unhide HT, unhide HX7, unhide HR7, unhide HG7⟩
            case measure => simp [intOf]; have := unhide HKK; omega
          · have hq : (hd v == 48) = false := by
              rw [beq_eq_false_iff_ne]
              exact fun e => hv0 (hdz.1 e)
            have HT := hide (((unhide HCK).trans (hcs (.inr hv0))).trans (unhide HKK).symm)
            generalize hd v = c at HD hq
            clear hcz hcs hdz hv0 hv
            go_wp2_with (refine wpList_load_if (by rfl) 53 _ rfl _ _ rfl (unhide HLD) ?_)
            refine ((unhide HD) _).mono ?_
            rintro e w7 ⟨rfl, b7⟩
            have HX7 := hide ((unhide HX).below b7 hlt4)
            have HR7 := hide ((b7.block _ hlt0).trans (unhide HR))
            have HG7 := hide ((unhide HG).trans (b7.mono (unhide HG).size))
            clear b7
            go_wp2_with fail
            go_meet
            exact ⟨by rw [unhide HT], unhide HX7, unhide HR7, unhide HG7⟩
    case rest =>
      obtain ⟨rfl, hX, hR, hG⟩ := hcut
      clear HX6 HR6 HG6 HCZ HCS HCC
      have hlt4 := hX.lt
      have hlt0 : w.heap.size < wc.heap.size := lt_of_block hR
      have HX := hide hX
      have HR := hide hR
      have HG := hide hG
      clear hX hR hG
      go_wp2_with (at_make; refine wpList_make_full _ rfl _ _ 22 rfl wc.heap.size 5 i0 (.int .u8 0) 1 Try.underlying22 hi hz0 hz1 _ _ _ _ C rfl rfl rfl rfl ?c1 ?c2 ?c3 ?_)
      case c1 => rw [hz2]; omega
      case c2 => unfold maxLen; omega
      case c3 => simp
      intro w8 hown hgrow
      have HX8 : Hid (NBlk w8 b4 xs 53) := (hgrow.block b4 (by omega) (by simp)).trans (unhide HX)
      have HR8 := hide ((hgrow.block w.heap.size (by omega) (by simp)).trans (unhide HR))
      have HG8 := hide ((unhide HG).grown hgrow (unhide HG).size (fun k e => by cases e))
      clear hgrow HX HR HG
      generalize wc.heap.size = g at hown hlt4 hlt0 ⊢
      have hown0 : w8.ownsRow g 5 1 (.slice (some ⟨g, 0, none⟩) C C) C ((T.take 0 ++ List.replicate (C - 0) 0).map (Value.int .u8)) := by
        have e : (madeCells #[Value.int .u8 0] C).toList = (T.take 0 ++ List.replicate (C - 0) 0).map (Value.int .u8) := by
          rw [toList_madeCells_one]; simp
        rw [← e]; exact hown
      have HO8 := hide hown0
      clear hown hown0
      go_wp2_with fail
      go_loopw [30] (fun i wr => ∃ k : Nat, k ≤ C ∧ i = .int .i64 k ∧ wr.ownsRow g 5 1 (.slice (some ⟨g, 0, none⟩) C C) C ((T.take k ++ List.replicate (C - k) 0).map (Value.int .u8)) ∧ NBlk wr b4 xs 53 ∧ wr.heap[w.heap.size]? = some (.cells #[.int .i64 0, .string (strOfNums [])] 40 (0, 0)) ∧ Below w.heap.size w wr) (fun i _ => C - (intOf i).toNat)
      case atStart => exact ⟨0, Nat.zero_le _, rfl, unhide HO8, unhide HX8, unhide HR8, unhide HG8⟩
      case round =>
        obtain ⟨k, hk, rfl, hown, hX, hR, hG⟩ := hrel
        clear HO8 HX8 HR8 HG8
        by_cases hlt : k < C
        · have hdk : decide ((k : Int) < (C : Int)) = true := decide_eq_true (by omega)
          have hdk2 : decide (k < C) = true := decide_eq_true hlt
          obtain ⟨j, hj⟩ : ∃ j, j = C - 1 - k := ⟨_, rfl⟩
          obtain ⟨C1, hC1'⟩ : ∃ C1, C1 + 1 = C := ⟨C - 1, by omega⟩
          have m0 : (C : Int) - 1 = (C1 : Int) := by omega
          have m1 : (C1 : Int) - (k : Int) = (j : Int) := by omega
          have y0 : IntKind.i64.wrap (C1 : Int) = (C1 : Int) := by rw [IntKind.wrap_i64]; omega
          have y1 : IntKind.i64.wrap (j : Int) = (j : Int) := by rw [IntKind.wrap_i64]; omega
          have i1 : (0 : Int) ≤ (k : Int) := by omega
          have i2 : (k : Int) < (C : Int) := by omega
          have hst := tfill_step T C k (unhide HDL) hlt
          rw [(unhide HDA) k hlt, ← hj] at hst
          have HD := hide ((unhide HDG) j (by omega))
          have HLD := hide (load8 hX (unhide HXL))
          rw [unhide HV] at HLD
          have hlt4' := hX.lt
          have hlt0' : w.heap.size < wr.heap.size := lt_of_block hR
          generalize hd (d j) = c at HD hst
          have HOW := hide hown
          have HST := hide hst
          have HX := hide hX
          have HR := hide hR
          have HG := hide hG
          clear hown hst hX hR hG hj hC1'
          go_wp2_with (refine wpList_load_by rfl 53 _ rfl _ _ rfl (unhide HLD) ?_)
          refine ((unhide HD) _).mono ?_
          rintro e w9 ⟨rfl, b9⟩
          have o9 := own_below (unhide HOW) b9 (Nat.le_refl _)
          have x9 := (unhide HX).below b9 hlt4'
          have r9 := (b9.block _ hlt0').trans (unhide HR)
          have g9 := (unhide HG).trans (b9.mono (unhide HG).size)
          have hfz := o9.frozenAt k
          obtain ⟨u, hu⟩ : ∃ u, w9.cell? ⟨g, k, none⟩ = some u := by
            rw [o9.cellAt k (by omega)]
            exact ⟨_, List.getElem?_eq_getElem (by rw [o9.1]; omega)⟩
          have R := o9.stored k (.int .u8 c)
          rw [unhide HST] at R
          have HO2 := hide R.1
          have HX2 := hide (x9.other (b' := g) k (.int .u8 c) (by omega))
          have HR2 := hide ((heap_setCell_other w9 ⟨g, k, none⟩ w.heap.size (.int .u8 c) (by simp; omega)).trans r9)
          have HG2 := hide (g9.setCell (p := ⟨g, k, none⟩) (by simp; omega) (.int .u8 c))
          clear R o9 x9 r9 g9 b9 HOW HX HR HG
          go_wp2_with fail
          go_roundw
          case rel => exact ⟨k + 1, by omega, by go_num, unhide HO2, unhide HX2, unhide HR2, unhide HG2⟩
          case measure => simp [intOf]; omega
        · obtain rfl : k = C := by omega
          have hdk : decide ((k : Int) < (k : Int)) = false := decide_eq_false (by omega)
          have hdk2 : decide (k < k) = false := decide_eq_false (by omega)
          have eT : T.take k ++ List.replicate (k - k) 0 = T := by rw [List.take_of_length_le (by rw [unhide HDL]; omega)]; simp
          rw [eT] at hown
          have hcv := conv_any (P := Try.prog) wr 22 5 9 Try.underlying22 Try.underlying5 Try.underlying9 (some ⟨g, 0, none⟩) k k T (BRow.own hown (unhide HDN))
          obtain ⟨q0, q1, f0, f1⟩ := res_facts hR
          generalize hS : strOfNums T = S at hcv
          have HS := hide hS
          clear hown hX hR hS eT
          go_wp2_with fail
          exact bodyPost_ret (v := .agg #[.int .i64 0, .string S]) (by simp [results, Try.results13, go_sem, q0, q1]) rfl ⟨by rw [unhide HS], (hG.setCell (by simp) _).setCell (by simp) _⟩
  · have ev : wtText xs = strOfNums [] := if_neg hc
    have hd : (wfCode xs != 0) = true := by simp [hc]
    rw [ev]
    generalize wfCode xs = c at HF hd
    obtain ⟨q0, q1, f0, f1⟩ := res_facts hres
    clear ev h hx0 hc hres
    go_enter Try.func13, Try.ntmps13
    go_wp2_with (rw [e0])
    refine (unhide HF).mono ?_
    rintro e w' ⟨rfl, rfl⟩
    go_wp2_with fail
    exact bodyPost_ret (v := .agg #[.int .i64 c, .string (strOfNums [])]) (by simp [results, Try.results13, go_sem, q0, q1, strOfNums]) rfl ⟨rfl, (hb0.setCell (by simp) _).setCell (by simp) _⟩

end Go.Proofs.Ytpcokoejmodmaaa
