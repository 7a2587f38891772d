/- What is proved here: what the model's WideText answers. -/
import Derived.Test.YtpcokoejmodmaaaWtF
import Derived.Test.YtpcokoejmodmaaaLDig
import Derived.WalkKit
import Derived.WalkLawsBesides
import Derived.WalkSmall
import Derived.WalkSpells
import Derived.Laws.Shifts
import Derived.Laws.Bits64
import Derived.Laws.BitsLemmas
namespace Go.Proofs.Ytpcokoejmodmaaa
open Go.RowKit
set_option linter.unusedVariables false

theorem str_list (L : List Int) : (strOfNums L).toList = L.map fun n => UInt8.ofNat n.toNat := by
  rw [ByteArray.toList_eq]
  exact strOfNums_data L

theorem dig_list (v : Int) (h0 : 0 ≤ v) (h1 : v < 16) : (digs.extract v.toNat (v.toNat + 1)).toList = [UInt8.ofNat (hd v).toNat] ∧ (digs.extract v.toNat (v.toNat + 1)).size = 1 := by
  obtain ⟨n, rfl⟩ := Int.eq_ofNat_of_zero_le h0
  have h := digs_slice ⟨n, by omega⟩
  simp only at h
  rw [ByteArray.toList_eq]
  refine ⟨h, ?_⟩
  show (digs.extract (Int.toNat (n : Int)) (Int.toNat (n : Int) + 1)).data.size = 1
  rw [Int.toNat_natCast, ← Array.length_toList, h]
  rfl

theorem dig_zero (v : Int) (h0 : 0 ≤ v) (h1 : v < 16) (h : v ≠ 0) : (UInt8.ofNat (hd v).toNat == 48) = false := by
  obtain ⟨n, rfl⟩ := Int.eq_ofNat_of_zero_le h0
  rcases (by omega : n = 1 ∨ n = 2 ∨ n = 3 ∨ n = 4 ∨ n = 5 ∨ n = 6 ∨ n = 7 ∨ n = 8 ∨ n = 9 ∨ n = 10 ∨ n = 11 ∨ n = 12 ∨ n = 13 ∨ n = 14 ∨ n = 15) with r | r | r | r | r | r | r | r | r | r | r | r | r | r | r <;> subst r <;> decide

set_option maxHeartbeats 4000000 in
theorem specWText_any (a : Option Addr) (n cap : Nat) (xs : List Int) (w : World) (h : IRow w a n xs) (hl : n ≤ 1048576) :
    Calls Try.prog 14 #[.slice a n cap] w fun e w' => e = .returned (.agg #[.int .i64 (wfCode xs), .string (wtText xs)]) ∧ Below w.heap.size w w' := by
  obtain ⟨w0, hw0⟩ : ∃ w0, w0 = w.alloc (.cells #[.int .i64 0, .string (strOfNums [])] 40) := ⟨_, rfl⟩
  have e0 : w.alloc (.cells #[.int .i64 0, .string { data := #[] }] 40) = w0 := hw0.symm
  have hb0 : Below w.heap.size w w0 := by rw [hw0]; exact below_alloc w _
  have hres : w0.heap[w.heap.size]? = some (.cells #[.int .i64 0, .string (strOfNums [])] 40 (0, 0)) := by
    rw [hw0]
    show (w.heap.push _)[w.heap.size]? = _
    simp
  have hx0 := h.below hb0 (Nat.le_refl _)
  have HF := hide (l4Fault_any a n cap xs w0 hx0 hl)
  obtain ⟨q0, q1, f0, f1⟩ := res_facts hres
  clear hw0 hres
  by_cases hc : wfCode xs = 0
  · obtain ⟨hxl, hxr⟩ := wf_zero xs hc
    have ev : wtText xs = strOfNums (dn (dig xs) (cnt (dig xs) 64)) := if_pos hc
    rw [ev, hc]
    rw [hc] at HF
    obtain rfl : n = 8 := by rw [← h.1]; exact hxl
    obtain ⟨ba, oa, rfl, hba, _⟩ := h.at (by omega)
    have HX : Hid (∀ i, i < 8 → w0.cell? ⟨ba, oa + i, none⟩ = some (.int .i64 (xs.getD i 0))) := fun i hi => by have := hx0.2.2.2 _ rfl i hi; rwa [add_none] at this
    have HXR := hide hxr
    have HDR := hide (dig_range xs)
    have HDE := hide (fun p => show dig xs p = xs.getD (p / 8) 0 / 2 ^ (4 * (p % 8)) % 16 from rfl)
    have HST := hide (fin_start (dig xs) 64 (by omega))
    have HSK := hide (fin_skip (dig xs))
    have HAD := hide (fin_add (dig xs))
    have HFN := hide (fin_none (dig xs))
    have HFS := hide (fin_some (dig xs))
    have HB := hide hb0
    clear ev hc h hx0 hb0 hxl hxr
    generalize dn (dig xs) (cnt (dig xs) 64) = T at HST ⊢
    generalize fin (dig xs) = F at HST HSK HAD HFN HFS
    generalize dig xs = d at HDR HDE HSK HAD
    go_enter Try.func14, Try.ntmps14
    go_wp2_with (rw [e0])
    refine (unhide HF).mono ?_
    rintro e w' ⟨rfl, rfl⟩
    go_wp2_with fail
    go_loop [4, 5] (fun s i => ∃ (I : Nat) (acc : List Int), I ≤ 8 ∧ i = .int .i64 ((I : Int) - 1) ∧ s = .string (strOfNums acc) ∧ acc.length + 8 * I ≤ 64 ∧ F acc (8 * I) = T) (fun _ i => (intOf i + 1).toNat)
    case atStart => exact ⟨8, [], Nat.le_refl _, rfl, rfl, by simp, unhide HST⟩
    case round =>
      obtain ⟨I, acc, hI, rfl, rfl, hal, hT⟩ := hrel
      by_cases hlt : 0 < I
      · obtain ⟨m, rfl⟩ : ∃ m, I = m + 1 := ⟨I - 1, by omega⟩
        have m0 : ((m + 1 : Nat) : Int) - 1 = (m : Int) := by omega
        rw [m0]
        have j0 : (0 : Int) ≤ (m : Int) := by omega
        have j1 : (m : Int) < 8 := by omega
        have HT := hide hT
        clear hT
        go_wp2_with fail
        go_loop [4, 6] (fun s i => ∃ (K : Nat) (acc : List Int), K ≤ 8 ∧ i = .int .i64 (4 * (K : Int) - 4) ∧ s = .string (strOfNums acc) ∧ acc.length + (8 * m + K) ≤ 64 ∧ F acc (8 * m + K) = T) (fun _ i => (intOf i + 4).toNat)
        case atStart => exact ⟨8, acc, Nat.le_refl _, rfl, rfl, by omega, by rw [← unhide HT]; rfl⟩
        case round =>
          clear HT
          obtain ⟨K, acc, hK, rfl, rfl, hal2, hT⟩ := hrel
          by_cases hlk : 0 < K
          · obtain ⟨q, rfl⟩ : ∃ q, K = q + 1 := ⟨K - 1, by omega⟩
            obtain ⟨s, hs⟩ : ∃ s : Nat, s = 4 * q := ⟨_, rfl⟩
            have m1 : 4 * ((q + 1 : Nat) : Int) - 4 = (s : Int) := by omega
            rw [m1]
            have c1 := (unhide HX) m (by omega)
            have rx := (unhide HXR) m
            have hdp := (unhide HDE) (8 * m + q)
            have hdr := (unhide HDR) (8 * m + q)
            rw [show (8 * m + q) / 8 = m by omega, show (8 * m + q) % 8 = q by omega, ← hs] at hdp
            have hsk := (unhide HSK) (8 * m + q)
            have had := (unhide HAD) acc (8 * m + q)
            generalize d (8 * m + q) = v at hdp hdr hsk had
            generalize xs.getD m 0 = x at c1 rx hdp
            have s0 : (0 : Int) ≤ (s : Int) := by omega
            have s1 : (s : Int) < 64 := by omega
            have hs64 : s < 64 := by omega
            have y0 : IntKind.u64.wrap (s : Int) = (s : Int) := by rw [IntKind.wrap_u64]; omega
            have y1 : IntKind.i64.wrap (s : Int) = (s : Int) := by rw [IntKind.wrap_i64]; omega
            have HSQ := hide hs
            have HV := hide hdp
            have HDG := hide (fun W => l1Digit_any v W hdr.1 hdr.2)
            have HSN := hide (str_snoc acc v hdr.1 hdr.2)
            have HT := hide hT
            have HSKK := hide hsk
            have HADD := hide had
            clear hT hs hdp hsk had
            have hv : (x / 2 ^ s).tmod 16 % 256 = v := by
              have h0 : 0 ≤ x / 2 ^ s := Int.ediv_nonneg rx.1 (by exact_mod_cast Nat.zero_le (2 ^ s))
              rw [Int.tmod_eq_emod_of_nonneg h0, unhide HV]
              omega
            have HVV := hide hv
            clear hv
            obtain ⟨hd1, hd2⟩ := dig_list v hdr.1 hdr.2
            have hs1 := str_list acc
            have hs2 := strOfNums_size acc
            have hz := dig_zero v hdr.1 hdr.2
            by_cases hacc : acc = []
            · have hS0 : (strOfNums acc).toList = [] := by rw [hs1, hacc]; rfl
              by_cases hv0 : v = 0
              · have hD0 : (!(digs.extract v.toNat (v.toNat + 1)).toList == [48]) = false := by rw [hd1, hv0]; rfl
                have HN := hide ((unhide HSKK) hv0)
                have HA := hide hacc
                generalize hS : strOfNums acc = S at hS0
                generalize digs.extract v.toNat (v.toNat + 1) = D at HDG hD0
                have HS := hide hS
                clear hS hd1 hd2 hs1 hs2 hz hacc hv0 HSN
                go_wp2_with fail
                rw [unhide HVV]
                refine ((unhide HDG) _).mono ?_
                rintro e w' ⟨rfl, rfl⟩
                go_wp2_with fail
                refine ⟨⟨q, acc, by omega, by have := unhide HSQ; go_num, by rw [unhide HS], by omega, ?_⟩, by simp [intOf]; omega⟩
                rw [← unhide HT, unhide HA]
                exact (unhide HN).symm
              · have hD0 : (!(digs.extract v.toNat (v.toNat + 1)).toList == [48]) = true := by rw [hd1]; simp [hz hv0]
                have hsz : ¬ 9223372036854775807 < (strOfNums acc).size + (digs.extract v.toNat (v.toNat + 1)).size := by omega
                have HN := hide ((unhide HADD) (.inr hv0))
                generalize hS : strOfNums acc = S at hS0 hsz HSN
                generalize digs.extract v.toNat (v.toNat + 1) = D at HDG hD0 hsz HSN
                have HS := hide hS
                clear hS hd1 hd2 hs1 hs2 hz hacc hv0
                go_wp2_with fail
                rw [unhide HVV]
                refine ((unhide HDG) _).mono ?_
                rintro e w' ⟨rfl, rfl⟩
                go_wp2_with fail
                refine ⟨⟨q, acc ++ [hd v], by omega, by have := unhide HSQ; go_num, by rw [unhide HSN], by simp; omega, ?_⟩, by simp [intOf]; omega⟩
                rw [← unhide HT]
                exact (unhide HN).symm
            · have hS0 : ¬ (strOfNums acc).toList = [] := by rw [hs1]; simpa using hacc
              have hsz : ¬ 9223372036854775807 < (strOfNums acc).size + (digs.extract v.toNat (v.toNat + 1)).size := by omega
              have HN := hide ((unhide HADD) (.inl hacc))
              generalize hS : strOfNums acc = S at hS0 hsz HSN
              generalize digs.extract v.toNat (v.toNat + 1) = D at HDG hsz HSN
              have HS := hide hS
              clear hS hd1 hd2 hs1 hs2 hz hacc
              go_wp2_with fail
              rw [unhide HVV]
              refine ((unhide HDG) _).mono ?_
              rintro e w' ⟨rfl, rfl⟩
              go_wp2_with fail
              refine ⟨⟨q, acc ++ [hd v], by omega, by have := unhide HSQ; go_num, by rw [unhide HSN], by simp; omega, ?_⟩, by simp [intOf]; omega⟩
              rw [← unhide HT]
              exact (unhide HN).symm
          · obtain rfl : K = 0 := by omega
            have HT := hide hT
            clear hT
            go_wp2_with fail
            exact ⟨⟨m, acc, by omega, rfl, rfl, by omega, unhide HT⟩, by simp [intOf]⟩
      · obtain rfl : I = 0 := by omega
        by_cases hacc : acc = []
        · have hS0 : (strOfNums acc).toList = [] := by rw [str_list, hacc]; rfl
          have hTT : T = [48] := by rw [← hT, hacc]; exact unhide HFN
          generalize strOfNums acc = S at hS0
          clear hT hacc
          go_wp2_with fail
          exact bodyPost_ret (v := .agg #[.int .i64 0, .string { data := #[48] }]) (by simp [results, Try.results14, go_sem, q0, q1]) rfl ⟨rfl, ((unhide HB).setCell (by simp) _).setCell (by simp) _⟩
        · have hS0 : ¬ (strOfNums acc).toList = [] := by rw [str_list]; simpa using hacc
          have hS1 : (strOfNums acc).toList.isEmpty = false := by rw [List.isEmpty_eq_false_iff]; exact hS0
          have hTT : T = acc := by rw [← hT]; exact (unhide HFS) acc hacc
          have HTT := hide hTT
          generalize hS : strOfNums acc = S at hS0 hS1
          have HS := hide hS
          clear hT hacc hTT hS hS0
          go_wp2_with fail
          exact bodyPost_ret (v := .agg #[.int .i64 0, .string S]) (by simp [results, Try.results14, go_sem, q0, q1]) rfl ⟨by rw [unhide HTT, unhide HS], ((unhide HB).setCell (by simp) _).setCell (by simp) _⟩
  · have ev : wtText xs = strOfNums [] := if_neg hc
    have hd : (wfCode xs != 0) = true := by simp [hc]
    rw [ev]
    generalize wfCode xs = c at HF hd
    clear ev h hx0 hc
    go_enter Try.func14, Try.ntmps14
    go_wp2_with (rw [e0])
    refine (unhide HF).mono ?_
    rintro e w' ⟨rfl, rfl⟩
    go_wp2_with fail
    exact bodyPost_ret (v := .agg #[.int .i64 c, .string (strOfNums [])]) (by simp [results, Try.results14, go_sem, q0, q1, strOfNums]) rfl ⟨rfl, (hb0.setCell (by simp) _).setCell (by simp) _⟩

end Go.Proofs.Ytpcokoejmodmaaa
