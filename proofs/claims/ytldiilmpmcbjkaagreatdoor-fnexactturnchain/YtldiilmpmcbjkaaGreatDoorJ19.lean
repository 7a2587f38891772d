/- What is proved here: the program's fault of a store (StoreFault). -/
import Derived.Test.YtldiilmpmcbjkaaGreatDoorJ18
import Derived.Test.YtldiilmpmcbjkaaGreatDoorJ14
import Derived.Test.YtldiilmpmcbjkaaGreatDoorJ12
import Derived.Test.YtldiilmpmcbjkaaGreatDoorJ6
import Derived.Test.YtldiilmpmcbjkaaGreatDoorJ7
namespace Go.Proofs.YtldiilmpmcbjkaaGreatDoor
open Go.RowKit
set_option linter.unusedVariables false
set_option linter.unusedSimpArgs false
set_option maxRecDepth 100000

set_option maxHeartbeats 8000000 in
theorem implStoreFault_any (s : Sl) (x : St) (w : World) (o : RowOk enK w s x.2) (m : StSm x) (V : Laid w) :
    Calls Tryz.prog 34 #[.agg (tvals s x)] w fun r w' => r = .returned (.int .i64 (stFlt x)) ∧ Below w.heap.size w w' := by
  obtain ⟨c, xs⟩ := x
  obtain ⟨sa, n, cp⟩ := s
  have o' : RowOk enK w ⟨sa, n, cp⟩ xs := o
  have hlen : n = xs.length := o'.len
  have hmax : n ≤ maxLen := Nat.le_trans o'.room o'.max
  unfold maxLen at hmax
  have k0 := SBlk.new w (tvals ⟨sa, n, cp⟩ (c, xs)) 35
  have k2 := below_alloc w (.cells (tvals ⟨sa, n, cp⟩ (c, xs)) 35)
  obtain ⟨W0, e0⟩ : ∃ W, w.alloc (.cells (tvals ⟨sa, n, cp⟩ (c, xs)) 35) = W := ⟨_, rfl⟩
  rw [e0] at k0 k2
  have D1 := hide (implConfigFault_any c W0)
  have HK := hide (fun (W : World) (hb : Below W0.heap.size W0 W) => k0.below hb k0.lt)
  have HE : Hid (stFlt (c, xs) = _) := show stFlt (c, xs) = _ by unfold stFlt; exact rfl
  have HB0 := hide k2
  have E0 := hide e0
  unfold tvals at k0 E0 HK ⊢
  dsimp only at k0 E0 HK ⊢
  have x0 := k0.cell 0
  have x1 := k0.cell 1
  have x2 := k0.cell 2
  simp only [List.getElem?_cons_zero, List.getElem?_cons_succ] at x0 x1 x2
  unfold cfvals at D1
  generalize stFlt (c, xs) = R at HE ⊢
  dsimp only at HE
  generalize cfFlt c = q0 at D1 HE
  have HW := hide (fun (W : World) => isWithin_any ((n : Nat) : Int) 1 24 W)
  have HRO := hide (fun (W : World) (hb : Below w.heap.size w W) => RowOk.below o' hb (Nat.le_refl _))
  have HV := hide (fun (W : World) (hb : Below w.heap.size w W) => V.below hb (Nat.le_refl _))
  have HM := hide m
  have HL := hide hlen
  clear e0 k0 k2 o o' m V hlen
  go_enter Tryz.func34, Tryz.ntmps34
  go_upto_region 1 with fail
  rw [unhide E0]
  clear E0
  go_wp2_with fail
  refine (unhide D1).mono ?_
  rintro r w1 ⟨rfl, b1⟩
  have x3 := ((unhide HK) w1 b1).cell 3
  simp only [List.getElem?_cons_zero, List.getElem?_cons_succ] at x3
  have B1 := hide b1
  clear b1 x0 x1 x2 D1
  by_cases hq : q0 = 0
  case neg =>
    have HE1 := hide ((unhide HE).trans (if_neg hq))
    have hne : (q0 != 0) = true := by simp [hq]
    clear HE hq
    go_wp2_with fail
    go_ret
    exact ⟨ret_int (unhide HE1).symm, (unhide HB0).trans ((unhide B1).mono (unhide HB0).size)⟩
  subst hq
  have HE1 := hide ((unhide HE).trans (if_pos rfl))
  clear HE
  have wn : IntKind.i64.wrap ((n : Nat) : Int) = ((n : Nat) : Int) := by rw [IntKind.wrap_i64]; omega
  have D2 := hide ((unhide HW) w1)
  by_cases hw : 1 ≤ xs.length ∧ xs.length ≤ 24
  case neg =>
    have HE2 := hide ((unhide HE1).trans (if_neg hw))
    have hwn : within ((n : Nat) : Int) 1 24 = false := by
      have := unhide HL
      unfold within
      exact decide_eq_false (by omega)
    rw [hwn] at D2
    clear HE1 hw hwn
    go_wp2_with fail
    refine (unhide D2).mono ?_
    rintro r w2 ⟨rfl, rfl⟩
    go_wp2_with fail
    go_ret
    exact ⟨ret_int (unhide HE2).symm, (unhide HB0).trans ((unhide B1).mono (unhide HB0).size)⟩
  have HE2 := hide ((unhide HE1).trans (if_pos hw))
  have hwn : within ((n : Nat) : Int) 1 24 = true := by
    have := unhide HL
    unfold within
    exact decide_eq_true (by omega)
  rw [hwn] at D2
  have hs1 : 1 ≤ n ∧ n ≤ 24 := by have := unhide HL; omega
  clear HE1 hw hwn HW
  go_wp2_with fail
  refine (unhide D2).mono ?_
  rintro r w2 ⟨rfl, rfl⟩
  clear D2
  obtain ⟨b, off, ha, hent⟩ := ((unhide HRO) w (Below.refl _ _)).ent (by show 0 < n; omega)
  have hroom : n ≤ cp := ((unhide HRO) w (Below.refl _ _)).room
  have HENT := hide (fun (W : World) (hb : Below w.heap.size w W) (i : Nat) (y : En) (hy : xs[i]? = some y) => match hent i y hy with | ⟨e, h⟩ => (⟨e, h.below hb (Nat.le_refl _)⟩ : ∃ e, EAt W b (off + i * 14) e y))
  have HTK := hide (fun (W : World) (hb : Below w.heap.size w W) (k : Nat) (hk : k ≤ n) => ((unhide HRO) W hb).take (k := k) hk)
  have ha' : sa = some ⟨b, off, none⟩ := ha
  subst ha'
  generalize hen : enFrom xs xs.length 0 = ef at HE2
  have HEF : Hid (ef = enFrom xs (xs.length - 0) 0) := hen.symm
  clear hen hent HRO ha
  have hcp : ¬ cp = 0 := by omega
  go_wp2_with fail
  go_loopw [20] (fun i wr => ∃ k : Nat, k ≤ n ∧ i = .int .i64 k ∧ ef = enFrom xs (xs.length - k) k ∧ AllOk (xs.take k) ∧ Below W0.heap.size W0 wr) (fun i _ => n - (intOf i).toNat)
  case atStart => exact ⟨0, Nat.zero_le _, rfl, unhide HEF, fun y hy => by simp at hy, unhide B1⟩
  case round =>
    obtain ⟨k, hk, rfl, hef, hall, hbr⟩ := hrel
    have HBR := hide hbr
    have bw := hide ((unhide HB0).trans (hbr.mono (unhide HB0).size))
    have x3' := ((unhide HK) wr hbr).cell 3
    simp only [List.getElem?_cons_zero, List.getElem?_cons_succ] at x3'
    clear x3 B1 HEF
    by_cases hlt : k < n
    · have hkx : k < xs.length := by rw [← unhide HL]; exact hlt
      obtain ⟨y, hy⟩ : ∃ y, xs[k]? = some y := ⟨_, List.getElem?_eq_getElem hkx⟩
      rw [enFrom_step xs k y hy] at hef
      obtain ⟨e, he⟩ := (unhide HENT) wr (unhide bw) k y hy
      have HD := hide (fun (W : World) (hb : Below wr.heap.size wr W) => entryFault_any ⟨some ⟨b, off, none⟩, k, cp⟩ (xs.take k) b (off + k * 14) e y W (RowOk.below ((unhide HTK) wr (unhide bw) k hk) hb (Nat.le_refl _)) (he.below hb (Nat.le_refl _)) hall ((unhide HM).e y (List.mem_of_getElem? hy)) (fun z hz => (unhide HM).e z (List.mem_of_mem_take hz)) (((unhide HV) wr (unhide bw)).below hb (Nat.le_refl _)))
      have HAL := hide hall
      have HY := hide hy
      have i1 : (0 : Int) ≤ (k : Int) := by omega
      have i2 : (k : Int) < (n : Int) := by omega
      have hcn : n ≤ cp := hroom
      have i3 : (k : Int) ≤ (cp : Int) := by omega
      have i4 : k ≤ cp := by omega
      clear hcn
      have HST := hide (fun (h0 : enFlt (xs.take k) y = 0) => hall.step hy h0)
      generalize enFlt (xs.take k) y = q at HD hef HST
      have HEF := hide hef
      clear hef hall he hy hkx
      go_upto_region 9 with fail
      go_region_held3 (fun W => W.cell? ⟨w.heap.size, 3, none⟩ = some (.slice (some ⟨b, off, none⟩) n cp))
        (go_keep) (first | (go_at_call 56; refine ((unhide HD) _ ((Below.refl _ _).drew)).mono ?_; rintro r w3 ⟨rfl, b3⟩; have x3'' := ((unhide HK) w3 ((unhide HBR).trans (((Below.refl wr.heap.size wr).drew.trans b3).mono (unhide HBR).size))).cell 3; simp only [List.getElem?_cons_zero, List.getElem?_cons_succ] at x3''))
      all_goals
        have B3 := hide ((unhide HBR).trans (((Below.refl wr.heap.size wr).drew.trans b3).mono (unhide HBR).size))
        clear b3
        by_cases hq : q = 0
        · subst hq
          have hq' : ((0 : Int) != 0) = false := by simp
          go_wp2_with fail
          go_roundw
          case rel => exact ⟨k + 1, by omega, by go_num, by have := unhide HEF; simpa using this, (unhide HST) (by first | rfl | trivial), unhide B3⟩
          case measure => simp [intOf]; omega
        · have hq' : (q != 0) = true := by simp [hq]
          have HEE : Hid (R = q) := by
            have h1 := unhide HEF
            have h2 := unhide HE2
            rw [if_neg hq] at h1
            rw [h1, if_neg hq] at h2
            exact h2
          clear HEF HE2
          go_wp2_with fail
          go_ret
          exact ⟨ret_int (unhide HEE).symm, (unhide HB0).trans ((unhide B3).mono (unhide HB0).size)⟩
    · obtain rfl : k = n := by omega
      rw [enFrom_end xs k (by rw [unhide HL]; exact Nat.le_refl _)] at hef
      obtain ⟨y, hy⟩ : ∃ y, xs[0]? = some y := ⟨_, List.getElem?_eq_getElem (by rw [← unhide HL]; omega)⟩
      obtain ⟨e, he⟩ := (unhide HENT) wr (unhide bw) 0 y hy
      have y6 := he.1 6 _ rfl
      simp only [Nat.zero_mul, Nat.add_zero] at y6
      have hys : y.1.s.length = e.1.s.n := (hd_ok he.2.1).s.1
      have HE3 : Hid (R = if e.1.s.n = 0 then 4 else 0) := by
        have h2 := unhide HE2
        rw [if_pos hef] at h2
        cases xs with
        | nil => simp at hy
        | cons y' r =>
          simp at hy
          subst hy
          rw [← hys]
          exact h2
      clear HE2 hef hall he hy hys hbr
      have j1 : (0 : Int) < (k : Int) := by omega
      by_cases hz : e.1.s.n = 0
      · rw [if_pos hz] at HE3
        have hz' : (((e.1.s.n : Nat) : Int) == 0) = true := by simp [hz]
        clear hz
        go_wp2_with fail
        go_ret
        exact ⟨ret_int (unhide HE3).symm, unhide bw⟩
      · rw [if_neg hz] at HE3
        have hz' : (((e.1.s.n : Nat) : Int) == 0) = false := by simp [hz]
        clear hz
        go_wp2_with fail
        go_ret
        exact ⟨ret_int (unhide HE3).symm, unhide bw⟩

end Go.Proofs.YtldiilmpmcbjkaaGreatDoor

/- What is proved here: what the program answers of places of a store (placeFault, slices.ContainsFunc). -/
namespace Go.Proofs.YtldiilmpmcbjkaaGreatDoor
open Go.RowKit
set_option linter.unusedVariables false
set_option linter.unusedSimpArgs false
set_option maxRecDepth 100000

theorem codeUnl_any (b : Bool) (k : Int) (w : World) : Calls Tryz.prog 37 #[.bool b, .int .i64 k] w fun r w' => r = .returned (.int .i64 (if b = true then 0 else k)) ∧ w' = w := by
  cases b
  all_goals
    go_enter Tryz.func37, Tryz.ntmps37
    go_wp2_with fail
    go_ret
    exact ⟨rfl, rfl⟩

set_option maxHeartbeats 2000000 in
theorem pf1_any (s : Sl) (xs : List En) (p : Int) (B : Nat) (w : World) (o : RowOk enK w s xs) (hB : w.cell? ⟨B, 3, none⟩ = some (.slice s.a s.n s.c)) :
    Calls Tryz.prog 35 #[.int .i64 p, .pointer (some ⟨B, 0, none⟩)] w fun r w' => r = .returned (.bool (!within p 0 ((xs.length : Int) - 1))) ∧ w' = w := by
  have D1 := hide (isEntry_any s xs p w o)
  generalize within p 0 ((xs.length : Int) - 1) = c at D1 ⊢
  clear o
  go_enter Tryz.func35, Tryz.ntmps35
  go_wp2_with fail
  refine (unhide D1).mono ?_
  rintro r w1 ⟨rfl, rfl⟩
  go_wp2_with fail
  go_ret
  exact ⟨rfl, rfl⟩

/-- The first of some numbers that is no place. -/
def nonP (n : Int) : List Int → Int
  | [] => -1
  | p :: r => if within p 0 (n - 1) = true then (if nonP n r = -1 then -1 else nonP n r + 1) else 0

theorem nonP_none {n : Int} : ∀ (ps : List Int), (∀ (j : Nat) p, ps[j]? = some p → within p 0 (n - 1) = true) → nonP n ps = -1
  | [], _ => rfl
  | p :: r, h => by
    unfold nonP
    rw [if_pos (h 0 p rfl), if_pos (nonP_none r (fun j y hy => h (j + 1) y hy))]

theorem nonP_some {n : Int} : ∀ (ps : List Int) (i : Nat) (p : Int), ps[i]? = some p → within p 0 (n - 1) = false → (∀ (j : Nat) y, j < i → ps[j]? = some y → within y 0 (n - 1) = true) → nonP n ps = i
  | [], i, p, h, _, _ => by simp at h
  | y :: r, 0, p, h, e, _ => by
    simp at h
    subst h
    unfold nonP
    rw [if_neg (by rw [e]; decide)]
    rfl
  | y :: r, i + 1, p, h, e, k => by
    have ih := nonP_some r i p h e (fun j u hj hu => k (j + 1) u (by omega) hu)
    unfold nonP
    rw [if_pos (k 0 y (by omega) rfl), ih, if_neg (by omega)]
    omega

theorem nonP_all {n : Int} : ∀ (ps : List Int), -1 ≤ nonP n ps ∧ (decide (0 ≤ nonP n ps) = !(ps.all fun p => within p 0 (n - 1)))
  | [] => by simp [nonP]
  | p :: r => by
    obtain ⟨h1, h2⟩ := nonP_all (n := n) r
    unfold nonP
    rw [List.all_cons]
    cases hw : within p 0 (n - 1)
    · simp
    · simp only [if_true, Bool.true_and]
      rw [← h2]
      by_cases h3 : nonP n r = -1
      · rw [if_pos h3, h3]; simp
      · rw [if_neg h3]
        refine ⟨by omega, ?_⟩
        rw [decide_eq_true (show 0 ≤ nonP n r + 1 by omega), decide_eq_true (show 0 ≤ nonP n r by omega)]

set_option maxHeartbeats 2000000 in
theorem indexP_any (a : Option Addr) (n c : Nat) (ps : List Int) (s : Sl) (xs : List En) (B : Nat) (w : World) (hp : IRow w a n ps) (hn : n ≤ 100) (o : RowOk enK w s xs) (hB : w.cell? ⟨B, 3, none⟩ = some (.slice s.a s.n s.c)) :
    Calls Tryz.prog 57 #[.slice a n c, .func (.func 35) #[] #[.pointer (some ⟨B, 0, none⟩)]] w fun r w' => r = .returned (.int .i64 (nonP xs.length ps)) ∧ Below w.heap.size w w' := by
  have hl : ps.length = n := hp.1
  rcases Nat.eq_zero_or_pos n with h0 | hpos
  · subst h0
    obtain rfl : ps = [] := List.length_eq_zero_iff.1 hl
    have e1 : nonP xs.length [] = -1 := rfl
    rw [e1]
    clear o hB hp hl
    go_enter Tryz.func57, Tryz.ntmps57
    go_wp2_with fail
    refine wp_loop_rounds 1 ?_
    rw [rounds_succ]
    go_wp2_with fail
    go_ret
    exact ⟨rfl, Below.refl _ _⟩
  · obtain ⟨b, off, rfl, hba, hca⟩ := hp.at (by omega)
    have HX := hide (fun (W : World) (hbl : Below w.heap.size w W) (i : Nat) (hi : i < n) => (hbl.cell (p := ⟨b, off + i, none⟩) hba).trans (hca i hi))
    have HD := hide (fun (W : World) (hbl : Below w.heap.size w W) (p : Int) => pf1_any s xs p B W (RowOk.below o hbl (Nat.le_refl _)) ((hbl.cell (p := ⟨B, 3, none⟩) (lt_of_cell hB)).trans hB))
    have HL := hide hl
    clear o hB hl hp hca hba
    go_enter Tryz.func57, Tryz.ntmps57
    go_wp2_with fail
    go_loopw [8] (fun i wr => ∃ k : Nat, k ≤ n ∧ i = .int .i64 k ∧ (∀ (j : Nat) y, j < k → ps[j]? = some y → within y 0 ((xs.length : Int) - 1) = true) ∧ Below w.heap.size w wr) (fun i _ => n - (intOf i).toNat)
    case atStart => exact ⟨0, Nat.zero_le _, rfl, fun j y hj => absurd hj (Nat.not_lt_zero _), Below.refl _ _⟩
    case round =>
      obtain ⟨k, hk, rfl, hall, hbr⟩ := hrel
      have HA := hide hall
      clear hall
      by_cases hlt : k < n
      · have hkx : k < ps.length := by rw [unhide HL]; exact hlt
        obtain ⟨x, hx⟩ : ∃ x, ps[k]? = some x := ⟨_, List.getElem?_eq_getElem hkx⟩
        have c0 := (unhide HX) wr hbr k hlt
        rw [List.getD_eq_getElem?_getD, hx] at c0
        simp only [Option.getD_some] at c0
        have HD1 := hide ((unhide HD) wr hbr x)
        have HXX := hide hx
        have HBR := hide hbr
        have i1 : (0 : Int) ≤ (k : Int) := by omega
        have i2 : (k : Int) < (n : Int) := by omega
        clear hbr hx hkx
        by_cases hz : within x 0 ((xs.length : Int) - 1) = true
        · rw [hz] at HD1
          have HZ := hide hz
          clear hz
          go_wp2_with fail
          refine (unhide HD1).mono ?_
          rintro r w2 ⟨rfl, rfl⟩
          go_wp2_with fail
          go_roundw
          case rel =>
            refine ⟨k + 1, by omega, by go_num, fun j y hj hy => ?_, unhide HBR⟩
            by_cases e : j = k
            · subst e
              obtain rfl : x = y := Option.some.inj ((unhide HXX).symm.trans hy)
              exact unhide HZ
            · exact (unhide HA) j y (by omega) hy
          case measure => simp [intOf]; omega
        · have hz : within x 0 ((xs.length : Int) - 1) = false := by simpa using hz
          rw [hz] at HD1
          have HF : Hid (nonP xs.length ps = (k : Int)) := nonP_some ps k x (unhide HXX) hz (unhide HA)
          clear hz
          go_wp2_with fail
          refine (unhide HD1).mono ?_
          rintro r w2 ⟨rfl, rfl⟩
          go_wp2_with fail
          go_ret
          exact ⟨ret_int (unhide HF).symm, unhide HBR⟩
      · obtain rfl : k = n := by omega
        have HF : Hid (nonP xs.length ps = -1) := nonP_none ps (fun j y hy => (unhide HA) j y (by have := (List.getElem?_eq_some_iff.1 hy).1; have := unhide HL; omega) hy)
        have HBR := hide hbr
        clear hbr
        go_wp2_with fail
        go_ret
        exact ⟨ret_int (unhide HF).symm, unhide HBR⟩

set_option maxHeartbeats 2000000 in
theorem containsP_any (a : Option Addr) (n c : Nat) (ps : List Int) (s : Sl) (x : St) (B : Nat) (w : World) (hp : IRow w a n ps) (hn : n ≤ 100) (o : RowOk enK w s x.2) (hB : w.cell? ⟨B, 3, none⟩ = some (.slice s.a s.n s.c)) :
    Calls Tryz.prog 38 #[.slice a n c, .func (.func 35) #[] #[.pointer (some ⟨B, 0, none⟩)]] w fun r w' => r = .returned (.bool (!plsOk x ps)) ∧ Below w.heap.size w w' := by
  have D1 := hide (indexP_any a n c ps s x.2 B w hp hn o hB)
  have HE := hide (nonP_all (n := (x.2.length : Int)) ps).2
  have e : plsOk x ps = ps.all fun p => within p 0 ((x.2.length : Int) - 1) := rfl
  rw [e]
  generalize nonP (x.2.length : Int) ps = q at D1 HE
  generalize (ps.all fun p => within p 0 ((x.2.length : Int) - 1)) = u at HE ⊢
  clear hp o hB e
  go_enter Tryz.func38, Tryz.ntmps38
  go_wp2_with fail
  refine (unhide D1).mono ?_
  rintro r w1 ⟨rfl, b1⟩
  have B1 := hide b1
  clear b1
  go_wp2_with fail
  go_ret
  exact ⟨ret_bool (unhide HE), unhide B1⟩

set_option maxHeartbeats 4000000 in
theorem placeFaults_any (s : Sl) (x : St) (a : Option Addr) (n c : Nat) (ps : List Int) (w : World) (o : RowOk enK w s x.2) (hp : IRow w a n ps) (hn : n ≤ 100) (m : StSm x) (V : Laid w) :
    Calls Tryz.prog 19 #[.agg (tvals s x), .slice a n c] w fun r w' => r = .returned (.int .i64 (plsCode x ps)) ∧ Below w.heap.size w w' := by
  have k0 := SBlk.new w (tvals s x) 35
  have k2 := below_alloc w (.cells (tvals s x) 35)
  obtain ⟨W0, e0⟩ : ∃ W, w.alloc (.cells (tvals s x) 35) = W := ⟨_, rfl⟩
  rw [e0] at k0 k2
  have D1 := hide (implStoreFault_any s x W0 (RowOk.below o k2 (Nat.le_refl _)) m (V.below k2 (Nat.le_refl _)))
  have D2 := hide (fun (W : World) (hb : Below W0.heap.size W0 W) => containsP_any a n c ps s x w.heap.size W (hp.below (k2.trans (hb.mono k2.size)) (Nat.le_refl _)) hn (RowOk.below o (k2.trans (hb.mono k2.size)) (Nat.le_refl _)) ((k0.below hb k0.lt).cell 3))
  have HE : Hid (plsCode x ps = _) := show plsCode x ps = _ by unfold plsCode; exact rfl
  have HB0 := hide k2
  have E0 := hide e0
  unfold tvals at E0 k0 D1 ⊢
  have x0 := k0.cell 0
  have x1 := k0.cell 1
  have x2 := k0.cell 2
  have x3 := k0.cell 3
  simp only [List.getElem?_cons_zero, List.getElem?_cons_succ] at x0 x1 x2 x3
  generalize plsCode x ps = cc at HE ⊢
  generalize stFlt x = q0 at D1 HE
  generalize plsOk x ps = wb at D2 HE
  have D3 := hide (fun (W : World) => codeUnl_any wb 3 W)
  clear e0 o m V k0 k2 hp
  go_enter Tryz.func19, Tryz.ntmps19
  go_upto_region 1 with fail
  rw [unhide E0]
  clear E0
  go_wp2_with fail
  refine (unhide D1).mono ?_
  rintro r w1 ⟨rfl, b1⟩
  have BW := hide b1
  have B1 := hide ((unhide HB0).trans (b1.mono (unhide HB0).size))
  clear b1 x0 x1 x2 x3 D1
  by_cases hq : q0 = 0
  · subst hq
    have HE1 := hide ((unhide HE).trans (if_pos rfl))
    cases wb
    all_goals
      go_wp2_with fail
      refine ((unhide D2) _ (unhide BW)).mono ?_
      rintro r w2 ⟨rfl, b2⟩
      have B2 := hide ((unhide B1).trans (b2.mono (unhide B1).size))
      clear b2
      go_wp2_with fail
      refine ((unhide D3) _).mono ?_
      rintro r w3 ⟨rfl, rfl⟩
      go_wp2_with fail
      go_ret
      exact ⟨ret_int (unhide HE1).symm, unhide B2⟩
  · have HE1 := hide ((unhide HE).trans (if_neg hq))
    have hne : (q0 != 0) = true := by simp [hq]
    go_wp2_with fail
    go_ret
    exact ⟨ret_int (unhide HE1).symm, unhide B1⟩

end Go.Proofs.YtldiilmpmcbjkaaGreatDoor

/- What is proved here: whether the model takes an entry's total for right (l10Total). -/
namespace Go.Proofs.YtldiilmpmcbjkaaGreatDoor
open Go.RowKit
set_option linter.unusedVariables false
set_option linter.unusedSimpArgs false
set_option maxRecDepth 100000

theorem sameB_cmp {xs ys : List Int} (hx : xs.length = 8) (hy : ys.length = 8) : decide (xs = ys) = (cmpW xs ys 8 == 0) := by
  rw [← sameB_dec, same_cmp hx hy]

theorem wf_len8 {xs : List Int} (h : wfCode xs = 0) : xs.length = 8 := (wf_zero xs h).1

theorem tt_bad {q : Option En} {x : En} (hf : hdFlt x.1 = 0) (h : wfCode x.2.2.2 ≠ 0) : ttOk q x = false := by
  cases e : ttOk q x with
  | false => rfl
  | true => exact absurd (tt_wf hf e) h

theorem tt_none {x : En} (h : wfCode x.2.2.2 = 0) : ttOk none x = (cmpW x.2.2.2 (wofList x.1.n3) 8 == 0) := by
  rw [← sameB_cmp (wf_len8 h) rfl]
  show (decide ((0 : Int) = 0) && decide (x.2.2.2 = wofList x.1.n3)) = _
  simp

theorem tt_some {x y : En} (hf : hdFlt x.1 = 0) (h : wfCode x.2.2.2 = 0) (hy : wfCode y.2.2.2 = 0) : ttOk (some y) x = ((caW y.2.2.2 (wofList x.1.n3) 8 == 0) && (cmpW x.2.2.2 (sumL y.2.2.2 (wofList x.1.n3)) 8 == 0)) := by
  have hn := (hd_num hf).2
  have hw : wf2 y.2.2.2 (wofList x.1.n3) = 0 := by
    unfold wf2
    rw [if_pos hy]
    exact wof_wf _ hn.1 (by omega)
  rw [← sameB_cmp (wf_len8 h) (sumL_length _ _)]
  show (decide (awCode y.2.2.2 (wofList x.1.n3) = 0) && decide (x.2.2.2 = awList y.2.2.2 (wofList x.1.n3))) = _
  by_cases hc : caW y.2.2.2 (wofList x.1.n3) 8 = 0
  · rw [(aw_ok _ _ hw hc).1, (aw_ok _ _ hw hc).2, hc]
    simp
  · have e1 : (caW y.2.2.2 (wofList x.1.n3) 8 == 0) = false := by simp [hc]
    rw [(aw_full _ _ hw hc).1, e1]
    simp

set_option maxHeartbeats 8000000 in
theorem l10Total_any (s : Sl) (xs : List En) (i : Nat) (x : En) (w : World) (o : RowOk enK w s xs) (hx : xs[i]? = some x) (hf : hdFlt x.1 = 0) (hu : upOk i x.2.2.1 = true) (al : AllOk (xs.take i)) (m : EnSm x) :
    Calls Tryz.prog 68 #[.slice s.a s.n s.c, .int .i64 i] w fun r w' => r = .returned (.bool (ttOk (enAt (xs.take i) x.2.2.1) x)) ∧ Below w.heap.size w w' := by
  obtain ⟨sa, n, cp⟩ := s
  have hlen : n = xs.length := o.len
  have hi := (List.getElem?_eq_some_iff.1 hx).1
  obtain ⟨b, off, ha, hent⟩ := o.ent (by show 0 < n; omega)
  have ha' : sa = some ⟨b, off, none⟩ := ha
  subst ha'
  obtain ⟨⟨eh, ez, eu, ta, tn, tc⟩, he⟩ := hent i x hx
  have c12 := he.1 12 _ rfl
  have c13 := he.1 13 _ rfl
  have c3 := he.1 3 _ rfl
  have hit : IOk w ⟨ta, tn, tc⟩ x.2.2.2 := he.2.2.2.2
  have hrow : IRow w ta tn x.2.2.2 := hit.row
  have htn : x.2.2.2.length = tn := hrow.1
  have mt := m.t
  have hn := (hd_num hf).2
  have D1 := hide (l4Fault_any ta tn tc x.2.2.2 w hrow (by omega))
  have i1 : (0 : Int) ≤ (i : Int) := by omega
  have i2 : (i : Int) < (n : Int) := by omega
  by_cases hw : wfCode x.2.2.2 = 0
  case neg =>
    rw [tt_bad hf hw]
    have hne : (wfCode x.2.2.2 != 0) = true := by simp [hw]
    generalize wfCode x.2.2.2 = q at D1 hne
    clear o ha hent he hit hrow al hu
    go_enter Tryz.func68, Tryz.ntmps68
    go_wp2_with fail
    refine (unhide D1).mono ?_
    rintro r w1 ⟨rfl, rfl⟩
    go_wp2_with fail
    go_ret
    exact ⟨rfl, Below.refl _ _⟩
  rw [hw] at D1
  have h8 := wf_len8 hw
  obtain rfl : tn = 8 := by omega
  obtain ⟨tb, tf, rfl, htb, htc⟩ := hrow.at (by omega)
  have C3 := hide (fun (W : World) => l4Of_any x.1.n3 hn.1 (by omega) W)
  by_cases h0 : i = 0
  · subst h0
    have hup : x.2.2.1 = -1 := by unfold upOk at hu; rw [if_pos rfl] at hu; exact of_decide_eq_true hu
    have e1 : enAt (xs.take 0) x.2.2.1 = none := by unfold enAt; rw [if_pos hup]
    rw [e1, tt_none hw]
    have C4 := hide (fun (W : World) (hb : Below w.heap.size w W) (g cc : Nat) (hr : IRow W (some ⟨g, 0, none⟩) 8 (wofList x.1.n3)) => l4Compare_any tb g tf 0 tc cc x.2.2.2 (wofList x.1.n3) W (hrow.below hb (Nat.le_refl _)) hr)
    generalize hcm : (cmpW x.2.2.2 (wofList x.1.n3) 8 == 0) = cm
    have HCM := hide hcm
    generalize cmpW x.2.2.2 (wofList x.1.n3) 8 = cv at C4 HCM
    have hcm' := unhide HCM
    have HKP := hide (fun (W : World) (hb : Below w.heap.size w W) => (⟨(hb.cell (p := ⟨b, off + 0 * 14 + 13, none⟩) (lt_of_cell c13)).trans c13, (hb.cell (p := ⟨b, off + 0 * 14 + 3, none⟩) (lt_of_cell c3)).trans c3⟩ : W.cell? ⟨b, off + 0 * 14 + 13, none⟩ = _ ∧ W.cell? ⟨b, off + 0 * 14 + 3, none⟩ = _))
    simp only [Nat.zero_mul, Nat.add_zero] at HKP c13 c3 c12
    clear o ha hent he hit al hu hup e1 hcm htc htn h8 mt hlen hx hw hf m HCM
    go_enter Tryz.func68, Tryz.ntmps68
    go_wp2_with fail
    refine (unhide D1).mono ?_
    rintro r w1 ⟨rfl, rfl⟩
    go_wp2_with fail
    go_region_held3 (fun W => W.cell? ⟨b, off + 13, none⟩ = some (.slice (some ⟨tb, tf, none⟩) 8 tc) ∧ W.cell? ⟨b, off + 3, none⟩ = some (.int .i64 x.1.n3))
      (go_keep) (first
        | (go_at_call 85; refine ((unhide C3) _).mono ?_; rintro r w2 ⟨rfl, o2, b2⟩; have B2 : Below w1.heap.size w1 w2 := (Below.refl w1.heap.size w1).drew.trans b2; obtain ⟨s1, s2⟩ := (unhide HKP) w2 B2)
        | (go_at_call 84; refine ((unhide C4) _ B2 _ _ (IRow.own2 o2)).mono ?_; rintro r w3 ⟨rfl, b3⟩; have B3 : Below w1.heap.size w1 w3 := B2.trans (b3.mono B2.size); obtain ⟨s3, s4⟩ := (unhide HKP) w3 B3))
    all_goals
      have HB3 := hide B3
      clear B3 B2 b2 b3 o2
      go_wp2_with fail
      go_ret
      exact ⟨ret_bool (by first | rfl | exact hcm'), unhide HB3⟩
  · have hup : 0 ≤ x.2.2.1 ∧ x.2.2.1 ≤ (i : Int) - 1 := by
      unfold upOk at hu
      rw [if_neg h0] at hu
      simpa only [within, decide_eq_true_eq] using hu
    obtain ⟨hd', zz, up, tt⟩ := x
    simp only at hup c12 c13 c3 D1 C3 hrow hn hw hf
    obtain ⟨u, rfl⟩ : ∃ u : Nat, up = (u : Int) := ⟨up.toNat, by omega⟩
    have hui : u < i := by omega
    obtain ⟨y, hy⟩ : ∃ y, xs[u]? = some y := ⟨_, List.getElem?_eq_getElem (by omega)⟩
    have hyt : (xs.take i)[u]? = some y := by rw [List.getElem?_take, if_pos hui]; exact hy
    have e1 : enAt (xs.take i) (u : Int) = some y := by
      unfold enAt
      rw [if_neg (by omega)]
      simpa using hyt
    have hyw := (al y (List.mem_of_getElem? hyt)).2
    rw [e1, tt_some hf hw hyw]
    obtain ⟨⟨yh, yz, yu, ya, yn, yc⟩, hye⟩ := hent u y hy
    have d13 := hye.1 13 _ rfl
    have hyi : IOk w ⟨ya, yn, yc⟩ y.2.2.2 := hye.2.2.2.2
    have hyr : IRow w ya yn y.2.2.2 := hyi.row
    obtain rfl : yn = 8 := by have := hyr.1; have := wf_len8 hyw; omega
    obtain ⟨yb, yf, rfl, hyb, hyc⟩ := hyr.at (by omega)
    simp only at d13
    have C5 := hide (fun (W : World) (hb : Below w.heap.size w W) (g cc : Nat) (hr : IRow W (some ⟨g, 0, none⟩) 8 (wofList hd'.n3)) => l4Add_any yb g yf 0 yc cc y.2.2.2 (wofList hd'.n3) W (hyr.below hb (Nat.le_refl _)) hr (wf_zero _ hyw).2 (wof_Wd _ hn.1 (by omega)))
    have C4 := hide (fun (W : World) (hb : Below w.heap.size w W) (g gf cc : Nat) (hr : IRow W (some ⟨g, gf, none⟩) 8 (sumL y.2.2.2 (wofList hd'.n3))) => l4Compare_any tb g tf gf tc cc tt (sumL y.2.2.2 (wofList hd'.n3)) W (hrow.below hb (Nat.le_refl _)) hr)
    have HKP := hide (fun (W : World) (hb : Below w.heap.size w W) => (⟨(hb.cell (p := ⟨b, off + i * 14 + 13, none⟩) (lt_of_cell c13)).trans c13, (hb.cell (p := ⟨b, off + i * 14 + 3, none⟩) (lt_of_cell c3)).trans c3, (hb.cell (p := ⟨b, off + i * 14 + 12, none⟩) (lt_of_cell c12)).trans c12, (hb.cell (p := ⟨b, off + u * 14 + 13, none⟩) (lt_of_cell d13)).trans d13⟩ : W.cell? ⟨b, off + i * 14 + 13, none⟩ = _ ∧ W.cell? ⟨b, off + i * 14 + 3, none⟩ = _ ∧ W.cell? ⟨b, off + i * 14 + 12, none⟩ = _ ∧ W.cell? ⟨b, off + u * 14 + 13, none⟩ = _))
    have hi0 : (((i : Nat) : Int) == 0) = false := by simp [h0]
    have u1 : (0 : Int) ≤ (u : Int) := by omega
    have u2 : (u : Int) < (n : Int) := by omega
    generalize (caW y.2.2.2 (wofList hd'.n3) 8 == 0) = ca at C5
    generalize sumL y.2.2.2 (wofList hd'.n3) = SL at C4 C5
    generalize hcm : (cmpW tt SL 8 == 0) = cm
    have HCM := hide hcm
    generalize cmpW tt SL 8 = cv at C4 HCM
    have hcm' := unhide HCM
    clear o ha hent he hit al hu hup e1 hcm htc htn h8 mt hlen hx hw hf m HCM hye hyi hyr hyc hyw hyt hy
    go_enter Tryz.func68, Tryz.ntmps68
    go_wp2_with fail
    refine (unhide D1).mono ?_
    rintro r w1 ⟨rfl, rfl⟩
    go_wp2_with fail
    go_region_held3 (fun W => W.cell? ⟨b, off + i * 14 + 13, none⟩ = some (.slice (some ⟨tb, tf, none⟩) 8 tc) ∧ W.cell? ⟨b, off + i * 14 + 3, none⟩ = some (.int .i64 hd'.n3) ∧ W.cell? ⟨b, off + i * 14 + 12, none⟩ = some (.int .i64 (u : Int)) ∧ W.cell? ⟨b, off + u * 14 + 13, none⟩ = some (.slice (some ⟨yb, yf, none⟩) 8 yc))
      (go_keep) (first
        | (go_at_call 85; refine ((unhide C3) _).mono ?_; rintro r w2 ⟨rfl, o2, b2⟩; have B2 : Below w1.heap.size w1 w2 := (Below.refl w1.heap.size w1).drew.trans b2; obtain ⟨s1, s2, s3, s4⟩ := (unhide HKP) w2 B2)
        | (go_at_call 86; refine ((unhide C5) _ B2 _ _ (IRow.own2 o2)).mono ?_; rintro r w3 ⟨a3, c3', rfl, o3, b3⟩; have B3 : Below w1.heap.size w1 w3 := B2.trans (b3.mono B2.size); obtain ⟨q1, q2, q3, q4⟩ := (unhide HKP) w3 B3))
    all_goals
      obtain ⟨gb, gf, rfl, hgb, hgc⟩ := (IRow.own2 o3).at (by omega)
      have C6 := hide (fun (W : World) (hb : Below w3.heap.size w3 W) => (unhide C4) W (B3.trans (hb.mono B3.size)) gb gf c3' ((IRow.own2 o3).below hb (Nat.le_refl _)))
      have HB3 := hide B3
      clear B3 B2 b2 b3 o2 o3 hgb hgc C4 C5 C3 s1 s2 s3 s4 q2 q3 q4 c3 c12 c13 d13
      cases ca
      · go_wp2_with fail
        try (go_region_held3 (fun W => W.cell? ⟨b, off + i * 14 + 13, none⟩ = some (.slice (some ⟨tb, tf, none⟩) 8 tc)) (go_keep) (first | (go_at_call 84; fail)))
        go_wp2_with fail
        go_ret
        exact ⟨rfl, by first | exact unhide HB3 | exact (unhide HB3).drew⟩
      · go_wp2_with fail
        refine ((unhide C6) _ (Below.refl _ _)).mono ?_
        rintro r w4 ⟨rfl, b4⟩
        have HB4 := hide ((unhide HB3).trans (b4.mono (unhide HB3).size))
        clear b4
        go_wp2_with fail
        go_ret
        exact ⟨ret_bool (by first | rfl | exact hcm'), unhide HB4⟩

end Go.Proofs.YtldiilmpmcbjkaaGreatDoor

/- What is proved here: what the model's l8Fault and l5Fault answer at a setting and at a header that lie anywhere in a block: their faults. -/
namespace Go.Proofs.YtldiilmpmcbjkaaGreatDoor
open Go.RowKit
set_option linter.unusedVariables false
set_option linter.unusedSimpArgs false
set_option maxRecDepth 100000

set_option maxHeartbeats 4000000 in
theorem l8Fault_at (g off : Nat) (x : Cf) (w : World) (sb : ∀ j v, (cfvals x).toList[j]? = some v → w.cell? ⟨g, off + j, none⟩ = some v) : Calls Tryz.prog 48 #[.pointer (some ⟨g, off, none⟩)] w fun r w' => r = .returned (.int .i64 (cfFlt x)) ∧ w' = w := by
  obtain ⟨m, p, e⟩ := x
  have r0 := sb 0 _ rfl
  have r1 := sb 1 _ rfl
  have r2 := sb 2 _ rfl
  simp only [Nat.add_zero] at r0
  clear sb
  unfold cfFlt
  simp only
  have HM := hide (fun W => in_any m 1 2 W)
  have HP := hide (fun W => in_any p 1 100 W)
  have HE := hide (fun W => in_any e 1 100 W)
  rw [show decide (1 ≤ m ∧ m ≤ 2) = within m 1 2 from rfl] at HM
  rw [show decide (1 ≤ p ∧ p ≤ 100) = within p 1 100 from rfl] at HP
  rw [show decide (1 ≤ e ∧ e ≤ 100) = within e 1 100 from rfl] at HE
  generalize within m 1 2 = bm at HM ⊢
  generalize within p 1 100 = bp at HP ⊢
  generalize within e 1 100 = be at HE ⊢
  obtain ⟨f, hf⟩ : ∃ f : Int, f = (if bm = true ∧ bp = true ∧ be = true then 0 else 3) := ⟨_, rfl⟩
  rw [← hf]
  have HF := hide hf
  clear hf
  cases bm
  · go_enter Tryz.func48, Tryz.ntmps48
    go_wp2_with fail
    refine ((unhide HM) _).mono ?_
    rintro r w1 ⟨rfl, rfl⟩
    go_wp2_with fail
    go_ret
    exact ⟨by rw [unhide HF]; simp, rfl⟩
  cases bp
  · go_enter Tryz.func48, Tryz.ntmps48
    go_wp2_with fail
    refine ((unhide HM) _).mono ?_
    rintro r w1 ⟨rfl, rfl⟩
    go_wp2_with fail
    refine ((unhide HP) _).mono ?_
    rintro r w1 ⟨rfl, rfl⟩
    go_wp2_with fail
    go_ret
    exact ⟨by rw [unhide HF]; simp, rfl⟩
  cases be
  all_goals
    go_enter Tryz.func48, Tryz.ntmps48
    go_wp2_with fail
    refine ((unhide HM) _).mono ?_
    rintro r w1 ⟨rfl, rfl⟩
    go_wp2_with fail
    refine ((unhide HP) _).mono ?_
    rintro r w1 ⟨rfl, rfl⟩
    go_wp2_with fail
    refine ((unhide HE) _).mono ?_
    rintro r w1 ⟨rfl, rfl⟩
    go_wp2_with fail
    go_ret
    exact ⟨by rw [unhide HF]; simp, rfl⟩

set_option maxHeartbeats 8000000 in
theorem l5Fault_at (g off : Nat) (x : HS) (h : Hd) (w : World) (sb : ∀ j v, (hvals x h).toList[j]? = some v → w.cell? ⟨g, off + j, none⟩ = some v) (o : HOk w x h) (m : HSm h) :
    Calls Tryz.prog 64 #[.pointer (some ⟨g, off, none⟩)] w fun e w' => e = .returned (.int .i64 (hdFlt h)) ∧ ∃ n, w' = w.drewN n := by
  have x0 := sb 0 _ rfl
  have x1 := sb 1 _ rfl
  have x2 := sb 2 _ rfl
  have x3 := sb 3 _ rfl
  have x4 := sb 4 _ rfl
  have x5 := sb 5 _ rfl
  have x6 := sb 6 _ rfl
  have x7 := sb 7 _ rfl
  have x8 := sb 8 _ rfl
  have x9 := sb 9 _ rfl
  have x10 := sb 10 _ rfl
  simp only [Nat.add_zero] at x0
  obtain ⟨b1, e1⟩ : ∃ b, (((x.p.n : Nat) : Int) != 32) = b := ⟨_, rfl⟩
  obtain ⟨b2, e2⟩ : ∃ b, (((x.t.n : Nat) : Int) != 0) = b := ⟨_, rfl⟩
  obtain ⟨b3, e3⟩ : ∃ b, (((x.t.n : Nat) : Int) != 4) = b := ⟨_, rfl⟩
  obtain ⟨b4, e4⟩ : ∃ b, (((x.r.n : Nat) : Int) != 32) = b := ⟨_, rfl⟩
  obtain ⟨b5, e5⟩ : ∃ b, (((x.g.n : Nat) : Int) != 4) = b := ⟨_, rfl⟩
  obtain ⟨b6, e6⟩ : ∃ b, (((x.e.n : Nat) : Int) != 0) = b := ⟨_, rfl⟩
  obtain ⟨b7, e7⟩ : ∃ b, (((x.e.n : Nat) : Int) != 4) = b := ⟨_, rfl⟩
  have HL : Hid (hdLen h = (b1 || (b2 && b3) || b4 || b5 || (b6 && b7))) := by
    show _ = _
    unfold hdLen
    rw [o.p.1, o.t.1, o.r.1, o.g.1, o.e.1, e1, e2, e3, e4, e5, e6, e7]
  obtain ⟨c1, f1⟩ : ∃ c, within h.n1 0 1099511627776 = c := ⟨_, rfl⟩
  obtain ⟨c2, f2⟩ : ∃ c, within h.n2 0 1099511627776 = c := ⟨_, rfl⟩
  obtain ⟨c3, f3⟩ : ∃ c, within h.n3 0 9 = c := ⟨_, rfl⟩
  obtain ⟨c5, f5⟩ : ∃ c, within h.n5 0 2 = c := ⟨_, rfl⟩
  have HN : Hid (hdNum h = (c1 && c2 && c3 && c5)) := by
    show _ = _
    unfold hdNum
    rw [f1, f2, f3, f5]
  have D1 := hide (fun W => l5Number_any h.n1 W)
  have D2 := hide (fun W => l5Number_any h.n2 W)
  have D3 := hide (fun W => in_any h.n3 0 9 W)
  have D5 := hide (fun W => in_any h.n5 0 2 W)
  simp only [f1] at D1
  simp only [f2] at D2
  simp only [show decide (0 ≤ h.n3 ∧ h.n3 ≤ 9) = c3 from f3] at D3
  simp only [show decide (0 ≤ h.n5 ∧ h.n5 ≤ 2) = c5 from f5] at D5
  have HSG := hide (l5Signers_any x.s.a x.s.n x.s.c h.s w o.s (by have := o.s.1; have := m.s; omega))
  have HE : Hid (hdFlt h = if hdLen h = true then 1 else if hdNum h = false then 3 else if sgFlt h.s = 0 then coFlt h.k else sgFlt h.s) := rfl
  have HK := hide o.k
  have hkl : x.k.n ≤ 1048576 := by have := o.k.1; have := m.k; omega
  clear o m f1 f2 f3 f5 sb
  generalize sgFlt h.s = q at HSG HE
  go_enter Tryz.func64, Tryz.ntmps64
  go_upto_region 1 with fail
  go_cut [58] (fun s wx => s = .bool (b1 || (b2 && b3) || b4 || b5 || (b6 && b7)) ∧ wx = w)
  case first =>
    cases b1
    case true =>
      go_wp2_with fail
      go_meet
      exact ⟨rfl, rfl⟩
    cases b4
    case true =>
      cases b2
      · go_wp2_with fail
        go_meet
        exact ⟨by simp, rfl⟩
      cases b3
      all_goals
        go_wp2_with fail
        go_meet
        exact ⟨by simp, rfl⟩
    cases b5
    case true =>
      cases b2
      · go_wp2_with fail
        go_meet
        exact ⟨by simp, rfl⟩
      cases b3
      all_goals
        go_wp2_with fail
        go_meet
        exact ⟨by simp, rfl⟩
    cases b6
    · cases b2
      · go_wp2_with fail
        go_meet
        exact ⟨by simp, rfl⟩
      cases b3
      all_goals
        go_wp2_with fail
        go_meet
        exact ⟨by simp, rfl⟩
    cases b2
    · go_wp2_with fail
      go_meet
      exact ⟨by simp, rfl⟩
    cases b3
    all_goals
      go_wp2_with fail
      go_meet
      exact ⟨by simp, rfl⟩
  case rest =>
    obtain ⟨rfl, hwc⟩ := hcut
    rw [hwc]
    clear hwc e1 e2 e3 e4 e5 e6 e7
    generalize hlb : (b1 || (b2 && b3) || b4 || b5 || (b6 && b7)) = lb
    rw [hlb] at HL
    clear hlb
    cases lb
    case true =>
      go_wp2_with fail
      go_ret
      exact ⟨ret_int (by rw [unhide HE, unhide HL, if_pos rfl]), 0, rfl⟩
    go_wp2_with fail
    refine ((unhide D1) _).mono ?_
    rintro e w' ⟨rfl, rfl⟩
    cases c1
    · go_wp2_with fail
      go_ret
      exact ⟨ret_int (by rw [unhide HE, unhide HL, unhide HN]; simp), 0, rfl⟩
    go_wp2_with fail
    refine ((unhide D2) _).mono ?_
    rintro e w' ⟨rfl, rfl⟩
    cases c2
    · go_wp2_with fail
      go_ret
      exact ⟨ret_int (by rw [unhide HE, unhide HL, unhide HN]; simp), 0, rfl⟩
    go_wp2_with fail
    refine ((unhide D3) _).mono ?_
    rintro e w' ⟨rfl, rfl⟩
    cases c3
    · go_wp2_with fail
      go_ret
      exact ⟨ret_int (by rw [unhide HE, unhide HL, unhide HN]; simp), 0, rfl⟩
    go_wp2_with fail
    refine ((unhide D5) _).mono ?_
    rintro e w' ⟨rfl, rfl⟩
    cases c5
    · go_wp2_with fail
      go_ret
      exact ⟨ret_int (by rw [unhide HE, unhide HL, unhide HN]; simp), 0, rfl⟩
    go_wp2_with fail
    refine (unhide HSG).mono ?_
    rintro e w1 ⟨rfl, n1, rfl⟩
    by_cases hq : q = 0
    · subst hq
      have HE2 : Hid (hdFlt h = coFlt h.k) := by
        show _ = _
        rw [unhide HE, unhide HL, unhide HN]; simp
      clear HE HL HN D1 D2 D3 D5 HSG x0 x1 x2 x3 x4 x5 x6 x7 x8 x9
      by_cases h7 : 7 < x.k.n
      · have d7 : decide ((7 : Int) < (x.k.n : Int)) = true := decide_eq_true (by omega)
        go_wp2_with fail
        go_ret
        refine ⟨ret_int ?_, n1, rfl⟩
        rw [unhide HE2]; unfold coFlt; rw [if_pos (by rw [(unhide HK).1]; exact h7)]
      have d7 : decide ((7 : Int) < (x.k.n : Int)) = false := decide_eq_false (by omega)
      have HE3 : Hid (hdFlt h = coFrom h.k) := by
        show _ = _
        rw [unhide HE2]; unfold coFlt; rw [if_neg (by rw [(unhide HK).1]; exact h7)]
      clear HE2
      go_wp2_with fail
      go_loop [4] (fun i => ∃ k : Nat, k ≤ x.k.n ∧ i = .int .i64 k ∧ coFrom h.k = coFrom (h.k.drop k)) (fun i => x.k.n - (intOf i).toNat)
      case atStart => exact ⟨0, Nat.zero_le _, rfl, by simp⟩
      case round =>
        obtain ⟨k, hk, rfl, hpre⟩ := hrel
        by_cases hlt : k < x.k.n
        · obtain ⟨z, hit⟩ : ∃ z, h.k[k]? = some z := ⟨_, List.getElem?_eq_getElem (by rw [(unhide HK).1]; exact hlt)⟩
          have hst := coFrom_step h.k k z hit
          rw [← hpre] at hst
          obtain ⟨bb, off, hba, _, hcc⟩ := (unhide HK).at (by omega)
          obtain ⟨s1, m1, d1, p0, r1⟩ := hcc k z hit
          have hzl : z.length = m1 := r1.1
          rw [hzl] at hst
          have HS := hide hst
          have x10' := x10
          rw [hba] at x10'
          have i1 : (0 : Int) ≤ (k : Int) := by omega
          have i2 : (k : Int) < (x.k.n : Int) := by omega
          clear r1 hst hpre hit hzl hcc hba x10
          by_cases h8 : m1 = 8
          · have d8 : (((m1 : Nat) : Int) != 8) = false := by simp [h8]
            rw [if_pos h8] at HS
            clear h8
            go_wp2_with fail
            go_round
            case rel => exact ⟨k + 1, by omega, by go_num, unhide HS⟩
            case measure => simp [intOf]; omega
          · have d8 : (((m1 : Nat) : Int) != 8) = true := by simp; omega
            rw [if_neg h8] at HS
            clear h8
            go_wp2_with fail
            go_ret
            exact ⟨ret_int (by rw [unhide HE3, unhide HS]), n1, rfl⟩
        · obtain rfl : k = x.k.n := by omega
          have e := coFrom_end h.k x.k.n (by rw [(unhide HK).1]; exact Nat.le_refl _)
          rw [e] at hpre
          have HP := hide hpre
          clear e hpre
          go_wp2_with fail
          go_ret
          exact ⟨ret_int (by rw [unhide HE3, unhide HP]), n1, rfl⟩
    · have hne : (q != 0) = true := by simp [hq]
      have HE2 : Hid (hdFlt h = q) := by
        show _ = _
        rw [unhide HE, unhide HL, unhide HN, if_neg (by simp), if_neg (by simp), if_neg hq]
      clear HE HL HN D1 D2 D3 D5 HSG hq
      go_wp2_with fail
      go_ret
      exact ⟨ret_int (unhide HE2).symm, n1, rfl⟩

end Go.Proofs.YtldiilmpmcbjkaaGreatDoor
