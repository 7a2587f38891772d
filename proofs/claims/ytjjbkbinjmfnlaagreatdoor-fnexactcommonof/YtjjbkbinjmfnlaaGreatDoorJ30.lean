/- What is proved here: what AtNumber of the program and of the model answers: the place of a number in the chain that counts. -/
import Derived.Test.YtjjbkbinjmfnlaaGreatDoorJ26
import Derived.Test.YtjjbkbinjmfnlaaGreatDoorChecked
import Derived.Test.YtjjbkbinjmfnlaaGreatDoorJ1
import Derived.WalkKit
import Derived.WalkLawsBesides
import Derived.KernelRfl
namespace Go.Proofs.YtjjbkbinjmfnlaaGreatDoor
open Go.RowKit
set_option linter.unusedVariables false
set_option linter.unusedSimpArgs false
set_option maxRecDepth 100000

/-- The number of the entry of a place. -/
def numAt (xs : List En) (p : Int) : Int := match xs[p.toNat]? with
  | some x => x.1.n1
  | none => -1

/-- The first of some places whose entry has that number; -1: there is none. -/
def atL (xs : List En) (n : Int) : List Int → Int
  | [] => -1
  | p :: r => if numAt xs p = n then p else atL xs n r

/-- Code and value of AtNumber. -/
def anCode (x : St) (n : Int) : Int := if stFlt x = 0 then (if atL x.2 n (coList x) = -1 then 4 else 0) else stFlt x
def anVal (x : St) (n : Int) : Int := if stFlt x = 0 then (if atL x.2 n (coList x) = -1 then 0 else atL x.2 n (coList x)) else 0

theorem an_cases (x : St) (n : Int) : (stFlt x ≠ 0 ∧ anCode x n = stFlt x ∧ anVal x n = 0) ∨ (stFlt x = 0 ∧ atL x.2 n (coList x) = -1 ∧ anCode x n = 4 ∧ anVal x n = 0) ∨ (stFlt x = 0 ∧ atL x.2 n (coList x) ≠ -1 ∧ anCode x n = 0 ∧ anVal x n = atL x.2 n (coList x)) := by
  unfold anCode anVal
  by_cases h : stFlt x = 0
  · rw [if_pos h, if_pos h]
    by_cases k : atL x.2 n (coList x) = -1
    · rw [if_pos k, if_pos k]; exact .inr (.inl ⟨h, k, rfl, rfl⟩)
    · rw [if_neg k, if_neg k]; exact .inr (.inr ⟨h, k, rfl, rfl⟩)
  · rw [if_neg h, if_neg h]; exact .inl ⟨h, rfl, rfl⟩

/-- Each place of a line is one of the entries. -/
theorem clL_in {xs : List En} (h : UpsOk xs) : ∀ (n : Nat) (p : Int), -1 ≤ p → p < xs.length → ∀ q ∈ clL xs n p, 0 ≤ q ∧ q < xs.length
  | 0, p, _, _, q, hq => by simp [clL] at hq
  | n + 1, p, h0, h1, q, hq => by
    rw [clL] at hq
    split at hq
    · simp at hq
    · rename_i hp
      rcases List.mem_cons.1 hq with rfl | hq
      · omega
      · have k := up_next h (p := p) (by omega) h1
        exact clL_in h n (upAt xs p) k.1 (by omega) q hq

theorem lineL_in {xs : List En} (h : UpsOk xs) {p : Int} (h0 : -1 ≤ p) (h1 : p < xs.length) : ∀ q ∈ lineL xs p, 0 ≤ q ∧ q < xs.length := fun q hq => by
  unfold lineL at hq
  exact clL_in h _ p h0 h1 q (List.mem_reverse.1 hq)

theorem co_in {x : St} : ∀ q ∈ coList x, 0 ≤ q ∧ q < x.2.length := fun q hq => by
  unfold coList at hq
  split at hq
  · rename_i h0
    have hb := bestL_lt (xs := x.2) (by have := (st_zero h0).2.1; omega)
    exact lineL_in (st_ups h0) (by omega) (by omega) q hq
  · simp at hq

theorem atL_range {xs : List En} {n : Int} : ∀ (l : List Int), (∀ q ∈ l, 0 ≤ q ∧ q < xs.length) → -1 ≤ atL xs n l ∧ atL xs n l < xs.length ∨ l = [] ∧ atL xs n l = -1
  | [], _ => .inr ⟨rfl, rfl⟩
  | p :: r, h => by
    rw [atL]
    have h1 := h p (by simp)
    split
    · exact .inl ⟨by omega, h1.2⟩
    · rcases atL_range r (fun q hq => h q (by simp [hq])) with k | ⟨_, k⟩
      · exact .inl k
      · rw [k]; exact .inl ⟨by omega, by omega⟩

/-- The search from a place of the list on. -/
theorem atL_drop {xs : List En} {n : Int} (l : List Int) (i : Nat) (p : Int) (h : l[i]? = some p) : atL xs n (l.drop i) = if numAt xs p = n then p else atL xs n (l.drop (i + 1)) := by
  obtain ⟨hk, e⟩ := List.getElem?_eq_some_iff.1 h
  rw [List.drop_eq_getElem_cons hk, e]
  rfl

theorem numAt_of {xs : List En} {k : Nat} {x : En} (h : xs[k]? = some x) : numAt xs (k : Int) = x.1.n1 := by
  unfold numAt
  simp only [Int.toNat_natCast, h]

set_option maxHeartbeats 4000000 in
theorem implAt_any (s : Sl) (x : St) (n : Int) (w : World) (o : RowOk enK w s x.2) (m : StSm x) (V : Laid w) :
    Calls Tryz.prog 26 #[.agg (tvals s x), .int .i64 n] w fun r w' => r = .returned (.agg #[.int .i64 (anCode x n), .int .i64 (anVal x n)]) ∧ Below w.heap.size w w' := by
  obtain ⟨k0, k1, k2, k3⟩ := two_blk w (tvals s x) #[.int .i64 0, .int .i64 0] 35 45
  obtain ⟨W0, e0⟩ : ∃ W, (w.alloc (.cells (tvals s x) 35)).alloc (.cells #[.int .i64 0, .int .i64 0] 45) = W := ⟨_, rfl⟩
  rw [e0] at k0 k1 k2 k3
  have D1 := hide (implCanon_any s x W0 (RowOk.below o k2 (Nat.le_refl _)) m (V.below k2 (Nat.le_refl _)))
  have HCS := hide (an_cases x n)
  have HIN := hide (co_in (x := x))
  have HN : Hid (∀ (W : World), Below w.heap.size w W → ∀ (k : Nat), k < x.2.length → ∃ b off, s.a = some ⟨b, off, none⟩ ∧ k < s.n ∧ W.cell? ⟨b, off + k * 14 + 1, none⟩ = some (.int .i64 (numAt x.2 (k : Int)))) := fun W hb k hk => by
    have hlen := o.len
    obtain ⟨b, off, ha, hent⟩ := o.ent (by omega)
    obtain ⟨y, hy⟩ : ∃ y, x.2[k]? = some y := ⟨_, List.getElem?_eq_getElem hk⟩
    obtain ⟨e, he⟩ := hent k y hy
    rw [numAt_of hy]
    exact ⟨b, off, ha, by omega, (he.below hb (Nat.le_refl _)).1 1 _ rfl⟩
  have hln : (coList x).length ≤ 24 := by
    unfold coList
    split
    · rename_i h0
      have hbl := bestL_lt (xs := x.2) (by have := (st_zero h0).2.1; omega)
      exact lineL_len _ _ (by have := (st_zero h0).2.1; omega)
    · simp
  have HD := hide (fun (i : Nat) (p : Int) (h : (coList x)[i]? = some p) => atL_drop (xs := x.2) (n := n) (coList x) i p h)
  have HF : Hid (atL x.2 n ((coList x).drop 0) = atL x.2 n (coList x)) := rfl
  have HE : Hid (∀ i, (coList x).length ≤ i → atL x.2 n ((coList x).drop i) = -1) := fun i hi => by rw [List.drop_eq_nil_of_le hi]; rfl
  have HRG := hide (atL_range (xs := x.2) (n := n))
  have HK := hide (fun (W : World) (hb : Below W0.heap.size W0 W) => And.intro (k0.below hb k0.lt) (k1.below hb k1.lt))
  have HB0 := hide k2
  have E0 := hide e0
  have HSL : Hid (∀ b off, s.a = some ⟨b, off, none⟩ → ∀ W, Below W0.heap.size W0 W → W.cell? ⟨w.heap.size, 3, none⟩ = some (.slice (some ⟨b, off, none⟩) s.n s.c)) := fun b off hs W hb => by rw [← hs]; exact (k0.below hb k0.lt).cell 3
  unfold tvals at E0 k0 HK D1 ⊢
  have x0 := k0.cell 0
  have x1 := k0.cell 1
  have x2 := k0.cell 2
  have x3 := k0.cell 3
  simp only [List.getElem?_cons_zero, List.getElem?_cons_succ] at x0 x1 x2 x3
  generalize anCode x n = cc at HCS ⊢
  generalize anVal x n = vv at HCS ⊢
  generalize stFlt x = q0 at D1 HCS
  generalize hA : atL x.2 n = A at HCS HD HF HE HRG
  generalize coList x = L at D1 HCS HIN HD HF HE hln
  clear e0 o m V k0 k1 k2 k3
  go_enter Tryz.func26, Tryz.ntmps26
  go_upto_region 1 with fail
  rw [unhide E0]
  clear E0
  go_wp2_with fail
  refine (unhide D1).mono ?_
  rintro r w1 ⟨a1, c1, rfl, o1, b1⟩
  have kc := SBlk.new w1 #[.int .i64 q0, .slice a1 L.length c1] 30
  have hb := below_alloc w1 (.cells #[.int .i64 q0, .slice a1 L.length c1] 30)
  obtain ⟨W2, e2⟩ : ∃ W, w1.alloc (.cells #[.int .i64 q0, .slice a1 L.length c1] 30) = W := ⟨_, rfl⟩
  rw [e2] at kc hb
  have b1 := b1.trans (hb.mono b1.size)
  have IR := hide ((IRow.own2 o1).below hb (Nat.le_refl _))
  have E2 := hide e2
  obtain ⟨k0, k1⟩ := (unhide HK) W2 b1
  have r0 := k1.cell 0
  have r1 := k1.cell 1
  have f0 := k1.free 0
  have f1 := k1.free 1
  simp only [List.getElem?_cons_zero, List.getElem?_cons_succ] at r0 r1
  have B1 := hide ((unhide HB0).trans (b1.mono (unhide HB0).size))
  have BW := hide b1
  clear b1 k0 k1 x0 x1 x2 x3 D1 o1 hb e2
  go_upto_region 2 with (rw [unhide E2])
  try rw [unhide E2]
  clear E2
  obtain ⟨gc, hg⟩ : ∃ g, g = w1.heap.size := ⟨_, rfl⟩
  rw [← hg] at kc ⊢
  clear hg
  have y0 := kc.cell 0
  have y1 := kc.cell 1
  simp only [List.getElem?_cons_zero, List.getElem?_cons_succ] at y0 y1
  clear kc
  have HFIN : Hid (∀ (W : World), Below w.heap.size w W → ∀ u v, Below w.heap.size w ((W.setCell ⟨w.heap.size + 1, 0, none⟩ u).setCell ⟨w.heap.size + 1, 1, none⟩ v)) := fun W h u v => (h.setCell (by show w.heap.size ≤ w.heap.size + 1; omega) u).setCell (by show w.heap.size ≤ w.heap.size + 1; omega) v
  by_cases hq : q0 = 0
  · subst hq
    have hR : (cc = if A L = -1 then 4 else 0) ∧ vv = if A L = -1 then 0 else A L := by
      rcases unhide HCS with ⟨h1, h2, h3⟩ | ⟨h1, h2, h3, h4⟩ | ⟨h1, h2, h3, h4⟩
      · exact absurd rfl h1
      · rw [if_pos h2, if_pos h2]; exact ⟨h3, h4⟩
      · rw [if_neg h2, if_neg h2]; exact ⟨h3, h4⟩
    have HR := hide hR
    clear hR HCS
    obtain ⟨len, hlen⟩ : ∃ l, l = L.length := ⟨_, rfl⟩
    have HLEN := hide hlen
    rw [← hlen] at hln IR y1 ⊢
    clear hlen
    go_wp2_with fail
    go_loopw [19] (fun i wr => ∃ k : Nat, k ≤ len ∧ i = .int .i64 k ∧ A L = A (L.drop k) ∧ wr = W2) (fun i _ => len - (intOf i).toNat)
    case atStart => exact ⟨0, Nat.zero_le _, rfl, (unhide HF).symm, rfl⟩
    case round =>
      obtain ⟨k, hk, rfl, hAL, hwr⟩ := hrel
      subst hwr
      by_cases hlt : k < len
      · obtain ⟨p, hp⟩ : ∃ p, L[k]? = some p := ⟨_, List.getElem?_eq_getElem (by rw [← unhide HLEN]; exact hlt)⟩
        have hpr := (unhide HIN) p (List.mem_of_getElem? hp)
        obtain ⟨pk, rfl⟩ : ∃ pk : Nat, p = (pk : Int) := ⟨p.toNat, by omega⟩
        obtain ⟨b, off, hs, hpn, cn⟩ := (unhide HN) wr (unhide B1) pk (by omega)
        have c3 := (unhide HSL) b off hs wr (unhide BW)
        obtain ⟨ba, oa, rfl, _, hcell⟩ := (unhide IR).at (by omega)
        have cl := hcell k hlt
        rw [List.getD_eq_getElem?_getD, hp] at cl
        simp only [Option.getD_some] at cl
        have hs2 := (unhide HD) k _ hp
        have i1 : (0 : Int) ≤ (k : Int) := by omega
        have i2 : (k : Int) < (len : Int) := by omega
        have j1 : (0 : Int) ≤ (pk : Int) := by omega
        have j2 : (pk : Int) < (s.n : Int) := by omega
        generalize hnu : numAt x.2 (pk : Int) = nu at cn hs2
        have HALD := hide (hAL.trans hs2)
        clear hpr hpn hs hcell hs2 hAL hp hnu
        by_cases he : nu = n
        · have d1 : (nu == n) = true := by simp [he]
          have hal := (unhide HALD).trans (if_pos he)
          have hcc : cc = 0 := by rw [(unhide HR).1, hal, if_neg (by omega)]
          have hvv : vv = (pk : Int) := by rw [(unhide HR).2, hal, if_neg (by omega)]
          subst hcc
          subst hvv
          clear he hal
          go_wp2_with fail
          exact bodyPost_ret (v := .agg #[.int .i64 0, .int .i64 (pk : Int)]) (by simp [results, Tryz.results26, go_sem, r0, r1]) rfl ⟨rfl, (unhide HFIN) _ (unhide B1) _ _⟩
        · have d1 : (nu == n) = false := by simp [he]
          have HN2 := hide ((unhide HALD).trans (if_neg he))
          clear he
          go_wp2_with fail
          go_roundw
          case rel => exact ⟨k + 1, by omega, by go_num, unhide HN2, by first | rfl | trivial⟩
          case measure => simp [intOf]; omega
      · obtain rfl : k = len := by omega
        have hal : A L = -1 := hAL.trans ((unhide HE) k (by rw [← unhide HLEN]; exact Nat.le_refl _))
        have hcc : cc = 4 := by rw [(unhide HR).1, hal, if_pos rfl]
        have hvv : vv = 0 := by rw [(unhide HR).2, hal, if_pos rfl]
        subst hcc
        subst hvv
        clear hAL hal
        go_wp2_with fail
        exact bodyPost_ret (v := .agg #[.int .i64 4, .int .i64 0]) (by simp [results, Tryz.results26, go_sem, r0, r1]) rfl ⟨rfl, (unhide HFIN) _ (unhide B1) _ _⟩
  · have hne : (q0 != 0) = true := by simp [hq]
    have hR : cc = q0 ∧ vv = 0 := by
      rcases unhide HCS with ⟨h1, h2, h3⟩ | ⟨h1, h2, h3, h4⟩ | ⟨h1, h2, h3, h4⟩
      · exact ⟨h2, h3⟩
      · exact absurd h1 hq
      · exact absurd h1 hq
    obtain ⟨hcc, hvv⟩ := hR
    subst hcc
    subst hvv
    clear hq HCS
    go_wp2_with fail
    exact bodyPost_ret (v := .agg #[.int .i64 cc, .int .i64 0]) (by simp [results, Tryz.results26, go_sem, r0, r1]) rfl ⟨rfl, (unhide HFIN) _ (unhide B1) _ _⟩

set_option maxHeartbeats 4000000 in
theorem l11At_any (g of' : Nat) (s : Sl) (x : St) (n : Int) (w : World) (hc : w.cell? ⟨g, of' + 3, none⟩ = some (.slice s.a s.n s.c)) (o : RowOk enK w s x.2) (h0 : stFlt x = 0) :
    Calls Tryz.prog 50 #[.pointer (some ⟨g, of', none⟩), .int .i64 n] w fun r w' => r = .returned (.int .i64 (atL x.2 n (coList x))) ∧ Below w.heap.size w w' := by
  have hlen := o.len
  have hz := (st_zero h0).2.1
  have hbl := bestL_lt (xs := x.2) (by omega)
  obtain ⟨b, off, ha, hent⟩ := o.ent (by omega)
  have D1 := hide (l11Head_any g of' s x.2 w hc o (st_all h0) (by omega) (by omega))
  have D2 := hide (fun (W : World) (hb : Below w.heap.size w W) => l10Line_any g of' s x.2 (st_ups h0) hz.2 ((bestL x.2 : Int) + 1).toNat (bestL x.2 : Int) (Nat.le_refl _) (by omega) (by omega) W ((hb.cell (p := ⟨g, of' + 3, none⟩) (lt_of_cell hc)).trans hc) (RowOk.below o hb (Nat.le_refl _)))
  have HC : Hid (∀ (W : World), Below w.heap.size w W → W.cell? ⟨g, of' + 3, none⟩ = some (.slice (some ⟨b, off, none⟩) s.n s.c)) := fun W hb => by rw [← ha]; exact ((hb.cell (p := ⟨g, of' + 3, none⟩) (lt_of_cell hc)).trans hc)
  have HN : Hid (∀ (W : World), Below w.heap.size w W → ∀ (k : Nat), k < x.2.length → W.cell? ⟨b, off + k * 14 + 1, none⟩ = some (.int .i64 (numAt x.2 (k : Int)))) := fun W hb k hk => by
    obtain ⟨y, hy⟩ : ∃ y, x.2[k]? = some y := ⟨_, List.getElem?_eq_getElem hk⟩
    obtain ⟨e, he⟩ := hent k y hy
    rw [numAt_of hy]
    exact (he.below hb (Nat.le_refl _)).1 1 _ rfl
  have HIN := hide (co_in (x := x))
  have hco : coList x = lineL x.2 (bestL x.2 : Int) := if_pos h0
  have hln : (lineL x.2 (bestL x.2 : Int)).length ≤ 24 := lineL_len _ _ (by omega)
  rw [← hco] at D2 hln
  have HD := hide (fun (i : Nat) (p : Int) (h : (coList x)[i]? = some p) => atL_drop (xs := x.2) (n := n) (coList x) i p h)
  have HF : Hid (atL x.2 n (coList x) = atL x.2 n ((coList x).drop 0)) := rfl
  have HE : Hid (∀ i, (coList x).length ≤ i → atL x.2 n ((coList x).drop i) = -1) := fun i hi => by rw [List.drop_eq_nil_of_le hi]; rfl
  generalize atL x.2 n (coList x) = R at HF ⊢
  generalize coList x = L at D2 HIN HD HF HE hln
  generalize bestL x.2 = bp at D1 D2
  have HLEN := hide hlen
  clear hlen hz hbl hent ha hco o h0 hc
  go_enter Tryz.func50, Tryz.ntmps50
  go_wp2_with fail
  refine (unhide D1).mono ?_
  rintro r w1 ⟨rfl, b1⟩
  have B1 := hide b1
  clear b1 D1
  go_wp2_with fail
  refine ((unhide D2) w1 (unhide B1)).mono ?_
  rintro r w2 ⟨a2, c2, rfl, o2, b2⟩
  have B2 := hide ((unhide B1).trans (b2.mono (unhide B1).size))
  have IR := hide (IRow.own2 o2)
  clear b2 o2 D2
  go_wp2_with fail
  obtain ⟨len, hlen⟩ : ∃ l, l = L.length := ⟨_, rfl⟩
  have HLL := hide hlen
  rw [← hlen] at hln IR ⊢
  clear hlen
  go_loopw [6] (fun i wr => ∃ k : Nat, k ≤ len ∧ i = .int .i64 k ∧ R = atL x.2 n (L.drop k) ∧ Below w2.heap.size w2 wr) (fun i _ => len - (intOf i).toNat)
  case atStart => exact ⟨0, Nat.zero_le _, rfl, unhide HF, Below.refl _ _⟩
  case round =>
    obtain ⟨k, hk, rfl, hAL, hbr⟩ := hrel
    clear HF
    by_cases hlt : k < len
    · obtain ⟨p, hp⟩ : ∃ p, L[k]? = some p := ⟨_, List.getElem?_eq_getElem (by rw [← unhide HLL]; exact hlt)⟩
      have hpr := (unhide HIN) p (List.mem_of_getElem? hp)
      obtain ⟨pk, rfl⟩ : ∃ pk : Nat, p = (pk : Int) := ⟨p.toNat, by omega⟩
      have hbw := (unhide B2).trans (hbr.mono (unhide B2).size)
      have cn := (unhide HN) wr hbw pk (by omega)
      have c3 := (unhide HC) wr hbw
      obtain ⟨ba, oa, rfl, hba, hcell⟩ := (unhide IR).at (by omega)
      have cl := (hbr.cell (p := ⟨ba, oa + k, none⟩) hba).trans (hcell k hlt)
      rw [List.getD_eq_getElem?_getD, hp] at cl
      simp only [Option.getD_some] at cl
      have hs2 := (unhide HD) k _ hp
      have i1 : (0 : Int) ≤ (k : Int) := by omega
      have i2 : (k : Int) < (len : Int) := by omega
      have j1 : (0 : Int) ≤ (pk : Int) := by omega
      have j2 : (pk : Int) < (s.n : Int) := by have := unhide HLEN; omega
      have d2 : decide ((k : Int) < (len : Int)) = true := decide_eq_true i2
      generalize hnu : numAt x.2 (pk : Int) = nu at cn hs2
      have HALD := hide (hAL.trans hs2)
      have HBR := hide hbr
      have HBW := hide hbw
      clear hpr hcell hs2 hAL hp hnu hbr hbw hba
      by_cases he : nu = n
      · have d1 : (nu == n) = true := by simp [he]
        have HAL := hide ((unhide HALD).trans (if_pos he))
        clear he
        go_wp2_with fail
        go_quiet (fail)
        go_wp2_with fail
        first
          | (go_ret; exact ⟨ret_int (unhide HAL).symm, below_drewN (unhide HBW) _⟩)
          | (go_quiet (fail); go_wp2_with fail; go_ret; exact ⟨ret_int (unhide HAL).symm, below_drewN (below_drewN (unhide HBW) _) _⟩)
      · have d1 : (nu == n) = false := by simp [he]
        have HN2 := hide ((unhide HALD).trans (if_neg he))
        clear he
        go_wp2_with fail
        go_quiet (fail)
        go_wp2_with fail
        go_roundw
        case rel => exact ⟨k + 1, by omega, by go_num, unhide HN2, below_drewN (unhide HBR) _⟩
        case measure => simp [intOf]; omega
    · obtain rfl : k = len := by omega
      have HAL := hide (hAL.trans ((unhide HE) k (by rw [← unhide HLL]; exact Nat.le_refl _)))
      have HBW := hide ((unhide B2).trans (hbr.mono (unhide B2).size))
      have d2 : decide ((k : Int) < (k : Int)) = false := decide_eq_false (by omega)
      clear hAL hbr
      go_wp2_with fail
      go_ret
      exact ⟨ret_int (unhide HAL).symm, unhide HBW⟩

set_option maxHeartbeats 4000000 in
theorem specAt_any (s : Sl) (x : St) (n : Int) (w : World) (o : RowOk enK w s x.2) (m : StSm x) :
    Calls Tryz.prog 25 #[.agg (tvals s x), .int .i64 n] w fun r w' => r = .returned (.agg #[.int .i64 (anCode x n), .int .i64 (anVal x n)]) ∧ Below w.heap.size w w' := by
  obtain ⟨k0, k1, k2, k3⟩ := two_blk w (tvals s x) #[.int .i64 0, .int .i64 0] 35 45
  obtain ⟨W0, e0⟩ : ∃ W, (w.alloc (.cells (tvals s x) 35)).alloc (.cells #[.int .i64 0, .int .i64 0] 45) = W := ⟨_, rfl⟩
  rw [e0] at k0 k1 k2 k3
  have D1 := hide (l10Fault_any w.heap.size 0 s x W0 (fun j v hv => by rw [Nat.zero_add, k0.cell]; exact hv) (RowOk.below o k2 (Nat.le_refl _)) m)
  have D2 := hide (fun (h0 : stFlt x = 0) (W : World) (hb : Below W0.heap.size W0 W) => l11At_any w.heap.size 0 s x n W (by rw [Nat.zero_add]; exact (k0.below hb k0.lt).cell 3) (RowOk.below o (k2.trans (hb.mono k2.size)) (Nat.le_refl _)) h0)
  have HCS := hide (an_cases x n)
  have HRG : Hid (-1 ≤ atL x.2 n (coList x)) := by
    show _ ≤ _
    rcases atL_range (xs := x.2) (n := n) (coList x) co_in with h | ⟨_, h⟩ <;> omega
  have HK := hide (fun (W : World) (hb : Below W0.heap.size W0 W) => And.intro (k0.below hb k0.lt) (k1.below hb k1.lt))
  have HB0 := hide k2
  have E0 := hide e0
  unfold tvals at E0 k0 HK ⊢
  generalize anCode x n = cc at HCS ⊢
  generalize anVal x n = vv at HCS ⊢
  generalize stFlt x = q0 at D1 D2 HCS
  generalize atL x.2 n (coList x) = fp at D2 HCS HRG
  clear e0 o m k0 k1 k2 k3
  go_enter Tryz.func25, Tryz.ntmps25
  go_upto_region 1 with fail
  rw [unhide E0]
  clear E0
  go_wp2_with fail
  refine (unhide D1).mono ?_
  rintro r w1 ⟨rfl, b1⟩
  obtain ⟨k0, k1⟩ := (unhide HK) w1 b1
  have r0 := k1.cell 0
  have r1 := k1.cell 1
  have f0 := k1.free 0
  have f1 := k1.free 1
  simp only [List.getElem?_cons_zero, List.getElem?_cons_succ] at r0 r1
  have B1 := hide ((unhide HB0).trans (b1.mono (unhide HB0).size))
  have BW := hide b1
  clear b1 k0 k1 D1
  have HFIN : Hid (∀ (W : World), Below w.heap.size w W → ∀ u v, Below w.heap.size w ((W.setCell ⟨w.heap.size + 1, 0, none⟩ u).setCell ⟨w.heap.size + 1, 1, none⟩ v)) := fun W h u v => (h.setCell (by show w.heap.size ≤ w.heap.size + 1; omega) u).setCell (by show w.heap.size ≤ w.heap.size + 1; omega) v
  rcases unhide HCS with ⟨h1, rfl, rfl⟩ | ⟨rfl, rfl, rfl, rfl⟩ | ⟨rfl, h2, rfl, rfl⟩
  · have hne : (cc != 0) = true := by simp [h1]
    clear h1
    go_wp2_with fail
    exact bodyPost_ret (v := .agg #[.int .i64 cc, .int .i64 0]) (by simp [results, Tryz.results25, go_sem, r0, r1]) rfl ⟨rfl, (unhide HFIN) _ (unhide B1) _ _⟩
  · have D3 := hide ((unhide D2) (by first | rfl | trivial) w1 (unhide BW))
    go_wp2_with fail
    refine (unhide D3).mono ?_
    rintro r w2 ⟨rfl, b2⟩
    obtain ⟨k0, k1⟩ := (unhide HK) w2 ((unhide BW).trans (b2.mono (unhide BW).size))
    have r0 := k1.cell 0
    have r1 := k1.cell 1
    have f0 := k1.free 0
    have f1 := k1.free 1
    simp only [List.getElem?_cons_zero, List.getElem?_cons_succ] at r0 r1
    have B2 := hide ((unhide B1).trans (b2.mono (unhide B1).size))
    clear b2 k0 k1
    go_wp2_with fail
    exact bodyPost_ret (v := .agg #[.int .i64 4, .int .i64 0]) (by simp [results, Tryz.results25, go_sem, r0, r1]) rfl ⟨rfl, (unhide HFIN) _ (unhide B2) _ _⟩
  · have D3 := hide ((unhide D2) (by first | rfl | trivial) w1 (unhide BW))
    have hfr := unhide HRG
    have hne : decide (vv < 0) = false := decide_eq_false (by omega)
    go_wp2_with fail
    refine (unhide D3).mono ?_
    rintro r w2 ⟨rfl, b2⟩
    obtain ⟨k0, k1⟩ := (unhide HK) w2 ((unhide BW).trans (b2.mono (unhide BW).size))
    have r0 := k1.cell 0
    have r1 := k1.cell 1
    have f0 := k1.free 0
    have f1 := k1.free 1
    simp only [List.getElem?_cons_zero, List.getElem?_cons_succ] at r0 r1
    have B2 := hide ((unhide B1).trans (b2.mono (unhide B1).size))
    clear b2 k0 k1 h2 hfr
    go_wp2_with fail
    exact bodyPost_ret (v := .agg #[.int .i64 0, .int .i64 vv]) (by simp [results, Tryz.results25, go_sem, r0, r1]) rfl ⟨rfl, by first | exact (unhide HFIN) _ (unhide B2) _ _ | exact (unhide B2).setCell (by show w.heap.size ≤ w.heap.size + 1; omega) _⟩

end Go.Proofs.YtjjbkbinjmfnlaaGreatDoor

/- What is proved here: the laws' comparison of two equal number answers gives true. -/
namespace Go.Proofs.YtjjbkbinjmfnlaaGreatDoor
open Go.RowKit
set_option linter.unusedVariables false
set_option maxRecDepth 100000

set_option maxHeartbeats 1000000 in
theorem eqInt_same (c v : Int) (w : World) :
    Calls Tryz.prog 22 #[.agg #[.int .i64 c, .int .i64 v], .agg #[.int .i64 c, .int .i64 v]] w fun e w' => e = .returned (.bool true) ∧ Below w.heap.size w w' := by
  have h1 : (c != c) = false := by simp
  have h2 : (v != v) = false := by simp
  go_enter Tryz.func22, Tryz.ntmps22
  go_wp2
  go_ret
  exact ⟨rfl, ((Below.refl _ _).alloc (Nat.le_refl _) _).alloc (by simp) _⟩

end Go.Proofs.YtjjbkbinjmfnlaaGreatDoor
