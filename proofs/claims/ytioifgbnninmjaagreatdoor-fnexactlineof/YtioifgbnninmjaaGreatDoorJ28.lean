/- What is proved here: plain facts on lines: the places from the first entry on to one; no program is named. -/
import Derived.Test.YtioifgbnninmjaaGreatDoorJ14
import Derived.Test.YtioifgbnninmjaaGreatDoorJ16
import Derived.Test.YtioifgbnninmjaaGreatDoorJ13
import Derived.Shelf.RegionOpenPlain
import Derived.Deep.AppendLies
import Derived.Test.YtioifgbnninmjaaGreatDoorJ19
import Derived.Test.YtioifgbnninmjaaGreatDoorJ25
import Derived.Test.YtioifgbnninmjaaGreatDoorJ5
import Derived.Test.YtioifgbnninmjaaGreatDoorChecked
import Derived.Test.YtioifgbnninmjaaGreatDoorJ1
import Derived.Test.YtioifgbnninmjaaGreatDoorJ15
import Derived.WalkKit
import Derived.WalkLawsBesides
import Derived.WalkSmall
import Derived.KernelRfl
namespace Go.Proofs.YtioifgbnninmjaaGreatDoor
open Go.RowKit
set_option linter.unusedVariables false
set_option maxRecDepth 100000
set_option linter.unusedSimpArgs false

/-- The place of the parent of an entry. -/
def upAt (xs : List En) (p : Int) : Int := match xs[p.toNat]? with
  | some x => x.2.2.1
  | none => -1

/-- Each entry has a right place of its parent. -/
def UpsOk (xs : List En) : Prop := ∀ (i : Nat) x, xs[i]? = some x → upOk i x.2.2.1 = true

theorem enFrom_zero (xs : List En) : ∀ (n i : Nat), i + n = xs.length → enFrom xs n i = 0 → ∀ (j : Nat) x, i ≤ j → xs[j]? = some x → enFlt (xs.take j) x = 0
  | 0, i, h, _, j, x, hj, hx => by have := (List.getElem?_eq_some_iff.1 hx).1; omega
  | n + 1, i, h, h0, j, x, hj, hx => by
    obtain ⟨y, hy⟩ : ∃ y, xs[i]? = some y := ⟨_, List.getElem?_eq_getElem (by omega)⟩
    rw [enFrom, hy] at h0
    simp only at h0
    split at h0
    · rename_i h1
      by_cases e : j = i
      · subst e
        obtain rfl : y = x := Option.some.inj (hy.symm.trans hx)
        exact h1
      · exact enFrom_zero xs n (i + 1) (by omega) h0 j x (by omega) hx
    · rename_i h1; exact absurd h0 h1

theorem st_zero {t : St} (h : stFlt t = 0) : cfFlt t.1 = 0 ∧ (1 ≤ t.2.length ∧ t.2.length ≤ 24) ∧ ∀ (j : Nat) x, t.2[j]? = some x → enFlt (t.2.take j) x = 0 := by
  unfold stFlt at h
  split at h
  · rename_i h1
    split at h
    · rename_i h2
      split at h
      · rename_i h3
        exact ⟨h1, h2, fun j x hx => enFrom_zero t.2 t.2.length 0 (by omega) h3 j x (Nat.zero_le _) hx⟩
      · rename_i h3; exact absurd h h3
    · omega
  · rename_i h1; exact absurd h h1

theorem st_ups {t : St} (h : stFlt t = 0) : UpsOk t.2 := fun i x hx => by
  have h1 := (enFlt_zero ((st_zero h).2.2 i x hx)).2.2.2.1
  have h2 := (List.getElem?_eq_some_iff.1 hx).1
  rwa [show (t.2.take i).length = i by simp; omega] at h1

theorem up_next {xs : List En} (h : UpsOk xs) {p : Int} (h0 : 0 ≤ p) (h1 : p < xs.length) : -1 ≤ upAt xs p ∧ upAt xs p < p := by
  obtain ⟨x, hx⟩ : ∃ x, xs[p.toNat]? = some x := ⟨_, List.getElem?_eq_getElem (by omega)⟩
  have k := h _ x hx
  unfold upAt
  rw [hx]
  unfold upOk at k
  split at k
  · have := of_decide_eq_true k
    simp only
    omega
  · simp only [within, decide_eq_true_eq] at k
    simp only
    omega

/-- The places from one up to the first. -/
def clL (xs : List En) : Nat → Int → List Int
  | 0, _ => []
  | n + 1, p => if p = -1 then [] else p :: clL xs n (upAt xs p)

theorem clL_none (xs : List En) (n : Nat) : clL xs n (-1) = [] := by
  cases n with
  | zero => rfl
  | succ n => exact if_pos rfl

theorem clL_fuel {xs : List En} (h : UpsOk xs) : ∀ (n m : Nat) (p : Int), p + 1 ≤ n → p + 1 ≤ m → -1 ≤ p → p < xs.length → clL xs n p = clL xs m p
  | 0, m, p, h1, h2, h3, h4 => by
    obtain rfl : p = -1 := by omega
    rw [clL_none, clL_none]
  | n + 1, m, p, h1, h2, h3, h4 => by
    by_cases e : p = -1
    · subst e
      rw [clL_none, clL_none]
    · obtain ⟨m', rfl⟩ : ∃ m', m = m' + 1 := ⟨m - 1, by omega⟩
      have k := up_next h (p := p) (by omega) h4
      rw [clL, clL, if_neg e, if_neg e, clL_fuel h n m' (upAt xs p) (by omega) (by omega) k.1 (by omega)]

/-- The line to a place. -/
def lineL (xs : List En) (p : Int) : List Int := (clL xs (p + 1).toNat p).reverse

theorem lineL_none (xs : List En) : lineL xs (-1) = [] := by unfold lineL; rw [clL_none]; rfl

theorem clL_step {xs : List En} (h : UpsOk xs) {p : Int} (h0 : 0 ≤ p) (h1 : p < xs.length) : clL xs (p + 1).toNat p = p :: clL xs (upAt xs p + 1).toNat (upAt xs p) := by
  have k := up_next h h0 h1
  rw [show (p + 1).toNat = p.toNat + 1 by omega, clL, if_neg (by omega), clL_fuel h p.toNat (upAt xs p + 1).toNat _ (by omega) (by omega) k.1 (by omega)]

theorem lineL_step {xs : List En} (h : UpsOk xs) {p : Int} (h0 : 0 ≤ p) (h1 : p < xs.length) : lineL xs p = lineL xs (upAt xs p) ++ [p] := by
  unfold lineL
  rw [clL_step h h0 h1, List.reverse_cons]

theorem clL_len (xs : List En) : ∀ (n : Nat) (p : Int), (clL xs n p).length ≤ n
  | 0, p => Nat.le_refl _
  | n + 1, p => by
    rw [clL]
    split
    · simp
    · have := clL_len xs n (upAt xs p); simp; omega

theorem lineL_len (xs : List En) (p : Int) (h : p < 24) : (lineL xs p).length ≤ 24 := by
  unfold lineL
  have := clL_len xs (p + 1).toNat p
  simp
  omega

end Go.Proofs.YtioifgbnninmjaaGreatDoor

/- What is proved here: the program's line to a place (climb, slices.Reverse, lineTo). -/
namespace Go.Proofs.YtioifgbnninmjaaGreatDoor
open Go.RowKit
set_option linter.unusedVariables false
set_option linter.unusedSimpArgs false
set_option maxRecDepth 100000

set_option maxHeartbeats 4000000 in
theorem climb1_none (Bp Be : Nat) (s : Sl) (xs : List En) (w : World) (hp : SBlk w Bp [.int .i64 (-1)] 2) (he : w.cell? ⟨Be, 0, none⟩ = some (.slice s.a s.n s.c)) (o : RowOk enK w s xs) :
    Calls Tryz.prog 128 #[.pointer (some ⟨Bp, 0, none⟩), .pointer (some ⟨Be, 0, none⟩)] w fun r w' => r = .returned (.int .i64 (-1)) ∧ w' = w := by
  have c0 := hp.cell 0
  have f0 := hp.free 0
  simp only [List.getElem?_cons_zero] at c0
  have D1 := hide (entryAt_any s xs (-1) w o (by omega))
  have e1 : enAt xs (-1) = none := if_pos rfl
  rw [e1] at D1
  clear hp o e1
  go_enter Tryz.func128, Tryz.ntmps128
  go_wp2_with fail
  refine (unhide D1).mono ?_
  rintro r w1 ⟨q, rfl, hq, rfl⟩
  rcases hq with ⟨rfl, _⟩ | ⟨_, _, _, _, _, h, _⟩
  · go_wp2_with fail
    go_ret
    exact ⟨rfl, rfl⟩
  · cases h

set_option maxHeartbeats 4000000 in
theorem climb1_some (Bp Be m : Nat) (s : Sl) (xs : List En) (w : World) (hp : SBlk w Bp [.int .i64 (m : Int)] 2) (he : w.cell? ⟨Be, 0, none⟩ = some (.slice s.a s.n s.c)) (o : RowOk enK w s xs) (hr : m < xs.length) :
    Calls Tryz.prog 128 #[.pointer (some ⟨Bp, 0, none⟩), .pointer (some ⟨Be, 0, none⟩)] w fun r w' => r = .returned (.int .i64 (m : Int)) ∧ w' = w.setCell ⟨Bp, 0, none⟩ (.int .i64 (upAt xs (m : Int))) := by
  have c0 := hp.cell 0
  have f0 := hp.free 0
  simp only [List.getElem?_cons_zero] at c0
  have D1 := hide (entryAt_any s xs (m : Int) w o (by omega))
  obtain ⟨x, hx⟩ : ∃ x, xs[m]? = some x := ⟨_, List.getElem?_eq_getElem hr⟩
  have e1 : enAt xs (m : Int) = some x := by unfold enAt; rw [if_neg (by omega)]; simpa using hx
  have hup : upAt xs (m : Int) = x.2.2.1 := by unfold upAt; simp only [Int.toNat_natCast, hx]
  rw [e1] at D1
  rw [hup]
  clear hp o hr e1 hup hx
  go_enter Tryz.func128, Tryz.ntmps128
  go_wp2_with fail
  refine (unhide D1).mono ?_
  rintro r w1 ⟨q, rfl, hq, rfl⟩
  rcases hq with ⟨_, h⟩ | ⟨b, of', ee, y, rfl, h, hat⟩
  · cases h
  · obtain rfl : x = y := Option.some.inj h
    have c12 := hat.1 12 _ rfl
    clear hat h D1
    go_wp2_with fail
    go_ret
    exact ⟨rfl, rfl⟩

theorem climb_any (s : Sl) (p : Int) (w : World) :
    Calls Tryz.prog 96 #[.slice s.a s.n s.c, .int .i64 p] w fun r w' => r = .returned (.func (.func 128) #[] #[.pointer (some ⟨w.heap.size + 1, 0, none⟩), .pointer (some ⟨w.heap.size, 0, none⟩)]) ∧ w' = (w.alloc (.cells #[.slice s.a s.n s.c] 30)).alloc (.cells #[.int .i64 p] 2) := by
  go_enter Tryz.func96, Tryz.ntmps96
  go_wp2_with fail
  go_ret
  exact ⟨rfl, rfl⟩

/-- Turned round up to a place: the first k and the last k are exchanged. -/
def revK (L : List Int) (k : Nat) : List Int := (List.range L.length).map fun i => if i < k ∨ L.length - k ≤ i then L.getD (L.length - 1 - i) 0 else L.getD i 0

theorem revK_length (L : List Int) (k : Nat) : (revK L k).length = L.length := by simp [revK]

theorem revK_at (L : List Int) (k i : Nat) (h : i < L.length) : (revK L k).getD i 0 = if i < k ∨ L.length - k ≤ i then L.getD (L.length - 1 - i) 0 else L.getD i 0 := by
  simp [revK, List.getD_eq_getElem?_getD, h]

theorem revK_zero (L : List Int) : revK L 0 = L := by
  refine List.ext_getElem (revK_length L 0) fun i h1 h2 => ?_
  have := revK_at L 0 i h2
  rw [getD_at _ _ h1] at this
  rw [this, if_neg (by omega), getD_at _ _ h2]

theorem revK_end (L : List Int) (k : Nat) (h : L.length ≤ 2 * k + 1) : revK L k = L.reverse := by
  refine List.ext_getElem (by rw [revK_length, List.length_reverse]) fun i h1 h2 => ?_
  rw [revK_length] at h1
  have := revK_at L k i h1
  rw [getD_at _ _ (by rw [revK_length]; exact h1)] at this
  rw [this, List.getElem_reverse]
  by_cases c : i < k ∨ L.length - k ≤ i
  · rw [if_pos c, getD_at _ _ (by omega)]
  · rw [if_neg c, getD_at _ _ h1]
    congr 1
    omega

theorem revK_step (L : List Int) (k : Nat) (h : k < L.length - 1 - k) : ((revK L k).set k ((revK L k).getD (L.length - 1 - k) 0)).set (L.length - 1 - k) ((revK L k).getD k 0) = revK L (k + 1) := by
  rw [revK_at L k _ (by omega), revK_at L k _ (by omega), if_neg (by omega), if_neg (by omega)]
  refine List.ext_getElem (by simp [revK_length]) fun i h1 h2 => ?_
  rw [revK_length] at h2
  have e := revK_at L (k + 1) i h2
  rw [getD_at _ _ (by rw [revK_length]; exact h2)] at e
  rw [e, List.getElem_set, List.getElem_set]
  by_cases a : L.length - 1 - k = i
  · rw [if_pos a, if_pos (by omega)]
    congr 1
    omega
  · rw [if_neg a]
    by_cases b : k = i
    · rw [if_pos b, if_pos (by omega), b]
    · rw [if_neg b]
      have e2 := revK_at L k i h2
      rw [getD_at _ _ (by rw [revK_length]; exact h2)] at e2
      rw [e2]
      by_cases c : i < k ∨ L.length - k ≤ i
      · rw [if_pos c, if_pos (by omega)]
      · rw [if_neg c, if_neg (by omega)]

theorem revK_map (L : List Int) (k : Nat) (h : k < L.length - 1 - k) : ((((revK L k).map (Value.int .i64)).set k (.int .i64 ((revK L k).getD (L.length - 1 - k) 0))).set (L.length - 1 - k) (.int .i64 ((revK L k).getD k 0))) = (revK L (k + 1)).map (Value.int .i64) := by
  rw [← revK_step L k h, List.map_set, List.map_set]

theorem own_drew {w : World} {B : Nat} {e : TypeId} {m n : Nat} {v : Value} {xs : List Value} (h : w.ownsRow B e m v n xs) : w.drew.ownsRow B e m v n xs := h

set_option maxHeartbeats 4000000 in
theorem reverse_any (B n c : Nat) (a : Option Addr) (L : List Int) (w : World) (h : w.ownsRow B 2 1 (.slice a n c) n (L.map (Value.int .i64))) (hn : n ≤ 1048576) :
    Calls Tryz.prog 97 #[.slice a n c] w fun r w' => (∃ v, r = .returned v) ∧ w'.ownsRow B 2 1 (.slice a n c) n (L.reverse.map (Value.int .i64)) ∧ Below B w w' := by
  have hl : L.length = n := by simpa using h.1
  rcases Nat.eq_zero_or_pos n with h0 | hp
  · subst h0
    obtain rfl : L = [] := List.length_eq_zero_iff.1 hl
    have HO := hide h
    clear h hl
    go_enter Tryz.func97, Tryz.ntmps97
    go_wp2_with fail
    refine wp_loop_rounds 1 ?_
    rw [rounds_succ]
    go_wp2_with fail
    exact bodyPost_end (v := .tuple #[]) (by simp [results, Tryz.results97]) rfl ⟨⟨_, rfl⟩, unhide HO, Below.refl _ _⟩
  · obtain ⟨g, ha⟩ : ∃ g, a = some ⟨g, 0, none⟩ := by
      rcases h.2 with ⟨h1, _⟩ | ⟨g, cap, cur, h1, _⟩
      · simp only [Value.slice.injEq] at h1; omega
      · simp only [Value.slice.injEq] at h1; exact ⟨g, h1.1⟩
    subst ha
    have hgB : B ≤ g := (h.lt g rfl).1
    have HL := hide hl
    rw [← revK_zero L] at h
    go_enter Tryz.func97, Tryz.ntmps97
    go_wp2_with fail
    go_loopw [2, 3] (fun i j wr => ∃ k : Nat, 2 * k ≤ n + 1 ∧ i = .int .i64 k ∧ j = .int .i64 ((n : Int) - 1 - k) ∧ wr.ownsRow B 2 1 (.slice (some ⟨g, 0, none⟩) n c) n ((revK L k).map (Value.int .i64)) ∧ Below B w wr) (fun i _ _ => n - (intOf i).toNat)
    case atStart => exact ⟨0, by omega, rfl, by simp, h, Below.refl _ _⟩
    case round =>
      obtain ⟨k, hk, rfl, rfl, hown, hbr⟩ := hrel
      by_cases hlt : k < n - 1 - k
      · obtain ⟨j, ej⟩ : ∃ j : Nat, n - 1 - k = j := ⟨_, rfl⟩
        have ej' : (n : Int) - 1 - (k : Int) = (j : Int) := by omega
        rw [ej']
        have cj := hown.cellAt j (by omega)
        have ci := hown.cellAt k (by omega)
        rw [List.getElem?_map, List.getElem?_eq_getElem (by rw [revK_length, unhide HL]; omega), Option.map_some, ← getD_at _ _ (by rw [revK_length, unhide HL]; omega)] at cj ci
        have fi := hown.frozenAt k
        have fj := hown.frozenAt j
        have R1 := hown.stored k (.int .i64 ((revK L k).getD j 0))
        have R2 := R1.1.stored j (.int .i64 ((revK L k).getD k 0))
        have hst := revK_map L k (by rw [unhide HL]; exact hlt)
        rw [unhide HL, ej] at hst
        rw [hst] at R2
        have HR := hide R2.1
        have HB := hide ((hbr.setCell (p := ⟨g, k, none⟩) hgB (.int .i64 ((revK L k).getD j 0))).setCell (p := ⟨g, j, none⟩) hgB (.int .i64 ((revK L k).getD k 0)))
        generalize (revK L k).getD j 0 = vj at cj HR HB
        generalize (revK L k).getD k 0 = vi at ci HR HB
        have k1 : (0 : Int) ≤ (k : Int) := by omega
        have k2 : (k : Int) < (n : Int) := by omega
        have j1 : (0 : Int) ≤ (j : Int) := by omega
        have j2 : (j : Int) < (n : Int) := by omega
        have kj : decide ((k : Int) < (j : Int)) = true := decide_eq_true (by omega)
        have nkj : ¬ k = j := by omega
        have njk : ¬ j = k := by omega
        clear R1 R2 hst hown hbr h
        have mixed : Tryz.prog.follows .mixedOrders = true := by kernel_rfl
        go_wp2_with fail
        go_region_o
        all_goals
          go_wp2_with fail
          go_roundw
          case rel => exact ⟨k + 1, by omega, by go_num, by go_num, own_drew (unhide HR), (unhide HB).drew⟩
          case measure => simp [intOf]; omega
      · have hd : decide ((k : Int) < (n : Int) - 1 - (k : Int)) = false := decide_eq_false (by omega)
        rw [revK_end L k (by rw [unhide HL]; omega)] at hown
        have HO := hide hown
        have HB := hide hbr
        obtain ⟨j, ej⟩ : ∃ j : Int, (n : Int) - 1 - (k : Int) = j := ⟨_, rfl⟩
        rw [ej] at hd ⊢
        clear hown hbr h ej
        go_wp2_with fail
        exact bodyPost_end (v := .tuple #[]) (by simp [results, Tryz.results97]) rfl ⟨⟨_, rfl⟩, unhide HO, unhide HB⟩

end Go.Proofs.YtioifgbnninmjaaGreatDoor

/- What is proved here: the program's line to a place (lineTo). -/
namespace Go.Proofs.YtioifgbnninmjaaGreatDoor
open Go.RowKit
set_option linter.unusedVariables false
set_option linter.unusedSimpArgs false
set_option maxRecDepth 100000

set_option maxHeartbeats 8000000 in
theorem lineTo_any (s : Sl) (xs : List En) (p : Nat) (w : World) (o : RowOk enK w s xs) (hu : UpsOk xs) (hl : xs.length ≤ 24) (hr : p < xs.length) :
    Calls Tryz.prog 63 #[.slice s.a s.n s.c, .int .i64 (p : Int)] w fun r w' => ∃ a c, r = .returned (.slice a (lineL xs p).length c) ∧ w'.ownsRow w.heap.size 2 1 (.slice a (lineL xs p).length c) (lineL xs p).length ((lineL xs p).map (Value.int .i64)) ∧ Below w.heap.size w w' := by
  obtain ⟨i0, hi, hz0, hz1, hz2⟩ := info_parts info2
  obtain ⟨k0, k1, K0, hsz⟩ := two_blk w #[.slice s.a s.n s.c] #[.int .i64 (p : Int)] 30 2
  have D0 := hide (climb_any s (p : Int) w)
  obtain ⟨W0, e0⟩ : ∃ W, (w.alloc (.cells #[.slice s.a s.n s.c] 30)).alloc (.cells #[.int .i64 (p : Int)] 2) = W := ⟨_, rfl⟩
  rw [e0] at k0 k1 K0 hsz D0
  have HRO := hide (fun (W : World) (hb : Below w.heap.size w W) => RowOk.below o hb (Nat.le_refl _))
  have D1 := hide (climb1_some (w.heap.size + 1) w.heap.size p s xs W0 k1 (k0.cell 0) ((unhide HRO) W0 K0) hr)
  have hnx := up_next hu (p := (p : Int)) (by omega) (by omega)
  have k0' := k0.other (g' := w.heap.size + 1) (i := 0) (v := .int .i64 (upAt xs (p : Int))) (by omega)
  have k1' := k1.set 0 (.int .i64 (upAt xs (p : Int)))
  simp only [List.set_cons_zero] at k1'
  have K1 := K0.setCell (p := ⟨w.heap.size + 1, 0, none⟩) (by show w.heap.size ≤ w.heap.size + 1; omega) (.int .i64 (upAt xs (p : Int)))
  have hz' : (W0.setCell ⟨w.heap.size + 1, 0, none⟩ (.int .i64 (upAt xs (p : Int)))).heap.size = w.heap.size + 2 := by rw [size_set']; exact hsz
  generalize W0.setCell ⟨w.heap.size + 1, 0, none⟩ (.int .i64 (upAt xs (p : Int))) = W1 at D1 k0' k1' K1 hz'
  have HU := hide hu
  have hL : lineL xs (p : Int) = (clL xs ((p : Int) + 1).toNat (p : Int)).reverse := rfl
  obtain ⟨LL, eLL⟩ : ∃ L, L = clL xs ((p : Int) + 1).toNat (p : Int) := ⟨_, rfl⟩
  rw [← eLL] at hL
  have hLn : LL.length ≤ 24 := by rw [eLL]; have := clL_len xs ((p : Int) + 1).toNat (p : Int); omega
  rw [hL]
  have HLE := hide eLL
  have HLn := hide hLn
  clear hL eLL hLn
  have HNX := hide hnx
  clear o e0 k0 k1 K0 hu
  go_enter Tryz.func63, Tryz.ntmps63
  go_wp2_with fail
  refine (unhide D0).mono ?_
  rintro r w1 ⟨rfl, rfl⟩
  go_wp2_with fail
  refine (unhide D1).mono ?_
  rintro r w2 ⟨rfl, rfl⟩
  go_wp2_with fail
  go_loopw [5, 7] (fun ln av wr => ∃ (q r : Int) (D : List Int) (a' : Option Addr) (c' : Nat), av = .int .i64 q ∧ ln = .slice a' D.length c' ∧ (-1 ≤ q ∧ q < xs.length) ∧ (q = -1 → r = -1) ∧ (q ≠ -1 → r = upAt xs q) ∧ LL = D ++ clL xs (q + 1).toNat q ∧ wr.ownsRow (w.heap.size + 2) 2 1 (.slice a' D.length c') D.length (D.map (Value.int .i64)) ∧ SBlk wr w.heap.size [.slice s.a s.n s.c] 30 ∧ SBlk wr (w.heap.size + 1) [.int .i64 r] 2 ∧ Below w.heap.size w wr ∧ w.heap.size + 2 ≤ wr.heap.size) (fun _ av _ => (intOf av + 1).toNat)
  case atStart => exact ⟨(p : Int), upAt xs (p : Int), [], none, 0, rfl, rfl, ⟨by omega, by omega⟩, fun h => by omega, fun _ => rfl, unhide HLE, World.ownsRow_nil _ _ _ _, k0', k1', K1, by omega⟩
  case round =>
    obtain ⟨q, r, D, a', c', rfl, rfl, hq, hr1, hr2, hLD, hown, kb0, kb1, hbr, hsw⟩ := hrel
    by_cases h1 : q = -1
    · subst h1
      rw [clL_none, List.append_nil] at hLD
      subst hLD
      have hne : ((-1 : Int) != -1) = false := by simp
      have DR := hide (reverse_any (w.heap.size + 2) LL.length c' a' LL wr hown (by have := unhide HLn; omega))
      have HB := hide hbr
      clear hr1 hr2 hown kb0 kb1 hbr
      go_wp2_with fail
      refine (unhide DR).mono ?_
      rintro rr w3 ⟨⟨v, rfl⟩, o3, b3⟩
      have O3 := hide (ownsRow_base o3 (B' := w.heap.size) (by omega))
      have B3 := hide ((unhide HB).trans (b3.mono (by omega)))
      clear o3 b3
      go_wp2_with fail
      go_ret
      refine ⟨a', c', ?_, ?_, unhide B3⟩
      · rw [List.length_reverse]; rfl
      · rw [List.length_reverse]; exact unhide O3
    · obtain ⟨m, rfl⟩ : ∃ m : Nat, q = (m : Int) := ⟨q.toNat, by omega⟩
      obtain rfl : r = upAt xs (m : Int) := hr2 h1
      have hm : m < xs.length := by omega
      have hnx := up_next (unhide HU) (p := (m : Int)) (by omega) (by omega)
      rw [clL_step (unhide HU) (by omega) (by omega)] at hLD
      have hDl : D.length ≤ 24 := by have := unhide HLn; rw [hLD, List.length_append] at this; omega
      have hne : (((m : Nat) : Int) != -1) = true := by simp
      have HLD : Hid (LL = (D ++ [(m : Int)]) ++ clL xs (upAt xs (m : Int) + 1).toNat (upAt xs (m : Int))) := by show _ = _; rw [hLD]; simp
      clear hr1 hr2 hLD h1 hq
      go_wp2_with (at_builtin; refine wpList_append_own _ rfl _ _ 59 rfl (w.heap.size + 2) 2 i0 (.int .i64 0) 1 8 Tryz.underlying59 hi hz0 hz1 hz2 rfl (by decide) _ _ _ rfl (hown.alloc _) ⟨wr.heap.size, 0, none⟩ 1 1 [.int .i64 (m : Int)] rfl rfl ?c1 ?c2 ?c3 ?c4 ?c5 ?_)
      case c1 => exact cell_one_new _ _ _
      case c2 => intro u hu; simp at hu; subst hu; rfl
      case c3 => unfold maxLen; omega
      case c4 => omega
      case c5 => simp; omega
      intro v' w4 hown2 hgrow _
      obtain ⟨a2, cap2, hv⟩ := own_shape hown2
      have hb4 : Below (w.heap.size + 2) wr w4 := ((Below.refl (w.heap.size + 2) wr).alloc (by omega) _).grown hgrow (by simp; omega) (fun g e => (hown.lt g e).1)
      rw [hv] at hown2
      rw [hv]
      have kb0 := kb0.below hb4 (by omega)
      have kb1 := kb1.below hb4 (by omega)
      have hb5 := hbr.trans (hb4.mono (by omega))
      have hs4 : w.heap.size + 2 ≤ w4.heap.size := Nat.le_trans hsw hb4.size
      have hown3 : w4.ownsRow (w.heap.size + 2) 2 1 (.slice a2 (D ++ [(m : Int)]).length cap2) (D ++ [(m : Int)]).length ((D ++ [(m : Int)]).map (Value.int .i64)) := by
        rw [List.length_append, List.map_append]; exact hown2
      have EL : Hid ((D ++ [(m : Int)]).length = D.length + 1) := by show _ = _; simp
      have HRW := hide ((unhide HRO) w4 hb5)
      clear hown2 hgrow hown hbr hb4 hv
      by_cases hu1 : upAt xs (m : Int) = -1
      · rw [hu1] at kb1 HLD
        have DC := hide (climb1_none (w.heap.size + 1) w.heap.size s xs w4 kb1 (kb0.cell 0) (unhide HRW))
        have Q := hide (And.intro hown3 (And.intro kb0 (And.intro kb1 (And.intro hb5 hs4))))
        clear hown3 kb0 kb1 hb5 hs4
        go_wp2_with fail
        refine (unhide DC).mono ?_
        rintro rr w5 ⟨rfl, rfl⟩
        go_wp2_with fail
        obtain ⟨hown3, kb0, kb1, hb5, hs4⟩ := unhide Q
        go_roundw
        case rel => exact ⟨-1, -1, D ++ [(m : Int)], a2, cap2, rfl, by rw [unhide EL], ⟨by omega, by omega⟩, fun _ => rfl, fun h => absurd rfl h, unhide HLD, hown3, kb0, kb1, hb5, hs4⟩
        case measure => simp [intOf]
      · obtain ⟨u, eu⟩ : ∃ u : Nat, upAt xs (m : Int) = (u : Int) := ⟨(upAt xs (m : Int)).toNat, by omega⟩
        rw [eu] at kb1 HLD hnx
        have DC := hide (climb1_some (w.heap.size + 1) w.heap.size u s xs w4 kb1 (kb0.cell 0) (unhide HRW) (by omega))
        have hown4 := ownsRow_setCell_below hown3 (a := ⟨w.heap.size + 1, 0, none⟩) (by show w.heap.size + 1 < w.heap.size + 2; omega) (.int .i64 (upAt xs (u : Int)))
        have kb0' := kb0.other (g' := w.heap.size + 1) (i := 0) (v := .int .i64 (upAt xs (u : Int))) (by omega)
        have kb1' := kb1.set 0 (.int .i64 (upAt xs (u : Int)))
        simp only [List.set_cons_zero] at kb1'
        have hb6 := hb5.setCell (p := ⟨w.heap.size + 1, 0, none⟩) (by show w.heap.size ≤ w.heap.size + 1; omega) (.int .i64 (upAt xs (u : Int)))
        have hs6 : w.heap.size + 2 ≤ (w4.setCell ⟨w.heap.size + 1, 0, none⟩ (.int .i64 (upAt xs (u : Int)))).heap.size := by rw [size_set']; exact hs4
        generalize w4.setCell ⟨w.heap.size + 1, 0, none⟩ (.int .i64 (upAt xs (u : Int))) = W5 at DC hown4 kb0' kb1' hb6 hs6
        have Q := hide (And.intro hown4 (And.intro kb0' (And.intro kb1' (And.intro hb6 hs6))))
        have hum : u < m := by omega
        clear hown3 kb0 kb1 hb5 hs4 hown4 kb0' kb1' hb6 hs6 hu1 eu
        go_wp2_with fail
        refine (unhide DC).mono ?_
        rintro rr w5 ⟨rfl, rfl⟩
        go_wp2_with fail
        obtain ⟨hown3, kb0, kb1, hb5, hs4⟩ := unhide Q
        go_roundw
        case rel => exact ⟨(u : Int), upAt xs (u : Int), D ++ [(m : Int)], a2, cap2, rfl, by rw [unhide EL], ⟨by omega, by omega⟩, fun h => by omega, fun _ => rfl, unhide HLD, hown3, kb0, kb1, hb5, hs4⟩
        case measure => simp [intOf]; omega

end Go.Proofs.YtioifgbnninmjaaGreatDoor

/- What is proved here: the model's line to a place (l10Line). -/
namespace Go.Proofs.YtioifgbnninmjaaGreatDoor
open Go.RowKit
set_option linter.unusedVariables false
set_option linter.unusedSimpArgs false
set_option maxRecDepth 100000

set_option maxHeartbeats 4000000 in
theorem l10Line_any (g of' : Nat) (s : Sl) (xs : List En) (hu : UpsOk xs) (hl : xs.length ≤ 24) (k : Nat) : ∀ (p : Int), (p + 1).toNat ≤ k → -1 ≤ p → p < xs.length → ∀ (w : World), w.cell? ⟨g, of' + 3, none⟩ = some (.slice s.a s.n s.c) → RowOk enK w s xs →
    Calls Tryz.prog 61 #[.pointer (some ⟨g, of', none⟩), .int .i64 p] w fun r w' => ∃ a c, r = .returned (.slice a (lineL xs p).length c) ∧ w'.ownsRow w.heap.size 2 1 (.slice a (lineL xs p).length c) (lineL xs p).length ((lineL xs p).map (Value.int .i64)) ∧ Below w.heap.size w w' := by
  obtain ⟨i0, hi, hz0, hz1, hz2⟩ := info_parts info2
  have base : ∀ w : World, Calls Tryz.prog 61 #[.pointer (some ⟨g, of', none⟩), .int .i64 (-1)] w fun r w' => ∃ a c, r = .returned (.slice a (lineL xs (-1)).length c) ∧ w'.ownsRow w.heap.size 2 1 (.slice a (lineL xs (-1)).length c) (lineL xs (-1)).length ((lineL xs (-1)).map (Value.int .i64)) ∧ Below w.heap.size w w' := by
    intro w
    rw [lineL_none]
    go_enter Tryz.func61, Tryz.ntmps61
    go_wp2_with fail
    go_ret
    exact ⟨some ⟨w.heap.size, 0, none⟩, 0, rfl, World.ownsRow_lit w #[] 0 (Nat.le_refl _) (by unfold maxLen; omega) rfl, below_alloc w _⟩
  induction k with
  | zero =>
    intro p h1 h2 h3 w hc o
    obtain rfl : p = -1 := by omega
    exact base w
  | succ k ih =>
    intro p h1 h2 h3 w hc o
    by_cases e : p = -1
    · subst e; exact base w
    obtain ⟨m, rfl⟩ : ∃ m : Nat, p = (m : Int) := ⟨p.toNat, by omega⟩
    have hlen := o.len
    obtain ⟨x, hx⟩ : ∃ x, xs[m]? = some x := ⟨_, List.getElem?_eq_getElem (by omega)⟩
    obtain ⟨b, off, ha, hent⟩ := o.ent (by omega)
    obtain ⟨ee, he⟩ := hent m x hx
    have c12 := he.1 12 _ rfl
    have hup : upAt xs (m : Int) = x.2.2.1 := by unfold upAt; simp only [Int.toNat_natCast, hx]
    have kk := up_next hu (p := (m : Int)) (by omega) h3
    have HI := hide (fun (W : World) (hb : Below w.heap.size w W) => ih (upAt xs (m : Int)) (by omega) kk.1 (by omega) W ((hb.cell (p := ⟨g, of' + 3, none⟩) (lt_of_cell hc)).trans hc) (RowOk.below o hb (Nat.le_refl _)))
    rw [hup] at HI
    rw [lineL_step hu (by omega) h3, hup]
    rw [ha] at hc
    have HLL := hide (lineL_len xs x.2.2.1 (by omega))
    generalize lineL xs x.2.2.1 = L at HI HLL ⊢
    have i1 : (0 : Int) ≤ (m : Int) := by omega
    have i2 : (m : Int) < (s.n : Int) := by omega
    have d1 : decide (((m : Nat) : Int) < 0) = false := decide_eq_false (by omega)
    clear ih base o hent he hx hlen kk hup h1 h2 h3 e ha
    go_enter Tryz.func61, Tryz.ntmps61
    go_wp2_with fail
    refine ((unhide HI) w (Below.refl _ _)).mono ?_
    rintro r w1 ⟨a1, c1, rfl, o1, b1⟩
    have hL := unhide HLL
    go_wp2_with (at_builtin; refine wpList_append_own _ rfl _ _ 59 rfl w.heap.size 2 i0 (.int .i64 0) 1 8 Tryz.underlying59 hi hz0 hz1 hz2 rfl (by decide) _ _ _ rfl (o1.alloc _) ⟨w1.heap.size, 0, none⟩ 1 1 [.int .i64 (m : Int)] rfl rfl ?c1 ?c2 ?c3 ?c4 ?c5 ?_)
    case c1 => exact cell_one_new _ _ _
    case c2 => intro u hu; simp at hu; subst hu; rfl
    case c3 => unfold maxLen; omega
    case c4 => omega
    case c5 => have := b1.size; simp; omega
    intro v' w2 hown2 hgrow _
    obtain ⟨a2, cap2, hv⟩ := own_shape hown2
    have hb2 : Below w.heap.size w w2 := (b1.alloc b1.size _).grown hgrow (by have := b1.size; simp; omega) (fun g e => (o1.lt g e).1)
    rw [hv] at hown2
    rw [hv]
    have HO := hide hown2
    have HB := hide hb2
    clear hown2 hb2 hgrow o1 b1
    go_wp2_with fail
    go_ret
    refine ⟨a2, cap2, ?_, ?_, unhide HB⟩
    · rw [List.length_append]; rfl
    · rw [List.length_append, List.map_append]; exact unhide HO

end Go.Proofs.YtioifgbnninmjaaGreatDoor

/- What is proved here: what the program's and the model's LineOf answer: the line to a place of a store. -/
namespace Go.Proofs.YtioifgbnninmjaaGreatDoor
open Go.RowKit
set_option linter.unusedVariables false
set_option linter.unusedSimpArgs false
set_option maxRecDepth 100000

/-- The code of a place of a store, and what LineOf answers. -/
def plCode (x : St) (p : Int) : Int := if stFlt x = 0 then (if within p 0 ((x.2.length : Int) - 1) = true then 0 else 3) else stFlt x
def loList (x : St) (p : Int) : List Int := if plCode x p = 0 then lineL x.2 p else []

theorem pl_zero {x : St} {p : Int} (h : plCode x p = 0) : stFlt x = 0 ∧ 0 ≤ p ∧ p < x.2.length := by
  unfold plCode at h
  split at h
  · rename_i h1
    split at h
    · rename_i h2
      simp only [within, decide_eq_true_eq] at h2
      exact ⟨h1, by omega, by omega⟩
    · omega
  · rename_i h1; exact absurd h h1

theorem codeUnl_any (b : Bool) (k : Int) (w : World) : Calls Tryz.prog 94 #[.bool b, .int .i64 k] w fun r w' => r = .returned (.int .i64 (if b = true then 0 else k)) ∧ w' = w := by
  cases b
  all_goals
    go_enter Tryz.func94, Tryz.ntmps94
    go_wp2_with fail
    go_ret
    exact ⟨rfl, rfl⟩

set_option maxHeartbeats 4000000 in
theorem placeFault_any (s : Sl) (x : St) (p : Int) (w : World) (o : RowOk enK w s x.2) (m : StSm x) (V : Laid w) :
    Calls Tryz.prog 62 #[.agg (tvals s x), .int .i64 p] w fun r w' => r = .returned (.int .i64 (plCode x p)) ∧ Below w.heap.size w w' := by
  have k0 := SBlk.new w (tvals s x) 32
  have k2 := below_alloc w (.cells (tvals s x) 32)
  obtain ⟨W0, e0⟩ : ∃ W, w.alloc (.cells (tvals s x) 32) = W := ⟨_, rfl⟩
  rw [e0] at k0 k2
  have D1 := hide (implStoreFault_any s x W0 (RowOk.below o k2 (Nat.le_refl _)) m (V.below k2 (Nat.le_refl _)))
  have D2 := hide (fun (W : World) (hb : Below w.heap.size w W) => isEntry_any s x.2 p W (RowOk.below o hb (Nat.le_refl _)))
  have HK := hide (fun (W : World) (hb : Below W0.heap.size W0 W) => k0.below hb k0.lt)
  have HE : Hid (plCode x p = _) := show plCode x p = _ by unfold plCode; exact rfl
  have HB0 := hide k2
  have E0 := hide e0
  unfold tvals at E0 k0 HK D1 ⊢
  have x0 := k0.cell 0
  have x1 := k0.cell 1
  have x2 := k0.cell 2
  have x3 := k0.cell 3
  simp only [List.getElem?_cons_zero, List.getElem?_cons_succ] at x0 x1 x2 x3
  generalize plCode x p = cc at HE ⊢
  generalize stFlt x = q0 at D1 HE
  generalize within p 0 ((x.2.length : Int) - 1) = wb at D2 HE
  have D3 := hide (fun (W : World) => codeUnl_any wb 3 W)
  clear e0 o m V k0 k2
  go_enter Tryz.func62, Tryz.ntmps62
  go_upto_region 1 with fail
  rw [unhide E0]
  clear E0
  go_wp2_with fail
  refine (unhide D1).mono ?_
  rintro r w1 ⟨rfl, b1⟩
  have x3' := ((unhide HK) w1 b1).cell 3
  simp only [List.getElem?_cons_zero, List.getElem?_cons_succ] at x3'
  have B1 := hide ((unhide HB0).trans (b1.mono (unhide HB0).size))
  clear b1 x0 x1 x2 x3 D1
  by_cases hq : q0 = 0
  · subst hq
    have HE1 := hide ((unhide HE).trans (if_pos rfl))
    cases wb
    all_goals
      go_wp2_with fail
      refine ((unhide D2) _ (unhide B1)).mono ?_
      rintro r w2 ⟨rfl, rfl⟩
      go_wp2_with fail
      refine ((unhide D3) _).mono ?_
      rintro r w3 ⟨rfl, rfl⟩
      go_wp2_with fail
      go_ret
      exact ⟨ret_int (unhide HE1).symm, unhide B1⟩
  · have HE1 := hide ((unhide HE).trans (if_neg hq))
    have hne : (q0 != 0) = true := by simp [hq]
    go_wp2_with fail
    go_ret
    exact ⟨ret_int (unhide HE1).symm, unhide B1⟩

set_option maxHeartbeats 4000000 in
theorem l10Asked_any (g of' : Nat) (s : Sl) (x : St) (p : Int) (w : World) (sb : ∀ j v, (tvals s x).toList[j]? = some v → w.cell? ⟨g, of' + j, none⟩ = some v) (o : RowOk enK w s x.2) (m : StSm x) :
    Calls Tryz.prog 60 #[.pointer (some ⟨g, of', none⟩), .int .i64 p] w fun r w' => r = .returned (.int .i64 (plCode x p)) ∧ Below w.heap.size w w' := by
  have D1 := hide (l10Fault_any g of' s x w sb o m)
  have hlen := o.len
  have hmx : s.n ≤ maxLen := Nat.le_trans o.room o.max
  unfold maxLen at hmx
  have x3 := sb 3 _ rfl
  have HX3 := hide (fun (W : World) (hb : Below w.heap.size w W) => (hb.cell (p := ⟨g, of' + 3, none⟩) (lt_of_cell x3)).trans x3)
  have HE : Hid (plCode x p = _) := show plCode x p = _ by unfold plCode; exact rfl
  have D2 := hide (fun (W : World) => in_any p 0 ((x.2.length : Int) - 1) W)
  rw [show decide (0 ≤ p ∧ p ≤ (x.2.length : Int) - 1) = within p 0 ((x.2.length : Int) - 1) from rfl] at D2
  generalize plCode x p = cc at HE ⊢
  generalize stFlt x = q0 at D1 HE
  generalize within p 0 ((x.2.length : Int) - 1) = wb at D2 HE
  rw [← hlen] at D2
  clear sb o m hlen x3
  go_enter Tryz.func60, Tryz.ntmps60
  go_wp2_with fail
  refine (unhide D1).mono ?_
  rintro r w1 ⟨rfl, b1⟩
  have x3 := (unhide HX3) w1 b1
  have B1 := hide b1
  clear b1 D1
  by_cases hq : q0 = 0
  · subst hq
    have HE1 := hide ((unhide HE).trans (if_pos rfl))
    have wn : IntKind.i64.wrap ((s.n : Nat) : Int) = ((s.n : Nat) : Int) := by rw [IntKind.wrap_i64]; omega
    cases wb
    all_goals
      go_wp2_with fail
      refine ((unhide D2) _).mono ?_
      rintro r w2 ⟨rfl, rfl⟩
      go_wp2_with fail
      go_ret
      exact ⟨ret_int (unhide HE1).symm, unhide B1⟩
  · have HE1 := hide ((unhide HE).trans (if_neg hq))
    have hne : (q0 != 0) = true := by simp [hq]
    go_wp2_with fail
    go_ret
    exact ⟨ret_int (unhide HE1).symm, unhide B1⟩

set_option maxHeartbeats 4000000 in
theorem implLine_any (s : Sl) (x : St) (p : Int) (w : World) (o : RowOk enK w s x.2) (m : StSm x) (V : Laid w) :
    Calls Tryz.prog 28 #[.agg (tvals s x), .int .i64 p] w fun r w' => ∃ a c, r = .returned (.agg #[.int .i64 (plCode x p), .slice a (loList x p).length c]) ∧
      w'.ownsRow w.heap.size 2 1 (.slice a (loList x p).length c) (loList x p).length ((loList x p).map (Value.int .i64)) ∧ Below w.heap.size w w' := by
  obtain ⟨k0, k1, k2, k3⟩ := two_blk w (tvals s x) #[.int .i64 0, .slice none 0 0] 32 61
  obtain ⟨W0, e0⟩ : ∃ W, (w.alloc (.cells (tvals s x) 32)).alloc (.cells #[.int .i64 0, .slice none 0 0] 61) = W := ⟨_, rfl⟩
  rw [e0] at k0 k1 k2 k3
  have D1 := hide (placeFault_any s x p W0 (RowOk.below o k2 (Nat.le_refl _)) m (V.below k2 (Nat.le_refl _)))
  have D2 : Hid (plCode x p = 0 → ∀ (W : World), Below w.heap.size w W → ∃ pn : Nat, p = (pn : Int) ∧ Calls Tryz.prog 63 #[.slice s.a s.n s.c, .int .i64 (pn : Int)] W fun r w' => ∃ a c, r = .returned (.slice a (lineL x.2 p).length c) ∧ w'.ownsRow W.heap.size 2 1 (.slice a (lineL x.2 p).length c) (lineL x.2 p).length ((lineL x.2 p).map (Value.int .i64)) ∧ Below W.heap.size W w') := fun h0 W hb => by
    obtain ⟨h1, h2, h3⟩ := pl_zero h0
    refine ⟨p.toNat, by omega, ?_⟩
    have := lineTo_any s x.2 p.toNat W (RowOk.below o hb (Nat.le_refl _)) (st_ups h1) (st_zero h1).2.1.2 (by omega)
    rw [show ((p.toNat : Nat) : Int) = p by omega] at this ⊢
    exact this
  have HLO : Hid (loList x p = if plCode x p = 0 then lineL x.2 p else []) := rfl
  have HK := hide (fun (W : World) (hb : Below W0.heap.size W0 W) => And.intro (k0.below hb k0.lt) (k1.below hb k1.lt))
  have HB0 := hide k2
  have E0 := hide e0
  unfold tvals at E0 k0 HK D1 ⊢
  have x0 := k0.cell 0
  have x1 := k0.cell 1
  have x2 := k0.cell 2
  have x3 := k0.cell 3
  simp only [List.getElem?_cons_zero, List.getElem?_cons_succ] at x0 x1 x2 x3
  generalize plCode x p = cc at D1 D2 HLO ⊢
  generalize loList x p = LL at HLO ⊢
  have hz : w.heap.size + 1 < W0.heap.size := by omega
  clear e0 o m V k0 k1 k2 k3
  go_enter Tryz.func28, Tryz.ntmps28
  go_upto_region 1 with fail
  rw [unhide E0]
  clear E0
  go_wp2_with fail
  refine (unhide D1).mono ?_
  rintro r w1 ⟨rfl, b1⟩
  obtain ⟨k0, k1⟩ := (unhide HK) w1 b1
  have x3' := k0.cell 3
  have r0 := k1.cell 0
  have r1 := k1.cell 1
  have f0 := k1.free 0
  have f1 := k1.free 1
  simp only [List.getElem?_cons_zero, List.getElem?_cons_succ] at x3' r0 r1
  have B1 := hide ((unhide HB0).trans (b1.mono (unhide HB0).size))
  have BW := hide b1
  clear b1 k0 k1 x0 x1 x2 x3 D1
  by_cases hq : cc = 0
  · subst hq
    have hLO := (unhide HLO).trans (if_pos rfl)
    subst hLO
    obtain ⟨pn, rfl, D3⟩ := (unhide D2) (by first | rfl | trivial) w1 (unhide B1)
    have D3' := hide D3
    clear D2 D3 HLO
    go_wp2_with fail
    refine (unhide D3').mono ?_
    rintro r w2 ⟨a2, c2, rfl, o2, b2⟩
    obtain ⟨k0, k1⟩ := (unhide HK) w2 ((unhide BW).trans (b2.mono (unhide BW).size))
    have r0 := k1.cell 0
    have r1 := k1.cell 1
    have f0 := k1.free 0
    have f1 := k1.free 1
    simp only [List.getElem?_cons_zero, List.getElem?_cons_succ] at r0 r1
    have hz1 : W0.heap.size ≤ w1.heap.size := (unhide BW).size
    have Q := hide (And.intro o2 (And.intro ((unhide B1).trans (b2.mono (unhide B1).size)) hz1))
    clear b2 k0 k1 o2 hz1
    go_wp2_with fail
    obtain ⟨o2, B2, hz1⟩ := unhide Q
    refine bodyPost_ret (v := .agg #[.int .i64 0, .slice a2 (lineL x.2 (pn : Int)).length c2]) (by simp [results, Tryz.results28, go_sem, r0, r1]) rfl ⟨a2, c2, rfl, ?_, ?_⟩
    · exact ownsRow_base (ownsRow_setCell_below (ownsRow_setCell_below o2 (a := ⟨w.heap.size + 1, 0, none⟩) (by show w.heap.size + 1 < _; omega) _) (a := ⟨w.heap.size + 1, 1, none⟩) (by show w.heap.size + 1 < _; omega) _) (by omega)
    · exact (B2.setCell (by show w.heap.size ≤ w.heap.size + 1; omega) _).setCell (by show w.heap.size ≤ w.heap.size + 1; omega) _
  · have hne : (cc != 0) = true := by simp [hq]
    have hLO := (unhide HLO).trans (if_neg hq)
    subst hLO
    clear HLO D2 hq
    go_wp2_with fail
    exact bodyPost_ret (v := .agg #[.int .i64 cc, .slice none 0 0]) (by simp [results, Tryz.results28, go_sem, r0, r1]) rfl ⟨none, 0, rfl, World.ownsRow_nil _ _ _ _, ((unhide B1).setCell (by show w.heap.size ≤ w.heap.size + 1; omega) _).setCell (by show w.heap.size ≤ w.heap.size + 1; omega) _⟩

set_option maxHeartbeats 4000000 in
theorem specLine_any (s : Sl) (x : St) (p : Int) (w : World) (o : RowOk enK w s x.2) (m : StSm x) :
    Calls Tryz.prog 27 #[.agg (tvals s x), .int .i64 p] w fun r w' => ∃ a c, r = .returned (.agg #[.int .i64 (plCode x p), .slice a (loList x p).length c]) ∧
      w'.ownsRow w.heap.size 2 1 (.slice a (loList x p).length c) (loList x p).length ((loList x p).map (Value.int .i64)) ∧ Below w.heap.size w w' := by
  obtain ⟨k0, k1, k2, k3⟩ := two_blk w (tvals s x) #[.int .i64 0, .slice none 0 0] 32 61
  obtain ⟨W0, e0⟩ : ∃ W, (w.alloc (.cells (tvals s x) 32)).alloc (.cells #[.int .i64 0, .slice none 0 0] 61) = W := ⟨_, rfl⟩
  rw [e0] at k0 k1 k2 k3
  have D1 := hide (l10Asked_any w.heap.size 0 s x p W0 (fun j v hv => by rw [Nat.zero_add, k0.cell]; exact hv) (RowOk.below o k2 (Nat.le_refl _)) m)
  have D2 : Hid (plCode x p = 0 → ∀ (W : World), Below W0.heap.size W0 W → ∃ pn : Nat, p = (pn : Int) ∧ Calls Tryz.prog 61 #[.pointer (some ⟨w.heap.size, 0, none⟩), .int .i64 (pn : Int)] W fun r w' => ∃ a c, r = .returned (.slice a (lineL x.2 p).length c) ∧ w'.ownsRow W.heap.size 2 1 (.slice a (lineL x.2 p).length c) (lineL x.2 p).length ((lineL x.2 p).map (Value.int .i64)) ∧ Below W.heap.size W w') := fun h0 W hb => by
    obtain ⟨h1, h2, h3⟩ := pl_zero h0
    refine ⟨p.toNat, by omega, ?_⟩
    have hc := (k0.below hb k0.lt).cell 3
    have := l10Line_any w.heap.size 0 s x.2 (st_ups h1) (st_zero h1).2.1.2 (p + 1).toNat p (Nat.le_refl _) (by omega) h3 W (by rw [Nat.zero_add]; exact hc) (RowOk.below o (k2.trans (hb.mono k2.size)) (Nat.le_refl _))
    rw [show ((p.toNat : Nat) : Int) = p by omega]
    exact this
  have HLO : Hid (loList x p = if plCode x p = 0 then lineL x.2 p else []) := rfl
  have HK := hide (fun (W : World) (hb : Below W0.heap.size W0 W) => And.intro (k0.below hb k0.lt) (k1.below hb k1.lt))
  have HB0 := hide k2
  have E0 := hide e0
  unfold tvals at E0 k0 HK ⊢
  have x0 := k0.cell 0
  have x1 := k0.cell 1
  have x2 := k0.cell 2
  have x3 := k0.cell 3
  simp only [List.getElem?_cons_zero, List.getElem?_cons_succ] at x0 x1 x2 x3
  generalize plCode x p = cc at D1 D2 HLO ⊢
  generalize loList x p = LL at HLO ⊢
  have hz : w.heap.size + 1 < W0.heap.size := by omega
  clear e0 o m k0 k1 k2 k3
  go_enter Tryz.func27, Tryz.ntmps27
  go_upto_region 1 with fail
  rw [unhide E0]
  clear E0
  go_wp2_with fail
  refine (unhide D1).mono ?_
  rintro r w1 ⟨rfl, b1⟩
  obtain ⟨k0, k1⟩ := (unhide HK) w1 b1
  have x3' := k0.cell 3
  have r0 := k1.cell 0
  have r1 := k1.cell 1
  have f0 := k1.free 0
  have f1 := k1.free 1
  simp only [List.getElem?_cons_zero, List.getElem?_cons_succ] at x3' r0 r1
  have B1 := hide ((unhide HB0).trans (b1.mono (unhide HB0).size))
  have BW := hide b1
  clear b1 k0 k1 x0 x1 x2 x3 D1
  by_cases hq : cc = 0
  · subst hq
    have hLO := (unhide HLO).trans (if_pos rfl)
    subst hLO
    obtain ⟨pn, rfl, D3⟩ := (unhide D2) (by first | rfl | trivial) w1 (unhide BW)
    have D3' := hide D3
    clear D2 D3 HLO
    go_wp2_with fail
    refine (unhide D3').mono ?_
    rintro r w2 ⟨a2, c2, rfl, o2, b2⟩
    obtain ⟨k0, k1⟩ := (unhide HK) w2 ((unhide BW).trans (b2.mono (unhide BW).size))
    have r0 := k1.cell 0
    have r1 := k1.cell 1
    have f0 := k1.free 0
    have f1 := k1.free 1
    simp only [List.getElem?_cons_zero, List.getElem?_cons_succ] at r0 r1
    have hz1 : W0.heap.size ≤ w1.heap.size := (unhide BW).size
    have Q := hide (And.intro o2 (And.intro ((unhide B1).trans (b2.mono (unhide B1).size)) hz1))
    clear b2 k0 k1 o2 hz1
    go_wp2_with fail
    obtain ⟨o2, B2, hz1⟩ := unhide Q
    refine bodyPost_ret (v := .agg #[.int .i64 0, .slice a2 (lineL x.2 (pn : Int)).length c2]) (by simp [results, Tryz.results27, go_sem, r0, r1]) rfl ⟨a2, c2, rfl, ?_, ?_⟩
    · exact ownsRow_base (ownsRow_setCell_below (ownsRow_setCell_below o2 (a := ⟨w.heap.size + 1, 0, none⟩) (by show w.heap.size + 1 < _; omega) _) (a := ⟨w.heap.size + 1, 1, none⟩) (by show w.heap.size + 1 < _; omega) _) (by omega)
    · exact (B2.setCell (by show w.heap.size ≤ w.heap.size + 1; omega) _).setCell (by show w.heap.size ≤ w.heap.size + 1; omega) _
  · have hne : (cc != 0) = true := by simp [hq]
    have hLO := (unhide HLO).trans (if_neg hq)
    subst hLO
    clear HLO D2 hq
    go_wp2_with fail
    exact bodyPost_ret (v := .agg #[.int .i64 cc, .slice none 0 0]) (by simp [results, Tryz.results27, go_sem, r0, r1]) rfl ⟨none, 0, rfl, World.ownsRow_nil _ _ _ _, ((unhide B1).setCell (by show w.heap.size ≤ w.heap.size + 1; omega) _).setCell (by show w.heap.size ≤ w.heap.size + 1; omega) _⟩

end Go.Proofs.YtioifgbnninmjaaGreatDoor

/- What is proved here: the contracts of the laws' helper functions that mark a list or a header that a call made, and look for the marks later (markByteSS, markHeader, heldByteSS, heldHeader). -/
namespace Go.Proofs.YtioifgbnninmjaaGreatDoor
open Go.RowKit
set_option linter.unusedVariables false
set_option maxRecDepth 100000

theorem take_drop_at (m l : List (List Int)) (k : Nat) (h : m.length = l.length) : (m.take k ++ l.drop k)[k]? = l[k]? := by
  by_cases hk : k ≤ m.length
  · rw [List.getElem?_append_right (by rw [List.length_take]; omega), List.length_take, Nat.min_eq_left hk, Nat.sub_self, List.getElem?_drop, Nat.add_zero]
  · rw [List.getElem?_eq_none (by rw [List.length_append, List.length_take, List.length_drop]; omega), List.getElem?_eq_none (by omega)]

theorem take_drop_set (m l : List (List Int)) (k : Nat) (x : List Int) (h : m.length = l.length) (hx : m[k]? = some x) : (m.take k ++ l.drop k).set k x = m.take (k + 1) ++ l.drop (k + 1) := by
  obtain ⟨hk, e⟩ := List.getElem?_eq_some_iff.1 hx
  have hl : (m.take k).length = k := by rw [List.length_take]; omega
  rw [List.set_append, if_neg (by omega), hl, Nat.sub_self, List.drop_eq_getElem_cons (by omega), List.set_cons_zero, List.take_succ_eq_append_getElem hk, e, List.append_assoc]
  rfl

theorem markB_col (B j : Nat) (d : Nat → Nat) (s : Sl) (z : List Int) (k0 : Int) (w : World) (h : CB w B d j s z) (hB : B ≤ w.heap.size) (hn : z.length ≤ 1048576) (hk0 : 0 ≤ k0) (hk1 : k0 ≤ 1099511627776) :
    Calls Tryz.prog 55 #[.slice s.a s.n s.c, .int .i64 k0] w fun e w' => e = .returned (.int .i64 (k0 + (z.length : Nat))) ∧ CB w' B d j s (marks k0 z.length) ∧ OnlyD B d (fun c => c = j) w w' := by
  have hl := h.len
  refine (markByteS_own B s.n s.c s.a z k0 w h.own (by omega) hk0 hk1).mono ?_
  rintro e w' ⟨rfl, ho, hg⟩
  rw [hl] at ho
  refine ⟨by rw [hl], ⟨by rw [marks_length]; exact hl, marks_range _ _, by rw [hl]; exact ho, h.col⟩, OnlyD.grown hg hB (fun g e => ⟨(own_lt h.own g e).1, h.col g e⟩)⟩

set_option maxHeartbeats 4000000 in
theorem markSS_col (B r c : Nat) (d : Nat → Nat) (s : Sl) (zss : List (List Int)) (k0 : Int) (w : World) (h : CS w B d r c s zss) (hr : ∀ i, r ≠ c + 3 * i) (hB : B ≤ w.heap.size) (hl : zss.length ≤ 1048576) (hs : bsum zss ≤ 1048576) (hk0 : 0 ≤ k0) (hk1 : k0 ≤ 16777216) :
    Calls Tryz.prog 56 #[.slice s.a s.n s.c, .int .i64 k0] w fun e w' => e = .returned (.int .i64 (k0 + (bsum zss : Nat))) ∧ CS w' B d r c s (mkss k0 zss) ∧ OnlyD B d (fun q => ∃ i, q = c + 3 * i) w w' := by
  have hsn := h.1
  have HSN := hide (bsum_snoc zss)
  have HLE := hide (bsum_le zss)
  have HMA := hide (mkss_at zss k0)
  have HML := hide (mkss_length zss k0)
  have HM := hide h
  have HR := hide hr
  obtain ⟨len, hlen⟩ : ∃ len, len = zss.length := ⟨_, rfl⟩
  have HLEN := hide hlen
  rw [hsn]
  rw [← hlen] at hl hsn ⊢
  clear h hr hlen
  have HSL := hide hsn
  clear hsn
  generalize hsc : s.c = sc
  have HSC := hide hsc
  clear hsc
  generalize hsa : s.a = sa
  have HSA := hide hsa
  clear hsa
  go_enter Tryz.func56, Tryz.ntmps56
  go_wp2_with fail
  go_loopw [1, 5] (fun q i wr => ∃ k : Nat, k ≤ len ∧ i = .int .i64 k ∧ q = .int .i64 (k0 + (bsum (zss.take k) : Nat)) ∧ CS wr B d r c s ((mkss k0 zss).take k ++ zss.drop k) ∧ OnlyD B d (fun q => ∃ i, q = c + 3 * i) w wr) (fun _ i _ => len - (intOf i).toNat)
  case atStart => exact ⟨0, Nat.zero_le _, rfl, by simp [bsum], by simpa using unhide HM, OnlyD.refl _ _ _ _⟩
  case round =>
    obtain ⟨k, hk, rfl, rfl, hm, ho⟩ := hrel
    clear HM
    by_cases hlt : k < len
    · obtain ⟨z, hit⟩ : ∃ z, zss[k]? = some z := ⟨_, List.getElem?_eq_getElem (by rw [← unhide HLEN]; exact hlt)⟩
      have hat := (take_drop_at (mkss k0 zss) zss k (unhide HML)).trans hit
      obtain ⟨g, e, ha, hc, hcb, hst⟩ := hm.at hat ((unhide HR) k)
      have hma := (unhide HMA) k z hit
      have hsn := (unhide HSN) k z hit
      have hle1 := (unhide HLE) (k + 1)
      have hzl : z.length ≤ 1048576 := by omega
      obtain ⟨ks, hks⟩ : ∃ ks, ks = bsum (zss.take k) := ⟨_, rfl⟩
      rw [← hks] at hsn hma ⊢
      have hksl : ks ≤ 1048576 := by omega
      have hBr : B ≤ wr.heap.size := Nat.le_trans hB ho.1.size
      have HC := hide (markB_col B (c + 3 * k) d e z (k0 + ks) wr hcb hBr hzl (by omega) (by omega))
      have HST : Hid (∀ w', CB w' B d (c + 3 * k) e (marks (k0 + ks) z.length) → OnlyD B d (fun q => q = c + 3 * k) wr w' → CS w' B d r c s ((mkss k0 zss).take (k + 1) ++ zss.drop (k + 1)) ∧ OnlyD B d (fun q => ∃ i, q = c + 3 * i) w w') := fun w' hb hw => by
        have := hst w' _ hw hb
        rw [take_drop_set _ _ k _ (unhide HML) hma] at this
        exact ⟨this, ho.trans (hw.mono (fun q e => ⟨k, e⟩))⟩
      have HSN2 : Hid (bsum (zss.take (k + 1)) = ks + z.length) := hsn
      have k1 : (0 : Int) ≤ (k : Int) := by omega
      have k2 : (k : Int) < (len : Int) := by omega
      rw [unhide HSA] at ha
      subst ha
      generalize z.length = zl at HC HST HSN2 hzl
      clear hsn hle1 hit ho hks hm hat hcb hst hma
      go_wp2_with fail
      refine (unhide HC).mono ?_
      rintro e w2 ⟨rfl, b2, g2⟩
      obtain ⟨m2, o2⟩ := (unhide HST) w2 b2 g2
      have HM2 := hide m2
      have HO2 := hide o2
      clear m2 o2 g2 b2
      go_wp2_with fail
      go_roundw
      case rel => exact ⟨k + 1, by omega, by go_num, by rw [unhide HSN2]; congr 1; omega, unhide HM2, unhide HO2⟩
      case measure => simp [intOf]; omega
    · obtain rfl : k = len := by omega
      have et : zss.take k = zss := List.take_of_length_le (by rw [← unhide HLEN]; exact Nat.le_refl _)
      have em : (mkss k0 zss).take k ++ zss.drop k = mkss k0 zss := by rw [List.take_of_length_le (by rw [unhide HML, ← unhide HLEN]; exact Nat.le_refl _), List.drop_eq_nil_of_le (by rw [← unhide HLEN]; exact Nat.le_refl _), List.append_nil]
      rw [et]
      rw [em] at hm
      have HO := hide ho
      have HM := hide hm
      clear hm ho et em
      go_wp2_with fail
      go_ret
      exact ⟨rfl, unhide HM, unhide HO⟩

set_option maxHeartbeats 4000000 in
theorem heldSS_any (a : Option Addr) (len cap : Nat) (zss : List (List Int)) (k0 : Int) (w : World) (h : BsRow w a len (mkss k0 zss)) (hl : zss.length ≤ 1048576) (hs : bsum zss ≤ 1048576) (hk0 : 0 ≤ k0) (hk1 : k0 ≤ 16777216) :
    Calls Tryz.prog 127 #[.slice a len cap, .int .i64 k0] w fun e w' => e = .returned (.int .i64 (k0 + (bsum zss : Nat))) ∧ w' = w := by
  have hlen : zss.length = len := by rw [← mkss_length zss k0]; exact h.1
  have HSN := hide (bsum_snoc zss)
  have HLE := hide (bsum_le zss)
  have HMA := hide (mkss_at zss k0)
  have HLEN := hide hlen
  have HROW := hide h
  rw [hlen] at hl
  clear h hlen
  go_enter Tryz.func127, Tryz.ntmps127
  go_wp2_with fail
  go_loopw [1, 5] (fun q i wr => ∃ k : Nat, k ≤ len ∧ i = .int .i64 k ∧ q = .int .i64 (k0 + (bsum (zss.take k) : Nat)) ∧ wr = w) (fun _ i _ => len - (intOf i).toNat)
  case atStart => exact ⟨0, Nat.zero_le _, rfl, by simp [bsum], rfl⟩
  case round =>
    obtain ⟨k, hk, rfl, rfl, rfl⟩ := hrel
    by_cases hlt : k < len
    · obtain ⟨z, hit⟩ : ∃ z, zss[k]? = some z := ⟨_, List.getElem?_eq_getElem (by rw [unhide HLEN]; exact hlt)⟩
      obtain ⟨b, off, rfl, _, hat⟩ := (unhide HROW).at (by omega)
      obtain ⟨s1, n1, d1, c0, r1⟩ := hat k _ ((unhide HMA) k z hit)
      have hn1 : z.length = n1 := by have := r1.1; rw [marks_length] at this; exact this
      subst hn1
      have hsn := (unhide HSN) k z hit
      have hle1 := (unhide HLE) (k + 1)
      have hzl : z.length ≤ 1048576 := by omega
      obtain ⟨ks, hks⟩ : ∃ ks, ks = bsum (zss.take k) := ⟨_, rfl⟩
      rw [← hks] at hsn r1 ⊢
      have hksl : ks ≤ 1048576 := by omega
      have HC := hide (heldByteS_any z.length d1 s1 (k0 + ks) wr r1 (by omega) (by omega) (by omega))
      have HSN2 : Hid (bsum (zss.take (k + 1)) = ks + z.length) := hsn
      have k1 : (0 : Int) ≤ (k : Int) := by omega
      have k2 : (k : Int) < (len : Int) := by omega
      generalize z.length = zl at c0 HC HSN2 hzl
      have k3 : decide (k0 + (ks : Int) + (zl : Int) < 0) = false := decide_eq_false (by omega)
      clear hsn hle1 hit hks hat r1
      go_wp2_with fail
      refine (unhide HC).mono ?_
      rintro e w2 ⟨rfl, rfl⟩
      go_wp2_with fail
      go_roundw
      case rel => exact ⟨k + 1, by omega, by go_num, by rw [unhide HSN2]; congr 1; omega, by first | exact rfl | trivial⟩
      case measure => simp [intOf]; omega
    · obtain rfl : k = len := by omega
      have et : zss.take k = zss := List.take_of_length_le (by rw [unhide HLEN]; exact Nat.le_refl _)
      rw [et]
      clear et
      go_wp2_with fail
      go_ret
      exact ⟨rfl, rfl⟩

end Go.Proofs.YtioifgbnninmjaaGreatDoor

/- What is proved here: the contracts of the laws' helper functions that write marks into an answer's numbers and look for them later (markInt64S, heldInt64S and those over IntsResult), for slices that the call itself made. -/
namespace Go.Proofs.YtioifgbnninmjaaGreatDoor
open Go.RowKit
set_option linter.unusedVariables false
set_option maxRecDepth 100000

set_option maxHeartbeats 1000000 in
theorem markInt64S_any (B g n cap : Nat) (zs : List Int) (k0 : Int) (w : World) (h : w.ownsRow B 2 1 (.slice (some ⟨g, 0, none⟩) n cap) n (zs.map (Value.int .i64))) (hn : n ≤ 2097152) (hk0 : 0 ≤ k0) (hk1 : k0 ≤ 1099511627776) :
    Calls Tryz.prog 66 #[.slice (some ⟨g, 0, none⟩) n cap, .int .i64 k0] w fun e w' => e = .returned (.int .i64 (k0 + n)) ∧
      w'.ownsRow B 2 1 (.slice (some ⟨g, 0, none⟩) n cap) n ((imarks k0 n).map (Value.int .i64)) ∧ w.grownBy w' (some g) := by
  have hzl : zs.length = n := by simpa using h.1
  go_enter Tryz.func66, Tryz.ntmps66
  go_wp2
  go_loopw [1, 5] (fun q i wr => ∃ k : Nat, k ≤ n ∧ i = .int .i64 k ∧ q = .int .i64 (k0 + k) ∧ wr.ownsRow B 2 1 (.slice (some ⟨g, 0, none⟩) n cap) n ((imarks k0 k ++ zs.drop k).map (Value.int .i64)) ∧ w.grownBy wr (some g))
    (fun _ i _ => n - (intOf i).toNat)
  case atStart => exact ⟨0, Nat.zero_le _, rfl, by simp, by simpa [imarks] using h, grownBy_refl w _⟩
  case round =>
    obtain ⟨k, hk, rfl, rfl, hown, hgr⟩ := hrel
    by_cases hlt : k < n
    · have hfz := hown.frozenAt k
      obtain ⟨u, hu⟩ : ∃ u, wr.cell? ⟨g, k, none⟩ = some u := by
        rw [hown.cellAt k (by omega)]
        exact ⟨_, List.getElem?_eq_getElem (by rw [hown.1]; omega)⟩
      have R := hown.stored k (.int .i64 (k0 + k))
      rw [imark_step k0 zs n k hzl hlt] at R
      have HR := R.1
      have HG := grownBy_trans hgr R.2
      clear R hown
      go_wp2
      go_roundw
      case rel => exact ⟨k + 1, by omega, by go_num, by go_num, HR, HG⟩
      case measure => simp [intOf]; omega
    · obtain rfl : k = n := by omega
      rw [List.drop_eq_nil_of_le (by omega), List.append_nil] at hown
      go_wp2
      go_ret
      exact ⟨rfl, hown, hgr⟩

set_option maxHeartbeats 1000000 in
theorem markInt64S_nil (k0 : Int) (w : World) :
    Calls Tryz.prog 66 #[.slice none 0 0, .int .i64 k0] w fun e w' => e = .returned (.int .i64 k0) ∧ w' = w := by
  go_enter Tryz.func66, Tryz.ntmps66
  go_wp2
  refine wp_loop_rounds 1 ?_
  rw [rounds_succ]
  go_wp2
  go_ret
  exact ⟨rfl, rfl⟩

theorem markInt64S_own (B n cap : Nat) (a : Option Addr) (zs : List Int) (k0 : Int) (w : World) (h : w.ownsRow B 2 1 (.slice a n cap) n (zs.map (Value.int .i64))) (hn : n ≤ 2097152) (hk0 : 0 ≤ k0) (hk1 : k0 ≤ 1099511627776) :
    Calls Tryz.prog 66 #[.slice a n cap, .int .i64 k0] w fun e w' => e = .returned (.int .i64 (k0 + n)) ∧
      w'.ownsRow B 2 1 (.slice a n cap) n ((imarks k0 n).map (Value.int .i64)) ∧ w.grownBy w' (Value.slice a n cap).ownBlock := by
  rcases h.2 with ⟨h', h0⟩ | ⟨g, cap', cur, h', _⟩
  · simp only [Value.slice.injEq] at h'
    obtain ⟨rfl, rfl, rfl⟩ := h'
    refine (markInt64S_nil k0 w).mono fun e w' hq => ?_
    obtain ⟨rfl, rfl⟩ := hq
    exact ⟨by simp, World.ownsRow_nil _ _ _ _, grownBy_refl _ _⟩
  · simp only [Value.slice.injEq] at h'
    obtain ⟨rfl, _, rfl⟩ := h'
    exact markInt64S_any B g n cap zs k0 w h hn hk0 hk1

set_option maxHeartbeats 1000000 in
theorem heldInt64S_any (n cap : Nat) (a : Option Addr) (k0 : Int) (w : World) (h : IRow w a n (imarks k0 n)) (hn : n ≤ 2097152) (hk0 : 0 ≤ k0) (hk1 : k0 ≤ 1099511627776) :
    Calls Tryz.prog 67 #[.slice a n cap, .int .i64 k0] w fun e w' => e = .returned (.int .i64 (k0 + n)) ∧ w' = w := by
  rcases Nat.eq_zero_or_pos n with h0 | hp
  · subst h0
    clear h
    go_enter Tryz.func67, Tryz.ntmps67
    go_wp2
    refine wp_loop_rounds 1 ?_
    rw [rounds_succ]
    go_wp2
    go_ret
    exact ⟨ret_int (by simp), rfl⟩
  · obtain ⟨b, off, rfl, hb, hc⟩ := h.at hp
    have HC := hide hc
    clear h hc
    go_enter Tryz.func67, Tryz.ntmps67
    go_wp2
    go_loop [1, 5] (fun q i => ∃ k : Nat, k ≤ n ∧ i = .int .i64 k ∧ q = .int .i64 (k0 + k)) (fun _ i => n - (intOf i).toNat)
    case atStart => exact ⟨0, Nat.zero_le _, rfl, by simp⟩
    case round =>
      obtain ⟨k, hk, rfl, rfl⟩ := hrel
      by_cases hlt : k < n
      · have hck := (unhide HC) k hlt
        rw [imarks_at k0 n k hlt] at hck
        have hne : ((k0 + (k : Int)) != k0 + (k : Int)) = false := by simp
        go_wp2
        go_round
        case rel => exact ⟨k + 1, by omega, by go_num, by go_num⟩
        case measure => simp [intOf]; omega
      · obtain rfl : k = n := by omega
        go_wp2
        go_ret
        exact ⟨rfl, rfl⟩

set_option maxHeartbeats 1000000 in
theorem markIntsResult_own (B n cap : Nat) (c : Int) (a : Option Addr) (zs : List Int) (k0 : Int) (w : World) (h : w.ownsRow B 2 1 (.slice a n cap) n (zs.map (Value.int .i64))) (hn : n ≤ 2097152) (hk0 : 0 ≤ k0) (hk1 : k0 ≤ 1099511627776) :
    Calls Tryz.prog 31 #[.agg #[.int .i64 c, .slice a n cap], .int .i64 k0] w fun e w' => e = .returned (.int .i64 (k0 + n)) ∧
      w'.ownsRow B 2 1 (.slice a n cap) n ((imarks k0 n).map (Value.int .i64)) ∧ w.grownBy w' (Value.slice a n cap).ownBlock := by
  go_enter Tryz.func31, Tryz.ntmps31
  go_wp2_with fail
  refine (markInt64S_own B n cap a zs k0 _ (h.alloc _) hn hk0 hk1).mono ?_
  rintro e w1 ⟨rfl, o1, g1⟩
  go_wp2_with fail
  go_ret
  exact ⟨rfl, o1, grownBy_trans (World.grownBy_alloc w _ _) g1⟩

set_option maxHeartbeats 1000000 in
theorem heldIntsResult_any (n cap : Nat) (c : Int) (a : Option Addr) (k0 : Int) (w : World) (h : IRow w a n (imarks k0 n)) (hn : n ≤ 2097152) (hk0 : 0 ≤ k0) (hk1 : k0 ≤ 1099511627776) :
    Calls Tryz.prog 32 #[.agg #[.int .i64 c, .slice a n cap], .int .i64 k0] w fun e w' => e = .returned (.int .i64 (k0 + n)) ∧ Below w.heap.size w w' := by
  have hb : ∀ o, Below w.heap.size w (w.alloc o) := fun o => (Below.refl _ _).alloc (Nat.le_refl _) o
  go_enter Tryz.func32, Tryz.ntmps32
  go_wp2_with fail
  refine (heldInt64S_any n cap a k0 _ (h.below (hb _) (Nat.le_refl _)) hn hk0 hk1).mono ?_
  rintro e w1 ⟨rfl, rfl⟩
  go_wp2_with fail
  go_ret
  exact ⟨rfl, hb _⟩

set_option maxHeartbeats 1000000 in
theorem eqInts_same (c : Int) (a b : Option Addr) (n ca cb : Nat) (xs : List Int) (w : World) (ha : IRow w a n xs) (hb : IRow w b n xs) (hn : n ≤ 1048576) :
    Calls Tryz.prog 29 #[.agg #[.int .i64 c, .slice a n ca], .agg #[.int .i64 c, .slice b n cb]] w fun e w' => e = .returned (.bool true) ∧ Below w.heap.size w w' := by
  have h1 : (c != c) = false := by simp
  have sx : sameB xs xs = true := by simp [sameB]
  have hbel : ∀ o p, Below w.heap.size w ((w.alloc o).alloc p) := fun o p => ((Below.refl _ _).alloc (Nat.le_refl _) o).alloc (by simp) p
  go_enter Tryz.func29, Tryz.ntmps29
  go_wp2_with fail
  refine (eqInt64S_any _ _ _ _ _ _ xs xs _ (ha.below (hbel _ _) (Nat.le_refl _)) (hb.below (hbel _ _) (Nat.le_refl _)) hn hn).mono ?_
  rintro e w1 ⟨rfl, n1, rfl⟩
  rw [sx]
  go_wp2_with fail
  go_ret
  exact ⟨rfl, below_drewN (hbel _ _) n1⟩

end Go.Proofs.YtioifgbnninmjaaGreatDoor
